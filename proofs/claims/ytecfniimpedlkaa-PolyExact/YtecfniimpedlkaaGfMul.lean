/-
  What gf2.Mul answers of rows that are not too long, also together.
-/
import Derived.Test.YtecfniimpedlkaaGfSum
import Derived.Laws.OwnMore
namespace Go.Proofs.Ytecfniimpedlkaa
open Go.RowKit

theorem row_made {w : World} {g n : Nat} (h : w.ownsRow g 3 1 (.slice (some ⟨g, 0, none⟩) n n) n (madeCells (Value.int .i64 0).cells (n * 1)).toList) : Row w g (List.replicate n 0) := by
  rw [show (Value.int IntKind.i64 0).cells = #[.int .i64 0] from rfl, toList_madeCells_one, Nat.mul_one] at h
  rcases h.2 with ⟨e, _⟩ | ⟨g', c, cur, e, _, hg, _, _, hs, ht⟩
  · cases e
  · cases e
    unfold Row
    rw [hg]
    congr 2
    have hc : cur.toList = List.replicate n (.int .i64 0) := by
      rw [← ht, List.take_of_length_le]
      simp [hs]
    rw [List.map_replicate, ← hc]

theorem bins_noughts (n : Nat) : Bin (List.replicate n 0) := Bin.noughts n

/-- One round of the product. -/
theorem mul_step {ys : List Int} {k n : Nat} {x : Int} (hx : ys[k]? = some x) (h01 : x = 0 ∨ x = 1) (hn : n = ys.length) (m : Nat) :
    cl (val (ys.take (k + 1))) m * 2 ^ (n - (k + 1)) = cl (val (ys.take k)) m * 2 ^ (n - k) ^^^ x.toNat * m * 2 ^ (n - (k + 1)) := by
  have hk : k < n := hn ▸ (List.getElem?_eq_some_iff.1 hx).1
  rw [List.take_add_one, hx, Option.toList_some, val_snoc, cl_push _ _ _ (by rcases h01 with rfl | rfl <;> decide), mul_pow_xor]
  congr 1
  obtain ⟨s, hs⟩ : ∃ s, n - k = s + 1 := ⟨n - k - 1, by omega⟩
  rw [hs, show n - (k + 1) = s by omega, Nat.pow_succ, Nat.mul_comm 2, Nat.mul_assoc, Nat.mul_comm 2]

set_option maxRecDepth 100000 in
set_option maxHeartbeats 2000000 in
theorem mul_arg (v v' : Value) (zs zs' : List Int) (hl : zs.length ≤ 32768) (hl' : zs'.length ≤ 32768) (hb : ¬ (Bin zs ∧ Bin zs')) (w : World) (hH : Has w v zs) (hH' : Has w v' zs') :
    Calls Try.prog 14 #[v, v'] w fun e W' => e = .returned (.tuple #[.slice none 0 0, .int .i64 1]) ∧ Below w.heap.size w W' := by
  obtain ⟨a, cap, rfl⟩ := hH.1.shape
  obtain ⟨a', cap', rfl⟩ := hH'.1.shape
  have HR := rowsAt_two hH hH' hl hl'
  have b0 : Below w.heap.size w (w.alloc (.cells #[.slice a zs.length cap, .slice a' zs'.length cap'] 22)) := (Below.refl _ w).alloc (Nat.le_refl _) _
  clear hH hH'
  go_enter Try.func14, Try.ntmps14
  go_wp2_with fail
  refine (check_any w.heap.size w.heap.size 2 [_, _] [zs, zs'] rfl (by omega) _ HR).mono ?_
  rintro e w' ⟨⟨r, rfl, hr⟩, q, rfl⟩
  have b1 := below_drewN b0 q
  obtain rfl : r = 1 := by
    rcases hr with ⟨_, h⟩ | ⟨h, _⟩
    · exact absurd ⟨h zs (by simp), h zs' (by simp)⟩ hb
    · exact h
  clear HR hr b0
  go_wp2
  go_ret2
  exact ⟨rfl, b1⟩

/-- What stands behind k rounds. -/
def Mulled (w1 : World) (g : Nat) (ys ys' : List Int) (k : Nat) (wr : World) : Prop :=
  (∃ R, Row wr g R ∧ Bin R ∧ R.length = ys.length + ys'.length ∧ val R = cl (val (ys.take k)) (val ys') * 2 ^ (ys.length - k)) ∧ Only g w1 wr

set_option maxRecDepth 100000 in
set_option maxHeartbeats 4000000 in
theorem mul_ok (v v' : Value) (zs zs' : List Int) (hl : zs.length + zs'.length ≤ 32768) (hb : Bin zs) (hb' : Bin zs') (w : World) (hH : Has w v zs) (hH' : Has w v' zs') :
    Calls Try.prog 14 #[v, v'] w fun e W' => ∃ r ys, e = .returned (.tuple #[r, .int .i64 0]) ∧ Has W' r ys ∧ Tr ys ∧ val ys = cl (val zs) (val zs') ∧ Below w.heap.size w W' := by
  obtain ⟨i0, hi, hz0, hz1, hz2⟩ := info_parts infoI64
  obtain ⟨a, cap, rfl⟩ := hH.1.shape
  obtain ⟨a', cap', rfl⟩ := hH'.1.shape
  have HR := rowsAt_two hH hH' (by omega) (by omega)
  have b0 : Below w.heap.size w (w.alloc (.cells #[.slice a zs.length cap, .slice a' zs'.length cap'] 22)) := (Below.refl _ w).alloc (Nat.le_refl _) _
  go_enter Try.func14, Try.ntmps14
  go_wp2_with fail
  refine (check_any w.heap.size w.heap.size 2 [_, _] [zs, zs'] rfl (by omega) _ HR).mono ?_
  rintro e w' ⟨⟨r, rfl, hr⟩, q, rfl⟩
  have b1 := below_drewN b0 q
  obtain rfl : r = 0 := by
    rcases hr with ⟨h, _⟩ | ⟨_, h⟩
    · exact h
    · exact absurd (bins_two hb hb') h
  have h1 := hH.next b1
  have h1' := hH'.next b1
  obtain ⟨w1, hw1⟩ : ∃ w1, (w.alloc (.cells #[.slice a zs.length cap, .slice a' zs'.length cap'] 22)).drewN q = w1 := ⟨_, rfl⟩
  rw [hw1] at b1 h1 h1' ⊢
  clear HR hr b0 hH hH' hw1
  go_wp2_with fail
  refine (trimmed_bin _ zs _ (by omega) w1 h1.1 h1.2 hb).mono ?_
  rintro e w' ⟨⟨r, ys, rfl, h2, h3, h4, h5, h6⟩, q2, rfl⟩
  go_wp2_with fail
  refine (trimmed_bin _ zs' _ (by omega) (w1.drewN q2) h1'.1 h1'.2 hb').mono ?_
  rintro e w' ⟨⟨r', ys', rfl, h2', h3', h4', h5', h6'⟩, q3, rfl⟩
  have g1 : Has ((w1.drewN q2).drewN q3) r ys := ⟨h2, h3⟩
  have g1' : Has ((w1.drewN q2).drewN q3) r' ys' := ⟨h2', h3'⟩
  have b2 := below_drewN (below_drewN b1 q2) q3
  obtain ⟨w2, hw2⟩ : ∃ w2, (w1.drewN q2).drewN q3 = w2 := ⟨_, rfl⟩
  rw [hw2] at b2 g1 g1' ⊢
  clear h1 h1' h2 h3 h2' h3' b1 hw2
  have HV : Hid (val ys = val zs ∧ val ys' = val zs') := ⟨h5, h5'⟩
  obtain ⟨a1, cap1, rfl⟩ := g1.1.shape
  obtain ⟨a1', cap1', rfl⟩ := g1'.1.shape
  have hll : ys.length + ys'.length ≤ 32768 := by omega
  have hli : ((ys.length : Int) + (ys'.length : Int)) = ((ys.length + ys'.length : Nat) : Int) := by omega
  have HL : Hid (ys.length ≤ zs.length ∧ ys'.length ≤ zs'.length) := ⟨h6, h6'⟩
  have HT : Hid (Tr ys ∧ Tr ys') := ⟨h4, h4'⟩
  clear h4 h4' h5 h5' h6 h6' hb hb' hl
  obtain ⟨n, hn⟩ : ∃ n, n = ys.length + ys'.length := ⟨_, rfl⟩
  have HN : Hid (n = ys.length + ys'.length) := hn
  have hn1 : n ≤ 32768 := by omega
  rw [← hn] at hli
  have hsz := b2.size
  clear hn hll
  go_wp2_with (at_make; refine wpList_make_full _ rfl _ _ 22 rfl w2.heap.size 3 i0 (.int .i64 0) 1 Try.underlying22 hi hz0 hz1 .i64 .i64 _ _ n rfl rfl rfl rfl (by rw [hz2]; omega) (by unfold maxLen; omega) (Nat.le_refl _) ?_; intro w3 hown hgrow)
  have b23 : Below w2.heap.size w2 w3 := (Below.refl _ w2).grown hgrow (Nat.le_refl _) (fun k e => by cases e)
  have hrow := row_made hown
  have g2 := g1.1.below b23
  have g2' := g1'.1.below b23
  have b3 := b2.trans (b23.mono b2.size)
  have HS : Hid (Mulled w3 w2.heap.size ys ys' 0 w3) := ⟨⟨_, hrow, Bin.noughts n, by rw [List.length_replicate]; exact HN.out, by rw [val_noughts, List.take_zero, val_nil, cl_zero, Nat.zero_mul]⟩, Only.refl _ _⟩
  have hla : ys.length ≤ 32768 := by have := HN.out; omega
  clear hown hgrow hrow g1 g1' b23 b2
  go_wp2
  go_loopw [35] (fun i wr => ∃ k : Nat, k ≤ ys.length ∧ i = .int .i64 k ∧ Hid (Mulled w3 w2.heap.size ys ys' k wr)) (fun i _ => ys.length - (intOf i).toNat)
  case atStart => exact ⟨0, Nat.zero_le _, rfl, HS⟩
  case round =>
    obtain ⟨k, hk, rfl, HM⟩ := hrel
    by_cases hlt : k < ys.length
    · obtain ⟨x, hxk⟩ : ∃ x, ys[k]? = some x := ⟨ys[k], by simp⟩
      have h01 := HT.out.1.1.get hxk
      rcases g2 with ⟨_, e⟩ | ⟨bb, off, cc, e, hbb, hcc⟩
      · rw [e] at hxk; simp at hxk
      · cases e
        have c1 : wr.cell? ⟨bb, off + k, none⟩ = some (.int .i64 x) := (HM.out.2.1.cell (p := ⟨bb, off + k, none⟩) hbb).trans ((hcc k hlt).trans (by rw [hxk]; rfl))
        have HX : Hid (ys[k]? = some x) := hxk
        clear hcc hxk
        by_cases hx1 : x = 1
        · subst hx1
          have HG : Hid (Holds .i64 w2.heap.size w3 (.slice a1' ys'.length cap1') ys') := g2'
          have hkn : k + 1 ≤ n := by have := HN.out; omega
          clear h01 g2'
          by_cases hE : n = k + 1
          · have HE : Hid (ys' = []) := List.length_eq_zero_iff.1 (by have := HN.out; omega)
            have HE2 : Hid (n = k + 1) := hE
            have hE3 : (n = k + 1) = True := eq_true hE
            clear hE
            go_wp2_with fail
            obtain ⟨⟨R, r1, r2, r3, r4⟩, hO⟩ := HM.out
            refine (addTo_any w2.heap.size (k + 1) w2.heap.size _ _ R ys' r2 HT.out.2.1 (by have := HE2.out; omega) (by have := HN.out; omega) (Nat.le_refl _) wr r1 (fun h => absurd HE.out h) (HG.out.below hO.1)).mono ?_
            rintro e w5 ⟨rfl, ⟨R', s1, s2, s3, s4⟩, hO'⟩
            rw [show R.length - (k + 1) - ys'.length = ys.length - (k + 1) by omega, r4] at s4
            have HM' : Hid (Mulled w3 w2.heap.size ys ys' (k + 1) w5) := ⟨⟨R', s1, s2, s3.trans r3, by rw [s4, mul_step HX.out (.inr rfl) rfl]; simp⟩, hO.trans hO'⟩
            clear r1 r2 r3 r4 hO s1 s2 s3 s4 hO'
            go_wp2
            go_roundw
            case rel => exact ⟨k + 1, by omega, by go_num, HM'⟩
            case measure => simp [intOf]; omega
          · go_wp2_with fail
            obtain ⟨⟨R, r1, r2, r3, r4⟩, hO⟩ := HM.out
            refine (addTo_any w2.heap.size (k + 1) w2.heap.size _ _ R ys' r2 HT.out.2.1 (by omega) (by have := HN.out; omega) (Nat.le_refl _) wr r1 (fun _ => ⟨_, by rw [show R.length = n from r3.trans HN.out.symm]⟩) (HG.out.below hO.1)).mono ?_
            rintro e w5 ⟨rfl, ⟨R', s1, s2, s3, s4⟩, hO'⟩
            rw [show R.length - (k + 1) - ys'.length = ys.length - (k + 1) by omega, r4] at s4
            have HM' : Hid (Mulled w3 w2.heap.size ys ys' (k + 1) w5) := ⟨⟨R', s1, s2, s3.trans r3, by rw [s4, mul_step HX.out (.inr rfl) rfl]; simp⟩, hO.trans hO'⟩
            clear r1 r2 r3 r4 hO s1 s2 s3 s4 hO'
            go_wp2
            go_roundw
            case rel => exact ⟨k + 1, by omega, by go_num, HM'⟩
            case measure => simp [intOf]; omega
        · obtain rfl : x = 0 := h01.resolve_right hx1
          clear h01 hx1
          go_wp2
          go_roundw
          case rel =>
            refine ⟨k + 1, by omega, by go_num, ?_⟩
            obtain ⟨⟨R, r1, r2, r3, r4⟩, hO⟩ := HM.out
            exact ⟨⟨R, r1, r2, r3, by rw [r4, mul_step HX.out (.inl rfl) rfl]; simp⟩, hO⟩
          case measure => simp [intOf]; omega
    · obtain rfl : k = ys.length := by omega
      obtain ⟨⟨R, r1, r2, r3, r4⟩, hO⟩ := HM.out
      rw [List.take_length, Nat.sub_self, Nat.pow_zero, Nat.mul_one] at r4
      have b4 := b3.trans (hO.1.mono hsz)
      have e0 : R.length = n := r3.trans HN.out.symm
      have h7 := r1.has (by omega)
      rw [e0] at h7
      clear hlt hO HS g2 g2'
      go_wp2_with fail
      refine (trimmed_bin _ R _ (by omega) wr h7.1 h7.2 r2).mono ?_
      rintro e w' ⟨⟨r, us, rfl, s1, s2, s3, s4, s5⟩, q, rfl⟩
      go_wp2_with fail
      refine (own_any r us _ (by omega) _ s1 (Nat.le_refl _)).mono ?_
      rintro e w4 ⟨rfl, hrow, b5⟩
      have b6 : Below w.heap.size w w4 := (below_drewN b4 q).trans (b5.mono b4.size)
      clear h7 s1 s2 b5 b4
      go_wp2
      go_ret2
      exact ⟨_, us, rfl, hrow.has (by omega), s3, by rw [s4, r4, HV.out.1, HV.out.2], b6⟩

end Go.Proofs.Ytecfniimpedlkaa
