/-
  What the page's Mul answers of rows of 0 and 1.
-/
import Derived.Test.YtecfniimpedlkaaRefSum
namespace Go.Proofs.Ytecfniimpedlkaa
open Go.RowKit

theorem tr_of_top {R : List Int} (hb : Bin R) (h0 : 0 < R.length) (h : 2 ^ (R.length - 1) ≤ val R) : Tr R := by
  refine ⟨hb, ?_⟩
  cases R with
  | nil => simp at h0
  | cons x l =>
    rcases hb.head with rfl | rfl
    · have h1 := val_lt hb.tail
      rw [val_cons] at h
      simp at h
      omega
    · simp

/-- What stands behind k rounds of the page's product. -/
def RefMulled (w3 : World) (g : Nat) (ys ys' : List Int) (n k : Nat) (wr : World) : Prop :=
  (∃ R, Row wr g R ∧ Bin R ∧ R.length = n ∧ val R = cl (val (ys.take k)) (val ys') * 2 ^ (ys.length - k)) ∧ Only g w3 wr

set_option maxRecDepth 100000 in
set_option maxHeartbeats 4000000 in
theorem refMul_any (v v' : Value) (zs zs' : List Int) (hl : zs.length + zs'.length ≤ 32768) (hb : Bin zs) (hb' : Bin zs') (w : World) (hH : Has w v zs) (hH' : Has w v' zs') :
    Calls Try.prog 18 #[v, v'] w fun e W' => ∃ r ys, e = .returned r ∧ Has W' r ys ∧ Tr ys ∧ val ys = cl (val zs) (val zs') ∧ Below w.heap.size w W' := by
  obtain ⟨i0, hi, hz0, hz1, hz2⟩ := info_parts infoI64
  go_enter Try.func18, Try.ntmps18
  go_wp2_with fail
  refine (refTrim_any _ zs (by omega) hb w hH).mono ?_
  rintro e w1 ⟨r, ys, rfl, h1, h4, h5, b1⟩
  have hH1' := hH'.next b1
  clear hH hH'
  go_wp2_with fail
  refine (refTrim_any _ zs' (by omega) hb' w1 hH1').mono ?_
  rintro e w2 ⟨r', ys', rfl, h1', h4', h5', b2⟩
  have h2 := h1.next b2
  have b02 := b1.trans (b2.mono b1.size)
  have hly : ys.length ≤ zs.length := len_trim hb (Nat.le_refl _) ⟨h4, h5⟩
  have hly' : ys'.length ≤ zs'.length := len_trim hb' (Nat.le_refl _) ⟨h4', h5'⟩
  obtain ⟨a1, cap1, rfl⟩ := h2.1.shape
  obtain ⟨a1', cap1', rfl⟩ := h1'.1.shape
  have HV : Hid (val ys = val zs ∧ val ys' = val zs') := ⟨h5, h5'⟩
  have HT : Hid (Tr ys ∧ Tr ys') := ⟨h4, h4'⟩
  clear h1 hH1' b1 b2 h5 h5' h4 h4' hb hb'
  by_cases e0 : ys = []
  · subst e0
    go_wp2
    go_ret
    exact ⟨_, [], rfl, ⟨.inl ⟨⟨_, _, rfl, fun _ => rfl⟩, rfl⟩, _, _, _, rfl, Nat.le_refl _, by omega⟩, Tr.nil, by rw [← HV.out.1, val_nil, cl_zero], b02⟩
  · by_cases e1 : ys' = []
    · subst e1
      have hp : 0 < ys.length := List.length_pos_iff.2 e0
      have hpe : ((ys.length : Int) == 0) = false := by simp; omega
      clear e0
      go_wp2
      go_ret
      exact ⟨_, [], rfl, ⟨.inl ⟨⟨_, _, rfl, fun _ => rfl⟩, rfl⟩, _, _, _, rfl, Nat.le_refl _, by omega⟩, Tr.nil, by rw [← HV.out.2, val_nil, cl_zero_right], b02⟩
    · have hp : 0 < ys.length := List.length_pos_iff.2 e0
      have hp' : 0 < ys'.length := List.length_pos_iff.2 e1
      have HE : Hid (ys ≠ [] ∧ ys' ≠ []) := ⟨e0, e1⟩
      have hpe : ((ys.length : Int) == 0) = false := by simp; omega
      have hpe' : ((ys'.length : Int) == 0) = false := by simp; omega
      obtain ⟨n, hn⟩ : ∃ n, n = ys.length + ys'.length - 1 := ⟨_, rfl⟩
      have HN : Hid (n = ys.length + ys'.length - 1) := hn
      have hn1 : n ≤ 32768 := by omega
      have hli : (ys.length : Int) + (ys'.length : Int) - 1 = (n : Int) := by omega
      have hla : ys.length ≤ 32768 := by omega
      have hlb : ys'.length ≤ 32768 := by omega
      have hlab : ys.length ≤ n := by omega
      have hsz := b02.size
      clear hn e0 e1
      go_wp2_with (at_make; refine wpList_make_full _ rfl _ _ 22 rfl w2.heap.size 3 i0 (.int .i64 0) 1 Try.underlying22 hi hz0 hz1 .i64 .i64 _ _ n rfl rfl rfl rfl (by rw [hz2]; omega) (by unfold maxLen; omega) (Nat.le_refl _) ?_; intro w3 hown hgrow)
      have b23 : Below w2.heap.size w2 w3 := (Below.refl _ w2).grown hgrow (Nat.le_refl _) (fun k e => by cases e)
      have hrow := row_made hown
      have g2 := h2.1.below b23
      have g2' := h1'.1.below b23
      have b3 := b02.trans (b23.mono hsz)
      have HS : Hid (RefMulled w3 w2.heap.size ys ys' n 0 w3) := ⟨⟨_, hrow, Bin.noughts n, by rw [List.length_replicate], by rw [val_noughts, List.take_zero, val_nil, cl_zero, Nat.zero_mul]⟩, Only.refl _ _⟩
      have HG : Hid (Holds .i64 w2.heap.size w3 (.slice a1 ys.length cap1) ys ∧ Holds .i64 w2.heap.size w3 (.slice a1' ys'.length cap1') ys') := ⟨g2, g2'⟩
      clear hown hgrow hrow h2 h1' b23 b02 g2 g2'
      go_wp2
      go_loopw [6] (fun i wr => ∃ k : Nat, k ≤ ys.length ∧ i = .int .i64 k ∧ Hid (RefMulled w3 w2.heap.size ys ys' n k wr)) (fun i _ => ys.length - (intOf i).toNat)
      case atStart => exact ⟨0, Nat.zero_le _, rfl, HS⟩
      case round =>
        clear HS
        obtain ⟨k, hk, rfl, HM⟩ := hrel
        by_cases hlt : k < ys.length
        · obtain ⟨x, hxk⟩ : ∃ x, ys[k]? = some x := ⟨ys[k], by simp⟩
          have h01 := HT.out.1.1.get hxk
          rcases HG.out.1 with ⟨_, e⟩ | ⟨bb, off, cc, e, hbb, hcc⟩
          · rw [e] at hlt; exact absurd hlt (by simp)
          · cases e
            rcases HG.out.2 with ⟨_, e'⟩ | ⟨bb', off', cc', e', hbb', hcc'⟩
            · rw [e'] at hp'; exact absurd hp' (by simp)
            · cases e'
              obtain ⟨⟨R, r1, r2, r3, r4⟩, hO⟩ := HM.out
              have HX : Hid (ys[k]? = some x) := hxk
              have HR : Hid (Bin R ∧ R.length = n ∧ val R = cl (val (ys.take k)) (val ys') * 2 ^ (ys.length - k)) := ⟨r2, r3, r4⟩
              have hxc : w3.cell? ⟨bb, off + k, none⟩ = some (.int .i64 x) := (hcc k hlt).trans (by rw [hxk]; rfl)
              have HC : Hid (∀ j, j < ys'.length → w3.cell? ⟨bb', off' + j, none⟩ = some (.int .i64 (ys'[j]?.getD 0))) := hcc'
              clear hcc hxk r2 r3 r4 HM hcc'
              by_cases hx1 : x = 1
              · subst hx1
                clear h01
                go_wp2
                go_loopw [7] (fun i wq => ∃ j : Nat, j ≤ ys'.length ∧ i = .int .i64 j ∧ (∃ S, Row wq w2.heap.size S ∧ Hid (Added R ys' k j S)) ∧ Only w2.heap.size w3 wq) (fun i _ => ys'.length - (intOf i).toNat)
                case atStart => exact ⟨0, Nat.zero_le _, rfl, ⟨R, r1, Added.start HR.out.1 k⟩, hO⟩
                case round =>
                  clear r1 hO
                  obtain ⟨j, hj, rfl, ⟨S, hS, HA⟩, hO⟩ := hrel
                  have c0 : wr.cell? ⟨bb, off + k, none⟩ = some (.int .i64 1) := (hO.1.cell (p := ⟨bb, off + k, none⟩) hbb).trans hxc
                  by_cases hjl : j < ys'.length
                  · have hN := HN.out
                    obtain ⟨y, hy⟩ : ∃ y, ys'[j]? = some y := ⟨ys'[j], by simp⟩
                    obtain ⟨z, hz⟩ : ∃ z, R[k + j]? = some z := ⟨R[k + j]'(by rw [HR.out.2.1]; omega), by simp⟩
                    have hm := mod_xor_bin (HR.out.1.get hz) (HT.out.2.1.get hy)
                    obtain ⟨hSz, hA2⟩ := HA.out.stepz hz HT.out.2.1 hy hm.1 hm.2
                    have c1 : wr.cell? ⟨w2.heap.size, k + j, none⟩ = some (.int .i64 z) := hS.cell _ hSz
                    have c2 : wr.cell? ⟨bb', off' + j, none⟩ = some (.int .i64 y) := (hO.1.cell (p := ⟨bb', off' + j, none⟩) hbb').trans ((HC.out j hjl).trans (by rw [hy]; rfl))
                    have f1 := hS.frozen (k + j)
                    have hz0' : 0 ≤ z := by rcases HR.out.1.get hz with h | h <;> omega
                    have hz1' : z ≤ 1 := by rcases HR.out.1.get hz with h | h <;> omega
                    have hy0' : 0 ≤ y := by rcases HT.out.2.1.get hy with h | h <;> omega
                    have hy1' : y ≤ 1 := by rcases HT.out.2.1.get hy with h | h <;> omega
                    obtain ⟨u, hu⟩ : ∃ u, (z + y).tmod 2 = u := ⟨_, rfl⟩
                    rw [hu] at hA2
                    have HA' : Hid (Added R ys' k (j + 1) (S.set (k + j) u)) := hA2
                    have HR' : Hid (Row (wr.setCell ⟨w2.heap.size, k + j, none⟩ (.int .i64 u)) w2.heap.size (S.set (k + j) u) ∧ Only w2.heap.size w3 (wr.setCell ⟨w2.heap.size, k + j, none⟩ (.int .i64 u))) := ⟨hS.set _ _, hO.set _ _⟩
                    have hkj : k + j < n := by omega
                    clear hm hA2 hSz hy hz hS hO HA hN hxc
                    go_wp2
                    go_region
                    go_wp2
                    go_roundw
                    case rel => exact ⟨j + 1, by omega, by go_num, ⟨_, HR'.out.1, HA'⟩, HR'.out.2.drewN 1⟩
                    case measure => simp [intOf]; omega
                  · obtain rfl : j = ys'.length := by omega
                    have hA := HA.out
                    have hN := HN.out
                    have HM' : Hid (RefMulled w3 w2.heap.size ys ys' n (k + 1) wr) := by
                      refine ⟨⟨S, hS, hA.1, hA.2.1.trans HR.out.2.1, ?_⟩, hO⟩
                      have h3 := hA.2.2.1
                      rw [List.take_length, HR.out.2.1, show n - k - ys'.length = ys.length - (k + 1) by omega] at h3
                      rw [h3, HR.out.2.2, mul_step HX.out (.inr rfl) rfl]; simp
                    clear hA hN hS hO HA hxc
                    go_wp2
                    go_roundw
                    case rel => exact ⟨k + 1, by omega, by go_num, HM'⟩
                    case measure => simp [intOf]; omega
              · obtain rfl : x = 0 := h01.resolve_right hx1
                clear h01 hx1
                have c0 : wr.cell? ⟨bb, off + k, none⟩ = some (.int .i64 0) := (hO.1.cell (p := ⟨bb, off + k, none⟩) hbb).trans hxc
                have HM' : Hid (RefMulled w3 w2.heap.size ys ys' n (k + 1) wr) := ⟨⟨R, r1, HR.out.1, HR.out.2.1, by rw [HR.out.2.2, mul_step HX.out (.inl rfl) rfl]; simp⟩, hO⟩
                clear r1 hO hxc
                go_wp2
                go_loop [7] (fun i => i = .int .i64 0) (fun _ => 0)
                case atStart => rfl
                case round =>
                  obtain rfl := hrel
                  go_wp2
                  go_roundw
                  case rel => exact ⟨k + 1, by omega, by go_num, HM'⟩
                  case measure => simp [intOf]; omega
        · obtain rfl : k = ys.length := by omega
          obtain ⟨⟨R, r1, r2, r3, r4⟩, hO⟩ := HM.out
          rw [List.take_length, Nat.sub_self, Nat.pow_zero, Nat.mul_one] at r4
          have b4 := b3.trans (hO.1.mono hsz)
          have hN := HN.out
          have h7 := r1.has (by omega)
          rw [r3] at h7
          have htop : 2 ^ (n - 1) ≤ val R := by
            rw [r4, show n - 1 = (ys.length - 1) + (ys'.length - 1) by omega]
            obtain ⟨t1, _⟩ := HT.out.1.top HE.out.1
            obtain ⟨t2, t3⟩ := HT.out.2.top HE.out.2
            exact cl_top t2 t3 _ _ t1
          have hTr : Tr R := tr_of_top r2 (by rw [r3]; omega) (by rw [r3]; exact htop)
          have HF : Hid (Tr R ∧ val R = cl (val zs) (val zs')) := ⟨hTr, by rw [r4, HV.out.1, HV.out.2]⟩
          clear hTr htop r1 r2 r3 r4 hO HM hN b3 hlt
          go_wp2
          go_ret
          exact ⟨_, R, rfl, h7, HF.out.1, HF.out.2, b4⟩

end Go.Proofs.Ytecfniimpedlkaa
