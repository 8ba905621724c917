/-
  CodeBack: the walk: whatever the block, the law answers true, and nothing that lay has turned.
-/
import Derived.Test.YtehnplodfpljkaaDoorCodeWakes
import Derived.Test.YtehnplodfpljkaaDoorKeepBytes
import Derived.Test.YtehnplodfpljkaaDoorTogether
namespace Go.Proofs.YtehnplodfpljkaaDoor
open Go.RowKit

set_option maxRecDepth 100000 in
set_option maxHeartbeats 2000000 in
theorem codeBack_few (a : Option Addr) (n cap : Nat) (w : World) (h : n < 1) :
    Calls Tryd.prog 6 #[.slice a n cap] w fun e w' => e = .returned (.bool true) ∧ Below w.heap.size w w' := by
  have d0 : decide ((n : Int) < 1) = true := decide_eq_true (by omega)
  go_enter Tryd.func6, Tryd.ntmps6
  go_wp2
  go_ret
  exact ⟨rfl, Below.refl _ _⟩

set_option maxRecDepth 100000 in
set_option maxHeartbeats 2000000 in
theorem codeBack_many (a : Option Addr) (n cap : Nat) (w : World) (h : 32 < n) :
    Calls Tryd.prog 6 #[.slice a n cap] w fun e w' => e = .returned (.bool true) ∧ Below w.heap.size w w' := by
  have d0 : decide ((n : Int) < 1) = false := decide_eq_false (by omega)
  have d1 : decide (32 < (n : Int)) = true := decide_eq_true (by omega)
  go_enter Tryd.func6, Tryd.ntmps6
  go_wp2
  go_ret
  exact ⟨rfl, Below.refl _ _⟩

set_option maxRecDepth 100000 in
set_option maxHeartbeats 4000000 in
theorem codeBack_in (a : Option Addr) (cap : Nat) (zs : List Int) (bz : ∀ z ∈ zs, 0 ≤ z ∧ z ≤ 255) (h1 : 1 ≤ zs.length) (h : zs.length ≤ 32) (w : World) (hF : Firsts w) (ha : Holds .u8 w.heap.size w (.slice a zs.length cap) zs) :
    Calls Tryd.prog 6 #[.slice a zs.length cap] w fun e w' => e = .returned (.bool true) ∧ Below w.heap.size w w' := by
  have d0 : decide ((zs.length : Int) < 1) = false := decide_eq_false (by omega)
  have d1 : decide (32 < (zs.length : Int)) = false := decide_eq_false (by omega)
  obtain ⟨i0, hi, hz0, hz1, hz2⟩ := info_parts infoInt
  have HB : Hid (∀ z ∈ zs, 0 ≤ z ∧ z ≤ 255) := bz
  clear bz
  obtain ⟨n, hne⟩ : ∃ n, 2 * zs.length = n := ⟨_, rfl⟩
  have HN : Hid (2 * zs.length = n) := hne
  have en : 2 * (zs.length : Int) = (n : Int) := by omega
  have n1 : 1 ≤ n := by omega
  have n65 : n < 65 := by omega
  have HT4 : Hid (0 + 4 * n ≤ 32 * zs.length) := by
    show 0 + 4 * n ≤ 32 * zs.length
    omega
  have e4 : 4 * (n : Int) = ((4 * n : Nat) : Int) := by omega
  obtain ⟨Q, hQ⟩ : ∃ Q, 4 * n = Q := ⟨_, rfl⟩
  rw [hQ] at HT4 e4
  have hQ1 : Q ≤ 1024 := by omega
  have HQ : Hid (4 * n = Q) := hQ
  have q5 : ((Q : Int) != (Q : Int)) = false := by simp
  clear hQ hne
  go_enter Tryd.func6, Tryd.ntmps6
  go_wp2_with fail
  refine (Encode_ok a zs.length cap zs rfl h1 h HB.out 0 Q HT4.out _ hF ha).mono ?_
  rintro e w1 ⟨r1, rfl, ⟨hr1, ar1, cr1, rfl, _⟩, b1⟩
  have HL1 : Hid ((codeL zs 0 Q).length = Q) := codeL_len _ _ _
  have HX : ∃ b off, ar1 = some ⟨b, off, none⟩ ∧ b < w1.heap.size ∧ Hid (∀ p, p < Q → w1.cell? ⟨b, off + p, none⟩ = some (.int .u8 ((codeN zs p : Nat) : Int))) := by
    rcases hr1 with ⟨_, e⟩ | ⟨b, off, c', e, hbl, hcell⟩
    · have hx := HL1.out; have := HQ.out; rw [e] at hx; simp at hx; omega
    · cases e
      refine ⟨b, off, rfl, hbl, fun p hp => (hcell p (by rw [HL1.out]; exact hp)).trans ?_⟩
      rw [codeL_get hp, Nat.zero_add]
      rfl
  obtain ⟨bx, offx, rfl, hbx, HXC⟩ := HX
  rw [HL1.out]
  have ha1 := ha.next b1
  have hF1 := hF.next b1
  clear ha hr1
  go_wp2_with fail
  refine (Begin_any w1).mono ?_
  rintro e w2 ⟨rfl, rfl⟩
  go_wp2
  go_loopw [6, 7, 8] (fun s v i wr => ∃ k : Nat, k ≤ n ∧ i = .int .i64 k ∧ s = .int .u32 ((lastOf beginN ((nibs zs).take k) : Nat) : Int) ∧ wr.ownsRow w1.heap.size 3 1 v k (((nibs zs).take k).map (Value.int .i64)) ∧ Below w1.heap.size w1 wr) (fun _ _ i _ => n - (intOf i).toNat)
  case atStart => exact ⟨0, Nat.zero_le _, rfl, rfl, World.ownsRow_nil _ _ _ _, Below.refl _ _⟩
  case round =>
    obtain ⟨k, hk, rfl, rfl, ho, hbw⟩ := hrel
    obtain ⟨V, hV⟩ : ∃ V, V = wr := ⟨_, rfl⟩
    subst hV
    by_cases hlt : k < n
    · have hk2 : k < 2 * zs.length := by have := HN.out; omega
      obtain ⟨nb, hnb, hnb16⟩ := nibs_get hk2
      have hst := stN_step hnb
      have hs := lastOf_lt (s := beginN) ((nibs zs).take k) begin_lt
      have HTK : Hid ((nibs zs).take (k + 1) = (nibs zs).take k ++ [(nb : Int)]) := take_snoc hnb
      have HLS : Hid (lastOf beginN ((nibs zs).take (k + 1)) = stN zs k) := rfl
      have HNB : Hid (nibN (lastOf beginN ((nibs zs).take k)) (stN zs k) = (nb, true)) := nib_some hs hnb16 hst.symm
      have HPL : Hid (∀ j, j < 4 → codeN zs (j * n + posN n k) = symN (stN zs k) j) := by
        intro j _
        have := codeN_place (zs := zs) (s := k) (i := j) (by rw [HN.out]; exact n65) hk2
        rwa [HN.out] at this
      have hpl := posN_lt n65 hlt
      have htl := stN_lt zs k
      have HSP : Hid (spellN (fourOf (stN zs k) 4) = stN zs k) := spell_four htl
      have dk : decide ((k : Int) < (n : Int)) = true := decide_eq_true (by omega)
      obtain ⟨s, hse⟩ : ∃ s, lastOf beginN ((nibs zs).take k) = s := ⟨_, rfl⟩
      rw [hse] at hs HNB ⊢
      obtain ⟨t, hte⟩ : ∃ t, stN zs k = t := ⟨_, rfl⟩
      rw [hte] at HLS HNB HPL HSP htl
      clear hst hse hte hnb hk2
      go_wp2
      go_loopw [9, 10] (fun v i wq => ∃ j : Nat, j ≤ 4 ∧ i = .int .i64 j ∧ wq.ownsRow V.heap.size 3 1 v j ((fourOf t j).map (Value.int .i64)) ∧ Below V.heap.size V wq) (fun _ i _ => 4 - (intOf i).toNat)
      case atStart => exact ⟨0, by omega, rfl, World.ownsRow_nil _ _ _ _, Below.refl _ _⟩
      case round =>
        obtain ⟨j, hj, rfl, ho4, hb4⟩ := hrel
        by_cases hj4 : j < 4
        · have hP : j * n + posN n k < Q := by
            have := HQ.out
            have : j * n ≤ 3 * n := Nat.mul_le_mul_right _ (by omega)
            omega
          have HPJ := HPL.out j hj4
          have hcx := HXC.out _ hP
          rw [HPJ] at hcx
          have hvl := symN_lt t j
          have HF4 : Hid (fourOf t (j + 1) = fourOf t j ++ [((symN t j : Nat) : Int)]) := fourOf_next t j
          have HPV : Hid (j * n + posN n k = j * n + posN n k) := rfl
          go_wp2_with fail
          refine (Place_ok n k j n1 n65 hlt (by omega) wr ((hF1.next hbw).next hb4)).mono ?_
          rintro e w3 ⟨rfl, b3⟩
          have hbV := hb4.size
          have hbv := hbw.size
          have c3 : w3.cell? ⟨bx, offx + (j * n + posN n k), none⟩ = some (.int .u8 ((symN t j : Nat) : Int)) :=
            (b3.cell (p := ⟨bx, offx + (j * n + posN n k), none⟩) (by show bx < wr.heap.size; omega)).trans ((hb4.cell (p := ⟨bx, offx + (j * n + posN n k), none⟩) (by show bx < V.heap.size; omega)).trans ((hbw.cell (p := ⟨bx, offx + (j * n + posN n k), none⟩) hbx).trans hcx))
          have ho5 : w3.ownsRow V.heap.size 3 1 u9 j ((fourOf t j).map (Value.int .i64)) := row_below ho4 b3 (Nat.le_refl _)
          have bV3 := hb4.trans (b3.mono hb4.size)
          obtain ⟨P, hPe⟩ : ∃ P, j * n + posN n k = P := ⟨_, rfl⟩
          obtain ⟨x, hxe⟩ : ∃ x, symN t j = x := ⟨_, rfl⟩
          rw [hxe] at c3 hvl HF4
          rw [hPe] at c3 hP ⊢
          have p0 : decide ((P : Int) < 0) = false := decide_eq_false (by omega)
          have p1 : decide ((Q : Int) ≤ (P : Int)) = false := decide_eq_false (by omega)
          have ex : IntKind.i64.wrap (x : Int) = (x : Int) := by rw [IntKind.wrap_i64]; omega
          clear hcx HPJ HPV hPe hxe ho4
          go_wp2_with (at_builtin; refine wpList_append_own _ rfl _ _ 32 rfl V.heap.size 3 i0 (.int .i64 0) 1 8 Tryd.underlying32 hi hz0 hz1 hz2 rfl (by decide) _ j _ rfl (ho5.alloc _) ⟨w3.heap.size, 0, none⟩ 1 1 [.int .i64 x] rfl rfl (cell_one_new _ _ _) (by simp [Value.oneCell']) (by unfold maxLen; omega) (by omega) (by have := bV3.size; simp; omega) ?_; intro v6 w6 hown6 hgrow6 _)
          have b6 : Below V.heap.size V w6 := (bV3.alloc bV3.size _).trans ((Below.refl _ _).grown hgrow6 (by have := bV3.size; simp; omega) (fun q e => (ho5.lt q e).1))
          refine ⟨⟨j + 1, by omega, by go_num, ?_, b6⟩, by simp [intOf]; omega⟩
          rw [HF4.out, List.map_append]
          exact hown6
        · obtain rfl : j = 4 := by omega
          have h4 := holds_of_row ho4
          obtain ⟨a4, c4, rfl⟩ := h4.shape
          have HL4 : Hid ((fourOf t 4).length = 4) := fourOf_len _ _
          rw [HL4.out] at h4 ⊢
          have HB4 : Hid (Bytes4 (fourOf t 4)) := fourOf_bytes _ _
          have ho6 : wr.ownsRow w1.heap.size 3 1 u7 k (((nibs zs).take k).map (Value.int .i64)) := row_below ho hb4 (Nat.le_refl _)
          have bV1 := hbw.trans (hb4.mono hbw.size)
          clear ho4 hj4 hj ho
          go_wp2_with fail
          refine (State_ok a4 c4 (fourOf t 4) HL4.out HB4.out wr _ h4).mono ?_
          rw [HSP.out]
          rintro e w3 ⟨rfl, rfl⟩
          go_wp2_with fail
          refine (Nibble_any s t hs htl wr).mono ?_
          rw [HNB.out]
          rintro e w3 ⟨rfl, rfl⟩
          go_wp2_with (at_builtin; refine wpList_append_own _ rfl _ _ 32 rfl w1.heap.size 3 i0 (.int .i64 0) 1 8 Tryd.underlying32 hi hz0 hz1 hz2 rfl (by decide) _ k _ rfl (ho6.alloc _) ⟨wr.heap.size, 0, none⟩ 1 1 [.int .i64 nb] rfl rfl (cell_one_new _ _ _) (by simp [Value.oneCell']) (by unfold maxLen; omega) (by omega) (by have := bV1.size; simp; omega) ?_; intro v6 w6 hown6 hgrow6 _)
          have b6 : Below w1.heap.size w1 w6 := (bV1.alloc bV1.size _).trans ((Below.refl _ _).grown hgrow6 (by have := bV1.size; simp; omega) (fun q e => (ho6.lt q e).1))
          refine ⟨⟨k + 1, by omega, by go_num, by rw [HLS.out], ?_, b6⟩, by simp [intOf]; omega⟩
          rw [HTK.out, List.map_append]
          exact hown6
    · obtain rfl : k = n := by omega
      have HTL : Hid ((nibs zs).take k = nibs zs) := List.take_of_length_le (by rw [nibs_len, HN.out]; exact Nat.le_refl _)
      rw [HTL.out] at ho ⊢
      have hl := holds_of_row ho
      obtain ⟨al, cl, rfl⟩ := hl.shape
      have HNL : Hid ((nibs zs).length = k) := (nibs_len zs).trans HN.out
      rw [HNL.out] at ho
      have hcl := row_cap ho
      have haw := ha1.next hbw
      have bb1 := b1.trans (hbw.mono b1.size)
      have dk : decide ((k : Int) < (k : Int)) = false := decide_eq_false (by omega)
      obtain ⟨s, hse⟩ : ∃ s, lastOf beginN (nibs zs) = s := ⟨_, rfl⟩
      rw [hse]
      clear ho ha1 hlt hk hse
      go_wp2_with fail
      refine (join_ok al cl (nibs zs) zs.length (nibs_len zs) (by rw [HNL.out]; omega) (by rw [HNL.out]; exact hcl) (nibs_bd zs) V hl).mono ?_
      rw [nibs_back HB.out]
      rintro e w3 ⟨r3, rfl, o3, b3⟩
      have h3 := holds_of_row o3
      have ha3 := haw.next b3
      clear o3 haw hl
      go_wp2_with fail
      refine (bytes_any _ _ zs zs _ _ w3 (by omega) h3 ha3).mono ?_
      rw [decide_eq_true rfl]
      rintro e w4 ⟨rfl, q4, rfl⟩
      go_wp2_with fail
      refine (codeWakes_any _ (((hF1.next hbw).next b3).drewN q4)).mono ?_
      rintro e w5 ⟨rfl, b5⟩
      go_wp2
      go_ret
      have bb2 := below_drewN (bb1.trans (b3.mono bb1.size)) q4
      exact ⟨rfl, bb2.trans (b5.mono bb2.size)⟩

/-- The law, of whatever bytes. -/
theorem codeBack_walk (a0 : Option Addr) (len0 cap0 : Nat) (z0 : List Int) (w : World) (w0 : IsRow .u8 w a0 len0 cap0 z0) (hF : Firsts w) :
    Calls Tryd.prog 6 #[.slice a0 len0 cap0] w fun e w' => e = .returned (.bool true) ∧ Below w.heap.size w w' := by
  obtain ⟨xs, rfl, hx, bx⟩ := holds_of_isRow w0
  by_cases h0 : xs.length < 1
  · exact codeBack_few a0 _ cap0 w h0
  by_cases h1 : 32 < xs.length
  · exact codeBack_many a0 _ cap0 w h1
  · exact codeBack_in a0 cap0 xs (bytes_bd bx) (by omega) (by omega) w hF hx

end Go.Proofs.YtehnplodfpljkaaDoor
