/-
  The law PolyTrims of stage 2, of whatever two rows and number.
-/
import Derived.Test.YtecfniimpedlkaaGfAll
namespace Go.Proofs.Ytecfniimpedlkaa
open Go.RowKit

theorem which_mod20 (n : Int) : ∃ k : Nat, k < 20 ∧ (IntKind.u64.wrap n).tmod 20 = (k : Int) := by
  have hu : 0 ≤ IntKind.u64.wrap n := by simp [IntKind.wrap, IntKind.bits, IntKind.signed]; omega
  rw [Int.tmod_eq_emod_of_nonneg hu]
  exact ⟨(IntKind.u64.wrap n % 20).toNat, by omega, by omega⟩

theorem made_ints {w : World} {base n : Nat} {v : Value} (h : w.ownsRow base 3 1 v n (madeCells (Value.int .i64 0).cells (n * 1)).toList) : w.ownsRow base 3 1 v n ((List.replicate n (0 : Int)).map (Value.int .i64)) := by
  rw [show (Value.int IntKind.i64 0).cells = #[.int .i64 0] from rfl, toList_madeCells_one, Nat.mul_one] at h
  rw [List.map_replicate]
  exact h

def sumZ : List Int → Int
  | [] => 0
  | x :: l => x + sumZ l

theorem sumZ_append (l m : List Int) : sumZ (l ++ m) = sumZ l + sumZ m := by
  induction l with
  | nil => simp [sumZ]
  | cons x l ih => simp [sumZ, ih]; omega

theorem sumZ_bd {l : List Int} (h : Bin l) : 0 ≤ sumZ l ∧ sumZ l ≤ l.length := by
  induction l with
  | nil => simp [sumZ]
  | cons x l ih =>
    have := ih h.tail
    rcases h.head with rfl | rfl <;> simp [sumZ] <;> omega

theorem sumZ_val {l : List Int} (h : Bin l) : 0 < sumZ l ↔ val l ≠ 0 := by
  induction l with
  | nil => simp [sumZ, val_nil]
  | cons x l ih =>
    have h1 := ih h.tail
    have h2 := sumZ_bd h.tail
    rw [val_cons]
    rcases h.head with rfl | rfl
    · simp [sumZ]; exact h1
    · have := Nat.two_pow_pos l.length
      simp [sumZ]
      omega

theorem sum_pos {A T : List Int} (hA : Bin A) (hv : val T = val A) (hT : Tr T) : 0 < sumZ A ↔ T ≠ [] := by
  rw [sumZ_val hA, ← hv]
  exact ⟨fun h e => h (by rw [e]; rfl), fun h => hT.pos h⟩

theorem tr_first {T : List Int} (h : Tr T) (h0 : T ≠ []) : T[0]?.getD 0 = 1 := by
  cases T with
  | nil => exact absurd rfl h0
  | cons x l => exact h.1.head.elim (fun e => absurd (by rw [e]; rfl) h.2) (fun e => by rw [e]; rfl)

set_option maxRecDepth 100000 in
set_option maxHeartbeats 1000000 in
theorem polyTrims_long (a0 a1 : Option Addr) (n0 n1 c0 c1 : Nat) (n : Int) (w : World) (h : 120 < n0 ∨ 120 < n1) :
    Calls Try.prog 7 #[.slice a0 n0 c0, .slice a1 n1 c1, .int .i64 n] w fun e w' => e = .returned (.bool true) ∧ Below w.heap.size w w' := by
  by_cases g0 : 120 < n0
  · go_enter Try.func7, Try.ntmps7
    go_wp2
    go_ret
    exact ⟨rfl, Below.refl _ _⟩
  · have g1 : 120 < n1 := by omega
    clear h
    go_enter Try.func7, Try.ntmps7
    go_wp2
    go_ret
    exact ⟨rfl, Below.refl _ _⟩

set_option maxRecDepth 100000 in
set_option maxHeartbeats 8000000 in
theorem polyTrims_short (v0 v1 : Value) (n : Int) (xs0 xs1 : List Int) (h0 : xs0.length ≤ 120) (h1 : xs1.length ≤ 120) (w : World) (H0 : All w [(v1, xs1), (v0, xs0)]) :
    Calls Try.prog 7 #[v0, v1, .int .i64 n] w fun e w' => e = .returned (.bool true) ∧ Below w.heap.size w w' := by
  obtain ⟨i0, hi, hz0, hz1, hz2⟩ := info_parts infoI64
  obtain ⟨k, hk20, hkm⟩ := which_mod20 n
  obtain ⟨a0, c0, rfl⟩ := (H0.get 1 rfl).1.shape
  obtain ⟨a1, c1, rfl⟩ := (H0.get 0 rfl).1.shape
  have B0 := Below.refl w.heap.size w
  go_enter Try.func7, Try.ntmps7
  go_wp2_with fail
  refine (bits_any _ xs0 (by omega) _ (H0.get 1 rfl)).mono ?_
  rintro e W1 ⟨rA, A, rfl, g1, binA, lenA, b1⟩
  have H1 := (H0.next b1).cons g1
  have B1 := B0.trans (b1.mono B0.size)
  clear H0 g1 b1 B0
  go_wp2_with fail
  refine (bits_any _ xs1 (by omega) _ (H1.get 1 rfl)).mono ?_
  rintro e W2 ⟨rB, B, rfl, g2, binB, lenB, b2⟩
  have H2 := (H1.next b2).cons g2
  have B2 := B1.trans (b2.mono B1.size)
  clear H1 g2 b2 B1
  have lA : A.length ≤ 120 := by omega
  have lB : B.length ≤ 120 := by omega
  clear lenA lenB
  go_wp2_with (first | (at_make; refine wpList_make_full _ rfl _ _ 22 rfl W2.heap.size 3 i0 (.int .i64 0) 1 Try.underlying22 hi hz0 hz1 .i64 .i64 _ _ k rfl rfl rfl rfl (by rw [hz2]; omega) (by unfold maxLen; omega) (Nat.le_refl _) ?_; intro W3 hown3 hgrow3) | (at_builtin; have b3 : Below W2.heap.size W2 W3 := (Below.refl _ W2).grown hgrow3 (Nat.le_refl _) (fun k e => by cases e); have hm3 := made_ints hown3; obtain ⟨v4, W4, hrun4, o4, g4⟩ := run_append_i64 _ rA k W2.heap.size _ (List.replicate k 0) A 22 W3 hm3 ((H2.next b3).get 1 rfl).1 b3.size (by omega) (by omega); refine wpList_append_run rfl _ _ _ rfl _ _ rfl rfl _ _ hrun4 ?_))
  have b4 : Below W2.heap.size W2 W4 := b3.trans (below_grown hm3 g4 b3.size)
  obtain ⟨D, hD⟩ : ∃ D, List.replicate k 0 ++ A = D := ⟨_, rfl⟩
  rw [hD] at o4
  have binD : Bin D := hD ▸ (Bin.noughts k).append binA
  have lD : D.length ≤ 140 := by rw [← hD]; simp; omega
  have eD : val D = val A := by rw [← hD, val_append, val_noughts]; simp
  have VD : Hid (val D = val A) := eD
  have H4 := (H2.next b4).cons (row_has o4)
  have B4 := B2.trans (b4.mono B2.size)
  clear H2 B2 hown3 hgrow3 hm3 o4 g4 b3 b4 hD eD hrun4
  go_wp2_with fail
  refine (trim_ok _ D (by omega) binD _ (H4.get 0 rfl)).mono ?_
  rintro e W5 ⟨rT, T, rfl, g5, t5, v5, b5⟩
  have TT : Hid (Tr T ∧ val T = val D) := ⟨t5, v5⟩
  have H5 := (H4.next b5).cons g5
  have B5 := B4.trans (b5.mono B4.size)
  clear H4 g5 b5 B4 t5 v5
  have lT : T.length ≤ 140 := len_trim binD lD TT.out
  go_wp2_with fail
  refine (trim_ok _ T (by omega) TT.out.1.1 _ (H5.get 0 rfl)).mono ?_
  rintro e W6 ⟨rU, U, rfl, g6, t6, v6, b6⟩
  have TU : Hid (Tr U ∧ val U = val T) := ⟨t6, v6⟩
  have H6 := (H5.next b6).cons g6
  have B6 := B5.trans (b6.mono B5.size)
  clear H5 g6 b6 B5 t6 v6
  have lU : U.length ≤ 140 := len_trim TT.out.1.1 lT TU.out
  go_wp2_with fail
  refine (add_ok _ _ D B (by omega) (by omega) binD binB _ (H6.get 2 rfl) (H6.get 3 rfl)).mono ?_
  rintro e W7 ⟨rS, S, rfl, g7, t7, v7, b7⟩
  have TS : Hid (Tr S ∧ val S = val D ^^^ val B) := ⟨t7, v7⟩
  have H7 := (H6.next b7).cons g7
  have B7 := B6.trans (b7.mono B6.size)
  clear H6 g7 b7 B6 t7 v7
  go_wp2_with fail
  refine (add_ok _ _ A B (by omega) (by omega) binA binB _ (H7.get 5 rfl) (H7.get 4 rfl)).mono ?_
  rintro e W8 ⟨rV, V, rfl, g8, t8, v8, b8⟩
  have TV : Hid (Tr V ∧ val V = val A ^^^ val B) := ⟨t8, v8⟩
  have H8 := (H7.next b8).cons g8
  have B8 := B7.trans (b8.mono B7.size)
  clear H7 g8 b8 B7 t8 v8
  go_wp2_with fail
  refine (mul_ok _ _ D B (by omega) binD binB _ (H8.get 4 rfl) (H8.get 5 rfl)).mono ?_
  rintro e W9 ⟨rM, M, rfl, g9, t9, v9, b9⟩
  have TM : Hid (Tr M ∧ val M = cl (val D) (val B)) := ⟨t9, v9⟩
  have H9 := (H8.next b9).cons g9
  have B9 := B8.trans (b9.mono B8.size)
  clear H8 g9 b9 B8 t9 v9
  go_wp2_with fail
  refine (mul_ok _ _ T B (by omega) TT.out.1.1 binB _ (H9.get 4 rfl) (H9.get 6 rfl)).mono ?_
  rintro e W10 ⟨rN, N, rfl, g10, t10, v10, b10⟩
  have TN : Hid (Tr N ∧ val N = cl (val T) (val B)) := ⟨t10, v10⟩
  have H10 := (H9.next b10).cons g10
  have B10 := B9.trans (b10.mono B9.size)
  clear H9 g10 b10 B9 t10 v10
  have lV : V.length ≤ 120 := len_sum binA binB lA lB TV.out
  have lN : N.length ≤ 260 := len_mul TT.out.1.1 binB lT lB TN.out
  have HTU : Hid (T = U) := TT.out.1.inj TU.out.1 TU.out.2.symm
  have HSV : Hid (S = V) := TS.out.1.inj TV.out.1 (by rw [TS.out.2, TV.out.2, VD.out])
  have HMN : Hid (M = N) := TM.out.1.inj TN.out.1 (by rw [TM.out.2, TN.out.2, TT.out.2])
  obtain ⟨at1, ct1, rfl⟩ := (H10.get 5 rfl).1.shape
  obtain ⟨aa1, ca1, rfl⟩ := (H10.get 8 rfl).1.shape
  have HSG : Hid ((0 < sumZ A) ↔ T ≠ []) := sum_pos binA (by rw [TT.out.2, VD.out]) TT.out.1
  go_wp2_with fail
  refine (ints_any _ _ T U _ _ _ (by omega) (H10.get 5 rfl).1 (H10.get 4 rfl).1).mono ?_
  rw [decide_eq_true (HTU.out)]
  rintro e W11 ⟨rfl, q11, hW11⟩
  have H11 := H10.drewN q11
  have B11 := below_drewN B10 q11
  rw [← hW11] at H11 B11
  clear H10 B10 hW11
  by_cases hT : T = []
  · subst hT
    have hs0 : sumZ A = 0 := by have h1 := HSG.out; have h2 := sumZ_bd binA; simp at h1; omega
    have HA : Hid (Holds .i64 W11.heap.size W11 (.slice aa1 A.length ca1) A) := (H11.get 8 rfl).1
    go_wp2
    go_loopw [20, 21] (fun s i wr => ∃ k : Nat, k ≤ A.length ∧ i = .int .i64 k ∧ s = .int .i64 (sumZ (A.take k)) ∧ ∃ q, wr = W11.drewN q) (fun _ i _ => A.length - (intOf i).toNat)
    case atStart => exact ⟨0, Nat.zero_le _, rfl, rfl, 0, rfl⟩
    case round =>
      obtain ⟨k, hk, rfl, rfl, q, rfl⟩ := hrel
      by_cases hlt : k < A.length
      · obtain ⟨z, hzk⟩ : ∃ z, A[k]? = some z := ⟨A[k], by simp⟩
        rcases HA.out with ⟨_, e⟩ | ⟨b, off, cap', e, hb, hcs⟩
        · rw [e] at hlt; exact absurd hlt (by simp)
        · cases e
          have c1 : ∀ q, (W11.drewN q).cell? ⟨b, off + k, none⟩ = some (.int .i64 z) := fun q => (hcs k hlt).trans (by rw [hzk]; rfl)
          have hz01 := binA.get hzk
          have hsb := sumZ_bd (binA.take k)
          rw [List.length_take] at hsb
          obtain ⟨s, hs⟩ : ∃ s, sumZ (A.take k) = s := ⟨_, rfl⟩
          have eS : sumZ (A.take (k + 1)) = s + z := by rw [List.take_add_one, hzk, Option.toList_some, sumZ_append, hs]; simp [sumZ]
          have HS : Hid (sumZ (A.take (k + 1)) = s + z) := eS
          rw [hs] at hsb ⊢
          have hsl : 0 ≤ s ∧ s ≤ 200 := by omega
          have hzl : 0 ≤ z ∧ z ≤ 1 := by omega
          obtain ⟨hs1, hs2⟩ := hsl
          obtain ⟨hz1', hz2'⟩ := hzl
          clear hcs hzk hsb hs hz01 eS
          go_wp2
          go_roundw
          case rel => exact ⟨k + 1, by omega, by go_num, by rw [HS.out], q, rfl⟩
          case measure => simp [intOf]; omega
      · obtain rfl : k = A.length := by omega
        rw [List.take_length]
        have H20 := H11.drewN q
        have B20 := below_drewN B11 q
        obtain ⟨W20, hW20⟩ : ∃ W20, W11.drewN q = W20 := ⟨_, rfl⟩
        rw [hW20] at H20 B20 ⊢
        clear hlt hk H11 B11 hW20 HA
    
        rw [hs0]
        go_wp2_with fail
        refine (ints_any _ _ S V _ _ _ (by omega) (H20.get 3 rfl).1 (H20.get 2 rfl).1).mono ?_
        rw [decide_eq_true (HSV.out)]
        rintro e W21 ⟨rfl, q21, hW21⟩
        have H21 := H20.drewN q21
        have B21 := below_drewN B20 q21
        rw [← hW21] at H21 B21
        clear H20 B20 hW21
        go_wp2_with fail
        refine (ints_any _ _ M N _ _ _ (by omega) (H21.get 1 rfl).1 (H21.get 0 rfl).1).mono ?_
        rw [decide_eq_true (HMN.out)]
        rintro e W22 ⟨rfl, q22, hW22⟩
        have H22 := H21.drewN q22
        have B22 := below_drewN B21 q22
        rw [← hW22] at H22 B22
        clear H21 B21 hW22
        go_wp2_with fail
        refine (wakes_any _).mono ?_
        rintro e w9 ⟨rfl, hw⟩
        have B99 := B22.trans (hw.mono B22.size)
        clear B22 H22 hw
        go_wp2
        go_ret
        exact ⟨rfl, B99⟩
  · have hT0 : 0 < T.length := List.length_pos_iff.2 hT
    have hs0 : 0 < sumZ A := HSG.out.2 hT
    have hTH := (H11.get 5 rfl).1
    rcases hTH with ⟨_, e⟩ | ⟨bt, ot, ctt, e, _, hct⟩
    · exact absurd e hT
    cases e
    have ht0 : T[0]?.getD 0 = 1 := tr_first TT.out.1 hT
    have c0 : W11.cell? ⟨bt, ot, none⟩ = some (.int .i64 1) := by have := hct 0 hT0; rw [ht0] at this; exact this
    clear hct ht0 hT
    have HA : Hid (Holds .i64 W11.heap.size W11 (.slice aa1 A.length ca1) A) := (H11.get 8 rfl).1
    go_wp2
    go_loopw [20, 21] (fun s i wr => ∃ k : Nat, k ≤ A.length ∧ i = .int .i64 k ∧ s = .int .i64 (sumZ (A.take k)) ∧ ∃ q, wr = W11.drewN q) (fun _ i _ => A.length - (intOf i).toNat)
    case atStart => exact ⟨0, Nat.zero_le _, rfl, rfl, 0, rfl⟩
    case round =>
      obtain ⟨k, hk, rfl, rfl, q, rfl⟩ := hrel
      by_cases hlt : k < A.length
      · obtain ⟨z, hzk⟩ : ∃ z, A[k]? = some z := ⟨A[k], by simp⟩
        rcases HA.out with ⟨_, e⟩ | ⟨b, off, cap', e, hb, hcs⟩
        · rw [e] at hlt; exact absurd hlt (by simp)
        · cases e
          have c1 : ∀ q, (W11.drewN q).cell? ⟨b, off + k, none⟩ = some (.int .i64 z) := fun q => (hcs k hlt).trans (by rw [hzk]; rfl)
          have hz01 := binA.get hzk
          have hsb := sumZ_bd (binA.take k)
          rw [List.length_take] at hsb
          obtain ⟨s, hs⟩ : ∃ s, sumZ (A.take k) = s := ⟨_, rfl⟩
          have eS : sumZ (A.take (k + 1)) = s + z := by rw [List.take_add_one, hzk, Option.toList_some, sumZ_append, hs]; simp [sumZ]
          have HS : Hid (sumZ (A.take (k + 1)) = s + z) := eS
          rw [hs] at hsb ⊢
          have hsl : 0 ≤ s ∧ s ≤ 200 := by omega
          have hzl : 0 ≤ z ∧ z ≤ 1 := by omega
          obtain ⟨hs1, hs2⟩ := hsl
          obtain ⟨hz1', hz2'⟩ := hzl
          clear hcs hzk hsb hs hz01 eS
          go_wp2
          go_roundw
          case rel => exact ⟨k + 1, by omega, by go_num, by rw [HS.out], q, rfl⟩
          case measure => simp [intOf]; omega
      · obtain rfl : k = A.length := by omega
        rw [List.take_length]
        have H20 := H11.drewN q
        have B20 := below_drewN B11 q
        obtain ⟨W20, hW20⟩ : ∃ W20, W11.drewN q = W20 := ⟨_, rfl⟩
        rw [hW20] at H20 B20 ⊢
        clear hlt hk H11 B11 hW20 HA
    
        obtain ⟨sg, hsg⟩ : ∃ sg, sumZ A = sg := ⟨_, rfl⟩
        rw [hsg] at hs0 ⊢
        go_wp2_with fail
        refine (ints_any _ _ S V _ _ _ (by omega) (H20.get 3 rfl).1 (H20.get 2 rfl).1).mono ?_
        rw [decide_eq_true (HSV.out)]
        rintro e W21 ⟨rfl, q21, hW21⟩
        have H21 := H20.drewN q21
        have B21 := below_drewN B20 q21
        rw [← hW21] at H21 B21
        clear H20 B20 hW21
        go_wp2_with fail
        refine (ints_any _ _ M N _ _ _ (by omega) (H21.get 1 rfl).1 (H21.get 0 rfl).1).mono ?_
        rw [decide_eq_true (HMN.out)]
        rintro e W22 ⟨rfl, q22, hW22⟩
        have H22 := H21.drewN q22
        have B22 := below_drewN B21 q22
        rw [← hW22] at H22 B22
        clear H21 B21 hW22
        go_wp2_with fail
        refine (wakes_any _).mono ?_
        rintro e w9 ⟨rfl, hw⟩
        have B99 := B22.trans (hw.mono B22.size)
        clear B22 H22 hw
        go_wp2
        go_ret
        exact ⟨rfl, B99⟩

/-- The law. -/
theorem polyTrims_walk (a0 : Option Addr) (len0 cap0 : Nat) (z0 : List Int) (a1 : Option Addr) (len1 cap1 : Nat) (z1 : List Int) (n : Int) (w : World) (w0 : IsRow .i64 w a0 len0 cap0 z0) (w1 : IsRow .i64 w a1 len1 cap1 z1) :
    Calls Try.prog 7 #[.slice a0 len0 cap0, .slice a1 len1 cap1, .int .i64 n] w fun e w' => e = .returned (.bool true) ∧ Below w.heap.size w w' := by
  obtain ⟨xs, rfl, hx, _⟩ := has_of_isRow w0
  obtain ⟨ys, rfl, hy, _⟩ := has_of_isRow w1
  by_cases h : 120 < xs.length ∨ 120 < ys.length
  · exact polyTrims_long a0 a1 _ _ cap0 cap1 n w h
  · exact polyTrims_short _ _ n xs ys (by omega) (by omega) w (((All.nil w).cons hx).cons hy)

end Go.Proofs.Ytecfniimpedlkaa
