/-
  The law PolyExact of stage 2, of whatever two rows.
-/
import Derived.Test.YtecfniimpedlkaaGfAll
import Derived.Test.YtecfniimpedlkaaRefDiv
namespace Go.Proofs.Ytecfniimpedlkaa
open Go.RowKit

set_option maxRecDepth 100000 in
set_option maxHeartbeats 1000000 in
theorem polyExact_long (a0 a1 : Option Addr) (n0 n1 c0 c1 : Nat) (w : World) (h : 120 < n0 ∨ 120 < n1) :
    Calls Try.prog 3 #[.slice a0 n0 c0, .slice a1 n1 c1] w fun e w' => e = .returned (.bool true) ∧ Below w.heap.size w w' := by
  by_cases g0 : 120 < n0
  · go_enter Try.func3, Try.ntmps3
    go_wp2
    go_ret
    exact ⟨rfl, Below.refl _ _⟩
  · have g1 : 120 < n1 := by omega
    clear h
    go_enter Try.func3, Try.ntmps3
    go_wp2
    go_ret
    exact ⟨rfl, Below.refl _ _⟩

set_option maxRecDepth 100000 in
set_option maxHeartbeats 8000000 in
theorem polyExact_notA (v0 v1 : Value) (A B : List Int) (h0 : A.length ≤ 120) (h1 : B.length ≤ 120) (hA : Hid (¬ Bin A)) (w : World) (H0 : All w [(v1, B), (v0, A)]) :
    Calls Try.prog 3 #[v0, v1] w fun e w' => e = .returned (.bool true) ∧ Below w.heap.size w w' := by
  obtain ⟨a0, c0, rfl⟩ := (H0.get 1 rfl).1.shape
  obtain ⟨a1, c1, rfl⟩ := (H0.get 0 rfl).1.shape
  have B0 := Below.refl w.heap.size w
  go_enter Try.func3, Try.ntmps3
  go_wp2_with fail
  refine (twinInts_any _ A _ (by omega) _ (H0.get 1 rfl).1).mono ?_
  rintro e W1 ⟨rX, rfl, o1, b1⟩
  have H1 := (H0.next b1).cons (row_has o1)
  have B1 := B0.trans (b1.mono B0.size)
  clear H0 B0 b1 o1
  go_wp2_with fail
  refine (twinInts_any _ B _ (by omega) _ (H1.get 1 rfl).1).mono ?_
  rintro e W2 ⟨rY, rfl, o2, b2⟩
  have H2 := (H1.next b2).cons (row_has o2)
  have B2 := B1.trans (b2.mono B1.size)
  clear H1 B1 b2 o2
  go_wp2_with fail
  refine (poly_any _ A (by omega) _ (H2.get 3 rfl)).mono ?_
  rintro e W3 ⟨⟨p3, rfl, hp3⟩, q3, hW3⟩
  obtain rfl : p3 = 1 := by
    rcases hp3 with h | h
    · exact absurd h.2 hA.out
    · exact h.1
  have H3 := H2.drewN q3
  have B3 := below_drewN B2 q3
  rw [← hW3] at H3 B3
  clear H2 B2 hW3 hp3
  go_wp2_with fail
  refine (trim_arg _ A (by omega) hA.out _ (H3.get 1 rfl)).mono ?_
  rintro e W4 ⟨rfl, b4⟩
  have H4 := H3.next b4
  have B4 := B3.trans (b4.mono B3.size)
  clear H3 b4 B3
  go_wp2_with fail
  refine (add_arg _ _ A B (by omega) (by omega) (fun h => hA.out h.1) _ (H4.get 1 rfl) (H4.get 0 rfl)).mono ?_
  rintro e W5 ⟨rfl, b5⟩
  have H5 := H4.next b5
  have B5 := B4.trans (b5.mono B4.size)
  clear H4 b5 B4
  go_wp2_with fail
  refine (mul_arg _ _ A B (by omega) (by omega) (fun h => hA.out h.1) _ (H5.get 1 rfl) (H5.get 0 rfl)).mono ?_
  rintro e W6 ⟨rfl, b6⟩
  have H6 := H5.next b6
  have B6 := B5.trans (b6.mono B5.size)
  clear H5 b6 B5
  go_wp2_with fail
  refine (div_arg _ _ A B (by omega) (by omega) (fun h => hA.out h.1) _ (H6.get 1 rfl) (H6.get 0 rfl)).mono ?_
  rintro e W7 ⟨rfl, b7⟩
  have H7 := H6.next b7
  have B7 := B6.trans (b7.mono B6.size)
  clear H6 b7 B6
  go_wp2_with fail
  refine (ints_any _ _ A A _ _ _ (by omega) (H7.get 1 rfl).1 (H7.get 3 rfl).1).mono ?_
  rw [decide_eq_true (rfl)]
  rintro e W8 ⟨rfl, q8, hW8⟩
  have H8 := H7.drewN q8
  have B8 := below_drewN B7 q8
  rw [← hW8] at H8 B8
  clear H7 B7 hW8
  go_wp2_with fail
  refine (ints_any _ _ B B _ _ _ (by omega) (H8.get 0 rfl).1 (H8.get 2 rfl).1).mono ?_
  rw [decide_eq_true (rfl)]
  rintro e W9 ⟨rfl, q9, hW9⟩
  have H9 := H8.drewN q9
  have B9 := below_drewN B8 q9
  rw [← hW9] at H9 B9
  clear H8 B8 hW9
  go_wp2_with fail
  refine (wakes_any _).mono ?_
  rintro e w9 ⟨rfl, hw⟩
  have B99 := B9.trans (hw.mono B9.size)
  clear B9 H9 hw
  go_wp2
  go_ret
  exact ⟨rfl, B99⟩

set_option maxRecDepth 100000 in
set_option maxHeartbeats 8000000 in
theorem polyExact_notB (v0 v1 : Value) (A B : List Int) (h0 : A.length ≤ 120) (h1 : B.length ≤ 120) (hA : Hid (Bin A)) (hB : Hid (¬ Bin B)) (w : World) (H0 : All w [(v1, B), (v0, A)]) :
    Calls Try.prog 3 #[v0, v1] w fun e w' => e = .returned (.bool true) ∧ Below w.heap.size w w' := by
  obtain ⟨a0, c0, rfl⟩ := (H0.get 1 rfl).1.shape
  obtain ⟨a1, c1, rfl⟩ := (H0.get 0 rfl).1.shape
  have B0 := Below.refl w.heap.size w
  go_enter Try.func3, Try.ntmps3
  go_wp2_with fail
  refine (twinInts_any _ A _ (by omega) _ (H0.get 1 rfl).1).mono ?_
  rintro e W1 ⟨rX, rfl, o1, b1⟩
  have H1 := (H0.next b1).cons (row_has o1)
  have B1 := B0.trans (b1.mono B0.size)
  clear H0 B0 b1 o1
  go_wp2_with fail
  refine (twinInts_any _ B _ (by omega) _ (H1.get 1 rfl).1).mono ?_
  rintro e W2 ⟨rY, rfl, o2, b2⟩
  have H2 := (H1.next b2).cons (row_has o2)
  have B2 := B1.trans (b2.mono B1.size)
  clear H1 B1 b2 o2
  go_wp2_with fail
  refine (poly_any _ A (by omega) _ (H2.get 3 rfl)).mono ?_
  rintro e W3 ⟨⟨p3, rfl, hp3⟩, q3, hW3⟩
  obtain rfl : p3 = 0 := by
    rcases hp3 with h | h
    · exact h.1
    · exact absurd hA.out h.2
  have H3 := H2.drewN q3
  have B3 := below_drewN B2 q3
  rw [← hW3] at H3 B3
  clear H2 B2 hW3 hp3
  go_wp2_with fail
  refine (trim_ok _ A (by omega) hA.out _ (H3.get 1 rfl)).mono ?_
  rintro e W4 ⟨rT, T, rfl, g4, t4, v4, b4⟩
  have TT : Hid (Tr T ∧ val T = val A) := ⟨t4, v4⟩
  have H4 := (H3.next b4).cons g4
  have B4 := B3.trans (b4.mono B3.size)
  clear H3 g4 b4 B3 t4 v4
  have lT : T.length ≤ 120 := len_trim hA.out (by omega) TT.out
  go_wp2_with fail
  refine (refTrim_any _ A (by omega) hA.out _ (H4.get 4 rfl)).mono ?_
  rintro e W5 ⟨rT2, T2, rfl, g5, t5, v5, b5⟩
  have TT2 : Hid (Tr T2 ∧ val T2 = val A) := ⟨t5, v5⟩
  have H5 := (H4.next b5).cons g5
  have B5 := B4.trans (b5.mono B4.size)
  clear H4 g5 b5 B4 t5 v5
  have lT2 : T2.length ≤ 120 := len_trim hA.out (by omega) TT2.out
  have HTT : Hid (T = T2) := TT.out.1.inj TT2.out.1 (TT.out.2.trans TT2.out.2.symm)
  obtain ⟨at1, ct1, rfl⟩ := (H5.get 1 rfl).1.shape
  go_wp2_with fail
  refine (ints_any _ _ T T2 _ _ _ (by omega) (H5.get 1 rfl).1 (H5.get 0 rfl).1).mono ?_
  rw [decide_eq_true (HTT.out)]
  rintro e W6 ⟨rfl, q6, hW6⟩
  have H6 := H5.drewN q6
  have B6 := below_drewN B5 q6
  rw [← hW6] at H6 B6
  clear H5 B5 hW6
  go_wp2_with fail
  refine (poly_any _ B (by omega) _ (H6.get 4 rfl)).mono ?_
  rintro e W7 ⟨⟨p7, rfl, hp7⟩, q7, hW7⟩
  obtain rfl : p7 = 1 := by
    rcases hp7 with h | h
    · exact absurd h.2 hB.out
    · exact h.1
  have H7 := H6.drewN q7
  have B7 := below_drewN B6 q7
  rw [← hW7] at H7 B7
  clear H6 B6 hW7 hp7
  go_wp2_with fail
  refine (add_arg _ _ A B (by omega) (by omega) (fun h => hB.out h.2) _ (H7.get 3 rfl) (H7.get 2 rfl)).mono ?_
  rintro e W8 ⟨rfl, b8⟩
  have H8 := H7.next b8
  have B8 := B7.trans (b8.mono B7.size)
  clear H7 b8 B7
  go_wp2_with fail
  refine (mul_arg _ _ A B (by omega) (by omega) (fun h => hB.out h.2) _ (H8.get 3 rfl) (H8.get 2 rfl)).mono ?_
  rintro e W9 ⟨rfl, b9⟩
  have H9 := H8.next b9
  have B9 := B8.trans (b9.mono B8.size)
  clear H8 b9 B8
  go_wp2_with fail
  refine (div_arg _ _ A B (by omega) (by omega) (fun h => hB.out h.2) _ (H9.get 3 rfl) (H9.get 2 rfl)).mono ?_
  rintro e W10 ⟨rfl, b10⟩
  have H10 := H9.next b10
  have B10 := B9.trans (b10.mono B9.size)
  clear H9 b10 B9
  go_wp2_with fail
  refine (ints_any _ _ A A _ _ _ (by omega) (H10.get 3 rfl).1 (H10.get 5 rfl).1).mono ?_
  rw [decide_eq_true (rfl)]
  rintro e W11 ⟨rfl, q11, hW11⟩
  have H11 := H10.drewN q11
  have B11 := below_drewN B10 q11
  rw [← hW11] at H11 B11
  clear H10 B10 hW11
  go_wp2_with fail
  refine (ints_any _ _ B B _ _ _ (by omega) (H11.get 2 rfl).1 (H11.get 4 rfl).1).mono ?_
  rw [decide_eq_true (rfl)]
  rintro e W12 ⟨rfl, q12, hW12⟩
  have H12 := H11.drewN q12
  have B12 := below_drewN B11 q12
  rw [← hW12] at H12 B12
  clear H11 B11 hW12
  go_wp2_with fail
  refine (wakes_any _).mono ?_
  rintro e w9 ⟨rfl, hw⟩
  have B99 := B12.trans (hw.mono B12.size)
  clear B12 H12 hw
  go_wp2
  go_ret
  exact ⟨rfl, B99⟩

set_option maxRecDepth 100000 in
set_option maxHeartbeats 8000000 in
theorem polyExact_zeroB (v0 v1 : Value) (A B : List Int) (h0 : A.length ≤ 120) (h1 : B.length ≤ 120) (hA : Hid (Bin A)) (hB : Hid (Bin B)) (hZ : Hid (val B = 0)) (w : World) (H0 : All w [(v1, B), (v0, A)]) :
    Calls Try.prog 3 #[v0, v1] w fun e w' => e = .returned (.bool true) ∧ Below w.heap.size w w' := by
  obtain ⟨a0, c0, rfl⟩ := (H0.get 1 rfl).1.shape
  obtain ⟨a1, c1, rfl⟩ := (H0.get 0 rfl).1.shape
  have B0 := Below.refl w.heap.size w
  go_enter Try.func3, Try.ntmps3
  go_wp2_with fail
  refine (twinInts_any _ A _ (by omega) _ (H0.get 1 rfl).1).mono ?_
  rintro e W1 ⟨rX, rfl, o1, b1⟩
  have H1 := (H0.next b1).cons (row_has o1)
  have B1 := B0.trans (b1.mono B0.size)
  clear H0 B0 b1 o1
  go_wp2_with fail
  refine (twinInts_any _ B _ (by omega) _ (H1.get 1 rfl).1).mono ?_
  rintro e W2 ⟨rY, rfl, o2, b2⟩
  have H2 := (H1.next b2).cons (row_has o2)
  have B2 := B1.trans (b2.mono B1.size)
  clear H1 B1 b2 o2
  go_wp2_with fail
  refine (poly_any _ A (by omega) _ (H2.get 3 rfl)).mono ?_
  rintro e W3 ⟨⟨p3, rfl, hp3⟩, q3, hW3⟩
  obtain rfl : p3 = 0 := by
    rcases hp3 with h | h
    · exact h.1
    · exact absurd hA.out h.2
  have H3 := H2.drewN q3
  have B3 := below_drewN B2 q3
  rw [← hW3] at H3 B3
  clear H2 B2 hW3 hp3
  go_wp2_with fail
  refine (trim_ok _ A (by omega) hA.out _ (H3.get 1 rfl)).mono ?_
  rintro e W4 ⟨rT, T, rfl, g4, t4, v4, b4⟩
  have TT : Hid (Tr T ∧ val T = val A) := ⟨t4, v4⟩
  have H4 := (H3.next b4).cons g4
  have B4 := B3.trans (b4.mono B3.size)
  clear H3 g4 b4 B3 t4 v4
  have lT : T.length ≤ 120 := len_trim hA.out (by omega) TT.out
  go_wp2_with fail
  refine (refTrim_any _ A (by omega) hA.out _ (H4.get 4 rfl)).mono ?_
  rintro e W5 ⟨rT2, T2, rfl, g5, t5, v5, b5⟩
  have TT2 : Hid (Tr T2 ∧ val T2 = val A) := ⟨t5, v5⟩
  have H5 := (H4.next b5).cons g5
  have B5 := B4.trans (b5.mono B4.size)
  clear H4 g5 b5 B4 t5 v5
  have lT2 : T2.length ≤ 120 := len_trim hA.out (by omega) TT2.out
  have HTT : Hid (T = T2) := TT.out.1.inj TT2.out.1 (TT.out.2.trans TT2.out.2.symm)
  obtain ⟨at1, ct1, rfl⟩ := (H5.get 1 rfl).1.shape
  go_wp2_with fail
  refine (ints_any _ _ T T2 _ _ _ (by omega) (H5.get 1 rfl).1 (H5.get 0 rfl).1).mono ?_
  rw [decide_eq_true (HTT.out)]
  rintro e W6 ⟨rfl, q6, hW6⟩
  have H6 := H5.drewN q6
  have B6 := below_drewN B5 q6
  rw [← hW6] at H6 B6
  clear H5 B5 hW6
  go_wp2_with fail
  refine (poly_any _ B (by omega) _ (H6.get 4 rfl)).mono ?_
  rintro e W7 ⟨⟨p7, rfl, hp7⟩, q7, hW7⟩
  obtain rfl : p7 = 0 := by
    rcases hp7 with h | h
    · exact h.1
    · exact absurd hB.out h.2
  have H7 := H6.drewN q7
  have B7 := below_drewN B6 q7
  rw [← hW7] at H7 B7
  clear H6 B6 hW7 hp7
  go_wp2_with fail
  refine (add_ok _ _ A B (by omega) (by omega) hA.out hB.out _ (H7.get 3 rfl) (H7.get 2 rfl)).mono ?_
  rintro e W8 ⟨rS, S, rfl, g8, t8, v8, b8⟩
  have TS : Hid (Tr S ∧ val S = val A ^^^ val B) := ⟨t8, v8⟩
  have H8 := (H7.next b8).cons g8
  have B8 := B7.trans (b8.mono B7.size)
  clear H7 g8 b8 B7 t8 v8
  go_wp2_with fail
  refine (mul_ok _ _ A B (by omega) hA.out hB.out _ (H8.get 4 rfl) (H8.get 3 rfl)).mono ?_
  rintro e W9 ⟨rM, M, rfl, g9, t9, v9, b9⟩
  have TM : Hid (Tr M ∧ val M = cl (val A) (val B)) := ⟨t9, v9⟩
  have H9 := (H8.next b9).cons g9
  have B9 := B8.trans (b9.mono B8.size)
  clear H8 g9 b9 B8 t9 v9
  go_wp2_with fail
  refine (div_zero _ _ A B (by omega) (by omega) hA.out hB.out hZ.out _ (H9.get 5 rfl) (H9.get 4 rfl)).mono ?_
  rintro e W10 ⟨rfl, b10⟩
  have H10 := H9.next b10
  have B10 := B9.trans (b10.mono B9.size)
  clear H9 b10 B9
  go_wp2_with fail
  refine (ints_any _ _ A A _ _ _ (by omega) (H10.get 5 rfl).1 (H10.get 7 rfl).1).mono ?_
  rw [decide_eq_true (rfl)]
  rintro e W11 ⟨rfl, q11, hW11⟩
  have H11 := H10.drewN q11
  have B11 := below_drewN B10 q11
  rw [← hW11] at H11 B11
  clear H10 B10 hW11
  go_wp2_with fail
  refine (ints_any _ _ B B _ _ _ (by omega) (H11.get 4 rfl).1 (H11.get 6 rfl).1).mono ?_
  rw [decide_eq_true (rfl)]
  rintro e W12 ⟨rfl, q12, hW12⟩
  have H12 := H11.drewN q12
  have B12 := below_drewN B11 q12
  rw [← hW12] at H12 B12
  clear H11 B11 hW12
  go_wp2_with fail
  refine (refAdd_any _ _ A B (by omega) (by omega) hA.out hB.out _ (H12.get 7 rfl) (H12.get 6 rfl)).mono ?_
  rintro e W13 ⟨rS2, S2, rfl, g13, t13, v13, b13⟩
  have TS2 : Hid (Tr S2 ∧ val S2 = val A ^^^ val B) := ⟨t13, v13⟩
  have H13 := (H12.next b13).cons g13
  have B13 := B12.trans (b13.mono B12.size)
  clear H12 g13 b13 B12 t13 v13
  have lS2 : S2.length ≤ 120 := len_sum hA.out hB.out (by omega) (by omega) TS2.out
  have HSS : Hid (S = S2) := TS.out.1.inj TS2.out.1 (TS.out.2.trans TS2.out.2.symm)
  go_wp2_with fail
  refine (ints_any _ _ S S2 _ _ _ (by omega) (H13.get 2 rfl).1 (H13.get 0 rfl).1).mono ?_
  rw [decide_eq_true (HSS.out)]
  rintro e W14 ⟨rfl, q14, hW14⟩
  have H14 := H13.drewN q14
  have B14 := below_drewN B13 q14
  rw [← hW14] at H14 B14
  clear H13 B13 hW14
  go_wp2_with fail
  refine (refMul_any _ _ A B (by omega) hA.out hB.out _ (H14.get 8 rfl) (H14.get 7 rfl)).mono ?_
  rintro e W15 ⟨rM2, M2, rfl, g15, t15, v15, b15⟩
  have TM2 : Hid (Tr M2 ∧ val M2 = cl (val A) (val B)) := ⟨t15, v15⟩
  have H15 := (H14.next b15).cons g15
  have B15 := B14.trans (b15.mono B14.size)
  clear H14 g15 b15 B14 t15 v15
  have lM2 : M2.length ≤ 120 + 120 := len_mul hA.out hB.out (by omega) (by omega) TM2.out
  have HMM : Hid (M = M2) := TM.out.1.inj TM2.out.1 (TM.out.2.trans TM2.out.2.symm)
  go_wp2_with fail
  refine (ints_any _ _ M M2 _ _ _ (by omega) (H15.get 2 rfl).1 (H15.get 0 rfl).1).mono ?_
  rw [decide_eq_true (HMM.out)]
  rintro e W16 ⟨rfl, q16, hW16⟩
  have H16 := H15.drewN q16
  have B16 := below_drewN B15 q16
  rw [← hW16] at H16 B16
  clear H15 B15 hW16
  go_wp2_with fail
  refine (refTrim_any _ B (by omega) hB.out _ (H16.get 8 rfl)).mono ?_
  rintro e W17 ⟨rD, D, rfl, g17, t17, v17, b17⟩
  have TD : Hid (Tr D ∧ val D = val B) := ⟨t17, v17⟩
  have H17 := (H16.next b17).cons g17
  have B17 := B16.trans (b17.mono B16.size)
  clear H16 g17 b17 B16 t17 v17
  obtain rfl := TD.out.1.eq_nil (TD.out.2.trans hZ.out)
  obtain ⟨ad1, cd1, rfl⟩ := (H17.get 0 rfl).1.shape
  go_wp2_with fail
  refine (wakes_any _).mono ?_
  rintro e w9 ⟨rfl, hw⟩
  have B99 := B17.trans (hw.mono B17.size)
  clear B17 H17 hw
  go_wp2
  go_ret
  exact ⟨rfl, B99⟩

set_option maxRecDepth 100000 in
set_option maxHeartbeats 8000000 in
theorem polyExact_full (v0 v1 : Value) (A B : List Int) (h0 : A.length ≤ 120) (h1 : B.length ≤ 120) (hA : Hid (Bin A)) (hB : Hid (Bin B)) (hZ : Hid (val B ≠ 0)) (w : World) (H0 : All w [(v1, B), (v0, A)]) :
    Calls Try.prog 3 #[v0, v1] w fun e w' => e = .returned (.bool true) ∧ Below w.heap.size w w' := by
  obtain ⟨a0, c0, rfl⟩ := (H0.get 1 rfl).1.shape
  obtain ⟨a1, c1, rfl⟩ := (H0.get 0 rfl).1.shape
  have B0 := Below.refl w.heap.size w
  go_enter Try.func3, Try.ntmps3
  go_wp2_with fail
  refine (twinInts_any _ A _ (by omega) _ (H0.get 1 rfl).1).mono ?_
  rintro e W1 ⟨rX, rfl, o1, b1⟩
  have H1 := (H0.next b1).cons (row_has o1)
  have B1 := B0.trans (b1.mono B0.size)
  clear H0 B0 b1 o1
  go_wp2_with fail
  refine (twinInts_any _ B _ (by omega) _ (H1.get 1 rfl).1).mono ?_
  rintro e W2 ⟨rY, rfl, o2, b2⟩
  have H2 := (H1.next b2).cons (row_has o2)
  have B2 := B1.trans (b2.mono B1.size)
  clear H1 B1 b2 o2
  go_wp2_with fail
  refine (poly_any _ A (by omega) _ (H2.get 3 rfl)).mono ?_
  rintro e W3 ⟨⟨p3, rfl, hp3⟩, q3, hW3⟩
  obtain rfl : p3 = 0 := by
    rcases hp3 with h | h
    · exact h.1
    · exact absurd hA.out h.2
  have H3 := H2.drewN q3
  have B3 := below_drewN B2 q3
  rw [← hW3] at H3 B3
  clear H2 B2 hW3 hp3
  go_wp2_with fail
  refine (trim_ok _ A (by omega) hA.out _ (H3.get 1 rfl)).mono ?_
  rintro e W4 ⟨rT, T, rfl, g4, t4, v4, b4⟩
  have TT : Hid (Tr T ∧ val T = val A) := ⟨t4, v4⟩
  have H4 := (H3.next b4).cons g4
  have B4 := B3.trans (b4.mono B3.size)
  clear H3 g4 b4 B3 t4 v4
  have lT : T.length ≤ 120 := len_trim hA.out (by omega) TT.out
  go_wp2_with fail
  refine (refTrim_any _ A (by omega) hA.out _ (H4.get 4 rfl)).mono ?_
  rintro e W5 ⟨rT2, T2, rfl, g5, t5, v5, b5⟩
  have TT2 : Hid (Tr T2 ∧ val T2 = val A) := ⟨t5, v5⟩
  have H5 := (H4.next b5).cons g5
  have B5 := B4.trans (b5.mono B4.size)
  clear H4 g5 b5 B4 t5 v5
  have lT2 : T2.length ≤ 120 := len_trim hA.out (by omega) TT2.out
  have HTT : Hid (T = T2) := TT.out.1.inj TT2.out.1 (TT.out.2.trans TT2.out.2.symm)
  obtain ⟨at1, ct1, rfl⟩ := (H5.get 1 rfl).1.shape
  go_wp2_with fail
  refine (ints_any _ _ T T2 _ _ _ (by omega) (H5.get 1 rfl).1 (H5.get 0 rfl).1).mono ?_
  rw [decide_eq_true (HTT.out)]
  rintro e W6 ⟨rfl, q6, hW6⟩
  have H6 := H5.drewN q6
  have B6 := below_drewN B5 q6
  rw [← hW6] at H6 B6
  clear H5 B5 hW6
  go_wp2_with fail
  refine (poly_any _ B (by omega) _ (H6.get 4 rfl)).mono ?_
  rintro e W7 ⟨⟨p7, rfl, hp7⟩, q7, hW7⟩
  obtain rfl : p7 = 0 := by
    rcases hp7 with h | h
    · exact h.1
    · exact absurd hB.out h.2
  have H7 := H6.drewN q7
  have B7 := below_drewN B6 q7
  rw [← hW7] at H7 B7
  clear H6 B6 hW7 hp7
  go_wp2_with fail
  refine (add_ok _ _ A B (by omega) (by omega) hA.out hB.out _ (H7.get 3 rfl) (H7.get 2 rfl)).mono ?_
  rintro e W8 ⟨rS, S, rfl, g8, t8, v8, b8⟩
  have TS : Hid (Tr S ∧ val S = val A ^^^ val B) := ⟨t8, v8⟩
  have H8 := (H7.next b8).cons g8
  have B8 := B7.trans (b8.mono B7.size)
  clear H7 g8 b8 B7 t8 v8
  go_wp2_with fail
  refine (mul_ok _ _ A B (by omega) hA.out hB.out _ (H8.get 4 rfl) (H8.get 3 rfl)).mono ?_
  rintro e W9 ⟨rM, M, rfl, g9, t9, v9, b9⟩
  have TM : Hid (Tr M ∧ val M = cl (val A) (val B)) := ⟨t9, v9⟩
  have H9 := (H8.next b9).cons g9
  have B9 := B8.trans (b9.mono B8.size)
  clear H8 g9 b9 B8 t9 v9
  go_wp2_with fail
  refine (div_ok _ _ A B (by omega) (by omega) hA.out hB.out hZ.out _ (H9.get 5 rfl) (H9.get 4 rfl)).mono ?_
  rintro e W10 ⟨rQ, rR, Q, R, ms, rfl, gq, gr, tq, tr, tm, em, es, hlow, b10⟩
  have DQ : Hid (Quot A B Q R ms ∧ Tr ms ∧ val ms = val B) := ⟨⟨tq, tr, es, hlow⟩, tm, em⟩
  have H10 := ((H9.next b10).cons gq).cons gr
  have B10 := B9.trans (b10.mono B9.size)
  clear H9 gq gr b10 B9 tq tr tm em es hlow
  go_wp2_with fail
  refine (ints_any _ _ A A _ _ _ (by omega) (H10.get 7 rfl).1 (H10.get 9 rfl).1).mono ?_
  rw [decide_eq_true (rfl)]
  rintro e W11 ⟨rfl, q11, hW11⟩
  have H11 := H10.drewN q11
  have B11 := below_drewN B10 q11
  rw [← hW11] at H11 B11
  clear H10 B10 hW11
  go_wp2_with fail
  refine (ints_any _ _ B B _ _ _ (by omega) (H11.get 6 rfl).1 (H11.get 8 rfl).1).mono ?_
  rw [decide_eq_true (rfl)]
  rintro e W12 ⟨rfl, q12, hW12⟩
  have H12 := H11.drewN q12
  have B12 := below_drewN B11 q12
  rw [← hW12] at H12 B12
  clear H11 B11 hW12
  go_wp2_with fail
  refine (refAdd_any _ _ A B (by omega) (by omega) hA.out hB.out _ (H12.get 9 rfl) (H12.get 8 rfl)).mono ?_
  rintro e W13 ⟨rS2, S2, rfl, g13, t13, v13, b13⟩
  have TS2 : Hid (Tr S2 ∧ val S2 = val A ^^^ val B) := ⟨t13, v13⟩
  have H13 := (H12.next b13).cons g13
  have B13 := B12.trans (b13.mono B12.size)
  clear H12 g13 b13 B12 t13 v13
  have lS2 : S2.length ≤ 120 := len_sum hA.out hB.out (by omega) (by omega) TS2.out
  have HSS : Hid (S = S2) := TS.out.1.inj TS2.out.1 (TS.out.2.trans TS2.out.2.symm)
  go_wp2_with fail
  refine (ints_any _ _ S S2 _ _ _ (by omega) (H13.get 4 rfl).1 (H13.get 0 rfl).1).mono ?_
  rw [decide_eq_true (HSS.out)]
  rintro e W14 ⟨rfl, q14, hW14⟩
  have H14 := H13.drewN q14
  have B14 := below_drewN B13 q14
  rw [← hW14] at H14 B14
  clear H13 B13 hW14
  go_wp2_with fail
  refine (refMul_any _ _ A B (by omega) hA.out hB.out _ (H14.get 10 rfl) (H14.get 9 rfl)).mono ?_
  rintro e W15 ⟨rM2, M2, rfl, g15, t15, v15, b15⟩
  have TM2 : Hid (Tr M2 ∧ val M2 = cl (val A) (val B)) := ⟨t15, v15⟩
  have H15 := (H14.next b15).cons g15
  have B15 := B14.trans (b15.mono B14.size)
  clear H14 g15 b15 B14 t15 v15
  have lM2 : M2.length ≤ 120 + 120 := len_mul hA.out hB.out (by omega) (by omega) TM2.out
  have HMM : Hid (M = M2) := TM.out.1.inj TM2.out.1 (TM.out.2.trans TM2.out.2.symm)
  go_wp2_with fail
  refine (ints_any _ _ M M2 _ _ _ (by omega) (H15.get 4 rfl).1 (H15.get 0 rfl).1).mono ?_
  rw [decide_eq_true (HMM.out)]
  rintro e W16 ⟨rfl, q16, hW16⟩
  have H16 := H15.drewN q16
  have B16 := below_drewN B15 q16
  rw [← hW16] at H16 B16
  clear H15 B15 hW16
  go_wp2_with fail
  refine (refTrim_any _ B (by omega) hB.out _ (H16.get 10 rfl)).mono ?_
  rintro e W17 ⟨rD, D, rfl, g17, t17, v17, b17⟩
  have TD : Hid (Tr D ∧ val D = val B) := ⟨t17, v17⟩
  have H17 := (H16.next b17).cons g17
  have B17 := B16.trans (b17.mono B16.size)
  clear H16 g17 b17 B16 t17 v17
  have hDp : 0 < D.length := List.length_pos_iff.2 (tr_top TD.out hZ.out).1
  have hDe : ((D.length : Int) == 0) = false := beq_eq_false_iff_ne.2 (by omega)
  obtain ⟨ad1, cd1, rfl⟩ := (H17.get 0 rfl).1.shape
  go_wp2_with fail
  refine (refDiv_any _ _ A B (by omega) (by omega) hA.out hB.out hZ.out _ (H17.get 12 rfl) (H17.get 11 rfl)).mono ?_
  rintro e W18 ⟨rU, rV, U, V, ns, rfl, gq, gr, hns, hqt, b18⟩
  have DU : Hid (Quot A B U V ns ∧ Tr ns ∧ val ns = val B) := ⟨hqt, hns⟩
  have H18 := ((H17.next b18).cons gq).cons gr
  have B18 := B17.trans (b18.mono B17.size)
  clear H17 gq gr b18 B17 hns hqt
  have emn : ms = ns := DQ.out.2.1.inj DU.out.2.1 (DQ.out.2.2.trans DU.out.2.2.symm)
  have hone := DQ.out.1.once (q := val U) (r := val V) DQ.out.2 hZ.out (by rw [emn]; exact DU.out.1.2.2.2) DU.out.1.2.2.1
  have HQU : Hid (Q = U) := DQ.out.1.1.inj DU.out.1.1 hone.1
  have HRV : Hid (R = V) := DQ.out.1.2.1.inj DU.out.1.2.1 hone.2
  have lU : U.length ≤ 120 := DU.out.1.len hZ.out hA.out h0 (len_trim hB.out h1 DU.out.2)
  have lV : V.length < ns.length := DU.out.1.less DU.out.2 hZ.out
  have lns : ns.length ≤ 120 := len_trim hB.out h1 DU.out.2
  clear emn hone
  go_wp2_with fail
  refine (ints_any _ _ Q U _ _ _ (by omega) (H18.get 6 rfl).1 (H18.get 1 rfl).1).mono ?_
  rw [decide_eq_true (HQU.out)]
  rintro e W19 ⟨rfl, q19, hW19⟩
  have H19 := H18.drewN q19
  have B19 := below_drewN B18 q19
  rw [← hW19] at H19 B19
  clear H18 B18 hW19
  go_wp2_with fail
  refine (ints_any _ _ R V _ _ _ (by omega) (H19.get 5 rfl).1 (H19.get 0 rfl).1).mono ?_
  rw [decide_eq_true (HRV.out)]
  rintro e W20 ⟨rfl, q20, hW20⟩
  have H20 := H19.drewN q20
  have B20 := below_drewN B19 q20
  rw [← hW20] at H20 B20
  clear H19 B19 hW20
  go_wp2_with fail
  refine (wakes_any _).mono ?_
  rintro e w9 ⟨rfl, hw⟩
  have B99 := B20.trans (hw.mono B20.size)
  clear B20 H20 hw
  go_wp2
  go_ret
  exact ⟨rfl, B99⟩

/-- The law. -/
theorem polyExact_walk (a0 : Option Addr) (len0 cap0 : Nat) (z0 : List Int) (a1 : Option Addr) (len1 cap1 : Nat) (z1 : List Int) (w : World) (w0 : IsRow .i64 w a0 len0 cap0 z0) (w1 : IsRow .i64 w a1 len1 cap1 z1) :
    Calls Try.prog 3 #[.slice a0 len0 cap0, .slice a1 len1 cap1] w fun e w' => e = .returned (.bool true) ∧ Below w.heap.size w w' := by
  obtain ⟨xs, rfl, hx, _⟩ := has_of_isRow w0
  obtain ⟨ys, rfl, hy, _⟩ := has_of_isRow w1
  have H := ((All.nil w).cons hx).cons hy
  by_cases h : 120 < xs.length ∨ 120 < ys.length
  · exact polyExact_long a0 a1 _ _ cap0 cap1 w h
  · by_cases hA : Bin xs
    · by_cases hB : Bin ys
      · by_cases hZ : val ys = 0
        · exact polyExact_zeroB _ _ xs ys (by omega) (by omega) hA hB hZ w H
        · exact polyExact_full _ _ xs ys (by omega) (by omega) hA hB hZ w H
      · exact polyExact_notB _ _ xs ys (by omega) (by omega) hA hB w H
    · exact polyExact_notA _ _ xs ys (by omega) (by omega) hA w H

end Go.Proofs.Ytecfniimpedlkaa
