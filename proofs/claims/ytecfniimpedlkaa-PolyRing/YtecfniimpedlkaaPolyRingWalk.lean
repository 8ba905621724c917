/-
  The law PolyRing of stage 2, of whatever three rows.
-/
import Derived.Test.YtecfniimpedlkaaGfAll
namespace Go.Proofs.Ytecfniimpedlkaa
open Go.RowKit

set_option maxRecDepth 100000 in
set_option maxHeartbeats 1000000 in
theorem polyRing_long (a0 a1 a2 : Option Addr) (n0 n1 n2 c0 c1 c2 : Nat) (w : World) (h : 120 < n0 ∨ 120 < n1 ∨ 120 < n2) :
    Calls Try.prog 4 #[.slice a0 n0 c0, .slice a1 n1 c1, .slice a2 n2 c2] w fun e w' => e = .returned (.bool true) ∧ Below w.heap.size w w' := by
  by_cases g0 : 120 < n0
  · go_enter Try.func4, Try.ntmps4
    go_wp2
    go_ret
    exact ⟨rfl, Below.refl _ _⟩
  · by_cases g1 : 120 < n1
    · go_enter Try.func4, Try.ntmps4
      go_wp2
      go_ret
      exact ⟨rfl, Below.refl _ _⟩
    · have g2 : 120 < n2 := by omega
      clear h
      go_enter Try.func4, Try.ntmps4
      go_wp2
      go_ret
      exact ⟨rfl, Below.refl _ _⟩

set_option maxRecDepth 100000 in
set_option maxHeartbeats 8000000 in
theorem polyRing_short (v0 v1 v2 : Value) (xs0 xs1 xs2 : List Int) (h0 : xs0.length ≤ 120) (h1 : xs1.length ≤ 120) (h2 : xs2.length ≤ 120) (w : World) (H0 : All w [(v2, xs2), (v1, xs1), (v0, xs0)]) :
    Calls Try.prog 4 #[v0, v1, v2] w fun e w' => e = .returned (.bool true) ∧ Below w.heap.size w w' := by
  obtain ⟨a0, c0, rfl⟩ := (H0.get 2 rfl).1.shape
  obtain ⟨a1, c1, rfl⟩ := (H0.get 1 rfl).1.shape
  obtain ⟨a2, c2, rfl⟩ := (H0.get 0 rfl).1.shape
  have B0 := Below.refl w.heap.size w
  go_enter Try.func4, Try.ntmps4
  go_wp2_with fail
  refine (bits_any _ xs0 (by omega) _ (H0.get 2 rfl)).mono ?_
  rintro e W1 ⟨rA, A, rfl, g1, binA, lenA, b1⟩
  have H1 := (H0.next b1).cons g1
  have B1 := B0.trans (b1.mono B0.size)
  clear H0 g1 b1 B0
  go_wp2_with fail
  refine (bits_any _ xs1 (by omega) _ (H1.get 2 rfl)).mono ?_
  rintro e W2 ⟨rB, B, rfl, g2, binB, lenB, b2⟩
  have H2 := (H1.next b2).cons g2
  have B2 := B1.trans (b2.mono B1.size)
  clear H1 g2 b2 B1
  go_wp2_with fail
  refine (bits_any _ xs2 (by omega) _ (H2.get 2 rfl)).mono ?_
  rintro e W3 ⟨rC, C, rfl, g3, binC, lenC, b3⟩
  have H3 := (H2.next b3).cons g3
  have B3 := B2.trans (b3.mono B2.size)
  clear H2 g3 b3 B2
  have lA : A.length ≤ 120 := by omega
  have lB : B.length ≤ 120 := by omega
  have lC : C.length ≤ 120 := by omega
  clear lenA lenB lenC
  go_wp2_with fail
  refine (add_ok _ _ A B (by omega) (by omega) binA binB _ (H3.get 2 rfl) (H3.get 1 rfl)).mono ?_
  rintro e W4 ⟨rS, S, rfl, g4, t4, v4, b4⟩
  have TS : Hid (Tr S ∧ val S = val A ^^^ val B) := ⟨t4, v4⟩
  have H4 := (H3.next b4).cons g4
  have B4 := B3.trans (b4.mono B3.size)
  clear H3 g4 b4 B3 t4 v4
  go_wp2_with fail
  refine (add_ok _ _ B A (by omega) (by omega) binB binA _ (H4.get 2 rfl) (H4.get 3 rfl)).mono ?_
  rintro e W5 ⟨rT, T, rfl, g5, t5, v5, b5⟩
  have TT : Hid (Tr T ∧ val T = val B ^^^ val A) := ⟨t5, v5⟩
  have H5 := (H4.next b5).cons g5
  have B5 := B4.trans (b5.mono B4.size)
  clear H4 g5 b5 B4 t5 v5
  go_wp2_with fail
  refine (mul_ok _ _ A B (by omega) binA binB _ (H5.get 4 rfl) (H5.get 3 rfl)).mono ?_
  rintro e W6 ⟨rM, M, rfl, g6, t6, v6, b6⟩
  have TM : Hid (Tr M ∧ val M = cl (val A) (val B)) := ⟨t6, v6⟩
  have H6 := (H5.next b6).cons g6
  have B6 := B5.trans (b6.mono B5.size)
  clear H5 g6 b6 B5 t6 v6
  go_wp2_with fail
  refine (mul_ok _ _ B A (by omega) binB binA _ (H6.get 4 rfl) (H6.get 5 rfl)).mono ?_
  rintro e W7 ⟨rN, N, rfl, g7, t7, v7, b7⟩
  have TN : Hid (Tr N ∧ val N = cl (val B) (val A)) := ⟨t7, v7⟩
  have H7 := (H6.next b7).cons g7
  have B7 := B6.trans (b7.mono B6.size)
  clear H6 g7 b7 B6 t7 v7
  go_wp2_with fail
  refine (add_ok _ _ A A (by omega) (by omega) binA binA _ (H7.get 6 rfl) (H7.get 6 rfl)).mono ?_
  rintro e W8 ⟨rZ, Z, rfl, g8, t8, v8, b8⟩
  have TZ : Hid (Tr Z ∧ val Z = val A ^^^ val A) := ⟨t8, v8⟩
  have H8 := (H7.next b8).cons g8
  have B8 := B7.trans (b8.mono B7.size)
  clear H7 g8 b8 B7 t8 v8
  have lS : S.length ≤ 120 := len_sum binA binB lA lB TS.out
  have lM : M.length ≤ 240 := len_mul binA binB lA lB TM.out
  have lT : T.length ≤ 120 := len_sum binB binA lB lA TT.out
  have lN : N.length ≤ 240 := len_mul binB binA lB lA TN.out
  have eST : S = T := TS.out.1.inj TT.out.1 (by rw [TS.out.2, TT.out.2, Nat.xor_comm])
  have eMN : M = N := TM.out.1.inj TN.out.1 (by rw [TM.out.2, TN.out.2, cl_comm])
  have HST : Hid (S = T) := eST
  have HMN : Hid (M = N) := eMN
  clear eST eMN
  obtain rfl := TZ.out.1.eq_nil (by rw [TZ.out.2, Nat.xor_self])
  obtain ⟨az, cz, rfl⟩ := (H8.get 0 rfl).1.shape
  go_wp2_with fail
  refine (ints_any _ _ S T _ _ _ (by omega) (H8.get 4 rfl).1 (H8.get 3 rfl).1).mono ?_
  rw [decide_eq_true (HST.out)]
  rintro e W9 ⟨rfl, q9, hW9⟩
  have H9 := H8.drewN q9
  have B9 := below_drewN B8 q9
  rw [← hW9] at H9 B9
  clear H8 B8 hW9
  go_wp2_with fail
  refine (ints_any _ _ M N _ _ _ (by omega) (H9.get 2 rfl).1 (H9.get 1 rfl).1).mono ?_
  rw [decide_eq_true (HMN.out)]
  rintro e W10 ⟨rfl, q10, hW10⟩
  have H10 := H9.drewN q10
  have B10 := below_drewN B9 q10
  rw [← hW10] at H10 B10
  clear H9 B9 hW10
  go_wp2_with fail
  refine (mul_ok _ _ S C (by omega) TS.out.1.1 binC _ (H10.get 4 rfl) (H10.get 5 rfl)).mono ?_
  rintro e W11 ⟨rX, X, rfl, g11, t11, v11, b11⟩
  have TX : Hid (Tr X ∧ val X = cl (val S) (val C)) := ⟨t11, v11⟩
  have H11 := (H10.next b11).cons g11
  have B11 := B10.trans (b11.mono B10.size)
  clear H10 g11 b11 B10 t11 v11
  go_wp2_with fail
  refine (mul_ok _ _ A C (by omega) binA binC _ (H11.get 8 rfl) (H11.get 6 rfl)).mono ?_
  rintro e W12 ⟨rU, U, rfl, g12, t12, v12, b12⟩
  have TU : Hid (Tr U ∧ val U = cl (val A) (val C)) := ⟨t12, v12⟩
  have H12 := (H11.next b12).cons g12
  have B12 := B11.trans (b12.mono B11.size)
  clear H11 g12 b12 B11 t12 v12
  go_wp2_with fail
  refine (mul_ok _ _ B C (by omega) binB binC _ (H12.get 8 rfl) (H12.get 7 rfl)).mono ?_
  rintro e W13 ⟨rV, V, rfl, g13, t13, v13, b13⟩
  have TV : Hid (Tr V ∧ val V = cl (val B) (val C)) := ⟨t13, v13⟩
  have H13 := (H12.next b13).cons g13
  have B13 := B12.trans (b13.mono B12.size)
  clear H12 g13 b13 B12 t13 v13
  have lX : X.length ≤ 240 := len_mul TS.out.1.1 binC lS lC TX.out
  have lU : U.length ≤ 240 := len_mul binA binC lA lC TU.out
  have lV : V.length ≤ 240 := len_mul binB binC lB lC TV.out
  go_wp2_with fail
  refine (add_ok _ _ U V (by omega) (by omega) TU.out.1.1 TV.out.1.1 _ (H13.get 1 rfl) (H13.get 0 rfl)).mono ?_
  rintro e W14 ⟨rO, O, rfl, g14, t14, v14, b14⟩
  have TO : Hid (Tr O ∧ val O = val U ^^^ val V) := ⟨t14, v14⟩
  have H14 := (H13.next b14).cons g14
  have B14 := B13.trans (b14.mono B13.size)
  clear H13 g14 b14 B13 t14 v14
  go_wp2_with fail
  refine (mul_ok _ _ M C (by omega) TM.out.1.1 binC _ (H14.get 6 rfl) (H14.get 9 rfl)).mono ?_
  rintro e W15 ⟨rP, P, rfl, g15, t15, v15, b15⟩
  have TP : Hid (Tr P ∧ val P = cl (val M) (val C)) := ⟨t15, v15⟩
  have H15 := (H14.next b15).cons g15
  have B15 := B14.trans (b15.mono B14.size)
  clear H14 g15 b15 B14 t15 v15
  go_wp2_with fail
  refine (mul_ok _ _ A V (by omega) binA TV.out.1.1 _ (H15.get 12 rfl) (H15.get 2 rfl)).mono ?_
  rintro e W16 ⟨rQ, Q, rfl, g16, t16, v16, b16⟩
  have TQ : Hid (Tr Q ∧ val Q = cl (val A) (val V)) := ⟨t16, v16⟩
  have H16 := (H15.next b16).cons g16
  have B16 := B15.trans (b16.mono B15.size)
  clear H15 g16 b16 B15 t16 v16
  have lO : O.length ≤ 240 := len_sum TU.out.1.1 TV.out.1.1 lU lV TO.out
  have lQ : Q.length ≤ 360 := len_mul binA TV.out.1.1 lA lV TQ.out
  have HXO : Hid (X = O) := TX.out.1.inj TO.out.1 (by rw [TX.out.2, TO.out.2, TS.out.2, TU.out.2, TV.out.2, cl_xor_left])
  have HPQ : Hid (P = Q) := TP.out.1.inj TQ.out.1 (by rw [TP.out.2, TQ.out.2, TM.out.2, TV.out.2, cl_assoc])
  go_wp2_with fail
  refine (ints_any _ _ X O _ _ _ (by omega) (H16.get 5 rfl).1 (H16.get 2 rfl).1).mono ?_
  rw [decide_eq_true (HXO.out)]
  rintro e W17 ⟨rfl, q17, hW17⟩
  have H17 := H16.drewN q17
  have B17 := below_drewN B16 q17
  rw [← hW17] at H17 B17
  clear H16 B16 hW17
  go_wp2_with fail
  refine (ints_any _ _ P Q _ _ _ (by omega) (H17.get 1 rfl).1 (H17.get 0 rfl).1).mono ?_
  rw [decide_eq_true (HPQ.out)]
  rintro e W18 ⟨rfl, q18, hW18⟩
  have H18 := H17.drewN q18
  have B18 := below_drewN B17 q18
  rw [← hW18] at H18 B18
  clear H17 B17 hW18
  go_wp2_with fail
  refine (wakes_any _).mono ?_
  rintro e w9 ⟨rfl, hw⟩
  have B99 := B18.trans (hw.mono B18.size)
  clear B18 H18 hw
  go_wp2
  go_ret
  exact ⟨rfl, B99⟩

/-- The law. -/
theorem polyRing_walk (a0 : Option Addr) (len0 cap0 : Nat) (z0 : List Int) (a1 : Option Addr) (len1 cap1 : Nat) (z1 : List Int) (a2 : Option Addr) (len2 cap2 : Nat) (z2 : List Int) (w : World) (w0 : IsRow .i64 w a0 len0 cap0 z0) (w1 : IsRow .i64 w a1 len1 cap1 z1) (w2 : IsRow .i64 w a2 len2 cap2 z2) :
    Calls Try.prog 4 #[.slice a0 len0 cap0, .slice a1 len1 cap1, .slice a2 len2 cap2] w fun e w' => e = .returned (.bool true) ∧ Below w.heap.size w w' := by
  obtain ⟨xs, rfl, hx, _⟩ := has_of_isRow w0
  obtain ⟨ys, rfl, hy, _⟩ := has_of_isRow w1
  obtain ⟨zs, rfl, hz, _⟩ := has_of_isRow w2
  by_cases h : 120 < xs.length ∨ 120 < ys.length ∨ 120 < zs.length
  · exact polyRing_long a0 a1 a2 _ _ _ cap0 cap1 cap2 w h
  · exact polyRing_short _ _ _ xs ys zs (by omega) (by omega) (by omega) w ((((All.nil w).cons hx).cons hy).cons hz)

end Go.Proofs.Ytecfniimpedlkaa
