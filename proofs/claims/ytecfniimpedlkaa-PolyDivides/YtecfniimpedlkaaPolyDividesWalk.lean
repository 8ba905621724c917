/-
  The law PolyDivides of stage 2, of whatever three rows.
-/
import Derived.Test.YtecfniimpedlkaaGfAll
import Derived.Test.YtecfniimpedlkaaRefTrim
import Derived.Test.YtecfniimpedlkaaDivLaws
namespace Go.Proofs.Ytecfniimpedlkaa
open Go.RowKit

set_option maxRecDepth 100000 in
set_option maxHeartbeats 1000000 in
theorem polyDivides_long (a0 a1 a2 : Option Addr) (n0 n1 n2 c0 c1 c2 : Nat) (w : World) (h : 120 < n0 ∨ 120 < n1 ∨ 120 < n2) :
    Calls Try.prog 5 #[.slice a0 n0 c0, .slice a1 n1 c1, .slice a2 n2 c2] w fun e w' => e = .returned (.bool true) ∧ Below w.heap.size w w' := by
  by_cases g0 : 120 < n0
  · go_enter Try.func5, Try.ntmps5
    go_wp2
    go_ret
    exact ⟨rfl, Below.refl _ _⟩
  · by_cases g1 : 120 < n1
    · go_enter Try.func5, Try.ntmps5
      go_wp2
      go_ret
      exact ⟨rfl, Below.refl _ _⟩
    · have g2 : 120 < n2 := by omega
      clear h
      go_enter Try.func5, Try.ntmps5
      go_wp2
      go_ret
      exact ⟨rfl, Below.refl _ _⟩

set_option maxRecDepth 100000 in
set_option maxHeartbeats 8000000 in
theorem polyDivides_short (v0 v1 v2 : Value) (xs0 xs1 xs2 : List Int) (h0 : xs0.length ≤ 120) (h1 : xs1.length ≤ 120) (h2 : xs2.length ≤ 120) (w : World) (H0 : All w [(v2, xs2), (v1, xs1), (v0, xs0)]) :
    Calls Try.prog 5 #[v0, v1, v2] w fun e w' => e = .returned (.bool true) ∧ Below w.heap.size w w' := by
  obtain ⟨a0, c0, rfl⟩ := (H0.get 2 rfl).1.shape
  obtain ⟨a1, c1, rfl⟩ := (H0.get 1 rfl).1.shape
  obtain ⟨a2, c2, rfl⟩ := (H0.get 0 rfl).1.shape
  have B0 := Below.refl w.heap.size w
  go_enter Try.func5, Try.ntmps5
  go_wp2_with fail
  refine (bits_any _ xs0 (by omega) _ (H0.get 2 rfl)).mono ?_
  rintro e W1 ⟨rA, A, rfl, g1, binA, lenA, b1⟩
  have H1 := (H0.next b1).cons g1
  have B1 := B0.trans (b1.mono B0.size)
  clear H0 g1 b1 B0
  go_wp2_with fail
  refine (bits_any _ xs1 (by omega) _ (H1.get 2 rfl)).mono ?_
  rintro e W2 ⟨rM, M, rfl, g2, binM, lenM, b2⟩
  have H2 := (H1.next b2).cons g2
  have B2 := B1.trans (b2.mono B1.size)
  clear H1 g2 b2 B1
  go_wp2_with fail
  refine (bits_any _ xs2 (by omega) _ (H2.get 2 rfl)).mono ?_
  rintro e W3 ⟨rE, E, rfl, g3, binE, lenE, b3⟩
  have H3 := (H2.next b3).cons g3
  have B3 := B2.trans (b3.mono B2.size)
  clear H2 g3 b3 B2
  have lA : A.length ≤ 120 := by omega
  have lM : M.length ≤ 120 := by omega
  have lE : E.length ≤ 120 := by omega
  clear lenA lenM lenE
  go_wp2_with fail
  refine (trim_ok _ M (by omega) binM _ (H3.get 1 rfl)).mono ?_
  rintro e W4 ⟨rT, T, rfl, g4, t4, v4, b4⟩
  have TT : Hid (Tr T ∧ val T = val M) := ⟨t4, v4⟩
  have H4 := (H3.next b4).cons g4
  have B4 := B3.trans (b4.mono B3.size)
  clear H3 g4 b4 B3 t4 v4
  go_wp2_with fail
  refine (refTrim_any _ M (by omega) binM _ (H4.get 2 rfl)).mono ?_
  rintro e W5 ⟨rD, D, rfl, g5, t5, v5, b5⟩
  have TD : Hid (Tr D ∧ val D = val M) := ⟨t5, v5⟩
  have H5 := (H4.next b5).cons g5
  have B5 := B4.trans (b5.mono B4.size)
  clear H4 g5 b5 B4 t5 v5
  have lT : T.length ≤ 120 := len_trim binM lM TT.out
  by_cases hM0 : val M = 0
  · obtain rfl := TT.out.1.eq_nil (TT.out.2.trans hM0)
    obtain rfl := TD.out.1.eq_nil (TD.out.2.trans hM0)
    obtain ⟨at1, ct1, rfl⟩ := (H5.get 1 rfl).1.shape
    obtain ⟨ad1, cd1, rfl⟩ := (H5.get 0 rfl).1.shape
    clear hM0
    go_wp2_with fail
    refine (wakes_any _).mono ?_
    rintro e w9 ⟨rfl, hw⟩
    have B99 := B5.trans (hw.mono B5.size)
    clear B5 H5 hw
    go_wp2
    go_ret
    exact ⟨rfl, B99⟩
  · have HM0 : Hid (val M ≠ 0) := hM0
    have hTp : 0 < T.length := List.length_pos_iff.2 (tr_top TT.out hM0).1
    obtain rfl := TT.out.1.inj TD.out.1 (TT.out.2.trans TD.out.2.symm)
    clear hM0
    obtain ⟨at1, ct1, rfl⟩ := (H5.get 1 rfl).1.shape
    obtain ⟨ad1, cd1, rfl⟩ := (H5.get 0 rfl).1.shape
    go_wp2_with fail
    refine (div_ok _ _ A M (by omega) (by omega) binA binM HM0.out _ (H5.get 4 rfl) (H5.get 3 rfl)).mono ?_
    rintro e W6 ⟨rQ, rR, Q, R, ms, rfl, gq, gr, tq, tr, tm, em, es, hlow, b6⟩
    rw [tm.inj TT.out.1 (em.trans TT.out.2.symm)] at hlow
    have DQ : Hid (Quot A M Q R T) := ⟨tq, tr, es, hlow⟩
    have H6 := ((H5.next b6).cons gq).cons gr
    have B6 := B5.trans (b6.mono B5.size)
    clear H5 gq gr b6 B5 tq tr tm em es hlow
    have lQ : Q.length ≤ 120 := DQ.out.len HM0.out binA lA lT
    have lR : R.length < T.length := DQ.out.less TT.out HM0.out
    go_wp2_with fail
    refine (mul_ok _ _ Q M (by omega) DQ.out.1.1 binM _ (H6.get 1 rfl) (H6.get 5 rfl)).mono ?_
    rintro e W7 ⟨rP, P, rfl, g7, t7, v7, b7⟩
    have TP : Hid (Tr P ∧ val P = cl (val Q) (val M)) := ⟨t7, v7⟩
    have H7 := (H6.next b7).cons g7
    have B7 := B6.trans (b7.mono B6.size)
    clear H6 g7 b7 B6 t7 v7
    have lP : P.length ≤ 240 := len_mul DQ.out.1.1 binM lQ lM TP.out
    go_wp2_with fail
    refine (add_ok _ _ P R (by omega) (by omega) TP.out.1.1 DQ.out.2.1.1 _ (H7.get 0 rfl) (H7.get 1 rfl)).mono ?_
    rintro e W8 ⟨rS, S, rfl, g8, t8, v8, b8⟩
    have TS : Hid (Tr S ∧ val S = val P ^^^ val R) := ⟨t8, v8⟩
    have H8 := (H7.next b8).cons g8
    have B8 := B7.trans (b8.mono B7.size)
    clear H7 g8 b8 B7 t8 v8
    go_wp2_with fail
    refine (trim_ok _ A (by omega) binA _ (H8.get 8 rfl)).mono ?_
    rintro e W9 ⟨rO, O, rfl, g9, t9, v9, b9⟩
    have TO : Hid (Tr O ∧ val O = val A) := ⟨t9, v9⟩
    have H9 := (H8.next b9).cons g9
    have B9 := B8.trans (b9.mono B8.size)
    clear H8 g9 b9 B8 t9 v9
    have lO : O.length ≤ 120 := len_trim binA lA TO.out
    have HSO : Hid (S = O) := TS.out.1.inj TO.out.1 (by rw [TS.out.2, TO.out.2, TP.out.2]; exact DQ.out.2.2.1.symm)
    obtain ⟨ar1, cr1, rfl⟩ := (H9.get 3 rfl).1.shape
    go_wp2_with fail
    refine (ints_any _ _ S O _ _ _ (by omega) (H9.get 1 rfl).1 (H9.get 0 rfl).1).mono ?_
    rw [decide_eq_true (HSO.out)]
    rintro e W10 ⟨rfl, q10, hW10⟩
    have H10 := H9.drewN q10
    have B10 := below_drewN B9 q10
    rw [← hW10] at H10 B10
    clear H9 B9 hW10
    go_wp2_with fail
    refine (div_ok _ _ P M (by omega) (by omega) TP.out.1.1 binM HM0.out _ (H10.get 2 rfl) (H10.get 8 rfl)).mono ?_
    rintro e W11 ⟨rQ2, rX, Q2, X, ms, rfl, gq, gr, tq, tr, tm, em, es, hlow, b11⟩
    rw [tm.inj TT.out.1 (em.trans TT.out.2.symm)] at hlow
    have DQ2 : Hid (Quot P M Q2 X T) := ⟨tq, tr, es, hlow⟩
    have H11 := ((H10.next b11).cons gq).cons gr
    have B11 := B10.trans (b11.mono B10.size)
    clear H10 gq gr b11 B10 tq tr tm em es hlow
    obtain rfl := DQ2.out.2.1.eq_nil (DQ2.out.once (q := val Q) (r := 0) TT.out HM0.out (Nat.two_pow_pos _) (by rw [TP.out.2, Nat.xor_zero])).2
    obtain ⟨ax1, cx1, rfl⟩ := (H11.get 0 rfl).1.shape
    go_wp2_with fail
    refine (div_ok _ _ E M (by omega) (by omega) binE binM HM0.out _ (H11.get 9 rfl) (H11.get 10 rfl)).mono ?_
    rintro e W12 ⟨rQ3, rY, Q3, Y, ms, rfl, gq, gr, tq, tr, tm, em, es, hlow, b12⟩
    rw [tm.inj TT.out.1 (em.trans TT.out.2.symm)] at hlow
    have DQ3 : Hid (Quot E M Q3 Y T) := ⟨tq, tr, es, hlow⟩
    have H12 := ((H11.next b12).cons gq).cons gr
    have B12 := B11.trans (b12.mono B11.size)
    clear H11 gq gr b12 B11 tq tr tm em es hlow
    go_wp2_with fail
    refine (add_ok _ _ P E (by omega) (by omega) TP.out.1.1 binE _ (H12.get 6 rfl) (H12.get 11 rfl)).mono ?_
    rintro e W13 ⟨rU, U, rfl, g13, t13, v13, b13⟩
    have TU : Hid (Tr U ∧ val U = val P ^^^ val E) := ⟨t13, v13⟩
    have H13 := (H12.next b13).cons g13
    have B13 := B12.trans (b13.mono B12.size)
    clear H12 g13 b13 B12 t13 v13
    have lU : U.length ≤ 240 := len_sum TP.out.1.1 binE lP (by omega) TU.out
    go_wp2_with fail
    refine (div_ok _ _ U M (by omega) (by omega) TU.out.1.1 binM HM0.out _ (H13.get 0 rfl) (H13.get 13 rfl)).mono ?_
    rintro e W14 ⟨rQ4, rZ, Q4, Z, ms, rfl, gq, gr, tq, tr, tm, em, es, hlow, b14⟩
    rw [tm.inj TT.out.1 (em.trans TT.out.2.symm)] at hlow
    have DQ4 : Hid (Quot U M Q4 Z T) := ⟨tq, tr, es, hlow⟩
    have H14 := ((H13.next b14).cons gq).cons gr
    have B14 := B13.trans (b14.mono B13.size)
    clear H13 gq gr b14 B13 tq tr tm em es hlow
    have lY : Y.length < T.length := DQ3.out.less TT.out HM0.out
    have HZY : Hid (Z = Y) := DQ4.out.2.1.inj DQ3.out.2.1 (DQ4.out.once (q := val Q ^^^ val Q3) (r := val Y) TT.out HM0.out DQ3.out.2.2.2 (by rw [TU.out.2, TP.out.2, DQ3.out.2.2.1, cl_xor_left, Nat.xor_assoc])).2
    go_wp2_with fail
    refine (ints_any _ _ Z Y _ _ _ (by omega) (H14.get 0 rfl).1 (H14.get 3 rfl).1).mono ?_
    rw [decide_eq_true (HZY.out)]
    rintro e W15 ⟨rfl, q15, hW15⟩
    have H15 := H14.drewN q15
    have B15 := below_drewN B14 q15
    rw [← hW15] at H15 B15
    clear H14 B14 hW15
    go_wp2_with fail
    refine (wakes_any _).mono ?_
    rintro e w9 ⟨rfl, hw⟩
    have B99 := B15.trans (hw.mono B15.size)
    clear B15 H15 hw
    go_wp2
    go_ret
    exact ⟨rfl, B99⟩

/-- The law. -/
theorem polyDivides_walk (a0 : Option Addr) (len0 cap0 : Nat) (z0 : List Int) (a1 : Option Addr) (len1 cap1 : Nat) (z1 : List Int) (a2 : Option Addr) (len2 cap2 : Nat) (z2 : List Int) (w : World) (w0 : IsRow .i64 w a0 len0 cap0 z0) (w1 : IsRow .i64 w a1 len1 cap1 z1) (w2 : IsRow .i64 w a2 len2 cap2 z2) :
    Calls Try.prog 5 #[.slice a0 len0 cap0, .slice a1 len1 cap1, .slice a2 len2 cap2] w fun e w' => e = .returned (.bool true) ∧ Below w.heap.size w w' := by
  obtain ⟨xs, rfl, hx, _⟩ := has_of_isRow w0
  obtain ⟨ys, rfl, hy, _⟩ := has_of_isRow w1
  obtain ⟨zs, rfl, hz, _⟩ := has_of_isRow w2
  by_cases h : 120 < xs.length ∨ 120 < ys.length ∨ 120 < zs.length
  · exact polyDivides_long a0 a1 a2 _ _ _ cap0 cap1 cap2 w h
  · exact polyDivides_short _ _ _ xs ys zs (by omega) (by omega) (by omega) w ((((All.nil w).cons hx).cons hy).cons hz)

end Go.Proofs.Ytecfniimpedlkaa
