/-
  The law PolyPowers of stage 2, of whatever two rows and number.
-/
import Derived.Test.YtecfniimpedlkaaGfAll
import Derived.Test.YtecfniimpedlkaaDivLaws
namespace Go.Proofs.Ytecfniimpedlkaa
open Go.RowKit

theorem which_mod40 (n : Int) : ∃ k : Nat, k < 40 ∧ (IntKind.u64.wrap n).tmod 40 = (k : Int) := by
  have hu : 0 ≤ IntKind.u64.wrap n := by simp [IntKind.wrap, IntKind.bits, IntKind.signed]; omega
  rw [Int.tmod_eq_emod_of_nonneg hu]
  exact ⟨(IntKind.u64.wrap n % 40).toNat, by omega, by omega⟩

def TrOf (T M : List Int) : Prop := Tr T ∧ val T = val M

theorem tr_noughts {T : List Int} (h : Tr T) (h0 : T ≠ []) (k : Nat) : Tr (T ++ List.replicate k 0) := by
  refine ⟨h.1.append (Bin.noughts k), ?_⟩
  cases T with
  | nil => exact absurd rfl h0
  | cons x l => exact h.2

theorem holds_take {n₀ cap : Nat} {w : World} {a : Option Addr} {zs : List Int} (h : Holds .i64 n₀ w (.slice a zs.length cap) zs) (k : Nat) (hk : k ≤ zs.length) : Holds .i64 n₀ w (.slice a (zs.take k).length cap) (zs.take k) := by
  rcases h with ⟨⟨a', c', e, ha⟩, hz⟩ | ⟨b, off, c', e, hb, hc⟩
  · subst hz
    cases e
    exact .inl ⟨⟨_, _, by simp, ha⟩, by simp⟩
  · cases e
    refine .inr ⟨b, off, cap, rfl, hb, fun j hj => ?_⟩
    rw [List.length_take] at hj
    rw [hc j (by omega), List.getElem?_take, if_pos (by omega)]

set_option maxRecDepth 100000 in
set_option maxHeartbeats 1000000 in
theorem polyPowers_long (a0 a1 : Option Addr) (n0 n1 c0 c1 : Nat) (n : Int) (w : World) (h : 120 < n0 ∨ 120 < n1) :
    Calls Try.prog 6 #[.slice a0 n0 c0, .slice a1 n1 c1, .int .i64 n] w fun e w' => e = .returned (.bool true) ∧ Below w.heap.size w w' := by
  by_cases g0 : 120 < n0
  · go_enter Try.func6, Try.ntmps6
    go_wp2
    go_ret
    exact ⟨rfl, Below.refl _ _⟩
  · have g1 : 120 < n1 := by omega
    clear h
    go_enter Try.func6, Try.ntmps6
    go_wp2
    go_ret
    exact ⟨rfl, Below.refl _ _⟩

set_option maxRecDepth 100000 in
set_option maxHeartbeats 8000000 in
theorem polyPowers_short (v0 v1 : Value) (n : Int) (xs0 xs1 : List Int) (h0 : xs0.length ≤ 120) (h1 : xs1.length ≤ 120) (w : World) (H0 : All w [(v1, xs1), (v0, xs0)]) :
    Calls Try.prog 6 #[v0, v1, .int .i64 n] w fun e w' => e = .returned (.bool true) ∧ Below w.heap.size w w' := by
  obtain ⟨i0, hi, hz0, hz1, hz2⟩ := info_parts infoI64
  obtain ⟨k, hk40, hkm⟩ := which_mod40 n
  obtain ⟨a0, c0, rfl⟩ := (H0.get 1 rfl).1.shape
  obtain ⟨a1, c1, rfl⟩ := (H0.get 0 rfl).1.shape
  have B0 := Below.refl w.heap.size w
  go_enter Try.func6, Try.ntmps6
  go_wp2_with fail
  refine (bits_any _ xs0 (by omega) _ (H0.get 1 rfl)).mono ?_
  rintro e W1 ⟨rA, A, rfl, g1, binA, lenA, b1⟩
  have H1 := (H0.next b1).cons g1
  have B1 := B0.trans (b1.mono B0.size)
  clear H0 g1 b1 B0
  go_wp2_with fail
  refine (bits_any _ xs1 (by omega) _ (H1.get 1 rfl)).mono ?_
  rintro e W2 ⟨rL0, L0, rfl, g2, binL0, lenL0, b2⟩
  have H2 := (H1.next b2).cons g2
  have B2 := B1.trans (b2.mono B1.size)
  clear H1 g2 b2 B1
  have lA : A.length ≤ 120 := by omega
  have lL0 : L0.length ≤ 120 := by omega
  clear lenA lenL0
  obtain ⟨hLL, hRoom⟩ := (H2.get 0 rfl)
  obtain ⟨al, cl1, rfl⟩ := hLL.shape
  by_cases hlow : k < L0.length
  · obtain ⟨L, hL⟩ : ∃ L, L0.take k = L := ⟨_, rfl⟩
    have lL : L.length = k := by rw [← hL, List.length_take]; omega
    have binL : Bin L := hL ▸ binL0.take k
    obtain ⟨ar1, lr1, cr1, er, hr1, hr2⟩ := hRoom
    cases er
    have hkc : k ≤ cl1 := by omega
    have H3 : All W2 ((.slice al L.length cl1, L) :: [(.slice al L0.length cl1, L0), (rA, A)]) := by
      have hA := (H2.get 1 rfl)
      refine ((((All.nil _).cons hA).cons ⟨hLL, _, _, _, rfl, hr1, hr2⟩).cons ⟨?_, _, _, _, rfl, by omega, hr2⟩)
      exact hL ▸ holds_take hLL k (by omega)
    have B3 := B2
    rw [lL] at H3
    clear hr1 hLL H2 B2 hL
    have hlk : L.length ≤ k := by omega
    go_wp2_with (at_make; refine wpList_make_full _ rfl _ _ 22 rfl W2.heap.size 3 i0 (.int .i64 0) 1 Try.underlying22 hi hz0 hz1 .i64 .i64 _ _ (k + 1) rfl rfl (by omega) (by omega) (by rw [hz2]; omega) (by unfold maxLen; omega) (Nat.le_refl _) ?_; intro W4 hown4 hgrow4; have hr4 := row_made hown4; have hc4 := hr4.cell 0 (x := 0) (by simp); have hf4 := hr4.frozen 0)
    have b4 : Below W2.heap.size W2 W4 := (Below.refl _ W2).grown hgrow4 (Nat.le_refl _) (fun k e => by cases e)
    have hO5 : Only W2.heap.size W4 (W4.setCell ⟨W2.heap.size, 0, none⟩ (.int .i64 1)) := (Only.refl _ _).set _ _
    have hr5 := hr4.set 0 1
    have b5 := b4.trans hO5.1
    obtain ⟨X, hX⟩ : ∃ X, (List.replicate (k + 1) (0 : Int)).set 0 1 = X := ⟨_, rfl⟩
    rw [hX] at hr5
    have lX : X.length = k + 1 := by rw [← hX]; simp
    have binX : Bin X := hX ▸ (Bin.noughts _).set 0 (.inr rfl)
    have trX : Tr X := ⟨binX, by rw [← hX, List.replicate_succ]; simp⟩
    have vX0 : val X = 2 ^ k := by rw [← hX, List.replicate_succ, List.set_cons_zero, val_cons, val_noughts]; simp
    have HX : Hid (Tr X ∧ val X = 2 ^ k) := ⟨trX, vX0⟩
    have hX5 := hr5.has (by omega)
    rw [lX] at hX5
    have H5 := (H3.next b5).cons hX5
    have B5 := B3.trans (b5.mono B3.size)
    clear H3 B3 hown4 hgrow4 b4 hr4 hO5 hr5 b5 hX hX5 trX vX0 hc4 hf4
    generalize W4.setCell ⟨W2.heap.size, 0, none⟩ (.int .i64 1) = W5 at H5 B5 ⊢
    refine (mul_ok _ _ A X (by omega) binA binX _ (H5.get 3 rfl) (H5.get 0 rfl)).mono ?_
    rintro e W6 ⟨rM, M, rfl, g6, t6, v6, b6⟩
    have TM : Hid (Tr M ∧ val M = cl (val A) (val X)) := ⟨t6, v6⟩
    have H6 := (H5.next b6).cons g6
    have B6 := B5.trans (b6.mono B5.size)
    clear H5 g6 b6 B5 t6 v6
    have lM : M.length ≤ 120 + 40 := len_mul binA binX lA (by omega) TM.out
    go_wp2_with fail
    refine (trim_ok _ A (by omega) binA _ (H6.get 4 rfl)).mono ?_
    rintro e W7 ⟨rT, T, rfl, g7, t7, v7, b7⟩
    have TT : Hid (Tr T ∧ val T = val A) := ⟨t7, v7⟩
    have H7 := (H6.next b7).cons g7
    have B7 := B6.trans (b7.mono B6.size)
    clear H6 g7 b7 B6 t7 v7
    have lT : T.length ≤ 120 := len_trim binA lA TT.out
    go_wp2_with fail
    refine (twinInts_any _ T _ (by omega) _ (H7.get 0 rfl).1).mono ?_
    rintro e W8 ⟨r8, rfl, o8, b8⟩
    obtain ⟨at1, ct1, rfl⟩ := (H7.get 0 rfl).1.shape
    have TX : Hid (TrOf X X) := ⟨HX.out.1, rfl⟩
    have HM0 : Hid (val X ≠ 0) := by rw [HX.out.2]; exact Nat.ne_of_gt (Nat.two_pow_pos _)
    have hLk : val L < 2 ^ (X.length - 1) := Nat.lt_of_lt_of_le (val_lt binL) (Nat.pow_le_pow_right (by omega) (by omega))
    have HLK : Hid (val L < 2 ^ (X.length - 1)) := hLk
    clear hLk
    by_cases hT : T = []
    · subst hT
      have H9 := (H7.next b8).cons (row_has o8)
      have B9 := B7.trans (b8.mono B7.size)
      have HMO : Hid (M = ([] : List Int)) := TM.out.1.eq_nil (by rw [TM.out.2, ← TT.out.2, val_nil, cl_zero])
      clear o8 b8 H7 B7
      by_cases hk0 : 0 < k
      · go_wp2
        go_loop [12, 13] (fun v i => v = r8 ∧ i = .int .i64 0) (fun _ _ => 0)
        case atStart => exact ⟨rfl, rfl⟩
        case round =>
          obtain ⟨rfl, rfl⟩ := hrel
          go_wp2_with fail
          refine (add_ok _ _ M L (by omega) (by omega) TM.out.1.1 binL _ (H9.get 2 rfl) (H9.get 4 rfl)).mono ?_
          rintro e W10 ⟨rS, S, rfl, g10, t10, v10, b10⟩
          have TS : Hid (Tr S ∧ val S = val M ^^^ val L) := ⟨t10, v10⟩
          have H10 := (H9.next b10).cons g10
          have B10 := B9.trans (b10.mono B9.size)
          clear H9 g10 b10 B9 t10 v10
          have lS : S.length ≤ 120 + 40 := len_sum TM.out.1.1 binL lM (by omega) TS.out
          go_wp2_with fail
          refine (div_ok _ _ S X (by omega) (by omega) TS.out.1.1 binX HM0.out _ (H10.get 0 rfl) (H10.get 4 rfl)).mono ?_
          rintro e W11 ⟨rQ, rR, Q, R, ms, rfl, gq, gr, tq, tr, tm, em, es, hlow, b11⟩
          rw [tm.inj TX.out.1 (em.trans TX.out.2.symm)] at hlow
          have DQ : Hid (Quot S X Q R X) := ⟨tq, tr, es, hlow⟩
          have H11 := ((H10.next b11).cons gq).cons gr
          have B11 := B10.trans (b11.mono B10.size)
          clear H10 gq gr b11 B10 tq tr tm em es hlow
          go_wp2_with fail
          refine (trim_ok _ L (by omega) binL _ (H11.get 7 rfl)).mono ?_
          rintro e W12 ⟨rG, G, rfl, g12, t12, v12, b12⟩
          have TG : Hid (Tr G ∧ val G = val L) := ⟨t12, v12⟩
          have H12 := (H11.next b12).cons g12
          have B12 := B11.trans (b12.mono B11.size)
          clear H11 g12 b12 B11 t12 v12
          have hone := DQ.out.once (q := val A) (r := val L) TX.out HM0.out HLK.out (by rw [TS.out.2, TM.out.2])
          have HQT : Hid (Q = []) := DQ.out.1.inj TT.out.1 (hone.1.trans TT.out.2.symm)
          have HRG : Hid (R = G) := DQ.out.2.1.inj TG.out.1 (hone.2.trans TG.out.2.symm)
          have lG : G.length ≤ 120 := len_trim binL (by omega) TG.out
          clear hone
          go_wp2_with fail
          refine (ints_any _ _ M [] _ _ _ (Nat.zero_le _) (H12.get 6 rfl).1 (H12.get 4 rfl).1).mono ?_
          rw [decide_eq_true (HMO.out)]
          rintro e W13 ⟨rfl, q13, hW13⟩
          have H13 := H12.drewN q13
          have B13 := below_drewN B12 q13
          rw [← hW13] at H13 B13
          clear H12 B12 hW13
          go_wp2_with fail
          refine (ints_any _ _ Q [] _ _ _ (Nat.zero_le _) (H13.get 2 rfl).1 (H13.get 5 rfl).1).mono ?_
          rw [decide_eq_true (HQT.out)]
          rintro e W14 ⟨rfl, q14, hW14⟩
          have H14 := H13.drewN q14
          have B14 := below_drewN B13 q14
          rw [← hW14] at H14 B14
          clear H13 B13 hW14
          go_wp2_with fail
          refine (ints_any _ _ R G _ _ _ (by omega) (H14.get 1 rfl).1 (H14.get 0 rfl).1).mono ?_
          rw [decide_eq_true (HRG.out)]
          rintro e W15 ⟨rfl, q15, hW15⟩
          have H15 := H14.drewN q15
          have B15 := below_drewN B14 q15
          rw [← hW15] at H15 B15
          clear H14 B14 hW15
          go_wp2_with fail
          refine (wakes_any _).mono ?_
          rintro e w9 ⟨rfl, hw⟩
          have B99 := B15.trans (hw.mono B15.size)
          clear B15 H15 hw
          go_wp2
          go_ret
          exact ⟨rfl, B99⟩
      · have hk00 : k = 0 := by omega
        have hkd : ¬ (0 : Int) < (k : Int) := by omega
        clear hk00
        go_wp2
        go_loop [12, 13] (fun v i => v = r8 ∧ i = .int .i64 0) (fun _ _ => 0)
        case atStart => exact ⟨rfl, rfl⟩
        case round =>
          obtain ⟨rfl, rfl⟩ := hrel
          go_wp2_with fail
          refine (add_ok _ _ M L (by omega) (by omega) TM.out.1.1 binL _ (H9.get 2 rfl) (H9.get 4 rfl)).mono ?_
          rintro e W10 ⟨rS, S, rfl, g10, t10, v10, b10⟩
          have TS : Hid (Tr S ∧ val S = val M ^^^ val L) := ⟨t10, v10⟩
          have H10 := (H9.next b10).cons g10
          have B10 := B9.trans (b10.mono B9.size)
          clear H9 g10 b10 B9 t10 v10
          have lS : S.length ≤ 120 + 40 := len_sum TM.out.1.1 binL lM (by omega) TS.out
          go_wp2_with fail
          refine (div_ok _ _ S X (by omega) (by omega) TS.out.1.1 binX HM0.out _ (H10.get 0 rfl) (H10.get 4 rfl)).mono ?_
          rintro e W11 ⟨rQ, rR, Q, R, ms, rfl, gq, gr, tq, tr, tm, em, es, hlow, b11⟩
          rw [tm.inj TX.out.1 (em.trans TX.out.2.symm)] at hlow
          have DQ : Hid (Quot S X Q R X) := ⟨tq, tr, es, hlow⟩
          have H11 := ((H10.next b11).cons gq).cons gr
          have B11 := B10.trans (b11.mono B10.size)
          clear H10 gq gr b11 B10 tq tr tm em es hlow
          go_wp2_with fail
          refine (trim_ok _ L (by omega) binL _ (H11.get 7 rfl)).mono ?_
          rintro e W12 ⟨rG, G, rfl, g12, t12, v12, b12⟩
          have TG : Hid (Tr G ∧ val G = val L) := ⟨t12, v12⟩
          have H12 := (H11.next b12).cons g12
          have B12 := B11.trans (b12.mono B11.size)
          clear H11 g12 b12 B11 t12 v12
          have hone := DQ.out.once (q := val A) (r := val L) TX.out HM0.out HLK.out (by rw [TS.out.2, TM.out.2])
          have HQT : Hid (Q = []) := DQ.out.1.inj TT.out.1 (hone.1.trans TT.out.2.symm)
          have HRG : Hid (R = G) := DQ.out.2.1.inj TG.out.1 (hone.2.trans TG.out.2.symm)
          have lG : G.length ≤ 120 := len_trim binL (by omega) TG.out
          clear hone
          go_wp2_with fail
          refine (ints_any _ _ M [] _ _ _ (Nat.zero_le _) (H12.get 6 rfl).1 (H12.get 4 rfl).1).mono ?_
          rw [decide_eq_true (HMO.out)]
          rintro e W13 ⟨rfl, q13, hW13⟩
          have H13 := H12.drewN q13
          have B13 := below_drewN B12 q13
          rw [← hW13] at H13 B13
          clear H12 B12 hW13
          go_wp2_with fail
          refine (ints_any _ _ Q [] _ _ _ (Nat.zero_le _) (H13.get 2 rfl).1 (H13.get 5 rfl).1).mono ?_
          rw [decide_eq_true (HQT.out)]
          rintro e W14 ⟨rfl, q14, hW14⟩
          have H14 := H13.drewN q14
          have B14 := below_drewN B13 q14
          rw [← hW14] at H14 B14
          clear H13 B13 hW14
          go_wp2_with fail
          refine (ints_any _ _ R G _ _ _ (by omega) (H14.get 1 rfl).1 (H14.get 0 rfl).1).mono ?_
          rw [decide_eq_true (HRG.out)]
          rintro e W15 ⟨rfl, q15, hW15⟩
          have H15 := H14.drewN q15
          have B15 := below_drewN B14 q15
          rw [← hW15] at H15 B15
          clear H14 B14 hW15
          go_wp2_with fail
          refine (wakes_any _).mono ?_
          rintro e w9 ⟨rfl, hw⟩
          have B99 := B15.trans (hw.mono B15.size)
          clear B15 H15 hw
          go_wp2
          go_ret
          exact ⟨rfl, B99⟩
    · have hTp : 0 < T.length := List.length_pos_iff.2 hT
      have HT0 : Hid (T ≠ []) := hT
      clear hT
      go_wp2
      go_loopw [12, 13] (fun v i wr => ∃ j : Nat, j ≤ k ∧ i = .int .i64 j ∧ wr.ownsRow W7.heap.size 3 1 v (T.length + j) ((T ++ List.replicate j 0).map (Value.int .i64)) ∧ Below W7.heap.size W7 wr) (fun _ i _ => k - (intOf i).toNat)
      case atStart => exact ⟨0, Nat.zero_le _, rfl, by simpa using o8, b8⟩
      case round =>
        clear o8 b8
        obtain ⟨j, hj, rfl, ho, hbw⟩ := hrel
        by_cases hlt : j < k
        · have eS : T ++ List.replicate (j + 1) (0 : Int) = T ++ List.replicate j 0 ++ [0] := by rw [List.replicate_succ', List.append_assoc]
          have HS : Hid (T ++ List.replicate (j + 1) (0 : Int) = T ++ List.replicate j 0 ++ [0]) := eS
          clear eS
          go_wp2_with (at_builtin; refine wpList_append_own _ rfl _ _ 22 rfl W7.heap.size 3 i0 (.int .i64 0) 1 8 Try.underlying22 hi hz0 hz1 hz2 rfl (by decide) _ (T.length + j) _ rfl (ho.alloc _) ⟨wr.heap.size, 0, none⟩ 1 1 [.int .i64 0] rfl rfl (cell_one_new _ _ _) (by simp [Value.oneCell']) (by unfold maxLen; omega) (by omega) (by have := hbw.size; simp; omega) ?_; intro v3 w3 hown3 hgrow3 _)
          have b3 : Below W7.heap.size W7 w3 := (hbw.alloc hbw.size _).trans ((Below.refl _ _).grown hgrow3 (by have := hbw.size; simp; omega) (fun q e => (ho.lt q e).1))
          refine ⟨⟨j + 1, by omega, by go_num, ?_, b3⟩, by simp [intOf]; omega⟩
          rw [HS.out, ← Nat.add_assoc]
          simpa using hown3
        · obtain rfl : j = k := by omega
          obtain ⟨O, hO⟩ : ∃ O, T ++ List.replicate j (0 : Int) = O := ⟨_, rfl⟩
          rw [hO] at ho
          have HMO : Hid (M = O) := by
            refine TM.out.1.inj (hO ▸ tr_noughts TT.out.1 HT0.out j) ?_
            rw [← hO, TM.out.2, val_append, val_noughts, HX.out.2, cl_pow, TT.out.2, List.length_replicate, Nat.add_zero]
          have H9 := (H7.next hbw).cons (row_has ho)
          have B9 := B7.trans (hbw.mono B7.size)
          have lO : O.length ≤ 160 := by rw [← hO]; simp; omega
          clear hlt hj ho hbw hO H7 B7
          go_wp2_with fail
          refine (add_ok _ _ M L (by omega) (by omega) TM.out.1.1 binL _ (H9.get 2 rfl) (H9.get 4 rfl)).mono ?_
          rintro e W10 ⟨rS, S, rfl, g10, t10, v10, b10⟩
          have TS : Hid (Tr S ∧ val S = val M ^^^ val L) := ⟨t10, v10⟩
          have H10 := (H9.next b10).cons g10
          have B10 := B9.trans (b10.mono B9.size)
          clear H9 g10 b10 B9 t10 v10
          have lS : S.length ≤ 120 + 40 := len_sum TM.out.1.1 binL lM (by omega) TS.out
          go_wp2_with fail
          refine (div_ok _ _ S X (by omega) (by omega) TS.out.1.1 binX HM0.out _ (H10.get 0 rfl) (H10.get 4 rfl)).mono ?_
          rintro e W11 ⟨rQ, rR, Q, R, ms, rfl, gq, gr, tq, tr, tm, em, es, hlow, b11⟩
          rw [tm.inj TX.out.1 (em.trans TX.out.2.symm)] at hlow
          have DQ : Hid (Quot S X Q R X) := ⟨tq, tr, es, hlow⟩
          have H11 := ((H10.next b11).cons gq).cons gr
          have B11 := B10.trans (b11.mono B10.size)
          clear H10 gq gr b11 B10 tq tr tm em es hlow
          go_wp2_with fail
          refine (trim_ok _ L (by omega) binL _ (H11.get 7 rfl)).mono ?_
          rintro e W12 ⟨rG, G, rfl, g12, t12, v12, b12⟩
          have TG : Hid (Tr G ∧ val G = val L) := ⟨t12, v12⟩
          have H12 := (H11.next b12).cons g12
          have B12 := B11.trans (b12.mono B11.size)
          clear H11 g12 b12 B11 t12 v12
          have hone := DQ.out.once (q := val A) (r := val L) TX.out HM0.out HLK.out (by rw [TS.out.2, TM.out.2])
          have HQT : Hid (Q = T) := DQ.out.1.inj TT.out.1 (hone.1.trans TT.out.2.symm)
          have HRG : Hid (R = G) := DQ.out.2.1.inj TG.out.1 (hone.2.trans TG.out.2.symm)
          have lG : G.length ≤ 120 := len_trim binL (by omega) TG.out
          clear hone
          go_wp2_with fail
          refine (ints_any _ _ M O _ _ _ (by omega) (H12.get 6 rfl).1 (H12.get 4 rfl).1).mono ?_
          rw [decide_eq_true (HMO.out)]
          rintro e W13 ⟨rfl, q13, hW13⟩
          have H13 := H12.drewN q13
          have B13 := below_drewN B12 q13
          rw [← hW13] at H13 B13
          clear H12 B12 hW13
          go_wp2_with fail
          refine (ints_any _ _ Q T _ _ _ (by omega) (H13.get 2 rfl).1 (H13.get 5 rfl).1).mono ?_
          rw [decide_eq_true (HQT.out)]
          rintro e W14 ⟨rfl, q14, hW14⟩
          have H14 := H13.drewN q14
          have B14 := below_drewN B13 q14
          rw [← hW14] at H14 B14
          clear H13 B13 hW14
          go_wp2_with fail
          refine (ints_any _ _ R G _ _ _ (by omega) (H14.get 1 rfl).1 (H14.get 0 rfl).1).mono ?_
          rw [decide_eq_true (HRG.out)]
          rintro e W15 ⟨rfl, q15, hW15⟩
          have H15 := H14.drewN q15
          have B15 := below_drewN B14 q15
          rw [← hW15] at H15 B15
          clear H14 B14 hW15
          go_wp2_with fail
          refine (wakes_any _).mono ?_
          rintro e w9 ⟨rfl, hw⟩
          have B99 := B15.trans (hw.mono B15.size)
          clear B15 H15 hw
          go_wp2
          go_ret
          exact ⟨rfl, B99⟩
  · obtain ⟨L, hL⟩ : ∃ L, L = L0 := ⟨_, rfl⟩
    subst hL
    have binL := binL0
    have hlk : L.length ≤ k := by omega
    have H3 := H2
    have B3 := B2
    clear hRoom hLL H2 B2 binL0
    go_wp2_with (at_make; refine wpList_make_full _ rfl _ _ 22 rfl W2.heap.size 3 i0 (.int .i64 0) 1 Try.underlying22 hi hz0 hz1 .i64 .i64 _ _ (k + 1) rfl rfl (by omega) (by omega) (by rw [hz2]; omega) (by unfold maxLen; omega) (Nat.le_refl _) ?_; intro W4 hown4 hgrow4; have hr4 := row_made hown4; have hc4 := hr4.cell 0 (x := 0) (by simp); have hf4 := hr4.frozen 0)
    have b4 : Below W2.heap.size W2 W4 := (Below.refl _ W2).grown hgrow4 (Nat.le_refl _) (fun k e => by cases e)
    have hO5 : Only W2.heap.size W4 (W4.setCell ⟨W2.heap.size, 0, none⟩ (.int .i64 1)) := (Only.refl _ _).set _ _
    have hr5 := hr4.set 0 1
    have b5 := b4.trans hO5.1
    obtain ⟨X, hX⟩ : ∃ X, (List.replicate (k + 1) (0 : Int)).set 0 1 = X := ⟨_, rfl⟩
    rw [hX] at hr5
    have lX : X.length = k + 1 := by rw [← hX]; simp
    have binX : Bin X := hX ▸ (Bin.noughts _).set 0 (.inr rfl)
    have trX : Tr X := ⟨binX, by rw [← hX, List.replicate_succ]; simp⟩
    have vX0 : val X = 2 ^ k := by rw [← hX, List.replicate_succ, List.set_cons_zero, val_cons, val_noughts]; simp
    have HX : Hid (Tr X ∧ val X = 2 ^ k) := ⟨trX, vX0⟩
    have hX5 := hr5.has (by omega)
    rw [lX] at hX5
    have H5 := (H3.next b5).cons hX5
    have B5 := B3.trans (b5.mono B3.size)
    clear H3 B3 hown4 hgrow4 b4 hr4 hO5 hr5 b5 hX hX5 trX vX0 hc4 hf4
    generalize W4.setCell ⟨W2.heap.size, 0, none⟩ (.int .i64 1) = W5 at H5 B5 ⊢
    refine (mul_ok _ _ A X (by omega) binA binX _ (H5.get 2 rfl) (H5.get 0 rfl)).mono ?_
    rintro e W6 ⟨rM, M, rfl, g6, t6, v6, b6⟩
    have TM : Hid (Tr M ∧ val M = cl (val A) (val X)) := ⟨t6, v6⟩
    have H6 := (H5.next b6).cons g6
    have B6 := B5.trans (b6.mono B5.size)
    clear H5 g6 b6 B5 t6 v6
    have lM : M.length ≤ 120 + 40 := len_mul binA binX lA (by omega) TM.out
    go_wp2_with fail
    refine (trim_ok _ A (by omega) binA _ (H6.get 3 rfl)).mono ?_
    rintro e W7 ⟨rT, T, rfl, g7, t7, v7, b7⟩
    have TT : Hid (Tr T ∧ val T = val A) := ⟨t7, v7⟩
    have H7 := (H6.next b7).cons g7
    have B7 := B6.trans (b7.mono B6.size)
    clear H6 g7 b7 B6 t7 v7
    have lT : T.length ≤ 120 := len_trim binA lA TT.out
    go_wp2_with fail
    refine (twinInts_any _ T _ (by omega) _ (H7.get 0 rfl).1).mono ?_
    rintro e W8 ⟨r8, rfl, o8, b8⟩
    obtain ⟨at1, ct1, rfl⟩ := (H7.get 0 rfl).1.shape
    have TX : Hid (TrOf X X) := ⟨HX.out.1, rfl⟩
    have HM0 : Hid (val X ≠ 0) := by rw [HX.out.2]; exact Nat.ne_of_gt (Nat.two_pow_pos _)
    have hLk : val L < 2 ^ (X.length - 1) := Nat.lt_of_lt_of_le (val_lt binL) (Nat.pow_le_pow_right (by omega) (by omega))
    have HLK : Hid (val L < 2 ^ (X.length - 1)) := hLk
    clear hLk
    by_cases hT : T = []
    · subst hT
      have H9 := (H7.next b8).cons (row_has o8)
      have B9 := B7.trans (b8.mono B7.size)
      have HMO : Hid (M = ([] : List Int)) := TM.out.1.eq_nil (by rw [TM.out.2, ← TT.out.2, val_nil, cl_zero])
      clear o8 b8 H7 B7
      by_cases hk0 : 0 < k
      · go_wp2
        go_loop [12, 13] (fun v i => v = r8 ∧ i = .int .i64 0) (fun _ _ => 0)
        case atStart => exact ⟨rfl, rfl⟩
        case round =>
          obtain ⟨rfl, rfl⟩ := hrel
          go_wp2_with fail
          refine (add_ok _ _ M L (by omega) (by omega) TM.out.1.1 binL _ (H9.get 2 rfl) (H9.get 4 rfl)).mono ?_
          rintro e W10 ⟨rS, S, rfl, g10, t10, v10, b10⟩
          have TS : Hid (Tr S ∧ val S = val M ^^^ val L) := ⟨t10, v10⟩
          have H10 := (H9.next b10).cons g10
          have B10 := B9.trans (b10.mono B9.size)
          clear H9 g10 b10 B9 t10 v10
          have lS : S.length ≤ 120 + 40 := len_sum TM.out.1.1 binL lM (by omega) TS.out
          go_wp2_with fail
          refine (div_ok _ _ S X (by omega) (by omega) TS.out.1.1 binX HM0.out _ (H10.get 0 rfl) (H10.get 4 rfl)).mono ?_
          rintro e W11 ⟨rQ, rR, Q, R, ms, rfl, gq, gr, tq, tr, tm, em, es, hlow, b11⟩
          rw [tm.inj TX.out.1 (em.trans TX.out.2.symm)] at hlow
          have DQ : Hid (Quot S X Q R X) := ⟨tq, tr, es, hlow⟩
          have H11 := ((H10.next b11).cons gq).cons gr
          have B11 := B10.trans (b11.mono B10.size)
          clear H10 gq gr b11 B10 tq tr tm em es hlow
          go_wp2_with fail
          refine (trim_ok _ L (by omega) binL _ (H11.get 7 rfl)).mono ?_
          rintro e W12 ⟨rG, G, rfl, g12, t12, v12, b12⟩
          have TG : Hid (Tr G ∧ val G = val L) := ⟨t12, v12⟩
          have H12 := (H11.next b12).cons g12
          have B12 := B11.trans (b12.mono B11.size)
          clear H11 g12 b12 B11 t12 v12
          have hone := DQ.out.once (q := val A) (r := val L) TX.out HM0.out HLK.out (by rw [TS.out.2, TM.out.2])
          have HQT : Hid (Q = []) := DQ.out.1.inj TT.out.1 (hone.1.trans TT.out.2.symm)
          have HRG : Hid (R = G) := DQ.out.2.1.inj TG.out.1 (hone.2.trans TG.out.2.symm)
          have lG : G.length ≤ 120 := len_trim binL (by omega) TG.out
          clear hone
          go_wp2_with fail
          refine (ints_any _ _ M [] _ _ _ (Nat.zero_le _) (H12.get 6 rfl).1 (H12.get 4 rfl).1).mono ?_
          rw [decide_eq_true (HMO.out)]
          rintro e W13 ⟨rfl, q13, hW13⟩
          have H13 := H12.drewN q13
          have B13 := below_drewN B12 q13
          rw [← hW13] at H13 B13
          clear H12 B12 hW13
          go_wp2_with fail
          refine (ints_any _ _ Q [] _ _ _ (Nat.zero_le _) (H13.get 2 rfl).1 (H13.get 5 rfl).1).mono ?_
          rw [decide_eq_true (HQT.out)]
          rintro e W14 ⟨rfl, q14, hW14⟩
          have H14 := H13.drewN q14
          have B14 := below_drewN B13 q14
          rw [← hW14] at H14 B14
          clear H13 B13 hW14
          go_wp2_with fail
          refine (ints_any _ _ R G _ _ _ (by omega) (H14.get 1 rfl).1 (H14.get 0 rfl).1).mono ?_
          rw [decide_eq_true (HRG.out)]
          rintro e W15 ⟨rfl, q15, hW15⟩
          have H15 := H14.drewN q15
          have B15 := below_drewN B14 q15
          rw [← hW15] at H15 B15
          clear H14 B14 hW15
          go_wp2_with fail
          refine (wakes_any _).mono ?_
          rintro e w9 ⟨rfl, hw⟩
          have B99 := B15.trans (hw.mono B15.size)
          clear B15 H15 hw
          go_wp2
          go_ret
          exact ⟨rfl, B99⟩
      · have hk00 : k = 0 := by omega
        have hkd : ¬ (0 : Int) < (k : Int) := by omega
        clear hk00
        go_wp2
        go_loop [12, 13] (fun v i => v = r8 ∧ i = .int .i64 0) (fun _ _ => 0)
        case atStart => exact ⟨rfl, rfl⟩
        case round =>
          obtain ⟨rfl, rfl⟩ := hrel
          go_wp2_with fail
          refine (add_ok _ _ M L (by omega) (by omega) TM.out.1.1 binL _ (H9.get 2 rfl) (H9.get 4 rfl)).mono ?_
          rintro e W10 ⟨rS, S, rfl, g10, t10, v10, b10⟩
          have TS : Hid (Tr S ∧ val S = val M ^^^ val L) := ⟨t10, v10⟩
          have H10 := (H9.next b10).cons g10
          have B10 := B9.trans (b10.mono B9.size)
          clear H9 g10 b10 B9 t10 v10
          have lS : S.length ≤ 120 + 40 := len_sum TM.out.1.1 binL lM (by omega) TS.out
          go_wp2_with fail
          refine (div_ok _ _ S X (by omega) (by omega) TS.out.1.1 binX HM0.out _ (H10.get 0 rfl) (H10.get 4 rfl)).mono ?_
          rintro e W11 ⟨rQ, rR, Q, R, ms, rfl, gq, gr, tq, tr, tm, em, es, hlow, b11⟩
          rw [tm.inj TX.out.1 (em.trans TX.out.2.symm)] at hlow
          have DQ : Hid (Quot S X Q R X) := ⟨tq, tr, es, hlow⟩
          have H11 := ((H10.next b11).cons gq).cons gr
          have B11 := B10.trans (b11.mono B10.size)
          clear H10 gq gr b11 B10 tq tr tm em es hlow
          go_wp2_with fail
          refine (trim_ok _ L (by omega) binL _ (H11.get 7 rfl)).mono ?_
          rintro e W12 ⟨rG, G, rfl, g12, t12, v12, b12⟩
          have TG : Hid (Tr G ∧ val G = val L) := ⟨t12, v12⟩
          have H12 := (H11.next b12).cons g12
          have B12 := B11.trans (b12.mono B11.size)
          clear H11 g12 b12 B11 t12 v12
          have hone := DQ.out.once (q := val A) (r := val L) TX.out HM0.out HLK.out (by rw [TS.out.2, TM.out.2])
          have HQT : Hid (Q = []) := DQ.out.1.inj TT.out.1 (hone.1.trans TT.out.2.symm)
          have HRG : Hid (R = G) := DQ.out.2.1.inj TG.out.1 (hone.2.trans TG.out.2.symm)
          have lG : G.length ≤ 120 := len_trim binL (by omega) TG.out
          clear hone
          go_wp2_with fail
          refine (ints_any _ _ M [] _ _ _ (Nat.zero_le _) (H12.get 6 rfl).1 (H12.get 4 rfl).1).mono ?_
          rw [decide_eq_true (HMO.out)]
          rintro e W13 ⟨rfl, q13, hW13⟩
          have H13 := H12.drewN q13
          have B13 := below_drewN B12 q13
          rw [← hW13] at H13 B13
          clear H12 B12 hW13
          go_wp2_with fail
          refine (ints_any _ _ Q [] _ _ _ (Nat.zero_le _) (H13.get 2 rfl).1 (H13.get 5 rfl).1).mono ?_
          rw [decide_eq_true (HQT.out)]
          rintro e W14 ⟨rfl, q14, hW14⟩
          have H14 := H13.drewN q14
          have B14 := below_drewN B13 q14
          rw [← hW14] at H14 B14
          clear H13 B13 hW14
          go_wp2_with fail
          refine (ints_any _ _ R G _ _ _ (by omega) (H14.get 1 rfl).1 (H14.get 0 rfl).1).mono ?_
          rw [decide_eq_true (HRG.out)]
          rintro e W15 ⟨rfl, q15, hW15⟩
          have H15 := H14.drewN q15
          have B15 := below_drewN B14 q15
          rw [← hW15] at H15 B15
          clear H14 B14 hW15
          go_wp2_with fail
          refine (wakes_any _).mono ?_
          rintro e w9 ⟨rfl, hw⟩
          have B99 := B15.trans (hw.mono B15.size)
          clear B15 H15 hw
          go_wp2
          go_ret
          exact ⟨rfl, B99⟩
    · have hTp : 0 < T.length := List.length_pos_iff.2 hT
      have HT0 : Hid (T ≠ []) := hT
      clear hT
      go_wp2
      go_loopw [12, 13] (fun v i wr => ∃ j : Nat, j ≤ k ∧ i = .int .i64 j ∧ wr.ownsRow W7.heap.size 3 1 v (T.length + j) ((T ++ List.replicate j 0).map (Value.int .i64)) ∧ Below W7.heap.size W7 wr) (fun _ i _ => k - (intOf i).toNat)
      case atStart => exact ⟨0, Nat.zero_le _, rfl, by simpa using o8, b8⟩
      case round =>
        clear o8 b8
        obtain ⟨j, hj, rfl, ho, hbw⟩ := hrel
        by_cases hlt : j < k
        · have eS : T ++ List.replicate (j + 1) (0 : Int) = T ++ List.replicate j 0 ++ [0] := by rw [List.replicate_succ', List.append_assoc]
          have HS : Hid (T ++ List.replicate (j + 1) (0 : Int) = T ++ List.replicate j 0 ++ [0]) := eS
          clear eS
          go_wp2_with (at_builtin; refine wpList_append_own _ rfl _ _ 22 rfl W7.heap.size 3 i0 (.int .i64 0) 1 8 Try.underlying22 hi hz0 hz1 hz2 rfl (by decide) _ (T.length + j) _ rfl (ho.alloc _) ⟨wr.heap.size, 0, none⟩ 1 1 [.int .i64 0] rfl rfl (cell_one_new _ _ _) (by simp [Value.oneCell']) (by unfold maxLen; omega) (by omega) (by have := hbw.size; simp; omega) ?_; intro v3 w3 hown3 hgrow3 _)
          have b3 : Below W7.heap.size W7 w3 := (hbw.alloc hbw.size _).trans ((Below.refl _ _).grown hgrow3 (by have := hbw.size; simp; omega) (fun q e => (ho.lt q e).1))
          refine ⟨⟨j + 1, by omega, by go_num, ?_, b3⟩, by simp [intOf]; omega⟩
          rw [HS.out, ← Nat.add_assoc]
          simpa using hown3
        · obtain rfl : j = k := by omega
          obtain ⟨O, hO⟩ : ∃ O, T ++ List.replicate j (0 : Int) = O := ⟨_, rfl⟩
          rw [hO] at ho
          have HMO : Hid (M = O) := by
            refine TM.out.1.inj (hO ▸ tr_noughts TT.out.1 HT0.out j) ?_
            rw [← hO, TM.out.2, val_append, val_noughts, HX.out.2, cl_pow, TT.out.2, List.length_replicate, Nat.add_zero]
          have H9 := (H7.next hbw).cons (row_has ho)
          have B9 := B7.trans (hbw.mono B7.size)
          have lO : O.length ≤ 160 := by rw [← hO]; simp; omega
          clear hlt hj ho hbw hO H7 B7
          go_wp2_with fail
          refine (add_ok _ _ M L (by omega) (by omega) TM.out.1.1 binL _ (H9.get 2 rfl) (H9.get 4 rfl)).mono ?_
          rintro e W10 ⟨rS, S, rfl, g10, t10, v10, b10⟩
          have TS : Hid (Tr S ∧ val S = val M ^^^ val L) := ⟨t10, v10⟩
          have H10 := (H9.next b10).cons g10
          have B10 := B9.trans (b10.mono B9.size)
          clear H9 g10 b10 B9 t10 v10
          have lS : S.length ≤ 120 + 40 := len_sum TM.out.1.1 binL lM (by omega) TS.out
          go_wp2_with fail
          refine (div_ok _ _ S X (by omega) (by omega) TS.out.1.1 binX HM0.out _ (H10.get 0 rfl) (H10.get 4 rfl)).mono ?_
          rintro e W11 ⟨rQ, rR, Q, R, ms, rfl, gq, gr, tq, tr, tm, em, es, hlow, b11⟩
          rw [tm.inj TX.out.1 (em.trans TX.out.2.symm)] at hlow
          have DQ : Hid (Quot S X Q R X) := ⟨tq, tr, es, hlow⟩
          have H11 := ((H10.next b11).cons gq).cons gr
          have B11 := B10.trans (b11.mono B10.size)
          clear H10 gq gr b11 B10 tq tr tm em es hlow
          go_wp2_with fail
          refine (trim_ok _ L (by omega) binL _ (H11.get 7 rfl)).mono ?_
          rintro e W12 ⟨rG, G, rfl, g12, t12, v12, b12⟩
          have TG : Hid (Tr G ∧ val G = val L) := ⟨t12, v12⟩
          have H12 := (H11.next b12).cons g12
          have B12 := B11.trans (b12.mono B11.size)
          clear H11 g12 b12 B11 t12 v12
          have hone := DQ.out.once (q := val A) (r := val L) TX.out HM0.out HLK.out (by rw [TS.out.2, TM.out.2])
          have HQT : Hid (Q = T) := DQ.out.1.inj TT.out.1 (hone.1.trans TT.out.2.symm)
          have HRG : Hid (R = G) := DQ.out.2.1.inj TG.out.1 (hone.2.trans TG.out.2.symm)
          have lG : G.length ≤ 120 := len_trim binL (by omega) TG.out
          clear hone
          go_wp2_with fail
          refine (ints_any _ _ M O _ _ _ (by omega) (H12.get 6 rfl).1 (H12.get 4 rfl).1).mono ?_
          rw [decide_eq_true (HMO.out)]
          rintro e W13 ⟨rfl, q13, hW13⟩
          have H13 := H12.drewN q13
          have B13 := below_drewN B12 q13
          rw [← hW13] at H13 B13
          clear H12 B12 hW13
          go_wp2_with fail
          refine (ints_any _ _ Q T _ _ _ (by omega) (H13.get 2 rfl).1 (H13.get 5 rfl).1).mono ?_
          rw [decide_eq_true (HQT.out)]
          rintro e W14 ⟨rfl, q14, hW14⟩
          have H14 := H13.drewN q14
          have B14 := below_drewN B13 q14
          rw [← hW14] at H14 B14
          clear H13 B13 hW14
          go_wp2_with fail
          refine (ints_any _ _ R G _ _ _ (by omega) (H14.get 1 rfl).1 (H14.get 0 rfl).1).mono ?_
          rw [decide_eq_true (HRG.out)]
          rintro e W15 ⟨rfl, q15, hW15⟩
          have H15 := H14.drewN q15
          have B15 := below_drewN B14 q15
          rw [← hW15] at H15 B15
          clear H14 B14 hW15
          go_wp2_with fail
          refine (wakes_any _).mono ?_
          rintro e w9 ⟨rfl, hw⟩
          have B99 := B15.trans (hw.mono B15.size)
          clear B15 H15 hw
          go_wp2
          go_ret
          exact ⟨rfl, B99⟩

/-- The law. -/
theorem polyPowers_walk (a0 : Option Addr) (len0 cap0 : Nat) (z0 : List Int) (a1 : Option Addr) (len1 cap1 : Nat) (z1 : List Int) (n : Int) (w : World) (w0 : IsRow .i64 w a0 len0 cap0 z0) (w1 : IsRow .i64 w a1 len1 cap1 z1) :
    Calls Try.prog 6 #[.slice a0 len0 cap0, .slice a1 len1 cap1, .int .i64 n] w fun e w' => e = .returned (.bool true) ∧ Below w.heap.size w w' := by
  obtain ⟨xs, rfl, hx, _⟩ := has_of_isRow w0
  obtain ⟨ys, rfl, hy, _⟩ := has_of_isRow w1
  by_cases h : 120 < xs.length ∨ 120 < ys.length
  · exact polyPowers_long a0 a1 _ _ cap0 cap1 n w h
  · exact polyPowers_short _ _ n xs ys (by omega) (by omega) w (((All.nil w).cons hx).cons hy)

end Go.Proofs.Ytecfniimpedlkaa
