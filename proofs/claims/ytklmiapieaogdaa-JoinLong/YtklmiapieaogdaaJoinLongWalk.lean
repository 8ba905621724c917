/-
  The walk of JoinLong. (Written by tpl_joinlaws.py.)
-/
import Derived.Test.YtklmiapieaogdaaJoinBase
import Derived.Test.YtklmiapieaogdaaJoinCode
import Derived.Test.YtklmiapieaogdaaJoinWakes
import Derived.Test.YtklmiapieaogdaaModNums
import Derived.Test.YtklmiapieaogdaaRegionHand
import Derived.Deep.Cut
import Derived.Deep.CutRange
import Derived.Deep.DeepCutAuto
namespace Go.Proofs.Ytklmiapieaogdaa
open Go.RowKit

theorem made_noughtsJ {w : World} {base n : Nat} {v : Value} (h : w.ownsRow base 5 1 v n (madeCells (Value.int .u8 0).cells (n * 1)).toList) : w.ownsRow base 5 1 v n ((List.replicate n (0 : Int)).map (Value.int .u8)) := by
  rw [show (Value.int IntKind.u8 0).cells = #[.int .u8 0] from rfl, toList_madeCells_one, Nat.mul_one] at h
  rw [List.map_replicate]
  exact h
set_option maxRecDepth 100000 in
set_option maxHeartbeats 4000000 in
theorem joinLong_walk (f0 n0 : Int) (w : World) :
    Calls Try.prog 6 #[.int .i64 f0, .int .i64 n0] w fun e w' => e = .returned (.bool true) ∧ Below w.heap.size w w' := by
  obtain ⟨i0, hi, hz0, hz1, hz2⟩ := info_parts infoU8
  obtain ⟨f, hf, hf0, hf1⟩ := mod_u64 f0 18 (by decide) (by decide)
  obtain ⟨q, hq, hq0, hq1⟩ := mod_u64 n0 17 (by decide) (by decide)
  obtain ⟨F, rfl⟩ : ∃ F : Nat, f = (F : Int) := ⟨f.toNat, by omega⟩
  obtain ⟨Kn, rfl⟩ : ∃ Kn : Nat, q = (Kn : Int) := ⟨q.toNat, by omega⟩
  have hF : F < 18 := by omega
  have hK : Kn < 17 := by omega
  obtain ⟨M, hM⟩ : ∃ M, 4097 - F = M := ⟨_, rfl⟩
  have hMi : (4096 : Int) - (F : Int) + 1 = (M : Int) := by omega
  have hM1 : M ≤ 4097 := by omega
  have HR : ∀ n, Hid ((List.replicate n (0 : Int)).length = n) := fun n => List.length_replicate
  go_enter Try.func6, Try.ntmps6
  by_cases h4 : M = 4097
  · subst h4
    have d0 : decide ((4096 : Int) < ((4097 : Nat) : Int)) = true := by decide
    go_wp2_with (at_make; refine wpList_make_full _ rfl _ _ 22 rfl w.heap.size 5 i0 (.int .u8 0) 1 Try.underlying22 hi hz0 hz1 .i64 .i64 _ _ 4097 rfl rfl (by go_num) (by go_num) (by rw [hz2]; omega) (by unfold maxLen; omega) (Nat.le_refl _) ?_; intro w1 hown1 hgrow1)
    have bb : Below w.heap.size w w1 := (Below.refl _ w).grown hgrow1 (Nat.le_refl _) (fun k e => by cases e)
    clear hown1 hgrow1
    refine (joinTake_not true (some ⟨w.heap.size, 0, none⟩) 4097 4097 0 2 none 0 0 (by decide) _).mono ?_
    rintro e w2 ⟨rfl, b2⟩
    have b3 : Below w1.heap.size w1 (w1.alloc (.cells #[.bool true, .slice (some ⟨w.heap.size, 0, none⟩) 4097 4097] 24)) := (Below.refl _ _).alloc (Nat.le_refl _) _
    replace bb := bb.trans (b3.mono bb.size)
    replace bb := bb.trans (b2.mono bb.size)
    have b4 : Below w2.heap.size w2 (w2.alloc (.cells #[.bool false, .slice none 0 0] 24)) := (Below.refl _ _).alloc (Nat.le_refl _) _
    replace bb := bb.trans (b4.mono bb.size)
    clear b2 b3 b4
    go_wp2_with fail
    refine (joinWakes_any _).mono ?_
    rintro e w99 ⟨rfl, b99⟩
    go_wp2
    go_ret
    exact ⟨rfl, bb.trans (b99.mono bb.size)⟩
  have hM4 : M ≤ 4096 := by omega
  have d0 : decide ((4096 : Int) < (M : Int)) = false := decide_eq_false (by omega)
  have d0n : decide (4096 < M) = false := decide_eq_false (by omega)
  clear h4
  go_upto_region 6 with (at_make; refine wpList_make_full _ rfl _ _ 22 rfl w.heap.size 5 i0 (.int .u8 0) 1 Try.underlying22 hi hz0 hz1 .i64 .i64 _ _ M rfl rfl (by go_num) (by go_num) (by rw [hz2]; omega) (by unfold maxLen; omega) (Nat.le_refl _) ?_; intro w1 hown1 hgrow1)
  have bb : Below w.heap.size w w1 := (Below.refl _ w).grown hgrow1 (Nat.le_refl _) (fun k e => by cases e)
  have hM9 := holds_of_row (made_noughtsJ hown1)
  clear hown1 hgrow1
  have b9 : Below w1.heap.size w1 (w1.alloc (.cells #[.bool true, .slice (some ⟨w.heap.size, 0, none⟩) M M] 24)) := (Below.refl _ _).alloc (Nat.le_refl _) _
  have x5 := Box.new w1 24 #[.bool true, .slice (some ⟨w.heap.size, 0, none⟩) M M]
  replace hM9 := hM9.next b9
  replace bb := bb.trans (b9.mono bb.size)
  clear b9
  obtain ⟨W2, hW2⟩ : ∃ W, w1.alloc (.cells #[.bool true, .slice (some ⟨w.heap.size, 0, none⟩) M M] 24) = W := ⟨_, rfl⟩
  obtain ⟨B5, hB5⟩ : ∃ B, w1.heap.size = B := ⟨_, rfl⟩
  rw [hW2] at x5 bb hM9 ⊢
  rw [hB5] at x5 ⊢
  clear hW2 hB5
  by_cases hfu : 4096 < M + Kn
  · skip
    have d1 : decide ((4096 : Int) < (M : Int) + (Kn : Int)) = true := decide_eq_true (by omega)
    have d1n : decide (4096 < M + Kn) = true := decide_eq_true (by omega)
    obtain ⟨nq, hnq⟩ : ∃ n, W2.heap.size = n := ⟨_, rfl⟩
    have hl5 : B5 < nq := hnq ▸ x5.lt
    have m50 : Hid (W2.cell? ⟨B5, 0, none⟩ = some (.bool true)) := x5.cell 0 _ rfl
    have m51 : Hid (W2.cell? ⟨B5, 1, none⟩ = some (.slice (some ⟨w.heap.size, 0, none⟩) M M)) := x5.cell 1 _ rfl
    have HX : Hid (∀ (wx : World) (ad : Option Addr), Below nq W2 wx → Holds .u8 wx.heap.size wx (.slice ad Kn Kn) (List.replicate Kn 0) → Calls Try.prog 10 #[.agg #[.bool true, .slice (some ⟨w.heap.size, 0, none⟩) M M], .agg #[.int .i64 0, .int .i64 0, .slice ad Kn Kn]] wx fun e W' => ∃ ta tc ua uc, e = .returned (.tuple #[.agg #[.bool false, .slice ta 0 tc], .slice ua 0 uc, .bool false, .int .i64 2]) ∧ Below wx.heap.size wx W') := fun wx ad hx hh => by
      exact (joinTake_full true (some ⟨w.heap.size, 0, none⟩) M M 0 0 ad Kn Kn (by rw [if_pos rfl]; exact decide_eq_true hM4) (by decide) (by decide) (by omega) rfl (by decide) hM4 (by omega) wx).mono fun e W' ⟨h, b⟩ => ⟨_, _, _, _, h, b⟩
    go_cut [10, 11, 12, 13] (fun v0 v1 v2 v3 wx => ∃ B10 ta tc, v0 = .pointer (some ⟨B10, 0, none⟩) ∧ v2 = .bool false ∧ v3 = .int .i64 2 ∧ Box wx B10 24 #[.bool false, .slice ta 0 tc] ∧ Below nq W2 wx)
    case first =>
      as_aux_lemma =>
        have hS : Below nq W2 W2.drew := below_drewJ hnq
        refine wp_region_held_drew (S := fun w' => Below nq W2 w') (by kernel_rfl) (hS) (fun hHeld => ?_)
        generalize W2.drew = wk0 at *
        refine held_take (i := 0) (d := 49) (v := ?v1) rfl rfl (by kernel_rfl) (by kernel_rfl) (by kernel_rfl) (fun _ _ _ h => h) (Or.inl ⟨by kernel_rfl, ?hy1⟩) hHeld ?rest1
        case hy1 =>
          intro wx hSw
          have q0 := (hSw.cell (p := ⟨B5, 0, none⟩) hl5).trans m50.out
          have q1 := (hSw.cell (p := ⟨B5, 1, none⟩) hl5).trans m51.out
          clear hSw
          go_simp
          with_reducible rfl
        simp only [List.setIfInBounds_toArray, List.set_cons_zero, List.set_cons_succ]
        refine held_take (i := 1) (d := 50) (v := ?v2) rfl rfl (by kernel_rfl) (by kernel_rfl) (by kernel_rfl) (fun _ _ _ h => h) (Or.inl ⟨by kernel_rfl, ?hy2⟩) hHeld ?rest2
        case hy2 =>
          intro wx hSw
          clear hSw
          go_simp
          with_reducible rfl
        simp only [List.setIfInBounds_toArray, List.set_cons_zero, List.set_cons_succ]
        refine wpAnyH_ready (rs := [2, 10]) (by kernel_rfl) (by simp) ?_
        refine AllReadyH.cons rfl (fun K hK => ?_) ?_
        · refine step_make_full rfl _ _ 22 rfl wk0.heap.size 5 i0 (.int .u8 0) 1 Try.underlying22 hi hz0 hz1 .i64 .i64 _ _ Kn rfl rfl rfl rfl (by rw [hz2]; omega) (by unfold maxLen; omega) (Nat.le_refl _) ?_
          intro wk1 oM gM
          simp only [Act.put, List.setIfInBounds_toArray]
          replace oM := made_noughtsJ oM
          have b8 : Below wk0.heap.size wk0 wk1 := (Below.refl _ _).grown gM (Nat.le_refl _) (fun k e => by cases e)
          clear gM
          replace hS := hS.trans (b8.mono (by have := hS.size; omega))
          clear b8
          refine hK.out _ _ (hS) (fun hHeld => ?_)
          clear hK K
          refine held_take (i := 3) (d := 52) (v := ?v3) rfl rfl (by kernel_rfl) (by kernel_rfl) (by kernel_rfl) (fun _ _ _ h => h) (Or.inl ⟨by kernel_rfl, ?hy3⟩) hHeld ?rest3
          case hy3 =>
            intro wx hSw
            clear hSw
            go_simp
            with_reducible rfl
          simp only [List.setIfInBounds_toArray, List.set_cons_zero, List.set_cons_succ]
          refine wpAnyH_ready (rs := [4, 10]) (by kernel_rfl) (by simp) ?_
          refine AllReadyH.cons rfl (fun K hK => ?_) ?_
          · go_simp
            go_wp2_with (go_at_call 10; refine (HX.out _ _ (by exact hS) (holds_of_row oM)).mono ?_; rintro e wk2 ⟨ta, tc, ua, uc, rfl, b8⟩)
            replace oM := rowK_below oM b8 (Nat.le_refl _)
            replace hS := hS.trans (b8.mono (by have := hS.size; omega))
            clear b8
            refine hK.out _ _ (hS) (fun hHeld => ?_)
            clear hK K
            refine held_take (i := 5) (d := 48) (v := ?v4) rfl rfl (by kernel_rfl) (by kernel_rfl) (by kernel_rfl) (fun _ _ _ h => h) (Or.inl ⟨by kernel_rfl, ?hy4⟩) hHeld ?rest4
            case hy4 =>
              intro wx hSw
              clear hSw
              go_simp
              with_reducible rfl
            simp only [List.setIfInBounds_toArray, List.set_cons_zero, List.set_cons_succ]
            refine held_take (i := 6) (d := 54) (v := ?v5) rfl rfl (by kernel_rfl) (by kernel_rfl) (by kernel_rfl) (fun _ _ _ h => h) (Or.inl ⟨by kernel_rfl, ?hy5⟩) hHeld ?rest5
            case hy5 =>
              intro wx hSw
              clear hSw
              go_simp
              with_reducible rfl
            simp only [List.setIfInBounds_toArray, List.set_cons_zero, List.set_cons_succ]
            refine held_take (i := 7) (d := 55) (v := ?v6) rfl rfl (by kernel_rfl) (by kernel_rfl) (by kernel_rfl) (fun _ _ _ h => h) (Or.inl ⟨by kernel_rfl, ?hy6⟩) hHeld ?rest6
            case hy6 =>
              intro wx hSw
              clear hSw
              go_simp
              with_reducible rfl
            simp only [List.setIfInBounds_toArray, List.set_cons_zero, List.set_cons_succ]
            refine held_take (i := 8) (d := 56) (v := ?v7) rfl rfl (by kernel_rfl) (by kernel_rfl) (by kernel_rfl) (fun _ _ _ h => h) (Or.inl ⟨by kernel_rfl, ?hy7⟩) hHeld ?rest7
            case hy7 =>
              intro wx hSw
              clear hSw
              go_simp
              with_reducible rfl
            simp only [List.setIfInBounds_toArray, List.set_cons_zero, List.set_cons_succ]
            refine held_take (i := 9) (d := 57) (v := ?v8) rfl rfl (by kernel_rfl) (by kernel_rfl) (by kernel_rfl) (fun _ _ _ h => h) (Or.inl ⟨by kernel_rfl, ?hy8⟩) hHeld ?rest8
            case hy8 =>
              intro wx hSw
              clear hSw
              go_simp
              with_reducible rfl
            simp only [List.setIfInBounds_toArray, List.set_cons_zero, List.set_cons_succ]
            refine wpAnyH_ready (rs := [10]) (by kernel_rfl) (by simp) ?_
            refine AllReadyH.cons rfl (fun K hK => ?_) AllReadyH.nil
            go_simp
            have bA := (Below.refl _ wk2).alloc (Nat.le_refl _) (.cells #[.bool false, .slice none 0 0] 24)
            have hn_x10 : nq ≤ wk2.heap.size := by have := hS.size; omega
            have ne_oM_x10 := row_neNew oM
            replace oM := rowK_below oM bA (Nat.le_refl _)
            have x10 := Box.new wk2 24 #[.bool false, .slice none 0 0]
            replace hS := hS.trans (bA.mono hn_x10)
            clear bA
            generalize wk2.alloc (.cells #[.bool false, .slice none 0 0] 24) = wk3 at *
            refine hK.out _ _ (hS) (fun hHeld => ?_)
            clear hK K
            refine wpAnyH_ready (rs := [11]) (by kernel_rfl) (by simp) ?_
            refine AllReadyH.cons rfl (fun K hK => ?_) AllReadyH.nil
            have y0 := x10.cell 0 _ rfl
            have y1 := x10.cell 1 _ rfl
            have u0 := x10.free 0
            have u1 := x10.free 1
            have hltq := x10.lt
            go_simp
            replace x10 := box_set2 x10 (.bool false) (.slice ta 0 tc)
            replace oM := row_setNe2 oM ne_oM_x10 (.bool false) (.slice ta 0 tc)
            replace hS := below_set2 hS hn_x10 (.bool false) (.slice ta 0 tc)
            clear hltq y0 u0 y1 u1
            refine hK.out _ _ (hS) (fun hHeld => ?_)
            clear hK K
            refine held_take (i := 12) (d := 11) (v := ?v9) rfl rfl (by kernel_rfl) (by kernel_rfl) (by kernel_rfl) (fun _ _ _ h => h) (Or.inl ⟨by kernel_rfl, ?hy9⟩) hHeld ?rest9
            case hy9 =>
              intro wx hSw
              clear hSw
              go_simp
              with_reducible rfl
            simp only [List.setIfInBounds_toArray, List.set_cons_zero, List.set_cons_succ]
            refine held_take (i := 13) (d := 12) (v := ?v10) rfl rfl (by kernel_rfl) (by kernel_rfl) (by kernel_rfl) (fun _ _ _ h => h) (Or.inl ⟨by kernel_rfl, ?hy10⟩) hHeld ?rest10
            case hy10 =>
              intro wx hSw
              clear hSw
              go_simp
              with_reducible rfl
            simp only [List.setIfInBounds_toArray, List.set_cons_zero, List.set_cons_succ]
            refine wpAnyH_ready (rs := [14]) (by kernel_rfl) (by simp) ?_
            refine AllReadyH.cons rfl (fun K hK => ?_) AllReadyH.nil
            go_simp
            refine hK.out _ _ hHeld (fun hHeld => ?_)
            clear hK K
            refine wpAnyH_done (by kernel_rfl) ?_ _
            go_wp2_with fail
            go_meet
            exact ⟨_, ta, tc, rfl, rfl, rfl, x10, hHeld⟩
          refine AllReadyH.cons rfl (fun K hK => ?_) ?_
          · go_simp
            have bA := (Below.refl _ wk1).alloc (Nat.le_refl _) (.cells #[.bool false, .slice none 0 0] 24)
            have hn_x10 : nq ≤ wk1.heap.size := by have := hS.size; omega
            have ne_oM_x10 := row_neNew oM
            replace oM := rowK_below oM bA (Nat.le_refl _)
            have x10 := Box.new wk1 24 #[.bool false, .slice none 0 0]
            replace hS := hS.trans (bA.mono hn_x10)
            clear bA
            generalize wk1.alloc (.cells #[.bool false, .slice none 0 0] 24) = wk2 at *
            refine hK.out _ _ (hS) (fun hHeld => ?_)
            clear hK K
            refine wpAnyH_ready (rs := [4]) (by kernel_rfl) (by simp) ?_
            refine AllReadyH.cons rfl (fun K hK => ?_) AllReadyH.nil
            go_simp
            go_wp2_with (go_at_call 10; refine (HX.out _ _ (by exact hS) (holds_of_row oM)).mono ?_; rintro e wk3 ⟨ta, tc, ua, uc, rfl, b8⟩)
            replace oM := rowK_below oM b8 (Nat.le_refl _)
            replace x10 := x10.next b8
            replace hS := hS.trans (b8.mono (by have := hS.size; omega))
            clear b8
            refine hK.out _ _ (hS) (fun hHeld => ?_)
            clear hK K
            refine held_take (i := 5) (d := 48) (v := ?v11) rfl rfl (by kernel_rfl) (by kernel_rfl) (by kernel_rfl) (fun _ _ _ h => h) (Or.inl ⟨by kernel_rfl, ?hy11⟩) hHeld ?rest11
            case hy11 =>
              intro wx hSw
              clear hSw
              go_simp
              with_reducible rfl
            simp only [List.setIfInBounds_toArray, List.set_cons_zero, List.set_cons_succ]
            refine held_take (i := 6) (d := 54) (v := ?v12) rfl rfl (by kernel_rfl) (by kernel_rfl) (by kernel_rfl) (fun _ _ _ h => h) (Or.inl ⟨by kernel_rfl, ?hy12⟩) hHeld ?rest12
            case hy12 =>
              intro wx hSw
              clear hSw
              go_simp
              with_reducible rfl
            simp only [List.setIfInBounds_toArray, List.set_cons_zero, List.set_cons_succ]
            refine held_take (i := 7) (d := 55) (v := ?v13) rfl rfl (by kernel_rfl) (by kernel_rfl) (by kernel_rfl) (fun _ _ _ h => h) (Or.inl ⟨by kernel_rfl, ?hy13⟩) hHeld ?rest13
            case hy13 =>
              intro wx hSw
              clear hSw
              go_simp
              with_reducible rfl
            simp only [List.setIfInBounds_toArray, List.set_cons_zero, List.set_cons_succ]
            refine held_take (i := 8) (d := 56) (v := ?v14) rfl rfl (by kernel_rfl) (by kernel_rfl) (by kernel_rfl) (fun _ _ _ h => h) (Or.inl ⟨by kernel_rfl, ?hy14⟩) hHeld ?rest14
            case hy14 =>
              intro wx hSw
              clear hSw
              go_simp
              with_reducible rfl
            simp only [List.setIfInBounds_toArray, List.set_cons_zero, List.set_cons_succ]
            refine held_take (i := 9) (d := 57) (v := ?v15) rfl rfl (by kernel_rfl) (by kernel_rfl) (by kernel_rfl) (fun _ _ _ h => h) (Or.inl ⟨by kernel_rfl, ?hy15⟩) hHeld ?rest15
            case hy15 =>
              intro wx hSw
              clear hSw
              go_simp
              with_reducible rfl
            simp only [List.setIfInBounds_toArray, List.set_cons_zero, List.set_cons_succ]
            refine wpAnyH_ready (rs := [11]) (by kernel_rfl) (by simp) ?_
            refine AllReadyH.cons rfl (fun K hK => ?_) AllReadyH.nil
            have y0 := x10.cell 0 _ rfl
            have y1 := x10.cell 1 _ rfl
            have u0 := x10.free 0
            have u1 := x10.free 1
            have hltq := x10.lt
            go_simp
            replace x10 := box_set2 x10 (.bool false) (.slice ta 0 tc)
            replace oM := row_setNe2 oM ne_oM_x10 (.bool false) (.slice ta 0 tc)
            replace hS := below_set2 hS hn_x10 (.bool false) (.slice ta 0 tc)
            clear hltq y0 u0 y1 u1
            refine hK.out _ _ (hS) (fun hHeld => ?_)
            clear hK K
            refine held_take (i := 12) (d := 11) (v := ?v16) rfl rfl (by kernel_rfl) (by kernel_rfl) (by kernel_rfl) (fun _ _ _ h => h) (Or.inl ⟨by kernel_rfl, ?hy16⟩) hHeld ?rest16
            case hy16 =>
              intro wx hSw
              clear hSw
              go_simp
              with_reducible rfl
            simp only [List.setIfInBounds_toArray, List.set_cons_zero, List.set_cons_succ]
            refine held_take (i := 13) (d := 12) (v := ?v17) rfl rfl (by kernel_rfl) (by kernel_rfl) (by kernel_rfl) (fun _ _ _ h => h) (Or.inl ⟨by kernel_rfl, ?hy17⟩) hHeld ?rest17
            case hy17 =>
              intro wx hSw
              clear hSw
              go_simp
              with_reducible rfl
            simp only [List.setIfInBounds_toArray, List.set_cons_zero, List.set_cons_succ]
            refine wpAnyH_ready (rs := [14]) (by kernel_rfl) (by simp) ?_
            refine AllReadyH.cons rfl (fun K hK => ?_) AllReadyH.nil
            go_simp
            refine hK.out _ _ hHeld (fun hHeld => ?_)
            clear hK K
            refine wpAnyH_done (by kernel_rfl) ?_ _
            go_wp2_with fail
            go_meet
            exact ⟨_, ta, tc, rfl, rfl, rfl, x10, hHeld⟩
          exact AllReadyH.nil
        refine AllReadyH.cons rfl (fun K hK => ?_) ?_
        · go_simp
          have bA := (Below.refl _ wk0).alloc (Nat.le_refl _) (.cells #[.bool false, .slice none 0 0] 24)
          have hn_x10 : nq ≤ wk0.heap.size := by have := hS.size; omega
          have x10 := Box.new wk0 24 #[.bool false, .slice none 0 0]
          replace hS := hS.trans (bA.mono hn_x10)
          clear bA
          generalize wk0.alloc (.cells #[.bool false, .slice none 0 0] 24) = wk1 at *
          refine hK.out _ _ (hS) (fun hHeld => ?_)
          clear hK K
          refine wpAnyH_ready (rs := [2]) (by kernel_rfl) (by simp) ?_
          refine AllReadyH.cons rfl (fun K hK => ?_) AllReadyH.nil
          refine step_make_full rfl _ _ 22 rfl wk1.heap.size 5 i0 (.int .u8 0) 1 Try.underlying22 hi hz0 hz1 .i64 .i64 _ _ Kn rfl rfl rfl rfl (by rw [hz2]; omega) (by unfold maxLen; omega) (Nat.le_refl _) ?_
          intro wk2 oM gM
          simp only [Act.put, List.setIfInBounds_toArray]
          replace oM := made_noughtsJ oM
          have b8 : Below wk1.heap.size wk1 wk2 := (Below.refl _ _).grown gM (Nat.le_refl _) (fun k e => by cases e)
          clear gM
          have ne_oM_x10 := row_neOld oM x10.lt
          replace x10 := x10.next b8
          replace hS := hS.trans (b8.mono (by have := hS.size; omega))
          clear b8
          refine hK.out _ _ (hS) (fun hHeld => ?_)
          clear hK K
          refine held_take (i := 3) (d := 52) (v := ?v18) rfl rfl (by kernel_rfl) (by kernel_rfl) (by kernel_rfl) (fun _ _ _ h => h) (Or.inl ⟨by kernel_rfl, ?hy18⟩) hHeld ?rest18
          case hy18 =>
            intro wx hSw
            clear hSw
            go_simp
            with_reducible rfl
          simp only [List.setIfInBounds_toArray, List.set_cons_zero, List.set_cons_succ]
          refine wpAnyH_ready (rs := [4]) (by kernel_rfl) (by simp) ?_
          refine AllReadyH.cons rfl (fun K hK => ?_) AllReadyH.nil
          go_simp
          go_wp2_with (go_at_call 10; refine (HX.out _ _ (by exact hS) (holds_of_row oM)).mono ?_; rintro e wk3 ⟨ta, tc, ua, uc, rfl, b8⟩)
          replace oM := rowK_below oM b8 (Nat.le_refl _)
          replace x10 := x10.next b8
          replace hS := hS.trans (b8.mono (by have := hS.size; omega))
          clear b8
          refine hK.out _ _ (hS) (fun hHeld => ?_)
          clear hK K
          refine held_take (i := 5) (d := 48) (v := ?v19) rfl rfl (by kernel_rfl) (by kernel_rfl) (by kernel_rfl) (fun _ _ _ h => h) (Or.inl ⟨by kernel_rfl, ?hy19⟩) hHeld ?rest19
          case hy19 =>
            intro wx hSw
            clear hSw
            go_simp
            with_reducible rfl
          simp only [List.setIfInBounds_toArray, List.set_cons_zero, List.set_cons_succ]
          refine held_take (i := 6) (d := 54) (v := ?v20) rfl rfl (by kernel_rfl) (by kernel_rfl) (by kernel_rfl) (fun _ _ _ h => h) (Or.inl ⟨by kernel_rfl, ?hy20⟩) hHeld ?rest20
          case hy20 =>
            intro wx hSw
            clear hSw
            go_simp
            with_reducible rfl
          simp only [List.setIfInBounds_toArray, List.set_cons_zero, List.set_cons_succ]
          refine held_take (i := 7) (d := 55) (v := ?v21) rfl rfl (by kernel_rfl) (by kernel_rfl) (by kernel_rfl) (fun _ _ _ h => h) (Or.inl ⟨by kernel_rfl, ?hy21⟩) hHeld ?rest21
          case hy21 =>
            intro wx hSw
            clear hSw
            go_simp
            with_reducible rfl
          simp only [List.setIfInBounds_toArray, List.set_cons_zero, List.set_cons_succ]
          refine held_take (i := 8) (d := 56) (v := ?v22) rfl rfl (by kernel_rfl) (by kernel_rfl) (by kernel_rfl) (fun _ _ _ h => h) (Or.inl ⟨by kernel_rfl, ?hy22⟩) hHeld ?rest22
          case hy22 =>
            intro wx hSw
            clear hSw
            go_simp
            with_reducible rfl
          simp only [List.setIfInBounds_toArray, List.set_cons_zero, List.set_cons_succ]
          refine held_take (i := 9) (d := 57) (v := ?v23) rfl rfl (by kernel_rfl) (by kernel_rfl) (by kernel_rfl) (fun _ _ _ h => h) (Or.inl ⟨by kernel_rfl, ?hy23⟩) hHeld ?rest23
          case hy23 =>
            intro wx hSw
            clear hSw
            go_simp
            with_reducible rfl
          simp only [List.setIfInBounds_toArray, List.set_cons_zero, List.set_cons_succ]
          refine wpAnyH_ready (rs := [11]) (by kernel_rfl) (by simp) ?_
          refine AllReadyH.cons rfl (fun K hK => ?_) AllReadyH.nil
          have y0 := x10.cell 0 _ rfl
          have y1 := x10.cell 1 _ rfl
          have u0 := x10.free 0
          have u1 := x10.free 1
          have hltq := x10.lt
          go_simp
          replace x10 := box_set2 x10 (.bool false) (.slice ta 0 tc)
          replace oM := row_setNe2 oM ne_oM_x10 (.bool false) (.slice ta 0 tc)
          replace hS := below_set2 hS hn_x10 (.bool false) (.slice ta 0 tc)
          clear hltq y0 u0 y1 u1
          refine hK.out _ _ (hS) (fun hHeld => ?_)
          clear hK K
          refine held_take (i := 12) (d := 11) (v := ?v24) rfl rfl (by kernel_rfl) (by kernel_rfl) (by kernel_rfl) (fun _ _ _ h => h) (Or.inl ⟨by kernel_rfl, ?hy24⟩) hHeld ?rest24
          case hy24 =>
            intro wx hSw
            clear hSw
            go_simp
            with_reducible rfl
          simp only [List.setIfInBounds_toArray, List.set_cons_zero, List.set_cons_succ]
          refine held_take (i := 13) (d := 12) (v := ?v25) rfl rfl (by kernel_rfl) (by kernel_rfl) (by kernel_rfl) (fun _ _ _ h => h) (Or.inl ⟨by kernel_rfl, ?hy25⟩) hHeld ?rest25
          case hy25 =>
            intro wx hSw
            clear hSw
            go_simp
            with_reducible rfl
          simp only [List.setIfInBounds_toArray, List.set_cons_zero, List.set_cons_succ]
          refine wpAnyH_ready (rs := [14]) (by kernel_rfl) (by simp) ?_
          refine AllReadyH.cons rfl (fun K hK => ?_) AllReadyH.nil
          go_simp
          refine hK.out _ _ hHeld (fun hHeld => ?_)
          clear hK K
          refine wpAnyH_done (by kernel_rfl) ?_ _
          go_wp2_with fail
          go_meet
          exact ⟨_, ta, tc, rfl, rfl, rfl, x10, hHeld⟩
        exact AllReadyH.nil
    case rest =>
      obtain ⟨B10, ta, tc, rfl, rfl, rfl, x10, b9⟩ := hcut
      replace b9 : Below W2.heap.size W2 wc := hnq ▸ b9
      replace x5 := x5.next b9
      replace bb := bb.trans (b9.mono bb.size)
      clear b9 HX m50 m51 hl5 hnq hM9
      have c0 := x10.cell 0 _ rfl
      have c1 := x10.cell 1 _ rfl
      have k1 := x5.cell 1 _ rfl
      have l5 := x5.lt
      have l10 := x10.lt
      go_wp2_with fail
      refine (joinWakes_any _).mono ?_
      rintro e w99 ⟨rfl, b99⟩
      go_wp2
      go_ret
      exact ⟨rfl, bb.trans (b99.mono bb.size)⟩
  · skip
    have d1 : decide ((4096 : Int) < (M : Int) + (Kn : Int)) = false := decide_eq_false (by omega)
    have d1n : decide (4096 < M + Kn) = false := decide_eq_false (by omega)
    obtain ⟨nq, hnq⟩ : ∃ n, W2.heap.size = n := ⟨_, rfl⟩
    have hl5 : B5 < nq := hnq ▸ x5.lt
    have m50 : Hid (W2.cell? ⟨B5, 0, none⟩ = some (.bool true)) := x5.cell 0 _ rfl
    have m51 : Hid (W2.cell? ⟨B5, 1, none⟩ = some (.slice (some ⟨w.heap.size, 0, none⟩) M M)) := x5.cell 1 _ rfl
    have HX : Hid (∀ (wx : World) (ad : Option Addr), Below nq W2 wx → Holds .u8 wx.heap.size wx (.slice ad Kn Kn) (List.replicate Kn 0) → Calls Try.prog 10 #[.agg #[.bool true, .slice (some ⟨w.heap.size, 0, none⟩) M M], .agg #[.int .i64 0, .int .i64 0, .slice ad Kn Kn]] wx fun e W' => ∃ ta tc ua uc, e = .returned (.tuple #[.agg #[.bool true, .slice ta (M + Kn) tc], .slice ua 0 uc, .bool false, .int .i64 0]) ∧ Below wx.heap.size wx W') := fun wx ad hx hh => by
      refine (joinTake_nm true (some ⟨w.heap.size, 0, none⟩) M M 0 0 ad Kn Kn (by rw [if_pos rfl]; exact decide_eq_true hM4) (by decide) (by decide) (by omega) rfl (by decide) hM4 (by omega) (by decide) (List.replicate M 0) (List.replicate Kn 0) (HR M).out (HR Kn).out wx (hM9.next (hnq ▸ hx)) hh).mono ?_
      rintro e W' ⟨va, vc, rfl, _, b⟩
      exact ⟨va, vc, none, 0, rfl, b⟩
    go_cut [10, 11, 12, 13] (fun v0 v1 v2 v3 wx => ∃ B10 ta tc, v0 = .pointer (some ⟨B10, 0, none⟩) ∧ v2 = .bool false ∧ v3 = .int .i64 0 ∧ Box wx B10 24 #[.bool true, .slice ta (M + Kn) tc] ∧ Below nq W2 wx)
    case first =>
      as_aux_lemma =>
        have hS : Below nq W2 W2.drew := below_drewJ hnq
        refine wp_region_held_drew (S := fun w' => Below nq W2 w') (by kernel_rfl) (hS) (fun hHeld => ?_)
        generalize W2.drew = wk0 at *
        refine held_take (i := 0) (d := 49) (v := ?v26) rfl rfl (by kernel_rfl) (by kernel_rfl) (by kernel_rfl) (fun _ _ _ h => h) (Or.inl ⟨by kernel_rfl, ?hy26⟩) hHeld ?rest26
        case hy26 =>
          intro wx hSw
          have q0 := (hSw.cell (p := ⟨B5, 0, none⟩) hl5).trans m50.out
          have q1 := (hSw.cell (p := ⟨B5, 1, none⟩) hl5).trans m51.out
          clear hSw
          go_simp
          with_reducible rfl
        simp only [List.setIfInBounds_toArray, List.set_cons_zero, List.set_cons_succ]
        refine held_take (i := 1) (d := 50) (v := ?v27) rfl rfl (by kernel_rfl) (by kernel_rfl) (by kernel_rfl) (fun _ _ _ h => h) (Or.inl ⟨by kernel_rfl, ?hy27⟩) hHeld ?rest27
        case hy27 =>
          intro wx hSw
          clear hSw
          go_simp
          with_reducible rfl
        simp only [List.setIfInBounds_toArray, List.set_cons_zero, List.set_cons_succ]
        refine wpAnyH_ready (rs := [2, 10]) (by kernel_rfl) (by simp) ?_
        refine AllReadyH.cons rfl (fun K hK => ?_) ?_
        · refine step_make_full rfl _ _ 22 rfl wk0.heap.size 5 i0 (.int .u8 0) 1 Try.underlying22 hi hz0 hz1 .i64 .i64 _ _ Kn rfl rfl rfl rfl (by rw [hz2]; omega) (by unfold maxLen; omega) (Nat.le_refl _) ?_
          intro wk1 oM gM
          simp only [Act.put, List.setIfInBounds_toArray]
          replace oM := made_noughtsJ oM
          have b8 : Below wk0.heap.size wk0 wk1 := (Below.refl _ _).grown gM (Nat.le_refl _) (fun k e => by cases e)
          clear gM
          replace hS := hS.trans (b8.mono (by have := hS.size; omega))
          clear b8
          refine hK.out _ _ (hS) (fun hHeld => ?_)
          clear hK K
          refine held_take (i := 3) (d := 52) (v := ?v28) rfl rfl (by kernel_rfl) (by kernel_rfl) (by kernel_rfl) (fun _ _ _ h => h) (Or.inl ⟨by kernel_rfl, ?hy28⟩) hHeld ?rest28
          case hy28 =>
            intro wx hSw
            clear hSw
            go_simp
            with_reducible rfl
          simp only [List.setIfInBounds_toArray, List.set_cons_zero, List.set_cons_succ]
          refine wpAnyH_ready (rs := [4, 10]) (by kernel_rfl) (by simp) ?_
          refine AllReadyH.cons rfl (fun K hK => ?_) ?_
          · go_simp
            go_wp2_with (go_at_call 10; refine (HX.out _ _ (by exact hS) (holds_of_row oM)).mono ?_; rintro e wk2 ⟨ta, tc, ua, uc, rfl, b8⟩)
            replace oM := rowK_below oM b8 (Nat.le_refl _)
            replace hS := hS.trans (b8.mono (by have := hS.size; omega))
            clear b8
            refine hK.out _ _ (hS) (fun hHeld => ?_)
            clear hK K
            refine held_take (i := 5) (d := 48) (v := ?v29) rfl rfl (by kernel_rfl) (by kernel_rfl) (by kernel_rfl) (fun _ _ _ h => h) (Or.inl ⟨by kernel_rfl, ?hy29⟩) hHeld ?rest29
            case hy29 =>
              intro wx hSw
              clear hSw
              go_simp
              with_reducible rfl
            simp only [List.setIfInBounds_toArray, List.set_cons_zero, List.set_cons_succ]
            refine held_take (i := 6) (d := 54) (v := ?v30) rfl rfl (by kernel_rfl) (by kernel_rfl) (by kernel_rfl) (fun _ _ _ h => h) (Or.inl ⟨by kernel_rfl, ?hy30⟩) hHeld ?rest30
            case hy30 =>
              intro wx hSw
              clear hSw
              go_simp
              with_reducible rfl
            simp only [List.setIfInBounds_toArray, List.set_cons_zero, List.set_cons_succ]
            refine held_take (i := 7) (d := 55) (v := ?v31) rfl rfl (by kernel_rfl) (by kernel_rfl) (by kernel_rfl) (fun _ _ _ h => h) (Or.inl ⟨by kernel_rfl, ?hy31⟩) hHeld ?rest31
            case hy31 =>
              intro wx hSw
              clear hSw
              go_simp
              with_reducible rfl
            simp only [List.setIfInBounds_toArray, List.set_cons_zero, List.set_cons_succ]
            refine held_take (i := 8) (d := 56) (v := ?v32) rfl rfl (by kernel_rfl) (by kernel_rfl) (by kernel_rfl) (fun _ _ _ h => h) (Or.inl ⟨by kernel_rfl, ?hy32⟩) hHeld ?rest32
            case hy32 =>
              intro wx hSw
              clear hSw
              go_simp
              with_reducible rfl
            simp only [List.setIfInBounds_toArray, List.set_cons_zero, List.set_cons_succ]
            refine held_take (i := 9) (d := 57) (v := ?v33) rfl rfl (by kernel_rfl) (by kernel_rfl) (by kernel_rfl) (fun _ _ _ h => h) (Or.inl ⟨by kernel_rfl, ?hy33⟩) hHeld ?rest33
            case hy33 =>
              intro wx hSw
              clear hSw
              go_simp
              with_reducible rfl
            simp only [List.setIfInBounds_toArray, List.set_cons_zero, List.set_cons_succ]
            refine wpAnyH_ready (rs := [10]) (by kernel_rfl) (by simp) ?_
            refine AllReadyH.cons rfl (fun K hK => ?_) AllReadyH.nil
            go_simp
            have bA := (Below.refl _ wk2).alloc (Nat.le_refl _) (.cells #[.bool false, .slice none 0 0] 24)
            have hn_x10 : nq ≤ wk2.heap.size := by have := hS.size; omega
            have ne_oM_x10 := row_neNew oM
            replace oM := rowK_below oM bA (Nat.le_refl _)
            have x10 := Box.new wk2 24 #[.bool false, .slice none 0 0]
            replace hS := hS.trans (bA.mono hn_x10)
            clear bA
            generalize wk2.alloc (.cells #[.bool false, .slice none 0 0] 24) = wk3 at *
            refine hK.out _ _ (hS) (fun hHeld => ?_)
            clear hK K
            refine wpAnyH_ready (rs := [11]) (by kernel_rfl) (by simp) ?_
            refine AllReadyH.cons rfl (fun K hK => ?_) AllReadyH.nil
            have y0 := x10.cell 0 _ rfl
            have y1 := x10.cell 1 _ rfl
            have u0 := x10.free 0
            have u1 := x10.free 1
            have hltq := x10.lt
            go_simp
            replace x10 := box_set2 x10 (.bool true) (.slice ta (M + Kn) tc)
            replace oM := row_setNe2 oM ne_oM_x10 (.bool true) (.slice ta (M + Kn) tc)
            replace hS := below_set2 hS hn_x10 (.bool true) (.slice ta (M + Kn) tc)
            clear hltq y0 u0 y1 u1
            refine hK.out _ _ (hS) (fun hHeld => ?_)
            clear hK K
            refine held_take (i := 12) (d := 11) (v := ?v34) rfl rfl (by kernel_rfl) (by kernel_rfl) (by kernel_rfl) (fun _ _ _ h => h) (Or.inl ⟨by kernel_rfl, ?hy34⟩) hHeld ?rest34
            case hy34 =>
              intro wx hSw
              clear hSw
              go_simp
              with_reducible rfl
            simp only [List.setIfInBounds_toArray, List.set_cons_zero, List.set_cons_succ]
            refine held_take (i := 13) (d := 12) (v := ?v35) rfl rfl (by kernel_rfl) (by kernel_rfl) (by kernel_rfl) (fun _ _ _ h => h) (Or.inl ⟨by kernel_rfl, ?hy35⟩) hHeld ?rest35
            case hy35 =>
              intro wx hSw
              clear hSw
              go_simp
              with_reducible rfl
            simp only [List.setIfInBounds_toArray, List.set_cons_zero, List.set_cons_succ]
            refine wpAnyH_ready (rs := [14]) (by kernel_rfl) (by simp) ?_
            refine AllReadyH.cons rfl (fun K hK => ?_) AllReadyH.nil
            go_simp
            refine hK.out _ _ hHeld (fun hHeld => ?_)
            clear hK K
            refine wpAnyH_done (by kernel_rfl) ?_ _
            go_wp2_with fail
            go_meet
            exact ⟨_, ta, tc, rfl, rfl, rfl, x10, hHeld⟩
          refine AllReadyH.cons rfl (fun K hK => ?_) ?_
          · go_simp
            have bA := (Below.refl _ wk1).alloc (Nat.le_refl _) (.cells #[.bool false, .slice none 0 0] 24)
            have hn_x10 : nq ≤ wk1.heap.size := by have := hS.size; omega
            have ne_oM_x10 := row_neNew oM
            replace oM := rowK_below oM bA (Nat.le_refl _)
            have x10 := Box.new wk1 24 #[.bool false, .slice none 0 0]
            replace hS := hS.trans (bA.mono hn_x10)
            clear bA
            generalize wk1.alloc (.cells #[.bool false, .slice none 0 0] 24) = wk2 at *
            refine hK.out _ _ (hS) (fun hHeld => ?_)
            clear hK K
            refine wpAnyH_ready (rs := [4]) (by kernel_rfl) (by simp) ?_
            refine AllReadyH.cons rfl (fun K hK => ?_) AllReadyH.nil
            go_simp
            go_wp2_with (go_at_call 10; refine (HX.out _ _ (by exact hS) (holds_of_row oM)).mono ?_; rintro e wk3 ⟨ta, tc, ua, uc, rfl, b8⟩)
            replace oM := rowK_below oM b8 (Nat.le_refl _)
            replace x10 := x10.next b8
            replace hS := hS.trans (b8.mono (by have := hS.size; omega))
            clear b8
            refine hK.out _ _ (hS) (fun hHeld => ?_)
            clear hK K
            refine held_take (i := 5) (d := 48) (v := ?v36) rfl rfl (by kernel_rfl) (by kernel_rfl) (by kernel_rfl) (fun _ _ _ h => h) (Or.inl ⟨by kernel_rfl, ?hy36⟩) hHeld ?rest36
            case hy36 =>
              intro wx hSw
              clear hSw
              go_simp
              with_reducible rfl
            simp only [List.setIfInBounds_toArray, List.set_cons_zero, List.set_cons_succ]
            refine held_take (i := 6) (d := 54) (v := ?v37) rfl rfl (by kernel_rfl) (by kernel_rfl) (by kernel_rfl) (fun _ _ _ h => h) (Or.inl ⟨by kernel_rfl, ?hy37⟩) hHeld ?rest37
            case hy37 =>
              intro wx hSw
              clear hSw
              go_simp
              with_reducible rfl
            simp only [List.setIfInBounds_toArray, List.set_cons_zero, List.set_cons_succ]
            refine held_take (i := 7) (d := 55) (v := ?v38) rfl rfl (by kernel_rfl) (by kernel_rfl) (by kernel_rfl) (fun _ _ _ h => h) (Or.inl ⟨by kernel_rfl, ?hy38⟩) hHeld ?rest38
            case hy38 =>
              intro wx hSw
              clear hSw
              go_simp
              with_reducible rfl
            simp only [List.setIfInBounds_toArray, List.set_cons_zero, List.set_cons_succ]
            refine held_take (i := 8) (d := 56) (v := ?v39) rfl rfl (by kernel_rfl) (by kernel_rfl) (by kernel_rfl) (fun _ _ _ h => h) (Or.inl ⟨by kernel_rfl, ?hy39⟩) hHeld ?rest39
            case hy39 =>
              intro wx hSw
              clear hSw
              go_simp
              with_reducible rfl
            simp only [List.setIfInBounds_toArray, List.set_cons_zero, List.set_cons_succ]
            refine held_take (i := 9) (d := 57) (v := ?v40) rfl rfl (by kernel_rfl) (by kernel_rfl) (by kernel_rfl) (fun _ _ _ h => h) (Or.inl ⟨by kernel_rfl, ?hy40⟩) hHeld ?rest40
            case hy40 =>
              intro wx hSw
              clear hSw
              go_simp
              with_reducible rfl
            simp only [List.setIfInBounds_toArray, List.set_cons_zero, List.set_cons_succ]
            refine wpAnyH_ready (rs := [11]) (by kernel_rfl) (by simp) ?_
            refine AllReadyH.cons rfl (fun K hK => ?_) AllReadyH.nil
            have y0 := x10.cell 0 _ rfl
            have y1 := x10.cell 1 _ rfl
            have u0 := x10.free 0
            have u1 := x10.free 1
            have hltq := x10.lt
            go_simp
            replace x10 := box_set2 x10 (.bool true) (.slice ta (M + Kn) tc)
            replace oM := row_setNe2 oM ne_oM_x10 (.bool true) (.slice ta (M + Kn) tc)
            replace hS := below_set2 hS hn_x10 (.bool true) (.slice ta (M + Kn) tc)
            clear hltq y0 u0 y1 u1
            refine hK.out _ _ (hS) (fun hHeld => ?_)
            clear hK K
            refine held_take (i := 12) (d := 11) (v := ?v41) rfl rfl (by kernel_rfl) (by kernel_rfl) (by kernel_rfl) (fun _ _ _ h => h) (Or.inl ⟨by kernel_rfl, ?hy41⟩) hHeld ?rest41
            case hy41 =>
              intro wx hSw
              clear hSw
              go_simp
              with_reducible rfl
            simp only [List.setIfInBounds_toArray, List.set_cons_zero, List.set_cons_succ]
            refine held_take (i := 13) (d := 12) (v := ?v42) rfl rfl (by kernel_rfl) (by kernel_rfl) (by kernel_rfl) (fun _ _ _ h => h) (Or.inl ⟨by kernel_rfl, ?hy42⟩) hHeld ?rest42
            case hy42 =>
              intro wx hSw
              clear hSw
              go_simp
              with_reducible rfl
            simp only [List.setIfInBounds_toArray, List.set_cons_zero, List.set_cons_succ]
            refine wpAnyH_ready (rs := [14]) (by kernel_rfl) (by simp) ?_
            refine AllReadyH.cons rfl (fun K hK => ?_) AllReadyH.nil
            go_simp
            refine hK.out _ _ hHeld (fun hHeld => ?_)
            clear hK K
            refine wpAnyH_done (by kernel_rfl) ?_ _
            go_wp2_with fail
            go_meet
            exact ⟨_, ta, tc, rfl, rfl, rfl, x10, hHeld⟩
          exact AllReadyH.nil
        refine AllReadyH.cons rfl (fun K hK => ?_) ?_
        · go_simp
          have bA := (Below.refl _ wk0).alloc (Nat.le_refl _) (.cells #[.bool false, .slice none 0 0] 24)
          have hn_x10 : nq ≤ wk0.heap.size := by have := hS.size; omega
          have x10 := Box.new wk0 24 #[.bool false, .slice none 0 0]
          replace hS := hS.trans (bA.mono hn_x10)
          clear bA
          generalize wk0.alloc (.cells #[.bool false, .slice none 0 0] 24) = wk1 at *
          refine hK.out _ _ (hS) (fun hHeld => ?_)
          clear hK K
          refine wpAnyH_ready (rs := [2]) (by kernel_rfl) (by simp) ?_
          refine AllReadyH.cons rfl (fun K hK => ?_) AllReadyH.nil
          refine step_make_full rfl _ _ 22 rfl wk1.heap.size 5 i0 (.int .u8 0) 1 Try.underlying22 hi hz0 hz1 .i64 .i64 _ _ Kn rfl rfl rfl rfl (by rw [hz2]; omega) (by unfold maxLen; omega) (Nat.le_refl _) ?_
          intro wk2 oM gM
          simp only [Act.put, List.setIfInBounds_toArray]
          replace oM := made_noughtsJ oM
          have b8 : Below wk1.heap.size wk1 wk2 := (Below.refl _ _).grown gM (Nat.le_refl _) (fun k e => by cases e)
          clear gM
          have ne_oM_x10 := row_neOld oM x10.lt
          replace x10 := x10.next b8
          replace hS := hS.trans (b8.mono (by have := hS.size; omega))
          clear b8
          refine hK.out _ _ (hS) (fun hHeld => ?_)
          clear hK K
          refine held_take (i := 3) (d := 52) (v := ?v43) rfl rfl (by kernel_rfl) (by kernel_rfl) (by kernel_rfl) (fun _ _ _ h => h) (Or.inl ⟨by kernel_rfl, ?hy43⟩) hHeld ?rest43
          case hy43 =>
            intro wx hSw
            clear hSw
            go_simp
            with_reducible rfl
          simp only [List.setIfInBounds_toArray, List.set_cons_zero, List.set_cons_succ]
          refine wpAnyH_ready (rs := [4]) (by kernel_rfl) (by simp) ?_
          refine AllReadyH.cons rfl (fun K hK => ?_) AllReadyH.nil
          go_simp
          go_wp2_with (go_at_call 10; refine (HX.out _ _ (by exact hS) (holds_of_row oM)).mono ?_; rintro e wk3 ⟨ta, tc, ua, uc, rfl, b8⟩)
          replace oM := rowK_below oM b8 (Nat.le_refl _)
          replace x10 := x10.next b8
          replace hS := hS.trans (b8.mono (by have := hS.size; omega))
          clear b8
          refine hK.out _ _ (hS) (fun hHeld => ?_)
          clear hK K
          refine held_take (i := 5) (d := 48) (v := ?v44) rfl rfl (by kernel_rfl) (by kernel_rfl) (by kernel_rfl) (fun _ _ _ h => h) (Or.inl ⟨by kernel_rfl, ?hy44⟩) hHeld ?rest44
          case hy44 =>
            intro wx hSw
            clear hSw
            go_simp
            with_reducible rfl
          simp only [List.setIfInBounds_toArray, List.set_cons_zero, List.set_cons_succ]
          refine held_take (i := 6) (d := 54) (v := ?v45) rfl rfl (by kernel_rfl) (by kernel_rfl) (by kernel_rfl) (fun _ _ _ h => h) (Or.inl ⟨by kernel_rfl, ?hy45⟩) hHeld ?rest45
          case hy45 =>
            intro wx hSw
            clear hSw
            go_simp
            with_reducible rfl
          simp only [List.setIfInBounds_toArray, List.set_cons_zero, List.set_cons_succ]
          refine held_take (i := 7) (d := 55) (v := ?v46) rfl rfl (by kernel_rfl) (by kernel_rfl) (by kernel_rfl) (fun _ _ _ h => h) (Or.inl ⟨by kernel_rfl, ?hy46⟩) hHeld ?rest46
          case hy46 =>
            intro wx hSw
            clear hSw
            go_simp
            with_reducible rfl
          simp only [List.setIfInBounds_toArray, List.set_cons_zero, List.set_cons_succ]
          refine held_take (i := 8) (d := 56) (v := ?v47) rfl rfl (by kernel_rfl) (by kernel_rfl) (by kernel_rfl) (fun _ _ _ h => h) (Or.inl ⟨by kernel_rfl, ?hy47⟩) hHeld ?rest47
          case hy47 =>
            intro wx hSw
            clear hSw
            go_simp
            with_reducible rfl
          simp only [List.setIfInBounds_toArray, List.set_cons_zero, List.set_cons_succ]
          refine held_take (i := 9) (d := 57) (v := ?v48) rfl rfl (by kernel_rfl) (by kernel_rfl) (by kernel_rfl) (fun _ _ _ h => h) (Or.inl ⟨by kernel_rfl, ?hy48⟩) hHeld ?rest48
          case hy48 =>
            intro wx hSw
            clear hSw
            go_simp
            with_reducible rfl
          simp only [List.setIfInBounds_toArray, List.set_cons_zero, List.set_cons_succ]
          refine wpAnyH_ready (rs := [11]) (by kernel_rfl) (by simp) ?_
          refine AllReadyH.cons rfl (fun K hK => ?_) AllReadyH.nil
          have y0 := x10.cell 0 _ rfl
          have y1 := x10.cell 1 _ rfl
          have u0 := x10.free 0
          have u1 := x10.free 1
          have hltq := x10.lt
          go_simp
          replace x10 := box_set2 x10 (.bool true) (.slice ta (M + Kn) tc)
          replace oM := row_setNe2 oM ne_oM_x10 (.bool true) (.slice ta (M + Kn) tc)
          replace hS := below_set2 hS hn_x10 (.bool true) (.slice ta (M + Kn) tc)
          clear hltq y0 u0 y1 u1
          refine hK.out _ _ (hS) (fun hHeld => ?_)
          clear hK K
          refine held_take (i := 12) (d := 11) (v := ?v49) rfl rfl (by kernel_rfl) (by kernel_rfl) (by kernel_rfl) (fun _ _ _ h => h) (Or.inl ⟨by kernel_rfl, ?hy49⟩) hHeld ?rest49
          case hy49 =>
            intro wx hSw
            clear hSw
            go_simp
            with_reducible rfl
          simp only [List.setIfInBounds_toArray, List.set_cons_zero, List.set_cons_succ]
          refine held_take (i := 13) (d := 12) (v := ?v50) rfl rfl (by kernel_rfl) (by kernel_rfl) (by kernel_rfl) (fun _ _ _ h => h) (Or.inl ⟨by kernel_rfl, ?hy50⟩) hHeld ?rest50
          case hy50 =>
            intro wx hSw
            clear hSw
            go_simp
            with_reducible rfl
          simp only [List.setIfInBounds_toArray, List.set_cons_zero, List.set_cons_succ]
          refine wpAnyH_ready (rs := [14]) (by kernel_rfl) (by simp) ?_
          refine AllReadyH.cons rfl (fun K hK => ?_) AllReadyH.nil
          go_simp
          refine hK.out _ _ hHeld (fun hHeld => ?_)
          clear hK K
          refine wpAnyH_done (by kernel_rfl) ?_ _
          go_wp2_with fail
          go_meet
          exact ⟨_, ta, tc, rfl, rfl, rfl, x10, hHeld⟩
        exact AllReadyH.nil
    case rest =>
      obtain ⟨B10, ta, tc, rfl, rfl, rfl, x10, b9⟩ := hcut
      replace b9 : Below W2.heap.size W2 wc := hnq ▸ b9
      replace x5 := x5.next b9
      replace bb := bb.trans (b9.mono bb.size)
      clear b9 HX m50 m51 hl5 hnq hM9
      have c0 := x10.cell 0 _ rfl
      have c1 := x10.cell 1 _ rfl
      have k1 := x5.cell 1 _ rfl
      have l5 := x5.lt
      have l10 := x10.lt
      go_wp2_with fail
      refine (joinWakes_any _).mono ?_
      rintro e w99 ⟨rfl, b99⟩
      go_wp2
      go_ret
      exact ⟨rfl, bb.trans (b99.mono bb.size)⟩

end Go.Proofs.Ytklmiapieaogdaa
