/-
  ConfExact: the walk: whatever the configuration and the number, the law answers true, and nothing that lay has turned. (Written by tpl_conf.py.)
-/
import Derived.Test.YtnhmdhbemlpjnaaConfWakes
import Derived.Deep.Cut
import Derived.Deep.CutRange
import Derived.Deep.DeepCutAuto
namespace Go.Proofs.Ytnhmdhbemlpjnaa
open Go.RowKit

set_option maxRecDepth 100000 in
set_option maxHeartbeats 4000000 in
theorem confExact_no (c : Cfg) (n : Int) (hA : okC c = false) (w : World) :
    Calls Try.prog 3 #[.agg #[.int .i64 c.cB, .int .i64 c.cBeam, .int .i64 c.cDepth, .int .i64 c.cWin, .int .i64 c.cQs, .int .i64 c.cQr, .int .i64 c.cBatch, .int .i64 c.cPass, .int .i64 c.cMsg, .int .i64 c.cSeqs], .int .i64 n] w fun e w' => e = .returned (.bool true) ∧ Below w.heap.size w w' := by
  have bb : Below w.heap.size w (w.alloc (.cells #[.int .i64 c.cB, .int .i64 c.cBeam, .int .i64 c.cDepth, .int .i64 c.cWin, .int .i64 c.cQs, .int .i64 c.cQr, .int .i64 c.cBatch, .int .i64 c.cPass, .int .i64 c.cMsg, .int .i64 c.cSeqs] 23)) := (Below.refl w.heap.size w).alloc (Nat.le_refl _) _
  have xa := Box.new w 23 #[.int .i64 c.cB, .int .i64 c.cBeam, .int .i64 c.cDepth, .int .i64 c.cWin, .int .i64 c.cQs, .int .i64 c.cQr, .int .i64 c.cBatch, .int .i64 c.cPass, .int .i64 c.cMsg, .int .i64 c.cSeqs]
  have HA : Hid (okC c = false) := hA
  have HCK : Hid (checkA c = 1) := by show checkA c = 1; unfold checkA; rw [hA]; rfl
  clear hA
  go_enter Try.func3, Try.ntmps3
  have HC := refConfig_any c (w.alloc (.cells #[.int .i64 c.cB, .int .i64 c.cBeam, .int .i64 c.cDepth, .int .i64 c.cWin, .int .i64 c.cQs, .int .i64 c.cQr, .int .i64 c.cBatch, .int .i64 c.cPass, .int .i64 c.cMsg, .int .i64 c.cSeqs] 23))
  rw [HA.out] at HC
  have cxa0 := xa.cell 0 _ rfl
  have cxa1 := xa.cell 1 _ rfl
  have cxa2 := xa.cell 2 _ rfl
  have cxa3 := xa.cell 3 _ rfl
  have cxa4 := xa.cell 4 _ rfl
  have cxa5 := xa.cell 5 _ rfl
  have cxa6 := xa.cell 6 _ rfl
  have cxa7 := xa.cell 7 _ rfl
  have cxa8 := xa.cell 8 _ rfl
  have cxa9 := xa.cell 9 _ rfl
  go_wp2_with fail
  refine (HC).mono ?_
  rintro e w1 ⟨rfl, b9⟩
  clear cxa0 cxa1 cxa2 cxa3 cxa4 cxa5 cxa6 cxa7 cxa8 cxa9
  replace xa := xa.next b9
  replace bb := bb.trans (b9.mono bb.size)
  clear b9
  clear HC
  have HC := ConfCheck_any c w1
  rw [HCK.out] at HC
  have cxa0 := xa.cell 0 _ rfl
  have cxa1 := xa.cell 1 _ rfl
  have cxa2 := xa.cell 2 _ rfl
  have cxa3 := xa.cell 3 _ rfl
  have cxa4 := xa.cell 4 _ rfl
  have cxa5 := xa.cell 5 _ rfl
  have cxa6 := xa.cell 6 _ rfl
  have cxa7 := xa.cell 7 _ rfl
  have cxa8 := xa.cell 8 _ rfl
  have cxa9 := xa.cell 9 _ rfl
  go_wp2_with fail
  refine (HC).mono ?_
  rintro e w2 ⟨rfl, b9⟩
  clear cxa0 cxa1 cxa2 cxa3 cxa4 cxa5 cxa6 cxa7 cxa8 cxa9
  replace xa := xa.next b9
  replace bb := bb.trans (b9.mono bb.size)
  clear b9
  clear HC
  have HC := ConfCheck_any c w2
  rw [HCK.out] at HC
  have cxa0 := xa.cell 0 _ rfl
  have cxa1 := xa.cell 1 _ rfl
  have cxa2 := xa.cell 2 _ rfl
  have cxa3 := xa.cell 3 _ rfl
  have cxa4 := xa.cell 4 _ rfl
  have cxa5 := xa.cell 5 _ rfl
  have cxa6 := xa.cell 6 _ rfl
  have cxa7 := xa.cell 7 _ rfl
  have cxa8 := xa.cell 8 _ rfl
  have cxa9 := xa.cell 9 _ rfl
  go_wp2_with fail
  refine (HC).mono ?_
  rintro e w3 ⟨rfl, b9⟩
  clear cxa0 cxa1 cxa2 cxa3 cxa4 cxa5 cxa6 cxa7 cxa8 cxa9
  replace xa := xa.next b9
  replace bb := bb.trans (b9.mono bb.size)
  clear b9
  clear HC
  have G1 : Hid (∀ wx : World, Below w3.heap.size w3 wx → Calls Try.prog 8 #[.agg #[.int .i64 c.cB, .int .i64 c.cBeam, .int .i64 c.cDepth, .int .i64 c.cWin, .int .i64 c.cQs, .int .i64 c.cQr, .int .i64 c.cBatch, .int .i64 c.cPass, .int .i64 c.cMsg, .int .i64 c.cSeqs]] wx fun e w' => e = .returned (.int .i64 0) ∧ Below w3.heap.size w3 w') := fun wx hw => by
    have := ConfSegs_any c wx
    rw [show segsA c = 0 from by unfold segsA; rw [HA.out]; simp] at this
    exact this.mono fun e w' ⟨h, b⟩ => ⟨h, hw.trans (b.mono hw.size)⟩
  have G2 : Hid (∀ wx : World, Below w3.heap.size w3 wx → Calls Try.prog 9 #[.agg #[.int .i64 c.cB, .int .i64 c.cBeam, .int .i64 c.cDepth, .int .i64 c.cWin, .int .i64 c.cQs, .int .i64 c.cQr, .int .i64 c.cBatch, .int .i64 c.cPass, .int .i64 c.cMsg, .int .i64 c.cSeqs]] wx fun e w' => e = .returned (.int .i64 0) ∧ Below w3.heap.size w3 w') := fun wx hw => by
    have := ConfMost_any c wx
    rw [show mostA c = 0 from by unfold mostA; rw [HA.out]; simp] at this
    exact this.mono fun e w' ⟨h, b⟩ => ⟨h, hw.trans (b.mono hw.size)⟩
  have G3 : Hid (∀ wx : World, Below w3.heap.size w3 wx → Calls Try.prog 10 #[.agg #[.int .i64 c.cB, .int .i64 c.cBeam, .int .i64 c.cDepth, .int .i64 c.cWin, .int .i64 c.cQs, .int .i64 c.cQr, .int .i64 c.cBatch, .int .i64 c.cPass, .int .i64 c.cMsg, .int .i64 c.cSeqs], .int .i64 n] wx fun e w' => e = .returned (.int .i64 0) ∧ Below w3.heap.size w3 w') := fun wx hw => by
    have := ConfBlocks_any c n wx
    rw [show blocksA c n = 0 from by unfold blocksA; rw [HA.out]; simp] at this
    exact this.mono fun e w' ⟨h, b⟩ => ⟨h, hw.trans (b.mono hw.size)⟩
  have G4 : Hid (∀ wx : World, Below w3.heap.size w3 wx → Calls Try.prog 11 #[.agg #[.int .i64 c.cB, .int .i64 c.cBeam, .int .i64 c.cDepth, .int .i64 c.cWin, .int .i64 c.cQs, .int .i64 c.cQr, .int .i64 c.cBatch, .int .i64 c.cPass, .int .i64 c.cMsg, .int .i64 c.cSeqs]] wx fun e w' => e = .returned (.int .i64 0) ∧ Below w3.heap.size w3 w') := fun wx hw => by
    have := ConfTicks_any c wx
    rw [show ticksA c = 0 from by unfold ticksA; rw [HA.out]; simp] at this
    exact this.mono fun e w' ⟨h, b⟩ => ⟨h, hw.trans (b.mono hw.size)⟩
  have G5 : Hid (∀ wx : World, Below w3.heap.size w3 wx → Calls Try.prog 12 #[.agg #[.int .i64 c.cB, .int .i64 c.cBeam, .int .i64 c.cDepth, .int .i64 c.cWin, .int .i64 c.cQs, .int .i64 c.cQr, .int .i64 c.cBatch, .int .i64 c.cPass, .int .i64 c.cMsg, .int .i64 c.cSeqs], .int .i64 n] wx fun e w' => e = .returned (.int .i64 0) ∧ Below w3.heap.size w3 w') := fun wx hw => by
    have := ConfCycles_any c n wx
    rw [show cyclesA c n = 0 from by unfold cyclesA; rw [HA.out]; simp] at this
    exact this.mono fun e w' ⟨h, b⟩ => ⟨h, hw.trans (b.mono hw.size)⟩
  have HWK : Hid (∀ wx : World, Below w3.heap.size w3 wx → Calls Try.prog 13 #[] wx fun e w' => e = .returned (.bool true) ∧ Below w3.heap.size w3 w') := fun wx hw => (confWakes_any wx).mono fun e w' ⟨h, b⟩ => ⟨h, hw.trans (b.mono hw.size)⟩
  have Hxa0 : Hid _ := xa.cell 0 _ rfl
  have Hxa1 : Hid _ := xa.cell 1 _ rfl
  have Hxa2 : Hid _ := xa.cell 2 _ rfl
  have Hxa3 : Hid _ := xa.cell 3 _ rfl
  have Hxa4 : Hid _ := xa.cell 4 _ rfl
  have Hxa5 : Hid _ := xa.cell 5 _ rfl
  have Hxa6 : Hid _ := xa.cell 6 _ rfl
  have Hxa7 : Hid _ := xa.cell 7 _ rfl
  have Hxa8 : Hid _ := xa.cell 8 _ rfl
  have Hxa9 : Hid _ := xa.cell 9 _ rfl
  have hlta := xa.lt
  go_wp2
  refine wp_region_held_drew (S := fun w' => Below w3.heap.size w3 w') (by kernel_rfl) ((Below.refl _ _).drew) (fun hHeld => ?_)
  refine held_take (i := 0) (d := 26) (v := ?v13) rfl rfl (by kernel_rfl) (by kernel_rfl) (by kernel_rfl) (fun _ _ _ h => h) (Or.inl ⟨by kernel_rfl, ?hy13⟩) hHeld ?rest13
  case hy13 =>
    intro wx hSw
    have q0 := (hSw.cell (p := ⟨w.heap.size, 0, none⟩) hlta).trans Hxa0.out
    have q1 := (hSw.cell (p := ⟨w.heap.size, 1, none⟩) hlta).trans Hxa1.out
    have q2 := (hSw.cell (p := ⟨w.heap.size, 2, none⟩) hlta).trans Hxa2.out
    have q3 := (hSw.cell (p := ⟨w.heap.size, 3, none⟩) hlta).trans Hxa3.out
    have q4 := (hSw.cell (p := ⟨w.heap.size, 4, none⟩) hlta).trans Hxa4.out
    have q5 := (hSw.cell (p := ⟨w.heap.size, 5, none⟩) hlta).trans Hxa5.out
    have q6 := (hSw.cell (p := ⟨w.heap.size, 6, none⟩) hlta).trans Hxa6.out
    have q7 := (hSw.cell (p := ⟨w.heap.size, 7, none⟩) hlta).trans Hxa7.out
    have q8 := (hSw.cell (p := ⟨w.heap.size, 8, none⟩) hlta).trans Hxa8.out
    have q9 := (hSw.cell (p := ⟨w.heap.size, 9, none⟩) hlta).trans Hxa9.out
    clear hSw
    go_simp
    with_reducible rfl
  simp only [List.setIfInBounds_toArray, List.set_cons_zero, List.set_cons_succ]
  refine held_take (i := 2) (d := 28) (v := ?v14) rfl rfl (by kernel_rfl) (by kernel_rfl) (by kernel_rfl) (fun _ _ _ h => h) (Or.inl ⟨by kernel_rfl, ?hy14⟩) hHeld ?rest14
  case hy14 =>
    intro wx hSw
    have q0 := (hSw.cell (p := ⟨w.heap.size, 0, none⟩) hlta).trans Hxa0.out
    have q1 := (hSw.cell (p := ⟨w.heap.size, 1, none⟩) hlta).trans Hxa1.out
    have q2 := (hSw.cell (p := ⟨w.heap.size, 2, none⟩) hlta).trans Hxa2.out
    have q3 := (hSw.cell (p := ⟨w.heap.size, 3, none⟩) hlta).trans Hxa3.out
    have q4 := (hSw.cell (p := ⟨w.heap.size, 4, none⟩) hlta).trans Hxa4.out
    have q5 := (hSw.cell (p := ⟨w.heap.size, 5, none⟩) hlta).trans Hxa5.out
    have q6 := (hSw.cell (p := ⟨w.heap.size, 6, none⟩) hlta).trans Hxa6.out
    have q7 := (hSw.cell (p := ⟨w.heap.size, 7, none⟩) hlta).trans Hxa7.out
    have q8 := (hSw.cell (p := ⟨w.heap.size, 8, none⟩) hlta).trans Hxa8.out
    have q9 := (hSw.cell (p := ⟨w.heap.size, 9, none⟩) hlta).trans Hxa9.out
    clear hSw
    go_simp
    with_reducible rfl
  simp only [List.setIfInBounds_toArray, List.set_cons_zero, List.set_cons_succ]
  refine held_take (i := 5) (d := 31) (v := ?v15) rfl rfl (by kernel_rfl) (by kernel_rfl) (by kernel_rfl) (fun _ _ _ h => h) (Or.inl ⟨by kernel_rfl, ?hy15⟩) hHeld ?rest15
  case hy15 =>
    intro wx hSw
    have q0 := (hSw.cell (p := ⟨w.heap.size, 0, none⟩) hlta).trans Hxa0.out
    have q1 := (hSw.cell (p := ⟨w.heap.size, 1, none⟩) hlta).trans Hxa1.out
    have q2 := (hSw.cell (p := ⟨w.heap.size, 2, none⟩) hlta).trans Hxa2.out
    have q3 := (hSw.cell (p := ⟨w.heap.size, 3, none⟩) hlta).trans Hxa3.out
    have q4 := (hSw.cell (p := ⟨w.heap.size, 4, none⟩) hlta).trans Hxa4.out
    have q5 := (hSw.cell (p := ⟨w.heap.size, 5, none⟩) hlta).trans Hxa5.out
    have q6 := (hSw.cell (p := ⟨w.heap.size, 6, none⟩) hlta).trans Hxa6.out
    have q7 := (hSw.cell (p := ⟨w.heap.size, 7, none⟩) hlta).trans Hxa7.out
    have q8 := (hSw.cell (p := ⟨w.heap.size, 8, none⟩) hlta).trans Hxa8.out
    have q9 := (hSw.cell (p := ⟨w.heap.size, 9, none⟩) hlta).trans Hxa9.out
    clear hSw
    go_simp
    with_reducible rfl
  simp only [List.setIfInBounds_toArray, List.set_cons_zero, List.set_cons_succ]
  refine held_take (i := 6) (d := 32) (v := ?v16) rfl rfl (by kernel_rfl) (by kernel_rfl) (by kernel_rfl) (fun _ _ _ h => h) (Or.inl ⟨by kernel_rfl, ?hy16⟩) hHeld ?rest16
  case hy16 =>
    intro wx hSw
    clear hSw
    go_simp
    with_reducible rfl
  simp only [List.setIfInBounds_toArray, List.set_cons_zero, List.set_cons_succ]
  refine held_take (i := 9) (d := 35) (v := ?v17) rfl rfl (by kernel_rfl) (by kernel_rfl) (by kernel_rfl) (fun _ _ _ h => h) (Or.inl ⟨by kernel_rfl, ?hy17⟩) hHeld ?rest17
  case hy17 =>
    intro wx hSw
    have q0 := (hSw.cell (p := ⟨w.heap.size, 0, none⟩) hlta).trans Hxa0.out
    have q1 := (hSw.cell (p := ⟨w.heap.size, 1, none⟩) hlta).trans Hxa1.out
    have q2 := (hSw.cell (p := ⟨w.heap.size, 2, none⟩) hlta).trans Hxa2.out
    have q3 := (hSw.cell (p := ⟨w.heap.size, 3, none⟩) hlta).trans Hxa3.out
    have q4 := (hSw.cell (p := ⟨w.heap.size, 4, none⟩) hlta).trans Hxa4.out
    have q5 := (hSw.cell (p := ⟨w.heap.size, 5, none⟩) hlta).trans Hxa5.out
    have q6 := (hSw.cell (p := ⟨w.heap.size, 6, none⟩) hlta).trans Hxa6.out
    have q7 := (hSw.cell (p := ⟨w.heap.size, 7, none⟩) hlta).trans Hxa7.out
    have q8 := (hSw.cell (p := ⟨w.heap.size, 8, none⟩) hlta).trans Hxa8.out
    have q9 := (hSw.cell (p := ⟨w.heap.size, 9, none⟩) hlta).trans Hxa9.out
    clear hSw
    go_simp
    with_reducible rfl
  simp only [List.setIfInBounds_toArray, List.set_cons_zero, List.set_cons_succ]
  refine held_take (i := 12) (d := 38) (v := ?v18) rfl rfl (by kernel_rfl) (by kernel_rfl) (by kernel_rfl) (fun _ _ _ h => h) (Or.inl ⟨by kernel_rfl, ?hy18⟩) hHeld ?rest18
  case hy18 =>
    intro wx hSw
    have q0 := (hSw.cell (p := ⟨w.heap.size, 0, none⟩) hlta).trans Hxa0.out
    have q1 := (hSw.cell (p := ⟨w.heap.size, 1, none⟩) hlta).trans Hxa1.out
    have q2 := (hSw.cell (p := ⟨w.heap.size, 2, none⟩) hlta).trans Hxa2.out
    have q3 := (hSw.cell (p := ⟨w.heap.size, 3, none⟩) hlta).trans Hxa3.out
    have q4 := (hSw.cell (p := ⟨w.heap.size, 4, none⟩) hlta).trans Hxa4.out
    have q5 := (hSw.cell (p := ⟨w.heap.size, 5, none⟩) hlta).trans Hxa5.out
    have q6 := (hSw.cell (p := ⟨w.heap.size, 6, none⟩) hlta).trans Hxa6.out
    have q7 := (hSw.cell (p := ⟨w.heap.size, 7, none⟩) hlta).trans Hxa7.out
    have q8 := (hSw.cell (p := ⟨w.heap.size, 8, none⟩) hlta).trans Hxa8.out
    have q9 := (hSw.cell (p := ⟨w.heap.size, 9, none⟩) hlta).trans Hxa9.out
    clear hSw
    go_simp
    with_reducible rfl
  simp only [List.setIfInBounds_toArray, List.set_cons_zero, List.set_cons_succ]
  refine held_take (i := 13) (d := 39) (v := ?v19) rfl rfl (by kernel_rfl) (by kernel_rfl) (by kernel_rfl) (fun _ _ _ h => h) (Or.inl ⟨by kernel_rfl, ?hy19⟩) hHeld ?rest19
  case hy19 =>
    intro wx hSw
    clear hSw
    go_simp
    with_reducible rfl
  simp only [List.setIfInBounds_toArray, List.set_cons_zero, List.set_cons_succ]
  refine wpAnyH_ready (rs := [1]) (by kernel_rfl) (by simp) ?_
  refine AllReadyH.cons rfl (fun K hK => ?_) AllReadyH.nil
  go_simp
  go_wp2_with (go_at_call 8; refine (G1.out _ (by exact hHeld)).mono ?_; rintro e wb ⟨rfl, b8⟩)
  refine hK.out _ _ (b8) (fun hHeld => ?_)
  clear hK K
  refine wpAnyH_ready (rs := [3]) (by kernel_rfl) (by simp) ?_
  refine AllReadyH.cons rfl (fun K hK => ?_) AllReadyH.nil
  go_simp
  go_wp2_with (go_at_call 9; refine (G2.out _ (by exact hHeld)).mono ?_; rintro e wb ⟨rfl, b8⟩)
  refine hK.out _ _ (b8) (fun hHeld => ?_)
  clear hK K
  refine held_take (i := 4) (d := 30) (v := ?v20) rfl rfl (by kernel_rfl) (by kernel_rfl) (by kernel_rfl) (fun _ _ _ h => h) (Or.inl ⟨by kernel_rfl, ?hy20⟩) hHeld ?rest20
  case hy20 =>
    intro wx hSw
    clear hSw
    go_simp
    with_reducible rfl
  simp only [List.setIfInBounds_toArray, List.set_cons_zero, List.set_cons_succ]
  refine wpAnyH_ready (rs := [7]) (by kernel_rfl) (by simp) ?_
  refine AllReadyH.cons rfl (fun K hK => ?_) AllReadyH.nil
  go_simp
  go_wp2_with (go_at_call 10; refine (G3.out _ (by exact hHeld)).mono ?_; rintro e wb ⟨rfl, b8⟩)
  refine hK.out _ _ (b8) (fun hHeld => ?_)
  clear hK K
  refine held_take (i := 8) (d := 34) (v := ?v21) rfl rfl (by kernel_rfl) (by kernel_rfl) (by kernel_rfl) (fun _ _ _ h => h) (Or.inl ⟨by kernel_rfl, ?hy21⟩) hHeld ?rest21
  case hy21 =>
    intro wx hSw
    clear hSw
    go_simp
    with_reducible rfl
  simp only [List.setIfInBounds_toArray, List.set_cons_zero, List.set_cons_succ]
  refine wpAnyH_ready (rs := [10]) (by kernel_rfl) (by simp) ?_
  refine AllReadyH.cons rfl (fun K hK => ?_) AllReadyH.nil
  go_simp
  go_wp2_with (go_at_call 11; refine (G4.out _ (by exact hHeld)).mono ?_; rintro e wb ⟨rfl, b8⟩)
  refine hK.out _ _ (b8) (fun hHeld => ?_)
  clear hK K
  refine held_take (i := 11) (d := 37) (v := ?v22) rfl rfl (by kernel_rfl) (by kernel_rfl) (by kernel_rfl) (fun _ _ _ h => h) (Or.inl ⟨by kernel_rfl, ?hy22⟩) hHeld ?rest22
  case hy22 =>
    intro wx hSw
    clear hSw
    go_simp
    with_reducible rfl
  simp only [List.setIfInBounds_toArray, List.set_cons_zero, List.set_cons_succ]
  refine wpAnyH_ready (rs := [14]) (by kernel_rfl) (by simp) ?_
  refine AllReadyH.cons rfl (fun K hK => ?_) AllReadyH.nil
  go_simp
  go_wp2_with (go_at_call 12; refine (G5.out _ (by exact hHeld)).mono ?_; rintro e wb ⟨rfl, b8⟩)
  refine hK.out _ _ (b8) (fun hHeld => ?_)
  clear hK K
  refine held_take (i := 15) (d := 41) (v := ?v23) rfl rfl (by kernel_rfl) (by kernel_rfl) (by kernel_rfl) (fun _ _ _ h => h) (Or.inl ⟨by kernel_rfl, ?hy23⟩) hHeld ?rest23
  case hy23 =>
    intro wx hSw
    clear hSw
    go_simp
    with_reducible rfl
  simp only [List.setIfInBounds_toArray, List.set_cons_zero, List.set_cons_succ]
  refine held_take (i := 16) (d := 42) (v := ?v24) rfl rfl (by kernel_rfl) (by kernel_rfl) (by kernel_rfl) (fun _ _ _ h => h) (Or.inl ⟨by kernel_rfl, ?hy24⟩) hHeld ?rest24
  case hy24 =>
    intro wx hSw
    clear hSw
    go_simp
    with_reducible rfl
  simp only [List.setIfInBounds_toArray, List.set_cons_zero, List.set_cons_succ]
  refine held_take (i := 17) (d := 43) (v := ?v25) rfl rfl (by kernel_rfl) (by kernel_rfl) (by kernel_rfl) (fun _ _ _ h => h) (Or.inl ⟨by kernel_rfl, ?hy25⟩) hHeld ?rest25
  case hy25 =>
    intro wx hSw
    clear hSw
    go_simp
    with_reducible rfl
  simp only [List.setIfInBounds_toArray, List.set_cons_zero, List.set_cons_succ]
  refine wpAnyH_ready (rs := [18]) (by kernel_rfl) (by simp) ?_
  refine AllReadyH.cons rfl (fun K hK => ?_) AllReadyH.nil
  go_simp
  go_wp2_with (go_at_call 13; refine (HWK.out _ (by exact hHeld)).mono ?_; rintro e wb ⟨rfl, b8⟩)
  refine hK.out _ _ (b8) (fun hHeld => ?_)
  clear hK K
  refine held_take (i := 19) (d := 45) (v := ?v26) rfl rfl (by kernel_rfl) (by kernel_rfl) (by kernel_rfl) (fun _ _ _ h => h) (Or.inl ⟨by kernel_rfl, ?hy26⟩) hHeld ?rest26
  case hy26 =>
    intro wx hSw
    clear hSw
    go_simp
    with_reducible rfl
  simp only [List.setIfInBounds_toArray, List.set_cons_zero, List.set_cons_succ]
  refine wpAnyH_ready (rs := [20]) (by kernel_rfl) (by simp) ?_
  refine AllReadyH.cons rfl (fun K hK => ?_) AllReadyH.nil
  go_simp
  refine hK.out _ _ hHeld (fun hHeld => ?_)
  clear hK K
  refine wpAnyH_done (by kernel_rfl) ?_ _
  go_wp2
  go_ret
  exact ⟨rfl, bb.trans (hHeld.mono bb.size)⟩

set_option maxRecDepth 100000 in
set_option maxHeartbeats 4000000 in
theorem confExact_ok (c : Cfg) (n : Int) (hA : okC c = true) (w : World) :
    Calls Try.prog 3 #[.agg #[.int .i64 c.cB, .int .i64 c.cBeam, .int .i64 c.cDepth, .int .i64 c.cWin, .int .i64 c.cQs, .int .i64 c.cQr, .int .i64 c.cBatch, .int .i64 c.cPass, .int .i64 c.cMsg, .int .i64 c.cSeqs], .int .i64 n] w fun e w' => e = .returned (.bool true) ∧ Below w.heap.size w w' := by
  have bb : Below w.heap.size w (w.alloc (.cells #[.int .i64 c.cB, .int .i64 c.cBeam, .int .i64 c.cDepth, .int .i64 c.cWin, .int .i64 c.cQs, .int .i64 c.cQr, .int .i64 c.cBatch, .int .i64 c.cPass, .int .i64 c.cMsg, .int .i64 c.cSeqs] 23)) := (Below.refl w.heap.size w).alloc (Nat.le_refl _) _
  have xa := Box.new w 23 #[.int .i64 c.cB, .int .i64 c.cBeam, .int .i64 c.cDepth, .int .i64 c.cWin, .int .i64 c.cQs, .int .i64 c.cQr, .int .i64 c.cBatch, .int .i64 c.cPass, .int .i64 c.cMsg, .int .i64 c.cSeqs]
  have HA : Hid (okC c = true) := hA
  have HCK : Hid (checkA c = 0) := by show checkA c = 0; unfold checkA; rw [hA]; rfl
  clear hA
  go_enter Try.func3, Try.ntmps3
  have HC := refConfig_any c (w.alloc (.cells #[.int .i64 c.cB, .int .i64 c.cBeam, .int .i64 c.cDepth, .int .i64 c.cWin, .int .i64 c.cQs, .int .i64 c.cQr, .int .i64 c.cBatch, .int .i64 c.cPass, .int .i64 c.cMsg, .int .i64 c.cSeqs] 23))
  rw [HA.out] at HC
  have cxa0 := xa.cell 0 _ rfl
  have cxa1 := xa.cell 1 _ rfl
  have cxa2 := xa.cell 2 _ rfl
  have cxa3 := xa.cell 3 _ rfl
  have cxa4 := xa.cell 4 _ rfl
  have cxa5 := xa.cell 5 _ rfl
  have cxa6 := xa.cell 6 _ rfl
  have cxa7 := xa.cell 7 _ rfl
  have cxa8 := xa.cell 8 _ rfl
  have cxa9 := xa.cell 9 _ rfl
  go_wp2_with fail
  refine (HC).mono ?_
  rintro e w1 ⟨rfl, b9⟩
  clear cxa0 cxa1 cxa2 cxa3 cxa4 cxa5 cxa6 cxa7 cxa8 cxa9
  replace xa := xa.next b9
  replace bb := bb.trans (b9.mono bb.size)
  clear b9
  clear HC
  have HC := ConfCheck_any c w1
  rw [HCK.out] at HC
  have cxa0 := xa.cell 0 _ rfl
  have cxa1 := xa.cell 1 _ rfl
  have cxa2 := xa.cell 2 _ rfl
  have cxa3 := xa.cell 3 _ rfl
  have cxa4 := xa.cell 4 _ rfl
  have cxa5 := xa.cell 5 _ rfl
  have cxa6 := xa.cell 6 _ rfl
  have cxa7 := xa.cell 7 _ rfl
  have cxa8 := xa.cell 8 _ rfl
  have cxa9 := xa.cell 9 _ rfl
  go_wp2_with fail
  refine (HC).mono ?_
  rintro e w2 ⟨rfl, b9⟩
  clear cxa0 cxa1 cxa2 cxa3 cxa4 cxa5 cxa6 cxa7 cxa8 cxa9
  replace xa := xa.next b9
  replace bb := bb.trans (b9.mono bb.size)
  clear b9
  clear HC
  obtain ⟨BN, hBN⟩ : ∃ x, blocksA c n = x := ⟨_, rfl⟩
  obtain ⟨CN, hCN⟩ : ∃ x, cyclesA c n = x := ⟨_, rfl⟩
  have HBN : Hid (blocksA c n = BN) := hBN
  have HCN : Hid (cyclesA c n = CN) := hCN
  clear hBN hCN
  by_cases hn0 : n < 0
  · have d1 : decide (0 ≤ n) = false := decide_eq_false (by omega)
    obtain rfl : 0 = BN := by
      have := HBN.out
      unfold blocksA at this
      rw [if_neg (by omega)] at this
      exact this
    obtain rfl : 0 = CN := by
      have := HCN.out
      unfold cyclesA at this
      rw [if_neg (by omega)] at this
      exact this
    obtain ⟨S, hS⟩ : ∃ x, segsC c = x := ⟨_, rfl⟩
    obtain ⟨M, hM⟩ : ∃ x, mostC c = x := ⟨_, rfl⟩
    obtain ⟨TT, hTT⟩ : ∃ x, ticksC c = x := ⟨_, rfl⟩
    have eS : (S == S) = true := by simp
    have eM : (M == M) = true := by simp
    have eT : (TT == TT) = true := by simp
    have eB : ((0 : Int) == 0) = true := by simp
    have eC : ((0 : Int) == 0) = true := by simp
    have G1 : Hid (∀ wx : World, Below w2.heap.size w2 wx → Calls Try.prog 8 #[.agg #[.int .i64 c.cB, .int .i64 c.cBeam, .int .i64 c.cDepth, .int .i64 c.cWin, .int .i64 c.cQs, .int .i64 c.cQr, .int .i64 c.cBatch, .int .i64 c.cPass, .int .i64 c.cMsg, .int .i64 c.cSeqs]] wx fun e w' => e = .returned (.int .i64 S) ∧ Below w2.heap.size w2 w') := fun wx hw => by
      have := ConfSegs_any c wx
      rw [show segsA c = S from (if_pos HA.out).trans hS] at this
      exact this.mono fun e w' ⟨h, b⟩ => ⟨h, hw.trans (b.mono hw.size)⟩
    have K1 : Hid (∀ wx : World, Below w2.heap.size w2 wx → Calls Try.prog 16 #[.agg #[.int .i64 c.cB, .int .i64 c.cBeam, .int .i64 c.cDepth, .int .i64 c.cWin, .int .i64 c.cQs, .int .i64 c.cQr, .int .i64 c.cBatch, .int .i64 c.cPass, .int .i64 c.cMsg, .int .i64 c.cSeqs]] wx fun e w' => e = .returned (.int .i64 S) ∧ Below w2.heap.size w2 w') := fun wx hw => by
      have := refSegs_any c HA.out wx
      rw [hS] at this
      exact this.mono fun e w' ⟨h, b⟩ => ⟨h, hw.trans (b.mono hw.size)⟩
    have G2 : Hid (∀ wx : World, Below w2.heap.size w2 wx → Calls Try.prog 9 #[.agg #[.int .i64 c.cB, .int .i64 c.cBeam, .int .i64 c.cDepth, .int .i64 c.cWin, .int .i64 c.cQs, .int .i64 c.cQr, .int .i64 c.cBatch, .int .i64 c.cPass, .int .i64 c.cMsg, .int .i64 c.cSeqs]] wx fun e w' => e = .returned (.int .i64 M) ∧ Below w2.heap.size w2 w') := fun wx hw => by
      have := ConfMost_any c wx
      rw [show mostA c = M from (if_pos HA.out).trans hM] at this
      exact this.mono fun e w' ⟨h, b⟩ => ⟨h, hw.trans (b.mono hw.size)⟩
    have K2 : Hid (∀ wx : World, Below w2.heap.size w2 wx → Calls Try.prog 17 #[.agg #[.int .i64 c.cB, .int .i64 c.cBeam, .int .i64 c.cDepth, .int .i64 c.cWin, .int .i64 c.cQs, .int .i64 c.cQr, .int .i64 c.cBatch, .int .i64 c.cPass, .int .i64 c.cMsg, .int .i64 c.cSeqs]] wx fun e w' => e = .returned (.int .i64 M) ∧ Below w2.heap.size w2 w') := fun wx hw => by
      have := refMost_any c HA.out wx
      rw [hM] at this
      exact this.mono fun e w' ⟨h, b⟩ => ⟨h, hw.trans (b.mono hw.size)⟩
    have G3 : Hid (∀ wx : World, Below w2.heap.size w2 wx → Calls Try.prog 10 #[.agg #[.int .i64 c.cB, .int .i64 c.cBeam, .int .i64 c.cDepth, .int .i64 c.cWin, .int .i64 c.cQs, .int .i64 c.cQr, .int .i64 c.cBatch, .int .i64 c.cPass, .int .i64 c.cMsg, .int .i64 c.cSeqs], .int .i64 n] wx fun e w' => e = .returned (.int .i64 0) ∧ Below w2.heap.size w2 w') := fun wx hw => by
      have := ConfBlocks_any c n wx
      rw [HBN.out] at this
      exact this.mono fun e w' ⟨h, b⟩ => ⟨h, hw.trans (b.mono hw.size)⟩
    have G4 : Hid (∀ wx : World, Below w2.heap.size w2 wx → Calls Try.prog 11 #[.agg #[.int .i64 c.cB, .int .i64 c.cBeam, .int .i64 c.cDepth, .int .i64 c.cWin, .int .i64 c.cQs, .int .i64 c.cQr, .int .i64 c.cBatch, .int .i64 c.cPass, .int .i64 c.cMsg, .int .i64 c.cSeqs]] wx fun e w' => e = .returned (.int .i64 TT) ∧ Below w2.heap.size w2 w') := fun wx hw => by
      have := ConfTicks_any c wx
      rw [show ticksA c = TT from (if_pos HA.out).trans hTT] at this
      exact this.mono fun e w' ⟨h, b⟩ => ⟨h, hw.trans (b.mono hw.size)⟩
    have K4 : Hid (∀ wx : World, Below w2.heap.size w2 wx → Calls Try.prog 18 #[.agg #[.int .i64 c.cB, .int .i64 c.cBeam, .int .i64 c.cDepth, .int .i64 c.cWin, .int .i64 c.cQs, .int .i64 c.cQr, .int .i64 c.cBatch, .int .i64 c.cPass, .int .i64 c.cMsg, .int .i64 c.cSeqs]] wx fun e w' => e = .returned (.int .i64 TT) ∧ Below w2.heap.size w2 w') := fun wx hw => by
      have := refTicks_any c HA.out wx
      rw [hTT] at this
      exact this.mono fun e w' ⟨h, b⟩ => ⟨h, hw.trans (b.mono hw.size)⟩
    have G5 : Hid (∀ wx : World, Below w2.heap.size w2 wx → Calls Try.prog 12 #[.agg #[.int .i64 c.cB, .int .i64 c.cBeam, .int .i64 c.cDepth, .int .i64 c.cWin, .int .i64 c.cQs, .int .i64 c.cQr, .int .i64 c.cBatch, .int .i64 c.cPass, .int .i64 c.cMsg, .int .i64 c.cSeqs], .int .i64 n] wx fun e w' => e = .returned (.int .i64 0) ∧ Below w2.heap.size w2 w') := fun wx hw => by
      have := ConfCycles_any c n wx
      rw [HCN.out] at this
      exact this.mono fun e w' ⟨h, b⟩ => ⟨h, hw.trans (b.mono hw.size)⟩
    have HWK : Hid (∀ wx : World, Below w2.heap.size w2 wx → Calls Try.prog 13 #[] wx fun e w' => e = .returned (.bool true) ∧ Below w2.heap.size w2 w') := fun wx hw => (confWakes_any wx).mono fun e w' ⟨h, b⟩ => ⟨h, hw.trans (b.mono hw.size)⟩
    clear hS hM hTT
    have Hxa0 : Hid _ := xa.cell 0 _ rfl
    have Hxa1 : Hid _ := xa.cell 1 _ rfl
    have Hxa2 : Hid _ := xa.cell 2 _ rfl
    have Hxa3 : Hid _ := xa.cell 3 _ rfl
    have Hxa4 : Hid _ := xa.cell 4 _ rfl
    have Hxa5 : Hid _ := xa.cell 5 _ rfl
    have Hxa6 : Hid _ := xa.cell 6 _ rfl
    have Hxa7 : Hid _ := xa.cell 7 _ rfl
    have Hxa8 : Hid _ := xa.cell 8 _ rfl
    have Hxa9 : Hid _ := xa.cell 9 _ rfl
    have hlta := xa.lt
    go_wp2
    refine wp_region_held_drew (S := fun w' => Below w2.heap.size w2 w') (by kernel_rfl) ((Below.refl _ _).drew) (fun hHeld => ?_)
    refine held_take (i := 0) (d := 64) (v := ?v27) rfl rfl (by kernel_rfl) (by kernel_rfl) (by kernel_rfl) (fun _ _ _ h => h) (Or.inl ⟨by kernel_rfl, ?hy27⟩) hHeld ?rest27
    case hy27 =>
      intro wx hSw
      have q0 := (hSw.cell (p := ⟨w.heap.size, 0, none⟩) hlta).trans Hxa0.out
      have q1 := (hSw.cell (p := ⟨w.heap.size, 1, none⟩) hlta).trans Hxa1.out
      have q2 := (hSw.cell (p := ⟨w.heap.size, 2, none⟩) hlta).trans Hxa2.out
      have q3 := (hSw.cell (p := ⟨w.heap.size, 3, none⟩) hlta).trans Hxa3.out
      have q4 := (hSw.cell (p := ⟨w.heap.size, 4, none⟩) hlta).trans Hxa4.out
      have q5 := (hSw.cell (p := ⟨w.heap.size, 5, none⟩) hlta).trans Hxa5.out
      have q6 := (hSw.cell (p := ⟨w.heap.size, 6, none⟩) hlta).trans Hxa6.out
      have q7 := (hSw.cell (p := ⟨w.heap.size, 7, none⟩) hlta).trans Hxa7.out
      have q8 := (hSw.cell (p := ⟨w.heap.size, 8, none⟩) hlta).trans Hxa8.out
      have q9 := (hSw.cell (p := ⟨w.heap.size, 9, none⟩) hlta).trans Hxa9.out
      clear hSw
      go_simp
      with_reducible rfl
    simp only [List.setIfInBounds_toArray, List.set_cons_zero, List.set_cons_succ]
    refine held_take (i := 2) (d := 66) (v := ?v28) rfl rfl (by kernel_rfl) (by kernel_rfl) (by kernel_rfl) (fun _ _ _ h => h) (Or.inl ⟨by kernel_rfl, ?hy28⟩) hHeld ?rest28
    case hy28 =>
      intro wx hSw
      have q0 := (hSw.cell (p := ⟨w.heap.size, 0, none⟩) hlta).trans Hxa0.out
      have q1 := (hSw.cell (p := ⟨w.heap.size, 1, none⟩) hlta).trans Hxa1.out
      have q2 := (hSw.cell (p := ⟨w.heap.size, 2, none⟩) hlta).trans Hxa2.out
      have q3 := (hSw.cell (p := ⟨w.heap.size, 3, none⟩) hlta).trans Hxa3.out
      have q4 := (hSw.cell (p := ⟨w.heap.size, 4, none⟩) hlta).trans Hxa4.out
      have q5 := (hSw.cell (p := ⟨w.heap.size, 5, none⟩) hlta).trans Hxa5.out
      have q6 := (hSw.cell (p := ⟨w.heap.size, 6, none⟩) hlta).trans Hxa6.out
      have q7 := (hSw.cell (p := ⟨w.heap.size, 7, none⟩) hlta).trans Hxa7.out
      have q8 := (hSw.cell (p := ⟨w.heap.size, 8, none⟩) hlta).trans Hxa8.out
      have q9 := (hSw.cell (p := ⟨w.heap.size, 9, none⟩) hlta).trans Hxa9.out
      clear hSw
      go_simp
      with_reducible rfl
    simp only [List.setIfInBounds_toArray, List.set_cons_zero, List.set_cons_succ]
    refine wpAnyH_ready (rs := [1]) (by kernel_rfl) (by simp) ?_
    refine AllReadyH.cons rfl (fun K hK => ?_) AllReadyH.nil
    go_simp
    go_wp2_with (go_at_call 8; refine (G1.out _ (by exact hHeld)).mono ?_; rintro e wb ⟨rfl, b8⟩)
    refine hK.out _ _ (b8) (fun hHeld => ?_)
    clear hK K
    refine wpAnyH_ready (rs := [3]) (by kernel_rfl) (by simp) ?_
    refine AllReadyH.cons rfl (fun K hK => ?_) AllReadyH.nil
    go_simp
    go_wp2_with (go_at_call 16; refine (K1.out _ (by exact hHeld)).mono ?_; rintro e wb ⟨rfl, b8⟩)
    refine hK.out _ _ (b8) (fun hHeld => ?_)
    clear hK K
    refine held_take (i := 4) (d := 68) (v := ?v29) rfl rfl (by kernel_rfl) (by kernel_rfl) (by kernel_rfl) (fun _ _ _ h => h) (Or.inl ⟨by kernel_rfl, ?hy29⟩) hHeld ?rest29
    case hy29 =>
      intro wx hSw
      clear hSw
      go_simp
      with_reducible rfl
    simp only [List.setIfInBounds_toArray, List.set_cons_zero, List.set_cons_succ]
    refine held_take (i := 5) (d := 69) (v := ?v30) rfl rfl (by kernel_rfl) (by kernel_rfl) (by kernel_rfl) (fun _ _ _ h => h) (Or.inl ⟨by kernel_rfl, ?hy30⟩) hHeld ?rest30
    case hy30 =>
      intro wx hSw
      clear hSw
      go_simp
      with_reducible rfl
    simp only [List.setIfInBounds_toArray, List.set_cons_zero, List.set_cons_succ]
    refine held_take (i := 6) (d := 70) (v := ?v31) rfl rfl (by kernel_rfl) (by kernel_rfl) (by kernel_rfl) (fun _ _ _ h => h) (Or.inl ⟨by kernel_rfl, ?hy31⟩) hHeld ?rest31
    case hy31 =>
      intro wx hSw
      have q0 := (hSw.cell (p := ⟨w.heap.size, 0, none⟩) hlta).trans Hxa0.out
      have q1 := (hSw.cell (p := ⟨w.heap.size, 1, none⟩) hlta).trans Hxa1.out
      have q2 := (hSw.cell (p := ⟨w.heap.size, 2, none⟩) hlta).trans Hxa2.out
      have q3 := (hSw.cell (p := ⟨w.heap.size, 3, none⟩) hlta).trans Hxa3.out
      have q4 := (hSw.cell (p := ⟨w.heap.size, 4, none⟩) hlta).trans Hxa4.out
      have q5 := (hSw.cell (p := ⟨w.heap.size, 5, none⟩) hlta).trans Hxa5.out
      have q6 := (hSw.cell (p := ⟨w.heap.size, 6, none⟩) hlta).trans Hxa6.out
      have q7 := (hSw.cell (p := ⟨w.heap.size, 7, none⟩) hlta).trans Hxa7.out
      have q8 := (hSw.cell (p := ⟨w.heap.size, 8, none⟩) hlta).trans Hxa8.out
      have q9 := (hSw.cell (p := ⟨w.heap.size, 9, none⟩) hlta).trans Hxa9.out
      clear hSw
      go_simp
      with_reducible rfl
    simp only [List.setIfInBounds_toArray, List.set_cons_zero, List.set_cons_succ]
    refine held_take (i := 8) (d := 72) (v := ?v32) rfl rfl (by kernel_rfl) (by kernel_rfl) (by kernel_rfl) (fun _ _ _ h => h) (Or.inl ⟨by kernel_rfl, ?hy32⟩) hHeld ?rest32
    case hy32 =>
      intro wx hSw
      have q0 := (hSw.cell (p := ⟨w.heap.size, 0, none⟩) hlta).trans Hxa0.out
      have q1 := (hSw.cell (p := ⟨w.heap.size, 1, none⟩) hlta).trans Hxa1.out
      have q2 := (hSw.cell (p := ⟨w.heap.size, 2, none⟩) hlta).trans Hxa2.out
      have q3 := (hSw.cell (p := ⟨w.heap.size, 3, none⟩) hlta).trans Hxa3.out
      have q4 := (hSw.cell (p := ⟨w.heap.size, 4, none⟩) hlta).trans Hxa4.out
      have q5 := (hSw.cell (p := ⟨w.heap.size, 5, none⟩) hlta).trans Hxa5.out
      have q6 := (hSw.cell (p := ⟨w.heap.size, 6, none⟩) hlta).trans Hxa6.out
      have q7 := (hSw.cell (p := ⟨w.heap.size, 7, none⟩) hlta).trans Hxa7.out
      have q8 := (hSw.cell (p := ⟨w.heap.size, 8, none⟩) hlta).trans Hxa8.out
      have q9 := (hSw.cell (p := ⟨w.heap.size, 9, none⟩) hlta).trans Hxa9.out
      clear hSw
      go_simp
      with_reducible rfl
    simp only [List.setIfInBounds_toArray, List.set_cons_zero, List.set_cons_succ]
    refine wpAnyH_ready (rs := [7]) (by kernel_rfl) (by simp) ?_
    refine AllReadyH.cons rfl (fun K hK => ?_) AllReadyH.nil
    go_simp
    go_wp2_with (go_at_call 9; refine (G2.out _ (by exact hHeld)).mono ?_; rintro e wb ⟨rfl, b8⟩)
    refine hK.out _ _ (b8) (fun hHeld => ?_)
    clear hK K
    refine wpAnyH_ready (rs := [9]) (by kernel_rfl) (by simp) ?_
    refine AllReadyH.cons rfl (fun K hK => ?_) AllReadyH.nil
    go_simp
    go_wp2_with (go_at_call 17; refine (K2.out _ (by exact hHeld)).mono ?_; rintro e wb ⟨rfl, b8⟩)
    refine hK.out _ _ (b8) (fun hHeld => ?_)
    clear hK K
    refine held_take (i := 10) (d := 74) (v := ?v33) rfl rfl (by kernel_rfl) (by kernel_rfl) (by kernel_rfl) (fun _ _ _ h => h) (Or.inl ⟨by kernel_rfl, ?hy33⟩) hHeld ?rest33
    case hy33 =>
      intro wx hSw
      clear hSw
      go_simp
      with_reducible rfl
    simp only [List.setIfInBounds_toArray, List.set_cons_zero, List.set_cons_succ]
    refine held_take (i := 11) (d := 75) (v := ?v34) rfl rfl (by kernel_rfl) (by kernel_rfl) (by kernel_rfl) (fun _ _ _ h => h) (Or.inl ⟨by kernel_rfl, ?hy34⟩) hHeld ?rest34
    case hy34 =>
      intro wx hSw
      clear hSw
      go_simp
      with_reducible rfl
    simp only [List.setIfInBounds_toArray, List.set_cons_zero, List.set_cons_succ]
    refine held_take (i := 12) (d := 76) (v := ?v35) rfl rfl (by kernel_rfl) (by kernel_rfl) (by kernel_rfl) (fun _ _ _ h => h) (Or.inl ⟨by kernel_rfl, ?hy35⟩) hHeld ?rest35
    case hy35 =>
      intro wx hSw
      clear hSw
      go_simp
      with_reducible rfl
    simp only [List.setIfInBounds_toArray, List.set_cons_zero, List.set_cons_succ]
    refine held_take (i := 13) (d := 77) (v := ?v36) rfl rfl (by kernel_rfl) (by kernel_rfl) (by kernel_rfl) (fun _ _ _ h => h) (Or.inl ⟨by kernel_rfl, ?hy36⟩) hHeld ?rest36
    case hy36 =>
      intro wx hSw
      have q0 := (hSw.cell (p := ⟨w.heap.size, 0, none⟩) hlta).trans Hxa0.out
      have q1 := (hSw.cell (p := ⟨w.heap.size, 1, none⟩) hlta).trans Hxa1.out
      have q2 := (hSw.cell (p := ⟨w.heap.size, 2, none⟩) hlta).trans Hxa2.out
      have q3 := (hSw.cell (p := ⟨w.heap.size, 3, none⟩) hlta).trans Hxa3.out
      have q4 := (hSw.cell (p := ⟨w.heap.size, 4, none⟩) hlta).trans Hxa4.out
      have q5 := (hSw.cell (p := ⟨w.heap.size, 5, none⟩) hlta).trans Hxa5.out
      have q6 := (hSw.cell (p := ⟨w.heap.size, 6, none⟩) hlta).trans Hxa6.out
      have q7 := (hSw.cell (p := ⟨w.heap.size, 7, none⟩) hlta).trans Hxa7.out
      have q8 := (hSw.cell (p := ⟨w.heap.size, 8, none⟩) hlta).trans Hxa8.out
      have q9 := (hSw.cell (p := ⟨w.heap.size, 9, none⟩) hlta).trans Hxa9.out
      clear hSw
      go_simp
      with_reducible rfl
    simp only [List.setIfInBounds_toArray, List.set_cons_zero, List.set_cons_succ]
    refine held_take (i := 14) (d := 78) (v := ?v37) rfl rfl (by kernel_rfl) (by kernel_rfl) (by kernel_rfl) (fun _ _ _ h => h) (Or.inl ⟨by kernel_rfl, ?hy37⟩) hHeld ?rest37
    case hy37 =>
      intro wx hSw
      clear hSw
      go_simp
      with_reducible rfl
    simp only [List.setIfInBounds_toArray, List.set_cons_zero, List.set_cons_succ]
    refine held_take (i := 16) (d := 80) (v := ?v38) rfl rfl (by kernel_rfl) (by kernel_rfl) (by kernel_rfl) (fun _ _ _ h => h) (Or.inl ⟨by kernel_rfl, ?hy38⟩) hHeld ?rest38
    case hy38 =>
      intro wx hSw
      clear hSw
      go_simp
      with_reducible rfl
    simp only [List.setIfInBounds_toArray, List.set_cons_zero, List.set_cons_succ]
    refine wpAnyH_ready (rs := [15]) (by kernel_rfl) (by simp) ?_
    refine AllReadyH.cons rfl (fun K hK => ?_) AllReadyH.nil
    go_simp
    go_wp2_with (go_at_call 10; refine (G3.out _ (by exact hHeld)).mono ?_; rintro e wb ⟨rfl, b8⟩)
    refine hK.out _ _ (b8) (fun hHeld => ?_)
    clear hK K
    refine held_take (i := 17) (d := 81) (v := ?v39) rfl rfl (by kernel_rfl) (by kernel_rfl) (by kernel_rfl) (fun _ _ _ h => h) (Or.inl ⟨by kernel_rfl, ?hy39⟩) hHeld ?rest39
    case hy39 =>
      intro wx hSw
      clear hSw
      go_simp
      with_reducible rfl
    simp only [List.setIfInBounds_toArray, List.set_cons_zero, List.set_cons_succ]
    refine held_take (i := 18) (d := 82) (v := ?v40) rfl rfl (by kernel_rfl) (by kernel_rfl) (by kernel_rfl) (fun _ _ _ h => h) (Or.inl ⟨by kernel_rfl, ?hy40⟩) hHeld ?rest40
    case hy40 =>
      intro wx hSw
      clear hSw
      go_simp
      with_reducible rfl
    simp only [List.setIfInBounds_toArray, List.set_cons_zero, List.set_cons_succ]
    refine held_take (i := 19) (d := 83) (v := ?v41) rfl rfl (by kernel_rfl) (by kernel_rfl) (by kernel_rfl) (fun _ _ _ h => h) (Or.inl ⟨by kernel_rfl, ?hy41⟩) hHeld ?rest41
    case hy41 =>
      intro wx hSw
      clear hSw
      go_simp
      with_reducible rfl
    simp only [List.setIfInBounds_toArray, List.set_cons_zero, List.set_cons_succ]
    refine held_take (i := 20) (d := 84) (v := ?v42) rfl rfl (by kernel_rfl) (by kernel_rfl) (by kernel_rfl) (fun _ _ _ h => h) (Or.inl ⟨by kernel_rfl, ?hy42⟩) hHeld ?rest42
    case hy42 =>
      intro wx hSw
      have q0 := (hSw.cell (p := ⟨w.heap.size, 0, none⟩) hlta).trans Hxa0.out
      have q1 := (hSw.cell (p := ⟨w.heap.size, 1, none⟩) hlta).trans Hxa1.out
      have q2 := (hSw.cell (p := ⟨w.heap.size, 2, none⟩) hlta).trans Hxa2.out
      have q3 := (hSw.cell (p := ⟨w.heap.size, 3, none⟩) hlta).trans Hxa3.out
      have q4 := (hSw.cell (p := ⟨w.heap.size, 4, none⟩) hlta).trans Hxa4.out
      have q5 := (hSw.cell (p := ⟨w.heap.size, 5, none⟩) hlta).trans Hxa5.out
      have q6 := (hSw.cell (p := ⟨w.heap.size, 6, none⟩) hlta).trans Hxa6.out
      have q7 := (hSw.cell (p := ⟨w.heap.size, 7, none⟩) hlta).trans Hxa7.out
      have q8 := (hSw.cell (p := ⟨w.heap.size, 8, none⟩) hlta).trans Hxa8.out
      have q9 := (hSw.cell (p := ⟨w.heap.size, 9, none⟩) hlta).trans Hxa9.out
      clear hSw
      go_simp
      with_reducible rfl
    simp only [List.setIfInBounds_toArray, List.set_cons_zero, List.set_cons_succ]
    refine held_take (i := 22) (d := 86) (v := ?v43) rfl rfl (by kernel_rfl) (by kernel_rfl) (by kernel_rfl) (fun _ _ _ h => h) (Or.inl ⟨by kernel_rfl, ?hy43⟩) hHeld ?rest43
    case hy43 =>
      intro wx hSw
      have q0 := (hSw.cell (p := ⟨w.heap.size, 0, none⟩) hlta).trans Hxa0.out
      have q1 := (hSw.cell (p := ⟨w.heap.size, 1, none⟩) hlta).trans Hxa1.out
      have q2 := (hSw.cell (p := ⟨w.heap.size, 2, none⟩) hlta).trans Hxa2.out
      have q3 := (hSw.cell (p := ⟨w.heap.size, 3, none⟩) hlta).trans Hxa3.out
      have q4 := (hSw.cell (p := ⟨w.heap.size, 4, none⟩) hlta).trans Hxa4.out
      have q5 := (hSw.cell (p := ⟨w.heap.size, 5, none⟩) hlta).trans Hxa5.out
      have q6 := (hSw.cell (p := ⟨w.heap.size, 6, none⟩) hlta).trans Hxa6.out
      have q7 := (hSw.cell (p := ⟨w.heap.size, 7, none⟩) hlta).trans Hxa7.out
      have q8 := (hSw.cell (p := ⟨w.heap.size, 8, none⟩) hlta).trans Hxa8.out
      have q9 := (hSw.cell (p := ⟨w.heap.size, 9, none⟩) hlta).trans Hxa9.out
      clear hSw
      go_simp
      with_reducible rfl
    simp only [List.setIfInBounds_toArray, List.set_cons_zero, List.set_cons_succ]
    refine wpAnyH_ready (rs := [21]) (by kernel_rfl) (by simp) ?_
    refine AllReadyH.cons rfl (fun K hK => ?_) AllReadyH.nil
    go_simp
    go_wp2_with (go_at_call 11; refine (G4.out _ (by exact hHeld)).mono ?_; rintro e wb ⟨rfl, b8⟩)
    refine hK.out _ _ (b8) (fun hHeld => ?_)
    clear hK K
    refine wpAnyH_ready (rs := [23]) (by kernel_rfl) (by simp) ?_
    refine AllReadyH.cons rfl (fun K hK => ?_) AllReadyH.nil
    go_simp
    go_wp2_with (go_at_call 18; refine (K4.out _ (by exact hHeld)).mono ?_; rintro e wb ⟨rfl, b8⟩)
    refine hK.out _ _ (b8) (fun hHeld => ?_)
    clear hK K
    refine held_take (i := 24) (d := 88) (v := ?v44) rfl rfl (by kernel_rfl) (by kernel_rfl) (by kernel_rfl) (fun _ _ _ h => h) (Or.inl ⟨by kernel_rfl, ?hy44⟩) hHeld ?rest44
    case hy44 =>
      intro wx hSw
      clear hSw
      go_simp
      with_reducible rfl
    simp only [List.setIfInBounds_toArray, List.set_cons_zero, List.set_cons_succ]
    refine held_take (i := 25) (d := 89) (v := ?v45) rfl rfl (by kernel_rfl) (by kernel_rfl) (by kernel_rfl) (fun _ _ _ h => h) (Or.inl ⟨by kernel_rfl, ?hy45⟩) hHeld ?rest45
    case hy45 =>
      intro wx hSw
      clear hSw
      go_simp
      with_reducible rfl
    simp only [List.setIfInBounds_toArray, List.set_cons_zero, List.set_cons_succ]
    refine held_take (i := 26) (d := 90) (v := ?v46) rfl rfl (by kernel_rfl) (by kernel_rfl) (by kernel_rfl) (fun _ _ _ h => h) (Or.inl ⟨by kernel_rfl, ?hy46⟩) hHeld ?rest46
    case hy46 =>
      intro wx hSw
      clear hSw
      go_simp
      with_reducible rfl
    simp only [List.setIfInBounds_toArray, List.set_cons_zero, List.set_cons_succ]
    refine held_take (i := 27) (d := 91) (v := ?v47) rfl rfl (by kernel_rfl) (by kernel_rfl) (by kernel_rfl) (fun _ _ _ h => h) (Or.inl ⟨by kernel_rfl, ?hy47⟩) hHeld ?rest47
    case hy47 =>
      intro wx hSw
      have q0 := (hSw.cell (p := ⟨w.heap.size, 0, none⟩) hlta).trans Hxa0.out
      have q1 := (hSw.cell (p := ⟨w.heap.size, 1, none⟩) hlta).trans Hxa1.out
      have q2 := (hSw.cell (p := ⟨w.heap.size, 2, none⟩) hlta).trans Hxa2.out
      have q3 := (hSw.cell (p := ⟨w.heap.size, 3, none⟩) hlta).trans Hxa3.out
      have q4 := (hSw.cell (p := ⟨w.heap.size, 4, none⟩) hlta).trans Hxa4.out
      have q5 := (hSw.cell (p := ⟨w.heap.size, 5, none⟩) hlta).trans Hxa5.out
      have q6 := (hSw.cell (p := ⟨w.heap.size, 6, none⟩) hlta).trans Hxa6.out
      have q7 := (hSw.cell (p := ⟨w.heap.size, 7, none⟩) hlta).trans Hxa7.out
      have q8 := (hSw.cell (p := ⟨w.heap.size, 8, none⟩) hlta).trans Hxa8.out
      have q9 := (hSw.cell (p := ⟨w.heap.size, 9, none⟩) hlta).trans Hxa9.out
      clear hSw
      go_simp
      with_reducible rfl
    simp only [List.setIfInBounds_toArray, List.set_cons_zero, List.set_cons_succ]
    refine held_take (i := 28) (d := 92) (v := ?v48) rfl rfl (by kernel_rfl) (by kernel_rfl) (by kernel_rfl) (fun _ _ _ h => h) (Or.inl ⟨by kernel_rfl, ?hy48⟩) hHeld ?rest48
    case hy48 =>
      intro wx hSw
      clear hSw
      go_simp
      with_reducible rfl
    simp only [List.setIfInBounds_toArray, List.set_cons_zero, List.set_cons_succ]
    refine held_take (i := 30) (d := 94) (v := ?v49) rfl rfl (by kernel_rfl) (by kernel_rfl) (by kernel_rfl) (fun _ _ _ h => h) (Or.inl ⟨by kernel_rfl, ?hy49⟩) hHeld ?rest49
    case hy49 =>
      intro wx hSw
      clear hSw
      go_simp
      with_reducible rfl
    simp only [List.setIfInBounds_toArray, List.set_cons_zero, List.set_cons_succ]
    refine wpAnyH_ready (rs := [29]) (by kernel_rfl) (by simp) ?_
    refine AllReadyH.cons rfl (fun K hK => ?_) AllReadyH.nil
    go_simp
    go_wp2_with (go_at_call 12; refine (G5.out _ (by exact hHeld)).mono ?_; rintro e wb ⟨rfl, b8⟩)
    refine hK.out _ _ (b8) (fun hHeld => ?_)
    clear hK K
    refine held_take (i := 31) (d := 95) (v := ?v50) rfl rfl (by kernel_rfl) (by kernel_rfl) (by kernel_rfl) (fun _ _ _ h => h) (Or.inl ⟨by kernel_rfl, ?hy50⟩) hHeld ?rest50
    case hy50 =>
      intro wx hSw
      clear hSw
      go_simp
      with_reducible rfl
    simp only [List.setIfInBounds_toArray, List.set_cons_zero, List.set_cons_succ]
    refine held_take (i := 32) (d := 96) (v := ?v51) rfl rfl (by kernel_rfl) (by kernel_rfl) (by kernel_rfl) (fun _ _ _ h => h) (Or.inl ⟨by kernel_rfl, ?hy51⟩) hHeld ?rest51
    case hy51 =>
      intro wx hSw
      clear hSw
      go_simp
      with_reducible rfl
    simp only [List.setIfInBounds_toArray, List.set_cons_zero, List.set_cons_succ]
    refine held_take (i := 33) (d := 97) (v := ?v52) rfl rfl (by kernel_rfl) (by kernel_rfl) (by kernel_rfl) (fun _ _ _ h => h) (Or.inl ⟨by kernel_rfl, ?hy52⟩) hHeld ?rest52
    case hy52 =>
      intro wx hSw
      clear hSw
      go_simp
      with_reducible rfl
    simp only [List.setIfInBounds_toArray, List.set_cons_zero, List.set_cons_succ]
    refine wpAnyH_ready (rs := [34]) (by kernel_rfl) (by simp) ?_
    refine AllReadyH.cons rfl (fun K hK => ?_) AllReadyH.nil
    go_simp
    go_wp2_with (go_at_call 13; refine (HWK.out _ (by exact hHeld)).mono ?_; rintro e wb ⟨rfl, b8⟩)
    refine hK.out _ _ (b8) (fun hHeld => ?_)
    clear hK K
    refine held_take (i := 35) (d := 99) (v := ?v53) rfl rfl (by kernel_rfl) (by kernel_rfl) (by kernel_rfl) (fun _ _ _ h => h) (Or.inl ⟨by kernel_rfl, ?hy53⟩) hHeld ?rest53
    case hy53 =>
      intro wx hSw
      clear hSw
      go_simp
      with_reducible rfl
    simp only [List.setIfInBounds_toArray, List.set_cons_zero, List.set_cons_succ]
    refine wpAnyH_ready (rs := [36]) (by kernel_rfl) (by simp) ?_
    refine AllReadyH.cons rfl (fun K hK => ?_) AllReadyH.nil
    go_simp
    refine hK.out _ _ hHeld (fun hHeld => ?_)
    clear hK K
    refine wpAnyH_done (by kernel_rfl) ?_ _
    go_wp2
    go_ret
    exact ⟨rfl, bb.trans (hHeld.mono bb.size)⟩
  by_cases hn1 : n ≤ 200
  · have d1 : decide (0 ≤ n) = true := decide_eq_true (by omega)
    have d2 : decide (n ≤ 200) = true := decide_eq_true (by omega)
    have d3 : decide (n ≤ 2000) = true := decide_eq_true (by omega)
    have HC := refBlocks_any c HA.out n (by omega) (by omega) w2
    rw [show blocksC c n = BN from (if_pos (show okC c = true ∧ 0 ≤ n ∧ n ≤ 200 from ⟨HA.out, by omega, by omega⟩)).symm.trans HBN.out] at HC
    have cxa0 := xa.cell 0 _ rfl
    have cxa1 := xa.cell 1 _ rfl
    have cxa2 := xa.cell 2 _ rfl
    have cxa3 := xa.cell 3 _ rfl
    have cxa4 := xa.cell 4 _ rfl
    have cxa5 := xa.cell 5 _ rfl
    have cxa6 := xa.cell 6 _ rfl
    have cxa7 := xa.cell 7 _ rfl
    have cxa8 := xa.cell 8 _ rfl
    have cxa9 := xa.cell 9 _ rfl
    go_wp2_with fail
    refine (HC).mono ?_
    rintro e w3 ⟨rfl, b9⟩
    clear cxa0 cxa1 cxa2 cxa3 cxa4 cxa5 cxa6 cxa7 cxa8 cxa9
    replace xa := xa.next b9
    replace bb := bb.trans (b9.mono bb.size)
    clear b9
    clear HC
    have HC := refCycles_any c HA.out n (by omega) (by omega) w3
    rw [show cyclesC c n = CN from (if_pos (show okC c = true ∧ 0 ≤ n ∧ n ≤ 2000 from ⟨HA.out, by omega, by omega⟩)).symm.trans HCN.out] at HC
    have cxa0 := xa.cell 0 _ rfl
    have cxa1 := xa.cell 1 _ rfl
    have cxa2 := xa.cell 2 _ rfl
    have cxa3 := xa.cell 3 _ rfl
    have cxa4 := xa.cell 4 _ rfl
    have cxa5 := xa.cell 5 _ rfl
    have cxa6 := xa.cell 6 _ rfl
    have cxa7 := xa.cell 7 _ rfl
    have cxa8 := xa.cell 8 _ rfl
    have cxa9 := xa.cell 9 _ rfl
    go_wp2_with fail
    refine (HC).mono ?_
    rintro e w4 ⟨rfl, b9⟩
    clear cxa0 cxa1 cxa2 cxa3 cxa4 cxa5 cxa6 cxa7 cxa8 cxa9
    replace xa := xa.next b9
    replace bb := bb.trans (b9.mono bb.size)
    clear b9
    clear HC
    obtain ⟨S, hS⟩ : ∃ x, segsC c = x := ⟨_, rfl⟩
    obtain ⟨M, hM⟩ : ∃ x, mostC c = x := ⟨_, rfl⟩
    obtain ⟨TT, hTT⟩ : ∃ x, ticksC c = x := ⟨_, rfl⟩
    have eS : (S == S) = true := by simp
    have eM : (M == M) = true := by simp
    have eT : (TT == TT) = true := by simp
    have eB : ((BN : Int) == BN) = true := by simp
    have eC : ((CN : Int) == CN) = true := by simp
    have G1 : Hid (∀ wx : World, Below w4.heap.size w4 wx → Calls Try.prog 8 #[.agg #[.int .i64 c.cB, .int .i64 c.cBeam, .int .i64 c.cDepth, .int .i64 c.cWin, .int .i64 c.cQs, .int .i64 c.cQr, .int .i64 c.cBatch, .int .i64 c.cPass, .int .i64 c.cMsg, .int .i64 c.cSeqs]] wx fun e w' => e = .returned (.int .i64 S) ∧ Below w4.heap.size w4 w') := fun wx hw => by
      have := ConfSegs_any c wx
      rw [show segsA c = S from (if_pos HA.out).trans hS] at this
      exact this.mono fun e w' ⟨h, b⟩ => ⟨h, hw.trans (b.mono hw.size)⟩
    have K1 : Hid (∀ wx : World, Below w4.heap.size w4 wx → Calls Try.prog 16 #[.agg #[.int .i64 c.cB, .int .i64 c.cBeam, .int .i64 c.cDepth, .int .i64 c.cWin, .int .i64 c.cQs, .int .i64 c.cQr, .int .i64 c.cBatch, .int .i64 c.cPass, .int .i64 c.cMsg, .int .i64 c.cSeqs]] wx fun e w' => e = .returned (.int .i64 S) ∧ Below w4.heap.size w4 w') := fun wx hw => by
      have := refSegs_any c HA.out wx
      rw [hS] at this
      exact this.mono fun e w' ⟨h, b⟩ => ⟨h, hw.trans (b.mono hw.size)⟩
    have G2 : Hid (∀ wx : World, Below w4.heap.size w4 wx → Calls Try.prog 9 #[.agg #[.int .i64 c.cB, .int .i64 c.cBeam, .int .i64 c.cDepth, .int .i64 c.cWin, .int .i64 c.cQs, .int .i64 c.cQr, .int .i64 c.cBatch, .int .i64 c.cPass, .int .i64 c.cMsg, .int .i64 c.cSeqs]] wx fun e w' => e = .returned (.int .i64 M) ∧ Below w4.heap.size w4 w') := fun wx hw => by
      have := ConfMost_any c wx
      rw [show mostA c = M from (if_pos HA.out).trans hM] at this
      exact this.mono fun e w' ⟨h, b⟩ => ⟨h, hw.trans (b.mono hw.size)⟩
    have K2 : Hid (∀ wx : World, Below w4.heap.size w4 wx → Calls Try.prog 17 #[.agg #[.int .i64 c.cB, .int .i64 c.cBeam, .int .i64 c.cDepth, .int .i64 c.cWin, .int .i64 c.cQs, .int .i64 c.cQr, .int .i64 c.cBatch, .int .i64 c.cPass, .int .i64 c.cMsg, .int .i64 c.cSeqs]] wx fun e w' => e = .returned (.int .i64 M) ∧ Below w4.heap.size w4 w') := fun wx hw => by
      have := refMost_any c HA.out wx
      rw [hM] at this
      exact this.mono fun e w' ⟨h, b⟩ => ⟨h, hw.trans (b.mono hw.size)⟩
    have G3 : Hid (∀ wx : World, Below w4.heap.size w4 wx → Calls Try.prog 10 #[.agg #[.int .i64 c.cB, .int .i64 c.cBeam, .int .i64 c.cDepth, .int .i64 c.cWin, .int .i64 c.cQs, .int .i64 c.cQr, .int .i64 c.cBatch, .int .i64 c.cPass, .int .i64 c.cMsg, .int .i64 c.cSeqs], .int .i64 n] wx fun e w' => e = .returned (.int .i64 BN) ∧ Below w4.heap.size w4 w') := fun wx hw => by
      have := ConfBlocks_any c n wx
      rw [HBN.out] at this
      exact this.mono fun e w' ⟨h, b⟩ => ⟨h, hw.trans (b.mono hw.size)⟩
    have G4 : Hid (∀ wx : World, Below w4.heap.size w4 wx → Calls Try.prog 11 #[.agg #[.int .i64 c.cB, .int .i64 c.cBeam, .int .i64 c.cDepth, .int .i64 c.cWin, .int .i64 c.cQs, .int .i64 c.cQr, .int .i64 c.cBatch, .int .i64 c.cPass, .int .i64 c.cMsg, .int .i64 c.cSeqs]] wx fun e w' => e = .returned (.int .i64 TT) ∧ Below w4.heap.size w4 w') := fun wx hw => by
      have := ConfTicks_any c wx
      rw [show ticksA c = TT from (if_pos HA.out).trans hTT] at this
      exact this.mono fun e w' ⟨h, b⟩ => ⟨h, hw.trans (b.mono hw.size)⟩
    have K4 : Hid (∀ wx : World, Below w4.heap.size w4 wx → Calls Try.prog 18 #[.agg #[.int .i64 c.cB, .int .i64 c.cBeam, .int .i64 c.cDepth, .int .i64 c.cWin, .int .i64 c.cQs, .int .i64 c.cQr, .int .i64 c.cBatch, .int .i64 c.cPass, .int .i64 c.cMsg, .int .i64 c.cSeqs]] wx fun e w' => e = .returned (.int .i64 TT) ∧ Below w4.heap.size w4 w') := fun wx hw => by
      have := refTicks_any c HA.out wx
      rw [hTT] at this
      exact this.mono fun e w' ⟨h, b⟩ => ⟨h, hw.trans (b.mono hw.size)⟩
    have G5 : Hid (∀ wx : World, Below w4.heap.size w4 wx → Calls Try.prog 12 #[.agg #[.int .i64 c.cB, .int .i64 c.cBeam, .int .i64 c.cDepth, .int .i64 c.cWin, .int .i64 c.cQs, .int .i64 c.cQr, .int .i64 c.cBatch, .int .i64 c.cPass, .int .i64 c.cMsg, .int .i64 c.cSeqs], .int .i64 n] wx fun e w' => e = .returned (.int .i64 CN) ∧ Below w4.heap.size w4 w') := fun wx hw => by
      have := ConfCycles_any c n wx
      rw [HCN.out] at this
      exact this.mono fun e w' ⟨h, b⟩ => ⟨h, hw.trans (b.mono hw.size)⟩
    have HWK : Hid (∀ wx : World, Below w4.heap.size w4 wx → Calls Try.prog 13 #[] wx fun e w' => e = .returned (.bool true) ∧ Below w4.heap.size w4 w') := fun wx hw => (confWakes_any wx).mono fun e w' ⟨h, b⟩ => ⟨h, hw.trans (b.mono hw.size)⟩
    clear hS hM hTT
    have Hxa0 : Hid _ := xa.cell 0 _ rfl
    have Hxa1 : Hid _ := xa.cell 1 _ rfl
    have Hxa2 : Hid _ := xa.cell 2 _ rfl
    have Hxa3 : Hid _ := xa.cell 3 _ rfl
    have Hxa4 : Hid _ := xa.cell 4 _ rfl
    have Hxa5 : Hid _ := xa.cell 5 _ rfl
    have Hxa6 : Hid _ := xa.cell 6 _ rfl
    have Hxa7 : Hid _ := xa.cell 7 _ rfl
    have Hxa8 : Hid _ := xa.cell 8 _ rfl
    have Hxa9 : Hid _ := xa.cell 9 _ rfl
    have hlta := xa.lt
    go_wp2
    refine wp_region_held_drew (S := fun w' => Below w4.heap.size w4 w') (by kernel_rfl) ((Below.refl _ _).drew) (fun hHeld => ?_)
    refine held_take (i := 0) (d := 64) (v := ?v54) rfl rfl (by kernel_rfl) (by kernel_rfl) (by kernel_rfl) (fun _ _ _ h => h) (Or.inl ⟨by kernel_rfl, ?hy54⟩) hHeld ?rest54
    case hy54 =>
      intro wx hSw
      have q0 := (hSw.cell (p := ⟨w.heap.size, 0, none⟩) hlta).trans Hxa0.out
      have q1 := (hSw.cell (p := ⟨w.heap.size, 1, none⟩) hlta).trans Hxa1.out
      have q2 := (hSw.cell (p := ⟨w.heap.size, 2, none⟩) hlta).trans Hxa2.out
      have q3 := (hSw.cell (p := ⟨w.heap.size, 3, none⟩) hlta).trans Hxa3.out
      have q4 := (hSw.cell (p := ⟨w.heap.size, 4, none⟩) hlta).trans Hxa4.out
      have q5 := (hSw.cell (p := ⟨w.heap.size, 5, none⟩) hlta).trans Hxa5.out
      have q6 := (hSw.cell (p := ⟨w.heap.size, 6, none⟩) hlta).trans Hxa6.out
      have q7 := (hSw.cell (p := ⟨w.heap.size, 7, none⟩) hlta).trans Hxa7.out
      have q8 := (hSw.cell (p := ⟨w.heap.size, 8, none⟩) hlta).trans Hxa8.out
      have q9 := (hSw.cell (p := ⟨w.heap.size, 9, none⟩) hlta).trans Hxa9.out
      clear hSw
      go_simp
      with_reducible rfl
    simp only [List.setIfInBounds_toArray, List.set_cons_zero, List.set_cons_succ]
    refine held_take (i := 2) (d := 66) (v := ?v55) rfl rfl (by kernel_rfl) (by kernel_rfl) (by kernel_rfl) (fun _ _ _ h => h) (Or.inl ⟨by kernel_rfl, ?hy55⟩) hHeld ?rest55
    case hy55 =>
      intro wx hSw
      have q0 := (hSw.cell (p := ⟨w.heap.size, 0, none⟩) hlta).trans Hxa0.out
      have q1 := (hSw.cell (p := ⟨w.heap.size, 1, none⟩) hlta).trans Hxa1.out
      have q2 := (hSw.cell (p := ⟨w.heap.size, 2, none⟩) hlta).trans Hxa2.out
      have q3 := (hSw.cell (p := ⟨w.heap.size, 3, none⟩) hlta).trans Hxa3.out
      have q4 := (hSw.cell (p := ⟨w.heap.size, 4, none⟩) hlta).trans Hxa4.out
      have q5 := (hSw.cell (p := ⟨w.heap.size, 5, none⟩) hlta).trans Hxa5.out
      have q6 := (hSw.cell (p := ⟨w.heap.size, 6, none⟩) hlta).trans Hxa6.out
      have q7 := (hSw.cell (p := ⟨w.heap.size, 7, none⟩) hlta).trans Hxa7.out
      have q8 := (hSw.cell (p := ⟨w.heap.size, 8, none⟩) hlta).trans Hxa8.out
      have q9 := (hSw.cell (p := ⟨w.heap.size, 9, none⟩) hlta).trans Hxa9.out
      clear hSw
      go_simp
      with_reducible rfl
    simp only [List.setIfInBounds_toArray, List.set_cons_zero, List.set_cons_succ]
    refine wpAnyH_ready (rs := [1]) (by kernel_rfl) (by simp) ?_
    refine AllReadyH.cons rfl (fun K hK => ?_) AllReadyH.nil
    go_simp
    go_wp2_with (go_at_call 8; refine (G1.out _ (by exact hHeld)).mono ?_; rintro e wb ⟨rfl, b8⟩)
    refine hK.out _ _ (b8) (fun hHeld => ?_)
    clear hK K
    refine wpAnyH_ready (rs := [3]) (by kernel_rfl) (by simp) ?_
    refine AllReadyH.cons rfl (fun K hK => ?_) AllReadyH.nil
    go_simp
    go_wp2_with (go_at_call 16; refine (K1.out _ (by exact hHeld)).mono ?_; rintro e wb ⟨rfl, b8⟩)
    refine hK.out _ _ (b8) (fun hHeld => ?_)
    clear hK K
    refine held_take (i := 4) (d := 68) (v := ?v56) rfl rfl (by kernel_rfl) (by kernel_rfl) (by kernel_rfl) (fun _ _ _ h => h) (Or.inl ⟨by kernel_rfl, ?hy56⟩) hHeld ?rest56
    case hy56 =>
      intro wx hSw
      clear hSw
      go_simp
      with_reducible rfl
    simp only [List.setIfInBounds_toArray, List.set_cons_zero, List.set_cons_succ]
    refine held_take (i := 5) (d := 69) (v := ?v57) rfl rfl (by kernel_rfl) (by kernel_rfl) (by kernel_rfl) (fun _ _ _ h => h) (Or.inl ⟨by kernel_rfl, ?hy57⟩) hHeld ?rest57
    case hy57 =>
      intro wx hSw
      clear hSw
      go_simp
      with_reducible rfl
    simp only [List.setIfInBounds_toArray, List.set_cons_zero, List.set_cons_succ]
    refine held_take (i := 6) (d := 70) (v := ?v58) rfl rfl (by kernel_rfl) (by kernel_rfl) (by kernel_rfl) (fun _ _ _ h => h) (Or.inl ⟨by kernel_rfl, ?hy58⟩) hHeld ?rest58
    case hy58 =>
      intro wx hSw
      have q0 := (hSw.cell (p := ⟨w.heap.size, 0, none⟩) hlta).trans Hxa0.out
      have q1 := (hSw.cell (p := ⟨w.heap.size, 1, none⟩) hlta).trans Hxa1.out
      have q2 := (hSw.cell (p := ⟨w.heap.size, 2, none⟩) hlta).trans Hxa2.out
      have q3 := (hSw.cell (p := ⟨w.heap.size, 3, none⟩) hlta).trans Hxa3.out
      have q4 := (hSw.cell (p := ⟨w.heap.size, 4, none⟩) hlta).trans Hxa4.out
      have q5 := (hSw.cell (p := ⟨w.heap.size, 5, none⟩) hlta).trans Hxa5.out
      have q6 := (hSw.cell (p := ⟨w.heap.size, 6, none⟩) hlta).trans Hxa6.out
      have q7 := (hSw.cell (p := ⟨w.heap.size, 7, none⟩) hlta).trans Hxa7.out
      have q8 := (hSw.cell (p := ⟨w.heap.size, 8, none⟩) hlta).trans Hxa8.out
      have q9 := (hSw.cell (p := ⟨w.heap.size, 9, none⟩) hlta).trans Hxa9.out
      clear hSw
      go_simp
      with_reducible rfl
    simp only [List.setIfInBounds_toArray, List.set_cons_zero, List.set_cons_succ]
    refine held_take (i := 8) (d := 72) (v := ?v59) rfl rfl (by kernel_rfl) (by kernel_rfl) (by kernel_rfl) (fun _ _ _ h => h) (Or.inl ⟨by kernel_rfl, ?hy59⟩) hHeld ?rest59
    case hy59 =>
      intro wx hSw
      have q0 := (hSw.cell (p := ⟨w.heap.size, 0, none⟩) hlta).trans Hxa0.out
      have q1 := (hSw.cell (p := ⟨w.heap.size, 1, none⟩) hlta).trans Hxa1.out
      have q2 := (hSw.cell (p := ⟨w.heap.size, 2, none⟩) hlta).trans Hxa2.out
      have q3 := (hSw.cell (p := ⟨w.heap.size, 3, none⟩) hlta).trans Hxa3.out
      have q4 := (hSw.cell (p := ⟨w.heap.size, 4, none⟩) hlta).trans Hxa4.out
      have q5 := (hSw.cell (p := ⟨w.heap.size, 5, none⟩) hlta).trans Hxa5.out
      have q6 := (hSw.cell (p := ⟨w.heap.size, 6, none⟩) hlta).trans Hxa6.out
      have q7 := (hSw.cell (p := ⟨w.heap.size, 7, none⟩) hlta).trans Hxa7.out
      have q8 := (hSw.cell (p := ⟨w.heap.size, 8, none⟩) hlta).trans Hxa8.out
      have q9 := (hSw.cell (p := ⟨w.heap.size, 9, none⟩) hlta).trans Hxa9.out
      clear hSw
      go_simp
      with_reducible rfl
    simp only [List.setIfInBounds_toArray, List.set_cons_zero, List.set_cons_succ]
    refine wpAnyH_ready (rs := [7]) (by kernel_rfl) (by simp) ?_
    refine AllReadyH.cons rfl (fun K hK => ?_) AllReadyH.nil
    go_simp
    go_wp2_with (go_at_call 9; refine (G2.out _ (by exact hHeld)).mono ?_; rintro e wb ⟨rfl, b8⟩)
    refine hK.out _ _ (b8) (fun hHeld => ?_)
    clear hK K
    refine wpAnyH_ready (rs := [9]) (by kernel_rfl) (by simp) ?_
    refine AllReadyH.cons rfl (fun K hK => ?_) AllReadyH.nil
    go_simp
    go_wp2_with (go_at_call 17; refine (K2.out _ (by exact hHeld)).mono ?_; rintro e wb ⟨rfl, b8⟩)
    refine hK.out _ _ (b8) (fun hHeld => ?_)
    clear hK K
    refine held_take (i := 10) (d := 74) (v := ?v60) rfl rfl (by kernel_rfl) (by kernel_rfl) (by kernel_rfl) (fun _ _ _ h => h) (Or.inl ⟨by kernel_rfl, ?hy60⟩) hHeld ?rest60
    case hy60 =>
      intro wx hSw
      clear hSw
      go_simp
      with_reducible rfl
    simp only [List.setIfInBounds_toArray, List.set_cons_zero, List.set_cons_succ]
    refine held_take (i := 11) (d := 75) (v := ?v61) rfl rfl (by kernel_rfl) (by kernel_rfl) (by kernel_rfl) (fun _ _ _ h => h) (Or.inl ⟨by kernel_rfl, ?hy61⟩) hHeld ?rest61
    case hy61 =>
      intro wx hSw
      clear hSw
      go_simp
      with_reducible rfl
    simp only [List.setIfInBounds_toArray, List.set_cons_zero, List.set_cons_succ]
    refine held_take (i := 12) (d := 76) (v := ?v62) rfl rfl (by kernel_rfl) (by kernel_rfl) (by kernel_rfl) (fun _ _ _ h => h) (Or.inl ⟨by kernel_rfl, ?hy62⟩) hHeld ?rest62
    case hy62 =>
      intro wx hSw
      clear hSw
      go_simp
      with_reducible rfl
    simp only [List.setIfInBounds_toArray, List.set_cons_zero, List.set_cons_succ]
    refine held_take (i := 13) (d := 77) (v := ?v63) rfl rfl (by kernel_rfl) (by kernel_rfl) (by kernel_rfl) (fun _ _ _ h => h) (Or.inl ⟨by kernel_rfl, ?hy63⟩) hHeld ?rest63
    case hy63 =>
      intro wx hSw
      have q0 := (hSw.cell (p := ⟨w.heap.size, 0, none⟩) hlta).trans Hxa0.out
      have q1 := (hSw.cell (p := ⟨w.heap.size, 1, none⟩) hlta).trans Hxa1.out
      have q2 := (hSw.cell (p := ⟨w.heap.size, 2, none⟩) hlta).trans Hxa2.out
      have q3 := (hSw.cell (p := ⟨w.heap.size, 3, none⟩) hlta).trans Hxa3.out
      have q4 := (hSw.cell (p := ⟨w.heap.size, 4, none⟩) hlta).trans Hxa4.out
      have q5 := (hSw.cell (p := ⟨w.heap.size, 5, none⟩) hlta).trans Hxa5.out
      have q6 := (hSw.cell (p := ⟨w.heap.size, 6, none⟩) hlta).trans Hxa6.out
      have q7 := (hSw.cell (p := ⟨w.heap.size, 7, none⟩) hlta).trans Hxa7.out
      have q8 := (hSw.cell (p := ⟨w.heap.size, 8, none⟩) hlta).trans Hxa8.out
      have q9 := (hSw.cell (p := ⟨w.heap.size, 9, none⟩) hlta).trans Hxa9.out
      clear hSw
      go_simp
      with_reducible rfl
    simp only [List.setIfInBounds_toArray, List.set_cons_zero, List.set_cons_succ]
    refine held_take (i := 14) (d := 78) (v := ?v64) rfl rfl (by kernel_rfl) (by kernel_rfl) (by kernel_rfl) (fun _ _ _ h => h) (Or.inl ⟨by kernel_rfl, ?hy64⟩) hHeld ?rest64
    case hy64 =>
      intro wx hSw
      clear hSw
      go_simp
      with_reducible rfl
    simp only [List.setIfInBounds_toArray, List.set_cons_zero, List.set_cons_succ]
    refine held_take (i := 16) (d := 80) (v := ?v65) rfl rfl (by kernel_rfl) (by kernel_rfl) (by kernel_rfl) (fun _ _ _ h => h) (Or.inl ⟨by kernel_rfl, ?hy65⟩) hHeld ?rest65
    case hy65 =>
      intro wx hSw
      clear hSw
      go_simp
      with_reducible rfl
    simp only [List.setIfInBounds_toArray, List.set_cons_zero, List.set_cons_succ]
    refine wpAnyH_ready (rs := [15]) (by kernel_rfl) (by simp) ?_
    refine AllReadyH.cons rfl (fun K hK => ?_) AllReadyH.nil
    go_simp
    go_wp2_with (go_at_call 10; refine (G3.out _ (by exact hHeld)).mono ?_; rintro e wb ⟨rfl, b8⟩)
    refine hK.out _ _ (b8) (fun hHeld => ?_)
    clear hK K
    refine held_take (i := 17) (d := 81) (v := ?v66) rfl rfl (by kernel_rfl) (by kernel_rfl) (by kernel_rfl) (fun _ _ _ h => h) (Or.inl ⟨by kernel_rfl, ?hy66⟩) hHeld ?rest66
    case hy66 =>
      intro wx hSw
      clear hSw
      go_simp
      with_reducible rfl
    simp only [List.setIfInBounds_toArray, List.set_cons_zero, List.set_cons_succ]
    refine held_take (i := 18) (d := 82) (v := ?v67) rfl rfl (by kernel_rfl) (by kernel_rfl) (by kernel_rfl) (fun _ _ _ h => h) (Or.inl ⟨by kernel_rfl, ?hy67⟩) hHeld ?rest67
    case hy67 =>
      intro wx hSw
      clear hSw
      go_simp
      with_reducible rfl
    simp only [List.setIfInBounds_toArray, List.set_cons_zero, List.set_cons_succ]
    refine held_take (i := 19) (d := 83) (v := ?v68) rfl rfl (by kernel_rfl) (by kernel_rfl) (by kernel_rfl) (fun _ _ _ h => h) (Or.inl ⟨by kernel_rfl, ?hy68⟩) hHeld ?rest68
    case hy68 =>
      intro wx hSw
      clear hSw
      go_simp
      with_reducible rfl
    simp only [List.setIfInBounds_toArray, List.set_cons_zero, List.set_cons_succ]
    refine held_take (i := 20) (d := 84) (v := ?v69) rfl rfl (by kernel_rfl) (by kernel_rfl) (by kernel_rfl) (fun _ _ _ h => h) (Or.inl ⟨by kernel_rfl, ?hy69⟩) hHeld ?rest69
    case hy69 =>
      intro wx hSw
      have q0 := (hSw.cell (p := ⟨w.heap.size, 0, none⟩) hlta).trans Hxa0.out
      have q1 := (hSw.cell (p := ⟨w.heap.size, 1, none⟩) hlta).trans Hxa1.out
      have q2 := (hSw.cell (p := ⟨w.heap.size, 2, none⟩) hlta).trans Hxa2.out
      have q3 := (hSw.cell (p := ⟨w.heap.size, 3, none⟩) hlta).trans Hxa3.out
      have q4 := (hSw.cell (p := ⟨w.heap.size, 4, none⟩) hlta).trans Hxa4.out
      have q5 := (hSw.cell (p := ⟨w.heap.size, 5, none⟩) hlta).trans Hxa5.out
      have q6 := (hSw.cell (p := ⟨w.heap.size, 6, none⟩) hlta).trans Hxa6.out
      have q7 := (hSw.cell (p := ⟨w.heap.size, 7, none⟩) hlta).trans Hxa7.out
      have q8 := (hSw.cell (p := ⟨w.heap.size, 8, none⟩) hlta).trans Hxa8.out
      have q9 := (hSw.cell (p := ⟨w.heap.size, 9, none⟩) hlta).trans Hxa9.out
      clear hSw
      go_simp
      with_reducible rfl
    simp only [List.setIfInBounds_toArray, List.set_cons_zero, List.set_cons_succ]
    refine held_take (i := 22) (d := 86) (v := ?v70) rfl rfl (by kernel_rfl) (by kernel_rfl) (by kernel_rfl) (fun _ _ _ h => h) (Or.inl ⟨by kernel_rfl, ?hy70⟩) hHeld ?rest70
    case hy70 =>
      intro wx hSw
      have q0 := (hSw.cell (p := ⟨w.heap.size, 0, none⟩) hlta).trans Hxa0.out
      have q1 := (hSw.cell (p := ⟨w.heap.size, 1, none⟩) hlta).trans Hxa1.out
      have q2 := (hSw.cell (p := ⟨w.heap.size, 2, none⟩) hlta).trans Hxa2.out
      have q3 := (hSw.cell (p := ⟨w.heap.size, 3, none⟩) hlta).trans Hxa3.out
      have q4 := (hSw.cell (p := ⟨w.heap.size, 4, none⟩) hlta).trans Hxa4.out
      have q5 := (hSw.cell (p := ⟨w.heap.size, 5, none⟩) hlta).trans Hxa5.out
      have q6 := (hSw.cell (p := ⟨w.heap.size, 6, none⟩) hlta).trans Hxa6.out
      have q7 := (hSw.cell (p := ⟨w.heap.size, 7, none⟩) hlta).trans Hxa7.out
      have q8 := (hSw.cell (p := ⟨w.heap.size, 8, none⟩) hlta).trans Hxa8.out
      have q9 := (hSw.cell (p := ⟨w.heap.size, 9, none⟩) hlta).trans Hxa9.out
      clear hSw
      go_simp
      with_reducible rfl
    simp only [List.setIfInBounds_toArray, List.set_cons_zero, List.set_cons_succ]
    refine wpAnyH_ready (rs := [21]) (by kernel_rfl) (by simp) ?_
    refine AllReadyH.cons rfl (fun K hK => ?_) AllReadyH.nil
    go_simp
    go_wp2_with (go_at_call 11; refine (G4.out _ (by exact hHeld)).mono ?_; rintro e wb ⟨rfl, b8⟩)
    refine hK.out _ _ (b8) (fun hHeld => ?_)
    clear hK K
    refine wpAnyH_ready (rs := [23]) (by kernel_rfl) (by simp) ?_
    refine AllReadyH.cons rfl (fun K hK => ?_) AllReadyH.nil
    go_simp
    go_wp2_with (go_at_call 18; refine (K4.out _ (by exact hHeld)).mono ?_; rintro e wb ⟨rfl, b8⟩)
    refine hK.out _ _ (b8) (fun hHeld => ?_)
    clear hK K
    refine held_take (i := 24) (d := 88) (v := ?v71) rfl rfl (by kernel_rfl) (by kernel_rfl) (by kernel_rfl) (fun _ _ _ h => h) (Or.inl ⟨by kernel_rfl, ?hy71⟩) hHeld ?rest71
    case hy71 =>
      intro wx hSw
      clear hSw
      go_simp
      with_reducible rfl
    simp only [List.setIfInBounds_toArray, List.set_cons_zero, List.set_cons_succ]
    refine held_take (i := 25) (d := 89) (v := ?v72) rfl rfl (by kernel_rfl) (by kernel_rfl) (by kernel_rfl) (fun _ _ _ h => h) (Or.inl ⟨by kernel_rfl, ?hy72⟩) hHeld ?rest72
    case hy72 =>
      intro wx hSw
      clear hSw
      go_simp
      with_reducible rfl
    simp only [List.setIfInBounds_toArray, List.set_cons_zero, List.set_cons_succ]
    refine held_take (i := 26) (d := 90) (v := ?v73) rfl rfl (by kernel_rfl) (by kernel_rfl) (by kernel_rfl) (fun _ _ _ h => h) (Or.inl ⟨by kernel_rfl, ?hy73⟩) hHeld ?rest73
    case hy73 =>
      intro wx hSw
      clear hSw
      go_simp
      with_reducible rfl
    simp only [List.setIfInBounds_toArray, List.set_cons_zero, List.set_cons_succ]
    refine held_take (i := 27) (d := 91) (v := ?v74) rfl rfl (by kernel_rfl) (by kernel_rfl) (by kernel_rfl) (fun _ _ _ h => h) (Or.inl ⟨by kernel_rfl, ?hy74⟩) hHeld ?rest74
    case hy74 =>
      intro wx hSw
      have q0 := (hSw.cell (p := ⟨w.heap.size, 0, none⟩) hlta).trans Hxa0.out
      have q1 := (hSw.cell (p := ⟨w.heap.size, 1, none⟩) hlta).trans Hxa1.out
      have q2 := (hSw.cell (p := ⟨w.heap.size, 2, none⟩) hlta).trans Hxa2.out
      have q3 := (hSw.cell (p := ⟨w.heap.size, 3, none⟩) hlta).trans Hxa3.out
      have q4 := (hSw.cell (p := ⟨w.heap.size, 4, none⟩) hlta).trans Hxa4.out
      have q5 := (hSw.cell (p := ⟨w.heap.size, 5, none⟩) hlta).trans Hxa5.out
      have q6 := (hSw.cell (p := ⟨w.heap.size, 6, none⟩) hlta).trans Hxa6.out
      have q7 := (hSw.cell (p := ⟨w.heap.size, 7, none⟩) hlta).trans Hxa7.out
      have q8 := (hSw.cell (p := ⟨w.heap.size, 8, none⟩) hlta).trans Hxa8.out
      have q9 := (hSw.cell (p := ⟨w.heap.size, 9, none⟩) hlta).trans Hxa9.out
      clear hSw
      go_simp
      with_reducible rfl
    simp only [List.setIfInBounds_toArray, List.set_cons_zero, List.set_cons_succ]
    refine held_take (i := 28) (d := 92) (v := ?v75) rfl rfl (by kernel_rfl) (by kernel_rfl) (by kernel_rfl) (fun _ _ _ h => h) (Or.inl ⟨by kernel_rfl, ?hy75⟩) hHeld ?rest75
    case hy75 =>
      intro wx hSw
      clear hSw
      go_simp
      with_reducible rfl
    simp only [List.setIfInBounds_toArray, List.set_cons_zero, List.set_cons_succ]
    refine held_take (i := 30) (d := 94) (v := ?v76) rfl rfl (by kernel_rfl) (by kernel_rfl) (by kernel_rfl) (fun _ _ _ h => h) (Or.inl ⟨by kernel_rfl, ?hy76⟩) hHeld ?rest76
    case hy76 =>
      intro wx hSw
      clear hSw
      go_simp
      with_reducible rfl
    simp only [List.setIfInBounds_toArray, List.set_cons_zero, List.set_cons_succ]
    refine wpAnyH_ready (rs := [29]) (by kernel_rfl) (by simp) ?_
    refine AllReadyH.cons rfl (fun K hK => ?_) AllReadyH.nil
    go_simp
    go_wp2_with (go_at_call 12; refine (G5.out _ (by exact hHeld)).mono ?_; rintro e wb ⟨rfl, b8⟩)
    refine hK.out _ _ (b8) (fun hHeld => ?_)
    clear hK K
    refine held_take (i := 31) (d := 95) (v := ?v77) rfl rfl (by kernel_rfl) (by kernel_rfl) (by kernel_rfl) (fun _ _ _ h => h) (Or.inl ⟨by kernel_rfl, ?hy77⟩) hHeld ?rest77
    case hy77 =>
      intro wx hSw
      clear hSw
      go_simp
      with_reducible rfl
    simp only [List.setIfInBounds_toArray, List.set_cons_zero, List.set_cons_succ]
    refine held_take (i := 32) (d := 96) (v := ?v78) rfl rfl (by kernel_rfl) (by kernel_rfl) (by kernel_rfl) (fun _ _ _ h => h) (Or.inl ⟨by kernel_rfl, ?hy78⟩) hHeld ?rest78
    case hy78 =>
      intro wx hSw
      clear hSw
      go_simp
      with_reducible rfl
    simp only [List.setIfInBounds_toArray, List.set_cons_zero, List.set_cons_succ]
    refine held_take (i := 33) (d := 97) (v := ?v79) rfl rfl (by kernel_rfl) (by kernel_rfl) (by kernel_rfl) (fun _ _ _ h => h) (Or.inl ⟨by kernel_rfl, ?hy79⟩) hHeld ?rest79
    case hy79 =>
      intro wx hSw
      clear hSw
      go_simp
      with_reducible rfl
    simp only [List.setIfInBounds_toArray, List.set_cons_zero, List.set_cons_succ]
    refine wpAnyH_ready (rs := [34]) (by kernel_rfl) (by simp) ?_
    refine AllReadyH.cons rfl (fun K hK => ?_) AllReadyH.nil
    go_simp
    go_wp2_with (go_at_call 13; refine (HWK.out _ (by exact hHeld)).mono ?_; rintro e wb ⟨rfl, b8⟩)
    refine hK.out _ _ (b8) (fun hHeld => ?_)
    clear hK K
    refine held_take (i := 35) (d := 99) (v := ?v80) rfl rfl (by kernel_rfl) (by kernel_rfl) (by kernel_rfl) (fun _ _ _ h => h) (Or.inl ⟨by kernel_rfl, ?hy80⟩) hHeld ?rest80
    case hy80 =>
      intro wx hSw
      clear hSw
      go_simp
      with_reducible rfl
    simp only [List.setIfInBounds_toArray, List.set_cons_zero, List.set_cons_succ]
    refine wpAnyH_ready (rs := [36]) (by kernel_rfl) (by simp) ?_
    refine AllReadyH.cons rfl (fun K hK => ?_) AllReadyH.nil
    go_simp
    refine hK.out _ _ hHeld (fun hHeld => ?_)
    clear hK K
    refine wpAnyH_done (by kernel_rfl) ?_ _
    go_wp2
    go_ret
    exact ⟨rfl, bb.trans (hHeld.mono bb.size)⟩
  by_cases hn2 : n ≤ 2000
  · have d1 : decide (0 ≤ n) = true := decide_eq_true (by omega)
    have d2 : decide (n ≤ 200) = false := decide_eq_false (by omega)
    have d3 : decide (n ≤ 2000) = true := decide_eq_true (by omega)
    obtain rfl : 0 = BN := by
      have := HBN.out
      unfold blocksA at this
      rw [if_neg (by omega)] at this
      exact this
    have HC := refCycles_any c HA.out n (by omega) (by omega) w2
    rw [show cyclesC c n = CN from (if_pos (show okC c = true ∧ 0 ≤ n ∧ n ≤ 2000 from ⟨HA.out, by omega, by omega⟩)).symm.trans HCN.out] at HC
    have cxa0 := xa.cell 0 _ rfl
    have cxa1 := xa.cell 1 _ rfl
    have cxa2 := xa.cell 2 _ rfl
    have cxa3 := xa.cell 3 _ rfl
    have cxa4 := xa.cell 4 _ rfl
    have cxa5 := xa.cell 5 _ rfl
    have cxa6 := xa.cell 6 _ rfl
    have cxa7 := xa.cell 7 _ rfl
    have cxa8 := xa.cell 8 _ rfl
    have cxa9 := xa.cell 9 _ rfl
    go_wp2_with fail
    refine (HC).mono ?_
    rintro e w3 ⟨rfl, b9⟩
    clear cxa0 cxa1 cxa2 cxa3 cxa4 cxa5 cxa6 cxa7 cxa8 cxa9
    replace xa := xa.next b9
    replace bb := bb.trans (b9.mono bb.size)
    clear b9
    clear HC
    obtain ⟨S, hS⟩ : ∃ x, segsC c = x := ⟨_, rfl⟩
    obtain ⟨M, hM⟩ : ∃ x, mostC c = x := ⟨_, rfl⟩
    obtain ⟨TT, hTT⟩ : ∃ x, ticksC c = x := ⟨_, rfl⟩
    have eS : (S == S) = true := by simp
    have eM : (M == M) = true := by simp
    have eT : (TT == TT) = true := by simp
    have eB : ((0 : Int) == 0) = true := by simp
    have eC : ((CN : Int) == CN) = true := by simp
    have G1 : Hid (∀ wx : World, Below w3.heap.size w3 wx → Calls Try.prog 8 #[.agg #[.int .i64 c.cB, .int .i64 c.cBeam, .int .i64 c.cDepth, .int .i64 c.cWin, .int .i64 c.cQs, .int .i64 c.cQr, .int .i64 c.cBatch, .int .i64 c.cPass, .int .i64 c.cMsg, .int .i64 c.cSeqs]] wx fun e w' => e = .returned (.int .i64 S) ∧ Below w3.heap.size w3 w') := fun wx hw => by
      have := ConfSegs_any c wx
      rw [show segsA c = S from (if_pos HA.out).trans hS] at this
      exact this.mono fun e w' ⟨h, b⟩ => ⟨h, hw.trans (b.mono hw.size)⟩
    have K1 : Hid (∀ wx : World, Below w3.heap.size w3 wx → Calls Try.prog 16 #[.agg #[.int .i64 c.cB, .int .i64 c.cBeam, .int .i64 c.cDepth, .int .i64 c.cWin, .int .i64 c.cQs, .int .i64 c.cQr, .int .i64 c.cBatch, .int .i64 c.cPass, .int .i64 c.cMsg, .int .i64 c.cSeqs]] wx fun e w' => e = .returned (.int .i64 S) ∧ Below w3.heap.size w3 w') := fun wx hw => by
      have := refSegs_any c HA.out wx
      rw [hS] at this
      exact this.mono fun e w' ⟨h, b⟩ => ⟨h, hw.trans (b.mono hw.size)⟩
    have G2 : Hid (∀ wx : World, Below w3.heap.size w3 wx → Calls Try.prog 9 #[.agg #[.int .i64 c.cB, .int .i64 c.cBeam, .int .i64 c.cDepth, .int .i64 c.cWin, .int .i64 c.cQs, .int .i64 c.cQr, .int .i64 c.cBatch, .int .i64 c.cPass, .int .i64 c.cMsg, .int .i64 c.cSeqs]] wx fun e w' => e = .returned (.int .i64 M) ∧ Below w3.heap.size w3 w') := fun wx hw => by
      have := ConfMost_any c wx
      rw [show mostA c = M from (if_pos HA.out).trans hM] at this
      exact this.mono fun e w' ⟨h, b⟩ => ⟨h, hw.trans (b.mono hw.size)⟩
    have K2 : Hid (∀ wx : World, Below w3.heap.size w3 wx → Calls Try.prog 17 #[.agg #[.int .i64 c.cB, .int .i64 c.cBeam, .int .i64 c.cDepth, .int .i64 c.cWin, .int .i64 c.cQs, .int .i64 c.cQr, .int .i64 c.cBatch, .int .i64 c.cPass, .int .i64 c.cMsg, .int .i64 c.cSeqs]] wx fun e w' => e = .returned (.int .i64 M) ∧ Below w3.heap.size w3 w') := fun wx hw => by
      have := refMost_any c HA.out wx
      rw [hM] at this
      exact this.mono fun e w' ⟨h, b⟩ => ⟨h, hw.trans (b.mono hw.size)⟩
    have G3 : Hid (∀ wx : World, Below w3.heap.size w3 wx → Calls Try.prog 10 #[.agg #[.int .i64 c.cB, .int .i64 c.cBeam, .int .i64 c.cDepth, .int .i64 c.cWin, .int .i64 c.cQs, .int .i64 c.cQr, .int .i64 c.cBatch, .int .i64 c.cPass, .int .i64 c.cMsg, .int .i64 c.cSeqs], .int .i64 n] wx fun e w' => e = .returned (.int .i64 0) ∧ Below w3.heap.size w3 w') := fun wx hw => by
      have := ConfBlocks_any c n wx
      rw [HBN.out] at this
      exact this.mono fun e w' ⟨h, b⟩ => ⟨h, hw.trans (b.mono hw.size)⟩
    have G4 : Hid (∀ wx : World, Below w3.heap.size w3 wx → Calls Try.prog 11 #[.agg #[.int .i64 c.cB, .int .i64 c.cBeam, .int .i64 c.cDepth, .int .i64 c.cWin, .int .i64 c.cQs, .int .i64 c.cQr, .int .i64 c.cBatch, .int .i64 c.cPass, .int .i64 c.cMsg, .int .i64 c.cSeqs]] wx fun e w' => e = .returned (.int .i64 TT) ∧ Below w3.heap.size w3 w') := fun wx hw => by
      have := ConfTicks_any c wx
      rw [show ticksA c = TT from (if_pos HA.out).trans hTT] at this
      exact this.mono fun e w' ⟨h, b⟩ => ⟨h, hw.trans (b.mono hw.size)⟩
    have K4 : Hid (∀ wx : World, Below w3.heap.size w3 wx → Calls Try.prog 18 #[.agg #[.int .i64 c.cB, .int .i64 c.cBeam, .int .i64 c.cDepth, .int .i64 c.cWin, .int .i64 c.cQs, .int .i64 c.cQr, .int .i64 c.cBatch, .int .i64 c.cPass, .int .i64 c.cMsg, .int .i64 c.cSeqs]] wx fun e w' => e = .returned (.int .i64 TT) ∧ Below w3.heap.size w3 w') := fun wx hw => by
      have := refTicks_any c HA.out wx
      rw [hTT] at this
      exact this.mono fun e w' ⟨h, b⟩ => ⟨h, hw.trans (b.mono hw.size)⟩
    have G5 : Hid (∀ wx : World, Below w3.heap.size w3 wx → Calls Try.prog 12 #[.agg #[.int .i64 c.cB, .int .i64 c.cBeam, .int .i64 c.cDepth, .int .i64 c.cWin, .int .i64 c.cQs, .int .i64 c.cQr, .int .i64 c.cBatch, .int .i64 c.cPass, .int .i64 c.cMsg, .int .i64 c.cSeqs], .int .i64 n] wx fun e w' => e = .returned (.int .i64 CN) ∧ Below w3.heap.size w3 w') := fun wx hw => by
      have := ConfCycles_any c n wx
      rw [HCN.out] at this
      exact this.mono fun e w' ⟨h, b⟩ => ⟨h, hw.trans (b.mono hw.size)⟩
    have HWK : Hid (∀ wx : World, Below w3.heap.size w3 wx → Calls Try.prog 13 #[] wx fun e w' => e = .returned (.bool true) ∧ Below w3.heap.size w3 w') := fun wx hw => (confWakes_any wx).mono fun e w' ⟨h, b⟩ => ⟨h, hw.trans (b.mono hw.size)⟩
    clear hS hM hTT
    have Hxa0 : Hid _ := xa.cell 0 _ rfl
    have Hxa1 : Hid _ := xa.cell 1 _ rfl
    have Hxa2 : Hid _ := xa.cell 2 _ rfl
    have Hxa3 : Hid _ := xa.cell 3 _ rfl
    have Hxa4 : Hid _ := xa.cell 4 _ rfl
    have Hxa5 : Hid _ := xa.cell 5 _ rfl
    have Hxa6 : Hid _ := xa.cell 6 _ rfl
    have Hxa7 : Hid _ := xa.cell 7 _ rfl
    have Hxa8 : Hid _ := xa.cell 8 _ rfl
    have Hxa9 : Hid _ := xa.cell 9 _ rfl
    have hlta := xa.lt
    go_wp2
    refine wp_region_held_drew (S := fun w' => Below w3.heap.size w3 w') (by kernel_rfl) ((Below.refl _ _).drew) (fun hHeld => ?_)
    refine held_take (i := 0) (d := 64) (v := ?v81) rfl rfl (by kernel_rfl) (by kernel_rfl) (by kernel_rfl) (fun _ _ _ h => h) (Or.inl ⟨by kernel_rfl, ?hy81⟩) hHeld ?rest81
    case hy81 =>
      intro wx hSw
      have q0 := (hSw.cell (p := ⟨w.heap.size, 0, none⟩) hlta).trans Hxa0.out
      have q1 := (hSw.cell (p := ⟨w.heap.size, 1, none⟩) hlta).trans Hxa1.out
      have q2 := (hSw.cell (p := ⟨w.heap.size, 2, none⟩) hlta).trans Hxa2.out
      have q3 := (hSw.cell (p := ⟨w.heap.size, 3, none⟩) hlta).trans Hxa3.out
      have q4 := (hSw.cell (p := ⟨w.heap.size, 4, none⟩) hlta).trans Hxa4.out
      have q5 := (hSw.cell (p := ⟨w.heap.size, 5, none⟩) hlta).trans Hxa5.out
      have q6 := (hSw.cell (p := ⟨w.heap.size, 6, none⟩) hlta).trans Hxa6.out
      have q7 := (hSw.cell (p := ⟨w.heap.size, 7, none⟩) hlta).trans Hxa7.out
      have q8 := (hSw.cell (p := ⟨w.heap.size, 8, none⟩) hlta).trans Hxa8.out
      have q9 := (hSw.cell (p := ⟨w.heap.size, 9, none⟩) hlta).trans Hxa9.out
      clear hSw
      go_simp
      with_reducible rfl
    simp only [List.setIfInBounds_toArray, List.set_cons_zero, List.set_cons_succ]
    refine held_take (i := 2) (d := 66) (v := ?v82) rfl rfl (by kernel_rfl) (by kernel_rfl) (by kernel_rfl) (fun _ _ _ h => h) (Or.inl ⟨by kernel_rfl, ?hy82⟩) hHeld ?rest82
    case hy82 =>
      intro wx hSw
      have q0 := (hSw.cell (p := ⟨w.heap.size, 0, none⟩) hlta).trans Hxa0.out
      have q1 := (hSw.cell (p := ⟨w.heap.size, 1, none⟩) hlta).trans Hxa1.out
      have q2 := (hSw.cell (p := ⟨w.heap.size, 2, none⟩) hlta).trans Hxa2.out
      have q3 := (hSw.cell (p := ⟨w.heap.size, 3, none⟩) hlta).trans Hxa3.out
      have q4 := (hSw.cell (p := ⟨w.heap.size, 4, none⟩) hlta).trans Hxa4.out
      have q5 := (hSw.cell (p := ⟨w.heap.size, 5, none⟩) hlta).trans Hxa5.out
      have q6 := (hSw.cell (p := ⟨w.heap.size, 6, none⟩) hlta).trans Hxa6.out
      have q7 := (hSw.cell (p := ⟨w.heap.size, 7, none⟩) hlta).trans Hxa7.out
      have q8 := (hSw.cell (p := ⟨w.heap.size, 8, none⟩) hlta).trans Hxa8.out
      have q9 := (hSw.cell (p := ⟨w.heap.size, 9, none⟩) hlta).trans Hxa9.out
      clear hSw
      go_simp
      with_reducible rfl
    simp only [List.setIfInBounds_toArray, List.set_cons_zero, List.set_cons_succ]
    refine wpAnyH_ready (rs := [1]) (by kernel_rfl) (by simp) ?_
    refine AllReadyH.cons rfl (fun K hK => ?_) AllReadyH.nil
    go_simp
    go_wp2_with (go_at_call 8; refine (G1.out _ (by exact hHeld)).mono ?_; rintro e wb ⟨rfl, b8⟩)
    refine hK.out _ _ (b8) (fun hHeld => ?_)
    clear hK K
    refine wpAnyH_ready (rs := [3]) (by kernel_rfl) (by simp) ?_
    refine AllReadyH.cons rfl (fun K hK => ?_) AllReadyH.nil
    go_simp
    go_wp2_with (go_at_call 16; refine (K1.out _ (by exact hHeld)).mono ?_; rintro e wb ⟨rfl, b8⟩)
    refine hK.out _ _ (b8) (fun hHeld => ?_)
    clear hK K
    refine held_take (i := 4) (d := 68) (v := ?v83) rfl rfl (by kernel_rfl) (by kernel_rfl) (by kernel_rfl) (fun _ _ _ h => h) (Or.inl ⟨by kernel_rfl, ?hy83⟩) hHeld ?rest83
    case hy83 =>
      intro wx hSw
      clear hSw
      go_simp
      with_reducible rfl
    simp only [List.setIfInBounds_toArray, List.set_cons_zero, List.set_cons_succ]
    refine held_take (i := 5) (d := 69) (v := ?v84) rfl rfl (by kernel_rfl) (by kernel_rfl) (by kernel_rfl) (fun _ _ _ h => h) (Or.inl ⟨by kernel_rfl, ?hy84⟩) hHeld ?rest84
    case hy84 =>
      intro wx hSw
      clear hSw
      go_simp
      with_reducible rfl
    simp only [List.setIfInBounds_toArray, List.set_cons_zero, List.set_cons_succ]
    refine held_take (i := 6) (d := 70) (v := ?v85) rfl rfl (by kernel_rfl) (by kernel_rfl) (by kernel_rfl) (fun _ _ _ h => h) (Or.inl ⟨by kernel_rfl, ?hy85⟩) hHeld ?rest85
    case hy85 =>
      intro wx hSw
      have q0 := (hSw.cell (p := ⟨w.heap.size, 0, none⟩) hlta).trans Hxa0.out
      have q1 := (hSw.cell (p := ⟨w.heap.size, 1, none⟩) hlta).trans Hxa1.out
      have q2 := (hSw.cell (p := ⟨w.heap.size, 2, none⟩) hlta).trans Hxa2.out
      have q3 := (hSw.cell (p := ⟨w.heap.size, 3, none⟩) hlta).trans Hxa3.out
      have q4 := (hSw.cell (p := ⟨w.heap.size, 4, none⟩) hlta).trans Hxa4.out
      have q5 := (hSw.cell (p := ⟨w.heap.size, 5, none⟩) hlta).trans Hxa5.out
      have q6 := (hSw.cell (p := ⟨w.heap.size, 6, none⟩) hlta).trans Hxa6.out
      have q7 := (hSw.cell (p := ⟨w.heap.size, 7, none⟩) hlta).trans Hxa7.out
      have q8 := (hSw.cell (p := ⟨w.heap.size, 8, none⟩) hlta).trans Hxa8.out
      have q9 := (hSw.cell (p := ⟨w.heap.size, 9, none⟩) hlta).trans Hxa9.out
      clear hSw
      go_simp
      with_reducible rfl
    simp only [List.setIfInBounds_toArray, List.set_cons_zero, List.set_cons_succ]
    refine held_take (i := 8) (d := 72) (v := ?v86) rfl rfl (by kernel_rfl) (by kernel_rfl) (by kernel_rfl) (fun _ _ _ h => h) (Or.inl ⟨by kernel_rfl, ?hy86⟩) hHeld ?rest86
    case hy86 =>
      intro wx hSw
      have q0 := (hSw.cell (p := ⟨w.heap.size, 0, none⟩) hlta).trans Hxa0.out
      have q1 := (hSw.cell (p := ⟨w.heap.size, 1, none⟩) hlta).trans Hxa1.out
      have q2 := (hSw.cell (p := ⟨w.heap.size, 2, none⟩) hlta).trans Hxa2.out
      have q3 := (hSw.cell (p := ⟨w.heap.size, 3, none⟩) hlta).trans Hxa3.out
      have q4 := (hSw.cell (p := ⟨w.heap.size, 4, none⟩) hlta).trans Hxa4.out
      have q5 := (hSw.cell (p := ⟨w.heap.size, 5, none⟩) hlta).trans Hxa5.out
      have q6 := (hSw.cell (p := ⟨w.heap.size, 6, none⟩) hlta).trans Hxa6.out
      have q7 := (hSw.cell (p := ⟨w.heap.size, 7, none⟩) hlta).trans Hxa7.out
      have q8 := (hSw.cell (p := ⟨w.heap.size, 8, none⟩) hlta).trans Hxa8.out
      have q9 := (hSw.cell (p := ⟨w.heap.size, 9, none⟩) hlta).trans Hxa9.out
      clear hSw
      go_simp
      with_reducible rfl
    simp only [List.setIfInBounds_toArray, List.set_cons_zero, List.set_cons_succ]
    refine wpAnyH_ready (rs := [7]) (by kernel_rfl) (by simp) ?_
    refine AllReadyH.cons rfl (fun K hK => ?_) AllReadyH.nil
    go_simp
    go_wp2_with (go_at_call 9; refine (G2.out _ (by exact hHeld)).mono ?_; rintro e wb ⟨rfl, b8⟩)
    refine hK.out _ _ (b8) (fun hHeld => ?_)
    clear hK K
    refine wpAnyH_ready (rs := [9]) (by kernel_rfl) (by simp) ?_
    refine AllReadyH.cons rfl (fun K hK => ?_) AllReadyH.nil
    go_simp
    go_wp2_with (go_at_call 17; refine (K2.out _ (by exact hHeld)).mono ?_; rintro e wb ⟨rfl, b8⟩)
    refine hK.out _ _ (b8) (fun hHeld => ?_)
    clear hK K
    refine held_take (i := 10) (d := 74) (v := ?v87) rfl rfl (by kernel_rfl) (by kernel_rfl) (by kernel_rfl) (fun _ _ _ h => h) (Or.inl ⟨by kernel_rfl, ?hy87⟩) hHeld ?rest87
    case hy87 =>
      intro wx hSw
      clear hSw
      go_simp
      with_reducible rfl
    simp only [List.setIfInBounds_toArray, List.set_cons_zero, List.set_cons_succ]
    refine held_take (i := 11) (d := 75) (v := ?v88) rfl rfl (by kernel_rfl) (by kernel_rfl) (by kernel_rfl) (fun _ _ _ h => h) (Or.inl ⟨by kernel_rfl, ?hy88⟩) hHeld ?rest88
    case hy88 =>
      intro wx hSw
      clear hSw
      go_simp
      with_reducible rfl
    simp only [List.setIfInBounds_toArray, List.set_cons_zero, List.set_cons_succ]
    refine held_take (i := 12) (d := 76) (v := ?v89) rfl rfl (by kernel_rfl) (by kernel_rfl) (by kernel_rfl) (fun _ _ _ h => h) (Or.inl ⟨by kernel_rfl, ?hy89⟩) hHeld ?rest89
    case hy89 =>
      intro wx hSw
      clear hSw
      go_simp
      with_reducible rfl
    simp only [List.setIfInBounds_toArray, List.set_cons_zero, List.set_cons_succ]
    refine held_take (i := 13) (d := 77) (v := ?v90) rfl rfl (by kernel_rfl) (by kernel_rfl) (by kernel_rfl) (fun _ _ _ h => h) (Or.inl ⟨by kernel_rfl, ?hy90⟩) hHeld ?rest90
    case hy90 =>
      intro wx hSw
      have q0 := (hSw.cell (p := ⟨w.heap.size, 0, none⟩) hlta).trans Hxa0.out
      have q1 := (hSw.cell (p := ⟨w.heap.size, 1, none⟩) hlta).trans Hxa1.out
      have q2 := (hSw.cell (p := ⟨w.heap.size, 2, none⟩) hlta).trans Hxa2.out
      have q3 := (hSw.cell (p := ⟨w.heap.size, 3, none⟩) hlta).trans Hxa3.out
      have q4 := (hSw.cell (p := ⟨w.heap.size, 4, none⟩) hlta).trans Hxa4.out
      have q5 := (hSw.cell (p := ⟨w.heap.size, 5, none⟩) hlta).trans Hxa5.out
      have q6 := (hSw.cell (p := ⟨w.heap.size, 6, none⟩) hlta).trans Hxa6.out
      have q7 := (hSw.cell (p := ⟨w.heap.size, 7, none⟩) hlta).trans Hxa7.out
      have q8 := (hSw.cell (p := ⟨w.heap.size, 8, none⟩) hlta).trans Hxa8.out
      have q9 := (hSw.cell (p := ⟨w.heap.size, 9, none⟩) hlta).trans Hxa9.out
      clear hSw
      go_simp
      with_reducible rfl
    simp only [List.setIfInBounds_toArray, List.set_cons_zero, List.set_cons_succ]
    refine held_take (i := 14) (d := 78) (v := ?v91) rfl rfl (by kernel_rfl) (by kernel_rfl) (by kernel_rfl) (fun _ _ _ h => h) (Or.inl ⟨by kernel_rfl, ?hy91⟩) hHeld ?rest91
    case hy91 =>
      intro wx hSw
      clear hSw
      go_simp
      with_reducible rfl
    simp only [List.setIfInBounds_toArray, List.set_cons_zero, List.set_cons_succ]
    refine held_take (i := 16) (d := 80) (v := ?v92) rfl rfl (by kernel_rfl) (by kernel_rfl) (by kernel_rfl) (fun _ _ _ h => h) (Or.inl ⟨by kernel_rfl, ?hy92⟩) hHeld ?rest92
    case hy92 =>
      intro wx hSw
      clear hSw
      go_simp
      with_reducible rfl
    simp only [List.setIfInBounds_toArray, List.set_cons_zero, List.set_cons_succ]
    refine wpAnyH_ready (rs := [15]) (by kernel_rfl) (by simp) ?_
    refine AllReadyH.cons rfl (fun K hK => ?_) AllReadyH.nil
    go_simp
    go_wp2_with (go_at_call 10; refine (G3.out _ (by exact hHeld)).mono ?_; rintro e wb ⟨rfl, b8⟩)
    refine hK.out _ _ (b8) (fun hHeld => ?_)
    clear hK K
    refine held_take (i := 17) (d := 81) (v := ?v93) rfl rfl (by kernel_rfl) (by kernel_rfl) (by kernel_rfl) (fun _ _ _ h => h) (Or.inl ⟨by kernel_rfl, ?hy93⟩) hHeld ?rest93
    case hy93 =>
      intro wx hSw
      clear hSw
      go_simp
      with_reducible rfl
    simp only [List.setIfInBounds_toArray, List.set_cons_zero, List.set_cons_succ]
    refine held_take (i := 18) (d := 82) (v := ?v94) rfl rfl (by kernel_rfl) (by kernel_rfl) (by kernel_rfl) (fun _ _ _ h => h) (Or.inl ⟨by kernel_rfl, ?hy94⟩) hHeld ?rest94
    case hy94 =>
      intro wx hSw
      clear hSw
      go_simp
      with_reducible rfl
    simp only [List.setIfInBounds_toArray, List.set_cons_zero, List.set_cons_succ]
    refine held_take (i := 19) (d := 83) (v := ?v95) rfl rfl (by kernel_rfl) (by kernel_rfl) (by kernel_rfl) (fun _ _ _ h => h) (Or.inl ⟨by kernel_rfl, ?hy95⟩) hHeld ?rest95
    case hy95 =>
      intro wx hSw
      clear hSw
      go_simp
      with_reducible rfl
    simp only [List.setIfInBounds_toArray, List.set_cons_zero, List.set_cons_succ]
    refine held_take (i := 20) (d := 84) (v := ?v96) rfl rfl (by kernel_rfl) (by kernel_rfl) (by kernel_rfl) (fun _ _ _ h => h) (Or.inl ⟨by kernel_rfl, ?hy96⟩) hHeld ?rest96
    case hy96 =>
      intro wx hSw
      have q0 := (hSw.cell (p := ⟨w.heap.size, 0, none⟩) hlta).trans Hxa0.out
      have q1 := (hSw.cell (p := ⟨w.heap.size, 1, none⟩) hlta).trans Hxa1.out
      have q2 := (hSw.cell (p := ⟨w.heap.size, 2, none⟩) hlta).trans Hxa2.out
      have q3 := (hSw.cell (p := ⟨w.heap.size, 3, none⟩) hlta).trans Hxa3.out
      have q4 := (hSw.cell (p := ⟨w.heap.size, 4, none⟩) hlta).trans Hxa4.out
      have q5 := (hSw.cell (p := ⟨w.heap.size, 5, none⟩) hlta).trans Hxa5.out
      have q6 := (hSw.cell (p := ⟨w.heap.size, 6, none⟩) hlta).trans Hxa6.out
      have q7 := (hSw.cell (p := ⟨w.heap.size, 7, none⟩) hlta).trans Hxa7.out
      have q8 := (hSw.cell (p := ⟨w.heap.size, 8, none⟩) hlta).trans Hxa8.out
      have q9 := (hSw.cell (p := ⟨w.heap.size, 9, none⟩) hlta).trans Hxa9.out
      clear hSw
      go_simp
      with_reducible rfl
    simp only [List.setIfInBounds_toArray, List.set_cons_zero, List.set_cons_succ]
    refine held_take (i := 22) (d := 86) (v := ?v97) rfl rfl (by kernel_rfl) (by kernel_rfl) (by kernel_rfl) (fun _ _ _ h => h) (Or.inl ⟨by kernel_rfl, ?hy97⟩) hHeld ?rest97
    case hy97 =>
      intro wx hSw
      have q0 := (hSw.cell (p := ⟨w.heap.size, 0, none⟩) hlta).trans Hxa0.out
      have q1 := (hSw.cell (p := ⟨w.heap.size, 1, none⟩) hlta).trans Hxa1.out
      have q2 := (hSw.cell (p := ⟨w.heap.size, 2, none⟩) hlta).trans Hxa2.out
      have q3 := (hSw.cell (p := ⟨w.heap.size, 3, none⟩) hlta).trans Hxa3.out
      have q4 := (hSw.cell (p := ⟨w.heap.size, 4, none⟩) hlta).trans Hxa4.out
      have q5 := (hSw.cell (p := ⟨w.heap.size, 5, none⟩) hlta).trans Hxa5.out
      have q6 := (hSw.cell (p := ⟨w.heap.size, 6, none⟩) hlta).trans Hxa6.out
      have q7 := (hSw.cell (p := ⟨w.heap.size, 7, none⟩) hlta).trans Hxa7.out
      have q8 := (hSw.cell (p := ⟨w.heap.size, 8, none⟩) hlta).trans Hxa8.out
      have q9 := (hSw.cell (p := ⟨w.heap.size, 9, none⟩) hlta).trans Hxa9.out
      clear hSw
      go_simp
      with_reducible rfl
    simp only [List.setIfInBounds_toArray, List.set_cons_zero, List.set_cons_succ]
    refine wpAnyH_ready (rs := [21]) (by kernel_rfl) (by simp) ?_
    refine AllReadyH.cons rfl (fun K hK => ?_) AllReadyH.nil
    go_simp
    go_wp2_with (go_at_call 11; refine (G4.out _ (by exact hHeld)).mono ?_; rintro e wb ⟨rfl, b8⟩)
    refine hK.out _ _ (b8) (fun hHeld => ?_)
    clear hK K
    refine wpAnyH_ready (rs := [23]) (by kernel_rfl) (by simp) ?_
    refine AllReadyH.cons rfl (fun K hK => ?_) AllReadyH.nil
    go_simp
    go_wp2_with (go_at_call 18; refine (K4.out _ (by exact hHeld)).mono ?_; rintro e wb ⟨rfl, b8⟩)
    refine hK.out _ _ (b8) (fun hHeld => ?_)
    clear hK K
    refine held_take (i := 24) (d := 88) (v := ?v98) rfl rfl (by kernel_rfl) (by kernel_rfl) (by kernel_rfl) (fun _ _ _ h => h) (Or.inl ⟨by kernel_rfl, ?hy98⟩) hHeld ?rest98
    case hy98 =>
      intro wx hSw
      clear hSw
      go_simp
      with_reducible rfl
    simp only [List.setIfInBounds_toArray, List.set_cons_zero, List.set_cons_succ]
    refine held_take (i := 25) (d := 89) (v := ?v99) rfl rfl (by kernel_rfl) (by kernel_rfl) (by kernel_rfl) (fun _ _ _ h => h) (Or.inl ⟨by kernel_rfl, ?hy99⟩) hHeld ?rest99
    case hy99 =>
      intro wx hSw
      clear hSw
      go_simp
      with_reducible rfl
    simp only [List.setIfInBounds_toArray, List.set_cons_zero, List.set_cons_succ]
    refine held_take (i := 26) (d := 90) (v := ?v100) rfl rfl (by kernel_rfl) (by kernel_rfl) (by kernel_rfl) (fun _ _ _ h => h) (Or.inl ⟨by kernel_rfl, ?hy100⟩) hHeld ?rest100
    case hy100 =>
      intro wx hSw
      clear hSw
      go_simp
      with_reducible rfl
    simp only [List.setIfInBounds_toArray, List.set_cons_zero, List.set_cons_succ]
    refine held_take (i := 27) (d := 91) (v := ?v101) rfl rfl (by kernel_rfl) (by kernel_rfl) (by kernel_rfl) (fun _ _ _ h => h) (Or.inl ⟨by kernel_rfl, ?hy101⟩) hHeld ?rest101
    case hy101 =>
      intro wx hSw
      have q0 := (hSw.cell (p := ⟨w.heap.size, 0, none⟩) hlta).trans Hxa0.out
      have q1 := (hSw.cell (p := ⟨w.heap.size, 1, none⟩) hlta).trans Hxa1.out
      have q2 := (hSw.cell (p := ⟨w.heap.size, 2, none⟩) hlta).trans Hxa2.out
      have q3 := (hSw.cell (p := ⟨w.heap.size, 3, none⟩) hlta).trans Hxa3.out
      have q4 := (hSw.cell (p := ⟨w.heap.size, 4, none⟩) hlta).trans Hxa4.out
      have q5 := (hSw.cell (p := ⟨w.heap.size, 5, none⟩) hlta).trans Hxa5.out
      have q6 := (hSw.cell (p := ⟨w.heap.size, 6, none⟩) hlta).trans Hxa6.out
      have q7 := (hSw.cell (p := ⟨w.heap.size, 7, none⟩) hlta).trans Hxa7.out
      have q8 := (hSw.cell (p := ⟨w.heap.size, 8, none⟩) hlta).trans Hxa8.out
      have q9 := (hSw.cell (p := ⟨w.heap.size, 9, none⟩) hlta).trans Hxa9.out
      clear hSw
      go_simp
      with_reducible rfl
    simp only [List.setIfInBounds_toArray, List.set_cons_zero, List.set_cons_succ]
    refine held_take (i := 28) (d := 92) (v := ?v102) rfl rfl (by kernel_rfl) (by kernel_rfl) (by kernel_rfl) (fun _ _ _ h => h) (Or.inl ⟨by kernel_rfl, ?hy102⟩) hHeld ?rest102
    case hy102 =>
      intro wx hSw
      clear hSw
      go_simp
      with_reducible rfl
    simp only [List.setIfInBounds_toArray, List.set_cons_zero, List.set_cons_succ]
    refine held_take (i := 30) (d := 94) (v := ?v103) rfl rfl (by kernel_rfl) (by kernel_rfl) (by kernel_rfl) (fun _ _ _ h => h) (Or.inl ⟨by kernel_rfl, ?hy103⟩) hHeld ?rest103
    case hy103 =>
      intro wx hSw
      clear hSw
      go_simp
      with_reducible rfl
    simp only [List.setIfInBounds_toArray, List.set_cons_zero, List.set_cons_succ]
    refine wpAnyH_ready (rs := [29]) (by kernel_rfl) (by simp) ?_
    refine AllReadyH.cons rfl (fun K hK => ?_) AllReadyH.nil
    go_simp
    go_wp2_with (go_at_call 12; refine (G5.out _ (by exact hHeld)).mono ?_; rintro e wb ⟨rfl, b8⟩)
    refine hK.out _ _ (b8) (fun hHeld => ?_)
    clear hK K
    refine held_take (i := 31) (d := 95) (v := ?v104) rfl rfl (by kernel_rfl) (by kernel_rfl) (by kernel_rfl) (fun _ _ _ h => h) (Or.inl ⟨by kernel_rfl, ?hy104⟩) hHeld ?rest104
    case hy104 =>
      intro wx hSw
      clear hSw
      go_simp
      with_reducible rfl
    simp only [List.setIfInBounds_toArray, List.set_cons_zero, List.set_cons_succ]
    refine held_take (i := 32) (d := 96) (v := ?v105) rfl rfl (by kernel_rfl) (by kernel_rfl) (by kernel_rfl) (fun _ _ _ h => h) (Or.inl ⟨by kernel_rfl, ?hy105⟩) hHeld ?rest105
    case hy105 =>
      intro wx hSw
      clear hSw
      go_simp
      with_reducible rfl
    simp only [List.setIfInBounds_toArray, List.set_cons_zero, List.set_cons_succ]
    refine held_take (i := 33) (d := 97) (v := ?v106) rfl rfl (by kernel_rfl) (by kernel_rfl) (by kernel_rfl) (fun _ _ _ h => h) (Or.inl ⟨by kernel_rfl, ?hy106⟩) hHeld ?rest106
    case hy106 =>
      intro wx hSw
      clear hSw
      go_simp
      with_reducible rfl
    simp only [List.setIfInBounds_toArray, List.set_cons_zero, List.set_cons_succ]
    refine wpAnyH_ready (rs := [34]) (by kernel_rfl) (by simp) ?_
    refine AllReadyH.cons rfl (fun K hK => ?_) AllReadyH.nil
    go_simp
    go_wp2_with (go_at_call 13; refine (HWK.out _ (by exact hHeld)).mono ?_; rintro e wb ⟨rfl, b8⟩)
    refine hK.out _ _ (b8) (fun hHeld => ?_)
    clear hK K
    refine held_take (i := 35) (d := 99) (v := ?v107) rfl rfl (by kernel_rfl) (by kernel_rfl) (by kernel_rfl) (fun _ _ _ h => h) (Or.inl ⟨by kernel_rfl, ?hy107⟩) hHeld ?rest107
    case hy107 =>
      intro wx hSw
      clear hSw
      go_simp
      with_reducible rfl
    simp only [List.setIfInBounds_toArray, List.set_cons_zero, List.set_cons_succ]
    refine wpAnyH_ready (rs := [36]) (by kernel_rfl) (by simp) ?_
    refine AllReadyH.cons rfl (fun K hK => ?_) AllReadyH.nil
    go_simp
    refine hK.out _ _ hHeld (fun hHeld => ?_)
    clear hK K
    refine wpAnyH_done (by kernel_rfl) ?_ _
    go_wp2
    go_ret
    exact ⟨rfl, bb.trans (hHeld.mono bb.size)⟩
  have d1 : decide (0 ≤ n) = true := decide_eq_true (by omega)
  have d2 : decide (n ≤ 200) = false := decide_eq_false (by omega)
  have d3 : decide (n ≤ 2000) = false := decide_eq_false (by omega)
  obtain rfl : 0 = BN := by
    have := HBN.out
    unfold blocksA at this
    rw [if_neg (by omega)] at this
    exact this
  obtain rfl : 0 = CN := by
    have := HCN.out
    unfold cyclesA at this
    rw [if_neg (by omega)] at this
    exact this
  obtain ⟨S, hS⟩ : ∃ x, segsC c = x := ⟨_, rfl⟩
  obtain ⟨M, hM⟩ : ∃ x, mostC c = x := ⟨_, rfl⟩
  obtain ⟨TT, hTT⟩ : ∃ x, ticksC c = x := ⟨_, rfl⟩
  have eS : (S == S) = true := by simp
  have eM : (M == M) = true := by simp
  have eT : (TT == TT) = true := by simp
  have eB : ((0 : Int) == 0) = true := by simp
  have eC : ((0 : Int) == 0) = true := by simp
  have G1 : Hid (∀ wx : World, Below w2.heap.size w2 wx → Calls Try.prog 8 #[.agg #[.int .i64 c.cB, .int .i64 c.cBeam, .int .i64 c.cDepth, .int .i64 c.cWin, .int .i64 c.cQs, .int .i64 c.cQr, .int .i64 c.cBatch, .int .i64 c.cPass, .int .i64 c.cMsg, .int .i64 c.cSeqs]] wx fun e w' => e = .returned (.int .i64 S) ∧ Below w2.heap.size w2 w') := fun wx hw => by
    have := ConfSegs_any c wx
    rw [show segsA c = S from (if_pos HA.out).trans hS] at this
    exact this.mono fun e w' ⟨h, b⟩ => ⟨h, hw.trans (b.mono hw.size)⟩
  have K1 : Hid (∀ wx : World, Below w2.heap.size w2 wx → Calls Try.prog 16 #[.agg #[.int .i64 c.cB, .int .i64 c.cBeam, .int .i64 c.cDepth, .int .i64 c.cWin, .int .i64 c.cQs, .int .i64 c.cQr, .int .i64 c.cBatch, .int .i64 c.cPass, .int .i64 c.cMsg, .int .i64 c.cSeqs]] wx fun e w' => e = .returned (.int .i64 S) ∧ Below w2.heap.size w2 w') := fun wx hw => by
    have := refSegs_any c HA.out wx
    rw [hS] at this
    exact this.mono fun e w' ⟨h, b⟩ => ⟨h, hw.trans (b.mono hw.size)⟩
  have G2 : Hid (∀ wx : World, Below w2.heap.size w2 wx → Calls Try.prog 9 #[.agg #[.int .i64 c.cB, .int .i64 c.cBeam, .int .i64 c.cDepth, .int .i64 c.cWin, .int .i64 c.cQs, .int .i64 c.cQr, .int .i64 c.cBatch, .int .i64 c.cPass, .int .i64 c.cMsg, .int .i64 c.cSeqs]] wx fun e w' => e = .returned (.int .i64 M) ∧ Below w2.heap.size w2 w') := fun wx hw => by
    have := ConfMost_any c wx
    rw [show mostA c = M from (if_pos HA.out).trans hM] at this
    exact this.mono fun e w' ⟨h, b⟩ => ⟨h, hw.trans (b.mono hw.size)⟩
  have K2 : Hid (∀ wx : World, Below w2.heap.size w2 wx → Calls Try.prog 17 #[.agg #[.int .i64 c.cB, .int .i64 c.cBeam, .int .i64 c.cDepth, .int .i64 c.cWin, .int .i64 c.cQs, .int .i64 c.cQr, .int .i64 c.cBatch, .int .i64 c.cPass, .int .i64 c.cMsg, .int .i64 c.cSeqs]] wx fun e w' => e = .returned (.int .i64 M) ∧ Below w2.heap.size w2 w') := fun wx hw => by
    have := refMost_any c HA.out wx
    rw [hM] at this
    exact this.mono fun e w' ⟨h, b⟩ => ⟨h, hw.trans (b.mono hw.size)⟩
  have G3 : Hid (∀ wx : World, Below w2.heap.size w2 wx → Calls Try.prog 10 #[.agg #[.int .i64 c.cB, .int .i64 c.cBeam, .int .i64 c.cDepth, .int .i64 c.cWin, .int .i64 c.cQs, .int .i64 c.cQr, .int .i64 c.cBatch, .int .i64 c.cPass, .int .i64 c.cMsg, .int .i64 c.cSeqs], .int .i64 n] wx fun e w' => e = .returned (.int .i64 0) ∧ Below w2.heap.size w2 w') := fun wx hw => by
    have := ConfBlocks_any c n wx
    rw [HBN.out] at this
    exact this.mono fun e w' ⟨h, b⟩ => ⟨h, hw.trans (b.mono hw.size)⟩
  have G4 : Hid (∀ wx : World, Below w2.heap.size w2 wx → Calls Try.prog 11 #[.agg #[.int .i64 c.cB, .int .i64 c.cBeam, .int .i64 c.cDepth, .int .i64 c.cWin, .int .i64 c.cQs, .int .i64 c.cQr, .int .i64 c.cBatch, .int .i64 c.cPass, .int .i64 c.cMsg, .int .i64 c.cSeqs]] wx fun e w' => e = .returned (.int .i64 TT) ∧ Below w2.heap.size w2 w') := fun wx hw => by
    have := ConfTicks_any c wx
    rw [show ticksA c = TT from (if_pos HA.out).trans hTT] at this
    exact this.mono fun e w' ⟨h, b⟩ => ⟨h, hw.trans (b.mono hw.size)⟩
  have K4 : Hid (∀ wx : World, Below w2.heap.size w2 wx → Calls Try.prog 18 #[.agg #[.int .i64 c.cB, .int .i64 c.cBeam, .int .i64 c.cDepth, .int .i64 c.cWin, .int .i64 c.cQs, .int .i64 c.cQr, .int .i64 c.cBatch, .int .i64 c.cPass, .int .i64 c.cMsg, .int .i64 c.cSeqs]] wx fun e w' => e = .returned (.int .i64 TT) ∧ Below w2.heap.size w2 w') := fun wx hw => by
    have := refTicks_any c HA.out wx
    rw [hTT] at this
    exact this.mono fun e w' ⟨h, b⟩ => ⟨h, hw.trans (b.mono hw.size)⟩
  have G5 : Hid (∀ wx : World, Below w2.heap.size w2 wx → Calls Try.prog 12 #[.agg #[.int .i64 c.cB, .int .i64 c.cBeam, .int .i64 c.cDepth, .int .i64 c.cWin, .int .i64 c.cQs, .int .i64 c.cQr, .int .i64 c.cBatch, .int .i64 c.cPass, .int .i64 c.cMsg, .int .i64 c.cSeqs], .int .i64 n] wx fun e w' => e = .returned (.int .i64 0) ∧ Below w2.heap.size w2 w') := fun wx hw => by
    have := ConfCycles_any c n wx
    rw [HCN.out] at this
    exact this.mono fun e w' ⟨h, b⟩ => ⟨h, hw.trans (b.mono hw.size)⟩
  have HWK : Hid (∀ wx : World, Below w2.heap.size w2 wx → Calls Try.prog 13 #[] wx fun e w' => e = .returned (.bool true) ∧ Below w2.heap.size w2 w') := fun wx hw => (confWakes_any wx).mono fun e w' ⟨h, b⟩ => ⟨h, hw.trans (b.mono hw.size)⟩
  clear hS hM hTT
  have Hxa0 : Hid _ := xa.cell 0 _ rfl
  have Hxa1 : Hid _ := xa.cell 1 _ rfl
  have Hxa2 : Hid _ := xa.cell 2 _ rfl
  have Hxa3 : Hid _ := xa.cell 3 _ rfl
  have Hxa4 : Hid _ := xa.cell 4 _ rfl
  have Hxa5 : Hid _ := xa.cell 5 _ rfl
  have Hxa6 : Hid _ := xa.cell 6 _ rfl
  have Hxa7 : Hid _ := xa.cell 7 _ rfl
  have Hxa8 : Hid _ := xa.cell 8 _ rfl
  have Hxa9 : Hid _ := xa.cell 9 _ rfl
  have hlta := xa.lt
  go_wp2
  refine wp_region_held_drew (S := fun w' => Below w2.heap.size w2 w') (by kernel_rfl) ((Below.refl _ _).drew) (fun hHeld => ?_)
  refine held_take (i := 0) (d := 64) (v := ?v108) rfl rfl (by kernel_rfl) (by kernel_rfl) (by kernel_rfl) (fun _ _ _ h => h) (Or.inl ⟨by kernel_rfl, ?hy108⟩) hHeld ?rest108
  case hy108 =>
    intro wx hSw
    have q0 := (hSw.cell (p := ⟨w.heap.size, 0, none⟩) hlta).trans Hxa0.out
    have q1 := (hSw.cell (p := ⟨w.heap.size, 1, none⟩) hlta).trans Hxa1.out
    have q2 := (hSw.cell (p := ⟨w.heap.size, 2, none⟩) hlta).trans Hxa2.out
    have q3 := (hSw.cell (p := ⟨w.heap.size, 3, none⟩) hlta).trans Hxa3.out
    have q4 := (hSw.cell (p := ⟨w.heap.size, 4, none⟩) hlta).trans Hxa4.out
    have q5 := (hSw.cell (p := ⟨w.heap.size, 5, none⟩) hlta).trans Hxa5.out
    have q6 := (hSw.cell (p := ⟨w.heap.size, 6, none⟩) hlta).trans Hxa6.out
    have q7 := (hSw.cell (p := ⟨w.heap.size, 7, none⟩) hlta).trans Hxa7.out
    have q8 := (hSw.cell (p := ⟨w.heap.size, 8, none⟩) hlta).trans Hxa8.out
    have q9 := (hSw.cell (p := ⟨w.heap.size, 9, none⟩) hlta).trans Hxa9.out
    clear hSw
    go_simp
    with_reducible rfl
  simp only [List.setIfInBounds_toArray, List.set_cons_zero, List.set_cons_succ]
  refine held_take (i := 2) (d := 66) (v := ?v109) rfl rfl (by kernel_rfl) (by kernel_rfl) (by kernel_rfl) (fun _ _ _ h => h) (Or.inl ⟨by kernel_rfl, ?hy109⟩) hHeld ?rest109
  case hy109 =>
    intro wx hSw
    have q0 := (hSw.cell (p := ⟨w.heap.size, 0, none⟩) hlta).trans Hxa0.out
    have q1 := (hSw.cell (p := ⟨w.heap.size, 1, none⟩) hlta).trans Hxa1.out
    have q2 := (hSw.cell (p := ⟨w.heap.size, 2, none⟩) hlta).trans Hxa2.out
    have q3 := (hSw.cell (p := ⟨w.heap.size, 3, none⟩) hlta).trans Hxa3.out
    have q4 := (hSw.cell (p := ⟨w.heap.size, 4, none⟩) hlta).trans Hxa4.out
    have q5 := (hSw.cell (p := ⟨w.heap.size, 5, none⟩) hlta).trans Hxa5.out
    have q6 := (hSw.cell (p := ⟨w.heap.size, 6, none⟩) hlta).trans Hxa6.out
    have q7 := (hSw.cell (p := ⟨w.heap.size, 7, none⟩) hlta).trans Hxa7.out
    have q8 := (hSw.cell (p := ⟨w.heap.size, 8, none⟩) hlta).trans Hxa8.out
    have q9 := (hSw.cell (p := ⟨w.heap.size, 9, none⟩) hlta).trans Hxa9.out
    clear hSw
    go_simp
    with_reducible rfl
  simp only [List.setIfInBounds_toArray, List.set_cons_zero, List.set_cons_succ]
  refine wpAnyH_ready (rs := [1]) (by kernel_rfl) (by simp) ?_
  refine AllReadyH.cons rfl (fun K hK => ?_) AllReadyH.nil
  go_simp
  go_wp2_with (go_at_call 8; refine (G1.out _ (by exact hHeld)).mono ?_; rintro e wb ⟨rfl, b8⟩)
  refine hK.out _ _ (b8) (fun hHeld => ?_)
  clear hK K
  refine wpAnyH_ready (rs := [3]) (by kernel_rfl) (by simp) ?_
  refine AllReadyH.cons rfl (fun K hK => ?_) AllReadyH.nil
  go_simp
  go_wp2_with (go_at_call 16; refine (K1.out _ (by exact hHeld)).mono ?_; rintro e wb ⟨rfl, b8⟩)
  refine hK.out _ _ (b8) (fun hHeld => ?_)
  clear hK K
  refine held_take (i := 4) (d := 68) (v := ?v110) rfl rfl (by kernel_rfl) (by kernel_rfl) (by kernel_rfl) (fun _ _ _ h => h) (Or.inl ⟨by kernel_rfl, ?hy110⟩) hHeld ?rest110
  case hy110 =>
    intro wx hSw
    clear hSw
    go_simp
    with_reducible rfl
  simp only [List.setIfInBounds_toArray, List.set_cons_zero, List.set_cons_succ]
  refine held_take (i := 5) (d := 69) (v := ?v111) rfl rfl (by kernel_rfl) (by kernel_rfl) (by kernel_rfl) (fun _ _ _ h => h) (Or.inl ⟨by kernel_rfl, ?hy111⟩) hHeld ?rest111
  case hy111 =>
    intro wx hSw
    clear hSw
    go_simp
    with_reducible rfl
  simp only [List.setIfInBounds_toArray, List.set_cons_zero, List.set_cons_succ]
  refine held_take (i := 6) (d := 70) (v := ?v112) rfl rfl (by kernel_rfl) (by kernel_rfl) (by kernel_rfl) (fun _ _ _ h => h) (Or.inl ⟨by kernel_rfl, ?hy112⟩) hHeld ?rest112
  case hy112 =>
    intro wx hSw
    have q0 := (hSw.cell (p := ⟨w.heap.size, 0, none⟩) hlta).trans Hxa0.out
    have q1 := (hSw.cell (p := ⟨w.heap.size, 1, none⟩) hlta).trans Hxa1.out
    have q2 := (hSw.cell (p := ⟨w.heap.size, 2, none⟩) hlta).trans Hxa2.out
    have q3 := (hSw.cell (p := ⟨w.heap.size, 3, none⟩) hlta).trans Hxa3.out
    have q4 := (hSw.cell (p := ⟨w.heap.size, 4, none⟩) hlta).trans Hxa4.out
    have q5 := (hSw.cell (p := ⟨w.heap.size, 5, none⟩) hlta).trans Hxa5.out
    have q6 := (hSw.cell (p := ⟨w.heap.size, 6, none⟩) hlta).trans Hxa6.out
    have q7 := (hSw.cell (p := ⟨w.heap.size, 7, none⟩) hlta).trans Hxa7.out
    have q8 := (hSw.cell (p := ⟨w.heap.size, 8, none⟩) hlta).trans Hxa8.out
    have q9 := (hSw.cell (p := ⟨w.heap.size, 9, none⟩) hlta).trans Hxa9.out
    clear hSw
    go_simp
    with_reducible rfl
  simp only [List.setIfInBounds_toArray, List.set_cons_zero, List.set_cons_succ]
  refine held_take (i := 8) (d := 72) (v := ?v113) rfl rfl (by kernel_rfl) (by kernel_rfl) (by kernel_rfl) (fun _ _ _ h => h) (Or.inl ⟨by kernel_rfl, ?hy113⟩) hHeld ?rest113
  case hy113 =>
    intro wx hSw
    have q0 := (hSw.cell (p := ⟨w.heap.size, 0, none⟩) hlta).trans Hxa0.out
    have q1 := (hSw.cell (p := ⟨w.heap.size, 1, none⟩) hlta).trans Hxa1.out
    have q2 := (hSw.cell (p := ⟨w.heap.size, 2, none⟩) hlta).trans Hxa2.out
    have q3 := (hSw.cell (p := ⟨w.heap.size, 3, none⟩) hlta).trans Hxa3.out
    have q4 := (hSw.cell (p := ⟨w.heap.size, 4, none⟩) hlta).trans Hxa4.out
    have q5 := (hSw.cell (p := ⟨w.heap.size, 5, none⟩) hlta).trans Hxa5.out
    have q6 := (hSw.cell (p := ⟨w.heap.size, 6, none⟩) hlta).trans Hxa6.out
    have q7 := (hSw.cell (p := ⟨w.heap.size, 7, none⟩) hlta).trans Hxa7.out
    have q8 := (hSw.cell (p := ⟨w.heap.size, 8, none⟩) hlta).trans Hxa8.out
    have q9 := (hSw.cell (p := ⟨w.heap.size, 9, none⟩) hlta).trans Hxa9.out
    clear hSw
    go_simp
    with_reducible rfl
  simp only [List.setIfInBounds_toArray, List.set_cons_zero, List.set_cons_succ]
  refine wpAnyH_ready (rs := [7]) (by kernel_rfl) (by simp) ?_
  refine AllReadyH.cons rfl (fun K hK => ?_) AllReadyH.nil
  go_simp
  go_wp2_with (go_at_call 9; refine (G2.out _ (by exact hHeld)).mono ?_; rintro e wb ⟨rfl, b8⟩)
  refine hK.out _ _ (b8) (fun hHeld => ?_)
  clear hK K
  refine wpAnyH_ready (rs := [9]) (by kernel_rfl) (by simp) ?_
  refine AllReadyH.cons rfl (fun K hK => ?_) AllReadyH.nil
  go_simp
  go_wp2_with (go_at_call 17; refine (K2.out _ (by exact hHeld)).mono ?_; rintro e wb ⟨rfl, b8⟩)
  refine hK.out _ _ (b8) (fun hHeld => ?_)
  clear hK K
  refine held_take (i := 10) (d := 74) (v := ?v114) rfl rfl (by kernel_rfl) (by kernel_rfl) (by kernel_rfl) (fun _ _ _ h => h) (Or.inl ⟨by kernel_rfl, ?hy114⟩) hHeld ?rest114
  case hy114 =>
    intro wx hSw
    clear hSw
    go_simp
    with_reducible rfl
  simp only [List.setIfInBounds_toArray, List.set_cons_zero, List.set_cons_succ]
  refine held_take (i := 11) (d := 75) (v := ?v115) rfl rfl (by kernel_rfl) (by kernel_rfl) (by kernel_rfl) (fun _ _ _ h => h) (Or.inl ⟨by kernel_rfl, ?hy115⟩) hHeld ?rest115
  case hy115 =>
    intro wx hSw
    clear hSw
    go_simp
    with_reducible rfl
  simp only [List.setIfInBounds_toArray, List.set_cons_zero, List.set_cons_succ]
  refine held_take (i := 12) (d := 76) (v := ?v116) rfl rfl (by kernel_rfl) (by kernel_rfl) (by kernel_rfl) (fun _ _ _ h => h) (Or.inl ⟨by kernel_rfl, ?hy116⟩) hHeld ?rest116
  case hy116 =>
    intro wx hSw
    clear hSw
    go_simp
    with_reducible rfl
  simp only [List.setIfInBounds_toArray, List.set_cons_zero, List.set_cons_succ]
  refine held_take (i := 13) (d := 77) (v := ?v117) rfl rfl (by kernel_rfl) (by kernel_rfl) (by kernel_rfl) (fun _ _ _ h => h) (Or.inl ⟨by kernel_rfl, ?hy117⟩) hHeld ?rest117
  case hy117 =>
    intro wx hSw
    have q0 := (hSw.cell (p := ⟨w.heap.size, 0, none⟩) hlta).trans Hxa0.out
    have q1 := (hSw.cell (p := ⟨w.heap.size, 1, none⟩) hlta).trans Hxa1.out
    have q2 := (hSw.cell (p := ⟨w.heap.size, 2, none⟩) hlta).trans Hxa2.out
    have q3 := (hSw.cell (p := ⟨w.heap.size, 3, none⟩) hlta).trans Hxa3.out
    have q4 := (hSw.cell (p := ⟨w.heap.size, 4, none⟩) hlta).trans Hxa4.out
    have q5 := (hSw.cell (p := ⟨w.heap.size, 5, none⟩) hlta).trans Hxa5.out
    have q6 := (hSw.cell (p := ⟨w.heap.size, 6, none⟩) hlta).trans Hxa6.out
    have q7 := (hSw.cell (p := ⟨w.heap.size, 7, none⟩) hlta).trans Hxa7.out
    have q8 := (hSw.cell (p := ⟨w.heap.size, 8, none⟩) hlta).trans Hxa8.out
    have q9 := (hSw.cell (p := ⟨w.heap.size, 9, none⟩) hlta).trans Hxa9.out
    clear hSw
    go_simp
    with_reducible rfl
  simp only [List.setIfInBounds_toArray, List.set_cons_zero, List.set_cons_succ]
  refine held_take (i := 14) (d := 78) (v := ?v118) rfl rfl (by kernel_rfl) (by kernel_rfl) (by kernel_rfl) (fun _ _ _ h => h) (Or.inl ⟨by kernel_rfl, ?hy118⟩) hHeld ?rest118
  case hy118 =>
    intro wx hSw
    clear hSw
    go_simp
    with_reducible rfl
  simp only [List.setIfInBounds_toArray, List.set_cons_zero, List.set_cons_succ]
  refine held_take (i := 16) (d := 80) (v := ?v119) rfl rfl (by kernel_rfl) (by kernel_rfl) (by kernel_rfl) (fun _ _ _ h => h) (Or.inl ⟨by kernel_rfl, ?hy119⟩) hHeld ?rest119
  case hy119 =>
    intro wx hSw
    clear hSw
    go_simp
    with_reducible rfl
  simp only [List.setIfInBounds_toArray, List.set_cons_zero, List.set_cons_succ]
  refine wpAnyH_ready (rs := [15]) (by kernel_rfl) (by simp) ?_
  refine AllReadyH.cons rfl (fun K hK => ?_) AllReadyH.nil
  go_simp
  go_wp2_with (go_at_call 10; refine (G3.out _ (by exact hHeld)).mono ?_; rintro e wb ⟨rfl, b8⟩)
  refine hK.out _ _ (b8) (fun hHeld => ?_)
  clear hK K
  refine held_take (i := 17) (d := 81) (v := ?v120) rfl rfl (by kernel_rfl) (by kernel_rfl) (by kernel_rfl) (fun _ _ _ h => h) (Or.inl ⟨by kernel_rfl, ?hy120⟩) hHeld ?rest120
  case hy120 =>
    intro wx hSw
    clear hSw
    go_simp
    with_reducible rfl
  simp only [List.setIfInBounds_toArray, List.set_cons_zero, List.set_cons_succ]
  refine held_take (i := 18) (d := 82) (v := ?v121) rfl rfl (by kernel_rfl) (by kernel_rfl) (by kernel_rfl) (fun _ _ _ h => h) (Or.inl ⟨by kernel_rfl, ?hy121⟩) hHeld ?rest121
  case hy121 =>
    intro wx hSw
    clear hSw
    go_simp
    with_reducible rfl
  simp only [List.setIfInBounds_toArray, List.set_cons_zero, List.set_cons_succ]
  refine held_take (i := 19) (d := 83) (v := ?v122) rfl rfl (by kernel_rfl) (by kernel_rfl) (by kernel_rfl) (fun _ _ _ h => h) (Or.inl ⟨by kernel_rfl, ?hy122⟩) hHeld ?rest122
  case hy122 =>
    intro wx hSw
    clear hSw
    go_simp
    with_reducible rfl
  simp only [List.setIfInBounds_toArray, List.set_cons_zero, List.set_cons_succ]
  refine held_take (i := 20) (d := 84) (v := ?v123) rfl rfl (by kernel_rfl) (by kernel_rfl) (by kernel_rfl) (fun _ _ _ h => h) (Or.inl ⟨by kernel_rfl, ?hy123⟩) hHeld ?rest123
  case hy123 =>
    intro wx hSw
    have q0 := (hSw.cell (p := ⟨w.heap.size, 0, none⟩) hlta).trans Hxa0.out
    have q1 := (hSw.cell (p := ⟨w.heap.size, 1, none⟩) hlta).trans Hxa1.out
    have q2 := (hSw.cell (p := ⟨w.heap.size, 2, none⟩) hlta).trans Hxa2.out
    have q3 := (hSw.cell (p := ⟨w.heap.size, 3, none⟩) hlta).trans Hxa3.out
    have q4 := (hSw.cell (p := ⟨w.heap.size, 4, none⟩) hlta).trans Hxa4.out
    have q5 := (hSw.cell (p := ⟨w.heap.size, 5, none⟩) hlta).trans Hxa5.out
    have q6 := (hSw.cell (p := ⟨w.heap.size, 6, none⟩) hlta).trans Hxa6.out
    have q7 := (hSw.cell (p := ⟨w.heap.size, 7, none⟩) hlta).trans Hxa7.out
    have q8 := (hSw.cell (p := ⟨w.heap.size, 8, none⟩) hlta).trans Hxa8.out
    have q9 := (hSw.cell (p := ⟨w.heap.size, 9, none⟩) hlta).trans Hxa9.out
    clear hSw
    go_simp
    with_reducible rfl
  simp only [List.setIfInBounds_toArray, List.set_cons_zero, List.set_cons_succ]
  refine held_take (i := 22) (d := 86) (v := ?v124) rfl rfl (by kernel_rfl) (by kernel_rfl) (by kernel_rfl) (fun _ _ _ h => h) (Or.inl ⟨by kernel_rfl, ?hy124⟩) hHeld ?rest124
  case hy124 =>
    intro wx hSw
    have q0 := (hSw.cell (p := ⟨w.heap.size, 0, none⟩) hlta).trans Hxa0.out
    have q1 := (hSw.cell (p := ⟨w.heap.size, 1, none⟩) hlta).trans Hxa1.out
    have q2 := (hSw.cell (p := ⟨w.heap.size, 2, none⟩) hlta).trans Hxa2.out
    have q3 := (hSw.cell (p := ⟨w.heap.size, 3, none⟩) hlta).trans Hxa3.out
    have q4 := (hSw.cell (p := ⟨w.heap.size, 4, none⟩) hlta).trans Hxa4.out
    have q5 := (hSw.cell (p := ⟨w.heap.size, 5, none⟩) hlta).trans Hxa5.out
    have q6 := (hSw.cell (p := ⟨w.heap.size, 6, none⟩) hlta).trans Hxa6.out
    have q7 := (hSw.cell (p := ⟨w.heap.size, 7, none⟩) hlta).trans Hxa7.out
    have q8 := (hSw.cell (p := ⟨w.heap.size, 8, none⟩) hlta).trans Hxa8.out
    have q9 := (hSw.cell (p := ⟨w.heap.size, 9, none⟩) hlta).trans Hxa9.out
    clear hSw
    go_simp
    with_reducible rfl
  simp only [List.setIfInBounds_toArray, List.set_cons_zero, List.set_cons_succ]
  refine wpAnyH_ready (rs := [21]) (by kernel_rfl) (by simp) ?_
  refine AllReadyH.cons rfl (fun K hK => ?_) AllReadyH.nil
  go_simp
  go_wp2_with (go_at_call 11; refine (G4.out _ (by exact hHeld)).mono ?_; rintro e wb ⟨rfl, b8⟩)
  refine hK.out _ _ (b8) (fun hHeld => ?_)
  clear hK K
  refine wpAnyH_ready (rs := [23]) (by kernel_rfl) (by simp) ?_
  refine AllReadyH.cons rfl (fun K hK => ?_) AllReadyH.nil
  go_simp
  go_wp2_with (go_at_call 18; refine (K4.out _ (by exact hHeld)).mono ?_; rintro e wb ⟨rfl, b8⟩)
  refine hK.out _ _ (b8) (fun hHeld => ?_)
  clear hK K
  refine held_take (i := 24) (d := 88) (v := ?v125) rfl rfl (by kernel_rfl) (by kernel_rfl) (by kernel_rfl) (fun _ _ _ h => h) (Or.inl ⟨by kernel_rfl, ?hy125⟩) hHeld ?rest125
  case hy125 =>
    intro wx hSw
    clear hSw
    go_simp
    with_reducible rfl
  simp only [List.setIfInBounds_toArray, List.set_cons_zero, List.set_cons_succ]
  refine held_take (i := 25) (d := 89) (v := ?v126) rfl rfl (by kernel_rfl) (by kernel_rfl) (by kernel_rfl) (fun _ _ _ h => h) (Or.inl ⟨by kernel_rfl, ?hy126⟩) hHeld ?rest126
  case hy126 =>
    intro wx hSw
    clear hSw
    go_simp
    with_reducible rfl
  simp only [List.setIfInBounds_toArray, List.set_cons_zero, List.set_cons_succ]
  refine held_take (i := 26) (d := 90) (v := ?v127) rfl rfl (by kernel_rfl) (by kernel_rfl) (by kernel_rfl) (fun _ _ _ h => h) (Or.inl ⟨by kernel_rfl, ?hy127⟩) hHeld ?rest127
  case hy127 =>
    intro wx hSw
    clear hSw
    go_simp
    with_reducible rfl
  simp only [List.setIfInBounds_toArray, List.set_cons_zero, List.set_cons_succ]
  refine held_take (i := 27) (d := 91) (v := ?v128) rfl rfl (by kernel_rfl) (by kernel_rfl) (by kernel_rfl) (fun _ _ _ h => h) (Or.inl ⟨by kernel_rfl, ?hy128⟩) hHeld ?rest128
  case hy128 =>
    intro wx hSw
    have q0 := (hSw.cell (p := ⟨w.heap.size, 0, none⟩) hlta).trans Hxa0.out
    have q1 := (hSw.cell (p := ⟨w.heap.size, 1, none⟩) hlta).trans Hxa1.out
    have q2 := (hSw.cell (p := ⟨w.heap.size, 2, none⟩) hlta).trans Hxa2.out
    have q3 := (hSw.cell (p := ⟨w.heap.size, 3, none⟩) hlta).trans Hxa3.out
    have q4 := (hSw.cell (p := ⟨w.heap.size, 4, none⟩) hlta).trans Hxa4.out
    have q5 := (hSw.cell (p := ⟨w.heap.size, 5, none⟩) hlta).trans Hxa5.out
    have q6 := (hSw.cell (p := ⟨w.heap.size, 6, none⟩) hlta).trans Hxa6.out
    have q7 := (hSw.cell (p := ⟨w.heap.size, 7, none⟩) hlta).trans Hxa7.out
    have q8 := (hSw.cell (p := ⟨w.heap.size, 8, none⟩) hlta).trans Hxa8.out
    have q9 := (hSw.cell (p := ⟨w.heap.size, 9, none⟩) hlta).trans Hxa9.out
    clear hSw
    go_simp
    with_reducible rfl
  simp only [List.setIfInBounds_toArray, List.set_cons_zero, List.set_cons_succ]
  refine held_take (i := 28) (d := 92) (v := ?v129) rfl rfl (by kernel_rfl) (by kernel_rfl) (by kernel_rfl) (fun _ _ _ h => h) (Or.inl ⟨by kernel_rfl, ?hy129⟩) hHeld ?rest129
  case hy129 =>
    intro wx hSw
    clear hSw
    go_simp
    with_reducible rfl
  simp only [List.setIfInBounds_toArray, List.set_cons_zero, List.set_cons_succ]
  refine held_take (i := 30) (d := 94) (v := ?v130) rfl rfl (by kernel_rfl) (by kernel_rfl) (by kernel_rfl) (fun _ _ _ h => h) (Or.inl ⟨by kernel_rfl, ?hy130⟩) hHeld ?rest130
  case hy130 =>
    intro wx hSw
    clear hSw
    go_simp
    with_reducible rfl
  simp only [List.setIfInBounds_toArray, List.set_cons_zero, List.set_cons_succ]
  refine wpAnyH_ready (rs := [29]) (by kernel_rfl) (by simp) ?_
  refine AllReadyH.cons rfl (fun K hK => ?_) AllReadyH.nil
  go_simp
  go_wp2_with (go_at_call 12; refine (G5.out _ (by exact hHeld)).mono ?_; rintro e wb ⟨rfl, b8⟩)
  refine hK.out _ _ (b8) (fun hHeld => ?_)
  clear hK K
  refine held_take (i := 31) (d := 95) (v := ?v131) rfl rfl (by kernel_rfl) (by kernel_rfl) (by kernel_rfl) (fun _ _ _ h => h) (Or.inl ⟨by kernel_rfl, ?hy131⟩) hHeld ?rest131
  case hy131 =>
    intro wx hSw
    clear hSw
    go_simp
    with_reducible rfl
  simp only [List.setIfInBounds_toArray, List.set_cons_zero, List.set_cons_succ]
  refine held_take (i := 32) (d := 96) (v := ?v132) rfl rfl (by kernel_rfl) (by kernel_rfl) (by kernel_rfl) (fun _ _ _ h => h) (Or.inl ⟨by kernel_rfl, ?hy132⟩) hHeld ?rest132
  case hy132 =>
    intro wx hSw
    clear hSw
    go_simp
    with_reducible rfl
  simp only [List.setIfInBounds_toArray, List.set_cons_zero, List.set_cons_succ]
  refine held_take (i := 33) (d := 97) (v := ?v133) rfl rfl (by kernel_rfl) (by kernel_rfl) (by kernel_rfl) (fun _ _ _ h => h) (Or.inl ⟨by kernel_rfl, ?hy133⟩) hHeld ?rest133
  case hy133 =>
    intro wx hSw
    clear hSw
    go_simp
    with_reducible rfl
  simp only [List.setIfInBounds_toArray, List.set_cons_zero, List.set_cons_succ]
  refine wpAnyH_ready (rs := [34]) (by kernel_rfl) (by simp) ?_
  refine AllReadyH.cons rfl (fun K hK => ?_) AllReadyH.nil
  go_simp
  go_wp2_with (go_at_call 13; refine (HWK.out _ (by exact hHeld)).mono ?_; rintro e wb ⟨rfl, b8⟩)
  refine hK.out _ _ (b8) (fun hHeld => ?_)
  clear hK K
  refine held_take (i := 35) (d := 99) (v := ?v134) rfl rfl (by kernel_rfl) (by kernel_rfl) (by kernel_rfl) (fun _ _ _ h => h) (Or.inl ⟨by kernel_rfl, ?hy134⟩) hHeld ?rest134
  case hy134 =>
    intro wx hSw
    clear hSw
    go_simp
    with_reducible rfl
  simp only [List.setIfInBounds_toArray, List.set_cons_zero, List.set_cons_succ]
  refine wpAnyH_ready (rs := [36]) (by kernel_rfl) (by simp) ?_
  refine AllReadyH.cons rfl (fun K hK => ?_) AllReadyH.nil
  go_simp
  refine hK.out _ _ hHeld (fun hHeld => ?_)
  clear hK K
  refine wpAnyH_done (by kernel_rfl) ?_ _
  go_wp2
  go_ret
  exact ⟨rfl, bb.trans (hHeld.mono bb.size)⟩

/-- The law, of whatever configuration and number. -/
theorem confExact_walk (c : Cfg) (n : Int) (w : World) :
    Calls Try.prog 3 #[.agg #[.int .i64 c.cB, .int .i64 c.cBeam, .int .i64 c.cDepth, .int .i64 c.cWin, .int .i64 c.cQs, .int .i64 c.cQr, .int .i64 c.cBatch, .int .i64 c.cPass, .int .i64 c.cMsg, .int .i64 c.cSeqs], .int .i64 n] w fun e w' => e = .returned (.bool true) ∧ Below w.heap.size w w' := by
  cases hA : okC c with
  | false => exact confExact_no c n hA w
  | true => exact confExact_ok c n hA w

end Go.Proofs.Ytnhmdhbemlpjnaa
