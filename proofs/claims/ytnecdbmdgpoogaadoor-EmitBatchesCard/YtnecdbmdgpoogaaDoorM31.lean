/-
  The laws' own guard over emit (wakes) answers true; what lay lies as it lay. (Written by tpl_emitwakes.py.)
-/
import Derived.Test.YtnecdbmdgpoogaaDoorM07
import Derived.Test.YtnecdbmdgpoogaaDoorM11
import Derived.Test.YtnecdbmdgpoogaaDoorM22
import Derived.Test.YtnecdbmdgpoogaaDoorM30
import Derived.Deep.Cut
import Derived.Deep.CutRange
import Derived.Deep.DeepCutAuto
import Derived.Deep.OwnRows
import Derived.Laws.BytesArg
namespace Go.Proofs.YtnecdbmdgpoogaaDoor
open Go.RowKit

theorem box_set5 {W : World} {B : Nat} {t : TypeId} {x y z u v : Value} (h : Box W B t #[x, y, z, u, v]) (x' y' z' u' v' : Value) : Box (((((W.setCell ⟨B, 0, none⟩ x').setCell ⟨B, 1, none⟩ y').setCell ⟨B, 2, none⟩ z').setCell ⟨B, 3, none⟩ u').setCell ⟨B, 4, none⟩ v') B t #[x', y', z', u', v'] := ((((h.set 0 x').set 1 y').set 2 z').set 3 u').set 4 v'
/-- A store of five cells into another block. -/
theorem row_set5x {w : World} {base D : Nat} {e : TypeId} {v : Value} {n : Nat} {xs : List Value} (h : w.ownsRow base e 1 v n xs) (hD : ∀ g, v.ownBlock = some g → g ≠ D) (x y z u t : Value) : (((((w.setCell ⟨D, 0, none⟩ x).setCell ⟨D, 1, none⟩ y).setCell ⟨D, 2, none⟩ z).setCell ⟨D, 3, none⟩ u).setCell ⟨D, 4, none⟩ t).ownsRow base e 1 v n xs :=
  row_same h fun g hg => by
    have hne : ∀ i, g ≠ (⟨D, i, none⟩ : Addr).block := fun i => hD g hg
    rw [Below.heap_setCell _ _ _ _ (hne 4), Below.heap_setCell _ _ _ _ (hne 3), Below.heap_setCell _ _ _ _ (hne 2), Below.heap_setCell _ _ _ _ (hne 1), Below.heap_setCell _ _ _ _ (hne 0)]

theorem made_row11 (w : World) : (w.alloc (.cells (madeCells #[.int .u8 0] 11) 5)).ownsRow 0 5 1 (.slice (some ⟨w.heap.size, 0, none⟩) 11 11) 11 ((List.replicate 11 (0 : Int)).map (Value.int .u8)) := by
  refine ⟨by simp, .inr ⟨w.heap.size, 11, madeCells #[.int .u8 0] 11, rfl, Nat.zero_le _, World.alloc_heap_new w _, Nat.le_refl _, by unfold maxLen; omega, by simp [size_madeCells], by rw [toList_madeCells_one]; simp⟩⟩

set_option maxRecDepth 100000 in
set_option maxHeartbeats 4000000 in
theorem emitWakes_any (w : World) (hF : Firsts w) : Calls Tryd.prog 13 #[] w fun e w' => e = .returned (.bool true) ∧ Below w.heap.size w w' := by
  have HN : Hid (∀ (wx : World) (a : Option Addr), Holds .u8 wx.heap.size wx (.slice a 11 11) (List.replicate 11 0) → Calls Tryd.prog 7 #[.agg #[.int .i64 1, .int .i64 1, .int .i64 1, .int .i64 1, .int .i64 1, .int .i64 1, .int .i64 4, .int .i64 4, .int .i64 0, .int .i64 0], .int .i64 0, .slice a 11 11] wx fun e W' => ∃ ra rc, e = .returned (.tuple #[.agg #[.int .i64 0, .int .i64 0, .int .i64 0, .bool false, .slice ra 11 rc], .int .i64 0]) ∧ W'.ownsRow wx.heap.size 5 1 (.slice ra 11 rc) 11 ((List.replicate 11 (0 : Int)).map (Value.int .u8)) ∧ Below wx.heap.size wx W') := fun wx a hx =>
    EmitNew_ok (Cfg.mk 1 1 1 1 1 1 4 4 0 0) 0 a 11 11 (by decide) (List.replicate 11 0) (by decide) (by decide) wx hx
  have HT : Hid (∀ (wx : World) (ra : Option Addr) (rc : Nat), Firsts wx → Holds .u8 wx.heap.size wx (.slice ra 11 rc) (List.replicate 11 0) → Calls Tryd.prog 9 #[.agg #[.int .i64 1, .int .i64 1, .int .i64 1, .int .i64 1, .int .i64 1, .int .i64 1, .int .i64 4, .int .i64 4, .int .i64 0, .int .i64 0], .agg #[.int .i64 0, .int .i64 0, .int .i64 0, .bool false, .slice ra 11 rc]] wx fun e W' => ∃ ya yc qa qc, e = .returned (.tuple #[.agg #[.int .i64 0, .int .i64 0, .int .i64 4, .bool false, .slice ya 11 yc], .slice qa 15 qc, .int .i64 0]) ∧ Below wx.heap.size wx W') := fun wx ra rc hf hx => by
    have := EmitTick_go (Cfg.mk 1 1 1 1 1 1 4 4 0 0) 0 0 0 ra 11 rc (by decide) (List.replicate 11 0) (by decide) (by decide) wx hf hx
    rw [show emR (Cfg.mk 1 1 1 1 1 1 4 4 0 0) 0 0 = 0 by decide, show emF (Cfg.mk 1 1 1 1 1 1 4 4 0 0) 0 + emN (Cfg.mk 1 1 1 1 1 1 4 4 0 0) 0 = 4 by decide, show (emN (Cfg.mk 1 1 1 1 1 1 4 4 0 0) 0).toNat = 4 by decide] at this
    exact this.mono fun e W' ⟨ya, yc, qa, qc, he, _, _, _, b⟩ => ⟨ya, yc, qa, qc, he, b⟩
  have hmk : ∀ w : World, (Instr.makeSlice 24 (.int .i64 11) (.int .i64 11)).run Tryd.prog w = .ok (.slice (some ⟨w.heap.size, 0, none⟩) 11 11) (w.alloc (.cells (madeCells #[.int .u8 0] 11) 5)) := run_make_row' (P := Tryd.prog) 24 5 (.int .u8 0) 1 Tryd.underlying24 infoU8 rfl .i64 .i64 11 (by decide) (by decide)
  have bb := (Below.refl w.heap.size w).alloc (Nat.le_refl _) (.cells #[.int .i64 1, .int .i64 1, .int .i64 1, .int .i64 1, .int .i64 1, .int .i64 1, .int .i64 4, .int .i64 4, .int .i64 0, .int .i64 0] 23)
  have xa := Box.new w 23 #[.int .i64 1, .int .i64 1, .int .i64 1, .int .i64 1, .int .i64 1, .int .i64 1, .int .i64 4, .int .i64 4, .int .i64 0, .int .i64 0]
  replace hF := hF.next bb
  go_enter Tryd.func13, Tryd.ntmps13
  go_wp2
  obtain ⟨W1, hW1⟩ : ∃ W, w.alloc (.cells #[.int .i64 1, .int .i64 1, .int .i64 1, .int .i64 1, .int .i64 1, .int .i64 1, .int .i64 4, .int .i64 4, .int .i64 0, .int .i64 0] 23) = W := ⟨_, rfl⟩
  rw [hW1] at bb xa hF ⊢
  clear hW1
  obtain ⟨n1, hn1⟩ : ∃ n, W1.heap.size = n := ⟨_, rfl⟩
  have hlt1 : w.heap.size < n1 := hn1 ▸ xa.lt
  have k0 := xa.cell 0 _ rfl
  have k1 := xa.cell 1 _ rfl
  have k2 := xa.cell 2 _ rfl
  have k3 := xa.cell 3 _ rfl
  have k4 := xa.cell 4 _ rfl
  have k5 := xa.cell 5 _ rfl
  have k6 := xa.cell 6 _ rfl
  have k7 := xa.cell 7 _ rfl
  have k8 := xa.cell 8 _ rfl
  have k9 := xa.cell 9 _ rfl
  go_cut [2, 3] (fun v vf wx => ∃ B ra rc, v = .pointer (some ⟨B, 0, none⟩) ∧ vf = .int .i64 0 ∧ Box wx B 26 #[.int .i64 0, .int .i64 0, .int .i64 0, .bool false, .slice ra 11 rc] ∧ Holds .u8 wx.heap.size wx (.slice ra 11 rc) (List.replicate 11 0) ∧ Below n1 W1 wx)
  case first =>
    have hS : Below n1 W1 W1.drew := hn1 ▸ (Below.refl _ _).drew
    refine wp_region_held_drew (S := fun w' => Below n1 W1 w') (by kernel_rfl) (hS) (fun hHeld => ?_)
    generalize W1.drew = wk0 at *
    refine held_take (i := 0) (d := 9) (v := ?v1) rfl rfl (by kernel_rfl) (by kernel_rfl) (by kernel_rfl) (fun _ _ _ h => h) (Or.inl ⟨by kernel_rfl, ?hy1⟩) hHeld ?rest1
    case hy1 =>
      intro wx hSw
      have q0 := (hSw.cell (p := ⟨w.heap.size, 0, none⟩) hlt1).trans k0
      have q1 := (hSw.cell (p := ⟨w.heap.size, 1, none⟩) hlt1).trans k1
      have q2 := (hSw.cell (p := ⟨w.heap.size, 2, none⟩) hlt1).trans k2
      have q3 := (hSw.cell (p := ⟨w.heap.size, 3, none⟩) hlt1).trans k3
      have q4 := (hSw.cell (p := ⟨w.heap.size, 4, none⟩) hlt1).trans k4
      have q5 := (hSw.cell (p := ⟨w.heap.size, 5, none⟩) hlt1).trans k5
      have q6 := (hSw.cell (p := ⟨w.heap.size, 6, none⟩) hlt1).trans k6
      have q7 := (hSw.cell (p := ⟨w.heap.size, 7, none⟩) hlt1).trans k7
      have q8 := (hSw.cell (p := ⟨w.heap.size, 8, none⟩) hlt1).trans k8
      have q9 := (hSw.cell (p := ⟨w.heap.size, 9, none⟩) hlt1).trans k9
      clear hSw
      go_simp
      with_reducible rfl
    simp only [List.setIfInBounds_toArray, List.set_cons_zero, List.set_cons_succ]
    refine wpAnyH_ready (rs := [1, 6]) (by kernel_rfl) (by simp) ?_
    refine AllReadyH.cons rfl (fun K hK => ?_) ?_
    · go_simp
      have oM : (wk0.alloc (.cells (madeCells #[.int .u8 0] 11) 5)).ownsRow 0 5 1 (.slice (some ⟨wk0.heap.size, 0, none⟩) 11 11) 11 ((List.replicate 11 (0 : Int)).map (Value.int .u8)) := made_row11 wk0
      have bA : Below wk0.heap.size wk0 (wk0.alloc (.cells (madeCells #[.int .u8 0] 11) 5)) := (Below.refl _ _).alloc (Nat.le_refl _) _
      replace hS := hS.trans (bA.mono (by have := hS.size; omega))
      clear bA
      generalize (wk0.alloc (.cells (madeCells #[.int .u8 0] 11) 5)) = wk1 at *
      refine hK.out _ _ (hS) (fun hHeld => ?_)
      clear hK K
      refine wpAnyH_ready (rs := [2, 6]) (by kernel_rfl) (by simp) ?_
      refine AllReadyH.cons rfl (fun K hK => ?_) ?_
      · go_simp
        go_wp2_with (go_at_call 7; refine (HN.out _ _ (by exact holds_of_row oM)).mono ?_; rintro e wk2 ⟨ra, rc, rfl, oR, b8⟩)
        replace hS := hS.trans (b8.mono (by have := hS.size; omega))
        clear b8 oM
        refine hK.out _ _ (hS) (fun hHeld => ?_)
        clear hK K
        refine held_take (i := 3) (d := 8) (v := ?v2) rfl rfl (by kernel_rfl) (by kernel_rfl) (by kernel_rfl) (fun _ _ _ h => h) (Or.inl ⟨by kernel_rfl, ?hy2⟩) hHeld ?rest2
        case hy2 =>
          intro wx hSw
          clear hSw
          go_simp
          with_reducible rfl
        simp only [List.setIfInBounds_toArray, List.set_cons_zero, List.set_cons_succ]
        refine held_take (i := 4) (d := 12) (v := ?v3) rfl rfl (by kernel_rfl) (by kernel_rfl) (by kernel_rfl) (fun _ _ _ h => h) (Or.inl ⟨by kernel_rfl, ?hy3⟩) hHeld ?rest3
        case hy3 =>
          intro wx hSw
          clear hSw
          go_simp
          with_reducible rfl
        simp only [List.setIfInBounds_toArray, List.set_cons_zero, List.set_cons_succ]
        refine held_take (i := 5) (d := 13) (v := ?v4) rfl rfl (by kernel_rfl) (by kernel_rfl) (by kernel_rfl) (fun _ _ _ h => h) (Or.inl ⟨by kernel_rfl, ?hy4⟩) hHeld ?rest4
        case hy4 =>
          intro wx hSw
          clear hSw
          go_simp
          with_reducible rfl
        simp only [List.setIfInBounds_toArray, List.set_cons_zero, List.set_cons_succ]
        refine wpAnyH_ready (rs := [6]) (by kernel_rfl) (by simp) ?_
        refine AllReadyH.cons rfl (fun K hK => ?_) AllReadyH.nil
        go_simp
        have xB := Box.new wk2 26 #[.int .i64 0, .int .i64 0, .int .i64 0, .bool false, .slice none 0 0]
        have bA : Below wk2.heap.size wk2 (wk2.alloc (.cells #[.int .i64 0, .int .i64 0, .int .i64 0, .bool false, .slice none 0 0] 26)) := (Below.refl _ _).alloc (Nat.le_refl _) _
        have oR0 := oR
        replace oR := row_below oR bA (Nat.le_refl _)
        have hlR : ∀ g, (Value.slice ra 11 rc).ownBlock = some g → g ≠ wk2.heap.size := fun g e h => by have := oR0.lt g e; omega
        have hSB : n1 ≤ wk2.heap.size := by have := hS.size; omega
        replace hS := hS.trans (bA.mono (by have := hS.size; omega))
        clear bA
        generalize (wk2.alloc (.cells #[.int .i64 0, .int .i64 0, .int .i64 0, .bool false, .slice none 0 0] 26)) = wk3 at *
        refine hK.out _ _ (hS) (fun hHeld => ?_)
        clear hK K
        refine wpAnyH_ready (rs := [7]) (by kernel_rfl) (by simp) ?_
        refine AllReadyH.cons rfl (fun K hK => ?_) AllReadyH.nil
        have y0 := xB.cell 0 _ rfl
        have y1 := xB.cell 1 _ rfl
        have y2 := xB.cell 2 _ rfl
        have y3 := xB.cell 3 _ rfl
        have y4 := xB.cell 4 _ rfl
        have g0 := xB.free 0
        have g1 := xB.free 1
        have g2 := xB.free 2
        have g3 := xB.free 3
        have g4 := xB.free 4
        have hBn : n1 ≤ wk2.heap.size := by have := hSB; omega
        have oZ := row_set5x oR hlR (.int .i64 0) (.int .i64 0) (.int .i64 0) (.bool false) (.slice ra 11 rc)
        go_simp
        refine hK.out _ _ (below_set5 hS hBn _ _ _ _ _) (fun hHeld => ?_)
        clear hK K
        refine wpAnyH_ready (rs := [8]) (by kernel_rfl) (by simp) ?_
        refine AllReadyH.cons rfl (fun K hK => ?_) AllReadyH.nil
        go_simp
        refine hK.out _ _ hHeld (fun hHeld => ?_)
        clear hK K
        refine wpAnyH_done (by kernel_rfl) ?_ _
        go_wp2_with fail
        go_meet
        exact ⟨_, ra, rc, rfl, rfl, box_set5 xB _ _ _ _ _, holds_of_row oZ, hHeld⟩
      refine AllReadyH.cons rfl (fun K hK => ?_) ?_
      · go_simp
        have xB := Box.new wk1 26 #[.int .i64 0, .int .i64 0, .int .i64 0, .bool false, .slice none 0 0]
        have bA : Below wk1.heap.size wk1 (wk1.alloc (.cells #[.int .i64 0, .int .i64 0, .int .i64 0, .bool false, .slice none 0 0] 26)) := (Below.refl _ _).alloc (Nat.le_refl _) _
        replace oM := row_below oM bA (Nat.le_refl _)
        have hSB : n1 ≤ wk1.heap.size := by have := hS.size; omega
        replace hS := hS.trans (bA.mono (by have := hS.size; omega))
        clear bA
        generalize (wk1.alloc (.cells #[.int .i64 0, .int .i64 0, .int .i64 0, .bool false, .slice none 0 0] 26)) = wk2 at *
        refine hK.out _ _ (hS) (fun hHeld => ?_)
        clear hK K
        refine wpAnyH_ready (rs := [2]) (by kernel_rfl) (by simp) ?_
        refine AllReadyH.cons rfl (fun K hK => ?_) AllReadyH.nil
        go_simp
        go_wp2_with (go_at_call 7; refine (HN.out _ _ (by exact holds_of_row oM)).mono ?_; rintro e wk3 ⟨ra, rc, rfl, oR, b8⟩)
        have hsz8 : wk1.heap.size < wk2.heap.size := xB.lt
        replace xB := xB.next b8
        replace hS := hS.trans (b8.mono (by have := hS.size; omega))
        clear b8 oM
        refine hK.out _ _ (hS) (fun hHeld => ?_)
        clear hK K
        refine held_take (i := 3) (d := 8) (v := ?v5) rfl rfl (by kernel_rfl) (by kernel_rfl) (by kernel_rfl) (fun _ _ _ h => h) (Or.inl ⟨by kernel_rfl, ?hy5⟩) hHeld ?rest5
        case hy5 =>
          intro wx hSw
          clear hSw
          go_simp
          with_reducible rfl
        simp only [List.setIfInBounds_toArray, List.set_cons_zero, List.set_cons_succ]
        refine held_take (i := 4) (d := 12) (v := ?v6) rfl rfl (by kernel_rfl) (by kernel_rfl) (by kernel_rfl) (fun _ _ _ h => h) (Or.inl ⟨by kernel_rfl, ?hy6⟩) hHeld ?rest6
        case hy6 =>
          intro wx hSw
          clear hSw
          go_simp
          with_reducible rfl
        simp only [List.setIfInBounds_toArray, List.set_cons_zero, List.set_cons_succ]
        refine held_take (i := 5) (d := 13) (v := ?v7) rfl rfl (by kernel_rfl) (by kernel_rfl) (by kernel_rfl) (fun _ _ _ h => h) (Or.inl ⟨by kernel_rfl, ?hy7⟩) hHeld ?rest7
        case hy7 =>
          intro wx hSw
          clear hSw
          go_simp
          with_reducible rfl
        simp only [List.setIfInBounds_toArray, List.set_cons_zero, List.set_cons_succ]
        refine wpAnyH_ready (rs := [7]) (by kernel_rfl) (by simp) ?_
        refine AllReadyH.cons rfl (fun K hK => ?_) AllReadyH.nil
        have y0 := xB.cell 0 _ rfl
        have y1 := xB.cell 1 _ rfl
        have y2 := xB.cell 2 _ rfl
        have y3 := xB.cell 3 _ rfl
        have y4 := xB.cell 4 _ rfl
        have g0 := xB.free 0
        have g1 := xB.free 1
        have g2 := xB.free 2
        have g3 := xB.free 3
        have g4 := xB.free 4
        have hBn : n1 ≤ wk1.heap.size := by have := hSB; omega
        have oR2 : wk3.ownsRow (wk1.heap.size + 1) 5 1 (.slice ra 11 rc) 11 ((List.replicate 11 (0 : Int)).map (Value.int .u8)) := row_base oR (by omega)
        have oZ := row_set5 oR2 (D := wk1.heap.size) (Nat.lt_succ_self _) (.int .i64 0) (.int .i64 0) (.int .i64 0) (.bool false) (.slice ra 11 rc)
        go_simp
        refine hK.out _ _ (below_set5 hS hBn _ _ _ _ _) (fun hHeld => ?_)
        clear hK K
        refine wpAnyH_ready (rs := [8]) (by kernel_rfl) (by simp) ?_
        refine AllReadyH.cons rfl (fun K hK => ?_) AllReadyH.nil
        go_simp
        refine hK.out _ _ hHeld (fun hHeld => ?_)
        clear hK K
        refine wpAnyH_done (by kernel_rfl) ?_ _
        go_wp2_with fail
        go_meet
        exact ⟨_, ra, rc, rfl, rfl, box_set5 xB _ _ _ _ _, holds_of_row oZ, hHeld⟩
      exact AllReadyH.nil
    refine AllReadyH.cons rfl (fun K hK => ?_) ?_
    · go_simp
      have xB := Box.new wk0 26 #[.int .i64 0, .int .i64 0, .int .i64 0, .bool false, .slice none 0 0]
      have bA : Below wk0.heap.size wk0 (wk0.alloc (.cells #[.int .i64 0, .int .i64 0, .int .i64 0, .bool false, .slice none 0 0] 26)) := (Below.refl _ _).alloc (Nat.le_refl _) _
      have hSB : n1 ≤ wk0.heap.size := by have := hS.size; omega
      replace hS := hS.trans (bA.mono (by have := hS.size; omega))
      clear bA
      generalize (wk0.alloc (.cells #[.int .i64 0, .int .i64 0, .int .i64 0, .bool false, .slice none 0 0] 26)) = wk1 at *
      refine hK.out _ _ (hS) (fun hHeld => ?_)
      clear hK K
      refine wpAnyH_ready (rs := [1]) (by kernel_rfl) (by simp) ?_
      refine AllReadyH.cons rfl (fun K hK => ?_) AllReadyH.nil
      go_simp
      have oM : (wk1.alloc (.cells (madeCells #[.int .u8 0] 11) 5)).ownsRow 0 5 1 (.slice (some ⟨wk1.heap.size, 0, none⟩) 11 11) 11 ((List.replicate 11 (0 : Int)).map (Value.int .u8)) := made_row11 wk1
      have bA : Below wk1.heap.size wk1 (wk1.alloc (.cells (madeCells #[.int .u8 0] 11) 5)) := (Below.refl _ _).alloc (Nat.le_refl _) _
      replace xB := xB.next bA
      replace hS := hS.trans (bA.mono (by have := hS.size; omega))
      clear bA
      generalize (wk1.alloc (.cells (madeCells #[.int .u8 0] 11) 5)) = wk2 at *
      refine hK.out _ _ (hS) (fun hHeld => ?_)
      clear hK K
      refine wpAnyH_ready (rs := [2]) (by kernel_rfl) (by simp) ?_
      refine AllReadyH.cons rfl (fun K hK => ?_) AllReadyH.nil
      go_simp
      go_wp2_with (go_at_call 7; refine (HN.out _ _ (by exact holds_of_row oM)).mono ?_; rintro e wk3 ⟨ra, rc, rfl, oR, b8⟩)
      have hsz8 : wk0.heap.size < wk2.heap.size := xB.lt
      replace xB := xB.next b8
      replace hS := hS.trans (b8.mono (by have := hS.size; omega))
      clear b8 oM
      refine hK.out _ _ (hS) (fun hHeld => ?_)
      clear hK K
      refine held_take (i := 3) (d := 8) (v := ?v8) rfl rfl (by kernel_rfl) (by kernel_rfl) (by kernel_rfl) (fun _ _ _ h => h) (Or.inl ⟨by kernel_rfl, ?hy8⟩) hHeld ?rest8
      case hy8 =>
        intro wx hSw
        clear hSw
        go_simp
        with_reducible rfl
      simp only [List.setIfInBounds_toArray, List.set_cons_zero, List.set_cons_succ]
      refine held_take (i := 4) (d := 12) (v := ?v9) rfl rfl (by kernel_rfl) (by kernel_rfl) (by kernel_rfl) (fun _ _ _ h => h) (Or.inl ⟨by kernel_rfl, ?hy9⟩) hHeld ?rest9
      case hy9 =>
        intro wx hSw
        clear hSw
        go_simp
        with_reducible rfl
      simp only [List.setIfInBounds_toArray, List.set_cons_zero, List.set_cons_succ]
      refine held_take (i := 5) (d := 13) (v := ?v10) rfl rfl (by kernel_rfl) (by kernel_rfl) (by kernel_rfl) (fun _ _ _ h => h) (Or.inl ⟨by kernel_rfl, ?hy10⟩) hHeld ?rest10
      case hy10 =>
        intro wx hSw
        clear hSw
        go_simp
        with_reducible rfl
      simp only [List.setIfInBounds_toArray, List.set_cons_zero, List.set_cons_succ]
      refine wpAnyH_ready (rs := [7]) (by kernel_rfl) (by simp) ?_
      refine AllReadyH.cons rfl (fun K hK => ?_) AllReadyH.nil
      have y0 := xB.cell 0 _ rfl
      have y1 := xB.cell 1 _ rfl
      have y2 := xB.cell 2 _ rfl
      have y3 := xB.cell 3 _ rfl
      have y4 := xB.cell 4 _ rfl
      have g0 := xB.free 0
      have g1 := xB.free 1
      have g2 := xB.free 2
      have g3 := xB.free 3
      have g4 := xB.free 4
      have hBn : n1 ≤ wk0.heap.size := by have := hSB; omega
      have oR2 : wk3.ownsRow (wk0.heap.size + 1) 5 1 (.slice ra 11 rc) 11 ((List.replicate 11 (0 : Int)).map (Value.int .u8)) := row_base oR (by omega)
      have oZ := row_set5 oR2 (D := wk0.heap.size) (Nat.lt_succ_self _) (.int .i64 0) (.int .i64 0) (.int .i64 0) (.bool false) (.slice ra 11 rc)
      go_simp
      refine hK.out _ _ (below_set5 hS hBn _ _ _ _ _) (fun hHeld => ?_)
      clear hK K
      refine wpAnyH_ready (rs := [8]) (by kernel_rfl) (by simp) ?_
      refine AllReadyH.cons rfl (fun K hK => ?_) AllReadyH.nil
      go_simp
      refine hK.out _ _ hHeld (fun hHeld => ?_)
      clear hK K
      refine wpAnyH_done (by kernel_rfl) ?_ _
      go_wp2_with fail
      go_meet
      exact ⟨_, ra, rc, rfl, rfl, box_set5 xB _ _ _ _ _, holds_of_row oZ, hHeld⟩
    exact AllReadyH.nil
  case rest =>
    obtain ⟨B, ra, rc, rfl, rfl, xb, hb, b9⟩ := hcut
    replace b9 : Below W1.heap.size W1 wc := hn1 ▸ b9
    replace xa := xa.next b9
    replace hF := hF.next b9
    replace bb := bb.trans (b9.mono bb.size)
    have HTK := HT.out wc ra rc hF hb
    clear b9 HN HT hmk k0 k1 k2 k3 k4 k5 k6 k7 k8 k9
    have k0 := xa.cell 0 _ rfl
    have k1 := xa.cell 1 _ rfl
    have k2 := xa.cell 2 _ rfl
    have k3 := xa.cell 3 _ rfl
    have k4 := xa.cell 4 _ rfl
    have k5 := xa.cell 5 _ rfl
    have k6 := xa.cell 6 _ rfl
    have k7 := xa.cell 7 _ rfl
    have k8 := xa.cell 8 _ rfl
    have k9 := xa.cell 9 _ rfl
    have z0 := xb.cell 0 _ rfl
    have z1 := xb.cell 1 _ rfl
    have z2 := xb.cell 2 _ rfl
    have z3 := xb.cell 3 _ rfl
    have z4 := xb.cell 4 _ rfl
    go_wp2_with fail
    refine HTK.mono ?_
    rintro e w2 ⟨ya, yc, qa, qc, rfl, b9⟩
    have b10 : Below w.heap.size w (w2.alloc (.cells #[.int .i64 0, .int .i64 0, .int .i64 4, .bool false, .slice ya 11 yc] 26)) := (bb.trans (b9.mono bb.size)).alloc (by have := bb.size; have := b9.size; omega) _
    clear HTK k0 k1 k2 k3 k4 k5 k6 k7 k8 k9 z0 z1 z2 z3 z4
    go_wp2
    go_ret
    exact ⟨rfl, b10⟩

end Go.Proofs.YtnecdbmdgpoogaaDoor

/-
  EmitRounds: the walk: whatever the configuration and the block, the law answers true, and nothing that lay has turned. (Written by tpl_emitrounds.py.)
-/
namespace Go.Proofs.YtnecdbmdgpoogaaDoor
open Go.RowKit

set_option maxRecDepth 100000 in
set_option maxHeartbeats 8000000 in
theorem emitRounds_ok (c : Cfg) (hC : okC c = true) (s rd : Int) (a : Option Addr) (n cap : Nat) (zs : List Int) (hn : zs.length = n) (bz : ∀ z ∈ zs, 0 ≤ z ∧ z ≤ 255) (h10 : (n : Int) = c.cB + 10) (hs0 : 0 ≤ s) (hs1 : s < 1073741824) (w : World) (hF : Firsts w) (ha : Holds .u8 w.heap.size w (.slice a n cap) zs) :
    Calls Tryd.prog 4 #[.agg #[.int .i64 c.cB, .int .i64 c.cBeam, .int .i64 c.cDepth, .int .i64 c.cWin, .int .i64 c.cQs, .int .i64 c.cQr, .int .i64 c.cBatch, .int .i64 c.cPass, .int .i64 c.cMsg, .int .i64 c.cSeqs], .int .i64 s, .int .i64 rd, .slice a n cap] w fun e w' => e = .returned (.bool true) ∧ Below w.heap.size w w' := by
  have hcb := ((okC_iff c).1 hC).1
  have hbt := ((okC_iff c).1 hC).2.2.2.2.2.2.1
  have hm := mostC_bd hC
  have hm2 := mostC_le hC h10
  have htk := ticksC_bd hC
  have HC : Hid (okC c = true) := hC
  have HN : Hid (zs.length = n) := hn
  have HB : Hid (∀ z ∈ zs, 0 ≤ z ∧ z ≤ 255) := bz
  have eW : IntKind.i64.wrap (c.cB + 10) = c.cB + 10 := by rw [IntKind.wrap_i64]; omega
  have d1 : ((n : Int) != c.cB + 10) = false := by rw [bne_eq_false_iff_eq]; exact h10
  have d2 : decide (s < 0) = false := decide_eq_false (by omega)
  have d3 : decide (1073741824 ≤ s) = false := decide_eq_false (by omega)
  have H10 : Hid ((n : Int) = c.cB + 10) := h10
  have hn32 : n ≤ 32 := by omega
  have hn1 : 1 ≤ n := by omega
  have bb := (Below.refl w.heap.size w).alloc (Nat.le_refl _) (.cells #[.int .i64 c.cB, .int .i64 c.cBeam, .int .i64 c.cDepth, .int .i64 c.cWin, .int .i64 c.cQs, .int .i64 c.cQr, .int .i64 c.cBatch, .int .i64 c.cPass, .int .i64 c.cMsg, .int .i64 c.cSeqs] 23)
  have xc := Box.new w 23 #[.int .i64 c.cB, .int .i64 c.cBeam, .int .i64 c.cDepth, .int .i64 c.cWin, .int .i64 c.cQs, .int .i64 c.cQr, .int .i64 c.cBatch, .int .i64 c.cPass, .int .i64 c.cMsg, .int .i64 c.cSeqs]
  have HF0 : Hid (Firsts w) := hF
  replace ha := ha.next bb
  replace hF := hF.next bb
  have HC1 := refConfig_any c (w.alloc (.cells #[.int .i64 c.cB, .int .i64 c.cBeam, .int .i64 c.cDepth, .int .i64 c.cWin, .int .i64 c.cQs, .int .i64 c.cQr, .int .i64 c.cBatch, .int .i64 c.cPass, .int .i64 c.cMsg, .int .i64 c.cSeqs] 23))
  rw [hC] at HC1
  clear hC h10 hn bz
  obtain ⟨R, hR, hR0, hR1⟩ := mod_u64 rd 256 (by decide) (by decide)
  go_enter Tryd.func4, Tryd.ntmps4
  have cxc0 := xc.cell 0 _ rfl
  have cxc1 := xc.cell 1 _ rfl
  have cxc2 := xc.cell 2 _ rfl
  have cxc3 := xc.cell 3 _ rfl
  have cxc4 := xc.cell 4 _ rfl
  have cxc5 := xc.cell 5 _ rfl
  have cxc6 := xc.cell 6 _ rfl
  have cxc7 := xc.cell 7 _ rfl
  have cxc8 := xc.cell 8 _ rfl
  have cxc9 := xc.cell 9 _ rfl
  go_wp2_with fail
  refine (HC1).mono ?_
  rintro e w2 ⟨rfl, b9⟩
  clear cxc0 cxc1 cxc2 cxc3 cxc4 cxc5 cxc6 cxc7 cxc8 cxc9
  replace xc := xc.next b9
  replace ha := ha.next b9
  replace hF := hF.next b9
  replace bb := bb.trans (b9.mono bb.size)
  clear b9
  clear HC1
  have cxc0 := xc.cell 0 _ rfl
  have cxc1 := xc.cell 1 _ rfl
  have cxc2 := xc.cell 2 _ rfl
  have cxc3 := xc.cell 3 _ rfl
  have cxc4 := xc.cell 4 _ rfl
  have cxc5 := xc.cell 5 _ rfl
  have cxc6 := xc.cell 6 _ rfl
  have cxc7 := xc.cell 7 _ rfl
  have cxc8 := xc.cell 8 _ rfl
  have cxc9 := xc.cell 9 _ rfl
  have lxc := xc.lt
  obtain ⟨M, hMe⟩ : ∃ M, mostC c = M := ⟨_, rfl⟩
  have HME : Hid (mostC c = M) := hMe
  rw [hMe] at hm hm2
  have b9 : Below w2.heap.size w2 (w2.alloc (.cells #[.int .i64 s, .int .i64 R, .int .i64 0, .bool false, .slice a n cap] 26)) := (Below.refl _ _).alloc (Nat.le_refl _) _
  have HC1 := ConfMost_any c (w2.alloc (.cells #[.int .i64 s, .int .i64 R, .int .i64 0, .bool false, .slice a n cap] 26))
  rw [show mostA c = M by unfold mostA; rw [if_pos HC.out, hMe]] at HC1
  go_wp2_with fail
  refine HC1.mono ?_
  rintro e w3 ⟨rfl, b8⟩
  clear cxc0 cxc1 cxc2 cxc3 cxc4 cxc5 cxc6 cxc7 cxc8 cxc9
  have xx := (Box.new w2 26 #[.int .i64 s, .int .i64 R, .int .i64 0, .bool false, .slice a n cap]).next b8
  replace b9 := b9.trans (b8.mono b9.size)
  replace xc := xc.next b9
  replace ha := ha.next b9
  replace hF := hF.next b9
  replace bb := bb.trans (b9.mono bb.size)
  clear b9 b8 HC1 hMe
  obtain ⟨MN, rfl⟩ := Int.eq_ofNat_of_zero_le (show 0 ≤ M by omega)
  have HC1 := Encode_row a n cap zs HN.out hn1 hn32 HB.out 0 MN (by omega) w3 hF ha
  go_wp2_with fail
  refine HC1.mono ?_
  rintro e w4 ⟨rv, rfl, oA, b9⟩
  clear HC1
  have hB3 : w2.heap.size < w3.heap.size := xx.lt
  replace xc := xc.next b9
  replace ha := ha.next b9
  replace hF := hF.next b9
  replace xx := xx.next b9
  replace bb := bb.trans (b9.mono bb.size)
  clear b9
  rcases id oA.2 with ⟨_, e0⟩ | ⟨gA, cA, curA, rfl, _, _, hcA, _, _, _⟩
  · omega
  have oall : OwnB w4 (w2.heap.size + 1) (.slice (some ⟨gA, 0, none⟩) MN cA) MN (codeL zs 0 MN) := row_base oA (by omega)
  clear oA hB3
  have HC1 := refMost_any c HC.out w4
  rw [HME.out] at HC1
  have dMM : ((MN : Int) != (MN : Int)) = false := by simp
  have cxc0 := xc.cell 0 _ rfl
  have cxc1 := xc.cell 1 _ rfl
  have cxc2 := xc.cell 2 _ rfl
  have cxc3 := xc.cell 3 _ rfl
  have cxc4 := xc.cell 4 _ rfl
  have cxc5 := xc.cell 5 _ rfl
  have cxc6 := xc.cell 6 _ rfl
  have cxc7 := xc.cell 7 _ rfl
  have cxc8 := xc.cell 8 _ rfl
  have cxc9 := xc.cell 9 _ rfl
  go_wp2_with fail
  refine (HC1).mono ?_
  rintro e w5 ⟨rfl, b9⟩
  clear cxc0 cxc1 cxc2 cxc3 cxc4 cxc5 cxc6 cxc7 cxc8 cxc9
  replace xc := xc.next b9
  replace ha := ha.next b9
  replace hF := hF.next b9
  replace xx := xx.next b9
  replace oall := oall.next b9
  replace bb := bb.trans (b9.mono bb.size)
  clear b9
  clear HC1
  obtain ⟨T, hTe⟩ : ∃ T : Nat, ticksC c = (T : Int) := ⟨(ticksC c).toNat, by omega⟩
  have HTE : Hid (ticksC c = (T : Int)) := hTe
  rw [hTe] at htk
  clear hTe
  obtain ⟨Bx, hBx⟩ : ∃ B, w2.heap.size = B := ⟨_, rfl⟩
  rw [hBx] at xx oall ⊢
  obtain ⟨D, hDe⟩ : ∃ D, w.heap.size = D := ⟨_, rfl⟩
  have HDE : Hid (w.heap.size = D) := hDe
  rw [hDe] at xc ⊢
  have hDB : D < Bx := by omega
  clear hBx lxc
  have HT0 : Hid (atE c 0 = 0) := atE_zero HC.out
  have HHF : Hid (Firsts w) := HF0.out
  go_wp2
  go_loopw [13, 14] (fun at_ i wr => ∃ j : Nat, j ≤ T ∧ i = .int .i64 (j : Int) ∧ at_ = .int .i64 (atE c j) ∧ ∃ ya yc, Box wr Bx 26 #[.int .i64 s, .int .i64 R, .int .i64 (atE c j), .bool false, .slice ya n yc] ∧ Holds .u8 wr.heap.size wr (.slice ya n yc) zs ∧ Box wr D 23 #[.int .i64 c.cB, .int .i64 c.cBeam, .int .i64 c.cDepth, .int .i64 c.cWin, .int .i64 c.cQs, .int .i64 c.cQr, .int .i64 c.cBatch, .int .i64 c.cPass, .int .i64 c.cMsg, .int .i64 c.cSeqs] ∧ OwnB wr (Bx + 1) (.slice (some ⟨gA, 0, none⟩) MN cA) MN (codeL zs 0 MN) ∧ Below w.heap.size w wr) (fun _ i _ => T - (intOf i).toNat)
  case atStart => exact ⟨0, Nat.zero_le _, rfl, by rw [HT0.out], a, cap, by rw [HT0.out]; exact xx, ha, xc, oall, bb⟩
  case round =>
    clear xx ha xc oall bb hF
    obtain ⟨j, hj, rfl, rfl, ya, yc, xx, hy, xc, oall, bb⟩ := hrel
    generalize wr = w20 at *
    have hF := HHF.out.next bb
    by_cases hlt : j < T
    · have hjT : (j : Int) < ticksC c := by rw [HTE.out]; omega
      have dj : decide ((j : Int) < (T : Int)) = true := decide_eq_true (by omega)
      have dj' : decide (j < T) = true := decide_eq_true hlt
      have HC1 := refTicks_any c HC.out w20
      rw [HTE.out] at HC1
      have cxc0 := xc.cell 0 _ rfl
      have cxc1 := xc.cell 1 _ rfl
      have cxc2 := xc.cell 2 _ rfl
      have cxc3 := xc.cell 3 _ rfl
      have cxc4 := xc.cell 4 _ rfl
      have cxc5 := xc.cell 5 _ rfl
      have cxc6 := xc.cell 6 _ rfl
      have cxc7 := xc.cell 7 _ rfl
      have cxc8 := xc.cell 8 _ rfl
      have cxc9 := xc.cell 9 _ rfl
      go_wp2_with fail
      refine (HC1).mono ?_
      rintro e w21 ⟨rfl, b9⟩
      clear cxc0 cxc1 cxc2 cxc3 cxc4 cxc5 cxc6 cxc7 cxc8 cxc9
      replace xx := xx.next b9
      replace hy := hy.next b9
      replace xc := xc.next b9
      replace oall := oall.next b9
      replace hF := hF.next b9
      replace bb := bb.trans (b9.mono bb.size)
      clear b9
      clear HC1
      have hE : errE c s R (atE c j) n = 0 := errE_zero.2 ⟨HC.out, (okE_iff _ _ _ _ _).2 ⟨H10.out, ⟨hs0, hs1⟩, by omega, atE_bd HC.out j⟩⟩
      have HC1 := EmitTick_go c s R (atE c j) ya n yc hE zs HN.out HB.out w21 hF hy
      rw [atE_emR HC.out hjT, atE_emF HC.out hjT, atE_next HC.out hjT] at HC1
      have hRD := em_right HC.out (s := s) (r := R) (f := atE c j) (zs := zs) (by rw [HN.out]; exact (errE_zero.1 hE).2)
      rw [atE_emR HC.out hjT, atE_emF HC.out hjT] at hRD
      have hPP : emP c s R (atE c j) zs = packD s R (atE c j) (emX c (atE c j) zs) := by unfold emP; rw [atE_emR HC.out hjT, atE_emF HC.out hjT]
      have hbd := atE_bd HC.out j
      have hnb := emN_bd HC.out hbd.1 hbd.2
      have hnx := atE_next HC.out hjT
      rw [atE_emF HC.out hjT, HME.out] at hnb
      rw [HME.out] at hbd
      have hpt := atE_part HC.out hjT zs
      rw [HME.out] at hpt
      have hXl := emX_len c (atE c j) zs
      have hXb := emX_bd c (atE c j) zs
      obtain ⟨NN, hNN⟩ : ∃ x : Nat, emN c (atE c j) = (x : Int) := ⟨_, (Int.toNat_of_nonneg (by omega)).symm⟩
      obtain ⟨AT, hAT⟩ : ∃ x : Nat, atE c j = (x : Int) := ⟨_, (Int.toNat_of_nonneg (by omega)).symm⟩
      obtain ⟨X, hX⟩ : ∃ x, emX c (atE c j) zs = x := ⟨_, rfl⟩
      obtain ⟨A2, hA2⟩ : ∃ x, atE c (j + 1) = x := ⟨_, rfl⟩
      rw [hNN, hAT] at hnb hnx
      rw [hX, hNN, hAT] at hpt
      rw [hX, hNN] at hXl
      rw [hX] at hXb hRD hPP
      rw [hAT] at hRD hbd
      rw [hPP, hNN, hA2] at HC1
      rw [hAT] at HC1 xx ⊢
      rw [hA2] at hnx
      rw [show (NN : Int).toNat = NN from rfl] at HC1 hXl hpt
      rw [show (AT : Int).toNat = AT from rfl] at hpt
      rw [show (MN : Int).toNat = MN from rfl] at hpt
      have HA2 : Hid (atE c (j + 1) = A2) := hA2
      have HRD : Hid (RightD s R (AT : Int) X) := hRD
      have HXL : Hid (X.length = NN) := hXl
      have HXB : Hid (∀ z ∈ X, 0 ≤ z ∧ z ≤ 255) := hXb
      have HPT : Hid (((codeL zs 0 MN).drop AT).take NN = X) := hpt
      obtain ⟨AN, hAN⟩ : ∃ x, AT + NN = x := ⟨_, rfl⟩
      obtain rfl : A2 = (AN : Int) := by omega
      have eAN : (AT : Int) + (NN : Int) = (AN : Int) := by omega
      have eSb : AN - AT = NN := by omega
      have hAM : AN ≤ MN := by omega
      have hAA : AT ≤ AN := by omega
      have d5 : decide ((MN : Int) < (AN : Int)) = false := decide_eq_false (by omega)
      have d5' : decide (MN < AN) = false := decide_eq_false (by omega)
      have d6 : decide (c.cBatch < (NN : Int)) = false := decide_eq_false (by omega)
      have hAc : AN ≤ cA := by omega
      have hAci : (AN : Int) ≤ (cA : Int) := by omega
      have ewAN : IntKind.i64.wrap (AN : Int) = (AN : Int) := by rw [IntKind.wrap_i64]; omega
      have hcAT : ¬ cA = AT := by omega
      have hNN1 : 1 ≤ NN := by omega
      have hNN64 : NN ≤ 64 := by omega
      have HPL : Hid (AT + NN ≤ MN) := by show AT + NN ≤ MN; omega
      have hBl := xx.lt
      clear hE hRD hPP hpt hXl hXb hX hA2 hNN hAT hnx hjT
      clear hAN
      have cxc0 := xc.cell 0 _ rfl
      have cxc1 := xc.cell 1 _ rfl
      have cxc2 := xc.cell 2 _ rfl
      have cxc3 := xc.cell 3 _ rfl
      have cxc4 := xc.cell 4 _ rfl
      have cxc5 := xc.cell 5 _ rfl
      have cxc6 := xc.cell 6 _ rfl
      have cxc7 := xc.cell 7 _ rfl
      have cxc8 := xc.cell 8 _ rfl
      have cxc9 := xc.cell 9 _ rfl
      have cxx0 := xx.cell 0 _ rfl
      have cxx1 := xx.cell 1 _ rfl
      have cxx2 := xx.cell 2 _ rfl
      have cxx3 := xx.cell 3 _ rfl
      have cxx4 := xx.cell 4 _ rfl
      go_wp2_with fail
      refine (HC1).mono ?_
      rintro e w22 ⟨na, nc, qa, qc, rfl, on, oq, _, b9⟩
      clear cxc0 cxc1 cxc2 cxc3 cxc4 cxc5 cxc6 cxc7 cxc8 cxc9
      clear cxx0 cxx1 cxx2 cxx3 cxx4
      replace xx := xx.next b9
      replace hy := hy.next b9
      replace xc := xc.next b9
      replace oall := oall.next b9
      replace hF := hF.next b9
      replace bb := bb.trans (b9.mono bb.size)
      clear b9
      clear HC1
      have hN := holds_of_row on
      have onx : OwnB w22 (Bx + 1) (.slice na n nc) n zs := row_base on (by omega)
      have hq := holds_of_row oq
      have hqc := row_cap oq
      clear on oq hN
      have b9 : Below w22.heap.size w22 (w22.alloc (.cells #[.int .i64 s, .int .i64 R, .int .i64 (AN : Int), .bool false, .slice na n nc] 26)) := (Below.refl _ _).alloc (Nat.le_refl _) _
      have xn := Box.new w22 26 #[.int .i64 s, .int .i64 R, .int .i64 (AN : Int), .bool false, .slice na n nc]
      replace xx := xx.next b9
      replace hy := hy.next b9
      replace xc := xc.next b9
      replace oall := oall.next b9
      replace hF := hF.next b9
      replace onx := onx.next b9
      replace hq := hq.next b9
      replace bb := bb.trans (b9.mono bb.size)
      clear b9
      have HC1 := DataRead_ok qa qc (packD s R (AT : Int) X) (by rw [packD_len, HXL.out]; exact hqc) (packD_bd HRD.out HXB.out) (okD_pack HRD.out) (w22.alloc (.cells #[.int .i64 s, .int .i64 R, .int .i64 (AN : Int), .bool false, .slice na n nc] 26)) (by rw [packD_len, HXL.out]; exact hq)
      rw [packD_len, dS_pack HRD.out, dR_pack, dF_pack HRD.out, dX_pack, HXL.out] at HC1
      go_wp2_with fail
      refine (HC1).mono ?_
      rintro e w23 ⟨xa, xk, rfl, ox, b9⟩
      replace xx := xx.next b9
      replace hy := hy.next b9
      replace xc := xc.next b9
      replace oall := oall.next b9
      replace hF := hF.next b9
      replace onx := onx.next b9
      replace hq := hq.next b9
      replace xn := xn.next b9
      replace bb := bb.trans (b9.mono bb.size)
      clear b9
      clear HC1
      have hx := holds_of_row ox
      clear ox hq hqc
      have b9 : Below w23.heap.size w23 (w23.alloc (.cells #[.int .i64 s, .int .i64 R, .int .i64 (AT : Int), .slice xa NN xk] 47)) := (Below.refl _ _).alloc (Nat.le_refl _) _
      have xd := Box.new w23 47 #[.int .i64 s, .int .i64 R, .int .i64 (AT : Int), .slice xa NN xk]
      replace xx := xx.next b9
      replace hy := hy.next b9
      replace xc := xc.next b9
      replace oall := oall.next b9
      replace hF := hF.next b9
      replace onx := onx.next b9
      replace xn := xn.next b9
      replace hx := hx.next b9
      replace bb := bb.trans (b9.mono bb.size)
      clear b9
      go_wp2
      generalize w23.alloc (.cells #[.int .i64 s, .int .i64 R, .int .i64 (AT : Int), .slice xa NN xk] 47) = w24 at *
      have hpart : Holds .u8 w24.heap.size w24 (.slice (some ⟨gA, AT, none⟩) NN (cA - AT)) X := by
        have := holds_partE (holds_of_row oall.row) (codeL_len _ _ _) HPL.out (cA - AT) (by omega)
        rw [HPT.out, Nat.zero_add] at this
        exact this
      have HKB : Hid (∀ wx : World, Below w24.heap.size w24 wx → Calls Tryd.prog 15 #[.slice xa NN xk, .slice (some ⟨gA, AT, none⟩) NN (cA - AT)] wx fun e w' => e = .returned (.bool true) ∧ Below w24.heap.size w24 w') := fun wx hw => by
        have := bytes_any (.slice xa NN xk) (.slice (some ⟨gA, AT, none⟩) NN (cA - AT)) X X _ _ wx (by rw [HXL.out]; omega) (hx.next hw) (hpart.next hw)
        rw [decide_eq_true rfl] at this
        exact this.mono fun e w1 ⟨h, q, hq⟩ => ⟨h, hq ▸ below_drewN hw q⟩
      clear hpart hx
      have lxd0 := xd.cell 0 _ rfl
      have lxd1 := xd.cell 1 _ rfl
      have lxd2 := xd.cell 2 _ rfl
      have lxd3 := xd.cell 3 _ rfl
      have bxd := xd.lt
      have lxn1 := xn.cell 1 _ rfl
      have lxn2 := xn.cell 2 _ rfl
      have bxn := xn.lt
      have lxc6 := xc.cell 6 _ rfl
      have bxc := xc.lt
      obtain ⟨Bd, hBd⟩ : ∃ B, w23.heap.size = B := ⟨_, rfl⟩
      obtain ⟨Bn, hBn⟩ : ∃ B, w22.heap.size = B := ⟨_, rfl⟩
      rw [hBd] at xd bxd lxd0 lxd1 lxd2 lxd3 ⊢
      rw [hBn] at xn bxn lxn1 lxn2 ⊢
      clear hBd hBn
      refine wp_region_held_drew (S := fun w' => Below w24.heap.size w24 w') (by kernel_rfl) ((Below.refl _ _).drew) (fun hHeld => ?_)
      refine held_take (i := 0) (d := 89) (v := ?v1) rfl rfl (by kernel_rfl) (by kernel_rfl) (by kernel_rfl) (fun _ _ _ h => h) (Or.inl ⟨by kernel_rfl, ?hy1⟩) hHeld ?rest1
      case hy1 =>
        intro wx hSw
        clear hSw
        go_simp
        with_reducible rfl
      simp only [List.setIfInBounds_toArray, List.set_cons_zero, List.set_cons_succ]
      refine held_take (i := 1) (d := 90) (v := ?v2) rfl rfl (by kernel_rfl) (by kernel_rfl) (by kernel_rfl) (fun _ _ _ h => h) (Or.inl ⟨by kernel_rfl, ?hy2⟩) hHeld ?rest2
      case hy2 =>
        intro wx hSw
        clear hSw
        go_simp
        with_reducible rfl
      simp only [List.setIfInBounds_toArray, List.set_cons_zero, List.set_cons_succ]
      refine held_take (i := 2) (d := 91) (v := ?v3) rfl rfl (by kernel_rfl) (by kernel_rfl) (by kernel_rfl) (fun _ _ _ h => h) (Or.inl ⟨by kernel_rfl, ?hy3⟩) hHeld ?rest3
      case hy3 =>
        intro wx hSw
        clear hSw
        go_simp
        with_reducible rfl
      simp only [List.setIfInBounds_toArray, List.set_cons_zero, List.set_cons_succ]
      refine held_take (i := 3) (d := 92) (v := ?v4) rfl rfl (by kernel_rfl) (by kernel_rfl) (by kernel_rfl) (fun _ _ _ h => h) (Or.inl ⟨by kernel_rfl, ?hy4⟩) hHeld ?rest4
      case hy4 =>
        intro wx hSw
        clear hSw
        go_simp
        with_reducible rfl
      simp only [List.setIfInBounds_toArray, List.set_cons_zero, List.set_cons_succ]
      refine held_take (i := 4) (d := 93) (v := ?v5) rfl rfl (by kernel_rfl) (by kernel_rfl) (by kernel_rfl) (fun _ _ _ h => h) (Or.inl ⟨by kernel_rfl, ?hy5⟩) hHeld ?rest5
      case hy5 =>
        intro wx hSw
        clear hSw
        go_simp
        with_reducible rfl
      simp only [List.setIfInBounds_toArray, List.set_cons_zero, List.set_cons_succ]
      refine held_take (i := 5) (d := 94) (v := ?v6) rfl rfl (by kernel_rfl) (by kernel_rfl) (by kernel_rfl) (fun _ _ _ h => h) (Or.inl ⟨by kernel_rfl, ?hy6⟩) hHeld ?rest6
      case hy6 =>
        intro wx hSw
        clear hSw
        go_simp
        with_reducible rfl
      simp only [List.setIfInBounds_toArray, List.set_cons_zero, List.set_cons_succ]
      refine held_take (i := 6) (d := 95) (v := ?v7) rfl rfl (by kernel_rfl) (by kernel_rfl) (by kernel_rfl) (fun _ _ _ h => h) (Or.inl ⟨by kernel_rfl, ?hy7⟩) hHeld ?rest7
      case hy7 =>
        intro wx hSw
        clear hSw
        go_simp
        with_reducible rfl
      simp only [List.setIfInBounds_toArray, List.set_cons_zero, List.set_cons_succ]
      refine held_take (i := 7) (d := 96) (v := ?v8) rfl rfl (by kernel_rfl) (by kernel_rfl) (by kernel_rfl) (fun _ _ _ h => h) (Or.inl ⟨by kernel_rfl, ?hy8⟩) hHeld ?rest8
      case hy8 =>
        intro wx hSw
        clear hSw
        go_simp
        with_reducible rfl
      simp only [List.setIfInBounds_toArray, List.set_cons_zero, List.set_cons_succ]
      refine held_take (i := 8) (d := 97) (v := ?v9) rfl rfl (by kernel_rfl) (by kernel_rfl) (by kernel_rfl) (fun _ _ _ h => h) (Or.inl ⟨by kernel_rfl, ?hy9⟩) hHeld ?rest9
      case hy9 =>
        intro wx hSw
        have q0 := (hSw.cell (p := ⟨Bd, 0, none⟩) bxd).trans lxd0
        clear hSw
        go_simp
        with_reducible rfl
      simp only [List.setIfInBounds_toArray, List.set_cons_zero, List.set_cons_succ]
      refine held_take (i := 9) (d := 98) (v := ?v10) rfl rfl (by kernel_rfl) (by kernel_rfl) (by kernel_rfl) (fun _ _ _ h => h) (Or.inl ⟨by kernel_rfl, ?hy10⟩) hHeld ?rest10
      case hy10 =>
        intro wx hSw
        clear hSw
        go_simp
        with_reducible rfl
      simp only [List.setIfInBounds_toArray, List.set_cons_zero, List.set_cons_succ]
      refine held_take (i := 10) (d := 99) (v := ?v11) rfl rfl (by kernel_rfl) (by kernel_rfl) (by kernel_rfl) (fun _ _ _ h => h) (Or.inl ⟨by kernel_rfl, ?hy11⟩) hHeld ?rest11
      case hy11 =>
        intro wx hSw
        clear hSw
        go_simp
        with_reducible rfl
      simp only [List.setIfInBounds_toArray, List.set_cons_zero, List.set_cons_succ]
      refine held_take (i := 11) (d := 100) (v := ?v12) rfl rfl (by kernel_rfl) (by kernel_rfl) (by kernel_rfl) (fun _ _ _ h => h) (Or.inl ⟨by kernel_rfl, ?hy12⟩) hHeld ?rest12
      case hy12 =>
        intro wx hSw
        clear hSw
        go_simp
        with_reducible rfl
      simp only [List.setIfInBounds_toArray, List.set_cons_zero, List.set_cons_succ]
      refine held_take (i := 12) (d := 101) (v := ?v13) rfl rfl (by kernel_rfl) (by kernel_rfl) (by kernel_rfl) (fun _ _ _ h => h) (Or.inl ⟨by kernel_rfl, ?hy13⟩) hHeld ?rest13
      case hy13 =>
        intro wx hSw
        clear hSw
        go_simp
        with_reducible rfl
      simp only [List.setIfInBounds_toArray, List.set_cons_zero, List.set_cons_succ]
      refine held_take (i := 13) (d := 102) (v := ?v14) rfl rfl (by kernel_rfl) (by kernel_rfl) (by kernel_rfl) (fun _ _ _ h => h) (Or.inl ⟨by kernel_rfl, ?hy14⟩) hHeld ?rest14
      case hy14 =>
        intro wx hSw
        clear hSw
        go_simp
        with_reducible rfl
      simp only [List.setIfInBounds_toArray, List.set_cons_zero, List.set_cons_succ]
      refine held_take (i := 14) (d := 103) (v := ?v15) rfl rfl (by kernel_rfl) (by kernel_rfl) (by kernel_rfl) (fun _ _ _ h => h) (Or.inl ⟨by kernel_rfl, ?hy15⟩) hHeld ?rest15
      case hy15 =>
        intro wx hSw
        have q0 := (hSw.cell (p := ⟨Bd, 1, none⟩) bxd).trans lxd1
        clear hSw
        go_simp
        with_reducible rfl
      simp only [List.setIfInBounds_toArray, List.set_cons_zero, List.set_cons_succ]
      refine held_take (i := 15) (d := 104) (v := ?v16) rfl rfl (by kernel_rfl) (by kernel_rfl) (by kernel_rfl) (fun _ _ _ h => h) (Or.inl ⟨by kernel_rfl, ?hy16⟩) hHeld ?rest16
      case hy16 =>
        intro wx hSw
        clear hSw
        go_simp
        with_reducible rfl
      simp only [List.setIfInBounds_toArray, List.set_cons_zero, List.set_cons_succ]
      refine held_take (i := 16) (d := 105) (v := ?v17) rfl rfl (by kernel_rfl) (by kernel_rfl) (by kernel_rfl) (fun _ _ _ h => h) (Or.inl ⟨by kernel_rfl, ?hy17⟩) hHeld ?rest17
      case hy17 =>
        intro wx hSw
        clear hSw
        go_simp
        with_reducible rfl
      simp only [List.setIfInBounds_toArray, List.set_cons_zero, List.set_cons_succ]
      refine held_take (i := 17) (d := 106) (v := ?v18) rfl rfl (by kernel_rfl) (by kernel_rfl) (by kernel_rfl) (fun _ _ _ h => h) (Or.inl ⟨by kernel_rfl, ?hy18⟩) hHeld ?rest18
      case hy18 =>
        intro wx hSw
        clear hSw
        go_simp
        with_reducible rfl
      simp only [List.setIfInBounds_toArray, List.set_cons_zero, List.set_cons_succ]
      refine held_take (i := 18) (d := 107) (v := ?v19) rfl rfl (by kernel_rfl) (by kernel_rfl) (by kernel_rfl) (fun _ _ _ h => h) (Or.inl ⟨by kernel_rfl, ?hy19⟩) hHeld ?rest19
      case hy19 =>
        intro wx hSw
        clear hSw
        go_simp
        with_reducible rfl
      simp only [List.setIfInBounds_toArray, List.set_cons_zero, List.set_cons_succ]
      refine held_take (i := 19) (d := 108) (v := ?v20) rfl rfl (by kernel_rfl) (by kernel_rfl) (by kernel_rfl) (fun _ _ _ h => h) (Or.inl ⟨by kernel_rfl, ?hy20⟩) hHeld ?rest20
      case hy20 =>
        intro wx hSw
        clear hSw
        go_simp
        with_reducible rfl
      simp only [List.setIfInBounds_toArray, List.set_cons_zero, List.set_cons_succ]
      refine held_take (i := 20) (d := 109) (v := ?v21) rfl rfl (by kernel_rfl) (by kernel_rfl) (by kernel_rfl) (fun _ _ _ h => h) (Or.inl ⟨by kernel_rfl, ?hy21⟩) hHeld ?rest21
      case hy21 =>
        intro wx hSw
        have q0 := (hSw.cell (p := ⟨Bd, 2, none⟩) bxd).trans lxd2
        clear hSw
        go_simp
        with_reducible rfl
      simp only [List.setIfInBounds_toArray, List.set_cons_zero, List.set_cons_succ]
      refine held_take (i := 21) (d := 110) (v := ?v22) rfl rfl (by kernel_rfl) (by kernel_rfl) (by kernel_rfl) (fun _ _ _ h => h) (Or.inl ⟨by kernel_rfl, ?hy22⟩) hHeld ?rest22
      case hy22 =>
        intro wx hSw
        clear hSw
        go_simp
        with_reducible rfl
      simp only [List.setIfInBounds_toArray, List.set_cons_zero, List.set_cons_succ]
      refine held_take (i := 22) (d := 111) (v := ?v23) rfl rfl (by kernel_rfl) (by kernel_rfl) (by kernel_rfl) (fun _ _ _ h => h) (Or.inl ⟨by kernel_rfl, ?hy23⟩) hHeld ?rest23
      case hy23 =>
        intro wx hSw
        clear hSw
        go_simp
        with_reducible rfl
      simp only [List.setIfInBounds_toArray, List.set_cons_zero, List.set_cons_succ]
      refine held_take (i := 23) (d := 112) (v := ?v24) rfl rfl (by kernel_rfl) (by kernel_rfl) (by kernel_rfl) (fun _ _ _ h => h) (Or.inl ⟨by kernel_rfl, ?hy24⟩) hHeld ?rest24
      case hy24 =>
        intro wx hSw
        clear hSw
        go_simp
        with_reducible rfl
      simp only [List.setIfInBounds_toArray, List.set_cons_zero, List.set_cons_succ]
      refine held_take (i := 24) (d := 113) (v := ?v25) rfl rfl (by kernel_rfl) (by kernel_rfl) (by kernel_rfl) (fun _ _ _ h => h) (Or.inl ⟨by kernel_rfl, ?hy25⟩) hHeld ?rest25
      case hy25 =>
        intro wx hSw
        clear hSw
        go_simp
        with_reducible rfl
      simp only [List.setIfInBounds_toArray, List.set_cons_zero, List.set_cons_succ]
      refine held_take (i := 25) (d := 114) (v := ?v26) rfl rfl (by kernel_rfl) (by kernel_rfl) (by kernel_rfl) (fun _ _ _ h => h) (Or.inl ⟨by kernel_rfl, ?hy26⟩) hHeld ?rest26
      case hy26 =>
        intro wx hSw
        clear hSw
        go_simp
        with_reducible rfl
      simp only [List.setIfInBounds_toArray, List.set_cons_zero, List.set_cons_succ]
      refine held_take (i := 26) (d := 115) (v := ?v27) rfl rfl (by kernel_rfl) (by kernel_rfl) (by kernel_rfl) (fun _ _ _ h => h) (Or.inl ⟨by kernel_rfl, ?hy27⟩) hHeld ?rest27
      case hy27 =>
        intro wx hSw
        have q0 := (hSw.cell (p := ⟨Bd, 3, none⟩) bxd).trans lxd3
        clear hSw
        go_simp
        with_reducible rfl
      simp only [List.setIfInBounds_toArray, List.set_cons_zero, List.set_cons_succ]
      refine held_take (i := 27) (d := 116) (v := ?v28) rfl rfl (by kernel_rfl) (by kernel_rfl) (by kernel_rfl) (fun _ _ _ h => h) (Or.inl ⟨by kernel_rfl, ?hy28⟩) hHeld ?rest28
      case hy28 =>
        intro wx hSw
        clear hSw
        go_simp
        with_reducible rfl
      simp only [List.setIfInBounds_toArray, List.set_cons_zero, List.set_cons_succ]
      refine held_take (i := 28) (d := 117) (v := ?v29) rfl rfl (by kernel_rfl) (by kernel_rfl) (by kernel_rfl) (fun _ _ _ h => h) (Or.inl ⟨by kernel_rfl, ?hy29⟩) hHeld ?rest29
      case hy29 =>
        intro wx hSw
        clear hSw
        go_simp
        with_reducible rfl
      simp only [List.setIfInBounds_toArray, List.set_cons_zero, List.set_cons_succ]
      refine held_take (i := 29) (d := 118) (v := ?v30) rfl rfl (by kernel_rfl) (by kernel_rfl) (by kernel_rfl) (fun _ _ _ h => h) (Or.inl ⟨by kernel_rfl, ?hy30⟩) hHeld ?rest30
      case hy30 =>
        intro wx hSw
        have q0 := (hSw.cell (p := ⟨D, 6, none⟩) bxc).trans lxc6
        clear hSw
        go_simp
        with_reducible rfl
      simp only [List.setIfInBounds_toArray, List.set_cons_zero, List.set_cons_succ]
      refine held_take (i := 30) (d := 119) (v := ?v31) rfl rfl (by kernel_rfl) (by kernel_rfl) (by kernel_rfl) (fun _ _ _ h => h) (Or.inl ⟨by kernel_rfl, ?hy31⟩) hHeld ?rest31
      case hy31 =>
        intro wx hSw
        clear hSw
        go_simp
        with_reducible rfl
      simp only [List.setIfInBounds_toArray, List.set_cons_zero, List.set_cons_succ]
      refine held_take (i := 31) (d := 120) (v := ?v32) rfl rfl (by kernel_rfl) (by kernel_rfl) (by kernel_rfl) (fun _ _ _ h => h) (Or.inl ⟨by kernel_rfl, ?hy32⟩) hHeld ?rest32
      case hy32 =>
        intro wx hSw
        clear hSw
        go_simp
        with_reducible rfl
      simp only [List.setIfInBounds_toArray, List.set_cons_zero, List.set_cons_succ]
      refine held_take (i := 32) (d := 121) (v := ?v33) rfl rfl (by kernel_rfl) (by kernel_rfl) (by kernel_rfl) (fun _ _ _ h => h) (Or.inl ⟨by kernel_rfl, ?hy33⟩) hHeld ?rest33
      case hy33 =>
        intro wx hSw
        clear hSw
        go_simp
        with_reducible rfl
      simp only [List.setIfInBounds_toArray, List.set_cons_zero, List.set_cons_succ]
      refine held_take (i := 33) (d := 122) (v := ?v34) rfl rfl (by kernel_rfl) (by kernel_rfl) (by kernel_rfl) (fun _ _ _ h => h) (Or.inl ⟨by kernel_rfl, ?hy34⟩) hHeld ?rest34
      case hy34 =>
        intro wx hSw
        clear hSw
        go_simp
        with_reducible rfl
      simp only [List.setIfInBounds_toArray, List.set_cons_zero, List.set_cons_succ]
      refine held_take (i := 34) (d := 123) (v := ?v35) rfl rfl (by kernel_rfl) (by kernel_rfl) (by kernel_rfl) (fun _ _ _ h => h) (Or.inl ⟨by kernel_rfl, ?hy35⟩) hHeld ?rest35
      case hy35 =>
        intro wx hSw
        clear hSw
        go_simp
        with_reducible rfl
      simp only [List.setIfInBounds_toArray, List.set_cons_zero, List.set_cons_succ]
      refine held_take (i := 35) (d := 124) (v := ?v36) rfl rfl (by kernel_rfl) (by kernel_rfl) (by kernel_rfl) (fun _ _ _ h => h) (Or.inl ⟨by kernel_rfl, ?hy36⟩) hHeld ?rest36
      case hy36 =>
        intro wx hSw
        have q0 := (hSw.cell (p := ⟨Bd, 3, none⟩) bxd).trans lxd3
        clear hSw
        go_simp
        with_reducible rfl
      simp only [List.setIfInBounds_toArray, List.set_cons_zero, List.set_cons_succ]
      refine held_take (i := 36) (d := 125) (v := ?v37) rfl rfl (by kernel_rfl) (by kernel_rfl) (by kernel_rfl) (fun _ _ _ h => h) (Or.inl ⟨by kernel_rfl, ?hy37⟩) hHeld ?rest37
      case hy37 =>
        intro wx hSw
        clear hSw
        go_simp
        with_reducible rfl
      simp only [List.setIfInBounds_toArray, List.set_cons_zero, List.set_cons_succ]
      refine held_take (i := 37) (d := 126) (v := ?v38) rfl rfl (by kernel_rfl) (by kernel_rfl) (by kernel_rfl) (fun _ _ _ h => h) (Or.inl ⟨by kernel_rfl, ?hy38⟩) hHeld ?rest38
      case hy38 =>
        intro wx hSw
        clear hSw
        go_simp
        with_reducible rfl
      simp only [List.setIfInBounds_toArray, List.set_cons_zero, List.set_cons_succ]
      refine held_take (i := 38) (d := 127) (v := ?v39) rfl rfl (by kernel_rfl) (by kernel_rfl) (by kernel_rfl) (fun _ _ _ h => h) (Or.inl ⟨by kernel_rfl, ?hy39⟩) hHeld ?rest39
      case hy39 =>
        intro wx hSw
        clear hSw
        go_simp
        with_reducible rfl
      simp only [List.setIfInBounds_toArray, List.set_cons_zero, List.set_cons_succ]
      refine held_take (i := 39) (d := 128) (v := ?v40) rfl rfl (by kernel_rfl) (by kernel_rfl) (by kernel_rfl) (fun _ _ _ h => h) (Or.inl ⟨by kernel_rfl, ?hy40⟩) hHeld ?rest40
      case hy40 =>
        intro wx hSw
        clear hSw
        go_simp
        with_reducible rfl
      simp only [List.setIfInBounds_toArray, List.set_cons_zero, List.set_cons_succ]
      refine held_take (i := 40) (d := 129) (v := ?v41) rfl rfl (by kernel_rfl) (by kernel_rfl) (by kernel_rfl) (fun _ _ _ h => h) (Or.inl ⟨by kernel_rfl, ?hy41⟩) hHeld ?rest41
      case hy41 =>
        intro wx hSw
        clear hSw
        go_simp
        with_reducible rfl
      simp only [List.setIfInBounds_toArray, List.set_cons_zero, List.set_cons_succ]
      refine held_take (i := 41) (d := 130) (v := ?v42) rfl rfl (by kernel_rfl) (by kernel_rfl) (by kernel_rfl) (fun _ _ _ h => h) (Or.inl ⟨by kernel_rfl, ?hy42⟩) hHeld ?rest42
      case hy42 =>
        intro wx hSw
        clear hSw
        go_simp
        with_reducible rfl
      simp only [List.setIfInBounds_toArray, List.set_cons_zero, List.set_cons_succ]
      refine held_take (i := 42) (d := 131) (v := ?v43) rfl rfl (by kernel_rfl) (by kernel_rfl) (by kernel_rfl) (fun _ _ _ h => h) (Or.inl ⟨by kernel_rfl, ?hy43⟩) hHeld ?rest43
      case hy43 =>
        intro wx hSw
        clear hSw
        go_simp
        with_reducible rfl
      simp only [List.setIfInBounds_toArray, List.set_cons_zero, List.set_cons_succ]
      refine held_take (i := 43) (d := 132) (v := ?v44) rfl rfl (by kernel_rfl) (by kernel_rfl) (by kernel_rfl) (fun _ _ _ h => h) (Or.inl ⟨by kernel_rfl, ?hy44⟩) hHeld ?rest44
      case hy44 =>
        intro wx hSw
        clear hSw
        go_simp
        with_reducible rfl
      simp only [List.setIfInBounds_toArray, List.set_cons_zero, List.set_cons_succ]
      refine held_take (i := 44) (d := 133) (v := ?v45) rfl rfl (by kernel_rfl) (by kernel_rfl) (by kernel_rfl) (fun _ _ _ h => h) (Or.inl ⟨by kernel_rfl, ?hy45⟩) hHeld ?rest45
      case hy45 =>
        intro wx hSw
        have q0 := (hSw.cell (p := ⟨Bd, 3, none⟩) bxd).trans lxd3
        clear hSw
        go_simp
        with_reducible rfl
      simp only [List.setIfInBounds_toArray, List.set_cons_zero, List.set_cons_succ]
      refine held_take (i := 45) (d := 134) (v := ?v46) rfl rfl (by kernel_rfl) (by kernel_rfl) (by kernel_rfl) (fun _ _ _ h => h) (Or.inl ⟨by kernel_rfl, ?hy46⟩) hHeld ?rest46
      case hy46 =>
        intro wx hSw
        clear hSw
        go_simp
        with_reducible rfl
      simp only [List.setIfInBounds_toArray, List.set_cons_zero, List.set_cons_succ]
      refine held_take (i := 46) (d := 135) (v := ?v47) rfl rfl (by kernel_rfl) (by kernel_rfl) (by kernel_rfl) (fun _ _ _ h => h) (Or.inl ⟨by kernel_rfl, ?hy47⟩) hHeld ?rest47
      case hy47 =>
        intro wx hSw
        clear hSw
        go_simp
        with_reducible rfl
      simp only [List.setIfInBounds_toArray, List.set_cons_zero, List.set_cons_succ]
      refine held_take (i := 47) (d := 136) (v := ?v48) rfl rfl (by kernel_rfl) (by kernel_rfl) (by kernel_rfl) (fun _ _ _ h => h) (Or.inl ⟨by kernel_rfl, ?hy48⟩) hHeld ?rest48
      case hy48 =>
        intro wx hSw
        clear hSw
        go_simp
        with_reducible rfl
      simp only [List.setIfInBounds_toArray, List.set_cons_zero, List.set_cons_succ]
      refine held_take (i := 48) (d := 137) (v := ?v49) rfl rfl (by kernel_rfl) (by kernel_rfl) (by kernel_rfl) (fun _ _ _ h => h) (Or.inl ⟨by kernel_rfl, ?hy49⟩) hHeld ?rest49
      case hy49 =>
        intro wx hSw
        clear hSw
        go_simp
        with_reducible rfl
      simp only [List.setIfInBounds_toArray, List.set_cons_zero, List.set_cons_succ]
      refine held_take (i := 49) (d := 138) (v := ?v50) rfl rfl (by kernel_rfl) (by kernel_rfl) (by kernel_rfl) (fun _ _ _ h => h) (Or.inl ⟨by kernel_rfl, ?hy50⟩) hHeld ?rest50
      case hy50 =>
        intro wx hSw
        have q0 := (hSw.cell (p := ⟨Bd, 3, none⟩) bxd).trans lxd3
        clear hSw
        go_simp
        with_reducible rfl
      simp only [List.setIfInBounds_toArray, List.set_cons_zero, List.set_cons_succ]
      refine held_take (i := 50) (d := 139) (v := ?v51) rfl rfl (by kernel_rfl) (by kernel_rfl) (by kernel_rfl) (fun _ _ _ h => h) (Or.inl ⟨by kernel_rfl, ?hy51⟩) hHeld ?rest51
      case hy51 =>
        intro wx hSw
        clear hSw
        go_simp
        with_reducible rfl
      simp only [List.setIfInBounds_toArray, List.set_cons_zero, List.set_cons_succ]
      refine held_take (i := 51) (d := 140) (v := ?v52) rfl rfl (by kernel_rfl) (by kernel_rfl) (by kernel_rfl) (fun _ _ _ h => h) (Or.inl ⟨by kernel_rfl, ?hy52⟩) hHeld ?rest52
      case hy52 =>
        intro wx hSw
        clear hSw
        go_simp
        with_reducible rfl
      simp only [List.setIfInBounds_toArray, List.set_cons_zero, List.set_cons_succ]
      refine held_take (i := 52) (d := 141) (v := ?v53) rfl rfl (by kernel_rfl) (by kernel_rfl) (by kernel_rfl) (fun _ _ _ h => h) (Or.inl ⟨by kernel_rfl, ?hy53⟩) hHeld ?rest53
      case hy53 =>
        intro wx hSw
        clear hSw
        go_simp
        with_reducible rfl
      simp only [List.setIfInBounds_toArray, List.set_cons_zero, List.set_cons_succ]
      refine wpAnyH_ready (rs := [53]) (by kernel_rfl) (by simp) ?_
      refine AllReadyH.cons rfl (fun K hK => ?_) AllReadyH.nil
      go_simp
      go_wp2_with (go_at_call 15; refine (HKB.out _ (by exact hHeld)).mono ?_; rintro e wb ⟨rfl, b8⟩)
      refine hK.out _ _ (b8) (fun hHeld => ?_)
      clear hK K
      refine held_take (i := 54) (d := 143) (v := ?v54) rfl rfl (by kernel_rfl) (by kernel_rfl) (by kernel_rfl) (fun _ _ _ h => h) (Or.inl ⟨by kernel_rfl, ?hy54⟩) hHeld ?rest54
      case hy54 =>
        intro wx hSw
        clear hSw
        go_simp
        with_reducible rfl
      simp only [List.setIfInBounds_toArray, List.set_cons_zero, List.set_cons_succ]
      refine held_take (i := 55) (d := 144) (v := ?v55) rfl rfl (by kernel_rfl) (by kernel_rfl) (by kernel_rfl) (fun _ _ _ h => h) (Or.inl ⟨by kernel_rfl, ?hy55⟩) hHeld ?rest55
      case hy55 =>
        intro wx hSw
        clear hSw
        go_simp
        with_reducible rfl
      simp only [List.setIfInBounds_toArray, List.set_cons_zero, List.set_cons_succ]
      refine held_take (i := 56) (d := 145) (v := ?v56) rfl rfl (by kernel_rfl) (by kernel_rfl) (by kernel_rfl) (fun _ _ _ h => h) (Or.inl ⟨by kernel_rfl, ?hy56⟩) hHeld ?rest56
      case hy56 =>
        intro wx hSw
        clear hSw
        go_simp
        with_reducible rfl
      simp only [List.setIfInBounds_toArray, List.set_cons_zero, List.set_cons_succ]
      refine held_take (i := 57) (d := 146) (v := ?v57) rfl rfl (by kernel_rfl) (by kernel_rfl) (by kernel_rfl) (fun _ _ _ h => h) (Or.inl ⟨by kernel_rfl, ?hy57⟩) hHeld ?rest57
      case hy57 =>
        intro wx hSw
        clear hSw
        go_simp
        with_reducible rfl
      simp only [List.setIfInBounds_toArray, List.set_cons_zero, List.set_cons_succ]
      refine held_take (i := 58) (d := 147) (v := ?v58) rfl rfl (by kernel_rfl) (by kernel_rfl) (by kernel_rfl) (fun _ _ _ h => h) (Or.inl ⟨by kernel_rfl, ?hy58⟩) hHeld ?rest58
      case hy58 =>
        intro wx hSw
        have q0 := (hSw.cell (p := ⟨Bn, 2, none⟩) bxn).trans lxn2
        clear hSw
        go_simp
        with_reducible rfl
      simp only [List.setIfInBounds_toArray, List.set_cons_zero, List.set_cons_succ]
      refine held_take (i := 59) (d := 148) (v := ?v59) rfl rfl (by kernel_rfl) (by kernel_rfl) (by kernel_rfl) (fun _ _ _ h => h) (Or.inl ⟨by kernel_rfl, ?hy59⟩) hHeld ?rest59
      case hy59 =>
        intro wx hSw
        clear hSw
        go_simp
        with_reducible rfl
      simp only [List.setIfInBounds_toArray, List.set_cons_zero, List.set_cons_succ]
      refine held_take (i := 60) (d := 149) (v := ?v60) rfl rfl (by kernel_rfl) (by kernel_rfl) (by kernel_rfl) (fun _ _ _ h => h) (Or.inl ⟨by kernel_rfl, ?hy60⟩) hHeld ?rest60
      case hy60 =>
        intro wx hSw
        clear hSw
        go_simp
        with_reducible rfl
      simp only [List.setIfInBounds_toArray, List.set_cons_zero, List.set_cons_succ]
      refine held_take (i := 61) (d := 150) (v := ?v61) rfl rfl (by kernel_rfl) (by kernel_rfl) (by kernel_rfl) (fun _ _ _ h => h) (Or.inl ⟨by kernel_rfl, ?hy61⟩) hHeld ?rest61
      case hy61 =>
        intro wx hSw
        have q0 := (hSw.cell (p := ⟨Bd, 3, none⟩) bxd).trans lxd3
        clear hSw
        go_simp
        with_reducible rfl
      simp only [List.setIfInBounds_toArray, List.set_cons_zero, List.set_cons_succ]
      refine held_take (i := 62) (d := 151) (v := ?v62) rfl rfl (by kernel_rfl) (by kernel_rfl) (by kernel_rfl) (fun _ _ _ h => h) (Or.inl ⟨by kernel_rfl, ?hy62⟩) hHeld ?rest62
      case hy62 =>
        intro wx hSw
        clear hSw
        go_simp
        with_reducible rfl
      simp only [List.setIfInBounds_toArray, List.set_cons_zero, List.set_cons_succ]
      refine held_take (i := 63) (d := 152) (v := ?v63) rfl rfl (by kernel_rfl) (by kernel_rfl) (by kernel_rfl) (fun _ _ _ h => h) (Or.inl ⟨by kernel_rfl, ?hy63⟩) hHeld ?rest63
      case hy63 =>
        intro wx hSw
        clear hSw
        go_simp
        with_reducible rfl
      simp only [List.setIfInBounds_toArray, List.set_cons_zero, List.set_cons_succ]
      refine held_take (i := 64) (d := 153) (v := ?v64) rfl rfl (by kernel_rfl) (by kernel_rfl) (by kernel_rfl) (fun _ _ _ h => h) (Or.inl ⟨by kernel_rfl, ?hy64⟩) hHeld ?rest64
      case hy64 =>
        intro wx hSw
        clear hSw
        go_simp
        with_reducible rfl
      simp only [List.setIfInBounds_toArray, List.set_cons_zero, List.set_cons_succ]
      refine held_take (i := 65) (d := 154) (v := ?v65) rfl rfl (by kernel_rfl) (by kernel_rfl) (by kernel_rfl) (fun _ _ _ h => h) (Or.inl ⟨by kernel_rfl, ?hy65⟩) hHeld ?rest65
      case hy65 =>
        intro wx hSw
        clear hSw
        go_simp
        with_reducible rfl
      simp only [List.setIfInBounds_toArray, List.set_cons_zero, List.set_cons_succ]
      refine held_take (i := 66) (d := 155) (v := ?v66) rfl rfl (by kernel_rfl) (by kernel_rfl) (by kernel_rfl) (fun _ _ _ h => h) (Or.inl ⟨by kernel_rfl, ?hy66⟩) hHeld ?rest66
      case hy66 =>
        intro wx hSw
        clear hSw
        go_simp
        with_reducible rfl
      simp only [List.setIfInBounds_toArray, List.set_cons_zero, List.set_cons_succ]
      refine held_take (i := 67) (d := 156) (v := ?v67) rfl rfl (by kernel_rfl) (by kernel_rfl) (by kernel_rfl) (fun _ _ _ h => h) (Or.inl ⟨by kernel_rfl, ?hy67⟩) hHeld ?rest67
      case hy67 =>
        intro wx hSw
        clear hSw
        go_simp
        with_reducible rfl
      simp only [List.setIfInBounds_toArray, List.set_cons_zero, List.set_cons_succ]
      refine held_take (i := 68) (d := 157) (v := ?v68) rfl rfl (by kernel_rfl) (by kernel_rfl) (by kernel_rfl) (fun _ _ _ h => h) (Or.inl ⟨by kernel_rfl, ?hy68⟩) hHeld ?rest68
      case hy68 =>
        intro wx hSw
        have q0 := (hSw.cell (p := ⟨Bn, 1, none⟩) bxn).trans lxn1
        clear hSw
        go_simp
        with_reducible rfl
      simp only [List.setIfInBounds_toArray, List.set_cons_zero, List.set_cons_succ]
      refine held_take (i := 69) (d := 158) (v := ?v69) rfl rfl (by kernel_rfl) (by kernel_rfl) (by kernel_rfl) (fun _ _ _ h => h) (Or.inl ⟨by kernel_rfl, ?hy69⟩) hHeld ?rest69
      case hy69 =>
        intro wx hSw
        clear hSw
        go_simp
        with_reducible rfl
      simp only [List.setIfInBounds_toArray, List.set_cons_zero, List.set_cons_succ]
      refine held_take (i := 70) (d := 159) (v := ?v70) rfl rfl (by kernel_rfl) (by kernel_rfl) (by kernel_rfl) (fun _ _ _ h => h) (Or.inl ⟨by kernel_rfl, ?hy70⟩) hHeld ?rest70
      case hy70 =>
        intro wx hSw
        clear hSw
        go_simp
        with_reducible rfl
      simp only [List.setIfInBounds_toArray, List.set_cons_zero, List.set_cons_succ]
      refine wpAnyH_ready (rs := [71]) (by kernel_rfl) (by simp) ?_
      refine AllReadyH.cons rfl (fun K hK => ?_) AllReadyH.nil
      go_simp
      refine hK.out _ _ hHeld (fun hHeld => ?_)
      clear hK K
      refine wpAnyH_done (by kernel_rfl) ?_ _
      replace xx := xx.next hHeld
      replace xc := xc.next hHeld
      replace oall := oall.next hHeld
      replace onx := onx.next hHeld
      replace xn := xn.next hHeld
      replace bb := bb.trans (hHeld.mono bb.size)
      clear hHeld hy hF xd HKB lxd0 lxd1 lxd2 lxd3 lxn1 lxn2 lxc6 bxd bxn bxc
      have n0 := xn.cell 0 _ rfl
      have n1 := xn.cell 1 _ rfl
      have n2 := xn.cell 2 _ rfl
      have n3 := xn.cell 3 _ rfl
      have n4 := xn.cell 4 _ rfl
      have z0 := xx.cell 0 _ rfl
      have z1 := xx.cell 1 _ rfl
      have z2 := xx.cell 2 _ rfl
      have z3 := xx.cell 3 _ rfl
      have z4 := xx.cell 4 _ rfl
      have f0 := xx.free 0
      have f1 := xx.free 1
      have f2 := xx.free 2
      have f3 := xx.free 3
      have f4 := xx.free 4
      have lx := xx.lt
      have ln := xn.lt
      have lc := xc.lt
      go_wp2
      go_region
      go_wp2
      exact ⟨⟨j + 1, by omega, by go_num, by rw [HA2.out], na, nc, by rw [HA2.out]; exact box_set5 xx _ _ _ _ _, holds_of_row (row_set5 onx.row (Nat.lt_succ_self _) _ _ _ _ _), ((((xc.other (by show D ≠ Bx; omega) _).other (by show D ≠ Bx; omega) _).other (by show D ≠ Bx; omega) _).other (by show D ≠ Bx; omega) _).other (by show D ≠ Bx; omega) _, row_set5 oall.row (Nat.lt_succ_self _) _ _ _ _ _, (below_set5 bb (by have := HDE.out; omega) _ _ _ _ _).drew⟩, by simp [intOf]; omega⟩
    · obtain rfl : j = T := by omega
      have dj : decide ((j : Int) < (j : Int)) = false := decide_eq_false (by omega)
      have dj' : decide (j < j) = false := decide_eq_false (by omega)
      have eAT : atE c j = (MN : Int) := (atE_end HC.out (by rw [HTE.out])).trans HME.out
      have HC1 := refTicks_any c HC.out w20
      rw [HTE.out] at HC1
      rw [eAT] at xx ⊢
      clear eAT
      have cxc0 := xc.cell 0 _ rfl
      have cxc1 := xc.cell 1 _ rfl
      have cxc2 := xc.cell 2 _ rfl
      have cxc3 := xc.cell 3 _ rfl
      have cxc4 := xc.cell 4 _ rfl
      have cxc5 := xc.cell 5 _ rfl
      have cxc6 := xc.cell 6 _ rfl
      have cxc7 := xc.cell 7 _ rfl
      have cxc8 := xc.cell 8 _ rfl
      have cxc9 := xc.cell 9 _ rfl
      go_wp2_with fail
      refine (HC1).mono ?_
      rintro e w21 ⟨rfl, b9⟩
      clear cxc0 cxc1 cxc2 cxc3 cxc4 cxc5 cxc6 cxc7 cxc8 cxc9
      replace xx := xx.next b9
      replace hy := hy.next b9
      replace xc := xc.next b9
      replace oall := oall.next b9
      replace hF := hF.next b9
      replace bb := bb.trans (b9.mono bb.size)
      clear b9
      clear HC1
      have hE : errE c s R (MN : Int) n = 0 := errE_zero.2 ⟨HC.out, (okE_iff _ _ _ _ _).2 ⟨H10.out, ⟨hs0, hs1⟩, by omega, by rw [HME.out]; omega⟩⟩
      have HC1 := EmitTick_go c s R (MN : Int) ya n yc hE zs HN.out HB.out w21 hF hy
      have eR : emR c R (MN : Int) = (R + 1) % 256 := by rw [← HME.out]; exact emR_most c R
      have eF : emF c (MN : Int) = 0 := by rw [← HME.out]; exact emF_most c
      have hRD := em_right HC.out (s := s) (r := R) (f := (MN : Int)) (zs := zs) (by rw [HN.out]; exact (errE_zero.1 hE).2)
      have hPP : emP c s R (MN : Int) zs = packD s ((R + 1) % 256) 0 (emX c (MN : Int) zs) := by unfold emP; rw [eR, eF]
      rw [eR, eF] at HC1 hRD
      rw [Int.zero_add, hPP] at HC1
      have hnb := emN_bd HC.out (f := (MN : Int)) (by omega) (by rw [HME.out]; omega)
      have hXl := emX_len c (MN : Int) zs
      have hXb := emX_bd c (MN : Int) zs
      obtain ⟨NN, hNN⟩ : ∃ x : Nat, emN c (MN : Int) = (x : Int) := ⟨_, (Int.toNat_of_nonneg (by omega)).symm⟩
      obtain ⟨X, hX⟩ : ∃ x, emX c (MN : Int) zs = x := ⟨_, rfl⟩
      rw [hX, hNN] at hXl
      rw [hX] at hXb hRD
      rw [hX, hNN] at HC1
      rw [show (NN : Int).toNat = NN from rfl] at HC1 hXl
      have HRD : Hid (RightD s ((R + 1) % 256) 0 X) := hRD
      have HXL : Hid (X.length = NN) := hXl
      have HXB : Hid (∀ z ∈ X, 0 ≤ z ∧ z ≤ 255) := hXb
      have hNN64 : NN ≤ 64 := by omega
      have HEE : Hid (errE c s R (MN : Int) n = 0) := hE
      have hBl := xx.lt
      clear hE hRD hPP hXl hXb hX hNN eR eF hnb
      have eR1 : IntKind.i64.wrap (R + 1) = R + 1 := by rw [IntKind.wrap_i64]; omega
      have eR2 : (R + 1).tmod 256 = (R + 1) % 256 := Int.tmod_eq_emod_of_nonneg (by omega)
      have cxc0 := xc.cell 0 _ rfl
      have cxc1 := xc.cell 1 _ rfl
      have cxc2 := xc.cell 2 _ rfl
      have cxc3 := xc.cell 3 _ rfl
      have cxc4 := xc.cell 4 _ rfl
      have cxc5 := xc.cell 5 _ rfl
      have cxc6 := xc.cell 6 _ rfl
      have cxc7 := xc.cell 7 _ rfl
      have cxc8 := xc.cell 8 _ rfl
      have cxc9 := xc.cell 9 _ rfl
      have cxx0 := xx.cell 0 _ rfl
      have cxx1 := xx.cell 1 _ rfl
      have cxx2 := xx.cell 2 _ rfl
      have cxx3 := xx.cell 3 _ rfl
      have cxx4 := xx.cell 4 _ rfl
      go_wp2_with fail
      refine (HC1).mono ?_
      rintro e w22 ⟨na, nc, qa, qc, rfl, on, oq, _, b9⟩
      clear cxc0 cxc1 cxc2 cxc3 cxc4 cxc5 cxc6 cxc7 cxc8 cxc9
      clear cxx0 cxx1 cxx2 cxx3 cxx4
      replace xx := xx.next b9
      replace hy := hy.next b9
      replace xc := xc.next b9
      replace oall := oall.next b9
      replace hF := hF.next b9
      replace bb := bb.trans (b9.mono bb.size)
      clear b9
      clear HC1
      have hBl2 := xx.lt
      have hq := holds_of_row oq
      have hqc := row_cap oq
      clear on oq
      have b9 : Below w22.heap.size w22 (w22.alloc (.cells #[.int .i64 s, .int .i64 ((R + 1) % 256), .int .i64 (NN : Int), .bool false, .slice na n nc] 26)) := (Below.refl _ _).alloc (Nat.le_refl _) _
      have xn := Box.new w22 26 #[.int .i64 s, .int .i64 ((R + 1) % 256), .int .i64 (NN : Int), .bool false, .slice na n nc]
      replace xx := xx.next b9
      replace hy := hy.next b9
      replace xc := xc.next b9
      replace oall := oall.next b9
      replace hF := hF.next b9
      replace hq := hq.next b9
      replace bb := bb.trans (b9.mono bb.size)
      clear b9
      have HC1 := DataRead_ok qa qc (packD s ((R + 1) % 256) 0 X) (by rw [packD_len, HXL.out]; exact hqc) (packD_bd HRD.out HXB.out) (okD_pack HRD.out) (w22.alloc (.cells #[.int .i64 s, .int .i64 ((R + 1) % 256), .int .i64 (NN : Int), .bool false, .slice na n nc] 26)) (by rw [packD_len, HXL.out]; exact hq)
      rw [packD_len, dS_pack HRD.out, dR_pack, dF_pack HRD.out, dX_pack, HXL.out] at HC1
      have hB22 : Bx < (w22.alloc (.cells #[.int .i64 s, .int .i64 ((R + 1) % 256), .int .i64 (NN : Int), .bool false, .slice na n nc] 26)).heap.size := xx.lt
      go_wp2_with fail
      refine (HC1).mono ?_
      rintro e w23 ⟨xa, xk, rfl, ox, b9⟩
      have hB23 : Bx < w23.heap.size := by have := b9.size; omega
      replace xx := xx.next b9
      replace hy := hy.next b9
      replace xc := xc.next b9
      replace oall := oall.next b9
      replace hF := hF.next b9
      replace hq := hq.next b9
      replace xn := xn.next b9
      replace bb := bb.trans (b9.mono bb.size)
      clear b9 HC1 ox hq hqc
      have cxx0 := xx.cell 0 _ rfl
      have cxx1 := xx.cell 1 _ rfl
      have cxx2 := xx.cell 2 _ rfl
      have cxx3 := xx.cell 3 _ rfl
      have cxx4 := xx.cell 4 _ rfl
      have cxc0 := xc.cell 0 _ rfl
      have cxc1 := xc.cell 1 _ rfl
      have cxc2 := xc.cell 2 _ rfl
      have cxc3 := xc.cell 3 _ rfl
      have cxc4 := xc.cell 4 _ rfl
      have cxc5 := xc.cell 5 _ rfl
      have cxc6 := xc.cell 6 _ rfl
      have cxc7 := xc.cell 7 _ rfl
      have cxc8 := xc.cell 8 _ rfl
      have cxc9 := xc.cell 9 _ rfl
      have f3 := xx.free 3
      have lx := xx.lt
      have lc := xc.lt
      have hne : ¬ D = Bx := by omega
      have hne2 : ¬ Bx = D := by omega
      go_wp2_with fail
      clear cxx0 cxx1 cxx2 cxx3 cxx4
      clear cxc0 cxc1 cxc2 cxc3 cxc4 cxc5 cxc6 cxc7 cxc8 cxc9
      obtain ⟨w24, hw24⟩ : ∃ W, w23.setCell ⟨Bx, 3, none⟩ (.bool true) = W := ⟨_, rfl⟩
      have hs24 : w24.heap.size = w23.heap.size := by rw [← hw24]; simp
      rw [hw24, ← hs24]
      replace hy : Holds .u8 w24.heap.size w24 (.slice ya n yc) zs := hw24 ▸ holds_box_set xx hy (by rw [HN.out]; show 5 < n; have := H10.out; omega) 3 (.bool true)
      replace xc : Box w24 D 23 #[.int .i64 c.cB, .int .i64 c.cBeam, .int .i64 c.cDepth, .int .i64 c.cWin, .int .i64 c.cQs, .int .i64 c.cQr, .int .i64 c.cBatch, .int .i64 c.cPass, .int .i64 c.cMsg, .int .i64 c.cSeqs] := hw24 ▸ xc.other (by show D ≠ Bx; omega) _
      replace xx : Box w24 Bx 26 #[.int .i64 s, .int .i64 R, .int .i64 (MN : Int), .bool true, .slice ya n yc] := hw24 ▸ xx.set 3 (.bool true)
      have hnB : w22.heap.size ≠ Bx := by omega
      replace xn : Box w24 w22.heap.size 26 #[.int .i64 s, .int .i64 ((R + 1) % 256), .int .i64 (NN : Int), .bool false, .slice na n nc] := hw24 ▸ xn.other hnB _
      replace bb : Below w.heap.size w w24 := hw24 ▸ bb.setCell (p := ⟨Bx, 3, none⟩) (by have := HDE.out; show w.heap.size ≤ Bx; omega) _
      replace hF := HHF.out.next bb
      clear hw24 f3 lx lc hne hne2 oall hs24
      have b9 : Below w24.heap.size w24 (w24.alloc (.cells #[.int .i64 s, .int .i64 ((R + 1) % 256), .int .i64 0, .slice xa NN xk] 47)) := (Below.refl _ _).alloc (Nat.le_refl _) _
      have xd := Box.new w24 47 #[.int .i64 s, .int .i64 ((R + 1) % 256), .int .i64 0, .slice xa NN xk]
      replace xx := xx.next b9
      replace hy := hy.next b9
      replace xc := xc.next b9
      replace hF := hF.next b9
      replace xn := xn.next b9
      replace bb := bb.trans (b9.mono bb.size)
      clear b9
      generalize w24.alloc (.cells #[.int .i64 s, .int .i64 ((R + 1) % 256), .int .i64 0, .slice xa NN xk] 47) = w25 at *
      have HC1 := EmitTick_acked c s R (MN : Int) ya n yc HEE.out zs HN.out (by omega) w25 hy
      refine HC1.mono ?_
      rintro e w26 ⟨ta, tc, rfl, ot, b9⟩
      clear HC1
      replace xx := xx.next b9
      replace hy := hy.next b9
      replace xc := xc.next b9
      replace hF := hF.next b9
      replace xn := xn.next b9
      replace xd := xd.next b9
      replace bb := bb.trans (b9.mono bb.size)
      clear b9
      have ht := holds_of_row ot
      clear ot
      have b9 : Below w26.heap.size w26 (w26.alloc (.cells #[.int .i64 s, .int .i64 R, .int .i64 (MN : Int), .bool true, .slice ta n tc] 26)) := (Below.refl _ _).alloc (Nat.le_refl _) _
      have xt := Box.new w26 26 #[.int .i64 s, .int .i64 R, .int .i64 (MN : Int), .bool true, .slice ta n tc]
      replace xx := xx.next b9
      replace hy := hy.next b9
      replace xc := xc.next b9
      replace hF := hF.next b9
      replace xn := xn.next b9
      replace xd := xd.next b9
      replace ht := ht.next b9
      replace bb := bb.trans (b9.mono bb.size)
      clear b9
      have HC1 := keepEmit_any s R (MN : Int) s R (MN : Int) true true (.slice ta n tc) (.slice ya n yc) zs zs (w26.alloc (.cells #[.int .i64 s, .int .i64 R, .int .i64 (MN : Int), .bool true, .slice ta n tc] 26)) _ _ (Nat.le_refl _) (Nat.le_refl _) (by rw [HN.out]; omega) ht hy
      rw [decide_eq_true ⟨rfl, rfl, rfl, rfl, rfl⟩] at HC1
      have dMM2 : ((MN : Int) == (MN : Int)) = true := by simp
      have dRR : ((R + 1) % 256 == (R + 1) % 256) = true := by simp
      have cxt0 := xt.cell 0 _ rfl
      have cxt1 := xt.cell 1 _ rfl
      have cxt2 := xt.cell 2 _ rfl
      have cxt3 := xt.cell 3 _ rfl
      have cxt4 := xt.cell 4 _ rfl
      have cxx0 := xx.cell 0 _ rfl
      have cxx1 := xx.cell 1 _ rfl
      have cxx2 := xx.cell 2 _ rfl
      have cxx3 := xx.cell 3 _ rfl
      have cxx4 := xx.cell 4 _ rfl
      have cxn0 := xn.cell 0 _ rfl
      have cxn1 := xn.cell 1 _ rfl
      have cxn2 := xn.cell 2 _ rfl
      have cxn3 := xn.cell 3 _ rfl
      have cxn4 := xn.cell 4 _ rfl
      have cxd0 := xd.cell 0 _ rfl
      have cxd1 := xd.cell 1 _ rfl
      have cxd2 := xd.cell 2 _ rfl
      have cxd3 := xd.cell 3 _ rfl
      go_wp2_with fail
      refine (HC1).mono ?_
      rintro e w27 ⟨rfl, b9⟩
      clear cxt0 cxt1 cxt2 cxt3 cxt4
      clear cxx0 cxx1 cxx2 cxx3 cxx4
      clear cxn0 cxn1 cxn2 cxn3 cxn4
      clear cxd0 cxd1 cxd2 cxd3
      replace xx := xx.next b9
      replace hy := hy.next b9
      replace xc := xc.next b9
      replace hF := hF.next b9
      replace xn := xn.next b9
      replace xd := xd.next b9
      replace ht := ht.next b9
      replace xt := xt.next b9
      replace bb := bb.trans (b9.mono bb.size)
      clear b9
      clear HC1
      have HWK := emitWakes_any w27 hF
      go_wp2_with (go_at_call 13; refine HWK.mono ?_; rintro e w99 ⟨rfl, b99⟩)
      go_ret
      exact ⟨rfl, bb.trans (b99.mono bb.size)⟩

set_option maxRecDepth 100000 in
set_option maxHeartbeats 2000000 in
theorem emitRounds_outC (c : Cfg) (s rd : Int) (a : Option Addr) (n cap : Nat) (hC : okC c = false) (w : World) :
    Calls Tryd.prog 4 #[.agg #[.int .i64 c.cB, .int .i64 c.cBeam, .int .i64 c.cDepth, .int .i64 c.cWin, .int .i64 c.cQs, .int .i64 c.cQr, .int .i64 c.cBatch, .int .i64 c.cPass, .int .i64 c.cMsg, .int .i64 c.cSeqs], .int .i64 s, .int .i64 rd, .slice a n cap] w fun e w' => e = .returned (.bool true) ∧ Below w.heap.size w w' := by
  have bb := (Below.refl w.heap.size w).alloc (Nat.le_refl _) (.cells #[.int .i64 c.cB, .int .i64 c.cBeam, .int .i64 c.cDepth, .int .i64 c.cWin, .int .i64 c.cQs, .int .i64 c.cQr, .int .i64 c.cBatch, .int .i64 c.cPass, .int .i64 c.cMsg, .int .i64 c.cSeqs] 23)
  have x1 := Box.new w 23 #[.int .i64 c.cB, .int .i64 c.cBeam, .int .i64 c.cDepth, .int .i64 c.cWin, .int .i64 c.cQs, .int .i64 c.cQr, .int .i64 c.cBatch, .int .i64 c.cPass, .int .i64 c.cMsg, .int .i64 c.cSeqs]
  have HC1 := refConfig_any c (w.alloc (.cells #[.int .i64 c.cB, .int .i64 c.cBeam, .int .i64 c.cDepth, .int .i64 c.cWin, .int .i64 c.cQs, .int .i64 c.cQr, .int .i64 c.cBatch, .int .i64 c.cPass, .int .i64 c.cMsg, .int .i64 c.cSeqs] 23))
  rw [hC] at HC1
  clear hC
  go_enter Tryd.func4, Tryd.ntmps4
  have k0 := x1.cell 0 _ rfl
  have k1 := x1.cell 1 _ rfl
  have k2 := x1.cell 2 _ rfl
  have k3 := x1.cell 3 _ rfl
  have k4 := x1.cell 4 _ rfl
  have k5 := x1.cell 5 _ rfl
  have k6 := x1.cell 6 _ rfl
  have k7 := x1.cell 7 _ rfl
  have k8 := x1.cell 8 _ rfl
  have k9 := x1.cell 9 _ rfl
  go_wp2_with fail
  refine HC1.mono ?_
  rintro e w1 ⟨rfl, b9⟩
  replace x1 := x1.next b9
  clear HC1 k0 k1 k2 k3 k4 k5 k6 k7 k8 k9
  have k0 := x1.cell 0 _ rfl
  have k1 := x1.cell 1 _ rfl
  have k2 := x1.cell 2 _ rfl
  have k3 := x1.cell 3 _ rfl
  have k4 := x1.cell 4 _ rfl
  have k5 := x1.cell 5 _ rfl
  have k6 := x1.cell 6 _ rfl
  have k7 := x1.cell 7 _ rfl
  have k8 := x1.cell 8 _ rfl
  have k9 := x1.cell 9 _ rfl
  go_wp2
  go_ret
  exact ⟨rfl, bb.trans (b9.mono bb.size)⟩

set_option maxRecDepth 100000 in
set_option maxHeartbeats 2000000 in
theorem emitRounds_outN (c : Cfg) (s rd : Int) (a : Option Addr) (n cap : Nat) (hC : okC c = true) (h : (n : Int) ≠ c.cB + 10) (w : World) :
    Calls Tryd.prog 4 #[.agg #[.int .i64 c.cB, .int .i64 c.cBeam, .int .i64 c.cDepth, .int .i64 c.cWin, .int .i64 c.cQs, .int .i64 c.cQr, .int .i64 c.cBatch, .int .i64 c.cPass, .int .i64 c.cMsg, .int .i64 c.cSeqs], .int .i64 s, .int .i64 rd, .slice a n cap] w fun e w' => e = .returned (.bool true) ∧ Below w.heap.size w w' := by
  have bb := (Below.refl w.heap.size w).alloc (Nat.le_refl _) (.cells #[.int .i64 c.cB, .int .i64 c.cBeam, .int .i64 c.cDepth, .int .i64 c.cWin, .int .i64 c.cQs, .int .i64 c.cQr, .int .i64 c.cBatch, .int .i64 c.cPass, .int .i64 c.cMsg, .int .i64 c.cSeqs] 23)
  have x1 := Box.new w 23 #[.int .i64 c.cB, .int .i64 c.cBeam, .int .i64 c.cDepth, .int .i64 c.cWin, .int .i64 c.cQs, .int .i64 c.cQr, .int .i64 c.cBatch, .int .i64 c.cPass, .int .i64 c.cMsg, .int .i64 c.cSeqs]
  have HC1 := refConfig_any c (w.alloc (.cells #[.int .i64 c.cB, .int .i64 c.cBeam, .int .i64 c.cDepth, .int .i64 c.cWin, .int .i64 c.cQs, .int .i64 c.cQr, .int .i64 c.cBatch, .int .i64 c.cPass, .int .i64 c.cMsg, .int .i64 c.cSeqs] 23))
  rw [hC] at HC1
  have hcb := ((okC_iff c).1 hC).1
  have eW : IntKind.i64.wrap (c.cB + 10) = c.cB + 10 := by rw [IntKind.wrap_i64]; omega
  have d1 : ((n : Int) != c.cB + 10) = true := by rw [bne_iff_ne]; exact h
  clear hC h
  go_enter Tryd.func4, Tryd.ntmps4
  have k0 := x1.cell 0 _ rfl
  have k1 := x1.cell 1 _ rfl
  have k2 := x1.cell 2 _ rfl
  have k3 := x1.cell 3 _ rfl
  have k4 := x1.cell 4 _ rfl
  have k5 := x1.cell 5 _ rfl
  have k6 := x1.cell 6 _ rfl
  have k7 := x1.cell 7 _ rfl
  have k8 := x1.cell 8 _ rfl
  have k9 := x1.cell 9 _ rfl
  go_wp2_with fail
  refine HC1.mono ?_
  rintro e w1 ⟨rfl, b9⟩
  replace x1 := x1.next b9
  clear HC1 k0 k1 k2 k3 k4 k5 k6 k7 k8 k9
  have k0 := x1.cell 0 _ rfl
  have k1 := x1.cell 1 _ rfl
  have k2 := x1.cell 2 _ rfl
  have k3 := x1.cell 3 _ rfl
  have k4 := x1.cell 4 _ rfl
  have k5 := x1.cell 5 _ rfl
  have k6 := x1.cell 6 _ rfl
  have k7 := x1.cell 7 _ rfl
  have k8 := x1.cell 8 _ rfl
  have k9 := x1.cell 9 _ rfl
  go_wp2
  go_ret
  exact ⟨rfl, bb.trans (b9.mono bb.size)⟩

set_option maxRecDepth 100000 in
set_option maxHeartbeats 2000000 in
theorem emitRounds_outS (c : Cfg) (s rd : Int) (a : Option Addr) (n cap : Nat) (hC : okC c = true) (h : (n : Int) = c.cB + 10) (h2 : s < 0) (w : World) :
    Calls Tryd.prog 4 #[.agg #[.int .i64 c.cB, .int .i64 c.cBeam, .int .i64 c.cDepth, .int .i64 c.cWin, .int .i64 c.cQs, .int .i64 c.cQr, .int .i64 c.cBatch, .int .i64 c.cPass, .int .i64 c.cMsg, .int .i64 c.cSeqs], .int .i64 s, .int .i64 rd, .slice a n cap] w fun e w' => e = .returned (.bool true) ∧ Below w.heap.size w w' := by
  have bb := (Below.refl w.heap.size w).alloc (Nat.le_refl _) (.cells #[.int .i64 c.cB, .int .i64 c.cBeam, .int .i64 c.cDepth, .int .i64 c.cWin, .int .i64 c.cQs, .int .i64 c.cQr, .int .i64 c.cBatch, .int .i64 c.cPass, .int .i64 c.cMsg, .int .i64 c.cSeqs] 23)
  have x1 := Box.new w 23 #[.int .i64 c.cB, .int .i64 c.cBeam, .int .i64 c.cDepth, .int .i64 c.cWin, .int .i64 c.cQs, .int .i64 c.cQr, .int .i64 c.cBatch, .int .i64 c.cPass, .int .i64 c.cMsg, .int .i64 c.cSeqs]
  have HC1 := refConfig_any c (w.alloc (.cells #[.int .i64 c.cB, .int .i64 c.cBeam, .int .i64 c.cDepth, .int .i64 c.cWin, .int .i64 c.cQs, .int .i64 c.cQr, .int .i64 c.cBatch, .int .i64 c.cPass, .int .i64 c.cMsg, .int .i64 c.cSeqs] 23))
  rw [hC] at HC1
  have hcb := ((okC_iff c).1 hC).1
  have eW : IntKind.i64.wrap (c.cB + 10) = c.cB + 10 := by rw [IntKind.wrap_i64]; omega
  have d1 : ((n : Int) != c.cB + 10) = false := by rw [bne_eq_false_iff_eq]; exact h
  have d2 : decide (s < 0) = true := decide_eq_true h2
  clear hC h h2
  go_enter Tryd.func4, Tryd.ntmps4
  have k0 := x1.cell 0 _ rfl
  have k1 := x1.cell 1 _ rfl
  have k2 := x1.cell 2 _ rfl
  have k3 := x1.cell 3 _ rfl
  have k4 := x1.cell 4 _ rfl
  have k5 := x1.cell 5 _ rfl
  have k6 := x1.cell 6 _ rfl
  have k7 := x1.cell 7 _ rfl
  have k8 := x1.cell 8 _ rfl
  have k9 := x1.cell 9 _ rfl
  go_wp2_with fail
  refine HC1.mono ?_
  rintro e w1 ⟨rfl, b9⟩
  replace x1 := x1.next b9
  clear HC1 k0 k1 k2 k3 k4 k5 k6 k7 k8 k9
  have k0 := x1.cell 0 _ rfl
  have k1 := x1.cell 1 _ rfl
  have k2 := x1.cell 2 _ rfl
  have k3 := x1.cell 3 _ rfl
  have k4 := x1.cell 4 _ rfl
  have k5 := x1.cell 5 _ rfl
  have k6 := x1.cell 6 _ rfl
  have k7 := x1.cell 7 _ rfl
  have k8 := x1.cell 8 _ rfl
  have k9 := x1.cell 9 _ rfl
  go_wp2
  go_ret
  exact ⟨rfl, bb.trans (b9.mono bb.size)⟩

set_option maxRecDepth 100000 in
set_option maxHeartbeats 2000000 in
theorem emitRounds_outT (c : Cfg) (s rd : Int) (a : Option Addr) (n cap : Nat) (hC : okC c = true) (h : (n : Int) = c.cB + 10) (h2 : 1073741824 ≤ s) (w : World) :
    Calls Tryd.prog 4 #[.agg #[.int .i64 c.cB, .int .i64 c.cBeam, .int .i64 c.cDepth, .int .i64 c.cWin, .int .i64 c.cQs, .int .i64 c.cQr, .int .i64 c.cBatch, .int .i64 c.cPass, .int .i64 c.cMsg, .int .i64 c.cSeqs], .int .i64 s, .int .i64 rd, .slice a n cap] w fun e w' => e = .returned (.bool true) ∧ Below w.heap.size w w' := by
  have bb := (Below.refl w.heap.size w).alloc (Nat.le_refl _) (.cells #[.int .i64 c.cB, .int .i64 c.cBeam, .int .i64 c.cDepth, .int .i64 c.cWin, .int .i64 c.cQs, .int .i64 c.cQr, .int .i64 c.cBatch, .int .i64 c.cPass, .int .i64 c.cMsg, .int .i64 c.cSeqs] 23)
  have x1 := Box.new w 23 #[.int .i64 c.cB, .int .i64 c.cBeam, .int .i64 c.cDepth, .int .i64 c.cWin, .int .i64 c.cQs, .int .i64 c.cQr, .int .i64 c.cBatch, .int .i64 c.cPass, .int .i64 c.cMsg, .int .i64 c.cSeqs]
  have HC1 := refConfig_any c (w.alloc (.cells #[.int .i64 c.cB, .int .i64 c.cBeam, .int .i64 c.cDepth, .int .i64 c.cWin, .int .i64 c.cQs, .int .i64 c.cQr, .int .i64 c.cBatch, .int .i64 c.cPass, .int .i64 c.cMsg, .int .i64 c.cSeqs] 23))
  rw [hC] at HC1
  have hcb := ((okC_iff c).1 hC).1
  have eW : IntKind.i64.wrap (c.cB + 10) = c.cB + 10 := by rw [IntKind.wrap_i64]; omega
  have d1 : ((n : Int) != c.cB + 10) = false := by rw [bne_eq_false_iff_eq]; exact h
  have d2 : decide (s < 0) = false := decide_eq_false (by omega)
  have d3 : decide (1073741824 ≤ s) = true := decide_eq_true h2
  clear hC h h2
  go_enter Tryd.func4, Tryd.ntmps4
  have k0 := x1.cell 0 _ rfl
  have k1 := x1.cell 1 _ rfl
  have k2 := x1.cell 2 _ rfl
  have k3 := x1.cell 3 _ rfl
  have k4 := x1.cell 4 _ rfl
  have k5 := x1.cell 5 _ rfl
  have k6 := x1.cell 6 _ rfl
  have k7 := x1.cell 7 _ rfl
  have k8 := x1.cell 8 _ rfl
  have k9 := x1.cell 9 _ rfl
  go_wp2_with fail
  refine HC1.mono ?_
  rintro e w1 ⟨rfl, b9⟩
  replace x1 := x1.next b9
  clear HC1 k0 k1 k2 k3 k4 k5 k6 k7 k8 k9
  have k0 := x1.cell 0 _ rfl
  have k1 := x1.cell 1 _ rfl
  have k2 := x1.cell 2 _ rfl
  have k3 := x1.cell 3 _ rfl
  have k4 := x1.cell 4 _ rfl
  have k5 := x1.cell 5 _ rfl
  have k6 := x1.cell 6 _ rfl
  have k7 := x1.cell 7 _ rfl
  have k8 := x1.cell 8 _ rfl
  have k9 := x1.cell 9 _ rfl
  go_wp2
  go_ret
  exact ⟨rfl, bb.trans (b9.mono bb.size)⟩

/-- The law, of whatever configuration, numbers and bytes. -/
theorem emitRounds_walk (c : Cfg) (s rd : Int) (a : Option Addr) (len cap : Nat) (z1 : List Int) (w : World) (hF : Firsts w) (h1 : IsRow .u8 w a len cap z1) :
    Calls Tryd.prog 4 #[.agg #[.int .i64 c.cB, .int .i64 c.cBeam, .int .i64 c.cDepth, .int .i64 c.cWin, .int .i64 c.cQs, .int .i64 c.cQr, .int .i64 c.cBatch, .int .i64 c.cPass, .int .i64 c.cMsg, .int .i64 c.cSeqs], .int .i64 s, .int .i64 rd, .slice a len cap] w fun e w' => e = .returned (.bool true) ∧ Below w.heap.size w w' := by
  obtain ⟨zs, rfl, hx, bx⟩ := holds_of_isRow h1
  have bx := bytes_bd bx
  cases hC : okC c
  · exact emitRounds_outC c s rd a _ cap hC w
  by_cases hn : (zs.length : Int) = c.cB + 10
  · by_cases hs : s < 0
    · exact emitRounds_outS c s rd a _ cap hC hn hs w
    by_cases hs2 : 1073741824 ≤ s
    · exact emitRounds_outT c s rd a _ cap hC hn hs2 w
    exact emitRounds_ok c hC s rd a _ cap zs rfl bx hn (by omega) (by omega) w hF hx
  · exact emitRounds_outN c s rd a _ cap hC hn w

end Go.Proofs.YtnecdbmdgpoogaaDoor

/-
  What volutelaw18.round answers, of a right configuration and a block of its length: all symbols of the round. (Written by tpl_emitbatches.py.)
-/
namespace Go.Proofs.YtnecdbmdgpoogaaDoor
open Go.RowKit

theorem Box.grownE {W W' : World} {B : Nat} {t : TypeId} {cs : Array Value} {ob : Option Nat} (h : Box W B t cs) (hg : W.grownBy W' ob) (hne : some B ≠ ob) : Box W' B t cs := (hg.block B h.lt hne).trans h
theorem box_other5 {W : World} {B D : Nat} {t : TypeId} {cs : Array Value} (h : Box W B t cs) (hp : B ≠ D) (x y z u v : Value) : Box (((((W.setCell ⟨D, 0, none⟩ x).setCell ⟨D, 1, none⟩ y).setCell ⟨D, 2, none⟩ z).setCell ⟨D, 3, none⟩ u).setCell ⟨D, 4, none⟩ v) B t cs := ((((h.other (p := ⟨D, 0, none⟩) hp x).other (p := ⟨D, 1, none⟩) hp y).other (p := ⟨D, 2, none⟩) hp z).other (p := ⟨D, 3, none⟩) hp u).other (p := ⟨D, 4, none⟩) hp v

set_option maxRecDepth 100000 in
set_option maxHeartbeats 8000000 in
theorem emitRound_ok (c : Cfg) (hC : okC c = true) (a : Option Addr) (n cap : Nat) (zs : List Int) (hn : zs.length = n) (bz : ∀ z ∈ zs, 0 ≤ z ∧ z ≤ 255) (h10 : (n : Int) = c.cB + 10) (w : World) (hF : Firsts w) (ha : Holds .u8 w.heap.size w (.slice a n cap) zs) :
    Calls Tryd.prog 22 #[.agg #[.int .i64 c.cB, .int .i64 c.cBeam, .int .i64 c.cDepth, .int .i64 c.cWin, .int .i64 c.cQs, .int .i64 c.cQr, .int .i64 c.cBatch, .int .i64 c.cPass, .int .i64 c.cMsg, .int .i64 c.cSeqs], .slice a n cap] w fun e W' => ∃ ra rc, e = .returned (.tuple #[.slice ra (mostC c).toNat rc, .bool true]) ∧ W'.ownsRow w.heap.size 5 1 (.slice ra (mostC c).toNat rc) (mostC c).toNat ((codeL zs 0 (mostC c).toNat).map (Value.int .u8)) ∧ Below w.heap.size w W' := by
  have hcb := ((okC_iff c).1 hC).1
  have hbt := ((okC_iff c).1 hC).2.2.2.2.2.2.1
  have hm := mostC_bd hC
  have hm2 := mostC_le hC h10
  have htk := ticksC_bd hC
  have HC : Hid (okC c = true) := hC
  have HN : Hid (zs.length = n) := hn
  have HB : Hid (∀ z ∈ zs, 0 ≤ z ∧ z ≤ 255) := bz
  have H10 : Hid ((n : Int) = c.cB + 10) := h10
  have hE0 : errE c 3 0 0 n = 0 := errE_zero.2 ⟨hC, (okE_iff _ _ _ _ _).2 ⟨h10, by decide, by decide, by omega⟩⟩
  obtain ⟨MN, hMe⟩ : ∃ M : Nat, mostC c = (M : Int) := ⟨_, (Int.toNat_of_nonneg (by omega)).symm⟩
  have HME : Hid (mostC c = (MN : Int)) := hMe
  rw [hMe] at hm hm2 ⊢
  rw [show (MN : Int).toNat = MN from rfl]
  have HF0 : Hid (Firsts w) := hF
  have bb := (Below.refl w.heap.size w).alloc (Nat.le_refl _) (.cells #[.int .i64 c.cB, .int .i64 c.cBeam, .int .i64 c.cDepth, .int .i64 c.cWin, .int .i64 c.cQs, .int .i64 c.cQr, .int .i64 c.cBatch, .int .i64 c.cPass, .int .i64 c.cMsg, .int .i64 c.cSeqs] 23)
  have xc := Box.new w 23 #[.int .i64 c.cB, .int .i64 c.cBeam, .int .i64 c.cDepth, .int .i64 c.cWin, .int .i64 c.cQs, .int .i64 c.cQr, .int .i64 c.cBatch, .int .i64 c.cPass, .int .i64 c.cMsg, .int .i64 c.cSeqs]
  replace ha := ha.next bb
  replace hF := hF.next bb
  have HC1 := EmitNew_ok c 3 a n cap hE0 zs hn (by omega) (w.alloc (.cells #[.int .i64 c.cB, .int .i64 c.cBeam, .int .i64 c.cDepth, .int .i64 c.cWin, .int .i64 c.cQs, .int .i64 c.cQr, .int .i64 c.cBatch, .int .i64 c.cPass, .int .i64 c.cMsg, .int .i64 c.cSeqs] 23)) ha
  clear hE0 hC h10 hn bz hMe
  go_enter Tryd.func22, Tryd.ntmps22
  have cxc0 := xc.cell 0 _ rfl
  have cxc1 := xc.cell 1 _ rfl
  have cxc2 := xc.cell 2 _ rfl
  have cxc3 := xc.cell 3 _ rfl
  have cxc4 := xc.cell 4 _ rfl
  have cxc5 := xc.cell 5 _ rfl
  have cxc6 := xc.cell 6 _ rfl
  have cxc7 := xc.cell 7 _ rfl
  have cxc8 := xc.cell 8 _ rfl
  have cxc9 := xc.cell 9 _ rfl
  go_wp2_with fail
  refine (HC1).mono ?_
  rintro e w2 ⟨na0, nc0, rfl, on0, b9⟩
  clear cxc0 cxc1 cxc2 cxc3 cxc4 cxc5 cxc6 cxc7 cxc8 cxc9
  replace xc := xc.next b9
  replace hF := hF.next b9
  replace bb := bb.trans (b9.mono bb.size)
  clear b9
  clear HC1 ha
  have hy := holds_of_row on0
  clear on0
  have lxc2 := xc.lt
  have b9 : Below w2.heap.size w2 (w2.alloc (.cells #[.int .i64 3, .int .i64 0, .int .i64 0, .bool false, .slice na0 n nc0] 26)) := (Below.refl _ _).alloc (Nat.le_refl _) _
  have xx := Box.new w2 26 #[.int .i64 3, .int .i64 0, .int .i64 0, .bool false, .slice na0 n nc0]
  replace xc := xc.next b9
  replace hF := hF.next b9
  replace hy := hy.next b9
  replace bb := bb.trans (b9.mono bb.size)
  clear b9
  have HC1 := refTicks_any c HC.out (w2.alloc (.cells #[.int .i64 3, .int .i64 0, .int .i64 0, .bool false, .slice na0 n nc0] 26))
  obtain ⟨T, hTe⟩ : ∃ T : Nat, ticksC c = (T : Int) := ⟨(ticksC c).toNat, by omega⟩
  have HTE : Hid (ticksC c = (T : Int)) := hTe
  rw [hTe] at htk HC1
  clear hTe
  have cxc0 := xc.cell 0 _ rfl
  have cxc1 := xc.cell 1 _ rfl
  have cxc2 := xc.cell 2 _ rfl
  have cxc3 := xc.cell 3 _ rfl
  have cxc4 := xc.cell 4 _ rfl
  have cxc5 := xc.cell 5 _ rfl
  have cxc6 := xc.cell 6 _ rfl
  have cxc7 := xc.cell 7 _ rfl
  have cxc8 := xc.cell 8 _ rfl
  have cxc9 := xc.cell 9 _ rfl
  go_wp2_with fail
  refine (HC1).mono ?_
  rintro e w3 ⟨rfl, b9⟩
  clear cxc0 cxc1 cxc2 cxc3 cxc4 cxc5 cxc6 cxc7 cxc8 cxc9
  replace xc := xc.next b9
  replace hF := hF.next b9
  replace hy := hy.next b9
  replace xx := xx.next b9
  replace bb := bb.trans (b9.mono bb.size)
  clear b9
  clear HC1
  obtain ⟨Be, hBe⟩ : ∃ B, w2.heap.size = B := ⟨_, rfl⟩
  rw [hBe] at xx ⊢
  obtain ⟨D, hDe⟩ : ∃ D, w.heap.size = D := ⟨_, rfl⟩
  have HDE : Hid (w.heap.size = D) := hDe
  rw [hDe] at xc ⊢
  have hDB : D < Be := by omega
  clear hBe hDe lxc2
  have HT0 : Hid (atE c 0 = 0) := atE_zero HC.out
  go_wp2
  go_loopw [8, 10] (fun v i wr => ∃ j : Nat, j ≤ T ∧ i = .int .i64 (j : Int) ∧ (∃ va vc, v = .slice va (atE c j).toNat vc ∧ OwnB wr (Be + 1) (.slice va (atE c j).toNat vc) (atE c j).toNat (codeL zs 0 (atE c j).toNat)) ∧ ∃ ya yc, Box wr Be 26 #[.int .i64 3, .int .i64 0, .int .i64 (atE c j), .bool false, .slice ya n yc] ∧ Holds .u8 wr.heap.size wr (.slice ya n yc) zs ∧ Box wr D 23 #[.int .i64 c.cB, .int .i64 c.cBeam, .int .i64 c.cDepth, .int .i64 c.cWin, .int .i64 c.cQs, .int .i64 c.cQr, .int .i64 c.cBatch, .int .i64 c.cPass, .int .i64 c.cMsg, .int .i64 c.cSeqs] ∧ Below w.heap.size w wr) (fun _ i _ => T - (intOf i).toNat)
  case atStart => exact ⟨0, Nat.zero_le _, rfl, ⟨none, 0, by rw [HT0.out]; rfl, by rw [HT0.out]; exact rowB_nil _ _⟩, na0, nc0, by rw [HT0.out]; exact xx, hy, xc, bb⟩
  case round =>
    clear xx hy xc bb hF
    obtain ⟨j, hj, rfl, ⟨va, vc, rfl, oall⟩, ya, yc, xx, hy, xc, bb⟩ := hrel
    generalize wr = w20 at *
    have hF := HF0.out.next bb
    by_cases hlt : j < T
    · have hjT : (j : Int) < ticksC c := by rw [HTE.out]; omega
      have dj : decide ((j : Int) < (T : Int)) = true := decide_eq_true (by omega)
      have dj' : decide (j < T) = true := decide_eq_true hlt
      have hE : errE c 3 0 (atE c j) n = 0 := errE_zero.2 ⟨HC.out, (okE_iff _ _ _ _ _).2 ⟨H10.out, by decide, by decide, atE_bd HC.out j⟩⟩
      have HC1 := EmitTick_go c 3 0 (atE c j) ya n yc hE zs HN.out HB.out w20 hF hy
      rw [atE_emR HC.out hjT, atE_emF HC.out hjT, atE_next HC.out hjT] at HC1
      have hRD := em_right HC.out (s := 3) (r := 0) (f := atE c j) (zs := zs) (by rw [HN.out]; exact (errE_zero.1 hE).2)
      rw [atE_emR HC.out hjT, atE_emF HC.out hjT] at hRD
      have hPP : emP c 3 0 (atE c j) zs = packD 3 0 (atE c j) (emX c (atE c j) zs) := by unfold emP; rw [atE_emR HC.out hjT, atE_emF HC.out hjT]
      have hbd := atE_bd HC.out j
      have hnb := emN_bd HC.out hbd.1 hbd.2
      have hnx := atE_next HC.out hjT
      rw [atE_emF HC.out hjT, HME.out] at hnb
      rw [HME.out] at hbd
      have hjn := atE_join HC.out hjT zs
      have hXl := emX_len c (atE c j) zs
      have hXb := emX_bd c (atE c j) zs
      have hfl : (j : Int) < ticksC c - 1 → emN c (atE c j) = c.cBatch := atE_full HC.out
      obtain ⟨NN, hNN⟩ : ∃ x : Nat, emN c (atE c j) = (x : Int) := ⟨_, (Int.toNat_of_nonneg (by omega)).symm⟩
      obtain ⟨AT, hAT⟩ : ∃ x : Nat, atE c j = (x : Int) := ⟨_, (Int.toNat_of_nonneg (by omega)).symm⟩
      obtain ⟨X, hX⟩ : ∃ x, emX c (atE c j) zs = x := ⟨_, rfl⟩
      obtain ⟨A2, hA2⟩ : ∃ x, atE c (j + 1) = x := ⟨_, rfl⟩
      rw [hNN] at hfl
      rw [HTE.out] at hfl
      rw [hNN, hAT] at hnb hnx
      rw [hX, hAT, hA2] at hjn
      rw [hX, hNN] at hXl
      rw [hX] at hXb hRD hPP
      rw [hAT] at hRD hbd
      rw [hPP, hNN, hA2] at HC1
      rw [hAT] at HC1 xx oall ⊢
      rw [hA2] at hnx
      rw [show (NN : Int).toNat = NN from rfl] at HC1 hXl
      rw [show (AT : Int).toNat = AT from rfl] at hjn oall ⊢
      have HA2 : Hid (atE c (j + 1) = A2) := hA2
      have HRD : Hid (RightD 3 0 (AT : Int) X) := hRD
      have HXL : Hid (X.length = NN) := hXl
      have HXB : Hid (∀ z ∈ X, 0 ≤ z ∧ z ≤ 255) := hXb
      obtain ⟨AN, hAN⟩ : ∃ x, AT + NN = x := ⟨_, rfl⟩
      obtain rfl : A2 = (AN : Int) := by omega
      rw [show (AN : Int).toNat = AN from rfl] at hjn
      have HJN : Hid (codeL zs 0 AT ++ X = codeL zs 0 AN) := hjn
      have HAN : Hid (AT + NN = AN) := hAN
      have d6 : decide (c.cBatch < (NN : Int)) = false := decide_eq_false (by omega)
      have dAT : ((AT : Int) != (AT : Int)) = false := by simp
      have hNN1 : 1 ≤ NN := by omega
      have hNN64 : NN ≤ 64 := by omega
      have hAM : AN ≤ MN := by omega
      have eT1 : IntKind.i64.wrap ((T : Int) - 1) = (T : Int) - 1 := by rw [IntKind.wrap_i64]; omega
      have HLA : Hid (∀ q, (Value.slice va AT vc).ownBlock = some q → q < w20.heap.size) := fun q e => (oall.row.lt q e).2
      have HLB : Hid (∀ q, (Value.slice va AT vc).ownBlock = some q → Be + 1 ≤ q) := fun q e => (oall.row.lt q e).1
      have HSZ0 : Hid (Be < w20.heap.size) := xx.lt
      clear hE hRD hPP hjn hXl hXb hX hA2 hNN hAT hnx hjT hAN
      have cxc0 := xc.cell 0 _ rfl
      have cxc1 := xc.cell 1 _ rfl
      have cxc2 := xc.cell 2 _ rfl
      have cxc3 := xc.cell 3 _ rfl
      have cxc4 := xc.cell 4 _ rfl
      have cxc5 := xc.cell 5 _ rfl
      have cxc6 := xc.cell 6 _ rfl
      have cxc7 := xc.cell 7 _ rfl
      have cxc8 := xc.cell 8 _ rfl
      have cxc9 := xc.cell 9 _ rfl
      have cxx0 := xx.cell 0 _ rfl
      have cxx1 := xx.cell 1 _ rfl
      have cxx2 := xx.cell 2 _ rfl
      have cxx3 := xx.cell 3 _ rfl
      have cxx4 := xx.cell 4 _ rfl
      go_wp2_with fail
      refine (HC1).mono ?_
      rintro e w21 ⟨na, nc, qa, qc, rfl, on, oq, _, b9⟩
      clear cxc0 cxc1 cxc2 cxc3 cxc4 cxc5 cxc6 cxc7 cxc8 cxc9
      clear cxx0 cxx1 cxx2 cxx3 cxx4
      clear HC1
      have HS21 : Hid (w20.heap.size ≤ w21.heap.size) := b9.size
      replace xx := xx.next b9
      replace hy := hy.next b9
      replace xc := xc.next b9
      replace oall := oall.next b9
      replace hF := hF.next b9
      replace bb := bb.trans (b9.mono bb.size)
      clear b9
      have HLN : Hid (∀ q, (Value.slice na n nc).ownBlock = some q → w20.heap.size ≤ q) := fun q e => (on.lt q e).1
      have onx : OwnB w21 (Be + 1) (.slice na n nc) n zs := row_base on (by have := HSZ0.out; omega)
      have hq := holds_of_row oq
      have hqc := row_cap oq
      clear on oq
      have b9 : Below w21.heap.size w21 (w21.alloc (.cells #[.int .i64 3, .int .i64 0, .int .i64 (AN : Int), .bool false, .slice na n nc] 26)) := (Below.refl _ _).alloc (Nat.le_refl _) _
      have xn := Box.new w21 26 #[.int .i64 3, .int .i64 0, .int .i64 (AN : Int), .bool false, .slice na n nc]
      replace xx := xx.next b9
      replace hy := hy.next b9
      replace xc := xc.next b9
      replace oall := oall.next b9
      replace hF := hF.next b9
      replace onx := onx.next b9
      replace hq := hq.next b9
      replace bb := bb.trans (b9.mono bb.size)
      clear b9
      have HC1 := DataRead_ok qa qc (packD 3 0 (AT : Int) X) (by rw [packD_len, HXL.out]; exact hqc) (packD_bd HRD.out HXB.out) (okD_pack HRD.out) (w21.alloc (.cells #[.int .i64 3, .int .i64 0, .int .i64 (AN : Int), .bool false, .slice na n nc] 26)) (by rw [packD_len, HXL.out]; exact hq)
      rw [packD_len, dS_pack HRD.out, dR_pack, dF_pack HRD.out, dX_pack, HXL.out] at HC1
      go_wp2_with fail
      refine (HC1).mono ?_
      rintro e w22 ⟨xa, xk, rfl, ox, b9⟩
      clear HC1
      have HS22 : Hid (w21.heap.size < w22.heap.size) := by have := b9.size; simp at this; show _ < _; omega
      replace xx := xx.next b9
      replace hy := hy.next b9
      replace xc := xc.next b9
      replace oall := oall.next b9
      replace hF := hF.next b9
      replace onx := onx.next b9
      replace hq := hq.next b9
      replace xn := xn.next b9
      replace bb := bb.trans (b9.mono bb.size)
      clear b9
      have hx := holds_of_row ox
      clear ox hq hqc
      have b9 : Below w22.heap.size w22 (w22.alloc (.cells #[.int .i64 3, .int .i64 0, .int .i64 (AT : Int), .slice xa NN xk] 47)) := (Below.refl _ _).alloc (Nat.le_refl _) _
      have xd := Box.new w22 47 #[.int .i64 3, .int .i64 0, .int .i64 (AT : Int), .slice xa NN xk]
      replace xx := xx.next b9
      replace hy := hy.next b9
      replace xc := xc.next b9
      replace oall := oall.next b9
      replace hF := hF.next b9
      replace onx := onx.next b9
      replace xn := xn.next b9
      replace hx := hx.next b9
      replace bb := bb.trans (b9.mono bb.size)
      clear b9
      by_cases hlast : (j : Int) < (T : Int) - 1
      · have dl : decide ((j : Int) < (T : Int) - 1) = true := decide_eq_true (by omega)
        have dn : ((NN : Int) != c.cBatch) = false := by rw [bne_eq_false_iff_eq]; exact hfl (by omega)
        clear hfl
        have cxd0 := xd.cell 0 _ rfl
        have cxd1 := xd.cell 1 _ rfl
        have cxd2 := xd.cell 2 _ rfl
        have cxd3 := xd.cell 3 _ rfl
        have cxc0 := xc.cell 0 _ rfl
        have cxc1 := xc.cell 1 _ rfl
        have cxc2 := xc.cell 2 _ rfl
        have cxc3 := xc.cell 3 _ rfl
        have cxc4 := xc.cell 4 _ rfl
        have cxc5 := xc.cell 5 _ rfl
        have cxc6 := xc.cell 6 _ rfl
        have cxc7 := xc.cell 7 _ rfl
        have cxc8 := xc.cell 8 _ rfl
        have cxc9 := xc.cell 9 _ rfl
        have lxd := xd.lt
        have lxc := xc.lt
        go_wp2
        clear cxd0 cxd1 cxd2 cxd3
        clear cxc0 cxc1 cxc2 cxc3 cxc4 cxc5 cxc6 cxc7 cxc8 cxc9
        generalize w22.alloc (.cells #[.int .i64 3, .int .i64 0, .int .i64 (AT : Int), .slice xa NN xk] 47) = w23 at *
        clear lxd lxc
        obtain ⟨Bd, hBd⟩ : ∃ B, w22.heap.size = B := ⟨_, rfl⟩
        obtain ⟨Bn, hBn⟩ : ∃ B, w21.heap.size = B := ⟨_, rfl⟩
        have HBd : Hid (w22.heap.size = Bd) := hBd
        have HBn : Hid (w21.heap.size = Bn) := hBn
        rw [hBd] at xd ⊢
        rw [hBn] at xn ⊢
        clear hBd hBn
        refine wp_region_held_drew (S := fun w' => Box w' Bn 26 #[.int .i64 3, .int .i64 0, .int .i64 (AN : Int), .bool false, .slice na n nc] ∧ Box w' Bd 47 #[.int .i64 3, .int .i64 0, .int .i64 (AT : Int), .slice xa NN xk]) (by kernel_rfl) (And.intro xn xd) (fun hHeld => ?_)
        refine held_take (i := 0) (d := 78) (v := ?v1) rfl rfl (by kernel_rfl) (by kernel_rfl) (by kernel_rfl) (fun _ _ _ h => h) (Or.inl ⟨by kernel_rfl, ?hy1⟩) hHeld ?rest1
        case hy1 =>
          intro wx hSw
          clear hSw
          go_simp
          with_reducible rfl
        simp only [List.setIfInBounds_toArray, List.set_cons_zero, List.set_cons_succ]
        refine held_take (i := 1) (d := 79) (v := ?v2) rfl rfl (by kernel_rfl) (by kernel_rfl) (by kernel_rfl) (fun _ _ _ h => h) (Or.inl ⟨by kernel_rfl, ?hy2⟩) hHeld ?rest2
        case hy2 =>
          intro wx hSw
          clear hSw
          go_simp
          with_reducible rfl
        simp only [List.setIfInBounds_toArray, List.set_cons_zero, List.set_cons_succ]
        refine held_take (i := 2) (d := 80) (v := ?v3) rfl rfl (by kernel_rfl) (by kernel_rfl) (by kernel_rfl) (fun _ _ _ h => h) (Or.inl ⟨by kernel_rfl, ?hy3⟩) hHeld ?rest3
        case hy3 =>
          intro wx hSw
          have q0 := hSw.2.cell 3 _ rfl
          clear hSw
          go_simp
          with_reducible rfl
        simp only [List.setIfInBounds_toArray, List.set_cons_zero, List.set_cons_succ]
        refine held_take (i := 4) (d := 82) (v := ?v4) rfl rfl (by kernel_rfl) (by kernel_rfl) (by kernel_rfl) (fun _ _ _ h => h) (Or.inl ⟨by kernel_rfl, ?hy4⟩) hHeld ?rest4
        case hy4 =>
          intro wx hSw
          have q0 := hSw.1.cell 0 _ rfl
          have q1 := hSw.1.cell 1 _ rfl
          have q2 := hSw.1.cell 2 _ rfl
          have q3 := hSw.1.cell 3 _ rfl
          have q4 := hSw.1.cell 4 _ rfl
          clear hSw
          go_simp
          with_reducible rfl
        simp only [List.setIfInBounds_toArray, List.set_cons_zero, List.set_cons_succ]
        refine wpAnyH_ready (rs := [3]) (by kernel_rfl) (by simp) ?_
        refine AllReadyH.cons rfl (fun K hK => ?_) AllReadyH.nil
        obtain ⟨v9, w30, hr9, o9, g9⟩ := run_append_u8 _ _ AT (Be + 1) _ _ _ 24 w23.drew oall.row (show Holds .u8 w23.heap.size w23.drew (.slice xa NN xk) X from hx) (show Be + 1 ≤ w23.heap.size from xx.lt) (by omega) (by rw [HXL.out]; omega)
        rw [HXL.out, HAN.out, HJN.out] at o9
        obtain ⟨ua, uc, rfl⟩ := row_shapeP o9
        have nBn : some Bn ≠ (Value.slice va AT vc).ownBlock := fun e => by have h1 := HLA.out Bn e.symm; have h2 := HS21.out; have h3 := HBn.out; omega
        have nBd : some Bd ≠ (Value.slice va AT vc).ownBlock := fun e => by have h1 := HLA.out Bd e.symm; have h2 := HS21.out; have h3 := HS22.out; have h4 := HBd.out; omega
        have nBe : some Be ≠ (Value.slice va AT vc).ownBlock := fun e => by have h1 := HLB.out Be e.symm; omega
        have nD : some D ≠ (Value.slice va AT vc).ownBlock := fun e => by have h1 := HLB.out D e.symm; omega
        have SS := And.intro (hHeld.1.grownE g9 nBn) (hHeld.2.grownE g9 nBd)
        have yx := Box.grownE (show Box w23.drew Be 26 #[.int .i64 3, .int .i64 0, .int .i64 (AT : Int), .bool false, .slice ya n yc] from xx) g9 nBe
        have yc_ := Box.grownE (show Box w23.drew D 23 #[.int .i64 c.cB, .int .i64 c.cBeam, .int .i64 c.cDepth, .int .i64 c.cWin, .int .i64 c.cQs, .int .i64 c.cQr, .int .i64 c.cBatch, .int .i64 c.cPass, .int .i64 c.cMsg, .int .i64 c.cSeqs] from xc) g9 nD
        have on2 : OwnB w30 (Be + 1) (.slice na n nc) n zs := row_same (show OwnB w23.drew (Be + 1) (.slice na n nc) n zs from onx) (fun q hq => g9.block q (onx.row.lt q hq).2 (fun e => by have h1 := HLN.out q hq; have h2 := HLA.out q e.symm; omega))
        have bb2 : Below w.heap.size w w30 := bb.drew.trans ((Below.refl _ _).grown g9 (by have := bb.size; exact this) (fun q e => by have h1 := HLB.out q e; have h2 := HDE.out; omega))
        refine step_append_known rfl _ _ 24 rfl _ _ rfl rfl _ _ hr9 ?_
        simp only [Act.put, List.setIfInBounds_toArray]
        clear hr9
        refine hK.out _ _ (SS) (fun hHeld => ?_)
        clear hK K
        refine held_take (i := 5) (d := 8) (v := ?v5) rfl rfl (by kernel_rfl) (by kernel_rfl) (by kernel_rfl) (fun _ _ _ h => h) (Or.inl ⟨by kernel_rfl, ?hy5⟩) hHeld ?rest5
        case hy5 =>
          intro wx hSw
          clear hSw
          go_simp
          with_reducible rfl
        simp only [List.setIfInBounds_toArray, List.set_cons_zero, List.set_cons_succ]
        refine wpAnyH_ready (rs := [6]) (by kernel_rfl) (by simp) ?_
        refine AllReadyH.cons rfl (fun K hK => ?_) AllReadyH.nil
        have z0 := yx.cell 0 _ rfl
        have z1 := yx.cell 1 _ rfl
        have z2 := yx.cell 2 _ rfl
        have z3 := yx.cell 3 _ rfl
        have z4 := yx.cell 4 _ rfl
        have f0 := yx.free 0
        have f1 := yx.free 1
        have f2 := yx.free 2
        have f3 := yx.free 3
        have f4 := yx.free 4
        have nnB : Bn ≠ Be := by have h1 := HSZ0.out; have h2 := HS21.out; have h3 := HBn.out; omega
        have nnD : Bd ≠ Be := by have h1 := HSZ0.out; have h2 := HS21.out; have h3 := HS22.out; have h4 := HBd.out; omega
        go_simp
        refine hK.out _ _ (And.intro (box_other5 hHeld.1 nnB _ _ _ _ _) (box_other5 hHeld.2 nnD _ _ _ _ _)) (fun hHeld => ?_)
        clear hK K
        refine wpAnyH_done (by kernel_rfl) ?_ _
        go_wp2
        exact ⟨⟨j + 1, by omega, by go_num, ⟨ua, uc, by rw [HA2.out]; rfl, by rw [HA2.out]; exact row_set5 o9 (Nat.lt_succ_self _) _ _ _ _ _⟩, na, nc, by rw [HA2.out]; exact box_set5 yx _ _ _ _ _, holds_of_row (row_set5 on2.row (Nat.lt_succ_self _) _ _ _ _ _), box_other5 yc_ (by omega) _ _ _ _ _, below_set5 bb2 (by have := HDE.out; omega) _ _ _ _ _⟩, by simp [intOf]; omega⟩
      · have dl : decide ((j : Int) < (T : Int) - 1) = false := decide_eq_false (by omega)
        clear hfl
        have cxd0 := xd.cell 0 _ rfl
        have cxd1 := xd.cell 1 _ rfl
        have cxd2 := xd.cell 2 _ rfl
        have cxd3 := xd.cell 3 _ rfl
        have cxc0 := xc.cell 0 _ rfl
        have cxc1 := xc.cell 1 _ rfl
        have cxc2 := xc.cell 2 _ rfl
        have cxc3 := xc.cell 3 _ rfl
        have cxc4 := xc.cell 4 _ rfl
        have cxc5 := xc.cell 5 _ rfl
        have cxc6 := xc.cell 6 _ rfl
        have cxc7 := xc.cell 7 _ rfl
        have cxc8 := xc.cell 8 _ rfl
        have cxc9 := xc.cell 9 _ rfl
        have lxd := xd.lt
        have lxc := xc.lt
        go_wp2
        clear cxd0 cxd1 cxd2 cxd3
        clear cxc0 cxc1 cxc2 cxc3 cxc4 cxc5 cxc6 cxc7 cxc8 cxc9
        generalize w22.alloc (.cells #[.int .i64 3, .int .i64 0, .int .i64 (AT : Int), .slice xa NN xk] 47) = w23 at *
        clear lxd lxc
        obtain ⟨Bd, hBd⟩ : ∃ B, w22.heap.size = B := ⟨_, rfl⟩
        obtain ⟨Bn, hBn⟩ : ∃ B, w21.heap.size = B := ⟨_, rfl⟩
        have HBd : Hid (w22.heap.size = Bd) := hBd
        have HBn : Hid (w21.heap.size = Bn) := hBn
        rw [hBd] at xd ⊢
        rw [hBn] at xn ⊢
        clear hBd hBn
        refine wp_region_held_drew (S := fun w' => Box w' Bn 26 #[.int .i64 3, .int .i64 0, .int .i64 (AN : Int), .bool false, .slice na n nc] ∧ Box w' Bd 47 #[.int .i64 3, .int .i64 0, .int .i64 (AT : Int), .slice xa NN xk]) (by kernel_rfl) (And.intro xn xd) (fun hHeld => ?_)
        refine held_take (i := 0) (d := 78) (v := ?v6) rfl rfl (by kernel_rfl) (by kernel_rfl) (by kernel_rfl) (fun _ _ _ h => h) (Or.inl ⟨by kernel_rfl, ?hy6⟩) hHeld ?rest6
        case hy6 =>
          intro wx hSw
          clear hSw
          go_simp
          with_reducible rfl
        simp only [List.setIfInBounds_toArray, List.set_cons_zero, List.set_cons_succ]
        refine held_take (i := 1) (d := 79) (v := ?v7) rfl rfl (by kernel_rfl) (by kernel_rfl) (by kernel_rfl) (fun _ _ _ h => h) (Or.inl ⟨by kernel_rfl, ?hy7⟩) hHeld ?rest7
        case hy7 =>
          intro wx hSw
          clear hSw
          go_simp
          with_reducible rfl
        simp only [List.setIfInBounds_toArray, List.set_cons_zero, List.set_cons_succ]
        refine held_take (i := 2) (d := 80) (v := ?v8) rfl rfl (by kernel_rfl) (by kernel_rfl) (by kernel_rfl) (fun _ _ _ h => h) (Or.inl ⟨by kernel_rfl, ?hy8⟩) hHeld ?rest8
        case hy8 =>
          intro wx hSw
          have q0 := hSw.2.cell 3 _ rfl
          clear hSw
          go_simp
          with_reducible rfl
        simp only [List.setIfInBounds_toArray, List.set_cons_zero, List.set_cons_succ]
        refine held_take (i := 4) (d := 82) (v := ?v9) rfl rfl (by kernel_rfl) (by kernel_rfl) (by kernel_rfl) (fun _ _ _ h => h) (Or.inl ⟨by kernel_rfl, ?hy9⟩) hHeld ?rest9
        case hy9 =>
          intro wx hSw
          have q0 := hSw.1.cell 0 _ rfl
          have q1 := hSw.1.cell 1 _ rfl
          have q2 := hSw.1.cell 2 _ rfl
          have q3 := hSw.1.cell 3 _ rfl
          have q4 := hSw.1.cell 4 _ rfl
          clear hSw
          go_simp
          with_reducible rfl
        simp only [List.setIfInBounds_toArray, List.set_cons_zero, List.set_cons_succ]
        refine wpAnyH_ready (rs := [3]) (by kernel_rfl) (by simp) ?_
        refine AllReadyH.cons rfl (fun K hK => ?_) AllReadyH.nil
        obtain ⟨v9, w30, hr9, o9, g9⟩ := run_append_u8 _ _ AT (Be + 1) _ _ _ 24 w23.drew oall.row (show Holds .u8 w23.heap.size w23.drew (.slice xa NN xk) X from hx) (show Be + 1 ≤ w23.heap.size from xx.lt) (by omega) (by rw [HXL.out]; omega)
        rw [HXL.out, HAN.out, HJN.out] at o9
        obtain ⟨ua, uc, rfl⟩ := row_shapeP o9
        have nBn : some Bn ≠ (Value.slice va AT vc).ownBlock := fun e => by have h1 := HLA.out Bn e.symm; have h2 := HS21.out; have h3 := HBn.out; omega
        have nBd : some Bd ≠ (Value.slice va AT vc).ownBlock := fun e => by have h1 := HLA.out Bd e.symm; have h2 := HS21.out; have h3 := HS22.out; have h4 := HBd.out; omega
        have nBe : some Be ≠ (Value.slice va AT vc).ownBlock := fun e => by have h1 := HLB.out Be e.symm; omega
        have nD : some D ≠ (Value.slice va AT vc).ownBlock := fun e => by have h1 := HLB.out D e.symm; omega
        have SS := And.intro (hHeld.1.grownE g9 nBn) (hHeld.2.grownE g9 nBd)
        have yx := Box.grownE (show Box w23.drew Be 26 #[.int .i64 3, .int .i64 0, .int .i64 (AT : Int), .bool false, .slice ya n yc] from xx) g9 nBe
        have yc_ := Box.grownE (show Box w23.drew D 23 #[.int .i64 c.cB, .int .i64 c.cBeam, .int .i64 c.cDepth, .int .i64 c.cWin, .int .i64 c.cQs, .int .i64 c.cQr, .int .i64 c.cBatch, .int .i64 c.cPass, .int .i64 c.cMsg, .int .i64 c.cSeqs] from xc) g9 nD
        have on2 : OwnB w30 (Be + 1) (.slice na n nc) n zs := row_same (show OwnB w23.drew (Be + 1) (.slice na n nc) n zs from onx) (fun q hq => g9.block q (onx.row.lt q hq).2 (fun e => by have h1 := HLN.out q hq; have h2 := HLA.out q e.symm; omega))
        have bb2 : Below w.heap.size w w30 := bb.drew.trans ((Below.refl _ _).grown g9 (by have := bb.size; exact this) (fun q e => by have h1 := HLB.out q e; have h2 := HDE.out; omega))
        refine step_append_known rfl _ _ 24 rfl _ _ rfl rfl _ _ hr9 ?_
        simp only [Act.put, List.setIfInBounds_toArray]
        clear hr9
        refine hK.out _ _ (SS) (fun hHeld => ?_)
        clear hK K
        refine held_take (i := 5) (d := 8) (v := ?v10) rfl rfl (by kernel_rfl) (by kernel_rfl) (by kernel_rfl) (fun _ _ _ h => h) (Or.inl ⟨by kernel_rfl, ?hy10⟩) hHeld ?rest10
        case hy10 =>
          intro wx hSw
          clear hSw
          go_simp
          with_reducible rfl
        simp only [List.setIfInBounds_toArray, List.set_cons_zero, List.set_cons_succ]
        refine wpAnyH_ready (rs := [6]) (by kernel_rfl) (by simp) ?_
        refine AllReadyH.cons rfl (fun K hK => ?_) AllReadyH.nil
        have z0 := yx.cell 0 _ rfl
        have z1 := yx.cell 1 _ rfl
        have z2 := yx.cell 2 _ rfl
        have z3 := yx.cell 3 _ rfl
        have z4 := yx.cell 4 _ rfl
        have f0 := yx.free 0
        have f1 := yx.free 1
        have f2 := yx.free 2
        have f3 := yx.free 3
        have f4 := yx.free 4
        have nnB : Bn ≠ Be := by have h1 := HSZ0.out; have h2 := HS21.out; have h3 := HBn.out; omega
        have nnD : Bd ≠ Be := by have h1 := HSZ0.out; have h2 := HS21.out; have h3 := HS22.out; have h4 := HBd.out; omega
        go_simp
        refine hK.out _ _ (And.intro (box_other5 hHeld.1 nnB _ _ _ _ _) (box_other5 hHeld.2 nnD _ _ _ _ _)) (fun hHeld => ?_)
        clear hK K
        refine wpAnyH_done (by kernel_rfl) ?_ _
        go_wp2
        exact ⟨⟨j + 1, by omega, by go_num, ⟨ua, uc, by rw [HA2.out]; rfl, by rw [HA2.out]; exact row_set5 o9 (Nat.lt_succ_self _) _ _ _ _ _⟩, na, nc, by rw [HA2.out]; exact box_set5 yx _ _ _ _ _, holds_of_row (row_set5 on2.row (Nat.lt_succ_self _) _ _ _ _ _), box_other5 yc_ (by omega) _ _ _ _ _, below_set5 bb2 (by have := HDE.out; omega) _ _ _ _ _⟩, by simp [intOf]; omega⟩
    · obtain rfl : j = T := by omega
      have dj : decide ((j : Int) < (j : Int)) = false := decide_eq_false (by omega)
      have dj' : decide (j < j) = false := decide_eq_false (by omega)
      have eAT : atE c j = (MN : Int) := (atE_end HC.out (by rw [HTE.out])).trans HME.out
      rw [eAT, show (MN : Int).toNat = MN from rfl] at oall ⊢
      clear eAT
      go_wp2
      go_ret2
      exact ⟨va, vc, rfl, row_base oall.row (by have := HDE.out; omega), bb⟩

end Go.Proofs.YtnecdbmdgpoogaaDoor

/-
  EmitBatches: the walk: whatever the configuration, the number and the block, the law answers true, and nothing that lay has turned. (Written by tpl_emitbatches.py.)
-/
namespace Go.Proofs.YtnecdbmdgpoogaaDoor
open Go.RowKit

theorem ok_batch {c : Cfg} (h : okC c = true) {r : Int} (h0 : 0 ≤ r) (h1 : r < 64) : okC (Cfg.mk c.cB c.cBeam c.cDepth c.cWin c.cQs c.cQr (1 + r) c.cPass c.cMsg c.cSeqs) = true := by
  have := (okC_iff c).1 h
  exact (okC_iff _).2 ⟨this.1, this.2.1, this.2.2.1, this.2.2.2.1, this.2.2.2.2.1, this.2.2.2.2.2.1, ⟨by show 1 ≤ 1 + r; omega, by show 1 + r ≤ 64; omega⟩, this.2.2.2.2.2.2.2.1, this.2.2.2.2.2.2.2.2.1, this.2.2.2.2.2.2.2.2.2⟩

set_option maxRecDepth 100000 in
set_option maxHeartbeats 8000000 in
theorem emitBatches_ok (c : Cfg) (hC : okC c = true) (x1 : Int) (a : Option Addr) (n cap : Nat) (zs : List Int) (hn : zs.length = n) (bz : ∀ z ∈ zs, 0 ≤ z ∧ z ≤ 255) (h10 : (n : Int) = c.cB + 10) (w : World) (hF : Firsts w) (ha : Holds .u8 w.heap.size w (.slice a n cap) zs) :
    Calls Tryd.prog 5 #[.agg #[.int .i64 c.cB, .int .i64 c.cBeam, .int .i64 c.cDepth, .int .i64 c.cWin, .int .i64 c.cQs, .int .i64 c.cQr, .int .i64 c.cBatch, .int .i64 c.cPass, .int .i64 c.cMsg, .int .i64 c.cSeqs], .int .i64 x1, .slice a n cap] w fun e w' => e = .returned (.bool true) ∧ Below w.heap.size w w' := by
  have hcb := ((okC_iff c).1 hC).1
  have hm := mostC_bd hC
  obtain ⟨r, hr, hr0, hr1⟩ := mod_u64 x1 64 (by decide) (by decide)
  have HC : Hid (okC c = true) := hC
  have HC2 := ok_batch hC hr0 hr1
  have eW : IntKind.i64.wrap (c.cB + 10) = c.cB + 10 := by rw [IntKind.wrap_i64]; omega
  have d1 : ((n : Int) != c.cB + 10) = false := by rw [bne_eq_false_iff_eq]; exact h10
  have eW2 : IntKind.i64.wrap (1 + r) = 1 + r := by rw [IntKind.wrap_i64]; omega
  obtain ⟨MN, hMe⟩ : ∃ M : Nat, mostC c = (M : Int) := ⟨_, (Int.toNat_of_nonneg (by omega)).symm⟩
  have HME : Hid (mostC c = (MN : Int)) := hMe
  rw [hMe] at hm
  have HR1 : Hid (∀ wx : World, Firsts wx → Holds .u8 wx.heap.size wx (.slice a n cap) zs → Calls Tryd.prog 22 #[.agg #[.int .i64 c.cB, .int .i64 c.cBeam, .int .i64 c.cDepth, .int .i64 c.cWin, .int .i64 c.cQs, .int .i64 c.cQr, .int .i64 c.cBatch, .int .i64 c.cPass, .int .i64 c.cMsg, .int .i64 c.cSeqs], .slice a n cap] wx fun e W' => ∃ ra rc, e = .returned (.tuple #[.slice ra MN rc, .bool true]) ∧ W'.ownsRow wx.heap.size 5 1 (.slice ra MN rc) MN ((codeL zs 0 MN).map (Value.int .u8)) ∧ Below wx.heap.size wx W') := fun wx hf hx => by
    have := emitRound_ok c hC a n cap zs hn bz h10 wx hf hx
    rw [hMe, show (MN : Int).toNat = MN from rfl] at this
    exact this
  have HR2 : Hid (∀ wx : World, Firsts wx → Holds .u8 wx.heap.size wx (.slice a n cap) zs → Calls Tryd.prog 22 #[.agg #[.int .i64 c.cB, .int .i64 c.cBeam, .int .i64 c.cDepth, .int .i64 c.cWin, .int .i64 c.cQs, .int .i64 c.cQr, .int .i64 (1 + r), .int .i64 c.cPass, .int .i64 c.cMsg, .int .i64 c.cSeqs], .slice a n cap] wx fun e W' => ∃ ra rc, e = .returned (.tuple #[.slice ra MN rc, .bool true]) ∧ W'.ownsRow wx.heap.size 5 1 (.slice ra MN rc) MN ((codeL zs 0 MN).map (Value.int .u8)) ∧ Below wx.heap.size wx W') := fun wx hf hx => by
    have := emitRound_ok (Cfg.mk c.cB c.cBeam c.cDepth c.cWin c.cQs c.cQr (1 + r) c.cPass c.cMsg c.cSeqs) HC2 a n cap zs hn bz h10 wx hf hx
    rw [show mostC (Cfg.mk c.cB c.cBeam c.cDepth c.cWin c.cQs c.cQr (1 + r) c.cPass c.cMsg c.cSeqs) = (MN : Int) from hMe, show (MN : Int).toNat = MN from rfl] at this
    exact this
  have bb := (Below.refl w.heap.size w).alloc (Nat.le_refl _) (.cells #[.int .i64 c.cB, .int .i64 c.cBeam, .int .i64 c.cDepth, .int .i64 c.cWin, .int .i64 c.cQs, .int .i64 c.cQr, .int .i64 c.cBatch, .int .i64 c.cPass, .int .i64 c.cMsg, .int .i64 c.cSeqs] 23)
  have xc := Box.new w 23 #[.int .i64 c.cB, .int .i64 c.cBeam, .int .i64 c.cDepth, .int .i64 c.cWin, .int .i64 c.cQs, .int .i64 c.cQr, .int .i64 c.cBatch, .int .i64 c.cPass, .int .i64 c.cMsg, .int .i64 c.cSeqs]
  replace ha := ha.next bb
  replace hF := hF.next bb
  have HC1 := refConfig_any c (w.alloc (.cells #[.int .i64 c.cB, .int .i64 c.cBeam, .int .i64 c.cDepth, .int .i64 c.cWin, .int .i64 c.cQs, .int .i64 c.cQr, .int .i64 c.cBatch, .int .i64 c.cPass, .int .i64 c.cMsg, .int .i64 c.cSeqs] 23))
  rw [hC] at HC1
  clear hC h10 hn bz HC2 hMe
  go_enter Tryd.func5, Tryd.ntmps5
  have cxc0 := xc.cell 0 _ rfl
  have cxc1 := xc.cell 1 _ rfl
  have cxc2 := xc.cell 2 _ rfl
  have cxc3 := xc.cell 3 _ rfl
  have cxc4 := xc.cell 4 _ rfl
  have cxc5 := xc.cell 5 _ rfl
  have cxc6 := xc.cell 6 _ rfl
  have cxc7 := xc.cell 7 _ rfl
  have cxc8 := xc.cell 8 _ rfl
  have cxc9 := xc.cell 9 _ rfl
  go_wp2_with fail
  refine (HC1).mono ?_
  rintro e w2 ⟨rfl, b9⟩
  clear cxc0 cxc1 cxc2 cxc3 cxc4 cxc5 cxc6 cxc7 cxc8 cxc9
  replace xc := xc.next b9
  replace ha := ha.next b9
  replace hF := hF.next b9
  replace bb := bb.trans (b9.mono bb.size)
  clear b9
  clear HC1
  have k0 := xc.cell 0 _ rfl
  have k1 := xc.cell 1 _ rfl
  have k2 := xc.cell 2 _ rfl
  have k3 := xc.cell 3 _ rfl
  have k4 := xc.cell 4 _ rfl
  have k5 := xc.cell 5 _ rfl
  have k6 := xc.cell 6 _ rfl
  have k7 := xc.cell 7 _ rfl
  have k8 := xc.cell 8 _ rfl
  have k9 := xc.cell 9 _ rfl
  have lxc2 := xc.lt
  have b9 : Below w2.heap.size w2 (w2.alloc (.cells #[.int .i64 c.cB, .int .i64 c.cBeam, .int .i64 c.cDepth, .int .i64 c.cWin, .int .i64 c.cQs, .int .i64 c.cQr, .int .i64 (1 + r), .int .i64 c.cPass, .int .i64 c.cMsg, .int .i64 c.cSeqs] 23)) := (Below.refl _ _).alloc (Nat.le_refl _) _
  have xd := Box.new w2 23 #[.int .i64 c.cB, .int .i64 c.cBeam, .int .i64 c.cDepth, .int .i64 c.cWin, .int .i64 c.cQs, .int .i64 c.cQr, .int .i64 (1 + r), .int .i64 c.cPass, .int .i64 c.cMsg, .int .i64 c.cSeqs]
  replace xc := xc.next b9
  replace ha := ha.next b9
  replace hF := hF.next b9
  replace bb := bb.trans (b9.mono bb.size)
  clear b9
  have HC1 := HR1.out (w2.alloc (.cells #[.int .i64 c.cB, .int .i64 c.cBeam, .int .i64 c.cDepth, .int .i64 c.cWin, .int .i64 c.cQs, .int .i64 c.cQr, .int .i64 (1 + r), .int .i64 c.cPass, .int .i64 c.cMsg, .int .i64 c.cSeqs] 23)) hF ha
  go_wp2_with fail
  refine HC1.mono ?_
  rintro e w3 ⟨ra, rc, rfl, oX, b9⟩
  clear HC1 k0 k1 k2 k3 k4 k5 k6 k7 k8 k9 lxc2
  replace xc := xc.next b9
  replace ha := ha.next b9
  replace hF := hF.next b9
  replace xd := xd.next b9
  replace bb := bb.trans (b9.mono bb.size)
  clear b9
  have oX : OwnB w3 0 (.slice ra MN rc) MN (codeL zs 0 MN) := row_base oX (Nat.zero_le _)
  have HC1 := HR2.out w3 hF ha
  have cxd0 := xd.cell 0 _ rfl
  have cxd1 := xd.cell 1 _ rfl
  have cxd2 := xd.cell 2 _ rfl
  have cxd3 := xd.cell 3 _ rfl
  have cxd4 := xd.cell 4 _ rfl
  have cxd5 := xd.cell 5 _ rfl
  have cxd6 := xd.cell 6 _ rfl
  have cxd7 := xd.cell 7 _ rfl
  have cxd8 := xd.cell 8 _ rfl
  have cxd9 := xd.cell 9 _ rfl
  go_wp2_with fail
  refine (HC1).mono ?_
  rintro e w4 ⟨qa, qc, rfl, oY, b9⟩
  clear cxd0 cxd1 cxd2 cxd3 cxd4 cxd5 cxd6 cxd7 cxd8 cxd9
  replace xc := xc.next b9
  replace ha := ha.next b9
  replace hF := hF.next b9
  replace xd := xd.next b9
  replace oX := oX.next b9
  replace bb := bb.trans (b9.mono bb.size)
  clear b9
  clear HC1
  have oY : OwnB w4 0 (.slice qa MN qc) MN (codeL zs 0 MN) := row_base oY (Nat.zero_le _)
  rcases id oX.row.2 with ⟨_, e0⟩ | ⟨gX, cX, _, eX, _⟩
  · omega
  cases eX
  rcases id oY.row.2 with ⟨_, e0⟩ | ⟨gY, cY, _, eY, _⟩
  · omega
  cases eY
  have k1 := run_convert_bytes_arg (P := Tryd.prog) w4 24 5 Tryd.underlying24 Tryd.underlying5 gX 0 MN rc (codeL zs 0 MN) (codeL_len _ _ _) (fun i hi => by
    have := oX.row.cells (g := gX) rfl i (.int .u8 ((codeL zs 0 MN)[i]?.getD 0)) (by simp [codeL_len, hi])
    rw [Addr.add_lit] at this
    simpa [List.getD] using this) 9 Tryd.underlying9
  have k2 := run_convert_bytes_arg (P := Tryd.prog) w4 24 5 Tryd.underlying24 Tryd.underlying5 gY 0 MN qc (codeL zs 0 MN) (codeL_len _ _ _) (fun i hi => by
    have := oY.row.cells (g := gY) rfl i (.int .u8 ((codeL zs 0 MN)[i]?.getD 0)) (by simp [codeL_len, hi])
    rw [Addr.add_lit] at this
    simpa [List.getD] using this) 9 Tryd.underlying9
  have HC1 := ConfMost_any c w4
  rw [show mostA c = (MN : Int) by unfold mostA; rw [if_pos HC.out, HME.out]] at HC1
  have dMM : ((MN : Int) == (MN : Int)) = true := by simp
  obtain ⟨SS, hSS⟩ : ∃ S, strOfNums (codeL zs 0 MN) = S := ⟨_, rfl⟩
  rw [hSS] at k1 k2
  clear hSS oY
  have cxc0 := xc.cell 0 _ rfl
  have cxc1 := xc.cell 1 _ rfl
  have cxc2 := xc.cell 2 _ rfl
  have cxc3 := xc.cell 3 _ rfl
  have cxc4 := xc.cell 4 _ rfl
  have cxc5 := xc.cell 5 _ rfl
  have cxc6 := xc.cell 6 _ rfl
  have cxc7 := xc.cell 7 _ rfl
  have cxc8 := xc.cell 8 _ rfl
  have cxc9 := xc.cell 9 _ rfl
  go_wp2_with fail
  refine (HC1).mono ?_
  rintro e w5 ⟨rfl, b9⟩
  clear cxc0 cxc1 cxc2 cxc3 cxc4 cxc5 cxc6 cxc7 cxc8 cxc9
  replace xc := xc.next b9
  replace ha := ha.next b9
  replace hF := hF.next b9
  replace xd := xd.next b9
  replace bb := bb.trans (b9.mono bb.size)
  clear b9
  clear HC1 k1 k2
  have HWK := emitWakes_any w5 hF
  go_wp2_with (go_at_call 13; refine HWK.mono ?_; rintro e w99 ⟨rfl, b99⟩)
  go_ret
  exact ⟨rfl, bb.trans (b99.mono bb.size)⟩

set_option maxRecDepth 100000 in
set_option maxHeartbeats 2000000 in
theorem emitBatches_outC (c : Cfg) (x1 : Int) (a : Option Addr) (n cap : Nat) (hC : okC c = false) (w : World) :
    Calls Tryd.prog 5 #[.agg #[.int .i64 c.cB, .int .i64 c.cBeam, .int .i64 c.cDepth, .int .i64 c.cWin, .int .i64 c.cQs, .int .i64 c.cQr, .int .i64 c.cBatch, .int .i64 c.cPass, .int .i64 c.cMsg, .int .i64 c.cSeqs], .int .i64 x1, .slice a n cap] w fun e w' => e = .returned (.bool true) ∧ Below w.heap.size w w' := by
  have bb := (Below.refl w.heap.size w).alloc (Nat.le_refl _) (.cells #[.int .i64 c.cB, .int .i64 c.cBeam, .int .i64 c.cDepth, .int .i64 c.cWin, .int .i64 c.cQs, .int .i64 c.cQr, .int .i64 c.cBatch, .int .i64 c.cPass, .int .i64 c.cMsg, .int .i64 c.cSeqs] 23)
  have y1 := Box.new w 23 #[.int .i64 c.cB, .int .i64 c.cBeam, .int .i64 c.cDepth, .int .i64 c.cWin, .int .i64 c.cQs, .int .i64 c.cQr, .int .i64 c.cBatch, .int .i64 c.cPass, .int .i64 c.cMsg, .int .i64 c.cSeqs]
  have HC1 := refConfig_any c (w.alloc (.cells #[.int .i64 c.cB, .int .i64 c.cBeam, .int .i64 c.cDepth, .int .i64 c.cWin, .int .i64 c.cQs, .int .i64 c.cQr, .int .i64 c.cBatch, .int .i64 c.cPass, .int .i64 c.cMsg, .int .i64 c.cSeqs] 23))
  rw [hC] at HC1
  clear hC
  go_enter Tryd.func5, Tryd.ntmps5
  have k0 := y1.cell 0 _ rfl
  have k1 := y1.cell 1 _ rfl
  have k2 := y1.cell 2 _ rfl
  have k3 := y1.cell 3 _ rfl
  have k4 := y1.cell 4 _ rfl
  have k5 := y1.cell 5 _ rfl
  have k6 := y1.cell 6 _ rfl
  have k7 := y1.cell 7 _ rfl
  have k8 := y1.cell 8 _ rfl
  have k9 := y1.cell 9 _ rfl
  go_wp2_with fail
  refine HC1.mono ?_
  rintro e w1 ⟨rfl, b9⟩
  replace y1 := y1.next b9
  clear HC1 k0 k1 k2 k3 k4 k5 k6 k7 k8 k9
  have k0 := y1.cell 0 _ rfl
  have k1 := y1.cell 1 _ rfl
  have k2 := y1.cell 2 _ rfl
  have k3 := y1.cell 3 _ rfl
  have k4 := y1.cell 4 _ rfl
  have k5 := y1.cell 5 _ rfl
  have k6 := y1.cell 6 _ rfl
  have k7 := y1.cell 7 _ rfl
  have k8 := y1.cell 8 _ rfl
  have k9 := y1.cell 9 _ rfl
  go_wp2
  go_ret
  exact ⟨rfl, bb.trans (b9.mono bb.size)⟩

set_option maxRecDepth 100000 in
set_option maxHeartbeats 2000000 in
theorem emitBatches_outN (c : Cfg) (x1 : Int) (a : Option Addr) (n cap : Nat) (hC : okC c = true) (h : (n : Int) ≠ c.cB + 10) (w : World) :
    Calls Tryd.prog 5 #[.agg #[.int .i64 c.cB, .int .i64 c.cBeam, .int .i64 c.cDepth, .int .i64 c.cWin, .int .i64 c.cQs, .int .i64 c.cQr, .int .i64 c.cBatch, .int .i64 c.cPass, .int .i64 c.cMsg, .int .i64 c.cSeqs], .int .i64 x1, .slice a n cap] w fun e w' => e = .returned (.bool true) ∧ Below w.heap.size w w' := by
  have bb := (Below.refl w.heap.size w).alloc (Nat.le_refl _) (.cells #[.int .i64 c.cB, .int .i64 c.cBeam, .int .i64 c.cDepth, .int .i64 c.cWin, .int .i64 c.cQs, .int .i64 c.cQr, .int .i64 c.cBatch, .int .i64 c.cPass, .int .i64 c.cMsg, .int .i64 c.cSeqs] 23)
  have y1 := Box.new w 23 #[.int .i64 c.cB, .int .i64 c.cBeam, .int .i64 c.cDepth, .int .i64 c.cWin, .int .i64 c.cQs, .int .i64 c.cQr, .int .i64 c.cBatch, .int .i64 c.cPass, .int .i64 c.cMsg, .int .i64 c.cSeqs]
  have HC1 := refConfig_any c (w.alloc (.cells #[.int .i64 c.cB, .int .i64 c.cBeam, .int .i64 c.cDepth, .int .i64 c.cWin, .int .i64 c.cQs, .int .i64 c.cQr, .int .i64 c.cBatch, .int .i64 c.cPass, .int .i64 c.cMsg, .int .i64 c.cSeqs] 23))
  rw [hC] at HC1
  have hcb := ((okC_iff c).1 hC).1
  have eW : IntKind.i64.wrap (c.cB + 10) = c.cB + 10 := by rw [IntKind.wrap_i64]; omega
  have d1 : ((n : Int) != c.cB + 10) = true := by rw [bne_iff_ne]; exact h
  clear hC h
  go_enter Tryd.func5, Tryd.ntmps5
  have k0 := y1.cell 0 _ rfl
  have k1 := y1.cell 1 _ rfl
  have k2 := y1.cell 2 _ rfl
  have k3 := y1.cell 3 _ rfl
  have k4 := y1.cell 4 _ rfl
  have k5 := y1.cell 5 _ rfl
  have k6 := y1.cell 6 _ rfl
  have k7 := y1.cell 7 _ rfl
  have k8 := y1.cell 8 _ rfl
  have k9 := y1.cell 9 _ rfl
  go_wp2_with fail
  refine HC1.mono ?_
  rintro e w1 ⟨rfl, b9⟩
  replace y1 := y1.next b9
  clear HC1 k0 k1 k2 k3 k4 k5 k6 k7 k8 k9
  have k0 := y1.cell 0 _ rfl
  have k1 := y1.cell 1 _ rfl
  have k2 := y1.cell 2 _ rfl
  have k3 := y1.cell 3 _ rfl
  have k4 := y1.cell 4 _ rfl
  have k5 := y1.cell 5 _ rfl
  have k6 := y1.cell 6 _ rfl
  have k7 := y1.cell 7 _ rfl
  have k8 := y1.cell 8 _ rfl
  have k9 := y1.cell 9 _ rfl
  go_wp2
  go_ret
  exact ⟨rfl, bb.trans (b9.mono bb.size)⟩

/-- The law, of whatever configuration, number and bytes. -/
theorem emitBatches_walk (c : Cfg) (x1 : Int) (a : Option Addr) (len cap : Nat) (z1 : List Int) (w : World) (hF : Firsts w) (h1 : IsRow .u8 w a len cap z1) :
    Calls Tryd.prog 5 #[.agg #[.int .i64 c.cB, .int .i64 c.cBeam, .int .i64 c.cDepth, .int .i64 c.cWin, .int .i64 c.cQs, .int .i64 c.cQr, .int .i64 c.cBatch, .int .i64 c.cPass, .int .i64 c.cMsg, .int .i64 c.cSeqs], .int .i64 x1, .slice a len cap] w fun e w' => e = .returned (.bool true) ∧ Below w.heap.size w w' := by
  obtain ⟨zs, rfl, hx, bx⟩ := holds_of_isRow h1
  have bx := bytes_bd bx
  cases hC : okC c
  · exact emitBatches_outC c x1 a _ cap hC w
  by_cases hn : (zs.length : Int) = c.cB + 10
  · exact emitBatches_ok c hC x1 a _ cap zs rfl bx hn w hF hx
  · exact emitBatches_outN c x1 a _ cap hC hn w

end Go.Proofs.YtnecdbmdgpoogaaDoor
