/-
  The laws' own guard over pile (wakes) answers true; what lay lies as it lay. (Written by tpl_pilewakes.py.)
-/
import Derived.Test.YtifkjglhdppocaaDoorPilePut
namespace Go.Proofs.YtifkjglhdppocaaDoor
open Go.RowKit

set_option maxRecDepth 100000 in
set_option maxHeartbeats 2000000 in
theorem pileWakes_any (w : World) : Calls Tryd.prog 13 #[] w fun e w' => e = .returned (.bool true) ∧ Below w.heap.size w w' := by
  have bb := Below.refl w.heap.size w
  go_enter Tryd.func13, Tryd.ntmps13
  go_wp2_with fail
  refine (New_ok 3 4 ⟨by decide, by decide, by decide, by decide⟩ w).mono ?_
  rintro e w2 ⟨rfl, b1⟩
  replace bb := bb.trans (b1.mono bb.size)
  clear b1
  have s0 := bb.size
  have b3 : Below w2.heap.size w2 (w2.alloc (.cells #[.int .i64 3, .int .i64 4, .slice none 0 0] 24)) := (Below.refl _ _).alloc (Nat.le_refl _) _
  have xp := Box.new w2 24 #[.int .i64 3, .int .i64 4, .slice none 0 0]
  replace bb := bb.trans (b3.mono bb.size)
  clear b3
  have HP0 : Hid (PileOk 3 4 []) := pileOk_nil ⟨by decide, by decide, by decide, by decide⟩
  have cxp0m3 := xp.cell 0 _ rfl
  have cxp1m3 := xp.cell 1 _ rfl
  have cxp2m3 := xp.cell 2 _ rfl
  have fxp0m3 := xp.free 0
  have fxp1m3 := xp.free 1
  have fxp2m3 := xp.free 2
  go_wp2_with fail
  clear cxp0m3 cxp1m3 cxp2m3 fxp0m3 fxp1m3 fxp2m3
  obtain ⟨w4, hw4⟩ : ∃ W, (w2.alloc (.cells #[.int .i64 3, .int .i64 4, .slice none 0 0] 24)) = W := ⟨_, rfl⟩
  rw [hw4] at xp bb ⊢
  clear hw4
  have lp := xp.lt
  refine (Put_in 3 4 5 77 (by decide) (by decide) (by decide) (by decide) none 0 [] HP0.out w4 (syms_nil _ _) rowCap_nil).mono ?_
  rintro e w6 ⟨r1, rfl, o1, b5⟩
  replace xp := xp.next b5
  replace bb := bb.trans (b5.mono bb.size)
  clear b5
  rw [show putN 3 4 [] 5 77 = [(5, 77)] by decide] at o1
  rw [show freshN 3 4 [] 5 = true by decide]
  have HP1 : Hid (PileOk 3 4 [(5, 77)]) := by
    have := putN_ok (v := 77) HP0.out (show (0 : Int) ≤ 5 by decide) (by decide) (by decide)
    rwa [show putN 3 4 [] 5 77 = [(5, 77)] by decide] at this
  obtain ⟨a1, c1, rfl⟩ : ∃ a c, r1 = .slice a 1 c := (syms_of_row o1).shape
  have cxp0m4 := xp.cell 0 _ rfl
  have cxp1m4 := xp.cell 1 _ rfl
  have cxp2m4 := xp.cell 2 _ rfl
  have fxp0m4 := xp.free 0
  have fxp1m4 := xp.free 1
  have fxp2m4 := xp.free 2
  replace xp := xp.set3 (.int .i64 3) (.int .i64 4) (.slice a1 1 c1)
  replace o1 := row_set3 o1 (D := w2.heap.size) (by omega) (.int .i64 3) (.int .i64 4) (.slice a1 1 c1)
  replace bb := below_set3 bb (D := w2.heap.size) (by omega) (.int .i64 3) (.int .i64 4) (.slice a1 1 c1)
  have cxp0m5 := xp.cell 0 _ rfl
  have cxp1m5 := xp.cell 1 _ rfl
  have cxp2m5 := xp.cell 2 _ rfl
  have fxp0m5 := xp.free 0
  have fxp1m5 := xp.free 1
  have fxp2m5 := xp.free 2
  go_wp2_with fail
  clear cxp0m4 cxp1m4 cxp2m4 fxp0m4 fxp1m4 fxp2m4 cxp0m5 cxp1m5 cxp2m5 fxp0m5 fxp1m5 fxp2m5
  obtain ⟨w7, hw7⟩ : ∃ W, (((w6.setCell ⟨w2.heap.size, 0, none⟩ (.int .i64 3)).setCell ⟨w2.heap.size, 1, none⟩ (.int .i64 4)).setCell ⟨w2.heap.size, 2, none⟩ (.slice a1 1 c1)) = W := ⟨_, rfl⟩
  rw [hw7] at xp o1 bb ⊢
  clear hw7
  have lp2 := xp.lt
  refine (Put_in 3 4 5 78 (by decide) (by decide) (by decide) (by decide) a1 c1 [(5, 77)] HP1.out w7 (syms_of_row o1) (rowCap_of o1)).mono ?_
  rintro e w9 ⟨r2, rfl, o2, b8⟩
  replace xp := xp.next b8
  replace o1 := symRow_below o1 b8 (Nat.le_refl _)
  replace bb := bb.trans (b8.mono bb.size)
  clear b8
  rw [show putN 3 4 [(5, 77)] 5 78 = [(5, 77)] by decide] at o2
  rw [show freshN 3 4 [(5, 77)] 5 = false by decide]
  clear o1
  obtain ⟨a2, c2, rfl⟩ : ∃ a c, r2 = .slice a 1 c := (syms_of_row o2).shape
  obtain ⟨b, off, rfl⟩ : ∃ b off, a2 = some ⟨b, off, none⟩ := by
    obtain ⟨b, off, e, _⟩ := syms_at (syms_of_row o2) rfl (by decide)
    exact ⟨b, off, e⟩
  have cxp0m6 := xp.cell 0 _ rfl
  have cxp1m6 := xp.cell 1 _ rfl
  have cxp2m6 := xp.cell 2 _ rfl
  have fxp0m6 := xp.free 0
  have fxp1m6 := xp.free 1
  have fxp2m6 := xp.free 2
  replace xp := xp.set3 (.int .i64 3) (.int .i64 4) (.slice (some ⟨b, off, none⟩) 1 c2)
  replace o2 := row_set3 o2 (D := w2.heap.size) (by omega) (.int .i64 3) (.int .i64 4) (.slice (some ⟨b, off, none⟩) 1 c2)
  replace bb := below_set3 bb (D := w2.heap.size) (by omega) (.int .i64 3) (.int .i64 4) (.slice (some ⟨b, off, none⟩) 1 c2)
  obtain ⟨b', off', e', hb, hcell⟩ := syms_at (syms_of_row o2) rfl (by decide)
  cases e'
  have cc := (hcell 0 _ rfl).2
  rw [Nat.zero_mul, Nat.add_zero] at cc
  clear hcell
  have cxp0m7 := xp.cell 0 _ rfl
  have cxp1m7 := xp.cell 1 _ rfl
  have cxp2m7 := xp.cell 2 _ rfl
  have fxp0m7 := xp.free 0
  have fxp1m7 := xp.free 1
  have fxp2m7 := xp.free 2
  go_wp2
  clear cxp0m6 cxp1m6 cxp2m6 fxp0m6 fxp1m6 fxp2m6 cxp0m7 cxp1m7 cxp2m7 fxp0m7 fxp1m7 fxp2m7
  obtain ⟨w10, hw10⟩ : ∃ W, (((w9.setCell ⟨w2.heap.size, 0, none⟩ (.int .i64 3)).setCell ⟨w2.heap.size, 1, none⟩ (.int .i64 4)).setCell ⟨w2.heap.size, 2, none⟩ (.slice (some ⟨b, off, none⟩) 1 c2)) = W := ⟨_, rfl⟩
  rw [hw10] at xp o2 bb ⊢
  clear hw10
  go_ret
  exact ⟨rfl, bb⟩

end Go.Proofs.YtifkjglhdppocaaDoor
