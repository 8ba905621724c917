/-
  The laws' own guard over cost (wakes) answers true; what lay lies as it lay.
-/
import Derived.Test.YtjnmdjejihliiaaCostCode
import Derived.Test.YtjnmdjejihliiaaBoxMem
namespace Go.Proofs.Ytjnmdjejihliiaa
open Go.RowKit

theorem cost_eight : costN 0 [(0, 255)] = 8 := by decide

set_option maxRecDepth 100000 in
set_option maxHeartbeats 1000000 in
theorem costWakes_any (w : World) : Calls Try.prog 9 #[] w fun e w' => e = .returned (.bool true) ∧ Below w.heap.size w w' := by
  have b0 := (Below.refl w.heap.size w).alloc (Nat.le_refl _) (.cells #[.int .i64 0, .int .i64 255] 31)
  have hN : Syms (w.alloc (.cells #[.int .i64 0, .int .i64 255] 31)).heap.size (w.alloc (.cells #[.int .i64 0, .int .i64 255] 31)) (.slice (some ⟨w.heap.size, 0, none⟩) 1 1) [(0, 255)] := by
    have xb := Box.new w 31 #[.int .i64 0, .int .i64 255]
    refine .inr ⟨w.heap.size, 0, 1, rfl, xb.lt, fun q x hq => ?_⟩
    cases q with
    | zero => simp at hq; subst hq; exact ⟨xb.cell 0 _ rfl, xb.cell 1 _ rfl⟩
    | succ q => simp at hq
  have HOK : Hid (CostOk [(0, 255)]) := fun x hx => by simp at hx; subst hx; decide
  go_enter Try.func9, Try.ntmps9
  go_wp2_with fail
  refine (CostOf_ok 0 (by decide) (some ⟨w.heap.size, 0, none⟩) 1 [(0, 255)] (by decide) HOK.out _ hN).mono ?_
  rw [cost_eight]
  rintro e w1 ⟨rfl, b1⟩
  go_wp2
  go_ret
  exact ⟨rfl, b0.trans (b1.mono (by simp))⟩

end Go.Proofs.Ytjnmdjejihliiaa
