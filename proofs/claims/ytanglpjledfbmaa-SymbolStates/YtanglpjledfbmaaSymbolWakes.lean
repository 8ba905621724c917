/-
  The laws' own guard over symbol (wakes) answers true; nothing that lay has turned.
-/
import Derived.Test.YtanglpjledfbmaaSymbolCode
import Derived.Test.YtanglpjledfbmaaKept
namespace Go.Proofs.Ytanglpjledfbmaa
open Go.RowKit

theorem one_first : symN 67305985 0 = 1 := by decide
theorem four_spell : spellN [1, 2, 3, 4] = 67305985 := by decide
theorem four_bytes : Bytes4 [1, 2, 3, 4] := by unfold Bytes4; decide

set_option maxRecDepth 100000 in
set_option maxHeartbeats 1000000 in
theorem symbolWakes_any (w : World) : Calls Try.prog 7 #[] w fun e w' => e = .returned (.bool true) ∧ Below w.heap.size w w' := by
  go_enter Try.func7, Try.ntmps7
  go_wp2_with fail
  refine (Of_ok 67305985 0 (by decide) (by decide) w).mono ?_
  rw [one_first]
  rintro e w1 ⟨rfl, rfl⟩
  go_wp2_with fail
  refine (State_ok _ 4 [1, 2, 3, 4] rfl four_bytes _ _ (held_new .i64 w [1, 2, 3, 4] 4 3 _)).mono ?_
  rw [four_spell]
  rintro e w2 ⟨rfl, rfl⟩
  go_wp2
  go_ret
  exact ⟨rfl, (Below.refl _ w).alloc (Nat.le_refl _) _⟩

end Go.Proofs.Ytanglpjledfbmaa
