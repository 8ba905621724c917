/-
  The laws' own guard over sched (wakes) answers true; nothing that lay has turned.
-/
import Derived.Test.YthmhlkgipidnoaaDoorSchedCode
import Derived.Test.YthmhlkgipidnoaaDoorKeepInts
import Derived.Test.YthmhlkgipidnoaaDoorPlaces
namespace Go.Proofs.YthmhlkgipidnoaaDoor
open Go.RowKit

set_option maxRecDepth 100000 in
set_option maxHeartbeats 1000000 in
theorem schedWakes_any (w : World) (hF : Firsts w) : Calls Tryd.prog 11 #[] w fun e w' => e = .returned (.bool true) ∧ Below w.heap.size w w' := by
  go_enter Tryd.func11, Tryd.ntmps11
  go_wp2_with fail
  refine (Order_ok 5 (by decide) (by decide) w hF).mono ?_
  rintro e w1 ⟨r, rfl, o, b1⟩
  rw [orderN_five] at o
  have h1 := holds_of_row o
  have h2 := h1.next ((Below.refl _ w1).alloc (Nat.le_refl _) (.cells #[.int .i64 0, .int .i64 4, .int .i64 2, .int .i64 1, .int .i64 3] 3))
  have h3 := held_new .i64 w1 [0, 4, 2, 1, 3] 5 3 (0, 0)
  clear o h1
  go_wp2_with fail
  refine (ints_any _ _ [0, 4, 2, 1, 3] [0, 4, 2, 1, 3] _ _ _ (by decide) h2 h3).mono ?_
  rw [decide_eq_true rfl]
  rintro e w2 ⟨rfl, q, rfl⟩
  clear h2 h3
  go_wp2
  go_ret
  exact ⟨rfl, below_drewN (b1.alloc b1.size _) q⟩

end Go.Proofs.YthmhlkgipidnoaaDoor
