/-
  The package's table of layer 7, as the condition of a law tells it.
-/
import Derived.Test.YtddcloanbpkecaaDoorLaidTabs
import Derived.Test.YtddcloanbpkecaaDoorSchedPass
namespace Go.Proofs.YtddcloanbpkecaaDoor
open Go.RowKit

theorem firsts_of_laid {W : World} {l : List (String × DataW Unit)} (hp : (l.filter fun x => x.2.handleName?.isSome) = []) (hm : ("volute/sched.firsts", Rows.laid_volute_sched_firsts) ∈ l) (h : laidMetH Tryd.prog l W) : Firsts W := by
  intro c f hc
  have hz : [(0 : Int), 4, 2, 6, 1, 5, 3, 7][c]? = some (f : Int) := by
    have h1 : (ints firsts)[c]? = some (f : Int) := by unfold ints; rw [List.getElem?_map, hc]; rfl
    exact h1
  exact laid_ints (zs := [0, 4, 2, 6, 1, 5, 3, 7]) hp hm (show Tryd.prog.globalNamed "volute/sched.firsts" = some 0 by kernel_rfl) (show (Tryd.prog.globals[0]?).map (·.type) = some 143 by kernel_rfl) Tryd.underlying143 Tryd.underlying3 (by kernel_rfl) h c f hz

end Go.Proofs.YtddcloanbpkecaaDoor
