/-
  What the page's Piles answers: the symbols of each segment.
-/
import Derived.Test.YtdnhnnidlangiabDoorSegMem
import Derived.Test.YtdnhnnidlangiabDoorRefOf
namespace Go.Proofs.YtdnhnnidlangiabDoor
open Go.RowKit

/-- The symbols of each segment. -/
def segsL (N : Nat) (l : List (Int × Int)) : List (List (Int × Int)) := (List.range N).map (ofL N l)
theorem segsL_len (N : Nat) (l : List (Int × Int)) : (segsL N l).length = N := by simp [segsL]
theorem segsL_get {N : Nat} {l : List (Int × Int)} {j : Nat} (h : j < N) : (segsL N l)[j]? = some (ofL N l j) := by
  unfold segsL
  rw [List.getElem?_map, List.getElem?_range h]
  rfl

end Go.Proofs.YtdnhnnidlangiabDoor
