/-
  What the page's Of answers, of a right pile.
-/
import Derived.Test.YtdnhnnidlangiabDoorRefPile
import Derived.Deep.RegionHeldLaw
import Derived.Deep.AppendLies
namespace Go.Proofs.YtdnhnnidlangiabDoor
open Go.RowKit

theorem take_snoc_sym {l : List (Int × Int)} {k : Nat} {x : Int × Int} (hz : l[k]? = some x) : l.take (k + 1) = l.take k ++ [x] := by rw [List.take_add_one, hz]; rfl

end Go.Proofs.YtdnhnnidlangiabDoor
