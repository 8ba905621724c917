/-
  What the page's Cost answers, of symbols that may be asked.
-/
import Derived.Test.YtdnhnnidlangiabDoorCostNums
import Derived.Test.YtdnhnnidlangiabDoorOnes
import Derived.Test.YtdnhnnidlangiabDoorRefSymbol
import Derived.Test.YtdnhnnidlangiabDoorIntBits
namespace Go.Proofs.YtdnhnnidlangiabDoor
open Go.RowKit

theorem take_snoc_cost {l : List (Int × Int)} {k : Nat} {x : Int × Int} (hz : l[k]? = some x) : l.take (k + 1) = l.take k ++ [x] := by rw [List.take_add_one, hz]; rfl
theorem onesZ_byte (x : Nat) : onesZ (x : Int) = pcTo 32 x := by
  unfold onesZ
  rw [if_neg (by omega), Int.toNat_natCast]

end Go.Proofs.YtdnhnnidlangiabDoor
