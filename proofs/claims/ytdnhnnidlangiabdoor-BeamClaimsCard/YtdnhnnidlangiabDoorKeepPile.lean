/-
  What volutekeep.Pile, TwinPile, SpoilSyms answer, for all piles in memory.
-/
import Derived.Test.YtdnhnnidlangiabDoorKeepSyms
import Derived.Test.YtdnhnnidlangiabDoorBoxMem
namespace Go.Proofs.YtdnhnnidlangiabDoor
open Go.RowKit

/-- A pile as a value. -/
def pileV (n p : Int) (v : Value) : Value := .agg #[.int .i64 n, .int .i64 p, v]

end Go.Proofs.YtdnhnnidlangiabDoor
