/-
  What the page's Symbol answers.
-/
import Derived.Test.YtdnhnnidlangiabDoorSymbolNums
import Derived.Test.YtdnhnnidlangiabDoorRefMix
namespace Go.Proofs.YtdnhnnidlangiabDoor
open Go.RowKit

end Go.Proofs.YtdnhnnidlangiabDoor
