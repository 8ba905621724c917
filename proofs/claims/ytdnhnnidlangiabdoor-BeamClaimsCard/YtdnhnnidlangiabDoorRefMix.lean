/-
  What the page's Mix answers.
-/
import Derived.Test.YtdnhnnidlangiabDoorMixNums
import Derived.Laws.BitsAllLaws
import Derived.WalkSpells
import Derived.WalkLawsBesides
namespace Go.Proofs.YtdnhnnidlangiabDoor
open Go.RowKit

end Go.Proofs.YtdnhnnidlangiabDoor
