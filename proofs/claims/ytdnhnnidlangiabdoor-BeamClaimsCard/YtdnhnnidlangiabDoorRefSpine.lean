/-
  What the page's Begin, Step, States answer.
-/
import Derived.Test.YtdnhnnidlangiabDoorRefMix
import Derived.Test.YtdnhnnidlangiabDoorRefPath
import Derived.OwnWalk
namespace Go.Proofs.YtdnhnnidlangiabDoor
open Go.RowKit

theorem infoU32 : (Tryd.prog.info? 32).map (fun i => (i.zero, i.size, i.bytes)) = some (some (.int .u32 0), 1, 4) := by kernel_rfl

end Go.Proofs.YtdnhnnidlangiabDoor
