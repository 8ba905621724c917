/-
  What the page's Bits, Sum16, Sum32 answer, for every text in memory.
-/
import Derived.Test.YtkhmcoeffaeppaaRefCrc
import Derived.Test.YtkhmcoeffaeppaaTwinBytes
import Derived.Test.YtkhmcoeffaeppaaSteps
import Derived.OwnWalk
import Derived.Deep.QuietTactic
import Derived.BigQuiet
namespace Go.Proofs.Ytkhmcoeffaeppaa
open Go.RowKit

theorem infoInt : (Try.prog.info? 3).map (fun i => (i.zero, i.size, i.bytes)) = some (some (.int .i64 0), 1, 8) := by kernel_rfl

end Go.Proofs.Ytkhmcoeffaeppaa
