/-
  What the page's Bits, Sum16, Sum32 answer, for every text in memory.
-/
import Derived.Test.YtejpnjegahbaoaaRefCrc
import Derived.Test.YtejpnjegahbaoaaTwinBytes
import Derived.Test.YtejpnjegahbaoaaSteps
import Derived.OwnWalk
import Derived.Deep.QuietTactic
import Derived.BigQuiet
namespace Go.Proofs.Ytejpnjegahbaoaa
open Go.RowKit

theorem infoInt : (Try.prog.info? 3).map (fun i => (i.zero, i.size, i.bytes)) = some (some (.int .i64 0), 1, 8) := by kernel_rfl

end Go.Proofs.Ytejpnjegahbaoaa
