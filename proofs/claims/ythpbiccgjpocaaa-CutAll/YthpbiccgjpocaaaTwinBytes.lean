/-
  What volutekeep.Twin answers, for every row of bytes: see Twins (this text holds nothing of its own).
-/
import Derived.Test.YthpbiccgjpocaaaTwins
namespace Go.Proofs.Ythpbiccgjpocaaa

end Go.Proofs.Ythpbiccgjpocaaa
