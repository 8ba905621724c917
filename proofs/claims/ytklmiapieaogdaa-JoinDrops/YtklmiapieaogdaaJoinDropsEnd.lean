/-
  JoinDrops for arguments that came in.
-/
import Derived.Test.YtklmiapieaogdaaJoinDropsWalk
import Derived.Test.YtklmiapieaogdaaBlkOpen
namespace Go.Proofs.Ytklmiapieaogdaa
open Go.RowKit

theorem joinDrops_end (b : Option Addr) (n c : Nat) (l : List Bl) (w : World) (hb : IsBlks w b n c l) : Calls Try.prog 5 #[.slice b n c] w fun e w' => e = .returned (.bool true) ∧ Below w.heap.size w w' := by
  exact joinDrops_walk b n c l hb.1 w hb.2.2.2.1

end Go.Proofs.Ytklmiapieaogdaa
