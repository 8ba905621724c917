/-
  JoinExact for arguments that came in.
-/
import Derived.Test.YtklmiapieaogdaaJoinExactWalk
import Derived.Test.YtklmiapieaogdaaBlkOpen
namespace Go.Proofs.Ytklmiapieaogdaa
open Go.RowKit

theorem joinExact_end (o : Bool) (a : Option Addr) (len cap : Nat) (zs : List Int) (b : Option Addr) (n c : Nat) (l : List Bl) (w : World) (h : IsRow .u8 w a len cap zs) (hb : IsBlks w b n c l) : Calls Try.prog 3 #[.agg #[.bool o, .slice a len cap], .slice b n c] w fun e w' => e = .returned (.bool true) ∧ Below w.heap.size w w' := by
  obtain ⟨ys, e, hy, _⟩ := holds_of_isRow h
  exact joinExact_walk o a len cap ys e b n c l hb.1 w hy hb.2.2.2.1

end Go.Proofs.Ytklmiapieaogdaa
