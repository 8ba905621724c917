/-
  JoinMessages for arguments that came in.
-/
import Derived.Test.YtklmiapieaogdaaJoinMessagesWalk
import Derived.Test.YtklmiapieaogdaaTextsOpen
namespace Go.Proofs.Ytklmiapieaogdaa
open Go.RowKit

theorem joinMessages_end (c : Cfg) (b : Option Addr) (m k : Nat) (l : List (List Int)) (a : Option Addr) (len cap : Nat) (zs : List Int) (w : World) (hb : Texts w.heap.size w b m l) (h : IsRow .u8 w a len cap zs) : Calls Try.prog 4 #[.agg #[.int .i64 c.cB, .int .i64 c.cBeam, .int .i64 c.cDepth, .int .i64 c.cWin, .int .i64 c.cQs, .int .i64 c.cQr, .int .i64 c.cBatch, .int .i64 c.cPass, .int .i64 c.cMsg, .int .i64 c.cSeqs], .slice b m k, .slice a len cap] w fun e w' => e = .returned (.bool true) ∧ Below w.heap.size w w' := by
  obtain ⟨ys, e, hy, _⟩ := holds_of_isRow h
  exact joinMessages_walk c b m k l hb.1 a len cap ys e w hb hy

end Go.Proofs.Ytklmiapieaogdaa
