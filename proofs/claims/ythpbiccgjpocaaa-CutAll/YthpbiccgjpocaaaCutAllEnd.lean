/-
  CutAll for an argument that came in.
-/
import Derived.Test.YthpbiccgjpocaaaCutAllWalk
namespace Go.Proofs.Ythpbiccgjpocaaa
open Go.RowKit

theorem cutAll_end (c : Cfg) (s : Int) (a : Option Addr) (len cap : Nat) (zs : List Int) (w : World) (h : IsRow .u8 w a len cap zs) : Calls Try.prog 4 #[.agg #[.int .i64 c.cB, .int .i64 c.cBeam, .int .i64 c.cDepth, .int .i64 c.cWin, .int .i64 c.cQs, .int .i64 c.cQr, .int .i64 c.cBatch, .int .i64 c.cPass, .int .i64 c.cMsg, .int .i64 c.cSeqs], .int .i64 s, .slice a len cap] w fun e w' => e = .returned (.bool true) ∧ Below w.heap.size w w' := by
  obtain ⟨ys, e, hy, _⟩ := holds_of_isRow h
  have hc : len ≤ cap := by
    rcases h with ⟨_, h1, h2, _⟩ | ⟨_, _, h1, _⟩
    · omega
    · exact h1
  have hn : len ≤ 9223372036854775807 := by
    rcases h with ⟨_, h1, h2, _⟩ | ⟨_, _, h1, h2, _⟩
    · omega
    · unfold maxLen at h2; omega
  exact cutAll_walk c s a len cap ys e hc hn w hy

end Go.Proofs.Ythpbiccgjpocaaa
