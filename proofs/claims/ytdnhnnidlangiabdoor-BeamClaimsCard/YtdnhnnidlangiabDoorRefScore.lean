/-
  What the page's Beam and Score answer.
-/
import Derived.Test.YtdnhnnidlangiabDoorRefNode
namespace Go.Proofs.YtdnhnnidlangiabDoor
open Go.RowKit

/-- May both be? -/
def beamB (b d : Int) : Bool := decide (1 ≤ b) && decide (b ≤ 16) && decide (1 ≤ d) && decide (d ≤ 3)
/-- A path's Score, over a pile. -/
def scoB (N : Nat) (l : List (Int × Int)) (a : Nat) (P : List Int) : Int := scA stB (coB N l) N (beginN : Int) a P
theorem scoB_lst {N : Nat} {l : List (Int × Int)} {P : List Int} {s : Nat} (hs : staB N l P = (s : Int)) (a : Nat) : lst stB (coB N l) N a (s : Int) P.length (metB N l P) = scoB N l a P := by
  unfold scoB scA
  unfold staB at hs
  rw [hs]
  rfl

end Go.Proofs.YtdnhnnidlangiabDoor
