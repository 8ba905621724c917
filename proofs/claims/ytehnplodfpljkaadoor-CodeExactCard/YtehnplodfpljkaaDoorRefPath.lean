/-
  What the page's Path answers, for every row in memory: are they nibbles alone?
-/
import Derived.Test.YtehnplodfpljkaaDoorSpineNums
import Derived.Test.YtehnplodfpljkaaDoorSteps
import Derived.Laws.BitsAllLaws
import Derived.WalkSpells
import Derived.WalkLawsBesides
namespace Go.Proofs.YtehnplodfpljkaaDoor
open Go.RowKit

theorem path_snoc {zs : List Int} {k : Nat} {x : Int} (h : Path (zs.take k)) (hx : zs[k]? = some x) (h01 : 0 ≤ x ∧ x ≤ 15) : Path (zs.take (k + 1)) := by
  rw [take_snoc hx]
  intro y hy
  rcases List.mem_append.1 hy with h' | h'
  · exact h y h'
  · simp at h'; subst h'; exact h01

end Go.Proofs.YtehnplodfpljkaaDoor
