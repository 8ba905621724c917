/-
  The laws' own guard (wakes) answers true; nothing that lay has turned.
-/
import Derived.Test.YtkhmcoeffaeppaaCrcSeal
import Derived.Lib.SlBytesConst
namespace Go.Proofs.Ytkhmcoeffaeppaa
open Go.RowKit

/-- "123456789". -/
def nine : List Int := [49, 50, 51, 52, 53, 54, 55, 56, 57]
theorem nine_bd : ∀ z ∈ nine, 0 ≤ z ∧ z ≤ 255 := by decide
theorem nine16 : sum16 nine = 10673 := by decide +kernel
theorem nine32 : sum32 nine = 3421780262 := by decide +kernel

end Go.Proofs.Ytkhmcoeffaeppaa
