/-
  int(uint(n) % m), as the walk has it. No function of the program is spoken of.
-/
import Derived.Test.YtklmiapieaogdaaMem
namespace Go.Proofs.Ytklmiapieaogdaa
open Go.RowKit

/-- 'int(uint(n) % m)'. -/
theorem mod_u64 (n m : Int) (h0 : 0 < m) (h1 : m ≤ 4294967296) : ∃ r : Int, wrap64 ((IntKind.u64.wrap n).tmod m) = r ∧ 0 ≤ r ∧ r < m := by
  have hu : 0 ≤ IntKind.u64.wrap n := by simp [IntKind.wrap, IntKind.bits, IntKind.signed]; omega
  rw [Int.tmod_eq_emod_of_nonneg hu]
  have ha := Int.emod_nonneg (IntKind.u64.wrap n) (show m ≠ 0 by omega)
  have hb := Int.emod_lt_of_pos (IntKind.u64.wrap n) h0
  exact ⟨_, rfl, by unfold wrap64; omega, by unfold wrap64; omega⟩

end Go.Proofs.Ytklmiapieaogdaa
