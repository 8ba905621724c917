/-
  What the page's Sat answers, of whatever numbers.
-/
import Derived.Test.YtmjidhnlofpliabM01
import Derived.Lib.MinMax
namespace Go.Proofs.Ytmjidhnlofpliab
open Go.RowKit

end Go.Proofs.Ytmjidhnlofpliab

/-
  What package sat answers (held, Add), of whatever numbers.
-/
namespace Go.Proofs.Ytmjidhnlofpliab
open Go.RowKit

theorem held_num (n : Int) : max 0 (min n 1073741824) = clampS n := by unfold clampS; omega
theorem add_num (n m : Int) : clampS n + min (clampS m) (1073741824 - clampS n) = satN n m := by
  unfold satN; omega

set_option maxHeartbeats 400000 in
theorem held_any (n : Int) (w : World) :
    Calls Try.prog 43 #[.int .i64 n] w fun e w' => e = .returned (.int .i64 (clampS n)) ∧ w = w' := by
  rw [← held_num]
  go_enter Try.func43, Try.ntmps43
  go_wp2
  go_ret
  exact ⟨rfl, rfl⟩

set_option maxHeartbeats 1000000 in
theorem SatAdd_any (n m : Int) (w : World) :
    Calls Try.prog 21 #[.int .i64 n, .int .i64 m] w fun e w' => e = .returned (.int .i64 (satN n m)) ∧ w = w' := by
  have h1 := held_any n w
  have h2 := held_any m w
  have b1 := clampS_bd n
  have b2 := clampS_bd m
  rw [← add_num]
  generalize clampS n = x at *
  generalize clampS m = y at *
  go_enter Try.func21, Try.ntmps21
  go_wp2_with fail
  refine h1.mono ?_
  rintro e w' ⟨rfl, rfl⟩
  go_wp2_with fail
  refine h2.mono ?_
  rintro e w' ⟨rfl, rfl⟩
  go_wp2
  go_ret
  exact ⟨rfl, rfl⟩

end Go.Proofs.Ytmjidhnlofpliab

/-
  int(uint(n) % m), as the walk has it. No function of the program is spoken of.
-/
namespace Go.Proofs.Ytmjidhnlofpliab
open Go.RowKit

/-- 'int(uint(n) % m)'. -/
theorem mod_u64 (n m : Int) (h0 : 0 < m) (h1 : m ≤ 4294967296) : ∃ r : Int, wrap64 ((IntKind.u64.wrap n).tmod m) = r ∧ 0 ≤ r ∧ r < m := by
  have hu : 0 ≤ IntKind.u64.wrap n := by simp [IntKind.wrap, IntKind.bits, IntKind.signed]; omega
  rw [Int.tmod_eq_emod_of_nonneg hu]
  have ha := Int.emod_nonneg (IntKind.u64.wrap n) (show m ≠ 0 by omega)
  have hb := Int.emod_lt_of_pos (IntKind.u64.wrap n) h0
  exact ⟨_, rfl, by unfold wrap64; omega, by unfold wrap64; omega⟩

end Go.Proofs.Ytmjidhnlofpliab
