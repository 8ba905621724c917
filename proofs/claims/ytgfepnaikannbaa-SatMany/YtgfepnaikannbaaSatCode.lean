/-
  What package sat answers (held, Add), of whatever numbers.
-/
import Derived.Test.YtgfepnaikannbaaRefSat
namespace Go.Proofs.Ytgfepnaikannbaa
open Go.RowKit

theorem held_num (n : Int) : max 0 (min n 1073741824) = clampS n := by unfold clampS; omega
theorem add_num (n m : Int) : clampS n + min (clampS m) (1073741824 - clampS n) = satN n m := by
  unfold satN; omega

set_option maxHeartbeats 400000 in
theorem held_any (n : Int) (w : World) :
    Calls Try.prog 9 #[.int .i64 n] w fun e w' => e = .returned (.int .i64 (clampS n)) ∧ w = w' := by
  rw [← held_num]
  go_enter Try.func9, Try.ntmps9
  go_wp2
  go_ret
  exact ⟨rfl, rfl⟩

set_option maxHeartbeats 1000000 in
theorem SatAdd_any (n m : Int) (w : World) :
    Calls Try.prog 6 #[.int .i64 n, .int .i64 m] w fun e w' => e = .returned (.int .i64 (satN n m)) ∧ w = w' := by
  have h1 := held_any n w
  have h2 := held_any m w
  have b1 := clampS_bd n
  have b2 := clampS_bd m
  rw [← add_num]
  generalize clampS n = x at *
  generalize clampS m = y at *
  go_enter Try.func6, Try.ntmps6
  go_wp2_with fail
  refine h1.mono ?_
  rintro e w' ⟨rfl, rfl⟩
  go_wp2_with fail
  refine h2.mono ?_
  rintro e w' ⟨rfl, rfl⟩
  go_wp2
  go_ret
  exact ⟨rfl, rfl⟩

end Go.Proofs.Ytgfepnaikannbaa
