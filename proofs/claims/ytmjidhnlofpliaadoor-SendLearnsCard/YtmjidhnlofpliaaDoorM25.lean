/-
  Counters that stay, as numbers. No function of the program is spoken of.
-/
import Derived.Test.YtmjidhnlofpliaaDoorM01
import Derived.Lib.MinMax
namespace Go.Proofs.YtmjidhnlofpliaaDoor
open Go.RowKit

def clampS (n : Int) : Int := min (max n 0) 1073741824
def satN (n m : Int) : Int := min (clampS n + clampS m) 1073741824
theorem clampS_bd (n : Int) : 0 ≤ clampS n ∧ clampS n ≤ 1073741824 := by unfold clampS; omega
theorem satN_bd (n m : Int) : 0 ≤ satN n m ∧ satN n m ≤ 1073741824 := by
  have := clampS_bd n
  have := clampS_bd m
  unfold satN; omega
end Go.Proofs.YtmjidhnlofpliaaDoor

/-
  What the page's Sat answers, of whatever numbers.
-/
namespace Go.Proofs.YtmjidhnlofpliaaDoor
open Go.RowKit

end Go.Proofs.YtmjidhnlofpliaaDoor

/-
  What package sat answers (held, Add), of whatever numbers.
-/
namespace Go.Proofs.YtmjidhnlofpliaaDoor
open Go.RowKit

theorem held_num (n : Int) : max 0 (min n 1073741824) = clampS n := by unfold clampS; omega
theorem add_num (n m : Int) : clampS n + min (clampS m) (1073741824 - clampS n) = satN n m := by
  unfold satN; omega

set_option maxHeartbeats 400000 in
theorem held_any (n : Int) (w : World) :
    Calls Tryd.prog 40 #[.int .i64 n] w fun e w' => e = .returned (.int .i64 (clampS n)) ∧ w = w' := by
  rw [← held_num]
  go_enter Tryd.func40, Tryd.ntmps40
  go_wp2
  go_ret
  exact ⟨rfl, rfl⟩

set_option maxHeartbeats 1000000 in
theorem SatAdd_any (n m : Int) (w : World) :
    Calls Tryd.prog 19 #[.int .i64 n, .int .i64 m] w fun e w' => e = .returned (.int .i64 (satN n m)) ∧ w = w' := by
  have h1 := held_any n w
  have h2 := held_any m w
  have b1 := clampS_bd n
  have b2 := clampS_bd m
  rw [← add_num]
  generalize clampS n = x at *
  generalize clampS m = y at *
  go_enter Tryd.func19, Tryd.ntmps19
  go_wp2_with fail
  refine h1.mono ?_
  rintro e w' ⟨rfl, rfl⟩
  go_wp2_with fail
  refine h2.mono ?_
  rintro e w' ⟨rfl, rfl⟩
  go_wp2
  go_ret
  exact ⟨rfl, rfl⟩

end Go.Proofs.YtmjidhnlofpliaaDoor
