/-
  What the page's Sat answers, of whatever numbers.
-/
import Derived.Test.YtgfepnaikannbaaSatNums
import Derived.Lib.MinMax
namespace Go.Proofs.Ytgfepnaikannbaa
open Go.RowKit

set_option maxHeartbeats 1000000 in
theorem refSat_any (n m : Int) (w : World) :
    Calls Try.prog 7 #[.int .i64 n, .int .i64 m] w fun e w' => e = .returned (.int .i64 (satN n m)) ∧ w = w' := by
  go_enter Try.func7, Try.ntmps7
  go_wp2
  go_ret
  exact ⟨rfl, rfl⟩

end Go.Proofs.Ytgfepnaikannbaa
