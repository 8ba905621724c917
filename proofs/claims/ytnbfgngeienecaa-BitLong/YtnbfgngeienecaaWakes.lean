/-
  The law's own guard (wakes) answers true; nothing that lay has turned.
-/
import Derived.Test.YtnbfgngeienecaaApart
import Derived.Test.YtnbfgngeienecaaKeepInts
import Derived.Test.YtnbfgngeienecaaOnes
namespace Go.Proofs.Ytnbfgngeienecaa
open Go.RowKit

set_option maxRecDepth 100000 in
set_option maxHeartbeats 2000000 in
theorem wakes_any (w : World) :
    Calls Try.prog 23 #[] w fun e w' => e = .returned (.bool true) ∧ Below w.heap.size w w' := by
  go_enter Try.func23, Try.ntmps23
  go_wp2_with fail
  have hH : Holds .u8 (w.heap.size + 1) (w.alloc (.cells #[.int .u8 165] 5)) (.slice (some ⟨w.heap.size, 0, none⟩) 1 1) [165] := by
    refine .inr ⟨w.heap.size, 0, 1, rfl, by omega, fun j hj => ?_⟩
    obtain rfl : j = 0 := by simp at hj; omega
    simp [go_sem]
  refine (nibs_any _ [165] (by decide) (by decide) _ (by simpa using hH)).mono ?_
  rintro e w1 ⟨r, rfl, hr, hb⟩
  have hb1 : Below w.heap.size w w1 := ((Below.refl _ w).alloc (Nat.le_refl _) _).trans (hb.mono (by simp))
  have h1 : Holds .i64 w1.heap.size w1 r [10, 5] := holds_of_row (zs := [10, 5]) hr
  have h1' := (h1.below ((Below.refl _ w1).alloc (Nat.le_refl _) (.cells #[.int .i64 10, .int .i64 5] 3)))
  have h2 : Holds .i64 (w1.heap.size + 1) (w1.alloc (.cells #[.int .i64 10, .int .i64 5] 3)) (.slice (some ⟨w1.heap.size, 0, none⟩) 2 2) [10, 5] := by
    refine .inr ⟨w1.heap.size, 0, 2, rfl, by omega, fun j hj => ?_⟩
    have hj2 : j < 2 := hj
    match j, hj2 with
    | 0, _ => simp [go_sem]
    | 1, _ => simp [go_sem]
  clear hH hr hb h1
  go_wp2_with fail
  refine (ints_any _ _ [10, 5] [10, 5] _ _ _ (by decide) h1' h2).mono ?_
  rintro e w2 ⟨rfl, q, rfl⟩
  clear h1' h2
  go_wp2_with fail
  refine (ones_any 7 _).mono ?_
  rintro e w3 ⟨rfl, q2, rfl⟩
  have h7 : onesZ 7 = 3 := by decide
  rw [h7]
  go_wp2
  go_ret
  refine ⟨rfl, ?_⟩
  exact hb1.trans ((below_drewN ((Below.refl _ w1).alloc (Nat.le_refl _) _) _).mono hb1.size)
end Go.Proofs.Ytnbfgngeienecaa
