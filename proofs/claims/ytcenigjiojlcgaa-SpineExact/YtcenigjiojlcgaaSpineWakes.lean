/-
  The laws' own guard over spine (wakes) answers true; the world is as it was.
-/
import Derived.Test.YtcenigjiojlcgaaSpineCode
namespace Go.Proofs.Ytcenigjiojlcgaa
open Go.RowKit

set_option maxRecDepth 100000 in
set_option maxHeartbeats 1000000 in
theorem spineWakes_any (w : World) : Calls Try.prog 17 #[] w fun e w' => e = .returned (.bool true) ∧ w = w' := by
  have hN : nibN beginN (stepN beginN 5) = (5, true) := nib_some (by decide) (by decide) rfl
  have hl := stepN_lt beginN 5
  obtain ⟨s, hs⟩ : ∃ s, stepN beginN 5 = s := ⟨_, rfl⟩
  have HS : Hid (stepN beginN 5 = s) := hs
  rw [hs] at hN hl
  have HN : Hid (nibN beginN s = (5, true)) := hN
  have hB : ((beginN : Int) != 0) = true := by decide
  have hb : beginN < 4294967296 := by decide
  obtain ⟨b, hbe⟩ : ∃ b, beginN = b := ⟨_, rfl⟩
  have HB : Hid (beginN = b) := hbe
  rw [hbe] at HS HN hB hb
  clear hs hN hbe
  go_enter Try.func17, Try.ntmps17
  go_wp2_with fail
  refine (Begin_any w).mono ?_
  rw [HB.out]
  rintro e w1 ⟨rfl, rfl⟩
  go_wp2_with fail
  refine (Step_ok b 5 hb (by decide) w).mono ?_
  rw [HS.out]
  rintro e w1 ⟨rfl, rfl⟩
  go_wp2_with fail
  refine (Begin_any w).mono ?_
  rw [HB.out]
  rintro e w1 ⟨rfl, rfl⟩
  go_wp2_with fail
  refine (Nibble_any b s hb hl w).mono ?_
  rw [HN.out]
  rintro e w1 ⟨rfl, rfl⟩
  go_wp2_with fail
  refine (Begin_any w).mono ?_
  rw [HB.out]
  rintro e w1 ⟨rfl, rfl⟩
  go_wp2
  go_ret
  exact ⟨rfl, rfl⟩

end Go.Proofs.Ytcenigjiojlcgaa
