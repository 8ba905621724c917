/-
  The laws' own guard over code (wakes) answers true; what lay lies as it lay.
-/
import Derived.Test.YtehnplodfpljkaaDoorCodeCode
namespace Go.Proofs.YtehnplodfpljkaaDoor
open Go.RowKit

set_option maxRecDepth 100000 in
set_option maxHeartbeats 1000000 in
theorem codeWakes_any (w : World) (hF : Firsts w) : Calls Tryd.prog 12 #[] w fun e w' => e = .returned (.bool true) ∧ Below w.heap.size w w' := by
  have h0 := held_new .u8 w [18] 1 5 (0, 0)
  have HL : Hid ((codeL [18] 0 2).length = 2) := codeL_len _ _ _
  have b0 := (Below.refl w.heap.size w).alloc (Nat.le_refl _) (.cells #[.int .u8 18] 5)
  go_enter Tryd.func12, Tryd.ntmps12
  go_wp2_with fail
  refine (Encode_ok (some ⟨w.heap.size, 0, none⟩) 1 1 [18] rfl (by decide) (by decide) (by decide) 0 2 (by decide) (w.alloc (.cells #[.int .u8 18] 5)) (hF.next b0) h0).mono ?_
  rintro e w1 ⟨r, rfl, ⟨_, ar, cr, rfl, _⟩, b1⟩
  rw [HL.out]
  go_wp2_with fail
  refine (Segs_any 5 w1).mono ?_
  rintro e w2 ⟨rfl, rfl⟩
  go_wp2
  go_ret
  exact ⟨rfl, b0.trans (b1.mono (by simp))⟩

theorem most_any (n : Nat) (hn : n < 1000) (w : World) : Calls Tryd.prog 13 #[.int .i64 n] w fun e w' => e = .returned (.int .i64 ((n * 16 : Nat) : Int)) ∧ w = w' := by
  have e1 : ((n * 16 : Nat) : Int) = (n : Int) * 16 := by simp
  rw [e1]
  go_enter Tryd.func13, Tryd.ntmps13
  go_wp2
  go_ret
  exact ⟨rfl, rfl⟩

end Go.Proofs.YtehnplodfpljkaaDoor
