/-
  The laws' own guard (wakes) answers true; nothing that lay has turned.
-/
import Derived.Test.YtplobmkfmflkaaaCrcSeal
import Derived.Lib.SlBytesConst
namespace Go.Proofs.Ytplobmkfmflkaaa
open Go.RowKit

/-- "123456789". -/
def nine : List Int := [49, 50, 51, 52, 53, 54, 55, 56, 57]
theorem nine_bd : ∀ z ∈ nine, 0 ≤ z ∧ z ≤ 255 := by decide
theorem nine16 : sum16 nine = 10673 := by decide +kernel
theorem nine32 : sum32 nine = 3421780262 := by decide +kernel

set_option maxRecDepth 100000 in
set_option maxHeartbeats 2000000 in
theorem wakes_any (w : World) : Calls Try.prog 15 #[] w fun e w' => e = .returned (.bool true) ∧ Below w.heap.size w w' := by
  have kc := fun (w : World) (C : Array Value) (n c : Nat) => Lib.run_convert_bytes_const (P := Try.prog) w 22 5 C n c Try.underlying22 Try.underlying5
  go_enter Try.func15, Try.ntmps15
  go_wp2_with fail
  refine (Sum16_any _ 9 nine (by decide) nine_bd _ _ (holds_new .u8 w nine 9 5 _)).mono ?_
  rintro e w1 ⟨rfl, hw⟩
  have b1 : Below w.heap.size w w1 := hw ▸ (Below.refl _ w).alloc (Nat.le_refl _) _
  clear hw
  rw [nine16]
  go_wp2_with fail
  refine (Sum32_any _ 9 nine (by decide) nine_bd _ _ (holds_new .u8 _ nine 9 5 _)).mono ?_
  rintro e w2 ⟨rfl, rfl⟩
  rw [nine32]
  go_wp2
  go_ret
  exact ⟨rfl, b1.alloc b1.size _⟩

end Go.Proofs.Ytplobmkfmflkaaa
