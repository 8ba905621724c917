/-
  CrcResidue: the walk: whatever the text, the law answers true, and nothing that lay has turned.
-/
import Derived.Test.YtplobmkfmflkaabCrcWakes
import Derived.Test.YtplobmkfmflkaabCrcText
namespace Go.Proofs.Ytplobmkfmflkaab
open Go.RowKit

set_option maxRecDepth 100000 in
set_option maxHeartbeats 2000000 in
theorem crcResidue_short (a : Option Addr) (cap : Nat) (xs : List Int) (hl : xs.length ≤ 300) (bx : ∀ z ∈ xs, 0 ≤ z ∧ z ≤ 255) (w : World) (ha : Holds .u8 w.heap.size w (.slice a xs.length cap) xs) :
    Calls Try.prog 5 #[.slice a xs.length cap] w fun e w' => e = .returned (.bool true) ∧ Below w.heap.size w w' := by
  go_enter Try.func5, Try.ntmps5
  go_wp2_with fail
  refine (Seal_any a cap xs (by omega) bx w ha).mono ?_
  rintro e w1 ⟨r1, rfl, o1, b1⟩
  have HL : Hid ((sealL xs).length = xs.length + 4) := sealL_len xs
  have h1 := holds_of_row o1
  obtain ⟨a1, c1, rfl⟩ := h1.shape
  have hb1 := sealL_bd bx
  have hs := sum_seal xs
  have hSl : (sealL xs).length ≤ 4096 := by rw [HL.out]; omega
  have ew : ((sealL xs).length : Int) = (xs.length : Int) + 4 := by rw [HL.out]; omega
  obtain ⟨Z, hZ⟩ : ∃ Z, sealL xs = Z := ⟨_, rfl⟩
  rw [hZ] at h1 hb1 hs hSl ew ⊢
  clear hZ o1 ha HL
  go_wp2_with fail
  refine (Sum32_any a1 c1 Z hSl hb1 w1 _ h1).mono ?_
  rintro e w2 ⟨rfl, rfl⟩
  rw [hs]
  clear h1 hb1 hs
  have eq : ((Z.length : Int) == (xs.length : Int) + 4) = true := by rw [ew]; simp
  clear ew
  go_wp2_with fail
  refine (wakes_any _).mono ?_
  rintro e w2 ⟨rfl, hw⟩
  go_wp2
  go_ret
  exact ⟨rfl, b1.trans (hw.mono b1.size)⟩

set_option maxRecDepth 100000 in
set_option maxHeartbeats 2000000 in
theorem crcResidue_long (a : Option Addr) (n cap : Nat) (w : World) (h : 300 < n) :
    Calls Try.prog 5 #[.slice a n cap] w fun e w' => e = .returned (.bool true) ∧ Below w.heap.size w w' := by
  go_enter Try.func5, Try.ntmps5
  go_wp2
  go_ret
  exact ⟨rfl, Below.refl _ _⟩

/-- The law, of whatever text. -/
theorem crcResidue_walk (a0 : Option Addr) (len0 cap0 : Nat) (z0 : List Int) (w : World) (w0 : IsRow .u8 w a0 len0 cap0 z0) :
    Calls Try.prog 5 #[.slice a0 len0 cap0] w fun e w' => e = .returned (.bool true) ∧ Below w.heap.size w w' := by
  obtain ⟨xs, rfl, hx, bx⟩ := holds_of_isRow w0
  by_cases h : 300 < xs.length
  · exact crcResidue_long a0 _ cap0 w h
  · exact crcResidue_short a0 cap0 xs (by omega) (bytes_bd bx) w hx

end Go.Proofs.Ytplobmkfmflkaab
