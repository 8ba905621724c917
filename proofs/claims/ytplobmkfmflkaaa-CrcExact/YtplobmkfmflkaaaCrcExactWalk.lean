/-
  CrcExact: the walk: whatever the text, the law answers true, and nothing that lay has turned.
-/
import Derived.Test.YtplobmkfmflkaaaCrcWakes
import Derived.Test.YtplobmkfmflkaaaByteRow
import Derived.Test.YtplobmkfmflkaaaRefSum32
import Derived.Test.YtplobmkfmflkaaaKeepBytes
namespace Go.Proofs.Ytplobmkfmflkaaa
open Go.RowKit

set_option maxRecDepth 100000 in
set_option maxHeartbeats 2000000 in
theorem crcExact_short (a : Option Addr) (cap : Nat) (xs : List Int) (hl : xs.length ≤ 300) (bx : ∀ z ∈ xs, 0 ≤ z ∧ z ≤ 255) (w : World) (ha : Holds .u8 w.heap.size w (.slice a xs.length cap) xs) :
    Calls Try.prog 3 #[.slice a xs.length cap] w fun e w' => e = .returned (.bool true) ∧ Below w.heap.size w w' := by
  have HB : Hid (∀ z ∈ xs, 0 ≤ z ∧ z ≤ 255) := bx
  clear bx
  go_enter Try.func3, Try.ntmps3
  go_wp2_with fail
  refine (twin_any _ xs _ (by omega) w ha).mono ?_
  rintro e w1 ⟨r1, rfl, o1, b1⟩
  have h1 := holds_of_row o1
  obtain ⟨a1, c1, rfl⟩ := h1.shape
  have ha1 := ha.next b1
  clear o1 ha
  go_wp2_with fail
  refine (Sum16_any a1 c1 xs (by omega) HB.out w1 _ h1).mono ?_
  rintro e w2 ⟨rfl, rfl⟩
  go_wp2_with fail
  refine (Sum32_any a1 c1 xs (by omega) HB.out w1 _ h1).mono ?_
  rintro e w2 ⟨rfl, rfl⟩
  go_wp2_with fail
  refine (refSum16_any a cap xs (by omega) HB.out w1 ha1).mono ?_
  rintro e w2 ⟨rfl, b2⟩
  have q1 : ((sum16 xs : Int) == (sum16 xs : Int)) = true := by simp
  have q2 : ((sum32 xs : Int) == (sum32 xs : Int)) = true := by simp
  have ha2 := ha1.next b2
  have h2 := h1.next b2
  clear ha1 h1
  go_wp2_with fail
  refine (refSum32_any a cap xs (by omega) HB.out w2 ha2).mono ?_
  rintro e w3 ⟨rfl, q, rfl⟩
  go_wp2_with fail
  refine (bytes_any _ _ xs xs _ _ (w2.drewN q) (by omega) h2 ha2).mono ?_
  rw [decide_eq_true rfl]
  rintro e w4 ⟨rfl, q', rfl⟩
  clear ha2 h2
  go_wp2_with fail
  refine (wakes_any _).mono ?_
  rintro e w5 ⟨rfl, hw⟩
  go_wp2
  go_ret
  have bb := b1.trans (b2.mono b1.size)
  exact ⟨rfl, (below_drewN bb (q + q')).trans (hw.mono bb.size)⟩

set_option maxRecDepth 100000 in
set_option maxHeartbeats 2000000 in
theorem crcExact_long (a : Option Addr) (n cap : Nat) (w : World) (h : 300 < n) :
    Calls Try.prog 3 #[.slice a n cap] w fun e w' => e = .returned (.bool true) ∧ Below w.heap.size w w' := by
  go_enter Try.func3, Try.ntmps3
  go_wp2
  go_ret
  exact ⟨rfl, Below.refl _ _⟩

/-- The law, of whatever text. -/
theorem crcExact_walk (a0 : Option Addr) (len0 cap0 : Nat) (z0 : List Int) (w : World) (w0 : IsRow .u8 w a0 len0 cap0 z0) :
    Calls Try.prog 3 #[.slice a0 len0 cap0] w fun e w' => e = .returned (.bool true) ∧ Below w.heap.size w w' := by
  obtain ⟨xs, rfl, hx, bx⟩ := holds_of_isRow w0
  by_cases h : 300 < xs.length
  · exact crcExact_long a0 _ cap0 w h
  · exact crcExact_short a0 cap0 xs (by omega) (bytes_bd bx) w hx

end Go.Proofs.Ytplobmkfmflkaaa
