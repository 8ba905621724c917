/-
  What the page's Sealed answers, for every text in memory.
-/
import Derived.Test.YtkhmcoeffaeppaaRefSeal
namespace Go.Proofs.Ytkhmcoeffaeppaa
open Go.RowKit

set_option maxRecDepth 100000 in
set_option maxHeartbeats 2000000 in
theorem refSealed_any (a : Option Addr) (cap : Nat) (xs : List Int) (hl : xs.length ≤ 1000000) (hc : xs.length ≤ cap) (bx : ∀ z ∈ xs, 0 ≤ z ∧ z ≤ 255) (w : World) (ha : Holds .u8 w.heap.size w (.slice a xs.length cap) xs) :
    Calls Try.prog 25 #[.slice a xs.length cap] w fun e W' => e = .returned (.bool (isSealed xs)) ∧ Below w.heap.size w W' := by
  by_cases h4 : 4 ≤ xs.length
  · obtain ⟨Y, hY⟩ : ∃ Y, xs.take (xs.length - 4) = Y := ⟨_, rfl⟩
    have hYl : Y.length = xs.length - 4 := by rw [← hY, List.length_take]; omega
    have hi4 : (xs.length : Int) - 4 = (Y.length : Int) := by omega
    have hYc : Y.length ≤ cap := by omega
    have hYb : ∀ z ∈ Y, 0 ≤ z ∧ z ≤ 255 := fun z hz => bx z (List.mem_of_mem_take (hY ▸ hz))
    have hYH : Holds .u8 w.heap.size w (.slice a Y.length cap) Y := hY ▸ holds_takeB ha (xs.length - 4) (by omega)
    have HI : Hid (isSealed xs = decide (sealL Y = xs)) := by
      show (decide (4 ≤ xs.length) && decide (sealL (xs.take (xs.length - 4)) = xs)) = decide (sealL Y = xs)
      rw [hY, decide_eq_true h4, Bool.true_and]
    have HL : Hid (Y.length ≤ 1000000) := by show Y.length ≤ 1000000; omega
    clear hY hYl bx
    go_enter Try.func25, Try.ntmps25
    go_wp2_with fail
    refine (refSeal_any a cap Y HL.out hYb w hYH).mono ?_
    rintro e w1 ⟨r1, rfl, o1, b1⟩
    have hl1 : (sealL Y).length = Y.length + 4 := by show (Y ++ four (sum32 Y)).length = _; simp [four]
    have hH1 : Holds .u8 w1.heap.size w1 r1 (sealL Y) := holds_of_row o1
    have ha1 := ha.next b1
    clear o1 ha hYH hYb hl1
    go_wp2_with fail
    refine (bytes_any _ _ (sealL Y) xs _ _ _ (by omega) hH1 ha1).mono ?_
    rintro e w2 ⟨rfl, q, rfl⟩
    have b2 := below_drewN b1 q
    clear hH1 ha1 b1
    go_wp2
    go_ret
    exact ⟨by rw [HI.out]; rfl, b2⟩
  · have HI : Hid (isSealed xs = false) := by
      show (decide (4 ≤ xs.length) && decide (sealL (xs.take (xs.length - 4)) = xs)) = false
      rw [decide_eq_false h4, Bool.false_and]
    clear ha bx
    go_enter Try.func25, Try.ntmps25
    go_wp2
    go_ret
    exact ⟨by rw [HI.out]; rfl, Below.refl _ _⟩

end Go.Proofs.Ytkhmcoeffaeppaa
