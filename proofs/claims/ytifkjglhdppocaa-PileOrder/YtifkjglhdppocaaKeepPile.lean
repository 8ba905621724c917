/-
  What volutekeep.Pile, TwinPile, SpoilSyms answer, for all piles in memory.
-/
import Derived.Test.YtifkjglhdppocaaKeepSyms
import Derived.Test.YtifkjglhdppocaaBoxMem
namespace Go.Proofs.Ytifkjglhdppocaa
open Go.RowKit

/-- A pile as a value. -/
def pileV (n p : Int) (v : Value) : Value := .agg #[.int .i64 n, .int .i64 p, v]

set_option maxRecDepth 100000 in
set_option maxHeartbeats 2000000 in
/-- volutekeep.Pile. -/
theorem keepPile_any (n p n' p' : Int) (v v' : Value) (xs ys : List (Int × Int)) (w : World) (hy : ys.length ≤ 4611686018427387904) (ha : Syms w.heap.size w v xs) (hb : Syms w.heap.size w v' ys) :
    Calls Try.prog 7 #[.agg #[.int .i64 n, .int .i64 p, v], .agg #[.int .i64 n', .int .i64 p', v']] w fun e w' => e = .returned (.bool (decide (n = n' ∧ p = p' ∧ xs = ys))) ∧ Below w.heap.size w w' := by
  have b1 := ((Below.refl w.heap.size w).alloc (Nat.le_refl _) (.cells #[.int .i64 n, .int .i64 p, v] 26)).alloc (by simp) (.cells #[.int .i64 n', .int .i64 p', v'] 26)
  have ha1 := ha.next b1
  have hb1 := hb.next b1
  obtain ⟨a, cap, rfl⟩ := ha.shape
  obtain ⟨a', cap', rfl⟩ := hb.shape
  clear ha hb
  by_cases hn : n = n'
  · have e1 : (n == n') = true := by simp [hn]
    by_cases hp : p = p'
    · have e2 : (p == p') = true := by simp [hp]
      have HD : Hid (decide (n = n' ∧ p = p' ∧ xs = ys) = decide (xs = ys)) := by
        show decide (n = n' ∧ p = p' ∧ xs = ys) = decide (xs = ys)
        exact decide_eq_decide.2 ⟨fun h => h.2.2, fun h => ⟨hn, hp, h⟩⟩
      clear hn hp
      go_enter Try.func7, Try.ntmps7
      go_wp2_with fail
      refine (syms_any _ _ xs ys _ _ _ hy ha1 hb1).mono ?_
      rw [← HD.out]
      obtain ⟨D, hD⟩ : ∃ D, decide (n = n' ∧ p = p' ∧ xs = ys) = D := ⟨_, rfl⟩
      have HDD : Hid (decide (n = n' ∧ p = p' ∧ xs = ys) = D) := hD
      rw [hD]
      clear hD HD
      rintro e w2 ⟨rfl, q, rfl⟩
      go_wp2
      go_ret
      exact ⟨by rw [HDD.out]; rfl, below_drewN b1 q⟩
    · have e2 : (p == p') = false := by simp [hp]
      have HD : Hid (decide (n = n' ∧ p = p' ∧ xs = ys) = false) := decide_eq_false fun h => hp h.2.1
      clear hn hp ha1 hb1
      go_enter Try.func7, Try.ntmps7
      go_wp2
      go_ret
      exact ⟨by rw [HD.out]; rfl, b1⟩
  · have e1 : (n == n') = false := by simp [hn]
    have HD : Hid (decide (n = n' ∧ p = p' ∧ xs = ys) = false) := decide_eq_false fun h => hn h.1
    clear hn ha1 hb1
    go_enter Try.func7, Try.ntmps7
    go_wp2
    go_ret
    exact ⟨by rw [HD.out]; rfl, b1⟩

end Go.Proofs.Ytifkjglhdppocaa
