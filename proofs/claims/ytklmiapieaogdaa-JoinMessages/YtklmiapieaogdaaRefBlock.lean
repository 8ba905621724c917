/-
  What the page's Block (may it be?), be and num, and volutekeep.Block answer, whatever they are asked. (Written by tpl_refblock.py.)
-/
import Derived.Test.YtklmiapieaogdaaBlockNums
import Derived.Test.YtklmiapieaogdaaKeepBytes
import Derived.Test.YtklmiapieaogdaaTwins
import Derived.Test.YtklmiapieaogdaaBoxMem
namespace Go.Proofs.Ytklmiapieaogdaa
open Go.RowKit

set_option maxRecDepth 100000 in
set_option maxHeartbeats 2000000 in
/-- volutekeep.Block. -/
theorem keepBlock_any (s m s' m' : Int) (v v' : Value) (xs ys : List Int) (w : World) (n₀ n₁ : Nat) (h0 : n₀ ≤ w.heap.size) (h1 : n₁ ≤ w.heap.size) (hy : ys.length ≤ 4611686018427387904) (ha : Holds .u8 n₀ w v xs) (hb : Holds .u8 n₁ w v' ys) :
    Calls Try.prog 13 #[.agg #[.int .i64 s, .int .i64 m, v], .agg #[.int .i64 s', .int .i64 m', v']] w fun e w' => e = .returned (.bool (decide (s = s' ∧ m = m' ∧ xs = ys))) ∧ Below w.heap.size w w' := by
  have b1 := ((Below.refl w.heap.size w).alloc (Nat.le_refl _) (.cells #[.int .i64 s, .int .i64 m, v] 27)).alloc (by simp) (.cells #[.int .i64 s', .int .i64 m', v'] 27)
  obtain ⟨a, ca, rfl⟩ := ha.shape
  obtain ⟨b, cb, rfl⟩ := hb.shape
  have HC := bytes_any (.slice a xs.length ca) (.slice b ys.length cb) xs ys n₀ n₁ _ hy (ha.below (b1.mono h0)) (hb.below (b1.mono h1))
  clear ha hb
  by_cases e1 : s = s'
  · subst e1
    by_cases e2 : m = m'
    · subst e2
      have HE : Hid (decide (s = s ∧ m = m ∧ xs = ys) = decide (xs = ys)) := by
        show decide (s = s ∧ m = m ∧ xs = ys) = decide (xs = ys)
        simp
      rw [HE.out]
      go_enter Try.func13, Try.ntmps13
      go_wp2_with fail
      refine HC.mono ?_
      rintro e w2 ⟨rfl, nd, rfl⟩
      go_wp2
      go_ret
      exact ⟨rfl, below_drewN b1 nd⟩
    · have d2 : (m == m') = false := by simp [e2]
      rw [decide_eq_false (fun h => e2 h.2.1)]
      clear e2 HC
      go_enter Try.func13, Try.ntmps13
      go_wp2
      go_ret
      exact ⟨rfl, b1⟩
  · have d1 : (s == s') = false := by simp [e1]
    rw [decide_eq_false (fun h => e1 h.1)]
    clear e1 HC
    go_enter Try.func13, Try.ntmps13
    go_wp2
    go_ret
    exact ⟨rfl, b1⟩

end Go.Proofs.Ytklmiapieaogdaa
