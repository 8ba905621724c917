/-
  What the page's Data (may it be?) and volutekeep.Data answer. (Written by tpl_refdata.py.)
-/
import Derived.Test.YtpfhnefgibiedaaDataNums
import Derived.Test.YtpfhnefgibiedaaRefBlock
namespace Go.Proofs.Ytpfhnefgibiedaa
open Go.RowKit

set_option maxRecDepth 100000 in
set_option maxHeartbeats 2000000 in
theorem refData_any (s r f : Int) (a : Option Addr) (n cap : Nat) (w : World) :
    Calls Try.prog 11 #[.agg #[.int .i64 s, .int .i64 r, .int .i64 f, .slice a n cap]] w fun e w' => e = .returned (.int .i64 (errD s r f n)) ∧ Below w.heap.size w w' := by
  have b1 : Below w.heap.size w (w.alloc (.cells #[.int .i64 s, .int .i64 r, .int .i64 f, .slice a n cap] 24)) := (Below.refl w.heap.size w).alloc (Nat.le_refl _) _
  by_cases h0 : s < 0
  · have d0 : decide (s < 0) = true := decide_eq_true h0
    rw [errD_arg (by rw [← Bool.not_eq_true, dArg_iff]; omega)]
    clear h0
    go_enter Try.func11, Try.ntmps11
    go_wp2
    go_ret
    exact ⟨rfl, b1⟩
  have d0 : decide (s < 0) = false := decide_eq_false h0
  by_cases h1 : 1073741824 ≤ s
  · have d1 : decide (1073741824 ≤ s) = true := decide_eq_true h1
    rw [errD_arg (by rw [← Bool.not_eq_true, dArg_iff]; omega)]
    clear h0 h1
    go_enter Try.func11, Try.ntmps11
    go_wp2
    go_ret
    exact ⟨rfl, b1⟩
  have d1 : decide (1073741824 ≤ s) = false := decide_eq_false h1
  by_cases h2 : r < 0
  · have d2 : decide (r < 0) = true := decide_eq_true h2
    rw [errD_arg (by rw [← Bool.not_eq_true, dArg_iff]; omega)]
    clear h0 h1 h2
    go_enter Try.func11, Try.ntmps11
    go_wp2
    go_ret
    exact ⟨rfl, b1⟩
  have d2 : decide (r < 0) = false := decide_eq_false h2
  by_cases h3 : 255 < r
  · have d3 : decide (255 < r) = true := decide_eq_true h3
    rw [errD_arg (by rw [← Bool.not_eq_true, dArg_iff]; omega)]
    clear h0 h1 h2 h3
    go_enter Try.func11, Try.ntmps11
    go_wp2
    go_ret
    exact ⟨rfl, b1⟩
  have d3 : decide (255 < r) = false := decide_eq_false h3
  by_cases h4 : f < 0
  · have d4 : decide (f < 0) = true := decide_eq_true h4
    rw [errD_arg (by rw [← Bool.not_eq_true, dArg_iff]; omega)]
    clear h0 h1 h2 h3 h4
    go_enter Try.func11, Try.ntmps11
    go_wp2
    go_ret
    exact ⟨rfl, b1⟩
  have d4 : decide (f < 0) = false := decide_eq_false h4
  by_cases h5 : 65535 < f
  · have d5 : decide (65535 < f) = true := decide_eq_true h5
    rw [errD_arg (by rw [← Bool.not_eq_true, dArg_iff]; omega)]
    clear h0 h1 h2 h3 h4 h5
    go_enter Try.func11, Try.ntmps11
    go_wp2
    go_ret
    exact ⟨rfl, b1⟩
  have d5 : decide (65535 < f) = false := decide_eq_false h5
  have hA : dArg s r f = true := (dArg_iff _ _ _).2 (by omega)
  clear h0 h1 h2 h3 h4 h5
  by_cases h6 : n < 1
  · have d6 : decide ((n : Int) < 1) = true := decide_eq_true (by omega)
    have d6' : decide (n < 1) = true := decide_eq_true h6
    rw [errD_len hA (by omega)]
    clear hA h6
    go_enter Try.func11, Try.ntmps11
    go_wp2
    go_ret
    exact ⟨rfl, b1⟩
  have d6 : decide ((n : Int) < 1) = false := decide_eq_false (by omega)
  have d6' : decide (n < 1) = false := decide_eq_false h6
  by_cases h7 : 64 < n
  · have d7 : decide (64 < (n : Int)) = true := decide_eq_true (by omega)
    have d7' : decide (64 < n) = true := decide_eq_true h7
    rw [errD_len hA (by omega)]
    clear hA h6 h7
    go_enter Try.func11, Try.ntmps11
    go_wp2
    go_ret
    exact ⟨rfl, b1⟩
  have d7 : decide (64 < (n : Int)) = false := decide_eq_false (by omega)
  have d7' : decide (64 < n) = false := decide_eq_false h7
  rw [errD_zero.2 ⟨hA, by omega⟩]
  clear hA h6 h7
  go_enter Try.func11, Try.ntmps11
  go_wp2
  go_ret
  exact ⟨rfl, b1⟩

set_option maxRecDepth 100000 in
set_option maxHeartbeats 2000000 in
theorem keepData_any (s r f s' r' f' : Int) (v v' : Value) (xs ys : List Int) (w : World) (n₀ n₁ : Nat) (h0 : n₀ ≤ w.heap.size) (h1 : n₁ ≤ w.heap.size) (hy : ys.length ≤ 4611686018427387904) (ha : Holds .u8 n₀ w v xs) (hb : Holds .u8 n₁ w v' ys) :
    Calls Try.prog 12 #[.agg #[.int .i64 s, .int .i64 r, .int .i64 f, v], .agg #[.int .i64 s', .int .i64 r', .int .i64 f', v']] w fun e w' => e = .returned (.bool (decide (s = s' ∧ r = r' ∧ f = f' ∧ xs = ys))) ∧ Below w.heap.size w w' := by
  have b1 := ((Below.refl w.heap.size w).alloc (Nat.le_refl _) (.cells #[.int .i64 s, .int .i64 r, .int .i64 f, v] 24)).alloc (by simp) (.cells #[.int .i64 s', .int .i64 r', .int .i64 f', v'] 24)
  obtain ⟨a, ca, rfl⟩ := ha.shape
  obtain ⟨b, cb, rfl⟩ := hb.shape
  have HC := bytes_any (.slice a xs.length ca) (.slice b ys.length cb) xs ys n₀ n₁ _ hy (ha.below (b1.mono h0)) (hb.below (b1.mono h1))
  clear ha hb
  by_cases e0 : ¬ s = s'
  · have d0 : (s == s') = false := by simp [e0]
    rw [decide_eq_false (fun h => e0 h.1)]
    clear e0 HC
    go_enter Try.func12, Try.ntmps12
    go_wp2
    go_ret
    exact ⟨rfl, b1⟩
  obtain rfl := Classical.not_not.1 e0
  clear e0
  by_cases e1 : ¬ r = r'
  · have d1 : (r == r') = false := by simp [e1]
    rw [decide_eq_false (fun h => e1 h.2.1)]
    clear e1 HC
    go_enter Try.func12, Try.ntmps12
    go_wp2
    go_ret
    exact ⟨rfl, b1⟩
  obtain rfl := Classical.not_not.1 e1
  clear e1
  by_cases e2 : ¬ f = f'
  · have d2 : (f == f') = false := by simp [e2]
    rw [decide_eq_false (fun h => e2 h.2.2.1)]
    clear e2 HC
    go_enter Try.func12, Try.ntmps12
    go_wp2
    go_ret
    exact ⟨rfl, b1⟩
  obtain rfl := Classical.not_not.1 e2
  clear e2
  have HE : Hid (decide (s = s ∧ r = r ∧ f = f ∧ xs = ys) = decide (xs = ys)) := by
    show decide (s = s ∧ r = r ∧ f = f ∧ xs = ys) = decide (xs = ys)
    simp
  rw [HE.out]
  go_enter Try.func12, Try.ntmps12
  go_wp2_with fail
  refine HC.mono ?_
  rintro e w2 ⟨rfl, nd, rfl⟩
  go_wp2
  go_ret
  exact ⟨rfl, below_drewN b1 nd⟩

end Go.Proofs.Ytpfhnefgibiedaa
