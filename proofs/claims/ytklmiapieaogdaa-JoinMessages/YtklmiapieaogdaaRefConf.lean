/-
  What the page's in, Config, Segs, Most, Blocks, Ticks, Cycles answer. (Written by tpl_conf.py.)
-/
import Derived.Test.YtklmiapieaogdaaConfNums
import Derived.Test.YtklmiapieaogdaaBoxMem
import Derived.Test.YtklmiapieaogdaaRegionHand
import Derived.Lib.MinMax
namespace Go.Proofs.Ytklmiapieaogdaa
open Go.RowKit

set_option maxRecDepth 100000 in
set_option maxHeartbeats 400000 in
theorem refIn_any (n lo hi : Int) (w : World) : Calls Try.prog 24 #[.int .i64 n, .int .i64 lo, .int .i64 hi] w fun e w' => e = .returned (.bool (inC n lo hi)) ∧ w = w' := by
  unfold inC
  by_cases h : lo ≤ n
  · have d : decide (lo ≤ n) = true := decide_eq_true h
    rw [d, Bool.true_and]
    clear h
    go_enter Try.func24, Try.ntmps24
    go_wp2
    go_ret
    exact ⟨rfl, rfl⟩
  · have d : decide (lo ≤ n) = false := decide_eq_false h
    rw [d, Bool.false_and]
    clear h
    go_enter Try.func24, Try.ntmps24
    go_wp2
    go_ret
    exact ⟨rfl, rfl⟩

set_option maxRecDepth 100000 in
set_option maxHeartbeats 4000000 in
theorem refConfig_any (c : Cfg) (w : World) : Calls Try.prog 17 #[.agg #[.int .i64 c.cB, .int .i64 c.cBeam, .int .i64 c.cDepth, .int .i64 c.cWin, .int .i64 c.cQs, .int .i64 c.cQr, .int .i64 c.cBatch, .int .i64 c.cPass, .int .i64 c.cMsg, .int .i64 c.cSeqs]] w fun e w' => e = .returned (.bool (okC c)) ∧ Below w.heap.size w w' := by
  have b1 : Below w.heap.size w (w.alloc (.cells #[.int .i64 c.cB, .int .i64 c.cBeam, .int .i64 c.cDepth, .int .i64 c.cWin, .int .i64 c.cQs, .int .i64 c.cQr, .int .i64 c.cBatch, .int .i64 c.cPass, .int .i64 c.cMsg, .int .i64 c.cSeqs] 40)) := (Below.refl w.heap.size w).alloc (Nat.le_refl _) _
  by_cases h0 : inC c.cB 1 16 = false
  · have e0 : okC c = false := by unfold okC; rw [h0]; simp
    rw [e0]
    go_enter Try.func17, Try.ntmps17
    go_wp2_with (go_at_call 24; refine (refIn_any _ _ _ _).mono ?_; rintro e w9 ⟨rfl, rfl⟩)
    go_ret
    exact ⟨rfl, b1⟩
  have h0 : inC c.cB 1 16 = true := by simpa using h0
  by_cases h1 : inC c.cBeam 1 16 = false
  · have e0 : okC c = false := by unfold okC; rw [h0, h1]; simp
    rw [e0]
    go_enter Try.func17, Try.ntmps17
    go_wp2_with (go_at_call 24; refine (refIn_any _ _ _ _).mono ?_; rintro e w9 ⟨rfl, rfl⟩)
    go_ret
    exact ⟨rfl, b1⟩
  have h1 : inC c.cBeam 1 16 = true := by simpa using h1
  by_cases h2 : inC c.cDepth 1 3 = false
  · have e0 : okC c = false := by unfold okC; rw [h0, h1, h2]; simp
    rw [e0]
    go_enter Try.func17, Try.ntmps17
    go_wp2_with (go_at_call 24; refine (refIn_any _ _ _ _).mono ?_; rintro e w9 ⟨rfl, rfl⟩)
    go_ret
    exact ⟨rfl, b1⟩
  have h2 : inC c.cDepth 1 3 = true := by simpa using h2
  by_cases h3 : inC c.cWin 1 16 = false
  · have e0 : okC c = false := by unfold okC; rw [h0, h1, h2, h3]; simp
    rw [e0]
    go_enter Try.func17, Try.ntmps17
    go_wp2_with (go_at_call 24; refine (refIn_any _ _ _ _).mono ?_; rintro e w9 ⟨rfl, rfl⟩)
    go_ret
    exact ⟨rfl, b1⟩
  have h3 : inC c.cWin 1 16 = true := by simpa using h3
  by_cases h4 : inC c.cQs 1 16 = false
  · have e0 : okC c = false := by unfold okC; rw [h0, h1, h2, h3, h4]; simp
    rw [e0]
    go_enter Try.func17, Try.ntmps17
    go_wp2_with (go_at_call 24; refine (refIn_any _ _ _ _).mono ?_; rintro e w9 ⟨rfl, rfl⟩)
    go_ret
    exact ⟨rfl, b1⟩
  have h4 : inC c.cQs 1 16 = true := by simpa using h4
  by_cases h5 : inC c.cQr 1 16 = false
  · have e0 : okC c = false := by unfold okC; rw [h0, h1, h2, h3, h4, h5]; simp
    rw [e0]
    go_enter Try.func17, Try.ntmps17
    go_wp2_with (go_at_call 24; refine (refIn_any _ _ _ _).mono ?_; rintro e w9 ⟨rfl, rfl⟩)
    go_ret
    exact ⟨rfl, b1⟩
  have h5 : inC c.cQr 1 16 = true := by simpa using h5
  by_cases h6 : inC c.cBatch 1 64 = false
  · have e0 : okC c = false := by unfold okC; rw [h0, h1, h2, h3, h4, h5, h6]; simp
    rw [e0]
    go_enter Try.func17, Try.ntmps17
    go_wp2_with (go_at_call 24; refine (refIn_any _ _ _ _).mono ?_; rintro e w9 ⟨rfl, rfl⟩)
    go_ret
    exact ⟨rfl, b1⟩
  have h6 : inC c.cBatch 1 64 = true := by simpa using h6
  by_cases h7 : inC c.cPass 4 16 = false
  · have e0 : okC c = false := by unfold okC; rw [h0, h1, h2, h3, h4, h5, h6, h7]; simp
    rw [e0]
    go_enter Try.func17, Try.ntmps17
    go_wp2_with (go_at_call 24; refine (refIn_any _ _ _ _).mono ?_; rintro e w9 ⟨rfl, rfl⟩)
    go_ret
    exact ⟨rfl, b1⟩
  have h7 : inC c.cPass 4 16 = true := by simpa using h7
  by_cases h8 : inC c.cMsg 0 200 = false
  · have e0 : okC c = false := by unfold okC; rw [h0, h1, h2, h3, h4, h5, h6, h7, h8]; simp
    rw [e0]
    go_enter Try.func17, Try.ntmps17
    go_wp2_with (go_at_call 24; refine (refIn_any _ _ _ _).mono ?_; rintro e w9 ⟨rfl, rfl⟩)
    go_ret
    exact ⟨rfl, b1⟩
  have h8 : inC c.cMsg 0 200 = true := by simpa using h8
  by_cases h9 : inC c.cSeqs 0 1073741824 = false
  · have e0 : okC c = false := by unfold okC; rw [h0, h1, h2, h3, h4, h5, h6, h7, h8, h9]; simp
    rw [e0]
    go_enter Try.func17, Try.ntmps17
    go_wp2_with (go_at_call 24; refine (refIn_any _ _ _ _).mono ?_; rintro e w9 ⟨rfl, rfl⟩)
    go_ret
    exact ⟨rfl, b1⟩
  have h9 : inC c.cSeqs 0 1073741824 = true := by simpa using h9
  have e0 : okC c = true := by unfold okC; rw [h0, h1, h2, h3, h4, h5, h6, h7, h8, h9]; rfl
  rw [e0]
  go_enter Try.func17, Try.ntmps17
  go_wp2_with (go_at_call 24; refine (refIn_any _ _ _ _).mono ?_; rintro e w9 ⟨rfl, rfl⟩)
  go_ret
  exact ⟨rfl, b1⟩

end Go.Proofs.Ytklmiapieaogdaa
