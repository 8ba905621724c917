/-
  What the page's in, Config, Segs, Most, Blocks, Ticks, Cycles answer. (Written by tpl_conf.py.)
-/
import Derived.Test.YthpbiccgjpocaaaConfNums
import Derived.Test.YthpbiccgjpocaaaBoxMem
import Derived.Test.YthpbiccgjpocaaaRegionHand
import Derived.Lib.MinMax
namespace Go.Proofs.Ythpbiccgjpocaaa
open Go.RowKit

set_option maxRecDepth 100000 in
set_option maxHeartbeats 400000 in
theorem refIn_any (n lo hi : Int) (w : World) : Calls Try.prog 19 #[.int .i64 n, .int .i64 lo, .int .i64 hi] w fun e w' => e = .returned (.bool (inC n lo hi)) ∧ w = w' := by
  unfold inC
  by_cases h : lo ≤ n
  · have d : decide (lo ≤ n) = true := decide_eq_true h
    rw [d, Bool.true_and]
    clear h
    go_enter Try.func19, Try.ntmps19
    go_wp2
    go_ret
    exact ⟨rfl, rfl⟩
  · have d : decide (lo ≤ n) = false := decide_eq_false h
    rw [d, Bool.false_and]
    clear h
    go_enter Try.func19, Try.ntmps19
    go_wp2
    go_ret
    exact ⟨rfl, rfl⟩

set_option maxRecDepth 100000 in
set_option maxHeartbeats 4000000 in
theorem refConfig_any (c : Cfg) (w : World) : Calls Try.prog 9 #[.agg #[.int .i64 c.cB, .int .i64 c.cBeam, .int .i64 c.cDepth, .int .i64 c.cWin, .int .i64 c.cQs, .int .i64 c.cQr, .int .i64 c.cBatch, .int .i64 c.cPass, .int .i64 c.cMsg, .int .i64 c.cSeqs]] w fun e w' => e = .returned (.bool (okC c)) ∧ Below w.heap.size w w' := by
  have b1 : Below w.heap.size w (w.alloc (.cells #[.int .i64 c.cB, .int .i64 c.cBeam, .int .i64 c.cDepth, .int .i64 c.cWin, .int .i64 c.cQs, .int .i64 c.cQr, .int .i64 c.cBatch, .int .i64 c.cPass, .int .i64 c.cMsg, .int .i64 c.cSeqs] 23)) := (Below.refl w.heap.size w).alloc (Nat.le_refl _) _
  by_cases h0 : inC c.cB 1 16 = false
  · have e0 : okC c = false := by unfold okC; rw [h0]; simp
    rw [e0]
    go_enter Try.func9, Try.ntmps9
    go_wp2_with (go_at_call 19; refine (refIn_any _ _ _ _).mono ?_; rintro e w9 ⟨rfl, rfl⟩)
    go_ret
    exact ⟨rfl, b1⟩
  have h0 : inC c.cB 1 16 = true := by simpa using h0
  by_cases h1 : inC c.cBeam 1 16 = false
  · have e0 : okC c = false := by unfold okC; rw [h0, h1]; simp
    rw [e0]
    go_enter Try.func9, Try.ntmps9
    go_wp2_with (go_at_call 19; refine (refIn_any _ _ _ _).mono ?_; rintro e w9 ⟨rfl, rfl⟩)
    go_ret
    exact ⟨rfl, b1⟩
  have h1 : inC c.cBeam 1 16 = true := by simpa using h1
  by_cases h2 : inC c.cDepth 1 3 = false
  · have e0 : okC c = false := by unfold okC; rw [h0, h1, h2]; simp
    rw [e0]
    go_enter Try.func9, Try.ntmps9
    go_wp2_with (go_at_call 19; refine (refIn_any _ _ _ _).mono ?_; rintro e w9 ⟨rfl, rfl⟩)
    go_ret
    exact ⟨rfl, b1⟩
  have h2 : inC c.cDepth 1 3 = true := by simpa using h2
  by_cases h3 : inC c.cWin 1 16 = false
  · have e0 : okC c = false := by unfold okC; rw [h0, h1, h2, h3]; simp
    rw [e0]
    go_enter Try.func9, Try.ntmps9
    go_wp2_with (go_at_call 19; refine (refIn_any _ _ _ _).mono ?_; rintro e w9 ⟨rfl, rfl⟩)
    go_ret
    exact ⟨rfl, b1⟩
  have h3 : inC c.cWin 1 16 = true := by simpa using h3
  by_cases h4 : inC c.cQs 1 16 = false
  · have e0 : okC c = false := by unfold okC; rw [h0, h1, h2, h3, h4]; simp
    rw [e0]
    go_enter Try.func9, Try.ntmps9
    go_wp2_with (go_at_call 19; refine (refIn_any _ _ _ _).mono ?_; rintro e w9 ⟨rfl, rfl⟩)
    go_ret
    exact ⟨rfl, b1⟩
  have h4 : inC c.cQs 1 16 = true := by simpa using h4
  by_cases h5 : inC c.cQr 1 16 = false
  · have e0 : okC c = false := by unfold okC; rw [h0, h1, h2, h3, h4, h5]; simp
    rw [e0]
    go_enter Try.func9, Try.ntmps9
    go_wp2_with (go_at_call 19; refine (refIn_any _ _ _ _).mono ?_; rintro e w9 ⟨rfl, rfl⟩)
    go_ret
    exact ⟨rfl, b1⟩
  have h5 : inC c.cQr 1 16 = true := by simpa using h5
  by_cases h6 : inC c.cBatch 1 64 = false
  · have e0 : okC c = false := by unfold okC; rw [h0, h1, h2, h3, h4, h5, h6]; simp
    rw [e0]
    go_enter Try.func9, Try.ntmps9
    go_wp2_with (go_at_call 19; refine (refIn_any _ _ _ _).mono ?_; rintro e w9 ⟨rfl, rfl⟩)
    go_ret
    exact ⟨rfl, b1⟩
  have h6 : inC c.cBatch 1 64 = true := by simpa using h6
  by_cases h7 : inC c.cPass 4 16 = false
  · have e0 : okC c = false := by unfold okC; rw [h0, h1, h2, h3, h4, h5, h6, h7]; simp
    rw [e0]
    go_enter Try.func9, Try.ntmps9
    go_wp2_with (go_at_call 19; refine (refIn_any _ _ _ _).mono ?_; rintro e w9 ⟨rfl, rfl⟩)
    go_ret
    exact ⟨rfl, b1⟩
  have h7 : inC c.cPass 4 16 = true := by simpa using h7
  by_cases h8 : inC c.cMsg 0 200 = false
  · have e0 : okC c = false := by unfold okC; rw [h0, h1, h2, h3, h4, h5, h6, h7, h8]; simp
    rw [e0]
    go_enter Try.func9, Try.ntmps9
    go_wp2_with (go_at_call 19; refine (refIn_any _ _ _ _).mono ?_; rintro e w9 ⟨rfl, rfl⟩)
    go_ret
    exact ⟨rfl, b1⟩
  have h8 : inC c.cMsg 0 200 = true := by simpa using h8
  by_cases h9 : inC c.cSeqs 0 1073741824 = false
  · have e0 : okC c = false := by unfold okC; rw [h0, h1, h2, h3, h4, h5, h6, h7, h8, h9]; simp
    rw [e0]
    go_enter Try.func9, Try.ntmps9
    go_wp2_with (go_at_call 19; refine (refIn_any _ _ _ _).mono ?_; rintro e w9 ⟨rfl, rfl⟩)
    go_ret
    exact ⟨rfl, b1⟩
  have h9 : inC c.cSeqs 0 1073741824 = true := by simpa using h9
  have e0 : okC c = true := by unfold okC; rw [h0, h1, h2, h3, h4, h5, h6, h7, h8, h9]; rfl
  rw [e0]
  go_enter Try.func9, Try.ntmps9
  go_wp2_with (go_at_call 19; refine (refIn_any _ _ _ _).mono ?_; rintro e w9 ⟨rfl, rfl⟩)
  go_ret
  exact ⟨rfl, b1⟩

set_option maxRecDepth 100000 in
set_option maxHeartbeats 2000000 in
theorem refBlocks_any (c : Cfg) (h : okC c = true) (n : Int) (h0 : 0 ≤ n) (h1 : n ≤ 200) (w : World) : Calls Try.prog 20 #[.agg #[.int .i64 c.cB, .int .i64 c.cBeam, .int .i64 c.cDepth, .int .i64 c.cWin, .int .i64 c.cQs, .int .i64 c.cQr, .int .i64 c.cBatch, .int .i64 c.cPass, .int .i64 c.cMsg, .int .i64 c.cSeqs], .int .i64 n] w fun e w' => e = .returned (.int .i64 (blocksC c n)) ∧ Below w.heap.size w w' := by
  have b1 : Below w.heap.size w (w.alloc (.cells #[.int .i64 c.cB, .int .i64 c.cBeam, .int .i64 c.cDepth, .int .i64 c.cWin, .int .i64 c.cQs, .int .i64 c.cQr, .int .i64 c.cBatch, .int .i64 c.cPass, .int .i64 c.cMsg, .int .i64 c.cSeqs] 23)) := (Below.refl w.heap.size w).alloc (Nat.le_refl _) _
  have hb := ((okC_iff c).1 h).1
  have hbb := blocksC_bd h h0 h1
  obtain ⟨D, hD⟩ : ∃ D, (n + c.cB - 1) / c.cB = D := ⟨_, rfl⟩
  have HD : Hid (blocksC c n = max D 1) := by show blocksC c n = max D 1; rw [← hD]; rfl
  have hD0 : 0 ≤ D := by rw [← hD]; exact Int.ediv_nonneg (by omega) (by omega)
  have hD1 : D ≤ 200 := by have := HD.out; omega
  have eT : (n + c.cB - 1).tdiv c.cB = D := by rw [Int.tdiv_eq_ediv_of_nonneg (by omega)]; exact hD
  have e1 : IntKind.i64.wrap (n + c.cB) = n + c.cB := by rw [IntKind.wrap_i64]; omega
  have e2 : IntKind.i64.wrap (n + c.cB - 1) = n + c.cB - 1 := by rw [IntKind.wrap_i64]; omega
  have e3 : IntKind.i64.wrap D = D := by rw [IntKind.wrap_i64]; omega
  have e4 : ¬ c.cB = 0 := by omega
  rw [HD.out]
  clear h hb hbb hD h0 h1
  go_enter Try.func20, Try.ntmps20
  go_wp2
  go_ret
  exact ⟨rfl, b1⟩

end Go.Proofs.Ythpbiccgjpocaaa
