/-
  What the page's in, Config, Segs, Most, Blocks, Ticks, Cycles answer. (Written by tpl_conf.py.)
-/
import Derived.Test.YtmjidhnlofpliabM01
import Derived.Test.YtmjidhnlofpliabM13
import Derived.Lib.MinMax
namespace Go.Proofs.Ytmjidhnlofpliab
open Go.RowKit

end Go.Proofs.Ytmjidhnlofpliab

/-
  What package conf answers (isFrom, isRightForBlock, isRightForEnds, parts, Check, Segs, Most, Blocks, Ticks, Cycles), of whatever configuration. (Written by tpl_confcode.py.)
-/
namespace Go.Proofs.Ytmjidhnlofpliab
open Go.RowKit

def okCb (c : Cfg) : Bool := inC c.cB 1 16 && inC c.cBeam 1 16 && inC c.cDepth 1 3 && inC c.cBatch 1 64 && inC c.cPass 4 16
def okCe (c : Cfg) : Bool := inC c.cWin 1 16 && inC c.cQs 1 16 && inC c.cQr 1 16 && inC c.cMsg 0 200 && inC c.cSeqs 0 1073741824
theorem okC_two (c : Cfg) : okC c = (okCb c && okCe c) := by
  unfold okC okCb okCe
  cases inC c.cB 1 16 <;> cases inC c.cBeam 1 16 <;> cases inC c.cDepth 1 3 <;> cases inC c.cBatch 1 64 <;> cases inC c.cPass 4 16 <;> simp

set_option maxRecDepth 100000 in
set_option maxHeartbeats 400000 in
theorem confFrom_any (lo n hi : Int) (w : World) : Calls Try.prog 46 #[.int .i64 lo, .int .i64 n, .int .i64 hi] w fun e w' => e = .returned (.bool (inC n lo hi)) ∧ w = w' := by
  unfold inC
  by_cases h : lo ≤ n
  · have d : decide (lo ≤ n) = true := decide_eq_true h
    rw [d, Bool.true_and]
    clear h
    go_enter Try.func46, Try.ntmps46
    go_wp2
    go_ret
    exact ⟨rfl, rfl⟩
  · have d : decide (lo ≤ n) = false := decide_eq_false h
    rw [d, Bool.false_and]
    clear h
    go_enter Try.func46, Try.ntmps46
    go_wp2
    go_ret
    exact ⟨rfl, rfl⟩

set_option maxRecDepth 100000 in
set_option maxHeartbeats 4000000 in
theorem confBlock_any (c : Cfg) (w : World) : Calls Try.prog 23 #[.agg #[.int .i64 c.cB, .int .i64 c.cBeam, .int .i64 c.cDepth, .int .i64 c.cWin, .int .i64 c.cQs, .int .i64 c.cQr, .int .i64 c.cBatch, .int .i64 c.cPass, .int .i64 c.cMsg, .int .i64 c.cSeqs]] w fun e w' => e = .returned (.bool (okCb c)) ∧ Below w.heap.size w w' := by
  have b1 : Below w.heap.size w (w.alloc (.cells #[.int .i64 c.cB, .int .i64 c.cBeam, .int .i64 c.cDepth, .int .i64 c.cWin, .int .i64 c.cQs, .int .i64 c.cQr, .int .i64 c.cBatch, .int .i64 c.cPass, .int .i64 c.cMsg, .int .i64 c.cSeqs] 23)) := (Below.refl w.heap.size w).alloc (Nat.le_refl _) _
  by_cases h0 : inC c.cB 1 16 = false
  · have e0 : okCb c = false := by unfold okCb; rw [h0]; simp
    rw [e0]
    go_enter Try.func23, Try.ntmps23
    go_wp2_with (go_at_call 46; refine (confFrom_any _ _ _ _).mono ?_; rintro e w9 ⟨rfl, rfl⟩)
    go_ret
    exact ⟨rfl, b1⟩
  have h0 : inC c.cB 1 16 = true := by simpa using h0
  by_cases h1 : inC c.cBeam 1 16 = false
  · have e0 : okCb c = false := by unfold okCb; rw [h0, h1]; simp
    rw [e0]
    go_enter Try.func23, Try.ntmps23
    go_wp2_with (go_at_call 46; refine (confFrom_any _ _ _ _).mono ?_; rintro e w9 ⟨rfl, rfl⟩)
    go_ret
    exact ⟨rfl, b1⟩
  have h1 : inC c.cBeam 1 16 = true := by simpa using h1
  by_cases h2 : inC c.cDepth 1 3 = false
  · have e0 : okCb c = false := by unfold okCb; rw [h0, h1, h2]; simp
    rw [e0]
    go_enter Try.func23, Try.ntmps23
    go_wp2_with (go_at_call 46; refine (confFrom_any _ _ _ _).mono ?_; rintro e w9 ⟨rfl, rfl⟩)
    go_ret
    exact ⟨rfl, b1⟩
  have h2 : inC c.cDepth 1 3 = true := by simpa using h2
  by_cases h3 : inC c.cBatch 1 64 = false
  · have e0 : okCb c = false := by unfold okCb; rw [h0, h1, h2, h3]; simp
    rw [e0]
    go_enter Try.func23, Try.ntmps23
    go_wp2_with (go_at_call 46; refine (confFrom_any _ _ _ _).mono ?_; rintro e w9 ⟨rfl, rfl⟩)
    go_ret
    exact ⟨rfl, b1⟩
  have h3 : inC c.cBatch 1 64 = true := by simpa using h3
  by_cases h4 : inC c.cPass 4 16 = false
  · have e0 : okCb c = false := by unfold okCb; rw [h0, h1, h2, h3, h4]; simp
    rw [e0]
    go_enter Try.func23, Try.ntmps23
    go_wp2_with (go_at_call 46; refine (confFrom_any _ _ _ _).mono ?_; rintro e w9 ⟨rfl, rfl⟩)
    go_ret
    exact ⟨rfl, b1⟩
  have h4 : inC c.cPass 4 16 = true := by simpa using h4
  have e0 : okCb c = true := by unfold okCb; rw [h0, h1, h2, h3, h4]; rfl
  rw [e0]
  go_enter Try.func23, Try.ntmps23
  go_wp2_with (go_at_call 46; refine (confFrom_any _ _ _ _).mono ?_; rintro e w9 ⟨rfl, rfl⟩)
  go_ret
  exact ⟨rfl, b1⟩

set_option maxRecDepth 100000 in
set_option maxHeartbeats 4000000 in
theorem confEnds_any (c : Cfg) (w : World) : Calls Try.prog 24 #[.agg #[.int .i64 c.cB, .int .i64 c.cBeam, .int .i64 c.cDepth, .int .i64 c.cWin, .int .i64 c.cQs, .int .i64 c.cQr, .int .i64 c.cBatch, .int .i64 c.cPass, .int .i64 c.cMsg, .int .i64 c.cSeqs]] w fun e w' => e = .returned (.bool (okCe c)) ∧ Below w.heap.size w w' := by
  have b1 : Below w.heap.size w (w.alloc (.cells #[.int .i64 c.cB, .int .i64 c.cBeam, .int .i64 c.cDepth, .int .i64 c.cWin, .int .i64 c.cQs, .int .i64 c.cQr, .int .i64 c.cBatch, .int .i64 c.cPass, .int .i64 c.cMsg, .int .i64 c.cSeqs] 23)) := (Below.refl w.heap.size w).alloc (Nat.le_refl _) _
  by_cases h0 : inC c.cWin 1 16 = false
  · have e0 : okCe c = false := by unfold okCe; rw [h0]; simp
    rw [e0]
    go_enter Try.func24, Try.ntmps24
    go_wp2_with (go_at_call 46; refine (confFrom_any _ _ _ _).mono ?_; rintro e w9 ⟨rfl, rfl⟩)
    go_ret
    exact ⟨rfl, b1⟩
  have h0 : inC c.cWin 1 16 = true := by simpa using h0
  by_cases h1 : inC c.cQs 1 16 = false
  · have e0 : okCe c = false := by unfold okCe; rw [h0, h1]; simp
    rw [e0]
    go_enter Try.func24, Try.ntmps24
    go_wp2_with (go_at_call 46; refine (confFrom_any _ _ _ _).mono ?_; rintro e w9 ⟨rfl, rfl⟩)
    go_ret
    exact ⟨rfl, b1⟩
  have h1 : inC c.cQs 1 16 = true := by simpa using h1
  by_cases h2 : inC c.cQr 1 16 = false
  · have e0 : okCe c = false := by unfold okCe; rw [h0, h1, h2]; simp
    rw [e0]
    go_enter Try.func24, Try.ntmps24
    go_wp2_with (go_at_call 46; refine (confFrom_any _ _ _ _).mono ?_; rintro e w9 ⟨rfl, rfl⟩)
    go_ret
    exact ⟨rfl, b1⟩
  have h2 : inC c.cQr 1 16 = true := by simpa using h2
  by_cases h3 : inC c.cMsg 0 200 = false
  · have e0 : okCe c = false := by unfold okCe; rw [h0, h1, h2, h3]; simp
    rw [e0]
    go_enter Try.func24, Try.ntmps24
    go_wp2_with (go_at_call 46; refine (confFrom_any _ _ _ _).mono ?_; rintro e w9 ⟨rfl, rfl⟩)
    go_ret
    exact ⟨rfl, b1⟩
  have h3 : inC c.cMsg 0 200 = true := by simpa using h3
  by_cases h4 : inC c.cSeqs 0 1073741824 = false
  · have e0 : okCe c = false := by unfold okCe; rw [h0, h1, h2, h3, h4]; simp
    rw [e0]
    go_enter Try.func24, Try.ntmps24
    go_wp2_with (go_at_call 46; refine (confFrom_any _ _ _ _).mono ?_; rintro e w9 ⟨rfl, rfl⟩)
    go_ret
    exact ⟨rfl, b1⟩
  have h4 : inC c.cSeqs 0 1073741824 = true := by simpa using h4
  have e0 : okCe c = true := by unfold okCe; rw [h0, h1, h2, h3, h4]; rfl
  rw [e0]
  go_enter Try.func24, Try.ntmps24
  go_wp2_with (go_at_call 46; refine (confFrom_any _ _ _ _).mono ?_; rintro e w9 ⟨rfl, rfl⟩)
  go_ret
  exact ⟨rfl, b1⟩

set_option maxRecDepth 100000 in
set_option maxHeartbeats 1000000 in
theorem confCodeSegs (k : Int) (h2 : 0 ≤ k) (h3 : k ≤ 32) (w : World) : Calls Try.prog 48 #[.int .i64 k] w fun e w' => e = .returned (.int .i64 (2 * k)) ∧ w = w' := by
  have d0 : decide (k < 0) = false := decide_eq_false (by omega)
  have d1 : decide (32 < k) = false := decide_eq_false (by omega)
  go_enter Try.func48, Try.ntmps48
  go_wp2
  go_ret
  exact ⟨rfl, rfl⟩

set_option maxRecDepth 100000 in
set_option maxHeartbeats 2000000 in
theorem ConfCheck_any (c : Cfg) (w : World) :
    Calls Try.prog 10 #[.agg #[.int .i64 c.cB, .int .i64 c.cBeam, .int .i64 c.cDepth, .int .i64 c.cWin, .int .i64 c.cQs, .int .i64 c.cQr, .int .i64 c.cBatch, .int .i64 c.cPass, .int .i64 c.cMsg, .int .i64 c.cSeqs]] w fun e w' => e = .returned (.int .i64 (checkA c)) ∧ Below w.heap.size w w' := by
  have b1 : Below w.heap.size w (w.alloc (.cells #[.int .i64 c.cB, .int .i64 c.cBeam, .int .i64 c.cDepth, .int .i64 c.cWin, .int .i64 c.cQs, .int .i64 c.cQr, .int .i64 c.cBatch, .int .i64 c.cPass, .int .i64 c.cMsg, .int .i64 c.cSeqs] 23)) := (Below.refl w.heap.size w).alloc (Nat.le_refl _) _
  have H1 := confBlock_any c (w.alloc (.cells #[.int .i64 c.cB, .int .i64 c.cBeam, .int .i64 c.cDepth, .int .i64 c.cWin, .int .i64 c.cQs, .int .i64 c.cQr, .int .i64 c.cBatch, .int .i64 c.cPass, .int .i64 c.cMsg, .int .i64 c.cSeqs] 23))
  unfold checkA
  by_cases h0 : okCb c = false
  · rw [h0] at H1
    rw [show okC c = false by rw [okC_two, h0]; rfl, if_neg (by simp)]
    go_enter Try.func10, Try.ntmps10
    go_wp2_with fail
    refine H1.mono ?_
    rintro e w2 ⟨rfl, b2⟩
    go_wp2
    go_ret
    exact ⟨rfl, b1.trans (b2.mono (by simp))⟩
  have h0 : okCb c = true := by simpa using h0
  rw [h0] at H1
  have H2 : Hid (∀ wx : World, Calls Try.prog 24 #[.agg #[.int .i64 c.cB, .int .i64 c.cBeam, .int .i64 c.cDepth, .int .i64 c.cWin, .int .i64 c.cQs, .int .i64 c.cQr, .int .i64 c.cBatch, .int .i64 c.cPass, .int .i64 c.cMsg, .int .i64 c.cSeqs]] wx fun e w' => e = .returned (.bool (okCe c)) ∧ Below wx.heap.size wx w') := fun wx => confEnds_any c wx
  have x1 := Box.new w 23 #[.int .i64 c.cB, .int .i64 c.cBeam, .int .i64 c.cDepth, .int .i64 c.cWin, .int .i64 c.cQs, .int .i64 c.cQr, .int .i64 c.cBatch, .int .i64 c.cPass, .int .i64 c.cMsg, .int .i64 c.cSeqs]
  by_cases h1 : okCe c = false
  · rw [h1] at H2
    rw [show okC c = false by rw [okC_two, h0, h1]; rfl, if_neg (by simp)]
    go_enter Try.func10, Try.ntmps10
    go_wp2_with fail
    refine H1.mono ?_
    rintro e w2 ⟨rfl, b2⟩
    have x2 := x1.next b2
    have k0 := x2.cell 0 _ rfl
    have k1 := x2.cell 1 _ rfl
    have k2 := x2.cell 2 _ rfl
    have k3 := x2.cell 3 _ rfl
    have k4 := x2.cell 4 _ rfl
    have k5 := x2.cell 5 _ rfl
    have k6 := x2.cell 6 _ rfl
    have k7 := x2.cell 7 _ rfl
    have k8 := x2.cell 8 _ rfl
    have k9 := x2.cell 9 _ rfl
    clear x1 x2
    go_wp2_with fail
    refine (H2.out _).mono ?_
    rintro e w3 ⟨rfl, b3⟩
    go_wp2
    go_ret
    exact ⟨rfl, (b1.trans (b2.mono (by simp))).trans (b3.mono (Nat.le_trans (by simp) b2.size))⟩
  have h1 : okCe c = true := by simpa using h1
  rw [h1] at H2
  rw [show okC c = true by rw [okC_two, h0, h1]; rfl, if_pos rfl]
  go_enter Try.func10, Try.ntmps10
  go_wp2_with fail
  refine H1.mono ?_
  rintro e w2 ⟨rfl, b2⟩
  have x2 := x1.next b2
  have k0 := x2.cell 0 _ rfl
  have k1 := x2.cell 1 _ rfl
  have k2 := x2.cell 2 _ rfl
  have k3 := x2.cell 3 _ rfl
  have k4 := x2.cell 4 _ rfl
  have k5 := x2.cell 5 _ rfl
  have k6 := x2.cell 6 _ rfl
  have k7 := x2.cell 7 _ rfl
  have k8 := x2.cell 8 _ rfl
  have k9 := x2.cell 9 _ rfl
  clear x1 x2
  go_wp2_with fail
  refine (H2.out _).mono ?_
  rintro e w3 ⟨rfl, b3⟩
  go_wp2
  go_ret
  exact ⟨rfl, (b1.trans (b2.mono (by simp))).trans (b3.mono (Nat.le_trans (by simp) b2.size))⟩

set_option maxRecDepth 100000 in
set_option maxHeartbeats 2000000 in
theorem ConfSegs_any (c : Cfg) (w : World) :
    Calls Try.prog 26 #[.agg #[.int .i64 c.cB, .int .i64 c.cBeam, .int .i64 c.cDepth, .int .i64 c.cWin, .int .i64 c.cQs, .int .i64 c.cQr, .int .i64 c.cBatch, .int .i64 c.cPass, .int .i64 c.cMsg, .int .i64 c.cSeqs]] w fun e w' => e = .returned (.int .i64 (segsA c)) ∧ Below w.heap.size w w' := by
  have b1 : Below w.heap.size w (w.alloc (.cells #[.int .i64 c.cB, .int .i64 c.cBeam, .int .i64 c.cDepth, .int .i64 c.cWin, .int .i64 c.cQs, .int .i64 c.cQr, .int .i64 c.cBatch, .int .i64 c.cPass, .int .i64 c.cMsg, .int .i64 c.cSeqs] 23)) := (Below.refl w.heap.size w).alloc (Nat.le_refl _) _
  have H1 := ConfCheck_any c (w.alloc (.cells #[.int .i64 c.cB, .int .i64 c.cBeam, .int .i64 c.cDepth, .int .i64 c.cWin, .int .i64 c.cQs, .int .i64 c.cQr, .int .i64 c.cBatch, .int .i64 c.cPass, .int .i64 c.cMsg, .int .i64 c.cSeqs] 23))
  unfold segsA
  unfold checkA at H1
  by_cases h0 : okC c = true
  · rw [if_pos h0] at H1
    rw [if_pos h0]
    have hb := ((okC_iff c).1 h0).1
    have h2 := hb.1
    have h3 := hb.2
    have H2 : Hid (∀ wx : World, Calls Try.prog 48 #[.int .i64 (c.cB + 10)] wx fun e w' => e = .returned (.int .i64 (segsC c)) ∧ wx = w') := fun wx => confCodeSegs (c.cB + 10) (by omega) (by omega) wx
    have e1 : IntKind.i64.wrap (c.cB + 10) = c.cB + 10 := by rw [IntKind.wrap_i64]; omega
    have x1 := Box.new w 23 #[.int .i64 c.cB, .int .i64 c.cBeam, .int .i64 c.cDepth, .int .i64 c.cWin, .int .i64 c.cQs, .int .i64 c.cQr, .int .i64 c.cBatch, .int .i64 c.cPass, .int .i64 c.cMsg, .int .i64 c.cSeqs]
    generalize segsC c = SS at *
    clear h0 hb
    go_enter Try.func26, Try.ntmps26
    go_wp2_with fail
    refine H1.mono ?_
    rintro e w2 ⟨rfl, b2⟩
    have x2 := x1.next b2
    have k0 := x2.cell 0 _ rfl
    clear x1 x2
    go_wp2_with fail
    refine (H2.out _).mono ?_
    rintro e w3 ⟨rfl, rfl⟩
    go_wp2
    go_ret
    exact ⟨rfl, b1.trans (b2.mono (by simp))⟩
  · rw [if_neg h0] at H1
    rw [if_neg h0]
    clear h0
    go_enter Try.func26, Try.ntmps26
    go_wp2_with fail
    refine H1.mono ?_
    rintro e w2 ⟨rfl, b2⟩
    go_wp2
    go_ret
    exact ⟨rfl, b1.trans (b2.mono (by simp))⟩

end Go.Proofs.Ytmjidhnlofpliab
