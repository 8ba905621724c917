/-
  What package conf answers (isFrom, isRightForBlock, isRightForEnds, parts, Check, Segs, Most, Blocks, Ticks, Cycles), of whatever configuration. (Written by tpl_confcode.py.)
-/
import Derived.Test.YtnhmdhbemlpjnaaRefConf
namespace Go.Proofs.Ytnhmdhbemlpjnaa
open Go.RowKit

def okCb (c : Cfg) : Bool := inC c.cB 1 16 && inC c.cBeam 1 16 && inC c.cDepth 1 3 && inC c.cBatch 1 64 && inC c.cPass 4 16
def okCe (c : Cfg) : Bool := inC c.cWin 1 16 && inC c.cQs 1 16 && inC c.cQr 1 16 && inC c.cMsg 0 200 && inC c.cSeqs 0 1073741824
theorem okC_two (c : Cfg) : okC c = (okCb c && okCe c) := by
  unfold okC okCb okCe
  cases inC c.cB 1 16 <;> cases inC c.cBeam 1 16 <;> cases inC c.cDepth 1 3 <;> cases inC c.cBatch 1 64 <;> cases inC c.cPass 4 16 <;> simp

set_option maxRecDepth 100000 in
set_option maxHeartbeats 400000 in
theorem confFrom_any (lo n hi : Int) (w : World) : Calls Try.prog 23 #[.int .i64 lo, .int .i64 n, .int .i64 hi] w fun e w' => e = .returned (.bool (inC n lo hi)) ∧ w = w' := by
  unfold inC
  by_cases h : lo ≤ n
  · have d : decide (lo ≤ n) = true := decide_eq_true h
    rw [d, Bool.true_and]
    clear h
    go_enter Try.func23, Try.ntmps23
    go_wp2
    go_ret
    exact ⟨rfl, rfl⟩
  · have d : decide (lo ≤ n) = false := decide_eq_false h
    rw [d, Bool.false_and]
    clear h
    go_enter Try.func23, Try.ntmps23
    go_wp2
    go_ret
    exact ⟨rfl, rfl⟩

set_option maxRecDepth 100000 in
set_option maxHeartbeats 4000000 in
theorem confBlock_any (c : Cfg) (w : World) : Calls Try.prog 20 #[.agg #[.int .i64 c.cB, .int .i64 c.cBeam, .int .i64 c.cDepth, .int .i64 c.cWin, .int .i64 c.cQs, .int .i64 c.cQr, .int .i64 c.cBatch, .int .i64 c.cPass, .int .i64 c.cMsg, .int .i64 c.cSeqs]] w fun e w' => e = .returned (.bool (okCb c)) ∧ Below w.heap.size w w' := by
  have b1 : Below w.heap.size w (w.alloc (.cells #[.int .i64 c.cB, .int .i64 c.cBeam, .int .i64 c.cDepth, .int .i64 c.cWin, .int .i64 c.cQs, .int .i64 c.cQr, .int .i64 c.cBatch, .int .i64 c.cPass, .int .i64 c.cMsg, .int .i64 c.cSeqs] 23)) := (Below.refl w.heap.size w).alloc (Nat.le_refl _) _
  by_cases h0 : inC c.cB 1 16 = false
  · have e0 : okCb c = false := by unfold okCb; rw [h0]; simp
    rw [e0]
    go_enter Try.func20, Try.ntmps20
    go_wp2_with (go_at_call 23; refine (confFrom_any _ _ _ _).mono ?_; rintro e w9 ⟨rfl, rfl⟩)
    go_ret
    exact ⟨rfl, b1⟩
  have h0 : inC c.cB 1 16 = true := by simpa using h0
  by_cases h1 : inC c.cBeam 1 16 = false
  · have e0 : okCb c = false := by unfold okCb; rw [h0, h1]; simp
    rw [e0]
    go_enter Try.func20, Try.ntmps20
    go_wp2_with (go_at_call 23; refine (confFrom_any _ _ _ _).mono ?_; rintro e w9 ⟨rfl, rfl⟩)
    go_ret
    exact ⟨rfl, b1⟩
  have h1 : inC c.cBeam 1 16 = true := by simpa using h1
  by_cases h2 : inC c.cDepth 1 3 = false
  · have e0 : okCb c = false := by unfold okCb; rw [h0, h1, h2]; simp
    rw [e0]
    go_enter Try.func20, Try.ntmps20
    go_wp2_with (go_at_call 23; refine (confFrom_any _ _ _ _).mono ?_; rintro e w9 ⟨rfl, rfl⟩)
    go_ret
    exact ⟨rfl, b1⟩
  have h2 : inC c.cDepth 1 3 = true := by simpa using h2
  by_cases h3 : inC c.cBatch 1 64 = false
  · have e0 : okCb c = false := by unfold okCb; rw [h0, h1, h2, h3]; simp
    rw [e0]
    go_enter Try.func20, Try.ntmps20
    go_wp2_with (go_at_call 23; refine (confFrom_any _ _ _ _).mono ?_; rintro e w9 ⟨rfl, rfl⟩)
    go_ret
    exact ⟨rfl, b1⟩
  have h3 : inC c.cBatch 1 64 = true := by simpa using h3
  by_cases h4 : inC c.cPass 4 16 = false
  · have e0 : okCb c = false := by unfold okCb; rw [h0, h1, h2, h3, h4]; simp
    rw [e0]
    go_enter Try.func20, Try.ntmps20
    go_wp2_with (go_at_call 23; refine (confFrom_any _ _ _ _).mono ?_; rintro e w9 ⟨rfl, rfl⟩)
    go_ret
    exact ⟨rfl, b1⟩
  have h4 : inC c.cPass 4 16 = true := by simpa using h4
  have e0 : okCb c = true := by unfold okCb; rw [h0, h1, h2, h3, h4]; rfl
  rw [e0]
  go_enter Try.func20, Try.ntmps20
  go_wp2_with (go_at_call 23; refine (confFrom_any _ _ _ _).mono ?_; rintro e w9 ⟨rfl, rfl⟩)
  go_ret
  exact ⟨rfl, b1⟩

set_option maxRecDepth 100000 in
set_option maxHeartbeats 4000000 in
theorem confEnds_any (c : Cfg) (w : World) : Calls Try.prog 21 #[.agg #[.int .i64 c.cB, .int .i64 c.cBeam, .int .i64 c.cDepth, .int .i64 c.cWin, .int .i64 c.cQs, .int .i64 c.cQr, .int .i64 c.cBatch, .int .i64 c.cPass, .int .i64 c.cMsg, .int .i64 c.cSeqs]] w fun e w' => e = .returned (.bool (okCe c)) ∧ Below w.heap.size w w' := by
  have b1 : Below w.heap.size w (w.alloc (.cells #[.int .i64 c.cB, .int .i64 c.cBeam, .int .i64 c.cDepth, .int .i64 c.cWin, .int .i64 c.cQs, .int .i64 c.cQr, .int .i64 c.cBatch, .int .i64 c.cPass, .int .i64 c.cMsg, .int .i64 c.cSeqs] 23)) := (Below.refl w.heap.size w).alloc (Nat.le_refl _) _
  by_cases h0 : inC c.cWin 1 16 = false
  · have e0 : okCe c = false := by unfold okCe; rw [h0]; simp
    rw [e0]
    go_enter Try.func21, Try.ntmps21
    go_wp2_with (go_at_call 23; refine (confFrom_any _ _ _ _).mono ?_; rintro e w9 ⟨rfl, rfl⟩)
    go_ret
    exact ⟨rfl, b1⟩
  have h0 : inC c.cWin 1 16 = true := by simpa using h0
  by_cases h1 : inC c.cQs 1 16 = false
  · have e0 : okCe c = false := by unfold okCe; rw [h0, h1]; simp
    rw [e0]
    go_enter Try.func21, Try.ntmps21
    go_wp2_with (go_at_call 23; refine (confFrom_any _ _ _ _).mono ?_; rintro e w9 ⟨rfl, rfl⟩)
    go_ret
    exact ⟨rfl, b1⟩
  have h1 : inC c.cQs 1 16 = true := by simpa using h1
  by_cases h2 : inC c.cQr 1 16 = false
  · have e0 : okCe c = false := by unfold okCe; rw [h0, h1, h2]; simp
    rw [e0]
    go_enter Try.func21, Try.ntmps21
    go_wp2_with (go_at_call 23; refine (confFrom_any _ _ _ _).mono ?_; rintro e w9 ⟨rfl, rfl⟩)
    go_ret
    exact ⟨rfl, b1⟩
  have h2 : inC c.cQr 1 16 = true := by simpa using h2
  by_cases h3 : inC c.cMsg 0 200 = false
  · have e0 : okCe c = false := by unfold okCe; rw [h0, h1, h2, h3]; simp
    rw [e0]
    go_enter Try.func21, Try.ntmps21
    go_wp2_with (go_at_call 23; refine (confFrom_any _ _ _ _).mono ?_; rintro e w9 ⟨rfl, rfl⟩)
    go_ret
    exact ⟨rfl, b1⟩
  have h3 : inC c.cMsg 0 200 = true := by simpa using h3
  by_cases h4 : inC c.cSeqs 0 1073741824 = false
  · have e0 : okCe c = false := by unfold okCe; rw [h0, h1, h2, h3, h4]; simp
    rw [e0]
    go_enter Try.func21, Try.ntmps21
    go_wp2_with (go_at_call 23; refine (confFrom_any _ _ _ _).mono ?_; rintro e w9 ⟨rfl, rfl⟩)
    go_ret
    exact ⟨rfl, b1⟩
  have h4 : inC c.cSeqs 0 1073741824 = true := by simpa using h4
  have e0 : okCe c = true := by unfold okCe; rw [h0, h1, h2, h3, h4]; rfl
  rw [e0]
  go_enter Try.func21, Try.ntmps21
  go_wp2_with (go_at_call 23; refine (confFrom_any _ _ _ _).mono ?_; rintro e w9 ⟨rfl, rfl⟩)
  go_ret
  exact ⟨rfl, b1⟩

set_option maxRecDepth 100000 in
set_option maxHeartbeats 1000000 in
theorem confParts_any (n d D : Int) (h0 : 0 ≤ n) (h1 : n ≤ 1000) (d0 : 1 ≤ d) (d1 : d ≤ 64) (hD : (n + d - 1) / d = D) (w : World) : Calls Try.prog 24 #[.int .i64 n, .int .i64 d] w fun e w' => e = .returned (.int .i64 D) ∧ w = w' := by
  have hD0 : 0 ≤ D := by rw [← hD]; exact Int.ediv_nonneg (by omega) (by omega)
  have hD1 : D ≤ 2000 := by
    rw [← hD]
    exact Int.le_trans (Int.ediv_le_self _ (by omega)) (by omega)
  have eT : (n + d - 1).tdiv d = D := by rw [Int.tdiv_eq_ediv_of_nonneg (by omega)]; exact hD
  have e1 : IntKind.i64.wrap (n + d) = n + d := by rw [IntKind.wrap_i64]; omega
  have e2 : IntKind.i64.wrap (n + d - 1) = n + d - 1 := by rw [IntKind.wrap_i64]; omega
  have e3 : IntKind.i64.wrap D = D := by rw [IntKind.wrap_i64]; omega
  have e4 : ¬ d = 0 := by omega
  clear h0 h1 d0 d1 hD hD0 hD1
  go_enter Try.func24, Try.ntmps24
  go_wp2
  go_ret
  exact ⟨rfl, rfl⟩

set_option maxRecDepth 100000 in
set_option maxHeartbeats 1000000 in
theorem confCodeSegs (k : Int) (h2 : 0 ≤ k) (h3 : k ≤ 32) (w : World) : Calls Try.prog 22 #[.int .i64 k] w fun e w' => e = .returned (.int .i64 (2 * k)) ∧ w = w' := by
  have d0 : decide (k < 0) = false := decide_eq_false (by omega)
  have d1 : decide (32 < k) = false := decide_eq_false (by omega)
  go_enter Try.func22, Try.ntmps22
  go_wp2
  go_ret
  exact ⟨rfl, rfl⟩

set_option maxRecDepth 100000 in
set_option maxHeartbeats 2000000 in
theorem ConfCheck_any (c : Cfg) (w : World) :
    Calls Try.prog 7 #[.agg #[.int .i64 c.cB, .int .i64 c.cBeam, .int .i64 c.cDepth, .int .i64 c.cWin, .int .i64 c.cQs, .int .i64 c.cQr, .int .i64 c.cBatch, .int .i64 c.cPass, .int .i64 c.cMsg, .int .i64 c.cSeqs]] w fun e w' => e = .returned (.int .i64 (checkA c)) ∧ Below w.heap.size w w' := by
  have b1 : Below w.heap.size w (w.alloc (.cells #[.int .i64 c.cB, .int .i64 c.cBeam, .int .i64 c.cDepth, .int .i64 c.cWin, .int .i64 c.cQs, .int .i64 c.cQr, .int .i64 c.cBatch, .int .i64 c.cPass, .int .i64 c.cMsg, .int .i64 c.cSeqs] 23)) := (Below.refl w.heap.size w).alloc (Nat.le_refl _) _
  have H1 := confBlock_any c (w.alloc (.cells #[.int .i64 c.cB, .int .i64 c.cBeam, .int .i64 c.cDepth, .int .i64 c.cWin, .int .i64 c.cQs, .int .i64 c.cQr, .int .i64 c.cBatch, .int .i64 c.cPass, .int .i64 c.cMsg, .int .i64 c.cSeqs] 23))
  unfold checkA
  by_cases h0 : okCb c = false
  · rw [h0] at H1
    rw [show okC c = false by rw [okC_two, h0]; rfl, if_neg (by simp)]
    go_enter Try.func7, Try.ntmps7
    go_wp2_with fail
    refine H1.mono ?_
    rintro e w2 ⟨rfl, b2⟩
    go_wp2
    go_ret
    exact ⟨rfl, b1.trans (b2.mono (by simp))⟩
  have h0 : okCb c = true := by simpa using h0
  rw [h0] at H1
  have H2 : Hid (∀ wx : World, Calls Try.prog 21 #[.agg #[.int .i64 c.cB, .int .i64 c.cBeam, .int .i64 c.cDepth, .int .i64 c.cWin, .int .i64 c.cQs, .int .i64 c.cQr, .int .i64 c.cBatch, .int .i64 c.cPass, .int .i64 c.cMsg, .int .i64 c.cSeqs]] wx fun e w' => e = .returned (.bool (okCe c)) ∧ Below wx.heap.size wx w') := fun wx => confEnds_any c wx
  have x1 := Box.new w 23 #[.int .i64 c.cB, .int .i64 c.cBeam, .int .i64 c.cDepth, .int .i64 c.cWin, .int .i64 c.cQs, .int .i64 c.cQr, .int .i64 c.cBatch, .int .i64 c.cPass, .int .i64 c.cMsg, .int .i64 c.cSeqs]
  by_cases h1 : okCe c = false
  · rw [h1] at H2
    rw [show okC c = false by rw [okC_two, h0, h1]; rfl, if_neg (by simp)]
    go_enter Try.func7, Try.ntmps7
    go_wp2_with fail
    refine H1.mono ?_
    rintro e w2 ⟨rfl, b2⟩
    have x2 := x1.next b2
    have k0 := x2.cell 0 _ rfl
    have k1 := x2.cell 1 _ rfl
    have k2 := x2.cell 2 _ rfl
    have k3 := x2.cell 3 _ rfl
    have k4 := x2.cell 4 _ rfl
    have k5 := x2.cell 5 _ rfl
    have k6 := x2.cell 6 _ rfl
    have k7 := x2.cell 7 _ rfl
    have k8 := x2.cell 8 _ rfl
    have k9 := x2.cell 9 _ rfl
    clear x1 x2
    go_wp2_with fail
    refine (H2.out _).mono ?_
    rintro e w3 ⟨rfl, b3⟩
    go_wp2
    go_ret
    exact ⟨rfl, (b1.trans (b2.mono (by simp))).trans (b3.mono (Nat.le_trans (by simp) b2.size))⟩
  have h1 : okCe c = true := by simpa using h1
  rw [h1] at H2
  rw [show okC c = true by rw [okC_two, h0, h1]; rfl, if_pos rfl]
  go_enter Try.func7, Try.ntmps7
  go_wp2_with fail
  refine H1.mono ?_
  rintro e w2 ⟨rfl, b2⟩
  have x2 := x1.next b2
  have k0 := x2.cell 0 _ rfl
  have k1 := x2.cell 1 _ rfl
  have k2 := x2.cell 2 _ rfl
  have k3 := x2.cell 3 _ rfl
  have k4 := x2.cell 4 _ rfl
  have k5 := x2.cell 5 _ rfl
  have k6 := x2.cell 6 _ rfl
  have k7 := x2.cell 7 _ rfl
  have k8 := x2.cell 8 _ rfl
  have k9 := x2.cell 9 _ rfl
  clear x1 x2
  go_wp2_with fail
  refine (H2.out _).mono ?_
  rintro e w3 ⟨rfl, b3⟩
  go_wp2
  go_ret
  exact ⟨rfl, (b1.trans (b2.mono (by simp))).trans (b3.mono (Nat.le_trans (by simp) b2.size))⟩

set_option maxRecDepth 100000 in
set_option maxHeartbeats 2000000 in
theorem ConfSegs_any (c : Cfg) (w : World) :
    Calls Try.prog 8 #[.agg #[.int .i64 c.cB, .int .i64 c.cBeam, .int .i64 c.cDepth, .int .i64 c.cWin, .int .i64 c.cQs, .int .i64 c.cQr, .int .i64 c.cBatch, .int .i64 c.cPass, .int .i64 c.cMsg, .int .i64 c.cSeqs]] w fun e w' => e = .returned (.int .i64 (segsA c)) ∧ Below w.heap.size w w' := by
  have b1 : Below w.heap.size w (w.alloc (.cells #[.int .i64 c.cB, .int .i64 c.cBeam, .int .i64 c.cDepth, .int .i64 c.cWin, .int .i64 c.cQs, .int .i64 c.cQr, .int .i64 c.cBatch, .int .i64 c.cPass, .int .i64 c.cMsg, .int .i64 c.cSeqs] 23)) := (Below.refl w.heap.size w).alloc (Nat.le_refl _) _
  have H1 := ConfCheck_any c (w.alloc (.cells #[.int .i64 c.cB, .int .i64 c.cBeam, .int .i64 c.cDepth, .int .i64 c.cWin, .int .i64 c.cQs, .int .i64 c.cQr, .int .i64 c.cBatch, .int .i64 c.cPass, .int .i64 c.cMsg, .int .i64 c.cSeqs] 23))
  unfold segsA
  unfold checkA at H1
  by_cases h0 : okC c = true
  · rw [if_pos h0] at H1
    rw [if_pos h0]
    have hb := ((okC_iff c).1 h0).1
    have h2 := hb.1
    have h3 := hb.2
    have H2 : Hid (∀ wx : World, Calls Try.prog 22 #[.int .i64 (c.cB + 10)] wx fun e w' => e = .returned (.int .i64 (segsC c)) ∧ wx = w') := fun wx => confCodeSegs (c.cB + 10) (by omega) (by omega) wx
    have e1 : IntKind.i64.wrap (c.cB + 10) = c.cB + 10 := by rw [IntKind.wrap_i64]; omega
    have x1 := Box.new w 23 #[.int .i64 c.cB, .int .i64 c.cBeam, .int .i64 c.cDepth, .int .i64 c.cWin, .int .i64 c.cQs, .int .i64 c.cQr, .int .i64 c.cBatch, .int .i64 c.cPass, .int .i64 c.cMsg, .int .i64 c.cSeqs]
    generalize segsC c = SS at *
    clear h0 hb
    go_enter Try.func8, Try.ntmps8
    go_wp2_with fail
    refine H1.mono ?_
    rintro e w2 ⟨rfl, b2⟩
    have x2 := x1.next b2
    have k0 := x2.cell 0 _ rfl
    clear x1 x2
    go_wp2_with fail
    refine (H2.out _).mono ?_
    rintro e w3 ⟨rfl, rfl⟩
    go_wp2
    go_ret
    exact ⟨rfl, b1.trans (b2.mono (by simp))⟩
  · rw [if_neg h0] at H1
    rw [if_neg h0]
    clear h0
    go_enter Try.func8, Try.ntmps8
    go_wp2_with fail
    refine H1.mono ?_
    rintro e w2 ⟨rfl, b2⟩
    go_wp2
    go_ret
    exact ⟨rfl, b1.trans (b2.mono (by simp))⟩

set_option maxRecDepth 100000 in
set_option maxHeartbeats 2000000 in
theorem ConfMost_any (c : Cfg) (w : World) :
    Calls Try.prog 9 #[.agg #[.int .i64 c.cB, .int .i64 c.cBeam, .int .i64 c.cDepth, .int .i64 c.cWin, .int .i64 c.cQs, .int .i64 c.cQr, .int .i64 c.cBatch, .int .i64 c.cPass, .int .i64 c.cMsg, .int .i64 c.cSeqs]] w fun e w' => e = .returned (.int .i64 (mostA c)) ∧ Below w.heap.size w w' := by
  have b1 : Below w.heap.size w (w.alloc (.cells #[.int .i64 c.cB, .int .i64 c.cBeam, .int .i64 c.cDepth, .int .i64 c.cWin, .int .i64 c.cQs, .int .i64 c.cQr, .int .i64 c.cBatch, .int .i64 c.cPass, .int .i64 c.cMsg, .int .i64 c.cSeqs] 23)) := (Below.refl w.heap.size w).alloc (Nat.le_refl _) _
  have x1 := Box.new w 23 #[.int .i64 c.cB, .int .i64 c.cBeam, .int .i64 c.cDepth, .int .i64 c.cWin, .int .i64 c.cQs, .int .i64 c.cQr, .int .i64 c.cBatch, .int .i64 c.cPass, .int .i64 c.cMsg, .int .i64 c.cSeqs]
  have HM : mostA c = segsA c * c.cPass ∧ 0 ≤ mostA c ∧ mostA c ≤ 832 := by
    unfold mostA segsA
    by_cases h : okC c = true
    · rw [if_pos h, if_pos h]
      have := mostC_bd h
      exact ⟨rfl, by omega, by omega⟩
    · rw [if_neg h, if_neg h, Int.zero_mul]
      omega
  have HC : Hid (∀ wx : World, Calls Try.prog 8 #[.agg #[.int .i64 c.cB, .int .i64 c.cBeam, .int .i64 c.cDepth, .int .i64 c.cWin, .int .i64 c.cQs, .int .i64 c.cQr, .int .i64 c.cBatch, .int .i64 c.cPass, .int .i64 c.cMsg, .int .i64 c.cSeqs]] wx fun e w' => e = .returned (.int .i64 (segsA c)) ∧ Below wx.heap.size wx w') := fun wx => ConfSegs_any c wx
  generalize mostA c = MM at *
  generalize segsA c = S at *
  obtain ⟨hM, hM0, hM1⟩ := HM
  subst hM
  have eM : IntKind.i64.wrap (S * c.cPass) = S * c.cPass := by rw [IntKind.wrap_i64]; omega
  clear hM0 hM1
  go_enter Try.func9, Try.ntmps9
  go_wp2
  obtain ⟨W1, hW1⟩ : ∃ W, w.alloc (.cells #[.int .i64 c.cB, .int .i64 c.cBeam, .int .i64 c.cDepth, .int .i64 c.cWin, .int .i64 c.cQs, .int .i64 c.cQr, .int .i64 c.cBatch, .int .i64 c.cPass, .int .i64 c.cMsg, .int .i64 c.cSeqs] 23) = W := ⟨_, rfl⟩
  rw [hW1] at b1 x1 ⊢
  clear hW1
  have k0 := x1.cell 0 _ rfl
  have k1 := x1.cell 1 _ rfl
  have k2 := x1.cell 2 _ rfl
  have k3 := x1.cell 3 _ rfl
  have k4 := x1.cell 4 _ rfl
  have k5 := x1.cell 5 _ rfl
  have k6 := x1.cell 6 _ rfl
  have k7 := x1.cell 7 _ rfl
  have k8 := x1.cell 8 _ rfl
  have k9 := x1.cell 9 _ rfl
  have hlt1 := x1.lt
  have HS : Hid (∀ wx : World, Below W1.heap.size W1 wx → Calls Try.prog 8 #[.agg #[.int .i64 c.cB, .int .i64 c.cBeam, .int .i64 c.cDepth, .int .i64 c.cWin, .int .i64 c.cQs, .int .i64 c.cQr, .int .i64 c.cBatch, .int .i64 c.cPass, .int .i64 c.cMsg, .int .i64 c.cSeqs]] wx fun e w' => e = .returned (.int .i64 S) ∧ Below W1.heap.size W1 w') := fun wx hw =>
    (HC.out wx).mono fun e w' ⟨h, b⟩ => ⟨h, hw.trans (b.mono hw.size)⟩
  clear HC
  refine wp_region_held_drew (S := fun w' => Below W1.heap.size W1 w') (by kernel_rfl) ((Below.refl _ _).drew) (fun hHeld => ?_)
  refine held_take (i := 0) (d := 3) (v := ?v1) rfl rfl (by kernel_rfl) (by kernel_rfl) (by kernel_rfl) (fun _ _ _ h => h) (Or.inl ⟨by kernel_rfl, ?hy1⟩) hHeld ?rest1
  case hy1 =>
    intro wx hSw
    have q0 := (hSw.cell (p := ⟨w.heap.size, 0, none⟩) hlt1).trans k0
    have q1 := (hSw.cell (p := ⟨w.heap.size, 1, none⟩) hlt1).trans k1
    have q2 := (hSw.cell (p := ⟨w.heap.size, 2, none⟩) hlt1).trans k2
    have q3 := (hSw.cell (p := ⟨w.heap.size, 3, none⟩) hlt1).trans k3
    have q4 := (hSw.cell (p := ⟨w.heap.size, 4, none⟩) hlt1).trans k4
    have q5 := (hSw.cell (p := ⟨w.heap.size, 5, none⟩) hlt1).trans k5
    have q6 := (hSw.cell (p := ⟨w.heap.size, 6, none⟩) hlt1).trans k6
    have q7 := (hSw.cell (p := ⟨w.heap.size, 7, none⟩) hlt1).trans k7
    have q8 := (hSw.cell (p := ⟨w.heap.size, 8, none⟩) hlt1).trans k8
    have q9 := (hSw.cell (p := ⟨w.heap.size, 9, none⟩) hlt1).trans k9
    clear hSw
    go_simp
    with_reducible rfl
  simp only [List.setIfInBounds_toArray, List.set_cons_zero, List.set_cons_succ]
  refine held_take (i := 2) (d := 5) (v := ?v2) rfl rfl (by kernel_rfl) (by kernel_rfl) (by kernel_rfl) (fun _ _ _ h => h) (Or.inl ⟨by kernel_rfl, ?hy2⟩) hHeld ?rest2
  case hy2 =>
    intro wx hSw
    clear hSw
    go_simp
    with_reducible rfl
  simp only [List.setIfInBounds_toArray, List.set_cons_zero, List.set_cons_succ]
  refine held_take (i := 3) (d := 6) (v := ?v3) rfl rfl (by kernel_rfl) (by kernel_rfl) (by kernel_rfl) (fun _ _ _ h => h) (Or.inl ⟨by kernel_rfl, ?hy3⟩) hHeld ?rest3
  case hy3 =>
    intro wx hSw
    have q0 := (hSw.cell (p := ⟨w.heap.size, 7, none⟩) hlt1).trans k7
    clear hSw
    go_simp
    with_reducible rfl
  simp only [List.setIfInBounds_toArray, List.set_cons_zero, List.set_cons_succ]
  refine wpAnyH_ready (rs := [1]) (by kernel_rfl) (by simp) ?_
  refine AllReadyH.cons rfl (fun K hK => ?_) AllReadyH.nil
  go_simp
  go_wp2_with (go_at_call 8; refine (HS.out _ (by exact hHeld)).mono ?_; rintro e wb ⟨rfl, b8⟩)
  refine hK.out _ _ (b8) (fun hHeld => ?_)
  clear hK K
  refine held_take (i := 4) (d := 7) (v := ?v4) rfl rfl (by kernel_rfl) (by kernel_rfl) (by kernel_rfl) (fun _ _ _ h => h) (Or.inl ⟨by kernel_rfl, ?hy4⟩) hHeld ?rest4
  case hy4 =>
    intro wx hSw
    clear hSw
    go_simp
    with_reducible rfl
  simp only [List.setIfInBounds_toArray, List.set_cons_zero, List.set_cons_succ]
  refine wpAnyH_ready (rs := [5]) (by kernel_rfl) (by simp) ?_
  refine AllReadyH.cons rfl (fun K hK => ?_) AllReadyH.nil
  go_simp
  refine hK.out _ _ hHeld (fun hHeld => ?_)
  clear hK K
  refine wpAnyH_done (by kernel_rfl) ?_ _
  go_wp2
  go_ret
  exact ⟨rfl, b1.trans (hHeld.mono b1.size)⟩

set_option maxRecDepth 100000 in
set_option maxHeartbeats 2000000 in
theorem ConfBlocks_any (c : Cfg) (n : Int) (w : World) :
    Calls Try.prog 10 #[.agg #[.int .i64 c.cB, .int .i64 c.cBeam, .int .i64 c.cDepth, .int .i64 c.cWin, .int .i64 c.cQs, .int .i64 c.cQr, .int .i64 c.cBatch, .int .i64 c.cPass, .int .i64 c.cMsg, .int .i64 c.cSeqs], .int .i64 n] w fun e w' => e = .returned (.int .i64 (blocksA c n)) ∧ Below w.heap.size w w' := by
  have b1 : Below w.heap.size w (w.alloc (.cells #[.int .i64 c.cB, .int .i64 c.cBeam, .int .i64 c.cDepth, .int .i64 c.cWin, .int .i64 c.cQs, .int .i64 c.cQr, .int .i64 c.cBatch, .int .i64 c.cPass, .int .i64 c.cMsg, .int .i64 c.cSeqs] 23)) := (Below.refl w.heap.size w).alloc (Nat.le_refl _) _
  have H1 := ConfCheck_any c (w.alloc (.cells #[.int .i64 c.cB, .int .i64 c.cBeam, .int .i64 c.cDepth, .int .i64 c.cWin, .int .i64 c.cQs, .int .i64 c.cQr, .int .i64 c.cBatch, .int .i64 c.cPass, .int .i64 c.cMsg, .int .i64 c.cSeqs] 23))
  unfold blocksA
  unfold checkA at H1
  by_cases h0 : okC c = true
  · rw [if_pos h0] at H1
    have x1 := Box.new w 23 #[.int .i64 c.cB, .int .i64 c.cBeam, .int .i64 c.cDepth, .int .i64 c.cWin, .int .i64 c.cQs, .int .i64 c.cQr, .int .i64 c.cBatch, .int .i64 c.cPass, .int .i64 c.cMsg, .int .i64 c.cSeqs]
    have H2 : Hid (∀ wx : World, Calls Try.prog 23 #[.int .i64 0, .int .i64 n, .int .i64 200] wx fun e w' => e = .returned (.bool (inC n 0 200)) ∧ wx = w') := fun wx => confFrom_any 0 n 200 wx
    by_cases hn : 0 ≤ n ∧ n ≤ 200
    · rw [if_pos ⟨h0, hn⟩]
      rw [(inC_iff n 0 200).2 hn] at H2
      have hb := ((okC_iff c).1 h0).1
      obtain ⟨D, hD⟩ : ∃ D, (n + c.cB - 1) / c.cB = D := ⟨_, rfl⟩
      have HD : Hid (blocksC c n = max 1 D) := by show blocksC c n = max 1 D; rw [← hD]; unfold blocksC; omega
      have H3 : Hid (∀ wx : World, Calls Try.prog 24 #[.int .i64 n, .int .i64 c.cB] wx fun e w' => e = .returned (.int .i64 D) ∧ wx = w') := fun wx => confParts_any n c.cB D hn.1 (by omega) hb.1 (by omega) hD wx
      rw [HD.out]
      clear h0 hn hb hD HD
      go_enter Try.func10, Try.ntmps10
      go_wp2_with fail
      refine H1.mono ?_
      rintro e w2 ⟨rfl, b2⟩
      have x2 := x1.next b2
      have k0 := x2.cell 0 _ rfl
      clear x1 x2
      go_wp2_with fail
      refine (H2.out _).mono ?_
      rintro e w3 ⟨rfl, rfl⟩
      go_wp2_with fail
      refine (H3.out _).mono ?_
      rintro e w3 ⟨rfl, rfl⟩
      go_wp2
      go_ret
      exact ⟨rfl, b1.trans (b2.mono (by simp))⟩
    · rw [if_neg (fun h => hn h.2)]
      rw [inC_no hn] at H2
      clear h0 hn
      go_enter Try.func10, Try.ntmps10
      go_wp2_with fail
      refine H1.mono ?_
      rintro e w2 ⟨rfl, b2⟩
      go_wp2_with fail
      refine (H2.out _).mono ?_
      rintro e w3 ⟨rfl, rfl⟩
      go_wp2
      go_ret
      exact ⟨rfl, b1.trans (b2.mono (by simp))⟩
  · rw [if_neg h0] at H1
    rw [if_neg (fun h => h0 h.1)]
    clear h0
    go_enter Try.func10, Try.ntmps10
    go_wp2_with fail
    refine H1.mono ?_
    rintro e w2 ⟨rfl, b2⟩
    go_wp2
    go_ret
    exact ⟨rfl, b1.trans (b2.mono (by simp))⟩

set_option maxRecDepth 100000 in
set_option maxHeartbeats 2000000 in
theorem ConfTicks_any (c : Cfg) (w : World) :
    Calls Try.prog 11 #[.agg #[.int .i64 c.cB, .int .i64 c.cBeam, .int .i64 c.cDepth, .int .i64 c.cWin, .int .i64 c.cQs, .int .i64 c.cQr, .int .i64 c.cBatch, .int .i64 c.cPass, .int .i64 c.cMsg, .int .i64 c.cSeqs]] w fun e w' => e = .returned (.int .i64 (ticksA c)) ∧ Below w.heap.size w w' := by
  have b1 : Below w.heap.size w (w.alloc (.cells #[.int .i64 c.cB, .int .i64 c.cBeam, .int .i64 c.cDepth, .int .i64 c.cWin, .int .i64 c.cQs, .int .i64 c.cQr, .int .i64 c.cBatch, .int .i64 c.cPass, .int .i64 c.cMsg, .int .i64 c.cSeqs] 23)) := (Below.refl w.heap.size w).alloc (Nat.le_refl _) _
  have H1 := ConfCheck_any c (w.alloc (.cells #[.int .i64 c.cB, .int .i64 c.cBeam, .int .i64 c.cDepth, .int .i64 c.cWin, .int .i64 c.cQs, .int .i64 c.cQr, .int .i64 c.cBatch, .int .i64 c.cPass, .int .i64 c.cMsg, .int .i64 c.cSeqs] 23))
  unfold ticksA
  unfold checkA at H1
  by_cases h0 : okC c = true
  · rw [if_pos h0] at H1
    rw [if_pos h0]
    have x1 := Box.new w 23 #[.int .i64 c.cB, .int .i64 c.cBeam, .int .i64 c.cDepth, .int .i64 c.cWin, .int .i64 c.cQs, .int .i64 c.cQr, .int .i64 c.cBatch, .int .i64 c.cPass, .int .i64 c.cMsg, .int .i64 c.cSeqs]
    have HC : Hid (∀ wx : World, Calls Try.prog 9 #[.agg #[.int .i64 c.cB, .int .i64 c.cBeam, .int .i64 c.cDepth, .int .i64 c.cWin, .int .i64 c.cQs, .int .i64 c.cQr, .int .i64 c.cBatch, .int .i64 c.cPass, .int .i64 c.cMsg, .int .i64 c.cSeqs]] wx fun e w' => e = .returned (.int .i64 (mostC c)) ∧ Below wx.heap.size wx w') := fun wx => by
      have := ConfMost_any c wx
      unfold mostA at this
      rw [if_pos h0] at this
      exact this
    have hm := mostC_bd h0
    have hq := ((okC_iff c).1 h0).2.2.2.2.2.2.1
    have H3 : Hid (∀ wx : World, Calls Try.prog 24 #[.int .i64 (mostC c), .int .i64 c.cBatch] wx fun e w' => e = .returned (.int .i64 (ticksC c)) ∧ wx = w') := fun wx => confParts_any (mostC c) c.cBatch (ticksC c) (by omega) (by omega) hq.1 hq.2 rfl wx
    generalize mostC c = MM at *
    generalize ticksC c = TT at *
    clear h0 hm hq
    go_enter Try.func11, Try.ntmps11
    go_wp2_with fail
    refine H1.mono ?_
    rintro e w2 ⟨rfl, b2⟩
    have x2 := x1.next b2
    have k0 := x2.cell 0 _ rfl
    have k1 := x2.cell 1 _ rfl
    have k2 := x2.cell 2 _ rfl
    have k3 := x2.cell 3 _ rfl
    have k4 := x2.cell 4 _ rfl
    have k5 := x2.cell 5 _ rfl
    have k6 := x2.cell 6 _ rfl
    have k7 := x2.cell 7 _ rfl
    have k8 := x2.cell 8 _ rfl
    have k9 := x2.cell 9 _ rfl
    have hlt2 := x2.lt
    have HS : Hid (∀ wx : World, Below w2.heap.size w2 wx → Calls Try.prog 9 #[.agg #[.int .i64 c.cB, .int .i64 c.cBeam, .int .i64 c.cDepth, .int .i64 c.cWin, .int .i64 c.cQs, .int .i64 c.cQr, .int .i64 c.cBatch, .int .i64 c.cPass, .int .i64 c.cMsg, .int .i64 c.cSeqs]] wx fun e w' => e = .returned (.int .i64 MM) ∧ Below w2.heap.size w2 w') := fun wx hw =>
      (HC.out wx).mono fun e w' ⟨h, b⟩ => ⟨h, hw.trans (b.mono hw.size)⟩
    clear HC x1 x2
    go_wp2
    refine wp_region_held_drew (S := fun w' => Below w2.heap.size w2 w') (by kernel_rfl) ((Below.refl _ _).drew) (fun hHeld => ?_)
    refine held_take (i := 0) (d := 6) (v := ?v5) rfl rfl (by kernel_rfl) (by kernel_rfl) (by kernel_rfl) (fun _ _ _ h => h) (Or.inl ⟨by kernel_rfl, ?hy5⟩) hHeld ?rest5
    case hy5 =>
      intro wx hSw
      have q0 := (hSw.cell (p := ⟨w.heap.size, 0, none⟩) hlt2).trans k0
      have q1 := (hSw.cell (p := ⟨w.heap.size, 1, none⟩) hlt2).trans k1
      have q2 := (hSw.cell (p := ⟨w.heap.size, 2, none⟩) hlt2).trans k2
      have q3 := (hSw.cell (p := ⟨w.heap.size, 3, none⟩) hlt2).trans k3
      have q4 := (hSw.cell (p := ⟨w.heap.size, 4, none⟩) hlt2).trans k4
      have q5 := (hSw.cell (p := ⟨w.heap.size, 5, none⟩) hlt2).trans k5
      have q6 := (hSw.cell (p := ⟨w.heap.size, 6, none⟩) hlt2).trans k6
      have q7 := (hSw.cell (p := ⟨w.heap.size, 7, none⟩) hlt2).trans k7
      have q8 := (hSw.cell (p := ⟨w.heap.size, 8, none⟩) hlt2).trans k8
      have q9 := (hSw.cell (p := ⟨w.heap.size, 9, none⟩) hlt2).trans k9
      clear hSw
      go_simp
      with_reducible rfl
    simp only [List.setIfInBounds_toArray, List.set_cons_zero, List.set_cons_succ]
    refine held_take (i := 2) (d := 8) (v := ?v6) rfl rfl (by kernel_rfl) (by kernel_rfl) (by kernel_rfl) (fun _ _ _ h => h) (Or.inl ⟨by kernel_rfl, ?hy6⟩) hHeld ?rest6
    case hy6 =>
      intro wx hSw
      clear hSw
      go_simp
      with_reducible rfl
    simp only [List.setIfInBounds_toArray, List.set_cons_zero, List.set_cons_succ]
    refine held_take (i := 3) (d := 9) (v := ?v7) rfl rfl (by kernel_rfl) (by kernel_rfl) (by kernel_rfl) (fun _ _ _ h => h) (Or.inl ⟨by kernel_rfl, ?hy7⟩) hHeld ?rest7
    case hy7 =>
      intro wx hSw
      have q0 := (hSw.cell (p := ⟨w.heap.size, 6, none⟩) hlt2).trans k6
      clear hSw
      go_simp
      with_reducible rfl
    simp only [List.setIfInBounds_toArray, List.set_cons_zero, List.set_cons_succ]
    refine wpAnyH_ready (rs := [1]) (by kernel_rfl) (by simp) ?_
    refine AllReadyH.cons rfl (fun K hK => ?_) AllReadyH.nil
    go_simp
    go_wp2_with (go_at_call 9; refine (HS.out _ (by exact hHeld)).mono ?_; rintro e wb ⟨rfl, b8⟩)
    refine hK.out _ _ (b8) (fun hHeld => ?_)
    clear hK K
    refine wpAnyH_ready (rs := [4]) (by kernel_rfl) (by simp) ?_
    refine AllReadyH.cons rfl (fun K hK => ?_) AllReadyH.nil
    go_simp
    go_wp2_with (go_at_call 24; refine (H3.out _).mono ?_; rintro e wb ⟨rfl, rfl⟩)
    refine hK.out _ _ (hHeld) (fun hHeld => ?_)
    clear hK K
    refine wpAnyH_ready (rs := [5]) (by kernel_rfl) (by simp) ?_
    refine AllReadyH.cons rfl (fun K hK => ?_) AllReadyH.nil
    go_simp
    refine hK.out _ _ hHeld (fun hHeld => ?_)
    clear hK K
    refine wpAnyH_done (by kernel_rfl) ?_ _
    go_wp2
    go_ret
    exact ⟨rfl, (b1.trans (b2.mono (by simp))).trans (hHeld.mono (Nat.le_trans (by simp) b2.size))⟩
  · rw [if_neg h0] at H1
    rw [if_neg h0]
    clear h0
    go_enter Try.func11, Try.ntmps11
    go_wp2_with fail
    refine H1.mono ?_
    rintro e w2 ⟨rfl, b2⟩
    go_wp2
    go_ret
    exact ⟨rfl, b1.trans (b2.mono (by simp))⟩

set_option maxRecDepth 100000 in
set_option maxHeartbeats 2000000 in
theorem ConfCycles_any (c : Cfg) (n : Int) (w : World) :
    Calls Try.prog 12 #[.agg #[.int .i64 c.cB, .int .i64 c.cBeam, .int .i64 c.cDepth, .int .i64 c.cWin, .int .i64 c.cQs, .int .i64 c.cQr, .int .i64 c.cBatch, .int .i64 c.cPass, .int .i64 c.cMsg, .int .i64 c.cSeqs], .int .i64 n] w fun e w' => e = .returned (.int .i64 (cyclesA c n)) ∧ Below w.heap.size w w' := by
  have b1 : Below w.heap.size w (w.alloc (.cells #[.int .i64 c.cB, .int .i64 c.cBeam, .int .i64 c.cDepth, .int .i64 c.cWin, .int .i64 c.cQs, .int .i64 c.cQr, .int .i64 c.cBatch, .int .i64 c.cPass, .int .i64 c.cMsg, .int .i64 c.cSeqs] 23)) := (Below.refl w.heap.size w).alloc (Nat.le_refl _) _
  have H1 := ConfCheck_any c (w.alloc (.cells #[.int .i64 c.cB, .int .i64 c.cBeam, .int .i64 c.cDepth, .int .i64 c.cWin, .int .i64 c.cQs, .int .i64 c.cQr, .int .i64 c.cBatch, .int .i64 c.cPass, .int .i64 c.cMsg, .int .i64 c.cSeqs] 23))
  unfold cyclesA
  unfold checkA at H1
  by_cases h0 : okC c = true
  · rw [if_pos h0] at H1
    have x1 := Box.new w 23 #[.int .i64 c.cB, .int .i64 c.cBeam, .int .i64 c.cDepth, .int .i64 c.cWin, .int .i64 c.cQs, .int .i64 c.cQr, .int .i64 c.cBatch, .int .i64 c.cPass, .int .i64 c.cMsg, .int .i64 c.cSeqs]
    have H2 : Hid (∀ wx : World, Calls Try.prog 23 #[.int .i64 0, .int .i64 n, .int .i64 2000] wx fun e w' => e = .returned (.bool (inC n 0 2000)) ∧ wx = w') := fun wx => confFrom_any 0 n 2000 wx
    by_cases hn : 0 ≤ n ∧ n ≤ 2000
    · rw [if_pos ⟨h0, hn⟩]
      rw [(inC_iff n 0 2000).2 hn] at H2
      have hn0 := hn.1
      have hn1 := hn.2
      have ht := ticksC_bd h0
      have hc := cyclesC_bd h0 hn0 hn1
      have HC : Hid (∀ wx : World, Calls Try.prog 11 #[.agg #[.int .i64 c.cB, .int .i64 c.cBeam, .int .i64 c.cDepth, .int .i64 c.cWin, .int .i64 c.cQs, .int .i64 c.cQr, .int .i64 c.cBatch, .int .i64 c.cPass, .int .i64 c.cMsg, .int .i64 c.cSeqs]] wx fun e w' => e = .returned (.int .i64 (ticksC c)) ∧ Below wx.heap.size wx w') := fun wx => by
        have := ConfTicks_any c wx
        unfold ticksA at this
        rw [if_pos h0] at this
        exact this
      obtain ⟨TT, hT⟩ : ∃ T, ticksC c = T := ⟨_, rfl⟩
      rw [hT] at HC ht
      have HE : Hid (cyclesC c n = (n + 1) * (3 * TT + 2)) := by show cyclesC c n = (n + 1) * (3 * TT + 2); rw [← hT]; rfl
      have e1 : IntKind.i64.wrap (n + 1) = n + 1 := by rw [IntKind.wrap_i64]; omega
      have e2 : IntKind.i64.wrap (3 * TT) = 3 * TT := by rw [IntKind.wrap_i64]; omega
      have e3 : IntKind.i64.wrap (3 * TT + 2) = 3 * TT + 2 := by rw [IntKind.wrap_i64]; omega
      have e4 : IntKind.i64.wrap ((n + 1) * (3 * TT + 2)) = (n + 1) * (3 * TT + 2) := by rw [← HE.out, IntKind.wrap_i64]; omega
      have e5 : wrap64 ((n + 1) * (3 * TT + 2)) = (n + 1) * (3 * TT + 2) := by rw [← HE.out]; unfold wrap64; omega
      rw [HE.out]
      clear h0 hn hn0 hn1 ht hc hT HE
      go_enter Try.func12, Try.ntmps12
      go_wp2_with fail
      refine H1.mono ?_
      rintro e w2 ⟨rfl, b2⟩
      have x2 := x1.next b2
      have k0 := x2.cell 0 _ rfl
      have k1 := x2.cell 1 _ rfl
      have k2 := x2.cell 2 _ rfl
      have k3 := x2.cell 3 _ rfl
      have k4 := x2.cell 4 _ rfl
      have k5 := x2.cell 5 _ rfl
      have k6 := x2.cell 6 _ rfl
      have k7 := x2.cell 7 _ rfl
      have k8 := x2.cell 8 _ rfl
      have k9 := x2.cell 9 _ rfl
      clear x1 x2
      go_wp2_with fail
      refine (H2.out _).mono ?_
      rintro e w3 ⟨rfl, rfl⟩
      go_wp2_with fail
      refine (HC.out _).mono ?_
      rintro e w3 ⟨rfl, b3⟩
      go_wp2
      go_ret
      exact ⟨rfl, (b1.trans (b2.mono (by simp))).trans (b3.mono (Nat.le_trans (by simp) b2.size))⟩
    · rw [if_neg (fun h => hn h.2)]
      rw [inC_no hn] at H2
      clear h0 hn
      go_enter Try.func12, Try.ntmps12
      go_wp2_with fail
      refine H1.mono ?_
      rintro e w2 ⟨rfl, b2⟩
      go_wp2_with fail
      refine (H2.out _).mono ?_
      rintro e w3 ⟨rfl, rfl⟩
      go_wp2
      go_ret
      exact ⟨rfl, b1.trans (b2.mono (by simp))⟩
  · rw [if_neg h0] at H1
    rw [if_neg (fun h => h0 h.1)]
    clear h0
    go_enter Try.func12, Try.ntmps12
    go_wp2_with fail
    refine H1.mono ?_
    rintro e w2 ⟨rfl, b2⟩
    go_wp2
    go_ret
    exact ⟨rfl, b1.trans (b2.mono (by simp))⟩

end Go.Proofs.Ytnhmdhbemlpjnaa
