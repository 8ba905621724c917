/-
  Configurations as numbers: which may be, what they make. No function of the program is spoken of. (Written by tpl_conf.py.)
-/
import Derived.Test.YtokejgoplalkhabGreatDoorM01
import Derived.Test.YtokejgoplalkhabGreatDoorM24
import Derived.Lib.MinMax
namespace Go.Proofs.YtokejgoplalkhabGreatDoor
open Go.RowKit

/-- A configuration. -/
structure Cfg where
  cB : Int
  cBeam : Int
  cDepth : Int
  cWin : Int
  cQs : Int
  cQr : Int
  cBatch : Int
  cPass : Int
  cMsg : Int
  cSeqs : Int

def inC (n lo hi : Int) : Bool := decide (lo ≤ n) && decide (n ≤ hi)
theorem inC_iff (n lo hi : Int) : inC n lo hi = true ↔ lo ≤ n ∧ n ≤ hi := by simp [inC]
theorem inC_no {n lo hi : Int} (h : ¬ (lo ≤ n ∧ n ≤ hi)) : inC n lo hi = false := by rw [← Bool.not_eq_true, inC_iff]; exact h
/-- May it be? -/
def okC (c : Cfg) : Bool := inC c.cB 1 16 && inC c.cBeam 1 16 && inC c.cDepth 1 3 && inC c.cWin 1 16 && inC c.cQs 1 16 && inC c.cQr 1 16 && inC c.cBatch 1 64 && inC c.cPass 4 16 && inC c.cMsg 0 200 && inC c.cSeqs 0 1073741824
theorem okC_iff (c : Cfg) : okC c = true ↔ (1 ≤ c.cB ∧ c.cB ≤ 16) ∧ (1 ≤ c.cBeam ∧ c.cBeam ≤ 16) ∧ (1 ≤ c.cDepth ∧ c.cDepth ≤ 3) ∧ (1 ≤ c.cWin ∧ c.cWin ≤ 16) ∧ (1 ≤ c.cQs ∧ c.cQs ≤ 16) ∧ (1 ≤ c.cQr ∧ c.cQr ≤ 16) ∧ (1 ≤ c.cBatch ∧ c.cBatch ≤ 64) ∧ (4 ≤ c.cPass ∧ c.cPass ≤ 16) ∧ (0 ≤ c.cMsg ∧ c.cMsg ≤ 200) ∧ (0 ≤ c.cSeqs ∧ c.cSeqs ≤ 1073741824) := by
  simp only [okC, Bool.and_eq_true, inC_iff]
  omega
def segsC (c : Cfg) : Int := 2 * (c.cB + 10)
def mostC (c : Cfg) : Int := segsC c * c.cPass
def blocksC (c : Cfg) (n : Int) : Int := max ((n + c.cB - 1) / c.cB) 1
def ticksC (c : Cfg) : Int := (mostC c + c.cBatch - 1) / c.cBatch
def cyclesC (c : Cfg) (n : Int) : Int := (n + 1) * (3 * ticksC c + 2)
/-- What the calls answer, right or not. -/
def segsA (c : Cfg) : Int := if okC c then segsC c else 0
def mostA (c : Cfg) : Int := if okC c then mostC c else 0
def blocksA (c : Cfg) (n : Int) : Int := if okC c = true ∧ 0 ≤ n ∧ n ≤ 200 then blocksC c n else 0
def ticksA (c : Cfg) : Int := if okC c then ticksC c else 0
def cyclesA (c : Cfg) (n : Int) : Int := if okC c = true ∧ 0 ≤ n ∧ n ≤ 2000 then cyclesC c n else 0
def checkA (c : Cfg) : Int := if okC c then 0 else 1

theorem segsC_bd {c : Cfg} (h : okC c = true) : 22 ≤ segsC c ∧ segsC c ≤ 52 := by
  have := (okC_iff c).1 h
  unfold segsC; omega
theorem mostC_bd {c : Cfg} (h : okC c = true) : 88 ≤ mostC c ∧ mostC c ≤ 832 := by
  have h1 := segsC_bd h
  have h2 := ((okC_iff c).1 h).2.2.2.2.2.2.2.1
  unfold mostC
  have a1 : 22 * c.cPass ≤ segsC c * c.cPass := Int.mul_le_mul_of_nonneg_right h1.1 (by omega)
  have a2 : segsC c * c.cPass ≤ 52 * c.cPass := Int.mul_le_mul_of_nonneg_right h1.2 (by omega)
  omega
theorem ceil_bd {x d : Int} (hx : 0 < x) (hd : 1 ≤ d) : 1 ≤ (x + d - 1) / d ∧ (x + d - 1) / d ≤ x ∧ x ≤ (x + d - 1) / d * d ∧ ((x + d - 1) / d - 1) * d < x := by
  have h1 := Int.emod_add_mul_ediv (x + d - 1) d
  have h2 := Int.emod_nonneg (x + d - 1) (show d ≠ 0 by omega)
  have h3 := Int.emod_lt_of_pos (x + d - 1) (show 0 < d by omega)
  generalize (x + d - 1) % d = r at h1 h2 h3
  generalize (x + d - 1) / d = q at h1
  have e1 : q * d = d * q := Int.mul_comm _ _
  have e2 : (q - 1) * d = d * q - d := by rw [Int.sub_mul, Int.one_mul, e1]
  have hq0 : 1 ≤ q := by
    refine Int.not_lt.1 fun hlt => ?_
    have : d * q ≤ d * 0 := Int.mul_le_mul_of_nonneg_left (by omega) (by omega)
    omega
  have hqx : q ≤ x := by
    refine Int.not_lt.1 fun hlt => ?_
    have a1 : d * (x + 1) ≤ d * q := Int.mul_le_mul_of_nonneg_left (by omega) (by omega)
    have a2 : d * (x + 1) = d * x + d := by rw [Int.mul_add, Int.mul_one]
    have a3 : 1 * x ≤ d * x := Int.mul_le_mul_of_nonneg_right hd (by omega)
    omega
  omega
theorem ticksC_bd {c : Cfg} (h : okC c = true) : 1 ≤ ticksC c ∧ ticksC c ≤ 832 ∧ mostC c ≤ ticksC c * c.cBatch ∧ (ticksC c - 1) * c.cBatch < mostC c := by
  have h1 := mostC_bd h
  have h2 := ((okC_iff c).1 h).2.2.2.2.2.2.1
  have := ceil_bd (x := mostC c) (d := c.cBatch) (by omega) h2.1
  unfold ticksC
  omega
theorem blocksC_bd {c : Cfg} (h : okC c = true) {n : Int} (h0 : 0 ≤ n) (h1 : n ≤ 200) : 1 ≤ blocksC c n ∧ blocksC c n ≤ 200 ∧ n ≤ blocksC c n * c.cB ∧ (1 < blocksC c n → (blocksC c n - 1) * c.cB < n) := by
  have h2 := ((okC_iff c).1 h).1
  unfold blocksC
  by_cases hn : n = 0
  · subst hn
    have e : (0 + c.cB - 1) / c.cB = 0 := Int.ediv_eq_zero_of_lt (by omega) (by omega)
    rw [e, show max (0 : Int) 1 = 1 from rfl]
    omega
  · have := ceil_bd (x := n) (d := c.cB) (by omega) h2.1
    rw [show max ((n + c.cB - 1) / c.cB) 1 = (n + c.cB - 1) / c.cB by omega]
    omega
theorem cyclesC_bd {c : Cfg} (h : okC c = true) {n : Int} (h0 : 0 ≤ n) (h1 : n ≤ 2000) : 0 ≤ cyclesC c n ∧ cyclesC c n ≤ 4998998 := by
  have ht := ticksC_bd h
  unfold cyclesC
  have a1 : (n + 1) * (3 * ticksC c + 2) ≤ (n + 1) * 2498 := Int.mul_le_mul_of_nonneg_left (by omega) (by omega)
  have a0 : 0 ≤ (n + 1) * (3 * ticksC c + 2) := Int.mul_nonneg (by omega) (by omega)
  omega
theorem cyclesC_next (c : Cfg) (n : Int) : cyclesC c (n + 1) - cyclesC c n = 3 * ticksC c + 2 := by
  unfold cyclesC
  rw [show n + 1 + 1 = (n + 1) + 1 from rfl, Int.add_mul (n + 1) 1, Int.one_mul]
  omega
theorem cyclesC_zero (c : Cfg) : cyclesC c 0 = 3 * ticksC c + 2 := by unfold cyclesC; rw [Int.zero_add, Int.one_mul]

end Go.Proofs.YtokejgoplalkhabGreatDoor

/-
  What the page's in, Config, Segs, Most, Blocks, Ticks, Cycles answer. (Written by tpl_conf.py.)
-/
namespace Go.Proofs.YtokejgoplalkhabGreatDoor
open Go.RowKit

set_option maxRecDepth 100000 in
set_option maxHeartbeats 1000000 in
theorem refSegs_any (c : Cfg) (h : okC c = true) (w : World) : Calls Tryz.prog 6 #[.agg #[.int .i64 c.cB, .int .i64 c.cBeam, .int .i64 c.cDepth, .int .i64 c.cWin, .int .i64 c.cQs, .int .i64 c.cQr, .int .i64 c.cBatch, .int .i64 c.cPass, .int .i64 c.cMsg, .int .i64 c.cSeqs]] w fun e w' => e = .returned (.int .i64 (segsC c)) ∧ Below w.heap.size w w' := by
  have b1 : Below w.heap.size w (w.alloc (.cells #[.int .i64 c.cB, .int .i64 c.cBeam, .int .i64 c.cDepth, .int .i64 c.cWin, .int .i64 c.cQs, .int .i64 c.cQr, .int .i64 c.cBatch, .int .i64 c.cPass, .int .i64 c.cMsg, .int .i64 c.cSeqs] 23)) := (Below.refl w.heap.size w).alloc (Nat.le_refl _) _
  have hb := ((okC_iff c).1 h).1
  have h0 := hb.1
  have h1 := hb.2
  have e1 : IntKind.i64.wrap (c.cB + 10) = c.cB + 10 := by rw [IntKind.wrap_i64]; omega
  clear h hb
  go_enter Tryz.func6, Tryz.ntmps6
  go_wp2
  go_ret
  exact ⟨rfl, b1⟩

end Go.Proofs.YtokejgoplalkhabGreatDoor

/-
  What package conf answers (isFrom, isRightForBlock, isRightForEnds, parts, Check, Segs, Most, Blocks, Ticks, Cycles), of whatever configuration. (Written by tpl_confcode.py.)
-/
namespace Go.Proofs.YtokejgoplalkhabGreatDoor
open Go.RowKit

def okCb (c : Cfg) : Bool := inC c.cB 1 16 && inC c.cBeam 1 16 && inC c.cDepth 1 3 && inC c.cBatch 1 64 && inC c.cPass 4 16
def okCe (c : Cfg) : Bool := inC c.cWin 1 16 && inC c.cQs 1 16 && inC c.cQr 1 16 && inC c.cMsg 0 200 && inC c.cSeqs 0 1073741824
theorem okC_two (c : Cfg) : okC c = (okCb c && okCe c) := by
  unfold okC okCb okCe
  cases inC c.cB 1 16 <;> cases inC c.cBeam 1 16 <;> cases inC c.cDepth 1 3 <;> cases inC c.cBatch 1 64 <;> cases inC c.cPass 4 16 <;> simp

set_option maxRecDepth 100000 in
set_option maxHeartbeats 400000 in
theorem confFrom_any (lo n hi : Int) (w : World) : Calls Tryz.prog 57 #[.int .i64 lo, .int .i64 n, .int .i64 hi] w fun e w' => e = .returned (.bool (inC n lo hi)) ∧ w = w' := by
  unfold inC
  by_cases h : lo ≤ n
  · have d : decide (lo ≤ n) = true := decide_eq_true h
    rw [d, Bool.true_and]
    clear h
    go_enter Tryz.func57, Tryz.ntmps57
    go_wp2
    go_ret
    exact ⟨rfl, rfl⟩
  · have d : decide (lo ≤ n) = false := decide_eq_false h
    rw [d, Bool.false_and]
    clear h
    go_enter Tryz.func57, Tryz.ntmps57
    go_wp2
    go_ret
    exact ⟨rfl, rfl⟩

set_option maxRecDepth 100000 in
set_option maxHeartbeats 4000000 in
theorem confBlock_any (c : Cfg) (w : World) : Calls Tryz.prog 29 #[.agg #[.int .i64 c.cB, .int .i64 c.cBeam, .int .i64 c.cDepth, .int .i64 c.cWin, .int .i64 c.cQs, .int .i64 c.cQr, .int .i64 c.cBatch, .int .i64 c.cPass, .int .i64 c.cMsg, .int .i64 c.cSeqs]] w fun e w' => e = .returned (.bool (okCb c)) ∧ Below w.heap.size w w' := by
  have b1 : Below w.heap.size w (w.alloc (.cells #[.int .i64 c.cB, .int .i64 c.cBeam, .int .i64 c.cDepth, .int .i64 c.cWin, .int .i64 c.cQs, .int .i64 c.cQr, .int .i64 c.cBatch, .int .i64 c.cPass, .int .i64 c.cMsg, .int .i64 c.cSeqs] 23)) := (Below.refl w.heap.size w).alloc (Nat.le_refl _) _
  by_cases h0 : inC c.cB 1 16 = false
  · have e0 : okCb c = false := by unfold okCb; rw [h0]; simp
    rw [e0]
    go_enter Tryz.func29, Tryz.ntmps29
    go_wp2_with (go_at_call 57; refine (confFrom_any _ _ _ _).mono ?_; rintro e w9 ⟨rfl, rfl⟩)
    go_ret
    exact ⟨rfl, b1⟩
  have h0 : inC c.cB 1 16 = true := by simpa using h0
  by_cases h1 : inC c.cBeam 1 16 = false
  · have e0 : okCb c = false := by unfold okCb; rw [h0, h1]; simp
    rw [e0]
    go_enter Tryz.func29, Tryz.ntmps29
    go_wp2_with (go_at_call 57; refine (confFrom_any _ _ _ _).mono ?_; rintro e w9 ⟨rfl, rfl⟩)
    go_ret
    exact ⟨rfl, b1⟩
  have h1 : inC c.cBeam 1 16 = true := by simpa using h1
  by_cases h2 : inC c.cDepth 1 3 = false
  · have e0 : okCb c = false := by unfold okCb; rw [h0, h1, h2]; simp
    rw [e0]
    go_enter Tryz.func29, Tryz.ntmps29
    go_wp2_with (go_at_call 57; refine (confFrom_any _ _ _ _).mono ?_; rintro e w9 ⟨rfl, rfl⟩)
    go_ret
    exact ⟨rfl, b1⟩
  have h2 : inC c.cDepth 1 3 = true := by simpa using h2
  by_cases h3 : inC c.cBatch 1 64 = false
  · have e0 : okCb c = false := by unfold okCb; rw [h0, h1, h2, h3]; simp
    rw [e0]
    go_enter Tryz.func29, Tryz.ntmps29
    go_wp2_with (go_at_call 57; refine (confFrom_any _ _ _ _).mono ?_; rintro e w9 ⟨rfl, rfl⟩)
    go_ret
    exact ⟨rfl, b1⟩
  have h3 : inC c.cBatch 1 64 = true := by simpa using h3
  by_cases h4 : inC c.cPass 4 16 = false
  · have e0 : okCb c = false := by unfold okCb; rw [h0, h1, h2, h3, h4]; simp
    rw [e0]
    go_enter Tryz.func29, Tryz.ntmps29
    go_wp2_with (go_at_call 57; refine (confFrom_any _ _ _ _).mono ?_; rintro e w9 ⟨rfl, rfl⟩)
    go_ret
    exact ⟨rfl, b1⟩
  have h4 : inC c.cPass 4 16 = true := by simpa using h4
  have e0 : okCb c = true := by unfold okCb; rw [h0, h1, h2, h3, h4]; rfl
  rw [e0]
  go_enter Tryz.func29, Tryz.ntmps29
  go_wp2_with (go_at_call 57; refine (confFrom_any _ _ _ _).mono ?_; rintro e w9 ⟨rfl, rfl⟩)
  go_ret
  exact ⟨rfl, b1⟩

set_option maxRecDepth 100000 in
set_option maxHeartbeats 4000000 in
theorem confEnds_any (c : Cfg) (w : World) : Calls Tryz.prog 30 #[.agg #[.int .i64 c.cB, .int .i64 c.cBeam, .int .i64 c.cDepth, .int .i64 c.cWin, .int .i64 c.cQs, .int .i64 c.cQr, .int .i64 c.cBatch, .int .i64 c.cPass, .int .i64 c.cMsg, .int .i64 c.cSeqs]] w fun e w' => e = .returned (.bool (okCe c)) ∧ Below w.heap.size w w' := by
  have b1 : Below w.heap.size w (w.alloc (.cells #[.int .i64 c.cB, .int .i64 c.cBeam, .int .i64 c.cDepth, .int .i64 c.cWin, .int .i64 c.cQs, .int .i64 c.cQr, .int .i64 c.cBatch, .int .i64 c.cPass, .int .i64 c.cMsg, .int .i64 c.cSeqs] 23)) := (Below.refl w.heap.size w).alloc (Nat.le_refl _) _
  by_cases h0 : inC c.cWin 1 16 = false
  · have e0 : okCe c = false := by unfold okCe; rw [h0]; simp
    rw [e0]
    go_enter Tryz.func30, Tryz.ntmps30
    go_wp2_with (go_at_call 57; refine (confFrom_any _ _ _ _).mono ?_; rintro e w9 ⟨rfl, rfl⟩)
    go_ret
    exact ⟨rfl, b1⟩
  have h0 : inC c.cWin 1 16 = true := by simpa using h0
  by_cases h1 : inC c.cQs 1 16 = false
  · have e0 : okCe c = false := by unfold okCe; rw [h0, h1]; simp
    rw [e0]
    go_enter Tryz.func30, Tryz.ntmps30
    go_wp2_with (go_at_call 57; refine (confFrom_any _ _ _ _).mono ?_; rintro e w9 ⟨rfl, rfl⟩)
    go_ret
    exact ⟨rfl, b1⟩
  have h1 : inC c.cQs 1 16 = true := by simpa using h1
  by_cases h2 : inC c.cQr 1 16 = false
  · have e0 : okCe c = false := by unfold okCe; rw [h0, h1, h2]; simp
    rw [e0]
    go_enter Tryz.func30, Tryz.ntmps30
    go_wp2_with (go_at_call 57; refine (confFrom_any _ _ _ _).mono ?_; rintro e w9 ⟨rfl, rfl⟩)
    go_ret
    exact ⟨rfl, b1⟩
  have h2 : inC c.cQr 1 16 = true := by simpa using h2
  by_cases h3 : inC c.cMsg 0 200 = false
  · have e0 : okCe c = false := by unfold okCe; rw [h0, h1, h2, h3]; simp
    rw [e0]
    go_enter Tryz.func30, Tryz.ntmps30
    go_wp2_with (go_at_call 57; refine (confFrom_any _ _ _ _).mono ?_; rintro e w9 ⟨rfl, rfl⟩)
    go_ret
    exact ⟨rfl, b1⟩
  have h3 : inC c.cMsg 0 200 = true := by simpa using h3
  by_cases h4 : inC c.cSeqs 0 1073741824 = false
  · have e0 : okCe c = false := by unfold okCe; rw [h0, h1, h2, h3, h4]; simp
    rw [e0]
    go_enter Tryz.func30, Tryz.ntmps30
    go_wp2_with (go_at_call 57; refine (confFrom_any _ _ _ _).mono ?_; rintro e w9 ⟨rfl, rfl⟩)
    go_ret
    exact ⟨rfl, b1⟩
  have h4 : inC c.cSeqs 0 1073741824 = true := by simpa using h4
  have e0 : okCe c = true := by unfold okCe; rw [h0, h1, h2, h3, h4]; rfl
  rw [e0]
  go_enter Tryz.func30, Tryz.ntmps30
  go_wp2_with (go_at_call 57; refine (confFrom_any _ _ _ _).mono ?_; rintro e w9 ⟨rfl, rfl⟩)
  go_ret
  exact ⟨rfl, b1⟩

set_option maxRecDepth 100000 in
set_option maxHeartbeats 1000000 in
theorem confCodeSegs (k : Int) (h2 : 0 ≤ k) (h3 : k ≤ 32) (w : World) : Calls Tryz.prog 32 #[.int .i64 k] w fun e w' => e = .returned (.int .i64 (2 * k)) ∧ w = w' := by
  have d0 : decide (k < 0) = false := decide_eq_false (by omega)
  have d1 : decide (32 < k) = false := decide_eq_false (by omega)
  go_enter Tryz.func32, Tryz.ntmps32
  go_wp2
  go_ret
  exact ⟨rfl, rfl⟩

set_option maxRecDepth 100000 in
set_option maxHeartbeats 2000000 in
theorem ConfCheck_any (c : Cfg) (w : World) :
    Calls Tryz.prog 13 #[.agg #[.int .i64 c.cB, .int .i64 c.cBeam, .int .i64 c.cDepth, .int .i64 c.cWin, .int .i64 c.cQs, .int .i64 c.cQr, .int .i64 c.cBatch, .int .i64 c.cPass, .int .i64 c.cMsg, .int .i64 c.cSeqs]] w fun e w' => e = .returned (.int .i64 (checkA c)) ∧ Below w.heap.size w w' := by
  have b1 : Below w.heap.size w (w.alloc (.cells #[.int .i64 c.cB, .int .i64 c.cBeam, .int .i64 c.cDepth, .int .i64 c.cWin, .int .i64 c.cQs, .int .i64 c.cQr, .int .i64 c.cBatch, .int .i64 c.cPass, .int .i64 c.cMsg, .int .i64 c.cSeqs] 23)) := (Below.refl w.heap.size w).alloc (Nat.le_refl _) _
  have H1 := confBlock_any c (w.alloc (.cells #[.int .i64 c.cB, .int .i64 c.cBeam, .int .i64 c.cDepth, .int .i64 c.cWin, .int .i64 c.cQs, .int .i64 c.cQr, .int .i64 c.cBatch, .int .i64 c.cPass, .int .i64 c.cMsg, .int .i64 c.cSeqs] 23))
  unfold checkA
  by_cases h0 : okCb c = false
  · rw [h0] at H1
    rw [show okC c = false by rw [okC_two, h0]; rfl, if_neg (by simp)]
    go_enter Tryz.func13, Tryz.ntmps13
    go_wp2_with fail
    refine H1.mono ?_
    rintro e w2 ⟨rfl, b2⟩
    go_wp2
    go_ret
    exact ⟨rfl, b1.trans (b2.mono (by simp))⟩
  have h0 : okCb c = true := by simpa using h0
  rw [h0] at H1
  have H2 : Hid (∀ wx : World, Calls Tryz.prog 30 #[.agg #[.int .i64 c.cB, .int .i64 c.cBeam, .int .i64 c.cDepth, .int .i64 c.cWin, .int .i64 c.cQs, .int .i64 c.cQr, .int .i64 c.cBatch, .int .i64 c.cPass, .int .i64 c.cMsg, .int .i64 c.cSeqs]] wx fun e w' => e = .returned (.bool (okCe c)) ∧ Below wx.heap.size wx w') := fun wx => confEnds_any c wx
  have x1 := Box.new w 23 #[.int .i64 c.cB, .int .i64 c.cBeam, .int .i64 c.cDepth, .int .i64 c.cWin, .int .i64 c.cQs, .int .i64 c.cQr, .int .i64 c.cBatch, .int .i64 c.cPass, .int .i64 c.cMsg, .int .i64 c.cSeqs]
  by_cases h1 : okCe c = false
  · rw [h1] at H2
    rw [show okC c = false by rw [okC_two, h0, h1]; rfl, if_neg (by simp)]
    go_enter Tryz.func13, Tryz.ntmps13
    go_wp2_with fail
    refine H1.mono ?_
    rintro e w2 ⟨rfl, b2⟩
    have x2 := x1.next b2
    have k0 := x2.cell 0 _ rfl
    have k1 := x2.cell 1 _ rfl
    have k2 := x2.cell 2 _ rfl
    have k3 := x2.cell 3 _ rfl
    have k4 := x2.cell 4 _ rfl
    have k5 := x2.cell 5 _ rfl
    have k6 := x2.cell 6 _ rfl
    have k7 := x2.cell 7 _ rfl
    have k8 := x2.cell 8 _ rfl
    have k9 := x2.cell 9 _ rfl
    clear x1 x2
    go_wp2_with fail
    refine (H2.out _).mono ?_
    rintro e w3 ⟨rfl, b3⟩
    go_wp2
    go_ret
    exact ⟨rfl, (b1.trans (b2.mono (by simp))).trans (b3.mono (Nat.le_trans (by simp) b2.size))⟩
  have h1 : okCe c = true := by simpa using h1
  rw [h1] at H2
  rw [show okC c = true by rw [okC_two, h0, h1]; rfl, if_pos rfl]
  go_enter Tryz.func13, Tryz.ntmps13
  go_wp2_with fail
  refine H1.mono ?_
  rintro e w2 ⟨rfl, b2⟩
  have x2 := x1.next b2
  have k0 := x2.cell 0 _ rfl
  have k1 := x2.cell 1 _ rfl
  have k2 := x2.cell 2 _ rfl
  have k3 := x2.cell 3 _ rfl
  have k4 := x2.cell 4 _ rfl
  have k5 := x2.cell 5 _ rfl
  have k6 := x2.cell 6 _ rfl
  have k7 := x2.cell 7 _ rfl
  have k8 := x2.cell 8 _ rfl
  have k9 := x2.cell 9 _ rfl
  clear x1 x2
  go_wp2_with fail
  refine (H2.out _).mono ?_
  rintro e w3 ⟨rfl, b3⟩
  go_wp2
  go_ret
  exact ⟨rfl, (b1.trans (b2.mono (by simp))).trans (b3.mono (Nat.le_trans (by simp) b2.size))⟩

set_option maxRecDepth 100000 in
set_option maxHeartbeats 2000000 in
theorem ConfSegs_any (c : Cfg) (w : World) :
    Calls Tryz.prog 15 #[.agg #[.int .i64 c.cB, .int .i64 c.cBeam, .int .i64 c.cDepth, .int .i64 c.cWin, .int .i64 c.cQs, .int .i64 c.cQr, .int .i64 c.cBatch, .int .i64 c.cPass, .int .i64 c.cMsg, .int .i64 c.cSeqs]] w fun e w' => e = .returned (.int .i64 (segsA c)) ∧ Below w.heap.size w w' := by
  have b1 : Below w.heap.size w (w.alloc (.cells #[.int .i64 c.cB, .int .i64 c.cBeam, .int .i64 c.cDepth, .int .i64 c.cWin, .int .i64 c.cQs, .int .i64 c.cQr, .int .i64 c.cBatch, .int .i64 c.cPass, .int .i64 c.cMsg, .int .i64 c.cSeqs] 23)) := (Below.refl w.heap.size w).alloc (Nat.le_refl _) _
  have H1 := ConfCheck_any c (w.alloc (.cells #[.int .i64 c.cB, .int .i64 c.cBeam, .int .i64 c.cDepth, .int .i64 c.cWin, .int .i64 c.cQs, .int .i64 c.cQr, .int .i64 c.cBatch, .int .i64 c.cPass, .int .i64 c.cMsg, .int .i64 c.cSeqs] 23))
  unfold segsA
  unfold checkA at H1
  by_cases h0 : okC c = true
  · rw [if_pos h0] at H1
    rw [if_pos h0]
    have hb := ((okC_iff c).1 h0).1
    have h2 := hb.1
    have h3 := hb.2
    have H2 : Hid (∀ wx : World, Calls Tryz.prog 32 #[.int .i64 (c.cB + 10)] wx fun e w' => e = .returned (.int .i64 (segsC c)) ∧ wx = w') := fun wx => confCodeSegs (c.cB + 10) (by omega) (by omega) wx
    have e1 : IntKind.i64.wrap (c.cB + 10) = c.cB + 10 := by rw [IntKind.wrap_i64]; omega
    have x1 := Box.new w 23 #[.int .i64 c.cB, .int .i64 c.cBeam, .int .i64 c.cDepth, .int .i64 c.cWin, .int .i64 c.cQs, .int .i64 c.cQr, .int .i64 c.cBatch, .int .i64 c.cPass, .int .i64 c.cMsg, .int .i64 c.cSeqs]
    generalize segsC c = SS at *
    clear h0 hb
    go_enter Tryz.func15, Tryz.ntmps15
    go_wp2_with fail
    refine H1.mono ?_
    rintro e w2 ⟨rfl, b2⟩
    have x2 := x1.next b2
    have k0 := x2.cell 0 _ rfl
    clear x1 x2
    go_wp2_with fail
    refine (H2.out _).mono ?_
    rintro e w3 ⟨rfl, rfl⟩
    go_wp2
    go_ret
    exact ⟨rfl, b1.trans (b2.mono (by simp))⟩
  · rw [if_neg h0] at H1
    rw [if_neg h0]
    clear h0
    go_enter Tryz.func15, Tryz.ntmps15
    go_wp2_with fail
    refine H1.mono ?_
    rintro e w2 ⟨rfl, b2⟩
    go_wp2
    go_ret
    exact ⟨rfl, b1.trans (b2.mono (by simp))⟩

end Go.Proofs.YtokejgoplalkhabGreatDoor
