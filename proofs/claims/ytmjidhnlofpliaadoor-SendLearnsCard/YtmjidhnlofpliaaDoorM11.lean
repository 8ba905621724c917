/-
  Configurations as numbers: which may be, what they make. No function of the program is spoken of. (Written by tpl_conf.py.)
-/
import Derived.Test.YtmjidhnlofpliaaDoorM01
import Derived.Test.YtmjidhnlofpliaaDoorM10
import Derived.Lib.MinMax
namespace Go.Proofs.YtmjidhnlofpliaaDoor
open Go.RowKit

/-- A configuration. -/
structure Cfg where
  cB : Int
  cBeam : Int
  cDepth : Int
  cWin : Int
  cQs : Int
  cQr : Int
  cBatch : Int
  cPass : Int
  cMsg : Int
  cSeqs : Int

def inC (n lo hi : Int) : Bool := decide (lo ≤ n) && decide (n ≤ hi)
theorem inC_iff (n lo hi : Int) : inC n lo hi = true ↔ lo ≤ n ∧ n ≤ hi := by simp [inC]
theorem inC_no {n lo hi : Int} (h : ¬ (lo ≤ n ∧ n ≤ hi)) : inC n lo hi = false := by rw [← Bool.not_eq_true, inC_iff]; exact h
/-- May it be? -/
def okC (c : Cfg) : Bool := inC c.cB 1 16 && inC c.cBeam 1 16 && inC c.cDepth 1 3 && inC c.cWin 1 16 && inC c.cQs 1 16 && inC c.cQr 1 16 && inC c.cBatch 1 64 && inC c.cPass 4 16 && inC c.cMsg 0 200 && inC c.cSeqs 0 1073741824
theorem okC_iff (c : Cfg) : okC c = true ↔ (1 ≤ c.cB ∧ c.cB ≤ 16) ∧ (1 ≤ c.cBeam ∧ c.cBeam ≤ 16) ∧ (1 ≤ c.cDepth ∧ c.cDepth ≤ 3) ∧ (1 ≤ c.cWin ∧ c.cWin ≤ 16) ∧ (1 ≤ c.cQs ∧ c.cQs ≤ 16) ∧ (1 ≤ c.cQr ∧ c.cQr ≤ 16) ∧ (1 ≤ c.cBatch ∧ c.cBatch ≤ 64) ∧ (4 ≤ c.cPass ∧ c.cPass ≤ 16) ∧ (0 ≤ c.cMsg ∧ c.cMsg ≤ 200) ∧ (0 ≤ c.cSeqs ∧ c.cSeqs ≤ 1073741824) := by
  simp only [okC, Bool.and_eq_true, inC_iff]
  omega
def segsC (c : Cfg) : Int := 2 * (c.cB + 10)
def mostC (c : Cfg) : Int := segsC c * c.cPass
def blocksC (c : Cfg) (n : Int) : Int := max ((n + c.cB - 1) / c.cB) 1
/-- What the calls answer, right or not. -/
def segsA (c : Cfg) : Int := if okC c then segsC c else 0
def mostA (c : Cfg) : Int := if okC c then mostC c else 0
def blocksA (c : Cfg) (n : Int) : Int := if okC c = true ∧ 0 ≤ n ∧ n ≤ 200 then blocksC c n else 0
def checkA (c : Cfg) : Int := if okC c then 0 else 1

theorem segsC_bd {c : Cfg} (h : okC c = true) : 22 ≤ segsC c ∧ segsC c ≤ 52 := by
  have := (okC_iff c).1 h
  unfold segsC; omega
theorem mostC_bd {c : Cfg} (h : okC c = true) : 88 ≤ mostC c ∧ mostC c ≤ 832 := by
  have h1 := segsC_bd h
  have h2 := ((okC_iff c).1 h).2.2.2.2.2.2.2.1
  unfold mostC
  have a1 : 22 * c.cPass ≤ segsC c * c.cPass := Int.mul_le_mul_of_nonneg_right h1.1 (by omega)
  have a2 : segsC c * c.cPass ≤ 52 * c.cPass := Int.mul_le_mul_of_nonneg_right h1.2 (by omega)
  omega
theorem ceil_bd {x d : Int} (hx : 0 < x) (hd : 1 ≤ d) : 1 ≤ (x + d - 1) / d ∧ (x + d - 1) / d ≤ x ∧ x ≤ (x + d - 1) / d * d ∧ ((x + d - 1) / d - 1) * d < x := by
  have h1 := Int.emod_add_mul_ediv (x + d - 1) d
  have h2 := Int.emod_nonneg (x + d - 1) (show d ≠ 0 by omega)
  have h3 := Int.emod_lt_of_pos (x + d - 1) (show 0 < d by omega)
  generalize (x + d - 1) % d = r at h1 h2 h3
  generalize (x + d - 1) / d = q at h1
  have e1 : q * d = d * q := Int.mul_comm _ _
  have e2 : (q - 1) * d = d * q - d := by rw [Int.sub_mul, Int.one_mul, e1]
  have hq0 : 1 ≤ q := by
    refine Int.not_lt.1 fun hlt => ?_
    have : d * q ≤ d * 0 := Int.mul_le_mul_of_nonneg_left (by omega) (by omega)
    omega
  have hqx : q ≤ x := by
    refine Int.not_lt.1 fun hlt => ?_
    have a1 : d * (x + 1) ≤ d * q := Int.mul_le_mul_of_nonneg_left (by omega) (by omega)
    have a2 : d * (x + 1) = d * x + d := by rw [Int.mul_add, Int.mul_one]
    have a3 : 1 * x ≤ d * x := Int.mul_le_mul_of_nonneg_right hd (by omega)
    omega
  omega
theorem blocksC_bd {c : Cfg} (h : okC c = true) {n : Int} (h0 : 0 ≤ n) (h1 : n ≤ 200) : 1 ≤ blocksC c n ∧ blocksC c n ≤ 200 ∧ n ≤ blocksC c n * c.cB ∧ (1 < blocksC c n → (blocksC c n - 1) * c.cB < n) := by
  have h2 := ((okC_iff c).1 h).1
  unfold blocksC
  by_cases hn : n = 0
  · subst hn
    have e : (0 + c.cB - 1) / c.cB = 0 := Int.ediv_eq_zero_of_lt (by omega) (by omega)
    rw [e, show max (0 : Int) 1 = 1 from rfl]
    omega
  · have := ceil_bd (x := n) (d := c.cB) (by omega) h2.1
    rw [show max ((n + c.cB - 1) / c.cB) 1 = (n + c.cB - 1) / c.cB by omega]
    omega
end Go.Proofs.YtmjidhnlofpliaaDoor

/-
  What the page's in, Config, Segs, Most, Blocks, Ticks, Cycles answer. (Written by tpl_conf.py.)
-/
namespace Go.Proofs.YtmjidhnlofpliaaDoor
open Go.RowKit

end Go.Proofs.YtmjidhnlofpliaaDoor

/-
  What package conf answers (isFrom, isRightForBlock, isRightForEnds, parts, Check, Segs, Most, Blocks, Ticks, Cycles), of whatever configuration. (Written by tpl_confcode.py.)
-/
namespace Go.Proofs.YtmjidhnlofpliaaDoor
open Go.RowKit

def okCb (c : Cfg) : Bool := inC c.cB 1 16 && inC c.cBeam 1 16 && inC c.cDepth 1 3 && inC c.cBatch 1 64 && inC c.cPass 4 16
def okCe (c : Cfg) : Bool := inC c.cWin 1 16 && inC c.cQs 1 16 && inC c.cQr 1 16 && inC c.cMsg 0 200 && inC c.cSeqs 0 1073741824
theorem okC_two (c : Cfg) : okC c = (okCb c && okCe c) := by
  unfold okC okCb okCe
  cases inC c.cB 1 16 <;> cases inC c.cBeam 1 16 <;> cases inC c.cDepth 1 3 <;> cases inC c.cBatch 1 64 <;> cases inC c.cPass 4 16 <;> simp

set_option maxRecDepth 100000 in
set_option maxHeartbeats 400000 in
theorem confFrom_any (lo n hi : Int) (w : World) : Calls Tryd.prog 59 #[.int .i64 lo, .int .i64 n, .int .i64 hi] w fun e w' => e = .returned (.bool (inC n lo hi)) ∧ w = w' := by
  unfold inC
  by_cases h : lo ≤ n
  · have d : decide (lo ≤ n) = true := decide_eq_true h
    rw [d, Bool.true_and]
    clear h
    go_enter Tryd.func59, Tryd.ntmps59
    go_wp2
    go_ret
    exact ⟨rfl, rfl⟩
  · have d : decide (lo ≤ n) = false := decide_eq_false h
    rw [d, Bool.false_and]
    clear h
    go_enter Tryd.func59, Tryd.ntmps59
    go_wp2
    go_ret
    exact ⟨rfl, rfl⟩

set_option maxRecDepth 100000 in
set_option maxHeartbeats 4000000 in
theorem confBlock_any (c : Cfg) (w : World) : Calls Tryd.prog 32 #[.agg #[.int .i64 c.cB, .int .i64 c.cBeam, .int .i64 c.cDepth, .int .i64 c.cWin, .int .i64 c.cQs, .int .i64 c.cQr, .int .i64 c.cBatch, .int .i64 c.cPass, .int .i64 c.cMsg, .int .i64 c.cSeqs]] w fun e w' => e = .returned (.bool (okCb c)) ∧ Below w.heap.size w w' := by
  have b1 : Below w.heap.size w (w.alloc (.cells #[.int .i64 c.cB, .int .i64 c.cBeam, .int .i64 c.cDepth, .int .i64 c.cWin, .int .i64 c.cQs, .int .i64 c.cQr, .int .i64 c.cBatch, .int .i64 c.cPass, .int .i64 c.cMsg, .int .i64 c.cSeqs] 23)) := (Below.refl w.heap.size w).alloc (Nat.le_refl _) _
  by_cases h0 : inC c.cB 1 16 = false
  · have e0 : okCb c = false := by unfold okCb; rw [h0]; simp
    rw [e0]
    go_enter Tryd.func32, Tryd.ntmps32
    go_wp2_with (go_at_call 59; refine (confFrom_any _ _ _ _).mono ?_; rintro e w9 ⟨rfl, rfl⟩)
    go_ret
    exact ⟨rfl, b1⟩
  have h0 : inC c.cB 1 16 = true := by simpa using h0
  by_cases h1 : inC c.cBeam 1 16 = false
  · have e0 : okCb c = false := by unfold okCb; rw [h0, h1]; simp
    rw [e0]
    go_enter Tryd.func32, Tryd.ntmps32
    go_wp2_with (go_at_call 59; refine (confFrom_any _ _ _ _).mono ?_; rintro e w9 ⟨rfl, rfl⟩)
    go_ret
    exact ⟨rfl, b1⟩
  have h1 : inC c.cBeam 1 16 = true := by simpa using h1
  by_cases h2 : inC c.cDepth 1 3 = false
  · have e0 : okCb c = false := by unfold okCb; rw [h0, h1, h2]; simp
    rw [e0]
    go_enter Tryd.func32, Tryd.ntmps32
    go_wp2_with (go_at_call 59; refine (confFrom_any _ _ _ _).mono ?_; rintro e w9 ⟨rfl, rfl⟩)
    go_ret
    exact ⟨rfl, b1⟩
  have h2 : inC c.cDepth 1 3 = true := by simpa using h2
  by_cases h3 : inC c.cBatch 1 64 = false
  · have e0 : okCb c = false := by unfold okCb; rw [h0, h1, h2, h3]; simp
    rw [e0]
    go_enter Tryd.func32, Tryd.ntmps32
    go_wp2_with (go_at_call 59; refine (confFrom_any _ _ _ _).mono ?_; rintro e w9 ⟨rfl, rfl⟩)
    go_ret
    exact ⟨rfl, b1⟩
  have h3 : inC c.cBatch 1 64 = true := by simpa using h3
  by_cases h4 : inC c.cPass 4 16 = false
  · have e0 : okCb c = false := by unfold okCb; rw [h0, h1, h2, h3, h4]; simp
    rw [e0]
    go_enter Tryd.func32, Tryd.ntmps32
    go_wp2_with (go_at_call 59; refine (confFrom_any _ _ _ _).mono ?_; rintro e w9 ⟨rfl, rfl⟩)
    go_ret
    exact ⟨rfl, b1⟩
  have h4 : inC c.cPass 4 16 = true := by simpa using h4
  have e0 : okCb c = true := by unfold okCb; rw [h0, h1, h2, h3, h4]; rfl
  rw [e0]
  go_enter Tryd.func32, Tryd.ntmps32
  go_wp2_with (go_at_call 59; refine (confFrom_any _ _ _ _).mono ?_; rintro e w9 ⟨rfl, rfl⟩)
  go_ret
  exact ⟨rfl, b1⟩

set_option maxRecDepth 100000 in
set_option maxHeartbeats 4000000 in
theorem confEnds_any (c : Cfg) (w : World) : Calls Tryd.prog 33 #[.agg #[.int .i64 c.cB, .int .i64 c.cBeam, .int .i64 c.cDepth, .int .i64 c.cWin, .int .i64 c.cQs, .int .i64 c.cQr, .int .i64 c.cBatch, .int .i64 c.cPass, .int .i64 c.cMsg, .int .i64 c.cSeqs]] w fun e w' => e = .returned (.bool (okCe c)) ∧ Below w.heap.size w w' := by
  have b1 : Below w.heap.size w (w.alloc (.cells #[.int .i64 c.cB, .int .i64 c.cBeam, .int .i64 c.cDepth, .int .i64 c.cWin, .int .i64 c.cQs, .int .i64 c.cQr, .int .i64 c.cBatch, .int .i64 c.cPass, .int .i64 c.cMsg, .int .i64 c.cSeqs] 23)) := (Below.refl w.heap.size w).alloc (Nat.le_refl _) _
  by_cases h0 : inC c.cWin 1 16 = false
  · have e0 : okCe c = false := by unfold okCe; rw [h0]; simp
    rw [e0]
    go_enter Tryd.func33, Tryd.ntmps33
    go_wp2_with (go_at_call 59; refine (confFrom_any _ _ _ _).mono ?_; rintro e w9 ⟨rfl, rfl⟩)
    go_ret
    exact ⟨rfl, b1⟩
  have h0 : inC c.cWin 1 16 = true := by simpa using h0
  by_cases h1 : inC c.cQs 1 16 = false
  · have e0 : okCe c = false := by unfold okCe; rw [h0, h1]; simp
    rw [e0]
    go_enter Tryd.func33, Tryd.ntmps33
    go_wp2_with (go_at_call 59; refine (confFrom_any _ _ _ _).mono ?_; rintro e w9 ⟨rfl, rfl⟩)
    go_ret
    exact ⟨rfl, b1⟩
  have h1 : inC c.cQs 1 16 = true := by simpa using h1
  by_cases h2 : inC c.cQr 1 16 = false
  · have e0 : okCe c = false := by unfold okCe; rw [h0, h1, h2]; simp
    rw [e0]
    go_enter Tryd.func33, Tryd.ntmps33
    go_wp2_with (go_at_call 59; refine (confFrom_any _ _ _ _).mono ?_; rintro e w9 ⟨rfl, rfl⟩)
    go_ret
    exact ⟨rfl, b1⟩
  have h2 : inC c.cQr 1 16 = true := by simpa using h2
  by_cases h3 : inC c.cMsg 0 200 = false
  · have e0 : okCe c = false := by unfold okCe; rw [h0, h1, h2, h3]; simp
    rw [e0]
    go_enter Tryd.func33, Tryd.ntmps33
    go_wp2_with (go_at_call 59; refine (confFrom_any _ _ _ _).mono ?_; rintro e w9 ⟨rfl, rfl⟩)
    go_ret
    exact ⟨rfl, b1⟩
  have h3 : inC c.cMsg 0 200 = true := by simpa using h3
  by_cases h4 : inC c.cSeqs 0 1073741824 = false
  · have e0 : okCe c = false := by unfold okCe; rw [h0, h1, h2, h3, h4]; simp
    rw [e0]
    go_enter Tryd.func33, Tryd.ntmps33
    go_wp2_with (go_at_call 59; refine (confFrom_any _ _ _ _).mono ?_; rintro e w9 ⟨rfl, rfl⟩)
    go_ret
    exact ⟨rfl, b1⟩
  have h4 : inC c.cSeqs 0 1073741824 = true := by simpa using h4
  have e0 : okCe c = true := by unfold okCe; rw [h0, h1, h2, h3, h4]; rfl
  rw [e0]
  go_enter Tryd.func33, Tryd.ntmps33
  go_wp2_with (go_at_call 59; refine (confFrom_any _ _ _ _).mono ?_; rintro e w9 ⟨rfl, rfl⟩)
  go_ret
  exact ⟨rfl, b1⟩

set_option maxRecDepth 100000 in
set_option maxHeartbeats 1000000 in
theorem confParts_any (n d D : Int) (h0 : 0 ≤ n) (h1 : n ≤ 1000) (d0 : 1 ≤ d) (d1 : d ≤ 64) (hD : (n + d - 1) / d = D) (w : World) : Calls Tryd.prog 71 #[.int .i64 n, .int .i64 d] w fun e w' => e = .returned (.int .i64 D) ∧ w = w' := by
  have hD0 : 0 ≤ D := by rw [← hD]; exact Int.ediv_nonneg (by omega) (by omega)
  have hD1 : D ≤ 2000 := by
    rw [← hD]
    exact Int.le_trans (Int.ediv_le_self _ (by omega)) (by omega)
  have eT : (n + d - 1).tdiv d = D := by rw [Int.tdiv_eq_ediv_of_nonneg (by omega)]; exact hD
  have e1 : IntKind.i64.wrap (n + d) = n + d := by rw [IntKind.wrap_i64]; omega
  have e2 : IntKind.i64.wrap (n + d - 1) = n + d - 1 := by rw [IntKind.wrap_i64]; omega
  have e3 : IntKind.i64.wrap D = D := by rw [IntKind.wrap_i64]; omega
  have e4 : ¬ d = 0 := by omega
  clear h0 h1 d0 d1 hD hD0 hD1
  go_enter Tryd.func71, Tryd.ntmps71
  go_wp2
  go_ret
  exact ⟨rfl, rfl⟩

set_option maxRecDepth 100000 in
set_option maxHeartbeats 1000000 in
theorem confCodeSegs (k : Int) (h2 : 0 ≤ k) (h3 : k ≤ 32) (w : World) : Calls Tryd.prog 77 #[.int .i64 k] w fun e w' => e = .returned (.int .i64 (2 * k)) ∧ w = w' := by
  have d0 : decide (k < 0) = false := decide_eq_false (by omega)
  have d1 : decide (32 < k) = false := decide_eq_false (by omega)
  go_enter Tryd.func77, Tryd.ntmps77
  go_wp2
  go_ret
  exact ⟨rfl, rfl⟩

set_option maxRecDepth 100000 in
set_option maxHeartbeats 2000000 in
theorem ConfCheck_any (c : Cfg) (w : World) :
    Calls Tryd.prog 16 #[.agg #[.int .i64 c.cB, .int .i64 c.cBeam, .int .i64 c.cDepth, .int .i64 c.cWin, .int .i64 c.cQs, .int .i64 c.cQr, .int .i64 c.cBatch, .int .i64 c.cPass, .int .i64 c.cMsg, .int .i64 c.cSeqs]] w fun e w' => e = .returned (.int .i64 (checkA c)) ∧ Below w.heap.size w w' := by
  have b1 : Below w.heap.size w (w.alloc (.cells #[.int .i64 c.cB, .int .i64 c.cBeam, .int .i64 c.cDepth, .int .i64 c.cWin, .int .i64 c.cQs, .int .i64 c.cQr, .int .i64 c.cBatch, .int .i64 c.cPass, .int .i64 c.cMsg, .int .i64 c.cSeqs] 23)) := (Below.refl w.heap.size w).alloc (Nat.le_refl _) _
  have H1 := confBlock_any c (w.alloc (.cells #[.int .i64 c.cB, .int .i64 c.cBeam, .int .i64 c.cDepth, .int .i64 c.cWin, .int .i64 c.cQs, .int .i64 c.cQr, .int .i64 c.cBatch, .int .i64 c.cPass, .int .i64 c.cMsg, .int .i64 c.cSeqs] 23))
  unfold checkA
  by_cases h0 : okCb c = false
  · rw [h0] at H1
    rw [show okC c = false by rw [okC_two, h0]; rfl, if_neg (by simp)]
    go_enter Tryd.func16, Tryd.ntmps16
    go_wp2_with fail
    refine H1.mono ?_
    rintro e w2 ⟨rfl, b2⟩
    go_wp2
    go_ret
    exact ⟨rfl, b1.trans (b2.mono (by simp))⟩
  have h0 : okCb c = true := by simpa using h0
  rw [h0] at H1
  have H2 : Hid (∀ wx : World, Calls Tryd.prog 33 #[.agg #[.int .i64 c.cB, .int .i64 c.cBeam, .int .i64 c.cDepth, .int .i64 c.cWin, .int .i64 c.cQs, .int .i64 c.cQr, .int .i64 c.cBatch, .int .i64 c.cPass, .int .i64 c.cMsg, .int .i64 c.cSeqs]] wx fun e w' => e = .returned (.bool (okCe c)) ∧ Below wx.heap.size wx w') := fun wx => confEnds_any c wx
  have x1 := Box.new w 23 #[.int .i64 c.cB, .int .i64 c.cBeam, .int .i64 c.cDepth, .int .i64 c.cWin, .int .i64 c.cQs, .int .i64 c.cQr, .int .i64 c.cBatch, .int .i64 c.cPass, .int .i64 c.cMsg, .int .i64 c.cSeqs]
  by_cases h1 : okCe c = false
  · rw [h1] at H2
    rw [show okC c = false by rw [okC_two, h0, h1]; rfl, if_neg (by simp)]
    go_enter Tryd.func16, Tryd.ntmps16
    go_wp2_with fail
    refine H1.mono ?_
    rintro e w2 ⟨rfl, b2⟩
    have x2 := x1.next b2
    have k0 := x2.cell 0 _ rfl
    have k1 := x2.cell 1 _ rfl
    have k2 := x2.cell 2 _ rfl
    have k3 := x2.cell 3 _ rfl
    have k4 := x2.cell 4 _ rfl
    have k5 := x2.cell 5 _ rfl
    have k6 := x2.cell 6 _ rfl
    have k7 := x2.cell 7 _ rfl
    have k8 := x2.cell 8 _ rfl
    have k9 := x2.cell 9 _ rfl
    clear x1 x2
    go_wp2_with fail
    refine (H2.out _).mono ?_
    rintro e w3 ⟨rfl, b3⟩
    go_wp2
    go_ret
    exact ⟨rfl, (b1.trans (b2.mono (by simp))).trans (b3.mono (Nat.le_trans (by simp) b2.size))⟩
  have h1 : okCe c = true := by simpa using h1
  rw [h1] at H2
  rw [show okC c = true by rw [okC_two, h0, h1]; rfl, if_pos rfl]
  go_enter Tryd.func16, Tryd.ntmps16
  go_wp2_with fail
  refine H1.mono ?_
  rintro e w2 ⟨rfl, b2⟩
  have x2 := x1.next b2
  have k0 := x2.cell 0 _ rfl
  have k1 := x2.cell 1 _ rfl
  have k2 := x2.cell 2 _ rfl
  have k3 := x2.cell 3 _ rfl
  have k4 := x2.cell 4 _ rfl
  have k5 := x2.cell 5 _ rfl
  have k6 := x2.cell 6 _ rfl
  have k7 := x2.cell 7 _ rfl
  have k8 := x2.cell 8 _ rfl
  have k9 := x2.cell 9 _ rfl
  clear x1 x2
  go_wp2_with fail
  refine (H2.out _).mono ?_
  rintro e w3 ⟨rfl, b3⟩
  go_wp2
  go_ret
  exact ⟨rfl, (b1.trans (b2.mono (by simp))).trans (b3.mono (Nat.le_trans (by simp) b2.size))⟩

set_option maxRecDepth 100000 in
set_option maxHeartbeats 2000000 in
theorem ConfSegs_any (c : Cfg) (w : World) :
    Calls Tryd.prog 61 #[.agg #[.int .i64 c.cB, .int .i64 c.cBeam, .int .i64 c.cDepth, .int .i64 c.cWin, .int .i64 c.cQs, .int .i64 c.cQr, .int .i64 c.cBatch, .int .i64 c.cPass, .int .i64 c.cMsg, .int .i64 c.cSeqs]] w fun e w' => e = .returned (.int .i64 (segsA c)) ∧ Below w.heap.size w w' := by
  have b1 : Below w.heap.size w (w.alloc (.cells #[.int .i64 c.cB, .int .i64 c.cBeam, .int .i64 c.cDepth, .int .i64 c.cWin, .int .i64 c.cQs, .int .i64 c.cQr, .int .i64 c.cBatch, .int .i64 c.cPass, .int .i64 c.cMsg, .int .i64 c.cSeqs] 23)) := (Below.refl w.heap.size w).alloc (Nat.le_refl _) _
  have H1 := ConfCheck_any c (w.alloc (.cells #[.int .i64 c.cB, .int .i64 c.cBeam, .int .i64 c.cDepth, .int .i64 c.cWin, .int .i64 c.cQs, .int .i64 c.cQr, .int .i64 c.cBatch, .int .i64 c.cPass, .int .i64 c.cMsg, .int .i64 c.cSeqs] 23))
  unfold segsA
  unfold checkA at H1
  by_cases h0 : okC c = true
  · rw [if_pos h0] at H1
    rw [if_pos h0]
    have hb := ((okC_iff c).1 h0).1
    have h2 := hb.1
    have h3 := hb.2
    have H2 : Hid (∀ wx : World, Calls Tryd.prog 77 #[.int .i64 (c.cB + 10)] wx fun e w' => e = .returned (.int .i64 (segsC c)) ∧ wx = w') := fun wx => confCodeSegs (c.cB + 10) (by omega) (by omega) wx
    have e1 : IntKind.i64.wrap (c.cB + 10) = c.cB + 10 := by rw [IntKind.wrap_i64]; omega
    have x1 := Box.new w 23 #[.int .i64 c.cB, .int .i64 c.cBeam, .int .i64 c.cDepth, .int .i64 c.cWin, .int .i64 c.cQs, .int .i64 c.cQr, .int .i64 c.cBatch, .int .i64 c.cPass, .int .i64 c.cMsg, .int .i64 c.cSeqs]
    generalize segsC c = SS at *
    clear h0 hb
    go_enter Tryd.func61, Tryd.ntmps61
    go_wp2_with fail
    refine H1.mono ?_
    rintro e w2 ⟨rfl, b2⟩
    have x2 := x1.next b2
    have k0 := x2.cell 0 _ rfl
    clear x1 x2
    go_wp2_with fail
    refine (H2.out _).mono ?_
    rintro e w3 ⟨rfl, rfl⟩
    go_wp2
    go_ret
    exact ⟨rfl, b1.trans (b2.mono (by simp))⟩
  · rw [if_neg h0] at H1
    rw [if_neg h0]
    clear h0
    go_enter Tryd.func61, Tryd.ntmps61
    go_wp2_with fail
    refine H1.mono ?_
    rintro e w2 ⟨rfl, b2⟩
    go_wp2
    go_ret
    exact ⟨rfl, b1.trans (b2.mono (by simp))⟩

set_option maxRecDepth 100000 in
set_option maxHeartbeats 2000000 in
theorem ConfMost_any (c : Cfg) (w : World) :
    Calls Tryd.prog 43 #[.agg #[.int .i64 c.cB, .int .i64 c.cBeam, .int .i64 c.cDepth, .int .i64 c.cWin, .int .i64 c.cQs, .int .i64 c.cQr, .int .i64 c.cBatch, .int .i64 c.cPass, .int .i64 c.cMsg, .int .i64 c.cSeqs]] w fun e w' => e = .returned (.int .i64 (mostA c)) ∧ Below w.heap.size w w' := by
  have b1 : Below w.heap.size w (w.alloc (.cells #[.int .i64 c.cB, .int .i64 c.cBeam, .int .i64 c.cDepth, .int .i64 c.cWin, .int .i64 c.cQs, .int .i64 c.cQr, .int .i64 c.cBatch, .int .i64 c.cPass, .int .i64 c.cMsg, .int .i64 c.cSeqs] 23)) := (Below.refl w.heap.size w).alloc (Nat.le_refl _) _
  have x1 := Box.new w 23 #[.int .i64 c.cB, .int .i64 c.cBeam, .int .i64 c.cDepth, .int .i64 c.cWin, .int .i64 c.cQs, .int .i64 c.cQr, .int .i64 c.cBatch, .int .i64 c.cPass, .int .i64 c.cMsg, .int .i64 c.cSeqs]
  have HM : mostA c = segsA c * c.cPass ∧ 0 ≤ mostA c ∧ mostA c ≤ 832 := by
    unfold mostA segsA
    by_cases h : okC c = true
    · rw [if_pos h, if_pos h]
      have := mostC_bd h
      exact ⟨rfl, by omega, by omega⟩
    · rw [if_neg h, if_neg h, Int.zero_mul]
      omega
  have HC : Hid (∀ wx : World, Calls Tryd.prog 61 #[.agg #[.int .i64 c.cB, .int .i64 c.cBeam, .int .i64 c.cDepth, .int .i64 c.cWin, .int .i64 c.cQs, .int .i64 c.cQr, .int .i64 c.cBatch, .int .i64 c.cPass, .int .i64 c.cMsg, .int .i64 c.cSeqs]] wx fun e w' => e = .returned (.int .i64 (segsA c)) ∧ Below wx.heap.size wx w') := fun wx => ConfSegs_any c wx
  generalize mostA c = MM at *
  generalize segsA c = S at *
  obtain ⟨hM, hM0, hM1⟩ := HM
  subst hM
  have eM : IntKind.i64.wrap (S * c.cPass) = S * c.cPass := by rw [IntKind.wrap_i64]; omega
  clear hM0 hM1
  go_enter Tryd.func43, Tryd.ntmps43
  go_wp2
  obtain ⟨W1, hW1⟩ : ∃ W, w.alloc (.cells #[.int .i64 c.cB, .int .i64 c.cBeam, .int .i64 c.cDepth, .int .i64 c.cWin, .int .i64 c.cQs, .int .i64 c.cQr, .int .i64 c.cBatch, .int .i64 c.cPass, .int .i64 c.cMsg, .int .i64 c.cSeqs] 23) = W := ⟨_, rfl⟩
  rw [hW1] at b1 x1 ⊢
  clear hW1
  have k0 := x1.cell 0 _ rfl
  have k1 := x1.cell 1 _ rfl
  have k2 := x1.cell 2 _ rfl
  have k3 := x1.cell 3 _ rfl
  have k4 := x1.cell 4 _ rfl
  have k5 := x1.cell 5 _ rfl
  have k6 := x1.cell 6 _ rfl
  have k7 := x1.cell 7 _ rfl
  have k8 := x1.cell 8 _ rfl
  have k9 := x1.cell 9 _ rfl
  have hlt1 := x1.lt
  have HS : Hid (∀ wx : World, Below W1.heap.size W1 wx → Calls Tryd.prog 61 #[.agg #[.int .i64 c.cB, .int .i64 c.cBeam, .int .i64 c.cDepth, .int .i64 c.cWin, .int .i64 c.cQs, .int .i64 c.cQr, .int .i64 c.cBatch, .int .i64 c.cPass, .int .i64 c.cMsg, .int .i64 c.cSeqs]] wx fun e w' => e = .returned (.int .i64 S) ∧ Below W1.heap.size W1 w') := fun wx hw =>
    (HC.out wx).mono fun e w' ⟨h, b⟩ => ⟨h, hw.trans (b.mono hw.size)⟩
  clear HC
  refine wp_region_held_drew (S := fun w' => Below W1.heap.size W1 w') (by kernel_rfl) ((Below.refl _ _).drew) (fun hHeld => ?_)
  refine held_take (i := 0) (d := 3) (v := ?v1) rfl rfl (by kernel_rfl) (by kernel_rfl) (by kernel_rfl) (fun _ _ _ h => h) (Or.inl ⟨by kernel_rfl, ?hy1⟩) hHeld ?rest1
  case hy1 =>
    intro wx hSw
    have q0 := (hSw.cell (p := ⟨w.heap.size, 0, none⟩) hlt1).trans k0
    have q1 := (hSw.cell (p := ⟨w.heap.size, 1, none⟩) hlt1).trans k1
    have q2 := (hSw.cell (p := ⟨w.heap.size, 2, none⟩) hlt1).trans k2
    have q3 := (hSw.cell (p := ⟨w.heap.size, 3, none⟩) hlt1).trans k3
    have q4 := (hSw.cell (p := ⟨w.heap.size, 4, none⟩) hlt1).trans k4
    have q5 := (hSw.cell (p := ⟨w.heap.size, 5, none⟩) hlt1).trans k5
    have q6 := (hSw.cell (p := ⟨w.heap.size, 6, none⟩) hlt1).trans k6
    have q7 := (hSw.cell (p := ⟨w.heap.size, 7, none⟩) hlt1).trans k7
    have q8 := (hSw.cell (p := ⟨w.heap.size, 8, none⟩) hlt1).trans k8
    have q9 := (hSw.cell (p := ⟨w.heap.size, 9, none⟩) hlt1).trans k9
    clear hSw
    go_simp
    with_reducible rfl
  simp only [List.setIfInBounds_toArray, List.set_cons_zero, List.set_cons_succ]
  refine held_take (i := 2) (d := 5) (v := ?v2) rfl rfl (by kernel_rfl) (by kernel_rfl) (by kernel_rfl) (fun _ _ _ h => h) (Or.inl ⟨by kernel_rfl, ?hy2⟩) hHeld ?rest2
  case hy2 =>
    intro wx hSw
    clear hSw
    go_simp
    with_reducible rfl
  simp only [List.setIfInBounds_toArray, List.set_cons_zero, List.set_cons_succ]
  refine held_take (i := 3) (d := 6) (v := ?v3) rfl rfl (by kernel_rfl) (by kernel_rfl) (by kernel_rfl) (fun _ _ _ h => h) (Or.inl ⟨by kernel_rfl, ?hy3⟩) hHeld ?rest3
  case hy3 =>
    intro wx hSw
    have q0 := (hSw.cell (p := ⟨w.heap.size, 7, none⟩) hlt1).trans k7
    clear hSw
    go_simp
    with_reducible rfl
  simp only [List.setIfInBounds_toArray, List.set_cons_zero, List.set_cons_succ]
  refine wpAnyH_ready (rs := [1]) (by kernel_rfl) (by simp) ?_
  refine AllReadyH.cons rfl (fun K hK => ?_) AllReadyH.nil
  go_simp
  go_wp2_with (go_at_call 61; refine (HS.out _ (by exact hHeld)).mono ?_; rintro e wb ⟨rfl, b8⟩)
  refine hK.out _ _ (b8) (fun hHeld => ?_)
  clear hK K
  refine held_take (i := 4) (d := 7) (v := ?v4) rfl rfl (by kernel_rfl) (by kernel_rfl) (by kernel_rfl) (fun _ _ _ h => h) (Or.inl ⟨by kernel_rfl, ?hy4⟩) hHeld ?rest4
  case hy4 =>
    intro wx hSw
    clear hSw
    go_simp
    with_reducible rfl
  simp only [List.setIfInBounds_toArray, List.set_cons_zero, List.set_cons_succ]
  refine wpAnyH_ready (rs := [5]) (by kernel_rfl) (by simp) ?_
  refine AllReadyH.cons rfl (fun K hK => ?_) AllReadyH.nil
  go_simp
  refine hK.out _ _ hHeld (fun hHeld => ?_)
  clear hK K
  refine wpAnyH_done (by kernel_rfl) ?_ _
  go_wp2
  go_ret
  exact ⟨rfl, b1.trans (hHeld.mono b1.size)⟩

set_option maxRecDepth 100000 in
set_option maxHeartbeats 2000000 in
theorem ConfBlocks_any (c : Cfg) (n : Int) (w : World) :
    Calls Tryd.prog 53 #[.agg #[.int .i64 c.cB, .int .i64 c.cBeam, .int .i64 c.cDepth, .int .i64 c.cWin, .int .i64 c.cQs, .int .i64 c.cQr, .int .i64 c.cBatch, .int .i64 c.cPass, .int .i64 c.cMsg, .int .i64 c.cSeqs], .int .i64 n] w fun e w' => e = .returned (.int .i64 (blocksA c n)) ∧ Below w.heap.size w w' := by
  have b1 : Below w.heap.size w (w.alloc (.cells #[.int .i64 c.cB, .int .i64 c.cBeam, .int .i64 c.cDepth, .int .i64 c.cWin, .int .i64 c.cQs, .int .i64 c.cQr, .int .i64 c.cBatch, .int .i64 c.cPass, .int .i64 c.cMsg, .int .i64 c.cSeqs] 23)) := (Below.refl w.heap.size w).alloc (Nat.le_refl _) _
  have H1 := ConfCheck_any c (w.alloc (.cells #[.int .i64 c.cB, .int .i64 c.cBeam, .int .i64 c.cDepth, .int .i64 c.cWin, .int .i64 c.cQs, .int .i64 c.cQr, .int .i64 c.cBatch, .int .i64 c.cPass, .int .i64 c.cMsg, .int .i64 c.cSeqs] 23))
  unfold blocksA
  unfold checkA at H1
  by_cases h0 : okC c = true
  · rw [if_pos h0] at H1
    have x1 := Box.new w 23 #[.int .i64 c.cB, .int .i64 c.cBeam, .int .i64 c.cDepth, .int .i64 c.cWin, .int .i64 c.cQs, .int .i64 c.cQr, .int .i64 c.cBatch, .int .i64 c.cPass, .int .i64 c.cMsg, .int .i64 c.cSeqs]
    have H2 : Hid (∀ wx : World, Calls Tryd.prog 59 #[.int .i64 0, .int .i64 n, .int .i64 200] wx fun e w' => e = .returned (.bool (inC n 0 200)) ∧ wx = w') := fun wx => confFrom_any 0 n 200 wx
    by_cases hn : 0 ≤ n ∧ n ≤ 200
    · rw [if_pos ⟨h0, hn⟩]
      rw [(inC_iff n 0 200).2 hn] at H2
      have hb := ((okC_iff c).1 h0).1
      obtain ⟨D, hD⟩ : ∃ D, (n + c.cB - 1) / c.cB = D := ⟨_, rfl⟩
      have HD : Hid (blocksC c n = max 1 D) := by show blocksC c n = max 1 D; rw [← hD]; unfold blocksC; omega
      have H3 : Hid (∀ wx : World, Calls Tryd.prog 71 #[.int .i64 n, .int .i64 c.cB] wx fun e w' => e = .returned (.int .i64 D) ∧ wx = w') := fun wx => confParts_any n c.cB D hn.1 (by omega) hb.1 (by omega) hD wx
      rw [HD.out]
      clear h0 hn hb hD HD
      go_enter Tryd.func53, Tryd.ntmps53
      go_wp2_with fail
      refine H1.mono ?_
      rintro e w2 ⟨rfl, b2⟩
      have x2 := x1.next b2
      have k0 := x2.cell 0 _ rfl
      clear x1 x2
      go_wp2_with fail
      refine (H2.out _).mono ?_
      rintro e w3 ⟨rfl, rfl⟩
      go_wp2_with fail
      refine (H3.out _).mono ?_
      rintro e w3 ⟨rfl, rfl⟩
      go_wp2
      go_ret
      exact ⟨rfl, b1.trans (b2.mono (by simp))⟩
    · rw [if_neg (fun h => hn h.2)]
      rw [inC_no hn] at H2
      clear h0 hn
      go_enter Tryd.func53, Tryd.ntmps53
      go_wp2_with fail
      refine H1.mono ?_
      rintro e w2 ⟨rfl, b2⟩
      go_wp2_with fail
      refine (H2.out _).mono ?_
      rintro e w3 ⟨rfl, rfl⟩
      go_wp2
      go_ret
      exact ⟨rfl, b1.trans (b2.mono (by simp))⟩
  · rw [if_neg h0] at H1
    rw [if_neg (fun h => h0 h.1)]
    clear h0
    go_enter Tryd.func53, Tryd.ntmps53
    go_wp2_with fail
    refine H1.mono ?_
    rintro e w2 ⟨rfl, b2⟩
    go_wp2
    go_ret
    exact ⟨rfl, b1.trans (b2.mono (by simp))⟩

end Go.Proofs.YtmjidhnlofpliaaDoor
