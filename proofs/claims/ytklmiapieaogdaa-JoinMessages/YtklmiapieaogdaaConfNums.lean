/-
  Configurations as numbers: which may be, what they make. No function of the program is spoken of. (Written by tpl_conf.py.)
-/
import Derived.Test.YtklmiapieaogdaaMem
namespace Go.Proofs.Ytklmiapieaogdaa
open Go.RowKit

/-- A configuration. -/
structure Cfg where
  cB : Int
  cBeam : Int
  cDepth : Int
  cWin : Int
  cQs : Int
  cQr : Int
  cBatch : Int
  cPass : Int
  cMsg : Int
  cSeqs : Int

def inC (n lo hi : Int) : Bool := decide (lo ≤ n) && decide (n ≤ hi)
theorem inC_iff (n lo hi : Int) : inC n lo hi = true ↔ lo ≤ n ∧ n ≤ hi := by simp [inC]
theorem inC_no {n lo hi : Int} (h : ¬ (lo ≤ n ∧ n ≤ hi)) : inC n lo hi = false := by rw [← Bool.not_eq_true, inC_iff]; exact h
/-- May it be? -/
def okC (c : Cfg) : Bool := inC c.cB 1 16 && inC c.cBeam 1 16 && inC c.cDepth 1 3 && inC c.cWin 1 16 && inC c.cQs 1 16 && inC c.cQr 1 16 && inC c.cBatch 1 64 && inC c.cPass 4 16 && inC c.cMsg 0 200 && inC c.cSeqs 0 1073741824
theorem okC_iff (c : Cfg) : okC c = true ↔ (1 ≤ c.cB ∧ c.cB ≤ 16) ∧ (1 ≤ c.cBeam ∧ c.cBeam ≤ 16) ∧ (1 ≤ c.cDepth ∧ c.cDepth ≤ 3) ∧ (1 ≤ c.cWin ∧ c.cWin ≤ 16) ∧ (1 ≤ c.cQs ∧ c.cQs ≤ 16) ∧ (1 ≤ c.cQr ∧ c.cQr ≤ 16) ∧ (1 ≤ c.cBatch ∧ c.cBatch ≤ 64) ∧ (4 ≤ c.cPass ∧ c.cPass ≤ 16) ∧ (0 ≤ c.cMsg ∧ c.cMsg ≤ 200) ∧ (0 ≤ c.cSeqs ∧ c.cSeqs ≤ 1073741824) := by
  simp only [okC, Bool.and_eq_true, inC_iff]
  omega
def segsC (c : Cfg) : Int := 2 * (c.cB + 10)
def mostC (c : Cfg) : Int := segsC c * c.cPass
def blocksC (c : Cfg) (n : Int) : Int := max ((n + c.cB - 1) / c.cB) 1
def ticksC (c : Cfg) : Int := (mostC c + c.cBatch - 1) / c.cBatch
def cyclesC (c : Cfg) (n : Int) : Int := (n + 1) * (3 * ticksC c + 2)
/-- What the calls answer, right or not. -/
def segsA (c : Cfg) : Int := if okC c then segsC c else 0
def mostA (c : Cfg) : Int := if okC c then mostC c else 0
def blocksA (c : Cfg) (n : Int) : Int := if okC c = true ∧ 0 ≤ n ∧ n ≤ 200 then blocksC c n else 0
def ticksA (c : Cfg) : Int := if okC c then ticksC c else 0
def cyclesA (c : Cfg) (n : Int) : Int := if okC c = true ∧ 0 ≤ n ∧ n ≤ 2000 then cyclesC c n else 0
def checkA (c : Cfg) : Int := if okC c then 0 else 1

theorem segsC_bd {c : Cfg} (h : okC c = true) : 22 ≤ segsC c ∧ segsC c ≤ 52 := by
  have := (okC_iff c).1 h
  unfold segsC; omega
theorem mostC_bd {c : Cfg} (h : okC c = true) : 88 ≤ mostC c ∧ mostC c ≤ 832 := by
  have h1 := segsC_bd h
  have h2 := ((okC_iff c).1 h).2.2.2.2.2.2.2.1
  unfold mostC
  have a1 : 22 * c.cPass ≤ segsC c * c.cPass := Int.mul_le_mul_of_nonneg_right h1.1 (by omega)
  have a2 : segsC c * c.cPass ≤ 52 * c.cPass := Int.mul_le_mul_of_nonneg_right h1.2 (by omega)
  omega
theorem ceil_bd {x d : Int} (hx : 0 < x) (hd : 1 ≤ d) : 1 ≤ (x + d - 1) / d ∧ (x + d - 1) / d ≤ x ∧ x ≤ (x + d - 1) / d * d ∧ ((x + d - 1) / d - 1) * d < x := by
  have h1 := Int.emod_add_mul_ediv (x + d - 1) d
  have h2 := Int.emod_nonneg (x + d - 1) (show d ≠ 0 by omega)
  have h3 := Int.emod_lt_of_pos (x + d - 1) (show 0 < d by omega)
  generalize (x + d - 1) % d = r at h1 h2 h3
  generalize (x + d - 1) / d = q at h1
  have e1 : q * d = d * q := Int.mul_comm _ _
  have e2 : (q - 1) * d = d * q - d := by rw [Int.sub_mul, Int.one_mul, e1]
  have hq0 : 1 ≤ q := by
    refine Int.not_lt.1 fun hlt => ?_
    have : d * q ≤ d * 0 := Int.mul_le_mul_of_nonneg_left (by omega) (by omega)
    omega
  have hqx : q ≤ x := by
    refine Int.not_lt.1 fun hlt => ?_
    have a1 : d * (x + 1) ≤ d * q := Int.mul_le_mul_of_nonneg_left (by omega) (by omega)
    have a2 : d * (x + 1) = d * x + d := by rw [Int.mul_add, Int.mul_one]
    have a3 : 1 * x ≤ d * x := Int.mul_le_mul_of_nonneg_right hd (by omega)
    omega
  omega
theorem ticksC_bd {c : Cfg} (h : okC c = true) : 1 ≤ ticksC c ∧ ticksC c ≤ 832 ∧ mostC c ≤ ticksC c * c.cBatch ∧ (ticksC c - 1) * c.cBatch < mostC c := by
  have h1 := mostC_bd h
  have h2 := ((okC_iff c).1 h).2.2.2.2.2.2.1
  have := ceil_bd (x := mostC c) (d := c.cBatch) (by omega) h2.1
  unfold ticksC
  omega
theorem blocksC_bd {c : Cfg} (h : okC c = true) {n : Int} (h0 : 0 ≤ n) (h1 : n ≤ 200) : 1 ≤ blocksC c n ∧ blocksC c n ≤ 200 ∧ n ≤ blocksC c n * c.cB ∧ (1 < blocksC c n → (blocksC c n - 1) * c.cB < n) := by
  have h2 := ((okC_iff c).1 h).1
  unfold blocksC
  by_cases hn : n = 0
  · subst hn
    have e : (0 + c.cB - 1) / c.cB = 0 := Int.ediv_eq_zero_of_lt (by omega) (by omega)
    rw [e, show max (0 : Int) 1 = 1 from rfl]
    omega
  · have := ceil_bd (x := n) (d := c.cB) (by omega) h2.1
    rw [show max ((n + c.cB - 1) / c.cB) 1 = (n + c.cB - 1) / c.cB by omega]
    omega
theorem cyclesC_bd {c : Cfg} (h : okC c = true) {n : Int} (h0 : 0 ≤ n) (h1 : n ≤ 2000) : 0 ≤ cyclesC c n ∧ cyclesC c n ≤ 4998998 := by
  have ht := ticksC_bd h
  unfold cyclesC
  have a1 : (n + 1) * (3 * ticksC c + 2) ≤ (n + 1) * 2498 := Int.mul_le_mul_of_nonneg_left (by omega) (by omega)
  have a0 : 0 ≤ (n + 1) * (3 * ticksC c + 2) := Int.mul_nonneg (by omega) (by omega)
  omega
theorem cyclesC_next (c : Cfg) (n : Int) : cyclesC c (n + 1) - cyclesC c n = 3 * ticksC c + 2 := by
  unfold cyclesC
  rw [show n + 1 + 1 = (n + 1) + 1 from rfl, Int.add_mul (n + 1) 1, Int.one_mul]
  omega
theorem cyclesC_zero (c : Cfg) : cyclesC c 0 = 3 * ticksC c + 2 := by unfold cyclesC; rw [Int.zero_add, Int.one_mul]

end Go.Proofs.Ytklmiapieaogdaa
