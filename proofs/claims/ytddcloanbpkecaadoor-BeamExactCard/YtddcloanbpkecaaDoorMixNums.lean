/-
  The mixer as numbers: what is mixed is turned back. No program is spoken of.
-/
import Derived.Test.YtddcloanbpkecaaDoorWordBits
namespace Go.Proofs.YtddcloanbpkecaaDoor

def xs16 (x : Nat) : Nat := x ^^^ x / 65536
def xs15 (x : Nat) : Nat := x ^^^ x / 32768
def un15 (x : Nat) : Nat := x ^^^ x / 32768 ^^^ x / 1073741824
def mul32 (k x : Nat) : Nat := x * k % 4294967296

/-- Mixed; turned back. -/
def mixN (x : Nat) : Nat := xs16 (mul32 2221713035 (xs15 (mul32 2146121005 (xs16 x))))
def backN (x : Nat) : Nat := xs16 (mul32 493478565 (un15 (mul32 1124208931 (xs16 x))))

theorem xshift (a b k : Nat) : (a ^^^ b) / 2 ^ k = a / 2 ^ k ^^^ b / 2 ^ k := by
  rw [← Nat.shiftRight_eq_div_pow, ← Nat.shiftRight_eq_div_pow, ← Nat.shiftRight_eq_div_pow, Nat.shiftRight_xor_distrib]

theorem div_small {x k : Nat} (hx : x < 4294967296) : x / k < 4294967296 := Nat.lt_of_le_of_lt (Nat.div_le_self _ _) hx
theorem xs16_lt {x : Nat} (hx : x < 4294967296) : xs16 x < 4294967296 := xorlt32 hx (div_small hx)
theorem xs15_lt {x : Nat} (hx : x < 4294967296) : xs15 x < 4294967296 := xorlt32 hx (div_small hx)
theorem un15_lt {x : Nat} (hx : x < 4294967296) : un15 x < 4294967296 := xorlt32 (xorlt32 hx (div_small hx)) (div_small hx)
theorem mul32_lt (k x : Nat) : mul32 k x < 4294967296 := Nat.mod_lt _ (by decide)
theorem mixN_lt (x : Nat) : mixN x < 4294967296 := xs16_lt (mul32_lt _ _)
theorem backN_lt (x : Nat) : backN x < 4294967296 := xs16_lt (mul32_lt _ _)

theorem xs16_twice {x : Nat} (hx : x < 4294967296) : xs16 (xs16 x) = x := by
  unfold xs16
  have h := xshift x (x / 65536) 16
  rw [show (2 : Nat) ^ 16 = 65536 by rfl] at h
  rw [h, show x / 65536 / 65536 = 0 by omega, Nat.xor_zero, Nat.xor_assoc, Nat.xor_self, Nat.xor_zero]

theorem un15_xs15 {x : Nat} (hx : x < 4294967296) : un15 (xs15 x) = x := by
  unfold un15 xs15
  have h := xshift x (x / 32768) 15
  have g := xshift x (x / 32768) 30
  rw [show (2 : Nat) ^ 15 = 32768 by rfl] at h
  rw [show (2 : Nat) ^ 30 = 1073741824 by rfl] at g
  rw [h, g, show x / 32768 / 32768 = x / 1073741824 by omega, show x / 32768 / 1073741824 = 0 by omega, Nat.xor_zero]
  generalize x / 32768 = a
  generalize x / 1073741824 = b
  rw [Nat.xor_assoc x a, ← Nat.xor_assoc a a b, Nat.xor_self, Nat.zero_xor, Nat.xor_assoc, Nat.xor_self, Nat.xor_zero]

theorem xs15_un15 {x : Nat} (hx : x < 4294967296) : xs15 (un15 x) = x := by
  unfold un15 xs15
  have h := xshift (x ^^^ x / 32768) (x / 1073741824) 15
  have g := xshift x (x / 32768) 15
  rw [show (2 : Nat) ^ 15 = 32768 by rfl] at h g
  rw [h, g, show x / 32768 / 32768 = x / 1073741824 by omega, show x / 1073741824 / 32768 = 0 by omega, Nat.xor_zero]
  generalize x / 32768 = a
  generalize x / 1073741824 = b
  rw [Nat.xor_assoc x a b, Nat.xor_assoc x, Nat.xor_self, Nat.xor_zero]

theorem mul32_mul32 (k j x : Nat) (hx : x < 4294967296) (h : k * j % 4294967296 = 1) : mul32 j (mul32 k x) = x := by
  unfold mul32
  rw [Nat.mod_mul_mod, Nat.mul_assoc, Nat.mul_mod, h, Nat.mul_one, Nat.mod_mod, Nat.mod_eq_of_lt hx]

theorem back_mix {x : Nat} (hx : x < 4294967296) : backN (mixN x) = x := by
  unfold backN mixN
  rw [xs16_twice (mul32_lt _ _), mul32_mul32 _ _ _ (xs15_lt (mul32_lt _ _)) (by decide), un15_xs15 (mul32_lt _ _), mul32_mul32 _ _ _ (xs16_lt hx) (by decide), xs16_twice hx]
theorem mix_back {x : Nat} (hx : x < 4294967296) : mixN (backN x) = x := by
  unfold backN mixN
  rw [xs16_twice (mul32_lt _ _), mul32_mul32 _ _ _ (un15_lt (mul32_lt _ _)) (by decide), xs15_un15 (mul32_lt _ _), mul32_mul32 _ _ _ (xs16_lt hx) (by decide), xs16_twice hx]
theorem mix_inj {x y : Nat} (hx : x < 4294967296) (hy : y < 4294967296) (h : mixN x = mixN y) : x = y := by
  rw [← back_mix hx, ← back_mix hy, h]
theorem back_inj {x y : Nat} (hx : x < 4294967296) (hy : y < 4294967296) (h : backN x = backN y) : x = y := by
  rw [← mix_back hx, ← mix_back hy, h]

theorem mix_eq {x y : Nat} (hx : x < 4294967296) (hy : y < 4294967296) : ((mixN x : Int) == (mixN y : Int)) = ((x : Int) == (y : Int)) := by
  by_cases h : x = y
  · subst h; simp
  · have : mixN x ≠ mixN y := fun e => h (mix_inj hx hy e)
    rw [beq_eq_false_iff_ne.2 (show (x : Int) ≠ y by omega), beq_eq_false_iff_ne]
    omega
theorem back_eq {x y : Nat} (hx : x < 4294967296) (hy : y < 4294967296) : ((backN x : Int) == (backN y : Int)) = ((x : Int) == (y : Int)) := by
  by_cases h : x = y
  · subst h; simp
  · have : backN x ≠ backN y := fun e => h (back_inj hx hy e)
    rw [beq_eq_false_iff_ne.2 (show (x : Int) ≠ y by omega), beq_eq_false_iff_ne]
    omega

theorem mix_one : mixN 1 ≠ 0 := by decide +kernel

end Go.Proofs.YtddcloanbpkecaaDoor
