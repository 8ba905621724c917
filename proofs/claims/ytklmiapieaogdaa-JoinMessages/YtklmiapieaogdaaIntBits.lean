/-
  xor, and, of the machine's signed numbers that are not below 0, as those of natural numbers. No program is spoken of.
-/
import Derived.Laws.BitsLemmas
import Derived.Test.YtklmiapieaogdaaMem
namespace Go.Proofs.Ytklmiapieaogdaa

theorem zi_wrap (n : Int) (h0 : 0 ≤ n) (h1 : n < 2 ^ 63) : IntKind.i64.wrap n = n := by
  have e : (2 : Int) ^ 63 = 9223372036854775808 := by decide
  rw [e] at h1; rw [IntKind.wrap_i64]; omega

theorem zi_xor (a b : Nat) (ha : a < 2 ^ 62) (hb : b < 2 ^ 62) : bits .xor .i64 (a : Int) (b : Int) = ((a ^^^ b : Nat) : Int) := by
  have e : ∀ n : Nat, n < 2 ^ 62 → (BitVec.ofInt 64 (n : Int)).toNat = n := fun n h => by
    rw [BitVec.ofInt_natCast, BitVec.toNat_ofNat]; exact Nat.mod_eq_of_lt (by omega)
  have hx : a ^^^ b < 2 ^ 62 := Nat.xor_lt_two_pow ha hb
  show IntKind.i64.wrap ((BitVec.ofInt 64 (a : Int) ^^^ BitVec.ofInt 64 (b : Int)).toNat : Int) = _
  rw [BitVec.toNat_xor, e a ha, e b hb]
  exact zi_wrap _ (by omega) (by
    have : ((a ^^^ b : Nat) : Int) < ((2 ^ 62 : Nat) : Int) := by exact_mod_cast hx
    have e2 : ((2 ^ 62 : Nat) : Int) = 4611686018427387904 := by decide
    have e3 : (2 : Int) ^ 63 = 9223372036854775808 := by decide
    rw [e2] at this
    rw [e3]
    omega)

/-- The lowest i bits. -/
theorem zi_mod (i : Nat) (hi : i ≤ 62) (a : Nat) (ha : a < 2 ^ 62) : bits .and .i64 (a : Int) (2 ^ i - 1) = ((a % 2 ^ i : Nat) : Int) := by
  have h : (a : Int) < 2 ^ 63 := by
    have h1 : (a : Int) < ((2 ^ 62 : Nat) : Int) := by exact_mod_cast ha
    have e2 : ((2 ^ 62 : Nat) : Int) = 4611686018427387904 := by decide
    have e3 : (2 : Int) ^ 63 = 9223372036854775808 := by decide
    rw [e2] at h1
    rw [e3]
    omega
  rw [bits_mask .i64 63 (by decide) zi_wrap i (by omega) a (by omega) h]
  simp

theorem zi_and1 (a : Nat) (ha : a < 2 ^ 62) : bits .and .i64 (a : Int) 1 = ((a % 2 : Nat) : Int) := by
  have := zi_mod 1 (by decide) a ha
  simpa using this
theorem zi_and255 (a : Nat) (ha : a < 2 ^ 62) : bits .and .i64 (a : Int) 255 = ((a % 256 : Nat) : Int) := by
  have := zi_mod 8 (by decide) a ha
  simpa using this
theorem zi_and16 (a : Nat) (ha : a < 2 ^ 62) : bits .and .i64 (a : Int) 65535 = ((a % 65536 : Nat) : Int) := by
  have := zi_mod 16 (by decide) a ha
  simpa using this

end Go.Proofs.Ytklmiapieaogdaa
