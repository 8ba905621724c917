/-
  Plain facts on numbers: how many of a number's lowest bits are 1 ('pcTo k n'), by parts, with one bit more or less. No program is spoken of.
-/
import Derived.Laws.BitsLemmas
import Derived.Lib.BitFns
namespace Go.Proofs.YtmjidhnlofpliaaDoor

/-- How many of n's k lowest bits are 1. -/
def pcTo : Nat → Nat → Nat
  | 0, _ => 0
  | k + 1, n => pcTo k n + (n.testBit k).toNat

/-! ### Bits of the machine's numbers, where none is below 0 -/

theorem wraps_i64 (n : Int) (h0 : 0 ≤ n) (h1 : n < 2 ^ 63) : IntKind.i64.wrap n = n := by
  have e : (2 : Int) ^ 63 = 9223372036854775808 := by decide
  rw [e] at h1; rw [IntKind.wrap_i64]; omega

theorem i64_mask (i : Nat) (hi : i ≤ 63) (x : Int) (h0 : 0 ≤ x) (h1 : x < 2 ^ 63) : bits .and .i64 x (2 ^ i - 1) = x % 2 ^ i :=
  bits_mask .i64 63 (by decide) wraps_i64 i hi x h0 h1

theorem i64_and15 (x : Int) (h0 : 0 ≤ x) (h1 : x ≤ 9223372036854775807) : bits .and .i64 x 15 = x % 16 := by
  have e63 : (2 : Int) ^ 63 = 9223372036854775808 := by decide
  have e := i64_mask 4 (by decide) x h0 (by rw [e63]; omega)
  simpa using e

end Go.Proofs.YtmjidhnlofpliaaDoor
