/-
  What crc.behind16, behind32, isLong, sum32, Sum16, Sum32 answer, for every text in memory.
-/
import Derived.Test.YthpbiccgjpocaaaCrcDefs
import Derived.Test.YthpbiccgjpocaaaSteps
import Derived.Laws.BitsAllLaws
import Derived.WalkSpells
import Derived.WalkLawsBesides
import Derived.Deep.QuietTactic
import Derived.BigQuiet
namespace Go.Proofs.Ythpbiccgjpocaaa
open Go.RowKit

theorem zu16_wrap (n : Int) (h0 : 0 ≤ n) (h1 : n < 2 ^ 16) : IntKind.u16.wrap n = n := by
  have e : (2 : Int) ^ 16 = 65536 := by decide
  rw [e] at h1; rw [IntKind.wrap_u16]; omega
theorem zu32_wrap (n : Int) (h0 : 0 ≤ n) (h1 : n < 2 ^ 32) : IntKind.u32.wrap n = n := by
  have e : (2 : Int) ^ 32 = 4294967296 := by decide
  rw [e] at h1; rw [IntKind.wrap_u32]; omega
theorem zu8_wrap (n : Int) (h0 : 0 ≤ n) (h1 : n < 2 ^ 8) : IntKind.u8.wrap n = n := by
  have e : (2 : Int) ^ 8 = 256 := by decide
  rw [e] at h1; rw [IntKind.wrap_u8]; omega

theorem zu16_xor (a b : Nat) (ha : a < 65536) (hb : b < 65536) : bits .xor .u16 (a : Int) (b : Int) = ((a ^^^ b : Nat) : Int) := by
  have e : ∀ n : Nat, n < 65536 → (BitVec.ofInt 16 (n : Int)).toNat = n := fun n h => by
    rw [BitVec.ofInt_natCast, BitVec.toNat_ofNat]; exact Nat.mod_eq_of_lt (by omega)
  have hx : a ^^^ b < 2 ^ 16 := Nat.xor_lt_two_pow ha hb
  show IntKind.u16.wrap ((BitVec.ofInt 16 (a : Int) ^^^ BitVec.ofInt 16 (b : Int)).toNat : Int) = _
  rw [BitVec.toNat_xor, e a ha, e b hb]
  exact zu16_wrap _ (by omega) (by exact_mod_cast hx)
theorem zu32_xor (a b : Nat) (ha : a < 4294967296) (hb : b < 4294967296) : bits .xor .u32 (a : Int) (b : Int) = ((a ^^^ b : Nat) : Int) := by
  have e : ∀ n : Nat, n < 4294967296 → (BitVec.ofInt 32 (n : Int)).toNat = n := fun n h => by
    rw [BitVec.ofInt_natCast, BitVec.toNat_ofNat]; exact Nat.mod_eq_of_lt (by omega)
  have hx : a ^^^ b < 2 ^ 32 := Nat.xor_lt_two_pow ha hb
  show IntKind.u32.wrap ((BitVec.ofInt 32 (a : Int) ^^^ BitVec.ofInt 32 (b : Int)).toNat : Int) = _
  rw [BitVec.toNat_xor, e a ha, e b hb]
  exact zu32_wrap _ (by omega) (by exact_mod_cast hx)
theorem zu8_and1 (a : Nat) (ha : a < 256) : bits .and .u8 (a : Int) 1 = ((a % 2 : Nat) : Int) := by
  have h1 : (a : Int) < 2 ^ 8 := by exact_mod_cast ha
  have := bits_mask .u8 8 (by decide) zu8_wrap 1 (by omega) a (by omega) h1
  simpa using this
theorem zu32_and1 (a : Nat) (ha : a < 4294967296) : bits .and .u32 (a : Int) 1 = ((a % 2 : Nat) : Int) := by
  have h1 : (a : Int) < 2 ^ 32 := by exact_mod_cast ha
  have := bits_mask .u32 32 (by decide) zu32_wrap 1 (by omega) a (by omega) h1
  simpa using this

theorem highs_next (x k : Nat) (hk : k < 8) : (highs x).take (k + 1) = (highs x).take k ++ [x / 2 ^ (7 - k) % 2] := by
  rw [List.take_add_one, highs_get x k hk]; rfl
theorem lows_next (x k : Nat) (hk : k < 8) : (lows x).take (k + 1) = (lows x).take k ++ [x / 2 ^ k % 2] := by
  rw [List.take_add_one, lows_get x k hk]; rfl

theorem textHigh_next1 {xs : List Int} {k : Nat} {z : Int} (hz : xs[k]? = some z) : textHigh (xs.take (k + 1)) = textHigh (xs.take k) ++ highs z.toNat := by
  rw [List.take_add_one, hz, Option.toList_some]
  unfold textHigh
  rw [List.flatMap_append]
  simp

end Go.Proofs.Ythpbiccgjpocaaa
