/-
  xor, and, of the machine's signed numbers that are not below 0, as those of natural numbers. No program is spoken of.
-/
import Derived.Test.YtmjidhnlofpliabM01
import Derived.Test.YtmjidhnlofpliabM04
import Derived.BigQuiet
import Derived.Deep.QuietTactic
import Derived.Laws.BitsLemmas
import Derived.WalkLawsBesides
import Derived.WalkSpells
namespace Go.Proofs.Ytmjidhnlofpliab

end Go.Proofs.Ytmjidhnlofpliab

/-
  xor, and, or of the machine's unsigned numbers as those of natural numbers. No program is spoken of.
-/
namespace Go.Proofs.Ytmjidhnlofpliab

theorem zu32_wrap (n : Int) (h0 : 0 ≤ n) (h1 : n < 2 ^ 32) : IntKind.u32.wrap n = n := by
  have e : (2 : Int) ^ 32 = 4294967296 := by decide
  rw [e] at h1; rw [IntKind.wrap_u32]; omega
theorem zu8_wrap (n : Int) (h0 : 0 ≤ n) (h1 : n < 2 ^ 8) : IntKind.u8.wrap n = n := by
  have e : (2 : Int) ^ 8 = 256 := by decide
  rw [e] at h1; rw [IntKind.wrap_u8]; omega
theorem zu32_xor (a b : Nat) (ha : a < 4294967296) (hb : b < 4294967296) : bits .xor .u32 (a : Int) (b : Int) = ((a ^^^ b : Nat) : Int) := by
  have e : ∀ n : Nat, n < 4294967296 → (BitVec.ofInt 32 (n : Int)).toNat = n := fun n h => by
    rw [BitVec.ofInt_natCast, BitVec.toNat_ofNat]; exact Nat.mod_eq_of_lt (by omega)
  have hx : a ^^^ b < 2 ^ 32 := Nat.xor_lt_two_pow ha hb
  show IntKind.u32.wrap ((BitVec.ofInt 32 (a : Int) ^^^ BitVec.ofInt 32 (b : Int)).toNat : Int) = _
  rw [BitVec.toNat_xor, e a ha, e b hb]
  exact zu32_wrap _ (by omega) (by exact_mod_cast hx)
theorem zu32_or (a b : Nat) (ha : a < 4294967296) (hb : b < 4294967296) : bits .or .u32 (a : Int) (b : Int) = ((a ||| b : Nat) : Int) := by
  have e : ∀ n : Nat, n < 4294967296 → (BitVec.ofInt 32 (n : Int)).toNat = n := fun n h => by
    rw [BitVec.ofInt_natCast, BitVec.toNat_ofNat]; exact Nat.mod_eq_of_lt (by omega)
  have hx : a ||| b < 2 ^ 32 := Nat.or_lt_two_pow ha hb
  show IntKind.u32.wrap ((BitVec.ofInt 32 (a : Int) ||| BitVec.ofInt 32 (b : Int)).toNat : Int) = _
  rw [BitVec.toNat_or, e a ha, e b hb]
  exact zu32_wrap _ (by omega) (by exact_mod_cast hx)
end Go.Proofs.Ytmjidhnlofpliab

/-
  Texts of bytes and their sums as numbers: bits, sums, seals. No function of the program is spoken of.
-/
namespace Go.Proofs.Ytmjidhnlofpliab
open Go.RowKit

theorem shift32_num (r b : Nat) (hb : b < 2) : m32 (r ^^^ b) = r / 2 ^^^ (if r % 2 = b then 0 else 3988292384) := by
  unfold m32
  rw [half_xor, parity_xor, show b / 2 = 0 by omega, Nat.xor_zero]
  congr 1
  have h2 := Nat.mod_two_eq_zero_or_one r
  by_cases h : r % 2 = b
  · rw [if_pos h, if_neg (by omega)]
  · rw [if_neg h, if_pos (by omega)]

def textLow (xs : List Int) : List Nat := xs.flatMap fun z => lows z.toNat

theorem textLow_01 (xs : List Int) : Bits01 (textLow xs) := fun b hb => by
  obtain ⟨z, _, h⟩ := List.mem_flatMap.1 hb
  exact lows_01 _ b h
theorem lows_get (b j : Nat) (hj : j < 8) : (lows b)[j]? = some (b / 2 ^ j % 2) := by
  match j, hj with
  | 0, _ => simp [lows]
  | 1, _ => rfl
  | 2, _ => rfl
  | 3, _ => rfl
  | 4, _ => rfl
  | 5, _ => rfl
  | 6, _ => rfl
  | 7, _ => rfl

theorem feed32_snoc (r : Nat) (l : List Nat) (b : Nat) : feed32 r (l ++ [b]) = m32 (feed32 r l ^^^ b) := by rw [feed32_append]; rfl

def reg32 (xs : List Int) : Nat := feed32 4294967295 (textLow xs)
def sum32 (xs : List Int) : Nat := reg32 xs ^^^ 4294967295

theorem reg32_lt (xs : List Int) : reg32 xs < 4294967296 := feed32_lt _ (by decide) (textLow_01 xs)
theorem sum32_lt (xs : List Int) : sum32 xs < 4294967296 := xor_lt (k := 32) (reg32_lt xs) (by decide)

theorem textLow_next {xs : List Int} {k : Nat} {z : Int} (hz : xs[k]? = some z) : textLow (xs.take (k + 1)) = textLow (xs.take k) ++ lows z.toNat := by
  rw [List.take_add_one, hz, Option.toList_some]
  unfold textLow
  rw [List.flatMap_append]
  simp

/-- A number's four bytes, the lowest first; a text, sealed. -/
def four (s : Nat) : List Int := [((s % 256 : Nat) : Int), ((s / 256 % 256 : Nat) : Int), ((s / 65536 % 256 : Nat) : Int), ((s / 16777216 % 256 : Nat) : Int)]
def sealL (xs : List Int) : List Int := xs ++ four (sum32 xs)

theorem four_bd (s : Nat) : ∀ z ∈ four s, 0 ≤ z ∧ z ≤ 255 := fun z hz => by
  simp [four] at hz
  omega

/-- Is it sealed? -/
def isSealed (xs : List Int) : Bool := decide (4 ≤ xs.length) && decide (sealL (xs.take (xs.length - 4)) = xs)

theorem holds_takeB {kd : IntKind} {n₀ cap : Nat} {w : World} {a : Option Addr} {zs : List Int} (h : Holds kd n₀ w (.slice a zs.length cap) zs) (k : Nat) (hk : k ≤ zs.length) : Holds kd n₀ w (.slice a (zs.take k).length cap) (zs.take k) := by
  rcases h with ⟨⟨a', c', e, ha⟩, hz⟩ | ⟨b, off, c', e, hb, hc⟩
  · subst hz
    cases e
    exact .inl ⟨⟨_, _, by simp, ha⟩, by simp⟩
  · cases e
    refine .inr ⟨b, off, cap, rfl, hb, fun j hj => ?_⟩
    rw [List.length_take] at hj
    rw [hc j (by omega), List.getElem?_take, if_pos (by omega)]

end Go.Proofs.Ytmjidhnlofpliab

/-
  What volutekeep.Ints answers, for every two lists in memory: whether they are the same; the world is as it was but for draws.
-/
namespace Go.Proofs.Ytmjidhnlofpliab
open Go.RowKit

end Go.Proofs.Ytmjidhnlofpliab
