/-
  xor, and, of the machine's signed numbers that are not below 0, as those of natural numbers. No program is spoken of.
-/
import Derived.Test.YtmjidhnlofpliaaDoorM01
import Derived.Laws.BitsLemmas
namespace Go.Proofs.YtmjidhnlofpliaaDoor

theorem zi_wrap (n : Int) (h0 : 0 ≤ n) (h1 : n < 2 ^ 63) : IntKind.i64.wrap n = n := by
  have e : (2 : Int) ^ 63 = 9223372036854775808 := by decide
  rw [e] at h1; rw [IntKind.wrap_i64]; omega

theorem zi_xor (a b : Nat) (ha : a < 2 ^ 62) (hb : b < 2 ^ 62) : bits .xor .i64 (a : Int) (b : Int) = ((a ^^^ b : Nat) : Int) := by
  have e : ∀ n : Nat, n < 2 ^ 62 → (BitVec.ofInt 64 (n : Int)).toNat = n := fun n h => by
    rw [BitVec.ofInt_natCast, BitVec.toNat_ofNat]; exact Nat.mod_eq_of_lt (by omega)
  have hx : a ^^^ b < 2 ^ 62 := Nat.xor_lt_two_pow ha hb
  show IntKind.i64.wrap ((BitVec.ofInt 64 (a : Int) ^^^ BitVec.ofInt 64 (b : Int)).toNat : Int) = _
  rw [BitVec.toNat_xor, e a ha, e b hb]
  exact zi_wrap _ (by omega) (by
    have : ((a ^^^ b : Nat) : Int) < ((2 ^ 62 : Nat) : Int) := by exact_mod_cast hx
    have e2 : ((2 ^ 62 : Nat) : Int) = 4611686018427387904 := by decide
    have e3 : (2 : Int) ^ 63 = 9223372036854775808 := by decide
    rw [e2] at this
    rw [e3]
    omega)

/-- The lowest i bits. -/
theorem zi_mod (i : Nat) (hi : i ≤ 62) (a : Nat) (ha : a < 2 ^ 62) : bits .and .i64 (a : Int) (2 ^ i - 1) = ((a % 2 ^ i : Nat) : Int) := by
  have h : (a : Int) < 2 ^ 63 := by
    have h1 : (a : Int) < ((2 ^ 62 : Nat) : Int) := by exact_mod_cast ha
    have e2 : ((2 ^ 62 : Nat) : Int) = 4611686018427387904 := by decide
    have e3 : (2 : Int) ^ 63 = 9223372036854775808 := by decide
    rw [e2] at h1
    rw [e3]
    omega
  rw [bits_mask .i64 63 (by decide) zi_wrap i (by omega) a (by omega) h]
  simp

theorem zi_and1 (a : Nat) (ha : a < 2 ^ 62) : bits .and .i64 (a : Int) 1 = ((a % 2 : Nat) : Int) := by
  have := zi_mod 1 (by decide) a ha
  simpa using this
end Go.Proofs.YtmjidhnlofpliaaDoor

/-
  Texts of bytes and their sums as numbers: bits, sums, seals. No function of the program is spoken of.
-/
namespace Go.Proofs.YtmjidhnlofpliaaDoor
open Go.RowKit

theorem shift16_num (r b : Nat) (hr : r < 65536) (hb : b < 2) : n16 (r ^^^ b * 32768) = 2 * r % 65536 ^^^ (if r / 32768 = b then 0 else 4129) := by
  have e : n16 (b * 32768) = if b = 1 then 4129 else 0 := by
    obtain rfl | rfl : b = 0 ∨ b = 1 := by omega
    · decide
    · decide
  rw [n16_xor, e]
  unfold n16
  rw [Nat.xor_assoc]
  congr 1
  have h2 : r / 32768 < 2 := by omega
  generalize r / 32768 = t at h2
  obtain rfl | rfl : t = 0 ∨ t = 1 := by omega
  all_goals obtain rfl | rfl : b = 0 ∨ b = 1 := by omega
  all_goals simp

theorem shift32_num (r b : Nat) (hb : b < 2) : m32 (r ^^^ b) = r / 2 ^^^ (if r % 2 = b then 0 else 3988292384) := by
  unfold m32
  rw [half_xor, parity_xor, show b / 2 = 0 by omega, Nat.xor_zero]
  congr 1
  have h2 := Nat.mod_two_eq_zero_or_one r
  by_cases h : r % 2 = b
  · rw [if_pos h, if_neg (by omega)]
  · rw [if_neg h, if_pos (by omega)]

/-- A text's bits, of each byte the highest first; the lowest first. -/
def textHigh (xs : List Int) : List Nat := xs.flatMap fun z => highs z.toNat
def textLow (xs : List Int) : List Nat := xs.flatMap fun z => lows z.toNat

theorem textLow_01 (xs : List Int) : Bits01 (textLow xs) := fun b hb => by
  obtain ⟨z, _, h⟩ := List.mem_flatMap.1 hb
  exact lows_01 _ b h
theorem highs_get (b j : Nat) (hj : j < 8) : (highs b)[j]? = some (b / 2 ^ (7 - j) % 2) := by
  match j, hj with
  | 0, _ => rfl
  | 1, _ => rfl
  | 2, _ => rfl
  | 3, _ => rfl
  | 4, _ => rfl
  | 5, _ => rfl
  | 6, _ => rfl
  | 7, _ => simp [highs]

theorem lows_get (b j : Nat) (hj : j < 8) : (lows b)[j]? = some (b / 2 ^ j % 2) := by
  match j, hj with
  | 0, _ => simp [lows]
  | 1, _ => rfl
  | 2, _ => rfl
  | 3, _ => rfl
  | 4, _ => rfl
  | 5, _ => rfl
  | 6, _ => rfl
  | 7, _ => rfl

theorem and1_of (z : Int) (j : Nat) (h0 : 0 ≤ z) (h1 : z ≤ 255) : bits .and .i64 (z / 2 ^ j) 1 = ((z.toNat / 2 ^ j % 2 : Nat) : Int) := by
  obtain ⟨n, rfl⟩ := Int.eq_ofNat_of_zero_le h0
  have e : ((n : Nat) : Int) / 2 ^ j = ((n / 2 ^ j : Nat) : Int) := by simp
  have hle : n / 2 ^ j ≤ n := Nat.div_le_self _ _
  rw [e, zi_and1 _ (by omega)]
  rfl

theorem feed16_snoc (r : Nat) (l : List Nat) (b : Nat) : feed16 r (l ++ [b]) = n16 (feed16 r l ^^^ b * 32768) := by rw [feed16_append]; rfl
theorem feed32_snoc (r : Nat) (l : List Nat) (b : Nat) : feed32 r (l ++ [b]) = m32 (feed32 r l ^^^ b) := by rw [feed32_append]; rfl

/-- The sums of a text. -/
def sum16 (xs : List Int) : Nat := feed16 65535 (textHigh xs)
def reg32 (xs : List Int) : Nat := feed32 4294967295 (textLow xs)
def sum32 (xs : List Int) : Nat := reg32 xs ^^^ 4294967295

theorem sum16_lt (xs : List Int) : sum16 xs < 65536 := feed16_lt _ (by decide)
theorem reg32_lt (xs : List Int) : reg32 xs < 4294967296 := feed32_lt _ (by decide) (textLow_01 xs)
theorem sum32_lt (xs : List Int) : sum32 xs < 4294967296 := xor_lt (k := 32) (reg32_lt xs) (by decide)

theorem textLow_next {xs : List Int} {k : Nat} {z : Int} (hz : xs[k]? = some z) : textLow (xs.take (k + 1)) = textLow (xs.take k) ++ lows z.toNat := by
  rw [List.take_add_one, hz, Option.toList_some]
  unfold textLow
  rw [List.flatMap_append]
  simp

/-- A number's four bytes, the lowest first; a text, sealed. -/
def four (s : Nat) : List Int := [((s % 256 : Nat) : Int), ((s / 256 % 256 : Nat) : Int), ((s / 65536 % 256 : Nat) : Int), ((s / 16777216 % 256 : Nat) : Int)]
def sealL (xs : List Int) : List Int := xs ++ four (sum32 xs)

theorem four_bd (s : Nat) : ∀ z ∈ four s, 0 ≤ z ∧ z ≤ 255 := fun z hz => by
  simp [four] at hz
  omega

/-- Is it sealed? -/
def isSealed (xs : List Int) : Bool := decide (4 ≤ xs.length) && decide (sealL (xs.take (xs.length - 4)) = xs)

theorem holds_takeB {kd : IntKind} {n₀ cap : Nat} {w : World} {a : Option Addr} {zs : List Int} (h : Holds kd n₀ w (.slice a zs.length cap) zs) (k : Nat) (hk : k ≤ zs.length) : Holds kd n₀ w (.slice a (zs.take k).length cap) (zs.take k) := by
  rcases h with ⟨⟨a', c', e, ha⟩, hz⟩ | ⟨b, off, c', e, hb, hc⟩
  · subst hz
    cases e
    exact .inl ⟨⟨_, _, by simp, ha⟩, by simp⟩
  · cases e
    refine .inr ⟨b, off, cap, rfl, hb, fun j hj => ?_⟩
    rw [List.length_take] at hj
    rw [hc j (by omega), List.getElem?_take, if_pos (by omega)]

end Go.Proofs.YtmjidhnlofpliaaDoor
