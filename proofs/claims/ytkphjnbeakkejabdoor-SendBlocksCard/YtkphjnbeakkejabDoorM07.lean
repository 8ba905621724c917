/-
  xor, and, of the machine's signed numbers that are not below 0, as those of natural numbers. No program is spoken of.
-/
import Derived.Test.YtkphjnbeakkejabDoorM01
import Derived.Laws.BitsLemmas
namespace Go.Proofs.YtkphjnbeakkejabDoor

end Go.Proofs.YtkphjnbeakkejabDoor

/-
  xor, and, or of the machine's unsigned numbers as those of natural numbers. No program is spoken of.
-/
namespace Go.Proofs.YtkphjnbeakkejabDoor

theorem zu32_wrap (n : Int) (h0 : 0 ≤ n) (h1 : n < 2 ^ 32) : IntKind.u32.wrap n = n := by
  have e : (2 : Int) ^ 32 = 4294967296 := by decide
  rw [e] at h1; rw [IntKind.wrap_u32]; omega
theorem zu8_wrap (n : Int) (h0 : 0 ≤ n) (h1 : n < 2 ^ 8) : IntKind.u8.wrap n = n := by
  have e : (2 : Int) ^ 8 = 256 := by decide
  rw [e] at h1; rw [IntKind.wrap_u8]; omega
theorem zu32_mod (n : Nat) : IntKind.u32.wrap (n : Int) = ((n % 4294967296 : Nat) : Int) := by rw [IntKind.wrap_u32]; omega

theorem zu32_xor (a b : Nat) (ha : a < 4294967296) (hb : b < 4294967296) : bits .xor .u32 (a : Int) (b : Int) = ((a ^^^ b : Nat) : Int) := by
  have e : ∀ n : Nat, n < 4294967296 → (BitVec.ofInt 32 (n : Int)).toNat = n := fun n h => by
    rw [BitVec.ofInt_natCast, BitVec.toNat_ofNat]; exact Nat.mod_eq_of_lt (by omega)
  have hx : a ^^^ b < 2 ^ 32 := Nat.xor_lt_two_pow ha hb
  show IntKind.u32.wrap ((BitVec.ofInt 32 (a : Int) ^^^ BitVec.ofInt 32 (b : Int)).toNat : Int) = _
  rw [BitVec.toNat_xor, e a ha, e b hb]
  exact zu32_wrap _ (by omega) (by exact_mod_cast hx)
theorem xorlt32 {a b : Nat} (ha : a < 4294967296) (hb : b < 4294967296) : a ^^^ b < 4294967296 := Nat.xor_lt_two_pow (n := 32) ha hb

end Go.Proofs.YtkphjnbeakkejabDoor

/-
  The mixer as numbers: what is mixed is turned back. No program is spoken of.
-/
namespace Go.Proofs.YtkphjnbeakkejabDoor

def xs16 (x : Nat) : Nat := x ^^^ x / 65536
def xs15 (x : Nat) : Nat := x ^^^ x / 32768
def mul32 (k x : Nat) : Nat := x * k % 4294967296

/-- Mixed; turned back. -/
def mixN (x : Nat) : Nat := xs16 (mul32 2221713035 (xs15 (mul32 2146121005 (xs16 x))))
theorem div_small {x k : Nat} (hx : x < 4294967296) : x / k < 4294967296 := Nat.lt_of_le_of_lt (Nat.div_le_self _ _) hx
theorem xs16_lt {x : Nat} (hx : x < 4294967296) : xs16 x < 4294967296 := xorlt32 hx (div_small hx)
theorem xs15_lt {x : Nat} (hx : x < 4294967296) : xs15 x < 4294967296 := xorlt32 hx (div_small hx)
theorem mul32_lt (k x : Nat) : mul32 k x < 4294967296 := Nat.mod_lt _ (by decide)
theorem mixN_lt (x : Nat) : mixN x < 4294967296 := xs16_lt (mul32_lt _ _)
end Go.Proofs.YtkphjnbeakkejabDoor

/-
  States behind nibbles as numbers. No program is spoken of.
-/
namespace Go.Proofs.YtkphjnbeakkejabDoor

/-- The state at first; one step. -/
def beginN : Nat := 2654435769
def stepN (s n : Nat) : Nat := mixN (s ^^^ n)
theorem stepN_lt (s n : Nat) : stepN s n < 4294967296 := mixN_lt _

/-- Nibbles alone. -/
def Path (zs : List Int) : Prop := ∀ z ∈ zs, 0 ≤ z ∧ z ≤ 15
theorem Path.tail {z : Int} {zs : List Int} (h : Path (z :: zs)) : Path zs := fun x hx => h x (List.mem_cons_of_mem _ hx)
theorem Path.head {z : Int} {zs : List Int} (h : Path (z :: zs)) : 0 ≤ z ∧ z ≤ 15 := h z List.mem_cons_self
theorem Path.take {zs : List Int} (h : Path zs) (k : Nat) : Path (zs.take k) := fun x hx => h x (List.mem_of_mem_take hx)
theorem Path.get {zs : List Int} (h : Path zs) {k : Nat} {z : Int} (e : zs[k]? = some z) : 0 ≤ z ∧ z ≤ 15 := h z (List.mem_of_getElem? e)

/-- The states behind nibbles, from a state on; the last of them. -/
def statesOf (s : Nat) : List Int → List Int
  | [] => []
  | z :: zs => ((stepN s z.toNat : Nat) : Int) :: statesOf (stepN s z.toNat) zs
def lastOf (s : Nat) : List Int → Nat
  | [] => s
  | z :: zs => lastOf (stepN s z.toNat) zs

theorem statesOf_len : ∀ (s : Nat) (zs : List Int), (statesOf s zs).length = zs.length
  | _, [] => rfl
  | s, z :: zs => by rw [statesOf, List.length_cons, List.length_cons, statesOf_len]
theorem lastOf_lt : ∀ {s : Nat} (zs : List Int), s < 4294967296 → lastOf s zs < 4294967296
  | _, [], h => h
  | s, z :: zs, _ => lastOf_lt zs (stepN_lt s z.toNat)
theorem statesOf_append : ∀ (s : Nat) (xs ys : List Int), statesOf s (xs ++ ys) = statesOf s xs ++ statesOf (lastOf s xs) ys
  | _, [], _ => rfl
  | s, z :: xs, ys => by rw [List.cons_append, statesOf, statesOf, statesOf_append, List.cons_append, lastOf]
theorem lastOf_append : ∀ (s : Nat) (xs ys : List Int), lastOf s (xs ++ ys) = lastOf (lastOf s xs) ys
  | _, [], _ => rfl
  | s, z :: xs, ys => by rw [List.cons_append, lastOf, lastOf, lastOf_append]
theorem statesOf_snoc (s : Nat) (xs : List Int) (z : Int) : statesOf s (xs ++ [z]) = statesOf s xs ++ [((stepN (lastOf s xs) z.toNat : Nat) : Int)] := by rw [statesOf_append]; rfl
theorem lastOf_snoc (s : Nat) (xs : List Int) (z : Int) : lastOf s (xs ++ [z]) = stepN (lastOf s xs) z.toNat := by rw [lastOf_append]; rfl
theorem take_snoc {zs : List Int} {k : Nat} {z : Int} (hz : zs[k]? = some z) : zs.take (k + 1) = zs.take k ++ [z] := by rw [List.take_add_one, hz]; rfl
theorem statesOf_take : ∀ (s : Nat) (zs : List Int) (k : Nat), statesOf s (zs.take k) = (statesOf s zs).take k
  | _, [], k => by simp [statesOf]
  | _, _ :: _, 0 => rfl
  | s, z :: zs, k + 1 => by rw [List.take_succ_cons, statesOf, statesOf, List.take_succ_cons, statesOf_take]
/-- The state behind k nibbles and one more. -/
theorem statesOf_get {s : Nat} {zs : List Int} {k : Nat} {z : Int} (hz : zs[k]? = some z) : (statesOf s zs)[k]? = some ((stepN (lastOf s (zs.take k)) z.toNat : Nat) : Int) := by
  have hk := (List.getElem?_eq_some_iff.1 hz).1
  have h := statesOf_take s zs (k + 1)
  rw [take_snoc hz, statesOf_snoc] at h
  have hl : (statesOf s (zs.take k)).length = k := by rw [statesOf_len, List.length_take]; omega
  have h2 : (statesOf s (zs.take k) ++ [((stepN (lastOf s (zs.take k)) z.toNat : Nat) : Int)])[k]? = ((statesOf s zs).take (k + 1))[k]? := by rw [h]
  rw [List.getElem?_append_right (by omega), hl, Nat.sub_self] at h2
  rw [List.getElem?_take, if_pos (by omega)] at h2
  exact h2.symm
/-- The state that a round begins with is the one behind the round ahead. -/
theorem lastOf_take {s : Nat} {zs : List Int} {k : Nat} {z : Int} (hz : zs[k]? = some z) : lastOf s (zs.take (k + 1)) = stepN (lastOf s (zs.take k)) z.toNat := by
  rw [take_snoc hz, lastOf_snoc]
end Go.Proofs.YtkphjnbeakkejabDoor

/-
  Symbols of states as numbers. No program is spoken of.
-/
namespace Go.Proofs.YtkphjnbeakkejabDoor

/-- The symbol of an index. -/
def symN (s i : Nat) : Nat := if i < 4 then s / 2 ^ (8 * i) % 256 else mixN ((s + i * 2654435769) % 4294967296) % 256
theorem symN_lt (s i : Nat) : symN s i < 256 := by
  unfold symN
  split <;> exact Nat.mod_lt _ (by decide)
theorem symN_low {s i : Nat} (h : i < 4) : symN s i = s / 2 ^ (8 * i) % 256 := if_pos h
theorem symN_high {s i : Nat} (h : ¬ i < 4) : symN s i = mixN ((s + i * 2654435769) % 4294967296) % 256 := if_neg h

end Go.Proofs.YtkphjnbeakkejabDoor

/-
  Texts of bytes and their sums as numbers: bits, sums, seals. No function of the program is spoken of.
-/
namespace Go.Proofs.YtkphjnbeakkejabDoor
open Go.RowKit

theorem shift16_num (r b : Nat) (hr : r < 65536) (hb : b < 2) : n16 (r ^^^ b * 32768) = 2 * r % 65536 ^^^ (if r / 32768 = b then 0 else 4129) := by
  have e : n16 (b * 32768) = if b = 1 then 4129 else 0 := by
    obtain rfl | rfl : b = 0 ∨ b = 1 := by omega
    · decide
    · decide
  rw [n16_xor, e]
  unfold n16
  rw [Nat.xor_assoc]
  congr 1
  have h2 : r / 32768 < 2 := by omega
  generalize r / 32768 = t at h2
  obtain rfl | rfl : t = 0 ∨ t = 1 := by omega
  all_goals obtain rfl | rfl : b = 0 ∨ b = 1 := by omega
  all_goals simp

theorem shift32_num (r b : Nat) (hb : b < 2) : m32 (r ^^^ b) = r / 2 ^^^ (if r % 2 = b then 0 else 3988292384) := by
  unfold m32
  rw [half_xor, parity_xor, show b / 2 = 0 by omega, Nat.xor_zero]
  congr 1
  have h2 := Nat.mod_two_eq_zero_or_one r
  by_cases h : r % 2 = b
  · rw [if_pos h, if_neg (by omega)]
  · rw [if_neg h, if_pos (by omega)]

/-- A text's bits, of each byte the highest first; the lowest first. -/
def textHigh (xs : List Int) : List Nat := xs.flatMap fun z => highs z.toNat
def textLow (xs : List Int) : List Nat := xs.flatMap fun z => lows z.toNat

theorem textLow_01 (xs : List Int) : Bits01 (textLow xs) := fun b hb => by
  obtain ⟨z, _, h⟩ := List.mem_flatMap.1 hb
  exact lows_01 _ b h
theorem highs_get (b j : Nat) (hj : j < 8) : (highs b)[j]? = some (b / 2 ^ (7 - j) % 2) := by
  match j, hj with
  | 0, _ => rfl
  | 1, _ => rfl
  | 2, _ => rfl
  | 3, _ => rfl
  | 4, _ => rfl
  | 5, _ => rfl
  | 6, _ => rfl
  | 7, _ => simp [highs]

theorem lows_get (b j : Nat) (hj : j < 8) : (lows b)[j]? = some (b / 2 ^ j % 2) := by
  match j, hj with
  | 0, _ => simp [lows]
  | 1, _ => rfl
  | 2, _ => rfl
  | 3, _ => rfl
  | 4, _ => rfl
  | 5, _ => rfl
  | 6, _ => rfl
  | 7, _ => rfl

theorem feed16_snoc (r : Nat) (l : List Nat) (b : Nat) : feed16 r (l ++ [b]) = n16 (feed16 r l ^^^ b * 32768) := by rw [feed16_append]; rfl
theorem feed32_snoc (r : Nat) (l : List Nat) (b : Nat) : feed32 r (l ++ [b]) = m32 (feed32 r l ^^^ b) := by rw [feed32_append]; rfl

/-- The sums of a text. -/
def sum16 (xs : List Int) : Nat := feed16 65535 (textHigh xs)
def reg32 (xs : List Int) : Nat := feed32 4294967295 (textLow xs)
def sum32 (xs : List Int) : Nat := reg32 xs ^^^ 4294967295

theorem sum16_lt (xs : List Int) : sum16 xs < 65536 := feed16_lt _ (by decide)
theorem reg32_lt (xs : List Int) : reg32 xs < 4294967296 := feed32_lt _ (by decide) (textLow_01 xs)
theorem sum32_lt (xs : List Int) : sum32 xs < 4294967296 := xor_lt (k := 32) (reg32_lt xs) (by decide)

theorem textLow_next {xs : List Int} {k : Nat} {z : Int} (hz : xs[k]? = some z) : textLow (xs.take (k + 1)) = textLow (xs.take k) ++ lows z.toNat := by
  rw [List.take_add_one, hz, Option.toList_some]
  unfold textLow
  rw [List.flatMap_append]
  simp

/-- A number's four bytes, the lowest first; a text, sealed. -/
def four (s : Nat) : List Int := [((s % 256 : Nat) : Int), ((s / 256 % 256 : Nat) : Int), ((s / 65536 % 256 : Nat) : Int), ((s / 16777216 % 256 : Nat) : Int)]
def sealL (xs : List Int) : List Int := xs ++ four (sum32 xs)

theorem four_bd (s : Nat) : ∀ z ∈ four s, 0 ≤ z ∧ z ≤ 255 := fun z hz => by
  simp [four] at hz
  omega

/-- Is it sealed? -/
def isSealed (xs : List Int) : Bool := decide (4 ≤ xs.length) && decide (sealL (xs.take (xs.length - 4)) = xs)

theorem holds_takeB {kd : IntKind} {n₀ cap : Nat} {w : World} {a : Option Addr} {zs : List Int} (h : Holds kd n₀ w (.slice a zs.length cap) zs) (k : Nat) (hk : k ≤ zs.length) : Holds kd n₀ w (.slice a (zs.take k).length cap) (zs.take k) := by
  rcases h with ⟨⟨a', c', e, ha⟩, hz⟩ | ⟨b, off, c', e, hb, hc⟩
  · subst hz
    cases e
    exact .inl ⟨⟨_, _, by simp, ha⟩, by simp⟩
  · cases e
    refine .inr ⟨b, off, cap, rfl, hb, fun j hj => ?_⟩
    rw [List.length_take] at hj
    rw [hc j (by omega), List.getElem?_take, if_pos (by omega)]

end Go.Proofs.YtkphjnbeakkejabDoor
