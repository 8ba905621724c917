/-
  Plain facts on numbers: how many of a number's lowest bits are 1 ('pcTo k n'), by parts, with one bit more or less. No program is spoken of.
-/
import Derived.Lib.BitFns
import Derived.Laws.BitsLemmas
namespace Go.Proofs.Ytklmiapieaogdaa

/-- How many of n's k lowest bits are 1. -/
def pcTo : Nat → Nat → Nat
  | 0, _ => 0
  | k + 1, n => pcTo k n + (n.testBit k).toNat

theorem pcTo_succ (k n : Nat) : pcTo (k + 1) n = pcTo k n + (n.testBit k).toNat := rfl

theorem pcTo_le (k n : Nat) : pcTo k n ≤ k := by
  induction k with
  | zero => exact Nat.le_refl _
  | succ k ih => rw [pcTo_succ]; have := Bool.toNat_le (n.testBit k); omega

theorem pcTo_congr (k n m : Nat) (h : ∀ i, i < k → n.testBit i = m.testBit i) : pcTo k n = pcTo k m := by
  induction k with
  | zero => rfl
  | succ k ih => rw [pcTo_succ, pcTo_succ, ih (fun i hi => h i (by omega)), h k (by omega)]

theorem pcTo_add (a b n : Nat) : pcTo (a + b) n = pcTo a n + pcTo b (n >>> a) := by
  induction b with
  | zero => rfl
  | succ b ih => rw [← Nat.add_assoc, pcTo_succ, ih, pcTo_succ, Nat.testBit_shiftRight]; omega

theorem pcTo_mod (k n m : Nat) (h : k ≤ m) : pcTo k (n % 2 ^ m) = pcTo k n :=
  pcTo_congr k _ _ fun i hi => by rw [Nat.testBit_mod_two_pow]; simp; omega

/-- Of noughts above a bit nothing comes. -/
theorem pcTo_low (a k n : Nat) (h : n < 2 ^ a) (hk : a ≤ k) : pcTo k n = pcTo a n := by
  obtain ⟨b, rfl⟩ := Nat.le.dest hk
  rw [pcTo_add, Nat.shiftRight_eq_div_pow, Nat.div_eq_of_lt h]
  have z : ∀ b, pcTo b 0 = 0 := fun b => by
    induction b with
    | zero => rfl
    | succ b ih => rw [pcTo_succ, ih]; simp
  rw [z]; omega

theorem pop8_pc : ∀ n : Fin 256, Lib.pop8 (n.val : Int) = (pcTo 8 n.val : Int) := by decide +kernel

theorem pop8_of (x : Int) (h0 : 0 ≤ x) (h1 : x ≤ 255) : Lib.pop8 x = (pcTo 8 x.toNat : Int) := by
  have e := pop8_pc ⟨x.toNat, by omega⟩
  simp only [Int.toNat_of_nonneg h0] at e
  exact e

/-- The four bytes of a number of 32 bits. -/
theorem pc_bytes (n : Nat) (_h : n < 4294967296) : pcTo 32 n = pcTo 8 (n / 16777216) + pcTo 8 (n / 65536 % 256) + pcTo 8 (n / 256 % 256) + pcTo 8 (n % 256) := by
  rw [show (32 : Nat) = 8 + (8 + (8 + 8)) from rfl, pcTo_add 8, pcTo_add 8 (8 + 8), pcTo_add 8 8]
  simp only [Nat.shiftRight_eq_div_pow, Nat.div_div_eq_div_mul]
  have e1 := pcTo_mod 8 n 8 (Nat.le_refl _)
  have e2 := pcTo_mod 8 (n / 2 ^ 8) 8 (Nat.le_refl _)
  have e3 := pcTo_mod 8 (n / (2 ^ 8 * 2 ^ 8)) 8 (Nat.le_refl _)
  rw [← e1, ← e2, ← e3]
  simp only [Nat.reducePow, Nat.reduceMul]
  omega

theorem pc_bytes_int (x : Int) (h0 : 0 ≤ x) (h1 : x ≤ 4294967295) :
    Lib.pop8 (x / 16777216) + Lib.pop8 (x / 65536 % 256) + Lib.pop8 (x / 256 % 256) + Lib.pop8 (x % 256) = (pcTo 32 x.toNat : Int) := by
  obtain ⟨n, rfl⟩ := Int.eq_ofNat_of_zero_le h0
  rw [pop8_of _ (by omega) (by omega), pop8_of _ (by omega) (by omega), pop8_of _ (by omega) (by omega), pop8_of _ (by omega) (by omega), Int.toNat_natCast, pc_bytes n (by omega)]
  have a1 : ((n : Int) / 16777216).toNat = n / 16777216 := by omega
  have a2 : ((n : Int) / 65536 % 256).toNat = n / 65536 % 256 := by omega
  have a3 : ((n : Int) / 256 % 256).toNat = n / 256 % 256 := by omega
  have a4 : ((n : Int) % 256).toNat = n % 256 := by omega
  rw [a1, a2, a3, a4]
  omega

theorem pop8_bd (x : Int) (h0 : 0 ≤ x) (h1 : x ≤ 255) : 0 ≤ Lib.pop8 x ∧ Lib.pop8 x ≤ 8 := by
  rw [pop8_of x h0 h1]
  have := pcTo_le 8 x.toNat
  omega

/-- With bit k there is one more than without it, and all else is the same. -/
theorem pc_bit (m n k : Nat) (hk : k < m) (hm : m ≤ 64) : pcTo m (n ||| 2 ^ k) = pcTo m (n &&& (2 ^ 64 - 1 - 2 ^ k)) + 1 := by
    have key : ∀ j, j ≤ m → pcTo j (n ||| 2 ^ k) = pcTo j (n &&& (2 ^ 64 - 1 - 2 ^ k)) + (if k < j then 1 else 0) := by
      intro j
      induction j with
      | zero => intro _; simp [pcTo]
      | succ j ih =>
        intro hj
        rw [pcTo_succ, pcTo_succ, ih (by omega)]
        have hb : (2 ^ 64 - 1 - 2 ^ k).testBit j = (decide (j < 64) && !decide (j = k)) := by
          rw [show 2 ^ 64 - 1 - 2 ^ k = 2 ^ 64 - (2 ^ k + 1) from by omega, Nat.testBit_two_pow_sub_succ (Nat.pow_lt_pow_right (by omega) (by omega))]
          rw [Nat.testBit_two_pow]
          by_cases h : k = j <;> simp [h, eq_comm]
        rw [Nat.testBit_or, Nat.testBit_and, hb, Nat.testBit_two_pow]
        by_cases h : k = j
        · subst h; simp
        · have h' : ¬ j = k := fun e => h e.symm
          have h64 : j < 64 := by omega
          simp only [h, h', h64, decide_true, decide_false, Bool.or_false, Bool.not_false, Bool.and_true]
          by_cases hlt : k < j
          · simp [hlt, show k < j + 1 from by omega]; omega
          · simp [hlt, show ¬ k < j + 1 from by omega]
    have := key m (Nat.le_refl _)
    simpa [hk] using this

/-- A number with a bit, and without it: it is one of the two. -/
theorem with_or_less (n k : Nat) (hn : n < 2 ^ 64) (hk : k < 64) : n ||| 2 ^ k = n ∨ n &&& (2 ^ 64 - 1 - 2 ^ k) = n := by
  cases hb : n.testBit k
  · refine .inr (Nat.eq_of_testBit_eq fun i => ?_)
    rw [Nat.testBit_and, show 2 ^ 64 - 1 - 2 ^ k = 2 ^ 64 - (2 ^ k + 1) from by omega, Nat.testBit_two_pow_sub_succ (Nat.pow_lt_pow_right (by omega) hk), Nat.testBit_two_pow]
    by_cases h : k = i
    · subst h; simp [hb]
    · by_cases h64 : i < 64
      · simp [h, h64]
      · have : n.testBit i = false := Nat.testBit_lt_two_pow (Nat.lt_of_lt_of_le hn (Nat.pow_le_pow_right (by omega) (by omega)))
        simp [this]
  · refine .inl (Nat.eq_of_testBit_eq fun i => ?_)
    rw [Nat.testBit_or, Nat.testBit_two_pow]
    by_cases h : k = i
    · subst h; simp [hb]
    · simp [h]

/-! ### Bits of the machine's numbers, where none is below 0 -/

theorem u32_and255 (x : Int) (h0 : 0 ≤ x) (h1 : x < 4294967296) : bits .and .u32 x 255 = x % 256 :=
  bits_mask .u32 32 (by decide) (fun n a b => by rw [IntKind.wrap_u32]; omega) 8 (by decide) x h0 (by simpa using h1)

theorem wraps_i64 (n : Int) (h0 : 0 ≤ n) (h1 : n < 2 ^ 63) : IntKind.i64.wrap n = n := by
  have e : (2 : Int) ^ 63 = 9223372036854775808 := by decide
  rw [e] at h1; rw [IntKind.wrap_i64]; omega

theorem i64_and (a b : Nat) (ha : a < 2 ^ 63) (hb : b < 2 ^ 63) : bits .and .i64 (a : Int) (b : Int) = ((a &&& b : Nat) : Int) :=
  (bits_nat .i64 63 (by decide) wraps_i64 a b ha hb).1

theorem i64_or (a b : Nat) (ha : a < 2 ^ 63) (hb : b < 2 ^ 63) : bits .or .i64 (a : Int) (b : Int) = ((a ||| b : Nat) : Int) :=
  (bits_nat .i64 63 (by decide) wraps_i64 a b ha hb).2

theorem i64_mask (i : Nat) (hi : i ≤ 63) (x : Int) (h0 : 0 ≤ x) (h1 : x < 2 ^ 63) : bits .and .i64 x (2 ^ i - 1) = x % 2 ^ i :=
  bits_mask .i64 63 (by decide) wraps_i64 i hi x h0 h1

theorem i64_and15 (x : Int) (h0 : 0 ≤ x) (h1 : x ≤ 9223372036854775807) : bits .and .i64 x 15 = x % 16 := by
  have e63 : (2 : Int) ^ 63 = 9223372036854775808 := by decide
  have e := i64_mask 4 (by decide) x h0 (by rw [e63]; omega)
  simpa using e

theorem i64_and1 (x : Int) (h0 : 0 ≤ x) (h1 : x ≤ 9223372036854775807) : bits .and .i64 x 1 = x % 2 := by
  have e63 : (2 : Int) ^ 63 = 9223372036854775808 := by decide
  have e := i64_mask 1 (by decide) x h0 (by rw [e63]; omega)
  simpa using e

theorem i64_andNot (a b : Nat) (ha : a < 2 ^ 63) (hb : b < 2 ^ 63) : bits .andNot .i64 (a : Int) (b : Int) = ((a &&& (2 ^ 64 - 1 - b) : Nat) : Int) := by
  have e : ∀ n : Nat, n < 2 ^ 63 → (BitVec.ofInt 64 (n : Int)).toNat = n := fun n h => by
    rw [BitVec.ofInt_natCast, BitVec.toNat_ofNat]; exact Nat.mod_eq_of_lt (by omega)
  have hx : a &&& (2 ^ 64 - 1 - b) ≤ a := Nat.and_le_left
  show IntKind.i64.wrap ((BitVec.ofInt 64 (a : Int) &&& ~~~BitVec.ofInt 64 (b : Int)).toNat : Int) = _
  rw [BitVec.toNat_and, BitVec.toNat_not, e a ha, e b hb]
  exact wraps_i64 _ (by omega) (by have : ((a : Nat) : Int) < 2 ^ 63 := by exact_mod_cast ha
                                   omega)

/-- The 32 lowest bits of any number. -/
theorem i64_low32 (n : Int) : bits .and .i64 n 4294967295 = n % 4294967296 := by
  have h32 : (BitVec.ofInt 64 4294967295).toNat = 2 ^ 32 - 1 := by decide
  have key : (BitVec.ofInt 64 n &&& BitVec.ofInt 64 4294967295).toNat = (n % ((2 ^ 64 : Nat) : Int)).toNat % 2 ^ 32 := by
    rw [BitVec.toNat_and, BitVec.toNat_ofInt, h32, Nat.and_two_pow_sub_one_eq_mod]
  show IntKind.i64.wrap ((BitVec.ofInt 64 n &&& BitVec.ofInt 64 4294967295).toNat : Nat) = n % 4294967296
  rw [key, IntKind.wrap_i64]
  omega

/-- One bit of a number that is not below 0. -/
theorem bit_at (n : Int) (k : Nat) (h0 : 0 ≤ n) (h1 : n ≤ 9223372036854775807) : bits .and .i64 (n / 2 ^ k) 1 = ((n.toNat.testBit k).toNat : Int) := by
  obtain ⟨m, rfl⟩ := Int.eq_ofNat_of_zero_le h0
  have hd : ((m : Int) / 2 ^ k) = ((m / 2 ^ k : Nat) : Int) := by simp
  have hle : m / 2 ^ k ≤ m := Nat.div_le_self _ _
  have e := i64_mask 1 (by decide) ((m / 2 ^ k : Nat) : Int) (Int.natCast_nonneg _) (by
    have e63 : (2 : Int) ^ 63 = 9223372036854775808 := by decide
    rw [e63]; have := Int.ofNat_le.2 hle; omega)
  have e1 : ((2 : Int) ^ 1 - 1) = 1 := by decide
  rw [e1] at e
  rw [hd, e, Int.toNat_natCast, Nat.toNat_testBit]
  simp

end Go.Proofs.Ytklmiapieaogdaa
