/-
  Registers of 16 and 32 bits, fed with bits, as numbers: that feeding is linear, that unlike bits side by side leave unlike registers, that a byte can be fed by a table, that the register is the rest of a division. No function of the program is spoken of.
-/
import Derived.Test.YtklmiapieaogdaaPoly
namespace Go.Proofs.Ytklmiapieaogdaa
open Go.RowKit

/-- So many times. -/
def times (f : Nat → Nat) : Nat → Nat → Nat
  | 0, x => x
  | k + 1, x => times f k (f x)

theorem times_succ (f : Nat → Nat) : ∀ k x, times f (k + 1) x = f (times f k x)
  | 0, _ => rfl
  | k + 1, x => by
    have := times_succ f k (f x)
    exact this

theorem times_add (f : Nat → Nat) : ∀ j k x, times f (j + k) x = times f k (times f j x)
  | 0, k, x => by rw [Nat.zero_add]; rfl
  | j + 1, k, x => by rw [Nat.add_right_comm]; exact times_add f j k (f x)

/-! ## The register of 32 bits, the lowest bit out first -/

def m32 (x : Nat) : Nat := x / 2 ^^^ (if x % 2 = 1 then 3988292384 else 0)

theorem m32_xor (x y : Nat) : m32 (x ^^^ y) = m32 x ^^^ m32 y := by
  unfold m32
  rw [half_xor, parity_xor, xor4]
  congr 1
  rcases Nat.mod_two_eq_zero_or_one x with hx | hx <;> rcases Nat.mod_two_eq_zero_or_one y with hy | hy
  · simp [hx, hy, show (x + y) % 2 = 0 by omega]
  · simp [hx, hy, show (x + y) % 2 = 1 by omega]
  · simp [hx, hy, show (x + y) % 2 = 1 by omega]
  · simp [hx, hy, show (x + y) % 2 = 0 by omega]

theorem m32_zero : m32 0 = 0 := by decide
theorem m32_two (y : Nat) : m32 (2 * y) = y := by
  unfold m32
  rw [show 2 * y / 2 = y by omega, if_neg (by omega), Nat.xor_zero]
theorem m32_lt {x : Nat} (h : x < 2 ^ 32) : m32 x < 2 ^ 32 := by
  unfold m32
  refine xor_lt (by omega) ?_
  split <;> decide
theorem m32_inj {x : Nat} (h : x < 2 ^ 32) (h0 : m32 x = 0) : x = 0 := by
  unfold m32 at h0
  have := xor_cancel h0
  split at this <;> omega

theorem times_m32_xor : ∀ k x y, times m32 k (x ^^^ y) = times m32 k x ^^^ times m32 k y
  | 0, _, _ => rfl
  | k + 1, x, y => by
    show times m32 k (m32 (x ^^^ y)) = _
    rw [m32_xor]
    exact times_m32_xor k _ _
theorem times_m32_zero : ∀ k, times m32 k 0 = 0
  | 0 => rfl
  | k + 1 => by
    show times m32 k (m32 0) = 0
    rw [m32_zero]
    exact times_m32_zero k
theorem times_m32_lt : ∀ k {x : Nat}, x < 2 ^ 32 → times m32 k x < 2 ^ 32
  | 0, _, h => h
  | k + 1, _, h => times_m32_lt k (m32_lt h)
theorem times_m32_inj : ∀ k {x : Nat}, x < 2 ^ 32 → times m32 k x = 0 → x = 0
  | 0, _, _, h => h
  | k + 1, _, hx, h => m32_inj hx (times_m32_inj k (m32_lt hx) h)
theorem times_m32_shift : ∀ k x, times m32 k (2 ^ k * x) = x
  | 0, x => by rw [Nat.pow_zero, Nat.one_mul]; rfl
  | k + 1, x => by
    show times m32 k (m32 (2 ^ (k + 1) * x)) = x
    rw [Nat.pow_succ, Nat.mul_comm (2 ^ k) 2, Nat.mul_assoc, m32_two]
    exact times_m32_shift k x

/-- Bits fed, one by one. -/
def feed32 (r : Nat) : List Nat → Nat
  | [] => r
  | b :: l => feed32 (m32 (r ^^^ b)) l

theorem feed32_append : ∀ (l m : List Nat) (r : Nat), feed32 r (l ++ m) = feed32 (feed32 r l) m
  | [], _, _ => rfl
  | _ :: l, m, _ => feed32_append l m _

/-- The number that bits spell, the lowest first. -/
def low : List Nat → Nat
  | [] => 0
  | b :: l => b + 2 * low l

def Bits01 (l : List Nat) : Prop := ∀ b ∈ l, b < 2
theorem Bits01.tail {b : Nat} {l : List Nat} (h : Bits01 (b :: l)) : Bits01 l := fun x hx => h x (List.mem_cons_of_mem _ hx)
theorem Bits01.head {b : Nat} {l : List Nat} (h : Bits01 (b :: l)) : b < 2 := h b List.mem_cons_self
theorem Bits01.append {l m : List Nat} (h : Bits01 l) (g : Bits01 m) : Bits01 (l ++ m) := fun x hx => (List.mem_append.1 hx).elim (h x) (g x)
theorem Bits01.left {l m : List Nat} (h : Bits01 (l ++ m)) : Bits01 l := fun x hx => h x (List.mem_append_left _ hx)
theorem Bits01.right {l m : List Nat} (h : Bits01 (l ++ m)) : Bits01 m := fun x hx => h x (List.mem_append_right _ hx)
theorem Bits01.noughts (k : Nat) : Bits01 (List.replicate k 0) := fun x hx => by rw [List.eq_of_mem_replicate hx]; decide

theorem low_lt : ∀ {l : List Nat}, Bits01 l → low l < 2 ^ l.length
  | [], _ => by simp [low]
  | b :: l, h => by
    have h1 := low_lt h.tail
    have h2 := h.head
    rw [low, List.length_cons, Nat.pow_succ]
    omega

theorem bit_xor (b y : Nat) (hb : b < 2) : b + 2 * y = b ^^^ 2 * y := by
  have := push_xor y 0 b (by omega) hb
  rw [Nat.zero_xor, Nat.add_zero, Nat.xor_comm] at this
  omega

/-- Feeding bits is feeding noughts into the register that has these bits turned about. -/
theorem feed32_low : ∀ (l : List Nat) (r : Nat), Bits01 l → feed32 r l = times m32 l.length (r ^^^ low l)
  | [], r, _ => by rw [low, Nat.xor_zero]; rfl
  | b :: l, r, h => by
    rw [feed32, feed32_low l _ h.tail, low, bit_xor b _ h.head, List.length_cons]
    show _ = times m32 l.length (m32 (r ^^^ (b ^^^ 2 * low l)))
    rw [← Nat.xor_assoc, m32_xor (r ^^^ b), m32_two]

theorem low_zero : ∀ {l : List Nat}, Bits01 l → low l = 0 → ∀ b ∈ l, b = 0
  | [], _, _, b, hb => by cases hb
  | c :: l, h, h0, b, hb => by
    rw [low] at h0
    rcases List.mem_cons.1 hb with rfl | hb
    · omega
    · exact low_zero h.tail (by omega) b hb

theorem feed32_lt (l : List Nat) : ∀ {r : Nat}, r < 2 ^ 32 → Bits01 l → feed32 r l < 2 ^ 32 := by
  induction l with
  | nil => intro r h _; exact h
  | cons b l ih => intro r h hb; exact ih (m32_lt (xor_lt h (Nat.lt_of_lt_of_le hb.head (by decide)))) hb.tail

/-- Two texts of bits of one length, bit by bit. -/
def xorBits : List Nat → List Nat → List Nat
  | b :: l, c :: m => (b ^^^ c) :: xorBits l m
  | _, _ => []

theorem feed32_xor : ∀ (l m : List Nat) (r s : Nat), l.length = m.length → feed32 (r ^^^ s) (xorBits l m) = feed32 r l ^^^ feed32 s m
  | [], [], _, _, _ => rfl
  | [], _ :: _, _, _, h => by simp at h
  | _ :: _, [], _, _, h => by simp at h
  | b :: l, c :: m, r, s, h => by
    rw [xorBits, feed32, feed32, feed32, xor4, m32_xor]
    exact feed32_xor l m _ _ (by simpa using h)

theorem feed32_noughts : ∀ k, feed32 0 (List.replicate k 0) = 0
  | 0 => rfl
  | k + 1 => by
    rw [List.replicate_succ, feed32, Nat.xor_zero, m32_zero]
    exact feed32_noughts k

/-- Up to 32 bits side by side, one at least 1, noughts around: the register is not 0. -/
theorem feed32_burst (i j : Nat) (l : List Nat) (hb : Bits01 l) (hl : l.length ≤ 32) (h1 : ∃ b ∈ l, b ≠ 0) : feed32 0 (List.replicate i 0 ++ l ++ List.replicate j 0) ≠ 0 := by
  have hlow : low l < 2 ^ 32 := Nat.lt_of_lt_of_le (low_lt hb) (Nat.pow_le_pow_right (by omega) hl)
  have hz : low (List.replicate j 0) = 0 := by
    induction j with
    | zero => rfl
    | succ j ih => rw [List.replicate_succ, low, ih]
  rw [feed32_append, feed32_append, feed32_noughts, feed32_low l _ hb, Nat.zero_xor, feed32_low _ _ (Bits01.noughts j), hz, Nat.xor_zero]
  intro e
  have := times_m32_inj _ hlow (times_m32_inj _ (times_m32_lt _ hlow) e)
  obtain ⟨b, hm, hne⟩ := h1
  exact hne (low_zero hb this b hm)

/-- A byte's bits, the lowest first. -/
def lows (b : Nat) : List Nat := [b % 2, b / 2 % 2, b / 4 % 2, b / 8 % 2, b / 16 % 2, b / 32 % 2, b / 64 % 2, b / 128 % 2]

theorem lows_01 (b : Nat) : Bits01 (lows b) := fun x hx => by
  simp [lows] at hx
  omega

theorem low_lows (b : Nat) (h : b < 256) : low (lows b) = b := by
  simp [lows, low]
  omega

theorem split256 (x : Nat) : x = 2 ^ 8 * (x / 256) ^^^ x % 256 := by
  apply Nat.eq_of_testBit_eq
  intro i
  rw [Nat.testBit_xor, Nat.testBit_two_pow_mul, show (256 : Nat) = 2 ^ 8 by rfl, Nat.testBit_mod_two_pow, Nat.testBit_div_two_pow]
  by_cases h : i < 8
  · simp [h, Nat.not_le.2 h]
  · simp [h, Nat.not_lt.1 h]

/-- A byte is fed by a table. -/
theorem feed32_byte (r b : Nat) (hb : b < 256) : feed32 r (lows b) = r / 256 ^^^ feed32 0 (lows ((r ^^^ b) % 256)) := by
  rw [feed32_low _ _ (lows_01 b), feed32_low _ _ (lows_01 _), low_lows b hb, low_lows _ (by omega), Nat.zero_xor]
  show times m32 8 (r ^^^ b) = r / 256 ^^^ times m32 8 ((r ^^^ b) % 256)
  conv => lhs; rw [split256 (r ^^^ b), times_m32_xor, times_m32_shift]
  congr 1
  have := xor_div_pow r b 8
  rw [show (2 : Nat) ^ 8 = 256 by rfl, Nat.div_eq_of_lt hb, Nat.xor_zero] at this
  exact this

/-- Behind the register's own bits, each turned about, there is always the same register. -/
theorem feed32_residue (r : Nat) (hr : r < 2 ^ 32) (l : List Nat) (hb : Bits01 l) (hl : l.length = 32) : feed32 r l = 3736805603 ↔ low l = r ^^^ 4294967295 := by
  have e0 : times m32 32 4294967295 = 3736805603 := by decide +kernel
  have hlow : low l < 2 ^ 32 := hl ▸ low_lt hb
  rw [feed32_low l r hb, hl, ← e0]
  constructor
  · intro e
    have h1 : times m32 32 (r ^^^ low l ^^^ 4294967295) = 0 := by rw [times_m32_xor, e, Nat.xor_self]
    have h2 := times_m32_inj 32 (xor_lt (xor_lt hr hlow) (by decide)) h1
    have h3 := xor_cancel h2
    rw [← h3, ← Nat.xor_assoc, Nat.xor_self, Nat.zero_xor]
  · intro e
    rw [e, ← Nat.xor_assoc, Nat.xor_self, Nat.zero_xor]

/-! ## The register of 16 bits, the highest bit out first -/

def n16 (x : Nat) : Nat := 2 * x % 65536 ^^^ (if x / 32768 % 2 = 1 then 4129 else 0)

theorem n16_xor (x y : Nat) : n16 (x ^^^ y) = n16 x ^^^ n16 y := by
  unfold n16
  rw [two_mul_xor, show (65536 : Nat) = 2 ^ 16 by rfl, Nat.xor_mod_two_pow, show (32768 : Nat) = 2 ^ 15 by rfl, xor_div_pow, parity_xor, xor4]
  congr 1
  generalize x / 2 ^ 15 = p
  generalize y / 2 ^ 15 = q
  rcases Nat.mod_two_eq_zero_or_one p with hx | hx <;> rcases Nat.mod_two_eq_zero_or_one q with hy | hy
  · simp [hx, hy, show (p + q) % 2 = 0 by omega]
  · simp [hx, hy, show (p + q) % 2 = 1 by omega]
  · simp [hx, hy, show (p + q) % 2 = 1 by omega]
  · simp [hx, hy, show (p + q) % 2 = 0 by omega]

theorem n16_zero : n16 0 = 0 := by decide
theorem n16_small {y : Nat} (h : y < 32768) : n16 y = 2 * y := by
  unfold n16
  rw [Nat.mod_eq_of_lt (by omega), Nat.div_eq_of_lt h, if_neg (by omega), Nat.xor_zero]
theorem n16_lt (x : Nat) : n16 x < 2 ^ 16 := by
  unfold n16
  refine xor_lt (Nat.mod_lt _ (by decide)) ?_
  split <;> decide
theorem n16_inj {x : Nat} (h : x < 2 ^ 16) (h0 : n16 x = 0) : x = 0 := by
  unfold n16 at h0
  have := xor_cancel h0
  split at this <;> omega

theorem times_n16_xor : ∀ k x y, times n16 k (x ^^^ y) = times n16 k x ^^^ times n16 k y
  | 0, _, _ => rfl
  | k + 1, x, y => by
    show times n16 k (n16 (x ^^^ y)) = _
    rw [n16_xor]
    exact times_n16_xor k _ _
theorem times_n16_zero : ∀ k, times n16 k 0 = 0
  | 0 => rfl
  | k + 1 => by
    show times n16 k (n16 0) = 0
    rw [n16_zero]
    exact times_n16_zero k
theorem times_n16_inj : ∀ k {x : Nat}, x < 2 ^ 16 → times n16 k x = 0 → x = 0
  | 0, _, _, h => h
  | k + 1, _, hx, h => n16_inj hx (times_n16_inj k (n16_lt _) h)
theorem times_n16_lt : ∀ k {x : Nat}, x < 2 ^ 16 → times n16 k x < 2 ^ 16
  | 0, _, h => h
  | k + 1, _, _ => times_n16_lt k (n16_lt _)
theorem times_n16_shift : ∀ k {x : Nat}, k ≤ 16 → x < 2 ^ (16 - k) → times n16 k x = 2 ^ k * x
  | 0, x, _, _ => by rw [Nat.pow_zero, Nat.one_mul]; rfl
  | k + 1, x, hk, h => by
    have h1 : 2 ^ (16 - (k + 1)) ≤ 2 ^ 15 := Nat.pow_le_pow_right (by omega) (by omega)
    show times n16 k (n16 x) = 2 ^ (k + 1) * x
    rw [n16_small (by omega), times_n16_shift k (by omega) (by rw [show 16 - k = 16 - (k + 1) + 1 by omega, Nat.pow_succ]; omega), Nat.pow_succ, Nat.mul_assoc]

def feed16 (r : Nat) : List Nat → Nat
  | [] => r
  | b :: l => feed16 (n16 (r ^^^ b * 32768)) l

theorem feed16_append : ∀ (l m : List Nat) (r : Nat), feed16 r (l ++ m) = feed16 (feed16 r l) m
  | [], _, _ => rfl
  | _ :: l, m, _ => feed16_append l m _

/-- The number that bits spell, the highest first. -/
def high : List Nat → Nat
  | [] => 0
  | b :: l => b * 2 ^ l.length + high l

theorem high_lt : ∀ {l : List Nat}, Bits01 l → high l < 2 ^ l.length
  | [], _ => by simp [high]
  | b :: l, h => by
    have h1 := high_lt h.tail
    have h2 := h.head
    rw [high, List.length_cons, Nat.pow_succ]
    have : b * 2 ^ l.length ≤ 1 * 2 ^ l.length := Nat.mul_le_mul_right _ (by omega)
    omega

theorem high_zero : ∀ {l : List Nat}, high l = 0 → ∀ b ∈ l, b = 0
  | [], _, b, hb => by cases hb
  | c :: l, h0, b, hb => by
    rw [high] at h0
    have hp := Nat.two_pow_pos l.length
    rcases List.mem_cons.1 hb with rfl | hb
    · exact Decidable.byContradiction fun h => by
        have : 1 * 2 ^ l.length ≤ b * 2 ^ l.length := Nat.mul_le_mul_right _ (by omega)
        omega
    · exact high_zero (by omega) b hb

theorem feed16_high : ∀ (l : List Nat) (r : Nat), Bits01 l → l.length ≤ 16 → feed16 r l = times n16 l.length (r ^^^ high l * 2 ^ (16 - l.length))
  | [], r, _, _ => by rw [high, Nat.zero_mul, Nat.xor_zero]; rfl
  | b :: l, r, h, hk => by
    have hk' : l.length + 1 ≤ 16 := hk
    have h1 := high_lt h.tail
    have hy : high l * 2 ^ (15 - l.length) < 2 ^ 15 := by
      have e : (2 : Nat) ^ 15 = 2 ^ l.length * 2 ^ (15 - l.length) := by rw [← Nat.pow_add]; congr 1; omega
      rw [e]
      exact Nat.mul_lt_mul_of_pos_right h1 (Nat.two_pow_pos _)
    have e1 : high l * 2 ^ (16 - l.length) = 2 * (high l * 2 ^ (15 - l.length)) := by
      rw [show 16 - l.length = 15 - l.length + 1 by omega, Nat.pow_succ, ← Nat.mul_assoc, Nat.mul_comm]
    have e2 : high (b :: l) * 2 ^ (16 - (b :: l).length) = b * 32768 ^^^ high l * 2 ^ (15 - l.length) := by
      rw [high, List.length_cons, show 16 - (l.length + 1) = 15 - l.length by omega, Nat.add_mul, Nat.mul_assoc, ← Nat.pow_add, show l.length + (15 - l.length) = 15 by omega]
      generalize high l * 2 ^ (15 - l.length) = y at hy
      have hb := h.head
      apply Nat.eq_of_testBit_eq
      intro i
      rw [Nat.mul_comm b, Nat.testBit_two_pow_mul_add _ hy, Nat.testBit_xor, Nat.testBit_two_pow_mul]
      by_cases hi : i < 15
      · simp [hi, Nat.not_le.2 hi]
      · rw [if_neg hi, Nat.testBit_lt_two_pow (Nat.lt_of_lt_of_le hy (Nat.pow_le_pow_right (by omega) (by omega)))]
        simp [Nat.not_lt.1 hi]
    rw [feed16, feed16_high l _ h.tail (by omega), e2, e1]
    show _ = times n16 l.length (n16 (r ^^^ (b * 32768 ^^^ high l * 2 ^ (15 - l.length))))
    rw [← Nat.xor_assoc, n16_xor (r ^^^ b * 32768), n16_small hy]

theorem feed16_xor : ∀ (l m : List Nat) (r s : Nat), l.length = m.length → feed16 (r ^^^ s) (xorBits l m) = feed16 r l ^^^ feed16 s m
  | [], [], _, _, _ => rfl
  | [], _ :: _, _, _, h => by simp at h
  | _ :: _, [], _, _, h => by simp at h
  | b :: l, c :: m, r, s, h => by
    rw [xorBits, feed16, feed16, feed16, show (32768 : Nat) = 2 ^ 15 by rfl, mul_pow_xor, xor4, n16_xor]
    exact feed16_xor l m _ _ (by simpa using h)

theorem feed16_noughts : ∀ k, feed16 0 (List.replicate k 0) = 0
  | 0 => rfl
  | k + 1 => by
    rw [List.replicate_succ, feed16, Nat.zero_mul, Nat.xor_zero, n16_zero]
    exact feed16_noughts k

theorem feed16_lt (l : List Nat) : ∀ {r : Nat}, r < 2 ^ 16 → feed16 r l < 2 ^ 16 := by
  induction l with
  | nil => intro r h; exact h
  | cons b l ih => intro r _; exact ih (n16_lt _)

/-- Noughts turn no register that is not 0 to 0. -/
theorem feed16_behind : ∀ (j : Nat) {r : Nat}, r < 2 ^ 16 → feed16 r (List.replicate j 0) = 0 → r = 0
  | 0, _, _, h => h
  | j + 1, r, hr, h => by
    rw [List.replicate_succ, feed16, Nat.zero_mul, Nat.xor_zero] at h
    exact n16_inj hr (feed16_behind j (n16_lt _) h)

theorem feed16_burst (i j : Nat) (l : List Nat) (hb : Bits01 l) (hl : l.length ≤ 16) (h1 : ∃ b ∈ l, b ≠ 0) : feed16 0 (List.replicate i 0 ++ l ++ List.replicate j 0) ≠ 0 := by
  have hE : high l * 2 ^ (16 - l.length) < 2 ^ 16 := by
    have e : (2 : Nat) ^ 16 = 2 ^ l.length * 2 ^ (16 - l.length) := by rw [← Nat.pow_add]; congr 1; omega
    rw [e]
    exact Nat.mul_lt_mul_of_pos_right (high_lt hb) (Nat.two_pow_pos _)
  rw [feed16_append, feed16_append, feed16_noughts, feed16_high l _ hb hl, Nat.zero_xor]
  intro e
  have h2 := times_n16_inj _ hE (feed16_behind j (times_n16_lt _ hE) e)
  have h3 : high l = 0 := (Nat.mul_eq_zero.1 h2).resolve_right (Nat.ne_of_gt (Nat.two_pow_pos _))
  obtain ⟨b, hm, hne⟩ := h1
  exact hne (high_zero h3 b hm)

/-- A byte's bits, the highest first. -/
def highs (b : Nat) : List Nat := [b / 128 % 2, b / 64 % 2, b / 32 % 2, b / 16 % 2, b / 8 % 2, b / 4 % 2, b / 2 % 2, b % 2]

theorem highs_01 (b : Nat) : Bits01 (highs b) := fun x hx => by
  simp [highs] at hx
  omega

theorem high_highs (b : Nat) (h : b < 256) : high (highs b) = b := by
  simp [highs, high]
  omega

theorem feed16_byte (r b : Nat) (hr : r < 65536) (hb : b < 256) : feed16 r (highs b) = r * 256 % 65536 ^^^ feed16 0 (highs (r / 256 ^^^ b)) := by
  have hh : r / 256 ^^^ b < 2 ^ 8 := xor_lt (by omega) hb
  rw [feed16_high _ _ (highs_01 b) (by simp [highs]), feed16_high _ _ (highs_01 _) (by simp [highs]), high_highs b hb, high_highs _ hh, Nat.zero_xor]
  show times n16 8 (r ^^^ b * 2 ^ 8) = r * 256 % 65536 ^^^ times n16 8 ((r / 256 ^^^ b) * 2 ^ 8)
  have e : r ^^^ b * 2 ^ 8 = r % 256 ^^^ (r / 256 ^^^ b) * 2 ^ 8 := by
    conv => lhs; rw [split256 r, Nat.mul_comm (2 ^ 8), Nat.xor_comm (r / 256 * 2 ^ 8), Nat.xor_assoc]
    rw [mul_pow_xor]
  rw [e, times_n16_xor, times_n16_shift 8 (by decide) (Nat.mod_lt _ (by decide))]
  congr 1
  omega

/-! ## Rests of divisions -/

/-- One step of a register of d bits, the highest first, in a division by 2^d + p. -/
def nstep (d p x : Nat) : Nat := 2 * x % 2 ^ d ^^^ (if x / 2 ^ (d - 1) % 2 = 1 then p else 0)

def nfeed (d p r : Nat) : List Nat → Nat
  | [] => r
  | b :: l => nfeed d p (nstep d p (r ^^^ b * 2 ^ (d - 1))) l

theorem nfeed_append (d p : Nat) : ∀ (l m : List Nat) (r : Nat), nfeed d p r (l ++ m) = nfeed d p (nfeed d p r l) m
  | [], _, _ => rfl
  | _ :: l, m, _ => nfeed_append d p l m _

theorem nstep_lt {d p : Nat} (hp : p < 2 ^ d) (x : Nat) : nstep d p x < 2 ^ d := by
  unfold nstep
  refine xor_lt (Nat.mod_lt _ (Nat.two_pow_pos _)) ?_
  split
  · exact hp
  · exact Nat.two_pow_pos _

theorem nfeed_lt {d p : Nat} (hp : p < 2 ^ d) (l : List Nat) : ∀ {r : Nat}, r < 2 ^ d → nfeed d p r l < 2 ^ d := by
  induction l with
  | nil => intro r h; exact h
  | cons b l ih => intro r _; exact ih (nstep_lt hp _)

theorem top_xor {d p : Nat} (hp : p < 2 ^ d) : 2 ^ d + p = 2 ^ d ^^^ p := by
  apply Nat.eq_of_testBit_eq
  intro i
  have := Nat.testBit_two_pow_mul_add 1 hp i
  rw [Nat.mul_one] at this
  rw [this, Nat.testBit_xor, Nat.testBit_two_pow]
  by_cases h : i < d
  · simp [h, show ¬ d = i by omega]
  · rw [if_neg h, Nat.testBit_lt_two_pow (Nat.lt_of_lt_of_le hp (Nat.pow_le_pow_right (by omega) (by omega)))]
    by_cases e : d = i
    · subst e; simp
    · obtain ⟨k, hk⟩ : ∃ k, i - d = k + 1 := ⟨i - d - 1, by omega⟩
      rw [hk, Nat.testBit_succ]
      simp [e]

/-- One step takes off a multiple of the divisor. -/
theorem nstep_rest {d p : Nat} (hd : 0 < d) (hp : p < 2 ^ d) (x : Nat) (hx : x < 2 ^ d) : ∃ t, 2 * x = cl t (2 ^ d + p) ^^^ nstep d p x := by
  unfold nstep
  obtain ⟨s, rfl⟩ : ∃ s, d = s + 1 := ⟨d - 1, by omega⟩
  rw [Nat.add_sub_cancel]
  by_cases h : x < 2 ^ s
  · refine ⟨0, ?_⟩
    rw [cl_zero, Nat.zero_xor, Nat.div_eq_of_lt h, if_neg (by omega), Nat.xor_zero, Nat.mod_eq_of_lt (by rw [Nat.pow_succ]; omega)]
  · refine ⟨1, ?_⟩
    have e1 : x / 2 ^ s = 1 := Nat.div_eq_of_lt_le (by omega) (by rw [Nat.pow_succ] at hx; omega)
    rw [cl_one, e1, if_pos (by decide), top_xor hp]
    have e2 : 2 * x = 2 ^ (s + 1) ^^^ 2 * x % 2 ^ (s + 1) := by
      have hm : 2 * x % 2 ^ (s + 1) < 2 ^ (s + 1) := Nat.mod_lt _ (Nat.two_pow_pos _)
      rw [← top_xor hm]
      have : 2 * x / 2 ^ (s + 1) = 1 := Nat.div_eq_of_lt_le (by rw [Nat.pow_succ]; omega) (by omega)
      have h3 := Nat.div_add_mod (2 * x) (2 ^ (s + 1))
      rw [this, Nat.mul_one] at h3
      exact h3.symm
    rw [Nat.xor_assoc, Nat.xor_comm p, Nat.xor_assoc, Nat.xor_self, Nat.xor_zero]
    exact e2

theorem high_snoc (l : List Nat) (b : Nat) : high (l ++ [b]) = 2 * high l + b := by
  induction l with
  | nil => simp [high]
  | cons c l ih =>
    rw [List.cons_append, high, ih, high, List.length_append, List.length_singleton, Nat.pow_succ]
    have : c * (2 ^ l.length * 2) = 2 * (c * 2 ^ l.length) := by rw [← Nat.mul_assoc, Nat.mul_comm]
    omega

/-- The register is the rest: of the bits, as many noughts behind as it has bits, and what it began with ahead. -/
theorem nfeed_rest {d p : Nat} (hd : 0 < d) (hp : p < 2 ^ d) (r : Nat) (hr : r < 2 ^ d) (l : List Nat) (hb : Bits01 l) : ∃ q, r * 2 ^ l.length ^^^ high l * 2 ^ d = cl q (2 ^ d + p) ^^^ nfeed d p r l := by
  obtain ⟨n, hn⟩ : ∃ n, n = l.length := ⟨_, rfl⟩
  induction n generalizing l with
  | zero =>
    obtain rfl : l = [] := List.length_eq_zero_iff.1 hn.symm
    exact ⟨0, by simp [high, nfeed, cl_zero]⟩
  | succ n ih =>
    obtain ⟨m, b, rfl⟩ : ∃ m b, l = m ++ [b] := ⟨l.dropLast, l.getLast (fun e => by rw [e] at hn; simp at hn), (List.dropLast_concat_getLast _).symm⟩
    have hlen : n = m.length := by simp at hn; omega
    obtain ⟨q, hq⟩ := ih m hb.left hlen
    have hb2 : b < 2 := hb.right b (by simp)
    have hfl := nfeed_lt (d := d) hp m hr
    have hxl : nfeed d p r m ^^^ b * 2 ^ (d - 1) < 2 ^ d := by
      refine xor_lt hfl ?_
      obtain ⟨s, rfl⟩ : ∃ s, d = s + 1 := ⟨d - 1, by omega⟩
      rw [Nat.add_sub_cancel, Nat.pow_succ]
      have : b * 2 ^ s ≤ 1 * 2 ^ s := Nat.mul_le_mul_right _ (by omega)
      have := Nat.two_pow_pos s
      omega
    obtain ⟨t, ht⟩ := nstep_rest hd hp _ hxl
    refine ⟨2 * q ^^^ t, ?_⟩
    rw [nfeed_append]
    show _ = _ ^^^ nstep d p (nfeed d p r m ^^^ b * 2 ^ (d - 1))
    have e1 : high (m ++ [b]) * 2 ^ d = 2 * (high m * 2 ^ d) ^^^ 2 * (b * 2 ^ (d - 1)) := by
      have e0 : 2 * high m + b = 2 * high m ^^^ b := by
        have := push_xor (high m) 0 b (by omega) hb2
        rw [Nat.zero_xor, Nat.add_zero] at this
        exact this
      rw [high_snoc, e0, mul_pow_xor]
      congr 1
      · rw [Nat.mul_assoc]
      · obtain ⟨s, rfl⟩ : ∃ s, d = s + 1 := ⟨d - 1, by omega⟩
        rw [Nat.add_sub_cancel, Nat.pow_succ, ← Nat.mul_assoc, Nat.mul_comm]
    have e2 : r * 2 ^ (m ++ [b]).length = 2 * (r * 2 ^ m.length) := by
      rw [List.length_append, List.length_singleton, Nat.pow_succ, ← Nat.mul_assoc, Nat.mul_comm]
    rw [e1, e2, ← Nat.xor_assoc, ← two_mul_xor, hq, ← two_mul_xor, cl_xor_left, cl_two_mul, Nat.xor_assoc (2 * cl q (2 ^ d + p)), ← ht, two_mul_xor, two_mul_xor, two_mul_xor, Nat.xor_assoc]

theorem feed16_nfeed : ∀ (l : List Nat) (r : Nat), feed16 r l = nfeed 16 4129 r l
  | [], _ => rfl
  | b :: l, r => by
    rw [feed16, nfeed]
    exact feed16_nfeed l _

/-! ## The other way about -/

/-- The lowest k bits, the other way about. -/
def rev : Nat → Nat → Nat
  | 0, _ => 0
  | k + 1, x => 2 * rev k x + x / 2 ^ k % 2

theorem rev_lt : ∀ k x, rev k x < 2 ^ k
  | 0, _ => by simp [rev]
  | k + 1, x => by
    have := rev_lt k x
    rw [rev, Nat.pow_succ]
    omega

theorem rev_bit : ∀ (k x i : Nat), (rev k x).testBit i = (decide (i < k) && x.testBit (k - 1 - i))
  | 0, x, i => by simp [rev]
  | k + 1, x, 0 => by
    rw [rev, Nat.testBit_zero]
    have : (2 * rev k x + x / 2 ^ k % 2) % 2 = x / 2 ^ k % 2 := by omega
    rw [this]
    simp [Nat.testBit_eq_decide_div_mod_eq]
  | k + 1, x, i + 1 => by
    rw [rev, Nat.testBit_succ]
    have : (2 * rev k x + x / 2 ^ k % 2) / 2 = rev k x := by omega
    rw [this, rev_bit k x i]
    have e : k + 1 - 1 - (i + 1) = k - 1 - i := by omega
    rw [e]
    by_cases h : i < k
    · simp [h]
    · simp [h]

theorem rev_xor (k x y : Nat) : rev k (x ^^^ y) = rev k x ^^^ rev k y := by
  apply Nat.eq_of_testBit_eq
  intro i
  rw [Nat.testBit_xor, rev_bit, rev_bit, rev_bit, Nat.testBit_xor]
  by_cases h : i < k
  · simp [h]
  · simp [h]

theorem rev_step (x : Nat) : rev 32 (nstep 32 79764919 x) = m32 (rev 32 x) := by
  have e1 : rev 32 (2 * x % 2 ^ 32) = rev 32 x / 2 := by
    apply Nat.eq_of_testBit_eq
    intro i
    rw [rev_bit, Nat.testBit_mod_two_pow, ← Nat.testBit_succ, rev_bit]
    by_cases h : i + 1 < 32
    · have e : 32 - 1 - i = 32 - 1 - (i + 1) + 1 := by omega
      rw [e, Nat.testBit_succ, show 2 * x / 2 = x by omega]
      simp [h, show i < 32 by omega]
      omega
    · by_cases h2 : i = 31
      · subst h2
        simp [Nat.testBit_zero]
      · simp [h, show ¬ i < 32 by omega]
  have e2 : rev 32 79764919 = 3988292384 := by decide +kernel
  have e3 : rev 32 x % 2 = x / 2 ^ (32 - 1) % 2 := by
    show (2 * rev 31 x + x / 2 ^ 31 % 2) % 2 = x / 2 ^ 31 % 2
    omega
  unfold nstep m32
  rw [rev_xor, e1, e3]
  congr 1
  split
  · exact e2
  · decide +kernel

theorem rev_top (b : Nat) (hb : b < 2) : rev 32 (b * 2 ^ (32 - 1)) = b := by
  obtain rfl | rfl : b = 0 ∨ b = 1 := by omega
  · decide +kernel
  · decide +kernel

/-- The register whose lowest bit goes out first is the other, the other way about. -/
theorem feed32_rev : ∀ (l : List Nat) (r : Nat), Bits01 l → feed32 (rev 32 r) l = rev 32 (nfeed 32 79764919 r l)
  | [], _, _ => rfl
  | b :: l, r, h => by
    rw [feed32, nfeed, ← feed32_rev l _ h.tail, rev_step, rev_xor, rev_top b h.head]

end Go.Proofs.Ytklmiapieaogdaa
