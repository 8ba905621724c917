/-
  xor, and, of the machine's signed numbers that are not below 0, as those of natural numbers. No program is spoken of.
-/
import Derived.Test.YtokejgoplalkhabGreatDoorM01
import Derived.Test.YtokejgoplalkhabGreatDoorM13
import Derived.Laws.BitsLemmas
namespace Go.Proofs.YtokejgoplalkhabGreatDoor

theorem zi_wrap (n : Int) (h0 : 0 ≤ n) (h1 : n < 2 ^ 63) : IntKind.i64.wrap n = n := by
  have e : (2 : Int) ^ 63 = 9223372036854775808 := by decide
  rw [e] at h1; rw [IntKind.wrap_i64]; omega

theorem zi_xor (a b : Nat) (ha : a < 2 ^ 62) (hb : b < 2 ^ 62) : bits .xor .i64 (a : Int) (b : Int) = ((a ^^^ b : Nat) : Int) := by
  have e : ∀ n : Nat, n < 2 ^ 62 → (BitVec.ofInt 64 (n : Int)).toNat = n := fun n h => by
    rw [BitVec.ofInt_natCast, BitVec.toNat_ofNat]; exact Nat.mod_eq_of_lt (by omega)
  have hx : a ^^^ b < 2 ^ 62 := Nat.xor_lt_two_pow ha hb
  show IntKind.i64.wrap ((BitVec.ofInt 64 (a : Int) ^^^ BitVec.ofInt 64 (b : Int)).toNat : Int) = _
  rw [BitVec.toNat_xor, e a ha, e b hb]
  exact zi_wrap _ (by omega) (by
    have : ((a ^^^ b : Nat) : Int) < ((2 ^ 62 : Nat) : Int) := by exact_mod_cast hx
    have e2 : ((2 ^ 62 : Nat) : Int) = 4611686018427387904 := by decide
    have e3 : (2 : Int) ^ 63 = 9223372036854775808 := by decide
    rw [e2] at this
    rw [e3]
    omega)

/-- The lowest i bits. -/
theorem zi_mod (i : Nat) (hi : i ≤ 62) (a : Nat) (ha : a < 2 ^ 62) : bits .and .i64 (a : Int) (2 ^ i - 1) = ((a % 2 ^ i : Nat) : Int) := by
  have h : (a : Int) < 2 ^ 63 := by
    have h1 : (a : Int) < ((2 ^ 62 : Nat) : Int) := by exact_mod_cast ha
    have e2 : ((2 ^ 62 : Nat) : Int) = 4611686018427387904 := by decide
    have e3 : (2 : Int) ^ 63 = 9223372036854775808 := by decide
    rw [e2] at h1
    rw [e3]
    omega
  rw [bits_mask .i64 63 (by decide) zi_wrap i (by omega) a (by omega) h]
  simp

theorem zi_and1 (a : Nat) (ha : a < 2 ^ 62) : bits .and .i64 (a : Int) 1 = ((a % 2 : Nat) : Int) := by
  have := zi_mod 1 (by decide) a ha
  simpa using this
theorem zi_and255 (a : Nat) (ha : a < 2 ^ 62) : bits .and .i64 (a : Int) 255 = ((a % 256 : Nat) : Int) := by
  have := zi_mod 8 (by decide) a ha
  simpa using this
theorem zi_and16 (a : Nat) (ha : a < 2 ^ 62) : bits .and .i64 (a : Int) 65535 = ((a % 65536 : Nat) : Int) := by
  have := zi_mod 16 (by decide) a ha
  simpa using this

end Go.Proofs.YtokejgoplalkhabGreatDoor

/-
  xor, and, or of the machine's unsigned numbers as those of natural numbers. No program is spoken of.
-/
namespace Go.Proofs.YtokejgoplalkhabGreatDoor

theorem zu32_wrap (n : Int) (h0 : 0 ≤ n) (h1 : n < 2 ^ 32) : IntKind.u32.wrap n = n := by
  have e : (2 : Int) ^ 32 = 4294967296 := by decide
  rw [e] at h1; rw [IntKind.wrap_u32]; omega
theorem zu8_wrap (n : Int) (h0 : 0 ≤ n) (h1 : n < 2 ^ 8) : IntKind.u8.wrap n = n := by
  have e : (2 : Int) ^ 8 = 256 := by decide
  rw [e] at h1; rw [IntKind.wrap_u8]; omega
theorem zu32_mod (n : Nat) : IntKind.u32.wrap (n : Int) = ((n % 4294967296 : Nat) : Int) := by rw [IntKind.wrap_u32]; omega

theorem zu32_xor (a b : Nat) (ha : a < 4294967296) (hb : b < 4294967296) : bits .xor .u32 (a : Int) (b : Int) = ((a ^^^ b : Nat) : Int) := by
  have e : ∀ n : Nat, n < 4294967296 → (BitVec.ofInt 32 (n : Int)).toNat = n := fun n h => by
    rw [BitVec.ofInt_natCast, BitVec.toNat_ofNat]; exact Nat.mod_eq_of_lt (by omega)
  have hx : a ^^^ b < 2 ^ 32 := Nat.xor_lt_two_pow ha hb
  show IntKind.u32.wrap ((BitVec.ofInt 32 (a : Int) ^^^ BitVec.ofInt 32 (b : Int)).toNat : Int) = _
  rw [BitVec.toNat_xor, e a ha, e b hb]
  exact zu32_wrap _ (by omega) (by exact_mod_cast hx)
theorem zu32_or (a b : Nat) (ha : a < 4294967296) (hb : b < 4294967296) : bits .or .u32 (a : Int) (b : Int) = ((a ||| b : Nat) : Int) := by
  have e : ∀ n : Nat, n < 4294967296 → (BitVec.ofInt 32 (n : Int)).toNat = n := fun n h => by
    rw [BitVec.ofInt_natCast, BitVec.toNat_ofNat]; exact Nat.mod_eq_of_lt (by omega)
  have hx : a ||| b < 2 ^ 32 := Nat.or_lt_two_pow ha hb
  show IntKind.u32.wrap ((BitVec.ofInt 32 (a : Int) ||| BitVec.ofInt 32 (b : Int)).toNat : Int) = _
  rw [BitVec.toNat_or, e a ha, e b hb]
  exact zu32_wrap _ (by omega) (by exact_mod_cast hx)
theorem zu8_xor (a b : Nat) (ha : a < 256) (hb : b < 256) : bits .xor .u8 (a : Int) (b : Int) = ((a ^^^ b : Nat) : Int) := by
  have e : ∀ n : Nat, n < 256 → (BitVec.ofInt 8 (n : Int)).toNat = n := fun n h => by
    rw [BitVec.ofInt_natCast, BitVec.toNat_ofNat]; exact Nat.mod_eq_of_lt (by omega)
  have hx : a ^^^ b < 2 ^ 8 := Nat.xor_lt_two_pow ha hb
  show IntKind.u8.wrap ((BitVec.ofInt 8 (a : Int) ^^^ BitVec.ofInt 8 (b : Int)).toNat : Int) = _
  rw [BitVec.toNat_xor, e a ha, e b hb]
  exact zu8_wrap _ (by omega) (by exact_mod_cast hx)
theorem zu32_and255 (a : Nat) (ha : a < 4294967296) : bits .and .u32 (a : Int) 255 = ((a % 256 : Nat) : Int) := by
  have h1 : (a : Int) < 2 ^ 32 := by exact_mod_cast ha
  have := bits_mask .u32 32 (by decide) zu32_wrap 8 (by omega) a (by omega) h1
  simpa using this

theorem xorlt32 {a b : Nat} (ha : a < 4294967296) (hb : b < 4294967296) : a ^^^ b < 4294967296 := Nat.xor_lt_two_pow (n := 32) ha hb

end Go.Proofs.YtokejgoplalkhabGreatDoor

/-
  The mixer as numbers: what is mixed is turned back. No program is spoken of.
-/
namespace Go.Proofs.YtokejgoplalkhabGreatDoor

def xs16 (x : Nat) : Nat := x ^^^ x / 65536
def xs15 (x : Nat) : Nat := x ^^^ x / 32768
def un15 (x : Nat) : Nat := x ^^^ x / 32768 ^^^ x / 1073741824
def mul32 (k x : Nat) : Nat := x * k % 4294967296

/-- Mixed; turned back. -/
def mixN (x : Nat) : Nat := xs16 (mul32 2221713035 (xs15 (mul32 2146121005 (xs16 x))))
def backN (x : Nat) : Nat := xs16 (mul32 493478565 (un15 (mul32 1124208931 (xs16 x))))

theorem xshift (a b k : Nat) : (a ^^^ b) / 2 ^ k = a / 2 ^ k ^^^ b / 2 ^ k := by
  rw [← Nat.shiftRight_eq_div_pow, ← Nat.shiftRight_eq_div_pow, ← Nat.shiftRight_eq_div_pow, Nat.shiftRight_xor_distrib]

theorem div_small {x k : Nat} (hx : x < 4294967296) : x / k < 4294967296 := Nat.lt_of_le_of_lt (Nat.div_le_self _ _) hx
theorem xs16_lt {x : Nat} (hx : x < 4294967296) : xs16 x < 4294967296 := xorlt32 hx (div_small hx)
theorem xs15_lt {x : Nat} (hx : x < 4294967296) : xs15 x < 4294967296 := xorlt32 hx (div_small hx)
theorem un15_lt {x : Nat} (hx : x < 4294967296) : un15 x < 4294967296 := xorlt32 (xorlt32 hx (div_small hx)) (div_small hx)
theorem mul32_lt (k x : Nat) : mul32 k x < 4294967296 := Nat.mod_lt _ (by decide)
theorem mixN_lt (x : Nat) : mixN x < 4294967296 := xs16_lt (mul32_lt _ _)
theorem backN_lt (x : Nat) : backN x < 4294967296 := xs16_lt (mul32_lt _ _)

theorem xs16_twice {x : Nat} (hx : x < 4294967296) : xs16 (xs16 x) = x := by
  unfold xs16
  have h := xshift x (x / 65536) 16
  rw [show (2 : Nat) ^ 16 = 65536 by rfl] at h
  rw [h, show x / 65536 / 65536 = 0 by omega, Nat.xor_zero, Nat.xor_assoc, Nat.xor_self, Nat.xor_zero]

theorem un15_xs15 {x : Nat} (hx : x < 4294967296) : un15 (xs15 x) = x := by
  unfold un15 xs15
  have h := xshift x (x / 32768) 15
  have g := xshift x (x / 32768) 30
  rw [show (2 : Nat) ^ 15 = 32768 by rfl] at h
  rw [show (2 : Nat) ^ 30 = 1073741824 by rfl] at g
  rw [h, g, show x / 32768 / 32768 = x / 1073741824 by omega, show x / 32768 / 1073741824 = 0 by omega, Nat.xor_zero]
  generalize x / 32768 = a
  generalize x / 1073741824 = b
  rw [Nat.xor_assoc x a, ← Nat.xor_assoc a a b, Nat.xor_self, Nat.zero_xor, Nat.xor_assoc, Nat.xor_self, Nat.xor_zero]

theorem xs15_un15 {x : Nat} (hx : x < 4294967296) : xs15 (un15 x) = x := by
  unfold un15 xs15
  have h := xshift (x ^^^ x / 32768) (x / 1073741824) 15
  have g := xshift x (x / 32768) 15
  rw [show (2 : Nat) ^ 15 = 32768 by rfl] at h g
  rw [h, g, show x / 32768 / 32768 = x / 1073741824 by omega, show x / 1073741824 / 32768 = 0 by omega, Nat.xor_zero]
  generalize x / 32768 = a
  generalize x / 1073741824 = b
  rw [Nat.xor_assoc x a b, Nat.xor_assoc x, Nat.xor_self, Nat.xor_zero]

theorem mul32_mul32 (k j x : Nat) (hx : x < 4294967296) (h : k * j % 4294967296 = 1) : mul32 j (mul32 k x) = x := by
  unfold mul32
  rw [Nat.mod_mul_mod, Nat.mul_assoc, Nat.mul_mod, h, Nat.mul_one, Nat.mod_mod, Nat.mod_eq_of_lt hx]

theorem back_mix {x : Nat} (hx : x < 4294967296) : backN (mixN x) = x := by
  unfold backN mixN
  rw [xs16_twice (mul32_lt _ _), mul32_mul32 _ _ _ (xs15_lt (mul32_lt _ _)) (by decide), un15_xs15 (mul32_lt _ _), mul32_mul32 _ _ _ (xs16_lt hx) (by decide), xs16_twice hx]
theorem mix_back {x : Nat} (hx : x < 4294967296) : mixN (backN x) = x := by
  unfold backN mixN
  rw [xs16_twice (mul32_lt _ _), mul32_mul32 _ _ _ (un15_lt (mul32_lt _ _)) (by decide), xs15_un15 (mul32_lt _ _), mul32_mul32 _ _ _ (xs16_lt hx) (by decide), xs16_twice hx]
theorem mix_inj {x y : Nat} (hx : x < 4294967296) (hy : y < 4294967296) (h : mixN x = mixN y) : x = y := by
  rw [← back_mix hx, ← back_mix hy, h]
theorem back_inj {x y : Nat} (hx : x < 4294967296) (hy : y < 4294967296) (h : backN x = backN y) : x = y := by
  rw [← mix_back hx, ← mix_back hy, h]

theorem mix_eq {x y : Nat} (hx : x < 4294967296) (hy : y < 4294967296) : ((mixN x : Int) == (mixN y : Int)) = ((x : Int) == (y : Int)) := by
  by_cases h : x = y
  · subst h; simp
  · have : mixN x ≠ mixN y := fun e => h (mix_inj hx hy e)
    rw [beq_eq_false_iff_ne.2 (show (x : Int) ≠ y by omega), beq_eq_false_iff_ne]
    omega
theorem back_eq {x y : Nat} (hx : x < 4294967296) (hy : y < 4294967296) : ((backN x : Int) == (backN y : Int)) = ((x : Int) == (y : Int)) := by
  by_cases h : x = y
  · subst h; simp
  · have : backN x ≠ backN y := fun e => h (back_inj hx hy e)
    rw [beq_eq_false_iff_ne.2 (show (x : Int) ≠ y by omega), beq_eq_false_iff_ne]
    omega

theorem mix_one : mixN 1 ≠ 0 := by decide +kernel

end Go.Proofs.YtokejgoplalkhabGreatDoor

/-
  Registers of 16 and 32 bits, fed with bits, as numbers: that feeding is linear, that unlike bits side by side leave unlike registers, that a byte can be fed by a table, that the register is the rest of a division. No function of the program is spoken of.
-/
namespace Go.Proofs.YtokejgoplalkhabGreatDoor
open Go.RowKit

/-- So many times. -/
def times (f : Nat → Nat) : Nat → Nat → Nat
  | 0, x => x
  | k + 1, x => times f k (f x)

theorem times_succ (f : Nat → Nat) : ∀ k x, times f (k + 1) x = f (times f k x)
  | 0, _ => rfl
  | k + 1, x => by
    have := times_succ f k (f x)
    exact this

theorem times_add (f : Nat → Nat) : ∀ j k x, times f (j + k) x = times f k (times f j x)
  | 0, k, x => by rw [Nat.zero_add]; rfl
  | j + 1, k, x => by rw [Nat.add_right_comm]; exact times_add f j k (f x)

/-! ## The register of 32 bits, the lowest bit out first -/

def m32 (x : Nat) : Nat := x / 2 ^^^ (if x % 2 = 1 then 3988292384 else 0)

theorem m32_xor (x y : Nat) : m32 (x ^^^ y) = m32 x ^^^ m32 y := by
  unfold m32
  rw [half_xor, parity_xor, xor4]
  congr 1
  rcases Nat.mod_two_eq_zero_or_one x with hx | hx <;> rcases Nat.mod_two_eq_zero_or_one y with hy | hy
  · simp [hx, hy, show (x + y) % 2 = 0 by omega]
  · simp [hx, hy, show (x + y) % 2 = 1 by omega]
  · simp [hx, hy, show (x + y) % 2 = 1 by omega]
  · simp [hx, hy, show (x + y) % 2 = 0 by omega]

theorem m32_zero : m32 0 = 0 := by decide
theorem m32_two (y : Nat) : m32 (2 * y) = y := by
  unfold m32
  rw [show 2 * y / 2 = y by omega, if_neg (by omega), Nat.xor_zero]
theorem m32_lt {x : Nat} (h : x < 2 ^ 32) : m32 x < 2 ^ 32 := by
  unfold m32
  refine xor_lt (by omega) ?_
  split <;> decide
theorem m32_inj {x : Nat} (h : x < 2 ^ 32) (h0 : m32 x = 0) : x = 0 := by
  unfold m32 at h0
  have := xor_cancel h0
  split at this <;> omega

theorem times_m32_xor : ∀ k x y, times m32 k (x ^^^ y) = times m32 k x ^^^ times m32 k y
  | 0, _, _ => rfl
  | k + 1, x, y => by
    show times m32 k (m32 (x ^^^ y)) = _
    rw [m32_xor]
    exact times_m32_xor k _ _
theorem times_m32_zero : ∀ k, times m32 k 0 = 0
  | 0 => rfl
  | k + 1 => by
    show times m32 k (m32 0) = 0
    rw [m32_zero]
    exact times_m32_zero k
theorem times_m32_lt : ∀ k {x : Nat}, x < 2 ^ 32 → times m32 k x < 2 ^ 32
  | 0, _, h => h
  | k + 1, _, h => times_m32_lt k (m32_lt h)
theorem times_m32_inj : ∀ k {x : Nat}, x < 2 ^ 32 → times m32 k x = 0 → x = 0
  | 0, _, _, h => h
  | k + 1, _, hx, h => m32_inj hx (times_m32_inj k (m32_lt hx) h)
theorem times_m32_shift : ∀ k x, times m32 k (2 ^ k * x) = x
  | 0, x => by rw [Nat.pow_zero, Nat.one_mul]; rfl
  | k + 1, x => by
    show times m32 k (m32 (2 ^ (k + 1) * x)) = x
    rw [Nat.pow_succ, Nat.mul_comm (2 ^ k) 2, Nat.mul_assoc, m32_two]
    exact times_m32_shift k x

/-- Bits fed, one by one. -/
def feed32 (r : Nat) : List Nat → Nat
  | [] => r
  | b :: l => feed32 (m32 (r ^^^ b)) l

theorem feed32_append : ∀ (l m : List Nat) (r : Nat), feed32 r (l ++ m) = feed32 (feed32 r l) m
  | [], _, _ => rfl
  | _ :: l, m, _ => feed32_append l m _

/-- The number that bits spell, the lowest first. -/
def low : List Nat → Nat
  | [] => 0
  | b :: l => b + 2 * low l

def Bits01 (l : List Nat) : Prop := ∀ b ∈ l, b < 2
theorem Bits01.tail {b : Nat} {l : List Nat} (h : Bits01 (b :: l)) : Bits01 l := fun x hx => h x (List.mem_cons_of_mem _ hx)
theorem Bits01.head {b : Nat} {l : List Nat} (h : Bits01 (b :: l)) : b < 2 := h b List.mem_cons_self
theorem Bits01.append {l m : List Nat} (h : Bits01 l) (g : Bits01 m) : Bits01 (l ++ m) := fun x hx => (List.mem_append.1 hx).elim (h x) (g x)
theorem Bits01.left {l m : List Nat} (h : Bits01 (l ++ m)) : Bits01 l := fun x hx => h x (List.mem_append_left _ hx)
theorem Bits01.right {l m : List Nat} (h : Bits01 (l ++ m)) : Bits01 m := fun x hx => h x (List.mem_append_right _ hx)
theorem Bits01.noughts (k : Nat) : Bits01 (List.replicate k 0) := fun x hx => by rw [List.eq_of_mem_replicate hx]; decide

theorem low_lt : ∀ {l : List Nat}, Bits01 l → low l < 2 ^ l.length
  | [], _ => by simp [low]
  | b :: l, h => by
    have h1 := low_lt h.tail
    have h2 := h.head
    rw [low, List.length_cons, Nat.pow_succ]
    omega

theorem bit_xor (b y : Nat) (hb : b < 2) : b + 2 * y = b ^^^ 2 * y := by
  have := push_xor y 0 b (by omega) hb
  rw [Nat.zero_xor, Nat.add_zero, Nat.xor_comm] at this
  omega

/-- Feeding bits is feeding noughts into the register that has these bits turned about. -/
theorem feed32_low : ∀ (l : List Nat) (r : Nat), Bits01 l → feed32 r l = times m32 l.length (r ^^^ low l)
  | [], r, _ => by rw [low, Nat.xor_zero]; rfl
  | b :: l, r, h => by
    rw [feed32, feed32_low l _ h.tail, low, bit_xor b _ h.head, List.length_cons]
    show _ = times m32 l.length (m32 (r ^^^ (b ^^^ 2 * low l)))
    rw [← Nat.xor_assoc, m32_xor (r ^^^ b), m32_two]

theorem low_zero : ∀ {l : List Nat}, Bits01 l → low l = 0 → ∀ b ∈ l, b = 0
  | [], _, _, b, hb => by cases hb
  | c :: l, h, h0, b, hb => by
    rw [low] at h0
    rcases List.mem_cons.1 hb with rfl | hb
    · omega
    · exact low_zero h.tail (by omega) b hb

theorem feed32_lt (l : List Nat) : ∀ {r : Nat}, r < 2 ^ 32 → Bits01 l → feed32 r l < 2 ^ 32 := by
  induction l with
  | nil => intro r h _; exact h
  | cons b l ih => intro r h hb; exact ih (m32_lt (xor_lt h (Nat.lt_of_lt_of_le hb.head (by decide)))) hb.tail

/-- Two texts of bits of one length, bit by bit. -/
def xorBits : List Nat → List Nat → List Nat
  | b :: l, c :: m => (b ^^^ c) :: xorBits l m
  | _, _ => []

theorem feed32_xor : ∀ (l m : List Nat) (r s : Nat), l.length = m.length → feed32 (r ^^^ s) (xorBits l m) = feed32 r l ^^^ feed32 s m
  | [], [], _, _, _ => rfl
  | [], _ :: _, _, _, h => by simp at h
  | _ :: _, [], _, _, h => by simp at h
  | b :: l, c :: m, r, s, h => by
    rw [xorBits, feed32, feed32, feed32, xor4, m32_xor]
    exact feed32_xor l m _ _ (by simpa using h)

theorem feed32_noughts : ∀ k, feed32 0 (List.replicate k 0) = 0
  | 0 => rfl
  | k + 1 => by
    rw [List.replicate_succ, feed32, Nat.xor_zero, m32_zero]
    exact feed32_noughts k

/-- Up to 32 bits side by side, one at least 1, noughts around: the register is not 0. -/
theorem feed32_burst (i j : Nat) (l : List Nat) (hb : Bits01 l) (hl : l.length ≤ 32) (h1 : ∃ b ∈ l, b ≠ 0) : feed32 0 (List.replicate i 0 ++ l ++ List.replicate j 0) ≠ 0 := by
  have hlow : low l < 2 ^ 32 := Nat.lt_of_lt_of_le (low_lt hb) (Nat.pow_le_pow_right (by omega) hl)
  have hz : low (List.replicate j 0) = 0 := by
    induction j with
    | zero => rfl
    | succ j ih => rw [List.replicate_succ, low, ih]
  rw [feed32_append, feed32_append, feed32_noughts, feed32_low l _ hb, Nat.zero_xor, feed32_low _ _ (Bits01.noughts j), hz, Nat.xor_zero]
  intro e
  have := times_m32_inj _ hlow (times_m32_inj _ (times_m32_lt _ hlow) e)
  obtain ⟨b, hm, hne⟩ := h1
  exact hne (low_zero hb this b hm)

/-- A byte's bits, the lowest first. -/
def lows (b : Nat) : List Nat := [b % 2, b / 2 % 2, b / 4 % 2, b / 8 % 2, b / 16 % 2, b / 32 % 2, b / 64 % 2, b / 128 % 2]

theorem lows_01 (b : Nat) : Bits01 (lows b) := fun x hx => by
  simp [lows] at hx
  omega

theorem low_lows (b : Nat) (h : b < 256) : low (lows b) = b := by
  simp [lows, low]
  omega

theorem split256 (x : Nat) : x = 2 ^ 8 * (x / 256) ^^^ x % 256 := by
  apply Nat.eq_of_testBit_eq
  intro i
  rw [Nat.testBit_xor, Nat.testBit_two_pow_mul, show (256 : Nat) = 2 ^ 8 by rfl, Nat.testBit_mod_two_pow, Nat.testBit_div_two_pow]
  by_cases h : i < 8
  · simp [h, Nat.not_le.2 h]
  · simp [h, Nat.not_lt.1 h]

/-- A byte is fed by a table. -/
theorem feed32_byte (r b : Nat) (hb : b < 256) : feed32 r (lows b) = r / 256 ^^^ feed32 0 (lows ((r ^^^ b) % 256)) := by
  rw [feed32_low _ _ (lows_01 b), feed32_low _ _ (lows_01 _), low_lows b hb, low_lows _ (by omega), Nat.zero_xor]
  show times m32 8 (r ^^^ b) = r / 256 ^^^ times m32 8 ((r ^^^ b) % 256)
  conv => lhs; rw [split256 (r ^^^ b), times_m32_xor, times_m32_shift]
  congr 1
  have := xor_div_pow r b 8
  rw [show (2 : Nat) ^ 8 = 256 by rfl, Nat.div_eq_of_lt hb, Nat.xor_zero] at this
  exact this

/-- Behind the register's own bits, each turned about, there is always the same register. -/
theorem feed32_residue (r : Nat) (hr : r < 2 ^ 32) (l : List Nat) (hb : Bits01 l) (hl : l.length = 32) : feed32 r l = 3736805603 ↔ low l = r ^^^ 4294967295 := by
  have e0 : times m32 32 4294967295 = 3736805603 := by decide +kernel
  have hlow : low l < 2 ^ 32 := hl ▸ low_lt hb
  rw [feed32_low l r hb, hl, ← e0]
  constructor
  · intro e
    have h1 : times m32 32 (r ^^^ low l ^^^ 4294967295) = 0 := by rw [times_m32_xor, e, Nat.xor_self]
    have h2 := times_m32_inj 32 (xor_lt (xor_lt hr hlow) (by decide)) h1
    have h3 := xor_cancel h2
    rw [← h3, ← Nat.xor_assoc, Nat.xor_self, Nat.zero_xor]
  · intro e
    rw [e, ← Nat.xor_assoc, Nat.xor_self, Nat.zero_xor]

/-! ## The register of 16 bits, the highest bit out first -/

def n16 (x : Nat) : Nat := 2 * x % 65536 ^^^ (if x / 32768 % 2 = 1 then 4129 else 0)

theorem n16_xor (x y : Nat) : n16 (x ^^^ y) = n16 x ^^^ n16 y := by
  unfold n16
  rw [two_mul_xor, show (65536 : Nat) = 2 ^ 16 by rfl, Nat.xor_mod_two_pow, show (32768 : Nat) = 2 ^ 15 by rfl, xor_div_pow, parity_xor, xor4]
  congr 1
  generalize x / 2 ^ 15 = p
  generalize y / 2 ^ 15 = q
  rcases Nat.mod_two_eq_zero_or_one p with hx | hx <;> rcases Nat.mod_two_eq_zero_or_one q with hy | hy
  · simp [hx, hy, show (p + q) % 2 = 0 by omega]
  · simp [hx, hy, show (p + q) % 2 = 1 by omega]
  · simp [hx, hy, show (p + q) % 2 = 1 by omega]
  · simp [hx, hy, show (p + q) % 2 = 0 by omega]

theorem n16_zero : n16 0 = 0 := by decide
theorem n16_small {y : Nat} (h : y < 32768) : n16 y = 2 * y := by
  unfold n16
  rw [Nat.mod_eq_of_lt (by omega), Nat.div_eq_of_lt h, if_neg (by omega), Nat.xor_zero]
theorem n16_lt (x : Nat) : n16 x < 2 ^ 16 := by
  unfold n16
  refine xor_lt (Nat.mod_lt _ (by decide)) ?_
  split <;> decide
theorem n16_inj {x : Nat} (h : x < 2 ^ 16) (h0 : n16 x = 0) : x = 0 := by
  unfold n16 at h0
  have := xor_cancel h0
  split at this <;> omega

theorem times_n16_xor : ∀ k x y, times n16 k (x ^^^ y) = times n16 k x ^^^ times n16 k y
  | 0, _, _ => rfl
  | k + 1, x, y => by
    show times n16 k (n16 (x ^^^ y)) = _
    rw [n16_xor]
    exact times_n16_xor k _ _
theorem times_n16_zero : ∀ k, times n16 k 0 = 0
  | 0 => rfl
  | k + 1 => by
    show times n16 k (n16 0) = 0
    rw [n16_zero]
    exact times_n16_zero k
theorem times_n16_inj : ∀ k {x : Nat}, x < 2 ^ 16 → times n16 k x = 0 → x = 0
  | 0, _, _, h => h
  | k + 1, _, hx, h => n16_inj hx (times_n16_inj k (n16_lt _) h)
theorem times_n16_lt : ∀ k {x : Nat}, x < 2 ^ 16 → times n16 k x < 2 ^ 16
  | 0, _, h => h
  | k + 1, _, _ => times_n16_lt k (n16_lt _)
theorem times_n16_shift : ∀ k {x : Nat}, k ≤ 16 → x < 2 ^ (16 - k) → times n16 k x = 2 ^ k * x
  | 0, x, _, _ => by rw [Nat.pow_zero, Nat.one_mul]; rfl
  | k + 1, x, hk, h => by
    have h1 : 2 ^ (16 - (k + 1)) ≤ 2 ^ 15 := Nat.pow_le_pow_right (by omega) (by omega)
    show times n16 k (n16 x) = 2 ^ (k + 1) * x
    rw [n16_small (by omega), times_n16_shift k (by omega) (by rw [show 16 - k = 16 - (k + 1) + 1 by omega, Nat.pow_succ]; omega), Nat.pow_succ, Nat.mul_assoc]

def feed16 (r : Nat) : List Nat → Nat
  | [] => r
  | b :: l => feed16 (n16 (r ^^^ b * 32768)) l

theorem feed16_append : ∀ (l m : List Nat) (r : Nat), feed16 r (l ++ m) = feed16 (feed16 r l) m
  | [], _, _ => rfl
  | _ :: l, m, _ => feed16_append l m _

/-- The number that bits spell, the highest first. -/
def high : List Nat → Nat
  | [] => 0
  | b :: l => b * 2 ^ l.length + high l

theorem high_lt : ∀ {l : List Nat}, Bits01 l → high l < 2 ^ l.length
  | [], _ => by simp [high]
  | b :: l, h => by
    have h1 := high_lt h.tail
    have h2 := h.head
    rw [high, List.length_cons, Nat.pow_succ]
    have : b * 2 ^ l.length ≤ 1 * 2 ^ l.length := Nat.mul_le_mul_right _ (by omega)
    omega

theorem high_zero : ∀ {l : List Nat}, high l = 0 → ∀ b ∈ l, b = 0
  | [], _, b, hb => by cases hb
  | c :: l, h0, b, hb => by
    rw [high] at h0
    have hp := Nat.two_pow_pos l.length
    rcases List.mem_cons.1 hb with rfl | hb
    · exact Decidable.byContradiction fun h => by
        have : 1 * 2 ^ l.length ≤ b * 2 ^ l.length := Nat.mul_le_mul_right _ (by omega)
        omega
    · exact high_zero (by omega) b hb

theorem feed16_high : ∀ (l : List Nat) (r : Nat), Bits01 l → l.length ≤ 16 → feed16 r l = times n16 l.length (r ^^^ high l * 2 ^ (16 - l.length))
  | [], r, _, _ => by rw [high, Nat.zero_mul, Nat.xor_zero]; rfl
  | b :: l, r, h, hk => by
    have hk' : l.length + 1 ≤ 16 := hk
    have h1 := high_lt h.tail
    have hy : high l * 2 ^ (15 - l.length) < 2 ^ 15 := by
      have e : (2 : Nat) ^ 15 = 2 ^ l.length * 2 ^ (15 - l.length) := by rw [← Nat.pow_add]; congr 1; omega
      rw [e]
      exact Nat.mul_lt_mul_of_pos_right h1 (Nat.two_pow_pos _)
    have e1 : high l * 2 ^ (16 - l.length) = 2 * (high l * 2 ^ (15 - l.length)) := by
      rw [show 16 - l.length = 15 - l.length + 1 by omega, Nat.pow_succ, ← Nat.mul_assoc, Nat.mul_comm]
    have e2 : high (b :: l) * 2 ^ (16 - (b :: l).length) = b * 32768 ^^^ high l * 2 ^ (15 - l.length) := by
      rw [high, List.length_cons, show 16 - (l.length + 1) = 15 - l.length by omega, Nat.add_mul, Nat.mul_assoc, ← Nat.pow_add, show l.length + (15 - l.length) = 15 by omega]
      generalize high l * 2 ^ (15 - l.length) = y at hy
      have hb := h.head
      apply Nat.eq_of_testBit_eq
      intro i
      rw [Nat.mul_comm b, Nat.testBit_two_pow_mul_add _ hy, Nat.testBit_xor, Nat.testBit_two_pow_mul]
      by_cases hi : i < 15
      · simp [hi, Nat.not_le.2 hi]
      · rw [if_neg hi, Nat.testBit_lt_two_pow (Nat.lt_of_lt_of_le hy (Nat.pow_le_pow_right (by omega) (by omega)))]
        simp [Nat.not_lt.1 hi]
    rw [feed16, feed16_high l _ h.tail (by omega), e2, e1]
    show _ = times n16 l.length (n16 (r ^^^ (b * 32768 ^^^ high l * 2 ^ (15 - l.length))))
    rw [← Nat.xor_assoc, n16_xor (r ^^^ b * 32768), n16_small hy]

theorem feed16_xor : ∀ (l m : List Nat) (r s : Nat), l.length = m.length → feed16 (r ^^^ s) (xorBits l m) = feed16 r l ^^^ feed16 s m
  | [], [], _, _, _ => rfl
  | [], _ :: _, _, _, h => by simp at h
  | _ :: _, [], _, _, h => by simp at h
  | b :: l, c :: m, r, s, h => by
    rw [xorBits, feed16, feed16, feed16, show (32768 : Nat) = 2 ^ 15 by rfl, mul_pow_xor, xor4, n16_xor]
    exact feed16_xor l m _ _ (by simpa using h)

theorem feed16_noughts : ∀ k, feed16 0 (List.replicate k 0) = 0
  | 0 => rfl
  | k + 1 => by
    rw [List.replicate_succ, feed16, Nat.zero_mul, Nat.xor_zero, n16_zero]
    exact feed16_noughts k

theorem feed16_lt (l : List Nat) : ∀ {r : Nat}, r < 2 ^ 16 → feed16 r l < 2 ^ 16 := by
  induction l with
  | nil => intro r h; exact h
  | cons b l ih => intro r _; exact ih (n16_lt _)

/-- Noughts turn no register that is not 0 to 0. -/
theorem feed16_behind : ∀ (j : Nat) {r : Nat}, r < 2 ^ 16 → feed16 r (List.replicate j 0) = 0 → r = 0
  | 0, _, _, h => h
  | j + 1, r, hr, h => by
    rw [List.replicate_succ, feed16, Nat.zero_mul, Nat.xor_zero] at h
    exact n16_inj hr (feed16_behind j (n16_lt _) h)

theorem feed16_burst (i j : Nat) (l : List Nat) (hb : Bits01 l) (hl : l.length ≤ 16) (h1 : ∃ b ∈ l, b ≠ 0) : feed16 0 (List.replicate i 0 ++ l ++ List.replicate j 0) ≠ 0 := by
  have hE : high l * 2 ^ (16 - l.length) < 2 ^ 16 := by
    have e : (2 : Nat) ^ 16 = 2 ^ l.length * 2 ^ (16 - l.length) := by rw [← Nat.pow_add]; congr 1; omega
    rw [e]
    exact Nat.mul_lt_mul_of_pos_right (high_lt hb) (Nat.two_pow_pos _)
  rw [feed16_append, feed16_append, feed16_noughts, feed16_high l _ hb hl, Nat.zero_xor]
  intro e
  have h2 := times_n16_inj _ hE (feed16_behind j (times_n16_lt _ hE) e)
  have h3 : high l = 0 := (Nat.mul_eq_zero.1 h2).resolve_right (Nat.ne_of_gt (Nat.two_pow_pos _))
  obtain ⟨b, hm, hne⟩ := h1
  exact hne (high_zero h3 b hm)

/-- A byte's bits, the highest first. -/
def highs (b : Nat) : List Nat := [b / 128 % 2, b / 64 % 2, b / 32 % 2, b / 16 % 2, b / 8 % 2, b / 4 % 2, b / 2 % 2, b % 2]

theorem highs_01 (b : Nat) : Bits01 (highs b) := fun x hx => by
  simp [highs] at hx
  omega

theorem high_highs (b : Nat) (h : b < 256) : high (highs b) = b := by
  simp [highs, high]
  omega

theorem feed16_byte (r b : Nat) (hr : r < 65536) (hb : b < 256) : feed16 r (highs b) = r * 256 % 65536 ^^^ feed16 0 (highs (r / 256 ^^^ b)) := by
  have hh : r / 256 ^^^ b < 2 ^ 8 := xor_lt (by omega) hb
  rw [feed16_high _ _ (highs_01 b) (by simp [highs]), feed16_high _ _ (highs_01 _) (by simp [highs]), high_highs b hb, high_highs _ hh, Nat.zero_xor]
  show times n16 8 (r ^^^ b * 2 ^ 8) = r * 256 % 65536 ^^^ times n16 8 ((r / 256 ^^^ b) * 2 ^ 8)
  have e : r ^^^ b * 2 ^ 8 = r % 256 ^^^ (r / 256 ^^^ b) * 2 ^ 8 := by
    conv => lhs; rw [split256 r, Nat.mul_comm (2 ^ 8), Nat.xor_comm (r / 256 * 2 ^ 8), Nat.xor_assoc]
    rw [mul_pow_xor]
  rw [e, times_n16_xor, times_n16_shift 8 (by decide) (Nat.mod_lt _ (by decide))]
  congr 1
  omega

/-! ## Rests of divisions -/

/-- One step of a register of d bits, the highest first, in a division by 2^d + p. -/
def nstep (d p x : Nat) : Nat := 2 * x % 2 ^ d ^^^ (if x / 2 ^ (d - 1) % 2 = 1 then p else 0)

def nfeed (d p r : Nat) : List Nat → Nat
  | [] => r
  | b :: l => nfeed d p (nstep d p (r ^^^ b * 2 ^ (d - 1))) l

theorem nfeed_append (d p : Nat) : ∀ (l m : List Nat) (r : Nat), nfeed d p r (l ++ m) = nfeed d p (nfeed d p r l) m
  | [], _, _ => rfl
  | _ :: l, m, _ => nfeed_append d p l m _

theorem nstep_lt {d p : Nat} (hp : p < 2 ^ d) (x : Nat) : nstep d p x < 2 ^ d := by
  unfold nstep
  refine xor_lt (Nat.mod_lt _ (Nat.two_pow_pos _)) ?_
  split
  · exact hp
  · exact Nat.two_pow_pos _

theorem nfeed_lt {d p : Nat} (hp : p < 2 ^ d) (l : List Nat) : ∀ {r : Nat}, r < 2 ^ d → nfeed d p r l < 2 ^ d := by
  induction l with
  | nil => intro r h; exact h
  | cons b l ih => intro r _; exact ih (nstep_lt hp _)

theorem top_xor {d p : Nat} (hp : p < 2 ^ d) : 2 ^ d + p = 2 ^ d ^^^ p := by
  apply Nat.eq_of_testBit_eq
  intro i
  have := Nat.testBit_two_pow_mul_add 1 hp i
  rw [Nat.mul_one] at this
  rw [this, Nat.testBit_xor, Nat.testBit_two_pow]
  by_cases h : i < d
  · simp [h, show ¬ d = i by omega]
  · rw [if_neg h, Nat.testBit_lt_two_pow (Nat.lt_of_lt_of_le hp (Nat.pow_le_pow_right (by omega) (by omega)))]
    by_cases e : d = i
    · subst e; simp
    · obtain ⟨k, hk⟩ : ∃ k, i - d = k + 1 := ⟨i - d - 1, by omega⟩
      rw [hk, Nat.testBit_succ]
      simp [e]

/-- One step takes off a multiple of the divisor. -/
theorem nstep_rest {d p : Nat} (hd : 0 < d) (hp : p < 2 ^ d) (x : Nat) (hx : x < 2 ^ d) : ∃ t, 2 * x = cl t (2 ^ d + p) ^^^ nstep d p x := by
  unfold nstep
  obtain ⟨s, rfl⟩ : ∃ s, d = s + 1 := ⟨d - 1, by omega⟩
  rw [Nat.add_sub_cancel]
  by_cases h : x < 2 ^ s
  · refine ⟨0, ?_⟩
    rw [cl_zero, Nat.zero_xor, Nat.div_eq_of_lt h, if_neg (by omega), Nat.xor_zero, Nat.mod_eq_of_lt (by rw [Nat.pow_succ]; omega)]
  · refine ⟨1, ?_⟩
    have e1 : x / 2 ^ s = 1 := Nat.div_eq_of_lt_le (by omega) (by rw [Nat.pow_succ] at hx; omega)
    rw [cl_one, e1, if_pos (by decide), top_xor hp]
    have e2 : 2 * x = 2 ^ (s + 1) ^^^ 2 * x % 2 ^ (s + 1) := by
      have hm : 2 * x % 2 ^ (s + 1) < 2 ^ (s + 1) := Nat.mod_lt _ (Nat.two_pow_pos _)
      rw [← top_xor hm]
      have : 2 * x / 2 ^ (s + 1) = 1 := Nat.div_eq_of_lt_le (by rw [Nat.pow_succ]; omega) (by omega)
      have h3 := Nat.div_add_mod (2 * x) (2 ^ (s + 1))
      rw [this, Nat.mul_one] at h3
      exact h3.symm
    rw [Nat.xor_assoc, Nat.xor_comm p, Nat.xor_assoc, Nat.xor_self, Nat.xor_zero]
    exact e2

theorem high_snoc (l : List Nat) (b : Nat) : high (l ++ [b]) = 2 * high l + b := by
  induction l with
  | nil => simp [high]
  | cons c l ih =>
    rw [List.cons_append, high, ih, high, List.length_append, List.length_singleton, Nat.pow_succ]
    have : c * (2 ^ l.length * 2) = 2 * (c * 2 ^ l.length) := by rw [← Nat.mul_assoc, Nat.mul_comm]
    omega

/-- The register is the rest: of the bits, as many noughts behind as it has bits, and what it began with ahead. -/
theorem nfeed_rest {d p : Nat} (hd : 0 < d) (hp : p < 2 ^ d) (r : Nat) (hr : r < 2 ^ d) (l : List Nat) (hb : Bits01 l) : ∃ q, r * 2 ^ l.length ^^^ high l * 2 ^ d = cl q (2 ^ d + p) ^^^ nfeed d p r l := by
  obtain ⟨n, hn⟩ : ∃ n, n = l.length := ⟨_, rfl⟩
  induction n generalizing l with
  | zero =>
    obtain rfl : l = [] := List.length_eq_zero_iff.1 hn.symm
    exact ⟨0, by simp [high, nfeed, cl_zero]⟩
  | succ n ih =>
    obtain ⟨m, b, rfl⟩ : ∃ m b, l = m ++ [b] := ⟨l.dropLast, l.getLast (fun e => by rw [e] at hn; simp at hn), (List.dropLast_concat_getLast _).symm⟩
    have hlen : n = m.length := by simp at hn; omega
    obtain ⟨q, hq⟩ := ih m hb.left hlen
    have hb2 : b < 2 := hb.right b (by simp)
    have hfl := nfeed_lt (d := d) hp m hr
    have hxl : nfeed d p r m ^^^ b * 2 ^ (d - 1) < 2 ^ d := by
      refine xor_lt hfl ?_
      obtain ⟨s, rfl⟩ : ∃ s, d = s + 1 := ⟨d - 1, by omega⟩
      rw [Nat.add_sub_cancel, Nat.pow_succ]
      have : b * 2 ^ s ≤ 1 * 2 ^ s := Nat.mul_le_mul_right _ (by omega)
      have := Nat.two_pow_pos s
      omega
    obtain ⟨t, ht⟩ := nstep_rest hd hp _ hxl
    refine ⟨2 * q ^^^ t, ?_⟩
    rw [nfeed_append]
    show _ = _ ^^^ nstep d p (nfeed d p r m ^^^ b * 2 ^ (d - 1))
    have e1 : high (m ++ [b]) * 2 ^ d = 2 * (high m * 2 ^ d) ^^^ 2 * (b * 2 ^ (d - 1)) := by
      have e0 : 2 * high m + b = 2 * high m ^^^ b := by
        have := push_xor (high m) 0 b (by omega) hb2
        rw [Nat.zero_xor, Nat.add_zero] at this
        exact this
      rw [high_snoc, e0, mul_pow_xor]
      congr 1
      · rw [Nat.mul_assoc]
      · obtain ⟨s, rfl⟩ : ∃ s, d = s + 1 := ⟨d - 1, by omega⟩
        rw [Nat.add_sub_cancel, Nat.pow_succ, ← Nat.mul_assoc, Nat.mul_comm]
    have e2 : r * 2 ^ (m ++ [b]).length = 2 * (r * 2 ^ m.length) := by
      rw [List.length_append, List.length_singleton, Nat.pow_succ, ← Nat.mul_assoc, Nat.mul_comm]
    rw [e1, e2, ← Nat.xor_assoc, ← two_mul_xor, hq, ← two_mul_xor, cl_xor_left, cl_two_mul, Nat.xor_assoc (2 * cl q (2 ^ d + p)), ← ht, two_mul_xor, two_mul_xor, two_mul_xor, Nat.xor_assoc]

theorem feed16_nfeed : ∀ (l : List Nat) (r : Nat), feed16 r l = nfeed 16 4129 r l
  | [], _ => rfl
  | b :: l, r => by
    rw [feed16, nfeed]
    exact feed16_nfeed l _

/-! ## The other way about -/

/-- The lowest k bits, the other way about. -/
def rev : Nat → Nat → Nat
  | 0, _ => 0
  | k + 1, x => 2 * rev k x + x / 2 ^ k % 2

theorem rev_lt : ∀ k x, rev k x < 2 ^ k
  | 0, _ => by simp [rev]
  | k + 1, x => by
    have := rev_lt k x
    rw [rev, Nat.pow_succ]
    omega

theorem rev_bit : ∀ (k x i : Nat), (rev k x).testBit i = (decide (i < k) && x.testBit (k - 1 - i))
  | 0, x, i => by simp [rev]
  | k + 1, x, 0 => by
    rw [rev, Nat.testBit_zero]
    have : (2 * rev k x + x / 2 ^ k % 2) % 2 = x / 2 ^ k % 2 := by omega
    rw [this]
    simp [Nat.testBit_eq_decide_div_mod_eq]
  | k + 1, x, i + 1 => by
    rw [rev, Nat.testBit_succ]
    have : (2 * rev k x + x / 2 ^ k % 2) / 2 = rev k x := by omega
    rw [this, rev_bit k x i]
    have e : k + 1 - 1 - (i + 1) = k - 1 - i := by omega
    rw [e]
    by_cases h : i < k
    · simp [h]
    · simp [h]

theorem rev_xor (k x y : Nat) : rev k (x ^^^ y) = rev k x ^^^ rev k y := by
  apply Nat.eq_of_testBit_eq
  intro i
  rw [Nat.testBit_xor, rev_bit, rev_bit, rev_bit, Nat.testBit_xor]
  by_cases h : i < k
  · simp [h]
  · simp [h]

theorem rev_step (x : Nat) : rev 32 (nstep 32 79764919 x) = m32 (rev 32 x) := by
  have e1 : rev 32 (2 * x % 2 ^ 32) = rev 32 x / 2 := by
    apply Nat.eq_of_testBit_eq
    intro i
    rw [rev_bit, Nat.testBit_mod_two_pow, ← Nat.testBit_succ, rev_bit]
    by_cases h : i + 1 < 32
    · have e : 32 - 1 - i = 32 - 1 - (i + 1) + 1 := by omega
      rw [e, Nat.testBit_succ, show 2 * x / 2 = x by omega]
      simp [h, show i < 32 by omega]
      omega
    · by_cases h2 : i = 31
      · subst h2
        simp [Nat.testBit_zero]
      · simp [h, show ¬ i < 32 by omega]
  have e2 : rev 32 79764919 = 3988292384 := by decide +kernel
  have e3 : rev 32 x % 2 = x / 2 ^ (32 - 1) % 2 := by
    show (2 * rev 31 x + x / 2 ^ 31 % 2) % 2 = x / 2 ^ 31 % 2
    omega
  unfold nstep m32
  rw [rev_xor, e1, e3]
  congr 1
  split
  · exact e2
  · decide +kernel

theorem rev_top (b : Nat) (hb : b < 2) : rev 32 (b * 2 ^ (32 - 1)) = b := by
  obtain rfl | rfl : b = 0 ∨ b = 1 := by omega
  · decide +kernel
  · decide +kernel

/-- The register whose lowest bit goes out first is the other, the other way about. -/
theorem feed32_rev : ∀ (l : List Nat) (r : Nat), Bits01 l → feed32 (rev 32 r) l = rev 32 (nfeed 32 79764919 r l)
  | [], _, _ => rfl
  | b :: l, r, h => by
    rw [feed32, nfeed, ← feed32_rev l _ h.tail, rev_step, rev_xor, rev_top b h.head]

end Go.Proofs.YtokejgoplalkhabGreatDoor

/-
  Texts of bytes and their sums as numbers: bits, sums, seals. No function of the program is spoken of.
-/
namespace Go.Proofs.YtokejgoplalkhabGreatDoor
open Go.RowKit

theorem shift16_num (r b : Nat) (hr : r < 65536) (hb : b < 2) : n16 (r ^^^ b * 32768) = 2 * r % 65536 ^^^ (if r / 32768 = b then 0 else 4129) := by
  have e : n16 (b * 32768) = if b = 1 then 4129 else 0 := by
    obtain rfl | rfl : b = 0 ∨ b = 1 := by omega
    · decide
    · decide
  rw [n16_xor, e]
  unfold n16
  rw [Nat.xor_assoc]
  congr 1
  have h2 : r / 32768 < 2 := by omega
  generalize r / 32768 = t at h2
  obtain rfl | rfl : t = 0 ∨ t = 1 := by omega
  all_goals obtain rfl | rfl : b = 0 ∨ b = 1 := by omega
  all_goals simp

theorem shift32_num (r b : Nat) (hb : b < 2) : m32 (r ^^^ b) = r / 2 ^^^ (if r % 2 = b then 0 else 3988292384) := by
  unfold m32
  rw [half_xor, parity_xor, show b / 2 = 0 by omega, Nat.xor_zero]
  congr 1
  have h2 := Nat.mod_two_eq_zero_or_one r
  by_cases h : r % 2 = b
  · rw [if_pos h, if_neg (by omega)]
  · rw [if_neg h, if_pos (by omega)]

/-- A text's bits, of each byte the highest first; the lowest first. -/
def textHigh (xs : List Int) : List Nat := xs.flatMap fun z => highs z.toNat
def textLow (xs : List Int) : List Nat := xs.flatMap fun z => lows z.toNat

theorem textHigh_01 (xs : List Int) : Bits01 (textHigh xs) := fun b hb => by
  obtain ⟨z, _, h⟩ := List.mem_flatMap.1 hb
  exact highs_01 _ b h
theorem textLow_01 (xs : List Int) : Bits01 (textLow xs) := fun b hb => by
  obtain ⟨z, _, h⟩ := List.mem_flatMap.1 hb
  exact lows_01 _ b h
theorem textHigh_len (xs : List Int) : (textHigh xs).length = 8 * xs.length := by
  induction xs with
  | nil => rfl
  | cons z xs ih => rw [textHigh, List.flatMap_cons, List.length_append]; unfold textHigh at ih; rw [ih]; simp [highs]; omega

theorem highs_get (b j : Nat) (hj : j < 8) : (highs b)[j]? = some (b / 2 ^ (7 - j) % 2) := by
  match j, hj with
  | 0, _ => rfl
  | 1, _ => rfl
  | 2, _ => rfl
  | 3, _ => rfl
  | 4, _ => rfl
  | 5, _ => rfl
  | 6, _ => rfl
  | 7, _ => simp [highs]

theorem lows_get (b j : Nat) (hj : j < 8) : (lows b)[j]? = some (b / 2 ^ j % 2) := by
  match j, hj with
  | 0, _ => simp [lows]
  | 1, _ => rfl
  | 2, _ => rfl
  | 3, _ => rfl
  | 4, _ => rfl
  | 5, _ => rfl
  | 6, _ => rfl
  | 7, _ => rfl

theorem textHigh_get {xs : List Int} {k : Nat} {z : Int} (hz : xs[k / 8]? = some z) : (textHigh xs)[k]? = some (z.toNat / 2 ^ (7 - k % 8) % 2) := by
  have hlt : k / 8 < xs.length := (List.getElem?_eq_some_iff.1 hz).1
  have e : xs = xs.take (k / 8) ++ z :: xs.drop (k / 8 + 1) := by
    have : xs[k / 8] = z := (List.getElem?_eq_some_iff.1 hz).2
    rw [← this, ← List.drop_eq_getElem_cons hlt, List.take_append_drop]
  have hl : (textHigh (xs.take (k / 8))).length = 8 * (k / 8) := by rw [textHigh_len, List.length_take]; omega
  have e2 : textHigh xs = textHigh (xs.take (k / 8)) ++ (highs z.toNat ++ textHigh (xs.drop (k / 8 + 1))) := by
    conv => lhs; rw [e]
    unfold textHigh
    rw [List.flatMap_append, List.flatMap_cons]
  rw [e2, List.getElem?_append_right (by omega), hl, show k - 8 * (k / 8) = k % 8 by omega, List.getElem?_append_left (by show k % 8 < 8; omega)]
  exact highs_get _ _ (by omega)

theorem textHigh_next {xs : List Int} {k : Nat} {z : Int} (hz : xs[k / 8]? = some z) : (textHigh xs).take (k + 1) = (textHigh xs).take k ++ [z.toNat / 2 ^ (7 - k % 8) % 2] := by
  rw [List.take_add_one, textHigh_get hz]; rfl

def cellN (n : Nat) : Value := .int .i64 (n : Int)

theorem and1_of (z : Int) (j : Nat) (h0 : 0 ≤ z) (h1 : z ≤ 255) : bits .and .i64 (z / 2 ^ j) 1 = ((z.toNat / 2 ^ j % 2 : Nat) : Int) := by
  obtain ⟨n, rfl⟩ := Int.eq_ofNat_of_zero_le h0
  have e : ((n : Nat) : Int) / 2 ^ j = ((n / 2 ^ j : Nat) : Int) := by simp
  have hle : n / 2 ^ j ≤ n := Nat.div_le_self _ _
  rw [e, zi_and1 _ (by omega)]
  rfl

theorem feed16_snoc (r : Nat) (l : List Nat) (b : Nat) : feed16 r (l ++ [b]) = n16 (feed16 r l ^^^ b * 32768) := by rw [feed16_append]; rfl
theorem feed32_snoc (r : Nat) (l : List Nat) (b : Nat) : feed32 r (l ++ [b]) = m32 (feed32 r l ^^^ b) := by rw [feed32_append]; rfl

/-- The sums of a text. -/
def sum16 (xs : List Int) : Nat := feed16 65535 (textHigh xs)
def reg32 (xs : List Int) : Nat := feed32 4294967295 (textLow xs)
def sum32 (xs : List Int) : Nat := reg32 xs ^^^ 4294967295

theorem sum16_lt (xs : List Int) : sum16 xs < 65536 := feed16_lt _ (by decide)
theorem reg32_lt (xs : List Int) : reg32 xs < 4294967296 := feed32_lt _ (by decide) (textLow_01 xs)
theorem sum32_lt (xs : List Int) : sum32 xs < 4294967296 := xor_lt (k := 32) (reg32_lt xs) (by decide)

theorem textLow_next {xs : List Int} {k : Nat} {z : Int} (hz : xs[k]? = some z) : textLow (xs.take (k + 1)) = textLow (xs.take k) ++ lows z.toNat := by
  rw [List.take_add_one, hz, Option.toList_some]
  unfold textLow
  rw [List.flatMap_append]
  simp

/-- A number's four bytes, the lowest first; a text, sealed. -/
def four (s : Nat) : List Int := [((s % 256 : Nat) : Int), ((s / 256 % 256 : Nat) : Int), ((s / 65536 % 256 : Nat) : Int), ((s / 16777216 % 256 : Nat) : Int)]
def sealL (xs : List Int) : List Int := xs ++ four (sum32 xs)

theorem four_bd (s : Nat) : ∀ z ∈ four s, 0 ≤ z ∧ z ≤ 255 := fun z hz => by
  simp [four] at hz
  omega

/-- Is it sealed? -/
def isSealed (xs : List Int) : Bool := decide (4 ≤ xs.length) && decide (sealL (xs.take (xs.length - 4)) = xs)

theorem holds_takeB {kd : IntKind} {n₀ cap : Nat} {w : World} {a : Option Addr} {zs : List Int} (h : Holds kd n₀ w (.slice a zs.length cap) zs) (k : Nat) (hk : k ≤ zs.length) : Holds kd n₀ w (.slice a (zs.take k).length cap) (zs.take k) := by
  rcases h with ⟨⟨a', c', e, ha⟩, hz⟩ | ⟨b, off, c', e, hb, hc⟩
  · subst hz
    cases e
    exact .inl ⟨⟨_, _, by simp, ha⟩, by simp⟩
  · cases e
    refine .inr ⟨b, off, cap, rfl, hb, fun j hj => ?_⟩
    rw [List.length_take] at hj
    rw [hc j (by omega), List.getElem?_take, if_pos (by omega)]

end Go.Proofs.YtokejgoplalkhabGreatDoor
