/-
  Rows of 0 and 1 as numbers: the number that a row spells (the first place is the highest), sums as xor, products without carries, that they are a ring, that a rest is there just once. No function of the program is spoken of.
-/
import Derived.Test.YtmjidhnlofpliabM01
import Derived.WalkLawsBesides
import Derived.WalkSpells
namespace Go.Proofs.Ytmjidhnlofpliab
open Go.RowKit

/-- Nothing but 0 and 1. -/
def Bin (l : List Int) : Prop := ∀ x ∈ l, x = 0 ∨ x = 1

/-- The number that a row spells, behind what was spelt already. -/
def valFrom (n : Nat) : List Int → Nat
  | [] => n
  | x :: l => valFrom (2 * n + x.toNat) l

def val (l : List Int) : Nat := valFrom 0 l

/-- Trimmed: 0 and 1 alone, and no 0 first. -/
def Tr (l : List Int) : Prop := Bin l ∧ l.head? ≠ some 0

theorem Bin.nil : Bin [] := fun x h => by cases h
theorem Bin.tail {x : Int} {l : List Int} (h : Bin (x :: l)) : Bin l := fun y hy => h y (List.mem_cons_of_mem _ hy)
theorem Bin.head {x : Int} {l : List Int} (h : Bin (x :: l)) : x = 0 ∨ x = 1 := h x (List.mem_cons_self)
theorem Bin.append {l m : List Int} (h : Bin l) (g : Bin m) : Bin (l ++ m) := fun x hx => (List.mem_append.1 hx).elim (h x) (g x)
theorem Bin.left {l m : List Int} (h : Bin (l ++ m)) : Bin l := fun x hx => h x (List.mem_append_left _ hx)
theorem Bin.right {l m : List Int} (h : Bin (l ++ m)) : Bin m := fun x hx => h x (List.mem_append_right _ hx)
theorem Bin.take {l : List Int} (h : Bin l) (k : Nat) : Bin (l.take k) := fun x hx => h x (List.mem_of_mem_take hx)
theorem Bin.drop {l : List Int} (h : Bin l) (k : Nat) : Bin (l.drop k) := fun x hx => h x (List.mem_of_mem_drop hx)
theorem Bin.noughts (k : Nat) : Bin (List.replicate k 0) := fun _ hx => .inl (List.eq_of_mem_replicate hx)
theorem Bin.set {l : List Int} (h : Bin l) (k : Nat) {x : Int} (hx : x = 0 ∨ x = 1) : Bin (l.set k x) := fun y hy => (List.mem_or_eq_of_mem_set hy).elim (h y) (fun e => e ▸ hx)
theorem Bin.get {l : List Int} (h : Bin l) {k : Nat} {x : Int} (e : l[k]? = some x) : x = 0 ∨ x = 1 := h x (List.mem_of_getElem? e)
theorem Tr.nil : Tr [] := ⟨Bin.nil, by simp⟩

theorem valFrom_eq (l : List Int) : ∀ n, valFrom n l = n * 2 ^ l.length + val l := by
  induction l with
  | nil => intro n; simp [valFrom, val]
  | cons x l ih =>
    intro n
    have e : val (x :: l) = valFrom (2 * 0 + x.toNat) l := rfl
    rw [e, valFrom, ih, ih, List.length_cons, Nat.pow_succ]
    have : (2 * n + x.toNat) * 2 ^ l.length = n * (2 ^ l.length * 2) + x.toNat * 2 ^ l.length := by rw [Nat.add_mul, Nat.mul_comm 2 n, Nat.mul_assoc, Nat.mul_comm 2]
    rw [this]; simp; omega

theorem val_nil : val [] = 0 := rfl
theorem val_cons (x : Int) (l : List Int) : val (x :: l) = x.toNat * 2 ^ l.length + val l := by
  have : val (x :: l) = valFrom (2 * 0 + x.toNat) l := rfl
  rw [this, valFrom_eq]; simp
theorem val_lt {l : List Int} (h : Bin l) : val l < 2 ^ l.length := by
  induction l with
  | nil => simp [val_nil]
  | cons x l ih =>
    have := ih h.tail
    rw [val_cons, List.length_cons, Nat.pow_succ]
    rcases h.head with rfl | rfl
    · simp; omega
    · simp; omega

theorem Tr.ge {l : List Int} (h : Tr l) (h0 : l ≠ []) : 2 ^ l.length ≤ 2 * val l := by
  cases l with
  | nil => exact absurd rfl h0
  | cons x l =>
    have : x = 1 := h.1.head.elim (fun e => absurd (by rw [e]; rfl) h.2) id
    rw [val_cons, List.length_cons, Nat.pow_succ, this]; simp; omega

/-- A trimmed row is as long as its number is great. -/
theorem Tr.len_le {l : List Int} (h : Tr l) {k : Nat} (hk : val l < 2 ^ k) : l.length ≤ k := by
  by_cases h0 : l = []
  · rw [h0]; simp
  · have := h.ge h0
    apply Nat.le_of_not_lt
    intro hlt
    have : 2 ^ (k + 1) ≤ 2 ^ l.length := Nat.pow_le_pow_right (by omega) hlt
    rw [Nat.pow_succ] at this
    omega

theorem val_inj : ∀ {l m : List Int}, Bin l → Bin m → l.length = m.length → val l = val m → l = m
  | [], [], _, _, _, _ => rfl
  | [], _ :: _, _, _, h, _ => by simp at h
  | _ :: _, [], _, _, h, _ => by simp at h
  | x :: l, y :: m, hl, hm, h, e => by
    have h' : l.length = m.length := by simpa using h
    have a := val_lt hl.tail
    have b := val_lt hm.tail
    rw [val_cons, val_cons, h'] at e
    rw [h'] at a
    have hxy : x = y := by
      rcases hl.head with rfl | rfl <;> rcases hm.head with rfl | rfl
      · rfl
      · simp at e; omega
      · simp at e; omega
      · rfl
    subst hxy
    rw [val_inj hl.tail hm.tail h' (by omega)]

/-- Trimmed rows of one number are one row. -/
theorem Tr.inj {l m : List Int} (hl : Tr l) (hm : Tr m) (e : val l = val m) : l = m :=
  val_inj hl.1 hm.1 (Nat.le_antisymm (hl.len_le (e ▸ val_lt hm.1)) (hm.len_le (e ▸ val_lt hl.1))) e

/-! ## Numbers: xor, and the product without carries -/

theorem half_xor (a b : Nat) : (a ^^^ b) / 2 = a / 2 ^^^ b / 2 := by
  have e : ∀ n, n / 2 = n >>> 1 := fun n => by rw [Nat.shiftRight_eq_div_pow]
  rw [e, e, e, Nat.shiftRight_xor_distrib]

theorem parity_xor (a b : Nat) : (a ^^^ b) % 2 = (a + b) % 2 := by
  have h := Nat.testBit_xor a b 0
  rw [Nat.testBit_zero, Nat.testBit_zero, Nat.testBit_zero] at h
  generalize a ^^^ b = c at h ⊢
  rcases Nat.mod_two_eq_zero_or_one a with ha | ha <;> rcases Nat.mod_two_eq_zero_or_one b with hb | hb <;> simp [ha, hb] at h <;> omega

theorem xor_lt {a b k : Nat} (ha : a < 2 ^ k) (hb : b < 2 ^ k) : a ^^^ b < 2 ^ k := Nat.xor_lt_two_pow ha hb

end Go.Proofs.Ytmjidhnlofpliab

/-
  Registers of 16 and 32 bits, fed with bits, as numbers: that feeding is linear, that unlike bits side by side leave unlike registers, that a byte can be fed by a table, that the register is the rest of a division. No function of the program is spoken of.
-/
namespace Go.Proofs.Ytmjidhnlofpliab
open Go.RowKit

/-! ## The register of 32 bits, the lowest bit out first -/

def m32 (x : Nat) : Nat := x / 2 ^^^ (if x % 2 = 1 then 3988292384 else 0)

theorem m32_lt {x : Nat} (h : x < 2 ^ 32) : m32 x < 2 ^ 32 := by
  unfold m32
  refine xor_lt (by omega) ?_
  split <;> decide
/-- Bits fed, one by one. -/
def feed32 (r : Nat) : List Nat → Nat
  | [] => r
  | b :: l => feed32 (m32 (r ^^^ b)) l

theorem feed32_append : ∀ (l m : List Nat) (r : Nat), feed32 r (l ++ m) = feed32 (feed32 r l) m
  | [], _, _ => rfl
  | _ :: l, m, _ => feed32_append l m _

def Bits01 (l : List Nat) : Prop := ∀ b ∈ l, b < 2
theorem Bits01.tail {b : Nat} {l : List Nat} (h : Bits01 (b :: l)) : Bits01 l := fun x hx => h x (List.mem_cons_of_mem _ hx)
theorem Bits01.head {b : Nat} {l : List Nat} (h : Bits01 (b :: l)) : b < 2 := h b List.mem_cons_self
theorem Bits01.append {l m : List Nat} (h : Bits01 l) (g : Bits01 m) : Bits01 (l ++ m) := fun x hx => (List.mem_append.1 hx).elim (h x) (g x)
theorem Bits01.left {l m : List Nat} (h : Bits01 (l ++ m)) : Bits01 l := fun x hx => h x (List.mem_append_left _ hx)
theorem Bits01.right {l m : List Nat} (h : Bits01 (l ++ m)) : Bits01 m := fun x hx => h x (List.mem_append_right _ hx)
theorem Bits01.noughts (k : Nat) : Bits01 (List.replicate k 0) := fun x hx => by rw [List.eq_of_mem_replicate hx]; decide

theorem feed32_lt (l : List Nat) : ∀ {r : Nat}, r < 2 ^ 32 → Bits01 l → feed32 r l < 2 ^ 32 := by
  induction l with
  | nil => intro r h _; exact h
  | cons b l ih => intro r h hb; exact ih (m32_lt (xor_lt h (Nat.lt_of_lt_of_le hb.head (by decide)))) hb.tail

/-- A byte's bits, the lowest first. -/
def lows (b : Nat) : List Nat := [b % 2, b / 2 % 2, b / 4 % 2, b / 8 % 2, b / 16 % 2, b / 32 % 2, b / 64 % 2, b / 128 % 2]

theorem lows_01 (b : Nat) : Bits01 (lows b) := fun x hx => by
  simp [lows] at hx
  omega

/-! ## The register of 16 bits, the highest bit out first -/

/-! ## Rests of divisions -/

/-! ## The other way about -/

end Go.Proofs.Ytmjidhnlofpliab

/-
  Nodes, scores, the walk of a beam, as lists, over whatever step and cost. No program is spoken of.
-/
namespace Go.Proofs.Ytmjidhnlofpliab

section
variable (st : Int → Int → Int) (co : Nat → Int → Int) (N : Nat) (s0 : Int)

def root : Nd := (s0, 0, 0, [])
def Nibs (P : List Int) : Prop := ∀ k ∈ P, 0 ≤ k ∧ k < 16
theorem Nibs.snoc {P : List Int} (h : Nibs P) {k : Int} (hk : 0 ≤ k ∧ k < 16) : Nibs (P ++ [k]) := by
  intro x hx
  rcases List.mem_append.1 hx with h' | h'
  · exact h x h'
  · simp at h'; subst h'; exact hk
theorem Nibs.take {P : List Int} (h : Nibs P) (n : Nat) : Nibs (P.take n) := fun k hk => h k (List.mem_of_mem_take hk)
theorem Nibs.append {P Q : List Int} (h : Nibs P) (k : Nibs Q) : Nibs (P ++ Q) := fun x hx => by
  rcases List.mem_append.1 hx with h' | h'
  · exact h x h'
  · exact k x h'
theorem Nibs.right {P Q : List Int} (h : Nibs (P ++ Q)) : Nibs Q := fun x hx => h x (List.mem_append.2 (.inr hx))
theorem Nibs.left {P Q : List Int} (h : Nibs (P ++ Q)) : Nibs P := fun x hx => h x (List.mem_append.2 (.inl hx))

end

end Go.Proofs.Ytmjidhnlofpliab

/-
  volutelaw12.Light answers, whatever it is asked.
-/
namespace Go.Proofs.Ytmjidhnlofpliab
open Go.RowKit

end Go.Proofs.Ytmjidhnlofpliab
