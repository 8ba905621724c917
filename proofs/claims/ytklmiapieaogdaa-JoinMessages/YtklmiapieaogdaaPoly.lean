/-
  Rows of 0 and 1 as numbers: the number that a row spells (the first place is the highest), sums as xor, products without carries, that they are a ring, that a rest is there just once. No function of the program is spoken of.
-/
import Derived.Test.YtklmiapieaogdaaMem
namespace Go.Proofs.Ytklmiapieaogdaa
open Go.RowKit

/-- Nothing but 0 and 1. -/
def Bin (l : List Int) : Prop := ∀ x ∈ l, x = 0 ∨ x = 1

/-- The number that a row spells, behind what was spelt already. -/
def valFrom (n : Nat) : List Int → Nat
  | [] => n
  | x :: l => valFrom (2 * n + x.toNat) l

def val (l : List Int) : Nat := valFrom 0 l

/-- Trimmed: 0 and 1 alone, and no 0 first. -/
def Tr (l : List Int) : Prop := Bin l ∧ l.head? ≠ some 0

theorem Bin.nil : Bin [] := fun x h => by cases h
theorem Bin.tail {x : Int} {l : List Int} (h : Bin (x :: l)) : Bin l := fun y hy => h y (List.mem_cons_of_mem _ hy)
theorem Bin.head {x : Int} {l : List Int} (h : Bin (x :: l)) : x = 0 ∨ x = 1 := h x (List.mem_cons_self)
theorem Bin.append {l m : List Int} (h : Bin l) (g : Bin m) : Bin (l ++ m) := fun x hx => (List.mem_append.1 hx).elim (h x) (g x)
theorem Bin.left {l m : List Int} (h : Bin (l ++ m)) : Bin l := fun x hx => h x (List.mem_append_left _ hx)
theorem Bin.right {l m : List Int} (h : Bin (l ++ m)) : Bin m := fun x hx => h x (List.mem_append_right _ hx)
theorem Bin.take {l : List Int} (h : Bin l) (k : Nat) : Bin (l.take k) := fun x hx => h x (List.mem_of_mem_take hx)
theorem Bin.drop {l : List Int} (h : Bin l) (k : Nat) : Bin (l.drop k) := fun x hx => h x (List.mem_of_mem_drop hx)
theorem Bin.noughts (k : Nat) : Bin (List.replicate k 0) := fun _ hx => .inl (List.eq_of_mem_replicate hx)
theorem Bin.set {l : List Int} (h : Bin l) (k : Nat) {x : Int} (hx : x = 0 ∨ x = 1) : Bin (l.set k x) := fun y hy => (List.mem_or_eq_of_mem_set hy).elim (h y) (fun e => e ▸ hx)
theorem Bin.get {l : List Int} (h : Bin l) {k : Nat} {x : Int} (e : l[k]? = some x) : x = 0 ∨ x = 1 := h x (List.mem_of_getElem? e)
theorem Tr.nil : Tr [] := ⟨Bin.nil, by simp⟩

theorem valFrom_eq (l : List Int) : ∀ n, valFrom n l = n * 2 ^ l.length + val l := by
  induction l with
  | nil => intro n; simp [valFrom, val]
  | cons x l ih =>
    intro n
    have e : val (x :: l) = valFrom (2 * 0 + x.toNat) l := rfl
    rw [e, valFrom, ih, ih, List.length_cons, Nat.pow_succ]
    have : (2 * n + x.toNat) * 2 ^ l.length = n * (2 ^ l.length * 2) + x.toNat * 2 ^ l.length := by rw [Nat.add_mul, Nat.mul_comm 2 n, Nat.mul_assoc, Nat.mul_comm 2]
    rw [this]; simp; omega

theorem val_nil : val [] = 0 := rfl
theorem val_cons (x : Int) (l : List Int) : val (x :: l) = x.toNat * 2 ^ l.length + val l := by
  have : val (x :: l) = valFrom (2 * 0 + x.toNat) l := rfl
  rw [this, valFrom_eq]; simp
theorem val_append (l m : List Int) : val (l ++ m) = val l * 2 ^ m.length + val m := by
  induction l with
  | nil => simp [val_nil]
  | cons x l ih => rw [List.cons_append, val_cons, val_cons, ih, List.length_append, Nat.pow_add, Nat.add_mul, Nat.mul_assoc]; omega
theorem val_snoc (l : List Int) (x : Int) : val (l ++ [x]) = 2 * val l + x.toNat := by rw [val_append, val_cons]; simp [val_nil]; omega
theorem val_noughts (k : Nat) : val (List.replicate k 0) = 0 := by
  induction k with
  | zero => rfl
  | succ k ih => rw [List.replicate_succ, val_cons, ih]; simp

theorem val_lt {l : List Int} (h : Bin l) : val l < 2 ^ l.length := by
  induction l with
  | nil => simp [val_nil]
  | cons x l ih =>
    have := ih h.tail
    rw [val_cons, List.length_cons, Nat.pow_succ]
    rcases h.head with rfl | rfl
    · simp; omega
    · simp; omega

theorem Tr.ge {l : List Int} (h : Tr l) (h0 : l ≠ []) : 2 ^ l.length ≤ 2 * val l := by
  cases l with
  | nil => exact absurd rfl h0
  | cons x l =>
    have : x = 1 := h.1.head.elim (fun e => absurd (by rw [e]; rfl) h.2) id
    rw [val_cons, List.length_cons, Nat.pow_succ, this]; simp; omega

/-- A trimmed row is as long as its number is great. -/
theorem Tr.len_le {l : List Int} (h : Tr l) {k : Nat} (hk : val l < 2 ^ k) : l.length ≤ k := by
  by_cases h0 : l = []
  · rw [h0]; simp
  · have := h.ge h0
    apply Nat.le_of_not_lt
    intro hlt
    have : 2 ^ (k + 1) ≤ 2 ^ l.length := Nat.pow_le_pow_right (by omega) hlt
    rw [Nat.pow_succ] at this
    omega

theorem val_inj : ∀ {l m : List Int}, Bin l → Bin m → l.length = m.length → val l = val m → l = m
  | [], [], _, _, _, _ => rfl
  | [], _ :: _, _, _, h, _ => by simp at h
  | _ :: _, [], _, _, h, _ => by simp at h
  | x :: l, y :: m, hl, hm, h, e => by
    have h' : l.length = m.length := by simpa using h
    have a := val_lt hl.tail
    have b := val_lt hm.tail
    rw [val_cons, val_cons, h'] at e
    rw [h'] at a
    have hxy : x = y := by
      rcases hl.head with rfl | rfl <;> rcases hm.head with rfl | rfl
      · rfl
      · simp at e; omega
      · simp at e; omega
      · rfl
    subst hxy
    rw [val_inj hl.tail hm.tail h' (by omega)]

/-- Trimmed rows of one number are one row. -/
theorem Tr.inj {l m : List Int} (hl : Tr l) (hm : Tr m) (e : val l = val m) : l = m :=
  val_inj hl.1 hm.1 (Nat.le_antisymm (hl.len_le (e ▸ val_lt hm.1)) (hm.len_le (e ▸ val_lt hl.1))) e

theorem Tr.eq_nil {l : List Int} (h : Tr l) (e : val l = 0) : l = [] := h.inj Tr.nil e

theorem Tr.pos {l : List Int} (h : Tr l) (h0 : l ≠ []) : val l ≠ 0 := fun e => h0 (h.eq_nil e)

/-- One place of a row, by its number. -/
theorem val_bit : ∀ {l : List Int}, Bin l → ∀ {k : Nat} {x : Int}, l[k]? = some x → x.toNat = val l / 2 ^ (l.length - 1 - k) % 2
  | [], _, k, x, h => by simp at h
  | y :: l, hb, 0, x, h => by
    simp at h; subst h
    have a := val_lt hb.tail
    rw [val_cons]
    have : (y :: l).length - 1 - 0 = l.length := by simp
    rw [this, Nat.add_comm, Nat.add_mul_div_right _ _ (Nat.two_pow_pos _), Nat.div_eq_of_lt a]
    rcases hb.head with rfl | rfl <;> simp
  | y :: l, hb, k + 1, x, h => by
    have h' : l[k]? = some x := by simpa using h
    have hk : k < l.length := (List.getElem?_eq_some_iff.1 h').1
    rw [val_bit hb.tail h', val_cons]
    have e1 : (y :: l).length - 1 - (k + 1) = l.length - 1 - k := by simp; omega
    rw [e1]
    have e2 : y.toNat * 2 ^ l.length = 2 * (y.toNat * 2 ^ k) * 2 ^ (l.length - 1 - k) := by
      have : l.length = 1 + k + (l.length - 1 - k) := by omega
      conv => lhs; rw [this, Nat.pow_add, Nat.pow_add]
      simp [Nat.mul_assoc, Nat.mul_left_comm]
    rw [e2, Nat.add_comm, Nat.add_mul_div_right _ _ (Nat.two_pow_pos _)]
    omega

theorem push_xor (p x y : Nat) (hx : x < 2) (hy : y < 2) : 2 * p + (x ^^^ y) = (2 * p + x) ^^^ y := by
  apply Nat.eq_of_testBit_eq
  intro j
  rw [Nat.testBit_xor]
  obtain rfl | rfl : x = 0 ∨ x = 1 := by omega
  all_goals obtain rfl | rfl : y = 0 ∨ y = 1 := by omega
  all_goals cases j with
    | zero => simp [Nat.testBit_zero]
    | succ j =>
      rw [Nat.testBit_succ, Nat.testBit_succ, Nat.testBit_succ]
      have e1 : (2 * p + 1) / 2 = p := by omega
      have e2 : 2 * p / 2 = p := by omega
      simp [e1, e2]

/-- One place turned about by x: the number is xor that place's. -/
theorem val_set {l : List Int} (hb : Bin l) {k : Nat} {x y : Int} (hx : l[k]? = some x) (hy : y = 0 ∨ y = 1) (z : Int) (e : z.toNat = x.toNat ^^^ y.toNat) :
    val (l.set k z) = val l ^^^ y.toNat * 2 ^ (l.length - 1 - k) := by
  have hk : k < l.length := (List.getElem?_eq_some_iff.1 hx).1
  obtain ⟨p, q, rfl, rfl⟩ : ∃ p q, l = p ++ x :: q ∧ p.length = k := by
    refine ⟨l.take k, l.drop (k + 1), ?_, by simp; omega⟩
    have : l[k] = x := (List.getElem?_eq_some_iff.1 hx).2
    rw [← this, ← List.drop_eq_getElem_cons hk, List.take_append_drop]
  rw [List.set_append_right _ _ (Nat.le_refl _)]
  simp only [Nat.sub_self, List.set_cons_zero]
  have e1 : (p ++ x :: q).length - 1 - p.length = q.length := by rw [List.length_append, List.length_cons]; omega
  have hq := val_lt (Bin.tail (Bin.right hb))
  rw [e1, val_append, val_append, val_cons, val_cons]
  simp only [List.length_cons]
  have e2 : ∀ t : Nat, val p * 2 ^ (q.length + 1) + (t * 2 ^ q.length + val q) = 2 ^ q.length * (2 * val p + t) + val q := fun t => by
    rw [Nat.pow_succ, Nat.mul_add, Nat.mul_comm t, ← Nat.add_assoc]
    congr 2
    simp [Nat.mul_assoc, Nat.mul_comm, Nat.mul_left_comm]
  rw [e2, e2]
  have hxx : x.toNat < 2 := by rcases Bin.head (Bin.right hb) with rfl | rfl <;> decide
  have hyy : y.toNat < 2 := by rcases hy with rfl | rfl <;> decide
  apply Nat.eq_of_testBit_eq
  intro i
  rw [Nat.testBit_two_pow_mul_add _ hq, Nat.testBit_xor, Nat.testBit_two_pow_mul_add _ hq, Nat.testBit_mul_two_pow]
  by_cases hi : i < q.length
  · simp [hi, Nat.not_le.2 hi]
  · rw [if_neg hi, if_neg hi]
    simp only [Nat.not_lt.1 hi, decide_true, Bool.true_and]
    rw [← Nat.testBit_xor, e]
    congr 1
    exact push_xor _ _ _ hxx hyy

/-! ## Numbers: xor, and the product without carries -/

theorem two_mul_xor (a b : Nat) : 2 * (a ^^^ b) = 2 * a ^^^ 2 * b := by
  have e : ∀ n, 2 * n = n <<< 1 := fun n => by rw [Nat.shiftLeft_eq]; omega
  rw [e, e, e, Nat.shiftLeft_xor_distrib]

theorem mul_pow_xor (a b k : Nat) : (a ^^^ b) * 2 ^ k = a * 2 ^ k ^^^ b * 2 ^ k := by
  rw [← Nat.shiftLeft_eq, ← Nat.shiftLeft_eq, ← Nat.shiftLeft_eq, Nat.shiftLeft_xor_distrib]

theorem half_xor (a b : Nat) : (a ^^^ b) / 2 = a / 2 ^^^ b / 2 := by
  have e : ∀ n, n / 2 = n >>> 1 := fun n => by rw [Nat.shiftRight_eq_div_pow]
  rw [e, e, e, Nat.shiftRight_xor_distrib]

theorem parity_xor (a b : Nat) : (a ^^^ b) % 2 = (a + b) % 2 := by
  have h := Nat.testBit_xor a b 0
  rw [Nat.testBit_zero, Nat.testBit_zero, Nat.testBit_zero] at h
  generalize a ^^^ b = c at h ⊢
  rcases Nat.mod_two_eq_zero_or_one a with ha | ha <;> rcases Nat.mod_two_eq_zero_or_one b with hb | hb <;> simp [ha, hb] at h <;> omega

/-- The product without carries, of so many bits of the first. -/
def clN : Nat → Nat → Nat → Nat
  | 0, _, _ => 0
  | f + 1, a, b => (if a % 2 = 1 then b else 0) ^^^ 2 * clN f (a / 2) b

/-- The product without carries. -/
def cl (a b : Nat) : Nat := clN a a b

theorem clN_more (b : Nat) : ∀ (f a : Nat), a ≤ f → clN (f + 1) a b = clN f a b
  | 0, a, h => by
    obtain rfl : a = 0 := by omega
    simp [clN]
  | f + 1, a, h => by
    have e := clN_more b f (a / 2) (by omega)
    show (if a % 2 = 1 then b else 0) ^^^ 2 * clN (f + 1) (a / 2) b = (if a % 2 = 1 then b else 0) ^^^ 2 * clN f (a / 2) b
    rw [e]

theorem clN_enough (b : Nat) (a : Nat) : ∀ d, clN (a + d) a b = clN a a b
  | 0 => rfl
  | d + 1 => by
    rw [← Nat.add_assoc, clN_more b (a + d) a (by omega)]
    exact clN_enough b a d

theorem cl_zero (b : Nat) : cl 0 b = 0 := rfl
theorem cl_step (a b : Nat) : cl a b = (if a % 2 = 1 then b else 0) ^^^ 2 * cl (a / 2) b := by
  cases a with
  | zero => simp [cl_zero]
  | succ n =>
    have e := clN_enough b ((n + 1) / 2) (n - (n + 1) / 2)
    rw [show (n + 1) / 2 + (n - (n + 1) / 2) = n by omega] at e
    show clN (n + 1) (n + 1) b = _
    rw [clN, e]
    rfl

theorem cl_one (b : Nat) : cl 1 b = b := by rw [cl_step]; simp [cl_zero]
theorem cl_two_mul (a b : Nat) : cl (2 * a) b = 2 * cl a b := by
  rw [cl_step]
  have e1 : 2 * a % 2 = 0 := by omega
  have e2 : 2 * a / 2 = a := by omega
  simp [e1, e2]

theorem cl_push (a b x : Nat) (hx : x < 2) : cl (2 * a + x) b = 2 * cl a b ^^^ x * b := by
  rw [cl_step]
  have e1 : (2 * a + x) % 2 = x := by omega
  have e2 : (2 * a + x) / 2 = a := by omega
  rw [e1, e2, Nat.xor_comm]
  congr 1
  obtain rfl | rfl : x = 0 ∨ x = 1 := by omega
  · simp
  · simp

theorem xor4 (a b c d : Nat) : (a ^^^ b) ^^^ (c ^^^ d) = (a ^^^ c) ^^^ (b ^^^ d) := by
  rw [Nat.xor_assoc, ← Nat.xor_assoc b c d, Nat.xor_comm b c, Nat.xor_assoc c b d, ← Nat.xor_assoc]

theorem cl_xor_left (a : Nat) : ∀ b c, cl (a ^^^ b) c = cl a c ^^^ cl b c := by
  induction a using Nat.strongRecOn with
  | ind a ih =>
    intro b c
    by_cases h : a = 0
    · subst h; simp [cl_zero]
    · rw [cl_step (a ^^^ b), cl_step a, cl_step b, half_xor, ih (a / 2) (by omega), two_mul_xor, parity_xor, xor4]
      congr 1
      rcases Nat.mod_two_eq_zero_or_one a with ha | ha <;> rcases Nat.mod_two_eq_zero_or_one b with hb | hb
      · simp [ha, hb, show (a + b) % 2 = 0 by omega]
      · simp [ha, hb, show (a + b) % 2 = 1 by omega]
      · simp [ha, hb, show (a + b) % 2 = 1 by omega]
      · simp [ha, hb, show (a + b) % 2 = 0 by omega]

theorem cl_xor_right (a : Nat) : ∀ b c, cl a (b ^^^ c) = cl a b ^^^ cl a c := by
  induction a using Nat.strongRecOn with
  | ind a ih =>
    intro b c
    by_cases h : a = 0
    · subst h; simp [cl_zero]
    · rw [cl_step a (b ^^^ c), cl_step a b, cl_step a c, ih (a / 2) (by omega), two_mul_xor, xor4]
      congr 1
      by_cases e : a % 2 = 1
      · simp [e]
      · simp [e]

theorem cl_zero_right (a : Nat) : cl a 0 = 0 := by
  induction a using Nat.strongRecOn with
  | ind a ih =>
    by_cases h : a = 0
    · subst h; exact cl_zero _
    · rw [cl_step, ih (a / 2) (by omega)]; simp

theorem cl_two_mul_right (a : Nat) : ∀ b, cl a (2 * b) = 2 * cl a b := by
  induction a using Nat.strongRecOn with
  | ind a ih =>
    intro b
    by_cases h : a = 0
    · subst h; simp [cl_zero]
    · rw [cl_step a (2 * b), cl_step a b, ih (a / 2) (by omega), two_mul_xor]
      congr 1
      by_cases e : a % 2 = 1
      · simp [e]
      · simp [e]

theorem bit_split (a : Nat) : a = (if a % 2 = 1 then 1 else 0) ^^^ 2 * (a / 2) := by
  apply Nat.eq_of_testBit_eq; intro j
  rw [Nat.testBit_xor]
  cases j with
  | zero =>
    rcases Nat.mod_two_eq_zero_or_one a with h | h
    · simp [Nat.testBit_zero, h]
    · simp [Nat.testBit_zero, h]
  | succ j =>
    have e : 2 * (a / 2) / 2 = a / 2 := by omega
    rw [Nat.testBit_succ a, Nat.testBit_succ (2 * (a / 2)), e, Nat.testBit_succ]
    split <;> simp

theorem cl_one_right (a : Nat) : cl a 1 = a := by
  induction a using Nat.strongRecOn with
  | ind a ih =>
    by_cases h : a = 0
    · subst h; exact cl_zero _
    · rw [cl_step, ih (a / 2) (by omega)]
      exact (bit_split a).symm

theorem cl_comm (a : Nat) : ∀ b, cl a b = cl b a := by
  induction a using Nat.strongRecOn with
  | ind a ih =>
    intro b
    by_cases h : a = 0
    · subst h; rw [cl_zero, cl_zero_right]
    · conv => rhs; rw [bit_split a, cl_xor_right, cl_two_mul_right, ← ih (a / 2) (by omega)]
      rw [cl_step]
      congr 1
      by_cases e : a % 2 = 1
      · simp [e, cl_one_right]
      · simp [e, cl_zero_right]

theorem cl_assoc (a : Nat) : ∀ b c, cl (cl a b) c = cl a (cl b c) := by
  induction a using Nat.strongRecOn with
  | ind a ih =>
    intro b c
    by_cases h : a = 0
    · subst h; simp [cl_zero]
    · rw [cl_step a b, cl_xor_left, cl_two_mul, ih (a / 2) (by omega), cl_step a (cl b c)]
      congr 1
      by_cases e : a % 2 = 1
      · simp [e]
      · simp [e, cl_zero]

theorem cl_pow (a k : Nat) : cl a (2 ^ k) = a * 2 ^ k := by
  induction k with
  | zero => simp [cl_one_right]
  | succ k ih => rw [Nat.pow_succ, Nat.mul_comm, cl_two_mul_right, ih, Nat.mul_comm 2, Nat.mul_assoc, Nat.mul_comm 2]

theorem cl_mul_pow_left (a b k : Nat) : cl (a * 2 ^ k) b = cl a b * 2 ^ k := by
  rw [← cl_pow, cl_assoc, cl_comm (2 ^ k), ← cl_assoc, cl_pow]

theorem xor_div_pow (a b k : Nat) : (a ^^^ b) / 2 ^ k = a / 2 ^ k ^^^ b / 2 ^ k := by
  rw [← Nat.shiftRight_eq_div_pow, ← Nat.shiftRight_eq_div_pow, ← Nat.shiftRight_eq_div_pow, Nat.shiftRight_xor_distrib]

theorem xor_lt {a b k : Nat} (ha : a < 2 ^ k) (hb : b < 2 ^ k) : a ^^^ b < 2 ^ k := Nat.xor_lt_two_pow ha hb

/-- Two numbers whose highest bit is the same one: their xor is below it. -/
theorem xor_top {a b k : Nat} (ha : 2 ^ k ≤ a) (ha' : a < 2 ^ (k + 1)) (hb : 2 ^ k ≤ b) (hb' : b < 2 ^ (k + 1)) : a ^^^ b < 2 ^ k := by
  have e : ∀ n, 2 ^ k ≤ n → n < 2 ^ (k + 1) → n / 2 ^ k = 1 := fun n h1 h2 => by
    rw [Nat.pow_succ] at h2
    exact Nat.div_eq_of_lt_le (by omega) (by omega)
  have h := xor_div_pow a b k
  rw [e a ha ha', e b hb hb', Nat.xor_self] at h
  exact (Nat.div_eq_zero_iff_lt (Nat.two_pow_pos k)).1 h

/-- A product with something that is not 0 is no less than the other's highest bit. -/
theorem cl_ge {m d : Nat} (h1 : 2 ^ d ≤ m) (h2 : m < 2 ^ (d + 1)) (q : Nat) (hq : q ≠ 0) : 2 ^ d ≤ cl q m := by
  induction q using Nat.strongRecOn with
  | ind q ih =>
    by_cases hh : q / 2 = 0
    · obtain rfl : q = 1 := by omega
      rw [cl_one]; exact h1
    · have := ih (q / 2) (by omega) hh
      rw [cl_step]
      have hy : (if q % 2 = 1 then m else 0) < 2 ^ (d + 1) := by split; exact h2; exact Nat.two_pow_pos _
      have hx : 2 ^ (d + 1) ≤ 2 * cl (q / 2) m := by rw [Nat.pow_succ]; omega
      have e := xor_div_pow (if q % 2 = 1 then m else 0) (2 * cl (q / 2) m) (d + 1)
      rw [Nat.div_eq_of_lt hy, Nat.zero_xor] at e
      have hpos : 0 < 2 * cl (q / 2) m / 2 ^ (d + 1) := Nat.div_pos hx (Nat.two_pow_pos _)
      apply Nat.le_of_not_lt
      intro hlt
      rw [Nat.div_eq_of_lt (Nat.lt_of_lt_of_le hlt (Nat.pow_le_pow_right (by omega) (by omega)))] at e
      omega

/-- A product's highest bit. -/
theorem cl_top {m d : Nat} (h1 : 2 ^ d ≤ m) (h2 : m < 2 ^ (d + 1)) : ∀ (c q : Nat), 2 ^ c ≤ q → 2 ^ (c + d) ≤ cl q m := by
  intro c
  induction c with
  | zero =>
    intro q hq
    rw [Nat.zero_add]
    exact cl_ge h1 h2 q (by simp at hq; omega)
  | succ c ih =>
    intro q hq
    have hq2 : 2 ^ c ≤ q / 2 := by rw [Nat.pow_succ] at hq; omega
    have := ih (q / 2) hq2
    rw [cl_step]
    have hy : (if q % 2 = 1 then m else 0) < 2 ^ (c + 1 + d) := by
      have : 2 ^ (d + 1) ≤ 2 ^ (c + 1 + d) := Nat.pow_le_pow_right (by omega) (by omega)
      split
      · omega
      · exact Nat.two_pow_pos _
    have hx : 2 ^ (c + 1 + d) ≤ 2 * cl (q / 2) m := by rw [show c + 1 + d = c + d + 1 by omega, Nat.pow_succ]; omega
    have e := xor_div_pow (if q % 2 = 1 then m else 0) (2 * cl (q / 2) m) (c + 1 + d)
    rw [Nat.div_eq_of_lt hy, Nat.zero_xor] at e
    have hpos : 0 < 2 * cl (q / 2) m / 2 ^ (c + 1 + d) := Nat.div_pos hx (Nat.two_pow_pos _)
    apply Nat.le_of_not_lt
    intro hlt
    rw [Nat.div_eq_of_lt hlt] at e
    omega

theorem cl_lt (q : Nat) : ∀ {m s t : Nat}, q < 2 ^ s → m < 2 ^ t → cl q m < 2 ^ (s + t) := by
  induction q using Nat.strongRecOn with
  | ind q ih =>
    intro m s t hs ht
    by_cases h : q = 0
    · subst h; rw [cl_zero]; exact Nat.two_pow_pos _
    · cases s with
      | zero => simp at hs; omega
      | succ s =>
        rw [cl_step]
        have h1 : cl (q / 2) m < 2 ^ (s + t) := ih (q / 2) (by omega) (by rw [Nat.pow_succ] at hs; omega) ht
        apply xor_lt
        · split
          · exact Nat.lt_of_lt_of_le ht (Nat.pow_le_pow_right (by omega) (by omega))
          · exact Nat.two_pow_pos _
        · have : s + 1 + t = s + t + 1 := by omega
          rw [this, Nat.pow_succ]; omega

theorem xor_cancel {a b : Nat} (h : a ^^^ b = 0) : a = b := by
  have e : a ^^^ b ^^^ b = a := by rw [Nat.xor_assoc, Nat.xor_self, Nat.xor_zero]
  rw [h, Nat.zero_xor] at e
  exact e.symm

/-- A rest is there just once. -/
theorem rest_once {m d q r q' r' : Nat} (h1 : 2 ^ d ≤ m) (h2 : m < 2 ^ (d + 1)) (hr : r < 2 ^ d) (hr' : r' < 2 ^ d) (e : cl q m ^^^ r = cl q' m ^^^ r') : q = q' ∧ r = r' := by
  have e1 : cl (q ^^^ q') m = r ^^^ r' := by
    rw [cl_xor_left]
    have : (cl q m ^^^ r) ^^^ (cl q' m ^^^ r') = 0 := by rw [e, Nat.xor_self]
    rw [xor4] at this
    exact xor_cancel this
  have hlt : cl (q ^^^ q') m < 2 ^ d := by rw [e1]; exact xor_lt hr hr'
  have hq : q ^^^ q' = 0 := Decidable.byContradiction fun h => absurd (cl_ge h1 h2 _ h) (Nat.not_le.2 hlt)
  obtain rfl := xor_cancel hq
  refine ⟨rfl, ?_⟩
  rw [hq, cl_zero] at e1
  exact xor_cancel e1.symm

/-- A trimmed row that is not nothing, by its highest place. -/
theorem Tr.top {l : List Int} (h : Tr l) (h0 : l ≠ []) : 2 ^ (l.length - 1) ≤ val l ∧ val l < 2 ^ (l.length - 1 + 1) := by
  have h1 := h.ge h0
  have h2 := val_lt h.1
  have : 0 < l.length := List.length_pos_iff.2 h0
  obtain ⟨n, hn⟩ : ∃ n, l.length = n + 1 := ⟨l.length - 1, by omega⟩
  rw [hn, Nat.add_sub_cancel]
  rw [hn] at h1 h2
  rw [Nat.pow_succ] at h1
  exact ⟨by omega, h2⟩

end Go.Proofs.Ytklmiapieaogdaa
