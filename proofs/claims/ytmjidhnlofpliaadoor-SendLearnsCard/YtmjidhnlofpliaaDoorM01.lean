/-
  Lists of numbers in memory: what a slice holds ('Holds'), and that it holds it on as long as the blocks below a bound lie as they lay. No function of the program is spoken of.
-/
import Derived.Deep.Quiet
import Derived.OpenShut
import Derived.RangeFuncBox
import Derived.Test.YtmjidhnlofpliaaDoorRows
import Derived.WalkKit
namespace Go.Proofs.YtmjidhnlofpliaaDoor
open Go.RowKit

/-- The slice v holds the numbers zs, of kind kd, in a block below n₀ (or it is of length 0, and they are none). -/
def Holds (kd : IntKind) (n₀ : Nat) (W : World) (v : Value) (zs : List Int) : Prop :=
  ((∃ a cap, v = .slice a 0 cap ∧ (a = none → cap = 0)) ∧ zs = []) ∨ ∃ b off cap, v = .slice (some ⟨b, off, none⟩) zs.length cap ∧ b < n₀ ∧ ∀ j, j < zs.length → W.cell? ⟨b, off + j, none⟩ = some (.int kd (zs[j]?.getD 0))

theorem below_drewN {B : Nat} {a w : World} (h : Below B a w) (n : Nat) : Below B a (w.drewN n) := ⟨h.os, h.tape, h.output, h.size, h.block⟩

theorem Holds.below {kd : IntKind} {n₀ : Nat} {W W' : World} {v : Value} {zs : List Int} (h : Holds kd n₀ W v zs) (hb : Below n₀ W W') : Holds kd n₀ W' v zs := by
  rcases h with h | ⟨b, off, cap, hv, hlt, hc⟩
  · exact .inl h
  · exact .inr ⟨b, off, cap, hv, hlt, fun j hj => (hb.cell (p := ⟨b, off + j, none⟩) hlt).trans (hc j hj)⟩

theorem Holds.mono {kd : IntKind} {n₀ n₁ : Nat} {W : World} {v : Value} {zs : List Int} (h : Holds kd n₀ W v zs) (hn : n₀ ≤ n₁) : Holds kd n₁ W v zs := by
  rcases h with h | ⟨b, off, cap, hv, hlt, hc⟩
  · exact .inl h
  · exact .inr ⟨b, off, cap, hv, by omega, hc⟩

/-- The shape: a slice, as long as the numbers. -/
theorem Holds.shape {kd : IntKind} {n₀ : Nat} {W : World} {v : Value} {zs : List Int} (h : Holds kd n₀ W v zs) : ∃ a cap, v = .slice a zs.length cap := by
  rcases h with ⟨⟨a, cap, rfl, _⟩, rfl⟩ | ⟨b, off, cap, rfl, _, _⟩
  · exact ⟨_, _, rfl⟩
  · exact ⟨_, _, rfl⟩

/-- A row of the call's own is held. -/
theorem holds_of_row {kd : IntKind} {W : World} {base k : Nat} {e : TypeId} {v : Value} {zs : List Int} (h : W.ownsRow base e 1 v k (zs.map (Value.int kd))) : Holds kd W.heap.size W v zs := by
  have hl : zs.length = k := by have := h.1; simpa using this
  rcases h.2 with ⟨rfl, rfl⟩ | ⟨g, cap, cur, rfl, hb, hg, hk, _, hs, ht⟩
  · exact .inl ⟨⟨_, _, rfl, fun _ => rfl⟩, List.length_eq_zero_iff.1 hl⟩
  · refine .inr ⟨g, 0, cap, by rw [hl], (Array.getElem?_eq_some_iff.1 hg).1, fun j hj => ?_⟩
    have := h.cells (g := g) rfl j (.int kd (zs[j]?.getD 0)) (by simp [hj])
    by_cases h0 : j = 0
    · subst h0; simpa [Addr.add] using this
    · simpa [Addr.add, h0] using this

/-- What the row's step is told of a slice that came in. -/
def IsRow (k : IntKind) (w : World) (a : Option Addr) (len cap : Nat) (zs : List Int) : Prop :=
  (a = none ∧ len = 0 ∧ cap = 0 ∧ zs = []) ∨
  ∃ x, a = some x ∧ len ≤ cap ∧ cap ≤ maxLen ∧ zs.length = cap ∧ (∀ i, i < zs.length → w.cell? (x.add i) = some (.int k (zs.getD i 0))) ∧ ∀ n ∈ zs, (Lit.int k n).wf = true

theorem cell_block_lt {w : World} {p : Addr} {v : Value} (h : w.cell? p = some v) : p.block < w.heap.size := by
  cases hb : w.heap[p.block]? with
  | none => simp [World.cell?, hb] at h
  | some o => exact (Array.getElem?_eq_some_iff.1 hb).1

theorem holds_of_isRow {kd : IntKind} {w : World} {a : Option Addr} {len cap : Nat} {zs : List Int} (h : IsRow kd w a len cap zs) :
    ∃ ys : List Int, ys.length = len ∧ Holds kd w.heap.size w (.slice a len cap) ys ∧ ∀ n ∈ ys, (Lit.int kd n).wf = true := by
  rcases h with ⟨rfl, rfl, rfl, rfl⟩ | ⟨x, rfl, hl, _, hz, hc, hw⟩
  · exact ⟨[], rfl, .inl ⟨⟨_, _, rfl, fun _ => rfl⟩, rfl⟩, by simp⟩
  · by_cases h0 : len = 0
    · subst h0
      exact ⟨[], rfl, .inl ⟨⟨_, _, rfl, fun e => by cases e⟩, rfl⟩, by simp⟩
    · obtain ⟨b, off, rfl, hc'⟩ := ints_at hc (by omega)
      have hlen : (zs.take len).length = len := by rw [List.length_take]; omega
      have hlt := cell_block_lt (hc' 0 (by omega))
      refine ⟨zs.take len, hlen, .inr ⟨b, off, cap, by rw [hlen], hlt, fun j hj => ?_⟩, fun n hn => hw n (List.mem_of_mem_take hn)⟩
      rw [hlen] at hj
      have := hc' j (by omega)
      rw [this]
      simp [List.getD, hj]

theorem bytes_bd {ys : List Int} (h : ∀ n ∈ ys, (Lit.int .u8 n).wf = true) : ∀ n ∈ ys, 0 ≤ n ∧ n ≤ 255 := fun n hn => bounds_u8 (h n hn)

theorem row_below {W W' : World} {base k n₀ : Nat} {e : TypeId} {v : Value} {xs : List Value} (h : W.ownsRow base e 1 v k xs) (hb : Below n₀ W W') (hn : W.heap.size ≤ n₀) : W'.ownsRow base e 1 v k xs := by
  refine ⟨h.1, ?_⟩
  rcases h.2 with h0 | ⟨g, cap, cur, hv, hbs, hg, hk, hm, hs, ht⟩
  · exact .inl h0
  · exact .inr ⟨g, cap, cur, hv, hbs, (hb.block g (by have := (Array.getElem?_eq_some_iff.1 hg).1; omega)).trans hg, hk, hm, hs, ht⟩

theorem row_base {W : World} {base base' k : Nat} {e : TypeId} {v : Value} {xs : List Value} (h : W.ownsRow base e 1 v k xs) (hn : base' ≤ base) : W.ownsRow base' e 1 v k xs := by
  refine ⟨h.1, ?_⟩
  rcases h.2 with h0 | ⟨g, cap, cur, hv, hbs, hg, hk, hm, hs, ht⟩
  · exact .inl h0
  · exact .inr ⟨g, cap, cur, hv, by omega, hg, hk, hm, hs, ht⟩

end Go.Proofs.YtmjidhnlofpliaaDoor

/-
  Small steps from world to world: what is held stays held; a row's own room. No function of the program is spoken of.
-/
namespace Go.Proofs.YtmjidhnlofpliaaDoor
open Go.RowKit

theorem Holds.next {kd : IntKind} {W W' : World} {v : Value} {zs : List Int} (h : Holds kd W.heap.size W v zs) (hb : Below W.heap.size W W') : Holds kd W'.heap.size W' v zs := (h.below hb).mono hb.size

theorem below_grown {w w' : World} {base e n : Nat} {v : Value} {xs : List Value} (hown : w.ownsRow base e 1 v n xs) (hg : w.grownBy w' v.ownBlock) (hb : base ≤ w.heap.size) : Below base w w' :=
  (Below.refl _ w).grown hg hb (fun k e => (hown.lt k e).1)

theorem row_drewN {w : World} {base e n : Nat} {v : Value} {xs : List Value} (h : w.ownsRow base e 1 v n xs) (q : Nat) : (w.drewN q).ownsRow base e 1 v n xs := h

end Go.Proofs.YtmjidhnlofpliaaDoor

/-
  Rows of 0 and 1 as numbers: the number that a row spells (the first place is the highest), sums as xor, products without carries, that they are a ring, that a rest is there just once. No function of the program is spoken of.
-/
namespace Go.Proofs.YtmjidhnlofpliaaDoor
open Go.RowKit

/-- Nothing but 0 and 1. -/
def Bin (l : List Int) : Prop := ∀ x ∈ l, x = 0 ∨ x = 1

/-- The number that a row spells, behind what was spelt already. -/
def valFrom (n : Nat) : List Int → Nat
  | [] => n
  | x :: l => valFrom (2 * n + x.toNat) l

def val (l : List Int) : Nat := valFrom 0 l

/-- Trimmed: 0 and 1 alone, and no 0 first. -/
def Tr (l : List Int) : Prop := Bin l ∧ l.head? ≠ some 0

theorem Bin.nil : Bin [] := fun x h => by cases h
theorem Bin.tail {x : Int} {l : List Int} (h : Bin (x :: l)) : Bin l := fun y hy => h y (List.mem_cons_of_mem _ hy)
theorem Bin.head {x : Int} {l : List Int} (h : Bin (x :: l)) : x = 0 ∨ x = 1 := h x (List.mem_cons_self)
theorem Bin.append {l m : List Int} (h : Bin l) (g : Bin m) : Bin (l ++ m) := fun x hx => (List.mem_append.1 hx).elim (h x) (g x)
theorem Bin.left {l m : List Int} (h : Bin (l ++ m)) : Bin l := fun x hx => h x (List.mem_append_left _ hx)
theorem Bin.right {l m : List Int} (h : Bin (l ++ m)) : Bin m := fun x hx => h x (List.mem_append_right _ hx)
theorem Bin.take {l : List Int} (h : Bin l) (k : Nat) : Bin (l.take k) := fun x hx => h x (List.mem_of_mem_take hx)
theorem Bin.drop {l : List Int} (h : Bin l) (k : Nat) : Bin (l.drop k) := fun x hx => h x (List.mem_of_mem_drop hx)
theorem Bin.noughts (k : Nat) : Bin (List.replicate k 0) := fun _ hx => .inl (List.eq_of_mem_replicate hx)
theorem Bin.set {l : List Int} (h : Bin l) (k : Nat) {x : Int} (hx : x = 0 ∨ x = 1) : Bin (l.set k x) := fun y hy => (List.mem_or_eq_of_mem_set hy).elim (h y) (fun e => e ▸ hx)
theorem Bin.get {l : List Int} (h : Bin l) {k : Nat} {x : Int} (e : l[k]? = some x) : x = 0 ∨ x = 1 := h x (List.mem_of_getElem? e)
theorem Tr.nil : Tr [] := ⟨Bin.nil, by simp⟩

theorem valFrom_eq (l : List Int) : ∀ n, valFrom n l = n * 2 ^ l.length + val l := by
  induction l with
  | nil => intro n; simp [valFrom, val]
  | cons x l ih =>
    intro n
    have e : val (x :: l) = valFrom (2 * 0 + x.toNat) l := rfl
    rw [e, valFrom, ih, ih, List.length_cons, Nat.pow_succ]
    have : (2 * n + x.toNat) * 2 ^ l.length = n * (2 ^ l.length * 2) + x.toNat * 2 ^ l.length := by rw [Nat.add_mul, Nat.mul_comm 2 n, Nat.mul_assoc, Nat.mul_comm 2]
    rw [this]; simp; omega

theorem val_nil : val [] = 0 := rfl
theorem val_cons (x : Int) (l : List Int) : val (x :: l) = x.toNat * 2 ^ l.length + val l := by
  have : val (x :: l) = valFrom (2 * 0 + x.toNat) l := rfl
  rw [this, valFrom_eq]; simp
theorem val_lt {l : List Int} (h : Bin l) : val l < 2 ^ l.length := by
  induction l with
  | nil => simp [val_nil]
  | cons x l ih =>
    have := ih h.tail
    rw [val_cons, List.length_cons, Nat.pow_succ]
    rcases h.head with rfl | rfl
    · simp; omega
    · simp; omega

theorem Tr.ge {l : List Int} (h : Tr l) (h0 : l ≠ []) : 2 ^ l.length ≤ 2 * val l := by
  cases l with
  | nil => exact absurd rfl h0
  | cons x l =>
    have : x = 1 := h.1.head.elim (fun e => absurd (by rw [e]; rfl) h.2) id
    rw [val_cons, List.length_cons, Nat.pow_succ, this]; simp; omega

/-- A trimmed row is as long as its number is great. -/
theorem Tr.len_le {l : List Int} (h : Tr l) {k : Nat} (hk : val l < 2 ^ k) : l.length ≤ k := by
  by_cases h0 : l = []
  · rw [h0]; simp
  · have := h.ge h0
    apply Nat.le_of_not_lt
    intro hlt
    have : 2 ^ (k + 1) ≤ 2 ^ l.length := Nat.pow_le_pow_right (by omega) hlt
    rw [Nat.pow_succ] at this
    omega

theorem val_inj : ∀ {l m : List Int}, Bin l → Bin m → l.length = m.length → val l = val m → l = m
  | [], [], _, _, _, _ => rfl
  | [], _ :: _, _, _, h, _ => by simp at h
  | _ :: _, [], _, _, h, _ => by simp at h
  | x :: l, y :: m, hl, hm, h, e => by
    have h' : l.length = m.length := by simpa using h
    have a := val_lt hl.tail
    have b := val_lt hm.tail
    rw [val_cons, val_cons, h'] at e
    rw [h'] at a
    have hxy : x = y := by
      rcases hl.head with rfl | rfl <;> rcases hm.head with rfl | rfl
      · rfl
      · simp at e; omega
      · simp at e; omega
      · rfl
    subst hxy
    rw [val_inj hl.tail hm.tail h' (by omega)]

/-- Trimmed rows of one number are one row. -/
theorem Tr.inj {l m : List Int} (hl : Tr l) (hm : Tr m) (e : val l = val m) : l = m :=
  val_inj hl.1 hm.1 (Nat.le_antisymm (hl.len_le (e ▸ val_lt hm.1)) (hm.len_le (e ▸ val_lt hl.1))) e

/-! ## Numbers: xor, and the product without carries -/

theorem two_mul_xor (a b : Nat) : 2 * (a ^^^ b) = 2 * a ^^^ 2 * b := by
  have e : ∀ n, 2 * n = n <<< 1 := fun n => by rw [Nat.shiftLeft_eq]; omega
  rw [e, e, e, Nat.shiftLeft_xor_distrib]

theorem half_xor (a b : Nat) : (a ^^^ b) / 2 = a / 2 ^^^ b / 2 := by
  have e : ∀ n, n / 2 = n >>> 1 := fun n => by rw [Nat.shiftRight_eq_div_pow]
  rw [e, e, e, Nat.shiftRight_xor_distrib]

theorem parity_xor (a b : Nat) : (a ^^^ b) % 2 = (a + b) % 2 := by
  have h := Nat.testBit_xor a b 0
  rw [Nat.testBit_zero, Nat.testBit_zero, Nat.testBit_zero] at h
  generalize a ^^^ b = c at h ⊢
  rcases Nat.mod_two_eq_zero_or_one a with ha | ha <;> rcases Nat.mod_two_eq_zero_or_one b with hb | hb <;> simp [ha, hb] at h <;> omega

theorem xor4 (a b c d : Nat) : (a ^^^ b) ^^^ (c ^^^ d) = (a ^^^ c) ^^^ (b ^^^ d) := by
  rw [Nat.xor_assoc, ← Nat.xor_assoc b c d, Nat.xor_comm b c, Nat.xor_assoc c b d, ← Nat.xor_assoc]

theorem xor_div_pow (a b k : Nat) : (a ^^^ b) / 2 ^ k = a / 2 ^ k ^^^ b / 2 ^ k := by
  rw [← Nat.shiftRight_eq_div_pow, ← Nat.shiftRight_eq_div_pow, ← Nat.shiftRight_eq_div_pow, Nat.shiftRight_xor_distrib]

theorem xor_lt {a b k : Nat} (ha : a < 2 ^ k) (hb : b < 2 ^ k) : a ^^^ b < 2 ^ k := Nat.xor_lt_two_pow ha hb

end Go.Proofs.YtmjidhnlofpliaaDoor

/-
  Registers of 16 and 32 bits, fed with bits, as numbers: that feeding is linear, that unlike bits side by side leave unlike registers, that a byte can be fed by a table, that the register is the rest of a division. No function of the program is spoken of.
-/
namespace Go.Proofs.YtmjidhnlofpliaaDoor
open Go.RowKit

/-! ## The register of 32 bits, the lowest bit out first -/

def m32 (x : Nat) : Nat := x / 2 ^^^ (if x % 2 = 1 then 3988292384 else 0)

theorem m32_lt {x : Nat} (h : x < 2 ^ 32) : m32 x < 2 ^ 32 := by
  unfold m32
  refine xor_lt (by omega) ?_
  split <;> decide
/-- Bits fed, one by one. -/
def feed32 (r : Nat) : List Nat → Nat
  | [] => r
  | b :: l => feed32 (m32 (r ^^^ b)) l

theorem feed32_append : ∀ (l m : List Nat) (r : Nat), feed32 r (l ++ m) = feed32 (feed32 r l) m
  | [], _, _ => rfl
  | _ :: l, m, _ => feed32_append l m _

/-- The number that bits spell, the lowest first. -/
def low : List Nat → Nat
  | [] => 0
  | b :: l => b + 2 * low l

def Bits01 (l : List Nat) : Prop := ∀ b ∈ l, b < 2
theorem Bits01.tail {b : Nat} {l : List Nat} (h : Bits01 (b :: l)) : Bits01 l := fun x hx => h x (List.mem_cons_of_mem _ hx)
theorem Bits01.head {b : Nat} {l : List Nat} (h : Bits01 (b :: l)) : b < 2 := h b List.mem_cons_self
theorem Bits01.append {l m : List Nat} (h : Bits01 l) (g : Bits01 m) : Bits01 (l ++ m) := fun x hx => (List.mem_append.1 hx).elim (h x) (g x)
theorem Bits01.left {l m : List Nat} (h : Bits01 (l ++ m)) : Bits01 l := fun x hx => h x (List.mem_append_left _ hx)
theorem Bits01.right {l m : List Nat} (h : Bits01 (l ++ m)) : Bits01 m := fun x hx => h x (List.mem_append_right _ hx)
theorem Bits01.noughts (k : Nat) : Bits01 (List.replicate k 0) := fun x hx => by rw [List.eq_of_mem_replicate hx]; decide

theorem feed32_lt (l : List Nat) : ∀ {r : Nat}, r < 2 ^ 32 → Bits01 l → feed32 r l < 2 ^ 32 := by
  induction l with
  | nil => intro r h _; exact h
  | cons b l ih => intro r h hb; exact ih (m32_lt (xor_lt h (Nat.lt_of_lt_of_le hb.head (by decide)))) hb.tail

/-- A byte's bits, the lowest first. -/
def lows (b : Nat) : List Nat := [b % 2, b / 2 % 2, b / 4 % 2, b / 8 % 2, b / 16 % 2, b / 32 % 2, b / 64 % 2, b / 128 % 2]

theorem lows_01 (b : Nat) : Bits01 (lows b) := fun x hx => by
  simp [lows] at hx
  omega

/-! ## The register of 16 bits, the highest bit out first -/

def n16 (x : Nat) : Nat := 2 * x % 65536 ^^^ (if x / 32768 % 2 = 1 then 4129 else 0)

theorem n16_xor (x y : Nat) : n16 (x ^^^ y) = n16 x ^^^ n16 y := by
  unfold n16
  rw [two_mul_xor, show (65536 : Nat) = 2 ^ 16 by rfl, Nat.xor_mod_two_pow, show (32768 : Nat) = 2 ^ 15 by rfl, xor_div_pow, parity_xor, xor4]
  congr 1
  generalize x / 2 ^ 15 = p
  generalize y / 2 ^ 15 = q
  rcases Nat.mod_two_eq_zero_or_one p with hx | hx <;> rcases Nat.mod_two_eq_zero_or_one q with hy | hy
  · simp [hx, hy, show (p + q) % 2 = 0 by omega]
  · simp [hx, hy, show (p + q) % 2 = 1 by omega]
  · simp [hx, hy, show (p + q) % 2 = 1 by omega]
  · simp [hx, hy, show (p + q) % 2 = 0 by omega]

theorem n16_lt (x : Nat) : n16 x < 2 ^ 16 := by
  unfold n16
  refine xor_lt (Nat.mod_lt _ (by decide)) ?_
  split <;> decide
def feed16 (r : Nat) : List Nat → Nat
  | [] => r
  | b :: l => feed16 (n16 (r ^^^ b * 32768)) l

theorem feed16_append : ∀ (l m : List Nat) (r : Nat), feed16 r (l ++ m) = feed16 (feed16 r l) m
  | [], _, _ => rfl
  | _ :: l, m, _ => feed16_append l m _

theorem feed16_lt (l : List Nat) : ∀ {r : Nat}, r < 2 ^ 16 → feed16 r l < 2 ^ 16 := by
  induction l with
  | nil => intro r h; exact h
  | cons b l ih => intro r _; exact ih (n16_lt _)

/-- A byte's bits, the highest first. -/
def highs (b : Nat) : List Nat := [b / 128 % 2, b / 64 % 2, b / 32 % 2, b / 16 % 2, b / 8 % 2, b / 4 % 2, b / 2 % 2, b % 2]

/-! ## Rests of divisions -/

/-! ## The other way about -/

end Go.Proofs.YtmjidhnlofpliaaDoor

/-
  Variables that lie in a block of their own: their cells, what a store leaves. No function of the program is spoken of.
-/
namespace Go.Proofs.YtmjidhnlofpliaaDoor
open Go.RowKit

/-- The block B is just these cells, free to be written. -/
def Box (W : World) (B : Nat) (t : TypeId) (cs : Array Value) : Prop := W.heap[B]? = some (.cells cs t (0, 0))
theorem Box.lt {W : World} {B : Nat} {t : TypeId} {cs : Array Value} (h : Box W B t cs) : B < W.heap.size := (Array.getElem?_eq_some_iff.1 h).1
theorem Box.cell {W : World} {B : Nat} {t : TypeId} {cs : Array Value} (h : Box W B t cs) (i : Nat) (v : Value) (hv : cs[i]? = some v) : W.cell? ⟨B, i, none⟩ = some v := by simp [World.cell?, show W.heap[B]? = _ from h, hv]
theorem Box.free {W : World} {B : Nat} {t : TypeId} {cs : Array Value} (h : Box W B t cs) (i : Nat) : W.frozen? ⟨B, i, none⟩ = false := by simp [World.frozen?, show W.heap[B]? = _ from h]
theorem Box.new (W : World) (t : TypeId) (cs : Array Value) : Box (W.alloc (.cells cs t)) W.heap.size t cs := World.alloc_heap_new W _
theorem Box.below {W W' : World} {B n : Nat} {t : TypeId} {cs : Array Value} (h : Box W B t cs) (hb : Below n W W') (hn : B < n) : Box W' B t cs := (hb.block B hn).trans h
theorem Box.next {W W' : World} {B : Nat} {t : TypeId} {cs : Array Value} (h : Box W B t cs) (hb : Below W.heap.size W W') : Box W' B t cs := h.below hb h.lt
theorem Box.alloc {W : World} {B : Nat} {t : TypeId} {cs : Array Value} (h : Box W B t cs) (o : Obj) : Box (W.alloc o) B t cs := (Below.heap_alloc W o B h.lt).trans h
theorem Box.drewN {W : World} {B : Nat} {t : TypeId} {cs : Array Value} (h : Box W B t cs) (n : Nat) : Box (W.drewN n) B t cs := h

/-- A store into another block; a store of one cell, and of three, into the block itself. -/
theorem Box.other {W : World} {B : Nat} {t : TypeId} {cs : Array Value} (h : Box W B t cs) {p : Addr} (hp : B ≠ p.block) (v : Value) : Box (W.setCell p v) B t cs := (Below.heap_setCell W p v B hp).trans h
theorem Box.set {W : World} {B : Nat} {t : TypeId} {cs : Array Value} (h : Box W B t cs) (i : Nat) (v : Value) : Box (W.setCell ⟨B, i, none⟩ v) B t (cs.setIfInBounds i v) := by
  unfold Box at h ⊢
  obtain ⟨hlt, he⟩ := Array.getElem?_eq_some_iff.1 h
  refine Array.getElem?_eq_some_iff.2 ⟨by simpa [World.setCell] using hlt, ?_⟩
  simp only [World.setCell]
  rw [Array.getElem_modify]
  simp [he]
theorem below_set2 {W V : World} {n : Nat} (h : Below n W V) {D : Nat} (hD : n ≤ D) (x y : Value) : Below n W ((V.setCell ⟨D, 0, none⟩ x).setCell ⟨D, 1, none⟩ y) := (h.setCell (p := ⟨D, 0, none⟩) hD x).setCell (p := ⟨D, 1, none⟩) hD y
theorem below_set3 {W V : World} {n : Nat} (h : Below n W V) {D : Nat} (hD : n ≤ D) (x y z : Value) : Below n W (((V.setCell ⟨D, 0, none⟩ x).setCell ⟨D, 1, none⟩ y).setCell ⟨D, 2, none⟩ z) := ((h.setCell (p := ⟨D, 0, none⟩) hD x).setCell (p := ⟨D, 1, none⟩) hD y).setCell (p := ⟨D, 2, none⟩) hD z
theorem row_set3 {w : World} {base : Nat} {e : TypeId} {size : Nat} {v : Value} {n : Nat} {xs : List Value} (h : w.ownsRow base e size v n xs) {D : Nat} (hD : D < base) (x y z : Value) : (((w.setCell ⟨D, 0, none⟩ x).setCell ⟨D, 1, none⟩ y).setCell ⟨D, 2, none⟩ z).ownsRow base e size v n xs := ownsRow_setCell_below (ownsRow_setCell_below (ownsRow_setCell_below h (a := ⟨D, 0, none⟩) hD x) (a := ⟨D, 1, none⟩) hD y) (a := ⟨D, 2, none⟩) hD z

/-- The first cells of a small block. -/
theorem Box.c3 {W : World} {B : Nat} {t : TypeId} {cs : Array Value} {x0 x1 x2 : Value} (h : Box W B t cs) (h0 : cs[0]? = some x0 := by exact rfl) (h1 : cs[1]? = some x1 := by exact rfl) (h2 : cs[2]? = some x2 := by exact rfl) : W.cell? ⟨B, 0, none⟩ = some x0 ∧ W.cell? ⟨B, 1, none⟩ = some x1 ∧ W.cell? ⟨B, 2, none⟩ = some x2 := ⟨h.cell 0 _ h0, h.cell 1 _ h1, h.cell 2 _ h2⟩
theorem Box.h3 {W : World} {B : Nat} {t : TypeId} {cs : Array Value} {x0 x1 x2 : Value} (h : Box W B t cs) (h0 : cs[0]? = some x0 := by exact rfl) (h1 : cs[1]? = some x1 := by exact rfl) (h2 : cs[2]? = some x2 := by exact rfl) : Hid (W.cell? ⟨B, 0, none⟩ = some x0) ∧ Hid (W.cell? ⟨B, 1, none⟩ = some x1) ∧ Hid (W.cell? ⟨B, 2, none⟩ = some x2) := ⟨h.cell 0 _ h0, h.cell 1 _ h1, h.cell 2 _ h2⟩
theorem Box.f3 {W : World} {B : Nat} {t : TypeId} {cs : Array Value} (h : Box W B t cs) : W.frozen? ⟨B, 0, none⟩ = false ∧ W.frozen? ⟨B, 1, none⟩ = false ∧ W.frozen? ⟨B, 2, none⟩ = false := ⟨h.free 0, h.free 1, h.free 2⟩
theorem Box.c4 {W : World} {B : Nat} {t : TypeId} {cs : Array Value} {x0 x1 x2 x3 : Value} (h : Box W B t cs) (h0 : cs[0]? = some x0 := by exact rfl) (h1 : cs[1]? = some x1 := by exact rfl) (h2 : cs[2]? = some x2 := by exact rfl) (h3 : cs[3]? = some x3 := by exact rfl) : W.cell? ⟨B, 0, none⟩ = some x0 ∧ W.cell? ⟨B, 1, none⟩ = some x1 ∧ W.cell? ⟨B, 2, none⟩ = some x2 ∧ W.cell? ⟨B, 3, none⟩ = some x3 := ⟨h.cell 0 _ h0, h.cell 1 _ h1, h.cell 2 _ h2, h.cell 3 _ h3⟩
theorem Box.h4 {W : World} {B : Nat} {t : TypeId} {cs : Array Value} {x0 x1 x2 x3 : Value} (h : Box W B t cs) (h0 : cs[0]? = some x0 := by exact rfl) (h1 : cs[1]? = some x1 := by exact rfl) (h2 : cs[2]? = some x2 := by exact rfl) (h3 : cs[3]? = some x3 := by exact rfl) : Hid (W.cell? ⟨B, 0, none⟩ = some x0) ∧ Hid (W.cell? ⟨B, 1, none⟩ = some x1) ∧ Hid (W.cell? ⟨B, 2, none⟩ = some x2) ∧ Hid (W.cell? ⟨B, 3, none⟩ = some x3) := ⟨h.cell 0 _ h0, h.cell 1 _ h1, h.cell 2 _ h2, h.cell 3 _ h3⟩
theorem Box.f4 {W : World} {B : Nat} {t : TypeId} {cs : Array Value} (h : Box W B t cs) : W.frozen? ⟨B, 0, none⟩ = false ∧ W.frozen? ⟨B, 1, none⟩ = false ∧ W.frozen? ⟨B, 2, none⟩ = false ∧ W.frozen? ⟨B, 3, none⟩ = false := ⟨h.free 0, h.free 1, h.free 2, h.free 3⟩
theorem Box.c5 {W : World} {B : Nat} {t : TypeId} {cs : Array Value} {x0 x1 x2 x3 x4 : Value} (h : Box W B t cs) (h0 : cs[0]? = some x0 := by exact rfl) (h1 : cs[1]? = some x1 := by exact rfl) (h2 : cs[2]? = some x2 := by exact rfl) (h3 : cs[3]? = some x3 := by exact rfl) (h4 : cs[4]? = some x4 := by exact rfl) : W.cell? ⟨B, 0, none⟩ = some x0 ∧ W.cell? ⟨B, 1, none⟩ = some x1 ∧ W.cell? ⟨B, 2, none⟩ = some x2 ∧ W.cell? ⟨B, 3, none⟩ = some x3 ∧ W.cell? ⟨B, 4, none⟩ = some x4 := ⟨h.cell 0 _ h0, h.cell 1 _ h1, h.cell 2 _ h2, h.cell 3 _ h3, h.cell 4 _ h4⟩
theorem Box.h5 {W : World} {B : Nat} {t : TypeId} {cs : Array Value} {x0 x1 x2 x3 x4 : Value} (h : Box W B t cs) (h0 : cs[0]? = some x0 := by exact rfl) (h1 : cs[1]? = some x1 := by exact rfl) (h2 : cs[2]? = some x2 := by exact rfl) (h3 : cs[3]? = some x3 := by exact rfl) (h4 : cs[4]? = some x4 := by exact rfl) : Hid (W.cell? ⟨B, 0, none⟩ = some x0) ∧ Hid (W.cell? ⟨B, 1, none⟩ = some x1) ∧ Hid (W.cell? ⟨B, 2, none⟩ = some x2) ∧ Hid (W.cell? ⟨B, 3, none⟩ = some x3) ∧ Hid (W.cell? ⟨B, 4, none⟩ = some x4) := ⟨h.cell 0 _ h0, h.cell 1 _ h1, h.cell 2 _ h2, h.cell 3 _ h3, h.cell 4 _ h4⟩
theorem Box.c7 {W : World} {B : Nat} {t : TypeId} {cs : Array Value} {x0 x1 x2 x3 x4 x5 x6 : Value} (h : Box W B t cs) (h0 : cs[0]? = some x0 := by exact rfl) (h1 : cs[1]? = some x1 := by exact rfl) (h2 : cs[2]? = some x2 := by exact rfl) (h3 : cs[3]? = some x3 := by exact rfl) (h4 : cs[4]? = some x4 := by exact rfl) (h5 : cs[5]? = some x5 := by exact rfl) (h6 : cs[6]? = some x6 := by exact rfl) : W.cell? ⟨B, 0, none⟩ = some x0 ∧ W.cell? ⟨B, 1, none⟩ = some x1 ∧ W.cell? ⟨B, 2, none⟩ = some x2 ∧ W.cell? ⟨B, 3, none⟩ = some x3 ∧ W.cell? ⟨B, 4, none⟩ = some x4 ∧ W.cell? ⟨B, 5, none⟩ = some x5 ∧ W.cell? ⟨B, 6, none⟩ = some x6 := ⟨h.cell 0 _ h0, h.cell 1 _ h1, h.cell 2 _ h2, h.cell 3 _ h3, h.cell 4 _ h4, h.cell 5 _ h5, h.cell 6 _ h6⟩
theorem Box.h7 {W : World} {B : Nat} {t : TypeId} {cs : Array Value} {x0 x1 x2 x3 x4 x5 x6 : Value} (h : Box W B t cs) (h0 : cs[0]? = some x0 := by exact rfl) (h1 : cs[1]? = some x1 := by exact rfl) (h2 : cs[2]? = some x2 := by exact rfl) (h3 : cs[3]? = some x3 := by exact rfl) (h4 : cs[4]? = some x4 := by exact rfl) (h5 : cs[5]? = some x5 := by exact rfl) (h6 : cs[6]? = some x6 := by exact rfl) : Hid (W.cell? ⟨B, 0, none⟩ = some x0) ∧ Hid (W.cell? ⟨B, 1, none⟩ = some x1) ∧ Hid (W.cell? ⟨B, 2, none⟩ = some x2) ∧ Hid (W.cell? ⟨B, 3, none⟩ = some x3) ∧ Hid (W.cell? ⟨B, 4, none⟩ = some x4) ∧ Hid (W.cell? ⟨B, 5, none⟩ = some x5) ∧ Hid (W.cell? ⟨B, 6, none⟩ = some x6) := ⟨h.cell 0 _ h0, h.cell 1 _ h1, h.cell 2 _ h2, h.cell 3 _ h3, h.cell 4 _ h4, h.cell 5 _ h5, h.cell 6 _ h6⟩
theorem Box.c10 {W : World} {B : Nat} {t : TypeId} {cs : Array Value} {x0 x1 x2 x3 x4 x5 x6 x7 x8 x9 : Value} (h : Box W B t cs) (h0 : cs[0]? = some x0 := by exact rfl) (h1 : cs[1]? = some x1 := by exact rfl) (h2 : cs[2]? = some x2 := by exact rfl) (h3 : cs[3]? = some x3 := by exact rfl) (h4 : cs[4]? = some x4 := by exact rfl) (h5 : cs[5]? = some x5 := by exact rfl) (h6 : cs[6]? = some x6 := by exact rfl) (h7 : cs[7]? = some x7 := by exact rfl) (h8 : cs[8]? = some x8 := by exact rfl) (h9 : cs[9]? = some x9 := by exact rfl) : W.cell? ⟨B, 0, none⟩ = some x0 ∧ W.cell? ⟨B, 1, none⟩ = some x1 ∧ W.cell? ⟨B, 2, none⟩ = some x2 ∧ W.cell? ⟨B, 3, none⟩ = some x3 ∧ W.cell? ⟨B, 4, none⟩ = some x4 ∧ W.cell? ⟨B, 5, none⟩ = some x5 ∧ W.cell? ⟨B, 6, none⟩ = some x6 ∧ W.cell? ⟨B, 7, none⟩ = some x7 ∧ W.cell? ⟨B, 8, none⟩ = some x8 ∧ W.cell? ⟨B, 9, none⟩ = some x9 := ⟨h.cell 0 _ h0, h.cell 1 _ h1, h.cell 2 _ h2, h.cell 3 _ h3, h.cell 4 _ h4, h.cell 5 _ h5, h.cell 6 _ h6, h.cell 7 _ h7, h.cell 8 _ h8, h.cell 9 _ h9⟩
theorem Box.h10 {W : World} {B : Nat} {t : TypeId} {cs : Array Value} {x0 x1 x2 x3 x4 x5 x6 x7 x8 x9 : Value} (h : Box W B t cs) (h0 : cs[0]? = some x0 := by exact rfl) (h1 : cs[1]? = some x1 := by exact rfl) (h2 : cs[2]? = some x2 := by exact rfl) (h3 : cs[3]? = some x3 := by exact rfl) (h4 : cs[4]? = some x4 := by exact rfl) (h5 : cs[5]? = some x5 := by exact rfl) (h6 : cs[6]? = some x6 := by exact rfl) (h7 : cs[7]? = some x7 := by exact rfl) (h8 : cs[8]? = some x8 := by exact rfl) (h9 : cs[9]? = some x9 := by exact rfl) : Hid (W.cell? ⟨B, 0, none⟩ = some x0) ∧ Hid (W.cell? ⟨B, 1, none⟩ = some x1) ∧ Hid (W.cell? ⟨B, 2, none⟩ = some x2) ∧ Hid (W.cell? ⟨B, 3, none⟩ = some x3) ∧ Hid (W.cell? ⟨B, 4, none⟩ = some x4) ∧ Hid (W.cell? ⟨B, 5, none⟩ = some x5) ∧ Hid (W.cell? ⟨B, 6, none⟩ = some x6) ∧ Hid (W.cell? ⟨B, 7, none⟩ = some x7) ∧ Hid (W.cell? ⟨B, 8, none⟩ = some x8) ∧ Hid (W.cell? ⟨B, 9, none⟩ = some x9) := ⟨h.cell 0 _ h0, h.cell 1 _ h1, h.cell 2 _ h2, h.cell 3 _ h3, h.cell 4 _ h4, h.cell 5 _ h5, h.cell 6 _ h6, h.cell 7 _ h7, h.cell 8 _ h8, h.cell 9 _ h9⟩
end Go.Proofs.YtmjidhnlofpliaaDoor
