/-
  Lists of structs in memory, of whatever kind: the cells of each element as they lie, and the rows that its slices lead to. No function of the program is spoken of.
-/
import Derived.Test.YtmjidhnlofpliaaDoorM01
import Derived.Test.YtmjidhnlofpliaaDoorM02
import Derived.Test.YtmjidhnlofpliaaDoorM06
import Derived.Test.YtmjidhnlofpliaaDoorM11
import Derived.Test.YtmjidhnlofpliaaDoorM12
import Derived.Deep.OwnRows
import Derived.Deep.RegionHeldLaw
import Derived.Laws.IdiomCopy
import Derived.Lib.SliceRun
import Derived.OwnWalk
namespace Go.Proofs.YtmjidhnlofpliaaDoor
open Go.RowKit

/-- A row that a struct leads to: its elements' type, cells an element, how many, all cells. -/
structure Sub where
  ty : TypeId
  k : Nat
  n : Nat
  cs : List Value
/-- A kind of struct: its type, its cells as they lie (ps: its slices), the rows that they lead to. -/
structure Kind (α : Type) where
  ty : TypeId
  k : Nat
  lie : α → List Value → List Value
  subs : α → List Sub
  len : ∀ y ps, (lie y ps).length = k
  one : ∀ y ps, (∀ p ∈ ps, ∃ a n c, p = Value.slice a n c) → ∀ u ∈ lie y ps, u.oneCell' = true
abbrev Lies (α : Type) := List (α × List Value)
def cellsK {α : Type} (K : Kind α) (r : Lies α) : List Value := r.flatMap fun x => K.lie x.1 x.2
theorem cellsK_len {α : Type} (K : Kind α) : ∀ r : Lies α, (cellsK K r).length = r.length * K.k
  | [] => by simp [cellsK]
  | x :: r => by
    have := cellsK_len K r
    unfold cellsK at this ⊢
    rw [List.flatMap_cons, List.length_append, K.len, this, List.length_cons, Nat.add_mul, Nat.one_mul, Nat.add_comm]
theorem cellsK_append {α : Type} (K : Kind α) (r s : Lies α) : cellsK K (r ++ s) = cellsK K r ++ cellsK K s := by simp [cellsK]
theorem cellsK_get {α : Type} (K : Kind α) : ∀ {r : Lies α} {j : Nat} {x : α × List Value}, r[j]? = some x → ∀ (i : Nat) (u : Value), (K.lie x.1 x.2)[i]? = some u → (cellsK K r)[j * K.k + i]? = some u
  | [], j, x, h => by simp at h
  | y :: r, 0, x, h => by
    simp at h
    subst h
    intro i u hu
    have := (List.getElem?_eq_some_iff.1 hu).1
    show ((y :: r).flatMap fun x => K.lie x.1 x.2)[0 * K.k + i]? = some u
    rw [List.flatMap_cons, Nat.zero_mul, Nat.zero_add, List.getElem?_append_left this]
    exact hu
  | y :: r, j + 1, x, h => by
    intro i u hu
    have ih := cellsK_get K (r := r) (j := j) (x := x) (by simpa using h) i u hu
    show ((y :: r).flatMap fun x => K.lie x.1 x.2)[(j + 1) * K.k + i]? = some u
    rw [List.flatMap_cons, List.getElem?_append_right (by rw [K.len, Nat.add_mul, Nat.one_mul]; omega), K.len, show (j + 1) * K.k + i - K.k = j * K.k + i by rw [Nat.add_mul, Nat.one_mul]; omega]
    exact ih
theorem cellsK_one {α : Type} (K : Kind α) {r : Lies α} (h : ∀ x ∈ r, ∀ p ∈ x.2, ∃ a n c, p = Value.slice a n c) : ∀ u ∈ cellsK K r, u.oneCell' = true := by
  intro u hu
  obtain ⟨x, hx, hu⟩ := List.mem_flatMap.1 hu
  exact K.one _ _ (h x hx) u hu
/-- Element j is written over. -/
theorem set_flat {α : Type} (K : Kind α) : ∀ (r : Lies α) (j : Nat) (y : α × List Value), j < r.length → cellsK K (r.set j y) = (cellsK K r).take (j * K.k) ++ K.lie y.1 y.2 ++ (cellsK K r).drop (j * K.k + K.k)
  | [], j, y, h => by simp at h
  | x :: r, 0, y, h => by
    have e : cellsK K (x :: r) = K.lie x.1 x.2 ++ cellsK K r := by simp [cellsK]
    rw [e, Nat.zero_mul, Nat.zero_add, List.take_zero, List.nil_append, List.drop_left' (K.len _ _)]
    simp [cellsK]
  | x :: r, j + 1, y, h => by
    have ih := set_flat K r j y (by simpa using h)
    have e : cellsK K (x :: r) = K.lie x.1 x.2 ++ cellsK K r := by simp [cellsK]
    have e2 : cellsK K ((x :: r).set (j + 1) y) = K.lie x.1 x.2 ++ cellsK K (r.set j y) := by simp [cellsK]
    have e3 : (j + 1) * K.k = (K.lie x.1 x.2).length + j * K.k := by rw [K.len, Nat.add_mul, Nat.one_mul, Nat.add_comm]
    rw [e, e2, ih, e3, Nat.add_assoc, List.take_length_add_append, List.drop_length_add_append]
    simp [List.append_assoc]

/-- The slice v, of n elements, holds these cells, in a block below n₀. -/
def HoldsC (n₀ : Nat) (W : World) (v : Value) (n : Nat) (cs : List Value) : Prop :=
  ((∃ a cap, v = .slice a 0 cap ∧ (a = none → cap = 0)) ∧ n = 0 ∧ cs = []) ∨ ∃ b off cap, v = .slice (some ⟨b, off, none⟩) n cap ∧ b < n₀ ∧ ∀ (j : Nat) (u : Value), cs[j]? = some u → W.cell? ⟨b, off + j, none⟩ = some u
theorem HoldsC.below {n₀ n : Nat} {W W' : World} {v : Value} {cs : List Value} (h : HoldsC n₀ W v n cs) (hb : Below n₀ W W') : HoldsC n₀ W' v n cs := by
  rcases h with h | ⟨b, off, cap, hv, hlt, hc⟩
  · exact .inl h
  · exact .inr ⟨b, off, cap, hv, hlt, fun j u hj => (hb.cell (p := ⟨b, off + j, none⟩) hlt).trans (hc j u hj)⟩
theorem HoldsC.mono {n₀ n₁ n : Nat} {W : World} {v : Value} {cs : List Value} (h : HoldsC n₀ W v n cs) (hn : n₀ ≤ n₁) : HoldsC n₁ W v n cs := by
  rcases h with h | ⟨b, off, cap, hv, hlt, hc⟩
  · exact .inl h
  · exact .inr ⟨b, off, cap, hv, by omega, hc⟩
theorem HoldsC.shape {n₀ n : Nat} {W : World} {v : Value} {cs : List Value} (h : HoldsC n₀ W v n cs) : ∃ a cap, v = .slice a n cap := by
  rcases h with ⟨⟨a, cap, rfl, _⟩, rfl, _⟩ | ⟨b, off, cap, rfl, _, _⟩
  · exact ⟨_, _, rfl⟩
  · exact ⟨_, _, rfl⟩
theorem holdsC_nil (n₀ : Nat) (W : World) : HoldsC n₀ W (.slice none 0 0) 0 [] := .inl ⟨⟨_, _, rfl, fun _ => rfl⟩, rfl, rfl⟩
theorem holdsC_of_row {W : World} {base k n : Nat} {e : TypeId} {v : Value} {cs : List Value} (h : W.ownsRow base e k v n cs) : HoldsC W.heap.size W v n cs := by
  rcases h.2 with ⟨rfl, rfl⟩ | ⟨g, cap, cur, rfl, hb, hg, hk, _, hs, ht⟩
  · have := h.1
    rw [Nat.zero_mul] at this
    rw [List.length_eq_zero_iff.1 this]
    exact holdsC_nil _ _
  · refine .inr ⟨g, 0, cap, rfl, (Array.getElem?_eq_some_iff.1 hg).1, fun j u hj => ?_⟩
    have := h.cells (g := g) rfl j u hj
    rwa [Addr.add_lit] at this
/-- Sts of numbers. -/
theorem HoldsC.ints {kd : IntKind} {n₀ n : Nat} {W : World} {v : Value} {zs : List Int} (h : HoldsC n₀ W v n (zs.map (Value.int kd))) (hn : zs.length = n) : Holds kd n₀ W v zs := by
  rcases h with ⟨h1, h2, h3⟩ | ⟨b, off, cap, rfl, hlt, hc⟩
  · exact .inl ⟨h1, List.map_eq_nil_iff.1 h3⟩
  · exact .inr ⟨b, off, cap, by rw [hn], hlt, fun j hj => hc j _ (by simp [hj])⟩
/-- The slices ps lead to these rows. -/
def SubsH (n₀ : Nat) (W : World) (ps : List Value) (s : List Sub) : Prop := ps.length = s.length ∧ ∀ (i : Nat) (p : Value) (t : Sub), ps[i]? = some p → s[i]? = some t → HoldsC n₀ W p t.n t.cs
theorem SubsH.below {n₀ : Nat} {W W' : World} {ps : List Value} {s : List Sub} (h : SubsH n₀ W ps s) (hb : Below n₀ W W') : SubsH n₀ W' ps s := ⟨h.1, fun i p t hp ht => (h.2 i p t hp ht).below hb⟩
theorem SubsH.mono {n₀ n₁ : Nat} {W : World} {ps : List Value} {s : List Sub} (h : SubsH n₀ W ps s) (hn : n₀ ≤ n₁) : SubsH n₁ W ps s := ⟨h.1, fun i p t hp ht => (h.2 i p t hp ht).mono hn⟩
theorem SubsH.slices {n₀ : Nat} {W : World} {ps : List Value} {s : List Sub} (h : SubsH n₀ W ps s) : ∀ p ∈ ps, ∃ a n c, p = Value.slice a n c := by
  intro p hp
  obtain ⟨i, hi, e⟩ := List.getElem_of_mem hp
  have hl : i < s.length := by rw [← h.1]; exact hi
  obtain ⟨a, c, e'⟩ := (h.2 i p s[i] (by rw [← e]; simp) (by simp)).shape
  exact ⟨_, _, _, e'⟩
/-- The slice v holds these structs, the rows that they lead to with them. -/
def Sts {α : Type} (K : Kind α) (n₀ : Nat) (W : World) (v : Value) (l : List α) : Prop := ∃ r : Lies α, r.map Prod.fst = l ∧ HoldsC n₀ W v l.length (cellsK K r) ∧ ∀ x ∈ r, SubsH n₀ W x.2 (K.subs x.1)
section
variable {α : Type} {K : Kind α} {n₀ n₁ : Nat} {W W' : World} {v : Value} {l : List α}
theorem Sts.below (h : Sts K n₀ W v l) (hb : Below n₀ W W') : Sts K n₀ W' v l := by obtain ⟨r, h1, h2, h3⟩ := h; exact ⟨r, h1, h2.below hb, fun x hx => (h3 x hx).below hb⟩
theorem Sts.mono (h : Sts K n₀ W v l) (hn : n₀ ≤ n₁) : Sts K n₁ W v l := by obtain ⟨r, h1, h2, h3⟩ := h; exact ⟨r, h1, h2.mono hn, fun x hx => (h3 x hx).mono hn⟩
theorem Sts.next (h : Sts K W.heap.size W v l) (hb : Below W.heap.size W W') : Sts K W'.heap.size W' v l := (h.below hb).mono hb.size
theorem Sts.shape (h : Sts K n₀ W v l) : ∃ a cap, v = .slice a l.length cap := by obtain ⟨r, h1, h2, h3⟩ := h; exact h2.shape
/-- Where they lie. -/
theorem Sts.at {a : Option Addr} {n cap : Nat} (h : Sts K n₀ W (.slice a n cap) l) (h0 : 0 < l.length) : ∃ b off, a = some ⟨b, off, none⟩ ∧ b < n₀ ∧ ∀ (j : Nat) (y : α), l[j]? = some y → ∃ ps, SubsH n₀ W ps (K.subs y) ∧ ∀ (i : Nat) (u : Value), (K.lie y ps)[i]? = some u → W.cell? ⟨b, off + j * K.k + i, none⟩ = some u := by
  obtain ⟨r, h1, h2, h3⟩ := h
  rcases h2 with ⟨_, e, _⟩ | ⟨b, off, c', e, hb, hc⟩
  · omega
  · cases e
    refine ⟨b, off, rfl, hb, fun j y hy => ?_⟩
    obtain ⟨x, hx, rfl⟩ : ∃ x, r[j]? = some x ∧ x.1 = y := by
      rw [← h1, List.getElem?_map] at hy
      cases hr : r[j]? with
      | none => rw [hr] at hy; simp at hy
      | some x => rw [hr] at hy; exact ⟨x, rfl, by simpa using hy⟩
    exact ⟨x.2, h3 x (List.mem_of_getElem? hx), fun i u hu => by rw [Nat.add_assoc]; exact hc _ u (cellsK_get K hx i u hu)⟩
end

/-- The slices ps lead to rows of the call's own. -/
def SubsO (base : Nat) (W : World) (ps : List Value) (s : List Sub) : Prop := ps.length = s.length ∧ ∀ (i : Nat) (p : Value) (t : Sub), ps[i]? = some p → s[i]? = some t → W.ownsRow base t.ty t.k p t.n t.cs
def Apart (p q : Value) : Prop := p.ownBlock = none ∨ p.ownBlock ≠ q.ownBlock
/-- Structs of the call's own: their rows lie in blocks of their own. -/
structure OwnL {α : Type} (K : Kind α) (base : Nat) (W : World) (r : Lies α) : Prop where
  subs : ∀ x ∈ r, SubsO base W x.2 (K.subs x.1)
  apart : (r.flatMap Prod.snd).Pairwise Apart
theorem rowK_below {W W' : World} {base k n₀ size : Nat} {e : TypeId} {v : Value} {xs : List Value} (h : W.ownsRow base e size v k xs) (hb : Below n₀ W W') (hn : W.heap.size ≤ n₀) : W'.ownsRow base e size v k xs := by
  refine ⟨h.1, ?_⟩
  rcases h.2 with h0 | ⟨g, cap, cur, hv, hbs, hg, hk, hm, hs, ht⟩
  · exact .inl h0
  · exact .inr ⟨g, cap, cur, hv, hbs, (hb.block g (by have := (Array.getElem?_eq_some_iff.1 hg).1; omega)).trans hg, hk, hm, hs, ht⟩
theorem rowK_base {W : World} {base base' k size : Nat} {e : TypeId} {v : Value} {xs : List Value} (h : W.ownsRow base e size v k xs) (hn : base' ≤ base) : W.ownsRow base' e size v k xs := by
  refine ⟨h.1, ?_⟩
  rcases h.2 with h0 | ⟨g, cap, cur, hv, hbs, hg, hk, hm, hs, ht⟩
  · exact .inl h0
  · exact .inr ⟨g, cap, cur, hv, by omega, hg, hk, hm, hs, ht⟩
theorem rowK_cap {w : World} {base e n cap size : Nat} {a : Option Addr} {xs : List Value} (h : w.ownsRow base e size (.slice a n cap) n xs) : n ≤ cap := by
  rcases h.2 with ⟨e, _⟩ | ⟨g, c, cur, e, _, _, hk, _⟩
  · cases e; exact Nat.le_refl _
  · cases e; exact hk
/-- What is turned in other blocks alone leaves a row as it is. -/
theorem rowK_same {W W' : World} {base k size : Nat} {e : TypeId} {v : Value} {xs : List Value} (h : W.ownsRow base e size v k xs) (hq : ∀ g, v.ownBlock = some g → W'.heap[g]? = W.heap[g]?) : W'.ownsRow base e size v k xs := by
  refine ⟨h.1, ?_⟩
  rcases h.2 with h0 | ⟨g, cap, cur, hv, hbs, hg, hk, hm, hs, ht⟩
  · exact .inl h0
  · exact .inr ⟨g, cap, cur, hv, hbs, (hq g (by rw [hv]; rfl)).trans hg, hk, hm, hs, ht⟩
/-- Sts of unlike elements lie in unlike blocks. -/
theorem rowsK_unlike {W : World} {base base' k k' size size' : Nat} {e e' : TypeId} {v v' : Value} {xs xs' : List Value} (h : W.ownsRow base e size v k xs) (h' : W.ownsRow base' e' size' v' k' xs') (he : e ≠ e') : Apart v v' := by
  rcases h.2 with ⟨rfl, _⟩ | ⟨g, cap, cur, rfl, _, hg, _⟩
  · exact .inl rfl
  · rcases h'.2 with ⟨rfl, _⟩ | ⟨g', cap', cur', rfl, _, hg', _⟩
    · exact .inr (by simp [Value.ownBlock])
    · refine .inr fun hc => ?_
      simp only [Value.ownBlock, Option.some.injEq] at hc
      subst hc
      rw [hg] at hg'
      simp only [Option.some.injEq, Obj.cells.injEq] at hg'
      exact he hg'.2.1
theorem SubsO.held {base : Nat} {W : World} {ps : List Value} {s : List Sub} (h : SubsO base W ps s) : SubsH W.heap.size W ps s := ⟨h.1, fun i p t hp ht => holdsC_of_row (h.2 i p t hp ht)⟩
theorem SubsO.same {base : Nat} {W W' : World} {ps : List Value} {s : List Sub} (h : SubsO base W ps s) (hq : ∀ p ∈ ps, ∀ g, p.ownBlock = some g → W'.heap[g]? = W.heap[g]?) : SubsO base W' ps s := ⟨h.1, fun i p t hp ht => rowK_same (h.2 i p t hp ht) (hq p (List.mem_of_getElem? hp))⟩
theorem SubsO.base {base base' : Nat} {W : World} {ps : List Value} {s : List Sub} (h : SubsO base W ps s) (hn : base' ≤ base) : SubsO base' W ps s := ⟨h.1, fun i p t hp ht => rowK_base (h.2 i p t hp ht) hn⟩
theorem SubsO.lt {base : Nat} {W : World} {ps : List Value} {s : List Sub} (h : SubsO base W ps s) : ∀ p ∈ ps, ∀ g, p.ownBlock = some g → base ≤ g ∧ g < W.heap.size := by
  intro p hp g hg
  obtain ⟨i, hi, e⟩ := List.getElem_of_mem hp
  have hl : i < s.length := by rw [← h.1]; exact hi
  exact (h.2 i p s[i] (by rw [← e]; simp) (by simp)).lt g hg
theorem subsO_one {base : Nat} {W : World} {p : Value} {t : Sub} (h : W.ownsRow base t.ty t.k p t.n t.cs) : SubsO base W [p] [t] := by
  refine ⟨rfl, fun i q u hq hu => ?_⟩
  match i with
  | 0 => simp at hq hu; subst hq hu; exact h
  | i + 1 => simp at hq
section
variable {α : Type} {K : Kind α} {base : Nat} {W W' : World} {r : Lies α}
theorem ownL_nil (K : Kind α) (base : Nat) (W : World) : OwnL K base W [] := ⟨fun x hx => by simp at hx, List.Pairwise.nil⟩
theorem OwnL.lt (h : OwnL K base W r) : ∀ x ∈ r, ∀ p ∈ x.2, ∀ g, p.ownBlock = some g → base ≤ g ∧ g < W.heap.size := fun x hx => (h.subs x hx).lt
theorem OwnL.same (h : OwnL K base W r) (hq : ∀ x ∈ r, ∀ p ∈ x.2, ∀ g, p.ownBlock = some g → W'.heap[g]? = W.heap[g]?) : OwnL K base W' r := ⟨fun x hx => (h.subs x hx).same (hq x hx), h.apart⟩
theorem OwnL.next (h : OwnL K base W r) (hb : Below W.heap.size W W') : OwnL K base W' r := h.same fun x hx p hp g hg => hb.block g (h.lt x hx p hp g hg).2
theorem OwnL.lower {base' : Nat} (h : OwnL K base W r) (hn : base' ≤ base) : OwnL K base' W r := ⟨fun x hx => (h.subs x hx).base hn, h.apart⟩
theorem OwnL.slices (h : OwnL K base W r) : ∀ x ∈ r, ∀ p ∈ x.2, ∃ a n c, p = Value.slice a n c := fun x hx => (h.subs x hx).held.slices
/-- The rows of a kind's own bear no element of its own type: the list itself may grow, or be written. -/
def Kind.unlike (K : Kind α) : Prop := ∀ y, ∀ t ∈ K.subs y, t.ty ≠ K.ty
theorem OwnL.unlike {base' n : Nat} {v : Value} {xs : List Value} (h : OwnL K base W r) (hK : K.unlike) (hv : W.ownsRow base' K.ty K.k v n xs) : ∀ x ∈ r, ∀ p ∈ x.2, Apart p v := by
  intro x hx p hp
  obtain ⟨i, hi, e⟩ := List.getElem_of_mem hp
  have hl : i < (K.subs x.1).length := by rw [← (h.subs x hx).1]; exact hi
  exact rowsK_unlike ((h.subs x hx).2 i p (K.subs x.1)[i] (by rw [← e]; simp) (by simp)) hv (hK x.1 _ (List.getElem_mem hl))
theorem OwnL.kept {base' n : Nat} {v : Value} {xs : List Value} (h : OwnL K base W r) (hK : K.unlike) (hv : W.ownsRow base' K.ty K.k v n xs) (hg : W.grownBy W' v.ownBlock) : OwnL K base W' r :=
  h.same fun x hx p hp g hpg => hg.block g (h.lt x hx p hp g hpg).2 fun e => by
    rcases h.unlike hK hv x hx p hp with e' | e'
    · rw [e'] at hpg; cases hpg
    · exact e' (hpg.trans e)
theorem OwnL.snoc {m : Nat} {x : α × List Value} (h : OwnL K base W r) (hx : SubsO m W x.2 (K.subs x.1)) (hxp : x.2.Pairwise Apart) (hm : base ≤ m) (hlt : ∀ u ∈ r, ∀ p ∈ u.2, ∀ g, p.ownBlock = some g → g < m) : OwnL K base W (r ++ [x]) := by
  refine ⟨fun u hu => ?_, ?_⟩
  · rcases List.mem_append.1 hu with hu | hu
    · exact h.subs u hu
    · simp at hu
      subst hu
      exact hx.base hm
  · rw [List.flatMap_append]
    refine List.pairwise_append.2 ⟨h.apart, by simpa using hxp, fun p hp q hq => ?_⟩
    obtain ⟨u, hu, hp⟩ := List.mem_flatMap.1 hp
    simp at hq
    cases ho : p.ownBlock with
    | none => exact .inl ho
    | some g =>
      refine .inr fun hc => ?_
      have h1 := hlt u hu p hp g ho
      have h2 := (hx.lt q hq g (by rw [← hc, ho])).1
      omega
end
/-- A list of structs of the call's own, their rows with it. -/
def OwnSts {α : Type} (K : Kind α) (base : Nat) (W : World) (v : Value) (l : List α) : Prop := ∃ r : Lies α, r.map Prod.fst = l ∧ W.ownsRow base K.ty K.k v l.length (cellsK K r) ∧ OwnL K base W r
section
variable {α : Type} {K : Kind α} {base : Nat} {W W' : World} {v : Value} {l : List α}
theorem OwnSts.rows (h : OwnSts K base W v l) : Sts K W.heap.size W v l := by obtain ⟨r, h1, h2, h3⟩ := h; exact ⟨r, h1, holdsC_of_row h2, fun x hx => (h3.subs x hx).held⟩
theorem OwnSts.next (h : OwnSts K base W v l) (hb : Below W.heap.size W W') : OwnSts K base W' v l := by obtain ⟨r, h1, h2, h3⟩ := h; exact ⟨r, h1, rowK_below h2 hb (Nat.le_refl _), h3.next hb⟩
theorem OwnSts.lower {base' : Nat} (h : OwnSts K base W v l) (hn : base' ≤ base) : OwnSts K base' W v l := by obtain ⟨r, h1, h2, h3⟩ := h; exact ⟨r, h1, rowK_base h2 hn, h3.lower hn⟩
theorem OwnSts.cap {a : Option Addr} {n cap : Nat} (h : OwnSts K base W (.slice a n cap) l) : n ≤ cap := by
  obtain ⟨r, h1, h2, h3⟩ := h
  rcases h2.2 with ⟨e, _⟩ | ⟨g, c, cur, e, _, _, hk, _⟩
  · cases e; exact Nat.le_refl _
  · cases e; exact hk
theorem ownSts_nil (K : Kind α) (base : Nat) (W : World) : OwnSts K base W (.slice none 0 0) [] := ⟨[], rfl, ⟨by simp [cellsK], .inl ⟨rfl, rfl⟩⟩, ownL_nil _ _ _⟩
end

theorem SubsH.one {n₀ : Nat} {W : World} {ps : List Value} {t : Sub} (h : SubsH n₀ W ps [t]) : ∃ p, ps = [p] ∧ HoldsC n₀ W p t.n t.cs := by
  match ps, h.1 with
  | [p], _ => exact ⟨p, rfl, h.2 0 p t rfl rfl⟩
/-- append whose run is known: for the walk, guarded or not. -/
theorem wpList_append_k {P : Program} {w : World} {ops : Array Oper} {rest : List Oper} {o : Oper} {a : Act} {Q : Exit → Act → World → Prop} (hw : Region.wanted o (yielded ops a.tmps) = true) (s x : Operand) (t : TypeId)
    (ho : o.op = .call { callee := .builtin .append, args := #[s, x], argTypes := #[t, t] }) (v src : Value) (hs : a.eval s = v) (hx : a.eval x = src) (v' : Value) (w' : World)
    (hrun : (Builtin.append_ #[t, t] o.type #[v, src]).run P w = .ok v' w') (h : wpList P ops Q rest (a.put o.dst v') w') : wpList P ops Q (o :: rest) a w := by
  refine wpList_step fun K hK => ?_
  rw [if_pos hw]
  unfold Oper.wp
  simp [execOp, ho, resolve, invoke, builtin, hs, hx, hrun, Result.andThen]
  exact hK _ _ h
/-- append of one struct, its run. -/
theorem run_append_st {α : Type} (K : Kind α) {P : Program} (st ty : TypeId) (z : Value) (bs : Nat) (hu : P.underlying st = some (.slice K.ty)) (hI : (P.info? K.ty).map (fun i => (i.zero, i.size, i.bytes)) = some (some z, K.k, bs)) (hz : z.cells.size = K.k) (hk : 0 < K.k) (hbs : bs ≤ 1024)
    (v : Value) (n base : Nat) (r : Lies α) (x : α × List Value) (hx : ∀ p ∈ x.2, ∃ a n c, p = Value.slice a n c) (cs : Array Value) (hcs : cs = (K.lie x.1 x.2).toArray) (w : World) (hown : w.ownsRow base K.ty K.k v n (cellsK K r)) (hb : base ≤ w.heap.size) (h1 : n ≤ 1048576) :
    ∃ v' w', (Builtin.append_ #[st, st] ty #[v, .slice (some ⟨w.heap.size, 0, none⟩) 1 1]).run P (w.alloc (.cells cs K.ty)) = .ok v' w' ∧ w'.ownsRow base K.ty K.k v' (n + 1) (cellsK K (r ++ [x])) ∧ (w.alloc (.cells cs K.ty)).grownBy w' v.ownBlock := by
  obtain ⟨i0, hi, hz0, hz1, hz2⟩ := info_parts hI
  subst hcs
  have hb2 : (n + 1) * bs ≤ (1048576 + 1) * 1024 := Nat.mul_le_mul (by omega) hbs
  obtain ⟨v', w', hr, ho, hg, _⟩ := run_append_own (P := P) (w.alloc (.cells (K.lie x.1 x.2).toArray K.ty)) base st ty K.ty i0 z K.k bs hu hi hz0 hz1 hz2 hz hk v n _ (hown.alloc _) ⟨w.heap.size, 0, none⟩ 1 1 (K.lie x.1 x.2) (by rw [K.len, Nat.one_mul]) (World.news_of_block (World.alloc_heap_new _ _)) (K.one _ _ hx) (by unfold maxLen; omega) (by omega) (by simp; omega)
  refine ⟨v', w', hr, ?_, hg⟩
  rw [cellsK_append, show cellsK K [x] = K.lie x.1 x.2 by simp [cellsK]]
  exact ho
/-- Cells side by side of a row of the call's own are written. -/
theorem row_setCells {base g n cap k : Nat} {e : TypeId} : ∀ (vs : List Value) (o : Nat) (w : World) (xs : List Value), w.ownsRow base e k (.slice (some ⟨g, 0, none⟩) n cap) n xs → o + vs.length ≤ xs.length →
    (w.setCells g o vs).ownsRow base e k (.slice (some ⟨g, 0, none⟩) n cap) n (xs.take o ++ vs ++ xs.drop (o + vs.length)) ∧ w.grownBy (w.setCells g o vs) (some g)
  | [], o, w, xs, h, _ => ⟨by simpa [World.setCells] using h, World.grownBy.refl _ _⟩
  | v :: vs, o, w, xs, h, ho => by
    simp only [List.length_cons] at ho
    obtain ⟨h1, g1⟩ := h.stored o v
    obtain ⟨h2, g2⟩ := row_setCells vs (o + 1) (w.setCell ⟨g, o, none⟩ v) (xs.set o v) h1 (by simp; omega)
    refine ⟨?_, ⟨g2.os.trans g1.os, g2.tape.trans g1.tape, g2.output.trans g1.output, Nat.le_trans g1.size g2.size, fun q hq hne => (g2.block q (Nat.lt_of_lt_of_le hq g1.size) hne).trans (g1.block q hq hne)⟩⟩
    have e1 : (xs.set o v).take (o + 1) = xs.take o ++ [v] := by
      rw [List.take_add_one, List.take_set, List.set_eq_of_length_le (by simp; omega)]
      simp [show o < xs.length by omega]
    have e2 : (xs.set o v).drop (o + 1 + vs.length) = xs.drop (o + 1 + vs.length) := List.drop_set_of_lt (by omega)
    rw [e1, e2] at h2
    rw [List.length_cons, show o + (vs.length + 1) = o + 1 + vs.length by omega]
    simpa [List.append_assoc, World.setCells] using h2
/-- Element j of structs of the call's own is written over. -/
theorem row_put {α : Type} {K : Kind α} {base g n cap : Nat} {w : World} {r : Lies α} (h : w.ownsRow base K.ty K.k (.slice (some ⟨g, 0, none⟩) n cap) n (cellsK K r)) (hn : r.length = n) (j : Nat) (hj : j < n) (y : α × List Value) :
    (w.setCells g (j * K.k) (K.lie y.1 y.2)).ownsRow base K.ty K.k (.slice (some ⟨g, 0, none⟩) n cap) n (cellsK K (r.set j y)) ∧ w.grownBy (w.setCells g (j * K.k) (K.lie y.1 y.2)) (some g) := by
  rw [set_flat K r j y (by omega)]
  have h1 : (j + 1) * K.k ≤ r.length * K.k := Nat.mul_le_mul_right _ (by omega)
  have := row_setCells (K.lie y.1 y.2) (j * K.k) w (cellsK K r) h (by rw [K.len, cellsK_len]; rw [Nat.add_mul, Nat.one_mul] at h1; exact h1)
  rwa [K.len] at this

/-- Structs that make laid. -/
theorem made_cells {α : Type} (K : Kind α) (z : α) (ps : List Value) (zc : Array Value) (hz : zc.toList = K.lie z ps) (hk : 0 < K.k) : ∀ n, (madeCells zc (n * K.k)).toList = cellsK K (List.replicate n (z, ps))
  | 0 => by simp [madeCells, cellsK]
  | n + 1 => by
    have hs : zc.size = K.k := by rw [← Array.length_toList, hz, K.len]
    have ih := made_cells K z ps zc hz hk n
    have e : cellsK K (List.replicate (n + 1) (z, ps)) = K.lie z ps ++ cellsK K (List.replicate n (z, ps)) := by simp [cellsK, List.replicate_succ]
    rw [e, ← ih, ← hz]
    apply List.ext_getElem?
    intro j
    have h1 : (n + 1) * K.k = n * K.k + K.k := by rw [Nat.add_mul, Nat.one_mul]
    by_cases hj : j < zc.size
    · rw [List.getElem?_append_left (by simpa using hj)]
      have : j < (n + 1) * K.k := by omega
      simp [madeCells, this, Nat.mod_eq_of_lt hj, hj]
    · rw [List.getElem?_append_right (by simpa using hj)]
      have h2 : j % zc.size = (j - zc.size) % zc.size := Nat.mod_eq_sub_mod (by omega)
      by_cases hl : j < (n + 1) * K.k
      · have h3 : j - zc.size < n * K.k := by omega
        simp [madeCells, hl, h3, h2]
      · have h3 : ¬ j - zc.size < n * K.k := by omega
        simp [madeCells, hl, h3]
theorem below_setCells {n g : Nat} {W : World} (hg : n ≤ g) : ∀ (vs : List Value) (o : Nat) (V : World), Below n W V → Below n W (V.setCells g o vs)
  | [], _, _, h => h
  | v :: vs, o, V, h => below_setCells hg vs (o + 1) (V.setCell ⟨g, o, none⟩ v) (h.setCell (p := ⟨g, o, none⟩) hg v)
theorem row_some {w : World} {base g n cap k : Nat} {e : TypeId} {xs : List Value} (h : w.ownsRow base e k (.slice (some ⟨g, 0, none⟩) n cap) n xs) (j : Nat) (hj : j < n * k) : ∃ u, w.cell? ⟨g, j, none⟩ = some u :=
  ⟨xs[j]'(by rw [h.1]; exact hj), by rw [h.cellAt j hj]; simp⟩
theorem Box.cellsOther {B g : Nat} {t : TypeId} {cs : Array Value} (hg : B ≠ g) : ∀ (vs : List Value) (o : Nat) (W : World), Box W B t cs → Box (W.setCells g o vs) B t cs
  | [], _, _, h => h
  | v :: vs, o, W, h => Box.cellsOther hg vs (o + 1) (W.setCell ⟨g, o, none⟩ v) (h.other (p := ⟨g, o, none⟩) hg v)
theorem take_set_snoc {α : Type} {l : List α} {k : Nat} (h : k < l.length) (y : α) : (l.set k y).take (k + 1) = l.take k ++ [y] := by
  rw [List.take_add_one, List.take_set, List.set_eq_of_length_le (by simp; omega)]
  simp [h]
theorem row_form {w : World} {base size n : Nat} {e : TypeId} {v : Value} {xs : List Value} (h : w.ownsRow base e size v n xs) (hn : 0 < n) : ∃ g cap, v = .slice (some ⟨g, 0, none⟩) n cap := by
  rcases h.2 with ⟨_, h0⟩ | ⟨g, cap, cur, rfl, _⟩
  · omega
  · exact ⟨g, cap, rfl⟩

end Go.Proofs.YtmjidhnlofpliaaDoor

/-
  Small facts of memory: stores into a variable side by side; rows and variables that lie in unlike blocks. No function of the program is spoken of.
-/
namespace Go.Proofs.YtmjidhnlofpliaaDoor
open Go.RowKit

/-- A row lies in another block than a variable of another type. -/
theorem row_neBox {W : World} {base size n B : Nat} {e t : TypeId} {v : Value} {l : List Value} {cs : Array Value} (h : W.ownsRow base e size v n l) (hb : Box W B t cs) (he : e ≠ t) : v.ownBlock ≠ some B := fun hv => by
  rcases h.2 with ⟨rfl, _⟩ | ⟨g, cap, cur, rfl, _, hg, _⟩
  · cases hv
  · simp only [Value.ownBlock, Option.some.injEq] at hv
    subst hv
    have hb' : W.heap[g]? = _ := hb
    rw [hg] at hb'
    simp only [Option.some.injEq, Obj.cells.injEq] at hb'
    exact he hb'.2.1
end Go.Proofs.YtmjidhnlofpliaaDoor

/-
  Lists of blocks (a number, a mark, a text) in memory. No function of the program is spoken of.
-/
namespace Go.Proofs.YtmjidhnlofpliaaDoor
open Go.RowKit

def blkK : Kind Bl where
  ty := 96
  k := 3
  lie := fun y ps => [.int .i64 y.1, .int .i64 y.2.1, ps.getD 0 (.slice none 0 0)]
  subs := fun y => [⟨5, 1, y.2.2.length, y.2.2.map (Value.int .u8)⟩]
  len := fun _ _ => rfl
  one := fun y ps h u hu => by
    simp only [List.mem_cons, List.not_mem_nil, or_false] at hu
    rcases hu with rfl | rfl | rfl
    · rfl
    · rfl
    · match ps, h with
      | [], _ => rfl
      | p :: _, h => obtain ⟨a, n, c, rfl⟩ := h p (by simp); rfl
theorem blkK_unlike : blkK.unlike := fun y t ht => by
  simp only [blkK, List.mem_cons, List.not_mem_nil, or_false] at ht
  subst ht
  show (5 : Nat) ≠ 96
  decide
abbrev Blks := Sts blkK
abbrev OwnBlks := OwnSts blkK
theorem infoBlk : (Tryd.prog.info? 96).map (fun i => (i.zero, i.size, i.bytes)) = some (some (.agg #[.int .i64 0, .int .i64 0, .slice none 0 0]), 3, 40) := by kernel_rfl
/-- Where blocks lie, and what. -/
theorem blks_at {n₀ n cap : Nat} {W : World} {a : Option Addr} {l : List Bl} (h : Blks n₀ W (.slice a n cap) l) (h0 : 0 < l.length) :
    ∃ b off, a = some ⟨b, off, none⟩ ∧ b < n₀ ∧ ∀ (j : Nat) (y : Bl), l[j]? = some y → ∃ p, Holds .u8 n₀ W p y.2.2 ∧ W.cell? ⟨b, off + j * 3, none⟩ = some (.int .i64 y.1) ∧ W.cell? ⟨b, off + j * 3 + 1, none⟩ = some (.int .i64 y.2.1) ∧ W.cell? ⟨b, off + j * 3 + 2, none⟩ = some p := by
  obtain ⟨b, off, rfl, hb, hc⟩ := h.at h0
  refine ⟨b, off, rfl, hb, fun j y hy => ?_⟩
  obtain ⟨ps, hs, hcell⟩ := hc j y hy
  obtain ⟨p, rfl, hp⟩ := hs.one
  exact ⟨p, hp.ints rfl, hcell 0 _ rfl, hcell 1 _ rfl, hcell 2 _ rfl⟩
end Go.Proofs.YtmjidhnlofpliaaDoor

/-
  What package cut answers (mark, part, Cut). (Written by tpl_cutcode.py.)
-/
namespace Go.Proofs.YtmjidhnlofpliaaDoor
open Go.RowKit

set_option maxRecDepth 100000 in
set_option maxHeartbeats 2000000 in
theorem cloneB_ok (a : Option Addr) (n cap : Nat) (zs : List Int) (hn : zs.length = n) (hl : n ≤ 4096) (w : World) (ha : Holds .u8 w.heap.size w (.slice a n cap) zs) :
    Calls Tryd.prog 39 #[.slice a n cap] w fun e W' => ∃ r, e = .returned r ∧ W'.ownsRow w.heap.size 5 1 r n (zs.map (Value.int .u8)) ∧ Below w.heap.size w W' := by
  subst hn
  have qS : ∀ (w : World) (a : Option Addr) (n c n' c' : Nat), (binOp .eql 35 (.slice a n c) (.slice none n' c')).run Tryd.prog w = .ok (.bool a.isNone) w := fun w a n c n' c' => Lib.run_eql_slice_nil w _ _ a n c n' c' Tryd.underlying35
  cases a with
  | none =>
    have h0 : zs = [] := by
      rcases ha with ⟨_, h⟩ | ⟨b, off, c, e, _⟩
      · exact h
      · simp only [Value.slice.injEq] at e; exact absurd e.1 (by simp)
    subst h0
    clear ha
    go_enter Tryd.func39, Tryd.ntmps39
    go_wp2
    go_ret
    exact ⟨_, rfl, World.ownsRow_nil _ _ _ _, Below.refl _ _⟩
  | some ad =>
    have o0 : (w.alloc (.cells #[] 5)).ownsRow w.heap.size 5 1 (.slice (some ⟨w.heap.size, 0, none⟩) 0 0) 0 (([] : List Int).map (Value.int .u8)) := World.ownsRow_made w #[] 0 (Nat.le_refl _) (Nat.zero_le _) rfl
    have b0 := (Below.refl w.heap.size w).alloc (Nat.le_refl _) (.cells #[] 5)
    obtain ⟨v3, w3, hr3, ho3, hg3⟩ := run_append_u8 (.slice (some ⟨w.heap.size, 0, none⟩) 0 0) (.slice (some ad) zs.length cap) 0 w.heap.size _ [] zs 35 (w.alloc (.cells #[] 5)) o0 (ha.below b0) (by simp) (by omega) (by omega)
    have b3 := b0.trans ((Below.refl w.heap.size _).grown hg3 (by simp) (fun q e => (o0.lt q e).1))
    have HR3 : Hid _ := hr3
    clear hr3 ha o0 hg3
    go_enter Tryd.func39, Tryd.ntmps39
    go_wp2_with (at_builtin; refine wpList_append_k rfl _ _ 35 rfl _ _ rfl rfl _ _ HR3.out ?_)
    go_ret
    refine ⟨_, rfl, ?_, b3⟩
    simpa using ho3

set_option maxRecDepth 100000 in
set_option maxHeartbeats 1000000 in
theorem cutMark_any (i n : Nat) (h : i < n) (hn : n ≤ 4096) (w : World) : Calls Tryd.prog 72 #[.int .i64 (i : Int), .int .i64 (n : Int)] w fun e w' => e = .returned (.int .i64 (markK n i)) ∧ w = w' := by
  have q1 : bits .or .i64 0 1 = 1 := by decide
  have q2 : bits .or .i64 0 2 = 2 := by decide
  have q3 : bits .or .i64 1 2 = 3 := by decide
  have HM : Hid (markK n i = (if i = 0 then 1 else 0) + (if i + 1 = n then 2 else 0)) := rfl
  generalize markK n i = M at *
  by_cases h0 : i = 0
  · subst h0
    by_cases h1 : n = 1
    · subst h1
      obtain rfl : M = 3 := HM.out
      go_enter Tryd.func72, Tryd.ntmps72
      go_wp2
      go_ret
      exact ⟨rfl, rfl⟩
    · obtain rfl : M = 1 := by rw [HM.out, if_pos rfl, if_neg (by omega)]; rfl
      have d1 : ((0 : Int) == (n : Int) - 1) = false := by simp; omega
      clear h1
      go_enter Tryd.func72, Tryd.ntmps72
      go_wp2
      go_ret
      exact ⟨rfl, rfl⟩
  · have d0 : ((i : Int) == 0) = false := by simp; omega
    by_cases h1 : i + 1 = n
    · obtain rfl : M = 2 := by rw [HM.out, if_neg h0, if_pos h1]; rfl
      have d1 : ((i : Int) == (n : Int) - 1) = true := by simp; omega
      clear h1 h0
      go_enter Tryd.func72, Tryd.ntmps72
      go_wp2
      go_ret
      exact ⟨rfl, rfl⟩
    · obtain rfl : M = 0 := by rw [HM.out, if_neg h0, if_neg h1]; rfl
      have d1 : ((i : Int) == (n : Int) - 1) = false := by simp; omega
      clear h1 h0
      go_enter Tryd.func72, Tryd.ntmps72
      go_wp2
      go_ret
      exact ⟨rfl, rfl⟩

/-- Where a text begins. -/
theorem text_from {B n i : Nat} (hB : 1 ≤ B) (h : i < blocksN B n) : n = 0 ∧ i = 0 ∨ i * B < n := by
  obtain ⟨h1, h2, h3⟩ := blocksN_bd (B := B) (L := n) hB
  by_cases h4 : 1 < blocksN B n
  · have h5 := h3 h4
    have h6 : i * B ≤ (blocksN B n - 1) * B := Nat.mul_le_mul_right _ (by omega)
    exact .inr (by omega)
  · have : i = 0 := by omega
    subst this
    rw [Nat.zero_mul]
    omega

set_option maxRecDepth 100000 in
set_option maxHeartbeats 2000000 in
theorem cutPart_ok (a : Option Addr) (n cap : Nat) (msg : List Int) (hn : msg.length = n) (hl : n ≤ 4000) (hc : n ≤ cap) (B i : Nat) (hB : 1 ≤ B) (hB2 : B ≤ 16) (hi : i < blocksN B n) (w : World) (ha : Holds .u8 w.heap.size w (.slice a n cap) msg) :
    Calls Tryd.prog 73 #[.slice a n cap, .int .i64 (i : Int), .int .i64 (B : Int)] w fun e W' => ∃ r, e = .returned r ∧ W'.ownsRow w.heap.size 5 1 r (textK B msg i).length ((textK B msg i).map (Value.int .u8)) ∧ Below w.heap.size w W' := by
  obtain ⟨X, hX⟩ : ∃ X, textK B msg i = X := ⟨_, rfl⟩
  obtain ⟨m, hm⟩ : ∃ m, X.length = m := ⟨_, rfl⟩
  have hm2 : m = min B (n - i * B) := by rw [← hm, ← hX, textK_len, hn]
  rw [hX, hm]
  rcases text_from hB hi with ⟨h0, h1⟩ | hlt
  · subst h0 h1
    obtain rfl : m = 0 := by omega
    obtain rfl : X = [] := List.length_eq_zero_iff.1 hm
    have hz : min (B : Int) 0 = 0 := by omega
    obtain rfl : msg = [] := List.length_eq_zero_iff.1 hn
    clear hX hm hm2 hn hi hl hc
    go_enter Tryd.func73, Tryd.ntmps73
    cases a with
    | none =>
      obtain rfl : cap = 0 := by
        rcases ha with ⟨⟨a, c, e, h⟩, _⟩ | ⟨b, off, c, e, _⟩
        · cases e; exact h rfl
        · simp only [Value.slice.injEq] at e; exact absurd e.1 (by simp)
      go_wp2_with fail
      refine (cloneB_ok none 0 0 [] rfl (by omega) w ha).mono ?_
      rintro e w2 ⟨r, rfl, o2, b2⟩
      go_wp2
      go_ret
      exact ⟨_, rfl, o2, b2⟩
    | some ad =>
      go_wp2_with fail
      refine (cloneB_ok (some ad) 0 cap [] rfl (by omega) w ha).mono ?_
      rintro e w2 ⟨r, rfl, o2, b2⟩
      go_wp2
      go_ret
      exact ⟨_, rfl, o2, b2⟩
  · obtain ⟨F, hF⟩ : ∃ F, i * B = F := ⟨_, rfl⟩
    rw [hF] at hlt hm2
    have e1 : (i : Int) * (B : Int) = (F : Int) := by rw [← hF]; push_cast; rfl
    have n1 : ¬ cap = F := by omega
    obtain ⟨b, off, rfl, hb, hcs⟩ : ∃ b off, a = some ⟨b, off, none⟩ ∧ b < w.heap.size ∧ ∀ j, j < n → w.cell? ⟨b, off + j, none⟩ = some (.int .u8 (msg[j]?.getD 0)) := by
      rcases ha with ⟨_, e⟩ | ⟨b, off, c, e, h1, h2⟩
      · rw [e] at hn; simp at hn; omega
      · cases e
        exact ⟨b, off, rfl, h1, fun j hj => h2 j (by omega)⟩
    have hH : ∀ c, Holds .u8 w.heap.size w (.slice (some ⟨b, off + F, none⟩) m c) X := fun c => by
      refine .inr ⟨b, off + F, c, by rw [hm], hb, fun j hj => ?_⟩
      rw [Nat.add_assoc, hcs (F + j) (by omega), ← hX]
      unfold textK
      rw [hF, List.getElem?_take, if_pos (by omega), List.getElem?_drop]
    have HC := cloneB_ok (some ⟨b, off + F, none⟩) m (cap - F) X hm (by omega) w (hH _)
    have HM : Hid (m = min B (n - F)) := hm2
    clear hm2 hX hm hn ha hH hcs hF hi
    by_cases hE : F + B ≤ n
    · obtain rfl : m = B := by have := HM.out; omega
      have z1 : min ((F : Int) + (m : Int)) (n : Int) = (F : Int) + m := by omega
      have z2 : ((F : Int) + (m : Int)).toNat - F = m := by omega
      have z3 : (F + m) - F = m := by omega
      go_enter Tryd.func73, Tryd.ntmps73
      go_wp2_with fail
      refine HC.mono ?_
      rintro e w2 ⟨r, rfl, o2, b2⟩
      go_wp2
      go_ret
      exact ⟨_, rfl, o2, b2⟩
    · obtain rfl : m = n - F := by have := HM.out; omega
      have z1 : min ((F : Int) + (B : Int)) (n : Int) = n := by omega
      go_enter Tryd.func73, Tryd.ntmps73
      go_wp2_with fail
      refine HC.mono ?_
      rintro e w2 ⟨r, rfl, o2, b2⟩
      go_wp2
      go_ret
      exact ⟨_, rfl, o2, b2⟩

/-- How many blocks, as the code counts them. -/
theorem blocks_nat {c : Cfg} {B : Nat} (hB : c.cB = (B : Int)) (n M : Nat) (hM : blocksN B n = M) (h1 : 1 ≤ B) : blocksC c n = (M : Int) := by
  subst hM
  unfold blocksC blocksN
  rw [hB]
  have : ((n : Int) + B - 1) / B = (((n + B - 1) / B : Nat) : Int) := by
    rw [show (n : Int) + B - 1 = ((n + B - 1 : Nat) : Int) by omega]
    exact (Int.natCast_ediv _ _).symm
  rw [this]
  omega

set_option maxRecDepth 100000 in
set_option maxHeartbeats 4000000 in
theorem Cut_ok (c : Cfg) (s : Int) (a : Option Addr) (n cap : Nat) (hC : okC c = true) (hn : (n : Int) ≤ c.cMsg) (hc : n ≤ cap) (msg : List Int) (hl : msg.length = n) (B M : Nat) (hCB : c.cB = (B : Int)) (hM : blocksN B n = M) (hs0 : 0 ≤ s) (hs1 : s + M ≤ 1073741824) (w : World) (ha : Holds .u8 w.heap.size w (.slice a n cap) msg) :
    Calls Tryd.prog 54 #[.agg #[.int .i64 c.cB, .int .i64 c.cBeam, .int .i64 c.cDepth, .int .i64 c.cWin, .int .i64 c.cQs, .int .i64 c.cQr, .int .i64 c.cBatch, .int .i64 c.cPass, .int .i64 c.cMsg, .int .i64 c.cSeqs], .int .i64 s, .slice a n cap] w fun e W' => ∃ v, e = .returned (.tuple #[v, .int .i64 0]) ∧ OwnBlks w.heap.size W' v (cutL B s M msg) ∧ Below w.heap.size w W' := by
  have HCB : Hid (c.cB = (B : Int)) := hCB
  have HM : Hid (blocksN B n = M) := hM
  clear hCB hM
  have b1 := (Below.refl w.heap.size w).alloc (Nat.le_refl _) (.cells #[.int .i64 c.cB, .int .i64 c.cBeam, .int .i64 c.cDepth, .int .i64 c.cWin, .int .i64 c.cQs, .int .i64 c.cQr, .int .i64 c.cBatch, .int .i64 c.cPass, .int .i64 c.cMsg, .int .i64 c.cSeqs] 23)
  have xC := Box.new w 23 #[.int .i64 c.cB, .int .i64 c.cBeam, .int .i64 c.cDepth, .int .i64 c.cWin, .int .i64 c.cQs, .int .i64 c.cQr, .int .i64 c.cBatch, .int .i64 c.cPass, .int .i64 c.cMsg, .int .i64 c.cSeqs]
  have H1 := ConfCheck_any c (w.alloc (.cells #[.int .i64 c.cB, .int .i64 c.cBeam, .int .i64 c.cDepth, .int .i64 c.cWin, .int .i64 c.cQs, .int .i64 c.cQr, .int .i64 c.cBatch, .int .i64 c.cPass, .int .i64 c.cMsg, .int .i64 c.cSeqs] 23))
  unfold checkA at H1
  rw [if_pos hC] at H1
  go_enter Tryd.func54, Tryd.ntmps54
  go_wp2_with fail
  refine H1.mono ?_
  rintro e W1 ⟨rfl, b2⟩
  have yC := xC.next b2
  have bb := b1.trans (b2.mono b1.size)
  clear H1 b1 b2 xC
  have HB := ConfBlocks_any c n W1
  have eB : blocksA c n = (M : Int) := by
    obtain ⟨h1, _, _, _, _, _, _, _, h9, _⟩ := (okC_iff c).1 hC
    unfold blocksA
    rw [if_pos ⟨hC, by omega, by omega⟩]
    have h0 := HCB.out
    exact blocks_nat HCB.out n M HM.out (by omega)
  rw [eB] at HB
  clear eB
  have d1 : decide (c.cMsg < (n : Int)) = false := decide_eq_false (by omega)
  obtain ⟨hB1, hB2, hn2, hM1, hM2⟩ : 1 ≤ B ∧ B ≤ 16 ∧ n ≤ 200 ∧ 1 ≤ M ∧ M ≤ 200 := by
    obtain ⟨h1, _, _, _, _, _, _, _, h9, _⟩ := (okC_iff c).1 hC
    have := blocksC_bd hC (n := n) (by omega) (by omega)
    have h0 := HCB.out
    rw [blocks_nat HCB.out n M HM.out (by omega)] at this
    omega
  have HL : Hid (msg.length = n) := hl
  have d2 : decide (s < 0) = false := decide_eq_false (by omega)
  have d3 : decide (1073741824 - (M : Int) < s) = false := decide_eq_false (by omega)
  obtain ⟨D, hD⟩ : ∃ D, w.heap.size = D := ⟨_, rfl⟩
  rw [hD] at yC bb ha ⊢
  have k0 := yC.cell 0 _ rfl
  have k1 := yC.cell 1 _ rfl
  have k2 := yC.cell 2 _ rfl
  have k3 := yC.cell 3 _ rfl
  have k4 := yC.cell 4 _ rfl
  have k5 := yC.cell 5 _ rfl
  have k6 := yC.cell 6 _ rfl
  have k7 := yC.cell 7 _ rfl
  have k8 := yC.cell 8 _ rfl
  have k9 := yC.cell 9 _ rfl
  obtain ⟨i0, hi0, hz0, hz1, hz2⟩ := info_parts infoBlk
  clear hn hC hl
  go_wp2_with fail
  refine HB.mono ?_
  rintro e W2 ⟨rfl, b2⟩
  have zC := yC.next b2
  replace bb := bb.trans (b2.mono (by have := bb.size; omega))
  clear b2 yC HB
  clear k0 k1 k2 k3 k4 k5 k6 k7 k8 k9
  have hlt := zC.lt
  rw [HCB.out] at zC
  go_wp2_with (at_make; refine wpList_make_full _ rfl _ _ 92 rfl (D + 1) 96 i0 _ 3 Tryd.underlying92 hi0 hz0 hz1 .i64 .i64 _ _ M rfl rfl rfl rfl (by rw [hz2]; omega) (by unfold maxLen; omega) (by omega) ?_; intro W3 hown3 hgrow3)
  have q3 : Below W2.heap.size W2 W3 := (Below.refl _ _).grown hgrow3 (Nat.le_refl _) (fun k e => by cases e)
  clear hgrow3
  have tC := zC.below q3 hlt
  generalize W2.heap.size = G at *
  have hDG : D < G := hlt
  replace hown3 : W3.ownsRow (D + 1) 96 3 (.slice (some ⟨G, 0, none⟩) M M) M (cellsK blkK (List.replicate M ((0, 0, []), [.slice none 0 0]))) := by
    have e := made_cells blkK (0, 0, []) [.slice none 0 0] #[.int .i64 0, .int .i64 0, .slice none 0 0] rfl (by decide) M
    rw [← e]
    exact hown3
  have bb3 := bb.trans (q3.mono (by omega))
  clear q3 zC bb
  go_loopw [38] (fun i wr => ∃ (k : Nat) (r : Lies Bl), k ≤ M ∧ i = .int .i64 (k : Int) ∧ r.length = M ∧ (r.take k).map Prod.fst = (cutL B s M msg).take k ∧ wr.ownsRow (D + 1) 96 3 (.slice (some ⟨G, 0, none⟩) M M) M (cellsK blkK r) ∧ OwnL blkK (D + 1) wr (r.take k) ∧ Box wr D 23 #[.int .i64 (B : Int), .int .i64 c.cBeam, .int .i64 c.cDepth, .int .i64 c.cWin, .int .i64 c.cQs, .int .i64 c.cQr, .int .i64 c.cBatch, .int .i64 c.cPass, .int .i64 c.cMsg, .int .i64 c.cSeqs] ∧ Below D w wr) (fun i _ => M - (intOf i).toNat)
  case atStart => exact ⟨0, _, Nat.zero_le _, rfl, List.length_replicate, rfl, hown3, ownL_nil _ _ _, tC, bb3⟩
  case round =>
    obtain ⟨k, r, hk, rfl, hrl, hrc, hrow, hown, xC, bw⟩ := hrel
    have HRL : Hid (r.length = M) := hrl
    have HRC : Hid ((r.take k).map Prod.fst = (cutL B s M msg).take k) := hrc
    clear hrl hrc
    by_cases hlt2 : k < M
    · have hDl : D < D + 1 := Nat.lt_succ_self _
      have hD1 : D + 1 ≤ wr.heap.size := xC.lt
      have k0 := xC.cell 0 _ rfl
      have HMK : Hid (∀ wx : World, Calls Tryd.prog 72 #[.int .i64 (k : Int), .int .i64 (M : Int)] wx fun e w' => e = .returned (.int .i64 (markK M k)) ∧ wx = w') := fun wx => cutMark_any k M hlt2 (by omega) wx
      have HPT : Hid (∀ wx : World, Below wr.heap.size wr wx → Calls Tryd.prog 73 #[.slice a n cap, .int .i64 (k : Int), .int .i64 (B : Int)] wx fun e w' => ∃ ra rc, e = .returned (.slice ra (textK B msg k).length rc) ∧ w'.ownsRow wr.heap.size 5 1 (.slice ra (textK B msg k).length rc) (textK B msg k).length ((textK B msg k).map (Value.int .u8)) ∧ Below wr.heap.size wr w') := fun wx hx => by
        refine (cutPart_ok a n cap msg HL.out (by omega) hc B k hB1 hB2 (by rw [HM.out]; exact hlt2) wx (((ha.below bw).mono (by omega)).next hx)).mono ?_
        rintro e w' ⟨r, rfl, o, b⟩
        obtain ⟨ra, rc, rfl, _⟩ := (kept_of_row o).2
        exact ⟨ra, rc, rfl, rowK_base o hx.size, hx.trans (b.mono hx.size)⟩
      have wq : IntKind.i64.wrap (s + (k : Int)) = s + (k : Int) := wraps_i64 _ (by omega) (by omega)
      go_wp2_with fail
      refine wp_region_held_drew (S := fun w' => Below (D + 1) wr w') (by kernel_rfl) ((Below.refl _ _).drew) (fun hHeld => ?_)
      refine held_take (i := 0) (d := 41) (v := ?v1) rfl rfl (by kernel_rfl) (by kernel_rfl) (by kernel_rfl) (fun _ _ _ h => h) (Or.inl ⟨by kernel_rfl, ?hy1⟩) hHeld ?rest1
      case hy1 =>
        intro wx hSw
        clear hSw
        go_simp
        with_reducible rfl
      simp only [List.setIfInBounds_toArray, List.set_cons_zero, List.set_cons_succ]
      refine held_take (i := 1) (d := 42) (v := ?v2) rfl rfl (by kernel_rfl) (by kernel_rfl) (by kernel_rfl) (fun _ _ _ h => h) (Or.inl ⟨by kernel_rfl, ?hy2⟩) hHeld ?rest2
      case hy2 =>
        intro wx hSw
        clear hSw
        go_simp
        with_reducible rfl
      simp only [List.setIfInBounds_toArray, List.set_cons_zero, List.set_cons_succ]
      refine held_take (i := 2) (d := 43) (v := ?v3) rfl rfl (by kernel_rfl) (by kernel_rfl) (by kernel_rfl) (fun _ _ _ h => h) (Or.inl ⟨by kernel_rfl, ?hy3⟩) hHeld ?rest3
      case hy3 =>
        intro wx hSw
        clear hSw
        go_simp
        with_reducible rfl
      simp only [List.setIfInBounds_toArray, List.set_cons_zero, List.set_cons_succ]
      refine held_take (i := 3) (d := 44) (v := ?v4) rfl rfl (by kernel_rfl) (by kernel_rfl) (by kernel_rfl) (fun _ _ _ h => h) (Or.inl ⟨by kernel_rfl, ?hy4⟩) hHeld ?rest4
      case hy4 =>
        intro wx hSw
        clear hSw
        go_simp
        with_reducible rfl
      simp only [List.setIfInBounds_toArray, List.set_cons_zero, List.set_cons_succ]
      refine held_take (i := 4) (d := 45) (v := ?v5) rfl rfl (by kernel_rfl) (by kernel_rfl) (by kernel_rfl) (fun _ _ _ h => h) (Or.inl ⟨by kernel_rfl, ?hy5⟩) hHeld ?rest5
      case hy5 =>
        intro wx hSw
        clear hSw
        go_simp
        with_reducible rfl
      simp only [List.setIfInBounds_toArray, List.set_cons_zero, List.set_cons_succ]
      refine held_take (i := 5) (d := 46) (v := ?v6) rfl rfl (by kernel_rfl) (by kernel_rfl) (by kernel_rfl) (fun _ _ _ h => h) (Or.inl ⟨by kernel_rfl, ?hy6⟩) hHeld ?rest6
      case hy6 =>
        intro wx hSw
        clear hSw
        go_simp
        with_reducible rfl
      simp only [List.setIfInBounds_toArray, List.set_cons_zero, List.set_cons_succ]
      refine held_take (i := 6) (d := 47) (v := ?v7) rfl rfl (by kernel_rfl) (by kernel_rfl) (by kernel_rfl) (fun _ _ _ h => h) (Or.inl ⟨by kernel_rfl, ?hy7⟩) hHeld ?rest7
      case hy7 =>
        intro wx hSw
        clear hSw
        go_simp
        with_reducible rfl
      simp only [List.setIfInBounds_toArray, List.set_cons_zero, List.set_cons_succ]
      refine held_take (i := 8) (d := 49) (v := ?v8) rfl rfl (by kernel_rfl) (by kernel_rfl) (by kernel_rfl) (fun _ _ _ h => h) (Or.inl ⟨by kernel_rfl, ?hy8⟩) hHeld ?rest8
      case hy8 =>
        intro wx hSw
        clear hSw
        go_simp
        with_reducible rfl
      simp only [List.setIfInBounds_toArray, List.set_cons_zero, List.set_cons_succ]
      refine held_take (i := 9) (d := 50) (v := ?v9) rfl rfl (by kernel_rfl) (by kernel_rfl) (by kernel_rfl) (fun _ _ _ h => h) (Or.inl ⟨by kernel_rfl, ?hy9⟩) hHeld ?rest9
      case hy9 =>
        intro wx hSw
        clear hSw
        go_simp
        with_reducible rfl
      simp only [List.setIfInBounds_toArray, List.set_cons_zero, List.set_cons_succ]
      refine held_take (i := 10) (d := 51) (v := ?v10) rfl rfl (by kernel_rfl) (by kernel_rfl) (by kernel_rfl) (fun _ _ _ h => h) (Or.inl ⟨by kernel_rfl, ?hy10⟩) hHeld ?rest10
      case hy10 =>
        intro wx hSw
        clear hSw
        go_simp
        with_reducible rfl
      simp only [List.setIfInBounds_toArray, List.set_cons_zero, List.set_cons_succ]
      refine held_take (i := 11) (d := 52) (v := ?v11) rfl rfl (by kernel_rfl) (by kernel_rfl) (by kernel_rfl) (fun _ _ _ h => h) (Or.inl ⟨by kernel_rfl, ?hy11⟩) hHeld ?rest11
      case hy11 =>
        intro wx hSw
        have q0 := (hSw.cell (p := ⟨D, 0, none⟩) hDl).trans k0
        clear hSw
        go_simp
        with_reducible rfl
      simp only [List.setIfInBounds_toArray, List.set_cons_zero, List.set_cons_succ]
      refine wpAnyH_ready (rs := [7]) (by kernel_rfl) (by simp) ?_
      refine AllReadyH.cons rfl (fun K hK => ?_) AllReadyH.nil
      go_simp
      go_wp2_with (go_at_call 72; refine (HMK.out _).mono ?_; rintro e wb ⟨rfl, rfl⟩)
      refine hK.out _ _ (hHeld) (fun hHeld => ?_)
      clear hK K
      refine wpAnyH_ready (rs := [12]) (by kernel_rfl) (by simp) ?_
      refine AllReadyH.cons rfl (fun K hK => ?_) AllReadyH.nil
      go_simp
      go_wp2_with (go_at_call 73; refine (HPT.out _ (by exact (Below.refl _ _).drew)).mono ?_; rintro e w5 ⟨ra, rc, rfl, o5, b5⟩)
      have hr5 := rowK_below hrow b5 (Nat.le_refl _)
      refine hK.out _ _ (b5.mono hD1) (fun hHeld => ?_)
      clear hK K
      refine held_take (i := 13) (d := 54) (v := ?v12) rfl rfl (by kernel_rfl) (by kernel_rfl) (by kernel_rfl) (fun _ _ _ h => h) (Or.inl ⟨by kernel_rfl, ?hy12⟩) hHeld ?rest12
      case hy12 =>
        intro wx hSw
        clear hSw
        go_simp
        with_reducible rfl
      simp only [List.setIfInBounds_toArray, List.set_cons_zero, List.set_cons_succ]
      refine held_take (i := 14) (d := 55) (v := ?v13) rfl rfl (by kernel_rfl) (by kernel_rfl) (by kernel_rfl) (fun _ _ _ h => h) (Or.inl ⟨by kernel_rfl, ?hy13⟩) hHeld ?rest13
      case hy13 =>
        intro wx hSw
        clear hSw
        go_simp
        with_reducible rfl
      simp only [List.setIfInBounds_toArray, List.set_cons_zero, List.set_cons_succ]
      refine wpAnyH_ready (rs := [15]) (by kernel_rfl) (by simp) ?_
      refine AllReadyH.cons rfl (fun K hK => ?_) AllReadyH.nil
      obtain ⟨u0, z0⟩ := row_some hr5 (k * 3) (by omega)
      obtain ⟨u1, z1⟩ := row_some hr5 (k * 3 + 1) (by omega)
      obtain ⟨u2, z2⟩ := row_some hr5 (k * 3 + 2) (by omega)
      have v0 := hr5.frozenAt (k * 3)
      have v1 := hr5.frozenAt (k * 3 + 1)
      have v2 := hr5.frozenAt (k * 3 + 2)
      go_simp
      refine hK.out _ _ (below_setCells (by omega) [.int .i64 (s + (k : Int)), .int .i64 (markK M k), .slice ra (textK B msg k).length rc] (k * 3) w5 (b5.mono hD1)) (fun hHeld => ?_)
      clear hK K
      refine wpAnyH_done (by kernel_rfl) ?_ _
      go_wp2
      refine ⟨?_, (by simp [intOf]; omega)⟩
      ·
        have hp := row_put (K := blkK) hr5 HRL.out k hlt2 ((s + (k : Int), markK M k, textK B msg k), [.slice ra (textK B msg k).length rc])
        refine ⟨k + 1, r.set k ((s + (k : Int), markK M k, textK B msg k), [.slice ra (textK B msg k).length rc]), hlt2, by go_num, (by rw [List.length_set]; exact HRL.out), ?_, hp.1, ?_, ?_, ?_⟩
        · rw [take_set_snoc (by rw [HRL.out]; exact hlt2), List.map_append, HRC.out, List.take_add_one, cutL_get hlt2]
          rfl
        · rw [take_set_snoc (by rw [HRL.out]; exact hlt2)]
          exact ((hown.next b5).snoc (x := ((s + (k : Int), markK M k, textK B msg k), [.slice ra (textK B msg k).length rc])) (subsO_one o5) (List.pairwise_singleton _ _) hD1 (fun u hu p hq g hg => (hown.lt u hu p hq g hg).2)).kept blkK_unlike hr5 hp.2
        · exact Box.cellsOther (Nat.ne_of_lt hDG) [.int .i64 (s + (k : Int)), .int .i64 (markK M k), .slice ra (textK B msg k).length rc] (k * 3) w5 (xC.next b5)
        · exact below_setCells (Nat.le_of_lt hDG) [.int .i64 (s + (k : Int)), .int .i64 (markK M k), .slice ra (textK B msg k).length rc] (k * 3) w5 (bw.trans (b5.mono (by omega)))
    · obtain rfl : k = M := by omega
      go_wp2
      go_ret2
      have e1 : r.take k = r := List.take_of_length_le (by rw [HRL.out]; exact Nat.le_refl _)
      have e2 : (cutL B s k msg).take k = cutL B s k msg := List.take_of_length_le (by rw [cutL_len]; exact Nat.le_refl _)
      rw [e1] at hown
      have e3 := HRC.out
      rw [e1, e2] at e3
      exact ⟨_, rfl, ⟨r, e3, by rw [cutL_len]; exact rowK_base (base' := w.heap.size) hrow (by omega), hown.lower (base' := w.heap.size) (by omega)⟩, by rw [hD]; exact bw⟩

end Go.Proofs.YtmjidhnlofpliaaDoor
