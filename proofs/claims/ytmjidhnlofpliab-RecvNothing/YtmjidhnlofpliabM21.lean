/-
  Lists of structs in memory, of whatever kind: the cells of each element as they lie, and the rows that its slices lead to. No function of the program is spoken of.
-/
import Derived.Test.YtmjidhnlofpliabM01
import Derived.Test.YtmjidhnlofpliabM02
import Derived.Test.YtmjidhnlofpliabM06
import Derived.Test.YtmjidhnlofpliabM07
import Derived.Test.YtmjidhnlofpliabM11
import Derived.Deep.OwnRows
import Derived.Laws.IdiomCopy
import Derived.OwnWalk
namespace Go.Proofs.Ytmjidhnlofpliab
open Go.RowKit

/-- A row that a struct leads to: its elements' type, cells an element, how many, all cells. -/
structure Sub where
  ty : TypeId
  k : Nat
  n : Nat
  cs : List Value
/-- A kind of struct: its type, its cells as they lie (ps: its slices), the rows that they lead to. -/
structure Kind (α : Type) where
  ty : TypeId
  k : Nat
  lie : α → List Value → List Value
  subs : α → List Sub
  len : ∀ y ps, (lie y ps).length = k
  one : ∀ y ps, (∀ p ∈ ps, ∃ a n c, p = Value.slice a n c) → ∀ u ∈ lie y ps, u.oneCell' = true
abbrev Lies (α : Type) := List (α × List Value)
def cellsK {α : Type} (K : Kind α) (r : Lies α) : List Value := r.flatMap fun x => K.lie x.1 x.2
theorem cellsK_len {α : Type} (K : Kind α) : ∀ r : Lies α, (cellsK K r).length = r.length * K.k
  | [] => by simp [cellsK]
  | x :: r => by
    have := cellsK_len K r
    unfold cellsK at this ⊢
    rw [List.flatMap_cons, List.length_append, K.len, this, List.length_cons, Nat.add_mul, Nat.one_mul, Nat.add_comm]
theorem cellsK_append {α : Type} (K : Kind α) (r s : Lies α) : cellsK K (r ++ s) = cellsK K r ++ cellsK K s := by simp [cellsK]
theorem cellsK_get {α : Type} (K : Kind α) : ∀ {r : Lies α} {j : Nat} {x : α × List Value}, r[j]? = some x → ∀ (i : Nat) (u : Value), (K.lie x.1 x.2)[i]? = some u → (cellsK K r)[j * K.k + i]? = some u
  | [], j, x, h => by simp at h
  | y :: r, 0, x, h => by
    simp at h
    subst h
    intro i u hu
    have := (List.getElem?_eq_some_iff.1 hu).1
    show ((y :: r).flatMap fun x => K.lie x.1 x.2)[0 * K.k + i]? = some u
    rw [List.flatMap_cons, Nat.zero_mul, Nat.zero_add, List.getElem?_append_left this]
    exact hu
  | y :: r, j + 1, x, h => by
    intro i u hu
    have ih := cellsK_get K (r := r) (j := j) (x := x) (by simpa using h) i u hu
    show ((y :: r).flatMap fun x => K.lie x.1 x.2)[(j + 1) * K.k + i]? = some u
    rw [List.flatMap_cons, List.getElem?_append_right (by rw [K.len, Nat.add_mul, Nat.one_mul]; omega), K.len, show (j + 1) * K.k + i - K.k = j * K.k + i by rw [Nat.add_mul, Nat.one_mul]; omega]
    exact ih
theorem cellsK_one {α : Type} (K : Kind α) {r : Lies α} (h : ∀ x ∈ r, ∀ p ∈ x.2, ∃ a n c, p = Value.slice a n c) : ∀ u ∈ cellsK K r, u.oneCell' = true := by
  intro u hu
  obtain ⟨x, hx, hu⟩ := List.mem_flatMap.1 hu
  exact K.one _ _ (h x hx) u hu
/-- Element j is written over. -/
theorem set_flat {α : Type} (K : Kind α) : ∀ (r : Lies α) (j : Nat) (y : α × List Value), j < r.length → cellsK K (r.set j y) = (cellsK K r).take (j * K.k) ++ K.lie y.1 y.2 ++ (cellsK K r).drop (j * K.k + K.k)
  | [], j, y, h => by simp at h
  | x :: r, 0, y, h => by
    have e : cellsK K (x :: r) = K.lie x.1 x.2 ++ cellsK K r := by simp [cellsK]
    rw [e, Nat.zero_mul, Nat.zero_add, List.take_zero, List.nil_append, List.drop_left' (K.len _ _)]
    simp [cellsK]
  | x :: r, j + 1, y, h => by
    have ih := set_flat K r j y (by simpa using h)
    have e : cellsK K (x :: r) = K.lie x.1 x.2 ++ cellsK K r := by simp [cellsK]
    have e2 : cellsK K ((x :: r).set (j + 1) y) = K.lie x.1 x.2 ++ cellsK K (r.set j y) := by simp [cellsK]
    have e3 : (j + 1) * K.k = (K.lie x.1 x.2).length + j * K.k := by rw [K.len, Nat.add_mul, Nat.one_mul, Nat.add_comm]
    rw [e, e2, ih, e3, Nat.add_assoc, List.take_length_add_append, List.drop_length_add_append]
    simp [List.append_assoc]

/-- The slice v, of n elements, holds these cells, in a block below n₀. -/
def HoldsC (n₀ : Nat) (W : World) (v : Value) (n : Nat) (cs : List Value) : Prop :=
  ((∃ a cap, v = .slice a 0 cap ∧ (a = none → cap = 0)) ∧ n = 0 ∧ cs = []) ∨ ∃ b off cap, v = .slice (some ⟨b, off, none⟩) n cap ∧ b < n₀ ∧ ∀ (j : Nat) (u : Value), cs[j]? = some u → W.cell? ⟨b, off + j, none⟩ = some u
theorem HoldsC.below {n₀ n : Nat} {W W' : World} {v : Value} {cs : List Value} (h : HoldsC n₀ W v n cs) (hb : Below n₀ W W') : HoldsC n₀ W' v n cs := by
  rcases h with h | ⟨b, off, cap, hv, hlt, hc⟩
  · exact .inl h
  · exact .inr ⟨b, off, cap, hv, hlt, fun j u hj => (hb.cell (p := ⟨b, off + j, none⟩) hlt).trans (hc j u hj)⟩
theorem HoldsC.mono {n₀ n₁ n : Nat} {W : World} {v : Value} {cs : List Value} (h : HoldsC n₀ W v n cs) (hn : n₀ ≤ n₁) : HoldsC n₁ W v n cs := by
  rcases h with h | ⟨b, off, cap, hv, hlt, hc⟩
  · exact .inl h
  · exact .inr ⟨b, off, cap, hv, by omega, hc⟩
theorem HoldsC.shape {n₀ n : Nat} {W : World} {v : Value} {cs : List Value} (h : HoldsC n₀ W v n cs) : ∃ a cap, v = .slice a n cap := by
  rcases h with ⟨⟨a, cap, rfl, _⟩, rfl, _⟩ | ⟨b, off, cap, rfl, _, _⟩
  · exact ⟨_, _, rfl⟩
  · exact ⟨_, _, rfl⟩
theorem holdsC_nil (n₀ : Nat) (W : World) : HoldsC n₀ W (.slice none 0 0) 0 [] := .inl ⟨⟨_, _, rfl, fun _ => rfl⟩, rfl, rfl⟩
theorem holdsC_of_row {W : World} {base k n : Nat} {e : TypeId} {v : Value} {cs : List Value} (h : W.ownsRow base e k v n cs) : HoldsC W.heap.size W v n cs := by
  rcases h.2 with ⟨rfl, rfl⟩ | ⟨g, cap, cur, rfl, hb, hg, hk, _, hs, ht⟩
  · have := h.1
    rw [Nat.zero_mul] at this
    rw [List.length_eq_zero_iff.1 this]
    exact holdsC_nil _ _
  · refine .inr ⟨g, 0, cap, rfl, (Array.getElem?_eq_some_iff.1 hg).1, fun j u hj => ?_⟩
    have := h.cells (g := g) rfl j u hj
    rwa [Addr.add_lit] at this
/-- Sts of numbers. -/
theorem HoldsC.ints {kd : IntKind} {n₀ n : Nat} {W : World} {v : Value} {zs : List Int} (h : HoldsC n₀ W v n (zs.map (Value.int kd))) (hn : zs.length = n) : Holds kd n₀ W v zs := by
  rcases h with ⟨h1, h2, h3⟩ | ⟨b, off, cap, rfl, hlt, hc⟩
  · exact .inl ⟨h1, List.map_eq_nil_iff.1 h3⟩
  · exact .inr ⟨b, off, cap, by rw [hn], hlt, fun j hj => hc j _ (by simp [hj])⟩
/-- The slices ps lead to these rows. -/
def SubsH (n₀ : Nat) (W : World) (ps : List Value) (s : List Sub) : Prop := ps.length = s.length ∧ ∀ (i : Nat) (p : Value) (t : Sub), ps[i]? = some p → s[i]? = some t → HoldsC n₀ W p t.n t.cs
theorem SubsH.below {n₀ : Nat} {W W' : World} {ps : List Value} {s : List Sub} (h : SubsH n₀ W ps s) (hb : Below n₀ W W') : SubsH n₀ W' ps s := ⟨h.1, fun i p t hp ht => (h.2 i p t hp ht).below hb⟩
theorem SubsH.mono {n₀ n₁ : Nat} {W : World} {ps : List Value} {s : List Sub} (h : SubsH n₀ W ps s) (hn : n₀ ≤ n₁) : SubsH n₁ W ps s := ⟨h.1, fun i p t hp ht => (h.2 i p t hp ht).mono hn⟩
theorem SubsH.slices {n₀ : Nat} {W : World} {ps : List Value} {s : List Sub} (h : SubsH n₀ W ps s) : ∀ p ∈ ps, ∃ a n c, p = Value.slice a n c := by
  intro p hp
  obtain ⟨i, hi, e⟩ := List.getElem_of_mem hp
  have hl : i < s.length := by rw [← h.1]; exact hi
  obtain ⟨a, c, e'⟩ := (h.2 i p s[i] (by rw [← e]; simp) (by simp)).shape
  exact ⟨_, _, _, e'⟩
/-- The slice v holds these structs, the rows that they lead to with them. -/
def Sts {α : Type} (K : Kind α) (n₀ : Nat) (W : World) (v : Value) (l : List α) : Prop := ∃ r : Lies α, r.map Prod.fst = l ∧ HoldsC n₀ W v l.length (cellsK K r) ∧ ∀ x ∈ r, SubsH n₀ W x.2 (K.subs x.1)
section
variable {α : Type} {K : Kind α} {n₀ n₁ : Nat} {W W' : World} {v : Value} {l : List α}
theorem Sts.below (h : Sts K n₀ W v l) (hb : Below n₀ W W') : Sts K n₀ W' v l := by obtain ⟨r, h1, h2, h3⟩ := h; exact ⟨r, h1, h2.below hb, fun x hx => (h3 x hx).below hb⟩
theorem Sts.mono (h : Sts K n₀ W v l) (hn : n₀ ≤ n₁) : Sts K n₁ W v l := by obtain ⟨r, h1, h2, h3⟩ := h; exact ⟨r, h1, h2.mono hn, fun x hx => (h3 x hx).mono hn⟩
theorem Sts.next (h : Sts K W.heap.size W v l) (hb : Below W.heap.size W W') : Sts K W'.heap.size W' v l := (h.below hb).mono hb.size
theorem Sts.shape (h : Sts K n₀ W v l) : ∃ a cap, v = .slice a l.length cap := by obtain ⟨r, h1, h2, h3⟩ := h; exact h2.shape
/-- Where they lie. -/
theorem Sts.at {a : Option Addr} {n cap : Nat} (h : Sts K n₀ W (.slice a n cap) l) (h0 : 0 < l.length) : ∃ b off, a = some ⟨b, off, none⟩ ∧ b < n₀ ∧ ∀ (j : Nat) (y : α), l[j]? = some y → ∃ ps, SubsH n₀ W ps (K.subs y) ∧ ∀ (i : Nat) (u : Value), (K.lie y ps)[i]? = some u → W.cell? ⟨b, off + j * K.k + i, none⟩ = some u := by
  obtain ⟨r, h1, h2, h3⟩ := h
  rcases h2 with ⟨_, e, _⟩ | ⟨b, off, c', e, hb, hc⟩
  · omega
  · cases e
    refine ⟨b, off, rfl, hb, fun j y hy => ?_⟩
    obtain ⟨x, hx, rfl⟩ : ∃ x, r[j]? = some x ∧ x.1 = y := by
      rw [← h1, List.getElem?_map] at hy
      cases hr : r[j]? with
      | none => rw [hr] at hy; simp at hy
      | some x => rw [hr] at hy; exact ⟨x, rfl, by simpa using hy⟩
    exact ⟨x.2, h3 x (List.mem_of_getElem? hx), fun i u hu => by rw [Nat.add_assoc]; exact hc _ u (cellsK_get K hx i u hu)⟩
end

/-- The slices ps lead to rows of the call's own. -/
def SubsO (base : Nat) (W : World) (ps : List Value) (s : List Sub) : Prop := ps.length = s.length ∧ ∀ (i : Nat) (p : Value) (t : Sub), ps[i]? = some p → s[i]? = some t → W.ownsRow base t.ty t.k p t.n t.cs
def Apart (p q : Value) : Prop := p.ownBlock = none ∨ p.ownBlock ≠ q.ownBlock
/-- Structs of the call's own: their rows lie in blocks of their own. -/
structure OwnL {α : Type} (K : Kind α) (base : Nat) (W : World) (r : Lies α) : Prop where
  subs : ∀ x ∈ r, SubsO base W x.2 (K.subs x.1)
  apart : (r.flatMap Prod.snd).Pairwise Apart
theorem rowK_below {W W' : World} {base k n₀ size : Nat} {e : TypeId} {v : Value} {xs : List Value} (h : W.ownsRow base e size v k xs) (hb : Below n₀ W W') (hn : W.heap.size ≤ n₀) : W'.ownsRow base e size v k xs := by
  refine ⟨h.1, ?_⟩
  rcases h.2 with h0 | ⟨g, cap, cur, hv, hbs, hg, hk, hm, hs, ht⟩
  · exact .inl h0
  · exact .inr ⟨g, cap, cur, hv, hbs, (hb.block g (by have := (Array.getElem?_eq_some_iff.1 hg).1; omega)).trans hg, hk, hm, hs, ht⟩
theorem rowK_base {W : World} {base base' k size : Nat} {e : TypeId} {v : Value} {xs : List Value} (h : W.ownsRow base e size v k xs) (hn : base' ≤ base) : W.ownsRow base' e size v k xs := by
  refine ⟨h.1, ?_⟩
  rcases h.2 with h0 | ⟨g, cap, cur, hv, hbs, hg, hk, hm, hs, ht⟩
  · exact .inl h0
  · exact .inr ⟨g, cap, cur, hv, by omega, hg, hk, hm, hs, ht⟩
theorem rowK_cap {w : World} {base e n cap size : Nat} {a : Option Addr} {xs : List Value} (h : w.ownsRow base e size (.slice a n cap) n xs) : n ≤ cap := by
  rcases h.2 with ⟨e, _⟩ | ⟨g, c, cur, e, _, _, hk, _⟩
  · cases e; exact Nat.le_refl _
  · cases e; exact hk
/-- What is turned in other blocks alone leaves a row as it is. -/
theorem rowK_same {W W' : World} {base k size : Nat} {e : TypeId} {v : Value} {xs : List Value} (h : W.ownsRow base e size v k xs) (hq : ∀ g, v.ownBlock = some g → W'.heap[g]? = W.heap[g]?) : W'.ownsRow base e size v k xs := by
  refine ⟨h.1, ?_⟩
  rcases h.2 with h0 | ⟨g, cap, cur, hv, hbs, hg, hk, hm, hs, ht⟩
  · exact .inl h0
  · exact .inr ⟨g, cap, cur, hv, hbs, (hq g (by rw [hv]; rfl)).trans hg, hk, hm, hs, ht⟩
/-- Sts of unlike elements lie in unlike blocks. -/
theorem rowsK_unlike {W : World} {base base' k k' size size' : Nat} {e e' : TypeId} {v v' : Value} {xs xs' : List Value} (h : W.ownsRow base e size v k xs) (h' : W.ownsRow base' e' size' v' k' xs') (he : e ≠ e') : Apart v v' := by
  rcases h.2 with ⟨rfl, _⟩ | ⟨g, cap, cur, rfl, _, hg, _⟩
  · exact .inl rfl
  · rcases h'.2 with ⟨rfl, _⟩ | ⟨g', cap', cur', rfl, _, hg', _⟩
    · exact .inr (by simp [Value.ownBlock])
    · refine .inr fun hc => ?_
      simp only [Value.ownBlock, Option.some.injEq] at hc
      subst hc
      rw [hg] at hg'
      simp only [Option.some.injEq, Obj.cells.injEq] at hg'
      exact he hg'.2.1
theorem SubsO.held {base : Nat} {W : World} {ps : List Value} {s : List Sub} (h : SubsO base W ps s) : SubsH W.heap.size W ps s := ⟨h.1, fun i p t hp ht => holdsC_of_row (h.2 i p t hp ht)⟩
theorem SubsO.same {base : Nat} {W W' : World} {ps : List Value} {s : List Sub} (h : SubsO base W ps s) (hq : ∀ p ∈ ps, ∀ g, p.ownBlock = some g → W'.heap[g]? = W.heap[g]?) : SubsO base W' ps s := ⟨h.1, fun i p t hp ht => rowK_same (h.2 i p t hp ht) (hq p (List.mem_of_getElem? hp))⟩
theorem SubsO.base {base base' : Nat} {W : World} {ps : List Value} {s : List Sub} (h : SubsO base W ps s) (hn : base' ≤ base) : SubsO base' W ps s := ⟨h.1, fun i p t hp ht => rowK_base (h.2 i p t hp ht) hn⟩
theorem SubsO.lt {base : Nat} {W : World} {ps : List Value} {s : List Sub} (h : SubsO base W ps s) : ∀ p ∈ ps, ∀ g, p.ownBlock = some g → base ≤ g ∧ g < W.heap.size := by
  intro p hp g hg
  obtain ⟨i, hi, e⟩ := List.getElem_of_mem hp
  have hl : i < s.length := by rw [← h.1]; exact hi
  exact (h.2 i p s[i] (by rw [← e]; simp) (by simp)).lt g hg
theorem subsO_one {base : Nat} {W : World} {p : Value} {t : Sub} (h : W.ownsRow base t.ty t.k p t.n t.cs) : SubsO base W [p] [t] := by
  refine ⟨rfl, fun i q u hq hu => ?_⟩
  match i with
  | 0 => simp at hq hu; subst hq hu; exact h
  | i + 1 => simp at hq
section
variable {α : Type} {K : Kind α} {base : Nat} {W W' : World} {r : Lies α}
theorem ownL_nil (K : Kind α) (base : Nat) (W : World) : OwnL K base W [] := ⟨fun x hx => by simp at hx, List.Pairwise.nil⟩
theorem OwnL.lt (h : OwnL K base W r) : ∀ x ∈ r, ∀ p ∈ x.2, ∀ g, p.ownBlock = some g → base ≤ g ∧ g < W.heap.size := fun x hx => (h.subs x hx).lt
theorem OwnL.same (h : OwnL K base W r) (hq : ∀ x ∈ r, ∀ p ∈ x.2, ∀ g, p.ownBlock = some g → W'.heap[g]? = W.heap[g]?) : OwnL K base W' r := ⟨fun x hx => (h.subs x hx).same (hq x hx), h.apart⟩
theorem OwnL.next (h : OwnL K base W r) (hb : Below W.heap.size W W') : OwnL K base W' r := h.same fun x hx p hp g hg => hb.block g (h.lt x hx p hp g hg).2
theorem OwnL.lower {base' : Nat} (h : OwnL K base W r) (hn : base' ≤ base) : OwnL K base' W r := ⟨fun x hx => (h.subs x hx).base hn, h.apart⟩
theorem OwnL.slices (h : OwnL K base W r) : ∀ x ∈ r, ∀ p ∈ x.2, ∃ a n c, p = Value.slice a n c := fun x hx => (h.subs x hx).held.slices
/-- The rows of a kind's own bear no element of its own type: the list itself may grow, or be written. -/
def Kind.unlike (K : Kind α) : Prop := ∀ y, ∀ t ∈ K.subs y, t.ty ≠ K.ty
theorem OwnL.unlike {base' n : Nat} {v : Value} {xs : List Value} (h : OwnL K base W r) (hK : K.unlike) (hv : W.ownsRow base' K.ty K.k v n xs) : ∀ x ∈ r, ∀ p ∈ x.2, Apart p v := by
  intro x hx p hp
  obtain ⟨i, hi, e⟩ := List.getElem_of_mem hp
  have hl : i < (K.subs x.1).length := by rw [← (h.subs x hx).1]; exact hi
  exact rowsK_unlike ((h.subs x hx).2 i p (K.subs x.1)[i] (by rw [← e]; simp) (by simp)) hv (hK x.1 _ (List.getElem_mem hl))
theorem OwnL.kept {base' n : Nat} {v : Value} {xs : List Value} (h : OwnL K base W r) (hK : K.unlike) (hv : W.ownsRow base' K.ty K.k v n xs) (hg : W.grownBy W' v.ownBlock) : OwnL K base W' r :=
  h.same fun x hx p hp g hpg => hg.block g (h.lt x hx p hp g hpg).2 fun e => by
    rcases h.unlike hK hv x hx p hp with e' | e'
    · rw [e'] at hpg; cases hpg
    · exact e' (hpg.trans e)
theorem OwnL.snoc {m : Nat} {x : α × List Value} (h : OwnL K base W r) (hx : SubsO m W x.2 (K.subs x.1)) (hxp : x.2.Pairwise Apart) (hm : base ≤ m) (hlt : ∀ u ∈ r, ∀ p ∈ u.2, ∀ g, p.ownBlock = some g → g < m) : OwnL K base W (r ++ [x]) := by
  refine ⟨fun u hu => ?_, ?_⟩
  · rcases List.mem_append.1 hu with hu | hu
    · exact h.subs u hu
    · simp at hu
      subst hu
      exact hx.base hm
  · rw [List.flatMap_append]
    refine List.pairwise_append.2 ⟨h.apart, by simpa using hxp, fun p hp q hq => ?_⟩
    obtain ⟨u, hu, hp⟩ := List.mem_flatMap.1 hp
    simp at hq
    cases ho : p.ownBlock with
    | none => exact .inl ho
    | some g =>
      refine .inr fun hc => ?_
      have h1 := hlt u hu p hp g ho
      have h2 := (hx.lt q hq g (by rw [← hc, ho])).1
      omega
end
/-- A list of structs of the call's own, their rows with it. -/
def OwnSts {α : Type} (K : Kind α) (base : Nat) (W : World) (v : Value) (l : List α) : Prop := ∃ r : Lies α, r.map Prod.fst = l ∧ W.ownsRow base K.ty K.k v l.length (cellsK K r) ∧ OwnL K base W r
section
variable {α : Type} {K : Kind α} {base : Nat} {W W' : World} {v : Value} {l : List α}
theorem OwnSts.rows (h : OwnSts K base W v l) : Sts K W.heap.size W v l := by obtain ⟨r, h1, h2, h3⟩ := h; exact ⟨r, h1, holdsC_of_row h2, fun x hx => (h3.subs x hx).held⟩
theorem OwnSts.next (h : OwnSts K base W v l) (hb : Below W.heap.size W W') : OwnSts K base W' v l := by obtain ⟨r, h1, h2, h3⟩ := h; exact ⟨r, h1, rowK_below h2 hb (Nat.le_refl _), h3.next hb⟩
theorem OwnSts.lower {base' : Nat} (h : OwnSts K base W v l) (hn : base' ≤ base) : OwnSts K base' W v l := by obtain ⟨r, h1, h2, h3⟩ := h; exact ⟨r, h1, rowK_base h2 hn, h3.lower hn⟩
theorem OwnSts.cap {a : Option Addr} {n cap : Nat} (h : OwnSts K base W (.slice a n cap) l) : n ≤ cap := by
  obtain ⟨r, h1, h2, h3⟩ := h
  rcases h2.2 with ⟨e, _⟩ | ⟨g, c, cur, e, _, _, hk, _⟩
  · cases e; exact Nat.le_refl _
  · cases e; exact hk
theorem ownSts_nil (K : Kind α) (base : Nat) (W : World) : OwnSts K base W (.slice none 0 0) [] := ⟨[], rfl, ⟨by simp [cellsK], .inl ⟨rfl, rfl⟩⟩, ownL_nil _ _ _⟩
end

theorem SubsH.one {n₀ : Nat} {W : World} {ps : List Value} {t : Sub} (h : SubsH n₀ W ps [t]) : ∃ p, ps = [p] ∧ HoldsC n₀ W p t.n t.cs := by
  match ps, h.1 with
  | [p], _ => exact ⟨p, rfl, h.2 0 p t rfl rfl⟩
/-- append whose run is known: for the walk, guarded or not. -/
theorem wpList_append_k {P : Program} {w : World} {ops : Array Oper} {rest : List Oper} {o : Oper} {a : Act} {Q : Exit → Act → World → Prop} (hw : Region.wanted o (yielded ops a.tmps) = true) (s x : Operand) (t : TypeId)
    (ho : o.op = .call { callee := .builtin .append, args := #[s, x], argTypes := #[t, t] }) (v src : Value) (hs : a.eval s = v) (hx : a.eval x = src) (v' : Value) (w' : World)
    (hrun : (Builtin.append_ #[t, t] o.type #[v, src]).run P w = .ok v' w') (h : wpList P ops Q rest (a.put o.dst v') w') : wpList P ops Q (o :: rest) a w := by
  refine wpList_step fun K hK => ?_
  rw [if_pos hw]
  unfold Oper.wp
  simp [execOp, ho, resolve, invoke, builtin, hs, hx, hrun, Result.andThen]
  exact hK _ _ h
theorem take_set_snoc {α : Type} {l : List α} {k : Nat} (h : k < l.length) (y : α) : (l.set k y).take (k + 1) = l.take k ++ [y] := by
  rw [List.take_add_one, List.take_set, List.set_eq_of_length_le (by simp; omega)]
  simp [h]
theorem row_form {w : World} {base size n : Nat} {e : TypeId} {v : Value} {xs : List Value} (h : w.ownsRow base e size v n xs) (hn : 0 < n) : ∃ g cap, v = .slice (some ⟨g, 0, none⟩) n cap := by
  rcases h.2 with ⟨_, h0⟩ | ⟨g, cap, cur, rfl, _⟩
  · omega
  · exact ⟨g, cap, rfl⟩

end Go.Proofs.Ytmjidhnlofpliab

/-
  What a message that is being put together becomes by any block, right or not, as numbers. No function of the program is spoken of.
-/
namespace Go.Proofs.Ytmjidhnlofpliab
open Go.RowKit

/-- May j be, and the mark? -/
def argJ (j : Jn) (m : Int) : Bool := decide (j.2.length ≤ 4096) && (j.1 || decide (j.2.length = 0)) && decide (0 ≤ m) && decide (m ≤ 3)
/-- Why a block may not be put to j. -/
def errJ (j : Jn) (m : Int) (xs : List Int) : Int :=
  if argJ j m then (if xs.length ≤ 16 then (if (openJ j m).1 = true ∧ 4096 < (openJ j m).2.length + xs.length then 2 else 0) else 2) else 1
/-- What Take answers: the next, the message, is it done. -/
def takeJ (j : Jn) (m : Int) (xs : List Int) : Jn × List Int × Bool :=
  if errJ j m xs = 0 then ((joinJ j m xs).1, (joinJ j m xs).2.getD [], (joinJ j m xs).2.isSome) else ((false, []), [], false)
theorem argJ_iff (j : Jn) (m : Int) : argJ j m = true ↔ j.2.length ≤ 4096 ∧ (j.1 = true ∨ j.2.length = 0) ∧ 0 ≤ m ∧ m ≤ 3 := by
  unfold argJ
  simp only [Bool.and_eq_true, Bool.or_eq_true, decide_eq_true_eq, and_assoc]
theorem takeJ_err {j : Jn} {m : Int} {xs : List Int} (h : errJ j m xs ≠ 0) : takeJ j m xs = ((false, []), [], false) := by unfold takeJ; rw [if_neg h]
theorem and1_first {m : Int} (h0 : 0 ≤ m) (h1 : m ≤ 3) : (bits .and .i64 m 1 != 0) = firstM m := by
  have : m = 0 ∨ m = 1 ∨ m = 2 ∨ m = 3 := by omega
  rcases this with rfl | rfl | rfl | rfl <;> decide
theorem and2_last {m : Int} (h0 : 0 ≤ m) (h1 : m ≤ 3) : (bits .and .i64 m 2 != 0) = lastM m := by
  have : m = 0 ∨ m = 1 ∨ m = 2 ∨ m = 3 := by omega
  rcases this with rfl | rfl | rfl | rfl <;> decide
/-- The five ways. -/
theorem takeJ_cases (j : Jn) (m : Int) (xs : List Int) :
    (argJ j m = false ∧ errJ j m xs = 1 ∧ takeJ j m xs = ((false, []), [], false)) ∨
    (argJ j m = true ∧ 16 < xs.length ∧ errJ j m xs = 2 ∧ takeJ j m xs = ((false, []), [], false)) ∨
    (argJ j m = true ∧ xs.length ≤ 16 ∧ (openJ j m).1 = false ∧ errJ j m xs = 0 ∧ takeJ j m xs = ((false, []), [], false)) ∨
    (argJ j m = true ∧ xs.length ≤ 16 ∧ (openJ j m).1 = true ∧ 4096 < (openJ j m).2.length + xs.length ∧ errJ j m xs = 2 ∧ takeJ j m xs = ((false, []), [], false)) ∨
    (argJ j m = true ∧ xs.length ≤ 16 ∧ (openJ j m).1 = true ∧ (openJ j m).2.length + xs.length ≤ 4096 ∧ errJ j m xs = 0 ∧ takeJ j m xs = if lastM m = true then ((false, []), (openJ j m).2 ++ xs, true) else ((true, (openJ j m).2 ++ xs), [], false)) := by
  by_cases h1 : argJ j m = true
  · by_cases h2 : xs.length ≤ 16
    · by_cases h3 : (openJ j m).1 = true
      · by_cases h4 : 4096 < (openJ j m).2.length + xs.length
        · have e : errJ j m xs = 2 := by unfold errJ; rw [if_pos h1, if_pos h2, if_pos ⟨h3, h4⟩]
          exact .inr (.inr (.inr (.inl ⟨h1, h2, h3, h4, e, takeJ_err (by rw [e]; decide)⟩)))
        · have e : errJ j m xs = 0 := by unfold errJ; rw [if_pos h1, if_pos h2, if_neg (fun h => h4 h.2)]
          refine .inr (.inr (.inr (.inr ⟨h1, h2, h3, by omega, e, ?_⟩)))
          unfold takeJ
          rw [if_pos e]
          by_cases h5 : lastM m = true
          · rw [if_pos h5, joinJ_last xs h3 h5]; rfl
          · rw [if_neg h5, joinJ_more xs h3 (by simpa using h5)]; rfl
      · have h3' : (openJ j m).1 = false := by simpa using h3
        have e : errJ j m xs = 0 := by unfold errJ; rw [if_pos h1, if_pos h2, if_neg (fun h => h3 h.1)]
        refine .inr (.inr (.inl ⟨h1, h2, h3', e, ?_⟩))
        unfold takeJ
        rw [if_pos e, joinJ_shut xs h3']
        have hf : firstM m = false := by
          cases hf : firstM m with
          | false => rfl
          | true => unfold openJ at h3'; rw [hf] at h3'; simp at h3'
        have ho : openJ j m = j := by unfold openJ; rw [hf]; rfl
        rw [ho] at h3' ⊢
        have hj := ((argJ_iff j m).1 h1).2.1
        have hj2 : j.2 = [] := by
          rcases hj with h | h
          · rw [h3'] at h; cases h
          · exact List.length_eq_zero_iff.1 h
        obtain ⟨o, t⟩ := j
        simp only at h3' hj2
        subst h3' hj2
        rfl
    · have e : errJ j m xs = 2 := by unfold errJ; rw [if_pos h1, if_neg h2]
      exact .inr (.inl ⟨h1, by omega, e, takeJ_err (by rw [e]; decide)⟩)
  · have e : errJ j m xs = 1 := by unfold errJ; rw [if_neg h1]
    exact .inl ⟨by simpa using h1, e, takeJ_err (by rw [e]; decide)⟩

end Go.Proofs.Ytmjidhnlofpliab

/-
  What volutekeep.Join, the page's Ends and the page's Join answer. (Written by tpl_refjoin.py.)
-/
namespace Go.Proofs.Ytmjidhnlofpliab
open Go.RowKit

theorem apart_nil (p : Value) : Apart p (.slice none 0 0) := by
  cases h : p.ownBlock with
  | none => exact .inl h
  | some g => exact .inr (by rw [h]; simp [Value.ownBlock])

set_option maxRecDepth 100000 in
set_option maxHeartbeats 1000000 in
theorem keepJoin_any (o o' : Bool) (v v' : Value) (xs ys : List Int) (w : World) (n₀ n₁ : Nat) (h0 : n₀ ≤ w.heap.size) (h1 : n₁ ≤ w.heap.size) (hy : ys.length ≤ 4611686018427387904) (ha : Holds .u8 n₀ w v xs) (hb : Holds .u8 n₁ w v' ys) :
    Calls Try.prog 16 #[.agg #[.bool o, v], .agg #[.bool o', v']] w fun e w' => e = .returned (.bool (decide (o = o' ∧ xs = ys))) ∧ Below w.heap.size w w' := by
  obtain ⟨a, ca, rfl⟩ := ha.shape
  obtain ⟨b, cb, rfl⟩ := hb.shape
  have b0 := (Below.refl w.heap.size w).alloc (Nat.le_refl _) (.cells #[.bool o, .slice a xs.length ca] 28)
  have b1 := b0.alloc (by simp) (.cells #[.bool o', .slice b ys.length cb] 28)
  have HC := bytes_any (.slice a xs.length ca) (.slice b ys.length cb) xs ys n₀ n₁ _ hy (ha.below (b1.mono h0)) (hb.below (b1.mono h1))
  clear ha hb b0
  by_cases e : o = o'
  · subst e
    have HE : Hid (decide (o = o ∧ xs = ys) = decide (xs = ys)) := by show decide (o = o ∧ xs = ys) = decide (xs = ys); simp
    rw [HE.out]
    cases o with
    | true =>
      go_enter Try.func16, Try.ntmps16
      go_wp2_with fail
      refine HC.mono ?_
      rintro e w2 ⟨rfl, nd, rfl⟩
      go_wp2
      go_ret
      exact ⟨rfl, below_drewN b1 nd⟩
    | false =>
      go_enter Try.func16, Try.ntmps16
      go_wp2_with fail
      refine HC.mono ?_
      rintro e w2 ⟨rfl, nd, rfl⟩
      go_wp2
      go_ret
      exact ⟨rfl, below_drewN b1 nd⟩
  · rw [decide_eq_false (fun h => e h.1)]
    cases o with
    | true =>
      obtain rfl : o' = false := by cases o' with | false => rfl | true => exact absurd rfl e
      clear e HC
      go_enter Try.func16, Try.ntmps16
      go_wp2
      go_ret
      exact ⟨rfl, b1⟩
    | false =>
      obtain rfl : o' = true := by cases o' with | true => rfl | false => exact absurd rfl e
      clear e HC
      go_enter Try.func16, Try.ntmps16
      go_wp2
      go_ret
      exact ⟨rfl, b1⟩

end Go.Proofs.Ytmjidhnlofpliab
