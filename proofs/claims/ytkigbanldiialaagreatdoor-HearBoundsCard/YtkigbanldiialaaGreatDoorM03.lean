/-
  Lists of symbols (a place and a value each) in memory. No function of the program is spoken of.
-/
import Derived.Test.YtkigbanldiialaaGreatDoorM01
import Derived.Deep.SlicePairs
namespace Go.Proofs.YtkigbanldiialaaGreatDoor
open Go.RowKit

/-- The cells of symbols. -/
def symCells (l : List (Int × Int)) : List Value := l.flatMap fun x => [.int .i64 x.1, .int .i64 x.2]
theorem symCells_len : ∀ l : List (Int × Int), (symCells l).length = l.length * 2
  | [] => rfl
  | x :: l => by
    have := symCells_len l
    unfold symCells at this ⊢
    rw [List.flatMap_cons, List.length_append, this, List.length_cons]
    simp only [List.length_cons, List.length_nil]
    omega
theorem symCells_get : ∀ {l : List (Int × Int)} {j : Nat} {x : Int × Int}, l[j]? = some x → (symCells l)[j * 2]? = some (.int .i64 x.1) ∧ (symCells l)[j * 2 + 1]? = some (.int .i64 x.2)
  | [], j, x, h => by simp at h
  | y :: l, 0, x, h => by simp at h; subst h; exact ⟨rfl, rfl⟩
  | y :: l, j + 1, x, h => by
    have ih := symCells_get (l := l) (j := j) (x := x) (by simpa using h)
    have e : symCells (y :: l) = .int .i64 y.1 :: .int .i64 y.2 :: symCells l := rfl
    rw [e, show (j + 1) * 2 = j * 2 + 2 by omega, show j * 2 + 2 + 1 = j * 2 + 1 + 2 by omega]
    simpa using ih
theorem symCells_append (l m : List (Int × Int)) : symCells (l ++ m) = symCells l ++ symCells m := by simp [symCells]
theorem symCells_one (l : List (Int × Int)) : ∀ u ∈ symCells l, u.oneCell' = true := by
  intro u hu
  obtain ⟨x, _, hx⟩ := List.mem_flatMap.1 hu
  rcases List.mem_cons.1 hx with rfl | hx
  · rfl
  · simp at hx; subst hx; rfl

/-- The slice v holds the symbols l in a block below n₀ (or it is of length 0, and they are none). -/
def Syms (n₀ : Nat) (W : World) (v : Value) (l : List (Int × Int)) : Prop :=
  ((∃ a cap, v = .slice a 0 cap ∧ (a = none → cap = 0)) ∧ l = []) ∨ ∃ b off cap, v = .slice (some ⟨b, off, none⟩) l.length cap ∧ b < n₀ ∧ ∀ (j : Nat) (x : Int × Int), l[j]? = some x → W.cell? ⟨b, off + j * 2, none⟩ = some (.int .i64 x.1) ∧ W.cell? ⟨b, off + j * 2 + 1, none⟩ = some (.int .i64 x.2)

theorem Syms.below {n₀ : Nat} {W W' : World} {v : Value} {l : List (Int × Int)} (h : Syms n₀ W v l) (hb : Below n₀ W W') : Syms n₀ W' v l := by
  rcases h with h | ⟨b, off, cap, hv, hlt, hc⟩
  · exact .inl h
  · exact .inr ⟨b, off, cap, hv, hlt, fun j x hj => ⟨(hb.cell (p := ⟨b, off + j * 2, none⟩) hlt).trans (hc j x hj).1, (hb.cell (p := ⟨b, off + j * 2 + 1, none⟩) hlt).trans (hc j x hj).2⟩⟩
theorem Syms.mono {n₀ n₁ : Nat} {W : World} {v : Value} {l : List (Int × Int)} (h : Syms n₀ W v l) (hn : n₀ ≤ n₁) : Syms n₁ W v l := by
  rcases h with h | ⟨b, off, cap, hv, hlt, hc⟩
  · exact .inl h
  · exact .inr ⟨b, off, cap, hv, by omega, hc⟩
theorem Syms.next {W W' : World} {v : Value} {l : List (Int × Int)} (h : Syms W.heap.size W v l) (hb : Below W.heap.size W W') : Syms W'.heap.size W' v l := (h.below hb).mono hb.size
theorem Syms.shape {n₀ : Nat} {W : World} {v : Value} {l : List (Int × Int)} (h : Syms n₀ W v l) : ∃ a cap, v = .slice a l.length cap := by
  rcases h with ⟨⟨a, cap, rfl, _⟩, rfl⟩ | ⟨b, off, cap, rfl, _, _⟩
  · exact ⟨_, _, rfl⟩
  · exact ⟨_, _, rfl⟩
theorem syms_nil (n₀ : Nat) (W : World) : Syms n₀ W (.slice none 0 0) [] := .inl ⟨⟨_, _, rfl, fun _ => rfl⟩, rfl⟩

/-- Where symbols that are held lie. -/
theorem syms_at {n₀ n cap : Nat} {W : World} {a : Option Addr} {l : List (Int × Int)} (h : Syms n₀ W (.slice a n cap) l) (hl : l.length = n) (h0 : 0 < n) :
    ∃ b off, a = some ⟨b, off, none⟩ ∧ b < n₀ ∧ ∀ (j : Nat) (x : Int × Int), l[j]? = some x → W.cell? ⟨b, off + j * 2, none⟩ = some (.int .i64 x.1) ∧ W.cell? ⟨b, off + j * 2 + 1, none⟩ = some (.int .i64 x.2) := by
  subst hl
  rcases h with ⟨_, e⟩ | ⟨b, off, c', e, hb, hcs⟩
  · rw [e] at h0; simp at h0
  · cases e
    exact ⟨b, off, rfl, hb, hcs⟩

/-- A row of symbols of the call's own is held. -/
theorem syms_of_row {W : World} {base k : Nat} {e : TypeId} {v : Value} {l : List (Int × Int)} (h : W.ownsRow base e 2 v k (symCells l)) : Syms W.heap.size W v l := by
  have hl : l.length = k := by have := h.1; rw [symCells_len] at this; omega
  rcases h.2 with ⟨rfl, rfl⟩ | ⟨g, cap, cur, rfl, hb, hg, hk, _, hs, ht⟩
  · exact .inl ⟨⟨_, _, rfl, fun _ => rfl⟩, List.length_eq_zero_iff.1 hl⟩
  · refine .inr ⟨g, 0, cap, by rw [hl], (Array.getElem?_eq_some_iff.1 hg).1, fun j x hj => ?_⟩
    obtain ⟨h1, h2⟩ := symCells_get hj
    have c1 := h.cells (g := g) rfl (j * 2) _ h1
    have c2 := h.cells (g := g) rfl (j * 2 + 1) _ h2
    rw [Addr.add_lit] at c1 c2
    exact ⟨c1, c2⟩
theorem syms_row_len {W : World} {base k : Nat} {e : TypeId} {v : Value} {l : List (Int × Int)} (h : W.ownsRow base e 2 v k (symCells l)) : l.length = k := by have := h.1; rw [symCells_len] at this; omega
theorem symRow_below {W W' : World} {base k n₀ : Nat} {e : TypeId} {v : Value} {xs : List Value} (h : W.ownsRow base e 2 v k xs) (hb : Below n₀ W W') (hn : W.heap.size ≤ n₀) : W'.ownsRow base e 2 v k xs := by
  refine ⟨h.1, ?_⟩
  rcases h.2 with h0 | ⟨g, cap, cur, hv, hbs, hg, hk, hm, hs, ht⟩
  · exact .inl h0
  · exact .inr ⟨g, cap, cur, hv, hbs, (hb.block g (by have := (Array.getElem?_eq_some_iff.1 hg).1; omega)).trans hg, hk, hm, hs, ht⟩
theorem symRow_base {W : World} {base base' k : Nat} {e : TypeId} {v : Value} {xs : List Value} (h : W.ownsRow base e 2 v k xs) (hn : base' ≤ base) : W.ownsRow base' e 2 v k xs := by
  refine ⟨h.1, ?_⟩
  rcases h.2 with h0 | ⟨g, cap, cur, hv, hbs, hg, hk, hm, hs, ht⟩
  · exact .inl h0
  · exact .inr ⟨g, cap, cur, hv, by omega, hg, hk, hm, hs, ht⟩

theorem row_cap2 {w : World} {base e n cap : Nat} {a : Option Addr} {xs : List Value} (h : w.ownsRow base e 2 (.slice a n cap) n xs) : n ≤ cap := by
  rcases h.2 with ⟨e, _⟩ | ⟨g, c, cur, e, _, _, hk, _⟩
  · cases e; exact Nat.le_refl _
  · cases e; exact hk

theorem symAt_lt {w : World} {p : Addr} {v : Value} (h : w.cell? p = some v) : p.block < w.heap.size := cell_block_lt h

end Go.Proofs.YtkigbanldiialaaGreatDoor
