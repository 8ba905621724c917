/-
  Lists of numbers in memory: what a slice holds ('Holds'), and that it holds it on as long as the blocks below a bound lie as they lay. No function of the program is spoken of.
-/
import Derived.Deep.Quiet
import Derived.OpenShut
import Derived.RangeFuncBox
import Derived.Test.YtmjidhnlofpliabRows
import Derived.WalkKit
namespace Go.Proofs.Ytmjidhnlofpliab
open Go.RowKit

/-- The slice v holds the numbers zs, of kind kd, in a block below n₀ (or it is of length 0, and they are none). -/
def Holds (kd : IntKind) (n₀ : Nat) (W : World) (v : Value) (zs : List Int) : Prop :=
  ((∃ a cap, v = .slice a 0 cap ∧ (a = none → cap = 0)) ∧ zs = []) ∨ ∃ b off cap, v = .slice (some ⟨b, off, none⟩) zs.length cap ∧ b < n₀ ∧ ∀ j, j < zs.length → W.cell? ⟨b, off + j, none⟩ = some (.int kd (zs[j]?.getD 0))

theorem below_drewN {B : Nat} {a w : World} (h : Below B a w) (n : Nat) : Below B a (w.drewN n) := ⟨h.os, h.tape, h.output, h.size, h.block⟩

theorem Holds.below {kd : IntKind} {n₀ : Nat} {W W' : World} {v : Value} {zs : List Int} (h : Holds kd n₀ W v zs) (hb : Below n₀ W W') : Holds kd n₀ W' v zs := by
  rcases h with h | ⟨b, off, cap, hv, hlt, hc⟩
  · exact .inl h
  · exact .inr ⟨b, off, cap, hv, hlt, fun j hj => (hb.cell (p := ⟨b, off + j, none⟩) hlt).trans (hc j hj)⟩

theorem Holds.mono {kd : IntKind} {n₀ n₁ : Nat} {W : World} {v : Value} {zs : List Int} (h : Holds kd n₀ W v zs) (hn : n₀ ≤ n₁) : Holds kd n₁ W v zs := by
  rcases h with h | ⟨b, off, cap, hv, hlt, hc⟩
  · exact .inl h
  · exact .inr ⟨b, off, cap, hv, by omega, hc⟩

/-- The shape: a slice, as long as the numbers. -/
theorem Holds.shape {kd : IntKind} {n₀ : Nat} {W : World} {v : Value} {zs : List Int} (h : Holds kd n₀ W v zs) : ∃ a cap, v = .slice a zs.length cap := by
  rcases h with ⟨⟨a, cap, rfl, _⟩, rfl⟩ | ⟨b, off, cap, rfl, _, _⟩
  · exact ⟨_, _, rfl⟩
  · exact ⟨_, _, rfl⟩

/-- A row of the call's own is held. -/
theorem holds_of_row {kd : IntKind} {W : World} {base k : Nat} {e : TypeId} {v : Value} {zs : List Int} (h : W.ownsRow base e 1 v k (zs.map (Value.int kd))) : Holds kd W.heap.size W v zs := by
  have hl : zs.length = k := by have := h.1; simpa using this
  rcases h.2 with ⟨rfl, rfl⟩ | ⟨g, cap, cur, rfl, hb, hg, hk, _, hs, ht⟩
  · exact .inl ⟨⟨_, _, rfl, fun _ => rfl⟩, List.length_eq_zero_iff.1 hl⟩
  · refine .inr ⟨g, 0, cap, by rw [hl], (Array.getElem?_eq_some_iff.1 hg).1, fun j hj => ?_⟩
    have := h.cells (g := g) rfl j (.int kd (zs[j]?.getD 0)) (by simp [hj])
    by_cases h0 : j = 0
    · subst h0; simpa [Addr.add] using this
    · simpa [Addr.add, h0] using this

theorem cell_block_lt {w : World} {p : Addr} {v : Value} (h : w.cell? p = some v) : p.block < w.heap.size := by
  cases hb : w.heap[p.block]? with
  | none => simp [World.cell?, hb] at h
  | some o => exact (Array.getElem?_eq_some_iff.1 hb).1

theorem row_below {W W' : World} {base k n₀ : Nat} {e : TypeId} {v : Value} {xs : List Value} (h : W.ownsRow base e 1 v k xs) (hb : Below n₀ W W') (hn : W.heap.size ≤ n₀) : W'.ownsRow base e 1 v k xs := by
  refine ⟨h.1, ?_⟩
  rcases h.2 with h0 | ⟨g, cap, cur, hv, hbs, hg, hk, hm, hs, ht⟩
  · exact .inl h0
  · exact .inr ⟨g, cap, cur, hv, hbs, (hb.block g (by have := (Array.getElem?_eq_some_iff.1 hg).1; omega)).trans hg, hk, hm, hs, ht⟩

theorem row_base {W : World} {base base' k : Nat} {e : TypeId} {v : Value} {xs : List Value} (h : W.ownsRow base e 1 v k xs) (hn : base' ≤ base) : W.ownsRow base' e 1 v k xs := by
  refine ⟨h.1, ?_⟩
  rcases h.2 with h0 | ⟨g, cap, cur, hv, hbs, hg, hk, hm, hs, ht⟩
  · exact .inl h0
  · exact .inr ⟨g, cap, cur, hv, by omega, hg, hk, hm, hs, ht⟩

end Go.Proofs.Ytmjidhnlofpliab

/-
  Small steps from world to world: what is held stays held; a row's own room. No function of the program is spoken of.
-/
namespace Go.Proofs.Ytmjidhnlofpliab
open Go.RowKit

theorem Holds.next {kd : IntKind} {W W' : World} {v : Value} {zs : List Int} (h : Holds kd W.heap.size W v zs) (hb : Below W.heap.size W W') : Holds kd W'.heap.size W' v zs := (h.below hb).mono hb.size

theorem below_grown {w w' : World} {base e n : Nat} {v : Value} {xs : List Value} (hown : w.ownsRow base e 1 v n xs) (hg : w.grownBy w' v.ownBlock) (hb : base ≤ w.heap.size) : Below base w w' :=
  (Below.refl _ w).grown hg hb (fun k e => (hown.lt k e).1)

end Go.Proofs.Ytmjidhnlofpliab

/-
  Variables that lie in a block of their own: their cells, what a store leaves. No function of the program is spoken of.
-/
namespace Go.Proofs.Ytmjidhnlofpliab
open Go.RowKit

/-- The block B is just these cells, free to be written. -/
def Box (W : World) (B : Nat) (t : TypeId) (cs : Array Value) : Prop := W.heap[B]? = some (.cells cs t (0, 0))
theorem Box.lt {W : World} {B : Nat} {t : TypeId} {cs : Array Value} (h : Box W B t cs) : B < W.heap.size := (Array.getElem?_eq_some_iff.1 h).1
theorem Box.cell {W : World} {B : Nat} {t : TypeId} {cs : Array Value} (h : Box W B t cs) (i : Nat) (v : Value) (hv : cs[i]? = some v) : W.cell? ⟨B, i, none⟩ = some v := by simp [World.cell?, show W.heap[B]? = _ from h, hv]
theorem Box.free {W : World} {B : Nat} {t : TypeId} {cs : Array Value} (h : Box W B t cs) (i : Nat) : W.frozen? ⟨B, i, none⟩ = false := by simp [World.frozen?, show W.heap[B]? = _ from h]
theorem Box.new (W : World) (t : TypeId) (cs : Array Value) : Box (W.alloc (.cells cs t)) W.heap.size t cs := World.alloc_heap_new W _
theorem Box.below {W W' : World} {B n : Nat} {t : TypeId} {cs : Array Value} (h : Box W B t cs) (hb : Below n W W') (hn : B < n) : Box W' B t cs := (hb.block B hn).trans h
theorem Box.next {W W' : World} {B : Nat} {t : TypeId} {cs : Array Value} (h : Box W B t cs) (hb : Below W.heap.size W W') : Box W' B t cs := h.below hb h.lt
theorem Box.alloc {W : World} {B : Nat} {t : TypeId} {cs : Array Value} (h : Box W B t cs) (o : Obj) : Box (W.alloc o) B t cs := (Below.heap_alloc W o B h.lt).trans h
theorem Box.drewN {W : World} {B : Nat} {t : TypeId} {cs : Array Value} (h : Box W B t cs) (n : Nat) : Box (W.drewN n) B t cs := h

/-- A store into another block; a store of one cell, and of three, into the block itself. -/
theorem Box.other {W : World} {B : Nat} {t : TypeId} {cs : Array Value} (h : Box W B t cs) {p : Addr} (hp : B ≠ p.block) (v : Value) : Box (W.setCell p v) B t cs := (Below.heap_setCell W p v B hp).trans h
theorem Box.set {W : World} {B : Nat} {t : TypeId} {cs : Array Value} (h : Box W B t cs) (i : Nat) (v : Value) : Box (W.setCell ⟨B, i, none⟩ v) B t (cs.setIfInBounds i v) := by
  unfold Box at h ⊢
  obtain ⟨hlt, he⟩ := Array.getElem?_eq_some_iff.1 h
  refine Array.getElem?_eq_some_iff.2 ⟨by simpa [World.setCell] using hlt, ?_⟩
  simp only [World.setCell]
  rw [Array.getElem_modify]
  simp [he]
theorem Box.set3 {W : World} {B : Nat} {t : TypeId} {x y z : Value} (h : Box W B t #[x, y, z]) (x' y' z' : Value) : Box (((W.setCell ⟨B, 0, none⟩ x').setCell ⟨B, 1, none⟩ y').setCell ⟨B, 2, none⟩ z') B t #[x', y', z'] := ((h.set 0 x').set 1 y').set 2 z'
theorem below_set2 {W V : World} {n : Nat} (h : Below n W V) {D : Nat} (hD : n ≤ D) (x y : Value) : Below n W ((V.setCell ⟨D, 0, none⟩ x).setCell ⟨D, 1, none⟩ y) := (h.setCell (p := ⟨D, 0, none⟩) hD x).setCell (p := ⟨D, 1, none⟩) hD y
theorem below_set3 {W V : World} {n : Nat} (h : Below n W V) {D : Nat} (hD : n ≤ D) (x y z : Value) : Below n W (((V.setCell ⟨D, 0, none⟩ x).setCell ⟨D, 1, none⟩ y).setCell ⟨D, 2, none⟩ z) := ((h.setCell (p := ⟨D, 0, none⟩) hD x).setCell (p := ⟨D, 1, none⟩) hD y).setCell (p := ⟨D, 2, none⟩) hD z
/-- The first cells of a small block. -/
theorem Box.c3 {W : World} {B : Nat} {t : TypeId} {cs : Array Value} {x0 x1 x2 : Value} (h : Box W B t cs) (h0 : cs[0]? = some x0 := by exact rfl) (h1 : cs[1]? = some x1 := by exact rfl) (h2 : cs[2]? = some x2 := by exact rfl) : W.cell? ⟨B, 0, none⟩ = some x0 ∧ W.cell? ⟨B, 1, none⟩ = some x1 ∧ W.cell? ⟨B, 2, none⟩ = some x2 := ⟨h.cell 0 _ h0, h.cell 1 _ h1, h.cell 2 _ h2⟩
theorem Box.h3 {W : World} {B : Nat} {t : TypeId} {cs : Array Value} {x0 x1 x2 : Value} (h : Box W B t cs) (h0 : cs[0]? = some x0 := by exact rfl) (h1 : cs[1]? = some x1 := by exact rfl) (h2 : cs[2]? = some x2 := by exact rfl) : Hid (W.cell? ⟨B, 0, none⟩ = some x0) ∧ Hid (W.cell? ⟨B, 1, none⟩ = some x1) ∧ Hid (W.cell? ⟨B, 2, none⟩ = some x2) := ⟨h.cell 0 _ h0, h.cell 1 _ h1, h.cell 2 _ h2⟩
theorem Box.f3 {W : World} {B : Nat} {t : TypeId} {cs : Array Value} (h : Box W B t cs) : W.frozen? ⟨B, 0, none⟩ = false ∧ W.frozen? ⟨B, 1, none⟩ = false ∧ W.frozen? ⟨B, 2, none⟩ = false := ⟨h.free 0, h.free 1, h.free 2⟩
theorem Box.c4 {W : World} {B : Nat} {t : TypeId} {cs : Array Value} {x0 x1 x2 x3 : Value} (h : Box W B t cs) (h0 : cs[0]? = some x0 := by exact rfl) (h1 : cs[1]? = some x1 := by exact rfl) (h2 : cs[2]? = some x2 := by exact rfl) (h3 : cs[3]? = some x3 := by exact rfl) : W.cell? ⟨B, 0, none⟩ = some x0 ∧ W.cell? ⟨B, 1, none⟩ = some x1 ∧ W.cell? ⟨B, 2, none⟩ = some x2 ∧ W.cell? ⟨B, 3, none⟩ = some x3 := ⟨h.cell 0 _ h0, h.cell 1 _ h1, h.cell 2 _ h2, h.cell 3 _ h3⟩
theorem Box.h4 {W : World} {B : Nat} {t : TypeId} {cs : Array Value} {x0 x1 x2 x3 : Value} (h : Box W B t cs) (h0 : cs[0]? = some x0 := by exact rfl) (h1 : cs[1]? = some x1 := by exact rfl) (h2 : cs[2]? = some x2 := by exact rfl) (h3 : cs[3]? = some x3 := by exact rfl) : Hid (W.cell? ⟨B, 0, none⟩ = some x0) ∧ Hid (W.cell? ⟨B, 1, none⟩ = some x1) ∧ Hid (W.cell? ⟨B, 2, none⟩ = some x2) ∧ Hid (W.cell? ⟨B, 3, none⟩ = some x3) := ⟨h.cell 0 _ h0, h.cell 1 _ h1, h.cell 2 _ h2, h.cell 3 _ h3⟩
theorem Box.f4 {W : World} {B : Nat} {t : TypeId} {cs : Array Value} (h : Box W B t cs) : W.frozen? ⟨B, 0, none⟩ = false ∧ W.frozen? ⟨B, 1, none⟩ = false ∧ W.frozen? ⟨B, 2, none⟩ = false ∧ W.frozen? ⟨B, 3, none⟩ = false := ⟨h.free 0, h.free 1, h.free 2, h.free 3⟩
theorem Box.c5 {W : World} {B : Nat} {t : TypeId} {cs : Array Value} {x0 x1 x2 x3 x4 : Value} (h : Box W B t cs) (h0 : cs[0]? = some x0 := by exact rfl) (h1 : cs[1]? = some x1 := by exact rfl) (h2 : cs[2]? = some x2 := by exact rfl) (h3 : cs[3]? = some x3 := by exact rfl) (h4 : cs[4]? = some x4 := by exact rfl) : W.cell? ⟨B, 0, none⟩ = some x0 ∧ W.cell? ⟨B, 1, none⟩ = some x1 ∧ W.cell? ⟨B, 2, none⟩ = some x2 ∧ W.cell? ⟨B, 3, none⟩ = some x3 ∧ W.cell? ⟨B, 4, none⟩ = some x4 := ⟨h.cell 0 _ h0, h.cell 1 _ h1, h.cell 2 _ h2, h.cell 3 _ h3, h.cell 4 _ h4⟩
theorem Box.h5 {W : World} {B : Nat} {t : TypeId} {cs : Array Value} {x0 x1 x2 x3 x4 : Value} (h : Box W B t cs) (h0 : cs[0]? = some x0 := by exact rfl) (h1 : cs[1]? = some x1 := by exact rfl) (h2 : cs[2]? = some x2 := by exact rfl) (h3 : cs[3]? = some x3 := by exact rfl) (h4 : cs[4]? = some x4 := by exact rfl) : Hid (W.cell? ⟨B, 0, none⟩ = some x0) ∧ Hid (W.cell? ⟨B, 1, none⟩ = some x1) ∧ Hid (W.cell? ⟨B, 2, none⟩ = some x2) ∧ Hid (W.cell? ⟨B, 3, none⟩ = some x3) ∧ Hid (W.cell? ⟨B, 4, none⟩ = some x4) := ⟨h.cell 0 _ h0, h.cell 1 _ h1, h.cell 2 _ h2, h.cell 3 _ h3, h.cell 4 _ h4⟩
theorem Box.c7 {W : World} {B : Nat} {t : TypeId} {cs : Array Value} {x0 x1 x2 x3 x4 x5 x6 : Value} (h : Box W B t cs) (h0 : cs[0]? = some x0 := by exact rfl) (h1 : cs[1]? = some x1 := by exact rfl) (h2 : cs[2]? = some x2 := by exact rfl) (h3 : cs[3]? = some x3 := by exact rfl) (h4 : cs[4]? = some x4 := by exact rfl) (h5 : cs[5]? = some x5 := by exact rfl) (h6 : cs[6]? = some x6 := by exact rfl) : W.cell? ⟨B, 0, none⟩ = some x0 ∧ W.cell? ⟨B, 1, none⟩ = some x1 ∧ W.cell? ⟨B, 2, none⟩ = some x2 ∧ W.cell? ⟨B, 3, none⟩ = some x3 ∧ W.cell? ⟨B, 4, none⟩ = some x4 ∧ W.cell? ⟨B, 5, none⟩ = some x5 ∧ W.cell? ⟨B, 6, none⟩ = some x6 := ⟨h.cell 0 _ h0, h.cell 1 _ h1, h.cell 2 _ h2, h.cell 3 _ h3, h.cell 4 _ h4, h.cell 5 _ h5, h.cell 6 _ h6⟩
theorem Box.h7 {W : World} {B : Nat} {t : TypeId} {cs : Array Value} {x0 x1 x2 x3 x4 x5 x6 : Value} (h : Box W B t cs) (h0 : cs[0]? = some x0 := by exact rfl) (h1 : cs[1]? = some x1 := by exact rfl) (h2 : cs[2]? = some x2 := by exact rfl) (h3 : cs[3]? = some x3 := by exact rfl) (h4 : cs[4]? = some x4 := by exact rfl) (h5 : cs[5]? = some x5 := by exact rfl) (h6 : cs[6]? = some x6 := by exact rfl) : Hid (W.cell? ⟨B, 0, none⟩ = some x0) ∧ Hid (W.cell? ⟨B, 1, none⟩ = some x1) ∧ Hid (W.cell? ⟨B, 2, none⟩ = some x2) ∧ Hid (W.cell? ⟨B, 3, none⟩ = some x3) ∧ Hid (W.cell? ⟨B, 4, none⟩ = some x4) ∧ Hid (W.cell? ⟨B, 5, none⟩ = some x5) ∧ Hid (W.cell? ⟨B, 6, none⟩ = some x6) := ⟨h.cell 0 _ h0, h.cell 1 _ h1, h.cell 2 _ h2, h.cell 3 _ h3, h.cell 4 _ h4, h.cell 5 _ h5, h.cell 6 _ h6⟩
theorem Box.c10 {W : World} {B : Nat} {t : TypeId} {cs : Array Value} {x0 x1 x2 x3 x4 x5 x6 x7 x8 x9 : Value} (h : Box W B t cs) (h0 : cs[0]? = some x0 := by exact rfl) (h1 : cs[1]? = some x1 := by exact rfl) (h2 : cs[2]? = some x2 := by exact rfl) (h3 : cs[3]? = some x3 := by exact rfl) (h4 : cs[4]? = some x4 := by exact rfl) (h5 : cs[5]? = some x5 := by exact rfl) (h6 : cs[6]? = some x6 := by exact rfl) (h7 : cs[7]? = some x7 := by exact rfl) (h8 : cs[8]? = some x8 := by exact rfl) (h9 : cs[9]? = some x9 := by exact rfl) : W.cell? ⟨B, 0, none⟩ = some x0 ∧ W.cell? ⟨B, 1, none⟩ = some x1 ∧ W.cell? ⟨B, 2, none⟩ = some x2 ∧ W.cell? ⟨B, 3, none⟩ = some x3 ∧ W.cell? ⟨B, 4, none⟩ = some x4 ∧ W.cell? ⟨B, 5, none⟩ = some x5 ∧ W.cell? ⟨B, 6, none⟩ = some x6 ∧ W.cell? ⟨B, 7, none⟩ = some x7 ∧ W.cell? ⟨B, 8, none⟩ = some x8 ∧ W.cell? ⟨B, 9, none⟩ = some x9 := ⟨h.cell 0 _ h0, h.cell 1 _ h1, h.cell 2 _ h2, h.cell 3 _ h3, h.cell 4 _ h4, h.cell 5 _ h5, h.cell 6 _ h6, h.cell 7 _ h7, h.cell 8 _ h8, h.cell 9 _ h9⟩
theorem Box.h10 {W : World} {B : Nat} {t : TypeId} {cs : Array Value} {x0 x1 x2 x3 x4 x5 x6 x7 x8 x9 : Value} (h : Box W B t cs) (h0 : cs[0]? = some x0 := by exact rfl) (h1 : cs[1]? = some x1 := by exact rfl) (h2 : cs[2]? = some x2 := by exact rfl) (h3 : cs[3]? = some x3 := by exact rfl) (h4 : cs[4]? = some x4 := by exact rfl) (h5 : cs[5]? = some x5 := by exact rfl) (h6 : cs[6]? = some x6 := by exact rfl) (h7 : cs[7]? = some x7 := by exact rfl) (h8 : cs[8]? = some x8 := by exact rfl) (h9 : cs[9]? = some x9 := by exact rfl) : Hid (W.cell? ⟨B, 0, none⟩ = some x0) ∧ Hid (W.cell? ⟨B, 1, none⟩ = some x1) ∧ Hid (W.cell? ⟨B, 2, none⟩ = some x2) ∧ Hid (W.cell? ⟨B, 3, none⟩ = some x3) ∧ Hid (W.cell? ⟨B, 4, none⟩ = some x4) ∧ Hid (W.cell? ⟨B, 5, none⟩ = some x5) ∧ Hid (W.cell? ⟨B, 6, none⟩ = some x6) ∧ Hid (W.cell? ⟨B, 7, none⟩ = some x7) ∧ Hid (W.cell? ⟨B, 8, none⟩ = some x8) ∧ Hid (W.cell? ⟨B, 9, none⟩ = some x9) := ⟨h.cell 0 _ h0, h.cell 1 _ h1, h.cell 2 _ h2, h.cell 3 _ h3, h.cell 4 _ h4, h.cell 5 _ h5, h.cell 6 _ h6, h.cell 7 _ h7, h.cell 8 _ h8, h.cell 9 _ h9⟩
end Go.Proofs.Ytmjidhnlofpliab

/-
  Configurations as numbers: which may be, what they make. No function of the program is spoken of. (Written by tpl_conf.py.)
-/
namespace Go.Proofs.Ytmjidhnlofpliab
open Go.RowKit

/-- A configuration. -/
structure Cfg where
  cB : Int
  cBeam : Int
  cDepth : Int
  cWin : Int
  cQs : Int
  cQr : Int
  cBatch : Int
  cPass : Int
  cMsg : Int
  cSeqs : Int

def inC (n lo hi : Int) : Bool := decide (lo ≤ n) && decide (n ≤ hi)
theorem inC_iff (n lo hi : Int) : inC n lo hi = true ↔ lo ≤ n ∧ n ≤ hi := by simp [inC]
/-- May it be? -/
def okC (c : Cfg) : Bool := inC c.cB 1 16 && inC c.cBeam 1 16 && inC c.cDepth 1 3 && inC c.cWin 1 16 && inC c.cQs 1 16 && inC c.cQr 1 16 && inC c.cBatch 1 64 && inC c.cPass 4 16 && inC c.cMsg 0 200 && inC c.cSeqs 0 1073741824
theorem okC_iff (c : Cfg) : okC c = true ↔ (1 ≤ c.cB ∧ c.cB ≤ 16) ∧ (1 ≤ c.cBeam ∧ c.cBeam ≤ 16) ∧ (1 ≤ c.cDepth ∧ c.cDepth ≤ 3) ∧ (1 ≤ c.cWin ∧ c.cWin ≤ 16) ∧ (1 ≤ c.cQs ∧ c.cQs ≤ 16) ∧ (1 ≤ c.cQr ∧ c.cQr ≤ 16) ∧ (1 ≤ c.cBatch ∧ c.cBatch ≤ 64) ∧ (4 ≤ c.cPass ∧ c.cPass ≤ 16) ∧ (0 ≤ c.cMsg ∧ c.cMsg ≤ 200) ∧ (0 ≤ c.cSeqs ∧ c.cSeqs ≤ 1073741824) := by
  simp only [okC, Bool.and_eq_true, inC_iff]
  omega
def segsC (c : Cfg) : Int := 2 * (c.cB + 10)
/-- What the calls answer, right or not. -/
def segsA (c : Cfg) : Int := if okC c then segsC c else 0
def checkA (c : Cfg) : Int := if okC c then 0 else 1

theorem segsC_bd {c : Cfg} (h : okC c = true) : 22 ≤ segsC c ∧ segsC c ≤ 52 := by
  have := (okC_iff c).1 h
  unfold segsC; omega
end Go.Proofs.Ytmjidhnlofpliab

/-
  Counters that stay, as numbers. No function of the program is spoken of.
-/
namespace Go.Proofs.Ytmjidhnlofpliab
open Go.RowKit

def clampS (n : Int) : Int := min (max n 0) 1073741824
def satN (n m : Int) : Int := min (clampS n + clampS m) 1073741824
theorem clampS_bd (n : Int) : 0 ≤ clampS n ∧ clampS n ≤ 1073741824 := by unfold clampS; omega
theorem satN_bd (n m : Int) : 0 ≤ satN n m ∧ satN n m ≤ 1073741824 := by
  have := clampS_bd n
  have := clampS_bd m
  unfold satN; omega
end Go.Proofs.Ytmjidhnlofpliab

/-
  Which nodes are picked, as lists. No program is spoken of.
-/
namespace Go.Proofs.Ytmjidhnlofpliab

/-- A node: its state, its metric, its score, its path. -/
abbrev Nd := Int × Int × Int × List Int
def sc (x : Nd) : Int := x.2.2.1

/-- Rising keys. -/
def SortedK {α : Type} (k : α → Int) (l : List α) : Prop := l.Pairwise fun a b => k a ≤ k b
theorem SortedK.take {α : Type} {k : α → Int} {l : List α} (h : SortedK k l) (n : Nat) : SortedK k (l.take n) := List.Pairwise.sublist (List.take_sublist n l) h
/-- The least of those that P tells: -1, if there is none. -/
def Least (P : Int → Prop) (v : Int) : Prop := (v = -1 ∧ ∀ z, ¬ P z) ∨ (P v ∧ ∀ z, P z → v ≤ z)
theorem Least.congr {P Q : Int → Prop} (h : ∀ z, P z ↔ Q z) {v : Int} (hv : Least P v) : Least Q v := by
  rcases hv with ⟨h1, h2⟩ | ⟨h1, h2⟩
  · exact .inl ⟨h1, fun z hz => h2 z ((h z).2 hz)⟩
  · exact .inr ⟨(h v).1 h1, fun z hz => h2 z ((h z).2 hz)⟩
theorem Least.ge {P : Int → Prop} (h0 : ∀ z, P z → 0 ≤ z) {v : Int} (h : Least P v) : -1 ≤ v := by
  rcases h with ⟨h1, _⟩ | ⟨h1, _⟩
  · omega
  · have := h0 v h1; omega
/-- One more. -/
theorem Least.more {P : Int → Prop} (h0 : ∀ z, P z → 0 ≤ z) {v c : Int} (h : Least P v) (hc : v < 0 ∨ c < v) : Least (fun z => P z ∨ z = c) c := by
  refine .inr ⟨.inr rfl, fun z hz => ?_⟩
  rcases hz with hz | rfl
  · rcases h with ⟨h1, h2⟩ | ⟨h1, h2⟩
    · exact absurd hz (h2 z)
    · have := h2 z hz
      have := h0 v h1
      omega
  · exact Int.le_refl _
theorem Least.same {P : Int → Prop} {v c : Int} (h : Least P v) (h1 : 0 ≤ v) (hc : v ≤ c) : Least (fun z => P z ∨ z = c) v := by
  rcases h with ⟨e, _⟩ | ⟨hp, hm⟩
  · omega
  · exact .inr ⟨.inl hp, fun z hz => by rcases hz with hz | rfl; exact hm z hz; exact hc⟩
/-- Two at once. -/
def lmin (a c : Int) : Int := if 0 ≤ c ∧ (a < 0 ∨ c < a) then c else a
theorem Least.or {P Q : Int → Prop} (hP : ∀ z, P z → 0 ≤ z) (hQ : ∀ z, Q z → 0 ≤ z) {u v : Int} (hu : Least P u) (hv : Least Q v) : Least (fun z => P z ∨ Q z) (lmin u v) := by
  unfold lmin
  rcases hv with ⟨rfl, nv⟩ | ⟨pv, mv⟩
  · rw [if_neg (by omega)]
    rcases hu with ⟨rfl, nu⟩ | ⟨pu, mu⟩
    · exact .inl ⟨rfl, fun z hz => hz.elim (nu z) (nv z)⟩
    · exact .inr ⟨.inl pu, fun z hz => hz.elim (mu z) (fun h => absurd h (nv z))⟩
  · have := hQ v pv
    rcases hu with ⟨rfl, nu⟩ | ⟨pu, mu⟩
    · rw [if_pos (by omega)]
      exact .inr ⟨.inr pv, fun z hz => hz.elim (fun h => absurd h (nu z)) (mv z)⟩
    · have := hP u pu
      split
      · exact .inr ⟨.inr pv, fun z hz => hz.elim (fun h => by have := mu z h; omega) (mv z)⟩
      · exact .inr ⟨.inl pu, fun z hz => hz.elim (mu z) (fun h => by have := mv z h; omega)⟩

/-- The places of a row of scores, in the order in which they are picked. -/
def at0 (cs : List Int) (i : Nat) : Int := cs[i]?.getD 0
/-- The first of least score that is not among those. -/
def Best (cs : List Int) (tk : List Nat) (i : Nat) : Prop := i < cs.length ∧ i ∉ tk ∧ ∀ j, j < cs.length → j ∉ tk → at0 cs i < at0 cs j ∨ (at0 cs i = at0 cs j ∧ i ≤ j)
/-- The nodes that are kept. -/
def scores (l : List Nd) : List Int := l.map sc
end Go.Proofs.Ytmjidhnlofpliab
