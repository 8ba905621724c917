/-
  Lists of numbers in memory: what a slice holds ('Holds'), and that it holds it on as long as the blocks below a bound lie as they lay. No function of the program is spoken of.
-/
import Derived.Deep.Quiet
import Derived.OpenShut
import Derived.RangeFuncBox
import Derived.Test.YtkigbanldiialaaGreatDoorRows
import Derived.WalkKit
namespace Go.Proofs.YtkigbanldiialaaGreatDoor
open Go.RowKit

/-- The slice v holds the numbers zs, of kind kd, in a block below n₀ (or it is of length 0, and they are none). -/
def Holds (kd : IntKind) (n₀ : Nat) (W : World) (v : Value) (zs : List Int) : Prop :=
  ((∃ a cap, v = .slice a 0 cap ∧ (a = none → cap = 0)) ∧ zs = []) ∨ ∃ b off cap, v = .slice (some ⟨b, off, none⟩) zs.length cap ∧ b < n₀ ∧ ∀ j, j < zs.length → W.cell? ⟨b, off + j, none⟩ = some (.int kd (zs[j]?.getD 0))

theorem below_drewN {B : Nat} {a w : World} (h : Below B a w) (n : Nat) : Below B a (w.drewN n) := ⟨h.os, h.tape, h.output, h.size, h.block⟩

theorem Holds.below {kd : IntKind} {n₀ : Nat} {W W' : World} {v : Value} {zs : List Int} (h : Holds kd n₀ W v zs) (hb : Below n₀ W W') : Holds kd n₀ W' v zs := by
  rcases h with h | ⟨b, off, cap, hv, hlt, hc⟩
  · exact .inl h
  · exact .inr ⟨b, off, cap, hv, hlt, fun j hj => (hb.cell (p := ⟨b, off + j, none⟩) hlt).trans (hc j hj)⟩

theorem Holds.mono {kd : IntKind} {n₀ n₁ : Nat} {W : World} {v : Value} {zs : List Int} (h : Holds kd n₀ W v zs) (hn : n₀ ≤ n₁) : Holds kd n₁ W v zs := by
  rcases h with h | ⟨b, off, cap, hv, hlt, hc⟩
  · exact .inl h
  · exact .inr ⟨b, off, cap, hv, by omega, hc⟩

/-- The shape: a slice, as long as the numbers. -/
theorem Holds.shape {kd : IntKind} {n₀ : Nat} {W : World} {v : Value} {zs : List Int} (h : Holds kd n₀ W v zs) : ∃ a cap, v = .slice a zs.length cap := by
  rcases h with ⟨⟨a, cap, rfl, _⟩, rfl⟩ | ⟨b, off, cap, rfl, _, _⟩
  · exact ⟨_, _, rfl⟩
  · exact ⟨_, _, rfl⟩

/-- A row of the call's own is held. -/
theorem holds_of_row {kd : IntKind} {W : World} {base k : Nat} {e : TypeId} {v : Value} {zs : List Int} (h : W.ownsRow base e 1 v k (zs.map (Value.int kd))) : Holds kd W.heap.size W v zs := by
  have hl : zs.length = k := by have := h.1; simpa using this
  rcases h.2 with ⟨rfl, rfl⟩ | ⟨g, cap, cur, rfl, hb, hg, hk, _, hs, ht⟩
  · exact .inl ⟨⟨_, _, rfl, fun _ => rfl⟩, List.length_eq_zero_iff.1 hl⟩
  · refine .inr ⟨g, 0, cap, by rw [hl], (Array.getElem?_eq_some_iff.1 hg).1, fun j hj => ?_⟩
    have := h.cells (g := g) rfl j (.int kd (zs[j]?.getD 0)) (by simp [hj])
    by_cases h0 : j = 0
    · subst h0; simpa [Addr.add] using this
    · simpa [Addr.add, h0] using this

/-- What the row's step is told of a slice that came in. -/
def IsRow (k : IntKind) (w : World) (a : Option Addr) (len cap : Nat) (zs : List Int) : Prop :=
  (a = none ∧ len = 0 ∧ cap = 0 ∧ zs = []) ∨
  ∃ x, a = some x ∧ len ≤ cap ∧ cap ≤ maxLen ∧ zs.length = cap ∧ (∀ i, i < zs.length → w.cell? (x.add i) = some (.int k (zs.getD i 0))) ∧ ∀ n ∈ zs, (Lit.int k n).wf = true

theorem cell_block_lt {w : World} {p : Addr} {v : Value} (h : w.cell? p = some v) : p.block < w.heap.size := by
  cases hb : w.heap[p.block]? with
  | none => simp [World.cell?, hb] at h
  | some o => exact (Array.getElem?_eq_some_iff.1 hb).1

theorem holds_of_isRow {kd : IntKind} {w : World} {a : Option Addr} {len cap : Nat} {zs : List Int} (h : IsRow kd w a len cap zs) :
    ∃ ys : List Int, ys.length = len ∧ Holds kd w.heap.size w (.slice a len cap) ys ∧ ∀ n ∈ ys, (Lit.int kd n).wf = true := by
  rcases h with ⟨rfl, rfl, rfl, rfl⟩ | ⟨x, rfl, hl, _, hz, hc, hw⟩
  · exact ⟨[], rfl, .inl ⟨⟨_, _, rfl, fun _ => rfl⟩, rfl⟩, by simp⟩
  · by_cases h0 : len = 0
    · subst h0
      exact ⟨[], rfl, .inl ⟨⟨_, _, rfl, fun e => by cases e⟩, rfl⟩, by simp⟩
    · obtain ⟨b, off, rfl, hc'⟩ := ints_at hc (by omega)
      have hlen : (zs.take len).length = len := by rw [List.length_take]; omega
      have hlt := cell_block_lt (hc' 0 (by omega))
      refine ⟨zs.take len, hlen, .inr ⟨b, off, cap, by rw [hlen], hlt, fun j hj => ?_⟩, fun n hn => hw n (List.mem_of_mem_take hn)⟩
      rw [hlen] at hj
      have := hc' j (by omega)
      rw [this]
      simp [List.getD, hj]

theorem bytes_bd {ys : List Int} (h : ∀ n ∈ ys, (Lit.int .u8 n).wf = true) : ∀ n ∈ ys, 0 ≤ n ∧ n ≤ 255 := fun n hn => bounds_u8 (h n hn)

theorem row_below {W W' : World} {base k n₀ : Nat} {e : TypeId} {v : Value} {xs : List Value} (h : W.ownsRow base e 1 v k xs) (hb : Below n₀ W W') (hn : W.heap.size ≤ n₀) : W'.ownsRow base e 1 v k xs := by
  refine ⟨h.1, ?_⟩
  rcases h.2 with h0 | ⟨g, cap, cur, hv, hbs, hg, hk, hm, hs, ht⟩
  · exact .inl h0
  · exact .inr ⟨g, cap, cur, hv, hbs, (hb.block g (by have := (Array.getElem?_eq_some_iff.1 hg).1; omega)).trans hg, hk, hm, hs, ht⟩

theorem row_base {W : World} {base base' k : Nat} {e : TypeId} {v : Value} {xs : List Value} (h : W.ownsRow base e 1 v k xs) (hn : base' ≤ base) : W.ownsRow base' e 1 v k xs := by
  refine ⟨h.1, ?_⟩
  rcases h.2 with h0 | ⟨g, cap, cur, hv, hbs, hg, hk, hm, hs, ht⟩
  · exact .inl h0
  · exact .inr ⟨g, cap, cur, hv, by omega, hg, hk, hm, hs, ht⟩

end Go.Proofs.YtkigbanldiialaaGreatDoor

/-
  Configurations as numbers: which may be, what they make. No function of the program is spoken of. (Written by tpl_conf.py.)
-/
namespace Go.Proofs.YtkigbanldiialaaGreatDoor
open Go.RowKit

/-- A configuration. -/
structure Cfg where
  cB : Int
  cBeam : Int
  cDepth : Int
  cWin : Int
  cQs : Int
  cQr : Int
  cBatch : Int
  cPass : Int
  cMsg : Int
  cSeqs : Int

def inC (n lo hi : Int) : Bool := decide (lo ≤ n) && decide (n ≤ hi)
theorem inC_iff (n lo hi : Int) : inC n lo hi = true ↔ lo ≤ n ∧ n ≤ hi := by simp [inC]
/-- May it be? -/
def okC (c : Cfg) : Bool := inC c.cB 1 16 && inC c.cBeam 1 16 && inC c.cDepth 1 3 && inC c.cWin 1 16 && inC c.cQs 1 16 && inC c.cQr 1 16 && inC c.cBatch 1 64 && inC c.cPass 4 16 && inC c.cMsg 0 200 && inC c.cSeqs 0 1073741824
theorem okC_iff (c : Cfg) : okC c = true ↔ (1 ≤ c.cB ∧ c.cB ≤ 16) ∧ (1 ≤ c.cBeam ∧ c.cBeam ≤ 16) ∧ (1 ≤ c.cDepth ∧ c.cDepth ≤ 3) ∧ (1 ≤ c.cWin ∧ c.cWin ≤ 16) ∧ (1 ≤ c.cQs ∧ c.cQs ≤ 16) ∧ (1 ≤ c.cQr ∧ c.cQr ≤ 16) ∧ (1 ≤ c.cBatch ∧ c.cBatch ≤ 64) ∧ (4 ≤ c.cPass ∧ c.cPass ≤ 16) ∧ (0 ≤ c.cMsg ∧ c.cMsg ≤ 200) ∧ (0 ≤ c.cSeqs ∧ c.cSeqs ≤ 1073741824) := by
  simp only [okC, Bool.and_eq_true, inC_iff]
  omega
def segsC (c : Cfg) : Int := 2 * (c.cB + 10)
def mostC (c : Cfg) : Int := segsC c * c.cPass
/-- What the calls answer, right or not. -/
def segsA (c : Cfg) : Int := if okC c then segsC c else 0
def checkA (c : Cfg) : Int := if okC c then 0 else 1

theorem segsC_bd {c : Cfg} (h : okC c = true) : 22 ≤ segsC c ∧ segsC c ≤ 52 := by
  have := (okC_iff c).1 h
  unfold segsC; omega
theorem mostC_bd {c : Cfg} (h : okC c = true) : 88 ≤ mostC c ∧ mostC c ≤ 832 := by
  have h1 := segsC_bd h
  have h2 := ((okC_iff c).1 h).2.2.2.2.2.2.2.1
  unfold mostC
  have a1 : 22 * c.cPass ≤ segsC c * c.cPass := Int.mul_le_mul_of_nonneg_right h1.1 (by omega)
  have a2 : segsC c * c.cPass ≤ 52 * c.cPass := Int.mul_le_mul_of_nonneg_right h1.2 (by omega)
  omega
end Go.Proofs.YtkigbanldiialaaGreatDoor

/-
  Small steps from world to world: what is held stays held; a row's own room. No function of the program is spoken of.
-/
namespace Go.Proofs.YtkigbanldiialaaGreatDoor
open Go.RowKit

theorem Holds.next {kd : IntKind} {W W' : World} {v : Value} {zs : List Int} (h : Holds kd W.heap.size W v zs) (hb : Below W.heap.size W W') : Holds kd W'.heap.size W' v zs := (h.below hb).mono hb.size

theorem below_grown {w w' : World} {base e n : Nat} {v : Value} {xs : List Value} (hown : w.ownsRow base e 1 v n xs) (hg : w.grownBy w' v.ownBlock) (hb : base ≤ w.heap.size) : Below base w w' :=
  (Below.refl _ w).grown hg hb (fun k e => (hown.lt k e).1)

end Go.Proofs.YtkigbanldiialaaGreatDoor

/-
  Variables that lie in a block of their own: their cells, what a store leaves. No function of the program is spoken of.
-/
namespace Go.Proofs.YtkigbanldiialaaGreatDoor
open Go.RowKit

/-- The block B is just these cells, free to be written. -/
def Box (W : World) (B : Nat) (t : TypeId) (cs : Array Value) : Prop := W.heap[B]? = some (.cells cs t (0, 0))
theorem Box.lt {W : World} {B : Nat} {t : TypeId} {cs : Array Value} (h : Box W B t cs) : B < W.heap.size := (Array.getElem?_eq_some_iff.1 h).1
theorem Box.cell {W : World} {B : Nat} {t : TypeId} {cs : Array Value} (h : Box W B t cs) (i : Nat) (v : Value) (hv : cs[i]? = some v) : W.cell? ⟨B, i, none⟩ = some v := by simp [World.cell?, show W.heap[B]? = _ from h, hv]
theorem Box.free {W : World} {B : Nat} {t : TypeId} {cs : Array Value} (h : Box W B t cs) (i : Nat) : W.frozen? ⟨B, i, none⟩ = false := by simp [World.frozen?, show W.heap[B]? = _ from h]
theorem Box.new (W : World) (t : TypeId) (cs : Array Value) : Box (W.alloc (.cells cs t)) W.heap.size t cs := World.alloc_heap_new W _
theorem Box.below {W W' : World} {B n : Nat} {t : TypeId} {cs : Array Value} (h : Box W B t cs) (hb : Below n W W') (hn : B < n) : Box W' B t cs := (hb.block B hn).trans h
theorem Box.next {W W' : World} {B : Nat} {t : TypeId} {cs : Array Value} (h : Box W B t cs) (hb : Below W.heap.size W W') : Box W' B t cs := h.below hb h.lt
theorem Box.alloc {W : World} {B : Nat} {t : TypeId} {cs : Array Value} (h : Box W B t cs) (o : Obj) : Box (W.alloc o) B t cs := (Below.heap_alloc W o B h.lt).trans h
theorem Box.drewN {W : World} {B : Nat} {t : TypeId} {cs : Array Value} (h : Box W B t cs) (n : Nat) : Box (W.drewN n) B t cs := h

/-- A store into another block; a store of one cell, and of three, into the block itself. -/
theorem Box.other {W : World} {B : Nat} {t : TypeId} {cs : Array Value} (h : Box W B t cs) {p : Addr} (hp : B ≠ p.block) (v : Value) : Box (W.setCell p v) B t cs := (Below.heap_setCell W p v B hp).trans h
theorem Box.set {W : World} {B : Nat} {t : TypeId} {cs : Array Value} (h : Box W B t cs) (i : Nat) (v : Value) : Box (W.setCell ⟨B, i, none⟩ v) B t (cs.setIfInBounds i v) := by
  unfold Box at h ⊢
  obtain ⟨hlt, he⟩ := Array.getElem?_eq_some_iff.1 h
  refine Array.getElem?_eq_some_iff.2 ⟨by simpa [World.setCell] using hlt, ?_⟩
  simp only [World.setCell]
  rw [Array.getElem_modify]
  simp [he]
theorem Box.set3 {W : World} {B : Nat} {t : TypeId} {x y z : Value} (h : Box W B t #[x, y, z]) (x' y' z' : Value) : Box (((W.setCell ⟨B, 0, none⟩ x').setCell ⟨B, 1, none⟩ y').setCell ⟨B, 2, none⟩ z') B t #[x', y', z'] := ((h.set 0 x').set 1 y').set 2 z'
theorem Box.other3 {W : World} {B : Nat} {t : TypeId} {cs : Array Value} (h : Box W B t cs) {D : Nat} (hp : B ≠ D) (x y z : Value) : Box (((W.setCell ⟨D, 0, none⟩ x).setCell ⟨D, 1, none⟩ y).setCell ⟨D, 2, none⟩ z) B t cs := ((h.other (p := ⟨D, 0, none⟩) hp x).other (p := ⟨D, 1, none⟩) hp y).other (p := ⟨D, 2, none⟩) hp z
theorem below_set3 {W V : World} {n : Nat} (h : Below n W V) {D : Nat} (hD : n ≤ D) (x y z : Value) : Below n W (((V.setCell ⟨D, 0, none⟩ x).setCell ⟨D, 1, none⟩ y).setCell ⟨D, 2, none⟩ z) := ((h.setCell (p := ⟨D, 0, none⟩) hD x).setCell (p := ⟨D, 1, none⟩) hD y).setCell (p := ⟨D, 2, none⟩) hD z
theorem row_set3 {w : World} {base : Nat} {e : TypeId} {size : Nat} {v : Value} {n : Nat} {xs : List Value} (h : w.ownsRow base e size v n xs) {D : Nat} (hD : D < base) (x y z : Value) : (((w.setCell ⟨D, 0, none⟩ x).setCell ⟨D, 1, none⟩ y).setCell ⟨D, 2, none⟩ z).ownsRow base e size v n xs := ownsRow_setCell_below (ownsRow_setCell_below (ownsRow_setCell_below h (a := ⟨D, 0, none⟩) hD x) (a := ⟨D, 1, none⟩) hD y) (a := ⟨D, 2, none⟩) hD z

end Go.Proofs.YtkigbanldiialaaGreatDoor

/-
  int(uint(n) % m), as the walk has it. No function of the program is spoken of.
-/
namespace Go.Proofs.YtkigbanldiialaaGreatDoor
open Go.RowKit

/-- 'int(uint(n) % m)'. -/
theorem mod_u64 (n m : Int) (h0 : 0 < m) (h1 : m ≤ 4294967296) : ∃ r : Int, wrap64 ((IntKind.u64.wrap n).tmod m) = r ∧ 0 ≤ r ∧ r < m := by
  have hu : 0 ≤ IntKind.u64.wrap n := by simp [IntKind.wrap, IntKind.bits, IntKind.signed]; omega
  rw [Int.tmod_eq_emod_of_nonneg hu]
  have ha := Int.emod_nonneg (IntKind.u64.wrap n) (show m ≠ 0 by omega)
  have hb := Int.emod_lt_of_pos (IntKind.u64.wrap n) h0
  exact ⟨_, rfl, by unfold wrap64; omega, by unfold wrap64; omega⟩

end Go.Proofs.YtkigbanldiialaaGreatDoor
