/-
  Lists of numbers in memory: what a slice holds ('Holds'), and that it holds it on as long as the blocks below a bound lie as they lay. No function of the program is spoken of.
-/
import Derived.RangeFuncBox
import Derived.Deep.Quiet
import Derived.OpenShut
import Derived.WalkKit
import Derived.Test.YtklmiapieaogdaaRows
namespace Go.Proofs.Ytklmiapieaogdaa
open Go.RowKit

/-- The slice v holds the numbers zs, of kind kd, in a block below n₀ (or it is of length 0, and they are none). -/
def Holds (kd : IntKind) (n₀ : Nat) (W : World) (v : Value) (zs : List Int) : Prop :=
  ((∃ a cap, v = .slice a 0 cap ∧ (a = none → cap = 0)) ∧ zs = []) ∨ ∃ b off cap, v = .slice (some ⟨b, off, none⟩) zs.length cap ∧ b < n₀ ∧ ∀ j, j < zs.length → W.cell? ⟨b, off + j, none⟩ = some (.int kd (zs[j]?.getD 0))

theorem below_drewN {B : Nat} {a w : World} (h : Below B a w) (n : Nat) : Below B a (w.drewN n) := ⟨h.os, h.tape, h.output, h.size, h.block⟩

theorem Holds.below {kd : IntKind} {n₀ : Nat} {W W' : World} {v : Value} {zs : List Int} (h : Holds kd n₀ W v zs) (hb : Below n₀ W W') : Holds kd n₀ W' v zs := by
  rcases h with h | ⟨b, off, cap, hv, hlt, hc⟩
  · exact .inl h
  · exact .inr ⟨b, off, cap, hv, hlt, fun j hj => (hb.cell (p := ⟨b, off + j, none⟩) hlt).trans (hc j hj)⟩

theorem Holds.mono {kd : IntKind} {n₀ n₁ : Nat} {W : World} {v : Value} {zs : List Int} (h : Holds kd n₀ W v zs) (hn : n₀ ≤ n₁) : Holds kd n₁ W v zs := by
  rcases h with h | ⟨b, off, cap, hv, hlt, hc⟩
  · exact .inl h
  · exact .inr ⟨b, off, cap, hv, by omega, hc⟩

/-- The shape: a slice, as long as the numbers. -/
theorem Holds.shape {kd : IntKind} {n₀ : Nat} {W : World} {v : Value} {zs : List Int} (h : Holds kd n₀ W v zs) : ∃ a cap, v = .slice a zs.length cap := by
  rcases h with ⟨⟨a, cap, rfl, _⟩, rfl⟩ | ⟨b, off, cap, rfl, _, _⟩
  · exact ⟨_, _, rfl⟩
  · exact ⟨_, _, rfl⟩

/-- A row of the call's own is held. -/
theorem holds_of_row {kd : IntKind} {W : World} {base k : Nat} {e : TypeId} {v : Value} {zs : List Int} (h : W.ownsRow base e 1 v k (zs.map (Value.int kd))) : Holds kd W.heap.size W v zs := by
  have hl : zs.length = k := by have := h.1; simpa using this
  rcases h.2 with ⟨rfl, rfl⟩ | ⟨g, cap, cur, rfl, hb, hg, hk, _, hs, ht⟩
  · exact .inl ⟨⟨_, _, rfl, fun _ => rfl⟩, List.length_eq_zero_iff.1 hl⟩
  · refine .inr ⟨g, 0, cap, by rw [hl], (Array.getElem?_eq_some_iff.1 hg).1, fun j hj => ?_⟩
    have := h.cells (g := g) rfl j (.int kd (zs[j]?.getD 0)) (by simp [hj])
    by_cases h0 : j = 0
    · subst h0; simpa [Addr.add] using this
    · simpa [Addr.add, h0] using this

/-- What the row's step is told of a slice that came in. -/
def IsRow (k : IntKind) (w : World) (a : Option Addr) (len cap : Nat) (zs : List Int) : Prop :=
  (a = none ∧ len = 0 ∧ cap = 0 ∧ zs = []) ∨
  ∃ x, a = some x ∧ len ≤ cap ∧ cap ≤ maxLen ∧ zs.length = cap ∧ (∀ i, i < zs.length → w.cell? (x.add i) = some (.int k (zs.getD i 0))) ∧ ∀ n ∈ zs, (Lit.int k n).wf = true

theorem cell_block_lt {w : World} {p : Addr} {v : Value} (h : w.cell? p = some v) : p.block < w.heap.size := by
  cases hb : w.heap[p.block]? with
  | none => simp [World.cell?, hb] at h
  | some o => exact (Array.getElem?_eq_some_iff.1 hb).1

theorem holds_of_isRow {kd : IntKind} {w : World} {a : Option Addr} {len cap : Nat} {zs : List Int} (h : IsRow kd w a len cap zs) :
    ∃ ys : List Int, ys.length = len ∧ Holds kd w.heap.size w (.slice a len cap) ys ∧ ∀ n ∈ ys, (Lit.int kd n).wf = true := by
  rcases h with ⟨rfl, rfl, rfl, rfl⟩ | ⟨x, rfl, hl, _, hz, hc, hw⟩
  · exact ⟨[], rfl, .inl ⟨⟨_, _, rfl, fun _ => rfl⟩, rfl⟩, by simp⟩
  · by_cases h0 : len = 0
    · subst h0
      exact ⟨[], rfl, .inl ⟨⟨_, _, rfl, fun e => by cases e⟩, rfl⟩, by simp⟩
    · obtain ⟨b, off, rfl, hc'⟩ := ints_at hc (by omega)
      have hlen : (zs.take len).length = len := by rw [List.length_take]; omega
      have hlt := cell_block_lt (hc' 0 (by omega))
      refine ⟨zs.take len, hlen, .inr ⟨b, off, cap, by rw [hlen], hlt, fun j hj => ?_⟩, fun n hn => hw n (List.mem_of_mem_take hn)⟩
      rw [hlen] at hj
      have := hc' j (by omega)
      rw [this]
      simp [List.getD, hj]

theorem bytes_bd {ys : List Int} (h : ∀ n ∈ ys, (Lit.int .u8 n).wf = true) : ∀ n ∈ ys, 0 ≤ n ∧ n ≤ 255 := fun n hn => bounds_u8 (h n hn)

theorem row_below {W W' : World} {base k n₀ : Nat} {e : TypeId} {v : Value} {xs : List Value} (h : W.ownsRow base e 1 v k xs) (hb : Below n₀ W W') (hn : W.heap.size ≤ n₀) : W'.ownsRow base e 1 v k xs := by
  refine ⟨h.1, ?_⟩
  rcases h.2 with h0 | ⟨g, cap, cur, hv, hbs, hg, hk, hm, hs, ht⟩
  · exact .inl h0
  · exact .inr ⟨g, cap, cur, hv, hbs, (hb.block g (by have := (Array.getElem?_eq_some_iff.1 hg).1; omega)).trans hg, hk, hm, hs, ht⟩

theorem row_base {W : World} {base base' k : Nat} {e : TypeId} {v : Value} {xs : List Value} (h : W.ownsRow base e 1 v k xs) (hn : base' ≤ base) : W.ownsRow base' e 1 v k xs := by
  refine ⟨h.1, ?_⟩
  rcases h.2 with h0 | ⟨g, cap, cur, hv, hbs, hg, hk, hm, hs, ht⟩
  · exact .inl h0
  · exact .inr ⟨g, cap, cur, hv, by omega, hg, hk, hm, hs, ht⟩

end Go.Proofs.Ytklmiapieaogdaa
