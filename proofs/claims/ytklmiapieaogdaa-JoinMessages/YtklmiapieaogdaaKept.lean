/-
  Rows of numbers that an answer holds, with room. No function of the program is spoken of.
-/
import Derived.Test.YtklmiapieaogdaaSteps
import Derived.Deep.AppendLies
namespace Go.Proofs.Ytklmiapieaogdaa
open Go.RowKit

/-- The value v is a row of the numbers xs, with as much room at least. -/
def Kept (kd : IntKind) (W : World) (v : Value) (xs : List Int) : Prop := Holds kd W.heap.size W v xs ∧ ∃ a c, v = .slice a xs.length c ∧ xs.length ≤ c

theorem kept_of_row {kd : IntKind} {W : World} {base k : Nat} {e : TypeId} {v : Value} {zs : List Int} (h : W.ownsRow base e 1 v k (zs.map (Value.int kd))) : Kept kd W v zs := by
  have hl : zs.length = k := by have := h.1; simpa using this
  refine ⟨holds_of_row h, ?_⟩
  rcases h.2 with ⟨rfl, rfl⟩ | ⟨g, cap, cur, rfl, _, _, hk, _⟩
  · exact ⟨none, 0, by rw [hl], by omega⟩
  · exact ⟨_, cap, by rw [hl], by omega⟩
theorem Kept.next {kd : IntKind} {W W' : World} {v : Value} {xs : List Int} (h : Kept kd W v xs) (hb : Below W.heap.size W W') : Kept kd W' v xs := ⟨h.1.next hb, h.2⟩
theorem Kept.drewN {kd : IntKind} {W : World} {v : Value} {xs : List Int} (h : Kept kd W v xs) (n : Nat) : Kept kd (W.drewN n) v xs := h

/-- A new block of numbers is held. -/
theorem held_new (kd : IntKind) (w : World) (zs : List Int) (cap : Nat) (t : TypeId) (fr : Nat × Nat) : Holds kd (w.alloc (.cells (zs.map (Value.int kd)).toArray t fr)).heap.size (w.alloc (.cells (zs.map (Value.int kd)).toArray t fr)) (.slice (some ⟨w.heap.size, 0, none⟩) zs.length cap) zs := by
  refine .inr ⟨w.heap.size, 0, cap, rfl, by simp, fun j hj => ?_⟩
  have := World.news_of_block (World.alloc_heap_new w (.cells (zs.map (Value.int kd)).toArray t fr)) j (.int kd (zs[j]?.getD 0)) (by simp [hj])
  rwa [Addr.add_lit] at this

end Go.Proofs.Ytklmiapieaogdaa
