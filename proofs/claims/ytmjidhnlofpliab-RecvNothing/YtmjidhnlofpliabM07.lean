/-
  Rows of numbers that an answer holds, with room. No function of the program is spoken of.
-/
import Derived.Test.YtmjidhnlofpliabM01
import Derived.Test.YtmjidhnlofpliabM02
import Derived.BigQuiet
import Derived.Deep.AppendLies
import Derived.Deep.QuietTactic
import Derived.OwnWalk
import Derived.WalkLawsBesides
import Derived.WalkSpells
namespace Go.Proofs.Ytmjidhnlofpliab
open Go.RowKit

/-- The value v is a row of the numbers xs, with as much room at least. -/
def Kept (kd : IntKind) (W : World) (v : Value) (xs : List Int) : Prop := Holds kd W.heap.size W v xs ∧ ∃ a c, v = .slice a xs.length c ∧ xs.length ≤ c

theorem kept_of_row {kd : IntKind} {W : World} {base k : Nat} {e : TypeId} {v : Value} {zs : List Int} (h : W.ownsRow base e 1 v k (zs.map (Value.int kd))) : Kept kd W v zs := by
  have hl : zs.length = k := by have := h.1; simpa using this
  refine ⟨holds_of_row h, ?_⟩
  rcases h.2 with ⟨rfl, rfl⟩ | ⟨g, cap, cur, rfl, _, _, hk, _⟩
  · exact ⟨none, 0, by rw [hl], by omega⟩
  · exact ⟨_, cap, by rw [hl], by omega⟩
theorem Kept.next {kd : IntKind} {W W' : World} {v : Value} {xs : List Int} (h : Kept kd W v xs) (hb : Below W.heap.size W W') : Kept kd W' v xs := ⟨h.1.next hb, h.2⟩
theorem Kept.drewN {kd : IntKind} {W : World} {v : Value} {xs : List Int} (h : Kept kd W v xs) (n : Nat) : Kept kd (W.drewN n) v xs := h

end Go.Proofs.Ytmjidhnlofpliab

/-
  The order of a pass as numbers. No program is spoken of.
-/
namespace Go.Proofs.Ytmjidhnlofpliab
open Go.RowKit

/-- A row of natural numbers as numbers of the program. -/
def ints (l : List Nat) : List Int := l.map fun x : Nat => (x : Int)
end Go.Proofs.Ytmjidhnlofpliab

/-
  The segment at a place, as a number. No program is spoken of.
-/
namespace Go.Proofs.Ytmjidhnlofpliab

end Go.Proofs.Ytmjidhnlofpliab

/-
  What the page's Order and N answer.
-/
namespace Go.Proofs.Ytmjidhnlofpliab
open Go.RowKit

end Go.Proofs.Ytmjidhnlofpliab

/-
  What volutekeep.Twin answers, for every row of bytes: see Twins (this text holds nothing of its own).
-/
namespace Go.Proofs.Ytmjidhnlofpliab

end Go.Proofs.Ytmjidhnlofpliab

/-
  What volutekeep.SpoilBytes does: it writes over the list that it is handed; each other block lies as it lay.
-/
namespace Go.Proofs.Ytmjidhnlofpliab
open Go.RowKit

/-- A row of bytes of the call's own, and that nothing below has turned since a world: with .next, for walks that carry facts on. -/
def OwnB (W : World) (base : Nat) (v : Value) (k : Nat) (xs : List Int) : Prop := W.ownsRow base 5 1 v k (xs.map (Value.int .u8))
theorem OwnB.next {W W' : World} {base k : Nat} {v : Value} {xs : List Int} (h : OwnB W base v k xs) (hb : Below W.heap.size W W') : OwnB W' base v k xs := row_below h hb (Nat.le_refl _)
theorem OwnB.row {W : World} {base k : Nat} {v : Value} {xs : List Int} (h : OwnB W base v k xs) : W.ownsRow base 5 1 v k (xs.map (Value.int .u8)) := h
def Since (W W' : World) : Prop := Below W.heap.size W W'
theorem Since.next {W W' W'' : World} (h : Since W W') (hb : Below W'.heap.size W' W'') : Since W W'' := Below.trans h (hb.mono (Below.size h))
theorem Since.out {W W' : World} (h : Since W W') : Below W.heap.size W W' := h
end Go.Proofs.Ytmjidhnlofpliab
