/-
  Small steps from world to world: what is held stays held; a row's own room. No function of the program is spoken of.
-/
import Derived.Test.YtklmiapieaogdaaMem
namespace Go.Proofs.Ytklmiapieaogdaa
open Go.RowKit

theorem Holds.next {kd : IntKind} {W W' : World} {v : Value} {zs : List Int} (h : Holds kd W.heap.size W v zs) (hb : Below W.heap.size W W') : Holds kd W'.heap.size W' v zs := (h.below hb).mono hb.size

theorem below_grown {w w' : World} {base e n : Nat} {v : Value} {xs : List Value} (hown : w.ownsRow base e 1 v n xs) (hg : w.grownBy w' v.ownBlock) (hb : base ≤ w.heap.size) : Below base w w' :=
  (Below.refl _ w).grown hg hb (fun k e => (hown.lt k e).1)

theorem row_cap {w : World} {base e n cap : Nat} {a : Option Addr} {xs : List Value} (h : w.ownsRow base e 1 (.slice a n cap) n xs) : n ≤ cap := by
  rcases h.2 with ⟨e, _⟩ | ⟨g, c, cur, e, _, _, hk, _⟩
  · cases e; exact Nat.le_refl _
  · cases e; exact hk

theorem row_drewN {w : World} {base e n : Nat} {v : Value} {xs : List Value} (h : w.ownsRow base e 1 v n xs) (q : Nat) : (w.drewN q).ownsRow base e 1 v n xs := h

end Go.Proofs.Ytklmiapieaogdaa
