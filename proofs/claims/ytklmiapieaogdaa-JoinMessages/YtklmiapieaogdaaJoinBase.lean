/-
  Small facts of memory that the walks of stage 21's laws share. No function of the program is spoken of.
-/
import Derived.Test.YtklmiapieaogdaaRefJoin
import Derived.Test.YtklmiapieaogdaaSpoilBytes
import Derived.Test.YtklmiapieaogdaaRegionHand
namespace Go.Proofs.Ytklmiapieaogdaa
open Go.RowKit

theorem box_set2 {W : World} {B : Nat} {t : TypeId} {x y : Value} (h : Box W B t #[x, y]) (x' y' : Value) : Box ((W.setCell ⟨B, 0, none⟩ x').setCell ⟨B, 1, none⟩ y') B t #[x', y'] := (h.set 0 x').set 1 y'
theorem below_set2 {W V : World} {n : Nat} (h : Below n W V) {D : Nat} (hD : n ≤ D) (x y : Value) : Below n W ((V.setCell ⟨D, 0, none⟩ x).setCell ⟨D, 1, none⟩ y) := (h.setCell (p := ⟨D, 0, none⟩) hD x).setCell (p := ⟨D, 1, none⟩) hD y
theorem row_setNe {w : World} {base : Nat} {e : TypeId} {size : Nat} {v : Value} {n : Nat} {xs : List Value} (h : w.ownsRow base e size v n xs) {D : Nat} (hD : v.ownBlock ≠ some D) (j : Nat) (x : Value) : (w.setCell ⟨D, j, none⟩ x).ownsRow base e size v n xs := rowK_same h fun g hg => Below.heap_setCell w ⟨D, j, none⟩ x g (fun e => hD (by rw [hg]; exact congrArg some e))
theorem row_setNe2 {w : World} {base : Nat} {e : TypeId} {size : Nat} {v : Value} {n : Nat} {xs : List Value} (h : w.ownsRow base e size v n xs) {D : Nat} (hD : v.ownBlock ≠ some D) (x y : Value) : ((w.setCell ⟨D, 0, none⟩ x).setCell ⟨D, 1, none⟩ y).ownsRow base e size v n xs := row_setNe (row_setNe h hD 0 x) hD 1 y
theorem row_setNe3 {w : World} {base : Nat} {e : TypeId} {size : Nat} {v : Value} {n : Nat} {xs : List Value} (h : w.ownsRow base e size v n xs) {D : Nat} (hD : v.ownBlock ≠ some D) (x y z : Value) : (((w.setCell ⟨D, 0, none⟩ x).setCell ⟨D, 1, none⟩ y).setCell ⟨D, 2, none⟩ z).ownsRow base e size v n xs := row_setNe (row_setNe2 h hD x y) hD 2 z
theorem row_neNew {W : World} {base size n : Nat} {e : TypeId} {v : Value} {l : List Value} (h : W.ownsRow base e size v n l) : v.ownBlock ≠ some W.heap.size := fun e => by have := h.lt _ e; omega
theorem row_neOld {W : World} {base size n B : Nat} {e : TypeId} {v : Value} {l : List Value} (h : W.ownsRow base e size v n l) (hB : B < base) : v.ownBlock ≠ some B := fun e => by have := h.lt _ e; omega
/-- A row lies in another block than a variable of another type. -/
theorem row_neBox {W : World} {base size n B : Nat} {e t : TypeId} {v : Value} {l : List Value} {cs : Array Value} (h : W.ownsRow base e size v n l) (hb : Box W B t cs) (he : e ≠ t) : v.ownBlock ≠ some B := fun hv => by
  rcases h.2 with ⟨rfl, _⟩ | ⟨g, cap, cur, rfl, _, hg, _⟩
  · cases hv
  · simp only [Value.ownBlock, Option.some.injEq] at hv
    subst hv
    have hb' : W.heap[g]? = _ := hb
    rw [hg] at hb'
    simp only [Option.some.injEq, Obj.cells.injEq] at hb'
    exact he hb'.2.1
theorem below_drewJ {n : Nat} {W : World} (h : W.heap.size = n) : Below n W W.drew := h ▸ (Below.refl _ _).drew
/-- A list that is made, as a step of a region that draws its order. -/
theorem step_make_full {P : Program} {ops : Array Oper} {o : Oper} {a : Act} {w : World} {K : Act → World → Prop} {Q : Exit → Act → World → Prop} {E : Prop} (hgd : o.guard = none) (l c : Operand) (t : TypeId) (hop : o.op = Op.makeSlice t l c)
    (base : Nat) (e : TypeId) (i : TypeInfo) (z : Value) (size : Nat) (h1 : P.underlying t = some (.slice e)) (h2 : P.info? e = some i) (h3 : i.zero = some z) (h4 : i.size = size)
    (kl kc : IntKind) (L C : Int) (n : Nat) (hl : a.eval l = .int kl L) (hc : a.eval c = .int kc C) (hL : L = (n : Int)) (hC : C = (n : Int)) (b2 : i.bytes * n ≤ 281474976710656) (b3 : n ≤ maxLen) (b4 : base ≤ w.heap.size)
    (hK : ∀ w', w'.ownsRow base e size (.slice (some ⟨w.heap.size, 0, none⟩) n n) n (madeCells z.cells (n * size)).toList → w.grownBy w' none → K (a.put o.dst (.slice (some ⟨w.heap.size, 0, none⟩) n n)) w') : if Region.wanted o (yielded ops a.tmps) = true then Oper.wp P o a w K Q else E := by
  have hw : Region.wanted o (yielded ops a.tmps) = true := by simp [Region.wanted, hgd]
  rw [if_pos hw]
  obtain ⟨w', hrun, r1, r2⟩ := run_make_full (P := P) w base t e i z size h1 h2 h3 h4 kl kc n b2 b3 b4
  subst hL
  subst hC
  unfold Oper.wp
  simp [execOp, hop, hl, hc, hrun, Result.andThen]
  exact hK w' r1 r2
theorem row_shapeJ {W : World} {base k : Nat} {e : TypeId} {v : Value} {xs : List Value} (h : W.ownsRow base e 1 v k xs) : ∃ a c, v = .slice a k c := by
  rcases h.2 with ⟨e, e0⟩ | ⟨g, c, cur, e, _⟩
  · exact ⟨_, _, by rw [e, e0]⟩
  · exact ⟨_, _, e⟩

end Go.Proofs.Ytklmiapieaogdaa
