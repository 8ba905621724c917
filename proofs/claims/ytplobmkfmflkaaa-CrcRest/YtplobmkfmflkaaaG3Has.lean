/-
  What gf2.Trim and gf2.Add answer of rows that are not too long.
-/
import Derived.Test.YtplobmkfmflkaaaG3Check
import Derived.Test.YtplobmkfmflkaaaG3Add
namespace Go.Proofs.Ytplobmkfmflkaaa
open Go.RowKit

/-- A slice that holds a row, with room for it, in the world as it is. -/
def Has (W : World) (v : Value) (zs : List Int) : Prop := Holds .i64 W.heap.size W v zs ∧ Room v

theorem Has.next {W W' : World} {v : Value} {zs : List Int} (h : Has W v zs) (hb : Below W.heap.size W W') : Has W' v zs := ⟨h.1.next hb, h.2⟩
theorem Has.drewN {W : World} {v : Value} {zs : List Int} (h : Has W v zs) (n : Nat) : Has (W.drewN n) v zs := h

theorem Row.has {W : World} {g : Nat} {zs : List Int} (h : Row W g zs) (hl : zs.length ≤ 4294967296) : Has W (.slice (some ⟨g, 0, none⟩) zs.length zs.length) zs := ⟨h.holds h.lt _, _, _, _, rfl, Nat.le_refl _, by omega⟩

/-- The rows that check is handed: one. -/
theorem rowsAt_one {w : World} {v : Value} {zs : List Int} (h : Has w v zs) (hl : zs.length ≤ 32768) : RowsAt (w.alloc (.cells #[v] 31)) w.heap.size w.heap.size [v] [zs] := by
  refine ⟨rfl, fun j u hu => ?_, fun j u ys hu hy => ?_, fun ys hy => ?_⟩
  · obtain rfl : j = 0 := by have := (List.getElem?_eq_some_iff.1 hu).1; simp at this; omega
    cases hu
    simp [go_sem]
  · obtain rfl : j = 0 := by have := (List.getElem?_eq_some_iff.1 hu).1; simp at this; omega
    cases hu
    cases hy
    exact h.1.below ((Below.refl _ w).alloc (Nat.le_refl _) _)
  · simp at hy; subst hy; exact hl

/-- .. two. -/
theorem rowsAt_two {w : World} {v v' : Value} {zs zs' : List Int} (h : Has w v zs) (h' : Has w v' zs') (hl : zs.length ≤ 32768) (hl' : zs'.length ≤ 32768) : RowsAt (w.alloc (.cells #[v, v'] 31)) w.heap.size w.heap.size [v, v'] [zs, zs'] := by
  refine ⟨rfl, fun j u hu => ?_, fun j u ys hu hy => ?_, fun ys hy => ?_⟩
  · have hj : j < 2 := (List.getElem?_eq_some_iff.1 hu).1
    match j, hj with
    | 0, _ => cases hu; simp [go_sem]
    | 1, _ => cases hu; simp [go_sem]
  · have hj : j < 2 := (List.getElem?_eq_some_iff.1 hu).1
    match j, hj with
    | 0, _ => cases hu; cases hy; exact h.1.below ((Below.refl _ w).alloc (Nat.le_refl _) _)
    | 1, _ => cases hu; cases hy; exact h'.1.below ((Below.refl _ w).alloc (Nat.le_refl _) _)
  · simp at hy; exact hy.elim (fun e => e ▸ hl) (fun e => e ▸ hl')

theorem row_made {w : World} {g n : Nat} (h : w.ownsRow g 3 1 (.slice (some ⟨g, 0, none⟩) n n) n (madeCells (Value.int .i64 0).cells (n * 1)).toList) : Row w g (List.replicate n 0) := by
  rw [show (Value.int IntKind.i64 0).cells = #[.int .i64 0] from rfl, toList_madeCells_one, Nat.mul_one] at h
  rcases h.2 with ⟨e, _⟩ | ⟨g', c, cur, e, _, hg, _, _, hs, ht⟩
  · cases e
  · cases e
    unfold Row
    rw [hg]
    congr 2
    have hc : cur.toList = List.replicate n (.int .i64 0) := by
      rw [← ht, List.take_of_length_le]
      simp [hs]
    rw [List.map_replicate, ← hc]

theorem bins_two {zs zs' : List Int} (h : Bin zs) (h' : Bin zs') : ∀ ys ∈ [zs, zs'], Bin ys := fun ys hy => by
  simp at hy
  exact hy.elim (fun e => e ▸ h) (fun e => e ▸ h')

end Go.Proofs.Ytplobmkfmflkaaa
