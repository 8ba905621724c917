/-
  What the page's Node answers: the node of a path.
-/
import Derived.Test.YtdnhnnidlangiabDoorRefChild
import Derived.Test.YtdnhnnidlangiabDoorRefLeast
namespace Go.Proofs.YtdnhnnidlangiabDoor
open Go.RowKit

/-- The beam over a pile: the state, the metric of a path. -/
def staB (N : Nat) (l : List (Int × Int)) (P : List Int) : Int := sta stB (coB N l) (beginN : Int) P
def metB (N : Nat) (l : List (Int × Int)) (P : List Int) : Int := met stB (coB N l) (beginN : Int) P
theorem staB_nat (N : Nat) (l : List (Int × Int)) (P : List Int) : ∃ s : Nat, s < 4294967296 ∧ staB N l P = (s : Int) := by
  unfold staB
  rcases List.eq_nil_or_concat P with rfl | ⟨Q, k, rfl⟩
  · exact ⟨beginN, by decide, rfl⟩
  · rw [List.concat_eq_append, sta_snoc]
    exact ⟨_, stepN_lt _ _, rfl⟩
theorem metB_le {N : Nat} {p : Int} {l : List (Int × Int)} (h : PileOk (N : Int) p l) : ∀ (n : Nat) (P : List Int), P.length = n → metB N l P ≤ 8192 * (n : Int)
  | 0, P, hP => by
    rw [List.length_eq_zero_iff.1 hP]
    unfold metB
    rw [met_nil]
    omega
  | n + 1, P, hP => by
    rcases List.eq_nil_or_concat P with rfl | ⟨Q, k, rfl⟩
    · simp at hP
    · rw [List.concat_eq_append] at hP ⊢
      have hQ : Q.length = n := by simpa using hP
      have ih := metB_le h n Q hQ
      unfold metB at ih ⊢
      rw [met_snoc]
      have := coB_le h Q.length (stB (sta stB (coB N l) (beginN : Int) Q) k)
      omega
theorem metB_pos (N : Nat) (l : List (Int × Int)) (P : List Int) : 0 ≤ metB N l P := met_pos stB (coB N l) _ (coB_pos N l) P

theorem Box.set4 {W : World} {B : Nat} {t : TypeId} {x y z u : Value} (h : Box W B t #[x, y, z, u]) (x' y' z' u' : Value) : Box ((((W.setCell ⟨B, 0, none⟩ x').setCell ⟨B, 1, none⟩ y').setCell ⟨B, 2, none⟩ z').setCell ⟨B, 3, none⟩ u') B t #[x', y', z', u'] := (((h.set 0 x').set 1 y').set 2 z').set 3 u'
theorem below_set4 {n : Nat} {a w : World} (h : Below n a w) {D : Nat} (hD : n ≤ D) (x y z u : Value) : Below n a ((((w.setCell ⟨D, 0, none⟩ x).setCell ⟨D, 1, none⟩ y).setCell ⟨D, 2, none⟩ z).setCell ⟨D, 3, none⟩ u) := (((h.setCell (p := ⟨D, 0, none⟩) hD x).setCell (p := ⟨D, 1, none⟩) hD y).setCell (p := ⟨D, 2, none⟩) hD z).setCell (p := ⟨D, 3, none⟩) hD u
theorem row_set4 {w : World} {base : Nat} {e : TypeId} {size : Nat} {v : Value} {n : Nat} {xs : List Value} (h : w.ownsRow base e size v n xs) {D : Nat} (hD : D < base) (x y z u : Value) : ((((w.setCell ⟨D, 0, none⟩ x).setCell ⟨D, 1, none⟩ y).setCell ⟨D, 2, none⟩ z).setCell ⟨D, 3, none⟩ u).ownsRow base e size v n xs := ownsRow_setCell_below (ownsRow_setCell_below (ownsRow_setCell_below (ownsRow_setCell_below h (a := ⟨D, 0, none⟩) hD x) (a := ⟨D, 1, none⟩) hD y) (a := ⟨D, 2, none⟩) hD z) (a := ⟨D, 3, none⟩) hD u

end Go.Proofs.YtdnhnnidlangiabDoor
