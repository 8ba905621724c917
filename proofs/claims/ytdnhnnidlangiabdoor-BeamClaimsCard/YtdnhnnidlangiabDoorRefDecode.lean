/-
  What the page's Decode answers. (Written by tpl_refdecode.py.)
-/
import Derived.Test.YtdnhnnidlangiabDoorRefWalk
namespace Go.Proofs.YtdnhnnidlangiabDoor
open Go.RowKit

/-- What is told of a list and its cut: nothing, or the first one's path and metric. -/
def decB (L : List Nd) (cut : Int) : Option (List Int × Int) := match L with
  | [] => none
  | n :: t => if t.head?.map (fun u => u.2.1) = some n.2.1 ∨ (0 ≤ cut ∧ cut ≤ n.2.1) then none else some (n.2.2.2, n.2.1)
theorem decB_same {L : List Nd} {cut : Int} {n u : Nd} (h0 : L[0]? = some n) (h1 : L[1]? = some u) (h : u.2.1 = n.2.1) : decB L cut = none := by
  match L, h0, h1 with
  | n' :: u' :: t, h0, h1 =>
    simp at h0 h1
    subst h0 h1
    unfold decB
    simp [h]
theorem decB_cut {L : List Nd} {cut : Int} {n : Nd} (h0 : L[0]? = some n) {h1 : L[1]? = none ∨ ∃ u, L[1]? = some u ∧ u.2.1 ≠ n.2.1} (a : 0 ≤ cut) (b : cut ≤ n.2.1) : decB L cut = none := by
  match L, h0 with
  | n' :: t, h0 =>
    simp at h0
    subst h0
    unfold decB
    simp [a, b]
theorem decB_told {L : List Nd} {cut : Int} {n : Nd} (h0 : L[0]? = some n) {h1 : L[1]? = none ∨ ∃ u, L[1]? = some u ∧ u.2.1 ≠ n.2.1} (h : ¬ (0 ≤ cut ∧ cut ≤ n.2.1)) : decB L cut = some (n.2.2.2, n.2.1) := by
  match L, h0 with
  | n' :: t, h0 =>
    simp at h0
    subst h0
    simp only [decB]
    rw [if_neg]
    rintro (h2 | h2)
    · rcases h1 with h1 | ⟨u, hu, hne⟩
      · cases t with
        | nil => simp at h2
        | cons v t => simp at h1
      · cases t with
        | nil => simp at h2
        | cons v t => simp at h2 hu; subst hu; exact hne h2
    · exact h h2

end Go.Proofs.YtdnhnnidlangiabDoor
