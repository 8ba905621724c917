/-
  What the page's Walk answers: the list at the end, and the cut.
-/
import Derived.Test.YtdnhnnidlangiabDoorRefNode
import Derived.Test.YtdnhnnidlangiabDoorRefPick
namespace Go.Proofs.YtdnhnnidlangiabDoor
open Go.RowKit

/-- The walk over a pile. -/
def walkB (N : Nat) (l : List (Int × Int)) (b D i : Nat) : List Nd × Int := walkTo stB (coB N l) N (beginN : Int) b D i
def kidsB (N : Nat) (l : List (Int × Int)) (D i : Nat) (L : List Nd) : List Nd := kidsOf stB (coB N l) N D i L
def kidB (N : Nat) (l : List (Int × Int)) (D i : Nat) (n : Nd) (k : Int) : Nd := kidS stB (coB N l) N D i n k
theorem walkB_next (N : Nat) (l : List (Int × Int)) (b D i : Nat) : walkB N l b D (i + 1) = (keptN b (kidsB N l D i (walkB N l b D i).1), lmin (walkB N l b D i).2 (cutK sc b (kidsB N l D i (walkB N l b D i).1))) := rfl
theorem kidsB_snoc (N : Nat) (l : List (Int × Int)) (D i : Nat) (L : List Nd) (n : Nd) : kidsB N l D i (L ++ [n]) = kidsB N l D i L ++ nib16.map (kidB N l D i n) := by
  unfold kidsB kidsOf
  rw [List.flatMap_append]
  simp [kidB]
theorem kidB_eq {N : Nat} {l : List (Int × Int)} {D i s k : Nat} {n : Nd} (hs : n.1 = (s : Int)) (hl : n.2.2.2.length = i) : kidB N l D i n (k : Int) = (((stepN s k : Nat) : Int), n.2.1 + ((costN (stepN s k) (ofL N l i) : Nat) : Int), lst stB (coB N l) N D ((stepN s k : Nat) : Int) (i + 1) (n.2.1 + ((costN (stepN s k) (ofL N l i) : Nat) : Int)), n.2.2.2 ++ [(k : Int)]) := by
  unfold kidB kidS kid
  rw [hs, hl, stB_nat, coB_nat]
/-- What is known of the list's nodes. -/
theorem walkB_node {N : Nat} {p : Int} {l : List (Int × Int)} (hp : PileOk (N : Int) p l) {b D i : Nat} (hb : 1 ≤ b) {n : Nd} (h : n ∈ (walkB N l b D i).1) : (∃ s : Nat, s < 4294967296 ∧ n.1 = (s : Int)) ∧ 0 ≤ n.2.1 ∧ n.2.1 ≤ 8192 * (i : Int) ∧ n.2.2.2.length = i := by
  obtain ⟨P, h1, h2, h3, _⟩ := (walkTo_inv stB (coB N l) N (beginN : Int) D b hb i).node n h
  obtain ⟨s, hs, es⟩ := staB_nat N l P
  have e : n.2.1 = metB N l P := h3.2.1
  refine ⟨⟨s, hs, h3.1.trans es⟩, by rw [e]; exact metB_pos N l P, by rw [e]; exact metB_le hp i P h1, by rw [h3.2.2]; exact h1⟩
theorem walkB_len (N : Nat) (l : List (Int × Int)) {b D i : Nat} (hb : 1 ≤ b) (hb2 : b ≤ 16) : (walkB N l b D i).1.length ≤ 16 := by
  have := (walkTo_inv stB (coB N l) N (beginN : Int) D b hb i).most
  unfold walkB
  omega
theorem kidsB_ok {N : Nat} {p : Int} {l : List (Int × Int)} (hp : PileOk (N : Int) p l) {b D i : Nat} (hb : 1 ≤ b) : ∀ x ∈ kidsB N l D i (walkB N l b D i).1, 0 ≤ sc x ∧ x.2.2.2.length = i + 1 := by
  intro x hx
  obtain ⟨n, hn, k, hk, rfl⟩ := kidsOf_mem stB (coB N l) N hx
  obtain ⟨⟨s, hs, es⟩, h1, h2, h3⟩ := walkB_node hp hb hn
  obtain ⟨kn, rfl⟩ : ∃ kn : Nat, k = (kn : Int) := ⟨k.toNat, by omega⟩
  have e := kidB_eq (N := N) (l := l) (D := D) (k := kn) es h3
  unfold kidB at e
  rw [e]
  refine ⟨?_, by simp [h3]⟩
  show 0 ≤ lst stB (coB N l) N D _ _ _
  exact (lst_bd N l hp D _ _ _ (by omega)).1

end Go.Proofs.YtdnhnnidlangiabDoor
