/-
  What the page's child answers: a node's child.
-/
import Derived.Test.YtdnhnnidlangiabDoorRefPiles
import Derived.Test.YtdnhnnidlangiabDoorRefCost
import Derived.Test.YtdnhnnidlangiabDoorRefSpine
import Derived.Test.YtdnhnnidlangiabDoorTwinInts
import Derived.RegionTactic
import Derived.BigRegion
import Derived.Deep.RegionWith
import Derived.Deep.RegionHeldLaw
import Derived.Deep.AppendLies
namespace Go.Proofs.YtdnhnnidlangiabDoor
open Go.RowKit

theorem keep4 {W : World} {D B o : Nat} (h : B ≠ D) (x y z u : Value) {v : Value} (hc : W.cell? ⟨B, o, none⟩ = some v) : ((((W.setCell ⟨D, 0, none⟩ x).setCell ⟨D, 1, none⟩ y).setCell ⟨D, 2, none⟩ z).setCell ⟨D, 3, none⟩ u).cell? ⟨B, o, none⟩ = some v := by
  have hd : ∀ i, (⟨D, i, none⟩ : Addr) ≠ ⟨B, o, none⟩ := fun i e => h (congrArg Addr.block e).symm
  rw [World.cell?_setCell_other _ _ _ _ (hd 3), World.cell?_setCell_other _ _ _ _ (hd 2), World.cell?_setCell_other _ _ _ _ (hd 1), World.cell?_setCell_other _ _ _ _ (hd 0)]
  exact hc

theorem news_at {W : World} {B : Nat} {x : Value} (h : W.cell? ⟨B, 0, none⟩ = some x) : ∀ (j : Nat) (u : Value), [x][j]? = some u → W.cell? ((⟨B, 0, none⟩ : Addr).add j) = some u := by
  intro j u hj
  cases j with
  | zero => simp at hj; subst hj; simpa [Addr.add] using h
  | succ j => simp at hj

end Go.Proofs.YtdnhnnidlangiabDoor
