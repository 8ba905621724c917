/-
  What volutekeep.Syms and volutekeep.TwinSyms answer, for all symbols in memory.
-/
import Derived.Test.YtkhmcoeffaeppaaSymMem
import Derived.OwnWalk
import Derived.Laws.AppendOwnNone
import Derived.WalkSpells
import Derived.WalkLawsBesides
import Derived.Deep.QuietTactic
import Derived.BigQuiet
namespace Go.Proofs.Ytkhmcoeffaeppaa
open Go.RowKit

theorem take_eq_syms {xs ys : List (Int × Int)} {k : Nat} {x y : Int × Int} (hx : xs[k]? = some x) (hy : ys[k]? = some y) (h : xs.take k = ys.take k) (e : x = y) : xs.take (k + 1) = ys.take (k + 1) := by
  rw [List.take_add_one, List.take_add_one, hx, hy, h, e]

theorem syms_cells {W : World} {b off : Nat} {l : List (Int × Int)} (h : ∀ (j : Nat) (x : Int × Int), l[j]? = some x → W.cell? ⟨b, off + j * 2, none⟩ = some (.int .i64 x.1) ∧ W.cell? ⟨b, off + j * 2 + 1, none⟩ = some (.int .i64 x.2)) :
    ∀ (j : Nat) (u : Value), (symCells l)[j]? = some u → W.cell? ((⟨b, off, none⟩ : Addr).add j) = some u := by
  intro j u hj
  rw [Go.WideShapes.add_plain]
  have hlt : j < l.length * 2 := by have := (List.getElem?_eq_some_iff.1 hj).1; rwa [symCells_len] at this
  have hq : j / 2 < l.length := by omega
  obtain ⟨x, hx⟩ : ∃ x, l[j / 2]? = some x := ⟨l[j / 2], by simp⟩
  have hc := h _ _ hx
  have hg := symCells_get hx
  by_cases h2 : j % 2 = 0
  · rw [show j / 2 * 2 = j by omega] at hc hg
    rw [hg.1] at hj
    cases hj
    exact hc.1
  · rw [show j / 2 * 2 + 1 = j by omega] at hg
    rw [show off + j / 2 * 2 + 1 = off + j by omega] at hc
    rw [hg.2] at hj
    cases hj
    exact hc.2

end Go.Proofs.Ytkhmcoeffaeppaa
