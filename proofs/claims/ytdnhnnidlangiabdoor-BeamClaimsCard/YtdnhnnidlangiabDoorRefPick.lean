/-
  What the page's own Pick answers. (Written by tpl_refpick.py.)
-/
import Derived.Test.YtdnhnnidlangiabDoorPickLeast1
namespace Go.Proofs.YtdnhnnidlangiabDoor
open Go.RowKit

theorem leq_skip {cs : List Int} {tk : List Nat} {i : Nat} (hi : i ∈ tk) {z : Int} : (∃ j, j < i ∧ j ∉ tk ∧ at0 cs j = z) ↔ ∃ j, j < i + 1 ∧ j ∉ tk ∧ at0 cs j = z := by
  constructor
  · rintro ⟨j, h1, h2, h3⟩
    exact ⟨j, by omega, h2, h3⟩
  · rintro ⟨j, h1, h2, h3⟩
    rcases Nat.lt_or_eq_of_le (Nat.lt_succ_iff.1 h1) with h | h
    · exact ⟨j, h, h2, h3⟩
    · subst h; exact absurd hi h2
theorem leq_more {cs : List Int} {tk : List Nat} {i : Nat} {c : Int} (hi : i ∉ tk) (hc : at0 cs i = c) {z : Int} : ((∃ j, j < i ∧ j ∉ tk ∧ at0 cs j = z) ∨ z = c) ↔ ∃ j, j < i + 1 ∧ j ∉ tk ∧ at0 cs j = z := by
  constructor
  · rintro (⟨j, h1, h2, h3⟩ | h)
    · exact ⟨j, by omega, h2, h3⟩
    · exact ⟨i, by omega, hi, by rw [hc, h]⟩
  · rintro ⟨j, h1, h2, h3⟩
    rcases Nat.lt_or_eq_of_le (Nat.lt_succ_iff.1 h1) with h | h
    · exact .inl ⟨j, h, h2, h3⟩
    · subst h; exact .inr (by rw [← h3, hc])

end Go.Proofs.YtdnhnnidlangiabDoor
