/-
  What the page's Bytes (a right block's bytes) answers.
-/
import Derived.Test.YtmjidhnlofpliabM10
import Derived.Test.YtmjidhnlofpliabM11
import Derived.Test.YtmjidhnlofpliabM14
import Derived.Deep.AppendLies
import Derived.Deep.Cut
import Derived.Deep.CutRange
import Derived.Deep.DeepCutAuto
import Derived.Deep.RegionHeldLaw
import Derived.Deep.RegionWith
namespace Go.Proofs.Ytmjidhnlofpliab
open Go.RowKit

end Go.Proofs.Ytmjidhnlofpliab

/-
  What the page's Read (bytes as a block) answers, whatever it is asked. (Written by tpl_refread.py.)
-/
namespace Go.Proofs.Ytmjidhnlofpliab
open Go.RowKit

/-- Why bytes are no block, as a number; 0: they are one. -/
def badB (z : Int) (zs : List Int) (e : Int) : Prop :=
  (bSize z = false ∧ e = 1) ∨ (bSize z = true ∧ (zs.length : Int) ≠ z + 10 ∧ e = 2) ∨ (bSize z = true ∧ (zs.length : Int) = z + 10 ∧ isSealed zs = false ∧ e = 4) ∨ (bSize z = true ∧ (zs.length : Int) = z + 10 ∧ isSealed zs = true ∧ ¬ readOk z.toNat zs ∧ e = 3)

theorem bSize_iff (z : Int) : bSize z = true ↔ 1 ≤ z ∧ z ≤ 16 := by simp [bSize]

end Go.Proofs.Ytmjidhnlofpliab

/-
  What the page's Read answers, in two contracts: bytes that are no block, bytes that are one.
-/
namespace Go.Proofs.Ytmjidhnlofpliab
open Go.RowKit

theorem rdX_len {Z : Nat} {zs : List Int} (hl : zs.length = Z + 10) (h : rdN zs ≤ Z) : (rdX zs).length = rdN zs := by
  unfold rdX; rw [List.length_take, List.length_drop]; omega

/-- Bytes are no block, for a reason that has its number, or they are one. -/
theorem read_cases (z : Int) (zs : List Int) : (∃ e, 0 < e ∧ badB z zs e) ∨ ∃ Z : Nat, z = (Z : Int) ∧ 1 ≤ Z ∧ Z ≤ 16 ∧ zs.length = Z + 10 ∧ isSealed zs = true ∧ readOk Z zs := by
  cases h1 : bSize z with
  | false => exact .inl ⟨1, by decide, .inl ⟨h1, rfl⟩⟩
  | true =>
    have hz := (bSize_iff z).1 h1
    obtain ⟨Z, rfl⟩ := Int.eq_ofNat_of_zero_le (show 0 ≤ z by omega)
    by_cases h2 : (zs.length : Int) = (Z : Int) + 10
    · cases h3 : isSealed zs with
      | false => exact .inl ⟨4, by decide, .inr (.inr (.inl ⟨h1, h2, h3, rfl⟩))⟩
      | true =>
        by_cases h4 : readOk Z zs
        · exact .inr ⟨Z, rfl, by omega, by omega, by omega, rfl, h4⟩
        · exact .inl ⟨3, by decide, .inr (.inr (.inr ⟨h1, h2, h3, h4, rfl⟩))⟩
    · exact .inl ⟨2, by decide, .inr (.inl ⟨h1, h2, rfl⟩)⟩

end Go.Proofs.Ytmjidhnlofpliab

/-
  What Put hands slices.Concat. (Written by tpl_pileput.py.)
-/
namespace Go.Proofs.Ytmjidhnlofpliab
open Go.RowKit

/-- How a row's slice lies. -/
def RowCap (a : Option Addr) (len cap : Nat) : Prop := len ≤ cap ∧ ∀ ad, a = some ad → ad.spot = none
theorem rowCap_of {w : World} {base e n cap : Nat} {a : Option Addr} {xs : List Value} (h : w.ownsRow base e 2 (.slice a n cap) n xs) : RowCap a n cap := by
  refine ⟨row_cap2 h, fun ad e => ?_⟩
  subst e
  rcases h.2 with ⟨e, _⟩ | ⟨g, c, cur, e, _⟩
  · simp only [Value.slice.injEq] at e; exact absurd e.1 (by simp)
  · simp only [Value.slice.injEq, Option.some.injEq] at e; rw [e.1]
end Go.Proofs.Ytmjidhnlofpliab
