/-
  Lists of texts, as they lie and as arguments.
-/
import Derived.Test.YtklmiapieaogdaaMem
import Derived.Deep.Slices
import Derived.WalkKit
import Derived.ProofKit
import Derived.OpenShut
namespace Go.Proofs.Ytklmiapieaogdaa
open Go.RowKit

/-- The slice at a holds these texts, in a block below n₀. -/
def Texts (n₀ : Nat) (W : World) (a : Option Addr) (n : Nat) (l : List (List Int)) : Prop := l.length = n ∧ ∀ (j : Nat) (x : List Int), l[j]? = some x → ∃ b off xa xc, a = some ⟨b, off, none⟩ ∧ b < n₀ ∧ W.cell? ⟨b, off + j, none⟩ = some (.slice xa x.length xc) ∧ Holds .u8 n₀ W (.slice xa x.length xc) x ∧ x.length ≤ xc ∧ ∀ z ∈ x, 0 ≤ z ∧ z ≤ 255
theorem Texts.next {n₀ : Nat} {W W' : World} {a : Option Addr} {n : Nat} {l : List (List Int)} (h : Texts n₀ W a n l) (k : Below n₀ W W') : Texts n₀ W' a n l := by
  refine ⟨h.1, fun j x hj => ?_⟩
  obtain ⟨b, off, xa, xc, h0, h1, h2, h6, h7⟩ := h.2 j x hj
  exact ⟨b, off, xa, xc, h0, h1, (k.cell (p := ⟨b, off + j, none⟩) h1).trans h2, h6.below k, h7⟩
theorem cellsU8L : Try.prog.cellsOf 5 = 1 := by kernel_rfl
theorem cellsBytesL : Try.prog.cellsOf 22 = 1 := by kernel_rfl

/-- A text that came in, opened. -/
theorem text_of_trod {H : Type} {enc : TypeId × Value → H} {w : World} {base : Nat} {held : Bool} {fuel : Nat} {v : Value} {x : DataW H × List MemPlace}
    (h : DataW.trod enc Try.prog w base (fun _ => true) held fuel 22 [v] = some x) : ∃ a ys c, v = .slice a ys.length c ∧ Holds .u8 w.heap.size w v ys ∧ ys.length ≤ c ∧ ∀ z ∈ ys, 0 ≤ z ∧ z ≤ 255 := by
  rcases Go.ChangeShapes.open_ints Try.underlying22 Try.underlying5 cellsU8L h with ⟨hcs, _⟩ | ⟨x3, l3, c3', zs, hcs, _, hl3, hm3, hz, _, hcell3, hwz⟩
  · simp at hcs
    subst hcs
    exact ⟨_, [], _, rfl, .inl ⟨⟨_, _, rfl, fun _ => rfl⟩, rfl⟩, Nat.le_refl _, by simp⟩
  · simp at hcs
    subst hcs
    obtain ⟨ys, e, hy, hw⟩ := holds_of_isRow (kd := .u8) (w := w) (a := some x3) (len := l3) (cap := c3') (zs := zs) (.inr ⟨x3, rfl, hl3, hm3, by simpa using hz, hcell3, hwz⟩)
    subst e
    exact ⟨_, ys, _, rfl, hy, hl3, bytes_bd hw⟩

set_option maxRecDepth 100000 in
set_option maxHeartbeats 1000000 in
/-- A list of texts that came in, opened. -/
theorem texts_of_trod {H : Type} {enc : TypeId × Value → H} {w : World} {base : Nat} {held : Bool} {fuel : Nat} {a : Option Addr} {len cap : Nat} {x : DataW H × List MemPlace}
    (h : DataW.trod enc Try.prog w base (fun _ => true) held fuel 41 [.slice a len cap] = some x) : ∃ l, Texts w.heap.size w a len l := by
  rcases Go.Deep.open_slice Try.underlying41 h with ⟨hcs, _⟩ | ⟨ad, len', cap', m, n, D, Pl, hcs, _, hl, hc, hm, _, hx⟩
  · simp at hcs
    obtain ⟨rfl, rfl, rfl⟩ := hcs
    exact ⟨[], rfl, fun j x hj => by simp at hj⟩
  · simp at hcs
    obtain ⟨rfl, rfl, rfl⟩ := hcs
    have hlm : len ≤ m := by rw [hm]; split <;> omega
    have each : ∀ i, i < len → ∃ q : List Int × Option Addr × Nat, w.cell? (ad.add i) = some (.slice q.2.1 q.1.length q.2.2) ∧ Holds .u8 w.heap.size w (.slice q.2.1 q.1.length q.2.2) q.1 ∧ q.1.length ≤ q.2.2 ∧ ∀ z ∈ q.1, 0 ≤ z ∧ z ≤ 255 := by
      intro i hi
      obtain ⟨cs', h1, h2⟩ := hx i (by omega)
      rw [cellsBytesL] at h1
      obtain ⟨_, hlen, hcell⟩ := World.cells?_some h1
      match cs', hlen with
      | [v0], _ =>
        obtain ⟨a3, ys, c3, rfl, hy, h3, h5⟩ := text_of_trod h2
        have c0 := hcell 0 (by omega)
        simp at c0
        exact ⟨(ys, a3, c3), by simpa [Go.Deep.add_add] using c0, hy, h3, h5⟩
    by_cases h0 : len = 0
    · subst h0
      exact ⟨[], rfl, fun j x hj => by simp at hj⟩
    · haveI : Inhabited (List Int × Option Addr × Nat) := ⟨([], none, 0)⟩
      obtain ⟨q, hq⟩ := Go.Deep.choose_lt each
      obtain ⟨b, off, spot⟩ := ad
      have hspot : spot = none := by
        have := (hq 0 (by omega)).1
        simpa [Addr.add] using World.cell?_spot this
      subst hspot
      refine ⟨(List.range len).map fun i => (q i).1, by simp, fun j x hj => ?_⟩
      have hjl : j < len := by have := (List.getElem?_eq_some_iff.1 hj).1; simpa using this
      rw [List.getElem?_map, List.getElem?_range hjl] at hj
      simp at hj
      subst hj
      obtain ⟨g1, g2, g3, g5⟩ := hq j hjl
      rw [Go.WideShapes.add_plain] at g1
      exact ⟨b, off, (q j).2.1, (q j).2.2, rfl, by have := cell_block_lt g1; exact this, g1, g2, g3, g5⟩

end Go.Proofs.Ytklmiapieaogdaa
