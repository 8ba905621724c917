/-
  What a state costs, as a number. No program is spoken of.
-/
import Derived.Test.YtmjidhnlofpliabM01
import Derived.Test.YtmjidhnlofpliabM03
import Derived.Test.YtmjidhnlofpliabM04
import Derived.Test.YtmjidhnlofpliabM05
import Derived.Test.YtmjidhnlofpliabM06
import Derived.Test.YtmjidhnlofpliabM07
import Derived.Test.YtmjidhnlofpliabM08
import Derived.Test.YtmjidhnlofpliabM11
import Derived.Test.YtmjidhnlofpliabM12
import Derived.Test.YtmjidhnlofpliabM13
import Derived.BigQuiet
import Derived.Deep.AppendLies
import Derived.Deep.QuietTactic
import Derived.Deep.RegionHeldLaw
import Derived.Laws.BitsAllLaws
import Derived.Maps.AppendAt
import Derived.OwnWalk
import Derived.WalkLawsBesides
import Derived.WalkSmall
import Derived.WalkSpells
namespace Go.Proofs.Ytmjidhnlofpliab

/-- A symbol that may be asked. -/
def CostOk (l : List (Int × Int)) : Prop := ∀ x ∈ l, 0 ≤ x.1 ∧ x.1 ≤ 255 ∧ 0 ≤ x.2 ∧ x.2 ≤ 255
theorem CostOk.take {l : List (Int × Int)} (h : CostOk l) (k : Nat) : CostOk (l.take k) := fun x hx => h x (List.mem_of_mem_take hx)
theorem CostOk.drop {l : List (Int × Int)} (h : CostOk l) (k : Nat) : CostOk (l.drop k) := fun x hx => h x (List.mem_of_mem_drop hx)

end Go.Proofs.Ytmjidhnlofpliab

/-
  The beam's numbers over a pile: its step, its cost, within their bounds. No program is spoken of.
-/
namespace Go.Proofs.Ytmjidhnlofpliab

end Go.Proofs.Ytmjidhnlofpliab

/-
  A segment's symbols, told pass by pass. No program is spoken of.
-/
namespace Go.Proofs.Ytmjidhnlofpliab

end Go.Proofs.Ytmjidhnlofpliab

/-
  Symbols of a state with some bits turned: what they cost. No program is spoken of.
-/
namespace Go.Proofs.Ytmjidhnlofpliab

end Go.Proofs.Ytmjidhnlofpliab

/-
  Rows of numbers of the call's own: append of one number; a block that is written place by place. No function of the program is spoken of.
-/
namespace Go.Proofs.Ytmjidhnlofpliab
open Go.RowKit

/-- Block g holds the numbers zs ahead of all; none of it is frozen. -/
def IntsAt (W : World) (g : Nat) (zs : List Int) : Prop := g < W.heap.size ∧ (∀ q, q < zs.length → W.cell? ⟨g, q, none⟩ = some (.int .i64 (zs[q]?.getD 0))) ∧ ∀ q, W.frozen? ⟨g, q, none⟩ = false

theorem IntsAt.set {W : World} {g : Nat} {zs : List Int} (h : IntsAt W g zs) (k : Nat) (hk : k < zs.length) (v : Int) : IntsAt (W.setCell ⟨g, k, none⟩ (.int .i64 v)) g (zs.set k v) := by
  refine ⟨by simpa [World.setCell] using h.1, fun q hq => ?_, fun q => by rw [World.frozen?_setCell]; exact h.2.2 q⟩
  rw [List.length_set] at hq
  by_cases e : q = k
  · subst e
    rw [World.cell?_setCell_same' _ _ _ (by rw [h.2.1 q hq]; rfl)]
    simp [hq]
  · rw [World.cell?_setCell_other _ _ _ _ (by intro e'; cases e'; exact e rfl), h.2.1 q hq, List.getElem?_set_ne (by omega)]
theorem IntsAt.cell {W : World} {g : Nat} {zs : List Int} (h : IntsAt W g zs) {q : Nat} {x : Int} (hq : zs[q]? = some x) : W.cell? ⟨g, q, none⟩ = some (.int .i64 x) := by
  rw [h.2.1 q (List.getElem?_eq_some_iff.1 hq).1, hq]; rfl
theorem IntsAt.below {W W' : World} {g n : Nat} {zs : List Int} (h : IntsAt W g zs) (hb : Below n W W') (hg : g < n) : IntsAt W' g zs := by
  refine ⟨Nat.lt_of_lt_of_le h.1 hb.size, fun q hq => (hb.cell (p := ⟨g, q, none⟩) hg).trans (h.2.1 q hq), fun q => ?_⟩
  have e : W'.frozen? ⟨g, q, none⟩ = W.frozen? ⟨g, q, none⟩ := by unfold World.frozen?; rw [hb.block g hg]
  rw [e]; exact h.2.2 q
theorem IntsAt.next {W W' : World} {g : Nat} {zs : List Int} (h : IntsAt W g zs) (hb : Below W.heap.size W W') : IntsAt W' g zs := h.below hb h.1
theorem IntsAt.other {W : World} {g : Nat} {zs : List Int} (h : IntsAt W g zs) {p : Addr} (hp : g ≠ p.block) (v : Value) : IntsAt (W.setCell p v) g zs := by
  refine ⟨by simpa [World.setCell] using h.1, fun q hq => ?_, fun q => by rw [World.frozen?_setCell]; exact h.2.2 q⟩
  rw [World.cell?_setCell_other _ _ _ _ (by intro e; cases e; exact hp rfl)]
  exact h.2.1 q hq
theorem IntsAt.drewN {W : World} {g : Nat} {zs : List Int} (h : IntsAt W g zs) (n : Nat) : IntsAt (W.drewN n) g zs := h

end Go.Proofs.Ytmjidhnlofpliab

/-
  What the page's Pile answers: may it be?
-/
namespace Go.Proofs.Ytmjidhnlofpliab
open Go.RowKit

end Go.Proofs.Ytmjidhnlofpliab

/-
  What the page's Of answers, of a right pile.
-/
namespace Go.Proofs.Ytmjidhnlofpliab
open Go.RowKit

end Go.Proofs.Ytmjidhnlofpliab

/-
  What the page's Mix answers.
-/
namespace Go.Proofs.Ytmjidhnlofpliab
open Go.RowKit

end Go.Proofs.Ytmjidhnlofpliab

/-
  What the page's Symbol answers.
-/
namespace Go.Proofs.Ytmjidhnlofpliab
open Go.RowKit

end Go.Proofs.Ytmjidhnlofpliab

/-
  What the page's Cost answers, of symbols that may be asked.
-/
namespace Go.Proofs.Ytmjidhnlofpliab
open Go.RowKit

end Go.Proofs.Ytmjidhnlofpliab

/-
  What the page's Path answers, for every row in memory: are they nibbles alone?
-/
namespace Go.Proofs.Ytmjidhnlofpliab
open Go.RowKit

end Go.Proofs.Ytmjidhnlofpliab

/-
  What the page's Begin, Step, States answer.
-/
namespace Go.Proofs.Ytmjidhnlofpliab
open Go.RowKit

end Go.Proofs.Ytmjidhnlofpliab

/-
  What the page's Shift16, Shift32 answer.
-/
namespace Go.Proofs.Ytmjidhnlofpliab
open Go.RowKit

end Go.Proofs.Ytmjidhnlofpliab

/-
  What the page's Bits, Sum16, Sum32 answer, for every text in memory.
-/
namespace Go.Proofs.Ytmjidhnlofpliab
open Go.RowKit

end Go.Proofs.Ytmjidhnlofpliab

/-
  What the page's Sum32 answers, for every text in memory.
-/
namespace Go.Proofs.Ytmjidhnlofpliab
open Go.RowKit

end Go.Proofs.Ytmjidhnlofpliab

/-
  What the page's Seal and Sealed answer, for every text in memory.
-/
namespace Go.Proofs.Ytmjidhnlofpliab
open Go.RowKit

end Go.Proofs.Ytmjidhnlofpliab

/-
  What the page's Sealed answers, for every text in memory.
-/
namespace Go.Proofs.Ytmjidhnlofpliab
open Go.RowKit

end Go.Proofs.Ytmjidhnlofpliab

/-
  What the page's Has, Ack and ReadAck and volutekeep.Ack answer. (Written by tpl_refack.py.)
-/
namespace Go.Proofs.Ytmjidhnlofpliab
open Go.RowKit

theorem row_shapeA {W : World} {base k : Nat} {e : TypeId} {v : Value} {xs : List Value} (h : W.ownsRow base e 1 v k xs) : ∃ a c, v = .slice a k c := by
  rcases h.2 with ⟨e, e0⟩ | ⟨g, c, cur, e, _⟩
  · exact ⟨_, _, by rw [e, e0]⟩
  · exact ⟨_, _, e⟩
theorem row_boxA {W : World} {B base : Nat} {x : Int} (h : Box W B 5 #[.int .u8 x]) (hb : base ≤ B) : W.ownsRow base 5 1 (.slice (some ⟨B, 0, none⟩) 1 1) 1 ([x].map (Value.int .u8)) :=
  ⟨rfl, .inr ⟨B, 1, #[.int .u8 x], rfl, hb, h, Nat.le_refl _, by unfold maxLen; omega, rfl, rfl⟩⟩
end Go.Proofs.Ytmjidhnlofpliab
