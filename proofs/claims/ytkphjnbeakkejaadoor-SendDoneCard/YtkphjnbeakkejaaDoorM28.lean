/-
  Whether an end that sends may be, in the parts that the code asks: its numbers, its ends, what waits. No function of the program is spoken of.
-/
import Derived.Test.YtkphjnbeakkejaaDoorM01
import Derived.Test.YtkphjnbeakkejaaDoorM02
import Derived.Test.YtkphjnbeakkejaaDoorM04
import Derived.Test.YtkphjnbeakkejaaDoorM06
import Derived.Test.YtkphjnbeakkejaaDoorM11
import Derived.Test.YtkphjnbeakkejaaDoorM16
import Derived.Test.YtkphjnbeakkejaaDoorM26
import Derived.Test.YtkphjnbeakkejaaDoorM27
import Derived.BigQuiet
import Derived.Deep.AppendLies
import Derived.Deep.QuietTactic
import Derived.Deep.RegionHeldLaw
import Derived.Lib.MinMax
import Derived.Maps.AppendAt
import Derived.OwnWalk
import Derived.WalkLawsBesides
import Derived.WalkSpells
namespace Go.Proofs.YtkphjnbeakkejaaDoor
open Go.RowKit

def lastE (a : Int) (l : List Int) (k : Nat) : Int := if k = 0 then a else l[k - 1]?.getD 0
theorem lastE_succ {a x : Int} {l : List Int} {k : Nat} (h : l[k]? = some x) : lastE a l (k + 1) = x := by
  unfold lastE
  rw [if_neg (by omega), Nat.add_sub_cancel, h]
  rfl
theorem lastE_cons (a x : Int) (l : List Int) (k : Nat) : lastE a (x :: l) (k + 1) = lastE x l k := by
  unfold lastE
  rw [if_neg (by omega), Nat.add_sub_cancel]
  cases k with
  | zero => rfl
  | succ k => rw [if_neg (by omega), Nat.add_sub_cancel]; rfl
theorem upTo_iff : ∀ {l : List Int} {a t : Int}, upTo a l t ↔ (∀ (k : Nat) (x : Int), l[k]? = some x → lastE a l k < x) ∧ lastE a l l.length = t
  | [], a, t => by
    constructor
    · intro h
      exact ⟨fun k x hx => by simp at hx, h⟩
    · rintro ⟨_, h⟩
      exact h
  | y :: l, a, t => by
    have ih := upTo_iff (l := l) (a := y) (t := t)
    constructor
    · rintro ⟨h1, h2⟩
      obtain ⟨h3, h4⟩ := ih.1 h2
      refine ⟨fun k x hx => ?_, ?_⟩
      · cases k with
        | zero => simp at hx; subst hx; exact h1
        | succ k => rw [lastE_cons]; exact h3 k x (by simpa using hx)
      · rw [List.length_cons, lastE_cons]; exact h4
    · rintro ⟨h1, h2⟩
      refine ⟨h1 0 y rfl, ih.2 ⟨fun k x hx => ?_, ?_⟩⟩
      · have := h1 (k + 1) x (by simpa using hx)
        rwa [lastE_cons] at this
      · rw [List.length_cons, lastE_cons] at h2; exact h2
def numsS (s : Sn) : Prop := (inN s.sK ∧ inN s.sR ∧ inN s.sB) ∧ 0 ≤ s.sF ∧ s.sF ≤ s.sT ∧ s.sT ≤ s.sC.cSeqs ∧ (s.sE.length : Int) ≤ s.sN ∧ s.sN ≤ s.sT
def endsS (s : Sn) : Prop := upTo s.sF s.sE s.sT ∧ (s.sE.length : Int) ≤ s.sC.cQs
def waitsS (s : Sn) : Prop := (s.sW.length : Int) = s.sT - s.sF ∧ ∀ (i : Nat) (e : Em), s.sW[i]? = some e → e.eS = s.sF + (i : Int) ∧ okM s.sC e
theorem okS_iff {s : Sn} : okS s ↔ okC s.sC = true ∧ numsS s ∧ endsS s ∧ waitsS s :=
  ⟨fun h => ⟨h.conf, ⟨⟨h.clock, h.refd, h.bads⟩, h.low, h.base, h.seqs, h.sent, h.most⟩, ⟨h.ends, h.room⟩, h.long, h.all⟩,
   fun ⟨h0, ⟨⟨h1, h2, h3⟩, h4, h5, h6, h7, h8⟩, ⟨h9, h10⟩, h11, h12⟩ => { conf := h0, clock := h1, refd := h2, bads := h3, low := h4, base := h5, seqs := h6, room := h10, sent := h7, most := h8, ends := h9, long := h11, all := h12 }⟩

end Go.Proofs.YtkphjnbeakkejaaDoor

/-
  What the page's Bits and Nibbles answer, for every text in memory.
-/
namespace Go.Proofs.YtkphjnbeakkejaaDoor
open Go.RowKit

end Go.Proofs.YtkphjnbeakkejaaDoor

/-
  What the page's Order and N answer.
-/
namespace Go.Proofs.YtkphjnbeakkejaaDoor
open Go.RowKit

end Go.Proofs.YtkphjnbeakkejaaDoor

/-
  What the page's Encode answers.
-/
namespace Go.Proofs.YtkphjnbeakkejaaDoor
open Go.RowKit

end Go.Proofs.YtkphjnbeakkejaaDoor

/-
  What the page's Tick answers, of a right one. (Written by tpl_refemit.py.)
-/
namespace Go.Proofs.YtkphjnbeakkejaaDoor
open Go.RowKit

end Go.Proofs.YtkphjnbeakkejaaDoor

/-
  What data's isSummed and take answer. (Written by tpl_datatake.py.)
-/
namespace Go.Proofs.YtkphjnbeakkejaaDoor
open Go.RowKit

end Go.Proofs.YtkphjnbeakkejaaDoor

/-
  What package data answers (Read; Make: DataMake). (Written by tpl_datacode.py.)
-/
namespace Go.Proofs.YtkphjnbeakkejaaDoor
open Go.RowKit

end Go.Proofs.YtkphjnbeakkejaaDoor
