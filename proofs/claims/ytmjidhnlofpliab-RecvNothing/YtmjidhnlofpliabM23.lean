/-
  What bit.pieces tells, range by range: of each byte its bits, or its nibbles, the highest first; and what bit.takeApart makes of it: for every text in memory.
-/
import Derived.Test.YtmjidhnlofpliabM01
import Derived.Test.YtmjidhnlofpliabM02
import Derived.Test.YtmjidhnlofpliabM07
import Derived.Test.YtmjidhnlofpliabM11
import Derived.Deep.AppendLies
import Derived.Deep.RegionHeldLaw
import Derived.LoopIn
import Derived.LoopNIn
import Derived.Maps.AppendAt
import Derived.OwnWalkIn
import Derived.RangeFuncBound
import Derived.RangeFuncBox
import Derived.RangeFuncCalls
import Derived.RangeFuncLeaves
import Derived.RangeFuncNested
import Derived.Shelf.Abstract
import Derived.Shelf.RegionOpen
import Derived.TacticsInMore
import Derived.Test.YtmjidhnlofpliabRows
import Derived.WalkKit
namespace Go.Proofs.Ytmjidhnlofpliab
open Go.RowKit Go.Shelf
attribute [local go_sem] Oper.semAt_some

/-- What the body of a range over pieces must keep: all below n₀, and the boxes of width and mask. -/
def KpP (n₀ Bw Bm : Nat) (W W' : World) : Prop := Below n₀ W W' ∧ W'.heap[Bw]? = W.heap[Bw]? ∧ W'.heap[Bm]? = W.heap[Bm]?

theorem KpP.trans {n₀ Bw Bm : Nat} {A B C : World} (h : KpP n₀ Bw Bm A B) (k : KpP n₀ Bw Bm B C) : KpP n₀ Bw Bm A C := ⟨h.1.trans k.1, k.2.1.trans h.2.1, k.2.2.trans h.2.2⟩
end Go.Proofs.Ytmjidhnlofpliab

/-
  What bit.Bits and bit.Nibbles answer, for every text in memory: the bits, the nibbles of its bytes, in new memory; a text of more than 4096 bytes is refused.
-/
namespace Go.Proofs.Ytmjidhnlofpliab
open Go.RowKit Go.Shelf
attribute [local go_sem] Oper.semAt_some

end Go.Proofs.Ytmjidhnlofpliab

/-
  What bit.wholes tells, range by range: the bytes that pieces of four bits, or of one bit, are put together to.
-/
namespace Go.Proofs.Ytmjidhnlofpliab
open Go.RowKit Go.Shelf
attribute [local go_sem] Oper.semAt_some

/-- What the body of a range over wholes must keep: all below n₀, and the three boxes. -/
def KpP3 (n₀ B1 B2 B3 : Nat) (W W' : World) : Prop := Below n₀ W W' ∧ W'.heap[B1]? = W.heap[B1]? ∧ W'.heap[B2]? = W.heap[B2]? ∧ W'.heap[B3]? = W.heap[B3]?

theorem KpP3.c1 {n₀ B1 B2 B3 : Nat} {W W' : World} (h : KpP3 n₀ B1 B2 B3 W W') : W'.cell? ⟨B1, 0, none⟩ = W.cell? ⟨B1, 0, none⟩ := by simp [World.cell?, h.2.1]
theorem KpP3.c2 {n₀ B1 B2 B3 : Nat} {W W' : World} (h : KpP3 n₀ B1 B2 B3 W W') : W'.cell? ⟨B2, 0, none⟩ = W.cell? ⟨B2, 0, none⟩ := by simp [World.cell?, h.2.2.1]
theorem KpP3.c3 {n₀ B1 B2 B3 : Nat} {W W' : World} (h : KpP3 n₀ B1 B2 B3 W W') : W'.cell? ⟨B3, 0, none⟩ = W.cell? ⟨B3, 0, none⟩ := by simp [World.cell?, h.2.2.2]
theorem KpP3.trans {n₀ B1 B2 B3 : Nat} {A B C : World} (h : KpP3 n₀ B1 B2 B3 A B) (k : KpP3 n₀ B1 B2 B3 B C) : KpP3 n₀ B1 B2 B3 A C := ⟨h.1.trans k.1, k.2.1.trans h.2.1, k.2.2.1.trans h.2.2.1, k.2.2.2.trans h.2.2.2⟩

end Go.Proofs.Ytmjidhnlofpliab

/-
  Plain facts for what is taken apart and put together again: lists and numbers alone.
-/
namespace Go.Proofs.Ytmjidhnlofpliab
open Go.RowKit

end Go.Proofs.Ytmjidhnlofpliab

/-
  A block's symbols as numbers. No program is spoken of.
-/
namespace Go.Proofs.Ytmjidhnlofpliab

end Go.Proofs.Ytmjidhnlofpliab

/-
  Blocks that are sent, as numbers: which may be, what a tick makes of them. No function of the program is spoken of.
-/
namespace Go.Proofs.Ytmjidhnlofpliab
open Go.RowKit

end Go.Proofs.Ytmjidhnlofpliab

/-
  The end that sends, as numbers: which may be, what becomes of it by messages, ticks, acks. No function of the program is spoken of.
-/
namespace Go.Proofs.Ytmjidhnlofpliab
open Go.RowKit

/-- A block that is sent. -/
structure Em where
  eS : Int
  eR : Int
  eF : Int
  eA : Bool
  eB : List Int
/-- An end that sends: its configuration, closed, clock, refused calls, bad packets, messages, next block, base, ends, what waits. -/
structure Sn where
  sC : Cfg
  sX : Bool
  sK : Int
  sR : Int
  sB : Int
  sN : Int
  sT : Int
  sF : Int
  sE : List Int
  sW : List Em
def inN (n : Int) : Prop := 0 ≤ n ∧ n ≤ 1073741824
theorem satN_in (n m : Int) : inN (satN n m) := satN_bd n m
end Go.Proofs.Ytmjidhnlofpliab

/-
  What sched.pass tells, range by range: the segments of a pass, in order, each behind its place; as long as the package's table reads as it was laid.
-/
namespace Go.Proofs.Ytmjidhnlofpliab
open Go.RowKit Go.Shelf
attribute [local go_sem] Oper.semAt_some

end Go.Proofs.Ytmjidhnlofpliab

/-
  What the page's Bits and Nibbles answer, for every text in memory.
-/
namespace Go.Proofs.Ytmjidhnlofpliab
open Go.RowKit

end Go.Proofs.Ytmjidhnlofpliab
