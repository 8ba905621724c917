/-
  A block that is heard, in memory: how its symbols and its bytes lie. No function of the program is spoken of.
-/
import Derived.Test.YtmjidhnlofpliabM01
import Derived.Test.YtmjidhnlofpliabM07
import Derived.Test.YtmjidhnlofpliabM09
import Derived.Test.YtmjidhnlofpliabM11
import Derived.Test.YtmjidhnlofpliabM13
import Derived.Test.YtmjidhnlofpliabM15
import Derived.Test.YtmjidhnlofpliabM18
import Derived.Test.YtmjidhnlofpliabM19
import Derived.Test.YtmjidhnlofpliabM20
import Derived.Test.YtmjidhnlofpliabM23
import Derived.Test.YtmjidhnlofpliabM24
import Derived.Test.YtmjidhnlofpliabM25
import Derived.BigQuiet
import Derived.Deep.LoopGhost
import Derived.Deep.QuietTactic
import Derived.Deep.RegionWith
import Derived.Lib.MinMax
import Derived.OrdersHeld
import Derived.OrdersIn
import Derived.RangeFuncIn
import Derived.Scope
namespace Go.Proofs.Ytmjidhnlofpliab
open Go.RowKit

/-- It lies in W: its symbols at a, its bytes at b. -/
structure HearAt (W : World) (h : Hr) (a : Option Addr) (cap : Nat) (b : Option Addr) (bc : Nat) : Prop where
  syms : Syms W.heap.size W (.slice a h.hL.length cap) h.hL
  byts : Holds .u8 W.heap.size W (.slice b h.hB.length bc) h.hB
  lies : RowCap a h.hL.length cap
  fits : h.hB.length ≤ bc
  byte : ∀ z ∈ h.hB, 0 ≤ z ∧ z ≤ 255
theorem HearAt.next {W W' : World} {h : Hr} {a b : Option Addr} {cap bc : Nat} (H : HearAt W h a cap b bc) (k : Below W.heap.size W W') : HearAt W' h a cap b bc := ⟨H.syms.next k, H.byts.next k, H.lies, H.fits, H.byte⟩

/-- It lies in memory of the call's own. -/
structure OwnHear (base : Nat) (W : World) (h : Hr) (a : Option Addr) (cap : Nat) (b : Option Addr) (bc : Nat) : Prop where
  syms : W.ownsRow base 75 2 (.slice a h.hL.length cap) h.hL.length (symCells h.hL)
  byts : W.ownsRow base 5 1 (.slice b h.hB.length bc) h.hB.length (h.hB.map (Value.int .u8))
  byte : ∀ z ∈ h.hB, 0 ≤ z ∧ z ≤ 255
theorem row_cap1 {w : World} {base e n cap : Nat} {a : Option Addr} {xs : List Value} (h : w.ownsRow base e 1 (.slice a n cap) n xs) : n ≤ cap := by
  rcases h.2 with ⟨e, e0⟩ | ⟨g, c, cur, e, _, _, hc, _⟩
  · rw [e0]; exact Nat.zero_le _
  · cases e; exact hc
theorem OwnHear.at {base : Nat} {W : World} {h : Hr} {a b : Option Addr} {cap bc : Nat} (H : OwnHear base W h a cap b bc) : HearAt W h a cap b bc := ⟨syms_of_row H.syms, holds_of_row H.byts, rowCap_of H.syms, row_cap1 H.byts, H.byte⟩
theorem OwnHear.next {base n₀ : Nat} {W W' : World} {h : Hr} {a b : Option Addr} {cap bc : Nat} (H : OwnHear base W h a cap b bc) (k : Below n₀ W W') (hn : W.heap.size ≤ n₀) : OwnHear base W' h a cap b bc := ⟨symRow_below H.syms k hn, row_below H.byts k hn, H.byte⟩
theorem OwnHear.base {base base' : Nat} {W : World} {h : Hr} {a b : Option Addr} {cap bc : Nat} (H : OwnHear base W h a cap b bc) (hb : base' ≤ base) : OwnHear base' W h a cap b bc := ⟨symRow_base H.syms hb, row_base H.byts hb, H.byte⟩
theorem ownHear_new (base : Nat) (W : World) (c : Cfg) (s : Int) : OwnHear base W (newH c s) none 0 none 0 := ⟨⟨rfl, .inl ⟨rfl, rfl⟩⟩, ⟨rfl, .inl ⟨rfl, rfl⟩⟩, fun z hz => by cases hz⟩

end Go.Proofs.Ytmjidhnlofpliab

/-
  Blocks that are heard, as numbers: by the first passes of a round; how long piles become. No function of the program is spoken of.
-/
namespace Go.Proofs.Ytmjidhnlofpliab
open Go.RowKit

/-- How many of the places from k on, m of them, lie from a on, below b. -/
def within (a b k : Int) : Nat → Nat
  | 0 => 0
  | m + 1 => within a b k m + (if a ≤ k + (m : Int) ∧ k + (m : Int) < b then 1 else 0)
end Go.Proofs.Ytmjidhnlofpliab

/-
  Blocks that are heard, as numbers: of a block's own symbols. No function of the program is spoken of.
-/
namespace Go.Proofs.Ytmjidhnlofpliab
open Go.RowKit

end Go.Proofs.Ytmjidhnlofpliab

/-
  The end that receives, as numbers: which may be, what becomes of it by packets, by receiving, by replies. No function of the program is spoken of.
-/
namespace Go.Proofs.Ytmjidhnlofpliab
open Go.RowKit

/-- An end that receives: its configuration, clock, bad packets, next block, messages that were put together, what is heard, what is open, what waits. -/
structure Rc where
  rC : Cfg
  rK : Int
  rB : Int
  rN : Int
  rT : Int
  rH : List Hr
  rJ : Jn
  rQ : List (List Int)
def okJ (j : Jn) : Prop := j.2.length ≤ 4096 ∧ (j.1 = false → j.2 = [])
/-- May it be? -/
structure okR (r : Rc) : Prop where
  conf : okC r.rC = true
  clock : inN r.rK
  bads : inN r.rB
  next : inN r.rN
  told : inN r.rT
  long : (r.rH.length : Int) = r.rC.cWin
  all : ∀ (i : Nat) (h : Hr), r.rH[i]? = some h → h.hS = r.rN + (i : Int) ∧ okH r.rC h
  join : okJ r.rJ
  room : (r.rQ.length : Int) ≤ r.rC.cQr
  msgs : ∀ m ∈ r.rQ, m.length ≤ 4096
def newR (c : Cfg) : Rc := ⟨c, 0, 0, 0, 0, (List.range c.cWin.toNat).map fun i : Nat => newH c (i : Int), (false, []), []⟩
theorem newR_ok {c : Cfg} (h : okC c = true) : okR (newR c) := by
  have hc := (okC_iff c).1 h
  have h0 : inN 0 := ⟨Int.le_refl _, by omega⟩
  exact
    { conf := h, clock := h0, bads := h0, next := h0, told := h0
      long := by
        show ((((List.range c.cWin.toNat).map fun i : Nat => newH c (i : Int)).length : Nat) : Int) = c.cWin
        rw [List.length_map, List.length_range]; omega
      all := fun i e hi => by
        have hi2 : ((List.range c.cWin.toNat).map fun i : Nat => newH c (i : Int))[i]? = some e := hi
        rw [List.getElem?_map] at hi2
        cases hg : (List.range c.cWin.toNat)[i]? with
        | none => rw [hg] at hi2; cases hi2
        | some k =>
          rw [hg] at hi2
          have hk : k = i := by have := List.getElem?_eq_some_iff.1 hg; simpa using this.2.symm
          have hi3 : newH c (k : Int) = e := by simpa using hi2
          rw [← hi3, hk]
          exact ⟨by show (i : Int) = 0 + (i : Int); omega, newH_ok h (by omega)⟩
      join := ⟨Nat.zero_le _, fun _ => rfl⟩
      room := by show ((0 : Nat) : Int) ≤ c.cQr; omega
      msgs := fun m hm => by cases hm }

def bitsR : List Hr → Nat
  | [] => 0
  | h :: t => (if h.hD = true then 1 else 0) + 2 * bitsR t
def replyR (r : Rc) : Rc := { r with rK := satN r.rK 1 }
def packR (r : Rc) : List Int := packA r.rN (bitsR r.rH : Int)
theorem replyR_ok {r : Rc} (ho : okR r) : okR (replyR r) := { ho with clock := satN_in _ _ }
theorem bitsR_lt : ∀ l : List Hr, bitsR l < 2 ^ l.length
  | [] => by simp [bitsR]
  | h :: t => by
    have := bitsR_lt t
    rw [bitsR, List.length_cons, Nat.pow_succ]
    split <;> omega
theorem bitsR_bd {r : Rc} (ho : okR r) : bitsR r.rH < 65536 := by
  have h1 := bitsR_lt r.rH
  have h2 := ho.long
  have h3 := ((okC_iff _).1 ho.conf).2.2.2.1
  have h4 : 2 ^ r.rH.length ≤ 2 ^ 16 := Nat.pow_le_pow_right (by omega) (by omega)
  omega
end Go.Proofs.Ytmjidhnlofpliab

/-
  Symbols that are put side by side, as numbers: in pieces; up to a round's end. No function of the program is spoken of.
-/
namespace Go.Proofs.Ytmjidhnlofpliab
open Go.RowKit

end Go.Proofs.Ytmjidhnlofpliab

/-
  What slices.Concat of two texts answers; data's isSeq, isCount.
-/
namespace Go.Proofs.Ytmjidhnlofpliab
open Go.RowKit

end Go.Proofs.Ytmjidhnlofpliab

/-
  What data's head and Make answer. (Written by tpl_datamake.py.)
-/
namespace Go.Proofs.Ytmjidhnlofpliab
open Go.RowKit

end Go.Proofs.Ytmjidhnlofpliab

/-
  What data's Make answers. (Written by tpl_datamake2.py.)
-/
namespace Go.Proofs.Ytmjidhnlofpliab
open Go.RowKit

end Go.Proofs.Ytmjidhnlofpliab

/-
  What pile.Put answers where the symbol is fresh; how the row lies: 3. (Written by tpl_pileput.py.)
-/
namespace Go.Proofs.Ytmjidhnlofpliab
open Go.RowKit

end Go.Proofs.Ytmjidhnlofpliab

/-
  What pile.Put answers of a right pile and numbers that may be. (Written by tpl_pileput.py.)
-/
namespace Go.Proofs.Ytmjidhnlofpliab
open Go.RowKit

end Go.Proofs.Ytmjidhnlofpliab

/-
  What the iterator of a node's children tells: the sixteen children, in order, each behind its nibble.
-/
namespace Go.Proofs.Ytmjidhnlofpliab
open Go.RowKit Go.Shelf
attribute [local go_sem] Oper.semAt_some

/-- What a round keeps: what lay below n₀, and the two boxes that the iterator reads. -/
def KpB (n₀ Bh Bp : Nat) (A B : World) : Prop := Below n₀ A B ∧ B.heap[Bh]? = A.heap[Bh]? ∧ B.heap[Bp]? = A.heap[Bp]?
theorem KpB.refl (n₀ Bh Bp : Nat) (A : World) : KpB n₀ Bh Bp A A := ⟨Below.refl _ _, rfl, rfl⟩
theorem KpB.trans {n₀ Bh Bp : Nat} {A B C : World} (h : KpB n₀ Bh Bp A B) (k : KpB n₀ Bh Bp B C) : KpB n₀ Bh Bp A C := ⟨h.1.trans k.1, k.2.1.trans h.2.1, k.2.2.trans h.2.2⟩
end Go.Proofs.Ytmjidhnlofpliab

/-
  What beam's least answers: the least metric so many depths further on, or what was found before. (It calls itself, out of a range over a function.)
-/
namespace Go.Proofs.Ytmjidhnlofpliab
open Go.RowKit Go.Shelf
attribute [local go_sem] Oper.semAt_some

end Go.Proofs.Ytmjidhnlofpliab

/-
  What beam's score answers; slices.Grow and Concat (of two) of numbers.
-/
namespace Go.Proofs.Ytmjidhnlofpliab
open Go.RowKit

end Go.Proofs.Ytmjidhnlofpliab

/-
  A region that draws its order, in a round of a loop over an iterator: what reads a cell that nobody of the region writes may be taken first. No program is spoken of.
-/
namespace Go.Proofs.Ytmjidhnlofpliab
open Go

section
variable {F : Fence} {n : Nat} {P : Program} {ops : Array Oper} {Q : Exit → Act → World → Prop} {md : Region.Mode} {S : World → Prop}

end

end Go.Proofs.Ytmjidhnlofpliab

/-
  What the iterator of all children of a list tells: each of them, in order, with its Score and a Path of its own.
-/
namespace Go.Proofs.Ytmjidhnlofpliab
open Go.RowKit Go.Shelf
attribute [local go_sem] Oper.semAt_some

def Marked (n₁ : Nat) (Ds : List Nat) (W : World) : Prop := Ds.Nodup ∧ ∀ D ∈ Ds, n₁ ≤ D ∧ W.heap[D]? = some (.deferred (some []))
theorem Marked.next {n₁ : Nat} {Ds : List Nat} {W W' : World} (h : Marked n₁ Ds W) (hh : ∀ D ∈ Ds, W'.heap[D]? = W.heap[D]?) : Marked n₁ Ds W' := ⟨h.1, fun D hD => ⟨(h.2 D hD).1, (hh D hD).trans (h.2 D hD).2⟩⟩
theorem Marked.lt {n₁ : Nat} {Ds : List Nat} {W : World} (h : Marked n₁ Ds W) : ∀ D ∈ Ds, D < W.heap.size := fun D hD => (Array.getElem?_eq_some_iff.1 (h.2 D hD).2).1
theorem Marked.cons {n₁ D : Nat} {Ds : List Nat} {W : World} (h : Marked n₁ Ds W) (hD : W.heap[D]? = some (.deferred (some []))) (hn : n₁ ≤ D) (hne : D ∉ Ds) : Marked n₁ (D :: Ds) W :=
  ⟨List.nodup_cons.2 ⟨hne, h.1⟩, fun E hE => by
    rcases List.mem_cons.1 hE with rfl | hE
    · exact ⟨hn, hD⟩
    · exact h.2 E hE⟩
end Go.Proofs.Ytmjidhnlofpliab

/-
  What the iterator of all children of a list tells, walked. (Written by tpl_beamnodes.py.)
-/
namespace Go.Proofs.Ytmjidhnlofpliab
open Go.RowKit Go.Shelf
attribute [local go_sem] Oper.semAt_some

end Go.Proofs.Ytmjidhnlofpliab

/-
  What beam's allChildren answers: all children of a list, with their Scores.
-/
namespace Go.Proofs.Ytmjidhnlofpliab
open Go.RowKit Go.Shelf
attribute [local go_sem] Oper.semAt_some

theorem OwnRns.base {b b' : Nat} {W : World} {r : List Rn} {l : List Nd} (h : OwnRns b W r l) (hb : b' ≤ b) : OwnRns b' W r l := ⟨h.1, fun j x y hx hy => by obtain ⟨h1, h2, h3, h4⟩ := h.2.1 j x y hx hy; exact ⟨h1, h2, h3, rowN_base h4 hb⟩, h.2.2⟩
end Go.Proofs.Ytmjidhnlofpliab

/-
  What beam.Walk answers: the list at the end of the walk, and the cut.
-/
namespace Go.Proofs.Ytmjidhnlofpliab
open Go.RowKit

/-- The slice v holds these nodes; no path is longer than its room. -/
def NodesC (n₀ : Nat) (W : World) (v : Value) (l : List Nd) : Prop := ∃ r, Raw n₀ W v r ∧ RnsOf n₀ W r l ∧ ∀ x ∈ r, ∃ a n c, x.2.2.2 = Value.slice a n c ∧ n ≤ c
theorem NodesC.nodes {n₀ : Nat} {W : World} {v : Value} {l : List Nd} (h : NodesC n₀ W v l) : Nodes n₀ W v l := by obtain ⟨r, h1, h2, _⟩ := h; exact ⟨r, h1, h2⟩
theorem NodesC.next {W W' : World} {v : Value} {l : List Nd} (h : NodesC W.heap.size W v l) (hb : Below W.heap.size W W') : NodesC W'.heap.size W' v l := by obtain ⟨r, h1, h2, h3⟩ := h; exact ⟨r, (h1.below hb).mono hb.size, (h2.below hb).mono hb.size, h3⟩
theorem NodesC.cap {n₀ : Nat} {W : World} {v : Value} {l : List Nd} (h : NodesC n₀ W v l) {n cap : Nat} {a : Option Addr} (hv : v = .slice a n cap) (hl : l.length = n) (h0 : 0 < n) : ∃ b off, a = some ⟨b, off, none⟩ ∧ ∀ (j : Nat) (y : Nd), l[j]? = some y →
      ∃ pa pc, y.2.2.2.length ≤ pc ∧ Holds .i64 n₀ W (.slice pa y.2.2.2.length pc) y.2.2.2 ∧ W.cell? ⟨b, off + j * 4 + 1, none⟩ = some (.int .i64 y.2.1) ∧ W.cell? ⟨b, off + j * 4 + 3, none⟩ = some (.slice pa y.2.2.2.length pc) := by
  obtain ⟨r, h1, h2, h3⟩ := h
  subst hv
  obtain ⟨b, off, rfl, _, hc⟩ := raw_at h1 (h2.1.trans hl) h0
  refine ⟨b, off, rfl, fun j y hy => ?_⟩
  obtain ⟨p, hp, hh⟩ := h2.get hy
  obtain ⟨pa, pn, pc, e, hle⟩ := h3 _ (List.mem_of_getElem? hp)
  obtain ⟨pa', pc', e'⟩ := hh.shape
  have e'' : p = .slice pa pn pc := e
  have hcc := hc j _ hp
  rw [e'] at hh hcc
  rw [e'] at e''
  cases e''
  exact ⟨_, _, hle, hh, hcc.2.1, hcc.2.2.2⟩

end Go.Proofs.Ytmjidhnlofpliab

/-
  What beam.isTie and beam.Decode answer. (Written by tpl_beamdecode.py.)
-/
namespace Go.Proofs.Ytmjidhnlofpliab
open Go.RowKit

end Go.Proofs.Ytmjidhnlofpliab

/-
  What bit.Join answers, for every row of numbers: refused, if too long or not even (2), or if one is not from 0 to 15 (1); else the bytes, in new memory.
-/
namespace Go.Proofs.Ytmjidhnlofpliab
open Go.RowKit Go.Shelf
attribute [local go_sem] Oper.semAt_some

end Go.Proofs.Ytmjidhnlofpliab

/-
  What package hear answers (isBlock, isRightBytes, isRightPile, Check, New, apart, putAll, tell, Take). (Written by tpl_hearcode.py.)
-/
namespace Go.Proofs.Ytmjidhnlofpliab
open Go.RowKit

theorem below_set7c {W V : World} {n : Nat} (h : Below n W V) {D : Nat} (hD : n ≤ D) (a b c d e f g : Value) : Below n W (((((((V.setCell ⟨D, 0, none⟩ a).setCell ⟨D, 1, none⟩ b).setCell ⟨D, 2, none⟩ c).setCell ⟨D, 3, none⟩ d).setCell ⟨D, 4, none⟩ e).setCell ⟨D, 5, none⟩ f).setCell ⟨D, 6, none⟩ g) := ((((((h.setCell (p := ⟨D, 0, none⟩) hD a).setCell (p := ⟨D, 1, none⟩) hD b).setCell (p := ⟨D, 2, none⟩) hD c).setCell (p := ⟨D, 3, none⟩) hD d).setCell (p := ⟨D, 4, none⟩) hD e).setCell (p := ⟨D, 5, none⟩) hD f).setCell (p := ⟨D, 6, none⟩) hD g
theorem pre2 (w : World) (ca : Array Value) (ta : TypeId) (cb : Array Value) (tb : TypeId) : Below w.heap.size w ((w.alloc (.cells ca ta)).alloc (.cells cb tb)) ∧ Box ((w.alloc (.cells ca ta)).alloc (.cells cb tb)) w.heap.size ta ca ∧ Box ((w.alloc (.cells ca ta)).alloc (.cells cb tb)) (w.heap.size + 1) tb cb := by
  refine ⟨((Below.refl w.heap.size w).alloc (Nat.le_refl _) _).alloc (by simp) _, (Box.new w ta ca).alloc _, ?_⟩
  have x := Box.new (w.alloc (.cells ca ta)) tb cb
  rwa [show (w.alloc (.cells ca ta)).heap.size = w.heap.size + 1 by simp] at x
theorem blockB_badC {c : Cfg} (hC : okC c = true) {zs : List Int} {e s : Int} (h : badB c.cB zs e) : blockB c s zs = false := by
  rw [← Bool.not_eq_true, blockB_iff]
  rintro ⟨h1, h2, h3, _⟩
  have hb := ((okC_iff c).1 hC).1
  rcases h with ⟨h, _⟩ | ⟨_, h, _⟩ | ⟨_, _, h, _⟩ | ⟨_, _, _, h, _⟩
  · rw [(bSize_iff c.cB).2 (by omega)] at h; cases h
  · exact h h1
  · rw [h2] at h; cases h
  · exact h h3
theorem blockB_goodC {c : Cfg} {zs : List Int} {Z : Nat} {s : Int} (hZ : c.cB = (Z : Int)) (hl : zs.length = Z + 10) (hs : isSealed zs = true) (hr : readOk Z zs) : blockB c s zs = (rdS zs == s) := by
  rw [Bool.eq_iff_iff, blockB_iff, beq_iff_eq]
  exact ⟨fun h => h.2.2.2, fun h => ⟨by omega, hs, by rw [hZ]; simpa using hr, h⟩⟩
def rbH (c : Cfg) (h : Hr) : Bool := if h.hD then blockB c h.hS h.hB else decide (h.hB.length = 0)
def rpH (c : Cfg) (h : Hr) : Prop := PileOk h.hN h.hP h.hL ∧ h.hN = segsC c ∧ h.hP = c.cPass ∧ (h.hR = -1 → h.hL.length = 0)
theorem okH_parts {c : Cfg} {h : Hr} : okH c h ↔ 0 ≤ h.hS ∧ -1 ≤ h.hR ∧ h.hR ≤ 255 ∧ rpH c h ∧ rbH c h = true := by
  unfold okH rpH rbH
  cases h.hD <;> simp only [List.length_eq_zero_iff, if_true, Bool.false_eq_true, if_false, decide_eq_true_eq, true_implies, false_implies] <;> constructor
  · rintro ⟨a, ⟨b, c⟩, d, e, f, g, _, h⟩; exact ⟨a, b, c, ⟨d, e, f, g⟩, h⟩
  · rintro ⟨a, b, c, ⟨d, e, f, g⟩, h⟩; exact ⟨a, ⟨b, c⟩, d, e, f, g, trivial, h⟩
  · rintro ⟨a, ⟨b, c⟩, d, e, f, g, h, _⟩; exact ⟨a, b, c, ⟨d, e, f, g⟩, h⟩
  · rintro ⟨a, b, c, ⟨d, e, f, g⟩, h⟩; exact ⟨a, ⟨b, c⟩, d, e, f, g, h, fun e => by cases e⟩

set_option maxRecDepth 100000 in
set_option maxHeartbeats 2000000 in
theorem cloneB_ok (a : Option Addr) (cap : Nat) (zs : List Int) (hl : zs.length ≤ 4096) (w : World) (ha : Holds .u8 w.heap.size w (.slice a zs.length cap) zs) :
    Calls Try.prog 33 #[.slice a zs.length cap] w fun e W' => ∃ r, e = .returned r ∧ W'.ownsRow w.heap.size 5 1 r zs.length (zs.map (Value.int .u8)) ∧ Below w.heap.size w W' := by
  have qS : ∀ (w : World) (a : Option Addr) (n c n' c' : Nat), (binOp .eql 26 (.slice a n c) (.slice none n' c')).run Try.prog w = .ok (.bool a.isNone) w := fun w a n c n' c' => Lib.run_eql_slice_nil w _ _ a n c n' c' Try.underlying26
  cases a with
  | none =>
    have h0 : zs = [] := by
      rcases ha with ⟨_, h⟩ | ⟨b, off, c, e, _⟩
      · exact h
      · simp only [Value.slice.injEq] at e; exact absurd e.1 (by simp)
    subst h0
    clear ha
    go_enter Try.func33, Try.ntmps33
    go_wp2
    go_ret
    exact ⟨_, rfl, World.ownsRow_nil _ _ _ _, Below.refl _ _⟩
  | some ad =>
    have o0 : (w.alloc (.cells #[] 5)).ownsRow w.heap.size 5 1 (.slice (some ⟨w.heap.size, 0, none⟩) 0 0) 0 (([] : List Int).map (Value.int .u8)) := World.ownsRow_made w #[] 0 (Nat.le_refl _) (Nat.zero_le _) rfl
    have b0 := (Below.refl w.heap.size w).alloc (Nat.le_refl _) (.cells #[] 5)
    obtain ⟨v3, w3, hr3, ho3, hg3⟩ := run_append_u8 (.slice (some ⟨w.heap.size, 0, none⟩) 0 0) (.slice (some ad) zs.length cap) 0 w.heap.size _ [] zs 26 (w.alloc (.cells #[] 5)) o0 (ha.below b0) (by simp) (by omega) (by omega)
    have b3 := b0.trans ((Below.refl w.heap.size _).grown hg3 (by simp) (fun q e => (o0.lt q e).1))
    have HR3 : Hid _ := hr3
    clear hr3 ha o0 hg3
    go_enter Try.func33, Try.ntmps33
    go_wp2_with (at_builtin; refine wpList_append_known rfl _ _ 26 rfl _ _ rfl rfl _ _ HR3.out ?_)
    go_ret
    refine ⟨_, rfl, ?_, b3⟩
    simpa using ho3

set_option maxRecDepth 100000 in
set_option maxHeartbeats 2000000 in
theorem isBlock_any (c : Cfg) (hC : okC c = true) (s : Int) (b : Option Addr) (bc : Nat) (zs : List Int) (hl : zs.length ≤ 4096) (hc : zs.length ≤ bc) (bz : ∀ z ∈ zs, 0 ≤ z ∧ z ≤ 255) (w : World) (hb : Holds .u8 w.heap.size w (.slice b zs.length bc) zs) :
    Calls Try.prog 77 #[.agg #[.int .i64 c.cB, .int .i64 c.cBeam, .int .i64 c.cDepth, .int .i64 c.cWin, .int .i64 c.cQs, .int .i64 c.cQr, .int .i64 c.cBatch, .int .i64 c.cPass, .int .i64 c.cMsg, .int .i64 c.cSeqs], .int .i64 s, .slice b zs.length bc] w fun e w' => e = .returned (.bool (blockB c s zs)) ∧ Below w.heap.size w w' := by
  have b1 := (Below.refl w.heap.size w).alloc (Nat.le_refl _) (.cells #[.int .i64 c.cB, .int .i64 c.cBeam, .int .i64 c.cDepth, .int .i64 c.cWin, .int .i64 c.cQs, .int .i64 c.cQr, .int .i64 c.cBatch, .int .i64 c.cPass, .int .i64 c.cMsg, .int .i64 c.cSeqs] 23)
  rcases read_cases c.cB zs with ⟨er, he, hbad⟩ | ⟨Z, hZ, hZ1, hZ2, hlz, hs, hr⟩
  · have HR := Read_no c.cB b bc zs hl hc bz er hbad (w.alloc (.cells #[.int .i64 c.cB, .int .i64 c.cBeam, .int .i64 c.cDepth, .int .i64 c.cWin, .int .i64 c.cQs, .int .i64 c.cQr, .int .i64 c.cBatch, .int .i64 c.cPass, .int .i64 c.cMsg, .int .i64 c.cSeqs] 23)) (hb.next b1)
    have d0 : (er == 0) = false := by rw [beq_eq_false_iff_ne]; omega
    rw [blockB_badC hC hbad]
    clear hbad he hb hC
    go_enter Try.func77, Try.ntmps77
    go_wp2_with fail
    refine HR.mono ?_
    rintro e w2 ⟨rfl, b2⟩
    have b3 := b1.trans (b2.mono b1.size)
    clear b1 b2 HR
    go_wp2
    go_ret
    exact ⟨rfl, b3.alloc b3.size _⟩
  · have HR := Read_ok Z hZ1 hZ2 b bc zs hlz hc bz hs hr (w.alloc (.cells #[.int .i64 c.cB, .int .i64 c.cBeam, .int .i64 c.cDepth, .int .i64 c.cWin, .int .i64 c.cQs, .int .i64 c.cQr, .int .i64 c.cBatch, .int .i64 c.cPass, .int .i64 c.cMsg, .int .i64 c.cSeqs] 23)) (hb.next b1)
    rw [blockB_goodC hZ hlz hs hr]
    rw [← hZ] at HR
    clear hZ hlz hs hr hb hC
    go_enter Try.func77, Try.ntmps77
    go_wp2_with fail
    refine HR.mono ?_
    rintro e w2 ⟨ra, rc, rfl, _, b2⟩
    have b3 := b1.trans (b2.mono b1.size)
    clear b1 b2 HR
    go_wp2
    go_ret
    exact ⟨rfl, b3.alloc b3.size _⟩

set_option maxRecDepth 100000 in
set_option maxHeartbeats 2000000 in
theorem isRightBytes_true (c : Cfg) (hC : okC c = true) (h : Hr) (a b : Option Addr) (cap bc : Nat) (hd : h.hD = true) (hb : h.hB.length ≤ 4096) (w : World) (ha : HearAt w h a cap b bc) :
    Calls Try.prog 72 #[.agg #[.int .i64 c.cB, .int .i64 c.cBeam, .int .i64 c.cDepth, .int .i64 c.cWin, .int .i64 c.cQs, .int .i64 c.cQr, .int .i64 c.cBatch, .int .i64 c.cPass, .int .i64 c.cMsg, .int .i64 c.cSeqs], .agg #[.int .i64 h.hS, .int .i64 h.hR, .int .i64 h.hN, .int .i64 h.hP, .slice a h.hL.length cap, .bool h.hD, .slice b h.hB.length bc]] w fun e w' => e = .returned (.bool (rbH c h)) ∧ Below w.heap.size w w' := by
  unfold rbH
  rw [hd]
  obtain ⟨b1, xC, xH⟩ := pre2 w #[.int .i64 c.cB, .int .i64 c.cBeam, .int .i64 c.cDepth, .int .i64 c.cWin, .int .i64 c.cQs, .int .i64 c.cQr, .int .i64 c.cBatch, .int .i64 c.cPass, .int .i64 c.cMsg, .int .i64 c.cSeqs] 23 #[.int .i64 h.hS, .int .i64 h.hR, .int .i64 h.hN, .int .i64 h.hP, .slice a h.hL.length cap, .bool true, .slice b h.hB.length bc] 46
  have HI := isBlock_any c hC h.hS b bc h.hB hb ha.fits ha.byte _ (ha.next b1).byts
  rw [if_pos rfl]
  clear hd hb ha hC
  have k0 := xC.cell 0 _ rfl
  have k1 := xC.cell 1 _ rfl
  have k2 := xC.cell 2 _ rfl
  have k3 := xC.cell 3 _ rfl
  have k4 := xC.cell 4 _ rfl
  have k5 := xC.cell 5 _ rfl
  have k6 := xC.cell 6 _ rfl
  have k7 := xC.cell 7 _ rfl
  have k8 := xC.cell 8 _ rfl
  have k9 := xC.cell 9 _ rfl
  have m0 := xH.cell 0 _ rfl
  have m1 := xH.cell 1 _ rfl
  have m2 := xH.cell 2 _ rfl
  have m3 := xH.cell 3 _ rfl
  have m4 := xH.cell 4 _ rfl
  have m5 := xH.cell 5 _ rfl
  have m6 := xH.cell 6 _ rfl
  go_enter Try.func72, Try.ntmps72
  go_wp2_with fail
  refine HI.mono ?_
  rintro e w2 ⟨rfl, b2⟩
  go_wp2
  go_ret
  exact ⟨rfl, b1.trans (b2.mono b1.size)⟩

set_option maxRecDepth 100000 in
set_option maxHeartbeats 2000000 in
theorem isRightBytes_false (c : Cfg) (_hC : okC c = true) (h : Hr) (a b : Option Addr) (cap bc : Nat) (hd : h.hD = false) (_hb : h.hB.length ≤ 4096) (w : World) (_ha : HearAt w h a cap b bc) :
    Calls Try.prog 72 #[.agg #[.int .i64 c.cB, .int .i64 c.cBeam, .int .i64 c.cDepth, .int .i64 c.cWin, .int .i64 c.cQs, .int .i64 c.cQr, .int .i64 c.cBatch, .int .i64 c.cPass, .int .i64 c.cMsg, .int .i64 c.cSeqs], .agg #[.int .i64 h.hS, .int .i64 h.hR, .int .i64 h.hN, .int .i64 h.hP, .slice a h.hL.length cap, .bool h.hD, .slice b h.hB.length bc]] w fun e w' => e = .returned (.bool (rbH c h)) ∧ Below w.heap.size w w' := by
  unfold rbH
  rw [hd]
  obtain ⟨b1, xC, xH⟩ := pre2 w #[.int .i64 c.cB, .int .i64 c.cBeam, .int .i64 c.cDepth, .int .i64 c.cWin, .int .i64 c.cQs, .int .i64 c.cQr, .int .i64 c.cBatch, .int .i64 c.cPass, .int .i64 c.cMsg, .int .i64 c.cSeqs] 23 #[.int .i64 h.hS, .int .i64 h.hR, .int .i64 h.hN, .int .i64 h.hP, .slice a h.hL.length cap, .bool false, .slice b h.hB.length bc] 46
  rw [if_neg (by simp)]
  clear hd
  generalize h.hB.length = nb at *
  have m0 := xH.cell 0 _ rfl
  have m1 := xH.cell 1 _ rfl
  have m2 := xH.cell 2 _ rfl
  have m3 := xH.cell 3 _ rfl
  have m4 := xH.cell 4 _ rfl
  have m5 := xH.cell 5 _ rfl
  have m6 := xH.cell 6 _ rfl
  by_cases hz : nb = 0
  · subst hz
    go_enter Try.func72, Try.ntmps72
    go_wp2
    go_ret
    exact ⟨rfl, b1⟩
  · have d1 : ((nb : Int) == 0) = false := by rw [beq_eq_false_iff_ne]; omega
    have d2 : (nb == 0) = false := by rw [beq_eq_false_iff_ne]; exact hz
    rw [decide_eq_false hz]
    go_enter Try.func72, Try.ntmps72
    go_wp2
    go_ret
    exact ⟨rfl, b1⟩

theorem isRightBytes_any (c : Cfg) (hC : okC c = true) (h : Hr) (a b : Option Addr) (cap bc : Nat) (hb : h.hB.length ≤ 4096) (w : World) (ha : HearAt w h a cap b bc) :
    Calls Try.prog 72 #[.agg #[.int .i64 c.cB, .int .i64 c.cBeam, .int .i64 c.cDepth, .int .i64 c.cWin, .int .i64 c.cQs, .int .i64 c.cQr, .int .i64 c.cBatch, .int .i64 c.cPass, .int .i64 c.cMsg, .int .i64 c.cSeqs], .agg #[.int .i64 h.hS, .int .i64 h.hR, .int .i64 h.hN, .int .i64 h.hP, .slice a h.hL.length cap, .bool h.hD, .slice b h.hB.length bc]] w fun e w' => e = .returned (.bool (rbH c h)) ∧ Below w.heap.size w w' := by
  cases hd : h.hD with
  | true => have := isRightBytes_true c hC h a b cap bc hd hb w ha; rwa [hd] at this
  | false => have := isRightBytes_false c hC h a b cap bc hd hb w ha; rwa [hd] at this

set_option maxRecDepth 100000 in
set_option maxHeartbeats 4000000 in
theorem isRightPile_a (c : Cfg) (hC : okC c = true) (h : Hr) (a b : Option Addr) (cap bc : Nat) (hl : h.hL.length ≤ 4294967296) (hp : ¬ PileOk h.hN h.hP h.hL) (w : World) (ha : HearAt w h a cap b bc) :
    Calls Try.prog 71 #[.agg #[.int .i64 c.cB, .int .i64 c.cBeam, .int .i64 c.cDepth, .int .i64 c.cWin, .int .i64 c.cQs, .int .i64 c.cQr, .int .i64 c.cBatch, .int .i64 c.cPass, .int .i64 c.cMsg, .int .i64 c.cSeqs], .agg #[.int .i64 h.hS, .int .i64 h.hR, .int .i64 h.hN, .int .i64 h.hP, .slice a h.hL.length cap, .bool h.hD, .slice b h.hB.length bc]] w fun e w' => e = .returned (.bool false) ∧ Below w.heap.size w w' := by
  obtain ⟨b1, xC, xH⟩ := pre2 w #[.int .i64 c.cB, .int .i64 c.cBeam, .int .i64 c.cDepth, .int .i64 c.cWin, .int .i64 c.cQs, .int .i64 c.cQr, .int .i64 c.cBatch, .int .i64 c.cPass, .int .i64 c.cMsg, .int .i64 c.cSeqs] 23 #[.int .i64 h.hS, .int .i64 h.hR, .int .i64 h.hN, .int .i64 h.hP, .slice a h.hL.length cap, .bool h.hD, .slice b h.hB.length bc] 46
  obtain ⟨W1, hW1⟩ : ∃ W, (w.alloc (.cells #[.int .i64 c.cB, .int .i64 c.cBeam, .int .i64 c.cDepth, .int .i64 c.cWin, .int .i64 c.cQs, .int .i64 c.cQr, .int .i64 c.cBatch, .int .i64 c.cPass, .int .i64 c.cMsg, .int .i64 c.cSeqs] 23)).alloc (.cells #[.int .i64 h.hS, .int .i64 h.hR, .int .i64 h.hN, .int .i64 h.hP, .slice a h.hL.length cap, .bool h.hD, .slice b h.hB.length bc] 46) = W := ⟨_, rfl⟩
  have hz1 : w.heap.size ≤ W1.heap.size := by rw [← hW1]; exact b1.size
  have hltC : w.heap.size < W1.heap.size := hW1 ▸ xC.lt
  have hltH : w.heap.size + 1 < W1.heap.size := hW1 ▸ xH.lt
  have k0 : Hid (W1.cell? ⟨w.heap.size, 0, none⟩ = some (.int .i64 c.cB)) := hW1 ▸ xC.cell 0 _ rfl
  have k1 : Hid (W1.cell? ⟨w.heap.size, 1, none⟩ = some (.int .i64 c.cBeam)) := hW1 ▸ xC.cell 1 _ rfl
  have k2 : Hid (W1.cell? ⟨w.heap.size, 2, none⟩ = some (.int .i64 c.cDepth)) := hW1 ▸ xC.cell 2 _ rfl
  have k3 : Hid (W1.cell? ⟨w.heap.size, 3, none⟩ = some (.int .i64 c.cWin)) := hW1 ▸ xC.cell 3 _ rfl
  have k4 : Hid (W1.cell? ⟨w.heap.size, 4, none⟩ = some (.int .i64 c.cQs)) := hW1 ▸ xC.cell 4 _ rfl
  have k5 : Hid (W1.cell? ⟨w.heap.size, 5, none⟩ = some (.int .i64 c.cQr)) := hW1 ▸ xC.cell 5 _ rfl
  have k6 : Hid (W1.cell? ⟨w.heap.size, 6, none⟩ = some (.int .i64 c.cBatch)) := hW1 ▸ xC.cell 6 _ rfl
  have k7 : Hid (W1.cell? ⟨w.heap.size, 7, none⟩ = some (.int .i64 c.cPass)) := hW1 ▸ xC.cell 7 _ rfl
  have k8 : Hid (W1.cell? ⟨w.heap.size, 8, none⟩ = some (.int .i64 c.cMsg)) := hW1 ▸ xC.cell 8 _ rfl
  have k9 : Hid (W1.cell? ⟨w.heap.size, 9, none⟩ = some (.int .i64 c.cSeqs)) := hW1 ▸ xC.cell 9 _ rfl
  have m0 : Hid (W1.cell? ⟨w.heap.size + 1, 0, none⟩ = some (.int .i64 h.hS)) := hW1 ▸ xH.cell 0 _ rfl
  have m1 : Hid (W1.cell? ⟨w.heap.size + 1, 1, none⟩ = some (.int .i64 h.hR)) := hW1 ▸ xH.cell 1 _ rfl
  have m2 : Hid (W1.cell? ⟨w.heap.size + 1, 2, none⟩ = some (.int .i64 h.hN)) := hW1 ▸ xH.cell 2 _ rfl
  have m3 : Hid (W1.cell? ⟨w.heap.size + 1, 3, none⟩ = some (.int .i64 h.hP)) := hW1 ▸ xH.cell 3 _ rfl
  have m4 : Hid (W1.cell? ⟨w.heap.size + 1, 4, none⟩ = some (.slice a h.hL.length cap)) := hW1 ▸ xH.cell 4 _ rfl
  have m5 : Hid (W1.cell? ⟨w.heap.size + 1, 5, none⟩ = some (.bool h.hD)) := hW1 ▸ xH.cell 5 _ rfl
  have m6 : Hid (W1.cell? ⟨w.heap.size + 1, 6, none⟩ = some (.slice b h.hB.length bc)) := hW1 ▸ xH.cell 6 _ rfl
  have hA1 : HearAt W1 h a cap b bc := hW1 ▸ ha.next b1
  have HPC : Hid (∀ wx : World, Below W1.heap.size W1 wx → Calls Try.prog 47 #[.agg #[.int .i64 h.hN, .int .i64 h.hP, .slice a h.hL.length cap]] wx fun e w' => e = .returned (.int .i64 1) ∧ Below W1.heap.size W1 w') := fun wx hw => (Check_no h.hN h.hP a cap h.hL hl hp wx (hA1.next hw).syms).mono fun e w' ⟨h, b⟩ => ⟨h, hw.trans (b.mono hw.size)⟩
  have HSG : Hid (∀ wx : World, Below W1.heap.size W1 wx → Calls Try.prog 26 #[.agg #[.int .i64 c.cB, .int .i64 c.cBeam, .int .i64 c.cDepth, .int .i64 c.cWin, .int .i64 c.cQs, .int .i64 c.cQr, .int .i64 c.cBatch, .int .i64 c.cPass, .int .i64 c.cMsg, .int .i64 c.cSeqs]] wx fun e w' => e = .returned (.int .i64 (segsC c)) ∧ Below W1.heap.size W1 w') := fun wx hw => by
    have := ConfSegs_any c wx
    unfold segsA at this
    rw [if_pos hC] at this
    exact this.mono fun e w' ⟨h, b⟩ => ⟨h, hw.trans (b.mono hw.size)⟩
  replace b1 : Below w.heap.size w W1 := hW1 ▸ b1
  clear xC xH ha hA1 hl hp hC
  go_enter Try.func71, Try.ntmps71
  go_upto_region 1 with fail
  try rw [hW1]
  clear hW1
  refine wp_region_held_drew (S := fun w' => Below W1.heap.size W1 w') (by kernel_rfl) ((Below.refl _ _).drew) (fun hHeld => ?_)
  refine ht0 0 5 (v := ?v1) (fun _ => ?y1) hHeld ?_
  case y1 => go_simp; with_reducible rfl
  simp only [sn]
  refine ht 1 6 (v := ?v2) (fun _ hSw => ?y2) hHeld ?_
  case y2 => have q0 := hSw.at m2.out hltH; have q1 := hSw.at m3.out hltH; have q2 := hSw.at m4.out hltH; clear hSw; go_simp; with_reducible rfl
  simp only [sn]
  refine wpAnyH_ready (rs := [2]) (by kernel_rfl) (by simp) ?_
  refine AllReadyH.cons rfl (fun K hK => ?_) AllReadyH.nil
  go_simp
  go_wp2_with (go_at_call 47; refine (HPC.out _ (by exact hHeld)).mono ?_; rintro e wb ⟨rfl, b8⟩)
  refine hK.out _ _ (b8) (fun hHeld => ?_)
  clear hK K
  refine ht0 3 8 (v := ?v3) (fun _ => ?y3) hHeld ?_
  case y3 => go_simp; with_reducible rfl
  simp only [sn]
  refine ht0 4 9 (v := ?v4) (fun _ => ?y4) hHeld ?_
  case y4 => go_simp; with_reducible rfl
  simp only [sn]
  refine hu 5 10 hHeld ?_
  simp only [sn]
  refine hu 6 11 hHeld ?_
  simp only [sn]
  refine hu 7 12 hHeld ?_
  simp only [sn]
  refine hu 8 13 hHeld ?_
  simp only [sn]
  refine hu 9 14 hHeld ?_
  simp only [sn]
  refine hu 10 15 hHeld ?_
  simp only [sn]
  refine ht0 11 16 (v := ?v5) (fun _ => ?y5) hHeld ?_
  case y5 => go_simp; with_reducible rfl
  simp only [sn]
  refine ht0 12 17 (v := ?v6) (fun _ => ?y6) hHeld ?_
  case y6 => go_simp; with_reducible rfl
  simp only [sn]
  refine hu 13 18 hHeld ?_
  simp only [sn]
  refine hu 14 19 hHeld ?_
  simp only [sn]
  refine hu 15 20 hHeld ?_
  simp only [sn]
  refine hu 16 21 hHeld ?_
  simp only [sn]
  refine hu 17 22 hHeld ?_
  simp only [sn]
  refine hu 18 23 hHeld ?_
  simp only [sn]
  refine ht0 19 24 (v := ?v7) (fun _ => ?y7) hHeld ?_
  case y7 => go_simp; with_reducible rfl
  simp only [sn]
  refine ht0 20 25 (v := ?v8) (fun _ => ?y8) hHeld ?_
  case y8 => go_simp; with_reducible rfl
  simp only [sn]
  refine hu 21 26 hHeld ?_
  simp only [sn]
  refine hu 22 27 hHeld ?_
  simp only [sn]
  refine hu 23 28 hHeld ?_
  simp only [sn]
  refine hu 24 29 hHeld ?_
  simp only [sn]
  refine hu 25 30 hHeld ?_
  simp only [sn]
  refine hu 26 31 hHeld ?_
  simp only [sn]
  refine hu 27 32 hHeld ?_
  simp only [sn]
  refine hu 28 33 hHeld ?_
  simp only [sn]
  refine hu 29 34 hHeld ?_
  simp only [sn]
  refine hu 30 35 hHeld ?_
  simp only [sn]
  refine ht0 31 36 (v := ?v9) (fun _ => ?y9) hHeld ?_
  case y9 => go_simp; with_reducible rfl
  simp only [sn]
  refine wpAnyH_ready (rs := [32]) (by kernel_rfl) (by simp) ?_
  refine AllReadyH.cons rfl (fun K hK => ?_) AllReadyH.nil
  go_simp
  refine hK.out _ _ hHeld (fun hHeld => ?_)
  clear hK K
  refine wpAnyH_done (by kernel_rfl) ?_ _
  go_wp2
  go_ret
  exact ⟨rfl, b1.trans (hHeld.mono hz1)⟩

set_option maxRecDepth 100000 in
set_option maxHeartbeats 4000000 in
theorem isRightPile_b (c : Cfg) (hC : okC c = true) (h : Hr) (a b : Option Addr) (cap bc : Nat) (hl : h.hL.length ≤ 4294967296) (hp : PileOk h.hN h.hP h.hL) (h1 : ¬ h.hN = segsC c) (w : World) (ha : HearAt w h a cap b bc) :
    Calls Try.prog 71 #[.agg #[.int .i64 c.cB, .int .i64 c.cBeam, .int .i64 c.cDepth, .int .i64 c.cWin, .int .i64 c.cQs, .int .i64 c.cQr, .int .i64 c.cBatch, .int .i64 c.cPass, .int .i64 c.cMsg, .int .i64 c.cSeqs], .agg #[.int .i64 h.hS, .int .i64 h.hR, .int .i64 h.hN, .int .i64 h.hP, .slice a h.hL.length cap, .bool h.hD, .slice b h.hB.length bc]] w fun e w' => e = .returned (.bool false) ∧ Below w.heap.size w w' := by
  obtain ⟨b1, xC, xH⟩ := pre2 w #[.int .i64 c.cB, .int .i64 c.cBeam, .int .i64 c.cDepth, .int .i64 c.cWin, .int .i64 c.cQs, .int .i64 c.cQr, .int .i64 c.cBatch, .int .i64 c.cPass, .int .i64 c.cMsg, .int .i64 c.cSeqs] 23 #[.int .i64 h.hS, .int .i64 h.hR, .int .i64 h.hN, .int .i64 h.hP, .slice a h.hL.length cap, .bool h.hD, .slice b h.hB.length bc] 46
  obtain ⟨W1, hW1⟩ : ∃ W, (w.alloc (.cells #[.int .i64 c.cB, .int .i64 c.cBeam, .int .i64 c.cDepth, .int .i64 c.cWin, .int .i64 c.cQs, .int .i64 c.cQr, .int .i64 c.cBatch, .int .i64 c.cPass, .int .i64 c.cMsg, .int .i64 c.cSeqs] 23)).alloc (.cells #[.int .i64 h.hS, .int .i64 h.hR, .int .i64 h.hN, .int .i64 h.hP, .slice a h.hL.length cap, .bool h.hD, .slice b h.hB.length bc] 46) = W := ⟨_, rfl⟩
  have hz1 : w.heap.size ≤ W1.heap.size := by rw [← hW1]; exact b1.size
  have hltC : w.heap.size < W1.heap.size := hW1 ▸ xC.lt
  have hltH : w.heap.size + 1 < W1.heap.size := hW1 ▸ xH.lt
  have k0 : Hid (W1.cell? ⟨w.heap.size, 0, none⟩ = some (.int .i64 c.cB)) := hW1 ▸ xC.cell 0 _ rfl
  have k1 : Hid (W1.cell? ⟨w.heap.size, 1, none⟩ = some (.int .i64 c.cBeam)) := hW1 ▸ xC.cell 1 _ rfl
  have k2 : Hid (W1.cell? ⟨w.heap.size, 2, none⟩ = some (.int .i64 c.cDepth)) := hW1 ▸ xC.cell 2 _ rfl
  have k3 : Hid (W1.cell? ⟨w.heap.size, 3, none⟩ = some (.int .i64 c.cWin)) := hW1 ▸ xC.cell 3 _ rfl
  have k4 : Hid (W1.cell? ⟨w.heap.size, 4, none⟩ = some (.int .i64 c.cQs)) := hW1 ▸ xC.cell 4 _ rfl
  have k5 : Hid (W1.cell? ⟨w.heap.size, 5, none⟩ = some (.int .i64 c.cQr)) := hW1 ▸ xC.cell 5 _ rfl
  have k6 : Hid (W1.cell? ⟨w.heap.size, 6, none⟩ = some (.int .i64 c.cBatch)) := hW1 ▸ xC.cell 6 _ rfl
  have k7 : Hid (W1.cell? ⟨w.heap.size, 7, none⟩ = some (.int .i64 c.cPass)) := hW1 ▸ xC.cell 7 _ rfl
  have k8 : Hid (W1.cell? ⟨w.heap.size, 8, none⟩ = some (.int .i64 c.cMsg)) := hW1 ▸ xC.cell 8 _ rfl
  have k9 : Hid (W1.cell? ⟨w.heap.size, 9, none⟩ = some (.int .i64 c.cSeqs)) := hW1 ▸ xC.cell 9 _ rfl
  have m0 : Hid (W1.cell? ⟨w.heap.size + 1, 0, none⟩ = some (.int .i64 h.hS)) := hW1 ▸ xH.cell 0 _ rfl
  have m1 : Hid (W1.cell? ⟨w.heap.size + 1, 1, none⟩ = some (.int .i64 h.hR)) := hW1 ▸ xH.cell 1 _ rfl
  have m2 : Hid (W1.cell? ⟨w.heap.size + 1, 2, none⟩ = some (.int .i64 h.hN)) := hW1 ▸ xH.cell 2 _ rfl
  have m3 : Hid (W1.cell? ⟨w.heap.size + 1, 3, none⟩ = some (.int .i64 h.hP)) := hW1 ▸ xH.cell 3 _ rfl
  have m4 : Hid (W1.cell? ⟨w.heap.size + 1, 4, none⟩ = some (.slice a h.hL.length cap)) := hW1 ▸ xH.cell 4 _ rfl
  have m5 : Hid (W1.cell? ⟨w.heap.size + 1, 5, none⟩ = some (.bool h.hD)) := hW1 ▸ xH.cell 5 _ rfl
  have m6 : Hid (W1.cell? ⟨w.heap.size + 1, 6, none⟩ = some (.slice b h.hB.length bc)) := hW1 ▸ xH.cell 6 _ rfl
  have hA1 : HearAt W1 h a cap b bc := hW1 ▸ ha.next b1
  have HPC : Hid (∀ wx : World, Below W1.heap.size W1 wx → Calls Try.prog 47 #[.agg #[.int .i64 h.hN, .int .i64 h.hP, .slice a h.hL.length cap]] wx fun e w' => e = .returned (.int .i64 0) ∧ Below W1.heap.size W1 w') := fun wx hw => (Check_ok h.hN h.hP a cap h.hL hl hp wx (hA1.next hw).syms).mono fun e w' ⟨h, b⟩ => ⟨h, hw.trans (b.mono hw.size)⟩
  have HSG : Hid (∀ wx : World, Below W1.heap.size W1 wx → Calls Try.prog 26 #[.agg #[.int .i64 c.cB, .int .i64 c.cBeam, .int .i64 c.cDepth, .int .i64 c.cWin, .int .i64 c.cQs, .int .i64 c.cQr, .int .i64 c.cBatch, .int .i64 c.cPass, .int .i64 c.cMsg, .int .i64 c.cSeqs]] wx fun e w' => e = .returned (.int .i64 (segsC c)) ∧ Below W1.heap.size W1 w') := fun wx hw => by
    have := ConfSegs_any c wx
    unfold segsA at this
    rw [if_pos hC] at this
    exact this.mono fun e w' ⟨h, b⟩ => ⟨h, hw.trans (b.mono hw.size)⟩
  have d1 : (h.hN == segsC c) = false := by rw [beq_eq_false_iff_ne]; exact h1
  clear h1
  replace b1 : Below w.heap.size w W1 := hW1 ▸ b1
  clear xC xH ha hA1 hl hp hC
  go_enter Try.func71, Try.ntmps71
  go_upto_region 1 with fail
  try rw [hW1]
  clear hW1
  refine wp_region_held_drew (S := fun w' => Below W1.heap.size W1 w') (by kernel_rfl) ((Below.refl _ _).drew) (fun hHeld => ?_)
  refine ht0 0 5 (v := ?v10) (fun _ => ?y10) hHeld ?_
  case y10 => go_simp; with_reducible rfl
  simp only [sn]
  refine ht 1 6 (v := ?v11) (fun _ hSw => ?y11) hHeld ?_
  case y11 => have q0 := hSw.at m2.out hltH; have q1 := hSw.at m3.out hltH; have q2 := hSw.at m4.out hltH; clear hSw; go_simp; with_reducible rfl
  simp only [sn]
  refine wpAnyH_ready (rs := [2]) (by kernel_rfl) (by simp) ?_
  refine AllReadyH.cons rfl (fun K hK => ?_) AllReadyH.nil
  go_simp
  go_wp2_with (go_at_call 47; refine (HPC.out _ (by exact hHeld)).mono ?_; rintro e wb ⟨rfl, b8⟩)
  refine hK.out _ _ (b8) (fun hHeld => ?_)
  clear hK K
  refine ht0 3 8 (v := ?v12) (fun _ => ?y12) hHeld ?_
  case y12 => go_simp; with_reducible rfl
  simp only [sn]
  refine ht0 4 9 (v := ?v13) (fun _ => ?y13) hHeld ?_
  case y13 => go_simp; with_reducible rfl
  simp only [sn]
  refine ht0 5 10 (v := ?v14) (fun _ => ?y14) hHeld ?_
  case y14 => go_simp; with_reducible rfl
  simp only [sn]
  refine ht0 6 11 (v := ?v15) (fun _ => ?y15) hHeld ?_
  case y15 => go_simp; with_reducible rfl
  simp only [sn]
  refine ht 7 12 (v := ?v16) (fun _ hSw => ?y16) hHeld ?_
  case y16 => have q0 := hSw.at m2.out hltH; clear hSw; go_simp; with_reducible rfl
  simp only [sn]
  refine ht 8 13 (v := ?v17) (fun _ hSw => ?y17) hHeld ?_
  case y17 => have q0 := hSw.at k0.out hltC; have q1 := hSw.at k1.out hltC; have q2 := hSw.at k2.out hltC; have q3 := hSw.at k3.out hltC; have q4 := hSw.at k4.out hltC; have q5 := hSw.at k5.out hltC; have q6 := hSw.at k6.out hltC; have q7 := hSw.at k7.out hltC; have q8 := hSw.at k8.out hltC; have q9 := hSw.at k9.out hltC; clear hSw; go_simp; with_reducible rfl
  simp only [sn]
  refine wpAnyH_ready (rs := [9]) (by kernel_rfl) (by simp) ?_
  refine AllReadyH.cons rfl (fun K hK => ?_) AllReadyH.nil
  go_simp
  go_wp2_with (go_at_call 26; refine (HSG.out _ (by exact hHeld)).mono ?_; rintro e wb ⟨rfl, b8⟩)
  refine hK.out _ _ (b8) (fun hHeld => ?_)
  clear hK K
  refine ht0 10 15 (v := ?v18) (fun _ => ?y18) hHeld ?_
  case y18 => go_simp; with_reducible rfl
  simp only [sn]
  refine ht0 11 16 (v := ?v19) (fun _ => ?y19) hHeld ?_
  case y19 => go_simp; with_reducible rfl
  simp only [sn]
  refine ht0 12 17 (v := ?v20) (fun _ => ?y20) hHeld ?_
  case y20 => go_simp; with_reducible rfl
  simp only [sn]
  refine hu 13 18 hHeld ?_
  simp only [sn]
  refine hu 14 19 hHeld ?_
  simp only [sn]
  refine hu 15 20 hHeld ?_
  simp only [sn]
  refine hu 16 21 hHeld ?_
  simp only [sn]
  refine hu 17 22 hHeld ?_
  simp only [sn]
  refine hu 18 23 hHeld ?_
  simp only [sn]
  refine ht0 19 24 (v := ?v21) (fun _ => ?y21) hHeld ?_
  case y21 => go_simp; with_reducible rfl
  simp only [sn]
  refine ht0 20 25 (v := ?v22) (fun _ => ?y22) hHeld ?_
  case y22 => go_simp; with_reducible rfl
  simp only [sn]
  refine hu 21 26 hHeld ?_
  simp only [sn]
  refine hu 22 27 hHeld ?_
  simp only [sn]
  refine hu 23 28 hHeld ?_
  simp only [sn]
  refine hu 24 29 hHeld ?_
  simp only [sn]
  refine hu 25 30 hHeld ?_
  simp only [sn]
  refine hu 26 31 hHeld ?_
  simp only [sn]
  refine hu 27 32 hHeld ?_
  simp only [sn]
  refine hu 28 33 hHeld ?_
  simp only [sn]
  refine hu 29 34 hHeld ?_
  simp only [sn]
  refine hu 30 35 hHeld ?_
  simp only [sn]
  refine ht0 31 36 (v := ?v23) (fun _ => ?y23) hHeld ?_
  case y23 => go_simp; with_reducible rfl
  simp only [sn]
  refine wpAnyH_ready (rs := [32]) (by kernel_rfl) (by simp) ?_
  refine AllReadyH.cons rfl (fun K hK => ?_) AllReadyH.nil
  go_simp
  refine hK.out _ _ hHeld (fun hHeld => ?_)
  clear hK K
  refine wpAnyH_done (by kernel_rfl) ?_ _
  go_wp2
  go_ret
  exact ⟨rfl, b1.trans (hHeld.mono hz1)⟩

set_option maxRecDepth 100000 in
set_option maxHeartbeats 4000000 in
theorem isRightPile_c (c : Cfg) (hC : okC c = true) (h : Hr) (a b : Option Addr) (cap bc : Nat) (hl : h.hL.length ≤ 4294967296) (hp : PileOk h.hN h.hP h.hL) (h1 : h.hN = segsC c) (h2 : ¬ h.hP = c.cPass) (w : World) (ha : HearAt w h a cap b bc) :
    Calls Try.prog 71 #[.agg #[.int .i64 c.cB, .int .i64 c.cBeam, .int .i64 c.cDepth, .int .i64 c.cWin, .int .i64 c.cQs, .int .i64 c.cQr, .int .i64 c.cBatch, .int .i64 c.cPass, .int .i64 c.cMsg, .int .i64 c.cSeqs], .agg #[.int .i64 h.hS, .int .i64 h.hR, .int .i64 h.hN, .int .i64 h.hP, .slice a h.hL.length cap, .bool h.hD, .slice b h.hB.length bc]] w fun e w' => e = .returned (.bool false) ∧ Below w.heap.size w w' := by
  obtain ⟨b1, xC, xH⟩ := pre2 w #[.int .i64 c.cB, .int .i64 c.cBeam, .int .i64 c.cDepth, .int .i64 c.cWin, .int .i64 c.cQs, .int .i64 c.cQr, .int .i64 c.cBatch, .int .i64 c.cPass, .int .i64 c.cMsg, .int .i64 c.cSeqs] 23 #[.int .i64 h.hS, .int .i64 h.hR, .int .i64 h.hN, .int .i64 h.hP, .slice a h.hL.length cap, .bool h.hD, .slice b h.hB.length bc] 46
  obtain ⟨W1, hW1⟩ : ∃ W, (w.alloc (.cells #[.int .i64 c.cB, .int .i64 c.cBeam, .int .i64 c.cDepth, .int .i64 c.cWin, .int .i64 c.cQs, .int .i64 c.cQr, .int .i64 c.cBatch, .int .i64 c.cPass, .int .i64 c.cMsg, .int .i64 c.cSeqs] 23)).alloc (.cells #[.int .i64 h.hS, .int .i64 h.hR, .int .i64 h.hN, .int .i64 h.hP, .slice a h.hL.length cap, .bool h.hD, .slice b h.hB.length bc] 46) = W := ⟨_, rfl⟩
  have hz1 : w.heap.size ≤ W1.heap.size := by rw [← hW1]; exact b1.size
  have hltC : w.heap.size < W1.heap.size := hW1 ▸ xC.lt
  have hltH : w.heap.size + 1 < W1.heap.size := hW1 ▸ xH.lt
  have k0 : Hid (W1.cell? ⟨w.heap.size, 0, none⟩ = some (.int .i64 c.cB)) := hW1 ▸ xC.cell 0 _ rfl
  have k1 : Hid (W1.cell? ⟨w.heap.size, 1, none⟩ = some (.int .i64 c.cBeam)) := hW1 ▸ xC.cell 1 _ rfl
  have k2 : Hid (W1.cell? ⟨w.heap.size, 2, none⟩ = some (.int .i64 c.cDepth)) := hW1 ▸ xC.cell 2 _ rfl
  have k3 : Hid (W1.cell? ⟨w.heap.size, 3, none⟩ = some (.int .i64 c.cWin)) := hW1 ▸ xC.cell 3 _ rfl
  have k4 : Hid (W1.cell? ⟨w.heap.size, 4, none⟩ = some (.int .i64 c.cQs)) := hW1 ▸ xC.cell 4 _ rfl
  have k5 : Hid (W1.cell? ⟨w.heap.size, 5, none⟩ = some (.int .i64 c.cQr)) := hW1 ▸ xC.cell 5 _ rfl
  have k6 : Hid (W1.cell? ⟨w.heap.size, 6, none⟩ = some (.int .i64 c.cBatch)) := hW1 ▸ xC.cell 6 _ rfl
  have k7 : Hid (W1.cell? ⟨w.heap.size, 7, none⟩ = some (.int .i64 c.cPass)) := hW1 ▸ xC.cell 7 _ rfl
  have k8 : Hid (W1.cell? ⟨w.heap.size, 8, none⟩ = some (.int .i64 c.cMsg)) := hW1 ▸ xC.cell 8 _ rfl
  have k9 : Hid (W1.cell? ⟨w.heap.size, 9, none⟩ = some (.int .i64 c.cSeqs)) := hW1 ▸ xC.cell 9 _ rfl
  have m0 : Hid (W1.cell? ⟨w.heap.size + 1, 0, none⟩ = some (.int .i64 h.hS)) := hW1 ▸ xH.cell 0 _ rfl
  have m1 : Hid (W1.cell? ⟨w.heap.size + 1, 1, none⟩ = some (.int .i64 h.hR)) := hW1 ▸ xH.cell 1 _ rfl
  have m2 : Hid (W1.cell? ⟨w.heap.size + 1, 2, none⟩ = some (.int .i64 h.hN)) := hW1 ▸ xH.cell 2 _ rfl
  have m3 : Hid (W1.cell? ⟨w.heap.size + 1, 3, none⟩ = some (.int .i64 h.hP)) := hW1 ▸ xH.cell 3 _ rfl
  have m4 : Hid (W1.cell? ⟨w.heap.size + 1, 4, none⟩ = some (.slice a h.hL.length cap)) := hW1 ▸ xH.cell 4 _ rfl
  have m5 : Hid (W1.cell? ⟨w.heap.size + 1, 5, none⟩ = some (.bool h.hD)) := hW1 ▸ xH.cell 5 _ rfl
  have m6 : Hid (W1.cell? ⟨w.heap.size + 1, 6, none⟩ = some (.slice b h.hB.length bc)) := hW1 ▸ xH.cell 6 _ rfl
  have hA1 : HearAt W1 h a cap b bc := hW1 ▸ ha.next b1
  have HPC : Hid (∀ wx : World, Below W1.heap.size W1 wx → Calls Try.prog 47 #[.agg #[.int .i64 h.hN, .int .i64 h.hP, .slice a h.hL.length cap]] wx fun e w' => e = .returned (.int .i64 0) ∧ Below W1.heap.size W1 w') := fun wx hw => (Check_ok h.hN h.hP a cap h.hL hl hp wx (hA1.next hw).syms).mono fun e w' ⟨h, b⟩ => ⟨h, hw.trans (b.mono hw.size)⟩
  have HSG : Hid (∀ wx : World, Below W1.heap.size W1 wx → Calls Try.prog 26 #[.agg #[.int .i64 c.cB, .int .i64 c.cBeam, .int .i64 c.cDepth, .int .i64 c.cWin, .int .i64 c.cQs, .int .i64 c.cQr, .int .i64 c.cBatch, .int .i64 c.cPass, .int .i64 c.cMsg, .int .i64 c.cSeqs]] wx fun e w' => e = .returned (.int .i64 (segsC c)) ∧ Below W1.heap.size W1 w') := fun wx hw => by
    have := ConfSegs_any c wx
    unfold segsA at this
    rw [if_pos hC] at this
    exact this.mono fun e w' ⟨h, b⟩ => ⟨h, hw.trans (b.mono hw.size)⟩
  have d1 : (h.hN == segsC c) = true := by rw [beq_iff_eq]; exact h1
  clear h1
  have d2 : (h.hP == c.cPass) = false := by rw [beq_eq_false_iff_ne]; exact h2
  clear h2
  replace b1 : Below w.heap.size w W1 := hW1 ▸ b1
  clear xC xH ha hA1 hl hp hC
  go_enter Try.func71, Try.ntmps71
  go_upto_region 1 with fail
  try rw [hW1]
  clear hW1
  refine wp_region_held_drew (S := fun w' => Below W1.heap.size W1 w') (by kernel_rfl) ((Below.refl _ _).drew) (fun hHeld => ?_)
  refine ht0 0 5 (v := ?v24) (fun _ => ?y24) hHeld ?_
  case y24 => go_simp; with_reducible rfl
  simp only [sn]
  refine ht 1 6 (v := ?v25) (fun _ hSw => ?y25) hHeld ?_
  case y25 => have q0 := hSw.at m2.out hltH; have q1 := hSw.at m3.out hltH; have q2 := hSw.at m4.out hltH; clear hSw; go_simp; with_reducible rfl
  simp only [sn]
  refine wpAnyH_ready (rs := [2]) (by kernel_rfl) (by simp) ?_
  refine AllReadyH.cons rfl (fun K hK => ?_) AllReadyH.nil
  go_simp
  go_wp2_with (go_at_call 47; refine (HPC.out _ (by exact hHeld)).mono ?_; rintro e wb ⟨rfl, b8⟩)
  refine hK.out _ _ (b8) (fun hHeld => ?_)
  clear hK K
  refine ht0 3 8 (v := ?v26) (fun _ => ?y26) hHeld ?_
  case y26 => go_simp; with_reducible rfl
  simp only [sn]
  refine ht0 4 9 (v := ?v27) (fun _ => ?y27) hHeld ?_
  case y27 => go_simp; with_reducible rfl
  simp only [sn]
  refine ht0 5 10 (v := ?v28) (fun _ => ?y28) hHeld ?_
  case y28 => go_simp; with_reducible rfl
  simp only [sn]
  refine ht0 6 11 (v := ?v29) (fun _ => ?y29) hHeld ?_
  case y29 => go_simp; with_reducible rfl
  simp only [sn]
  refine ht 7 12 (v := ?v30) (fun _ hSw => ?y30) hHeld ?_
  case y30 => have q0 := hSw.at m2.out hltH; clear hSw; go_simp; with_reducible rfl
  simp only [sn]
  refine ht 8 13 (v := ?v31) (fun _ hSw => ?y31) hHeld ?_
  case y31 => have q0 := hSw.at k0.out hltC; have q1 := hSw.at k1.out hltC; have q2 := hSw.at k2.out hltC; have q3 := hSw.at k3.out hltC; have q4 := hSw.at k4.out hltC; have q5 := hSw.at k5.out hltC; have q6 := hSw.at k6.out hltC; have q7 := hSw.at k7.out hltC; have q8 := hSw.at k8.out hltC; have q9 := hSw.at k9.out hltC; clear hSw; go_simp; with_reducible rfl
  simp only [sn]
  refine wpAnyH_ready (rs := [9]) (by kernel_rfl) (by simp) ?_
  refine AllReadyH.cons rfl (fun K hK => ?_) AllReadyH.nil
  go_simp
  go_wp2_with (go_at_call 26; refine (HSG.out _ (by exact hHeld)).mono ?_; rintro e wb ⟨rfl, b8⟩)
  refine hK.out _ _ (b8) (fun hHeld => ?_)
  clear hK K
  refine ht0 10 15 (v := ?v32) (fun _ => ?y32) hHeld ?_
  case y32 => go_simp; with_reducible rfl
  simp only [sn]
  refine ht0 11 16 (v := ?v33) (fun _ => ?y33) hHeld ?_
  case y33 => go_simp; with_reducible rfl
  simp only [sn]
  refine ht0 12 17 (v := ?v34) (fun _ => ?y34) hHeld ?_
  case y34 => go_simp; with_reducible rfl
  simp only [sn]
  refine ht0 13 18 (v := ?v35) (fun _ => ?y35) hHeld ?_
  case y35 => go_simp; with_reducible rfl
  simp only [sn]
  refine ht0 14 19 (v := ?v36) (fun _ => ?y36) hHeld ?_
  case y36 => go_simp; with_reducible rfl
  simp only [sn]
  refine ht 15 20 (v := ?v37) (fun _ hSw => ?y37) hHeld ?_
  case y37 => have q0 := hSw.at m3.out hltH; clear hSw; go_simp; with_reducible rfl
  simp only [sn]
  refine ht0 16 21 (v := ?v38) (fun _ => ?y38) hHeld ?_
  case y38 => go_simp; with_reducible rfl
  simp only [sn]
  refine ht 17 22 (v := ?v39) (fun _ hSw => ?y39) hHeld ?_
  case y39 => have q0 := hSw.at k7.out hltC; clear hSw; go_simp; with_reducible rfl
  simp only [sn]
  refine ht0 18 23 (v := ?v40) (fun _ => ?y40) hHeld ?_
  case y40 => go_simp; with_reducible rfl
  simp only [sn]
  refine ht0 19 24 (v := ?v41) (fun _ => ?y41) hHeld ?_
  case y41 => go_simp; with_reducible rfl
  simp only [sn]
  refine ht0 20 25 (v := ?v42) (fun _ => ?y42) hHeld ?_
  case y42 => go_simp; with_reducible rfl
  simp only [sn]
  refine hu 21 26 hHeld ?_
  simp only [sn]
  refine hu 22 27 hHeld ?_
  simp only [sn]
  refine hu 23 28 hHeld ?_
  simp only [sn]
  refine hu 24 29 hHeld ?_
  simp only [sn]
  refine hu 25 30 hHeld ?_
  simp only [sn]
  refine hu 26 31 hHeld ?_
  simp only [sn]
  refine hu 27 32 hHeld ?_
  simp only [sn]
  refine hu 28 33 hHeld ?_
  simp only [sn]
  refine hu 29 34 hHeld ?_
  simp only [sn]
  refine hu 30 35 hHeld ?_
  simp only [sn]
  refine ht0 31 36 (v := ?v43) (fun _ => ?y43) hHeld ?_
  case y43 => go_simp; with_reducible rfl
  simp only [sn]
  refine wpAnyH_ready (rs := [32]) (by kernel_rfl) (by simp) ?_
  refine AllReadyH.cons rfl (fun K hK => ?_) AllReadyH.nil
  go_simp
  refine hK.out _ _ hHeld (fun hHeld => ?_)
  clear hK K
  refine wpAnyH_done (by kernel_rfl) ?_ _
  go_wp2
  go_ret
  exact ⟨rfl, b1.trans (hHeld.mono hz1)⟩

set_option maxRecDepth 100000 in
set_option maxHeartbeats 4000000 in
theorem isRightPile_d (c : Cfg) (hC : okC c = true) (h : Hr) (a b : Option Addr) (cap bc : Nat) (hl : h.hL.length ≤ 4294967296) (hp : PileOk h.hN h.hP h.hL) (h1 : h.hN = segsC c) (h2 : h.hP = c.cPass) (h3 : ¬ h.hR = -1) (w : World) (ha : HearAt w h a cap b bc) :
    Calls Try.prog 71 #[.agg #[.int .i64 c.cB, .int .i64 c.cBeam, .int .i64 c.cDepth, .int .i64 c.cWin, .int .i64 c.cQs, .int .i64 c.cQr, .int .i64 c.cBatch, .int .i64 c.cPass, .int .i64 c.cMsg, .int .i64 c.cSeqs], .agg #[.int .i64 h.hS, .int .i64 h.hR, .int .i64 h.hN, .int .i64 h.hP, .slice a h.hL.length cap, .bool h.hD, .slice b h.hB.length bc]] w fun e w' => e = .returned (.bool true) ∧ Below w.heap.size w w' := by
  obtain ⟨b1, xC, xH⟩ := pre2 w #[.int .i64 c.cB, .int .i64 c.cBeam, .int .i64 c.cDepth, .int .i64 c.cWin, .int .i64 c.cQs, .int .i64 c.cQr, .int .i64 c.cBatch, .int .i64 c.cPass, .int .i64 c.cMsg, .int .i64 c.cSeqs] 23 #[.int .i64 h.hS, .int .i64 h.hR, .int .i64 h.hN, .int .i64 h.hP, .slice a h.hL.length cap, .bool h.hD, .slice b h.hB.length bc] 46
  obtain ⟨W1, hW1⟩ : ∃ W, (w.alloc (.cells #[.int .i64 c.cB, .int .i64 c.cBeam, .int .i64 c.cDepth, .int .i64 c.cWin, .int .i64 c.cQs, .int .i64 c.cQr, .int .i64 c.cBatch, .int .i64 c.cPass, .int .i64 c.cMsg, .int .i64 c.cSeqs] 23)).alloc (.cells #[.int .i64 h.hS, .int .i64 h.hR, .int .i64 h.hN, .int .i64 h.hP, .slice a h.hL.length cap, .bool h.hD, .slice b h.hB.length bc] 46) = W := ⟨_, rfl⟩
  have hz1 : w.heap.size ≤ W1.heap.size := by rw [← hW1]; exact b1.size
  have hltC : w.heap.size < W1.heap.size := hW1 ▸ xC.lt
  have hltH : w.heap.size + 1 < W1.heap.size := hW1 ▸ xH.lt
  have k0 : Hid (W1.cell? ⟨w.heap.size, 0, none⟩ = some (.int .i64 c.cB)) := hW1 ▸ xC.cell 0 _ rfl
  have k1 : Hid (W1.cell? ⟨w.heap.size, 1, none⟩ = some (.int .i64 c.cBeam)) := hW1 ▸ xC.cell 1 _ rfl
  have k2 : Hid (W1.cell? ⟨w.heap.size, 2, none⟩ = some (.int .i64 c.cDepth)) := hW1 ▸ xC.cell 2 _ rfl
  have k3 : Hid (W1.cell? ⟨w.heap.size, 3, none⟩ = some (.int .i64 c.cWin)) := hW1 ▸ xC.cell 3 _ rfl
  have k4 : Hid (W1.cell? ⟨w.heap.size, 4, none⟩ = some (.int .i64 c.cQs)) := hW1 ▸ xC.cell 4 _ rfl
  have k5 : Hid (W1.cell? ⟨w.heap.size, 5, none⟩ = some (.int .i64 c.cQr)) := hW1 ▸ xC.cell 5 _ rfl
  have k6 : Hid (W1.cell? ⟨w.heap.size, 6, none⟩ = some (.int .i64 c.cBatch)) := hW1 ▸ xC.cell 6 _ rfl
  have k7 : Hid (W1.cell? ⟨w.heap.size, 7, none⟩ = some (.int .i64 c.cPass)) := hW1 ▸ xC.cell 7 _ rfl
  have k8 : Hid (W1.cell? ⟨w.heap.size, 8, none⟩ = some (.int .i64 c.cMsg)) := hW1 ▸ xC.cell 8 _ rfl
  have k9 : Hid (W1.cell? ⟨w.heap.size, 9, none⟩ = some (.int .i64 c.cSeqs)) := hW1 ▸ xC.cell 9 _ rfl
  have m0 : Hid (W1.cell? ⟨w.heap.size + 1, 0, none⟩ = some (.int .i64 h.hS)) := hW1 ▸ xH.cell 0 _ rfl
  have m1 : Hid (W1.cell? ⟨w.heap.size + 1, 1, none⟩ = some (.int .i64 h.hR)) := hW1 ▸ xH.cell 1 _ rfl
  have m2 : Hid (W1.cell? ⟨w.heap.size + 1, 2, none⟩ = some (.int .i64 h.hN)) := hW1 ▸ xH.cell 2 _ rfl
  have m3 : Hid (W1.cell? ⟨w.heap.size + 1, 3, none⟩ = some (.int .i64 h.hP)) := hW1 ▸ xH.cell 3 _ rfl
  have m4 : Hid (W1.cell? ⟨w.heap.size + 1, 4, none⟩ = some (.slice a h.hL.length cap)) := hW1 ▸ xH.cell 4 _ rfl
  have m5 : Hid (W1.cell? ⟨w.heap.size + 1, 5, none⟩ = some (.bool h.hD)) := hW1 ▸ xH.cell 5 _ rfl
  have m6 : Hid (W1.cell? ⟨w.heap.size + 1, 6, none⟩ = some (.slice b h.hB.length bc)) := hW1 ▸ xH.cell 6 _ rfl
  have hA1 : HearAt W1 h a cap b bc := hW1 ▸ ha.next b1
  have HPC : Hid (∀ wx : World, Below W1.heap.size W1 wx → Calls Try.prog 47 #[.agg #[.int .i64 h.hN, .int .i64 h.hP, .slice a h.hL.length cap]] wx fun e w' => e = .returned (.int .i64 0) ∧ Below W1.heap.size W1 w') := fun wx hw => (Check_ok h.hN h.hP a cap h.hL hl hp wx (hA1.next hw).syms).mono fun e w' ⟨h, b⟩ => ⟨h, hw.trans (b.mono hw.size)⟩
  have HSG : Hid (∀ wx : World, Below W1.heap.size W1 wx → Calls Try.prog 26 #[.agg #[.int .i64 c.cB, .int .i64 c.cBeam, .int .i64 c.cDepth, .int .i64 c.cWin, .int .i64 c.cQs, .int .i64 c.cQr, .int .i64 c.cBatch, .int .i64 c.cPass, .int .i64 c.cMsg, .int .i64 c.cSeqs]] wx fun e w' => e = .returned (.int .i64 (segsC c)) ∧ Below W1.heap.size W1 w') := fun wx hw => by
    have := ConfSegs_any c wx
    unfold segsA at this
    rw [if_pos hC] at this
    exact this.mono fun e w' ⟨h, b⟩ => ⟨h, hw.trans (b.mono hw.size)⟩
  have d1 : (h.hN == segsC c) = true := by rw [beq_iff_eq]; exact h1
  clear h1
  have d2 : (h.hP == c.cPass) = true := by rw [beq_iff_eq]; exact h2
  clear h2
  have d3 : (h.hR != -1) = true := by rw [bne_iff_ne]; exact h3
  clear h3
  replace b1 : Below w.heap.size w W1 := hW1 ▸ b1
  clear xC xH ha hA1 hl hp hC
  go_enter Try.func71, Try.ntmps71
  go_upto_region 1 with fail
  try rw [hW1]
  clear hW1
  refine wp_region_held_drew (S := fun w' => Below W1.heap.size W1 w') (by kernel_rfl) ((Below.refl _ _).drew) (fun hHeld => ?_)
  refine ht0 0 5 (v := ?v44) (fun _ => ?y44) hHeld ?_
  case y44 => go_simp; with_reducible rfl
  simp only [sn]
  refine ht 1 6 (v := ?v45) (fun _ hSw => ?y45) hHeld ?_
  case y45 => have q0 := hSw.at m2.out hltH; have q1 := hSw.at m3.out hltH; have q2 := hSw.at m4.out hltH; clear hSw; go_simp; with_reducible rfl
  simp only [sn]
  refine wpAnyH_ready (rs := [2]) (by kernel_rfl) (by simp) ?_
  refine AllReadyH.cons rfl (fun K hK => ?_) AllReadyH.nil
  go_simp
  go_wp2_with (go_at_call 47; refine (HPC.out _ (by exact hHeld)).mono ?_; rintro e wb ⟨rfl, b8⟩)
  refine hK.out _ _ (b8) (fun hHeld => ?_)
  clear hK K
  refine ht0 3 8 (v := ?v46) (fun _ => ?y46) hHeld ?_
  case y46 => go_simp; with_reducible rfl
  simp only [sn]
  refine ht0 4 9 (v := ?v47) (fun _ => ?y47) hHeld ?_
  case y47 => go_simp; with_reducible rfl
  simp only [sn]
  refine ht0 5 10 (v := ?v48) (fun _ => ?y48) hHeld ?_
  case y48 => go_simp; with_reducible rfl
  simp only [sn]
  refine ht0 6 11 (v := ?v49) (fun _ => ?y49) hHeld ?_
  case y49 => go_simp; with_reducible rfl
  simp only [sn]
  refine ht 7 12 (v := ?v50) (fun _ hSw => ?y50) hHeld ?_
  case y50 => have q0 := hSw.at m2.out hltH; clear hSw; go_simp; with_reducible rfl
  simp only [sn]
  refine ht 8 13 (v := ?v51) (fun _ hSw => ?y51) hHeld ?_
  case y51 => have q0 := hSw.at k0.out hltC; have q1 := hSw.at k1.out hltC; have q2 := hSw.at k2.out hltC; have q3 := hSw.at k3.out hltC; have q4 := hSw.at k4.out hltC; have q5 := hSw.at k5.out hltC; have q6 := hSw.at k6.out hltC; have q7 := hSw.at k7.out hltC; have q8 := hSw.at k8.out hltC; have q9 := hSw.at k9.out hltC; clear hSw; go_simp; with_reducible rfl
  simp only [sn]
  refine wpAnyH_ready (rs := [9]) (by kernel_rfl) (by simp) ?_
  refine AllReadyH.cons rfl (fun K hK => ?_) AllReadyH.nil
  go_simp
  go_wp2_with (go_at_call 26; refine (HSG.out _ (by exact hHeld)).mono ?_; rintro e wb ⟨rfl, b8⟩)
  refine hK.out _ _ (b8) (fun hHeld => ?_)
  clear hK K
  refine ht0 10 15 (v := ?v52) (fun _ => ?y52) hHeld ?_
  case y52 => go_simp; with_reducible rfl
  simp only [sn]
  refine ht0 11 16 (v := ?v53) (fun _ => ?y53) hHeld ?_
  case y53 => go_simp; with_reducible rfl
  simp only [sn]
  refine ht0 12 17 (v := ?v54) (fun _ => ?y54) hHeld ?_
  case y54 => go_simp; with_reducible rfl
  simp only [sn]
  refine ht0 13 18 (v := ?v55) (fun _ => ?y55) hHeld ?_
  case y55 => go_simp; with_reducible rfl
  simp only [sn]
  refine ht0 14 19 (v := ?v56) (fun _ => ?y56) hHeld ?_
  case y56 => go_simp; with_reducible rfl
  simp only [sn]
  refine ht 15 20 (v := ?v57) (fun _ hSw => ?y57) hHeld ?_
  case y57 => have q0 := hSw.at m3.out hltH; clear hSw; go_simp; with_reducible rfl
  simp only [sn]
  refine ht0 16 21 (v := ?v58) (fun _ => ?y58) hHeld ?_
  case y58 => go_simp; with_reducible rfl
  simp only [sn]
  refine ht 17 22 (v := ?v59) (fun _ hSw => ?y59) hHeld ?_
  case y59 => have q0 := hSw.at k7.out hltC; clear hSw; go_simp; with_reducible rfl
  simp only [sn]
  refine ht0 18 23 (v := ?v60) (fun _ => ?y60) hHeld ?_
  case y60 => go_simp; with_reducible rfl
  simp only [sn]
  refine ht0 19 24 (v := ?v61) (fun _ => ?y61) hHeld ?_
  case y61 => go_simp; with_reducible rfl
  simp only [sn]
  refine ht0 20 25 (v := ?v62) (fun _ => ?y62) hHeld ?_
  case y62 => go_simp; with_reducible rfl
  simp only [sn]
  refine ht0 21 26 (v := ?v63) (fun _ => ?y63) hHeld ?_
  case y63 => go_simp; with_reducible rfl
  simp only [sn]
  refine ht 22 27 (v := ?v64) (fun _ hSw => ?y64) hHeld ?_
  case y64 => have q0 := hSw.at m1.out hltH; clear hSw; go_simp; with_reducible rfl
  simp only [sn]
  refine ht0 23 28 (v := ?v65) (fun _ => ?y65) hHeld ?_
  case y65 => go_simp; with_reducible rfl
  simp only [sn]
  refine ht0 24 29 (v := ?v66) (fun _ => ?y66) hHeld ?_
  case y66 => go_simp; with_reducible rfl
  simp only [sn]
  refine hu 25 30 hHeld ?_
  simp only [sn]
  refine hu 26 31 hHeld ?_
  simp only [sn]
  refine hu 27 32 hHeld ?_
  simp only [sn]
  refine hu 28 33 hHeld ?_
  simp only [sn]
  refine hu 29 34 hHeld ?_
  simp only [sn]
  refine ht0 30 35 (v := ?v67) (fun _ => ?y67) hHeld ?_
  case y67 => go_simp; with_reducible rfl
  simp only [sn]
  refine ht0 31 36 (v := ?v68) (fun _ => ?y68) hHeld ?_
  case y68 => go_simp; with_reducible rfl
  simp only [sn]
  refine wpAnyH_ready (rs := [32]) (by kernel_rfl) (by simp) ?_
  refine AllReadyH.cons rfl (fun K hK => ?_) AllReadyH.nil
  go_simp
  refine hK.out _ _ hHeld (fun hHeld => ?_)
  clear hK K
  refine wpAnyH_done (by kernel_rfl) ?_ _
  go_wp2
  go_ret
  exact ⟨rfl, b1.trans (hHeld.mono hz1)⟩

set_option maxRecDepth 100000 in
set_option maxHeartbeats 4000000 in
theorem isRightPile_e (c : Cfg) (hC : okC c = true) (h : Hr) (a b : Option Addr) (cap bc : Nat) (hl : h.hL.length ≤ 4294967296) (hp : PileOk h.hN h.hP h.hL) (h1 : h.hN = segsC c) (h2 : h.hP = c.cPass) (h3 : h.hR = -1) (h4 : h.hL.length = 0) (w : World) (ha : HearAt w h a cap b bc) :
    Calls Try.prog 71 #[.agg #[.int .i64 c.cB, .int .i64 c.cBeam, .int .i64 c.cDepth, .int .i64 c.cWin, .int .i64 c.cQs, .int .i64 c.cQr, .int .i64 c.cBatch, .int .i64 c.cPass, .int .i64 c.cMsg, .int .i64 c.cSeqs], .agg #[.int .i64 h.hS, .int .i64 h.hR, .int .i64 h.hN, .int .i64 h.hP, .slice a h.hL.length cap, .bool h.hD, .slice b h.hB.length bc]] w fun e w' => e = .returned (.bool true) ∧ Below w.heap.size w w' := by
  obtain ⟨b1, xC, xH⟩ := pre2 w #[.int .i64 c.cB, .int .i64 c.cBeam, .int .i64 c.cDepth, .int .i64 c.cWin, .int .i64 c.cQs, .int .i64 c.cQr, .int .i64 c.cBatch, .int .i64 c.cPass, .int .i64 c.cMsg, .int .i64 c.cSeqs] 23 #[.int .i64 h.hS, .int .i64 h.hR, .int .i64 h.hN, .int .i64 h.hP, .slice a h.hL.length cap, .bool h.hD, .slice b h.hB.length bc] 46
  obtain ⟨W1, hW1⟩ : ∃ W, (w.alloc (.cells #[.int .i64 c.cB, .int .i64 c.cBeam, .int .i64 c.cDepth, .int .i64 c.cWin, .int .i64 c.cQs, .int .i64 c.cQr, .int .i64 c.cBatch, .int .i64 c.cPass, .int .i64 c.cMsg, .int .i64 c.cSeqs] 23)).alloc (.cells #[.int .i64 h.hS, .int .i64 h.hR, .int .i64 h.hN, .int .i64 h.hP, .slice a h.hL.length cap, .bool h.hD, .slice b h.hB.length bc] 46) = W := ⟨_, rfl⟩
  have hz1 : w.heap.size ≤ W1.heap.size := by rw [← hW1]; exact b1.size
  have hltC : w.heap.size < W1.heap.size := hW1 ▸ xC.lt
  have hltH : w.heap.size + 1 < W1.heap.size := hW1 ▸ xH.lt
  have k0 : Hid (W1.cell? ⟨w.heap.size, 0, none⟩ = some (.int .i64 c.cB)) := hW1 ▸ xC.cell 0 _ rfl
  have k1 : Hid (W1.cell? ⟨w.heap.size, 1, none⟩ = some (.int .i64 c.cBeam)) := hW1 ▸ xC.cell 1 _ rfl
  have k2 : Hid (W1.cell? ⟨w.heap.size, 2, none⟩ = some (.int .i64 c.cDepth)) := hW1 ▸ xC.cell 2 _ rfl
  have k3 : Hid (W1.cell? ⟨w.heap.size, 3, none⟩ = some (.int .i64 c.cWin)) := hW1 ▸ xC.cell 3 _ rfl
  have k4 : Hid (W1.cell? ⟨w.heap.size, 4, none⟩ = some (.int .i64 c.cQs)) := hW1 ▸ xC.cell 4 _ rfl
  have k5 : Hid (W1.cell? ⟨w.heap.size, 5, none⟩ = some (.int .i64 c.cQr)) := hW1 ▸ xC.cell 5 _ rfl
  have k6 : Hid (W1.cell? ⟨w.heap.size, 6, none⟩ = some (.int .i64 c.cBatch)) := hW1 ▸ xC.cell 6 _ rfl
  have k7 : Hid (W1.cell? ⟨w.heap.size, 7, none⟩ = some (.int .i64 c.cPass)) := hW1 ▸ xC.cell 7 _ rfl
  have k8 : Hid (W1.cell? ⟨w.heap.size, 8, none⟩ = some (.int .i64 c.cMsg)) := hW1 ▸ xC.cell 8 _ rfl
  have k9 : Hid (W1.cell? ⟨w.heap.size, 9, none⟩ = some (.int .i64 c.cSeqs)) := hW1 ▸ xC.cell 9 _ rfl
  have m0 : Hid (W1.cell? ⟨w.heap.size + 1, 0, none⟩ = some (.int .i64 h.hS)) := hW1 ▸ xH.cell 0 _ rfl
  have m1 : Hid (W1.cell? ⟨w.heap.size + 1, 1, none⟩ = some (.int .i64 h.hR)) := hW1 ▸ xH.cell 1 _ rfl
  have m2 : Hid (W1.cell? ⟨w.heap.size + 1, 2, none⟩ = some (.int .i64 h.hN)) := hW1 ▸ xH.cell 2 _ rfl
  have m3 : Hid (W1.cell? ⟨w.heap.size + 1, 3, none⟩ = some (.int .i64 h.hP)) := hW1 ▸ xH.cell 3 _ rfl
  have m4 : Hid (W1.cell? ⟨w.heap.size + 1, 4, none⟩ = some (.slice a h.hL.length cap)) := hW1 ▸ xH.cell 4 _ rfl
  have m5 : Hid (W1.cell? ⟨w.heap.size + 1, 5, none⟩ = some (.bool h.hD)) := hW1 ▸ xH.cell 5 _ rfl
  have m6 : Hid (W1.cell? ⟨w.heap.size + 1, 6, none⟩ = some (.slice b h.hB.length bc)) := hW1 ▸ xH.cell 6 _ rfl
  have hA1 : HearAt W1 h a cap b bc := hW1 ▸ ha.next b1
  have HPC : Hid (∀ wx : World, Below W1.heap.size W1 wx → Calls Try.prog 47 #[.agg #[.int .i64 h.hN, .int .i64 h.hP, .slice a h.hL.length cap]] wx fun e w' => e = .returned (.int .i64 0) ∧ Below W1.heap.size W1 w') := fun wx hw => (Check_ok h.hN h.hP a cap h.hL hl hp wx (hA1.next hw).syms).mono fun e w' ⟨h, b⟩ => ⟨h, hw.trans (b.mono hw.size)⟩
  have HSG : Hid (∀ wx : World, Below W1.heap.size W1 wx → Calls Try.prog 26 #[.agg #[.int .i64 c.cB, .int .i64 c.cBeam, .int .i64 c.cDepth, .int .i64 c.cWin, .int .i64 c.cQs, .int .i64 c.cQr, .int .i64 c.cBatch, .int .i64 c.cPass, .int .i64 c.cMsg, .int .i64 c.cSeqs]] wx fun e w' => e = .returned (.int .i64 (segsC c)) ∧ Below W1.heap.size W1 w') := fun wx hw => by
    have := ConfSegs_any c wx
    unfold segsA at this
    rw [if_pos hC] at this
    exact this.mono fun e w' ⟨h, b⟩ => ⟨h, hw.trans (b.mono hw.size)⟩
  have d1 : (h.hN == segsC c) = true := by rw [beq_iff_eq]; exact h1
  clear h1
  have d2 : (h.hP == c.cPass) = true := by rw [beq_iff_eq]; exact h2
  clear h2
  have d3 : (h.hR != -1) = false := by rw [bne_eq_false_iff_eq]; exact h3
  clear h3
  have d4 : ((h.hL.length : Int) == 0) = true := by rw [beq_iff_eq]; omega
  have d5 : (h.hL.length == 0) = true := by rw [beq_iff_eq]; exact h4
  clear h4
  replace b1 : Below w.heap.size w W1 := hW1 ▸ b1
  clear xC xH ha hA1 hl hp hC
  go_enter Try.func71, Try.ntmps71
  go_upto_region 1 with fail
  try rw [hW1]
  clear hW1
  refine wp_region_held_drew (S := fun w' => Below W1.heap.size W1 w') (by kernel_rfl) ((Below.refl _ _).drew) (fun hHeld => ?_)
  refine ht0 0 5 (v := ?v69) (fun _ => ?y69) hHeld ?_
  case y69 => go_simp; with_reducible rfl
  simp only [sn]
  refine ht 1 6 (v := ?v70) (fun _ hSw => ?y70) hHeld ?_
  case y70 => have q0 := hSw.at m2.out hltH; have q1 := hSw.at m3.out hltH; have q2 := hSw.at m4.out hltH; clear hSw; go_simp; with_reducible rfl
  simp only [sn]
  refine wpAnyH_ready (rs := [2]) (by kernel_rfl) (by simp) ?_
  refine AllReadyH.cons rfl (fun K hK => ?_) AllReadyH.nil
  go_simp
  go_wp2_with (go_at_call 47; refine (HPC.out _ (by exact hHeld)).mono ?_; rintro e wb ⟨rfl, b8⟩)
  refine hK.out _ _ (b8) (fun hHeld => ?_)
  clear hK K
  refine ht0 3 8 (v := ?v71) (fun _ => ?y71) hHeld ?_
  case y71 => go_simp; with_reducible rfl
  simp only [sn]
  refine ht0 4 9 (v := ?v72) (fun _ => ?y72) hHeld ?_
  case y72 => go_simp; with_reducible rfl
  simp only [sn]
  refine ht0 5 10 (v := ?v73) (fun _ => ?y73) hHeld ?_
  case y73 => go_simp; with_reducible rfl
  simp only [sn]
  refine ht0 6 11 (v := ?v74) (fun _ => ?y74) hHeld ?_
  case y74 => go_simp; with_reducible rfl
  simp only [sn]
  refine ht 7 12 (v := ?v75) (fun _ hSw => ?y75) hHeld ?_
  case y75 => have q0 := hSw.at m2.out hltH; clear hSw; go_simp; with_reducible rfl
  simp only [sn]
  refine ht 8 13 (v := ?v76) (fun _ hSw => ?y76) hHeld ?_
  case y76 => have q0 := hSw.at k0.out hltC; have q1 := hSw.at k1.out hltC; have q2 := hSw.at k2.out hltC; have q3 := hSw.at k3.out hltC; have q4 := hSw.at k4.out hltC; have q5 := hSw.at k5.out hltC; have q6 := hSw.at k6.out hltC; have q7 := hSw.at k7.out hltC; have q8 := hSw.at k8.out hltC; have q9 := hSw.at k9.out hltC; clear hSw; go_simp; with_reducible rfl
  simp only [sn]
  refine wpAnyH_ready (rs := [9]) (by kernel_rfl) (by simp) ?_
  refine AllReadyH.cons rfl (fun K hK => ?_) AllReadyH.nil
  go_simp
  go_wp2_with (go_at_call 26; refine (HSG.out _ (by exact hHeld)).mono ?_; rintro e wb ⟨rfl, b8⟩)
  refine hK.out _ _ (b8) (fun hHeld => ?_)
  clear hK K
  refine ht0 10 15 (v := ?v77) (fun _ => ?y77) hHeld ?_
  case y77 => go_simp; with_reducible rfl
  simp only [sn]
  refine ht0 11 16 (v := ?v78) (fun _ => ?y78) hHeld ?_
  case y78 => go_simp; with_reducible rfl
  simp only [sn]
  refine ht0 12 17 (v := ?v79) (fun _ => ?y79) hHeld ?_
  case y79 => go_simp; with_reducible rfl
  simp only [sn]
  refine ht0 13 18 (v := ?v80) (fun _ => ?y80) hHeld ?_
  case y80 => go_simp; with_reducible rfl
  simp only [sn]
  refine ht0 14 19 (v := ?v81) (fun _ => ?y81) hHeld ?_
  case y81 => go_simp; with_reducible rfl
  simp only [sn]
  refine ht 15 20 (v := ?v82) (fun _ hSw => ?y82) hHeld ?_
  case y82 => have q0 := hSw.at m3.out hltH; clear hSw; go_simp; with_reducible rfl
  simp only [sn]
  refine ht0 16 21 (v := ?v83) (fun _ => ?y83) hHeld ?_
  case y83 => go_simp; with_reducible rfl
  simp only [sn]
  refine ht 17 22 (v := ?v84) (fun _ hSw => ?y84) hHeld ?_
  case y84 => have q0 := hSw.at k7.out hltC; clear hSw; go_simp; with_reducible rfl
  simp only [sn]
  refine ht0 18 23 (v := ?v85) (fun _ => ?y85) hHeld ?_
  case y85 => go_simp; with_reducible rfl
  simp only [sn]
  refine ht0 19 24 (v := ?v86) (fun _ => ?y86) hHeld ?_
  case y86 => go_simp; with_reducible rfl
  simp only [sn]
  refine ht0 20 25 (v := ?v87) (fun _ => ?y87) hHeld ?_
  case y87 => go_simp; with_reducible rfl
  simp only [sn]
  refine ht0 21 26 (v := ?v88) (fun _ => ?y88) hHeld ?_
  case y88 => go_simp; with_reducible rfl
  simp only [sn]
  refine ht 22 27 (v := ?v89) (fun _ hSw => ?y89) hHeld ?_
  case y89 => have q0 := hSw.at m1.out hltH; clear hSw; go_simp; with_reducible rfl
  simp only [sn]
  refine ht0 23 28 (v := ?v90) (fun _ => ?y90) hHeld ?_
  case y90 => go_simp; with_reducible rfl
  simp only [sn]
  refine ht0 24 29 (v := ?v91) (fun _ => ?y91) hHeld ?_
  case y91 => go_simp; with_reducible rfl
  simp only [sn]
  refine ht0 25 30 (v := ?v92) (fun _ => ?y92) hHeld ?_
  case y92 => go_simp; with_reducible rfl
  simp only [sn]
  refine ht0 26 31 (v := ?v93) (fun _ => ?y93) hHeld ?_
  case y93 => go_simp; with_reducible rfl
  simp only [sn]
  refine ht 27 32 (v := ?v94) (fun _ hSw => ?y94) hHeld ?_
  case y94 => have q0 := hSw.at m4.out hltH; clear hSw; go_simp; with_reducible rfl
  simp only [sn]
  refine ht0 28 33 (v := ?v95) (fun _ => ?y95) hHeld ?_
  case y95 => go_simp; with_reducible rfl
  simp only [sn]
  refine ht0 29 34 (v := ?v96) (fun _ => ?y96) hHeld ?_
  case y96 => go_simp; with_reducible rfl
  simp only [sn]
  refine ht0 30 35 (v := ?v97) (fun _ => ?y97) hHeld ?_
  case y97 => go_simp; with_reducible rfl
  simp only [sn]
  refine ht0 31 36 (v := ?v98) (fun _ => ?y98) hHeld ?_
  case y98 => go_simp; with_reducible rfl
  simp only [sn]
  refine wpAnyH_ready (rs := [32]) (by kernel_rfl) (by simp) ?_
  refine AllReadyH.cons rfl (fun K hK => ?_) AllReadyH.nil
  go_simp
  refine hK.out _ _ hHeld (fun hHeld => ?_)
  clear hK K
  refine wpAnyH_done (by kernel_rfl) ?_ _
  go_wp2
  go_ret
  exact ⟨rfl, b1.trans (hHeld.mono hz1)⟩

set_option maxRecDepth 100000 in
set_option maxHeartbeats 4000000 in
theorem isRightPile_f (c : Cfg) (hC : okC c = true) (h : Hr) (a b : Option Addr) (cap bc : Nat) (hl : h.hL.length ≤ 4294967296) (hp : PileOk h.hN h.hP h.hL) (h1 : h.hN = segsC c) (h2 : h.hP = c.cPass) (h3 : h.hR = -1) (h4 : ¬ h.hL.length = 0) (w : World) (ha : HearAt w h a cap b bc) :
    Calls Try.prog 71 #[.agg #[.int .i64 c.cB, .int .i64 c.cBeam, .int .i64 c.cDepth, .int .i64 c.cWin, .int .i64 c.cQs, .int .i64 c.cQr, .int .i64 c.cBatch, .int .i64 c.cPass, .int .i64 c.cMsg, .int .i64 c.cSeqs], .agg #[.int .i64 h.hS, .int .i64 h.hR, .int .i64 h.hN, .int .i64 h.hP, .slice a h.hL.length cap, .bool h.hD, .slice b h.hB.length bc]] w fun e w' => e = .returned (.bool false) ∧ Below w.heap.size w w' := by
  obtain ⟨b1, xC, xH⟩ := pre2 w #[.int .i64 c.cB, .int .i64 c.cBeam, .int .i64 c.cDepth, .int .i64 c.cWin, .int .i64 c.cQs, .int .i64 c.cQr, .int .i64 c.cBatch, .int .i64 c.cPass, .int .i64 c.cMsg, .int .i64 c.cSeqs] 23 #[.int .i64 h.hS, .int .i64 h.hR, .int .i64 h.hN, .int .i64 h.hP, .slice a h.hL.length cap, .bool h.hD, .slice b h.hB.length bc] 46
  obtain ⟨W1, hW1⟩ : ∃ W, (w.alloc (.cells #[.int .i64 c.cB, .int .i64 c.cBeam, .int .i64 c.cDepth, .int .i64 c.cWin, .int .i64 c.cQs, .int .i64 c.cQr, .int .i64 c.cBatch, .int .i64 c.cPass, .int .i64 c.cMsg, .int .i64 c.cSeqs] 23)).alloc (.cells #[.int .i64 h.hS, .int .i64 h.hR, .int .i64 h.hN, .int .i64 h.hP, .slice a h.hL.length cap, .bool h.hD, .slice b h.hB.length bc] 46) = W := ⟨_, rfl⟩
  have hz1 : w.heap.size ≤ W1.heap.size := by rw [← hW1]; exact b1.size
  have hltC : w.heap.size < W1.heap.size := hW1 ▸ xC.lt
  have hltH : w.heap.size + 1 < W1.heap.size := hW1 ▸ xH.lt
  have k0 : Hid (W1.cell? ⟨w.heap.size, 0, none⟩ = some (.int .i64 c.cB)) := hW1 ▸ xC.cell 0 _ rfl
  have k1 : Hid (W1.cell? ⟨w.heap.size, 1, none⟩ = some (.int .i64 c.cBeam)) := hW1 ▸ xC.cell 1 _ rfl
  have k2 : Hid (W1.cell? ⟨w.heap.size, 2, none⟩ = some (.int .i64 c.cDepth)) := hW1 ▸ xC.cell 2 _ rfl
  have k3 : Hid (W1.cell? ⟨w.heap.size, 3, none⟩ = some (.int .i64 c.cWin)) := hW1 ▸ xC.cell 3 _ rfl
  have k4 : Hid (W1.cell? ⟨w.heap.size, 4, none⟩ = some (.int .i64 c.cQs)) := hW1 ▸ xC.cell 4 _ rfl
  have k5 : Hid (W1.cell? ⟨w.heap.size, 5, none⟩ = some (.int .i64 c.cQr)) := hW1 ▸ xC.cell 5 _ rfl
  have k6 : Hid (W1.cell? ⟨w.heap.size, 6, none⟩ = some (.int .i64 c.cBatch)) := hW1 ▸ xC.cell 6 _ rfl
  have k7 : Hid (W1.cell? ⟨w.heap.size, 7, none⟩ = some (.int .i64 c.cPass)) := hW1 ▸ xC.cell 7 _ rfl
  have k8 : Hid (W1.cell? ⟨w.heap.size, 8, none⟩ = some (.int .i64 c.cMsg)) := hW1 ▸ xC.cell 8 _ rfl
  have k9 : Hid (W1.cell? ⟨w.heap.size, 9, none⟩ = some (.int .i64 c.cSeqs)) := hW1 ▸ xC.cell 9 _ rfl
  have m0 : Hid (W1.cell? ⟨w.heap.size + 1, 0, none⟩ = some (.int .i64 h.hS)) := hW1 ▸ xH.cell 0 _ rfl
  have m1 : Hid (W1.cell? ⟨w.heap.size + 1, 1, none⟩ = some (.int .i64 h.hR)) := hW1 ▸ xH.cell 1 _ rfl
  have m2 : Hid (W1.cell? ⟨w.heap.size + 1, 2, none⟩ = some (.int .i64 h.hN)) := hW1 ▸ xH.cell 2 _ rfl
  have m3 : Hid (W1.cell? ⟨w.heap.size + 1, 3, none⟩ = some (.int .i64 h.hP)) := hW1 ▸ xH.cell 3 _ rfl
  have m4 : Hid (W1.cell? ⟨w.heap.size + 1, 4, none⟩ = some (.slice a h.hL.length cap)) := hW1 ▸ xH.cell 4 _ rfl
  have m5 : Hid (W1.cell? ⟨w.heap.size + 1, 5, none⟩ = some (.bool h.hD)) := hW1 ▸ xH.cell 5 _ rfl
  have m6 : Hid (W1.cell? ⟨w.heap.size + 1, 6, none⟩ = some (.slice b h.hB.length bc)) := hW1 ▸ xH.cell 6 _ rfl
  have hA1 : HearAt W1 h a cap b bc := hW1 ▸ ha.next b1
  have HPC : Hid (∀ wx : World, Below W1.heap.size W1 wx → Calls Try.prog 47 #[.agg #[.int .i64 h.hN, .int .i64 h.hP, .slice a h.hL.length cap]] wx fun e w' => e = .returned (.int .i64 0) ∧ Below W1.heap.size W1 w') := fun wx hw => (Check_ok h.hN h.hP a cap h.hL hl hp wx (hA1.next hw).syms).mono fun e w' ⟨h, b⟩ => ⟨h, hw.trans (b.mono hw.size)⟩
  have HSG : Hid (∀ wx : World, Below W1.heap.size W1 wx → Calls Try.prog 26 #[.agg #[.int .i64 c.cB, .int .i64 c.cBeam, .int .i64 c.cDepth, .int .i64 c.cWin, .int .i64 c.cQs, .int .i64 c.cQr, .int .i64 c.cBatch, .int .i64 c.cPass, .int .i64 c.cMsg, .int .i64 c.cSeqs]] wx fun e w' => e = .returned (.int .i64 (segsC c)) ∧ Below W1.heap.size W1 w') := fun wx hw => by
    have := ConfSegs_any c wx
    unfold segsA at this
    rw [if_pos hC] at this
    exact this.mono fun e w' ⟨h, b⟩ => ⟨h, hw.trans (b.mono hw.size)⟩
  have d1 : (h.hN == segsC c) = true := by rw [beq_iff_eq]; exact h1
  clear h1
  have d2 : (h.hP == c.cPass) = true := by rw [beq_iff_eq]; exact h2
  clear h2
  have d3 : (h.hR != -1) = false := by rw [bne_eq_false_iff_eq]; exact h3
  clear h3
  have d4 : ((h.hL.length : Int) == 0) = false := by rw [beq_eq_false_iff_ne]; omega
  have d5 : (h.hL.length == 0) = false := by rw [beq_eq_false_iff_ne]; exact h4
  clear h4
  replace b1 : Below w.heap.size w W1 := hW1 ▸ b1
  clear xC xH ha hA1 hl hp hC
  go_enter Try.func71, Try.ntmps71
  go_upto_region 1 with fail
  try rw [hW1]
  clear hW1
  refine wp_region_held_drew (S := fun w' => Below W1.heap.size W1 w') (by kernel_rfl) ((Below.refl _ _).drew) (fun hHeld => ?_)
  refine ht0 0 5 (v := ?v99) (fun _ => ?y99) hHeld ?_
  case y99 => go_simp; with_reducible rfl
  simp only [sn]
  refine ht 1 6 (v := ?v100) (fun _ hSw => ?y100) hHeld ?_
  case y100 => have q0 := hSw.at m2.out hltH; have q1 := hSw.at m3.out hltH; have q2 := hSw.at m4.out hltH; clear hSw; go_simp; with_reducible rfl
  simp only [sn]
  refine wpAnyH_ready (rs := [2]) (by kernel_rfl) (by simp) ?_
  refine AllReadyH.cons rfl (fun K hK => ?_) AllReadyH.nil
  go_simp
  go_wp2_with (go_at_call 47; refine (HPC.out _ (by exact hHeld)).mono ?_; rintro e wb ⟨rfl, b8⟩)
  refine hK.out _ _ (b8) (fun hHeld => ?_)
  clear hK K
  refine ht0 3 8 (v := ?v101) (fun _ => ?y101) hHeld ?_
  case y101 => go_simp; with_reducible rfl
  simp only [sn]
  refine ht0 4 9 (v := ?v102) (fun _ => ?y102) hHeld ?_
  case y102 => go_simp; with_reducible rfl
  simp only [sn]
  refine ht0 5 10 (v := ?v103) (fun _ => ?y103) hHeld ?_
  case y103 => go_simp; with_reducible rfl
  simp only [sn]
  refine ht0 6 11 (v := ?v104) (fun _ => ?y104) hHeld ?_
  case y104 => go_simp; with_reducible rfl
  simp only [sn]
  refine ht 7 12 (v := ?v105) (fun _ hSw => ?y105) hHeld ?_
  case y105 => have q0 := hSw.at m2.out hltH; clear hSw; go_simp; with_reducible rfl
  simp only [sn]
  refine ht 8 13 (v := ?v106) (fun _ hSw => ?y106) hHeld ?_
  case y106 => have q0 := hSw.at k0.out hltC; have q1 := hSw.at k1.out hltC; have q2 := hSw.at k2.out hltC; have q3 := hSw.at k3.out hltC; have q4 := hSw.at k4.out hltC; have q5 := hSw.at k5.out hltC; have q6 := hSw.at k6.out hltC; have q7 := hSw.at k7.out hltC; have q8 := hSw.at k8.out hltC; have q9 := hSw.at k9.out hltC; clear hSw; go_simp; with_reducible rfl
  simp only [sn]
  refine wpAnyH_ready (rs := [9]) (by kernel_rfl) (by simp) ?_
  refine AllReadyH.cons rfl (fun K hK => ?_) AllReadyH.nil
  go_simp
  go_wp2_with (go_at_call 26; refine (HSG.out _ (by exact hHeld)).mono ?_; rintro e wb ⟨rfl, b8⟩)
  refine hK.out _ _ (b8) (fun hHeld => ?_)
  clear hK K
  refine ht0 10 15 (v := ?v107) (fun _ => ?y107) hHeld ?_
  case y107 => go_simp; with_reducible rfl
  simp only [sn]
  refine ht0 11 16 (v := ?v108) (fun _ => ?y108) hHeld ?_
  case y108 => go_simp; with_reducible rfl
  simp only [sn]
  refine ht0 12 17 (v := ?v109) (fun _ => ?y109) hHeld ?_
  case y109 => go_simp; with_reducible rfl
  simp only [sn]
  refine ht0 13 18 (v := ?v110) (fun _ => ?y110) hHeld ?_
  case y110 => go_simp; with_reducible rfl
  simp only [sn]
  refine ht0 14 19 (v := ?v111) (fun _ => ?y111) hHeld ?_
  case y111 => go_simp; with_reducible rfl
  simp only [sn]
  refine ht 15 20 (v := ?v112) (fun _ hSw => ?y112) hHeld ?_
  case y112 => have q0 := hSw.at m3.out hltH; clear hSw; go_simp; with_reducible rfl
  simp only [sn]
  refine ht0 16 21 (v := ?v113) (fun _ => ?y113) hHeld ?_
  case y113 => go_simp; with_reducible rfl
  simp only [sn]
  refine ht 17 22 (v := ?v114) (fun _ hSw => ?y114) hHeld ?_
  case y114 => have q0 := hSw.at k7.out hltC; clear hSw; go_simp; with_reducible rfl
  simp only [sn]
  refine ht0 18 23 (v := ?v115) (fun _ => ?y115) hHeld ?_
  case y115 => go_simp; with_reducible rfl
  simp only [sn]
  refine ht0 19 24 (v := ?v116) (fun _ => ?y116) hHeld ?_
  case y116 => go_simp; with_reducible rfl
  simp only [sn]
  refine ht0 20 25 (v := ?v117) (fun _ => ?y117) hHeld ?_
  case y117 => go_simp; with_reducible rfl
  simp only [sn]
  refine ht0 21 26 (v := ?v118) (fun _ => ?y118) hHeld ?_
  case y118 => go_simp; with_reducible rfl
  simp only [sn]
  refine ht 22 27 (v := ?v119) (fun _ hSw => ?y119) hHeld ?_
  case y119 => have q0 := hSw.at m1.out hltH; clear hSw; go_simp; with_reducible rfl
  simp only [sn]
  refine ht0 23 28 (v := ?v120) (fun _ => ?y120) hHeld ?_
  case y120 => go_simp; with_reducible rfl
  simp only [sn]
  refine ht0 24 29 (v := ?v121) (fun _ => ?y121) hHeld ?_
  case y121 => go_simp; with_reducible rfl
  simp only [sn]
  refine ht0 25 30 (v := ?v122) (fun _ => ?y122) hHeld ?_
  case y122 => go_simp; with_reducible rfl
  simp only [sn]
  refine ht0 26 31 (v := ?v123) (fun _ => ?y123) hHeld ?_
  case y123 => go_simp; with_reducible rfl
  simp only [sn]
  refine ht 27 32 (v := ?v124) (fun _ hSw => ?y124) hHeld ?_
  case y124 => have q0 := hSw.at m4.out hltH; clear hSw; go_simp; with_reducible rfl
  simp only [sn]
  refine ht0 28 33 (v := ?v125) (fun _ => ?y125) hHeld ?_
  case y125 => go_simp; with_reducible rfl
  simp only [sn]
  refine ht0 29 34 (v := ?v126) (fun _ => ?y126) hHeld ?_
  case y126 => go_simp; with_reducible rfl
  simp only [sn]
  refine ht0 30 35 (v := ?v127) (fun _ => ?y127) hHeld ?_
  case y127 => go_simp; with_reducible rfl
  simp only [sn]
  refine ht0 31 36 (v := ?v128) (fun _ => ?y128) hHeld ?_
  case y128 => go_simp; with_reducible rfl
  simp only [sn]
  refine wpAnyH_ready (rs := [32]) (by kernel_rfl) (by simp) ?_
  refine AllReadyH.cons rfl (fun K hK => ?_) AllReadyH.nil
  go_simp
  refine hK.out _ _ hHeld (fun hHeld => ?_)
  clear hK K
  refine wpAnyH_done (by kernel_rfl) ?_ _
  go_wp2
  go_ret
  exact ⟨rfl, b1.trans (hHeld.mono hz1)⟩

theorem isRightPile_yes (c : Cfg) (hC : okC c = true) (h : Hr) (a b : Option Addr) (cap bc : Nat) (hl : h.hL.length ≤ 4294967296) (hr : rpH c h) (w : World) (ha : HearAt w h a cap b bc) :
    Calls Try.prog 71 #[.agg #[.int .i64 c.cB, .int .i64 c.cBeam, .int .i64 c.cDepth, .int .i64 c.cWin, .int .i64 c.cQs, .int .i64 c.cQr, .int .i64 c.cBatch, .int .i64 c.cPass, .int .i64 c.cMsg, .int .i64 c.cSeqs], .agg #[.int .i64 h.hS, .int .i64 h.hR, .int .i64 h.hN, .int .i64 h.hP, .slice a h.hL.length cap, .bool h.hD, .slice b h.hB.length bc]] w fun e w' => e = .returned (.bool true) ∧ Below w.heap.size w w' := by
  by_cases h3 : h.hR = -1
  · exact isRightPile_e c hC h a b cap bc hl hr.1 hr.2.1 hr.2.2.1 h3 (hr.2.2.2 h3) w ha
  · exact isRightPile_d c hC h a b cap bc hl hr.1 hr.2.1 hr.2.2.1 h3 w ha
theorem isRightPile_not (c : Cfg) (hC : okC c = true) (h : Hr) (a b : Option Addr) (cap bc : Nat) (hl : h.hL.length ≤ 4294967296) (hr : ¬ rpH c h) (w : World) (ha : HearAt w h a cap b bc) :
    Calls Try.prog 71 #[.agg #[.int .i64 c.cB, .int .i64 c.cBeam, .int .i64 c.cDepth, .int .i64 c.cWin, .int .i64 c.cQs, .int .i64 c.cQr, .int .i64 c.cBatch, .int .i64 c.cPass, .int .i64 c.cMsg, .int .i64 c.cSeqs], .agg #[.int .i64 h.hS, .int .i64 h.hR, .int .i64 h.hN, .int .i64 h.hP, .slice a h.hL.length cap, .bool h.hD, .slice b h.hB.length bc]] w fun e w' => e = .returned (.bool false) ∧ Below w.heap.size w w' := by
  by_cases hp : PileOk h.hN h.hP h.hL
  · by_cases h1 : h.hN = segsC c
    · by_cases h2 : h.hP = c.cPass
      · by_cases h3 : h.hR = -1
        · by_cases h4 : h.hL.length = 0
          · exact absurd ⟨hp, h1, h2, fun _ => h4⟩ hr
          · exact isRightPile_f c hC h a b cap bc hl hp h1 h2 h3 h4 w ha
        · exact absurd ⟨hp, h1, h2, fun e => absurd e h3⟩ hr
      · exact isRightPile_c c hC h a b cap bc hl hp h1 h2 w ha
    · exact isRightPile_b c hC h a b cap bc hl hp h1 w ha
  · exact isRightPile_a c hC h a b cap bc hl hp w ha

set_option maxRecDepth 100000 in
set_option maxHeartbeats 4000000 in
theorem hearCheck_a (c : Cfg) (hC : okC c = true) (h : Hr) (a b : Option Addr) (cap bc : Nat) (_hl : h.hL.length ≤ 4294967296) (_hb : h.hB.length ≤ 4096)  (qx : ¬ 0 ≤ h.hS) (w : World) (ha : HearAt w h a cap b bc) :
    Calls Try.prog 50 #[.agg #[.int .i64 c.cB, .int .i64 c.cBeam, .int .i64 c.cDepth, .int .i64 c.cWin, .int .i64 c.cQs, .int .i64 c.cQr, .int .i64 c.cBatch, .int .i64 c.cPass, .int .i64 c.cMsg, .int .i64 c.cSeqs], .agg #[.int .i64 h.hS, .int .i64 h.hR, .int .i64 h.hN, .int .i64 h.hP, .slice a h.hL.length cap, .bool h.hD, .slice b h.hB.length bc]] w fun e w' => e = .returned (.int .i64 1) ∧ Below w.heap.size w w' := by
  obtain ⟨b1, xC, xH⟩ := pre2 w #[.int .i64 c.cB, .int .i64 c.cBeam, .int .i64 c.cDepth, .int .i64 c.cWin, .int .i64 c.cQs, .int .i64 c.cQr, .int .i64 c.cBatch, .int .i64 c.cPass, .int .i64 c.cMsg, .int .i64 c.cSeqs] 23 #[.int .i64 h.hS, .int .i64 h.hR, .int .i64 h.hN, .int .i64 h.hP, .slice a h.hL.length cap, .bool h.hD, .slice b h.hB.length bc] 46
  have H1 := ConfCheck_any c ((w.alloc (.cells #[.int .i64 c.cB, .int .i64 c.cBeam, .int .i64 c.cDepth, .int .i64 c.cWin, .int .i64 c.cQs, .int .i64 c.cQr, .int .i64 c.cBatch, .int .i64 c.cPass, .int .i64 c.cMsg, .int .i64 c.cSeqs] 23)).alloc (.cells #[.int .i64 h.hS, .int .i64 h.hR, .int .i64 h.hN, .int .i64 h.hP, .slice a h.hL.length cap, .bool h.hD, .slice b h.hB.length bc] 46))
  unfold checkA at H1
  rw [if_pos hC] at H1
  have HA : Hid (HearAt ((w.alloc (.cells #[.int .i64 c.cB, .int .i64 c.cBeam, .int .i64 c.cDepth, .int .i64 c.cWin, .int .i64 c.cQs, .int .i64 c.cQr, .int .i64 c.cBatch, .int .i64 c.cPass, .int .i64 c.cMsg, .int .i64 c.cSeqs] 23)).alloc (.cells #[.int .i64 h.hS, .int .i64 h.hR, .int .i64 h.hN, .int .i64 h.hP, .slice a h.hL.length cap, .bool h.hD, .slice b h.hB.length bc] 46)) h a cap b bc) := ha.next b1
  have dx : decide (0 ≤ h.hS) = false := decide_eq_false qx
  clear qx
  clear ha hC
  go_enter Try.func50, Try.ntmps50
  go_wp2_with fail
  refine H1.mono ?_
  rintro e w2 ⟨rfl, b2⟩
  have yC := xC.next b2
  have yH := xH.next b2
  have HA2 : Hid (HearAt w2 h a cap b bc) := HA.out.next b2
  have b3 := b1.trans (b2.mono b1.size)
  clear H1 xC xH b1 b2 HA
  have k0 := yC.cell 0 _ rfl
  have k1 := yC.cell 1 _ rfl
  have k2 := yC.cell 2 _ rfl
  have k3 := yC.cell 3 _ rfl
  have k4 := yC.cell 4 _ rfl
  have k5 := yC.cell 5 _ rfl
  have k6 := yC.cell 6 _ rfl
  have k7 := yC.cell 7 _ rfl
  have k8 := yC.cell 8 _ rfl
  have k9 := yC.cell 9 _ rfl
  have m0 := yH.cell 0 _ rfl
  have m1 := yH.cell 1 _ rfl
  have m2 := yH.cell 2 _ rfl
  have m3 := yH.cell 3 _ rfl
  have m4 := yH.cell 4 _ rfl
  have m5 := yH.cell 5 _ rfl
  have m6 := yH.cell 6 _ rfl
  clear HA2
  go_wp2
  go_ret
  exact ⟨rfl, b3⟩

set_option maxRecDepth 100000 in
set_option maxHeartbeats 4000000 in
theorem hearCheck_b (c : Cfg) (hC : okC c = true) (h : Hr) (a b : Option Addr) (cap bc : Nat) (_hl : h.hL.length ≤ 4294967296) (_hb : h.hB.length ≤ 4096) (q0 : 0 ≤ h.hS) (qx : ¬ -1 ≤ h.hR) (w : World) (ha : HearAt w h a cap b bc) :
    Calls Try.prog 50 #[.agg #[.int .i64 c.cB, .int .i64 c.cBeam, .int .i64 c.cDepth, .int .i64 c.cWin, .int .i64 c.cQs, .int .i64 c.cQr, .int .i64 c.cBatch, .int .i64 c.cPass, .int .i64 c.cMsg, .int .i64 c.cSeqs], .agg #[.int .i64 h.hS, .int .i64 h.hR, .int .i64 h.hN, .int .i64 h.hP, .slice a h.hL.length cap, .bool h.hD, .slice b h.hB.length bc]] w fun e w' => e = .returned (.int .i64 1) ∧ Below w.heap.size w w' := by
  obtain ⟨b1, xC, xH⟩ := pre2 w #[.int .i64 c.cB, .int .i64 c.cBeam, .int .i64 c.cDepth, .int .i64 c.cWin, .int .i64 c.cQs, .int .i64 c.cQr, .int .i64 c.cBatch, .int .i64 c.cPass, .int .i64 c.cMsg, .int .i64 c.cSeqs] 23 #[.int .i64 h.hS, .int .i64 h.hR, .int .i64 h.hN, .int .i64 h.hP, .slice a h.hL.length cap, .bool h.hD, .slice b h.hB.length bc] 46
  have H1 := ConfCheck_any c ((w.alloc (.cells #[.int .i64 c.cB, .int .i64 c.cBeam, .int .i64 c.cDepth, .int .i64 c.cWin, .int .i64 c.cQs, .int .i64 c.cQr, .int .i64 c.cBatch, .int .i64 c.cPass, .int .i64 c.cMsg, .int .i64 c.cSeqs] 23)).alloc (.cells #[.int .i64 h.hS, .int .i64 h.hR, .int .i64 h.hN, .int .i64 h.hP, .slice a h.hL.length cap, .bool h.hD, .slice b h.hB.length bc] 46))
  unfold checkA at H1
  rw [if_pos hC] at H1
  have HA : Hid (HearAt ((w.alloc (.cells #[.int .i64 c.cB, .int .i64 c.cBeam, .int .i64 c.cDepth, .int .i64 c.cWin, .int .i64 c.cQs, .int .i64 c.cQr, .int .i64 c.cBatch, .int .i64 c.cPass, .int .i64 c.cMsg, .int .i64 c.cSeqs] 23)).alloc (.cells #[.int .i64 h.hS, .int .i64 h.hR, .int .i64 h.hN, .int .i64 h.hP, .slice a h.hL.length cap, .bool h.hD, .slice b h.hB.length bc] 46)) h a cap b bc) := ha.next b1
  have d0 : decide (0 ≤ h.hS) = true := decide_eq_true q0
  clear q0
  have dx : decide (-1 ≤ h.hR) = false := decide_eq_false qx
  clear qx
  clear ha hC
  go_enter Try.func50, Try.ntmps50
  go_wp2_with fail
  refine H1.mono ?_
  rintro e w2 ⟨rfl, b2⟩
  have yC := xC.next b2
  have yH := xH.next b2
  have HA2 : Hid (HearAt w2 h a cap b bc) := HA.out.next b2
  have b3 := b1.trans (b2.mono b1.size)
  clear H1 xC xH b1 b2 HA
  have k0 := yC.cell 0 _ rfl
  have k1 := yC.cell 1 _ rfl
  have k2 := yC.cell 2 _ rfl
  have k3 := yC.cell 3 _ rfl
  have k4 := yC.cell 4 _ rfl
  have k5 := yC.cell 5 _ rfl
  have k6 := yC.cell 6 _ rfl
  have k7 := yC.cell 7 _ rfl
  have k8 := yC.cell 8 _ rfl
  have k9 := yC.cell 9 _ rfl
  have m0 := yH.cell 0 _ rfl
  have m1 := yH.cell 1 _ rfl
  have m2 := yH.cell 2 _ rfl
  have m3 := yH.cell 3 _ rfl
  have m4 := yH.cell 4 _ rfl
  have m5 := yH.cell 5 _ rfl
  have m6 := yH.cell 6 _ rfl
  clear HA2
  go_wp2
  go_ret
  exact ⟨rfl, b3⟩

set_option maxRecDepth 100000 in
set_option maxHeartbeats 4000000 in
theorem hearCheck_c (c : Cfg) (hC : okC c = true) (h : Hr) (a b : Option Addr) (cap bc : Nat) (_hl : h.hL.length ≤ 4294967296) (_hb : h.hB.length ≤ 4096) (q0 : 0 ≤ h.hS) (q1 : -1 ≤ h.hR) (qx : ¬ h.hR ≤ 255) (w : World) (ha : HearAt w h a cap b bc) :
    Calls Try.prog 50 #[.agg #[.int .i64 c.cB, .int .i64 c.cBeam, .int .i64 c.cDepth, .int .i64 c.cWin, .int .i64 c.cQs, .int .i64 c.cQr, .int .i64 c.cBatch, .int .i64 c.cPass, .int .i64 c.cMsg, .int .i64 c.cSeqs], .agg #[.int .i64 h.hS, .int .i64 h.hR, .int .i64 h.hN, .int .i64 h.hP, .slice a h.hL.length cap, .bool h.hD, .slice b h.hB.length bc]] w fun e w' => e = .returned (.int .i64 1) ∧ Below w.heap.size w w' := by
  obtain ⟨b1, xC, xH⟩ := pre2 w #[.int .i64 c.cB, .int .i64 c.cBeam, .int .i64 c.cDepth, .int .i64 c.cWin, .int .i64 c.cQs, .int .i64 c.cQr, .int .i64 c.cBatch, .int .i64 c.cPass, .int .i64 c.cMsg, .int .i64 c.cSeqs] 23 #[.int .i64 h.hS, .int .i64 h.hR, .int .i64 h.hN, .int .i64 h.hP, .slice a h.hL.length cap, .bool h.hD, .slice b h.hB.length bc] 46
  have H1 := ConfCheck_any c ((w.alloc (.cells #[.int .i64 c.cB, .int .i64 c.cBeam, .int .i64 c.cDepth, .int .i64 c.cWin, .int .i64 c.cQs, .int .i64 c.cQr, .int .i64 c.cBatch, .int .i64 c.cPass, .int .i64 c.cMsg, .int .i64 c.cSeqs] 23)).alloc (.cells #[.int .i64 h.hS, .int .i64 h.hR, .int .i64 h.hN, .int .i64 h.hP, .slice a h.hL.length cap, .bool h.hD, .slice b h.hB.length bc] 46))
  unfold checkA at H1
  rw [if_pos hC] at H1
  have HA : Hid (HearAt ((w.alloc (.cells #[.int .i64 c.cB, .int .i64 c.cBeam, .int .i64 c.cDepth, .int .i64 c.cWin, .int .i64 c.cQs, .int .i64 c.cQr, .int .i64 c.cBatch, .int .i64 c.cPass, .int .i64 c.cMsg, .int .i64 c.cSeqs] 23)).alloc (.cells #[.int .i64 h.hS, .int .i64 h.hR, .int .i64 h.hN, .int .i64 h.hP, .slice a h.hL.length cap, .bool h.hD, .slice b h.hB.length bc] 46)) h a cap b bc) := ha.next b1
  have d0 : decide (0 ≤ h.hS) = true := decide_eq_true q0
  clear q0
  have d1 : decide (-1 ≤ h.hR) = true := decide_eq_true q1
  clear q1
  have dx : decide (h.hR ≤ 255) = false := decide_eq_false qx
  clear qx
  clear ha hC
  go_enter Try.func50, Try.ntmps50
  go_wp2_with fail
  refine H1.mono ?_
  rintro e w2 ⟨rfl, b2⟩
  have yC := xC.next b2
  have yH := xH.next b2
  have HA2 : Hid (HearAt w2 h a cap b bc) := HA.out.next b2
  have b3 := b1.trans (b2.mono b1.size)
  clear H1 xC xH b1 b2 HA
  have k0 := yC.cell 0 _ rfl
  have k1 := yC.cell 1 _ rfl
  have k2 := yC.cell 2 _ rfl
  have k3 := yC.cell 3 _ rfl
  have k4 := yC.cell 4 _ rfl
  have k5 := yC.cell 5 _ rfl
  have k6 := yC.cell 6 _ rfl
  have k7 := yC.cell 7 _ rfl
  have k8 := yC.cell 8 _ rfl
  have k9 := yC.cell 9 _ rfl
  have m0 := yH.cell 0 _ rfl
  have m1 := yH.cell 1 _ rfl
  have m2 := yH.cell 2 _ rfl
  have m3 := yH.cell 3 _ rfl
  have m4 := yH.cell 4 _ rfl
  have m5 := yH.cell 5 _ rfl
  have m6 := yH.cell 6 _ rfl
  clear HA2
  go_wp2
  go_ret
  exact ⟨rfl, b3⟩

set_option maxRecDepth 100000 in
set_option maxHeartbeats 4000000 in
theorem hearCheck_d (c : Cfg) (hC : okC c = true) (h : Hr) (a b : Option Addr) (cap bc : Nat) (hl : h.hL.length ≤ 4294967296) (_hb : h.hB.length ≤ 4096) (q0 : 0 ≤ h.hS) (q1 : -1 ≤ h.hR) (q2 : h.hR ≤ 255) (hp : ¬ rpH c h) (w : World) (ha : HearAt w h a cap b bc) :
    Calls Try.prog 50 #[.agg #[.int .i64 c.cB, .int .i64 c.cBeam, .int .i64 c.cDepth, .int .i64 c.cWin, .int .i64 c.cQs, .int .i64 c.cQr, .int .i64 c.cBatch, .int .i64 c.cPass, .int .i64 c.cMsg, .int .i64 c.cSeqs], .agg #[.int .i64 h.hS, .int .i64 h.hR, .int .i64 h.hN, .int .i64 h.hP, .slice a h.hL.length cap, .bool h.hD, .slice b h.hB.length bc]] w fun e w' => e = .returned (.int .i64 1) ∧ Below w.heap.size w w' := by
  obtain ⟨b1, xC, xH⟩ := pre2 w #[.int .i64 c.cB, .int .i64 c.cBeam, .int .i64 c.cDepth, .int .i64 c.cWin, .int .i64 c.cQs, .int .i64 c.cQr, .int .i64 c.cBatch, .int .i64 c.cPass, .int .i64 c.cMsg, .int .i64 c.cSeqs] 23 #[.int .i64 h.hS, .int .i64 h.hR, .int .i64 h.hN, .int .i64 h.hP, .slice a h.hL.length cap, .bool h.hD, .slice b h.hB.length bc] 46
  have H1 := ConfCheck_any c ((w.alloc (.cells #[.int .i64 c.cB, .int .i64 c.cBeam, .int .i64 c.cDepth, .int .i64 c.cWin, .int .i64 c.cQs, .int .i64 c.cQr, .int .i64 c.cBatch, .int .i64 c.cPass, .int .i64 c.cMsg, .int .i64 c.cSeqs] 23)).alloc (.cells #[.int .i64 h.hS, .int .i64 h.hR, .int .i64 h.hN, .int .i64 h.hP, .slice a h.hL.length cap, .bool h.hD, .slice b h.hB.length bc] 46))
  unfold checkA at H1
  rw [if_pos hC] at H1
  have HP : Hid (∀ wx : World, HearAt wx h a cap b bc → Calls Try.prog 71 #[.agg #[.int .i64 c.cB, .int .i64 c.cBeam, .int .i64 c.cDepth, .int .i64 c.cWin, .int .i64 c.cQs, .int .i64 c.cQr, .int .i64 c.cBatch, .int .i64 c.cPass, .int .i64 c.cMsg, .int .i64 c.cSeqs], .agg #[.int .i64 h.hS, .int .i64 h.hR, .int .i64 h.hN, .int .i64 h.hP, .slice a h.hL.length cap, .bool h.hD, .slice b h.hB.length bc]] wx fun e w' => e = .returned (.bool false) ∧ Below wx.heap.size wx w') := fun wx hx => isRightPile_not c hC h a b cap bc hl hp wx hx
  have HA : Hid (HearAt ((w.alloc (.cells #[.int .i64 c.cB, .int .i64 c.cBeam, .int .i64 c.cDepth, .int .i64 c.cWin, .int .i64 c.cQs, .int .i64 c.cQr, .int .i64 c.cBatch, .int .i64 c.cPass, .int .i64 c.cMsg, .int .i64 c.cSeqs] 23)).alloc (.cells #[.int .i64 h.hS, .int .i64 h.hR, .int .i64 h.hN, .int .i64 h.hP, .slice a h.hL.length cap, .bool h.hD, .slice b h.hB.length bc] 46)) h a cap b bc) := ha.next b1
  have d0 : decide (0 ≤ h.hS) = true := decide_eq_true q0
  clear q0
  have d1 : decide (-1 ≤ h.hR) = true := decide_eq_true q1
  clear q1
  have d2 : decide (h.hR ≤ 255) = true := decide_eq_true q2
  clear q2
  clear ha hl hC hp
  go_enter Try.func50, Try.ntmps50
  go_wp2_with fail
  refine H1.mono ?_
  rintro e w2 ⟨rfl, b2⟩
  have yC := xC.next b2
  have yH := xH.next b2
  have HA2 : Hid (HearAt w2 h a cap b bc) := HA.out.next b2
  have b3 := b1.trans (b2.mono b1.size)
  clear H1 xC xH b1 b2 HA
  have k0 := yC.cell 0 _ rfl
  have k1 := yC.cell 1 _ rfl
  have k2 := yC.cell 2 _ rfl
  have k3 := yC.cell 3 _ rfl
  have k4 := yC.cell 4 _ rfl
  have k5 := yC.cell 5 _ rfl
  have k6 := yC.cell 6 _ rfl
  have k7 := yC.cell 7 _ rfl
  have k8 := yC.cell 8 _ rfl
  have k9 := yC.cell 9 _ rfl
  have m0 := yH.cell 0 _ rfl
  have m1 := yH.cell 1 _ rfl
  have m2 := yH.cell 2 _ rfl
  have m3 := yH.cell 3 _ rfl
  have m4 := yH.cell 4 _ rfl
  have m5 := yH.cell 5 _ rfl
  have m6 := yH.cell 6 _ rfl
  go_wp2_with fail
  refine (HP.out _ HA2.out).mono ?_
  rintro e w4 ⟨rfl, b4⟩
  go_wp2
  go_ret
  exact ⟨rfl, b3.trans (b4.mono b3.size)⟩

set_option maxRecDepth 100000 in
set_option maxHeartbeats 4000000 in
theorem hearCheck_e (c : Cfg) (hC : okC c = true) (h : Hr) (a b : Option Addr) (cap bc : Nat) (hl : h.hL.length ≤ 4294967296) (hb : h.hB.length ≤ 4096) (q0 : 0 ≤ h.hS) (q1 : -1 ≤ h.hR) (q2 : h.hR ≤ 255) (hp : rpH c h) (hrb : rbH c h = false) (w : World) (ha : HearAt w h a cap b bc) :
    Calls Try.prog 50 #[.agg #[.int .i64 c.cB, .int .i64 c.cBeam, .int .i64 c.cDepth, .int .i64 c.cWin, .int .i64 c.cQs, .int .i64 c.cQr, .int .i64 c.cBatch, .int .i64 c.cPass, .int .i64 c.cMsg, .int .i64 c.cSeqs], .agg #[.int .i64 h.hS, .int .i64 h.hR, .int .i64 h.hN, .int .i64 h.hP, .slice a h.hL.length cap, .bool h.hD, .slice b h.hB.length bc]] w fun e w' => e = .returned (.int .i64 1) ∧ Below w.heap.size w w' := by
  obtain ⟨b1, xC, xH⟩ := pre2 w #[.int .i64 c.cB, .int .i64 c.cBeam, .int .i64 c.cDepth, .int .i64 c.cWin, .int .i64 c.cQs, .int .i64 c.cQr, .int .i64 c.cBatch, .int .i64 c.cPass, .int .i64 c.cMsg, .int .i64 c.cSeqs] 23 #[.int .i64 h.hS, .int .i64 h.hR, .int .i64 h.hN, .int .i64 h.hP, .slice a h.hL.length cap, .bool h.hD, .slice b h.hB.length bc] 46
  have H1 := ConfCheck_any c ((w.alloc (.cells #[.int .i64 c.cB, .int .i64 c.cBeam, .int .i64 c.cDepth, .int .i64 c.cWin, .int .i64 c.cQs, .int .i64 c.cQr, .int .i64 c.cBatch, .int .i64 c.cPass, .int .i64 c.cMsg, .int .i64 c.cSeqs] 23)).alloc (.cells #[.int .i64 h.hS, .int .i64 h.hR, .int .i64 h.hN, .int .i64 h.hP, .slice a h.hL.length cap, .bool h.hD, .slice b h.hB.length bc] 46))
  unfold checkA at H1
  rw [if_pos hC] at H1
  have HP : Hid (∀ wx : World, HearAt wx h a cap b bc → Calls Try.prog 71 #[.agg #[.int .i64 c.cB, .int .i64 c.cBeam, .int .i64 c.cDepth, .int .i64 c.cWin, .int .i64 c.cQs, .int .i64 c.cQr, .int .i64 c.cBatch, .int .i64 c.cPass, .int .i64 c.cMsg, .int .i64 c.cSeqs], .agg #[.int .i64 h.hS, .int .i64 h.hR, .int .i64 h.hN, .int .i64 h.hP, .slice a h.hL.length cap, .bool h.hD, .slice b h.hB.length bc]] wx fun e w' => e = .returned (.bool true) ∧ Below wx.heap.size wx w') := fun wx hx => isRightPile_yes c hC h a b cap bc hl hp wx hx
  have HB : Hid (∀ wx : World, HearAt wx h a cap b bc → Calls Try.prog 72 #[.agg #[.int .i64 c.cB, .int .i64 c.cBeam, .int .i64 c.cDepth, .int .i64 c.cWin, .int .i64 c.cQs, .int .i64 c.cQr, .int .i64 c.cBatch, .int .i64 c.cPass, .int .i64 c.cMsg, .int .i64 c.cSeqs], .agg #[.int .i64 h.hS, .int .i64 h.hR, .int .i64 h.hN, .int .i64 h.hP, .slice a h.hL.length cap, .bool h.hD, .slice b h.hB.length bc]] wx fun e w' => e = .returned (.bool false) ∧ Below wx.heap.size wx w') := fun wx hx => hrb ▸ isRightBytes_any c hC h a b cap bc hb wx hx
  have HA : Hid (HearAt ((w.alloc (.cells #[.int .i64 c.cB, .int .i64 c.cBeam, .int .i64 c.cDepth, .int .i64 c.cWin, .int .i64 c.cQs, .int .i64 c.cQr, .int .i64 c.cBatch, .int .i64 c.cPass, .int .i64 c.cMsg, .int .i64 c.cSeqs] 23)).alloc (.cells #[.int .i64 h.hS, .int .i64 h.hR, .int .i64 h.hN, .int .i64 h.hP, .slice a h.hL.length cap, .bool h.hD, .slice b h.hB.length bc] 46)) h a cap b bc) := ha.next b1
  have d0 : decide (0 ≤ h.hS) = true := decide_eq_true q0
  clear q0
  have d1 : decide (-1 ≤ h.hR) = true := decide_eq_true q1
  clear q1
  have d2 : decide (h.hR ≤ 255) = true := decide_eq_true q2
  clear q2
  clear ha hl hb hC hp hrb
  go_enter Try.func50, Try.ntmps50
  go_wp2_with fail
  refine H1.mono ?_
  rintro e w2 ⟨rfl, b2⟩
  have yC := xC.next b2
  have yH := xH.next b2
  have HA2 : Hid (HearAt w2 h a cap b bc) := HA.out.next b2
  have b3 := b1.trans (b2.mono b1.size)
  clear H1 xC xH b1 b2 HA
  have k0 := yC.cell 0 _ rfl
  have k1 := yC.cell 1 _ rfl
  have k2 := yC.cell 2 _ rfl
  have k3 := yC.cell 3 _ rfl
  have k4 := yC.cell 4 _ rfl
  have k5 := yC.cell 5 _ rfl
  have k6 := yC.cell 6 _ rfl
  have k7 := yC.cell 7 _ rfl
  have k8 := yC.cell 8 _ rfl
  have k9 := yC.cell 9 _ rfl
  have m0 := yH.cell 0 _ rfl
  have m1 := yH.cell 1 _ rfl
  have m2 := yH.cell 2 _ rfl
  have m3 := yH.cell 3 _ rfl
  have m4 := yH.cell 4 _ rfl
  have m5 := yH.cell 5 _ rfl
  have m6 := yH.cell 6 _ rfl
  go_wp2_with fail
  refine (HP.out _ HA2.out).mono ?_
  rintro e w4 ⟨rfl, b4⟩
  have zC := yC.next b4
  have zH := yH.next b4
  have HA4 : Hid (HearAt w4 h a cap b bc) := HA2.out.next b4
  have b5 := b3.trans (b4.mono b3.size)
  clear HP yC yH b3 b4 HA2 k0 k1 k2 k3 k4 k5 k6 k7 k8 k9 m0 m1 m2 m3 m4 m5 m6
  have k0 := zC.cell 0 _ rfl
  have k1 := zC.cell 1 _ rfl
  have k2 := zC.cell 2 _ rfl
  have k3 := zC.cell 3 _ rfl
  have k4 := zC.cell 4 _ rfl
  have k5 := zC.cell 5 _ rfl
  have k6 := zC.cell 6 _ rfl
  have k7 := zC.cell 7 _ rfl
  have k8 := zC.cell 8 _ rfl
  have k9 := zC.cell 9 _ rfl
  have m0 := zH.cell 0 _ rfl
  have m1 := zH.cell 1 _ rfl
  have m2 := zH.cell 2 _ rfl
  have m3 := zH.cell 3 _ rfl
  have m4 := zH.cell 4 _ rfl
  have m5 := zH.cell 5 _ rfl
  have m6 := zH.cell 6 _ rfl
  go_wp2_with fail
  refine (HB.out _ HA4.out).mono ?_
  rintro e w6 ⟨rfl, b6⟩
  go_wp2
  go_ret
  exact ⟨rfl, b5.trans (b6.mono b5.size)⟩

set_option maxRecDepth 100000 in
set_option maxHeartbeats 4000000 in
theorem hearCheck_f (c : Cfg) (hC : okC c = true) (h : Hr) (a b : Option Addr) (cap bc : Nat) (hl : h.hL.length ≤ 4294967296) (hb : h.hB.length ≤ 4096) (q0 : 0 ≤ h.hS) (q1 : -1 ≤ h.hR) (q2 : h.hR ≤ 255) (hp : rpH c h) (hrb : rbH c h = true) (w : World) (ha : HearAt w h a cap b bc) :
    Calls Try.prog 50 #[.agg #[.int .i64 c.cB, .int .i64 c.cBeam, .int .i64 c.cDepth, .int .i64 c.cWin, .int .i64 c.cQs, .int .i64 c.cQr, .int .i64 c.cBatch, .int .i64 c.cPass, .int .i64 c.cMsg, .int .i64 c.cSeqs], .agg #[.int .i64 h.hS, .int .i64 h.hR, .int .i64 h.hN, .int .i64 h.hP, .slice a h.hL.length cap, .bool h.hD, .slice b h.hB.length bc]] w fun e w' => e = .returned (.int .i64 0) ∧ Below w.heap.size w w' := by
  obtain ⟨b1, xC, xH⟩ := pre2 w #[.int .i64 c.cB, .int .i64 c.cBeam, .int .i64 c.cDepth, .int .i64 c.cWin, .int .i64 c.cQs, .int .i64 c.cQr, .int .i64 c.cBatch, .int .i64 c.cPass, .int .i64 c.cMsg, .int .i64 c.cSeqs] 23 #[.int .i64 h.hS, .int .i64 h.hR, .int .i64 h.hN, .int .i64 h.hP, .slice a h.hL.length cap, .bool h.hD, .slice b h.hB.length bc] 46
  have H1 := ConfCheck_any c ((w.alloc (.cells #[.int .i64 c.cB, .int .i64 c.cBeam, .int .i64 c.cDepth, .int .i64 c.cWin, .int .i64 c.cQs, .int .i64 c.cQr, .int .i64 c.cBatch, .int .i64 c.cPass, .int .i64 c.cMsg, .int .i64 c.cSeqs] 23)).alloc (.cells #[.int .i64 h.hS, .int .i64 h.hR, .int .i64 h.hN, .int .i64 h.hP, .slice a h.hL.length cap, .bool h.hD, .slice b h.hB.length bc] 46))
  unfold checkA at H1
  rw [if_pos hC] at H1
  have HP : Hid (∀ wx : World, HearAt wx h a cap b bc → Calls Try.prog 71 #[.agg #[.int .i64 c.cB, .int .i64 c.cBeam, .int .i64 c.cDepth, .int .i64 c.cWin, .int .i64 c.cQs, .int .i64 c.cQr, .int .i64 c.cBatch, .int .i64 c.cPass, .int .i64 c.cMsg, .int .i64 c.cSeqs], .agg #[.int .i64 h.hS, .int .i64 h.hR, .int .i64 h.hN, .int .i64 h.hP, .slice a h.hL.length cap, .bool h.hD, .slice b h.hB.length bc]] wx fun e w' => e = .returned (.bool true) ∧ Below wx.heap.size wx w') := fun wx hx => isRightPile_yes c hC h a b cap bc hl hp wx hx
  have HB : Hid (∀ wx : World, HearAt wx h a cap b bc → Calls Try.prog 72 #[.agg #[.int .i64 c.cB, .int .i64 c.cBeam, .int .i64 c.cDepth, .int .i64 c.cWin, .int .i64 c.cQs, .int .i64 c.cQr, .int .i64 c.cBatch, .int .i64 c.cPass, .int .i64 c.cMsg, .int .i64 c.cSeqs], .agg #[.int .i64 h.hS, .int .i64 h.hR, .int .i64 h.hN, .int .i64 h.hP, .slice a h.hL.length cap, .bool h.hD, .slice b h.hB.length bc]] wx fun e w' => e = .returned (.bool true) ∧ Below wx.heap.size wx w') := fun wx hx => hrb ▸ isRightBytes_any c hC h a b cap bc hb wx hx
  have HA : Hid (HearAt ((w.alloc (.cells #[.int .i64 c.cB, .int .i64 c.cBeam, .int .i64 c.cDepth, .int .i64 c.cWin, .int .i64 c.cQs, .int .i64 c.cQr, .int .i64 c.cBatch, .int .i64 c.cPass, .int .i64 c.cMsg, .int .i64 c.cSeqs] 23)).alloc (.cells #[.int .i64 h.hS, .int .i64 h.hR, .int .i64 h.hN, .int .i64 h.hP, .slice a h.hL.length cap, .bool h.hD, .slice b h.hB.length bc] 46)) h a cap b bc) := ha.next b1
  have d0 : decide (0 ≤ h.hS) = true := decide_eq_true q0
  clear q0
  have d1 : decide (-1 ≤ h.hR) = true := decide_eq_true q1
  clear q1
  have d2 : decide (h.hR ≤ 255) = true := decide_eq_true q2
  clear q2
  clear ha hl hb hC hp hrb
  go_enter Try.func50, Try.ntmps50
  go_wp2_with fail
  refine H1.mono ?_
  rintro e w2 ⟨rfl, b2⟩
  have yC := xC.next b2
  have yH := xH.next b2
  have HA2 : Hid (HearAt w2 h a cap b bc) := HA.out.next b2
  have b3 := b1.trans (b2.mono b1.size)
  clear H1 xC xH b1 b2 HA
  have k0 := yC.cell 0 _ rfl
  have k1 := yC.cell 1 _ rfl
  have k2 := yC.cell 2 _ rfl
  have k3 := yC.cell 3 _ rfl
  have k4 := yC.cell 4 _ rfl
  have k5 := yC.cell 5 _ rfl
  have k6 := yC.cell 6 _ rfl
  have k7 := yC.cell 7 _ rfl
  have k8 := yC.cell 8 _ rfl
  have k9 := yC.cell 9 _ rfl
  have m0 := yH.cell 0 _ rfl
  have m1 := yH.cell 1 _ rfl
  have m2 := yH.cell 2 _ rfl
  have m3 := yH.cell 3 _ rfl
  have m4 := yH.cell 4 _ rfl
  have m5 := yH.cell 5 _ rfl
  have m6 := yH.cell 6 _ rfl
  go_wp2_with fail
  refine (HP.out _ HA2.out).mono ?_
  rintro e w4 ⟨rfl, b4⟩
  have zC := yC.next b4
  have zH := yH.next b4
  have HA4 : Hid (HearAt w4 h a cap b bc) := HA2.out.next b4
  have b5 := b3.trans (b4.mono b3.size)
  clear HP yC yH b3 b4 HA2 k0 k1 k2 k3 k4 k5 k6 k7 k8 k9 m0 m1 m2 m3 m4 m5 m6
  have k0 := zC.cell 0 _ rfl
  have k1 := zC.cell 1 _ rfl
  have k2 := zC.cell 2 _ rfl
  have k3 := zC.cell 3 _ rfl
  have k4 := zC.cell 4 _ rfl
  have k5 := zC.cell 5 _ rfl
  have k6 := zC.cell 6 _ rfl
  have k7 := zC.cell 7 _ rfl
  have k8 := zC.cell 8 _ rfl
  have k9 := zC.cell 9 _ rfl
  have m0 := zH.cell 0 _ rfl
  have m1 := zH.cell 1 _ rfl
  have m2 := zH.cell 2 _ rfl
  have m3 := zH.cell 3 _ rfl
  have m4 := zH.cell 4 _ rfl
  have m5 := zH.cell 5 _ rfl
  have m6 := zH.cell 6 _ rfl
  go_wp2_with fail
  refine (HB.out _ HA4.out).mono ?_
  rintro e w6 ⟨rfl, b6⟩
  go_wp2
  go_ret
  exact ⟨rfl, b5.trans (b6.mono b5.size)⟩

set_option maxRecDepth 100000 in
set_option maxHeartbeats 4000000 in
theorem hearCheck_conf (c : Cfg) (hC : ¬ okC c = true) (h : Hr) (a b : Option Addr) (cap bc : Nat) (w : World) :
    Calls Try.prog 50 #[.agg #[.int .i64 c.cB, .int .i64 c.cBeam, .int .i64 c.cDepth, .int .i64 c.cWin, .int .i64 c.cQs, .int .i64 c.cQr, .int .i64 c.cBatch, .int .i64 c.cPass, .int .i64 c.cMsg, .int .i64 c.cSeqs], .agg #[.int .i64 h.hS, .int .i64 h.hR, .int .i64 h.hN, .int .i64 h.hP, .slice a h.hL.length cap, .bool h.hD, .slice b h.hB.length bc]] w fun e w' => e = .returned (.int .i64 1) ∧ Below w.heap.size w w' := by
  obtain ⟨b1, _, _⟩ := pre2 w #[.int .i64 c.cB, .int .i64 c.cBeam, .int .i64 c.cDepth, .int .i64 c.cWin, .int .i64 c.cQs, .int .i64 c.cQr, .int .i64 c.cBatch, .int .i64 c.cPass, .int .i64 c.cMsg, .int .i64 c.cSeqs] 23 #[.int .i64 h.hS, .int .i64 h.hR, .int .i64 h.hN, .int .i64 h.hP, .slice a h.hL.length cap, .bool h.hD, .slice b h.hB.length bc] 46
  have H1 := ConfCheck_any c ((w.alloc (.cells #[.int .i64 c.cB, .int .i64 c.cBeam, .int .i64 c.cDepth, .int .i64 c.cWin, .int .i64 c.cQs, .int .i64 c.cQr, .int .i64 c.cBatch, .int .i64 c.cPass, .int .i64 c.cMsg, .int .i64 c.cSeqs] 23)).alloc (.cells #[.int .i64 h.hS, .int .i64 h.hR, .int .i64 h.hN, .int .i64 h.hP, .slice a h.hL.length cap, .bool h.hD, .slice b h.hB.length bc] 46))
  unfold checkA at H1
  rw [if_neg hC] at H1
  clear hC
  go_enter Try.func50, Try.ntmps50
  go_wp2_with fail
  refine H1.mono ?_
  rintro e w2 ⟨rfl, b2⟩
  go_wp2
  go_ret
  exact ⟨rfl, b1.trans (b2.mono b1.size)⟩

theorem HearCheck_no (c : Cfg) (h : Hr) (hn : ¬ (okC c = true ∧ okH c h)) (hl : h.hL.length ≤ 4294967296) (hb : h.hB.length ≤ 4096) (a b : Option Addr) (cap bc : Nat) (w : World) (ha : HearAt w h a cap b bc) :
    Calls Try.prog 50 #[.agg #[.int .i64 c.cB, .int .i64 c.cBeam, .int .i64 c.cDepth, .int .i64 c.cWin, .int .i64 c.cQs, .int .i64 c.cQr, .int .i64 c.cBatch, .int .i64 c.cPass, .int .i64 c.cMsg, .int .i64 c.cSeqs], .agg #[.int .i64 h.hS, .int .i64 h.hR, .int .i64 h.hN, .int .i64 h.hP, .slice a h.hL.length cap, .bool h.hD, .slice b h.hB.length bc]] w fun e w' => e = .returned (.int .i64 1) ∧ Below w.heap.size w w' := by
  by_cases hC : okC c = true
  · rw [okH_parts] at hn
    by_cases q0 : 0 ≤ h.hS
    · by_cases q1 : -1 ≤ h.hR
      · by_cases q2 : h.hR ≤ 255
        · by_cases hp : rpH c h
          · cases hrb : rbH c h with
            | true => exact absurd ⟨hC, q0, q1, q2, hp, hrb⟩ hn
            | false => exact hearCheck_e c hC h a b cap bc hl hb q0 q1 q2 hp hrb w ha
          · exact hearCheck_d c hC h a b cap bc hl hb q0 q1 q2 hp w ha
        · exact hearCheck_c c hC h a b cap bc hl hb q0 q1 q2 w ha
      · exact hearCheck_b c hC h a b cap bc hl hb q0 q1 w ha
    · exact hearCheck_a c hC h a b cap bc hl hb q0 w ha
  · exact hearCheck_conf c hC h a b cap bc w

theorem okH_lens {c : Cfg} (hC : okC c = true) {h : Hr} (hk : okH c h) : h.hL.length ≤ 4294967296 ∧ h.hB.length ≤ 4096 := by
  have h1 := pile_len hk.2.2.1
  have h2 := hk.2.2.1.1.prod
  have h3 := ((okC_iff c).1 hC).1
  refine ⟨by omega, ?_⟩
  cases hd : h.hD with
  | true => have := ((blockB_iff _ _ _).1 (hk.2.2.2.2.2.2.1 hd)).1; omega
  | false => rw [hk.2.2.2.2.2.2.2 hd]; exact Nat.zero_le _
theorem HearCheck_ok (c : Cfg) (h : Hr) (hC : okC c = true) (hk : okH c h) (a b : Option Addr) (cap bc : Nat) (w : World) (ha : HearAt w h a cap b bc) :
    Calls Try.prog 50 #[.agg #[.int .i64 c.cB, .int .i64 c.cBeam, .int .i64 c.cDepth, .int .i64 c.cWin, .int .i64 c.cQs, .int .i64 c.cQr, .int .i64 c.cBatch, .int .i64 c.cPass, .int .i64 c.cMsg, .int .i64 c.cSeqs], .agg #[.int .i64 h.hS, .int .i64 h.hR, .int .i64 h.hN, .int .i64 h.hP, .slice a h.hL.length cap, .bool h.hD, .slice b h.hB.length bc]] w fun e w' => e = .returned (.int .i64 0) ∧ Below w.heap.size w w' := by
  obtain ⟨hl, hb⟩ := okH_lens hC hk
  obtain ⟨q0, q1, q2, hp, hrb⟩ := okH_parts.1 hk
  exact hearCheck_f c hC h a b cap bc hl hb q0 q1 q2 hp hrb w ha

set_option maxRecDepth 100000 in
set_option maxHeartbeats 4000000 in
theorem HearNew_ok (c : Cfg) (s : Int) (h : okC c = true) (hs : 0 ≤ s) (w : World) :
    Calls Try.prog 11 #[.agg #[.int .i64 c.cB, .int .i64 c.cBeam, .int .i64 c.cDepth, .int .i64 c.cWin, .int .i64 c.cQs, .int .i64 c.cQr, .int .i64 c.cBatch, .int .i64 c.cPass, .int .i64 c.cMsg, .int .i64 c.cSeqs], .int .i64 s] w fun e W' => ∃ a cap b bc, e = .returned (.tuple #[.agg #[.int .i64 s, .int .i64 (-1), .int .i64 (segsC c), .int .i64 c.cPass, .slice a 0 cap, .bool false, .slice b 0 bc], .int .i64 0]) ∧ OwnHear w.heap.size W' (newH c s) a cap b bc ∧ Below w.heap.size w W' := by
  obtain ⟨b1, xC, xR⟩ := pre2 w #[.int .i64 c.cB, .int .i64 c.cBeam, .int .i64 c.cDepth, .int .i64 c.cWin, .int .i64 c.cQs, .int .i64 c.cQr, .int .i64 c.cBatch, .int .i64 c.cPass, .int .i64 c.cMsg, .int .i64 c.cSeqs] 23 #[.int .i64 0, .int .i64 0, .int .i64 0, .int .i64 0, .slice none 0 0, .bool false, .slice none 0 0] 46
  have H1 := ConfCheck_any c ((w.alloc (.cells #[.int .i64 c.cB, .int .i64 c.cBeam, .int .i64 c.cDepth, .int .i64 c.cWin, .int .i64 c.cQs, .int .i64 c.cQr, .int .i64 c.cBatch, .int .i64 c.cPass, .int .i64 c.cMsg, .int .i64 c.cSeqs] 23)).alloc (.cells #[.int .i64 0, .int .i64 0, .int .i64 0, .int .i64 0, .slice none 0 0, .bool false, .slice none 0 0] 46))
  unfold checkA at H1
  rw [if_pos h] at H1
  have ds : decide (s < 0) = false := decide_eq_false (by omega)
  have hHd := headOk_conf h
  have hC := h
  clear h hs
  go_enter Try.func11, Try.ntmps11
  go_wp2_with fail
  refine H1.mono ?_
  rintro e w2 ⟨rfl, b2⟩
  have yC := xC.next b2
  have yR := xR.next b2
  have b3 := b1.trans (b2.mono b1.size)
  clear H1 xC xR b1 b2
  have k0 : Hid (w2.cell? ⟨w.heap.size, 0, none⟩ = some (.int .i64 c.cB)) := yC.cell 0 _ rfl
  have k1 : Hid (w2.cell? ⟨w.heap.size, 1, none⟩ = some (.int .i64 c.cBeam)) := yC.cell 1 _ rfl
  have k2 : Hid (w2.cell? ⟨w.heap.size, 2, none⟩ = some (.int .i64 c.cDepth)) := yC.cell 2 _ rfl
  have k3 : Hid (w2.cell? ⟨w.heap.size, 3, none⟩ = some (.int .i64 c.cWin)) := yC.cell 3 _ rfl
  have k4 : Hid (w2.cell? ⟨w.heap.size, 4, none⟩ = some (.int .i64 c.cQs)) := yC.cell 4 _ rfl
  have k5 : Hid (w2.cell? ⟨w.heap.size, 5, none⟩ = some (.int .i64 c.cQr)) := yC.cell 5 _ rfl
  have k6 : Hid (w2.cell? ⟨w.heap.size, 6, none⟩ = some (.int .i64 c.cBatch)) := yC.cell 6 _ rfl
  have k7 : Hid (w2.cell? ⟨w.heap.size, 7, none⟩ = some (.int .i64 c.cPass)) := yC.cell 7 _ rfl
  have k8 : Hid (w2.cell? ⟨w.heap.size, 8, none⟩ = some (.int .i64 c.cMsg)) := yC.cell 8 _ rfl
  have k9 : Hid (w2.cell? ⟨w.heap.size, 9, none⟩ = some (.int .i64 c.cSeqs)) := yC.cell 9 _ rfl
  have hltC := yC.lt
  have HSG : Hid (∀ wx : World, Below w2.heap.size w2 wx → Calls Try.prog 26 #[.agg #[.int .i64 c.cB, .int .i64 c.cBeam, .int .i64 c.cDepth, .int .i64 c.cWin, .int .i64 c.cQs, .int .i64 c.cQr, .int .i64 c.cBatch, .int .i64 c.cPass, .int .i64 c.cMsg, .int .i64 c.cSeqs]] wx fun e w' => e = .returned (.int .i64 (segsC c)) ∧ Below w2.heap.size w2 w' ∧ Below wx.heap.size wx w') := fun wx hw => by
    have := ConfSegs_any c wx
    unfold segsA at this
    rw [if_pos hC] at this
    exact this.mono fun e w' ⟨h, b⟩ => ⟨h, hw.trans (b.mono hw.size), b⟩
  have HPN : Hid (∀ wx : World, Below w2.heap.size w2 wx → Calls Try.prog 25 #[.int .i64 (segsC c), .int .i64 c.cPass] wx fun e w' => e = .returned (.tuple #[.agg #[.int .i64 (segsC c), .int .i64 c.cPass, .slice none 0 0], .int .i64 0]) ∧ Below w2.heap.size w2 w' ∧ Below wx.heap.size wx w') := fun wx hw => (New_ok (segsC c) c.cPass hHd wx).mono fun e w' ⟨h, b⟩ => ⟨h, hw.trans (b.mono hw.size), b⟩
  clear yC hC hHd
  go_upto_region 6 with fail
  have hS : Below w2.heap.size w2 w2.drew := (Below.refl _ _).drew
  refine wp_region_held_drew (S := fun w' => Below w2.heap.size w2 w') (by kernel_rfl) (hS) (fun hHeld => ?_)
  generalize w2.drew = wk0 at *
  refine ht 0 19 (v := ?v129) (fun _ hSw => ?y129) hHeld ?_
  case y129 => have q0 := hSw.at k0.out hltC; have q1 := hSw.at k1.out hltC; have q2 := hSw.at k2.out hltC; have q3 := hSw.at k3.out hltC; have q4 := hSw.at k4.out hltC; have q5 := hSw.at k5.out hltC; have q6 := hSw.at k6.out hltC; have q7 := hSw.at k7.out hltC; have q8 := hSw.at k8.out hltC; have q9 := hSw.at k9.out hltC; clear hSw; go_simp; with_reducible rfl
  simp only [sn]
  refine ht0 2 21 (v := ?v130) (fun _ => ?y130) hHeld ?_
  case y130 => go_simp; with_reducible rfl
  simp only [sn]
  refine ht 3 22 (v := ?v131) (fun _ hSw => ?y131) hHeld ?_
  case y131 => have q0 := hSw.at k7.out hltC; clear hSw; go_simp; with_reducible rfl
  simp only [sn]
  refine wpAnyH_ready (rs := [1, 8]) (by kernel_rfl) (by simp) ?_
  refine AllReadyH.cons rfl (fun K hK => ?_) ?_
  · go_simp
    go_wp2_with (go_at_call 26; refine (HSG.out _ (by exact hS)).mono ?_; rintro e wk1 ⟨rfl, b8, b7⟩)
    replace hS := b8
    clear b8 b7
    refine hK.out _ _ (hS) (fun hHeld => ?_)
    clear hK K
    refine wpAnyH_ready (rs := [4, 8]) (by kernel_rfl) (by simp) ?_
    refine AllReadyH.cons rfl (fun K hK => ?_) ?_
    · go_simp
      go_wp2_with (go_at_call 25; refine (HPN.out _ (by exact hS)).mono ?_; rintro e wk2 ⟨rfl, b8, b7⟩)
      replace hS := b8
      clear b8 b7
      refine hK.out _ _ (hS) (fun hHeld => ?_)
      clear hK K
      refine ht0 5 18 (v := ?v132) (fun _ => ?y132) hHeld ?_
      case y132 => go_simp; with_reducible rfl
      simp only [sn]
      refine ht0 6 24 (v := ?v133) (fun _ => ?y133) hHeld ?_
      case y133 => go_simp; with_reducible rfl
      simp only [sn]
      refine ht0 7 25 (v := ?v134) (fun _ => ?y134) hHeld ?_
      case y134 => go_simp; with_reducible rfl
      simp only [sn]
      refine wpAnyH_ready (rs := [8]) (by kernel_rfl) (by simp) ?_
      refine AllReadyH.cons rfl (fun K hK => ?_) AllReadyH.nil
      go_simp
      have x7 := Box.new wk2 44 #[.int .i64 0, .int .i64 0, .slice none 0 0]
      have hn7 : w2.heap.size ≤ wk2.heap.size := hS.size
      replace hS := hS.alloc hS.size (.cells #[.int .i64 0, .int .i64 0, .slice none 0 0] 44)
      generalize wk2.alloc (.cells #[.int .i64 0, .int .i64 0, .slice none 0 0] 44) = wk3 at *
      refine hK.out _ _ (hS) (fun hHeld => ?_)
      clear hK K
      refine wpAnyH_ready (rs := [9]) (by kernel_rfl) (by simp) ?_
      refine AllReadyH.cons rfl (fun K hK => ?_) AllReadyH.nil
      have y0 := x7.cell 0 _ rfl
      have y1 := x7.cell 1 _ rfl
      have y2 := x7.cell 2 _ rfl
      have u0 := x7.free 0
      have u1 := x7.free 1
      have u2 := x7.free 2
      have hltq := x7.lt
      go_simp
      replace x7 := x7.set3 (.int .i64 (segsC c)) (.int .i64 c.cPass) (.slice none 0 0)
      replace hS := ((hS.setCell (p := ⟨wk2.heap.size, 0, none⟩) hn7 (.int .i64 (segsC c))).setCell (p := ⟨wk2.heap.size, 1, none⟩) hn7 (.int .i64 c.cPass)).setCell (p := ⟨wk2.heap.size, 2, none⟩) hn7 (.slice none 0 0)
      clear y0 y1 y2 u0 u1 u2 hltq
      generalize ((wk3.setCell ⟨wk2.heap.size, 0, none⟩ (.int .i64 (segsC c))).setCell ⟨wk2.heap.size, 1, none⟩ (.int .i64 c.cPass)).setCell ⟨wk2.heap.size, 2, none⟩ (.slice none 0 0) = wk4 at *
      refine hK.out _ _ (hS) (fun hHeld => ?_)
      clear hK K
      refine wpAnyH_ready (rs := [10]) (by kernel_rfl) (by simp) ?_
      refine AllReadyH.cons rfl (fun K hK => ?_) AllReadyH.nil
      go_simp
      refine hK.out _ _ hHeld (fun hHeld => ?_)
      clear hK K
      refine wpAnyH_done (by kernel_rfl) ?_ _
      replace yR := yR.next hS
      have z0 := yR.cell 0 _ rfl
      have z1 := yR.cell 1 _ rfl
      have z2 := yR.cell 2 _ rfl
      have z3 := yR.cell 3 _ rfl
      have z4 := yR.cell 4 _ rfl
      have z5 := yR.cell 5 _ rfl
      have z6 := yR.cell 6 _ rfl
      have g0 := yR.free 0
      have g1 := yR.free 1
      have g2 := yR.free 2
      have g3 := yR.free 3
      have g4 := yR.free 4
      have g5 := yR.free 5
      have g6 := yR.free 6
      have y0 := x7.cell 0 _ rfl
      have y1 := x7.cell 1 _ rfl
      have y2 := x7.cell 2 _ rfl
      have hlt7 := x7.lt
      have b9 := b3.trans (hS.mono b3.size)
      go_wp2
      exact bodyPost_ret (v := .tuple #[.agg #[.int .i64 s, .int .i64 (-1), .int .i64 (segsC c), .int .i64 c.cPass, .slice none 0 0, .bool false, .slice none 0 0], .int .i64 0]) (by simp [results, Try.results11, go_sem, z0, z1, z2, z3, z4, z5, z6]) rfl ⟨none, 0, none, 0, rfl, ownHear_new _ _ c s, below_set7c b9 (by omega) (.int .i64 s) (.int .i64 (-1)) (.int .i64 (segsC c)) (.int .i64 c.cPass) (.slice none 0 0) (.bool false) (.slice none 0 0)⟩
    refine AllReadyH.cons rfl (fun K hK => ?_) ?_
    · go_simp
      have x7 := Box.new wk1 44 #[.int .i64 0, .int .i64 0, .slice none 0 0]
      have hn7 : w2.heap.size ≤ wk1.heap.size := hS.size
      replace hS := hS.alloc hS.size (.cells #[.int .i64 0, .int .i64 0, .slice none 0 0] 44)
      generalize wk1.alloc (.cells #[.int .i64 0, .int .i64 0, .slice none 0 0] 44) = wk2 at *
      refine hK.out _ _ (hS) (fun hHeld => ?_)
      clear hK K
      refine wpAnyH_ready (rs := [4]) (by kernel_rfl) (by simp) ?_
      refine AllReadyH.cons rfl (fun K hK => ?_) AllReadyH.nil
      go_simp
      go_wp2_with (go_at_call 25; refine (HPN.out _ (by exact hS)).mono ?_; rintro e wk3 ⟨rfl, b8, b7⟩)
      replace x7 := x7.next b7
      replace hS := b8
      clear b8 b7
      refine hK.out _ _ (hS) (fun hHeld => ?_)
      clear hK K
      refine ht0 5 18 (v := ?v135) (fun _ => ?y135) hHeld ?_
      case y135 => go_simp; with_reducible rfl
      simp only [sn]
      refine ht0 6 24 (v := ?v136) (fun _ => ?y136) hHeld ?_
      case y136 => go_simp; with_reducible rfl
      simp only [sn]
      refine ht0 7 25 (v := ?v137) (fun _ => ?y137) hHeld ?_
      case y137 => go_simp; with_reducible rfl
      simp only [sn]
      refine wpAnyH_ready (rs := [9]) (by kernel_rfl) (by simp) ?_
      refine AllReadyH.cons rfl (fun K hK => ?_) AllReadyH.nil
      have y0 := x7.cell 0 _ rfl
      have y1 := x7.cell 1 _ rfl
      have y2 := x7.cell 2 _ rfl
      have u0 := x7.free 0
      have u1 := x7.free 1
      have u2 := x7.free 2
      have hltq := x7.lt
      go_simp
      replace x7 := x7.set3 (.int .i64 (segsC c)) (.int .i64 c.cPass) (.slice none 0 0)
      replace hS := ((hS.setCell (p := ⟨wk1.heap.size, 0, none⟩) hn7 (.int .i64 (segsC c))).setCell (p := ⟨wk1.heap.size, 1, none⟩) hn7 (.int .i64 c.cPass)).setCell (p := ⟨wk1.heap.size, 2, none⟩) hn7 (.slice none 0 0)
      clear y0 y1 y2 u0 u1 u2 hltq
      generalize ((wk3.setCell ⟨wk1.heap.size, 0, none⟩ (.int .i64 (segsC c))).setCell ⟨wk1.heap.size, 1, none⟩ (.int .i64 c.cPass)).setCell ⟨wk1.heap.size, 2, none⟩ (.slice none 0 0) = wk4 at *
      refine hK.out _ _ (hS) (fun hHeld => ?_)
      clear hK K
      refine wpAnyH_ready (rs := [10]) (by kernel_rfl) (by simp) ?_
      refine AllReadyH.cons rfl (fun K hK => ?_) AllReadyH.nil
      go_simp
      refine hK.out _ _ hHeld (fun hHeld => ?_)
      clear hK K
      refine wpAnyH_done (by kernel_rfl) ?_ _
      replace yR := yR.next hS
      have z0 := yR.cell 0 _ rfl
      have z1 := yR.cell 1 _ rfl
      have z2 := yR.cell 2 _ rfl
      have z3 := yR.cell 3 _ rfl
      have z4 := yR.cell 4 _ rfl
      have z5 := yR.cell 5 _ rfl
      have z6 := yR.cell 6 _ rfl
      have g0 := yR.free 0
      have g1 := yR.free 1
      have g2 := yR.free 2
      have g3 := yR.free 3
      have g4 := yR.free 4
      have g5 := yR.free 5
      have g6 := yR.free 6
      have y0 := x7.cell 0 _ rfl
      have y1 := x7.cell 1 _ rfl
      have y2 := x7.cell 2 _ rfl
      have hlt7 := x7.lt
      have b9 := b3.trans (hS.mono b3.size)
      go_wp2
      exact bodyPost_ret (v := .tuple #[.agg #[.int .i64 s, .int .i64 (-1), .int .i64 (segsC c), .int .i64 c.cPass, .slice none 0 0, .bool false, .slice none 0 0], .int .i64 0]) (by simp [results, Try.results11, go_sem, z0, z1, z2, z3, z4, z5, z6]) rfl ⟨none, 0, none, 0, rfl, ownHear_new _ _ c s, below_set7c b9 (by omega) (.int .i64 s) (.int .i64 (-1)) (.int .i64 (segsC c)) (.int .i64 c.cPass) (.slice none 0 0) (.bool false) (.slice none 0 0)⟩
    exact AllReadyH.nil
  refine AllReadyH.cons rfl (fun K hK => ?_) ?_
  · go_simp
    have x7 := Box.new wk0 44 #[.int .i64 0, .int .i64 0, .slice none 0 0]
    have hn7 : w2.heap.size ≤ wk0.heap.size := hS.size
    replace hS := hS.alloc hS.size (.cells #[.int .i64 0, .int .i64 0, .slice none 0 0] 44)
    generalize wk0.alloc (.cells #[.int .i64 0, .int .i64 0, .slice none 0 0] 44) = wk1 at *
    refine hK.out _ _ (hS) (fun hHeld => ?_)
    clear hK K
    refine wpAnyH_ready (rs := [1]) (by kernel_rfl) (by simp) ?_
    refine AllReadyH.cons rfl (fun K hK => ?_) AllReadyH.nil
    go_simp
    go_wp2_with (go_at_call 26; refine (HSG.out _ (by exact hS)).mono ?_; rintro e wk2 ⟨rfl, b8, b7⟩)
    replace x7 := x7.next b7
    replace hS := b8
    clear b8 b7
    refine hK.out _ _ (hS) (fun hHeld => ?_)
    clear hK K
    refine wpAnyH_ready (rs := [4]) (by kernel_rfl) (by simp) ?_
    refine AllReadyH.cons rfl (fun K hK => ?_) AllReadyH.nil
    go_simp
    go_wp2_with (go_at_call 25; refine (HPN.out _ (by exact hS)).mono ?_; rintro e wk3 ⟨rfl, b8, b7⟩)
    replace x7 := x7.next b7
    replace hS := b8
    clear b8 b7
    refine hK.out _ _ (hS) (fun hHeld => ?_)
    clear hK K
    refine ht0 5 18 (v := ?v138) (fun _ => ?y138) hHeld ?_
    case y138 => go_simp; with_reducible rfl
    simp only [sn]
    refine ht0 6 24 (v := ?v139) (fun _ => ?y139) hHeld ?_
    case y139 => go_simp; with_reducible rfl
    simp only [sn]
    refine ht0 7 25 (v := ?v140) (fun _ => ?y140) hHeld ?_
    case y140 => go_simp; with_reducible rfl
    simp only [sn]
    refine wpAnyH_ready (rs := [9]) (by kernel_rfl) (by simp) ?_
    refine AllReadyH.cons rfl (fun K hK => ?_) AllReadyH.nil
    have y0 := x7.cell 0 _ rfl
    have y1 := x7.cell 1 _ rfl
    have y2 := x7.cell 2 _ rfl
    have u0 := x7.free 0
    have u1 := x7.free 1
    have u2 := x7.free 2
    have hltq := x7.lt
    go_simp
    replace x7 := x7.set3 (.int .i64 (segsC c)) (.int .i64 c.cPass) (.slice none 0 0)
    replace hS := ((hS.setCell (p := ⟨wk0.heap.size, 0, none⟩) hn7 (.int .i64 (segsC c))).setCell (p := ⟨wk0.heap.size, 1, none⟩) hn7 (.int .i64 c.cPass)).setCell (p := ⟨wk0.heap.size, 2, none⟩) hn7 (.slice none 0 0)
    clear y0 y1 y2 u0 u1 u2 hltq
    generalize ((wk3.setCell ⟨wk0.heap.size, 0, none⟩ (.int .i64 (segsC c))).setCell ⟨wk0.heap.size, 1, none⟩ (.int .i64 c.cPass)).setCell ⟨wk0.heap.size, 2, none⟩ (.slice none 0 0) = wk4 at *
    refine hK.out _ _ (hS) (fun hHeld => ?_)
    clear hK K
    refine wpAnyH_ready (rs := [10]) (by kernel_rfl) (by simp) ?_
    refine AllReadyH.cons rfl (fun K hK => ?_) AllReadyH.nil
    go_simp
    refine hK.out _ _ hHeld (fun hHeld => ?_)
    clear hK K
    refine wpAnyH_done (by kernel_rfl) ?_ _
    replace yR := yR.next hS
    have z0 := yR.cell 0 _ rfl
    have z1 := yR.cell 1 _ rfl
    have z2 := yR.cell 2 _ rfl
    have z3 := yR.cell 3 _ rfl
    have z4 := yR.cell 4 _ rfl
    have z5 := yR.cell 5 _ rfl
    have z6 := yR.cell 6 _ rfl
    have g0 := yR.free 0
    have g1 := yR.free 1
    have g2 := yR.free 2
    have g3 := yR.free 3
    have g4 := yR.free 4
    have g5 := yR.free 5
    have g6 := yR.free 6
    have y0 := x7.cell 0 _ rfl
    have y1 := x7.cell 1 _ rfl
    have y2 := x7.cell 2 _ rfl
    have hlt7 := x7.lt
    have b9 := b3.trans (hS.mono b3.size)
    go_wp2
    exact bodyPost_ret (v := .tuple #[.agg #[.int .i64 s, .int .i64 (-1), .int .i64 (segsC c), .int .i64 c.cPass, .slice none 0 0, .bool false, .slice none 0 0], .int .i64 0]) (by simp [results, Try.results11, go_sem, z0, z1, z2, z3, z4, z5, z6]) rfl ⟨none, 0, none, 0, rfl, ownHear_new _ _ c s, below_set7c b9 (by omega) (.int .i64 s) (.int .i64 (-1)) (.int .i64 (segsC c)) (.int .i64 c.cPass) (.slice none 0 0) (.bool false) (.slice none 0 0)⟩
  exact AllReadyH.nil

end Go.Proofs.Ytmjidhnlofpliab

/-
  What code.Segs and code.Encode answer, as long as sched's table reads as it was laid.
-/
namespace Go.Proofs.Ytmjidhnlofpliab
open Go.RowKit

end Go.Proofs.Ytmjidhnlofpliab

/-
  What data's isSummed and take answer. (Written by tpl_datatake.py.)
-/
namespace Go.Proofs.Ytmjidhnlofpliab
open Go.RowKit

end Go.Proofs.Ytmjidhnlofpliab

/-
  What package data answers (Read; Make: DataMake). (Written by tpl_datacode.py.)
-/
namespace Go.Proofs.Ytmjidhnlofpliab
open Go.RowKit

end Go.Proofs.Ytmjidhnlofpliab

/-
  What package emit answers (apart, packetOf, Check, New, Tick). (Written by tpl_emitcode.py.)
-/
namespace Go.Proofs.Ytmjidhnlofpliab
open Go.RowKit

end Go.Proofs.Ytmjidhnlofpliab
