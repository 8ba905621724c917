/-
  What the page's Hear (may it be heard?) answers: those that may not be. (Written by tpl_refhear.py.)
-/
import Derived.Test.YtokejgoplalkhabGreatDoorM01
import Derived.Test.YtokejgoplalkhabGreatDoorM03
import Derived.Test.YtokejgoplalkhabGreatDoorM06
import Derived.Test.YtokejgoplalkhabGreatDoorM07
import Derived.Test.YtokejgoplalkhabGreatDoorM15
import Derived.Test.YtokejgoplalkhabGreatDoorM22
import Derived.Test.YtokejgoplalkhabGreatDoorM23
import Derived.Test.YtokejgoplalkhabGreatDoorM27
import Derived.Test.YtokejgoplalkhabGreatDoorM28
import Derived.Test.YtokejgoplalkhabGreatDoorM30
import Derived.Test.YtokejgoplalkhabGreatDoorM31
import Derived.Test.YtokejgoplalkhabGreatDoorM42
import Derived.Test.YtokejgoplalkhabGreatDoorM43
import Derived.Test.YtokejgoplalkhabGreatDoorM45
import Derived.Test.YtokejgoplalkhabGreatDoorM46
import Derived.Test.YtokejgoplalkhabGreatDoorM47
import Derived.BigRegion
import Derived.ChangeAlike
import Derived.Deep.AppendLies
import Derived.Deep.Cut
import Derived.Deep.CutRange
import Derived.Deep.DeepCutAuto
import Derived.Deep.RegionHeldLaw
import Derived.Laws.BitsAllLaws
import Derived.Laws.CopyOwn
import Derived.Lib.MinMax
import Derived.Lib.SmallJoins
import Derived.OneCell
import Derived.OpenShut
import Derived.ProofKit
import Derived.RegionTactic
import Derived.WalkKit
namespace Go.Proofs.YtokejgoplalkhabGreatDoor
open Go.RowKit

end Go.Proofs.YtokejgoplalkhabGreatDoor

/-
  What the page's Hear (may it be heard?) answers: the other ones. (Written by tpl_refhear.py.)
-/
namespace Go.Proofs.YtokejgoplalkhabGreatDoor
open Go.RowKit

end Go.Proofs.YtokejgoplalkhabGreatDoor

/-
  What the page's Hear (may it be heard?) answers: the other ones. (Written by tpl_refhear.py.)
-/
namespace Go.Proofs.YtokejgoplalkhabGreatDoor
open Go.RowKit

end Go.Proofs.YtokejgoplalkhabGreatDoor

/-
  What the page's Hear (may it be heard?) answers. (Written by tpl_refhear.py.)
-/
namespace Go.Proofs.YtokejgoplalkhabGreatDoor
open Go.RowKit

end Go.Proofs.YtokejgoplalkhabGreatDoor

/-
  What bit.Turn and the page's Turn answer, for every two texts: each byte xor that of the mask at the same place; where the mask has none it stays; texts that are too long are refused.
-/
namespace Go.Proofs.YtokejgoplalkhabGreatDoor
open Go.RowKit

/-- One byte, turned by the mask's at the same place, where there is one. -/
def xorAt (xs ms : List Int) (q : Nat) : Int := match ms[q]? with
  | some m => bits .xor .u8 (xs[q]?.getD 0) m
  | none => xs[q]?.getD 0

/-- A text, turned. -/
def xorL (xs ms : List Int) : List Int := (List.range xs.length).map (xorAt xs ms)

theorem xorL_len (xs ms : List Int) : (xorL xs ms).length = xs.length := by simp [xorL]
theorem xorL_get (xs ms : List Int) (q : Nat) (h : q < xs.length) : (xorL xs ms)[q]?.getD 0 = xorAt xs ms q := by simp [xorL, h]

/-- Behind k rounds. -/
def xorTo (xs ms : List Int) (k q : Nat) : Int := if q < k then xorAt xs ms q else xs[q]?.getD 0

theorem xorTo_end (xs ms : List Int) (k q : Nat) (hk : k = min xs.length ms.length) (hq : q < xs.length) : xorTo xs ms k q = xorAt xs ms q := by
  unfold xorTo
  split
  · rfl
  · have : ms[q]? = none := by rw [List.getElem?_eq_none_iff]; omega
    simp [xorAt, this]

/-- copy of a whole text over a row of as many cells. -/
theorem run_copy_all (a : Option Addr) (cap g n₀ : Nat) (xs : List Int) (cur : Array Value) (w : World) (hg : w.heap[g]? = some (.cells cur 5 (0, 0))) (hcs : cur.size = xs.length) (hH : Holds .u8 n₀ w (.slice a xs.length cap) xs) :
    ∃ w2, (Builtin.copy_ #[31, 31] 3 #[.slice (some ⟨g, 0, none⟩) xs.length xs.length, .slice a xs.length cap]).run Tryz.prog w = .ok (.int .i64 xs.length) w2 ∧ w2.heap[g]? = some (.cells (xs.map (Value.int .u8)).toArray 5 (0, 0)) ∧ Below g w w2 := by
  obtain ⟨i0, hi, hz0, hz1, hz2⟩ := info_parts infoU8
  have hsz : (Tryz.prog.info? 5).map (·.size) = some 1 := by rw [hi]; simp [hz1]
  rcases hH with ⟨_, rfl⟩ | ⟨b, off, cap', e, _, hc⟩
  · refine ⟨w, run_copy_none w _ _ _ 5 _ _ _ _ _ _ Tryz.underlying31 hsz (by simp), ?_, Below.refl _ _⟩
    have : cur = #[] := Array.eq_empty_of_size_eq_zero (by simpa using hcs)
    rw [hg, this]; rfl
  · cases e
    have hr := run_copy_row (P := Tryz.prog) w 31 31 3 5 g 0 xs.length xs.length ⟨b, off, none⟩ xs.length cap cur 5 (xs.map (Value.int .u8)) Tryz.underlying31 hsz hg (by simp) (holds_cells hc) (by simp [hcs]) (oneCells _ _)
    have e0 : (cur.toList.take 0 ++ xs.map (Value.int .u8) ++ cur.toList.drop (0 + (xs.map (Value.int .u8)).length)) = xs.map (Value.int .u8) := by
      rw [List.drop_of_length_le (by simp [hcs])]; simp
    rw [e0, List.length_map] at hr
    exact ⟨_, hr, setRow_heap w g cur _ _ _ hg, below_setRow (Below.refl g w) (Nat.le_refl _) _⟩

theorem row_cells_get {w : World} {g : Nat} {xs : List Int} (hg : w.heap[g]? = some (.cells (xs.map (Value.int .u8)).toArray 5 (0, 0))) (q : Nat) (hq : q < xs.length) : w.cell? ⟨g, q, none⟩ = some (.int .u8 (xs[q]?.getD 0)) := by
  simp [World.cell?, hg, hq]

theorem row_cells_frozen {w : World} {g : Nat} {cs : Array Value} {e : TypeId} (hg : w.heap[g]? = some (.cells cs e (0, 0))) (q : Nat) : w.frozen? ⟨g, q, none⟩ = false := by simp [World.frozen?, hg]

/-- One round: the store turns one place. -/
theorem xorTo_store {wr : World} {g k len : Nat} {xs ms : List Int} {m : Int} (hm : ms[k]? = some m) (hc : ∀ q, q < len → wr.cell? ⟨g, q, none⟩ = some (.int .u8 (xorTo xs ms k q))) (hk : k < len) (q : Nat) (hq : q < len) :
    (wr.setCell ⟨g, k, none⟩ (.int .u8 (bits .xor .u8 (xs[k]?.getD 0) m))).cell? ⟨g, q, none⟩ = some (.int .u8 (xorTo xs ms (k + 1) q)) := by
  by_cases h : q = k
  · subst h
    rw [World.cell?_setCell_same' _ _ _ (by rw [hc q hq]; rfl)]
    simp [xorTo, xorAt, hm]
  · rw [World.cell?_setCell_other _ _ _ _ (by intro e; cases e; exact h rfl), hc q hq]
    have e : (q < k + 1) = (q < k) := propext ⟨fun _ => by omega, fun _ => by omega⟩
    simp [xorTo, e]

end Go.Proofs.YtokejgoplalkhabGreatDoor

/-
  What the page's within, Join and Pack answer, for every row of numbers.
-/
namespace Go.Proofs.YtokejgoplalkhabGreatDoor
open Go.RowKit

theorem ret_bool {a b : Bool} (h : a = b) : Ending.returned (.bool a) = .returned (.bool b) := by rw [h]

/-! ### Join -/

theorem join2 (ls : List Int) (k : Nat) (x0 x1 : Int) (h0 : ls[2 * k]? = some x0) (h1 : ls[2 * k + 1]? = some x1) : joinW 4 ((ls.drop (2 * k)).take 2) = x0 * 16 + x1 := by
  have e : (ls.drop (2 * k)).take 2 = [x0, x1] := by
    rw [List.take_add_one, List.take_add_one, List.getElem?_drop, List.getElem?_drop, Nat.add_zero, h0, h1]; rfl
  rw [e]; simp [joinW]

end Go.Proofs.YtokejgoplalkhabGreatDoor

/-
  What the page's Take answers, of a right one and right data. (Written by tpl_reftake.py.)
-/
namespace Go.Proofs.YtokejgoplalkhabGreatDoor
open Go.RowKit

/-- What Take answers: what becomes of h, in memory of its own. -/
def TakeR (c : Cfg) (h : Hr) (r f : Int) (xs : List Int) (base : Nat) (e : Ending) (W' : World) : Prop := ∃ a' cap' b' bc', e = .returned (.tuple #[.agg #[.int .i64 (takeH c h r f xs).1.hS, .int .i64 (takeH c h r f xs).1.hR, .int .i64 (takeH c h r f xs).1.hN, .int .i64 (takeH c h r f xs).1.hP, .slice a' (takeH c h r f xs).1.hL.length cap', .bool (takeH c h r f xs).1.hD, .slice b' (takeH c h r f xs).1.hB.length bc'], .bool (takeH c h r f xs).2]) ∧ OwnHear base W' (takeH c h r f xs).1 a' cap' b' bc'
theorem takeR_of {c : Cfg} {h : Hr} {r f : Int} {xs : List Int} {base : Nat} {e : Ending} {W' : World} {g : Hr} {k : Bool} (ht : takeH c h r f xs = (g, k)) {a' b' : Option Addr} {cap' bc' : Nat} (he : e = .returned (.tuple #[.agg #[.int .i64 g.hS, .int .i64 g.hR, .int .i64 g.hN, .int .i64 g.hP, .slice a' g.hL.length cap', .bool g.hD, .slice b' g.hB.length bc'], .bool k])) (ho : OwnHear base W' g a' cap' b' bc') : TakeR c h r f xs base e W' := by
  unfold TakeR
  rw [ht]
  exact ⟨a', cap', b', bc', he, ho⟩

/-- What Take holds between its steps: h so far (its symbols L at la), the configuration, the data, the answer's place. -/
structure TakeSt (c : Cfg) (s r N P f : Int) (x : Option Addr) (m xc : Nat) (ta : Option Addr) (tc D : Nat) (w W : World) (L : List (Int × Int)) (la : Option Addr) (n lc : Nat) : Prop where
  len : L.length = n
  hr : Box W (D + 1) 33 #[.int .i64 s, .int .i64 r, .int .i64 N, .int .i64 P, .slice la n lc, .bool false, .slice ta 0 tc]
  sy : W.ownsRow (D + 4) 78 2 (.slice la n lc) n (symCells L)
  tb : W.ownsRow (D + 4) 5 1 (.slice ta 0 tc) 0 (([] : List Int).map (Value.int .u8))
  cf : Box W D 23 #[.int .i64 c.cB, .int .i64 c.cBeam, .int .i64 c.cDepth, .int .i64 c.cWin, .int .i64 c.cQs, .int .i64 c.cQr, .int .i64 c.cBatch, .int .i64 c.cPass, .int .i64 c.cMsg, .int .i64 c.cSeqs]
  da : Box W (D + 2) 38 #[.int .i64 s, .int .i64 r, .int .i64 f, .slice x m xc]
  zz : Box W (D + 3) 33 #[.int .i64 0, .int .i64 0, .int .i64 0, .int .i64 0, .slice none 0 0, .bool false, .slice none 0 0]
  hD : w.heap.size = D
  be : Below D w W
theorem TakeSt.next {c : Cfg} {s r N P f : Int} {x : Option Addr} {m xc : Nat} {ta : Option Addr} {tc D : Nat} {w W W' : World} {L : List (Int × Int)} {la : Option Addr} {n lc : Nat} (h : TakeSt c s r N P f x m xc ta tc D w W L la n lc) (b : Below W.heap.size W W') : TakeSt c s r N P f x m xc ta tc D w W' L la n lc :=
  ⟨h.len, h.hr.next b, symRow_below h.sy b (Nat.le_refl _), row_below h.tb b (Nat.le_refl _), h.cf.next b, h.da.next b, h.zz.next b, h.hD, h.be.trans (b.mono (by have := h.cf.lt; omega))⟩
theorem TakeSt.put {c : Cfg} {s r N P f : Int} {x : Option Addr} {m xc : Nat} {ta : Option Addr} {tc D : Nat} {w W : World} {L L' : List (Int × Int)} {la la' : Option Addr} {n lc n' lc' : Nat} (h : TakeSt c s r N P f x m xc ta tc D w W L la n lc) (hl : L'.length = n') (o : W.ownsRow (D + 4) 78 2 (.slice la' n' lc') n' (symCells L')) : TakeSt c s r N P f x m xc ta tc D w (((W.setCell ⟨D + 1, 2, none⟩ (.int .i64 N)).setCell ⟨D + 1, 3, none⟩ (.int .i64 P)).setCell ⟨D + 1, 4, none⟩ (.slice la' n' lc')) L' la' n' lc' :=
  ⟨hl, ((h.hr.set 2 (.int .i64 N)).set 3 (.int .i64 P)).set 4 (.slice la' n' lc'),
    ownsRow_setCell_below (ownsRow_setCell_below (ownsRow_setCell_below o (a := ⟨D + 1, 2, none⟩) (by show D + 1 < D + 4; omega) _) (a := ⟨D + 1, 3, none⟩) (by show D + 1 < D + 4; omega) _) (a := ⟨D + 1, 4, none⟩) (by show D + 1 < D + 4; omega) _,
    ownsRow_setCell_below (ownsRow_setCell_below (ownsRow_setCell_below h.tb (a := ⟨D + 1, 2, none⟩) (by show D + 1 < D + 4; omega) _) (a := ⟨D + 1, 3, none⟩) (by show D + 1 < D + 4; omega) _) (a := ⟨D + 1, 4, none⟩) (by show D + 1 < D + 4; omega) _,
    ((h.cf.other (p := ⟨D + 1, 2, none⟩) (by show D ≠ D + 1; omega) _).other (p := ⟨D + 1, 3, none⟩) (by show D ≠ D + 1; omega) _).other (p := ⟨D + 1, 4, none⟩) (by show D ≠ D + 1; omega) _,
    ((h.da.other (p := ⟨D + 1, 2, none⟩) (by show D + 2 ≠ D + 1; omega) _).other (p := ⟨D + 1, 3, none⟩) (by show D + 2 ≠ D + 1; omega) _).other (p := ⟨D + 1, 4, none⟩) (by show D + 2 ≠ D + 1; omega) _,
    ((h.zz.other (p := ⟨D + 1, 2, none⟩) (by show D + 3 ≠ D + 1; omega) _).other (p := ⟨D + 1, 3, none⟩) (by show D + 3 ≠ D + 1; omega) _).other (p := ⟨D + 1, 4, none⟩) (by show D + 3 ≠ D + 1; omega) _,
    h.hD, ((h.be.setCell (p := ⟨D + 1, 2, none⟩) (by show D ≤ D + 1; omega) _).setCell (p := ⟨D + 1, 3, none⟩) (by show D ≤ D + 1; omega) _).setCell (p := ⟨D + 1, 4, none⟩) (by show D ≤ D + 1; omega) _⟩

theorem joinW_two (l : List Int) (h : ∀ z ∈ l, 0 ≤ z ∧ z < 16) (hl : l.length ≤ 2) : 0 ≤ joinW 4 l ∧ joinW 4 l ≤ 255 := by
  match l, hl with
  | [], _ => simp [joinW]
  | [a], _ => have := h a (by simp); simp [joinW]; omega
  | [a, b], _ => have := h a (by simp); have := h b (by simp); simp [joinW]; omega
theorem wholes_bd {ps : List Int} (h : ∀ z ∈ ps, 0 ≤ z ∧ z < 16) (k : Nat) : ∀ z ∈ wholesOf 4 2 ps k, 0 ≤ z ∧ z ≤ 255 := fun z hz => by
  unfold wholesOf at hz
  obtain ⟨i, _, rfl⟩ := List.mem_map.1 hz
  exact joinW_two _ (fun y hy => h y (List.mem_of_mem_drop (List.mem_of_mem_take hy))) (by rw [List.length_take]; omega)

theorem gotH_tie {c : Cfg} {h : Hr} {r f : Int} {xs : List Int} (hf : freshL h.hN h.hP (flushH h r) f xs = true) (ht : toldL h.hN.toNat (pileH h r f xs) c.cBeam.toNat (c.cDepth - 1).toNat = none) : gotH c h r f xs = none := by unfold gotH; rw [if_pos hf, ht]
theorem gotH_told {c : Cfg} {h : Hr} {r f : Int} {xs ps : List Int} (hf : freshL h.hN h.hP (flushH h r) f xs = true) (ht : toldL h.hN.toNat (pileH h r f xs) c.cBeam.toNat (c.cDepth - 1).toNat = some ps) : gotH c h r f xs = if blockB c h.hS (joinH ps) = true then some (joinH ps) else none := by unfold gotH; rw [if_pos hf, ht]

theorem blockB_bad {c : Cfg} (hC : okC c = true) {s : Int} {B : List Int} {E : Int} (hE : badB c.cB B E) : blockB c s B = false := by
  rw [← Bool.not_eq_true]
  intro H
  obtain ⟨h1, h2, h3, _⟩ := (blockB_iff c s B).1 H
  have hcB := ((okC_iff c).1 hC).1
  have hb : bSize c.cB = true := (bSize_iff _).2 (by omega)
  rcases hE with ⟨g, _⟩ | ⟨_, g, _⟩ | ⟨_, _, g, _⟩ | ⟨_, _, _, g, _⟩
  · rw [hb] at g; cases g
  · exact g h1
  · rw [h2] at g; cases g
  · exact g h3
theorem blockB_good {c : Cfg} {s : Int} {B : List Int} {Z : Nat} (hZ : c.cB = (Z : Int) ∧ 1 ≤ Z ∧ Z ≤ 16 ∧ B.length = Z + 10 ∧ isSealed B = true ∧ readOk Z B) : blockB c s B = true ↔ rdS B = s := by
  have hZn : c.cB.toNat = Z := by rw [hZ.1]; rfl
  refine ⟨fun H => ((blockB_iff c s B).1 H).2.2.2, fun hs => (blockB_iff c s B).2 ⟨by rw [hZ.1]; have := hZ.2.2.2.1; omega, hZ.2.2.2.2.1, by rw [hZn]; exact hZ.2.2.2.2.2, hs⟩⟩
theorem row_shapeT {W : World} {base k : Nat} {e : TypeId} {v : Value} {xs : List Value} (h : W.ownsRow base e 1 v k xs) : ∃ a c, v = .slice a k c := by
  rcases h.2 with ⟨e, e0⟩ | ⟨g, c, cur, e, _⟩
  · exact ⟨_, _, by rw [e, e0]⟩
  · exact ⟨_, _, e⟩

theorem takeR_at {c : Cfg} {h : Hr} {r f : Int} {xs : List Int} {base : Nat} {e : Ending} {W' : World} {g : Hr} {k : Bool} (ht : takeH c h r f xs = (g, k)) {a' b' : Option Addr} {n' cap' m' bc' : Nat} (hn : g.hL.length = n') (hm : g.hB.length = m') (he : e = .returned (.tuple #[.agg #[.int .i64 g.hS, .int .i64 g.hR, .int .i64 g.hN, .int .i64 g.hP, .slice a' n' cap', .bool g.hD, .slice b' m' bc'], .bool k]))
    (o1 : W'.ownsRow base 78 2 (.slice a' n' cap') n' (symCells g.hL)) (o2 : W'.ownsRow base 5 1 (.slice b' m' bc') m' (g.hB.map (Value.int .u8))) (bd : ∀ z ∈ g.hB, 0 ≤ z ∧ z ≤ 255) : TakeR c h r f xs base e W' := by
  subst hn hm
  exact takeR_of ht he ⟨o1, o2, bd⟩

end Go.Proofs.YtokejgoplalkhabGreatDoor

/-
  What the page's Take answers: data of the same round. (Written by tpl_reftake.py.)
-/
namespace Go.Proofs.YtokejgoplalkhabGreatDoor
open Go.RowKit

end Go.Proofs.YtokejgoplalkhabGreatDoor

/-
  What the page's Take answers: data of another round. (Written by tpl_reftake.py.)
-/
namespace Go.Proofs.YtokejgoplalkhabGreatDoor
open Go.RowKit

end Go.Proofs.YtokejgoplalkhabGreatDoor

/-
  What the page's Take answers. (Written by tpl_reftake.py.)
-/
namespace Go.Proofs.YtokejgoplalkhabGreatDoor
open Go.RowKit

end Go.Proofs.YtokejgoplalkhabGreatDoor

/-
  What hear's calls answer, right or not, in one contract each; stores that leave a row as it lies. (Written by tpl_hearexact.py.)
-/
namespace Go.Proofs.YtokejgoplalkhabGreatDoor
open Go.RowKit

theorem row_set7x {w : World} {base D size : Nat} {e : TypeId} {v : Value} {n : Nat} {xs : List Value} (h : w.ownsRow base e size v n xs) (hD : v.ownBlock ≠ some D) (a b c d e' f g : Value) : (((((((w.setCell ⟨D, 0, none⟩ a).setCell ⟨D, 1, none⟩ b).setCell ⟨D, 2, none⟩ c).setCell ⟨D, 3, none⟩ d).setCell ⟨D, 4, none⟩ e').setCell ⟨D, 5, none⟩ f).setCell ⟨D, 6, none⟩ g).ownsRow base e size v n xs := ownsRow_setCell_other (ownsRow_setCell_other (ownsRow_setCell_other (ownsRow_setCell_other (ownsRow_setCell_other (ownsRow_setCell_other (ownsRow_setCell_other h (a := ⟨D, 0, none⟩) hD a) (a := ⟨D, 1, none⟩) hD b) (a := ⟨D, 2, none⟩) hD c) (a := ⟨D, 3, none⟩) hD d) (a := ⟨D, 4, none⟩) hD e') (a := ⟨D, 5, none⟩) hD f) (a := ⟨D, 6, none⟩) hD g
theorem row_set4x {w : World} {base D size : Nat} {e : TypeId} {v : Value} {n : Nat} {xs : List Value} (h : w.ownsRow base e size v n xs) (hD : v.ownBlock ≠ some D) (a b c d : Value) : ((((w.setCell ⟨D, 0, none⟩ a).setCell ⟨D, 1, none⟩ b).setCell ⟨D, 2, none⟩ c).setCell ⟨D, 3, none⟩ d).ownsRow base e size v n xs := ownsRow_setCell_other (ownsRow_setCell_other (ownsRow_setCell_other (ownsRow_setCell_other h (a := ⟨D, 0, none⟩) hD a) (a := ⟨D, 1, none⟩) hD b) (a := ⟨D, 2, none⟩) hD c) (a := ⟨D, 3, none⟩) hD d
theorem below_set4H {W V : World} {n : Nat} (h : Below n W V) {D : Nat} (hD : n ≤ D) (a b c d : Value) : Below n W ((((V.setCell ⟨D, 0, none⟩ a).setCell ⟨D, 1, none⟩ b).setCell ⟨D, 2, none⟩ c).setCell ⟨D, 3, none⟩ d) := (((h.setCell (p := ⟨D, 0, none⟩) hD a).setCell (p := ⟨D, 1, none⟩) hD b).setCell (p := ⟨D, 2, none⟩) hD c).setCell (p := ⟨D, 3, none⟩) hD d
theorem box_set7 {W : World} {B : Nat} {t : TypeId} {x0 x1 x2 x3 x4 x5 x6 : Value} (h : Box W B t #[x0, x1, x2, x3, x4, x5, x6]) (a b c d e f g : Value) : Box (((((((W.setCell ⟨B, 0, none⟩ a).setCell ⟨B, 1, none⟩ b).setCell ⟨B, 2, none⟩ c).setCell ⟨B, 3, none⟩ d).setCell ⟨B, 4, none⟩ e).setCell ⟨B, 5, none⟩ f).setCell ⟨B, 6, none⟩ g) B t #[a, b, c, d, e, f, g] := by
  have q := ((((((h.set 0 a).set 1 b).set 2 c).set 3 d).set 4 e).set 5 f).set 6 g
  simp only [List.setIfInBounds_toArray, List.set_cons_zero, List.set_cons_succ] at q
  exact q
theorem box_set4 {W : World} {B : Nat} {t : TypeId} {x0 x1 x2 x3 : Value} (h : Box W B t #[x0, x1, x2, x3]) (a b c d : Value) : Box ((((W.setCell ⟨B, 0, none⟩ a).setCell ⟨B, 1, none⟩ b).setCell ⟨B, 2, none⟩ c).setCell ⟨B, 3, none⟩ d) B t #[a, b, c, d] := (((h.set 0 a).set 1 b).set 2 c).set 3 d
theorem box_other7 {W : World} {B D : Nat} {t : TypeId} {cs : Array Value} (h : Box W B t cs) (hD : B ≠ D) (a b c d e f g : Value) : Box (((((((W.setCell ⟨D, 0, none⟩ a).setCell ⟨D, 1, none⟩ b).setCell ⟨D, 2, none⟩ c).setCell ⟨D, 3, none⟩ d).setCell ⟨D, 4, none⟩ e).setCell ⟨D, 5, none⟩ f).setCell ⟨D, 6, none⟩ g) B t cs := ((((((h.other (p := ⟨D, 0, none⟩) hD a).other (p := ⟨D, 1, none⟩) hD b).other (p := ⟨D, 2, none⟩) hD c).other (p := ⟨D, 3, none⟩) hD d).other (p := ⟨D, 4, none⟩) hD e).other (p := ⟨D, 5, none⟩) hD f).other (p := ⟨D, 6, none⟩) hD g
theorem box_other4 {W : World} {B D : Nat} {t : TypeId} {cs : Array Value} (h : Box W B t cs) (hD : B ≠ D) (a b c d : Value) : Box ((((W.setCell ⟨D, 0, none⟩ a).setCell ⟨D, 1, none⟩ b).setCell ⟨D, 2, none⟩ c).setCell ⟨D, 3, none⟩ d) B t cs := (((h.other (p := ⟨D, 0, none⟩) hD a).other (p := ⟨D, 1, none⟩) hD b).other (p := ⟨D, 2, none⟩) hD c).other (p := ⟨D, 3, none⟩) hD d

/-- What HearExact holds of the twins: their places, their rows, and that the rows lie in neither place. -/
structure InS (W : World) (h : Hr) (xs : List Int) (bL bX : Nat) (ra : Option Addr) (rc : Nat) (ta : Option Addr) (tc : Nat) (xa : Option Addr) (xd B9 B10 : Nat) (c9 c10 : Array Value) : Prop where
  x9 : Box W B9 33 c9
  x10 : Box W B10 38 c10
  oL : W.ownsRow bL 78 2 (.slice ra h.hL.length rc) h.hL.length (symCells h.hL)
  oB : W.ownsRow bL 5 1 (.slice ta h.hB.length tc) h.hB.length (h.hB.map (Value.int .u8))
  oX : W.ownsRow bX 5 1 (.slice xa xs.length xd) xs.length (xs.map (Value.int .u8))
  nL9 : (Value.slice ra h.hL.length rc).ownBlock ≠ some B9
  nB9 : (Value.slice ta h.hB.length tc).ownBlock ≠ some B9
  nX9 : (Value.slice xa xs.length xd).ownBlock ≠ some B9
  nL10 : (Value.slice ra h.hL.length rc).ownBlock ≠ some B10
  nB10 : (Value.slice ta h.hB.length tc).ownBlock ≠ some B10
  nX10 : (Value.slice xa xs.length xd).ownBlock ≠ some B10
  ne : B9 ≠ B10
theorem InS.s9 {W : World} {h : Hr} {xs : List Int} {bL bX : Nat} {ra : Option Addr} {rc : Nat} {ta : Option Addr} {tc : Nat} {xa : Option Addr} {xd B9 B10 : Nat} {x0 x1 x2 x3 x4 x5 x6 : Value} {c10 : Array Value} (H : InS W h xs bL bX ra rc ta tc xa xd B9 B10 #[x0, x1, x2, x3, x4, x5, x6] c10) (a b c d e f g : Value) : InS (((((((W.setCell ⟨B9, 0, none⟩ a).setCell ⟨B9, 1, none⟩ b).setCell ⟨B9, 2, none⟩ c).setCell ⟨B9, 3, none⟩ d).setCell ⟨B9, 4, none⟩ e).setCell ⟨B9, 5, none⟩ f).setCell ⟨B9, 6, none⟩ g) h xs bL bX ra rc ta tc xa xd B9 B10 #[a, b, c, d, e, f, g] c10 :=
  ⟨box_set7 H.x9 a b c d e f g, box_other7 H.x10 H.ne.symm a b c d e f g, row_set7x H.oL H.nL9 a b c d e f g, row_set7x H.oB H.nB9 a b c d e f g, row_set7x H.oX H.nX9 a b c d e f g, H.nL9, H.nB9, H.nX9, H.nL10, H.nB10, H.nX10, H.ne⟩
theorem InS.s10 {W : World} {h : Hr} {xs : List Int} {bL bX : Nat} {ra : Option Addr} {rc : Nat} {ta : Option Addr} {tc : Nat} {xa : Option Addr} {xd B9 B10 : Nat} {c9 : Array Value} {x0 x1 x2 x3 : Value} (H : InS W h xs bL bX ra rc ta tc xa xd B9 B10 c9 #[x0, x1, x2, x3]) (a b c d : Value) : InS ((((W.setCell ⟨B10, 0, none⟩ a).setCell ⟨B10, 1, none⟩ b).setCell ⟨B10, 2, none⟩ c).setCell ⟨B10, 3, none⟩ d) h xs bL bX ra rc ta tc xa xd B9 B10 c9 #[a, b, c, d] :=
  ⟨box_other4 H.x9 H.ne a b c d, box_set4 H.x10 a b c d, row_set4x H.oL H.nL10 a b c d, row_set4x H.oB H.nB10 a b c d, row_set4x H.oX H.nX10 a b c d, H.nL9, H.nB9, H.nX9, H.nL10, H.nB10, H.nX10, H.ne⟩
theorem ne_new {W : World} {base size n : Nat} {e : TypeId} {v : Value} {l : List Value} (h : W.ownsRow base e size v n l) : v.ownBlock ≠ some W.heap.size := fun e => by have := h.lt _ e; omega
theorem ne_old {W : World} {base size n B : Nat} {e : TypeId} {v : Value} {l : List Value} (h : W.ownsRow base e size v n l) (hB : B < base) : v.ownBlock ≠ some B := fun e => by have := h.lt _ e; omega

theorem hearLen_L {c : Cfg} (hC : okC c = true) {h g : Hr} (hk : okH c h) {r f : Int} {xs : List Int} (hx : okX r f xs) {i : Bool} (e : takeH c h r f xs = (g, i)) : g.hL.length ≤ 4611686018427387904 := by
  have h1 := takeH_len hk hx
  have h2 := mostC_bd hC
  rw [e] at h1
  have h3 : (g.hL.length : Int) ≤ mostC c := h1
  omega
theorem hearLen_B {c : Cfg} (hC : okC c = true) {h g : Hr} (hk : okH c h) {r f : Int} {xs : List Int} (hx : okX r f xs) {i : Bool} (e : takeH c h r f xs = (g, i)) : g.hB.length ≤ 4611686018427387904 := by
  have h0 := takeH_ok hk hx
  rw [e] at h0
  have h1 : okH c g := h0
  have h2 := ((okC_iff c).1 hC).1
  cases hd : g.hD with
  | true => have := ((blockB_iff _ _ _).1 (h1.2.2.2.2.2.2.1 hd)).1; omega
  | false => rw [h1.2.2.2.2.2.2.2 hd]; exact Nat.zero_le _

def zeroH : Hr := ⟨0, 0, 0, 0, [], false, []⟩
theorem ownHear_zero (base : Nat) (W : World) : OwnHear base W zeroH none 0 none 0 := ⟨⟨rfl, .inl ⟨rfl, rfl⟩⟩, ⟨rfl, .inl ⟨rfl, rfl⟩⟩, fun z hz => by cases hz⟩

theorem newU (c : Cfg) (s : Int) (w : World) : Calls Tryz.prog 7 #[.agg #[.int .i64 c.cB, .int .i64 c.cBeam, .int .i64 c.cDepth, .int .i64 c.cWin, .int .i64 c.cQs, .int .i64 c.cQr, .int .i64 c.cBatch, .int .i64 c.cPass, .int .i64 c.cMsg, .int .i64 c.cSeqs], .int .i64 s] w fun e W' => ∃ g E a cap b bc, e = .returned (.tuple #[.agg #[.int .i64 g.hS, .int .i64 g.hR, .int .i64 g.hN, .int .i64 g.hP, .slice a g.hL.length cap, .bool g.hD, .slice b g.hB.length bc], .int .i64 E]) ∧ ((okC c = true ∧ 0 ≤ s) ∧ E = 0 ∧ g = newH c s ∨ ¬ (okC c = true ∧ 0 ≤ s) ∧ E = 1 ∧ g = zeroH) ∧ OwnHear w.heap.size W' g a cap b bc ∧ Below w.heap.size w W' := by
  by_cases h : okC c = true ∧ 0 ≤ s
  · refine (HearNew_ok c s h.1 h.2 w).mono ?_
    rintro e W' ⟨a, cap, b, bc, he, ho, hb⟩
    exact ⟨newH c s, 0, a, cap, b, bc, he, .inl ⟨h, rfl, rfl⟩, ho, hb⟩
  · refine (HearNew_no c s (by cases hc : okC c <;> simp_all) w).mono ?_
    rintro e W' ⟨he, hb⟩
    exact ⟨zeroH, 1, none, 0, none, 0, he, .inr ⟨h, rfl, rfl⟩, ownHear_zero _ _, hb⟩

theorem checkU (c : Cfg) (h : Hr) (hl : h.hL.length ≤ 4294967296) (hb : h.hB.length ≤ 4096) (a b : Option Addr) (cap bc : Nat) (w : World) (ha : HearAt w h a cap b bc) : Calls Tryz.prog 16 #[.agg #[.int .i64 c.cB, .int .i64 c.cBeam, .int .i64 c.cDepth, .int .i64 c.cWin, .int .i64 c.cQs, .int .i64 c.cQr, .int .i64 c.cBatch, .int .i64 c.cPass, .int .i64 c.cMsg, .int .i64 c.cSeqs], .agg #[.int .i64 h.hS, .int .i64 h.hR, .int .i64 h.hN, .int .i64 h.hP, .slice a h.hL.length cap, .bool h.hD, .slice b h.hB.length bc]] w fun e w' => ∃ E, e = .returned (.int .i64 E) ∧ ((okC c = true ∧ okH c h) ∧ E = 0 ∨ ¬ (okC c = true ∧ okH c h) ∧ E = 1) ∧ Below w.heap.size w w' := by
  by_cases hk : okC c = true ∧ okH c h
  · exact (HearCheck_ok c h hk.1 hk.2 a b cap bc w ha).mono fun e w' ⟨he, hb⟩ => ⟨0, he, .inl ⟨hk, rfl⟩, hb⟩
  · exact (HearCheck_no c h hk hl hb a b cap bc w ha).mono fun e w' ⟨he, hb⟩ => ⟨1, he, .inr ⟨hk, rfl⟩, hb⟩

theorem takeU (c : Cfg) (h : Hr) (s r f : Int) (xs : List Int) (hl : h.hL.length ≤ 4294967296) (hb : h.hB.length ≤ 4096) (a b : Option Addr) (cap bc : Nat) (x : Option Addr) (xc : Nat) (w : World) (ha : HearAt w h a cap b bc) (hx : Holds .u8 w.heap.size w (.slice x xs.length xc) xs) (hX : xs.length ≤ xc) (hX2 : xs.length ≤ 4294967296) (bx : ∀ z ∈ xs, 0 ≤ z ∧ z ≤ 255) (hF : Firsts w) :
    Calls Tryz.prog 9 #[.agg #[.int .i64 c.cB, .int .i64 c.cBeam, .int .i64 c.cDepth, .int .i64 c.cWin, .int .i64 c.cQs, .int .i64 c.cQr, .int .i64 c.cBatch, .int .i64 c.cPass, .int .i64 c.cMsg, .int .i64 c.cSeqs], .agg #[.int .i64 h.hS, .int .i64 h.hR, .int .i64 h.hN, .int .i64 h.hP, .slice a h.hL.length cap, .bool h.hD, .slice b h.hB.length bc], .agg #[.int .i64 s, .int .i64 r, .int .i64 f, .slice x xs.length xc]] w fun e W' => ∃ g i E a' cap' b' bc', e = .returned (.tuple #[.agg #[.int .i64 g.hS, .int .i64 g.hR, .int .i64 g.hN, .int .i64 g.hP, .slice a' g.hL.length cap', .bool g.hD, .slice b' g.hB.length bc'], .bool i, .int .i64 E]) ∧ ((okC c = true ∧ okH c h ∧ errD s r f xs.length = 0 ∧ s = h.hS) ∧ E = 0 ∧ takeH c h r f xs = (g, i) ∨ ¬ (okC c = true ∧ okH c h ∧ errD s r f xs.length = 0 ∧ s = h.hS) ∧ E = 1 ∧ g = zeroH ∧ i = false) ∧ OwnHear w.heap.size W' g a' cap' b' bc' ∧ Below w.heap.size w W' := by
  by_cases hk : okC c = true ∧ okH c h ∧ errD s r f xs.length = 0 ∧ s = h.hS
  · obtain ⟨h1, h2, h3, h4⟩ := id hk
    subst h4
    refine (HearTake_ok c h r f xs h1 h2 ((rightD_iff _ _ _ _).1 h3) a b cap bc x xc w ha hx hX bx hF).mono ?_
    rintro e W' ⟨a', cap', b', bc', he, ho, hb⟩
    exact ⟨_, _, 0, a', cap', b', bc', he, .inl ⟨hk, rfl, rfl⟩, ho, hb⟩
  · refine (HearTake_no c h s r f xs hk hl hb a b cap bc x xc w ha hx hX hX2 bx hF).mono ?_
    rintro e W' ⟨he, hb⟩
    exact ⟨zeroH, false, 1, none, 0, none, 0, he, .inr ⟨hk, rfl, rfl, rfl⟩, ownHear_zero _ _, hb⟩

theorem keepHear_same (h : Hr) (a b a' b' : Option Addr) (cap bc cap' bc' : Nat) (hl : h.hL.length ≤ 4611686018427387904) (hb : h.hB.length ≤ 4611686018427387904) (w : World) (H : HearAt w h a cap b bc) (H' : HearAt w h a' cap' b' bc') : Calls Tryz.prog 11 #[.agg #[.int .i64 h.hS, .int .i64 h.hR, .int .i64 h.hN, .int .i64 h.hP, .slice a h.hL.length cap, .bool h.hD, .slice b h.hB.length bc], .agg #[.int .i64 h.hS, .int .i64 h.hR, .int .i64 h.hN, .int .i64 h.hP, .slice a' h.hL.length cap', .bool h.hD, .slice b' h.hB.length bc']] w fun e w' => e = .returned (.bool true) ∧ Below w.heap.size w w' := by
  have := keepHear_any h.hS h.hR h.hN h.hP h.hS h.hR h.hN h.hP h.hD h.hD _ _ _ _ h.hL h.hL h.hB h.hB hl hb w H.syms H.byts H'.syms H'.byts
  rw [decide_eq_true ⟨rfl, rfl, rfl, ⟨rfl, rfl, rfl⟩, rfl⟩] at this
  exact this
theorem keepHear_zero (g : Hr) (hg : g = zeroH) (a b : Option Addr) (cap bc : Nat) (w : World) (H : HearAt w g a cap b bc) : Calls Tryz.prog 11 #[.agg #[.int .i64 g.hS, .int .i64 g.hR, .int .i64 g.hN, .int .i64 g.hP, .slice a g.hL.length cap, .bool g.hD, .slice b g.hB.length bc], .agg #[.int .i64 0, .int .i64 0, .int .i64 0, .int .i64 0, .slice none 0 0, .bool false, .slice none 0 0]] w fun e w' => e = .returned (.bool true) ∧ Below w.heap.size w w' := by
  subst hg
  exact keepHear_same zeroH a b none none cap bc 0 0 (by decide) (by decide) w H (ownHear_zero 0 w).at
theorem keepHear_new (c : Cfg) (s : Int) (g : Hr) (hg : g = newH c s) (a b : Option Addr) (cap bc : Nat) (w : World) (H : HearAt w g a cap b bc) : Calls Tryz.prog 11 #[.agg #[.int .i64 g.hS, .int .i64 g.hR, .int .i64 g.hN, .int .i64 g.hP, .slice a g.hL.length cap, .bool g.hD, .slice b g.hB.length bc], .agg #[.int .i64 s, .int .i64 (-1), .int .i64 (segsC c), .int .i64 c.cPass, .slice none 0 0, .bool false, .slice none 0 0]] w fun e w' => e = .returned (.bool true) ∧ Below w.heap.size w w' := by
  subst hg
  exact keepHear_same (newH c s) a b none none cap bc 0 0 (Nat.zero_le _) (Nat.zero_le _) w H (ownHear_new 0 w c s).at
end Go.Proofs.YtokejgoplalkhabGreatDoor

/-
  A block that is heard, its fields as plain numbers: how it lies, and what hear's calls and the laws' helpers answer of it.
-/
namespace Go.Proofs.YtokejgoplalkhabGreatDoor
open Go.RowKit

/-- It lies in memory from base on; its fields are these. -/
structure At7 (base : Nat) (W : World) (h : Hr) (S R N P : Int) (a : Option Addr) (n cap : Nat) (D : Bool) (b : Option Addr) (m bc : Nat) : Prop where
  eS : h.hS = S
  eR : h.hR = R
  eN : h.hN = N
  eP : h.hP = P
  en : h.hL.length = n
  eD : h.hD = D
  em : h.hB.length = m
  own : OwnHear base W h a cap b bc
theorem At7.next {base : Nat} {W W' : World} {h : Hr} {S R N P : Int} {a : Option Addr} {n cap : Nat} {D : Bool} {b : Option Addr} {m bc : Nat} (H : At7 base W h S R N P a n cap D b m bc) (k : Below W.heap.size W W') : At7 base W' h S R N P a n cap D b m bc := ⟨H.eS, H.eR, H.eN, H.eP, H.en, H.eD, H.em, H.own.next k (Nat.le_refl _)⟩
theorem At7.base {base base' : Nat} {W : World} {h : Hr} {S R N P : Int} {a : Option Addr} {n cap : Nat} {D : Bool} {b : Option Addr} {m bc : Nat} (H : At7 base W h S R N P a n cap D b m bc) (hb : base' ≤ base) : At7 base' W h S R N P a n cap D b m bc := ⟨H.eS, H.eR, H.eN, H.eP, H.en, H.eD, H.em, H.own.base hb⟩
theorem At7.at {base : Nat} {W : World} {h : Hr} {S R N P : Int} {a : Option Addr} {n cap : Nat} {D : Bool} {b : Option Addr} {m bc : Nat} (H : At7 base W h S R N P a n cap D b m bc) : HearAt W h a cap b bc := H.own.at
/-- A store of seven cells into a block that was there before. -/
theorem At7.store {base : Nat} {W : World} {h : Hr} {S R N P : Int} {a : Option Addr} {n cap : Nat} {D : Bool} {b : Option Addr} {m bc : Nat} (H : At7 base W h S R N P a n cap D b m bc) {B : Nat} (hB : B < base) (x0 x1 x2 x3 x4 x5 x6 : Value) : At7 base (((((((W.setCell ⟨B, 0, none⟩ x0).setCell ⟨B, 1, none⟩ x1).setCell ⟨B, 2, none⟩ x2).setCell ⟨B, 3, none⟩ x3).setCell ⟨B, 4, none⟩ x4).setCell ⟨B, 5, none⟩ x5).setCell ⟨B, 6, none⟩ x6) h S R N P a n cap D b m bc := ⟨H.eS, H.eR, H.eN, H.eP, H.en, H.eD, H.em, ⟨row_set7c H.own.syms hB x0 x1 x2 x3 x4 x5 x6, row_set7c H.own.byts hB x0 x1 x2 x3 x4 x5 x6, H.own.byte⟩⟩

theorem newV (c : Cfg) (hC : okC c = true) (s : Int) (hs : 0 ≤ s) (w : World) :
    Calls Tryz.prog 7 #[.agg #[.int .i64 c.cB, .int .i64 c.cBeam, .int .i64 c.cDepth, .int .i64 c.cWin, .int .i64 c.cQs, .int .i64 c.cQr, .int .i64 c.cBatch, .int .i64 c.cPass, .int .i64 c.cMsg, .int .i64 c.cSeqs], .int .i64 s] w fun e W' => ∃ (N P : Int) (a : Option Addr) (cap : Nat) (b : Option Addr) (bc : Nat), e = .returned (.tuple #[.agg #[.int .i64 s, .int .i64 (-1), .int .i64 N, .int .i64 P, .slice a 0 cap, .bool false, .slice b 0 bc], .int .i64 0]) ∧ At7 w.heap.size W' (newH c s) s (-1) N P a 0 cap false b 0 bc ∧ Below w.heap.size w W' :=
  (HearNew_ok c s hC hs w).mono fun _ _ ⟨a, cap, b, bc, he, ho, hb⟩ => ⟨segsC c, c.cPass, a, cap, b, bc, he, ⟨rfl, rfl, rfl, rfl, rfl, rfl, rfl, ho⟩, hb⟩

theorem takeV (c : Cfg) (hC : okC c = true) (h : Hr) (hk : okH c h) {base : Nat} {S R N P : Int} {a : Option Addr} {n cap : Nat} {D : Bool} {b : Option Addr} {m bc : Nat} (r f : Int) (xs : List Int) (x : Option Addr) (xn xc : Nat) (hxn : xs.length = xn) (w : World) (H : At7 base w h S R N P a n cap D b m bc) (hR : RightD S r f xs) (hx : Holds .u8 w.heap.size w (.slice x xn xc) xs) (hX : xn ≤ xc) (bx : ∀ z ∈ xs, 0 ≤ z ∧ z ≤ 255) (hF : Firsts w) :
    Calls Tryz.prog 9 #[.agg #[.int .i64 c.cB, .int .i64 c.cBeam, .int .i64 c.cDepth, .int .i64 c.cWin, .int .i64 c.cQs, .int .i64 c.cQr, .int .i64 c.cBatch, .int .i64 c.cPass, .int .i64 c.cMsg, .int .i64 c.cSeqs], .agg #[.int .i64 S, .int .i64 R, .int .i64 N, .int .i64 P, .slice a n cap, .bool D, .slice b m bc], .agg #[.int .i64 S, .int .i64 r, .int .i64 f, .slice x xn xc]] w fun e W' => ∃ (R' N' P' : Int) (a' : Option Addr) (n' cap' : Nat) (D' : Bool) (b' : Option Addr) (m' bc' : Nat) (i : Bool) (g : Hr), e = .returned (.tuple #[.agg #[.int .i64 S, .int .i64 R', .int .i64 N', .int .i64 P', .slice a' n' cap', .bool D', .slice b' m' bc'], .bool i, .int .i64 0]) ∧ Hid (takeH c h r f xs = (g, i)) ∧ okH c g ∧ At7 w.heap.size W' g S R' N' P' a' n' cap' D' b' m' bc' ∧ Below w.heap.size w W' := by
  obtain ⟨eS, eR, eN, eP, en, eD, em, own⟩ := H
  subst eS eR eN eP en eD em hxn
  have hxx : okX r f xs := ⟨hR.2.1, hR.2.2.1.1, bx⟩
  refine (HearTake_ok c h r f xs hC hk hR a b cap bc x xc w own.at hx hX bx hF).mono ?_
  rintro e W' ⟨a', cap', b', bc', he, ho, hb⟩
  refine ⟨(takeH c h r f xs).1.hR, (takeH c h r f xs).1.hN, (takeH c h r f xs).1.hP, a', (takeH c h r f xs).1.hL.length, cap', (takeH c h r f xs).1.hD, b', (takeH c h r f xs).1.hB.length, bc', (takeH c h r f xs).2, (takeH c h r f xs).1, ?_, (rfl : takeH c h r f xs = _), takeH_ok hk hxx, ⟨takeH_seq _ _ _ _ _, rfl, rfl, rfl, rfl, rfl, rfl, ho⟩, hb⟩
  rw [he, takeH_seq]

theorem takeV_no (c : Cfg) (h : Hr) (hl : h.hL.length ≤ 4294967296) (hb : h.hB.length ≤ 4096) {base : Nat} {S R N P : Int} {a : Option Addr} {n cap : Nat} {D : Bool} {b : Option Addr} {m bc : Nat} (r f : Int) (xs : List Int) (x : Option Addr) (xn xc : Nat) (hxn : xs.length = xn) (w : World) (H : At7 base w h S R N P a n cap D b m bc) (hR : errD S r f xs.length ≠ 0) (hx : Holds .u8 w.heap.size w (.slice x xn xc) xs) (hX : xn ≤ xc) (hX2 : xn ≤ 4294967296) (bx : ∀ z ∈ xs, 0 ≤ z ∧ z ≤ 255) (hF : Firsts w) :
    Calls Tryz.prog 9 #[.agg #[.int .i64 c.cB, .int .i64 c.cBeam, .int .i64 c.cDepth, .int .i64 c.cWin, .int .i64 c.cQs, .int .i64 c.cQr, .int .i64 c.cBatch, .int .i64 c.cPass, .int .i64 c.cMsg, .int .i64 c.cSeqs], .agg #[.int .i64 S, .int .i64 R, .int .i64 N, .int .i64 P, .slice a n cap, .bool D, .slice b m bc], .agg #[.int .i64 S, .int .i64 r, .int .i64 f, .slice x xn xc]] w fun e w' => e = .returned (.tuple #[.agg #[.int .i64 0, .int .i64 0, .int .i64 0, .int .i64 0, .slice none 0 0, .bool false, .slice none 0 0], .bool false, .int .i64 1]) ∧ Below w.heap.size w w' := by
  obtain ⟨eS, eR, eN, eP, en, eD, em, own⟩ := H
  subst eS eR eN eP en eD em hxn
  exact HearTake_no c h h.hS r f xs (fun q => hR q.2.2.1) hl hb a b cap bc x xc w own.at hx hX hX2 bx hF

theorem checkV (c : Cfg) (hC : okC c = true) (h : Hr) (hk : okH c h) {base : Nat} {S R N P : Int} {a : Option Addr} {n cap : Nat} {D : Bool} {b : Option Addr} {m bc : Nat} (w : World) (H : At7 base w h S R N P a n cap D b m bc) :
    Calls Tryz.prog 16 #[.agg #[.int .i64 c.cB, .int .i64 c.cBeam, .int .i64 c.cDepth, .int .i64 c.cWin, .int .i64 c.cQs, .int .i64 c.cQr, .int .i64 c.cBatch, .int .i64 c.cPass, .int .i64 c.cMsg, .int .i64 c.cSeqs], .agg #[.int .i64 S, .int .i64 R, .int .i64 N, .int .i64 P, .slice a n cap, .bool D, .slice b m bc]] w fun e w' => e = .returned (.int .i64 0) ∧ Below w.heap.size w w' := by
  obtain ⟨eS, eR, eN, eP, en, eD, em, own⟩ := H
  subst eS eR eN eP en eD em
  exact HearCheck_ok c h hC hk a b cap bc w own.at

theorem okH_le {c : Cfg} (hC : okC c = true) {h : Hr} (hk : okH c h) : h.hL.length ≤ 4611686018427387904 ∧ h.hB.length ≤ 4611686018427387904 := by
  have := okH_lens hC hk
  exact ⟨by omega, by omega⟩
theorem keepV (c : Cfg) (hC : okC c = true) (h : Hr) (hk : okH c h) {base base' : Nat} {S R N P : Int} {a a' : Option Addr} {n cap cap' : Nat} {D : Bool} {b b' : Option Addr} {m bc bc' : Nat} {S' R' N' P' : Int} {n' m' : Nat} {D' : Bool} (w : World) (H : At7 base w h S R N P a n cap D b m bc) (H' : At7 base' w h S' R' N' P' a' n' cap' D' b' m' bc') :
    Calls Tryz.prog 11 #[.agg #[.int .i64 S, .int .i64 R, .int .i64 N, .int .i64 P, .slice a n cap, .bool D, .slice b m bc], .agg #[.int .i64 S', .int .i64 R', .int .i64 N', .int .i64 P', .slice a' n' cap', .bool D', .slice b' m' bc']] w fun e w' => e = .returned (.bool true) ∧ Below w.heap.size w w' := by
  obtain ⟨eS, eR, eN, eP, en, eD, em, own⟩ := H
  obtain ⟨eS', eR', eN', eP', en', eD', em', own'⟩ := H'
  subst eS eR eN eP en eD em eS' eR' eN' eP' en' eD' em'
  exact keepHear_same h a b a' b' cap bc cap' bc' (okH_le hC hk).1 (okH_le hC hk).2 w own.at own'.at

/-- What becomes of it: it was accepted, it stays, or it was accepted now. -/
theorem takeH_cases {c : Cfg} {h g : Hr} {r f : Int} {xs : List Int} {i : Bool} (e : takeH c h r f xs = (g, i)) : (h.hD = true ∧ g = h ∧ i = false) ∨ (h.hD = false ∧ g = stayH h r f xs ∧ i = false ∧ gotH c h r f xs = none) ∨ (h.hD = false ∧ i = true ∧ ∃ b, gotH c h r f xs = some b ∧ g = doneH h r b) := by
  cases hd : h.hD with
  | true => rw [takeH_done hd] at e; cases e; exact .inl ⟨rfl, rfl, rfl⟩
  | false =>
    cases hg : gotH c h r f xs with
    | none => rw [takeH_none hd hg] at e; cases e; exact .inr (.inl ⟨rfl, rfl, rfl, rfl⟩)
    | some b => rw [takeH_some hd hg] at e; cases e; exact .inr (.inr ⟨rfl, rfl, b, rfl, rfl⟩)

end Go.Proofs.YtokejgoplalkhabGreatDoor

/-
  Symbols that are put side by side into an empty pile, as numbers. No function of the program is spoken of. (Written by tpl_hearflush.py.)
-/
namespace Go.Proofs.YtokejgoplalkhabGreatDoor
open Go.RowKit

theorem fills_nil {n p : Int} (h : HeadOk n p) (k : Int) : Fills n p [] k k := ⟨pileOk_nil h, fun q => ⟨(fun ⟨v, hv⟩ => by cases hv), fun e => by omega⟩⟩
theorem within_none (k q : Int) (m : Nat) : within k k q m = 0 := by
  have := within_eq k k q (by omega) m
  omega
/-- Into an empty pile: as many as are put; their places. -/
theorem puts_new {n p : Int} (h : HeadOk n p) {k : Int} (hk : 0 ≤ k) {xs : List Int} (hx : ∀ z ∈ xs, 0 ≤ z ∧ z ≤ 255) (hn : k + (xs.length : Int) ≤ n * p) : (putsL n p [] k xs).length = xs.length ∧ Fills n p (putsL n p [] k xs) k (k + (xs.length : Int)) := by
  obtain ⟨h1, h2, h3⟩ := fills_len (fills_nil h k) hk xs.length rfl hx hn
  rw [within_none] at h1
  refine ⟨by simpa using h1, h2, fun q => ?_⟩
  rw [h3 q]
  omega
/-- The first one. -/
theorem puts_first {n p : Int} (h : HeadOk n p) {k : Int} (hk : 0 ≤ k) {x : Int} {xs : List Int} (hx : ∀ z ∈ x :: xs, 0 ≤ z ∧ z ≤ 255) (hn : k + ((x :: xs).length : Int) ≤ n * p) : (putsL n p [] k (x :: xs))[0]? = some (k, x) := by
  obtain ⟨h1, h2, h3⟩ := puts_new h hk hx hn
  rw [List.length_cons] at hn
  have e0 : putN n p [] k x = [(k, x)] := by
    unfold putN
    rw [if_neg]
    · rfl
    · rintro (e | e)
      · omega
      · cases e
  have hm : (k, x) ∈ putsL n p [] k (x :: xs) := by
    rw [putsL]
    exact putsL_has (by rw [e0]; simp)
  cases hl : putsL n p [] k (x :: xs) with
  | nil => rw [hl] at hm; cases hm
  | cons y t =>
    rw [hl] at hm h3 h2
    rcases List.mem_cons.1 hm with e | e
    · rw [← e]; rfl
    · exfalso
      have hy := (h3 y.1).1 ⟨y.2, by simp⟩
      have hr := List.rel_of_pairwise_cons h2.2.2 e
      simp only at hr
      omega
/-- Into what is there: those that were there already do not count. -/
theorem puts_more {n p : Int} (h : HeadOk n p) {k q : Int} (hk : 0 ≤ k) (hq : 0 ≤ q) {xs ys : List Int} (hx : ∀ z ∈ xs, 0 ≤ z ∧ z ≤ 255) (hy : ∀ z ∈ ys, 0 ≤ z ∧ z ≤ 255) (hn : k + (xs.length : Int) ≤ n * p) (hm : q + (ys.length : Int) ≤ n * p) : (putsL n p (putsL n p [] k xs) q ys).length + within q (q + (ys.length : Int)) k xs.length = xs.length + ys.length := by
  obtain ⟨h1, h2⟩ := puts_new h hk hx hn
  have h3 := (fills_len h2 hq ys.length rfl hy hm).1
  rw [h1, within_comm] at h3
  exact h3
theorem small_most {c : Cfg} (h : SmallC c) : 88 ≤ mostC c ∧ mostC c ≤ 182 := by
  have e : mostC c = segsC c * c.cPass := rfl
  unfold SmallC at h
  have hs : 22 ≤ segsC c ∧ segsC c ≤ 26 := by unfold segsC; omega
  rw [e]
  obtain ⟨p, hp⟩ : ∃ p, c.cPass = p := ⟨_, rfl⟩
  rw [hp] at h ⊢
  obtain rfl | rfl | rfl | rfl : p = 4 ∨ p = 5 ∨ p = 6 ∨ p = 7 := by omega
  all_goals omega

end Go.Proofs.YtokejgoplalkhabGreatDoor

/-
  What the laws of a block that is heard call beside hear's own calls, its fields as plain numbers: a block's bytes, its symbols, whether bytes are the same.
-/
namespace Go.Proofs.YtokejgoplalkhabGreatDoor
open Go.RowKit

theorem mostC_leV {c : Cfg} (h : okC c = true) {n : Nat} (hn : (n : Int) = c.cB + 10) : mostC c ≤ 32 * (n : Int) := by
  have h2 := ((okC_iff c).1 h).2.2.2.2.2.2.2.1
  have h1 := ((okC_iff c).1 h).1
  unfold mostC segsC
  rw [← hn]
  have : 2 * (n : Int) * c.cPass ≤ 2 * (n : Int) * 16 := Int.mul_le_mul_of_nonneg_left (by omega) (by omega)
  omega

/-- Its bytes, if it was accepted, are read as a block of its number. -/
theorem readV (c : Cfg) (hC : okC c = true) (h : Hr) (hk : okH c h) (hD : h.hD = true) {base : Nat} {S R N P : Int} {a : Option Addr} {n cap : Nat} {D : Bool} {b : Option Addr} {m bc : Nat} (w : World) (H : At7 base w h S R N P a n cap D b m bc) :
    Calls Tryz.prog 10 #[.int .i64 c.cB, .slice b m bc] w fun e W' => ∃ (mk : Int) (ra : Option Addr) (rn rc : Nat), e = .returned (.tuple #[.agg #[.int .i64 S, .int .i64 mk, .slice ra rn rc], .int .i64 0]) ∧ Below w.heap.size w W' := by
  obtain ⟨eS, eR, eN, eP, en, eD, em, own⟩ := H
  subst eS em
  have hcb := ((okC_iff c).1 hC).1
  obtain ⟨h1, h2, h3, h4⟩ := (blockB_iff c h.hS h.hB).1 (hk.2.2.2.2.2.2.1 hD)
  obtain ⟨Z, hZ⟩ : ∃ Z : Nat, c.cB = (Z : Int) := ⟨_, (Int.toNat_of_nonneg (by omega)).symm⟩
  have := Read_ok Z (by omega) (by omega) b bc h.hB (by omega) (row_cap1 own.byts) own.byte h2 (by rw [hZ] at h3; exact h3) w (holds_of_row own.byts)
  rw [← hZ, h4] at this
  exact this.mono fun e W' ⟨ra, rc, he, _, hb⟩ => ⟨_, ra, _, rc, he, hb⟩

/-- A block's bytes: what is said of them. -/
structure XB (c : Cfg) (s : Int) (zs : List Int) (xn : Nat) : Prop where
  blk : blockB c s zs = true
  len : zs.length = xn
  cl : (xn : Int) = c.cB + 10
  bz : ∀ z ∈ zs, 0 ≤ z ∧ z ≤ 255
  hs : 0 ≤ s ∧ s < 1073741824

theorem makeV (c : Cfg) (hC : okC c = true) (s mk : Int) (ta : Option Addr) (tn tc : Nat) (ts : List Int) (htn : ts.length = tn) (bt : ∀ z ∈ ts, 0 ≤ z ∧ z ≤ 255) (w : World) (ha : Holds .u8 w.heap.size w (.slice ta tn tc) ts) :
    Calls Tryz.prog 24 #[.int .i64 c.cB, .agg #[.int .i64 s, .int .i64 mk, .slice ta tn tc]] w fun e W' => ((∃ E, e = .returned (.tuple #[.slice none 0 0, .int .i64 E]) ∧ Hid (E ≠ 0)) ∨ ∃ (xa : Option Addr) (xn xc : Nat) (zs : List Int), e = .returned (.tuple #[.slice xa xn xc, .int .i64 0]) ∧ XB c s zs xn ∧ W'.ownsRow w.heap.size 5 1 (.slice xa xn xc) xn (zs.map (Value.int .u8))) ∧ Below w.heap.size w W' := by
  subst htn
  have hcb := ((okC_iff c).1 hC).1
  obtain ⟨Z, hZ⟩ : ∃ Z : Nat, c.cB = (Z : Int) := ⟨_, (Int.toNat_of_nonneg (by omega)).symm⟩
  by_cases he : errB c.cB s mk ts.length = 0
  · have hR : Right Z s mk ts := (right_iff Z s mk ts).1 (hZ ▸ he)
    have := Make_ok Z s mk ta tc ts hR bt w ha
    rw [← hZ] at this
    refine this.mono ?_
    rintro e W' ⟨r, he, ho, hb⟩
    obtain ⟨xa, xc, rfl⟩ := row_shapeH ho
    refine ⟨.inr ⟨xa, Z + 10, xc, bytesB Z s mk ts, he, ⟨block_right hZ hR, bytesB_len hR.2.2.2.1, by omega, bytesB_bd hR bt, hR.2.1⟩, ho⟩, hb⟩
  · exact (Make_no c.cB s mk ta ts.length tc he w).mono fun e W' ⟨h1, h2⟩ => ⟨.inl ⟨_, h1, he⟩, h2⟩

theorem encV {c : Cfg} (hC : okC c = true) {s : Int} {zs : List Int} {xn : Nat} (X : XB c s zs xn) (xa : Option Addr) (xc : Nat) (f k : Nat) (hk : ((f + k : Nat) : Int) ≤ mostC c) (w : World) (hF : Firsts w) (ha : Holds .u8 w.heap.size w (.slice xa xn xc) zs) :
    Calls Tryz.prog 28 #[.slice xa xn xc, .int .i64 (f : Int), .int .i64 (k : Int)] w fun e W' => ∃ (ra : Option Addr) (rc : Nat), e = .returned (.tuple #[.slice ra k rc, .int .i64 0]) ∧ W'.ownsRow w.heap.size 5 1 (.slice ra k rc) k ((codeL zs f k).map (Value.int .u8)) ∧ Below w.heap.size w W' := by
  have hcb := ((okC_iff c).1 hC).1
  have hcl := X.cl
  have hm := mostC_leV hC (n := xn) hcl
  refine (Encode_row xa xn xc zs X.len (by omega) (by omega) X.bz f k (by omega) w hF ha).mono ?_
  rintro e W' ⟨r, he, ho, hb⟩
  obtain ⟨ra, rc, rfl⟩ := row_shapeH ho
  exact ⟨ra, rc, he, ho, hb⟩

theorem codeR {c : Cfg} {s : Int} {zs : List Int} {xn : Nat} (X : XB c s zs xn) {r : Int} (hr : 0 ≤ r ∧ r ≤ 255) {f k : Nat} (hf : f ≤ 65535) (h1 : 1 ≤ k) (h2 : k ≤ 64) : RightD s r (f : Int) (codeL zs f k) := ⟨X.hs, hr, by omega, by rw [codeL_len]; exact h1, by rw [codeL_len]; exact h2⟩

/-- Its bytes are the block's. -/
theorem bytesV {c : Cfg} (h : Hr) {s : Int} {zs : List Int} {xn : Nat} (X : XB c s zs xn) (hB : h.hB = zs) {base : Nat} {S R N P : Int} {a : Option Addr} {n cap : Nat} {D : Bool} {b : Option Addr} {m bc : Nat} (xa : Option Addr) (xc : Nat) (w : World) (H : At7 base w h S R N P a n cap D b m bc) (hC : okC c = true) (hx : Holds .u8 w.heap.size w (.slice xa xn xc) zs) :
    Calls Tryz.prog 27 #[.slice b m bc, .slice xa xn xc] w fun e w' => e = .returned (.bool true) ∧ Below w.heap.size w w' := by
  obtain ⟨eS, eR, eN, eP, en, eD, em, own⟩ := H
  subst em
  have hcb := ((okC_iff c).1 hC).1
  have hcl := X.cl
  have hln := X.len
  have := bytes_any (.slice b h.hB.length bc) (.slice xa xn xc) h.hB zs _ _ w (by omega) (holds_of_row own.byts) hx
  rw [decide_eq_true hB] at this
  exact this.mono fun e w' ⟨h1, q, h2⟩ => ⟨h1, by rw [h2]; exact below_drewN (Below.refl _ _) q⟩

theorem below_drew_of {n : Nat} {W : World} (h : W.heap.size = n) : Below n W W.drew := h ▸ (Below.refl _ _).drew
theorem below_same_of {n : Nat} {W : World} (h : W.heap.size = n) : Below n W W := h ▸ Below.refl _ _
/-- Bytes in a row of a call's own. -/
def OwnB1 (a : Option Addr) (n cap : Nat) (zs : List Int) (base : Nat) (W : World) : Prop := W.ownsRow base 5 1 (.slice a n cap) n (zs.map (Value.int .u8))
theorem OwnB1.next {a : Option Addr} {n cap : Nat} {zs : List Int} {base : Nat} {W W' : World} (h : OwnB1 a n cap zs base W) (k : Below W.heap.size W W') : OwnB1 a n cap zs base W' := row_below h k (Nat.le_refl _)
theorem OwnB1.holds {a : Option Addr} {n cap : Nat} {zs : List Int} {base : Nat} {W : World} (h : OwnB1 a n cap zs base W) : Holds .u8 W.heap.size W (.slice a n cap) zs := holds_of_row h
theorem OwnB1.cap {a : Option Addr} {n cap : Nat} {zs : List Int} {base : Nat} {W : World} (h : OwnB1 a n cap zs base W) : n ≤ cap := row_cap1 h
/-- A store of seven cells into a block in which it does not lie. -/
theorem OwnB1.store {a : Option Addr} {n cap : Nat} {zs : List Int} {base : Nat} {W : World} (h : OwnB1 a n cap zs base W) {B : Nat} (hB : (Value.slice a n cap).ownBlock ≠ some B) (x0 x1 x2 x3 x4 x5 x6 : Value) : OwnB1 a n cap zs base (((((((W.setCell ⟨B, 0, none⟩ x0).setCell ⟨B, 1, none⟩ x1).setCell ⟨B, 2, none⟩ x2).setCell ⟨B, 3, none⟩ x3).setCell ⟨B, 4, none⟩ x4).setCell ⟨B, 5, none⟩ x5).setCell ⟨B, 6, none⟩ x6) := row_set7x h hB x0 x1 x2 x3 x4 x5 x6
theorem segsV (c : Cfg) (hC : okC c = true) (w : World) : Calls Tryz.prog 15 #[.agg #[.int .i64 c.cB, .int .i64 c.cBeam, .int .i64 c.cDepth, .int .i64 c.cWin, .int .i64 c.cQs, .int .i64 c.cQr, .int .i64 c.cBatch, .int .i64 c.cPass, .int .i64 c.cMsg, .int .i64 c.cSeqs]] w fun e w' => e = .returned (.int .i64 (segsC c)) ∧ Below w.heap.size w w' := by
  have := ConfSegs_any c w
  unfold segsA at this
  rw [if_pos hC] at this
  exact this
theorem small_segs {c : Cfg} (h : SmallC c) : 22 ≤ segsC c ∧ segsC c ≤ 26 := by
  unfold SmallC at h
  unfold segsC
  omega
/-- By four passes it is accepted. -/
theorem four_most {c : Cfg} (h : SmallC c) : 4 * segsC c ≤ mostC c := by
  have hs := small_segs h
  have e : mostC c = segsC c * c.cPass := rfl
  unfold SmallC at h
  rw [e]
  obtain ⟨p, hp⟩ : ∃ p, c.cPass = p := ⟨_, rfl⟩
  rw [hp] at h ⊢
  obtain rfl | rfl | rfl | rfl : p = 4 ∨ p = 5 ∨ p = 6 ∨ p = 7 := by omega
  all_goals omega

end Go.Proofs.YtokejgoplalkhabGreatDoor

/-
  A list of data, in memory: how each lies. No function of the program is spoken of.
-/
namespace Go.Proofs.YtokejgoplalkhabGreatDoor
open Go.RowKit

/-- Data: its number, its round, where it begins, its symbols. -/
abbrev Dt := Int × Int × Int × List Int
/-- The slice at a holds these, in a block below n₀. -/
def Datas (n₀ : Nat) (W : World) (a : Option Addr) (n : Nat) (l : List Dt) : Prop := l.length = n ∧ ∀ (j : Nat) (d : Dt), l[j]? = some d → ∃ b off xa xc, a = some ⟨b, off, none⟩ ∧ b < n₀ ∧ W.cell? ⟨b, off + j * 4, none⟩ = some (.int .i64 d.1) ∧ W.cell? ⟨b, off + j * 4 + 1, none⟩ = some (.int .i64 d.2.1) ∧ W.cell? ⟨b, off + j * 4 + 2, none⟩ = some (.int .i64 d.2.2.1) ∧ W.cell? ⟨b, off + j * 4 + 3, none⟩ = some (.slice xa d.2.2.2.length xc) ∧ Holds .u8 n₀ W (.slice xa d.2.2.2.length xc) d.2.2.2 ∧ d.2.2.2.length ≤ xc ∧ ∀ z ∈ d.2.2.2, 0 ≤ z ∧ z ≤ 255
theorem Datas.next {n₀ : Nat} {W W' : World} {a : Option Addr} {n : Nat} {l : List Dt} (h : Datas n₀ W a n l) (k : Below n₀ W W') : Datas n₀ W' a n l := by
  refine ⟨h.1, fun j d hj => ?_⟩
  obtain ⟨b, off, xa, xc, h0, h1, h2, h3, h4, h5, h6, h7⟩ := h.2 j d hj
  exact ⟨b, off, xa, xc, h0, h1, (k.cell (p := ⟨b, off + j * 4, none⟩) h1).trans h2, (k.cell (p := ⟨b, off + j * 4 + 1, none⟩) h1).trans h3, (k.cell (p := ⟨b, off + j * 4 + 2, none⟩) h1).trans h4, (k.cell (p := ⟨b, off + j * 4 + 3, none⟩) h1).trans h5, h6.below k, h7⟩

end Go.Proofs.YtokejgoplalkhabGreatDoor

/-
  A block that is heard as an argument; lists of data, of texts, of triples as arguments. (Written by tpl_hearopen.py.)
-/
namespace Go.Proofs.YtokejgoplalkhabGreatDoor
open Go.ChangeShapes Go.WideShapes Go.ChangeAt Go.RowKit

set_option maxRecDepth 100000 in
theorem array7 {α : Type} {cs : Array α} (h : cs.size = 7) : ∃ c0 c1 c2 c3 c4 c5 c6, cs = #[c0, c1, c2, c3, c4, c5, c6] := by
  obtain ⟨l⟩ := cs
  match l, h with
  | [c0, c1, c2, c3, c4, c5, c6], _ => exact ⟨c0, c1, c2, c3, c4, c5, c6, rfl⟩

set_option maxRecDepth 100000 in
set_option maxHeartbeats 1000000 in
theorem hear_of_trod {H : Type} {enc : TypeId × Value → H} {W : World} {base : Nat} {held : Bool} {r : Reach} {b0 : Nat} {v : Value} {d : DataW H} {p : List MemPlace} (hv : Value.okWide Tryz.prog W r b0 33 v) (h : DataW.Trod enc Tryz.prog W base (fun _ => true) held 33 v d p) : ∃ (s q N P : Int) (k : Bool) (a : Option Addr) (len cap : Nat) (l : List (Int × Int)) (b : Option Addr) (blen bcap : Nat) (zs : List Int), v = .agg #[.int .i64 s, .int .i64 q, .int .i64 N, .int .i64 P, .slice a len cap, .bool k, .slice b blen bcap] ∧ IsSyms W a len cap l ∧ IsRow .u8 W b blen bcap zs := by
  have hC : Tryz.prog.cellsOf 33 = 7 := by kernel_rfl
  have hP : Tryz.prog.cellsOf 30 = 3 := by kernel_rfl
  have hI : Tryz.prog.cellsOf 3 = 1 := by kernel_rfl
  have hB : Tryz.prog.cellsOf 4 = 1 := by kernel_rfl
  have hS : Tryz.prog.cellsOf 31 = 1 := by kernel_rfl
  have hL : Tryz.prog.cellsOf 28 = 1 := by kernel_rfl
  obtain ⟨cs, rfl, hsz⟩ := okWide_struct Tryz.underlying33 hv
  obtain ⟨c0, c1, c2, c3, c4, c5, c6, rfl⟩ := array7 (hsz.trans hC)
  obtain ⟨fuel, hf⟩ := h
  obtain ⟨xs, n, _, _, _, hlen, hg⟩ := DataW.trod_struct Tryz.underlying33 hf
  have hl : xs.length = 5 := hlen
  have k0 : DataW.trod enc Tryz.prog W base (fun _ => true) held n 3 (((Value.agg #[c0, c1, c2, c3, c4, c5, c6]).cells.toList.drop 0).take (Tryz.prog.cellsOf 3)) = xs[0]? := hg 0 _ rfl
  rw [List.getElem?_eq_getElem (show 0 < xs.length by omega), show ((Value.agg #[c0, c1, c2, c3, c4, c5, c6]).cells.toList.drop 0).take (Tryz.prog.cellsOf 3) = [c0] by rw [hI]; rfl] at k0
  obtain ⟨n0, e0, _, _⟩ := DataW.trod_int Tryz.underlying3 k0
  have k1 : DataW.trod enc Tryz.prog W base (fun _ => true) held n 3 (((Value.agg #[c0, c1, c2, c3, c4, c5, c6]).cells.toList.drop 1).take (Tryz.prog.cellsOf 3)) = xs[1]? := hg 1 _ rfl
  rw [List.getElem?_eq_getElem (show 1 < xs.length by omega), show ((Value.agg #[c0, c1, c2, c3, c4, c5, c6]).cells.toList.drop 1).take (Tryz.prog.cellsOf 3) = [c1] by rw [hI]; rfl] at k1
  obtain ⟨n1, e1, _, _⟩ := DataW.trod_int Tryz.underlying3 k1
  have k2 : DataW.trod enc Tryz.prog W base (fun _ => true) held n 30 (((Value.agg #[c0, c1, c2, c3, c4, c5, c6]).cells.toList.drop 2).take (Tryz.prog.cellsOf 30)) = xs[2]? := hg 2 _ rfl
  rw [List.getElem?_eq_getElem (show 2 < xs.length by omega), show ((Value.agg #[c0, c1, c2, c3, c4, c5, c6]).cells.toList.drop 2).take (Tryz.prog.cellsOf 30) = [c2, c3, c4] by rw [hP]; rfl] at k2
  have k3 : DataW.trod enc Tryz.prog W base (fun _ => true) held n 4 (((Value.agg #[c0, c1, c2, c3, c4, c5, c6]).cells.toList.drop 5).take (Tryz.prog.cellsOf 4)) = xs[3]? := hg 3 _ rfl
  rw [List.getElem?_eq_getElem (show 3 < xs.length by omega), show ((Value.agg #[c0, c1, c2, c3, c4, c5, c6]).cells.toList.drop 5).take (Tryz.prog.cellsOf 4) = [c5] by rw [hB]; rfl] at k3
  obtain ⟨n3, e3, _⟩ := DataW.trod_bool Tryz.underlying4 k3
  have k4 : DataW.trod enc Tryz.prog W base (fun _ => true) held n 31 (((Value.agg #[c0, c1, c2, c3, c4, c5, c6]).cells.toList.drop 6).take (Tryz.prog.cellsOf 31)) = xs[4]? := hg 4 _ rfl
  rw [List.getElem?_eq_getElem (show 4 < xs.length by omega), show ((Value.agg #[c0, c1, c2, c3, c4, c5, c6]).cells.toList.drop 6).take (Tryz.prog.cellsOf 31) = [c6] by rw [hS]; rfl] at k4
  obtain ⟨ys, m, _, _, _, hlen2, hg2⟩ := DataW.trod_struct Tryz.underlying30 k2
  have hl2 : ys.length = 3 := hlen2
  have j0 : DataW.trod enc Tryz.prog W base (fun _ => true) held m 3 (([c2, c3, c4].drop 0).take (Tryz.prog.cellsOf 3)) = ys[0]? := hg2 0 _ rfl
  rw [List.getElem?_eq_getElem (show 0 < ys.length by omega), show ([c2, c3, c4].drop 0).take (Tryz.prog.cellsOf 3) = [c2] by rw [hI]; rfl] at j0
  obtain ⟨m0, f0, _, _⟩ := DataW.trod_int Tryz.underlying3 j0
  have j1 : DataW.trod enc Tryz.prog W base (fun _ => true) held m 3 (([c2, c3, c4].drop 1).take (Tryz.prog.cellsOf 3)) = ys[1]? := hg2 1 _ rfl
  rw [List.getElem?_eq_getElem (show 1 < ys.length by omega), show ([c2, c3, c4].drop 1).take (Tryz.prog.cellsOf 3) = [c3] by rw [hI]; rfl] at j1
  obtain ⟨m1, f1, _, _⟩ := DataW.trod_int Tryz.underlying3 j1
  have j2 : DataW.trod enc Tryz.prog W base (fun _ => true) held m 28 (([c2, c3, c4].drop 2).take (Tryz.prog.cellsOf 28)) = ys[2]? := hg2 2 _ rfl
  rw [List.getElem?_eq_getElem (show 2 < ys.length by omega), show ([c2, c3, c4].drop 2).take (Tryz.prog.cellsOf 28) = [c4] by rw [hL]; rfl] at j2
  simp only [List.cons.injEq, and_true] at e0 e1 e3 f0 f1
  subst e0 e1 e3 f0 f1
  obtain ⟨a, len, cap, rfl⟩ : ∃ a len cap, c4 = .slice a len cap := by
    rcases Go.Deep.open_slice Tryz.underlying28 j2 with ⟨hcs, _⟩ | ⟨ad, len', cap', _, _, _, _, hcs, _⟩
    · simp only [List.cons.injEq, and_true] at hcs
      exact ⟨_, _, _, hcs⟩
    · simp only [List.cons.injEq, and_true] at hcs
      exact ⟨_, _, _, hcs⟩
  obtain ⟨l, hl4⟩ := isSyms_of_trod j2
  rcases open_ints Tryz.underlying31 Tryz.underlying5 (by kernel_rfl) k4 with ⟨hcs, _⟩ | ⟨x, l5, c, zs, hcs, _, hl, hm, hz, _, hcell, hwz⟩
  · simp only [List.cons.injEq, and_true] at hcs
    subst hcs
    exact ⟨n0, n1, m0, m1, n3, a, len, cap, l, _, _, _, [], rfl, hl4, .inl ⟨rfl, rfl, rfl, rfl⟩⟩
  · simp only [List.cons.injEq, and_true] at hcs
    subst hcs
    exact ⟨n0, n1, m0, m1, n3, a, len, cap, l, _, _, _, zs, rfl, hl4, .inr ⟨_, rfl, hl, hm, by simpa using hz, hcell, hwz⟩⟩

end Go.Proofs.YtokejgoplalkhabGreatDoor

/-
  Lists of data, of texts, of triples, as they lie and as arguments.
-/
namespace Go.Proofs.YtokejgoplalkhabGreatDoor
open Go.RowKit

/-- The slice at a holds these texts, in a block below n₀. -/
def Texts (n₀ : Nat) (W : World) (a : Option Addr) (n : Nat) (l : List (List Int)) : Prop := l.length = n ∧ ∀ (j : Nat) (x : List Int), l[j]? = some x → ∃ b off xa xc, a = some ⟨b, off, none⟩ ∧ b < n₀ ∧ W.cell? ⟨b, off + j, none⟩ = some (.slice xa x.length xc) ∧ Holds .u8 n₀ W (.slice xa x.length xc) x ∧ x.length ≤ xc ∧ ∀ z ∈ x, 0 ≤ z ∧ z ≤ 255
theorem Texts.next {n₀ : Nat} {W W' : World} {a : Option Addr} {n : Nat} {l : List (List Int)} (h : Texts n₀ W a n l) (k : Below n₀ W W') : Texts n₀ W' a n l := by
  refine ⟨h.1, fun j x hj => ?_⟩
  obtain ⟨b, off, xa, xc, h0, h1, h2, h6, h7⟩ := h.2 j x hj
  exact ⟨b, off, xa, xc, h0, h1, (k.cell (p := ⟨b, off + j, none⟩) h1).trans h2, h6.below k, h7⟩
/-- The slice at a holds these triples, in a block below n₀. -/
def Trips (n₀ : Nat) (W : World) (a : Option Addr) (n : Nat) (l : List (Int × Int × Int)) : Prop := l.length = n ∧ ∀ (j : Nat) (x : Int × Int × Int), l[j]? = some x → ∃ b off, a = some ⟨b, off, none⟩ ∧ b < n₀ ∧ W.cell? ⟨b, off + j * 3, none⟩ = some (.int .i64 x.1) ∧ W.cell? ⟨b, off + j * 3 + 1, none⟩ = some (.int .i64 x.2.1) ∧ W.cell? ⟨b, off + j * 3 + 2, none⟩ = some (.int .i64 x.2.2)
theorem Trips.next {n₀ : Nat} {W W' : World} {a : Option Addr} {n : Nat} {l : List (Int × Int × Int)} (h : Trips n₀ W a n l) (k : Below n₀ W W') : Trips n₀ W' a n l := by
  refine ⟨h.1, fun j x hj => ?_⟩
  obtain ⟨b, off, h0, h1, h2, h3, h4⟩ := h.2 j x hj
  exact ⟨b, off, h0, h1, (k.cell (p := ⟨b, off + j * 3, none⟩) h1).trans h2, (k.cell (p := ⟨b, off + j * 3 + 1, none⟩) h1).trans h3, (k.cell (p := ⟨b, off + j * 3 + 2, none⟩) h1).trans h4⟩

theorem cellsIntL : Tryz.prog.cellsOf 3 = 1 := by kernel_rfl
theorem cellsU8L : Tryz.prog.cellsOf 5 = 1 := by kernel_rfl
theorem cellsBytesL : Tryz.prog.cellsOf 31 = 1 := by kernel_rfl

/-- A text that came in, opened. -/
theorem text_of_trod {H : Type} {enc : TypeId × Value → H} {w : World} {base : Nat} {held : Bool} {fuel : Nat} {v : Value} {x : DataW H × List MemPlace}
    (h : DataW.trod enc Tryz.prog w base (fun _ => true) held fuel 31 [v] = some x) : ∃ a ys c, v = .slice a ys.length c ∧ Holds .u8 w.heap.size w v ys ∧ ys.length ≤ c ∧ ∀ z ∈ ys, 0 ≤ z ∧ z ≤ 255 := by
  rcases Go.ChangeShapes.open_ints Tryz.underlying31 Tryz.underlying5 cellsU8L h with ⟨hcs, _⟩ | ⟨x3, l3, c3', zs, hcs, _, hl3, hm3, hz, _, hcell3, hwz⟩
  · simp at hcs
    subst hcs
    exact ⟨_, [], _, rfl, .inl ⟨⟨_, _, rfl, fun _ => rfl⟩, rfl⟩, Nat.le_refl _, by simp⟩
  · simp at hcs
    subst hcs
    obtain ⟨ys, e, hy, hw⟩ := holds_of_isRow (kd := .u8) (w := w) (a := some x3) (len := l3) (cap := c3') (zs := zs) (.inr ⟨x3, rfl, hl3, hm3, by simpa using hz, hcell3, hwz⟩)
    subst e
    exact ⟨_, ys, _, rfl, hy, hl3, bytes_bd hw⟩

set_option maxRecDepth 100000 in
set_option maxHeartbeats 1000000 in
/-- A list of texts that came in, opened. -/
theorem texts_of_trod {H : Type} {enc : TypeId × Value → H} {w : World} {base : Nat} {held : Bool} {fuel : Nat} {a : Option Addr} {len cap : Nat} {x : DataW H × List MemPlace}
    (h : DataW.trod enc Tryz.prog w base (fun _ => true) held fuel 101 [.slice a len cap] = some x) : ∃ l, Texts w.heap.size w a len l := by
  rcases Go.Deep.open_slice Tryz.underlying101 h with ⟨hcs, _⟩ | ⟨ad, len', cap', m, n, D, Pl, hcs, _, hl, hc, hm, _, hx⟩
  · simp at hcs
    obtain ⟨rfl, rfl, rfl⟩ := hcs
    exact ⟨[], rfl, fun j x hj => by simp at hj⟩
  · simp at hcs
    obtain ⟨rfl, rfl, rfl⟩ := hcs
    have hlm : len ≤ m := by rw [hm]; split <;> omega
    have each : ∀ i, i < len → ∃ q : List Int × Option Addr × Nat, w.cell? (ad.add i) = some (.slice q.2.1 q.1.length q.2.2) ∧ Holds .u8 w.heap.size w (.slice q.2.1 q.1.length q.2.2) q.1 ∧ q.1.length ≤ q.2.2 ∧ ∀ z ∈ q.1, 0 ≤ z ∧ z ≤ 255 := by
      intro i hi
      obtain ⟨cs', h1, h2⟩ := hx i (by omega)
      rw [cellsBytesL] at h1
      obtain ⟨_, hlen, hcell⟩ := World.cells?_some h1
      match cs', hlen with
      | [v0], _ =>
        obtain ⟨a3, ys, c3, rfl, hy, h3, h5⟩ := text_of_trod h2
        have c0 := hcell 0 (by omega)
        simp at c0
        exact ⟨(ys, a3, c3), by simpa [Go.Deep.add_add] using c0, hy, h3, h5⟩
    by_cases h0 : len = 0
    · subst h0
      exact ⟨[], rfl, fun j x hj => by simp at hj⟩
    · haveI : Inhabited (List Int × Option Addr × Nat) := ⟨([], none, 0)⟩
      obtain ⟨q, hq⟩ := Go.Deep.choose_lt each
      obtain ⟨b, off, spot⟩ := ad
      have hspot : spot = none := by
        have := (hq 0 (by omega)).1
        simpa [Addr.add] using World.cell?_spot this
      subst hspot
      refine ⟨(List.range len).map fun i => (q i).1, by simp, fun j x hj => ?_⟩
      have hjl : j < len := by have := (List.getElem?_eq_some_iff.1 hj).1; simpa using this
      rw [List.getElem?_map, List.getElem?_range hjl] at hj
      simp at hj
      subst hj
      obtain ⟨g1, g2, g3, g5⟩ := hq j hjl
      rw [Go.WideShapes.add_plain] at g1
      exact ⟨b, off, (q j).2.1, (q j).2.2, rfl, by have := symAt_lt g1; exact this, g1, g2, g3, g5⟩

theorem cellsDataL : Tryz.prog.cellsOf 38 = 4 := by kernel_rfl
set_option maxRecDepth 100000 in
set_option maxHeartbeats 1000000 in
/-- A list of data that came in, opened. -/
theorem datas_of_trod {H : Type} {enc : TypeId × Value → H} {w : World} {base : Nat} {held : Bool} {fuel : Nat} {a : Option Addr} {len cap : Nat} {x : DataW H × List MemPlace}
    (h : DataW.trod enc Tryz.prog w base (fun _ => true) held fuel 24 [.slice a len cap] = some x) : ∃ l, Datas w.heap.size w a len l := by
  rcases Go.Deep.open_slice Tryz.underlying24 h with ⟨hcs, _⟩ | ⟨ad, len', cap', m, n, D, Pl, hcs, _, hl, hc, hm, _, hx⟩
  · simp at hcs
    obtain ⟨rfl, rfl, rfl⟩ := hcs
    exact ⟨[], rfl, fun j x hj => by simp at hj⟩
  · simp at hcs
    obtain ⟨rfl, rfl, rfl⟩ := hcs
    have hlm : len ≤ m := by rw [hm]; split <;> omega
    have each : ∀ i, i < len → ∃ q : Dt × Option Addr × Nat, w.cell? (ad.add (i * 4)) = some (.int .i64 q.1.1) ∧ w.cell? (ad.add (i * 4 + 1)) = some (.int .i64 q.1.2.1) ∧ w.cell? (ad.add (i * 4 + 2)) = some (.int .i64 q.1.2.2.1) ∧ w.cell? (ad.add (i * 4 + 3)) = some (.slice q.2.1 q.1.2.2.2.length q.2.2) ∧ Holds .u8 w.heap.size w (.slice q.2.1 q.1.2.2.2.length q.2.2) q.1.2.2.2 ∧ q.1.2.2.2.length ≤ q.2.2 ∧ ∀ z ∈ q.1.2.2.2, 0 ≤ z ∧ z ≤ 255 := by
      intro i hi
      obtain ⟨cs', h1, h2⟩ := hx i (by omega)
      rw [cellsDataL] at h1
      obtain ⟨_, hlen, hcell⟩ := World.cells?_some h1
      match cs', hlen with
      | [v0, v1, v2, v3], _ =>
        obtain ⟨y0, y1, y2, y3, k, _, _, t0, t1, t2, t3⟩ := Go.Joins.trod_struct4 Tryz.underlying38 h2
        simp only [cellsIntL, cellsBytesL] at t0 t1 t2 t3
        obtain ⟨z0, e0, _, _⟩ := DataW.trod_int Tryz.underlying3 t0
        obtain ⟨z1, e1, _, _⟩ := DataW.trod_int Tryz.underlying3 t1
        obtain ⟨z2, e2, _, _⟩ := DataW.trod_int Tryz.underlying3 t2
        simp at e0 e1 e2
        have c0 := hcell 0 (by omega)
        have c1 := hcell 1 (by omega)
        have c2 := hcell 2 (by omega)
        have c3 := hcell 3 (by omega)
        rw [Go.Deep.add_add] at c0 c1 c2 c3
        simp at c0 c1 c2 c3
        obtain ⟨a3, ys, cc, hv3, hy, h3, h5⟩ := text_of_trod (show DataW.trod enc Tryz.prog w base (fun _ => true) held k 31 [v3] = some y3 by simpa using t3)
        subst hv3
        exact ⟨((z0, z1, z2, ys), a3, cc), by rw [c0, e0], by rw [c1, e1], by rw [c2, e2], c3, hy, h3, h5⟩
    by_cases h0 : len = 0
    · subst h0
      exact ⟨[], rfl, fun j x hj => by simp at hj⟩
    · haveI : Inhabited (Dt × Option Addr × Nat) := ⟨((0, 0, 0, []), none, 0)⟩
      obtain ⟨q, hq⟩ := Go.Deep.choose_lt each
      obtain ⟨b, off, spot⟩ := ad
      have hspot : spot = none := by
        have := (hq 0 (by omega)).1
        simpa [Addr.add] using World.cell?_spot this
      subst hspot
      refine ⟨(List.range len).map fun i => (q i).1, by simp, fun j x hj => ?_⟩
      have hjl : j < len := by have := (List.getElem?_eq_some_iff.1 hj).1; simpa using this
      rw [List.getElem?_map, List.getElem?_range hjl] at hj
      simp at hj
      subst hj
      obtain ⟨g1, g2, g3, g4, g5⟩ := hq j hjl
      rw [Go.WideShapes.add_plain] at g1 g2 g3 g4
      exact ⟨b, off, (q j).2.1, (q j).2.2, rfl, by have := symAt_lt g1; exact this, g1, by rw [Nat.add_assoc]; exact g2, by rw [Nat.add_assoc]; exact g3, by rw [Nat.add_assoc]; exact g4, g5⟩

end Go.Proofs.YtokejgoplalkhabGreatDoor

/-
  HearOwn: the walk: whatever the configuration, the number and the data, the law answers true, and nothing that lay has turned. (Written by tpl_hearown.py.)
-/
namespace Go.Proofs.YtokejgoplalkhabGreatDoor
open Go.RowKit

set_option maxRecDepth 100000 in
set_option maxHeartbeats 16000000 in
theorem hearOwn_at (cq : Cfg) (seq : Int) (la : Option Addr) (ln lc : Nat) (l : List Dt) (w : World) (hL : Datas w.heap.size w la ln l) (hF : Firsts w) :
    Calls Tryz.prog 3 #[.agg #[.int .i64 cq.cB, .int .i64 cq.cBeam, .int .i64 cq.cDepth, .int .i64 cq.cWin, .int .i64 cq.cQs, .int .i64 cq.cQr, .int .i64 cq.cBatch, .int .i64 cq.cPass, .int .i64 cq.cMsg, .int .i64 cq.cSeqs], .int .i64 seq, .slice la ln lc] w fun e w' => e = .returned (.bool true) ∧ Below w.heap.size w w' := by
  have bb := ((Below.refl w.heap.size w).alloc (by first | exact Nat.le_refl _ | (simp; done) | (simp; omega)) (.cells #[.int .i64 cq.cB, .int .i64 cq.cBeam, .int .i64 cq.cDepth, .int .i64 cq.cWin, .int .i64 cq.cQs, .int .i64 cq.cQr, .int .i64 cq.cBatch, .int .i64 cq.cPass, .int .i64 cq.cMsg, .int .i64 cq.cSeqs] 23))
  have xC := (Box.new w 23 #[.int .i64 cq.cB, .int .i64 cq.cBeam, .int .i64 cq.cDepth, .int .i64 cq.cWin, .int .i64 cq.cQs, .int .i64 cq.cQr, .int .i64 cq.cBatch, .int .i64 cq.cPass, .int .i64 cq.cMsg, .int .i64 cq.cSeqs])
  go_enter Tryz.func3, Tryz.ntmps3
  have c0 := xC.cell 0 _ rfl
  have c1 := xC.cell 1 _ rfl
  have c2 := xC.cell 2 _ rfl
  have c3 := xC.cell 3 _ rfl
  have c4 := xC.cell 4 _ rfl
  have c5 := xC.cell 5 _ rfl
  have c6 := xC.cell 6 _ rfl
  have c7 := xC.cell 7 _ rfl
  have c8 := xC.cell 8 _ rfl
  have c9 := xC.cell 9 _ rfl
  have hltC := xC.lt
  go_wp2_with fail
  refine (small_any cq _).mono ?_
  rintro e w1 ⟨c, rfl, hSm, b9⟩
  replace xC := xC.next b9
  replace bb := bb.trans (b9.mono bb.size)
  clear b9 hltC c0 c1 c2 c3 c4 c5 c6 c7 c8 c9
  have c0 := xC.cell 0 _ rfl
  have c1 := xC.cell 1 _ rfl
  have c2 := xC.cell 2 _ rfl
  have c3 := xC.cell 3 _ rfl
  have c4 := xC.cell 4 _ rfl
  have c5 := xC.cell 5 _ rfl
  have c6 := xC.cell 6 _ rfl
  have c7 := xC.cell 7 _ rfl
  have c8 := xC.cell 8 _ rfl
  have c9 := xC.cell 9 _ rfl
  have u0 := xC.free 0
  have u1 := xC.free 1
  have u2 := xC.free 2
  have u3 := xC.free 3
  have u4 := xC.free 4
  have u5 := xC.free 5
  have u6 := xC.free 6
  have u7 := xC.free 7
  have u8 := xC.free 8
  have u9 := xC.free 9
  have hltC := xC.lt
  go_upto_region 2 with fail
  clear c0 u0 c1 u1 c2 u2 c3 u3 c4 u4 c5 u5 c6 u6 c7 u7 c8 u8 c9 u9 hltC
  have q9 := ((((((((((xC.set 0 (.int .i64 c.cB)).set 1 (.int .i64 c.cBeam)).set 2 (.int .i64 c.cDepth)).set 3 (.int .i64 c.cWin)).set 4 (.int .i64 c.cQs)).set 5 (.int .i64 c.cQr)).set 6 (.int .i64 c.cBatch)).set 7 (.int .i64 c.cPass)).set 8 (.int .i64 c.cMsg)).set 9 (.int .i64 c.cSeqs))
  simp only [sn] at q9
  replace bb := ((((((((((bb.setCell (p := ⟨w.heap.size, 0, none⟩) (Nat.le_refl _) (.int .i64 c.cB)).setCell (p := ⟨w.heap.size, 1, none⟩) (Nat.le_refl _) (.int .i64 c.cBeam)).setCell (p := ⟨w.heap.size, 2, none⟩) (Nat.le_refl _) (.int .i64 c.cDepth)).setCell (p := ⟨w.heap.size, 3, none⟩) (Nat.le_refl _) (.int .i64 c.cWin)).setCell (p := ⟨w.heap.size, 4, none⟩) (Nat.le_refl _) (.int .i64 c.cQs)).setCell (p := ⟨w.heap.size, 5, none⟩) (Nat.le_refl _) (.int .i64 c.cQr)).setCell (p := ⟨w.heap.size, 6, none⟩) (Nat.le_refl _) (.int .i64 c.cBatch)).setCell (p := ⟨w.heap.size, 7, none⟩) (Nat.le_refl _) (.int .i64 c.cPass)).setCell (p := ⟨w.heap.size, 8, none⟩) (Nat.le_refl _) (.int .i64 c.cMsg)).setCell (p := ⟨w.heap.size, 9, none⟩) (Nat.le_refl _) (.int .i64 c.cSeqs))
  generalize ((((((((((w1.setCell ⟨w.heap.size, 0, none⟩ (.int .i64 c.cB)).setCell ⟨w.heap.size, 1, none⟩ (.int .i64 c.cBeam)).setCell ⟨w.heap.size, 2, none⟩ (.int .i64 c.cDepth)).setCell ⟨w.heap.size, 3, none⟩ (.int .i64 c.cWin)).setCell ⟨w.heap.size, 4, none⟩ (.int .i64 c.cQs)).setCell ⟨w.heap.size, 5, none⟩ (.int .i64 c.cQr)).setCell ⟨w.heap.size, 6, none⟩ (.int .i64 c.cBatch)).setCell ⟨w.heap.size, 7, none⟩ (.int .i64 c.cPass)).setCell ⟨w.heap.size, 8, none⟩ (.int .i64 c.cMsg)).setCell ⟨w.heap.size, 9, none⟩ (.int .i64 c.cSeqs)) = W2 at *
  clear xC
  have hC := hSm.ok
  have HC : Hid (okC c = true) := hC
  obtain ⟨S, hS⟩ : ∃ S, segsC c = S := ⟨_, rfl⟩
  obtain ⟨n1, hn1⟩ : ∃ n, W2.heap.size = n := ⟨_, rfl⟩
  have hltC : w.heap.size < n1 := hn1 ▸ q9.lt
  have k0 : Hid (W2.cell? ⟨w.heap.size, 0, none⟩ = some (.int .i64 c.cB)) := q9.cell 0 _ rfl
  have k1 : Hid (W2.cell? ⟨w.heap.size, 1, none⟩ = some (.int .i64 c.cBeam)) := q9.cell 1 _ rfl
  have k2 : Hid (W2.cell? ⟨w.heap.size, 2, none⟩ = some (.int .i64 c.cDepth)) := q9.cell 2 _ rfl
  have k3 : Hid (W2.cell? ⟨w.heap.size, 3, none⟩ = some (.int .i64 c.cWin)) := q9.cell 3 _ rfl
  have k4 : Hid (W2.cell? ⟨w.heap.size, 4, none⟩ = some (.int .i64 c.cQs)) := q9.cell 4 _ rfl
  have k5 : Hid (W2.cell? ⟨w.heap.size, 5, none⟩ = some (.int .i64 c.cQr)) := q9.cell 5 _ rfl
  have k6 : Hid (W2.cell? ⟨w.heap.size, 6, none⟩ = some (.int .i64 c.cBatch)) := q9.cell 6 _ rfl
  have k7 : Hid (W2.cell? ⟨w.heap.size, 7, none⟩ = some (.int .i64 c.cPass)) := q9.cell 7 _ rfl
  have k8 : Hid (W2.cell? ⟨w.heap.size, 8, none⟩ = some (.int .i64 c.cMsg)) := q9.cell 8 _ rfl
  have k9 : Hid (W2.cell? ⟨w.heap.size, 9, none⟩ = some (.int .i64 c.cSeqs)) := q9.cell 9 _ rfl
  have HSG : Hid (∀ wx : World, Below n1 W2 wx → Calls Tryz.prog 6 #[.agg #[.int .i64 c.cB, .int .i64 c.cBeam, .int .i64 c.cDepth, .int .i64 c.cWin, .int .i64 c.cQs, .int .i64 c.cQr, .int .i64 c.cBatch, .int .i64 c.cPass, .int .i64 c.cMsg, .int .i64 c.cSeqs]] wx fun e w' => e = .returned (.int .i64 S) ∧ Below n1 W2 w') := fun wx hx => by
    have := refSegs_any c hC wx
    rw [hS] at this
    exact this.mono fun e w' ⟨h, b⟩ => ⟨h, hx.trans (b.mono (hn1 ▸ hx.size))⟩
  have HLI : Hid (∀ wx : World, Below n1 W2 wx → Calls Tryz.prog 5 #[.int .i64 S, .int .i64 c.cBeam, .int .i64 c.cDepth] wx fun e w' => ∃ G, e = .returned (.bool G) ∧ Below n1 W2 w') := fun wx hx => (light_any S c.cBeam c.cDepth wx).mono fun e w' ⟨h, b⟩ => h.elim (fun h => ⟨true, h, b ▸ hx⟩) (fun h => ⟨false, h, b ▸ hx⟩)
  clear hS
  go_cut [38] (fun v wx => ∃ G : Bool, v = .bool G ∧ (G = false → ln ≤ 12 ∧ 0 ≤ seq ∧ seq < 1073741824) ∧ Box wx w.heap.size 23 #[.int .i64 c.cB, .int .i64 c.cBeam, .int .i64 c.cDepth, .int .i64 c.cWin, .int .i64 c.cQs, .int .i64 c.cQr, .int .i64 c.cBatch, .int .i64 c.cPass, .int .i64 c.cMsg, .int .i64 c.cSeqs] ∧ Below w.heap.size w wx)
  case first =>
    by_cases hq0 : 12 < ln
    · have dz0 : decide ((12 : Int) < (ln : Int)) = true := decide_eq_true (by omega)
      have dn0 : decide (12 < ln) = true := decide_eq_true hq0
      as_aux_lemma =>
        refine wp_region_held_drew (S := fun w' => Below n1 W2 w') (by kernel_rfl) ((hn1 ▸ (Below.refl _ _).drew)) (fun hHeld => ?_)
        refine ht 0 18 (v := ?v1) (fun _ hSw => ?y1) hHeld ?_
        case y1 => have q0 := hSw.at k0.out hltC; have q1 := hSw.at k1.out hltC; have q2 := hSw.at k2.out hltC; have q3 := hSw.at k3.out hltC; have q4 := hSw.at k4.out hltC; have q5 := hSw.at k5.out hltC; have q6 := hSw.at k6.out hltC; have q7 := hSw.at k7.out hltC; have q8 := hSw.at k8.out hltC; have q9 := hSw.at k9.out hltC; clear hSw; go_simp; with_reducible rfl
        simp only [sn]
        refine ht0 2 20 (v := ?v2) (fun _ => ?y2) hHeld ?_
        case y2 => go_simp; with_reducible rfl
        simp only [sn]
        refine ht 3 21 (v := ?v3) (fun _ hSw => ?y3) hHeld ?_
        case y3 => have q0 := hSw.at k1.out hltC; clear hSw; go_simp; with_reducible rfl
        simp only [sn]
        refine ht0 4 22 (v := ?v4) (fun _ => ?y4) hHeld ?_
        case y4 => go_simp; with_reducible rfl
        simp only [sn]
        refine ht 5 23 (v := ?v5) (fun _ hSw => ?y5) hHeld ?_
        case y5 => have q0 := hSw.at k2.out hltC; clear hSw; go_simp; with_reducible rfl
        simp only [sn]
        refine wpAnyH_ready (rs := [1]) (by kernel_rfl) (by simp) ?_
        refine AllReadyH.cons rfl (fun K hK => ?_) AllReadyH.nil
        go_simp
        go_wp2_with (go_at_call 6; refine (HSG.out _ (by exact hHeld)).mono ?_; rintro e wb ⟨rfl, b8⟩)
        refine hK.out _ _ (b8) (fun hHeld => ?_)
        clear hK K
        refine wpAnyH_ready (rs := [6]) (by kernel_rfl) (by simp) ?_
        refine AllReadyH.cons rfl (fun K hK => ?_) AllReadyH.nil
        go_simp
        go_wp2_with (go_at_call 5; refine (HLI.out _ (by exact hHeld)).mono ?_; rintro e wb ⟨G, rfl, b8⟩)
        cases G
        · refine hK.out _ _ (b8) (fun hHeld => ?_)
          clear hK K
          refine ht0 7 25 (v := ?v6) (fun _ => ?y6) hHeld ?_
          case y6 => go_simp; with_reducible rfl
          simp only [sn]
          refine ht0 8 26 (v := ?v7) (fun _ => ?y7) hHeld ?_
          case y7 => go_simp; with_reducible rfl
          simp only [sn]
          refine hu 9 27 hHeld ?_
          simp only [sn]
          refine hu 10 28 hHeld ?_
          simp only [sn]
          refine hu 11 29 hHeld ?_
          simp only [sn]
          refine ht0 12 30 (v := ?v8) (fun _ => ?y8) hHeld ?_
          case y8 => go_simp; with_reducible rfl
          simp only [sn]
          refine ht0 13 31 (v := ?v9) (fun _ => ?y9) hHeld ?_
          case y9 => go_simp; with_reducible rfl
          simp only [sn]
          refine hu 14 32 hHeld ?_
          simp only [sn]
          refine hu 15 33 hHeld ?_
          simp only [sn]
          refine ht0 16 34 (v := ?v10) (fun _ => ?y10) hHeld ?_
          case y10 => go_simp; with_reducible rfl
          simp only [sn]
          refine ht0 17 35 (v := ?v11) (fun _ => ?y11) hHeld ?_
          case y11 => go_simp; with_reducible rfl
          simp only [sn]
          refine hu 18 36 hHeld ?_
          simp only [sn]
          refine hu 19 37 hHeld ?_
          simp only [sn]
          refine wpAnyH_ready (rs := [20]) (by kernel_rfl) (by simp) ?_
          refine AllReadyH.cons rfl (fun K hK => ?_) AllReadyH.nil
          go_simp
          refine hK.out _ _ hHeld (fun hHeld => ?_)
          clear hK K
          refine wpAnyH_done (by kernel_rfl) ?_ _
          go_wp2_with fail
          go_meet
          exact ⟨true, rfl, (fun e => by cases e), q9.next (hn1 ▸ hHeld), bb.trans ((hn1 ▸ hHeld : Below W2.heap.size W2 _).mono bb.size)⟩
        · refine hK.out _ _ (b8) (fun hHeld => ?_)
          clear hK K
          refine ht0 7 25 (v := ?v12) (fun _ => ?y12) hHeld ?_
          case y12 => go_simp; with_reducible rfl
          simp only [sn]
          refine ht0 8 26 (v := ?v13) (fun _ => ?y13) hHeld ?_
          case y13 => go_simp; with_reducible rfl
          simp only [sn]
          refine ht0 9 27 (v := ?v14) (fun _ => ?y14) hHeld ?_
          case y14 => go_simp; with_reducible rfl
          simp only [sn]
          refine ht0 10 28 (v := ?v15) (fun _ => ?y15) hHeld ?_
          case y15 => go_simp; with_reducible rfl
          simp only [sn]
          refine ht0 11 29 (v := ?v16) (fun _ => ?y16) hHeld ?_
          case y16 => go_simp; with_reducible rfl
          simp only [sn]
          refine ht0 12 30 (v := ?v17) (fun _ => ?y17) hHeld ?_
          case y17 => go_simp; with_reducible rfl
          simp only [sn]
          refine ht0 13 31 (v := ?v18) (fun _ => ?y18) hHeld ?_
          case y18 => go_simp; with_reducible rfl
          simp only [sn]
          refine hu 14 32 hHeld ?_
          simp only [sn]
          refine hu 15 33 hHeld ?_
          simp only [sn]
          refine ht0 16 34 (v := ?v19) (fun _ => ?y19) hHeld ?_
          case y19 => go_simp; with_reducible rfl
          simp only [sn]
          refine ht0 17 35 (v := ?v20) (fun _ => ?y20) hHeld ?_
          case y20 => go_simp; with_reducible rfl
          simp only [sn]
          refine hu 18 36 hHeld ?_
          simp only [sn]
          refine hu 19 37 hHeld ?_
          simp only [sn]
          refine wpAnyH_ready (rs := [20]) (by kernel_rfl) (by simp) ?_
          refine AllReadyH.cons rfl (fun K hK => ?_) AllReadyH.nil
          go_simp
          refine hK.out _ _ hHeld (fun hHeld => ?_)
          clear hK K
          refine wpAnyH_done (by kernel_rfl) ?_ _
          go_wp2_with fail
          go_meet
          exact ⟨true, rfl, (fun e => by cases e), q9.next (hn1 ▸ hHeld), bb.trans ((hn1 ▸ hHeld : Below W2.heap.size W2 _).mono bb.size)⟩
    have dz0 : decide ((12 : Int) < (ln : Int)) = false := decide_eq_false (by omega)
    have dn0 : decide (12 < ln) = false := decide_eq_false hq0
    by_cases hq1 : seq < 0
    · have dz1 : decide (seq < 0) = true := decide_eq_true (by omega)
      as_aux_lemma =>
        refine wp_region_held_drew (S := fun w' => Below n1 W2 w') (by kernel_rfl) ((hn1 ▸ (Below.refl _ _).drew)) (fun hHeld => ?_)
        refine ht 0 18 (v := ?v21) (fun _ hSw => ?y21) hHeld ?_
        case y21 => have q0 := hSw.at k0.out hltC; have q1 := hSw.at k1.out hltC; have q2 := hSw.at k2.out hltC; have q3 := hSw.at k3.out hltC; have q4 := hSw.at k4.out hltC; have q5 := hSw.at k5.out hltC; have q6 := hSw.at k6.out hltC; have q7 := hSw.at k7.out hltC; have q8 := hSw.at k8.out hltC; have q9 := hSw.at k9.out hltC; clear hSw; go_simp; with_reducible rfl
        simp only [sn]
        refine ht0 2 20 (v := ?v22) (fun _ => ?y22) hHeld ?_
        case y22 => go_simp; with_reducible rfl
        simp only [sn]
        refine ht 3 21 (v := ?v23) (fun _ hSw => ?y23) hHeld ?_
        case y23 => have q0 := hSw.at k1.out hltC; clear hSw; go_simp; with_reducible rfl
        simp only [sn]
        refine ht0 4 22 (v := ?v24) (fun _ => ?y24) hHeld ?_
        case y24 => go_simp; with_reducible rfl
        simp only [sn]
        refine ht 5 23 (v := ?v25) (fun _ hSw => ?y25) hHeld ?_
        case y25 => have q0 := hSw.at k2.out hltC; clear hSw; go_simp; with_reducible rfl
        simp only [sn]
        refine wpAnyH_ready (rs := [1]) (by kernel_rfl) (by simp) ?_
        refine AllReadyH.cons rfl (fun K hK => ?_) AllReadyH.nil
        go_simp
        go_wp2_with (go_at_call 6; refine (HSG.out _ (by exact hHeld)).mono ?_; rintro e wb ⟨rfl, b8⟩)
        refine hK.out _ _ (b8) (fun hHeld => ?_)
        clear hK K
        refine wpAnyH_ready (rs := [6]) (by kernel_rfl) (by simp) ?_
        refine AllReadyH.cons rfl (fun K hK => ?_) AllReadyH.nil
        go_simp
        go_wp2_with (go_at_call 5; refine (HLI.out _ (by exact hHeld)).mono ?_; rintro e wb ⟨G, rfl, b8⟩)
        cases G
        · refine hK.out _ _ (b8) (fun hHeld => ?_)
          clear hK K
          refine ht0 7 25 (v := ?v26) (fun _ => ?y26) hHeld ?_
          case y26 => go_simp; with_reducible rfl
          simp only [sn]
          refine ht0 8 26 (v := ?v27) (fun _ => ?y27) hHeld ?_
          case y27 => go_simp; with_reducible rfl
          simp only [sn]
          refine hu 9 27 hHeld ?_
          simp only [sn]
          refine hu 10 28 hHeld ?_
          simp only [sn]
          refine hu 11 29 hHeld ?_
          simp only [sn]
          refine ht0 12 30 (v := ?v28) (fun _ => ?y28) hHeld ?_
          case y28 => go_simp; with_reducible rfl
          simp only [sn]
          refine ht0 13 31 (v := ?v29) (fun _ => ?y29) hHeld ?_
          case y29 => go_simp; with_reducible rfl
          simp only [sn]
          refine hu 14 32 hHeld ?_
          simp only [sn]
          refine hu 15 33 hHeld ?_
          simp only [sn]
          refine ht0 16 34 (v := ?v30) (fun _ => ?y30) hHeld ?_
          case y30 => go_simp; with_reducible rfl
          simp only [sn]
          refine ht0 17 35 (v := ?v31) (fun _ => ?y31) hHeld ?_
          case y31 => go_simp; with_reducible rfl
          simp only [sn]
          refine hu 18 36 hHeld ?_
          simp only [sn]
          refine hu 19 37 hHeld ?_
          simp only [sn]
          refine wpAnyH_ready (rs := [20]) (by kernel_rfl) (by simp) ?_
          refine AllReadyH.cons rfl (fun K hK => ?_) AllReadyH.nil
          go_simp
          refine hK.out _ _ hHeld (fun hHeld => ?_)
          clear hK K
          refine wpAnyH_done (by kernel_rfl) ?_ _
          go_wp2_with fail
          go_meet
          exact ⟨true, rfl, (fun e => by cases e), q9.next (hn1 ▸ hHeld), bb.trans ((hn1 ▸ hHeld : Below W2.heap.size W2 _).mono bb.size)⟩
        · refine hK.out _ _ (b8) (fun hHeld => ?_)
          clear hK K
          refine ht0 7 25 (v := ?v32) (fun _ => ?y32) hHeld ?_
          case y32 => go_simp; with_reducible rfl
          simp only [sn]
          refine ht0 8 26 (v := ?v33) (fun _ => ?y33) hHeld ?_
          case y33 => go_simp; with_reducible rfl
          simp only [sn]
          refine ht0 9 27 (v := ?v34) (fun _ => ?y34) hHeld ?_
          case y34 => go_simp; with_reducible rfl
          simp only [sn]
          refine ht0 10 28 (v := ?v35) (fun _ => ?y35) hHeld ?_
          case y35 => go_simp; with_reducible rfl
          simp only [sn]
          refine ht0 11 29 (v := ?v36) (fun _ => ?y36) hHeld ?_
          case y36 => go_simp; with_reducible rfl
          simp only [sn]
          refine ht0 12 30 (v := ?v37) (fun _ => ?y37) hHeld ?_
          case y37 => go_simp; with_reducible rfl
          simp only [sn]
          refine ht0 13 31 (v := ?v38) (fun _ => ?y38) hHeld ?_
          case y38 => go_simp; with_reducible rfl
          simp only [sn]
          refine ht0 14 32 (v := ?v39) (fun _ => ?y39) hHeld ?_
          case y39 => go_simp; with_reducible rfl
          simp only [sn]
          refine ht0 15 33 (v := ?v40) (fun _ => ?y40) hHeld ?_
          case y40 => go_simp; with_reducible rfl
          simp only [sn]
          refine ht0 16 34 (v := ?v41) (fun _ => ?y41) hHeld ?_
          case y41 => go_simp; with_reducible rfl
          simp only [sn]
          refine ht0 17 35 (v := ?v42) (fun _ => ?y42) hHeld ?_
          case y42 => go_simp; with_reducible rfl
          simp only [sn]
          refine hu 18 36 hHeld ?_
          simp only [sn]
          refine hu 19 37 hHeld ?_
          simp only [sn]
          refine wpAnyH_ready (rs := [20]) (by kernel_rfl) (by simp) ?_
          refine AllReadyH.cons rfl (fun K hK => ?_) AllReadyH.nil
          go_simp
          refine hK.out _ _ hHeld (fun hHeld => ?_)
          clear hK K
          refine wpAnyH_done (by kernel_rfl) ?_ _
          go_wp2_with fail
          go_meet
          exact ⟨true, rfl, (fun e => by cases e), q9.next (hn1 ▸ hHeld), bb.trans ((hn1 ▸ hHeld : Below W2.heap.size W2 _).mono bb.size)⟩
    have dz1 : decide (seq < 0) = false := decide_eq_false (by omega)
    by_cases hq2 : 1073741824 ≤ seq
    · have dz2 : decide (1073741824 ≤ seq) = true := decide_eq_true (by omega)
      as_aux_lemma =>
        refine wp_region_held_drew (S := fun w' => Below n1 W2 w') (by kernel_rfl) ((hn1 ▸ (Below.refl _ _).drew)) (fun hHeld => ?_)
        refine ht 0 18 (v := ?v43) (fun _ hSw => ?y43) hHeld ?_
        case y43 => have q0 := hSw.at k0.out hltC; have q1 := hSw.at k1.out hltC; have q2 := hSw.at k2.out hltC; have q3 := hSw.at k3.out hltC; have q4 := hSw.at k4.out hltC; have q5 := hSw.at k5.out hltC; have q6 := hSw.at k6.out hltC; have q7 := hSw.at k7.out hltC; have q8 := hSw.at k8.out hltC; have q9 := hSw.at k9.out hltC; clear hSw; go_simp; with_reducible rfl
        simp only [sn]
        refine ht0 2 20 (v := ?v44) (fun _ => ?y44) hHeld ?_
        case y44 => go_simp; with_reducible rfl
        simp only [sn]
        refine ht 3 21 (v := ?v45) (fun _ hSw => ?y45) hHeld ?_
        case y45 => have q0 := hSw.at k1.out hltC; clear hSw; go_simp; with_reducible rfl
        simp only [sn]
        refine ht0 4 22 (v := ?v46) (fun _ => ?y46) hHeld ?_
        case y46 => go_simp; with_reducible rfl
        simp only [sn]
        refine ht 5 23 (v := ?v47) (fun _ hSw => ?y47) hHeld ?_
        case y47 => have q0 := hSw.at k2.out hltC; clear hSw; go_simp; with_reducible rfl
        simp only [sn]
        refine wpAnyH_ready (rs := [1]) (by kernel_rfl) (by simp) ?_
        refine AllReadyH.cons rfl (fun K hK => ?_) AllReadyH.nil
        go_simp
        go_wp2_with (go_at_call 6; refine (HSG.out _ (by exact hHeld)).mono ?_; rintro e wb ⟨rfl, b8⟩)
        refine hK.out _ _ (b8) (fun hHeld => ?_)
        clear hK K
        refine wpAnyH_ready (rs := [6]) (by kernel_rfl) (by simp) ?_
        refine AllReadyH.cons rfl (fun K hK => ?_) AllReadyH.nil
        go_simp
        go_wp2_with (go_at_call 5; refine (HLI.out _ (by exact hHeld)).mono ?_; rintro e wb ⟨G, rfl, b8⟩)
        cases G
        · refine hK.out _ _ (b8) (fun hHeld => ?_)
          clear hK K
          refine ht0 7 25 (v := ?v48) (fun _ => ?y48) hHeld ?_
          case y48 => go_simp; with_reducible rfl
          simp only [sn]
          refine ht0 8 26 (v := ?v49) (fun _ => ?y49) hHeld ?_
          case y49 => go_simp; with_reducible rfl
          simp only [sn]
          refine hu 9 27 hHeld ?_
          simp only [sn]
          refine hu 10 28 hHeld ?_
          simp only [sn]
          refine hu 11 29 hHeld ?_
          simp only [sn]
          refine ht0 12 30 (v := ?v50) (fun _ => ?y50) hHeld ?_
          case y50 => go_simp; with_reducible rfl
          simp only [sn]
          refine ht0 13 31 (v := ?v51) (fun _ => ?y51) hHeld ?_
          case y51 => go_simp; with_reducible rfl
          simp only [sn]
          refine hu 14 32 hHeld ?_
          simp only [sn]
          refine hu 15 33 hHeld ?_
          simp only [sn]
          refine ht0 16 34 (v := ?v52) (fun _ => ?y52) hHeld ?_
          case y52 => go_simp; with_reducible rfl
          simp only [sn]
          refine ht0 17 35 (v := ?v53) (fun _ => ?y53) hHeld ?_
          case y53 => go_simp; with_reducible rfl
          simp only [sn]
          refine hu 18 36 hHeld ?_
          simp only [sn]
          refine hu 19 37 hHeld ?_
          simp only [sn]
          refine wpAnyH_ready (rs := [20]) (by kernel_rfl) (by simp) ?_
          refine AllReadyH.cons rfl (fun K hK => ?_) AllReadyH.nil
          go_simp
          refine hK.out _ _ hHeld (fun hHeld => ?_)
          clear hK K
          refine wpAnyH_done (by kernel_rfl) ?_ _
          go_wp2_with fail
          go_meet
          exact ⟨true, rfl, (fun e => by cases e), q9.next (hn1 ▸ hHeld), bb.trans ((hn1 ▸ hHeld : Below W2.heap.size W2 _).mono bb.size)⟩
        · refine hK.out _ _ (b8) (fun hHeld => ?_)
          clear hK K
          refine ht0 7 25 (v := ?v54) (fun _ => ?y54) hHeld ?_
          case y54 => go_simp; with_reducible rfl
          simp only [sn]
          refine ht0 8 26 (v := ?v55) (fun _ => ?y55) hHeld ?_
          case y55 => go_simp; with_reducible rfl
          simp only [sn]
          refine ht0 9 27 (v := ?v56) (fun _ => ?y56) hHeld ?_
          case y56 => go_simp; with_reducible rfl
          simp only [sn]
          refine ht0 10 28 (v := ?v57) (fun _ => ?y57) hHeld ?_
          case y57 => go_simp; with_reducible rfl
          simp only [sn]
          refine ht0 11 29 (v := ?v58) (fun _ => ?y58) hHeld ?_
          case y58 => go_simp; with_reducible rfl
          simp only [sn]
          refine ht0 12 30 (v := ?v59) (fun _ => ?y59) hHeld ?_
          case y59 => go_simp; with_reducible rfl
          simp only [sn]
          refine ht0 13 31 (v := ?v60) (fun _ => ?y60) hHeld ?_
          case y60 => go_simp; with_reducible rfl
          simp only [sn]
          refine ht0 14 32 (v := ?v61) (fun _ => ?y61) hHeld ?_
          case y61 => go_simp; with_reducible rfl
          simp only [sn]
          refine ht0 15 33 (v := ?v62) (fun _ => ?y62) hHeld ?_
          case y62 => go_simp; with_reducible rfl
          simp only [sn]
          refine ht0 16 34 (v := ?v63) (fun _ => ?y63) hHeld ?_
          case y63 => go_simp; with_reducible rfl
          simp only [sn]
          refine ht0 17 35 (v := ?v64) (fun _ => ?y64) hHeld ?_
          case y64 => go_simp; with_reducible rfl
          simp only [sn]
          refine ht0 18 36 (v := ?v65) (fun _ => ?y65) hHeld ?_
          case y65 => go_simp; with_reducible rfl
          simp only [sn]
          refine ht0 19 37 (v := ?v66) (fun _ => ?y66) hHeld ?_
          case y66 => go_simp; with_reducible rfl
          simp only [sn]
          refine wpAnyH_ready (rs := [20]) (by kernel_rfl) (by simp) ?_
          refine AllReadyH.cons rfl (fun K hK => ?_) AllReadyH.nil
          go_simp
          refine hK.out _ _ hHeld (fun hHeld => ?_)
          clear hK K
          refine wpAnyH_done (by kernel_rfl) ?_ _
          go_wp2_with fail
          go_meet
          exact ⟨true, rfl, (fun e => by cases e), q9.next (hn1 ▸ hHeld), bb.trans ((hn1 ▸ hHeld : Below W2.heap.size W2 _).mono bb.size)⟩
    have dz2 : decide (1073741824 ≤ seq) = false := decide_eq_false (by omega)
    have hKP : ln ≤ 12 ∧ 0 ≤ seq ∧ seq < 1073741824 := by omega
    as_aux_lemma =>
      refine wp_region_held_drew (S := fun w' => Below n1 W2 w') (by kernel_rfl) ((hn1 ▸ (Below.refl _ _).drew)) (fun hHeld => ?_)
      refine ht 0 18 (v := ?v67) (fun _ hSw => ?y67) hHeld ?_
      case y67 => have q0 := hSw.at k0.out hltC; have q1 := hSw.at k1.out hltC; have q2 := hSw.at k2.out hltC; have q3 := hSw.at k3.out hltC; have q4 := hSw.at k4.out hltC; have q5 := hSw.at k5.out hltC; have q6 := hSw.at k6.out hltC; have q7 := hSw.at k7.out hltC; have q8 := hSw.at k8.out hltC; have q9 := hSw.at k9.out hltC; clear hSw; go_simp; with_reducible rfl
      simp only [sn]
      refine ht0 2 20 (v := ?v68) (fun _ => ?y68) hHeld ?_
      case y68 => go_simp; with_reducible rfl
      simp only [sn]
      refine ht 3 21 (v := ?v69) (fun _ hSw => ?y69) hHeld ?_
      case y69 => have q0 := hSw.at k1.out hltC; clear hSw; go_simp; with_reducible rfl
      simp only [sn]
      refine ht0 4 22 (v := ?v70) (fun _ => ?y70) hHeld ?_
      case y70 => go_simp; with_reducible rfl
      simp only [sn]
      refine ht 5 23 (v := ?v71) (fun _ hSw => ?y71) hHeld ?_
      case y71 => have q0 := hSw.at k2.out hltC; clear hSw; go_simp; with_reducible rfl
      simp only [sn]
      refine wpAnyH_ready (rs := [1]) (by kernel_rfl) (by simp) ?_
      refine AllReadyH.cons rfl (fun K hK => ?_) AllReadyH.nil
      go_simp
      go_wp2_with (go_at_call 6; refine (HSG.out _ (by exact hHeld)).mono ?_; rintro e wb ⟨rfl, b8⟩)
      refine hK.out _ _ (b8) (fun hHeld => ?_)
      clear hK K
      refine wpAnyH_ready (rs := [6]) (by kernel_rfl) (by simp) ?_
      refine AllReadyH.cons rfl (fun K hK => ?_) AllReadyH.nil
      go_simp
      go_wp2_with (go_at_call 5; refine (HLI.out _ (by exact hHeld)).mono ?_; rintro e wb ⟨G, rfl, b8⟩)
      cases G
      · refine hK.out _ _ (b8) (fun hHeld => ?_)
        clear hK K
        refine ht0 7 25 (v := ?v72) (fun _ => ?y72) hHeld ?_
        case y72 => go_simp; with_reducible rfl
        simp only [sn]
        refine ht0 8 26 (v := ?v73) (fun _ => ?y73) hHeld ?_
        case y73 => go_simp; with_reducible rfl
        simp only [sn]
        refine hu 9 27 hHeld ?_
        simp only [sn]
        refine hu 10 28 hHeld ?_
        simp only [sn]
        refine hu 11 29 hHeld ?_
        simp only [sn]
        refine ht0 12 30 (v := ?v74) (fun _ => ?y74) hHeld ?_
        case y74 => go_simp; with_reducible rfl
        simp only [sn]
        refine ht0 13 31 (v := ?v75) (fun _ => ?y75) hHeld ?_
        case y75 => go_simp; with_reducible rfl
        simp only [sn]
        refine hu 14 32 hHeld ?_
        simp only [sn]
        refine hu 15 33 hHeld ?_
        simp only [sn]
        refine ht0 16 34 (v := ?v76) (fun _ => ?y76) hHeld ?_
        case y76 => go_simp; with_reducible rfl
        simp only [sn]
        refine ht0 17 35 (v := ?v77) (fun _ => ?y77) hHeld ?_
        case y77 => go_simp; with_reducible rfl
        simp only [sn]
        refine hu 18 36 hHeld ?_
        simp only [sn]
        refine hu 19 37 hHeld ?_
        simp only [sn]
        refine wpAnyH_ready (rs := [20]) (by kernel_rfl) (by simp) ?_
        refine AllReadyH.cons rfl (fun K hK => ?_) AllReadyH.nil
        go_simp
        refine hK.out _ _ hHeld (fun hHeld => ?_)
        clear hK K
        refine wpAnyH_done (by kernel_rfl) ?_ _
        go_wp2_with fail
        go_meet
        exact ⟨true, rfl, (fun e => by cases e), q9.next (hn1 ▸ hHeld), bb.trans ((hn1 ▸ hHeld : Below W2.heap.size W2 _).mono bb.size)⟩
      · refine hK.out _ _ (b8) (fun hHeld => ?_)
        clear hK K
        refine ht0 7 25 (v := ?v78) (fun _ => ?y78) hHeld ?_
        case y78 => go_simp; with_reducible rfl
        simp only [sn]
        refine ht0 8 26 (v := ?v79) (fun _ => ?y79) hHeld ?_
        case y79 => go_simp; with_reducible rfl
        simp only [sn]
        refine ht0 9 27 (v := ?v80) (fun _ => ?y80) hHeld ?_
        case y80 => go_simp; with_reducible rfl
        simp only [sn]
        refine ht0 10 28 (v := ?v81) (fun _ => ?y81) hHeld ?_
        case y81 => go_simp; with_reducible rfl
        simp only [sn]
        refine ht0 11 29 (v := ?v82) (fun _ => ?y82) hHeld ?_
        case y82 => go_simp; with_reducible rfl
        simp only [sn]
        refine ht0 12 30 (v := ?v83) (fun _ => ?y83) hHeld ?_
        case y83 => go_simp; with_reducible rfl
        simp only [sn]
        refine ht0 13 31 (v := ?v84) (fun _ => ?y84) hHeld ?_
        case y84 => go_simp; with_reducible rfl
        simp only [sn]
        refine ht0 14 32 (v := ?v85) (fun _ => ?y85) hHeld ?_
        case y85 => go_simp; with_reducible rfl
        simp only [sn]
        refine ht0 15 33 (v := ?v86) (fun _ => ?y86) hHeld ?_
        case y86 => go_simp; with_reducible rfl
        simp only [sn]
        refine ht0 16 34 (v := ?v87) (fun _ => ?y87) hHeld ?_
        case y87 => go_simp; with_reducible rfl
        simp only [sn]
        refine ht0 17 35 (v := ?v88) (fun _ => ?y88) hHeld ?_
        case y88 => go_simp; with_reducible rfl
        simp only [sn]
        refine ht0 18 36 (v := ?v89) (fun _ => ?y89) hHeld ?_
        case y89 => go_simp; with_reducible rfl
        simp only [sn]
        refine ht0 19 37 (v := ?v90) (fun _ => ?y90) hHeld ?_
        case y90 => go_simp; with_reducible rfl
        simp only [sn]
        refine wpAnyH_ready (rs := [20]) (by kernel_rfl) (by simp) ?_
        refine AllReadyH.cons rfl (fun K hK => ?_) AllReadyH.nil
        go_simp
        refine hK.out _ _ hHeld (fun hHeld => ?_)
        clear hK K
        refine wpAnyH_done (by kernel_rfl) ?_ _
        go_wp2_with fail
        go_meet
        exact ⟨false, rfl, (fun _ => hKP), q9.next (hn1 ▸ hHeld), bb.trans ((hn1 ▸ hHeld : Below W2.heap.size W2 _).mono bb.size)⟩
  case rest =>
    clear q9 bb hn1 hltC HSG HLI  k0 k1 k2 k3 k4 k5 k6 k7 k8 k9
    obtain ⟨G, rfl, hG0, xC, bb⟩ := hcut
    generalize wc = w2 at *
    cases G with
    | true =>
      go_wp2
      go_ret
      exact ⟨rfl, bb⟩
    | false =>
      have hKP := hG0 rfl
      clear hG0 hC S
      have HSQ : Hid (0 ≤ seq ∧ seq < 1073741824) := hKP.2
      have HLN : Hid (ln ≤ 12) := hKP.1
      have HF0 : Hid (Firsts w) := hF
      have HL : Hid (Datas w.heap.size w la ln l) := hL
      clear hL hF hKP hSm
      have lxC := xC.lt
      have cxC0 := xC.cell 0 _ rfl
      have cxC1 := xC.cell 1 _ rfl
      have cxC2 := xC.cell 2 _ rfl
      have cxC3 := xC.cell 3 _ rfl
      have cxC4 := xC.cell 4 _ rfl
      have cxC5 := xC.cell 5 _ rfl
      have cxC6 := xC.cell 6 _ rfl
      have cxC7 := xC.cell 7 _ rfl
      have cxC8 := xC.cell 8 _ rfl
      have cxC9 := xC.cell 9 _ rfl
      go_wp2_with fail
      refine (newV c HC.out seq HSQ.out.1 _).mono ?_
      rintro e w3 ⟨N0, P0, a0, cap0, b0, bc0, rfl, h7, b9⟩
      clear cxC0 cxC1 cxC2 cxC3 cxC4 cxC5 cxC6 cxC7 cxC8 cxC9
      replace xC := xC.next b9
      replace bb := bb.trans (b9.mono bb.size)
      clear b9
      clear lxC
      have HW3 : Hid (w.heap.size < w3.heap.size) := xC.lt
      have b9 : Below w3.heap.size w3 (w3.alloc (.cells #[.int .i64 seq, .int .i64 (-1), .int .i64 N0, .int .i64 P0, .slice a0 0 cap0, .bool false, .slice b0 0 bc0] 33)) := (Below.refl _ _).alloc (Nat.le_refl _) _
      have x7 := Box.new w3 33 #[.int .i64 seq, .int .i64 (-1), .int .i64 N0, .int .i64 P0, .slice a0 0 cap0, .bool false, .slice b0 0 bc0]
      replace xC := xC.next b9
      replace h7 := h7.next b9
      replace bb := bb.trans (b9.mono bb.size)
      clear b9
      go_wp2
      obtain ⟨B7, hB7⟩ : ∃ B, w3.heap.size = B := ⟨_, rfl⟩
      have HW7 : Hid (w.heap.size < B7) := by have := HW3.out; rw [hB7] at this; exact this
      rw [hB7] at x7 ⊢
      clear hB7
      generalize w3.alloc (.cells #[.int .i64 seq, .int .i64 (-1), .int .i64 N0, .int .i64 P0, .slice a0 0 cap0, .bool false, .slice b0 0 bc0] 33) = w4 at *
      go_loopw [9] (fun v wr => ∃ (i : Nat) (h : Hr) (R N P : Int) (a : Option Addr) (n cap : Nat) (D : Bool) (b : Option Addr) (m bc : Nat), i ≤ ln ∧ v = .int .i64 (i : Int) ∧ Box wr B7 33 #[.int .i64 seq, .int .i64 R, .int .i64 N, .int .i64 P, .slice a n cap, .bool D, .slice b m bc] ∧ At7 0 wr h seq R N P a n cap D b m bc ∧ (okH c h ∧ (h.hD = true → h.hL = [])) ∧ Box wr w.heap.size 23 #[.int .i64 c.cB, .int .i64 c.cBeam, .int .i64 c.cDepth, .int .i64 c.cWin, .int .i64 c.cQs, .int .i64 c.cQr, .int .i64 c.cBatch, .int .i64 c.cPass, .int .i64 c.cMsg, .int .i64 c.cSeqs] ∧ Below w.heap.size w wr) (fun v _ => ln - (intOf v).toNat)
      case atStart => exact ⟨0, newH c seq, -1, N0, P0, a0, 0, cap0, false, b0, 0, bc0, Nat.zero_le _, rfl, x7, h7.base (Nat.zero_le _), ⟨newH_ok HC.out HSQ.out.1, fun e => by cases e⟩, xC, bb⟩
      case round =>
        clear x7 h7 xC bb
        obtain ⟨i, h, R, N, P, a, n, cap, D, b, m, bc, hi, rfl, x7, h7, ⟨hk, hE⟩, xC, bb⟩ := hrel
        generalize wr = w20 at *
        by_cases hlt : i < ln
        · as_aux_lemma =>
            have dlt : decide ((i : Int) < (ln : Int)) = true := decide_eq_true (by omega)
            have dltn : decide (i < ln) = true := decide_eq_true hlt
            have q5 : IntKind.i64.wrap ((i : Int) + 1) = ((i + 1 : Nat) : Int) := by have h9 := HLN.out; rw [IntKind.wrap_i64]; omega
            obtain ⟨⟨d0, dr, df, xs⟩, hd⟩ : ∃ d, l[i]? = some d := ⟨_, List.getElem?_eq_getElem (by rw [HL.out.1]; exact hlt)⟩
            obtain ⟨lb, off, xa, xc, hla, hlb, e0, e1, e2, e3, hX, hxc, bx⟩ := (HL.out.next bb).2 i _ hd
            subst hla
            simp only at e0 e1 e2 e3 hX hxc bx
            have hltl : lb < w20.heap.size := by have := bb.size; omega
            replace hX := hX.mono (n₁ := w20.heap.size) bb.size
            clear hd
            obtain ⟨xn, hxn⟩ : ∃ n, xs.length = n := ⟨_, rfl⟩
            rw [hxn] at e3 hX hxc
            have HXN : Hid (xs.length = xn) := hxn
            have HBX : Hid (∀ z ∈ xs, 0 ≤ z ∧ z ≤ 255) := bx
            clear hxn bx
            have b9 : Below w20.heap.size w20 (w20.alloc (.cells #[.int .i64 seq, .int .i64 dr, .int .i64 df, .slice xa xn xc] 38)) := (Below.refl _ _).alloc (Nat.le_refl _) _
            have x10 := Box.new w20 38 #[.int .i64 seq, .int .i64 dr, .int .i64 df, .slice xa xn xc]
            replace x7 := x7.next b9
            replace h7 := h7.next b9
            replace xC := xC.next b9
            replace hX := hX.next b9
            replace bb := bb.trans (b9.mono bb.size)
            clear b9
            obtain ⟨E, hEe⟩ : ∃ E, errD seq dr df xn = E := ⟨_, rfl⟩
            have HDT := refData_any seq dr df xa xn xc (w20.alloc (.cells #[.int .i64 seq, .int .i64 dr, .int .i64 df, .slice xa xn xc] 38))
            rw [hEe] at HDT
            have HEE : Hid (errD seq dr df xn = E) := hEe
            clear hEe
            go_wp2_with fail
            refine (HDT).mono ?_
            rintro e w21 ⟨rfl, b9⟩
            replace x7 := x7.next b9
            replace h7 := h7.next b9
            replace xC := xC.next b9
            replace hX := hX.next b9
            replace x10 := x10.next b9
            replace bb := bb.trans (b9.mono bb.size)
            clear b9
            clear HDT e0 e1 e2 e3 dlt dltn hltl
            by_cases hE0 : E = 0
            case neg =>
              have dE : (E != 0) = true := by rw [bne_iff_ne]; exact hE0
              clear hE0
              go_wp2
              go_ret
              exact ⟨rfl, bb⟩
            case pos =>
              subst hE0
              have dE : ((0 : Int) != 0) = false := by simp
              have HR1 : Hid (RightD seq dr df xs) := (rightD_iff _ _ _ _).1 (by rw [HXN.out]; exact HEE.out)
              have HB7 : Hid (B7 < w21.heap.size) := x7.lt
              have lxC := xC.lt
              have lx7 := x7.lt
              have lx10 := x10.lt
              have cxC0 := xC.cell 0 _ rfl
              have cxC1 := xC.cell 1 _ rfl
              have cxC2 := xC.cell 2 _ rfl
              have cxC3 := xC.cell 3 _ rfl
              have cxC4 := xC.cell 4 _ rfl
              have cxC5 := xC.cell 5 _ rfl
              have cxC6 := xC.cell 6 _ rfl
              have cxC7 := xC.cell 7 _ rfl
              have cxC8 := xC.cell 8 _ rfl
              have cxC9 := xC.cell 9 _ rfl
              have cx70 := x7.cell 0 _ rfl
              have cx71 := x7.cell 1 _ rfl
              have cx72 := x7.cell 2 _ rfl
              have cx73 := x7.cell 3 _ rfl
              have cx74 := x7.cell 4 _ rfl
              have cx75 := x7.cell 5 _ rfl
              have cx76 := x7.cell 6 _ rfl
              have cx100 := x10.cell 0 _ rfl
              have cx101 := x10.cell 1 _ rfl
              have cx102 := x10.cell 2 _ rfl
              have cx103 := x10.cell 3 _ rfl
              go_wp2_with fail
              refine (takeV c HC.out h hk dr df xs xa xn xc HXN.out _ h7 HR1.out hX hxc HBX.out (HF0.out.next bb)).mono ?_
              rintro e w22 ⟨R2, N2, P2, a2, n2, cap2, D2, b2, m2, bc2, i2, g, rfl, hT2, hkg, h2, b9⟩
              clear cxC0 cxC1 cxC2 cxC3 cxC4 cxC5 cxC6 cxC7 cxC8 cxC9
              clear cx70 cx71 cx72 cx73 cx74 cx75 cx76
              clear cx100 cx101 cx102 cx103
              replace x7 := x7.next b9
              replace h7 := h7.next b9
              replace xC := xC.next b9
              replace hX := hX.next b9
              replace x10 := x10.next b9
              replace bb := bb.trans (b9.mono bb.size)
              clear b9
              clear lxC lx7 lx10
              clear hX
              have b9 : Below w22.heap.size w22 (w22.alloc (.cells #[.int .i64 seq, .int .i64 R2, .int .i64 N2, .int .i64 P2, .slice a2 n2 cap2, .bool D2, .slice b2 m2 bc2] 33)) := (Below.refl _ _).alloc (Nat.le_refl _) _
              have x11 := Box.new w22 33 #[.int .i64 seq, .int .i64 R2, .int .i64 N2, .int .i64 P2, .slice a2 n2 cap2, .bool D2, .slice b2 m2 bc2]
              replace x7 := x7.next b9
              replace h7 := h7.next b9
              replace xC := xC.next b9
              replace x10 := x10.next b9
              replace h2 := h2.next b9
              replace bb := bb.trans (b9.mono bb.size)
              clear b9
              go_upto_region 15 with fail
              obtain ⟨B11, hB11⟩ : ∃ B, w22.heap.size = B := ⟨_, rfl⟩
              rw [hB11] at x11 ⊢
              clear hB11
              generalize w22.alloc (.cells #[.int .i64 seq, .int .i64 R2, .int .i64 N2, .int .i64 P2, .slice a2 n2 cap2, .bool D2, .slice b2 m2 bc2] 33) = w23 at *
              rcases takeH_cases hT2.out with ⟨q1, q2, q3⟩ | ⟨q1, q2, q3, _⟩ | ⟨q1, q3, bq, hgb, q2⟩
              · as_aux_lemma =>
                  have eD : true = D := by rw [← h7.eD, q1]
                  subst eD
                  have eD2 : true = D2 := by rw [← h2.eD, q2]; exact q1.symm
                  subst eD2
                  subst q3
                  have HGD : Hid (g.hD = true) := by rw [q2]; exact q1
                  have en2 : 0 = n2 := by rw [← h2.en, q2, hE q1]; rfl
                  subst en2
                  have HEG : Hid (g.hD = true → g.hL = []) := by rw [q2]; exact hE
                  have HGH : Hid (g = h) := q2
                  clear q1 q2 hE
                  clear hT2
                  have lxC := xC.lt
                  have lx11 := x11.lt
                  have lx7 := x7.lt
                  have cx70 := x7.cell 0 _ rfl
                  have cx71 := x7.cell 1 _ rfl
                  have cx72 := x7.cell 2 _ rfl
                  have cx73 := x7.cell 3 _ rfl
                  have cx74 := x7.cell 4 _ rfl
                  have cx75 := x7.cell 5 _ rfl
                  have cx76 := x7.cell 6 _ rfl
                  have cxC0 := xC.cell 0 _ rfl
                  have cxC1 := xC.cell 1 _ rfl
                  have cxC2 := xC.cell 2 _ rfl
                  have cxC3 := xC.cell 3 _ rfl
                  have cxC4 := xC.cell 4 _ rfl
                  have cxC5 := xC.cell 5 _ rfl
                  have cxC6 := xC.cell 6 _ rfl
                  have cxC7 := xC.cell 7 _ rfl
                  have cxC8 := xC.cell 8 _ rfl
                  have cxC9 := xC.cell 9 _ rfl
                  have cx110 := x11.cell 0 _ rfl
                  have cx111 := x11.cell 1 _ rfl
                  have cx112 := x11.cell 2 _ rfl
                  have cx113 := x11.cell 3 _ rfl
                  have cx114 := x11.cell 4 _ rfl
                  have cx115 := x11.cell 5 _ rfl
                  have cx116 := x11.cell 6 _ rfl
                  go_wp2_with fail
                  refine (readV c HC.out g hkg HGD.out _ h2).mono ?_
                  rintro e w24 ⟨mk, ra, rn, rc, rfl, b9⟩
                  clear cxC0 cxC1 cxC2 cxC3 cxC4 cxC5 cxC6 cxC7 cxC8 cxC9
                  clear cx110 cx111 cx112 cx113 cx114 cx115 cx116
                  replace x7 := x7.next b9
                  replace h7 := h7.next b9
                  replace xC := xC.next b9
                  replace x10 := x10.next b9
                  replace h2 := h2.next b9
                  replace x11 := x11.next b9
                  replace bb := bb.trans (b9.mono bb.size)
                  clear b9
                  clear cx70 cx71 cx72 cx73 cx74 cx75 cx76
                  clear lxC lx11 lx7
                  have b9 : Below w24.heap.size w24 (w24.alloc (.cells #[.int .i64 seq, .int .i64 mk, .slice ra rn rc] 43)) := (Below.refl _ _).alloc (Nat.le_refl _) _
                  have x14 := Box.new w24 43 #[.int .i64 seq, .int .i64 mk, .slice ra rn rc]
                  replace x7 := x7.next b9
                  replace h7 := h7.next b9
                  replace xC := xC.next b9
                  replace x10 := x10.next b9
                  replace h2 := h2.next b9
                  replace x11 := x11.next b9
                  replace bb := bb.trans (b9.mono bb.size)
                  clear b9
                  go_upto_region 19 with fail
                  obtain ⟨B14, hB14⟩ : ∃ B, w24.heap.size = B := ⟨_, rfl⟩
                  rw [hB14] at x14 ⊢
                  clear hB14
                  generalize w24.alloc (.cells #[.int .i64 seq, .int .i64 mk, .slice ra rn rc] 43) = w25 at *
                  have l14 := x14.lt
                  have c140 := x14.cell 0 _ rfl
                  have h7g : At7 0 _ g seq R N P a n cap true b m bc := HGH.out ▸ h7
                  have lx11 := x11.lt
                  have lx7 := x7.lt
                  have cx110 := x11.cell 0 _ rfl
                  have cx111 := x11.cell 1 _ rfl
                  have cx112 := x11.cell 2 _ rfl
                  have cx113 := x11.cell 3 _ rfl
                  have cx114 := x11.cell 4 _ rfl
                  have cx115 := x11.cell 5 _ rfl
                  have cx116 := x11.cell 6 _ rfl
                  have cx70 := x7.cell 0 _ rfl
                  have cx71 := x7.cell 1 _ rfl
                  have cx72 := x7.cell 2 _ rfl
                  have cx73 := x7.cell 3 _ rfl
                  have cx74 := x7.cell 4 _ rfl
                  have cx75 := x7.cell 5 _ rfl
                  have cx76 := x7.cell 6 _ rfl
                  go_wp2_with fail
                  refine (keepV c HC.out g hkg _ h2 h7g).mono ?_
                  rintro e w26 ⟨rfl, b9⟩
                  clear cx110 cx111 cx112 cx113 cx114 cx115 cx116
                  clear cx70 cx71 cx72 cx73 cx74 cx75 cx76
                  replace x7 := x7.next b9
                  replace h7 := h7.next b9
                  replace xC := xC.next b9
                  replace x10 := x10.next b9
                  replace h2 := h2.next b9
                  replace x11 := x11.next b9
                  replace x14 := x14.next b9
                  replace bb := bb.trans (b9.mono bb.size)
                  clear b9
                  clear lx11 lx7
                  clear h7g l14 c140
                  have cx110 := x11.cell 0 _ rfl
                  have cx111 := x11.cell 1 _ rfl
                  have cx112 := x11.cell 2 _ rfl
                  have cx113 := x11.cell 3 _ rfl
                  have cx114 := x11.cell 4 _ rfl
                  have cx115 := x11.cell 5 _ rfl
                  have cx116 := x11.cell 6 _ rfl
                  have cx70 := x7.cell 0 _ rfl
                  have cx71 := x7.cell 1 _ rfl
                  have cx72 := x7.cell 2 _ rfl
                  have cx73 := x7.cell 3 _ rfl
                  have cx74 := x7.cell 4 _ rfl
                  have cx75 := x7.cell 5 _ rfl
                  have cx76 := x7.cell 6 _ rfl
                  have u70 := x7.free 0
                  have u71 := x7.free 1
                  have u72 := x7.free 2
                  have u73 := x7.free 3
                  have u74 := x7.free 4
                  have u75 := x7.free 5
                  have u76 := x7.free 6
                  have l11 := x11.lt
                  have l7 := x7.lt
                  go_wp2
                  exact ⟨⟨i + 1, g, R2, N2, P2, a2, 0, cap2, true, b2, m2, bc2, by omega, rfl, x7.set7c (.int .i64 seq) (.int .i64 R2) (.int .i64 N2) (.int .i64 P2) (.slice a2 0 cap2) (.bool true) (.slice b2 m2 bc2), (h2.store HB7.out (.int .i64 seq) (.int .i64 R2) (.int .i64 N2) (.int .i64 P2) (.slice a2 0 cap2) (.bool true) (.slice b2 m2 bc2)).base (Nat.zero_le _), ⟨hkg, HEG.out⟩, xC.other7c (by have := HW7.out; omega) (.int .i64 seq) (.int .i64 R2) (.int .i64 N2) (.int .i64 P2) (.slice a2 0 cap2) (.bool true) (.slice b2 m2 bc2), below_set7c bb (by have := HW7.out; omega) (.int .i64 seq) (.int .i64 R2) (.int .i64 N2) (.int .i64 P2) (.slice a2 0 cap2) (.bool true) (.slice b2 m2 bc2)⟩, by simp [intOf]; omega⟩
              · as_aux_lemma =>
                  have eD : false = D := by rw [← h7.eD, q1]
                  subst eD
                  have eD2 : false = D2 := by rw [← h2.eD, q2]; rfl
                  subst eD2
                  subst q3
                  have HEG : Hid (g.hD = true → g.hL = []) := by rw [q2]; intro e; cases e
                  have em2 : 0 = m2 := by rw [← h2.em, q2]; show 0 = h.hB.length; rw [hk.2.2.2.2.2.2.2 q1]; rfl
                  subst em2
                  have eR2 : dr = R2 := by rw [← h2.eR, q2]; rfl
                  subst eR2
                  clear q1 q2 hE
                  have c101 := x10.cell 1 _ rfl
                  have l10 := x10.lt
                  clear hT2
                  have cx110 := x11.cell 0 _ rfl
                  have cx111 := x11.cell 1 _ rfl
                  have cx112 := x11.cell 2 _ rfl
                  have cx113 := x11.cell 3 _ rfl
                  have cx114 := x11.cell 4 _ rfl
                  have cx115 := x11.cell 5 _ rfl
                  have cx116 := x11.cell 6 _ rfl
                  have cx70 := x7.cell 0 _ rfl
                  have cx71 := x7.cell 1 _ rfl
                  have cx72 := x7.cell 2 _ rfl
                  have cx73 := x7.cell 3 _ rfl
                  have cx74 := x7.cell 4 _ rfl
                  have cx75 := x7.cell 5 _ rfl
                  have cx76 := x7.cell 6 _ rfl
                  have u70 := x7.free 0
                  have u71 := x7.free 1
                  have u72 := x7.free 2
                  have u73 := x7.free 3
                  have u74 := x7.free 4
                  have u75 := x7.free 5
                  have u76 := x7.free 6
                  have l11 := x11.lt
                  have l7 := x7.lt
                  go_wp2
                  exact ⟨⟨i + 1, g, dr, N2, P2, a2, n2, cap2, false, b2, 0, bc2, by omega, rfl, x7.set7c (.int .i64 seq) (.int .i64 dr) (.int .i64 N2) (.int .i64 P2) (.slice a2 n2 cap2) (.bool false) (.slice b2 0 bc2), (h2.store HB7.out (.int .i64 seq) (.int .i64 dr) (.int .i64 N2) (.int .i64 P2) (.slice a2 n2 cap2) (.bool false) (.slice b2 0 bc2)).base (Nat.zero_le _), ⟨hkg, HEG.out⟩, xC.other7c (by have := HW7.out; omega) (.int .i64 seq) (.int .i64 dr) (.int .i64 N2) (.int .i64 P2) (.slice a2 n2 cap2) (.bool false) (.slice b2 0 bc2), below_set7c bb (by have := HW7.out; omega) (.int .i64 seq) (.int .i64 dr) (.int .i64 N2) (.int .i64 P2) (.slice a2 n2 cap2) (.bool false) (.slice b2 0 bc2)⟩, by simp [intOf]; omega⟩
              · as_aux_lemma =>
                  have eD : false = D := by rw [← h7.eD, q1]
                  subst eD
                  have eD2 : true = D2 := by rw [← h2.eD, q2]; rfl
                  subst eD2
                  subst q3
                  have HGD : Hid (g.hD = true) := by rw [q2]; rfl
                  have en2 : 0 = n2 := by rw [← h2.en, q2]; rfl
                  subst en2
                  have HEG : Hid (g.hD = true → g.hL = []) := by rw [q2]; intro _; rfl
                  clear q1 q2 hE hgb
                  clear hT2
                  have lxC := xC.lt
                  have lx11 := x11.lt
                  have lx7 := x7.lt
                  have cx70 := x7.cell 0 _ rfl
                  have cx71 := x7.cell 1 _ rfl
                  have cx72 := x7.cell 2 _ rfl
                  have cx73 := x7.cell 3 _ rfl
                  have cx74 := x7.cell 4 _ rfl
                  have cx75 := x7.cell 5 _ rfl
                  have cx76 := x7.cell 6 _ rfl
                  have cxC0 := xC.cell 0 _ rfl
                  have cxC1 := xC.cell 1 _ rfl
                  have cxC2 := xC.cell 2 _ rfl
                  have cxC3 := xC.cell 3 _ rfl
                  have cxC4 := xC.cell 4 _ rfl
                  have cxC5 := xC.cell 5 _ rfl
                  have cxC6 := xC.cell 6 _ rfl
                  have cxC7 := xC.cell 7 _ rfl
                  have cxC8 := xC.cell 8 _ rfl
                  have cxC9 := xC.cell 9 _ rfl
                  have cx110 := x11.cell 0 _ rfl
                  have cx111 := x11.cell 1 _ rfl
                  have cx112 := x11.cell 2 _ rfl
                  have cx113 := x11.cell 3 _ rfl
                  have cx114 := x11.cell 4 _ rfl
                  have cx115 := x11.cell 5 _ rfl
                  have cx116 := x11.cell 6 _ rfl
                  go_wp2_with fail
                  refine (readV c HC.out g hkg HGD.out _ h2).mono ?_
                  rintro e w24 ⟨mk, ra, rn, rc, rfl, b9⟩
                  clear cxC0 cxC1 cxC2 cxC3 cxC4 cxC5 cxC6 cxC7 cxC8 cxC9
                  clear cx110 cx111 cx112 cx113 cx114 cx115 cx116
                  replace x7 := x7.next b9
                  replace h7 := h7.next b9
                  replace xC := xC.next b9
                  replace x10 := x10.next b9
                  replace h2 := h2.next b9
                  replace x11 := x11.next b9
                  replace bb := bb.trans (b9.mono bb.size)
                  clear b9
                  clear cx70 cx71 cx72 cx73 cx74 cx75 cx76
                  clear lxC lx11 lx7
                  have b9 : Below w24.heap.size w24 (w24.alloc (.cells #[.int .i64 seq, .int .i64 mk, .slice ra rn rc] 43)) := (Below.refl _ _).alloc (Nat.le_refl _) _
                  have x14 := Box.new w24 43 #[.int .i64 seq, .int .i64 mk, .slice ra rn rc]
                  replace x7 := x7.next b9
                  replace h7 := h7.next b9
                  replace xC := xC.next b9
                  replace x10 := x10.next b9
                  replace h2 := h2.next b9
                  replace x11 := x11.next b9
                  replace bb := bb.trans (b9.mono bb.size)
                  clear b9
                  go_upto_region 19 with fail
                  obtain ⟨B14, hB14⟩ : ∃ B, w24.heap.size = B := ⟨_, rfl⟩
                  rw [hB14] at x14 ⊢
                  clear hB14
                  generalize w24.alloc (.cells #[.int .i64 seq, .int .i64 mk, .slice ra rn rc] 43) = w25 at *
                  have l14 := x14.lt
                  have c140 := x14.cell 0 _ rfl
                  have cx110 := x11.cell 0 _ rfl
                  have cx111 := x11.cell 1 _ rfl
                  have cx112 := x11.cell 2 _ rfl
                  have cx113 := x11.cell 3 _ rfl
                  have cx114 := x11.cell 4 _ rfl
                  have cx115 := x11.cell 5 _ rfl
                  have cx116 := x11.cell 6 _ rfl
                  have cx70 := x7.cell 0 _ rfl
                  have cx71 := x7.cell 1 _ rfl
                  have cx72 := x7.cell 2 _ rfl
                  have cx73 := x7.cell 3 _ rfl
                  have cx74 := x7.cell 4 _ rfl
                  have cx75 := x7.cell 5 _ rfl
                  have cx76 := x7.cell 6 _ rfl
                  have u70 := x7.free 0
                  have u71 := x7.free 1
                  have u72 := x7.free 2
                  have u73 := x7.free 3
                  have u74 := x7.free 4
                  have u75 := x7.free 5
                  have u76 := x7.free 6
                  have l11 := x11.lt
                  have l7 := x7.lt
                  go_wp2
                  exact ⟨⟨i + 1, g, R2, N2, P2, a2, 0, cap2, true, b2, m2, bc2, by omega, rfl, x7.set7c (.int .i64 seq) (.int .i64 R2) (.int .i64 N2) (.int .i64 P2) (.slice a2 0 cap2) (.bool true) (.slice b2 m2 bc2), (h2.store HB7.out (.int .i64 seq) (.int .i64 R2) (.int .i64 N2) (.int .i64 P2) (.slice a2 0 cap2) (.bool true) (.slice b2 m2 bc2)).base (Nat.zero_le _), ⟨hkg, HEG.out⟩, xC.other7c (by have := HW7.out; omega) (.int .i64 seq) (.int .i64 R2) (.int .i64 N2) (.int .i64 P2) (.slice a2 0 cap2) (.bool true) (.slice b2 m2 bc2), below_set7c bb (by have := HW7.out; omega) (.int .i64 seq) (.int .i64 R2) (.int .i64 N2) (.int .i64 P2) (.slice a2 0 cap2) (.bool true) (.slice b2 m2 bc2)⟩, by simp [intOf]; omega⟩
        · obtain rfl : i = ln := by omega
          have dlt : decide ((i : Int) < (i : Int)) = false := decide_eq_false (by omega)
          have dltn : decide (i < i) = false := decide_eq_false (by omega)
          go_wp2_with fail
          refine (hearWakes_any _ (HF0.out.next bb)).mono ?_
          rintro e w99 ⟨rfl, b99⟩
          go_wp2
          go_ret
          exact ⟨rfl, bb.trans (b99.mono bb.size)⟩

end Go.Proofs.YtokejgoplalkhabGreatDoor
