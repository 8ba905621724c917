/-
  HearFlush: the walk, with rows as they come in. (Written by tpl_hearends.py.)
-/
import Derived.Test.YtokejgoplalkhaaGreatDoorM01
import Derived.Test.YtokejgoplalkhaaGreatDoorM03
import Derived.Test.YtokejgoplalkhaaGreatDoorM15
import Derived.Test.YtokejgoplalkhaaGreatDoorM22
import Derived.Test.YtokejgoplalkhaaGreatDoorM30
import Derived.Test.YtokejgoplalkhaaGreatDoorM31
import Derived.Test.YtokejgoplalkhaaGreatDoorM38
import Derived.Test.YtokejgoplalkhaaGreatDoorM43
import Derived.Test.YtokejgoplalkhaaGreatDoorM48
import Derived.Deep.Cut
import Derived.Deep.CutRange
import Derived.Deep.DeepCutAuto
import Derived.Lib.SmallJoins
import Derived.OpenShut
import Derived.ProofKit
import Derived.WalkKit
namespace Go.Proofs.YtokejgoplalkhaaGreatDoor
open Go.RowKit

theorem hearFlush_walk (c : Cfg) (a1 : Int) (a2 : Option Addr) (len2 cap2 : Nat) (z2 : List Int) (a3 : Option Addr) (len3 cap3 : Nat) (z3 : List Int) (a4 a5 a6 : Int) (w : World) (w2 : IsRow .u8 w a2 len2 cap2 z2) (w3 : IsRow .u8 w a3 len3 cap3 z3) (hF : Firsts w) :
    Calls Tryz.prog 7 #[.agg #[.int .i64 c.cB, .int .i64 c.cBeam, .int .i64 c.cDepth, .int .i64 c.cWin, .int .i64 c.cQs, .int .i64 c.cQr, .int .i64 c.cBatch, .int .i64 c.cPass, .int .i64 c.cMsg, .int .i64 c.cSeqs], .int .i64 a1, .slice a2 len2 cap2, .slice a3 len3 cap3, .int .i64 a4, .int .i64 a5, .int .i64 a6] w fun e w' => e = .returned (.bool true) ∧ Below w.heap.size w w' := by
  obtain ⟨y2, n2, h2, b2⟩ := holds_of_isRow w2
  obtain ⟨y3, n3, h3, b3⟩ := holds_of_isRow w3
  exact hearFlush_at c a1 a2 len2 cap2 y2 a3 len3 cap3 y3 a4 a5 a6 w n2 (by rcases w2 with ⟨_, h1, h2, _⟩ | ⟨_, _, h1, _⟩ <;> omega) h2 (bytes_bd b2) n3 (by rcases w3 with ⟨_, h1, h2, _⟩ | ⟨_, _, h1, _⟩ <;> omega) h3 (bytes_bd b3) hF

end Go.Proofs.YtokejgoplalkhaaGreatDoor

/-
  A configuration as an argument: its ten numbers. No function of the program is spoken of.
-/
namespace Go.Proofs.YtokejgoplalkhaaGreatDoor
open Go.ChangeShapes Go.WideShapes Go.ChangeAt Go.RowKit

set_option maxRecDepth 100000 in
theorem array10 {α : Type} {cs : Array α} (h : cs.size = 10) : ∃ c0 c1 c2 c3 c4 c5 c6 c7 c8 c9, cs = #[c0, c1, c2, c3, c4, c5, c6, c7, c8, c9] := by
  obtain ⟨l⟩ := cs
  match l, h with
  | [c0, c1, c2, c3, c4, c5, c6, c7, c8, c9], _ => exact ⟨c0, c1, c2, c3, c4, c5, c6, c7, c8, c9, rfl⟩

set_option maxHeartbeats 1000000 in
set_option maxRecDepth 100000 in
theorem cfg_of_trod {H : Type} {enc : TypeId × Value → H} {W : World} {base : Nat} {spare : Nat → Bool} {held : Bool} {r : Reach} {b0 : Nat} {v : Value} {d : DataW H} {p : List MemPlace} (hv : Value.okWide Tryz.prog W r b0 23 v) (h : DataW.Trod enc Tryz.prog W base spare held 23 v d p) : ∃ c : Cfg, v = .agg #[.int .i64 c.cB, .int .i64 c.cBeam, .int .i64 c.cDepth, .int .i64 c.cWin, .int .i64 c.cQs, .int .i64 c.cQr, .int .i64 c.cBatch, .int .i64 c.cPass, .int .i64 c.cMsg, .int .i64 c.cSeqs] := by
  have hC : Tryz.prog.cellsOf 23 = 10 := by kernel_rfl
  have hI : Tryz.prog.cellsOf 3 = 1 := by kernel_rfl
  obtain ⟨cs, rfl, hsz⟩ := okWide_struct Tryz.underlying23 hv
  obtain ⟨c0, c1, c2, c3, c4, c5, c6, c7, c8, c9, rfl⟩ := array10 (hsz.trans hC)
  obtain ⟨fuel, hf⟩ := h
  obtain ⟨xs, n, _, _, _, hlen, hg⟩ := DataW.trod_struct Tryz.underlying23 hf
  have hl : xs.length = 10 := hlen
  have k0 : DataW.trod enc Tryz.prog W base spare held n 3 (((Value.agg #[c0, c1, c2, c3, c4, c5, c6, c7, c8, c9]).cells.toList.drop 0).take (Tryz.prog.cellsOf 3)) = xs[0]? := hg 0 _ rfl
  rw [List.getElem?_eq_getElem (show 0 < xs.length by omega), show ((Value.agg #[c0, c1, c2, c3, c4, c5, c6, c7, c8, c9]).cells.toList.drop 0).take (Tryz.prog.cellsOf 3) = [c0] by rw [hI]; rfl] at k0
  obtain ⟨n0, e0, _, _⟩ := DataW.trod_int Tryz.underlying3 k0
  have k1 : DataW.trod enc Tryz.prog W base spare held n 3 (((Value.agg #[c0, c1, c2, c3, c4, c5, c6, c7, c8, c9]).cells.toList.drop 1).take (Tryz.prog.cellsOf 3)) = xs[1]? := hg 1 _ rfl
  rw [List.getElem?_eq_getElem (show 1 < xs.length by omega), show ((Value.agg #[c0, c1, c2, c3, c4, c5, c6, c7, c8, c9]).cells.toList.drop 1).take (Tryz.prog.cellsOf 3) = [c1] by rw [hI]; rfl] at k1
  obtain ⟨n1, e1, _, _⟩ := DataW.trod_int Tryz.underlying3 k1
  have k2 : DataW.trod enc Tryz.prog W base spare held n 3 (((Value.agg #[c0, c1, c2, c3, c4, c5, c6, c7, c8, c9]).cells.toList.drop 2).take (Tryz.prog.cellsOf 3)) = xs[2]? := hg 2 _ rfl
  rw [List.getElem?_eq_getElem (show 2 < xs.length by omega), show ((Value.agg #[c0, c1, c2, c3, c4, c5, c6, c7, c8, c9]).cells.toList.drop 2).take (Tryz.prog.cellsOf 3) = [c2] by rw [hI]; rfl] at k2
  obtain ⟨n2, e2, _, _⟩ := DataW.trod_int Tryz.underlying3 k2
  have k3 : DataW.trod enc Tryz.prog W base spare held n 3 (((Value.agg #[c0, c1, c2, c3, c4, c5, c6, c7, c8, c9]).cells.toList.drop 3).take (Tryz.prog.cellsOf 3)) = xs[3]? := hg 3 _ rfl
  rw [List.getElem?_eq_getElem (show 3 < xs.length by omega), show ((Value.agg #[c0, c1, c2, c3, c4, c5, c6, c7, c8, c9]).cells.toList.drop 3).take (Tryz.prog.cellsOf 3) = [c3] by rw [hI]; rfl] at k3
  obtain ⟨n3, e3, _, _⟩ := DataW.trod_int Tryz.underlying3 k3
  have k4 : DataW.trod enc Tryz.prog W base spare held n 3 (((Value.agg #[c0, c1, c2, c3, c4, c5, c6, c7, c8, c9]).cells.toList.drop 4).take (Tryz.prog.cellsOf 3)) = xs[4]? := hg 4 _ rfl
  rw [List.getElem?_eq_getElem (show 4 < xs.length by omega), show ((Value.agg #[c0, c1, c2, c3, c4, c5, c6, c7, c8, c9]).cells.toList.drop 4).take (Tryz.prog.cellsOf 3) = [c4] by rw [hI]; rfl] at k4
  obtain ⟨n4, e4, _, _⟩ := DataW.trod_int Tryz.underlying3 k4
  have k5 : DataW.trod enc Tryz.prog W base spare held n 3 (((Value.agg #[c0, c1, c2, c3, c4, c5, c6, c7, c8, c9]).cells.toList.drop 5).take (Tryz.prog.cellsOf 3)) = xs[5]? := hg 5 _ rfl
  rw [List.getElem?_eq_getElem (show 5 < xs.length by omega), show ((Value.agg #[c0, c1, c2, c3, c4, c5, c6, c7, c8, c9]).cells.toList.drop 5).take (Tryz.prog.cellsOf 3) = [c5] by rw [hI]; rfl] at k5
  obtain ⟨n5, e5, _, _⟩ := DataW.trod_int Tryz.underlying3 k5
  have k6 : DataW.trod enc Tryz.prog W base spare held n 3 (((Value.agg #[c0, c1, c2, c3, c4, c5, c6, c7, c8, c9]).cells.toList.drop 6).take (Tryz.prog.cellsOf 3)) = xs[6]? := hg 6 _ rfl
  rw [List.getElem?_eq_getElem (show 6 < xs.length by omega), show ((Value.agg #[c0, c1, c2, c3, c4, c5, c6, c7, c8, c9]).cells.toList.drop 6).take (Tryz.prog.cellsOf 3) = [c6] by rw [hI]; rfl] at k6
  obtain ⟨n6, e6, _, _⟩ := DataW.trod_int Tryz.underlying3 k6
  have k7 : DataW.trod enc Tryz.prog W base spare held n 3 (((Value.agg #[c0, c1, c2, c3, c4, c5, c6, c7, c8, c9]).cells.toList.drop 7).take (Tryz.prog.cellsOf 3)) = xs[7]? := hg 7 _ rfl
  rw [List.getElem?_eq_getElem (show 7 < xs.length by omega), show ((Value.agg #[c0, c1, c2, c3, c4, c5, c6, c7, c8, c9]).cells.toList.drop 7).take (Tryz.prog.cellsOf 3) = [c7] by rw [hI]; rfl] at k7
  obtain ⟨n7, e7, _, _⟩ := DataW.trod_int Tryz.underlying3 k7
  have k8 : DataW.trod enc Tryz.prog W base spare held n 3 (((Value.agg #[c0, c1, c2, c3, c4, c5, c6, c7, c8, c9]).cells.toList.drop 8).take (Tryz.prog.cellsOf 3)) = xs[8]? := hg 8 _ rfl
  rw [List.getElem?_eq_getElem (show 8 < xs.length by omega), show ((Value.agg #[c0, c1, c2, c3, c4, c5, c6, c7, c8, c9]).cells.toList.drop 8).take (Tryz.prog.cellsOf 3) = [c8] by rw [hI]; rfl] at k8
  obtain ⟨n8, e8, _, _⟩ := DataW.trod_int Tryz.underlying3 k8
  have k9 : DataW.trod enc Tryz.prog W base spare held n 3 (((Value.agg #[c0, c1, c2, c3, c4, c5, c6, c7, c8, c9]).cells.toList.drop 9).take (Tryz.prog.cellsOf 3)) = xs[9]? := hg 9 _ rfl
  rw [List.getElem?_eq_getElem (show 9 < xs.length by omega), show ((Value.agg #[c0, c1, c2, c3, c4, c5, c6, c7, c8, c9]).cells.toList.drop 9).take (Tryz.prog.cellsOf 3) = [c9] by rw [hI]; rfl] at k9
  obtain ⟨n9, e9, _, _⟩ := DataW.trod_int Tryz.underlying3 k9
  simp only [List.cons.injEq, and_true] at e0 e1 e2 e3 e4 e5 e6 e7 e8 e9
  subst e0 e1 e2 e3 e4 e5 e6 e7 e8 e9
  exact ⟨⟨n0, n1, n2, n3, n4, n5, n6, n7, n8, n9⟩, rfl⟩

end Go.Proofs.YtokejgoplalkhaaGreatDoor

/-
  What the laws of a block that is heard call beside hear's own calls, its fields as plain numbers: a block's bytes, its symbols, whether bytes are the same.
-/
namespace Go.Proofs.YtokejgoplalkhaaGreatDoor
open Go.RowKit

theorem mostC_leV {c : Cfg} (h : okC c = true) {n : Nat} (hn : (n : Int) = c.cB + 10) : mostC c ≤ 32 * (n : Int) := by
  have h2 := ((okC_iff c).1 h).2.2.2.2.2.2.2.1
  have h1 := ((okC_iff c).1 h).1
  unfold mostC segsC
  rw [← hn]
  have : 2 * (n : Int) * c.cPass ≤ 2 * (n : Int) * 16 := Int.mul_le_mul_of_nonneg_left (by omega) (by omega)
  omega

/-- A block's bytes: what is said of them. -/
structure XB (c : Cfg) (s : Int) (zs : List Int) (xn : Nat) : Prop where
  blk : blockB c s zs = true
  len : zs.length = xn
  cl : (xn : Int) = c.cB + 10
  bz : ∀ z ∈ zs, 0 ≤ z ∧ z ≤ 255
  hs : 0 ≤ s ∧ s < 1073741824

theorem makeV (c : Cfg) (hC : okC c = true) (s mk : Int) (ta : Option Addr) (tn tc : Nat) (ts : List Int) (htn : ts.length = tn) (bt : ∀ z ∈ ts, 0 ≤ z ∧ z ≤ 255) (w : World) (ha : Holds .u8 w.heap.size w (.slice ta tn tc) ts) :
    Calls Tryz.prog 26 #[.int .i64 c.cB, .agg #[.int .i64 s, .int .i64 mk, .slice ta tn tc]] w fun e W' => ((∃ E, e = .returned (.tuple #[.slice none 0 0, .int .i64 E]) ∧ Hid (E ≠ 0)) ∨ ∃ (xa : Option Addr) (xn xc : Nat) (zs : List Int), e = .returned (.tuple #[.slice xa xn xc, .int .i64 0]) ∧ XB c s zs xn ∧ W'.ownsRow w.heap.size 5 1 (.slice xa xn xc) xn (zs.map (Value.int .u8))) ∧ Below w.heap.size w W' := by
  subst htn
  have hcb := ((okC_iff c).1 hC).1
  obtain ⟨Z, hZ⟩ : ∃ Z : Nat, c.cB = (Z : Int) := ⟨_, (Int.toNat_of_nonneg (by omega)).symm⟩
  by_cases he : errB c.cB s mk ts.length = 0
  · have hR : Right Z s mk ts := (right_iff Z s mk ts).1 (hZ ▸ he)
    have := Make_ok Z s mk ta tc ts hR bt w ha
    rw [← hZ] at this
    refine this.mono ?_
    rintro e W' ⟨r, he, ho, hb⟩
    obtain ⟨xa, xc, rfl⟩ := row_shapeH ho
    refine ⟨.inr ⟨xa, Z + 10, xc, bytesB Z s mk ts, he, ⟨block_right hZ hR, bytesB_len hR.2.2.2.1, by omega, bytesB_bd hR bt, hR.2.1⟩, ho⟩, hb⟩
  · exact (Make_no c.cB s mk ta ts.length tc he w).mono fun e W' ⟨h1, h2⟩ => ⟨.inl ⟨_, h1, he⟩, h2⟩

theorem encV {c : Cfg} (hC : okC c = true) {s : Int} {zs : List Int} {xn : Nat} (X : XB c s zs xn) (xa : Option Addr) (xc : Nat) (f k : Nat) (hk : ((f + k : Nat) : Int) ≤ mostC c) (w : World) (hF : Firsts w) (ha : Holds .u8 w.heap.size w (.slice xa xn xc) zs) :
    Calls Tryz.prog 29 #[.slice xa xn xc, .int .i64 (f : Int), .int .i64 (k : Int)] w fun e W' => ∃ (ra : Option Addr) (rc : Nat), e = .returned (.tuple #[.slice ra k rc, .int .i64 0]) ∧ W'.ownsRow w.heap.size 5 1 (.slice ra k rc) k ((codeL zs f k).map (Value.int .u8)) ∧ Below w.heap.size w W' := by
  have hcb := ((okC_iff c).1 hC).1
  have hcl := X.cl
  have hm := mostC_leV hC (n := xn) hcl
  refine (Encode_row xa xn xc zs X.len (by omega) (by omega) X.bz f k (by omega) w hF ha).mono ?_
  rintro e W' ⟨r, he, ho, hb⟩
  obtain ⟨ra, rc, rfl⟩ := row_shapeH ho
  exact ⟨ra, rc, he, ho, hb⟩

theorem codeR {c : Cfg} {s : Int} {zs : List Int} {xn : Nat} (X : XB c s zs xn) {r : Int} (hr : 0 ≤ r ∧ r ≤ 255) {f k : Nat} (hf : f ≤ 65535) (h1 : 1 ≤ k) (h2 : k ≤ 64) : RightD s r (f : Int) (codeL zs f k) := ⟨X.hs, hr, by omega, by rw [codeL_len]; exact h1, by rw [codeL_len]; exact h2⟩

/-- Its bytes are the block's. -/
theorem bytesV {c : Cfg} (h : Hr) {s : Int} {zs : List Int} {xn : Nat} (X : XB c s zs xn) (hB : h.hB = zs) {base : Nat} {S R N P : Int} {a : Option Addr} {n cap : Nat} {D : Bool} {b : Option Addr} {m bc : Nat} (xa : Option Addr) (xc : Nat) (w : World) (H : At7 base w h S R N P a n cap D b m bc) (hC : okC c = true) (hx : Holds .u8 w.heap.size w (.slice xa xn xc) zs) :
    Calls Tryz.prog 30 #[.slice b m bc, .slice xa xn xc] w fun e w' => e = .returned (.bool true) ∧ Below w.heap.size w w' := by
  obtain ⟨eS, eR, eN, eP, en, eD, em, own⟩ := H
  subst em
  have hcb := ((okC_iff c).1 hC).1
  have hcl := X.cl
  have hln := X.len
  have := bytes_any (.slice b h.hB.length bc) (.slice xa xn xc) h.hB zs _ _ w (by omega) (holds_of_row own.byts) hx
  rw [decide_eq_true hB] at this
  exact this.mono fun e w' ⟨h1, q, h2⟩ => ⟨h1, by rw [h2]; exact below_drewN (Below.refl _ _) q⟩

theorem below_drew_of {n : Nat} {W : World} (h : W.heap.size = n) : Below n W W.drew := h ▸ (Below.refl _ _).drew
theorem below_same_of {n : Nat} {W : World} (h : W.heap.size = n) : Below n W W := h ▸ Below.refl _ _
/-- Bytes in a row of a call's own. -/
def OwnB1 (a : Option Addr) (n cap : Nat) (zs : List Int) (base : Nat) (W : World) : Prop := W.ownsRow base 5 1 (.slice a n cap) n (zs.map (Value.int .u8))
theorem OwnB1.next {a : Option Addr} {n cap : Nat} {zs : List Int} {base : Nat} {W W' : World} (h : OwnB1 a n cap zs base W) (k : Below W.heap.size W W') : OwnB1 a n cap zs base W' := row_below h k (Nat.le_refl _)
theorem OwnB1.holds {a : Option Addr} {n cap : Nat} {zs : List Int} {base : Nat} {W : World} (h : OwnB1 a n cap zs base W) : Holds .u8 W.heap.size W (.slice a n cap) zs := holds_of_row h
theorem OwnB1.cap {a : Option Addr} {n cap : Nat} {zs : List Int} {base : Nat} {W : World} (h : OwnB1 a n cap zs base W) : n ≤ cap := row_cap1 h
/-- A store of seven cells into a block in which it does not lie. -/
theorem OwnB1.store {a : Option Addr} {n cap : Nat} {zs : List Int} {base : Nat} {W : World} (h : OwnB1 a n cap zs base W) {B : Nat} (hB : (Value.slice a n cap).ownBlock ≠ some B) (x0 x1 x2 x3 x4 x5 x6 : Value) : OwnB1 a n cap zs base (((((((W.setCell ⟨B, 0, none⟩ x0).setCell ⟨B, 1, none⟩ x1).setCell ⟨B, 2, none⟩ x2).setCell ⟨B, 3, none⟩ x3).setCell ⟨B, 4, none⟩ x4).setCell ⟨B, 5, none⟩ x5).setCell ⟨B, 6, none⟩ x6) := row_set7x h hB x0 x1 x2 x3 x4 x5 x6
theorem small_segs {c : Cfg} (h : SmallC c) : 22 ≤ segsC c ∧ segsC c ≤ 26 := by
  unfold SmallC at h
  unfold segsC
  omega
/-- By four passes it is accepted. -/
theorem four_most {c : Cfg} (h : SmallC c) : 4 * segsC c ≤ mostC c := by
  have hs := small_segs h
  have e : mostC c = segsC c * c.cPass := rfl
  unfold SmallC at h
  rw [e]
  obtain ⟨p, hp⟩ : ∃ p, c.cPass = p := ⟨_, rfl⟩
  rw [hp] at h ⊢
  obtain rfl | rfl | rfl | rfl : p = 4 ∨ p = 5 ∨ p = 6 ∨ p = 7 := by omega
  all_goals omega

end Go.Proofs.YtokejgoplalkhaaGreatDoor

/-
  A list of data, in memory: how each lies. No function of the program is spoken of.
-/
namespace Go.Proofs.YtokejgoplalkhaaGreatDoor
open Go.RowKit

/-- Data: its number, its round, where it begins, its symbols. -/
abbrev Dt := Int × Int × Int × List Int
/-- The slice at a holds these, in a block below n₀. -/
def Datas (n₀ : Nat) (W : World) (a : Option Addr) (n : Nat) (l : List Dt) : Prop := l.length = n ∧ ∀ (j : Nat) (d : Dt), l[j]? = some d → ∃ b off xa xc, a = some ⟨b, off, none⟩ ∧ b < n₀ ∧ W.cell? ⟨b, off + j * 4, none⟩ = some (.int .i64 d.1) ∧ W.cell? ⟨b, off + j * 4 + 1, none⟩ = some (.int .i64 d.2.1) ∧ W.cell? ⟨b, off + j * 4 + 2, none⟩ = some (.int .i64 d.2.2.1) ∧ W.cell? ⟨b, off + j * 4 + 3, none⟩ = some (.slice xa d.2.2.2.length xc) ∧ Holds .u8 n₀ W (.slice xa d.2.2.2.length xc) d.2.2.2 ∧ d.2.2.2.length ≤ xc ∧ ∀ z ∈ d.2.2.2, 0 ≤ z ∧ z ≤ 255
theorem Datas.next {n₀ : Nat} {W W' : World} {a : Option Addr} {n : Nat} {l : List Dt} (h : Datas n₀ W a n l) (k : Below n₀ W W') : Datas n₀ W' a n l := by
  refine ⟨h.1, fun j d hj => ?_⟩
  obtain ⟨b, off, xa, xc, h0, h1, h2, h3, h4, h5, h6, h7⟩ := h.2 j d hj
  exact ⟨b, off, xa, xc, h0, h1, (k.cell (p := ⟨b, off + j * 4, none⟩) h1).trans h2, (k.cell (p := ⟨b, off + j * 4 + 1, none⟩) h1).trans h3, (k.cell (p := ⟨b, off + j * 4 + 2, none⟩) h1).trans h4, (k.cell (p := ⟨b, off + j * 4 + 3, none⟩) h1).trans h5, h6.below k, h7⟩

end Go.Proofs.YtokejgoplalkhaaGreatDoor

/-
  A block that is heard as an argument; lists of data, of texts, of triples as arguments. (Written by tpl_hearopen.py.)
-/
namespace Go.Proofs.YtokejgoplalkhaaGreatDoor
open Go.ChangeShapes Go.WideShapes Go.ChangeAt Go.RowKit

end Go.Proofs.YtokejgoplalkhaaGreatDoor

/-
  Lists of data, of texts, of triples, as they lie and as arguments.
-/
namespace Go.Proofs.YtokejgoplalkhaaGreatDoor
open Go.RowKit

/-- The slice at a holds these texts, in a block below n₀. -/
def Texts (n₀ : Nat) (W : World) (a : Option Addr) (n : Nat) (l : List (List Int)) : Prop := l.length = n ∧ ∀ (j : Nat) (x : List Int), l[j]? = some x → ∃ b off xa xc, a = some ⟨b, off, none⟩ ∧ b < n₀ ∧ W.cell? ⟨b, off + j, none⟩ = some (.slice xa x.length xc) ∧ Holds .u8 n₀ W (.slice xa x.length xc) x ∧ x.length ≤ xc ∧ ∀ z ∈ x, 0 ≤ z ∧ z ≤ 255
theorem Texts.next {n₀ : Nat} {W W' : World} {a : Option Addr} {n : Nat} {l : List (List Int)} (h : Texts n₀ W a n l) (k : Below n₀ W W') : Texts n₀ W' a n l := by
  refine ⟨h.1, fun j x hj => ?_⟩
  obtain ⟨b, off, xa, xc, h0, h1, h2, h6, h7⟩ := h.2 j x hj
  exact ⟨b, off, xa, xc, h0, h1, (k.cell (p := ⟨b, off + j, none⟩) h1).trans h2, h6.below k, h7⟩
/-- The slice at a holds these triples, in a block below n₀. -/
def Trips (n₀ : Nat) (W : World) (a : Option Addr) (n : Nat) (l : List (Int × Int × Int)) : Prop := l.length = n ∧ ∀ (j : Nat) (x : Int × Int × Int), l[j]? = some x → ∃ b off, a = some ⟨b, off, none⟩ ∧ b < n₀ ∧ W.cell? ⟨b, off + j * 3, none⟩ = some (.int .i64 x.1) ∧ W.cell? ⟨b, off + j * 3 + 1, none⟩ = some (.int .i64 x.2.1) ∧ W.cell? ⟨b, off + j * 3 + 2, none⟩ = some (.int .i64 x.2.2)
theorem Trips.next {n₀ : Nat} {W W' : World} {a : Option Addr} {n : Nat} {l : List (Int × Int × Int)} (h : Trips n₀ W a n l) (k : Below n₀ W W') : Trips n₀ W' a n l := by
  refine ⟨h.1, fun j x hj => ?_⟩
  obtain ⟨b, off, h0, h1, h2, h3, h4⟩ := h.2 j x hj
  exact ⟨b, off, h0, h1, (k.cell (p := ⟨b, off + j * 3, none⟩) h1).trans h2, (k.cell (p := ⟨b, off + j * 3 + 1, none⟩) h1).trans h3, (k.cell (p := ⟨b, off + j * 3 + 2, none⟩) h1).trans h4⟩

theorem cellsIntL : Tryz.prog.cellsOf 3 = 1 := by kernel_rfl
theorem cellsU8L : Tryz.prog.cellsOf 5 = 1 := by kernel_rfl
theorem cellsBytesL : Tryz.prog.cellsOf 27 = 1 := by kernel_rfl

/-- A text that came in, opened. -/
theorem text_of_trod {H : Type} {enc : TypeId × Value → H} {w : World} {base : Nat} {held : Bool} {fuel : Nat} {v : Value} {x : DataW H × List MemPlace}
    (h : DataW.trod enc Tryz.prog w base (fun _ => true) held fuel 27 [v] = some x) : ∃ a ys c, v = .slice a ys.length c ∧ Holds .u8 w.heap.size w v ys ∧ ys.length ≤ c ∧ ∀ z ∈ ys, 0 ≤ z ∧ z ≤ 255 := by
  rcases Go.ChangeShapes.open_ints Tryz.underlying27 Tryz.underlying5 cellsU8L h with ⟨hcs, _⟩ | ⟨x3, l3, c3', zs, hcs, _, hl3, hm3, hz, _, hcell3, hwz⟩
  · simp at hcs
    subst hcs
    exact ⟨_, [], _, rfl, .inl ⟨⟨_, _, rfl, fun _ => rfl⟩, rfl⟩, Nat.le_refl _, by simp⟩
  · simp at hcs
    subst hcs
    obtain ⟨ys, e, hy, hw⟩ := holds_of_isRow (kd := .u8) (w := w) (a := some x3) (len := l3) (cap := c3') (zs := zs) (.inr ⟨x3, rfl, hl3, hm3, by simpa using hz, hcell3, hwz⟩)
    subst e
    exact ⟨_, ys, _, rfl, hy, hl3, bytes_bd hw⟩

set_option maxRecDepth 100000 in
set_option maxHeartbeats 1000000 in
/-- A list of texts that came in, opened. -/
theorem texts_of_trod {H : Type} {enc : TypeId × Value → H} {w : World} {base : Nat} {held : Bool} {fuel : Nat} {a : Option Addr} {len cap : Nat} {x : DataW H × List MemPlace}
    (h : DataW.trod enc Tryz.prog w base (fun _ => true) held fuel 65 [.slice a len cap] = some x) : ∃ l, Texts w.heap.size w a len l := by
  rcases Go.Deep.open_slice Tryz.underlying65 h with ⟨hcs, _⟩ | ⟨ad, len', cap', m, n, D, Pl, hcs, _, hl, hc, hm, _, hx⟩
  · simp at hcs
    obtain ⟨rfl, rfl, rfl⟩ := hcs
    exact ⟨[], rfl, fun j x hj => by simp at hj⟩
  · simp at hcs
    obtain ⟨rfl, rfl, rfl⟩ := hcs
    have hlm : len ≤ m := by rw [hm]; split <;> omega
    have each : ∀ i, i < len → ∃ q : List Int × Option Addr × Nat, w.cell? (ad.add i) = some (.slice q.2.1 q.1.length q.2.2) ∧ Holds .u8 w.heap.size w (.slice q.2.1 q.1.length q.2.2) q.1 ∧ q.1.length ≤ q.2.2 ∧ ∀ z ∈ q.1, 0 ≤ z ∧ z ≤ 255 := by
      intro i hi
      obtain ⟨cs', h1, h2⟩ := hx i (by omega)
      rw [cellsBytesL] at h1
      obtain ⟨_, hlen, hcell⟩ := World.cells?_some h1
      match cs', hlen with
      | [v0], _ =>
        obtain ⟨a3, ys, c3, rfl, hy, h3, h5⟩ := text_of_trod h2
        have c0 := hcell 0 (by omega)
        simp at c0
        exact ⟨(ys, a3, c3), by simpa [Go.Deep.add_add] using c0, hy, h3, h5⟩
    by_cases h0 : len = 0
    · subst h0
      exact ⟨[], rfl, fun j x hj => by simp at hj⟩
    · haveI : Inhabited (List Int × Option Addr × Nat) := ⟨([], none, 0)⟩
      obtain ⟨q, hq⟩ := Go.Deep.choose_lt each
      obtain ⟨b, off, spot⟩ := ad
      have hspot : spot = none := by
        have := (hq 0 (by omega)).1
        simpa [Addr.add] using World.cell?_spot this
      subst hspot
      refine ⟨(List.range len).map fun i => (q i).1, by simp, fun j x hj => ?_⟩
      have hjl : j < len := by have := (List.getElem?_eq_some_iff.1 hj).1; simpa using this
      rw [List.getElem?_map, List.getElem?_range hjl] at hj
      simp at hj
      subst hj
      obtain ⟨g1, g2, g3, g5⟩ := hq j hjl
      rw [Go.WideShapes.add_plain] at g1
      exact ⟨b, off, (q j).2.1, (q j).2.2, rfl, by have := symAt_lt g1; exact this, g1, g2, g3, g5⟩

theorem cellsDataL : Tryz.prog.cellsOf 31 = 4 := by kernel_rfl
set_option maxRecDepth 100000 in
set_option maxHeartbeats 1000000 in
/-- A list of data that came in, opened. -/
theorem datas_of_trod {H : Type} {enc : TypeId × Value → H} {w : World} {base : Nat} {held : Bool} {fuel : Nat} {a : Option Addr} {len cap : Nat} {x : DataW H × List MemPlace}
    (h : DataW.trod enc Tryz.prog w base (fun _ => true) held fuel 71 [.slice a len cap] = some x) : ∃ l, Datas w.heap.size w a len l := by
  rcases Go.Deep.open_slice Tryz.underlying71 h with ⟨hcs, _⟩ | ⟨ad, len', cap', m, n, D, Pl, hcs, _, hl, hc, hm, _, hx⟩
  · simp at hcs
    obtain ⟨rfl, rfl, rfl⟩ := hcs
    exact ⟨[], rfl, fun j x hj => by simp at hj⟩
  · simp at hcs
    obtain ⟨rfl, rfl, rfl⟩ := hcs
    have hlm : len ≤ m := by rw [hm]; split <;> omega
    have each : ∀ i, i < len → ∃ q : Dt × Option Addr × Nat, w.cell? (ad.add (i * 4)) = some (.int .i64 q.1.1) ∧ w.cell? (ad.add (i * 4 + 1)) = some (.int .i64 q.1.2.1) ∧ w.cell? (ad.add (i * 4 + 2)) = some (.int .i64 q.1.2.2.1) ∧ w.cell? (ad.add (i * 4 + 3)) = some (.slice q.2.1 q.1.2.2.2.length q.2.2) ∧ Holds .u8 w.heap.size w (.slice q.2.1 q.1.2.2.2.length q.2.2) q.1.2.2.2 ∧ q.1.2.2.2.length ≤ q.2.2 ∧ ∀ z ∈ q.1.2.2.2, 0 ≤ z ∧ z ≤ 255 := by
      intro i hi
      obtain ⟨cs', h1, h2⟩ := hx i (by omega)
      rw [cellsDataL] at h1
      obtain ⟨_, hlen, hcell⟩ := World.cells?_some h1
      match cs', hlen with
      | [v0, v1, v2, v3], _ =>
        obtain ⟨y0, y1, y2, y3, k, _, _, t0, t1, t2, t3⟩ := Go.Joins.trod_struct4 Tryz.underlying31 h2
        simp only [cellsIntL, cellsBytesL] at t0 t1 t2 t3
        obtain ⟨z0, e0, _, _⟩ := DataW.trod_int Tryz.underlying3 t0
        obtain ⟨z1, e1, _, _⟩ := DataW.trod_int Tryz.underlying3 t1
        obtain ⟨z2, e2, _, _⟩ := DataW.trod_int Tryz.underlying3 t2
        simp at e0 e1 e2
        have c0 := hcell 0 (by omega)
        have c1 := hcell 1 (by omega)
        have c2 := hcell 2 (by omega)
        have c3 := hcell 3 (by omega)
        rw [Go.Deep.add_add] at c0 c1 c2 c3
        simp at c0 c1 c2 c3
        obtain ⟨a3, ys, cc, hv3, hy, h3, h5⟩ := text_of_trod (show DataW.trod enc Tryz.prog w base (fun _ => true) held k 27 [v3] = some y3 by simpa using t3)
        subst hv3
        exact ⟨((z0, z1, z2, ys), a3, cc), by rw [c0, e0], by rw [c1, e1], by rw [c2, e2], c3, hy, h3, h5⟩
    by_cases h0 : len = 0
    · subst h0
      exact ⟨[], rfl, fun j x hj => by simp at hj⟩
    · haveI : Inhabited (Dt × Option Addr × Nat) := ⟨((0, 0, 0, []), none, 0)⟩
      obtain ⟨q, hq⟩ := Go.Deep.choose_lt each
      obtain ⟨b, off, spot⟩ := ad
      have hspot : spot = none := by
        have := (hq 0 (by omega)).1
        simpa [Addr.add] using World.cell?_spot this
      subst hspot
      refine ⟨(List.range len).map fun i => (q i).1, by simp, fun j x hj => ?_⟩
      have hjl : j < len := by have := (List.getElem?_eq_some_iff.1 hj).1; simpa using this
      rw [List.getElem?_map, List.getElem?_range hjl] at hj
      simp at hj
      subst hj
      obtain ⟨g1, g2, g3, g4, g5⟩ := hq j hjl
      rw [Go.WideShapes.add_plain] at g1 g2 g3 g4
      exact ⟨b, off, (q j).2.1, (q j).2.2, rfl, by have := symAt_lt g1; exact this, g1, by rw [Nat.add_assoc]; exact g2, by rw [Nat.add_assoc]; exact g3, by rw [Nat.add_assoc]; exact g4, g5⟩

end Go.Proofs.YtokejgoplalkhaaGreatDoor

/-
  HearDone: the walk: whatever the configuration, the block and the data, the law answers true, and nothing that lay has turned. (Written by tpl_heardone.py.)
-/
namespace Go.Proofs.YtokejgoplalkhaaGreatDoor
open Go.RowKit

set_option maxRecDepth 100000 in
set_option maxHeartbeats 16000000 in
theorem hearDone_at (cq : Cfg) (s mk : Int) (ta : Option Addr) (tn tc : Nat) (ts : List Int) (la : Option Addr) (ln lc : Nat) (l : List Dt) (w : World) (htn : ts.length = tn) (hT : Holds .u8 w.heap.size w (.slice ta tn tc) ts) (bt : ∀ z ∈ ts, 0 ≤ z ∧ z ≤ 255) (hL : Datas w.heap.size w la ln l) (hF : Firsts w) :
    Calls Tryz.prog 8 #[.agg #[.int .i64 cq.cB, .int .i64 cq.cBeam, .int .i64 cq.cDepth, .int .i64 cq.cWin, .int .i64 cq.cQs, .int .i64 cq.cQr, .int .i64 cq.cBatch, .int .i64 cq.cPass, .int .i64 cq.cMsg, .int .i64 cq.cSeqs], .agg #[.int .i64 s, .int .i64 mk, .slice ta tn tc], .slice la ln lc] w fun e w' => e = .returned (.bool true) ∧ Below w.heap.size w w' := by
  have bb := (((Below.refl w.heap.size w).alloc (by first | exact Nat.le_refl _ | (simp; done) | (simp; omega)) (.cells #[.int .i64 cq.cB, .int .i64 cq.cBeam, .int .i64 cq.cDepth, .int .i64 cq.cWin, .int .i64 cq.cQs, .int .i64 cq.cQr, .int .i64 cq.cBatch, .int .i64 cq.cPass, .int .i64 cq.cMsg, .int .i64 cq.cSeqs] 23)).alloc (by first | exact Nat.le_refl _ | (simp; done) | (simp; omega)) (.cells #[.int .i64 s, .int .i64 mk, .slice ta tn tc] 52))
  have xC := ((Box.new w 23 #[.int .i64 cq.cB, .int .i64 cq.cBeam, .int .i64 cq.cDepth, .int .i64 cq.cWin, .int .i64 cq.cQs, .int .i64 cq.cQr, .int .i64 cq.cBatch, .int .i64 cq.cPass, .int .i64 cq.cMsg, .int .i64 cq.cSeqs]).alloc (.cells #[.int .i64 s, .int .i64 mk, .slice ta tn tc] 52))
  have xB := (Box.new (w.alloc (.cells #[.int .i64 cq.cB, .int .i64 cq.cBeam, .int .i64 cq.cDepth, .int .i64 cq.cWin, .int .i64 cq.cQs, .int .i64 cq.cQr, .int .i64 cq.cBatch, .int .i64 cq.cPass, .int .i64 cq.cMsg, .int .i64 cq.cSeqs] 23)) 52 #[.int .i64 s, .int .i64 mk, .slice ta tn tc])
  rw [show (w.alloc (.cells #[.int .i64 cq.cB, .int .i64 cq.cBeam, .int .i64 cq.cDepth, .int .i64 cq.cWin, .int .i64 cq.cQs, .int .i64 cq.cQr, .int .i64 cq.cBatch, .int .i64 cq.cPass, .int .i64 cq.cMsg, .int .i64 cq.cSeqs] 23)).heap.size = w.heap.size + 1 by simp] at xB
  go_enter Tryz.func8, Tryz.ntmps8
  have c0 := xC.cell 0 _ rfl
  have c1 := xC.cell 1 _ rfl
  have c2 := xC.cell 2 _ rfl
  have c3 := xC.cell 3 _ rfl
  have c4 := xC.cell 4 _ rfl
  have c5 := xC.cell 5 _ rfl
  have c6 := xC.cell 6 _ rfl
  have c7 := xC.cell 7 _ rfl
  have c8 := xC.cell 8 _ rfl
  have c9 := xC.cell 9 _ rfl
  have hltC := xC.lt
  go_wp2_with fail
  refine (small_any cq _).mono ?_
  rintro e w1 ⟨c, rfl, hSm, b9⟩
  replace xC := xC.next b9
  replace xB := xB.next b9
  replace bb := bb.trans (b9.mono bb.size)
  clear b9 hltC c0 c1 c2 c3 c4 c5 c6 c7 c8 c9
  have c0 := xC.cell 0 _ rfl
  have c1 := xC.cell 1 _ rfl
  have c2 := xC.cell 2 _ rfl
  have c3 := xC.cell 3 _ rfl
  have c4 := xC.cell 4 _ rfl
  have c5 := xC.cell 5 _ rfl
  have c6 := xC.cell 6 _ rfl
  have c7 := xC.cell 7 _ rfl
  have c8 := xC.cell 8 _ rfl
  have c9 := xC.cell 9 _ rfl
  have u0 := xC.free 0
  have u1 := xC.free 1
  have u2 := xC.free 2
  have u3 := xC.free 3
  have u4 := xC.free 4
  have u5 := xC.free 5
  have u6 := xC.free 6
  have u7 := xC.free 7
  have u8 := xC.free 8
  have u9 := xC.free 9
  have hltC := xC.lt
  go_upto_region 2 with fail
  clear c0 u0 c1 u1 c2 u2 c3 u3 c4 u4 c5 u5 c6 u6 c7 u7 c8 u8 c9 u9 hltC
  replace xB := ((((((((((xB.other (p := ⟨w.heap.size, 0, none⟩) (by simp) (.int .i64 c.cB)).other (p := ⟨w.heap.size, 1, none⟩) (by simp) (.int .i64 c.cBeam)).other (p := ⟨w.heap.size, 2, none⟩) (by simp) (.int .i64 c.cDepth)).other (p := ⟨w.heap.size, 3, none⟩) (by simp) (.int .i64 c.cWin)).other (p := ⟨w.heap.size, 4, none⟩) (by simp) (.int .i64 c.cQs)).other (p := ⟨w.heap.size, 5, none⟩) (by simp) (.int .i64 c.cQr)).other (p := ⟨w.heap.size, 6, none⟩) (by simp) (.int .i64 c.cBatch)).other (p := ⟨w.heap.size, 7, none⟩) (by simp) (.int .i64 c.cPass)).other (p := ⟨w.heap.size, 8, none⟩) (by simp) (.int .i64 c.cMsg)).other (p := ⟨w.heap.size, 9, none⟩) (by simp) (.int .i64 c.cSeqs))
  have q9 := ((((((((((xC.set 0 (.int .i64 c.cB)).set 1 (.int .i64 c.cBeam)).set 2 (.int .i64 c.cDepth)).set 3 (.int .i64 c.cWin)).set 4 (.int .i64 c.cQs)).set 5 (.int .i64 c.cQr)).set 6 (.int .i64 c.cBatch)).set 7 (.int .i64 c.cPass)).set 8 (.int .i64 c.cMsg)).set 9 (.int .i64 c.cSeqs))
  simp only [sn] at q9
  replace bb := ((((((((((bb.setCell (p := ⟨w.heap.size, 0, none⟩) (Nat.le_refl _) (.int .i64 c.cB)).setCell (p := ⟨w.heap.size, 1, none⟩) (Nat.le_refl _) (.int .i64 c.cBeam)).setCell (p := ⟨w.heap.size, 2, none⟩) (Nat.le_refl _) (.int .i64 c.cDepth)).setCell (p := ⟨w.heap.size, 3, none⟩) (Nat.le_refl _) (.int .i64 c.cWin)).setCell (p := ⟨w.heap.size, 4, none⟩) (Nat.le_refl _) (.int .i64 c.cQs)).setCell (p := ⟨w.heap.size, 5, none⟩) (Nat.le_refl _) (.int .i64 c.cQr)).setCell (p := ⟨w.heap.size, 6, none⟩) (Nat.le_refl _) (.int .i64 c.cBatch)).setCell (p := ⟨w.heap.size, 7, none⟩) (Nat.le_refl _) (.int .i64 c.cPass)).setCell (p := ⟨w.heap.size, 8, none⟩) (Nat.le_refl _) (.int .i64 c.cMsg)).setCell (p := ⟨w.heap.size, 9, none⟩) (Nat.le_refl _) (.int .i64 c.cSeqs))
  generalize ((((((((((w1.setCell ⟨w.heap.size, 0, none⟩ (.int .i64 c.cB)).setCell ⟨w.heap.size, 1, none⟩ (.int .i64 c.cBeam)).setCell ⟨w.heap.size, 2, none⟩ (.int .i64 c.cDepth)).setCell ⟨w.heap.size, 3, none⟩ (.int .i64 c.cWin)).setCell ⟨w.heap.size, 4, none⟩ (.int .i64 c.cQs)).setCell ⟨w.heap.size, 5, none⟩ (.int .i64 c.cQr)).setCell ⟨w.heap.size, 6, none⟩ (.int .i64 c.cBatch)).setCell ⟨w.heap.size, 7, none⟩ (.int .i64 c.cPass)).setCell ⟨w.heap.size, 8, none⟩ (.int .i64 c.cMsg)).setCell ⟨w.heap.size, 9, none⟩ (.int .i64 c.cSeqs)) = W2 at *
  clear xC
  have hC := hSm.ok
  have HC : Hid (okC c = true) := hC
  obtain ⟨S, hS⟩ : ∃ S, segsC c = S := ⟨_, rfl⟩
  obtain ⟨n1, hn1⟩ : ∃ n, W2.heap.size = n := ⟨_, rfl⟩
  have hltC : w.heap.size < n1 := hn1 ▸ q9.lt
  have k0 : Hid (W2.cell? ⟨w.heap.size, 0, none⟩ = some (.int .i64 c.cB)) := q9.cell 0 _ rfl
  have k1 : Hid (W2.cell? ⟨w.heap.size, 1, none⟩ = some (.int .i64 c.cBeam)) := q9.cell 1 _ rfl
  have k2 : Hid (W2.cell? ⟨w.heap.size, 2, none⟩ = some (.int .i64 c.cDepth)) := q9.cell 2 _ rfl
  have k3 : Hid (W2.cell? ⟨w.heap.size, 3, none⟩ = some (.int .i64 c.cWin)) := q9.cell 3 _ rfl
  have k4 : Hid (W2.cell? ⟨w.heap.size, 4, none⟩ = some (.int .i64 c.cQs)) := q9.cell 4 _ rfl
  have k5 : Hid (W2.cell? ⟨w.heap.size, 5, none⟩ = some (.int .i64 c.cQr)) := q9.cell 5 _ rfl
  have k6 : Hid (W2.cell? ⟨w.heap.size, 6, none⟩ = some (.int .i64 c.cBatch)) := q9.cell 6 _ rfl
  have k7 : Hid (W2.cell? ⟨w.heap.size, 7, none⟩ = some (.int .i64 c.cPass)) := q9.cell 7 _ rfl
  have k8 : Hid (W2.cell? ⟨w.heap.size, 8, none⟩ = some (.int .i64 c.cMsg)) := q9.cell 8 _ rfl
  have k9 : Hid (W2.cell? ⟨w.heap.size, 9, none⟩ = some (.int .i64 c.cSeqs)) := q9.cell 9 _ rfl
  have HSG : Hid (∀ wx : World, Below n1 W2 wx → Calls Tryz.prog 25 #[.agg #[.int .i64 c.cB, .int .i64 c.cBeam, .int .i64 c.cDepth, .int .i64 c.cWin, .int .i64 c.cQs, .int .i64 c.cQr, .int .i64 c.cBatch, .int .i64 c.cPass, .int .i64 c.cMsg, .int .i64 c.cSeqs]] wx fun e w' => e = .returned (.int .i64 S) ∧ Below n1 W2 w') := fun wx hx => by
    have := refSegs_any c hC wx
    rw [hS] at this
    exact this.mono fun e w' ⟨h, b⟩ => ⟨h, hx.trans (b.mono (hn1 ▸ hx.size))⟩
  have HLI : Hid (∀ wx : World, Below n1 W2 wx → Calls Tryz.prog 24 #[.int .i64 S, .int .i64 c.cBeam, .int .i64 c.cDepth] wx fun e w' => ∃ G, e = .returned (.bool G) ∧ Below n1 W2 w') := fun wx hx => (light_any S c.cBeam c.cDepth wx).mono fun e w' ⟨h, b⟩ => h.elim (fun h => ⟨true, h, b ▸ hx⟩) (fun h => ⟨false, h, b ▸ hx⟩)
  clear hS
  go_cut [36] (fun v wx => ∃ G : Bool, v = .bool G ∧ (G = false → ln ≤ 20) ∧ Box wx w.heap.size 23 #[.int .i64 c.cB, .int .i64 c.cBeam, .int .i64 c.cDepth, .int .i64 c.cWin, .int .i64 c.cQs, .int .i64 c.cQr, .int .i64 c.cBatch, .int .i64 c.cPass, .int .i64 c.cMsg, .int .i64 c.cSeqs] ∧ Box wx (w.heap.size + 1) 52 #[.int .i64 s, .int .i64 mk, .slice ta tn tc] ∧ Below w.heap.size w wx)
  case first =>
    by_cases hq0 : 20 < ln
    · have dz0 : decide ((20 : Int) < (ln : Int)) = true := decide_eq_true (by omega)
      have dn0 : decide (20 < ln) = true := decide_eq_true hq0
      as_aux_lemma =>
        refine wp_region_held_drew (S := fun w' => Below n1 W2 w') (by kernel_rfl) ((hn1 ▸ (Below.refl _ _).drew)) (fun hHeld => ?_)
        refine ht 0 24 (v := ?v1) (fun _ hSw => ?y1) hHeld ?_
        case y1 => have q0 := hSw.at k0.out hltC; have q1 := hSw.at k1.out hltC; have q2 := hSw.at k2.out hltC; have q3 := hSw.at k3.out hltC; have q4 := hSw.at k4.out hltC; have q5 := hSw.at k5.out hltC; have q6 := hSw.at k6.out hltC; have q7 := hSw.at k7.out hltC; have q8 := hSw.at k8.out hltC; have q9 := hSw.at k9.out hltC; clear hSw; go_simp; with_reducible rfl
        simp only [sn]
        refine ht0 2 26 (v := ?v2) (fun _ => ?y2) hHeld ?_
        case y2 => go_simp; with_reducible rfl
        simp only [sn]
        refine ht 3 27 (v := ?v3) (fun _ hSw => ?y3) hHeld ?_
        case y3 => have q0 := hSw.at k1.out hltC; clear hSw; go_simp; with_reducible rfl
        simp only [sn]
        refine ht0 4 28 (v := ?v4) (fun _ => ?y4) hHeld ?_
        case y4 => go_simp; with_reducible rfl
        simp only [sn]
        refine ht 5 29 (v := ?v5) (fun _ hSw => ?y5) hHeld ?_
        case y5 => have q0 := hSw.at k2.out hltC; clear hSw; go_simp; with_reducible rfl
        simp only [sn]
        refine wpAnyH_ready (rs := [1]) (by kernel_rfl) (by simp) ?_
        refine AllReadyH.cons rfl (fun K hK => ?_) AllReadyH.nil
        go_simp
        go_wp2_with (go_at_call 25; refine (HSG.out _ (by exact hHeld)).mono ?_; rintro e wb ⟨rfl, b8⟩)
        refine hK.out _ _ (b8) (fun hHeld => ?_)
        clear hK K
        refine wpAnyH_ready (rs := [6]) (by kernel_rfl) (by simp) ?_
        refine AllReadyH.cons rfl (fun K hK => ?_) AllReadyH.nil
        go_simp
        go_wp2_with (go_at_call 24; refine (HLI.out _ (by exact hHeld)).mono ?_; rintro e wb ⟨G, rfl, b8⟩)
        cases G
        · refine hK.out _ _ (b8) (fun hHeld => ?_)
          clear hK K
          refine ht0 7 31 (v := ?v6) (fun _ => ?y6) hHeld ?_
          case y6 => go_simp; with_reducible rfl
          simp only [sn]
          refine ht0 8 32 (v := ?v7) (fun _ => ?y7) hHeld ?_
          case y7 => go_simp; with_reducible rfl
          simp only [sn]
          refine hu 9 33 hHeld ?_
          simp only [sn]
          refine hu 10 34 hHeld ?_
          simp only [sn]
          refine hu 11 35 hHeld ?_
          simp only [sn]
          refine wpAnyH_ready (rs := [12]) (by kernel_rfl) (by simp) ?_
          refine AllReadyH.cons rfl (fun K hK => ?_) AllReadyH.nil
          go_simp
          refine hK.out _ _ hHeld (fun hHeld => ?_)
          clear hK K
          refine wpAnyH_done (by kernel_rfl) ?_ _
          go_wp2_with fail
          go_meet
          exact ⟨true, rfl, (fun e => by cases e), q9.next (hn1 ▸ hHeld), xB.next (hn1 ▸ hHeld), bb.trans ((hn1 ▸ hHeld : Below W2.heap.size W2 _).mono bb.size)⟩
        · refine hK.out _ _ (b8) (fun hHeld => ?_)
          clear hK K
          refine ht0 7 31 (v := ?v8) (fun _ => ?y8) hHeld ?_
          case y8 => go_simp; with_reducible rfl
          simp only [sn]
          refine ht0 8 32 (v := ?v9) (fun _ => ?y9) hHeld ?_
          case y9 => go_simp; with_reducible rfl
          simp only [sn]
          refine ht0 9 33 (v := ?v10) (fun _ => ?y10) hHeld ?_
          case y10 => go_simp; with_reducible rfl
          simp only [sn]
          refine ht0 10 34 (v := ?v11) (fun _ => ?y11) hHeld ?_
          case y11 => go_simp; with_reducible rfl
          simp only [sn]
          refine ht0 11 35 (v := ?v12) (fun _ => ?y12) hHeld ?_
          case y12 => go_simp; with_reducible rfl
          simp only [sn]
          refine wpAnyH_ready (rs := [12]) (by kernel_rfl) (by simp) ?_
          refine AllReadyH.cons rfl (fun K hK => ?_) AllReadyH.nil
          go_simp
          refine hK.out _ _ hHeld (fun hHeld => ?_)
          clear hK K
          refine wpAnyH_done (by kernel_rfl) ?_ _
          go_wp2_with fail
          go_meet
          exact ⟨true, rfl, (fun e => by cases e), q9.next (hn1 ▸ hHeld), xB.next (hn1 ▸ hHeld), bb.trans ((hn1 ▸ hHeld : Below W2.heap.size W2 _).mono bb.size)⟩
    have dz0 : decide ((20 : Int) < (ln : Int)) = false := decide_eq_false (by omega)
    have dn0 : decide (20 < ln) = false := decide_eq_false hq0
    have hKP : ln ≤ 20 := by omega
    as_aux_lemma =>
      refine wp_region_held_drew (S := fun w' => Below n1 W2 w') (by kernel_rfl) ((hn1 ▸ (Below.refl _ _).drew)) (fun hHeld => ?_)
      refine ht 0 24 (v := ?v13) (fun _ hSw => ?y13) hHeld ?_
      case y13 => have q0 := hSw.at k0.out hltC; have q1 := hSw.at k1.out hltC; have q2 := hSw.at k2.out hltC; have q3 := hSw.at k3.out hltC; have q4 := hSw.at k4.out hltC; have q5 := hSw.at k5.out hltC; have q6 := hSw.at k6.out hltC; have q7 := hSw.at k7.out hltC; have q8 := hSw.at k8.out hltC; have q9 := hSw.at k9.out hltC; clear hSw; go_simp; with_reducible rfl
      simp only [sn]
      refine ht0 2 26 (v := ?v14) (fun _ => ?y14) hHeld ?_
      case y14 => go_simp; with_reducible rfl
      simp only [sn]
      refine ht 3 27 (v := ?v15) (fun _ hSw => ?y15) hHeld ?_
      case y15 => have q0 := hSw.at k1.out hltC; clear hSw; go_simp; with_reducible rfl
      simp only [sn]
      refine ht0 4 28 (v := ?v16) (fun _ => ?y16) hHeld ?_
      case y16 => go_simp; with_reducible rfl
      simp only [sn]
      refine ht 5 29 (v := ?v17) (fun _ hSw => ?y17) hHeld ?_
      case y17 => have q0 := hSw.at k2.out hltC; clear hSw; go_simp; with_reducible rfl
      simp only [sn]
      refine wpAnyH_ready (rs := [1]) (by kernel_rfl) (by simp) ?_
      refine AllReadyH.cons rfl (fun K hK => ?_) AllReadyH.nil
      go_simp
      go_wp2_with (go_at_call 25; refine (HSG.out _ (by exact hHeld)).mono ?_; rintro e wb ⟨rfl, b8⟩)
      refine hK.out _ _ (b8) (fun hHeld => ?_)
      clear hK K
      refine wpAnyH_ready (rs := [6]) (by kernel_rfl) (by simp) ?_
      refine AllReadyH.cons rfl (fun K hK => ?_) AllReadyH.nil
      go_simp
      go_wp2_with (go_at_call 24; refine (HLI.out _ (by exact hHeld)).mono ?_; rintro e wb ⟨G, rfl, b8⟩)
      cases G
      · refine hK.out _ _ (b8) (fun hHeld => ?_)
        clear hK K
        refine ht0 7 31 (v := ?v18) (fun _ => ?y18) hHeld ?_
        case y18 => go_simp; with_reducible rfl
        simp only [sn]
        refine ht0 8 32 (v := ?v19) (fun _ => ?y19) hHeld ?_
        case y19 => go_simp; with_reducible rfl
        simp only [sn]
        refine hu 9 33 hHeld ?_
        simp only [sn]
        refine hu 10 34 hHeld ?_
        simp only [sn]
        refine hu 11 35 hHeld ?_
        simp only [sn]
        refine wpAnyH_ready (rs := [12]) (by kernel_rfl) (by simp) ?_
        refine AllReadyH.cons rfl (fun K hK => ?_) AllReadyH.nil
        go_simp
        refine hK.out _ _ hHeld (fun hHeld => ?_)
        clear hK K
        refine wpAnyH_done (by kernel_rfl) ?_ _
        go_wp2_with fail
        go_meet
        exact ⟨true, rfl, (fun e => by cases e), q9.next (hn1 ▸ hHeld), xB.next (hn1 ▸ hHeld), bb.trans ((hn1 ▸ hHeld : Below W2.heap.size W2 _).mono bb.size)⟩
      · refine hK.out _ _ (b8) (fun hHeld => ?_)
        clear hK K
        refine ht0 7 31 (v := ?v20) (fun _ => ?y20) hHeld ?_
        case y20 => go_simp; with_reducible rfl
        simp only [sn]
        refine ht0 8 32 (v := ?v21) (fun _ => ?y21) hHeld ?_
        case y21 => go_simp; with_reducible rfl
        simp only [sn]
        refine ht0 9 33 (v := ?v22) (fun _ => ?y22) hHeld ?_
        case y22 => go_simp; with_reducible rfl
        simp only [sn]
        refine ht0 10 34 (v := ?v23) (fun _ => ?y23) hHeld ?_
        case y23 => go_simp; with_reducible rfl
        simp only [sn]
        refine ht0 11 35 (v := ?v24) (fun _ => ?y24) hHeld ?_
        case y24 => go_simp; with_reducible rfl
        simp only [sn]
        refine wpAnyH_ready (rs := [12]) (by kernel_rfl) (by simp) ?_
        refine AllReadyH.cons rfl (fun K hK => ?_) AllReadyH.nil
        go_simp
        refine hK.out _ _ hHeld (fun hHeld => ?_)
        clear hK K
        refine wpAnyH_done (by kernel_rfl) ?_ _
        go_wp2_with fail
        go_meet
        exact ⟨false, rfl, (fun _ => hKP), q9.next (hn1 ▸ hHeld), xB.next (hn1 ▸ hHeld), bb.trans ((hn1 ▸ hHeld : Below W2.heap.size W2 _).mono bb.size)⟩
  case rest =>
    clear q9 bb hn1 hltC HSG HLI xB k0 k1 k2 k3 k4 k5 k6 k7 k8 k9
    obtain ⟨G, rfl, hG0, xC, xB, bb⟩ := hcut
    generalize wc = w2 at *
    cases G with
    | true =>
      go_wp2
      go_ret
      exact ⟨rfl, bb⟩
    | false =>
      have hKP := hG0 rfl
      clear hG0 hC S
      have HL : Hid (Datas w.heap.size w la ln l) := hL
      have HLN : Hid (ln ≤ 20) := hKP
      clear hL hKP
      have HTX : Hid (Holds .u8 w.heap.size w (.slice ta tn tc) ts) := hT
      have HTN : Hid (ts.length = tn) := htn
      have HBT : Hid (∀ z ∈ ts, 0 ≤ z ∧ z ≤ 255) := bt
      have HF0 : Hid (Firsts w) := hF
      have HSM : Hid (SmallC c) := hSm
      clear hT htn bt hF hSm
      have lxC := xC.lt
      have lxB := xB.lt
      have cxC0 := xC.cell 0 _ rfl
      have cxC1 := xC.cell 1 _ rfl
      have cxC2 := xC.cell 2 _ rfl
      have cxC3 := xC.cell 3 _ rfl
      have cxC4 := xC.cell 4 _ rfl
      have cxC5 := xC.cell 5 _ rfl
      have cxC6 := xC.cell 6 _ rfl
      have cxC7 := xC.cell 7 _ rfl
      have cxC8 := xC.cell 8 _ rfl
      have cxC9 := xC.cell 9 _ rfl
      have cxB0 := xB.cell 0 _ rfl
      have cxB1 := xB.cell 1 _ rfl
      have cxB2 := xB.cell 2 _ rfl
      go_wp2_with fail
      refine (makeV c HC.out s mk ta tn tc ts HTN.out HBT.out _ ((HTX.out).next bb)).mono ?_
      rintro e w3 ⟨hM, b9⟩
      clear cxC0 cxC1 cxC2 cxC3 cxC4 cxC5 cxC6 cxC7 cxC8 cxC9
      clear cxB0 cxB1 cxB2
      replace xC := xC.next b9
      replace xB := xB.next b9
      replace bb := bb.trans (b9.mono bb.size)
      clear b9
      clear lxC lxB
      rcases hM with ⟨E, rfl, hE⟩ | ⟨xa, xn, xc, zs, rfl, hX, oX⟩
      · have dE : (E != 0) = true := by rw [bne_iff_ne]; exact hE.out
        clear hE
        go_wp2_with fail
        refine (hearWakes_any _ (HF0.out.next bb)).mono ?_
        rintro e w99 ⟨rfl, b99⟩
        go_wp2
        go_ret
        exact ⟨rfl, bb.trans (b99.mono bb.size)⟩
      have HXB : Hid (XB c s zs xn) := hX
      replace oX : OwnB1 xa xn xc zs _ _ := oX
      clear hX
      have lxC := xC.lt
      have lxB := xB.lt
      have cxC0 := xC.cell 0 _ rfl
      have cxC1 := xC.cell 1 _ rfl
      have cxC2 := xC.cell 2 _ rfl
      have cxC3 := xC.cell 3 _ rfl
      have cxC4 := xC.cell 4 _ rfl
      have cxC5 := xC.cell 5 _ rfl
      have cxC6 := xC.cell 6 _ rfl
      have cxC7 := xC.cell 7 _ rfl
      have cxC8 := xC.cell 8 _ rfl
      have cxC9 := xC.cell 9 _ rfl
      have cxB0 := xB.cell 0 _ rfl
      have cxB1 := xB.cell 1 _ rfl
      have cxB2 := xB.cell 2 _ rfl
      go_wp2_with fail
      refine (newV c HC.out s HXB.out.hs.1 _).mono ?_
      rintro e w4 ⟨N0, P0, a0, cap0, b0, bc0, rfl, h9, b9⟩
      clear cxC0 cxC1 cxC2 cxC3 cxC4 cxC5 cxC6 cxC7 cxC8 cxC9
      clear cxB0 cxB1 cxB2
      replace xC := xC.next b9
      replace xB := xB.next b9
      replace oX := oX.next b9
      replace bb := bb.trans (b9.mono bb.size)
      clear b9
      clear lxC lxB
      have HW3 : Hid (w.heap.size + 1 < w4.heap.size) := xB.lt
      have HXBn : Hid (∀ B, w4.heap.size = B → (Value.slice xa xn xc).ownBlock ≠ some B) := fun B hB e => by have := (World.ownsRow.lt oX _ e).2; omega
      have b9 : Below w4.heap.size w4 (w4.alloc (.cells #[.int .i64 s, .int .i64 (-1), .int .i64 N0, .int .i64 P0, .slice a0 0 cap0, .bool false, .slice b0 0 bc0] 29)) := (Below.refl _ _).alloc (Nat.le_refl _) _
      have x9 := Box.new w4 29 #[.int .i64 s, .int .i64 (-1), .int .i64 N0, .int .i64 P0, .slice a0 0 cap0, .bool false, .slice b0 0 bc0]
      replace xC := xC.next b9
      replace xB := xB.next b9
      replace oX := oX.next b9
      replace h9 := h9.next b9
      replace bb := bb.trans (b9.mono bb.size)
      clear b9
      go_upto_region 8 with fail
      obtain ⟨B9, hB9⟩ : ∃ B, w4.heap.size = B := ⟨_, rfl⟩
      have HXB0 : Hid ((Value.slice xa xn xc).ownBlock ≠ some B9) := HXBn.out _ hB9
      have HW9 : Hid (w.heap.size + 1 < B9) := by have := HW3.out; rw [hB9] at this; exact this
      rw [hB9] at x9 ⊢
      clear hB9
      generalize w4.alloc (.cells #[.int .i64 s, .int .i64 (-1), .int .i64 N0, .int .i64 P0, .slice a0 0 cap0, .bool false, .slice b0 0 bc0] 29) = w5 at *
      clear HW3
      have hsg := small_segs HSM.out
      have hfm := four_most HSM.out
      obtain ⟨n4, hn4⟩ : ∃ n : Nat, 4 * segsC c = (n : Int) := ⟨(4 * segsC c).toNat, (Int.toNat_of_nonneg (by omega)).symm⟩
      have HN4 : Hid (4 * segsC c = (n4 : Int)) := hn4
      have q4 : IntKind.i64.wrap (4 * segsC c) = (n4 : Int) := by rw [IntKind.wrap_i64]; omega
      have HM4 : Hid ((n4 : Int) ≤ mostC c) := (by omega : (n4 : Int) ≤ mostC c)
      have hn9 : n4 ≤ 104 := by omega
      have HRS := refSegs_any c HC.out
      obtain ⟨SS, hSS⟩ : ∃ S, segsC c = S := ⟨_, rfl⟩
      rw [hSS] at HRS q4
      clear hSS hsg hfm hn4
      have lxC := xC.lt
      have cxC0 := xC.cell 0 _ rfl
      have cxC1 := xC.cell 1 _ rfl
      have cxC2 := xC.cell 2 _ rfl
      have cxC3 := xC.cell 3 _ rfl
      have cxC4 := xC.cell 4 _ rfl
      have cxC5 := xC.cell 5 _ rfl
      have cxC6 := xC.cell 6 _ rfl
      have cxC7 := xC.cell 7 _ rfl
      have cxC8 := xC.cell 8 _ rfl
      have cxC9 := xC.cell 9 _ rfl
      go_wp2_with fail
      refine (HRS _).mono ?_
      rintro e w6 ⟨rfl, b9⟩
      clear cxC0 cxC1 cxC2 cxC3 cxC4 cxC5 cxC6 cxC7 cxC8 cxC9
      replace xC := xC.next b9
      replace xB := xB.next b9
      replace oX := oX.next b9
      replace h9 := h9.next b9
      replace x9 := x9.next b9
      replace bb := bb.trans (b9.mono bb.size)
      clear b9
      clear lxC
      clear HRS
      have HXB9 : Hid ((Value.slice xa xn xc).ownBlock ≠ some B9) := HXB0.out
      go_wp2
      obtain ⟨W5, hW5⟩ : ∃ W, w6 = W := ⟨_, rfl⟩
      rw [hW5] at xC xB x9 h9 oX bb ⊢
      clear hW5
      go_loopw [11] (fun v wr => ∃ (k : Nat) (h : Hr) (R N P : Int) (a : Option Addr) (n cap : Nat) (D : Bool) (b : Option Addr) (m bc : Nat), k ≤ 192 ∧ v = .int .i64 (k : Int) ∧ Box wr B9 29 #[.int .i64 s, .int .i64 R, .int .i64 N, .int .i64 P, .slice a n cap, .bool D, .slice b m bc] ∧ At7 0 wr h s R N P a n cap D b m bc ∧ (okH c h ∧ Along zs 0 (min k n4) h ∧ (n4 ≤ k → h.hD = true)) ∧ Box wr w.heap.size 23 #[.int .i64 c.cB, .int .i64 c.cBeam, .int .i64 c.cDepth, .int .i64 c.cWin, .int .i64 c.cQs, .int .i64 c.cQr, .int .i64 c.cBatch, .int .i64 c.cPass, .int .i64 c.cMsg, .int .i64 c.cSeqs] ∧ Box wr (w.heap.size + 1) 52 #[.int .i64 s, .int .i64 mk, .slice ta tn tc] ∧ OwnB1 xa xn xc zs 0 wr ∧ Below w.heap.size w wr) (fun v _ => 192 - (intOf v).toNat)
      case atStart => exact ⟨0, newH c s, -1, N0, P0, a0, 0, cap0, false, b0, 0, bc0, by omega, rfl, x9, h9.base (Nat.zero_le _), ⟨newH_ok HC.out HXB.out.hs.1, by rw [Nat.zero_min]; exact along_new rfl (by show (0 : Int) ≠ -1; decide), fun e => by have := HN4.out; have := small_segs HSM.out; omega⟩, xC, xB, row_base oX (Nat.zero_le _), bb⟩
      case round =>
        clear x9 h9 xC xB oX bb
        obtain ⟨k, h, R, N, P, a, n, cap, D, b, m, bc, hk9, rfl, x9, h9, ⟨hk, hAl, hDn⟩, xC, xB, oX, bb⟩ := hrel
        generalize wr = w20 at *
        by_cases hlt : k < n4
        · as_aux_lemma =>
            have dlt : decide ((k : Int) < (n4 : Int)) = true := decide_eq_true (by omega)
            have dltn : decide (k < n4) = true := decide_eq_true hlt
            obtain ⟨J, hJ⟩ : ∃ J, min 64 (n4 - k) = J := ⟨_, rfl⟩
            have q1 : IntKind.i64.wrap ((n4 : Int) - (k : Int)) = (n4 : Int) - (k : Int) := by rw [IntKind.wrap_i64]; omega
            have q2 : min (64 : Int) ((n4 : Int) - (k : Int)) = (J : Int) := by omega
            have HJ : Hid (1 ≤ J ∧ J ≤ 64 ∧ k + J ≤ n4 ∧ min (k + 64) n4 = k + J) := (by omega : 1 ≤ J ∧ J ≤ 64 ∧ k + J ≤ n4 ∧ min (k + 64) n4 = k + J)
            have q3 : IntKind.i64.wrap ((k : Int) + 64) = ((k + 64 : Nat) : Int) := by rw [IntKind.wrap_i64]; omega
            have hkm : min k n4 = k := by omega
            rw [hkm] at hAl
            clear hJ hkm hDn
            have HAL : Hid (Along zs 0 k h) := hAl
            clear hAl
            go_wp2_with fail
            refine (encV HC.out HXB.out xa xc k J (by have h1 := HJ.out; have h2 := HM4.out; omega) _ (HF0.out.next bb) oX.holds).mono ?_
            rintro e w21 ⟨ya, yc, rfl, oY, b9⟩
            replace x9 := x9.next b9
            replace h9 := h9.next b9
            replace xC := xC.next b9
            replace xB := xB.next b9
            replace oX := oX.next b9
            replace bb := bb.trans (b9.mono bb.size)
            clear b9
            replace oY : OwnB1 ya J yc (codeL zs k J) _ _ := oY
            have HB9 : Hid (B9 < w21.heap.size) := x9.lt
            have lxC := xC.lt
            have lx9 := x9.lt
            have lxB := xB.lt
            have cxC0 := xC.cell 0 _ rfl
            have cxC1 := xC.cell 1 _ rfl
            have cxC2 := xC.cell 2 _ rfl
            have cxC3 := xC.cell 3 _ rfl
            have cxC4 := xC.cell 4 _ rfl
            have cxC5 := xC.cell 5 _ rfl
            have cxC6 := xC.cell 6 _ rfl
            have cxC7 := xC.cell 7 _ rfl
            have cxC8 := xC.cell 8 _ rfl
            have cxC9 := xC.cell 9 _ rfl
            have cx90 := x9.cell 0 _ rfl
            have cx91 := x9.cell 1 _ rfl
            have cx92 := x9.cell 2 _ rfl
            have cx93 := x9.cell 3 _ rfl
            have cx94 := x9.cell 4 _ rfl
            have cx95 := x9.cell 5 _ rfl
            have cx96 := x9.cell 6 _ rfl
            have cxB0 := xB.cell 0 _ rfl
            have cxB1 := xB.cell 1 _ rfl
            have cxB2 := xB.cell 2 _ rfl
            go_wp2_with fail
            refine (takeV c HC.out h hk 0 (k : Int) (codeL zs k J) ya J yc (codeL_len _ _ _) _ h9 (codeR HXB.out (by decide) (by omega) HJ.out.1 HJ.out.2.1) oY.holds oY.cap (codeL_bd _ _ _) (HF0.out.next bb)).mono ?_
            rintro e w22 ⟨R2, N2, P2, a2, n2, cap2, D2, b2, m2, bc2, i2, g, rfl, hT2, hkg, h2, b9⟩
            clear cxC0 cxC1 cxC2 cxC3 cxC4 cxC5 cxC6 cxC7 cxC8 cxC9
            clear cx90 cx91 cx92 cx93 cx94 cx95 cx96
            clear cxB0 cxB1 cxB2
            replace x9 := x9.next b9
            replace h9 := h9.next b9
            replace xC := xC.next b9
            replace xB := xB.next b9
            replace oX := oX.next b9
            replace oY := oY.next b9
            replace bb := bb.trans (b9.mono bb.size)
            clear b9
            clear lxC lx9 lxB
            clear oY
            have b9 : Below w22.heap.size w22 (w22.alloc (.cells #[.int .i64 s, .int .i64 R2, .int .i64 N2, .int .i64 P2, .slice a2 n2 cap2, .bool D2, .slice b2 m2 bc2] 29)) := (Below.refl _ _).alloc (Nat.le_refl _) _
            have x14 := Box.new w22 29 #[.int .i64 s, .int .i64 R2, .int .i64 N2, .int .i64 P2, .slice a2 n2 cap2, .bool D2, .slice b2 m2 bc2]
            replace x9 := x9.next b9
            replace h9 := h9.next b9
            replace xC := xC.next b9
            replace xB := xB.next b9
            replace oX := oX.next b9
            replace h2 := h2.next b9
            replace bb := bb.trans (b9.mono bb.size)
            clear b9
            go_upto_region 16 with fail
            obtain ⟨B14, hB14⟩ : ∃ B, w22.heap.size = B := ⟨_, rfl⟩
            rw [hB14] at x14 ⊢
            clear hB14
            generalize w22.alloc (.cells #[.int .i64 s, .int .i64 R2, .int .i64 N2, .int .i64 P2, .slice a2 n2 cap2, .bool D2, .slice b2 m2 bc2] 29) = w23 at *
            have HAG : Hid (Along zs 0 (k + J) g ∧ (4 * segsC c ≤ ((k + J : Nat) : Int) → g.hD = true)) := by
              have h1 := HJ.out
              have h2 := HM4.out
              have h3 := along_take HC.out hk (by rw [h9.eS]; exact HXB.out.blk) HXB.out.bz (r := 0) (by decide) (k := k) (m := J) (by omega) (by omega) HAL.out
              rw [hT2.out] at h3
              exact h3
            clear hT2
            have cx140 := x14.cell 0 _ rfl
            have cx141 := x14.cell 1 _ rfl
            have cx142 := x14.cell 2 _ rfl
            have cx143 := x14.cell 3 _ rfl
            have cx144 := x14.cell 4 _ rfl
            have cx145 := x14.cell 5 _ rfl
            have cx146 := x14.cell 6 _ rfl
            have cx90 := x9.cell 0 _ rfl
            have cx91 := x9.cell 1 _ rfl
            have cx92 := x9.cell 2 _ rfl
            have cx93 := x9.cell 3 _ rfl
            have cx94 := x9.cell 4 _ rfl
            have cx95 := x9.cell 5 _ rfl
            have cx96 := x9.cell 6 _ rfl
            have u90 := x9.free 0
            have u91 := x9.free 1
            have u92 := x9.free 2
            have u93 := x9.free 3
            have u94 := x9.free 4
            have u95 := x9.free 5
            have u96 := x9.free 6
            have l14 := x14.lt
            have l9 := x9.lt
            go_wp2
            exact ⟨⟨k + 64, g, R2, N2, P2, a2, n2, cap2, D2, b2, m2, bc2, by omega, rfl, x9.set7c (.int .i64 s) (.int .i64 R2) (.int .i64 N2) (.int .i64 P2) (.slice a2 n2 cap2) (.bool D2) (.slice b2 m2 bc2), (h2.store HB9.out (.int .i64 s) (.int .i64 R2) (.int .i64 N2) (.int .i64 P2) (.slice a2 n2 cap2) (.bool D2) (.slice b2 m2 bc2)).base (Nat.zero_le _), ⟨hkg, by rw [HJ.out.2.2.2]; exact HAG.out.1, fun e => HAG.out.2 (by have h1 := HJ.out; have h2 := HN4.out; omega)⟩, xC.other7c (by have := HW9.out; omega) (.int .i64 s) (.int .i64 R2) (.int .i64 N2) (.int .i64 P2) (.slice a2 n2 cap2) (.bool D2) (.slice b2 m2 bc2), xB.other7c (by have := HW9.out; omega) (.int .i64 s) (.int .i64 R2) (.int .i64 N2) (.int .i64 P2) (.slice a2 n2 cap2) (.bool D2) (.slice b2 m2 bc2), oX.store HXB9.out (.int .i64 s) (.int .i64 R2) (.int .i64 N2) (.int .i64 P2) (.slice a2 n2 cap2) (.bool D2) (.slice b2 m2 bc2), below_set7c bb (by have := HW9.out; omega) (.int .i64 s) (.int .i64 R2) (.int .i64 N2) (.int .i64 P2) (.slice a2 n2 cap2) (.bool D2) (.slice b2 m2 bc2)⟩, by simp [intOf]; omega⟩
        · as_aux_lemma =>
            have dlt : decide ((k : Int) < (n4 : Int)) = false := decide_eq_false (by omega)
            have dltn : decide (k < n4) = false := decide_eq_false hlt
            have hd := hDn (by omega)
            have hB : h.hB = zs := hAl.elim (fun h1 => h1.2) (fun h1 => by rw [h1.1] at hd; cases hd)
            have eD : true = D := by rw [← h9.eD, hd]
            subst eD
            have HHD : Hid (h.hD = true) := hd
            have HHB : Hid (h.hB = zs) := hB
            clear hd hB hAl hDn
            have lx9 := x9.lt
            have cx90 := x9.cell 0 _ rfl
            have cx91 := x9.cell 1 _ rfl
            have cx92 := x9.cell 2 _ rfl
            have cx93 := x9.cell 3 _ rfl
            have cx94 := x9.cell 4 _ rfl
            have cx95 := x9.cell 5 _ rfl
            have cx96 := x9.cell 6 _ rfl
            go_wp2_with fail
            refine (bytesV h HXB.out HHB.out xa xc _ h9 HC.out oX.holds).mono ?_
            rintro e w21 ⟨rfl, b9⟩
            clear cx90 cx91 cx92 cx93 cx94 cx95 cx96
            replace x9 := x9.next b9
            replace h9 := h9.next b9
            replace xC := xC.next b9
            replace xB := xB.next b9
            replace oX := oX.next b9
            replace bb := bb.trans (b9.mono bb.size)
            clear b9
            clear lx9
            clear HHB
            go_wp2
            obtain ⟨W6, hW6⟩ : ∃ W, w21 = W := ⟨_, rfl⟩
            rw [hW6] at xC xB x9 h9 oX bb ⊢
            clear hW6
            go_loopw [17] (fun v wr => ∃ i : Nat, i ≤ ln ∧ v = .int .i64 (i : Int) ∧ Below W6.heap.size W6 wr) (fun v _ => ln - (intOf v).toNat)
            case atStart => exact ⟨0, Nat.zero_le _, rfl, Below.refl _ _⟩
            case round =>
              obtain ⟨i, hi, rfl, bq⟩ := hrel
              generalize wr = w30 at *
              replace x9 := x9.next bq
              replace h9 := h9.next bq
              replace xC := xC.next bq
              replace xB := xB.next bq
              replace oX := oX.next bq
              replace bb := bb.trans (bq.mono bb.size)
              by_cases hlt2 : i < ln
              · skip
                have dlt2 : decide ((i : Int) < (ln : Int)) = true := decide_eq_true (by omega)
                have dltn2 : decide (i < ln) = true := decide_eq_true hlt2
                have q5 : IntKind.i64.wrap ((i : Int) + 1) = ((i + 1 : Nat) : Int) := by have h9 := HLN.out; rw [IntKind.wrap_i64]; omega
                obtain ⟨⟨d0, dr, df, xs⟩, hd⟩ : ∃ d, l[i]? = some d := ⟨_, List.getElem?_eq_getElem (by rw [HL.out.1]; exact hlt2)⟩
                obtain ⟨lb, off, ya, yc, hla, hlb, e0, e1, e2, e3, hX, hxc, bx⟩ := (HL.out.next bb).2 i _ hd
                subst hla
                simp only at e0 e1 e2 e3 hX hxc bx
                have hltl : lb < w30.heap.size := by have := bb.size; omega
                replace hX := hX.mono (n₁ := w30.heap.size) bb.size
                clear hd
                obtain ⟨yn, hyn⟩ : ∃ n, xs.length = n := ⟨_, rfl⟩
                rw [hyn] at e3 hX hxc
                have HXN : Hid (xs.length = yn) := hyn
                have HBX : Hid (∀ z ∈ xs, 0 ≤ z ∧ z ≤ 255) := bx
                clear hyn bx
                by_cases h200 : 200 < yn
                · have d2 : decide ((200 : Int) < (yn : Int)) = true := decide_eq_true (by omega)
                  have d2n : decide (200 < yn) = true := decide_eq_true h200
                  go_wp2
                  go_ret
                  exact ⟨rfl, bb.alloc bb.size _⟩
                · skip
                  have d2 : decide ((200 : Int) < (yn : Int)) = false := decide_eq_false (by omega)
                  have d2n : decide (200 < yn) = false := decide_eq_false h200
                  have cxB0 := xB.cell 0 _ rfl
                  have cxB1 := xB.cell 1 _ rfl
                  have cxB2 := xB.cell 2 _ rfl
                  have lB := xB.lt
                  go_upto_region 28 with fail
                  clear cxB0 cxB1 cxB2
                  clear lB
                  have bq3 := bq.alloc bq.size (.cells #[.int .i64 s, .int .i64 dr, .int .i64 df, .slice ya yn yc] 31)
                  have b9 : Below w30.heap.size w30 (w30.alloc (.cells #[.int .i64 s, .int .i64 dr, .int .i64 df, .slice ya yn yc] 31)) := (Below.refl _ _).alloc (Nat.le_refl _) _
                  have x18 := Box.new w30 31 #[.int .i64 s, .int .i64 dr, .int .i64 df, .slice ya yn yc]
                  replace x9 := x9.next b9
                  replace h9 := h9.next b9
                  replace xC := xC.next b9
                  replace xB := xB.next b9
                  replace oX := oX.next b9
                  replace hX := hX.next b9
                  replace bb := bb.trans (b9.mono bb.size)
                  clear b9
                  clear e0 e1 e2 e3 hltl dlt2 dltn2 d2 d2n bq
                  have HYN : Hid (yn ≤ 200) := Nat.le_of_not_lt h200
                  clear h200
                  obtain ⟨B18, hB18⟩ : ∃ B, w30.heap.size = B := ⟨_, rfl⟩
                  rw [hB18] at x18 ⊢
                  clear hB18
                  generalize w30.alloc (.cells #[.int .i64 s, .int .i64 dr, .int .i64 df, .slice ya yn yc] 31) = w31 at *
                  obtain ⟨E, hEe⟩ : ∃ E, errD s dr df yn = E := ⟨_, rfl⟩
                  have HDT := refData_any s dr df ya yn yc
                  rw [hEe] at HDT
                  have HEE : Hid (errD s dr df yn = E) := hEe
                  clear hEe
                  by_cases hE0 : E = 0
                  · skip
                    subst hE0
                    have HR1 : Hid (RightD s dr df xs) := (rightD_iff _ _ _ _).1 (by rw [HXN.out]; exact HEE.out)
                    have lxC := xC.lt
                    have lx9 := x9.lt
                    have lx18 := x18.lt
                    have cxC0 := xC.cell 0 _ rfl
                    have cxC1 := xC.cell 1 _ rfl
                    have cxC2 := xC.cell 2 _ rfl
                    have cxC3 := xC.cell 3 _ rfl
                    have cxC4 := xC.cell 4 _ rfl
                    have cxC5 := xC.cell 5 _ rfl
                    have cxC6 := xC.cell 6 _ rfl
                    have cxC7 := xC.cell 7 _ rfl
                    have cxC8 := xC.cell 8 _ rfl
                    have cxC9 := xC.cell 9 _ rfl
                    have cx90 := x9.cell 0 _ rfl
                    have cx91 := x9.cell 1 _ rfl
                    have cx92 := x9.cell 2 _ rfl
                    have cx93 := x9.cell 3 _ rfl
                    have cx94 := x9.cell 4 _ rfl
                    have cx95 := x9.cell 5 _ rfl
                    have cx96 := x9.cell 6 _ rfl
                    have cx180 := x18.cell 0 _ rfl
                    have cx181 := x18.cell 1 _ rfl
                    have cx182 := x18.cell 2 _ rfl
                    have cx183 := x18.cell 3 _ rfl
                    go_wp2_with fail
                    refine (takeV c HC.out h hk dr df xs ya yn yc HXN.out _ h9 HR1.out hX hxc HBX.out (HF0.out.next bb)).mono ?_
                    rintro e w32 ⟨R2, N2, P2, a2, n2, cap2, D2, b2, m2, bc2, i2, g, rfl, hT2, hkg, h2, b9⟩
                    clear cxC0 cxC1 cxC2 cxC3 cxC4 cxC5 cxC6 cxC7 cxC8 cxC9
                    clear cx90 cx91 cx92 cx93 cx94 cx95 cx96
                    clear cx180 cx181 cx182 cx183
                    clear lxC lx9 lx18
                    have bq4 := bq3.trans (b9.mono bq3.size)
                    replace x9 := x9.next b9
                    replace h9 := h9.next b9
                    replace xC := xC.next b9
                    replace xB := xB.next b9
                    replace oX := oX.next b9
                    replace hX := hX.next b9
                    replace x18 := x18.next b9
                    replace bb := bb.trans (b9.mono bb.size)
                    clear b9 bq3
                    rcases takeH_cases hT2.out with ⟨_, q2, q3⟩ | ⟨q1, _⟩ | ⟨q1, _⟩
                    · skip
                      subst q3
                      subst q2
                      clear hT2
                      clear hX
                      have bq5 := bq4.alloc bq4.size (.cells #[.int .i64 s, .int .i64 R2, .int .i64 N2, .int .i64 P2, .slice a2 n2 cap2, .bool D2, .slice b2 m2 bc2] 29)
                      have b9 : Below w32.heap.size w32 (w32.alloc (.cells #[.int .i64 s, .int .i64 R2, .int .i64 N2, .int .i64 P2, .slice a2 n2 cap2, .bool D2, .slice b2 m2 bc2] 29)) := (Below.refl _ _).alloc (Nat.le_refl _) _
                      have x19 := Box.new w32 29 #[.int .i64 s, .int .i64 R2, .int .i64 N2, .int .i64 P2, .slice a2 n2 cap2, .bool D2, .slice b2 m2 bc2]
                      replace x9 := x9.next b9
                      replace h9 := h9.next b9
                      replace xC := xC.next b9
                      replace xB := xB.next b9
                      replace oX := oX.next b9
                      replace x18 := x18.next b9
                      replace h2 := h2.next b9
                      replace bb := bb.trans (b9.mono bb.size)
                      clear b9
                      go_upto_region 29 with fail
                      obtain ⟨B19, hB19⟩ : ∃ B, w32.heap.size = B := ⟨_, rfl⟩
                      rw [hB19] at x19 ⊢
                      clear hB19
                      generalize w32.alloc (.cells #[.int .i64 s, .int .i64 R2, .int .i64 N2, .int .i64 P2, .slice a2 n2 cap2, .bool D2, .slice b2 m2 bc2] 29) = w33 at *
                      have lx18 := x18.lt
                      have cx180 := x18.cell 0 _ rfl
                      have cx181 := x18.cell 1 _ rfl
                      have cx182 := x18.cell 2 _ rfl
                      have cx183 := x18.cell 3 _ rfl
                      go_wp2_with fail
                      refine (HDT _).mono ?_
                      rintro e w34 ⟨rfl, b9⟩
                      clear cx180 cx181 cx182 cx183
                      clear lx18
                      have bq6 := bq5.trans (b9.mono bq5.size)
                      replace x9 := x9.next b9
                      replace h9 := h9.next b9
                      replace xC := xC.next b9
                      replace xB := xB.next b9
                      replace oX := oX.next b9
                      replace x18 := x18.next b9
                      replace h2 := h2.next b9
                      replace x19 := x19.next b9
                      replace bb := bb.trans (b9.mono bb.size)
                      clear b9 bq5 bq4 HDT
                      have lx19 := x19.lt
                      have lx9 := x9.lt
                      have cx190 := x19.cell 0 _ rfl
                      have cx191 := x19.cell 1 _ rfl
                      have cx192 := x19.cell 2 _ rfl
                      have cx193 := x19.cell 3 _ rfl
                      have cx194 := x19.cell 4 _ rfl
                      have cx195 := x19.cell 5 _ rfl
                      have cx196 := x19.cell 6 _ rfl
                      have cx90 := x9.cell 0 _ rfl
                      have cx91 := x9.cell 1 _ rfl
                      have cx92 := x9.cell 2 _ rfl
                      have cx93 := x9.cell 3 _ rfl
                      have cx94 := x9.cell 4 _ rfl
                      have cx95 := x9.cell 5 _ rfl
                      have cx96 := x9.cell 6 _ rfl
                      go_wp2_with fail
                      refine (keepV c HC.out g hkg _ h2 h9).mono ?_
                      rintro e w35 ⟨rfl, b9⟩
                      clear cx190 cx191 cx192 cx193 cx194 cx195 cx196
                      clear cx90 cx91 cx92 cx93 cx94 cx95 cx96
                      clear lx19 lx9
                      have bq7 := bq6.trans (b9.mono bq6.size)
                      replace x9 := x9.next b9
                      replace h9 := h9.next b9
                      replace xC := xC.next b9
                      replace xB := xB.next b9
                      replace oX := oX.next b9
                      replace x18 := x18.next b9
                      replace h2 := h2.next b9
                      replace x19 := x19.next b9
                      replace bb := bb.trans (b9.mono bb.size)
                      clear b9 bq6
                      go_wp2
                      exact ⟨⟨i + 1, by omega, rfl, bq7⟩, by simp [intOf]; omega⟩
                    · exfalso; rw [HHD.out] at q1; cases q1
                    · exfalso; rw [HHD.out] at q1; cases q1
                  · skip
                    have dE : (E != 0) = true := by rw [bne_iff_ne]; exact hE0
                    have HNE : Hid (errD s dr df xs.length ≠ 0) := by rw [HXN.out, HEE.out]; exact hE0
                    clear hE0
                    have hle := okH_lens HC.out hk
                    have lxC := xC.lt
                    have lx9 := x9.lt
                    have lx18 := x18.lt
                    have cxC0 := xC.cell 0 _ rfl
                    have cxC1 := xC.cell 1 _ rfl
                    have cxC2 := xC.cell 2 _ rfl
                    have cxC3 := xC.cell 3 _ rfl
                    have cxC4 := xC.cell 4 _ rfl
                    have cxC5 := xC.cell 5 _ rfl
                    have cxC6 := xC.cell 6 _ rfl
                    have cxC7 := xC.cell 7 _ rfl
                    have cxC8 := xC.cell 8 _ rfl
                    have cxC9 := xC.cell 9 _ rfl
                    have cx90 := x9.cell 0 _ rfl
                    have cx91 := x9.cell 1 _ rfl
                    have cx92 := x9.cell 2 _ rfl
                    have cx93 := x9.cell 3 _ rfl
                    have cx94 := x9.cell 4 _ rfl
                    have cx95 := x9.cell 5 _ rfl
                    have cx96 := x9.cell 6 _ rfl
                    have cx180 := x18.cell 0 _ rfl
                    have cx181 := x18.cell 1 _ rfl
                    have cx182 := x18.cell 2 _ rfl
                    have cx183 := x18.cell 3 _ rfl
                    go_wp2_with fail
                    refine (takeV_no c h hle.1 hle.2 dr df xs ya yn yc HXN.out _ h9 HNE.out hX hxc (by have := HYN.out; omega) HBX.out (HF0.out.next bb)).mono ?_
                    rintro e w32 ⟨rfl, b9⟩
                    clear cxC0 cxC1 cxC2 cxC3 cxC4 cxC5 cxC6 cxC7 cxC8 cxC9
                    clear cx90 cx91 cx92 cx93 cx94 cx95 cx96
                    clear cx180 cx181 cx182 cx183
                    clear lxC lx9 lx18
                    have bq4 := bq3.trans (b9.mono bq3.size)
                    replace x9 := x9.next b9
                    replace h9 := h9.next b9
                    replace xC := xC.next b9
                    replace xB := xB.next b9
                    replace oX := oX.next b9
                    replace hX := hX.next b9
                    replace x18 := x18.next b9
                    replace bb := bb.trans (b9.mono bb.size)
                    clear b9 bq3 hX
                    have bq5 := bq4.alloc bq4.size (.cells #[.int .i64 0, .int .i64 0, .int .i64 0, .int .i64 0, .slice none 0 0, .bool false, .slice none 0 0] 29)
                    have b9 : Below w32.heap.size w32 (w32.alloc (.cells #[.int .i64 0, .int .i64 0, .int .i64 0, .int .i64 0, .slice none 0 0, .bool false, .slice none 0 0] 29)) := (Below.refl _ _).alloc (Nat.le_refl _) _
                    have x19 := Box.new w32 29 #[.int .i64 0, .int .i64 0, .int .i64 0, .int .i64 0, .slice none 0 0, .bool false, .slice none 0 0]
                    replace x9 := x9.next b9
                    replace h9 := h9.next b9
                    replace xC := xC.next b9
                    replace xB := xB.next b9
                    replace oX := oX.next b9
                    replace x18 := x18.next b9
                    replace bb := bb.trans (b9.mono bb.size)
                    clear b9
                    go_upto_region 29 with fail
                    obtain ⟨B19, hB19⟩ : ∃ B, w32.heap.size = B := ⟨_, rfl⟩
                    rw [hB19] at x19 ⊢
                    clear hB19
                    generalize w32.alloc (.cells #[.int .i64 0, .int .i64 0, .int .i64 0, .int .i64 0, .slice none 0 0, .bool false, .slice none 0 0] 29) = w33 at *
                    have lx18 := x18.lt
                    have cx180 := x18.cell 0 _ rfl
                    have cx181 := x18.cell 1 _ rfl
                    have cx182 := x18.cell 2 _ rfl
                    have cx183 := x18.cell 3 _ rfl
                    go_wp2_with fail
                    refine (HDT _).mono ?_
                    rintro e w34 ⟨rfl, b9⟩
                    clear cx180 cx181 cx182 cx183
                    clear lx18
                    have bq6 := bq5.trans (b9.mono bq5.size)
                    replace x9 := x9.next b9
                    replace h9 := h9.next b9
                    replace xC := xC.next b9
                    replace xB := xB.next b9
                    replace oX := oX.next b9
                    replace x18 := x18.next b9
                    replace x19 := x19.next b9
                    replace bb := bb.trans (b9.mono bb.size)
                    clear b9 bq5 bq4 HDT
                    go_wp2
                    exact ⟨⟨i + 1, by omega, rfl, bq6⟩, by simp [intOf]; omega⟩
              · obtain rfl : i = ln := by omega
                have dlt2 : decide ((i : Int) < (i : Int)) = false := decide_eq_false (by omega)
                have dltn2 : decide (i < i) = false := decide_eq_false (by omega)
                go_wp2_with fail
                refine (hearWakes_any _ (HF0.out.next bb)).mono ?_
                rintro e w99 ⟨rfl, b99⟩
                go_wp2
                go_ret
                exact ⟨rfl, bb.trans (b99.mono bb.size)⟩

end Go.Proofs.YtokejgoplalkhaaGreatDoor
