/-
  Stores that leave a row as it lies; a block that is heard, compared with itself.
-/
import Derived.Test.YtkigbanldiialaaGreatDoorM03
import Derived.Test.YtkigbanldiialaaGreatDoorM13
import Derived.Test.YtkigbanldiialaaGreatDoorM22
import Derived.Test.YtkigbanldiialaaGreatDoorM26
import Derived.Test.YtkigbanldiialaaGreatDoorM27
import Derived.Test.YtkigbanldiialaaGreatDoorM29
import Derived.Test.YtkigbanldiialaaGreatDoorM30
import Derived.Test.YtkigbanldiialaaGreatDoorM38
import Derived.Test.YtkigbanldiialaaGreatDoorM43
import Derived.Test.YtkigbanldiialaaGreatDoorM45
import Derived.Test.YtkigbanldiialaaGreatDoorM46
import Derived.Test.YtkigbanldiialaaGreatDoorM47
import Derived.ChangeAlike
import Derived.Deep.Cut
import Derived.Deep.CutRange
import Derived.Deep.DeepCutAuto
import Derived.Lib.SmallJoins
import Derived.OneCell
import Derived.OpenShut
import Derived.ProofKit
import Derived.WalkKit
namespace Go.Proofs.YtkigbanldiialaaGreatDoor
open Go.RowKit

theorem row_set7x {w : World} {base D size : Nat} {e : TypeId} {v : Value} {n : Nat} {xs : List Value} (h : w.ownsRow base e size v n xs) (hD : v.ownBlock ≠ some D) (a b c d e' f g : Value) : (((((((w.setCell ⟨D, 0, none⟩ a).setCell ⟨D, 1, none⟩ b).setCell ⟨D, 2, none⟩ c).setCell ⟨D, 3, none⟩ d).setCell ⟨D, 4, none⟩ e').setCell ⟨D, 5, none⟩ f).setCell ⟨D, 6, none⟩ g).ownsRow base e size v n xs := ownsRow_setCell_other (ownsRow_setCell_other (ownsRow_setCell_other (ownsRow_setCell_other (ownsRow_setCell_other (ownsRow_setCell_other (ownsRow_setCell_other h (a := ⟨D, 0, none⟩) hD a) (a := ⟨D, 1, none⟩) hD b) (a := ⟨D, 2, none⟩) hD c) (a := ⟨D, 3, none⟩) hD d) (a := ⟨D, 4, none⟩) hD e') (a := ⟨D, 5, none⟩) hD f) (a := ⟨D, 6, none⟩) hD g
theorem keepHear_same (h : Hr) (a b a' b' : Option Addr) (cap bc cap' bc' : Nat) (hl : h.hL.length ≤ 4611686018427387904) (hb : h.hB.length ≤ 4611686018427387904) (w : World) (H : HearAt w h a cap b bc) (H' : HearAt w h a' cap' b' bc') : Calls Tryz.prog 19 #[.agg #[.int .i64 h.hS, .int .i64 h.hR, .int .i64 h.hN, .int .i64 h.hP, .slice a h.hL.length cap, .bool h.hD, .slice b h.hB.length bc], .agg #[.int .i64 h.hS, .int .i64 h.hR, .int .i64 h.hN, .int .i64 h.hP, .slice a' h.hL.length cap', .bool h.hD, .slice b' h.hB.length bc']] w fun e w' => e = .returned (.bool true) ∧ Below w.heap.size w w' := by
  have := keepHear_any h.hS h.hR h.hN h.hP h.hS h.hR h.hN h.hP h.hD h.hD _ _ _ _ h.hL h.hL h.hB h.hB hl hb w H.syms H.byts H'.syms H'.byts
  rw [decide_eq_true ⟨rfl, rfl, rfl, ⟨rfl, rfl, rfl⟩, rfl⟩] at this
  exact this

end Go.Proofs.YtkigbanldiialaaGreatDoor

/-
  A block that is heard, its fields as plain numbers: how it lies, and what hear's calls and the laws' helpers answer of it.
-/
namespace Go.Proofs.YtkigbanldiialaaGreatDoor
open Go.RowKit

/-- It lies in memory from base on; its fields are these. -/
structure At7 (base : Nat) (W : World) (h : Hr) (S R N P : Int) (a : Option Addr) (n cap : Nat) (D : Bool) (b : Option Addr) (m bc : Nat) : Prop where
  eS : h.hS = S
  eR : h.hR = R
  eN : h.hN = N
  eP : h.hP = P
  en : h.hL.length = n
  eD : h.hD = D
  em : h.hB.length = m
  own : OwnHear base W h a cap b bc
theorem At7.next {base : Nat} {W W' : World} {h : Hr} {S R N P : Int} {a : Option Addr} {n cap : Nat} {D : Bool} {b : Option Addr} {m bc : Nat} (H : At7 base W h S R N P a n cap D b m bc) (k : Below W.heap.size W W') : At7 base W' h S R N P a n cap D b m bc := ⟨H.eS, H.eR, H.eN, H.eP, H.en, H.eD, H.em, H.own.next k (Nat.le_refl _)⟩
theorem At7.base {base base' : Nat} {W : World} {h : Hr} {S R N P : Int} {a : Option Addr} {n cap : Nat} {D : Bool} {b : Option Addr} {m bc : Nat} (H : At7 base W h S R N P a n cap D b m bc) (hb : base' ≤ base) : At7 base' W h S R N P a n cap D b m bc := ⟨H.eS, H.eR, H.eN, H.eP, H.en, H.eD, H.em, H.own.base hb⟩
theorem At7.at {base : Nat} {W : World} {h : Hr} {S R N P : Int} {a : Option Addr} {n cap : Nat} {D : Bool} {b : Option Addr} {m bc : Nat} (H : At7 base W h S R N P a n cap D b m bc) : HearAt W h a cap b bc := H.own.at
/-- A store of seven cells into a block that was there before. -/
theorem At7.store {base : Nat} {W : World} {h : Hr} {S R N P : Int} {a : Option Addr} {n cap : Nat} {D : Bool} {b : Option Addr} {m bc : Nat} (H : At7 base W h S R N P a n cap D b m bc) {B : Nat} (hB : B < base) (x0 x1 x2 x3 x4 x5 x6 : Value) : At7 base (((((((W.setCell ⟨B, 0, none⟩ x0).setCell ⟨B, 1, none⟩ x1).setCell ⟨B, 2, none⟩ x2).setCell ⟨B, 3, none⟩ x3).setCell ⟨B, 4, none⟩ x4).setCell ⟨B, 5, none⟩ x5).setCell ⟨B, 6, none⟩ x6) h S R N P a n cap D b m bc := ⟨H.eS, H.eR, H.eN, H.eP, H.en, H.eD, H.em, ⟨row_set7c H.own.syms hB x0 x1 x2 x3 x4 x5 x6, row_set7c H.own.byts hB x0 x1 x2 x3 x4 x5 x6, H.own.byte⟩⟩

theorem newV (c : Cfg) (hC : okC c = true) (s : Int) (hs : 0 ≤ s) (w : World) :
    Calls Tryz.prog 11 #[.agg #[.int .i64 c.cB, .int .i64 c.cBeam, .int .i64 c.cDepth, .int .i64 c.cWin, .int .i64 c.cQs, .int .i64 c.cQr, .int .i64 c.cBatch, .int .i64 c.cPass, .int .i64 c.cMsg, .int .i64 c.cSeqs], .int .i64 s] w fun e W' => ∃ (N P : Int) (a : Option Addr) (cap : Nat) (b : Option Addr) (bc : Nat), e = .returned (.tuple #[.agg #[.int .i64 s, .int .i64 (-1), .int .i64 N, .int .i64 P, .slice a 0 cap, .bool false, .slice b 0 bc], .int .i64 0]) ∧ At7 w.heap.size W' (newH c s) s (-1) N P a 0 cap false b 0 bc ∧ Below w.heap.size w W' :=
  (HearNew_ok c s hC hs w).mono fun _ _ ⟨a, cap, b, bc, he, ho, hb⟩ => ⟨segsC c, c.cPass, a, cap, b, bc, he, ⟨rfl, rfl, rfl, rfl, rfl, rfl, rfl, ho⟩, hb⟩

theorem takeV (c : Cfg) (hC : okC c = true) (h : Hr) (hk : okH c h) {base : Nat} {S R N P : Int} {a : Option Addr} {n cap : Nat} {D : Bool} {b : Option Addr} {m bc : Nat} (r f : Int) (xs : List Int) (x : Option Addr) (xn xc : Nat) (hxn : xs.length = xn) (w : World) (H : At7 base w h S R N P a n cap D b m bc) (hR : RightD S r f xs) (hx : Holds .u8 w.heap.size w (.slice x xn xc) xs) (hX : xn ≤ xc) (bx : ∀ z ∈ xs, 0 ≤ z ∧ z ≤ 255) (hF : Firsts w) :
    Calls Tryz.prog 15 #[.agg #[.int .i64 c.cB, .int .i64 c.cBeam, .int .i64 c.cDepth, .int .i64 c.cWin, .int .i64 c.cQs, .int .i64 c.cQr, .int .i64 c.cBatch, .int .i64 c.cPass, .int .i64 c.cMsg, .int .i64 c.cSeqs], .agg #[.int .i64 S, .int .i64 R, .int .i64 N, .int .i64 P, .slice a n cap, .bool D, .slice b m bc], .agg #[.int .i64 S, .int .i64 r, .int .i64 f, .slice x xn xc]] w fun e W' => ∃ (R' N' P' : Int) (a' : Option Addr) (n' cap' : Nat) (D' : Bool) (b' : Option Addr) (m' bc' : Nat) (i : Bool) (g : Hr), e = .returned (.tuple #[.agg #[.int .i64 S, .int .i64 R', .int .i64 N', .int .i64 P', .slice a' n' cap', .bool D', .slice b' m' bc'], .bool i, .int .i64 0]) ∧ Hid (takeH c h r f xs = (g, i)) ∧ okH c g ∧ At7 w.heap.size W' g S R' N' P' a' n' cap' D' b' m' bc' ∧ Below w.heap.size w W' := by
  obtain ⟨eS, eR, eN, eP, en, eD, em, own⟩ := H
  subst eS eR eN eP en eD em hxn
  have hxx : okX r f xs := ⟨hR.2.1, hR.2.2.1.1, bx⟩
  refine (HearTake_ok c h r f xs hC hk hR a b cap bc x xc w own.at hx hX bx hF).mono ?_
  rintro e W' ⟨a', cap', b', bc', he, ho, hb⟩
  refine ⟨(takeH c h r f xs).1.hR, (takeH c h r f xs).1.hN, (takeH c h r f xs).1.hP, a', (takeH c h r f xs).1.hL.length, cap', (takeH c h r f xs).1.hD, b', (takeH c h r f xs).1.hB.length, bc', (takeH c h r f xs).2, (takeH c h r f xs).1, ?_, (rfl : takeH c h r f xs = _), takeH_ok hk hxx, ⟨takeH_seq _ _ _ _ _, rfl, rfl, rfl, rfl, rfl, rfl, ho⟩, hb⟩
  rw [he, takeH_seq]

theorem checkV (c : Cfg) (hC : okC c = true) (h : Hr) (hk : okH c h) {base : Nat} {S R N P : Int} {a : Option Addr} {n cap : Nat} {D : Bool} {b : Option Addr} {m bc : Nat} (w : World) (H : At7 base w h S R N P a n cap D b m bc) :
    Calls Tryz.prog 16 #[.agg #[.int .i64 c.cB, .int .i64 c.cBeam, .int .i64 c.cDepth, .int .i64 c.cWin, .int .i64 c.cQs, .int .i64 c.cQr, .int .i64 c.cBatch, .int .i64 c.cPass, .int .i64 c.cMsg, .int .i64 c.cSeqs], .agg #[.int .i64 S, .int .i64 R, .int .i64 N, .int .i64 P, .slice a n cap, .bool D, .slice b m bc]] w fun e w' => e = .returned (.int .i64 0) ∧ Below w.heap.size w w' := by
  obtain ⟨eS, eR, eN, eP, en, eD, em, own⟩ := H
  subst eS eR eN eP en eD em
  exact HearCheck_ok c h hC hk a b cap bc w own.at

theorem okH_le {c : Cfg} (hC : okC c = true) {h : Hr} (hk : okH c h) : h.hL.length ≤ 4611686018427387904 ∧ h.hB.length ≤ 4611686018427387904 := by
  have := okH_lens hC hk
  exact ⟨by omega, by omega⟩
theorem keepV (c : Cfg) (hC : okC c = true) (h : Hr) (hk : okH c h) {base base' : Nat} {S R N P : Int} {a a' : Option Addr} {n cap cap' : Nat} {D : Bool} {b b' : Option Addr} {m bc bc' : Nat} {S' R' N' P' : Int} {n' m' : Nat} {D' : Bool} (w : World) (H : At7 base w h S R N P a n cap D b m bc) (H' : At7 base' w h S' R' N' P' a' n' cap' D' b' m' bc') :
    Calls Tryz.prog 19 #[.agg #[.int .i64 S, .int .i64 R, .int .i64 N, .int .i64 P, .slice a n cap, .bool D, .slice b m bc], .agg #[.int .i64 S', .int .i64 R', .int .i64 N', .int .i64 P', .slice a' n' cap', .bool D', .slice b' m' bc']] w fun e w' => e = .returned (.bool true) ∧ Below w.heap.size w w' := by
  obtain ⟨eS, eR, eN, eP, en, eD, em, own⟩ := H
  obtain ⟨eS', eR', eN', eP', en', eD', em', own'⟩ := H'
  subst eS eR eN eP en eD em eS' eR' eN' eP' en' eD' em'
  exact keepHear_same h a b a' b' cap bc cap' bc' (okH_le hC hk).1 (okH_le hC hk).2 w own.at own'.at

/-- What becomes of it: it was accepted, it stays, or it was accepted now. -/
theorem takeH_cases {c : Cfg} {h g : Hr} {r f : Int} {xs : List Int} {i : Bool} (e : takeH c h r f xs = (g, i)) : (h.hD = true ∧ g = h ∧ i = false) ∨ (h.hD = false ∧ g = stayH h r f xs ∧ i = false ∧ gotH c h r f xs = none) ∨ (h.hD = false ∧ i = true ∧ ∃ b, gotH c h r f xs = some b ∧ g = doneH h r b) := by
  cases hd : h.hD with
  | true => rw [takeH_done hd] at e; cases e; exact .inl ⟨rfl, rfl, rfl⟩
  | false =>
    cases hg : gotH c h r f xs with
    | none => rw [takeH_none hd hg] at e; cases e; exact .inr (.inl ⟨rfl, rfl, rfl, rfl⟩)
    | some b => rw [takeH_some hd hg] at e; cases e; exact .inr (.inr ⟨rfl, rfl, b, rfl, rfl⟩)

end Go.Proofs.YtkigbanldiialaaGreatDoor

/-
  Symbols that are put side by side into an empty pile, as numbers. No function of the program is spoken of. (Written by tpl_hearflush.py.)
-/
namespace Go.Proofs.YtkigbanldiialaaGreatDoor
open Go.RowKit

theorem small_most {c : Cfg} (h : SmallC c) : 88 ≤ mostC c ∧ mostC c ≤ 182 := by
  have e : mostC c = segsC c * c.cPass := rfl
  unfold SmallC at h
  have hs : 22 ≤ segsC c ∧ segsC c ≤ 26 := by unfold segsC; omega
  rw [e]
  obtain ⟨p, hp⟩ : ∃ p, c.cPass = p := ⟨_, rfl⟩
  rw [hp] at h ⊢
  obtain rfl | rfl | rfl | rfl : p = 4 ∨ p = 5 ∨ p = 6 ∨ p = 7 := by omega
  all_goals omega

end Go.Proofs.YtkigbanldiialaaGreatDoor

/-
  What the laws of a block that is heard call beside hear's own calls, its fields as plain numbers: a block's bytes, its symbols, whether bytes are the same.
-/
namespace Go.Proofs.YtkigbanldiialaaGreatDoor
open Go.RowKit

theorem mostC_leV {c : Cfg} (h : okC c = true) {n : Nat} (hn : (n : Int) = c.cB + 10) : mostC c ≤ 32 * (n : Int) := by
  have h2 := ((okC_iff c).1 h).2.2.2.2.2.2.2.1
  have h1 := ((okC_iff c).1 h).1
  unfold mostC segsC
  rw [← hn]
  have : 2 * (n : Int) * c.cPass ≤ 2 * (n : Int) * 16 := Int.mul_le_mul_of_nonneg_left (by omega) (by omega)
  omega

/-- A block's bytes: what is said of them. -/
structure XB (c : Cfg) (s : Int) (zs : List Int) (xn : Nat) : Prop where
  blk : blockB c s zs = true
  len : zs.length = xn
  cl : (xn : Int) = c.cB + 10
  bz : ∀ z ∈ zs, 0 ≤ z ∧ z ≤ 255
  hs : 0 ≤ s ∧ s < 1073741824

theorem makeV (c : Cfg) (hC : okC c = true) (s mk : Int) (ta : Option Addr) (tn tc : Nat) (ts : List Int) (htn : ts.length = tn) (bt : ∀ z ∈ ts, 0 ≤ z ∧ z ≤ 255) (w : World) (ha : Holds .u8 w.heap.size w (.slice ta tn tc) ts) :
    Calls Tryz.prog 9 #[.int .i64 c.cB, .agg #[.int .i64 s, .int .i64 mk, .slice ta tn tc]] w fun e W' => ((∃ E, e = .returned (.tuple #[.slice none 0 0, .int .i64 E]) ∧ Hid (E ≠ 0)) ∨ ∃ (xa : Option Addr) (xn xc : Nat) (zs : List Int), e = .returned (.tuple #[.slice xa xn xc, .int .i64 0]) ∧ XB c s zs xn ∧ W'.ownsRow w.heap.size 5 1 (.slice xa xn xc) xn (zs.map (Value.int .u8))) ∧ Below w.heap.size w W' := by
  subst htn
  have hcb := ((okC_iff c).1 hC).1
  obtain ⟨Z, hZ⟩ : ∃ Z : Nat, c.cB = (Z : Int) := ⟨_, (Int.toNat_of_nonneg (by omega)).symm⟩
  by_cases he : errB c.cB s mk ts.length = 0
  · have hR : Right Z s mk ts := (right_iff Z s mk ts).1 (hZ ▸ he)
    have := Make_ok Z s mk ta tc ts hR bt w ha
    rw [← hZ] at this
    refine this.mono ?_
    rintro e W' ⟨r, he, ho, hb⟩
    obtain ⟨xa, xc, rfl⟩ := row_shapeH ho
    refine ⟨.inr ⟨xa, Z + 10, xc, bytesB Z s mk ts, he, ⟨block_right hZ hR, bytesB_len hR.2.2.2.1, by omega, bytesB_bd hR bt, hR.2.1⟩, ho⟩, hb⟩
  · exact (Make_no c.cB s mk ta ts.length tc he w).mono fun e W' ⟨h1, h2⟩ => ⟨.inl ⟨_, h1, he⟩, h2⟩

theorem encV {c : Cfg} (hC : okC c = true) {s : Int} {zs : List Int} {xn : Nat} (X : XB c s zs xn) (xa : Option Addr) (xc : Nat) (f k : Nat) (hk : ((f + k : Nat) : Int) ≤ mostC c) (w : World) (hF : Firsts w) (ha : Holds .u8 w.heap.size w (.slice xa xn xc) zs) :
    Calls Tryz.prog 14 #[.slice xa xn xc, .int .i64 (f : Int), .int .i64 (k : Int)] w fun e W' => ∃ (ra : Option Addr) (rc : Nat), e = .returned (.tuple #[.slice ra k rc, .int .i64 0]) ∧ W'.ownsRow w.heap.size 5 1 (.slice ra k rc) k ((codeL zs f k).map (Value.int .u8)) ∧ Below w.heap.size w W' := by
  have hcb := ((okC_iff c).1 hC).1
  have hcl := X.cl
  have hm := mostC_leV hC (n := xn) hcl
  refine (Encode_row xa xn xc zs X.len (by omega) (by omega) X.bz f k (by omega) w hF ha).mono ?_
  rintro e W' ⟨r, he, ho, hb⟩
  obtain ⟨ra, rc, rfl⟩ := row_shapeH ho
  exact ⟨ra, rc, he, ho, hb⟩

theorem codeR {c : Cfg} {s : Int} {zs : List Int} {xn : Nat} (X : XB c s zs xn) {r : Int} (hr : 0 ≤ r ∧ r ≤ 255) {f k : Nat} (hf : f ≤ 65535) (h1 : 1 ≤ k) (h2 : k ≤ 64) : RightD s r (f : Int) (codeL zs f k) := ⟨X.hs, hr, by omega, by rw [codeL_len]; exact h1, by rw [codeL_len]; exact h2⟩

/-- Its bytes are the block's. -/
theorem bytesV {c : Cfg} (h : Hr) {s : Int} {zs : List Int} {xn : Nat} (X : XB c s zs xn) (hB : h.hB = zs) {base : Nat} {S R N P : Int} {a : Option Addr} {n cap : Nat} {D : Bool} {b : Option Addr} {m bc : Nat} (xa : Option Addr) (xc : Nat) (w : World) (H : At7 base w h S R N P a n cap D b m bc) (hC : okC c = true) (hx : Holds .u8 w.heap.size w (.slice xa xn xc) zs) :
    Calls Tryz.prog 17 #[.slice b m bc, .slice xa xn xc] w fun e w' => e = .returned (.bool true) ∧ Below w.heap.size w w' := by
  obtain ⟨eS, eR, eN, eP, en, eD, em, own⟩ := H
  subst em
  have hcb := ((okC_iff c).1 hC).1
  have hcl := X.cl
  have hln := X.len
  have := bytes_any (.slice b h.hB.length bc) (.slice xa xn xc) h.hB zs _ _ w (by omega) (holds_of_row own.byts) hx
  rw [decide_eq_true hB] at this
  exact this.mono fun e w' ⟨h1, q, h2⟩ => ⟨h1, by rw [h2]; exact below_drewN (Below.refl _ _) q⟩

theorem below_drew_of {n : Nat} {W : World} (h : W.heap.size = n) : Below n W W.drew := h ▸ (Below.refl _ _).drew
theorem below_same_of {n : Nat} {W : World} (h : W.heap.size = n) : Below n W W := h ▸ Below.refl _ _
/-- Bytes in a row of a call's own. -/
def OwnB1 (a : Option Addr) (n cap : Nat) (zs : List Int) (base : Nat) (W : World) : Prop := W.ownsRow base 5 1 (.slice a n cap) n (zs.map (Value.int .u8))
theorem OwnB1.next {a : Option Addr} {n cap : Nat} {zs : List Int} {base : Nat} {W W' : World} (h : OwnB1 a n cap zs base W) (k : Below W.heap.size W W') : OwnB1 a n cap zs base W' := row_below h k (Nat.le_refl _)
theorem OwnB1.holds {a : Option Addr} {n cap : Nat} {zs : List Int} {base : Nat} {W : World} (h : OwnB1 a n cap zs base W) : Holds .u8 W.heap.size W (.slice a n cap) zs := holds_of_row h
theorem OwnB1.cap {a : Option Addr} {n cap : Nat} {zs : List Int} {base : Nat} {W : World} (h : OwnB1 a n cap zs base W) : n ≤ cap := row_cap1 h
/-- A store of seven cells into a block in which it does not lie. -/
theorem OwnB1.store {a : Option Addr} {n cap : Nat} {zs : List Int} {base : Nat} {W : World} (h : OwnB1 a n cap zs base W) {B : Nat} (hB : (Value.slice a n cap).ownBlock ≠ some B) (x0 x1 x2 x3 x4 x5 x6 : Value) : OwnB1 a n cap zs base (((((((W.setCell ⟨B, 0, none⟩ x0).setCell ⟨B, 1, none⟩ x1).setCell ⟨B, 2, none⟩ x2).setCell ⟨B, 3, none⟩ x3).setCell ⟨B, 4, none⟩ x4).setCell ⟨B, 5, none⟩ x5).setCell ⟨B, 6, none⟩ x6) := row_set7x h hB x0 x1 x2 x3 x4 x5 x6
theorem segsV (c : Cfg) (hC : okC c = true) (w : World) : Calls Tryz.prog 18 #[.agg #[.int .i64 c.cB, .int .i64 c.cBeam, .int .i64 c.cDepth, .int .i64 c.cWin, .int .i64 c.cQs, .int .i64 c.cQr, .int .i64 c.cBatch, .int .i64 c.cPass, .int .i64 c.cMsg, .int .i64 c.cSeqs]] w fun e w' => e = .returned (.int .i64 (segsC c)) ∧ Below w.heap.size w w' := by
  have := ConfSegs_any c w
  unfold segsA at this
  rw [if_pos hC] at this
  exact this
theorem small_segs {c : Cfg} (h : SmallC c) : 22 ≤ segsC c ∧ segsC c ≤ 26 := by
  unfold SmallC at h
  unfold segsC
  omega
/-- By four passes it is accepted. -/
theorem four_most {c : Cfg} (h : SmallC c) : 4 * segsC c ≤ mostC c := by
  have hs := small_segs h
  have e : mostC c = segsC c * c.cPass := rfl
  unfold SmallC at h
  rw [e]
  obtain ⟨p, hp⟩ : ∃ p, c.cPass = p := ⟨_, rfl⟩
  rw [hp] at h ⊢
  obtain rfl | rfl | rfl | rfl : p = 4 ∨ p = 5 ∨ p = 6 ∨ p = 7 := by omega
  all_goals omega

end Go.Proofs.YtkigbanldiialaaGreatDoor

/-
  A list of data, in memory: how each lies. No function of the program is spoken of.
-/
namespace Go.Proofs.YtkigbanldiialaaGreatDoor
open Go.RowKit

/-- Data: its number, its round, where it begins, its symbols. -/
abbrev Dt := Int × Int × Int × List Int
/-- The slice at a holds these, in a block below n₀. -/
def Datas (n₀ : Nat) (W : World) (a : Option Addr) (n : Nat) (l : List Dt) : Prop := l.length = n ∧ ∀ (j : Nat) (d : Dt), l[j]? = some d → ∃ b off xa xc, a = some ⟨b, off, none⟩ ∧ b < n₀ ∧ W.cell? ⟨b, off + j * 4, none⟩ = some (.int .i64 d.1) ∧ W.cell? ⟨b, off + j * 4 + 1, none⟩ = some (.int .i64 d.2.1) ∧ W.cell? ⟨b, off + j * 4 + 2, none⟩ = some (.int .i64 d.2.2.1) ∧ W.cell? ⟨b, off + j * 4 + 3, none⟩ = some (.slice xa d.2.2.2.length xc) ∧ Holds .u8 n₀ W (.slice xa d.2.2.2.length xc) d.2.2.2 ∧ d.2.2.2.length ≤ xc ∧ ∀ z ∈ d.2.2.2, 0 ≤ z ∧ z ≤ 255
theorem Datas.next {n₀ : Nat} {W W' : World} {a : Option Addr} {n : Nat} {l : List Dt} (h : Datas n₀ W a n l) (k : Below n₀ W W') : Datas n₀ W' a n l := by
  refine ⟨h.1, fun j d hj => ?_⟩
  obtain ⟨b, off, xa, xc, h0, h1, h2, h3, h4, h5, h6, h7⟩ := h.2 j d hj
  exact ⟨b, off, xa, xc, h0, h1, (k.cell (p := ⟨b, off + j * 4, none⟩) h1).trans h2, (k.cell (p := ⟨b, off + j * 4 + 1, none⟩) h1).trans h3, (k.cell (p := ⟨b, off + j * 4 + 2, none⟩) h1).trans h4, (k.cell (p := ⟨b, off + j * 4 + 3, none⟩) h1).trans h5, h6.below k, h7⟩

end Go.Proofs.YtkigbanldiialaaGreatDoor

/-
  A block that is heard as an argument; lists of data, of texts, of triples as arguments. (Written by tpl_hearopen.py.)
-/
namespace Go.Proofs.YtkigbanldiialaaGreatDoor
open Go.ChangeShapes Go.WideShapes Go.ChangeAt Go.RowKit

end Go.Proofs.YtkigbanldiialaaGreatDoor

/-
  Lists of data, of texts, of triples, as they lie and as arguments.
-/
namespace Go.Proofs.YtkigbanldiialaaGreatDoor
open Go.RowKit

/-- The slice at a holds these texts, in a block below n₀. -/
def Texts (n₀ : Nat) (W : World) (a : Option Addr) (n : Nat) (l : List (List Int)) : Prop := l.length = n ∧ ∀ (j : Nat) (x : List Int), l[j]? = some x → ∃ b off xa xc, a = some ⟨b, off, none⟩ ∧ b < n₀ ∧ W.cell? ⟨b, off + j, none⟩ = some (.slice xa x.length xc) ∧ Holds .u8 n₀ W (.slice xa x.length xc) x ∧ x.length ≤ xc ∧ ∀ z ∈ x, 0 ≤ z ∧ z ≤ 255
theorem Texts.next {n₀ : Nat} {W W' : World} {a : Option Addr} {n : Nat} {l : List (List Int)} (h : Texts n₀ W a n l) (k : Below n₀ W W') : Texts n₀ W' a n l := by
  refine ⟨h.1, fun j x hj => ?_⟩
  obtain ⟨b, off, xa, xc, h0, h1, h2, h6, h7⟩ := h.2 j x hj
  exact ⟨b, off, xa, xc, h0, h1, (k.cell (p := ⟨b, off + j, none⟩) h1).trans h2, h6.below k, h7⟩
/-- The slice at a holds these triples, in a block below n₀. -/
def Trips (n₀ : Nat) (W : World) (a : Option Addr) (n : Nat) (l : List (Int × Int × Int)) : Prop := l.length = n ∧ ∀ (j : Nat) (x : Int × Int × Int), l[j]? = some x → ∃ b off, a = some ⟨b, off, none⟩ ∧ b < n₀ ∧ W.cell? ⟨b, off + j * 3, none⟩ = some (.int .i64 x.1) ∧ W.cell? ⟨b, off + j * 3 + 1, none⟩ = some (.int .i64 x.2.1) ∧ W.cell? ⟨b, off + j * 3 + 2, none⟩ = some (.int .i64 x.2.2)
theorem Trips.next {n₀ : Nat} {W W' : World} {a : Option Addr} {n : Nat} {l : List (Int × Int × Int)} (h : Trips n₀ W a n l) (k : Below n₀ W W') : Trips n₀ W' a n l := by
  refine ⟨h.1, fun j x hj => ?_⟩
  obtain ⟨b, off, h0, h1, h2, h3, h4⟩ := h.2 j x hj
  exact ⟨b, off, h0, h1, (k.cell (p := ⟨b, off + j * 3, none⟩) h1).trans h2, (k.cell (p := ⟨b, off + j * 3 + 1, none⟩) h1).trans h3, (k.cell (p := ⟨b, off + j * 3 + 2, none⟩) h1).trans h4⟩

theorem cellsU8L : Tryz.prog.cellsOf 5 = 1 := by kernel_rfl
theorem cellsBytesL : Tryz.prog.cellsOf 24 = 1 := by kernel_rfl

/-- A text that came in, opened. -/
theorem text_of_trod {H : Type} {enc : TypeId × Value → H} {w : World} {base : Nat} {held : Bool} {fuel : Nat} {v : Value} {x : DataW H × List MemPlace}
    (h : DataW.trod enc Tryz.prog w base (fun _ => true) held fuel 24 [v] = some x) : ∃ a ys c, v = .slice a ys.length c ∧ Holds .u8 w.heap.size w v ys ∧ ys.length ≤ c ∧ ∀ z ∈ ys, 0 ≤ z ∧ z ≤ 255 := by
  rcases Go.ChangeShapes.open_ints Tryz.underlying24 Tryz.underlying5 cellsU8L h with ⟨hcs, _⟩ | ⟨x3, l3, c3', zs, hcs, _, hl3, hm3, hz, _, hcell3, hwz⟩
  · simp at hcs
    subst hcs
    exact ⟨_, [], _, rfl, .inl ⟨⟨_, _, rfl, fun _ => rfl⟩, rfl⟩, Nat.le_refl _, by simp⟩
  · simp at hcs
    subst hcs
    obtain ⟨ys, e, hy, hw⟩ := holds_of_isRow (kd := .u8) (w := w) (a := some x3) (len := l3) (cap := c3') (zs := zs) (.inr ⟨x3, rfl, hl3, hm3, by simpa using hz, hcell3, hwz⟩)
    subst e
    exact ⟨_, ys, _, rfl, hy, hl3, bytes_bd hw⟩

set_option maxRecDepth 100000 in
set_option maxHeartbeats 1000000 in
/-- A list of texts that came in, opened. -/
theorem texts_of_trod {H : Type} {enc : TypeId × Value → H} {w : World} {base : Nat} {held : Bool} {fuel : Nat} {a : Option Addr} {len cap : Nat} {x : DataW H × List MemPlace}
    (h : DataW.trod enc Tryz.prog w base (fun _ => true) held fuel 54 [.slice a len cap] = some x) : ∃ l, Texts w.heap.size w a len l := by
  rcases Go.Deep.open_slice Tryz.underlying54 h with ⟨hcs, _⟩ | ⟨ad, len', cap', m, n, D, Pl, hcs, _, hl, hc, hm, _, hx⟩
  · simp at hcs
    obtain ⟨rfl, rfl, rfl⟩ := hcs
    exact ⟨[], rfl, fun j x hj => by simp at hj⟩
  · simp at hcs
    obtain ⟨rfl, rfl, rfl⟩ := hcs
    have hlm : len ≤ m := by rw [hm]; split <;> omega
    have each : ∀ i, i < len → ∃ q : List Int × Option Addr × Nat, w.cell? (ad.add i) = some (.slice q.2.1 q.1.length q.2.2) ∧ Holds .u8 w.heap.size w (.slice q.2.1 q.1.length q.2.2) q.1 ∧ q.1.length ≤ q.2.2 ∧ ∀ z ∈ q.1, 0 ≤ z ∧ z ≤ 255 := by
      intro i hi
      obtain ⟨cs', h1, h2⟩ := hx i (by omega)
      rw [cellsBytesL] at h1
      obtain ⟨_, hlen, hcell⟩ := World.cells?_some h1
      match cs', hlen with
      | [v0], _ =>
        obtain ⟨a3, ys, c3, rfl, hy, h3, h5⟩ := text_of_trod h2
        have c0 := hcell 0 (by omega)
        simp at c0
        exact ⟨(ys, a3, c3), by simpa [Go.Deep.add_add] using c0, hy, h3, h5⟩
    by_cases h0 : len = 0
    · subst h0
      exact ⟨[], rfl, fun j x hj => by simp at hj⟩
    · haveI : Inhabited (List Int × Option Addr × Nat) := ⟨([], none, 0)⟩
      obtain ⟨q, hq⟩ := Go.Deep.choose_lt each
      obtain ⟨b, off, spot⟩ := ad
      have hspot : spot = none := by
        have := (hq 0 (by omega)).1
        simpa [Addr.add] using World.cell?_spot this
      subst hspot
      refine ⟨(List.range len).map fun i => (q i).1, by simp, fun j x hj => ?_⟩
      have hjl : j < len := by have := (List.getElem?_eq_some_iff.1 hj).1; simpa using this
      rw [List.getElem?_map, List.getElem?_range hjl] at hj
      simp at hj
      subst hj
      obtain ⟨g1, g2, g3, g5⟩ := hq j hjl
      rw [Go.WideShapes.add_plain] at g1
      exact ⟨b, off, (q j).2.1, (q j).2.2, rfl, by have := symAt_lt g1; exact this, g1, g2, g3, g5⟩

end Go.Proofs.YtkigbanldiialaaGreatDoor

/-
  HearFour: the walk: whatever the configuration, the block, the symbols ahead and the cuts, the law answers true, and nothing that lay has turned. (Written by tpl_hearfour.py.)
-/
namespace Go.Proofs.YtkigbanldiialaaGreatDoor
open Go.RowKit

set_option maxRecDepth 100000 in
set_option maxHeartbeats 16000000 in
theorem hearFour_at (cq : Cfg) (s mk : Int) (ta : Option Addr) (tn tc : Nat) (ts : List Int) (ea : Option Addr) (en ec : Nat) (es : List Int) (ca : Option Addr) (cn cc : Nat) (cs : List Int) (w : World) (htn : ts.length = tn) (hT : Holds .u8 w.heap.size w (.slice ta tn tc) ts) (bt : ∀ z ∈ ts, 0 ≤ z ∧ z ≤ 255) (hen : es.length = en) (hec : en ≤ ec) (hE : Holds .u8 w.heap.size w (.slice ea en ec) es) (be : ∀ z ∈ es, 0 ≤ z ∧ z ≤ 255) (hcn : cs.length = cn) (hCS : Holds .i64 w.heap.size w (.slice ca cn cc) cs) (hF : Firsts w) :
    Calls Tryz.prog 4 #[.agg #[.int .i64 cq.cB, .int .i64 cq.cBeam, .int .i64 cq.cDepth, .int .i64 cq.cWin, .int .i64 cq.cQs, .int .i64 cq.cQr, .int .i64 cq.cBatch, .int .i64 cq.cPass, .int .i64 cq.cMsg, .int .i64 cq.cSeqs], .agg #[.int .i64 s, .int .i64 mk, .slice ta tn tc], .slice ea en ec, .slice ca cn cc] w fun e w' => e = .returned (.bool true) ∧ Below w.heap.size w w' := by
  have bb := (((Below.refl w.heap.size w).alloc (by first | exact Nat.le_refl _ | (simp; done) | (simp; omega)) (.cells #[.int .i64 cq.cB, .int .i64 cq.cBeam, .int .i64 cq.cDepth, .int .i64 cq.cWin, .int .i64 cq.cQs, .int .i64 cq.cQr, .int .i64 cq.cBatch, .int .i64 cq.cPass, .int .i64 cq.cMsg, .int .i64 cq.cSeqs] 23)).alloc (by first | exact Nat.le_refl _ | (simp; done) | (simp; omega)) (.cells #[.int .i64 s, .int .i64 mk, .slice ta tn tc] 26))
  have xC := ((Box.new w 23 #[.int .i64 cq.cB, .int .i64 cq.cBeam, .int .i64 cq.cDepth, .int .i64 cq.cWin, .int .i64 cq.cQs, .int .i64 cq.cQr, .int .i64 cq.cBatch, .int .i64 cq.cPass, .int .i64 cq.cMsg, .int .i64 cq.cSeqs]).alloc (.cells #[.int .i64 s, .int .i64 mk, .slice ta tn tc] 26))
  have xB := (Box.new (w.alloc (.cells #[.int .i64 cq.cB, .int .i64 cq.cBeam, .int .i64 cq.cDepth, .int .i64 cq.cWin, .int .i64 cq.cQs, .int .i64 cq.cQr, .int .i64 cq.cBatch, .int .i64 cq.cPass, .int .i64 cq.cMsg, .int .i64 cq.cSeqs] 23)) 26 #[.int .i64 s, .int .i64 mk, .slice ta tn tc])
  rw [show (w.alloc (.cells #[.int .i64 cq.cB, .int .i64 cq.cBeam, .int .i64 cq.cDepth, .int .i64 cq.cWin, .int .i64 cq.cQs, .int .i64 cq.cQr, .int .i64 cq.cBatch, .int .i64 cq.cPass, .int .i64 cq.cMsg, .int .i64 cq.cSeqs] 23)).heap.size = w.heap.size + 1 by simp] at xB
  go_enter Tryz.func4, Tryz.ntmps4
  have c0 := xC.cell 0 _ rfl
  have c1 := xC.cell 1 _ rfl
  have c2 := xC.cell 2 _ rfl
  have c3 := xC.cell 3 _ rfl
  have c4 := xC.cell 4 _ rfl
  have c5 := xC.cell 5 _ rfl
  have c6 := xC.cell 6 _ rfl
  have c7 := xC.cell 7 _ rfl
  have c8 := xC.cell 8 _ rfl
  have c9 := xC.cell 9 _ rfl
  have hltC := xC.lt
  go_wp2_with fail
  refine (small_any cq _).mono ?_
  rintro e w1 ⟨c, rfl, hSm, b9⟩
  replace xC := xC.next b9
  replace xB := xB.next b9
  replace bb := bb.trans (b9.mono bb.size)
  clear b9 hltC c0 c1 c2 c3 c4 c5 c6 c7 c8 c9
  have c0 := xC.cell 0 _ rfl
  have c1 := xC.cell 1 _ rfl
  have c2 := xC.cell 2 _ rfl
  have c3 := xC.cell 3 _ rfl
  have c4 := xC.cell 4 _ rfl
  have c5 := xC.cell 5 _ rfl
  have c6 := xC.cell 6 _ rfl
  have c7 := xC.cell 7 _ rfl
  have c8 := xC.cell 8 _ rfl
  have c9 := xC.cell 9 _ rfl
  have u0 := xC.free 0
  have u1 := xC.free 1
  have u2 := xC.free 2
  have u3 := xC.free 3
  have u4 := xC.free 4
  have u5 := xC.free 5
  have u6 := xC.free 6
  have u7 := xC.free 7
  have u8 := xC.free 8
  have u9 := xC.free 9
  have hltC := xC.lt
  go_upto_region 2 with fail
  clear c0 u0 c1 u1 c2 u2 c3 u3 c4 u4 c5 u5 c6 u6 c7 u7 c8 u8 c9 u9 hltC
  replace xB := ((((((((((xB.other (p := ⟨w.heap.size, 0, none⟩) (by simp) (.int .i64 c.cB)).other (p := ⟨w.heap.size, 1, none⟩) (by simp) (.int .i64 c.cBeam)).other (p := ⟨w.heap.size, 2, none⟩) (by simp) (.int .i64 c.cDepth)).other (p := ⟨w.heap.size, 3, none⟩) (by simp) (.int .i64 c.cWin)).other (p := ⟨w.heap.size, 4, none⟩) (by simp) (.int .i64 c.cQs)).other (p := ⟨w.heap.size, 5, none⟩) (by simp) (.int .i64 c.cQr)).other (p := ⟨w.heap.size, 6, none⟩) (by simp) (.int .i64 c.cBatch)).other (p := ⟨w.heap.size, 7, none⟩) (by simp) (.int .i64 c.cPass)).other (p := ⟨w.heap.size, 8, none⟩) (by simp) (.int .i64 c.cMsg)).other (p := ⟨w.heap.size, 9, none⟩) (by simp) (.int .i64 c.cSeqs))
  have q9 := ((((((((((xC.set 0 (.int .i64 c.cB)).set 1 (.int .i64 c.cBeam)).set 2 (.int .i64 c.cDepth)).set 3 (.int .i64 c.cWin)).set 4 (.int .i64 c.cQs)).set 5 (.int .i64 c.cQr)).set 6 (.int .i64 c.cBatch)).set 7 (.int .i64 c.cPass)).set 8 (.int .i64 c.cMsg)).set 9 (.int .i64 c.cSeqs))
  simp only [sn] at q9
  replace bb := ((((((((((bb.setCell (p := ⟨w.heap.size, 0, none⟩) (Nat.le_refl _) (.int .i64 c.cB)).setCell (p := ⟨w.heap.size, 1, none⟩) (Nat.le_refl _) (.int .i64 c.cBeam)).setCell (p := ⟨w.heap.size, 2, none⟩) (Nat.le_refl _) (.int .i64 c.cDepth)).setCell (p := ⟨w.heap.size, 3, none⟩) (Nat.le_refl _) (.int .i64 c.cWin)).setCell (p := ⟨w.heap.size, 4, none⟩) (Nat.le_refl _) (.int .i64 c.cQs)).setCell (p := ⟨w.heap.size, 5, none⟩) (Nat.le_refl _) (.int .i64 c.cQr)).setCell (p := ⟨w.heap.size, 6, none⟩) (Nat.le_refl _) (.int .i64 c.cBatch)).setCell (p := ⟨w.heap.size, 7, none⟩) (Nat.le_refl _) (.int .i64 c.cPass)).setCell (p := ⟨w.heap.size, 8, none⟩) (Nat.le_refl _) (.int .i64 c.cMsg)).setCell (p := ⟨w.heap.size, 9, none⟩) (Nat.le_refl _) (.int .i64 c.cSeqs))
  generalize ((((((((((w1.setCell ⟨w.heap.size, 0, none⟩ (.int .i64 c.cB)).setCell ⟨w.heap.size, 1, none⟩ (.int .i64 c.cBeam)).setCell ⟨w.heap.size, 2, none⟩ (.int .i64 c.cDepth)).setCell ⟨w.heap.size, 3, none⟩ (.int .i64 c.cWin)).setCell ⟨w.heap.size, 4, none⟩ (.int .i64 c.cQs)).setCell ⟨w.heap.size, 5, none⟩ (.int .i64 c.cQr)).setCell ⟨w.heap.size, 6, none⟩ (.int .i64 c.cBatch)).setCell ⟨w.heap.size, 7, none⟩ (.int .i64 c.cPass)).setCell ⟨w.heap.size, 8, none⟩ (.int .i64 c.cMsg)).setCell ⟨w.heap.size, 9, none⟩ (.int .i64 c.cSeqs)) = W2 at *
  clear xC
  have hC := hSm.ok
  have HC : Hid (okC c = true) := hC
  obtain ⟨S, hS⟩ : ∃ S, segsC c = S := ⟨_, rfl⟩
  obtain ⟨n1, hn1⟩ : ∃ n, W2.heap.size = n := ⟨_, rfl⟩
  have hltC : w.heap.size < n1 := hn1 ▸ q9.lt
  have k0 : Hid (W2.cell? ⟨w.heap.size, 0, none⟩ = some (.int .i64 c.cB)) := q9.cell 0 _ rfl
  have k1 : Hid (W2.cell? ⟨w.heap.size, 1, none⟩ = some (.int .i64 c.cBeam)) := q9.cell 1 _ rfl
  have k2 : Hid (W2.cell? ⟨w.heap.size, 2, none⟩ = some (.int .i64 c.cDepth)) := q9.cell 2 _ rfl
  have k3 : Hid (W2.cell? ⟨w.heap.size, 3, none⟩ = some (.int .i64 c.cWin)) := q9.cell 3 _ rfl
  have k4 : Hid (W2.cell? ⟨w.heap.size, 4, none⟩ = some (.int .i64 c.cQs)) := q9.cell 4 _ rfl
  have k5 : Hid (W2.cell? ⟨w.heap.size, 5, none⟩ = some (.int .i64 c.cQr)) := q9.cell 5 _ rfl
  have k6 : Hid (W2.cell? ⟨w.heap.size, 6, none⟩ = some (.int .i64 c.cBatch)) := q9.cell 6 _ rfl
  have k7 : Hid (W2.cell? ⟨w.heap.size, 7, none⟩ = some (.int .i64 c.cPass)) := q9.cell 7 _ rfl
  have k8 : Hid (W2.cell? ⟨w.heap.size, 8, none⟩ = some (.int .i64 c.cMsg)) := q9.cell 8 _ rfl
  have k9 : Hid (W2.cell? ⟨w.heap.size, 9, none⟩ = some (.int .i64 c.cSeqs)) := q9.cell 9 _ rfl
  have HSG : Hid (∀ wx : World, Below n1 W2 wx → Calls Tryz.prog 8 #[.agg #[.int .i64 c.cB, .int .i64 c.cBeam, .int .i64 c.cDepth, .int .i64 c.cWin, .int .i64 c.cQs, .int .i64 c.cQr, .int .i64 c.cBatch, .int .i64 c.cPass, .int .i64 c.cMsg, .int .i64 c.cSeqs]] wx fun e w' => e = .returned (.int .i64 S) ∧ Below n1 W2 w') := fun wx hx => by
    have := refSegs_any c hC wx
    rw [hS] at this
    exact this.mono fun e w' ⟨h, b⟩ => ⟨h, hx.trans (b.mono (hn1 ▸ hx.size))⟩
  have HLI : Hid (∀ wx : World, Below n1 W2 wx → Calls Tryz.prog 7 #[.int .i64 S, .int .i64 c.cBeam, .int .i64 c.cDepth] wx fun e w' => ∃ G, e = .returned (.bool G) ∧ Below n1 W2 w') := fun wx hx => (light_any S c.cBeam c.cDepth wx).mono fun e w' ⟨h, b⟩ => h.elim (fun h => ⟨true, h, b ▸ hx⟩) (fun h => ⟨false, h, b ▸ hx⟩)
  clear hS
  go_cut [42] (fun v wx => ∃ G : Bool, v = .bool G ∧ (G = false → en ≤ 64 ∧ cn ≤ 100) ∧ Box wx w.heap.size 23 #[.int .i64 c.cB, .int .i64 c.cBeam, .int .i64 c.cDepth, .int .i64 c.cWin, .int .i64 c.cQs, .int .i64 c.cQr, .int .i64 c.cBatch, .int .i64 c.cPass, .int .i64 c.cMsg, .int .i64 c.cSeqs] ∧ Box wx (w.heap.size + 1) 26 #[.int .i64 s, .int .i64 mk, .slice ta tn tc] ∧ Below w.heap.size w wx)
  case first =>
    by_cases hq0 : 64 < en
    · have dz0 : decide ((64 : Int) < (en : Int)) = true := decide_eq_true (by omega)
      have dn0 : decide (64 < en) = true := decide_eq_true hq0
      as_aux_lemma =>
        refine wp_region_held_drew (S := fun w' => Below n1 W2 w') (by kernel_rfl) ((hn1 ▸ (Below.refl _ _).drew)) (fun hHeld => ?_)
        refine ht 0 25 (v := ?v1) (fun _ hSw => ?y1) hHeld ?_
        case y1 => have q0 := hSw.at k0.out hltC; have q1 := hSw.at k1.out hltC; have q2 := hSw.at k2.out hltC; have q3 := hSw.at k3.out hltC; have q4 := hSw.at k4.out hltC; have q5 := hSw.at k5.out hltC; have q6 := hSw.at k6.out hltC; have q7 := hSw.at k7.out hltC; have q8 := hSw.at k8.out hltC; have q9 := hSw.at k9.out hltC; clear hSw; go_simp; with_reducible rfl
        simp only [sn]
        refine ht0 2 27 (v := ?v2) (fun _ => ?y2) hHeld ?_
        case y2 => go_simp; with_reducible rfl
        simp only [sn]
        refine ht 3 28 (v := ?v3) (fun _ hSw => ?y3) hHeld ?_
        case y3 => have q0 := hSw.at k1.out hltC; clear hSw; go_simp; with_reducible rfl
        simp only [sn]
        refine ht0 4 29 (v := ?v4) (fun _ => ?y4) hHeld ?_
        case y4 => go_simp; with_reducible rfl
        simp only [sn]
        refine ht 5 30 (v := ?v5) (fun _ hSw => ?y5) hHeld ?_
        case y5 => have q0 := hSw.at k2.out hltC; clear hSw; go_simp; with_reducible rfl
        simp only [sn]
        refine wpAnyH_ready (rs := [1]) (by kernel_rfl) (by simp) ?_
        refine AllReadyH.cons rfl (fun K hK => ?_) AllReadyH.nil
        go_simp
        go_wp2_with (go_at_call 8; refine (HSG.out _ (by exact hHeld)).mono ?_; rintro e wb ⟨rfl, b8⟩)
        refine hK.out _ _ (b8) (fun hHeld => ?_)
        clear hK K
        refine wpAnyH_ready (rs := [6]) (by kernel_rfl) (by simp) ?_
        refine AllReadyH.cons rfl (fun K hK => ?_) AllReadyH.nil
        go_simp
        go_wp2_with (go_at_call 7; refine (HLI.out _ (by exact hHeld)).mono ?_; rintro e wb ⟨G, rfl, b8⟩)
        cases G
        · refine hK.out _ _ (b8) (fun hHeld => ?_)
          clear hK K
          refine ht0 7 32 (v := ?v6) (fun _ => ?y6) hHeld ?_
          case y6 => go_simp; with_reducible rfl
          simp only [sn]
          refine ht0 8 33 (v := ?v7) (fun _ => ?y7) hHeld ?_
          case y7 => go_simp; with_reducible rfl
          simp only [sn]
          refine hu 9 34 hHeld ?_
          simp only [sn]
          refine hu 10 35 hHeld ?_
          simp only [sn]
          refine hu 11 36 hHeld ?_
          simp only [sn]
          refine ht0 12 37 (v := ?v8) (fun _ => ?y8) hHeld ?_
          case y8 => go_simp; with_reducible rfl
          simp only [sn]
          refine ht0 13 38 (v := ?v9) (fun _ => ?y9) hHeld ?_
          case y9 => go_simp; with_reducible rfl
          simp only [sn]
          refine hu 14 39 hHeld ?_
          simp only [sn]
          refine hu 15 40 hHeld ?_
          simp only [sn]
          refine hu 16 41 hHeld ?_
          simp only [sn]
          refine wpAnyH_ready (rs := [17]) (by kernel_rfl) (by simp) ?_
          refine AllReadyH.cons rfl (fun K hK => ?_) AllReadyH.nil
          go_simp
          refine hK.out _ _ hHeld (fun hHeld => ?_)
          clear hK K
          refine wpAnyH_done (by kernel_rfl) ?_ _
          go_wp2_with fail
          go_meet
          exact ⟨true, rfl, (fun e => by cases e), q9.next (hn1 ▸ hHeld), xB.next (hn1 ▸ hHeld), bb.trans ((hn1 ▸ hHeld : Below W2.heap.size W2 _).mono bb.size)⟩
        · refine hK.out _ _ (b8) (fun hHeld => ?_)
          clear hK K
          refine ht0 7 32 (v := ?v10) (fun _ => ?y10) hHeld ?_
          case y10 => go_simp; with_reducible rfl
          simp only [sn]
          refine ht0 8 33 (v := ?v11) (fun _ => ?y11) hHeld ?_
          case y11 => go_simp; with_reducible rfl
          simp only [sn]
          refine ht0 9 34 (v := ?v12) (fun _ => ?y12) hHeld ?_
          case y12 => go_simp; with_reducible rfl
          simp only [sn]
          refine ht0 10 35 (v := ?v13) (fun _ => ?y13) hHeld ?_
          case y13 => go_simp; with_reducible rfl
          simp only [sn]
          refine ht0 11 36 (v := ?v14) (fun _ => ?y14) hHeld ?_
          case y14 => go_simp; with_reducible rfl
          simp only [sn]
          refine ht0 12 37 (v := ?v15) (fun _ => ?y15) hHeld ?_
          case y15 => go_simp; with_reducible rfl
          simp only [sn]
          refine ht0 13 38 (v := ?v16) (fun _ => ?y16) hHeld ?_
          case y16 => go_simp; with_reducible rfl
          simp only [sn]
          refine hu 14 39 hHeld ?_
          simp only [sn]
          refine hu 15 40 hHeld ?_
          simp only [sn]
          refine hu 16 41 hHeld ?_
          simp only [sn]
          refine wpAnyH_ready (rs := [17]) (by kernel_rfl) (by simp) ?_
          refine AllReadyH.cons rfl (fun K hK => ?_) AllReadyH.nil
          go_simp
          refine hK.out _ _ hHeld (fun hHeld => ?_)
          clear hK K
          refine wpAnyH_done (by kernel_rfl) ?_ _
          go_wp2_with fail
          go_meet
          exact ⟨true, rfl, (fun e => by cases e), q9.next (hn1 ▸ hHeld), xB.next (hn1 ▸ hHeld), bb.trans ((hn1 ▸ hHeld : Below W2.heap.size W2 _).mono bb.size)⟩
    have dz0 : decide ((64 : Int) < (en : Int)) = false := decide_eq_false (by omega)
    have dn0 : decide (64 < en) = false := decide_eq_false hq0
    by_cases hq1 : 100 < cn
    · have dz1 : decide ((100 : Int) < (cn : Int)) = true := decide_eq_true (by omega)
      have dn1 : decide (100 < cn) = true := decide_eq_true hq1
      as_aux_lemma =>
        refine wp_region_held_drew (S := fun w' => Below n1 W2 w') (by kernel_rfl) ((hn1 ▸ (Below.refl _ _).drew)) (fun hHeld => ?_)
        refine ht 0 25 (v := ?v17) (fun _ hSw => ?y17) hHeld ?_
        case y17 => have q0 := hSw.at k0.out hltC; have q1 := hSw.at k1.out hltC; have q2 := hSw.at k2.out hltC; have q3 := hSw.at k3.out hltC; have q4 := hSw.at k4.out hltC; have q5 := hSw.at k5.out hltC; have q6 := hSw.at k6.out hltC; have q7 := hSw.at k7.out hltC; have q8 := hSw.at k8.out hltC; have q9 := hSw.at k9.out hltC; clear hSw; go_simp; with_reducible rfl
        simp only [sn]
        refine ht0 2 27 (v := ?v18) (fun _ => ?y18) hHeld ?_
        case y18 => go_simp; with_reducible rfl
        simp only [sn]
        refine ht 3 28 (v := ?v19) (fun _ hSw => ?y19) hHeld ?_
        case y19 => have q0 := hSw.at k1.out hltC; clear hSw; go_simp; with_reducible rfl
        simp only [sn]
        refine ht0 4 29 (v := ?v20) (fun _ => ?y20) hHeld ?_
        case y20 => go_simp; with_reducible rfl
        simp only [sn]
        refine ht 5 30 (v := ?v21) (fun _ hSw => ?y21) hHeld ?_
        case y21 => have q0 := hSw.at k2.out hltC; clear hSw; go_simp; with_reducible rfl
        simp only [sn]
        refine wpAnyH_ready (rs := [1]) (by kernel_rfl) (by simp) ?_
        refine AllReadyH.cons rfl (fun K hK => ?_) AllReadyH.nil
        go_simp
        go_wp2_with (go_at_call 8; refine (HSG.out _ (by exact hHeld)).mono ?_; rintro e wb ⟨rfl, b8⟩)
        refine hK.out _ _ (b8) (fun hHeld => ?_)
        clear hK K
        refine wpAnyH_ready (rs := [6]) (by kernel_rfl) (by simp) ?_
        refine AllReadyH.cons rfl (fun K hK => ?_) AllReadyH.nil
        go_simp
        go_wp2_with (go_at_call 7; refine (HLI.out _ (by exact hHeld)).mono ?_; rintro e wb ⟨G, rfl, b8⟩)
        cases G
        · refine hK.out _ _ (b8) (fun hHeld => ?_)
          clear hK K
          refine ht0 7 32 (v := ?v22) (fun _ => ?y22) hHeld ?_
          case y22 => go_simp; with_reducible rfl
          simp only [sn]
          refine ht0 8 33 (v := ?v23) (fun _ => ?y23) hHeld ?_
          case y23 => go_simp; with_reducible rfl
          simp only [sn]
          refine hu 9 34 hHeld ?_
          simp only [sn]
          refine hu 10 35 hHeld ?_
          simp only [sn]
          refine hu 11 36 hHeld ?_
          simp only [sn]
          refine ht0 12 37 (v := ?v24) (fun _ => ?y24) hHeld ?_
          case y24 => go_simp; with_reducible rfl
          simp only [sn]
          refine ht0 13 38 (v := ?v25) (fun _ => ?y25) hHeld ?_
          case y25 => go_simp; with_reducible rfl
          simp only [sn]
          refine hu 14 39 hHeld ?_
          simp only [sn]
          refine hu 15 40 hHeld ?_
          simp only [sn]
          refine hu 16 41 hHeld ?_
          simp only [sn]
          refine wpAnyH_ready (rs := [17]) (by kernel_rfl) (by simp) ?_
          refine AllReadyH.cons rfl (fun K hK => ?_) AllReadyH.nil
          go_simp
          refine hK.out _ _ hHeld (fun hHeld => ?_)
          clear hK K
          refine wpAnyH_done (by kernel_rfl) ?_ _
          go_wp2_with fail
          go_meet
          exact ⟨true, rfl, (fun e => by cases e), q9.next (hn1 ▸ hHeld), xB.next (hn1 ▸ hHeld), bb.trans ((hn1 ▸ hHeld : Below W2.heap.size W2 _).mono bb.size)⟩
        · refine hK.out _ _ (b8) (fun hHeld => ?_)
          clear hK K
          refine ht0 7 32 (v := ?v26) (fun _ => ?y26) hHeld ?_
          case y26 => go_simp; with_reducible rfl
          simp only [sn]
          refine ht0 8 33 (v := ?v27) (fun _ => ?y27) hHeld ?_
          case y27 => go_simp; with_reducible rfl
          simp only [sn]
          refine ht0 9 34 (v := ?v28) (fun _ => ?y28) hHeld ?_
          case y28 => go_simp; with_reducible rfl
          simp only [sn]
          refine ht0 10 35 (v := ?v29) (fun _ => ?y29) hHeld ?_
          case y29 => go_simp; with_reducible rfl
          simp only [sn]
          refine ht0 11 36 (v := ?v30) (fun _ => ?y30) hHeld ?_
          case y30 => go_simp; with_reducible rfl
          simp only [sn]
          refine ht0 12 37 (v := ?v31) (fun _ => ?y31) hHeld ?_
          case y31 => go_simp; with_reducible rfl
          simp only [sn]
          refine ht0 13 38 (v := ?v32) (fun _ => ?y32) hHeld ?_
          case y32 => go_simp; with_reducible rfl
          simp only [sn]
          refine ht0 14 39 (v := ?v33) (fun _ => ?y33) hHeld ?_
          case y33 => go_simp; with_reducible rfl
          simp only [sn]
          refine ht0 15 40 (v := ?v34) (fun _ => ?y34) hHeld ?_
          case y34 => go_simp; with_reducible rfl
          simp only [sn]
          refine ht0 16 41 (v := ?v35) (fun _ => ?y35) hHeld ?_
          case y35 => go_simp; with_reducible rfl
          simp only [sn]
          refine wpAnyH_ready (rs := [17]) (by kernel_rfl) (by simp) ?_
          refine AllReadyH.cons rfl (fun K hK => ?_) AllReadyH.nil
          go_simp
          refine hK.out _ _ hHeld (fun hHeld => ?_)
          clear hK K
          refine wpAnyH_done (by kernel_rfl) ?_ _
          go_wp2_with fail
          go_meet
          exact ⟨true, rfl, (fun e => by cases e), q9.next (hn1 ▸ hHeld), xB.next (hn1 ▸ hHeld), bb.trans ((hn1 ▸ hHeld : Below W2.heap.size W2 _).mono bb.size)⟩
    have dz1 : decide ((100 : Int) < (cn : Int)) = false := decide_eq_false (by omega)
    have dn1 : decide (100 < cn) = false := decide_eq_false hq1
    have hKP : en ≤ 64 ∧ cn ≤ 100 := by omega
    as_aux_lemma =>
      refine wp_region_held_drew (S := fun w' => Below n1 W2 w') (by kernel_rfl) ((hn1 ▸ (Below.refl _ _).drew)) (fun hHeld => ?_)
      refine ht 0 25 (v := ?v36) (fun _ hSw => ?y36) hHeld ?_
      case y36 => have q0 := hSw.at k0.out hltC; have q1 := hSw.at k1.out hltC; have q2 := hSw.at k2.out hltC; have q3 := hSw.at k3.out hltC; have q4 := hSw.at k4.out hltC; have q5 := hSw.at k5.out hltC; have q6 := hSw.at k6.out hltC; have q7 := hSw.at k7.out hltC; have q8 := hSw.at k8.out hltC; have q9 := hSw.at k9.out hltC; clear hSw; go_simp; with_reducible rfl
      simp only [sn]
      refine ht0 2 27 (v := ?v37) (fun _ => ?y37) hHeld ?_
      case y37 => go_simp; with_reducible rfl
      simp only [sn]
      refine ht 3 28 (v := ?v38) (fun _ hSw => ?y38) hHeld ?_
      case y38 => have q0 := hSw.at k1.out hltC; clear hSw; go_simp; with_reducible rfl
      simp only [sn]
      refine ht0 4 29 (v := ?v39) (fun _ => ?y39) hHeld ?_
      case y39 => go_simp; with_reducible rfl
      simp only [sn]
      refine ht 5 30 (v := ?v40) (fun _ hSw => ?y40) hHeld ?_
      case y40 => have q0 := hSw.at k2.out hltC; clear hSw; go_simp; with_reducible rfl
      simp only [sn]
      refine wpAnyH_ready (rs := [1]) (by kernel_rfl) (by simp) ?_
      refine AllReadyH.cons rfl (fun K hK => ?_) AllReadyH.nil
      go_simp
      go_wp2_with (go_at_call 8; refine (HSG.out _ (by exact hHeld)).mono ?_; rintro e wb ⟨rfl, b8⟩)
      refine hK.out _ _ (b8) (fun hHeld => ?_)
      clear hK K
      refine wpAnyH_ready (rs := [6]) (by kernel_rfl) (by simp) ?_
      refine AllReadyH.cons rfl (fun K hK => ?_) AllReadyH.nil
      go_simp
      go_wp2_with (go_at_call 7; refine (HLI.out _ (by exact hHeld)).mono ?_; rintro e wb ⟨G, rfl, b8⟩)
      cases G
      · refine hK.out _ _ (b8) (fun hHeld => ?_)
        clear hK K
        refine ht0 7 32 (v := ?v41) (fun _ => ?y41) hHeld ?_
        case y41 => go_simp; with_reducible rfl
        simp only [sn]
        refine ht0 8 33 (v := ?v42) (fun _ => ?y42) hHeld ?_
        case y42 => go_simp; with_reducible rfl
        simp only [sn]
        refine hu 9 34 hHeld ?_
        simp only [sn]
        refine hu 10 35 hHeld ?_
        simp only [sn]
        refine hu 11 36 hHeld ?_
        simp only [sn]
        refine ht0 12 37 (v := ?v43) (fun _ => ?y43) hHeld ?_
        case y43 => go_simp; with_reducible rfl
        simp only [sn]
        refine ht0 13 38 (v := ?v44) (fun _ => ?y44) hHeld ?_
        case y44 => go_simp; with_reducible rfl
        simp only [sn]
        refine hu 14 39 hHeld ?_
        simp only [sn]
        refine hu 15 40 hHeld ?_
        simp only [sn]
        refine hu 16 41 hHeld ?_
        simp only [sn]
        refine wpAnyH_ready (rs := [17]) (by kernel_rfl) (by simp) ?_
        refine AllReadyH.cons rfl (fun K hK => ?_) AllReadyH.nil
        go_simp
        refine hK.out _ _ hHeld (fun hHeld => ?_)
        clear hK K
        refine wpAnyH_done (by kernel_rfl) ?_ _
        go_wp2_with fail
        go_meet
        exact ⟨true, rfl, (fun e => by cases e), q9.next (hn1 ▸ hHeld), xB.next (hn1 ▸ hHeld), bb.trans ((hn1 ▸ hHeld : Below W2.heap.size W2 _).mono bb.size)⟩
      · refine hK.out _ _ (b8) (fun hHeld => ?_)
        clear hK K
        refine ht0 7 32 (v := ?v45) (fun _ => ?y45) hHeld ?_
        case y45 => go_simp; with_reducible rfl
        simp only [sn]
        refine ht0 8 33 (v := ?v46) (fun _ => ?y46) hHeld ?_
        case y46 => go_simp; with_reducible rfl
        simp only [sn]
        refine ht0 9 34 (v := ?v47) (fun _ => ?y47) hHeld ?_
        case y47 => go_simp; with_reducible rfl
        simp only [sn]
        refine ht0 10 35 (v := ?v48) (fun _ => ?y48) hHeld ?_
        case y48 => go_simp; with_reducible rfl
        simp only [sn]
        refine ht0 11 36 (v := ?v49) (fun _ => ?y49) hHeld ?_
        case y49 => go_simp; with_reducible rfl
        simp only [sn]
        refine ht0 12 37 (v := ?v50) (fun _ => ?y50) hHeld ?_
        case y50 => go_simp; with_reducible rfl
        simp only [sn]
        refine ht0 13 38 (v := ?v51) (fun _ => ?y51) hHeld ?_
        case y51 => go_simp; with_reducible rfl
        simp only [sn]
        refine ht0 14 39 (v := ?v52) (fun _ => ?y52) hHeld ?_
        case y52 => go_simp; with_reducible rfl
        simp only [sn]
        refine ht0 15 40 (v := ?v53) (fun _ => ?y53) hHeld ?_
        case y53 => go_simp; with_reducible rfl
        simp only [sn]
        refine ht0 16 41 (v := ?v54) (fun _ => ?y54) hHeld ?_
        case y54 => go_simp; with_reducible rfl
        simp only [sn]
        refine wpAnyH_ready (rs := [17]) (by kernel_rfl) (by simp) ?_
        refine AllReadyH.cons rfl (fun K hK => ?_) AllReadyH.nil
        go_simp
        refine hK.out _ _ hHeld (fun hHeld => ?_)
        clear hK K
        refine wpAnyH_done (by kernel_rfl) ?_ _
        go_wp2_with fail
        go_meet
        exact ⟨false, rfl, (fun _ => hKP), q9.next (hn1 ▸ hHeld), xB.next (hn1 ▸ hHeld), bb.trans ((hn1 ▸ hHeld : Below W2.heap.size W2 _).mono bb.size)⟩
  case rest =>
    clear q9 bb hn1 hltC HSG HLI xB k0 k1 k2 k3 k4 k5 k6 k7 k8 k9
    obtain ⟨G, rfl, hG0, xC, xB, bb⟩ := hcut
    generalize wc = w2 at *
    cases G with
    | true =>
      go_wp2
      go_ret
      exact ⟨rfl, bb⟩
    | false =>
      have hKP := hG0 rfl
      clear hG0 hC S
      have HE : Hid (Holds .u8 w.heap.size w (.slice ea en ec) es) := hE
      have HEN : Hid (es.length = en) := hen
      have HBE : Hid (∀ z ∈ es, 0 ≤ z ∧ z ≤ 255) := be
      have HCS : Hid (Holds .i64 w.heap.size w (.slice ca cn cc) cs) := hCS
      have HCN : Hid (cs.length = cn) := hcn
      have HLE : Hid (en ≤ 64 ∧ cn ≤ 100) := hKP
      clear hE hen be hCS hcn hKP
      have HTX : Hid (Holds .u8 w.heap.size w (.slice ta tn tc) ts) := hT
      have HTN : Hid (ts.length = tn) := htn
      have HBT : Hid (∀ z ∈ ts, 0 ≤ z ∧ z ≤ 255) := bt
      have HF0 : Hid (Firsts w) := hF
      have HSM : Hid (SmallC c) := hSm
      clear hT htn bt hF hSm
      have lxC := xC.lt
      have lxB := xB.lt
      have cxC0 := xC.cell 0 _ rfl
      have cxC1 := xC.cell 1 _ rfl
      have cxC2 := xC.cell 2 _ rfl
      have cxC3 := xC.cell 3 _ rfl
      have cxC4 := xC.cell 4 _ rfl
      have cxC5 := xC.cell 5 _ rfl
      have cxC6 := xC.cell 6 _ rfl
      have cxC7 := xC.cell 7 _ rfl
      have cxC8 := xC.cell 8 _ rfl
      have cxC9 := xC.cell 9 _ rfl
      have cxB0 := xB.cell 0 _ rfl
      have cxB1 := xB.cell 1 _ rfl
      have cxB2 := xB.cell 2 _ rfl
      go_wp2_with fail
      refine (makeV c HC.out s mk ta tn tc ts HTN.out HBT.out _ ((HTX.out).next bb)).mono ?_
      rintro e w3 ⟨hM, b9⟩
      clear cxC0 cxC1 cxC2 cxC3 cxC4 cxC5 cxC6 cxC7 cxC8 cxC9
      clear cxB0 cxB1 cxB2
      replace xC := xC.next b9
      replace xB := xB.next b9
      replace bb := bb.trans (b9.mono bb.size)
      clear b9
      clear lxC lxB
      rcases hM with ⟨E, rfl, hE⟩ | ⟨xa, xn, xc, zs, rfl, hX, oX⟩
      · have dE : (E != 0) = true := by rw [bne_iff_ne]; exact hE.out
        clear hE
        go_wp2_with fail
        refine (hearWakes_any _ (HF0.out.next bb)).mono ?_
        rintro e w99 ⟨rfl, b99⟩
        go_wp2
        go_ret
        exact ⟨rfl, bb.trans (b99.mono bb.size)⟩
      have HXB : Hid (XB c s zs xn) := hX
      replace oX : OwnB1 xa xn xc zs _ _ := oX
      clear hX
      have lxC := xC.lt
      have lxB := xB.lt
      have cxC0 := xC.cell 0 _ rfl
      have cxC1 := xC.cell 1 _ rfl
      have cxC2 := xC.cell 2 _ rfl
      have cxC3 := xC.cell 3 _ rfl
      have cxC4 := xC.cell 4 _ rfl
      have cxC5 := xC.cell 5 _ rfl
      have cxC6 := xC.cell 6 _ rfl
      have cxC7 := xC.cell 7 _ rfl
      have cxC8 := xC.cell 8 _ rfl
      have cxC9 := xC.cell 9 _ rfl
      have cxB0 := xB.cell 0 _ rfl
      have cxB1 := xB.cell 1 _ rfl
      have cxB2 := xB.cell 2 _ rfl
      go_wp2_with fail
      refine (newV c HC.out s HXB.out.hs.1 _).mono ?_
      rintro e w4 ⟨N0, P0, a0, cap0, b0, bc0, rfl, h9, b9⟩
      clear cxC0 cxC1 cxC2 cxC3 cxC4 cxC5 cxC6 cxC7 cxC8 cxC9
      clear cxB0 cxB1 cxB2
      replace xC := xC.next b9
      replace xB := xB.next b9
      replace oX := oX.next b9
      replace bb := bb.trans (b9.mono bb.size)
      clear b9
      clear lxC lxB
      have HW3 : Hid (w.heap.size + 1 < w4.heap.size) := xB.lt
      have HXBn : Hid (∀ B, w4.heap.size = B → (Value.slice xa xn xc).ownBlock ≠ some B) := fun B hB e => by have := (World.ownsRow.lt oX _ e).2; omega
      have b9 : Below w4.heap.size w4 (w4.alloc (.cells #[.int .i64 s, .int .i64 (-1), .int .i64 N0, .int .i64 P0, .slice a0 0 cap0, .bool false, .slice b0 0 bc0] 39)) := (Below.refl _ _).alloc (Nat.le_refl _) _
      have x9 := Box.new w4 39 #[.int .i64 s, .int .i64 (-1), .int .i64 N0, .int .i64 P0, .slice a0 0 cap0, .bool false, .slice b0 0 bc0]
      replace xC := xC.next b9
      replace xB := xB.next b9
      replace oX := oX.next b9
      replace h9 := h9.next b9
      replace bb := bb.trans (b9.mono bb.size)
      clear b9
      go_upto_region 8 with fail
      obtain ⟨B9, hB9⟩ : ∃ B, w4.heap.size = B := ⟨_, rfl⟩
      have HXB9 : Hid ((Value.slice xa xn xc).ownBlock ≠ some B9) := HXBn.out _ hB9
      have HW9 : Hid (w.heap.size + 1 < B9) := by have := HW3.out; rw [hB9] at this; exact this
      rw [hB9] at x9 ⊢
      clear hB9
      generalize w4.alloc (.cells #[.int .i64 s, .int .i64 (-1), .int .i64 N0, .int .i64 P0, .slice a0 0 cap0, .bool false, .slice b0 0 bc0] 39) = w5 at *
      clear HW3
      clear HXBn
      go_upto_if 69 with fail
      go_cut [8] (fun _ wx => ∃ (h : Hr) (R N P : Int) (a : Option Addr) (n cap : Nat) (D : Bool) (b : Option Addr) (m bc : Nat), Box wx B9 39 #[.int .i64 s, .int .i64 R, .int .i64 N, .int .i64 P, .slice a n cap, .bool D, .slice b m bc] ∧ At7 0 wx h s R N P a n cap D b m bc ∧ (okH c h ∧ h.hD = false ∧ h.hR ≠ 8) ∧ Box wx w.heap.size 23 #[.int .i64 c.cB, .int .i64 c.cBeam, .int .i64 c.cDepth, .int .i64 c.cWin, .int .i64 c.cQs, .int .i64 c.cQr, .int .i64 c.cBatch, .int .i64 c.cPass, .int .i64 c.cMsg, .int .i64 c.cSeqs] ∧ Box wx (w.heap.size + 1) 26 #[.int .i64 s, .int .i64 mk, .slice ta tn tc] ∧ OwnB1 xa xn xc zs 0 wx ∧ Below w.heap.size w wx)
      case first =>
        by_cases h0 : 0 < en
        · as_aux_lemma =>
            have d0 : decide ((0 : Int) < (en : Int)) = true := decide_eq_true (by omega)
            have d0n : decide (0 < en) = true := decide_eq_true h0
            have HR1 : Hid (RightD s 7 0 es) := (⟨HXB.out.hs, by decide, by decide, by have h1 := HEN.out; omega, by have h1 := HEN.out; have h2 := HLE.out; omega⟩ : RightD s 7 0 es)
            have HB9 : Hid (B9 < w5.heap.size) := x9.lt
            have lxC := xC.lt
            have lx9 := x9.lt
            have lxB := xB.lt
            have cxC0 := xC.cell 0 _ rfl
            have cxC1 := xC.cell 1 _ rfl
            have cxC2 := xC.cell 2 _ rfl
            have cxC3 := xC.cell 3 _ rfl
            have cxC4 := xC.cell 4 _ rfl
            have cxC5 := xC.cell 5 _ rfl
            have cxC6 := xC.cell 6 _ rfl
            have cxC7 := xC.cell 7 _ rfl
            have cxC8 := xC.cell 8 _ rfl
            have cxC9 := xC.cell 9 _ rfl
            have cx90 := x9.cell 0 _ rfl
            have cx91 := x9.cell 1 _ rfl
            have cx92 := x9.cell 2 _ rfl
            have cx93 := x9.cell 3 _ rfl
            have cx94 := x9.cell 4 _ rfl
            have cx95 := x9.cell 5 _ rfl
            have cx96 := x9.cell 6 _ rfl
            have cxB0 := xB.cell 0 _ rfl
            have cxB1 := xB.cell 1 _ rfl
            have cxB2 := xB.cell 2 _ rfl
            go_wp2_with fail
            refine (takeV c HC.out _ (newH_ok HC.out HXB.out.hs.1) 7 0 es ea en ec HEN.out _ h9 HR1.out ((HE.out).next bb) hec HBE.out (HF0.out.next bb)).mono ?_
            rintro e w6 ⟨R2, N2, P2, a2, n2, cap2, D2, b2, m2, bc2, i2, g, rfl, hT2, hkg, h2, b9⟩
            clear cxC0 cxC1 cxC2 cxC3 cxC4 cxC5 cxC6 cxC7 cxC8 cxC9
            clear cx90 cx91 cx92 cx93 cx94 cx95 cx96
            clear cxB0 cxB1 cxB2
            replace xC := xC.next b9
            replace xB := xB.next b9
            replace oX := oX.next b9
            replace h9 := h9.next b9
            replace x9 := x9.next b9
            replace bb := bb.trans (b9.mono bb.size)
            clear b9
            clear lxC lx9 lxB
            have b9 : Below w6.heap.size w6 (w6.alloc (.cells #[.int .i64 s, .int .i64 R2, .int .i64 N2, .int .i64 P2, .slice a2 n2 cap2, .bool D2, .slice b2 m2 bc2] 39)) := (Below.refl _ _).alloc (Nat.le_refl _) _
            have x12 := Box.new w6 39 #[.int .i64 s, .int .i64 R2, .int .i64 N2, .int .i64 P2, .slice a2 n2 cap2, .bool D2, .slice b2 m2 bc2]
            replace xC := xC.next b9
            replace xB := xB.next b9
            replace oX := oX.next b9
            replace h9 := h9.next b9
            replace x9 := x9.next b9
            replace h2 := h2.next b9
            replace bb := bb.trans (b9.mono bb.size)
            clear b9
            go_upto_region 12 with fail
            obtain ⟨B12, hB12⟩ : ∃ B, w6.heap.size = B := ⟨_, rfl⟩
            rw [hB12] at x12 ⊢
            clear hB12
            generalize w6.alloc (.cells #[.int .i64 s, .int .i64 R2, .int .i64 N2, .int .i64 P2, .slice a2 n2 cap2, .bool D2, .slice b2 m2 bc2] 39) = w7 at *
            rcases takeH_cases hT2.out with ⟨q1, _⟩ | ⟨_, q2, q3, _⟩ | ⟨_, q3, _⟩
            · cases q1
            · subst q3
              have HGF : Hid (g.hD = false ∧ g.hR ≠ 8) := by rw [q2]; exact ⟨rfl, by show (7 : Int) ≠ 8; decide⟩
              clear q2 hT2
              have cx120 := x12.cell 0 _ rfl
              have cx121 := x12.cell 1 _ rfl
              have cx122 := x12.cell 2 _ rfl
              have cx123 := x12.cell 3 _ rfl
              have cx124 := x12.cell 4 _ rfl
              have cx125 := x12.cell 5 _ rfl
              have cx126 := x12.cell 6 _ rfl
              have cx90 := x9.cell 0 _ rfl
              have cx91 := x9.cell 1 _ rfl
              have cx92 := x9.cell 2 _ rfl
              have cx93 := x9.cell 3 _ rfl
              have cx94 := x9.cell 4 _ rfl
              have cx95 := x9.cell 5 _ rfl
              have cx96 := x9.cell 6 _ rfl
              have u90 := x9.free 0
              have u91 := x9.free 1
              have u92 := x9.free 2
              have u93 := x9.free 3
              have u94 := x9.free 4
              have u95 := x9.free 5
              have u96 := x9.free 6
              have l12 := x12.lt
              have l9 := x9.lt
              go_wp2_with fail
              go_meet
              exact ⟨g, R2, N2, P2, a2, n2, cap2, D2, b2, m2, bc2, x9.set7c (.int .i64 s) (.int .i64 R2) (.int .i64 N2) (.int .i64 P2) (.slice a2 n2 cap2) (.bool D2) (.slice b2 m2 bc2), (h2.store HB9.out (.int .i64 s) (.int .i64 R2) (.int .i64 N2) (.int .i64 P2) (.slice a2 n2 cap2) (.bool D2) (.slice b2 m2 bc2)).base (Nat.zero_le _), ⟨hkg, HGF.out⟩, xC.other7c (by have := HW9.out; omega) (.int .i64 s) (.int .i64 R2) (.int .i64 N2) (.int .i64 P2) (.slice a2 n2 cap2) (.bool D2) (.slice b2 m2 bc2), xB.other7c (by have := HW9.out; omega) (.int .i64 s) (.int .i64 R2) (.int .i64 N2) (.int .i64 P2) (.slice a2 n2 cap2) (.bool D2) (.slice b2 m2 bc2), (show OwnB1 xa xn xc zs 0 _ from row_base oX (Nat.zero_le _)).store HXB9.out (.int .i64 s) (.int .i64 R2) (.int .i64 N2) (.int .i64 P2) (.slice a2 n2 cap2) (.bool D2) (.slice b2 m2 bc2), below_set7c bb (by have := HW9.out; omega) (.int .i64 s) (.int .i64 R2) (.int .i64 N2) (.int .i64 P2) (.slice a2 n2 cap2) (.bool D2) (.slice b2 m2 bc2)⟩
            · subst q3
              clear hT2
              go_wp2_with fail
              refine (hearWakes_any _ (HF0.out.next bb)).mono ?_
              rintro e w99 ⟨rfl, b99⟩
              go_wp2
              go_ret
              exact ⟨rfl, bb.trans (b99.mono bb.size)⟩
        · have d0 : decide ((0 : Int) < (en : Int)) = false := decide_eq_false (by omega)
          have d0n : decide (0 < en) = false := decide_eq_false h0
          go_wp2_with fail
          go_meet
          exact ⟨newH c s, -1, N0, P0, a0, 0, cap0, false, b0, 0, bc0, x9, h9.base (Nat.zero_le _), ⟨newH_ok HC.out HXB.out.hs.1, rfl, by show (-1 : Int) ≠ 8; decide⟩, xC, xB, row_base oX (Nat.zero_le _), bb⟩
      case rest =>
        as_aux_lemma =>
          clear x9 h9 xC xB oX bb
          obtain ⟨h0, R0, N1, P1, a1, n1, cap1, D1, b1, m1, bc1, x9, h9, ⟨hk0, hd0, hr0⟩, xC, xB, oX, bb⟩ := hcut
          have HD0 : Hid (h0.hD = false ∧ h0.hR ≠ 8) := ⟨hd0, hr0⟩
          clear hd0 hr0
          generalize hwc : wc = w10 at *
          clear hwc
          have hsg := small_segs HSM.out
          have hfm := four_most HSM.out
          obtain ⟨n4, hn4⟩ : ∃ n : Nat, 4 * segsC c = (n : Int) := ⟨(4 * segsC c).toNat, (Int.toNat_of_nonneg (by omega)).symm⟩
          have HN4 : Hid (4 * segsC c = (n4 : Int)) := hn4
          have q4 : IntKind.i64.wrap (4 * segsC c) = (n4 : Int) := by rw [IntKind.wrap_i64]; omega
          have HM4 : Hid ((n4 : Int) ≤ mostC c) := (by omega : (n4 : Int) ≤ mostC c)
          have hn9 : n4 ≤ 104 := by omega
          have HRS := segsV c HC.out
          obtain ⟨SS, hSS⟩ : ∃ S, segsC c = S := ⟨_, rfl⟩
          rw [hSS] at HRS q4
          have HPB : Hid (1 ≤ c.cBatch ∧ c.cBatch ≤ 64) := by have h1 := HSM.out; unfold SmallC at h1; exact h1.2.2.2.2.2.2.1
          clear hSS hsg hfm hn4
          have lxC := xC.lt
          have cxC0 := xC.cell 0 _ rfl
          have cxC1 := xC.cell 1 _ rfl
          have cxC2 := xC.cell 2 _ rfl
          have cxC3 := xC.cell 3 _ rfl
          have cxC4 := xC.cell 4 _ rfl
          have cxC5 := xC.cell 5 _ rfl
          have cxC6 := xC.cell 6 _ rfl
          have cxC7 := xC.cell 7 _ rfl
          have cxC8 := xC.cell 8 _ rfl
          have cxC9 := xC.cell 9 _ rfl
          go_wp2_with fail
          refine (HRS _).mono ?_
          rintro e w11 ⟨rfl, b9⟩
          clear cxC0 cxC1 cxC2 cxC3 cxC4 cxC5 cxC6 cxC7 cxC8 cxC9
          replace x9 := x9.next b9
          replace h9 := h9.next b9
          replace xC := xC.next b9
          replace xB := xB.next b9
          replace oX := oX.next b9
          replace bb := bb.trans (b9.mono bb.size)
          clear b9
          clear lxC
          clear HRS
          go_wp2
          obtain ⟨W5, hW5⟩ : ∃ W, w11 = W := ⟨_, rfl⟩
          rw [hW5] at xC xB x9 h9 oX bb ⊢
          clear hW5
          go_loopw [16, 17] (fun v16 v17 wr => ∃ (k i : Nat), ∃ (h : Hr) (R N P : Int) (a : Option Addr) (n cap : Nat) (D : Bool) (b : Option Addr) (m bc : Nat), (k ≤ n4 ∧ i ≤ k) ∧ v16 = .int .i64 (k : Int) ∧ v17 = .int .i64 (i : Int) ∧ Box wr B9 39 #[.int .i64 s, .int .i64 R, .int .i64 N, .int .i64 P, .slice a n cap, .bool D, .slice b m bc] ∧ At7 0 wr h s R N P a n cap D b m bc ∧ (okH c h ∧ Along zs 8 k h ∧ (n4 ≤ k → h.hD = true)) ∧ Box wr w.heap.size 23 #[.int .i64 c.cB, .int .i64 c.cBeam, .int .i64 c.cDepth, .int .i64 c.cWin, .int .i64 c.cQs, .int .i64 c.cQr, .int .i64 c.cBatch, .int .i64 c.cPass, .int .i64 c.cMsg, .int .i64 c.cSeqs] ∧ Box wr (w.heap.size + 1) 26 #[.int .i64 s, .int .i64 mk, .slice ta tn tc] ∧ OwnB1 xa xn xc zs 0 wr ∧ Below w.heap.size w wr) (fun v16 _ _ => n4 - (intOf v16).toNat)
          case atStart => exact ⟨0, 0, h0, R0, N1, P1, a1, n1, cap1, D1, b1, m1, bc1, ⟨Nat.zero_le _, Nat.zero_le _⟩, rfl, rfl, x9, h9, ⟨hk0, along_new HD0.out.1 (fun e => HD0.out.2 e.symm), fun e => by have := HN4.out; have := small_segs HSM.out; omega⟩, xC, xB, oX, bb⟩
          case round =>
            clear x9 h9 xC xB oX bb hk0
            obtain ⟨k, i, h, R, N, P, a, n, cap, D, b, m, bc, ⟨hk4, hik⟩, rfl, rfl, x9, h9, ⟨hk, hAl, hDn⟩, xC, xB, oX, bb⟩ := hrel
            generalize wr = w20 at *
            have HAL : Hid (Along zs 8 k h) := hAl
            have HDN : Hid (n4 ≤ k → h.hD = true) := hDn
            clear hAl hDn
            by_cases hlt : k < n4
            · have dlt : decide ((k : Int) < (n4 : Int)) = true := decide_eq_true (by omega)
              have dltn : decide (k < n4) = true := decide_eq_true hlt
              obtain ⟨Dq, hDq⟩ : ∃ B, h.hD = B := ⟨_, rfl⟩
              cases Dq with
              | true =>
                have hd : h.hD = true := hDq
                clear hDq
                as_aux_lemma =>
                  have hB : h.hB = zs := HAL.out.elim (fun h1 => h1.2) (fun h1 => by rw [hd] at h1; cases h1.1)
                  have eD : true = D := by rw [← h9.eD, hd]
                  subst eD
                  have HHB : Hid (h.hB = zs) := hB
                  clear hd hB
                  have lx9 := x9.lt
                  have cx90 := x9.cell 0 _ rfl
                  have cx91 := x9.cell 1 _ rfl
                  have cx92 := x9.cell 2 _ rfl
                  have cx93 := x9.cell 3 _ rfl
                  have cx94 := x9.cell 4 _ rfl
                  have cx95 := x9.cell 5 _ rfl
                  have cx96 := x9.cell 6 _ rfl
                  go_wp2_with fail
                  refine (bytesV h HXB.out HHB.out xa xc _ h9 HC.out oX.holds).mono ?_
                  rintro e w21 ⟨rfl, b9⟩
                  clear cx90 cx91 cx92 cx93 cx94 cx95 cx96
                  replace x9 := x9.next b9
                  replace h9 := h9.next b9
                  replace xC := xC.next b9
                  replace xB := xB.next b9
                  replace oX := oX.next b9
                  replace bb := bb.trans (b9.mono bb.size)
                  clear b9
                  clear lx9
                  clear HHB
                  go_wp2_with fail
                  refine (hearWakes_any _ (HF0.out.next bb)).mono ?_
                  rintro e w99 ⟨rfl, b99⟩
                  go_wp2
                  go_ret
                  exact ⟨rfl, bb.trans (b99.mono bb.size)⟩
              | false =>
                as_aux_lemma =>
                  have eD : false = D := by rw [← h9.eD, hDq]
                  subst eD
                  clear hDq
                  have q1 : IntKind.i64.wrap ((n4 : Int) - (k : Int)) = (n4 : Int) - (k : Int) := by rw [IntKind.wrap_i64]; omega
                  have qi : IntKind.i64.wrap ((i : Int) + 1) = ((i + 1 : Nat) : Int) := by rw [IntKind.wrap_i64]; omega
                  have hpb := HPB.out
                  have cx90 := x9.cell 0 _ rfl
                  have cx91 := x9.cell 1 _ rfl
                  have cx92 := x9.cell 2 _ rfl
                  have cx93 := x9.cell 3 _ rfl
                  have cx94 := x9.cell 4 _ rfl
                  have cx95 := x9.cell 5 _ rfl
                  have cx96 := x9.cell 6 _ rfl
                  have cxC0 := xC.cell 0 _ rfl
                  have cxC1 := xC.cell 1 _ rfl
                  have cxC2 := xC.cell 2 _ rfl
                  have cxC3 := xC.cell 3 _ rfl
                  have cxC4 := xC.cell 4 _ rfl
                  have cxC5 := xC.cell 5 _ rfl
                  have cxC6 := xC.cell 6 _ rfl
                  have cxC7 := xC.cell 7 _ rfl
                  have cxC8 := xC.cell 8 _ rfl
                  have cxC9 := xC.cell 9 _ rfl
                  have l9 := x9.lt
                  have lC := xC.lt
                  go_upto_if 108 with fail
                  clear cx90 cx91 cx92 cx93 cx94 cx95 cx96
                  clear cxC0 cxC1 cxC2 cxC3 cxC4 cxC5 cxC6 cxC7 cxC8 cxC9
                  clear l9 lC
                  obtain ⟨nq1, hnq1⟩ : ∃ n, w20.heap.size = n := ⟨_, rfl⟩
                  have hl_xC : w.heap.size < nq1 := hnq1 ▸ xC.lt
                  have m_xC0 : Hid (w20.cell? ⟨w.heap.size, 0, none⟩ = some (.int .i64 c.cB)) := xC.cell 0 _ rfl
                  have m_xC1 : Hid (w20.cell? ⟨w.heap.size, 1, none⟩ = some (.int .i64 c.cBeam)) := xC.cell 1 _ rfl
                  have m_xC2 : Hid (w20.cell? ⟨w.heap.size, 2, none⟩ = some (.int .i64 c.cDepth)) := xC.cell 2 _ rfl
                  have m_xC3 : Hid (w20.cell? ⟨w.heap.size, 3, none⟩ = some (.int .i64 c.cWin)) := xC.cell 3 _ rfl
                  have m_xC4 : Hid (w20.cell? ⟨w.heap.size, 4, none⟩ = some (.int .i64 c.cQs)) := xC.cell 4 _ rfl
                  have m_xC5 : Hid (w20.cell? ⟨w.heap.size, 5, none⟩ = some (.int .i64 c.cQr)) := xC.cell 5 _ rfl
                  have m_xC6 : Hid (w20.cell? ⟨w.heap.size, 6, none⟩ = some (.int .i64 c.cBatch)) := xC.cell 6 _ rfl
                  have m_xC7 : Hid (w20.cell? ⟨w.heap.size, 7, none⟩ = some (.int .i64 c.cPass)) := xC.cell 7 _ rfl
                  have m_xC8 : Hid (w20.cell? ⟨w.heap.size, 8, none⟩ = some (.int .i64 c.cMsg)) := xC.cell 8 _ rfl
                  have m_xC9 : Hid (w20.cell? ⟨w.heap.size, 9, none⟩ = some (.int .i64 c.cSeqs)) := xC.cell 9 _ rfl
                  go_cut [18] (fun v wx => ∃ J : Nat, v = .int .i64 (J : Int) ∧ (1 ≤ J ∧ J ≤ 64 ∧ k + J ≤ n4) ∧ Below nq1 w20 wx)
                  case first =>
                    by_cases hif : i < cn
                    · have dif : decide ((i : Int) < (cn : Int)) = true := decide_eq_true (by omega)
                      have difn : decide (i < cn) = true := decide_eq_true hif
                      obtain ⟨fb, fo, hfa, hfb, hfz⟩ : ∃ fb fo, ca = some ⟨fb, fo, none⟩ ∧ fb < nq1 ∧ w20.cell? ⟨fb, fo + i, none⟩ = some (.int .i64 (cs[i]?.getD 0)) := by
                        rcases HCS.out.next bb with ⟨_, e⟩ | ⟨fb, fo, c9, e, hlt9, hc9⟩
                        · exfalso; have h9 := HCN.out; rw [e] at h9; simp only [List.length_nil] at h9; omega
                        · simp only [Value.slice.injEq] at e
                          exact ⟨fb, fo, e.1, hnq1 ▸ hlt9, hc9 i (by have := HCN.out; omega)⟩
                      subst hfa
                      obtain ⟨z, hz⟩ : ∃ z, cs[i]?.getD 0 = z := ⟨_, rfl⟩
                      rw [hz] at hfz
                      clear hz
                      obtain ⟨r9, hr9, r0, r1⟩ := mod_u64 z c.cBatch (by omega) (by omega)
                      have wU : IntKind.u64.wrap c.cBatch = c.cBatch := by rw [IntKind.wrap_u64]; omega
                      have nz : (c.cBatch == 0) = false := by rw [beq_eq_false_iff_ne]; omega
                      have nz2 : c.cBatch ≠ 0 := by omega
                      have hr9q : IntKind.i64.wrap ((IntKind.u64.wrap z).tmod c.cBatch) = r9 := by have h9 := hr9; unfold wrap64 at h9; rw [IntKind.wrap_i64]; exact h9
                      have w1 : IntKind.i64.wrap (1 + r9) = 1 + r9 := by rw [IntKind.wrap_i64]; omega
                      obtain ⟨J, hJ⟩ : ∃ J : Nat, min (1 + r9) ((n4 : Int) - (k : Int)) = (J : Int) := ⟨(min (1 + r9) ((n4 : Int) - (k : Int))).toNat, by omega⟩
                      have HJ : Hid (1 ≤ J ∧ J ≤ 64 ∧ k + J ≤ n4) := (by omega : 1 ≤ J ∧ J ≤ 64 ∧ k + J ≤ n4)
                      clear hpb r0 r1
                      go_upto_region 23 with fail
                      as_aux_lemma =>
                        refine wp_region_held_drew (S := fun w' => Below nq1 w20 w') (by kernel_rfl) (below_drew_of hnq1) (fun hHeld => ?_)
                        refine ht0 0 109 (v := ?v55) (fun _ => ?y55) hHeld ?_
                        case y55 => go_simp; with_reducible rfl
                        simp only [sn]
                        refine ht0 1 110 (v := ?v56) (fun _ => ?y56) hHeld ?_
                        case y56 => go_simp; with_reducible rfl
                        simp only [sn]
                        refine ht0 2 111 (v := ?v57) (fun _ => ?y57) hHeld ?_
                        case y57 => go_simp; with_reducible rfl
                        simp only [sn]
                        refine ht 3 112 (v := ?v58) (fun _ hSw => ?y58) hHeld ?_
                        case y58 => have q0 := hSw.at hfz hfb; clear hSw; go_simp; with_reducible rfl
                        simp only [sn]
                        refine ht0 4 113 (v := ?v59) (fun _ => ?y59) hHeld ?_
                        case y59 => go_simp; with_reducible rfl
                        simp only [sn]
                        refine ht0 5 114 (v := ?v60) (fun _ => ?y60) hHeld ?_
                        case y60 => go_simp; with_reducible rfl
                        simp only [sn]
                        refine ht 6 115 (v := ?v61) (fun _ hSw => ?y61) hHeld ?_
                        case y61 => have q0 := hSw.at m_xC6.out hl_xC; clear hSw; go_simp; with_reducible rfl
                        simp only [sn]
                        refine ht0 7 116 (v := ?v62) (fun _ => ?y62) hHeld ?_
                        case y62 => go_simp; with_reducible rfl
                        simp only [sn]
                        refine ht0 8 117 (v := ?v63) (fun _ => ?y63) hHeld ?_
                        case y63 => go_simp; with_reducible rfl
                        simp only [sn]
                        refine ht0 9 118 (v := ?v64) (fun _ => ?y64) hHeld ?_
                        case y64 => go_simp; with_reducible rfl
                        simp only [sn]
                        refine ht0 10 119 (v := ?v65) (fun _ => ?y65) hHeld ?_
                        case y65 => go_simp; with_reducible rfl
                        simp only [sn]
                        refine ht0 11 120 (v := ?v66) (fun _ => ?y66) hHeld ?_
                        case y66 => go_simp; with_reducible rfl
                        simp only [sn]
                        refine ht0 12 121 (v := ?v67) (fun _ => ?y67) hHeld ?_
                        case y67 => go_simp; with_reducible rfl
                        simp only [sn]
                        refine ht0 13 122 (v := ?v68) (fun _ => ?y68) hHeld ?_
                        case y68 => go_simp; with_reducible rfl
                        simp only [sn]
                        refine ht0 14 123 (v := ?v69) (fun _ => ?y69) hHeld ?_
                        case y69 => go_simp; with_reducible rfl
                        simp only [sn]
                        refine wpAnyH_ready (rs := [15]) (by kernel_rfl) (by simp) ?_
                        refine AllReadyH.cons rfl (fun K hK => ?_) AllReadyH.nil
                        go_simp
                        refine hK.out _ _ hHeld (fun hHeld => ?_)
                        clear hK K
                        refine wpAnyH_done (by kernel_rfl) ?_ _
                        go_wp2_with fail
                        go_meet
                        exact ⟨J, by first | rfl | (rw [hJ]) | (simp only [hJ]), HJ.out, hHeld⟩
                    · have dif : decide ((i : Int) < (cn : Int)) = false := decide_eq_false (by omega)
                      have difn : decide (i < cn) = false := decide_eq_false hif
                      obtain ⟨J, hJ⟩ : ∃ J : Nat, min c.cBatch ((n4 : Int) - (k : Int)) = (J : Int) := ⟨(min c.cBatch ((n4 : Int) - (k : Int))).toNat, by omega⟩
                      go_wp2_with fail
                      go_meet
                      exact ⟨J, by first | rfl | (rw [hJ]) | (simp only [hJ]), by omega, below_same_of hnq1⟩
                  case rest =>
                    as_aux_lemma =>
                      obtain ⟨J, rfl, hJJ, b9⟩ := hcut
                      have HJ : Hid (1 ≤ J ∧ J ≤ 64 ∧ k + J ≤ n4) := hJJ
                      replace b9 : Below w20.heap.size w20 wc := hnq1 ▸ b9
                      generalize hwc : wc = w21 at *
                      clear hwc hpb dlt dltn q1 hnq1 hl_xC m_xC0 m_xC1 m_xC2 m_xC3 m_xC4 m_xC5 m_xC6 m_xC7 m_xC8 m_xC9
                      replace x9 := x9.next b9
                      replace h9 := h9.next b9
                      replace xC := xC.next b9
                      replace xB := xB.next b9
                      replace oX := oX.next b9
                      replace bb := bb.trans (b9.mono bb.size)
                      clear b9
                      have q3 : IntKind.i64.wrap ((k : Int) + (J : Int)) = ((k + J : Nat) : Int) := by rw [IntKind.wrap_i64]; omega
                      clear hJJ
                      go_wp2_with fail
                      refine (encV HC.out HXB.out xa xc k J (by have h1 := HJ.out; have h2 := HM4.out; omega) _ (HF0.out.next bb) oX.holds).mono ?_
                      rintro e w22 ⟨ya, yc, rfl, oY, b9⟩
                      replace x9 := x9.next b9
                      replace h9 := h9.next b9
                      replace xC := xC.next b9
                      replace xB := xB.next b9
                      replace oX := oX.next b9
                      replace bb := bb.trans (b9.mono bb.size)
                      clear b9
                      replace oY : OwnB1 ya J yc (codeL zs k J) _ _ := oY
                      have HB9 : Hid (B9 < w22.heap.size) := x9.lt
                      have dJ : ((J : Int) != (J : Int)) = false := by simp
                      have lxC := xC.lt
                      have lx9 := x9.lt
                      have lxB := xB.lt
                      have cxC0 := xC.cell 0 _ rfl
                      have cxC1 := xC.cell 1 _ rfl
                      have cxC2 := xC.cell 2 _ rfl
                      have cxC3 := xC.cell 3 _ rfl
                      have cxC4 := xC.cell 4 _ rfl
                      have cxC5 := xC.cell 5 _ rfl
                      have cxC6 := xC.cell 6 _ rfl
                      have cxC7 := xC.cell 7 _ rfl
                      have cxC8 := xC.cell 8 _ rfl
                      have cxC9 := xC.cell 9 _ rfl
                      have cx90 := x9.cell 0 _ rfl
                      have cx91 := x9.cell 1 _ rfl
                      have cx92 := x9.cell 2 _ rfl
                      have cx93 := x9.cell 3 _ rfl
                      have cx94 := x9.cell 4 _ rfl
                      have cx95 := x9.cell 5 _ rfl
                      have cx96 := x9.cell 6 _ rfl
                      have cxB0 := xB.cell 0 _ rfl
                      have cxB1 := xB.cell 1 _ rfl
                      have cxB2 := xB.cell 2 _ rfl
                      go_wp2_with fail
                      refine (takeV c HC.out h hk 8 (k : Int) (codeL zs k J) ya J yc (codeL_len _ _ _) _ h9 (codeR HXB.out (by decide) (by omega) HJ.out.1 HJ.out.2.1) oY.holds oY.cap (codeL_bd _ _ _) (HF0.out.next bb)).mono ?_
                      rintro e w23 ⟨R2, N2, P2, a2, n2, cap2, D2, b2, m2, bc2, i2, g, rfl, hT2, hkg, h2, b9⟩
                      clear cxC0 cxC1 cxC2 cxC3 cxC4 cxC5 cxC6 cxC7 cxC8 cxC9
                      clear cx90 cx91 cx92 cx93 cx94 cx95 cx96
                      clear cxB0 cxB1 cxB2
                      replace x9 := x9.next b9
                      replace h9 := h9.next b9
                      replace xC := xC.next b9
                      replace xB := xB.next b9
                      replace oX := oX.next b9
                      replace oY := oY.next b9
                      replace bb := bb.trans (b9.mono bb.size)
                      clear b9
                      clear lxC lx9 lxB
                      clear oY
                      have b9 : Below w23.heap.size w23 (w23.alloc (.cells #[.int .i64 s, .int .i64 R2, .int .i64 N2, .int .i64 P2, .slice a2 n2 cap2, .bool D2, .slice b2 m2 bc2] 39)) := (Below.refl _ _).alloc (Nat.le_refl _) _
                      have x14 := Box.new w23 39 #[.int .i64 s, .int .i64 R2, .int .i64 N2, .int .i64 P2, .slice a2 n2 cap2, .bool D2, .slice b2 m2 bc2]
                      replace x9 := x9.next b9
                      replace h9 := h9.next b9
                      replace xC := xC.next b9
                      replace xB := xB.next b9
                      replace oX := oX.next b9
                      replace h2 := h2.next b9
                      replace bb := bb.trans (b9.mono bb.size)
                      clear b9
                      go_upto_region 28 with fail
                      obtain ⟨B14, hB14⟩ : ∃ B, w23.heap.size = B := ⟨_, rfl⟩
                      rw [hB14] at x14 ⊢
                      clear hB14
                      generalize w23.alloc (.cells #[.int .i64 s, .int .i64 R2, .int .i64 N2, .int .i64 P2, .slice a2 n2 cap2, .bool D2, .slice b2 m2 bc2] 39) = w24 at *
                      have HAG : Hid (Along zs 8 (k + J) g ∧ (4 * segsC c ≤ ((k + J : Nat) : Int) → g.hD = true)) := by
                        have h1 := HJ.out
                        have h2 := HM4.out
                        have h3 := along_take HC.out hk (by rw [h9.eS]; exact HXB.out.blk) HXB.out.bz (r := 8) (by decide) (k := k) (m := J) (by omega) (by omega) HAL.out
                        rw [hT2.out] at h3
                        exact h3
                      clear hT2
                      have cx140 := x14.cell 0 _ rfl
                      have cx141 := x14.cell 1 _ rfl
                      have cx142 := x14.cell 2 _ rfl
                      have cx143 := x14.cell 3 _ rfl
                      have cx144 := x14.cell 4 _ rfl
                      have cx145 := x14.cell 5 _ rfl
                      have cx146 := x14.cell 6 _ rfl
                      have cx90 := x9.cell 0 _ rfl
                      have cx91 := x9.cell 1 _ rfl
                      have cx92 := x9.cell 2 _ rfl
                      have cx93 := x9.cell 3 _ rfl
                      have cx94 := x9.cell 4 _ rfl
                      have cx95 := x9.cell 5 _ rfl
                      have cx96 := x9.cell 6 _ rfl
                      have u90 := x9.free 0
                      have u91 := x9.free 1
                      have u92 := x9.free 2
                      have u93 := x9.free 3
                      have u94 := x9.free 4
                      have u95 := x9.free 5
                      have u96 := x9.free 6
                      have l14 := x14.lt
                      have l9 := x9.lt
                      go_wp2
                      exact ⟨⟨k + J, i + 1, g, R2, N2, P2, a2, n2, cap2, D2, b2, m2, bc2, (by have h1 := HJ.out; omega), rfl, rfl, x9.set7c (.int .i64 s) (.int .i64 R2) (.int .i64 N2) (.int .i64 P2) (.slice a2 n2 cap2) (.bool D2) (.slice b2 m2 bc2), (h2.store HB9.out (.int .i64 s) (.int .i64 R2) (.int .i64 N2) (.int .i64 P2) (.slice a2 n2 cap2) (.bool D2) (.slice b2 m2 bc2)).base (Nat.zero_le _), ⟨hkg, HAG.out.1, fun e => HAG.out.2 (by have h2 := HN4.out; omega)⟩, xC.other7c (by have := HW9.out; omega) (.int .i64 s) (.int .i64 R2) (.int .i64 N2) (.int .i64 P2) (.slice a2 n2 cap2) (.bool D2) (.slice b2 m2 bc2), xB.other7c (by have := HW9.out; omega) (.int .i64 s) (.int .i64 R2) (.int .i64 N2) (.int .i64 P2) (.slice a2 n2 cap2) (.bool D2) (.slice b2 m2 bc2), oX.store HXB9.out (.int .i64 s) (.int .i64 R2) (.int .i64 N2) (.int .i64 P2) (.slice a2 n2 cap2) (.bool D2) (.slice b2 m2 bc2), below_set7c bb (by have := HW9.out; omega) (.int .i64 s) (.int .i64 R2) (.int .i64 N2) (.int .i64 P2) (.slice a2 n2 cap2) (.bool D2) (.slice b2 m2 bc2)⟩, by have h1 := HJ.out; simp [intOf]; omega⟩
            · have dlt : decide ((k : Int) < (n4 : Int)) = false := decide_eq_false (by omega)
              have dltn : decide (k < n4) = false := decide_eq_false hlt
              have hd := HDN.out (by omega)
              as_aux_lemma =>
                have hB : h.hB = zs := HAL.out.elim (fun h1 => h1.2) (fun h1 => by rw [hd] at h1; cases h1.1)
                have eD : true = D := by rw [← h9.eD, hd]
                subst eD
                have HHB : Hid (h.hB = zs) := hB
                clear hd hB
                have lx9 := x9.lt
                have cx90 := x9.cell 0 _ rfl
                have cx91 := x9.cell 1 _ rfl
                have cx92 := x9.cell 2 _ rfl
                have cx93 := x9.cell 3 _ rfl
                have cx94 := x9.cell 4 _ rfl
                have cx95 := x9.cell 5 _ rfl
                have cx96 := x9.cell 6 _ rfl
                go_wp2_with fail
                refine (bytesV h HXB.out HHB.out xa xc _ h9 HC.out oX.holds).mono ?_
                rintro e w21 ⟨rfl, b9⟩
                clear cx90 cx91 cx92 cx93 cx94 cx95 cx96
                replace x9 := x9.next b9
                replace h9 := h9.next b9
                replace xC := xC.next b9
                replace xB := xB.next b9
                replace oX := oX.next b9
                replace bb := bb.trans (b9.mono bb.size)
                clear b9
                clear lx9
                clear HHB
                go_wp2_with fail
                refine (hearWakes_any _ (HF0.out.next bb)).mono ?_
                rintro e w99 ⟨rfl, b99⟩
                go_wp2
                go_ret
                exact ⟨rfl, bb.trans (b99.mono bb.size)⟩

end Go.Proofs.YtkigbanldiialaaGreatDoor
