/-
  Stores that leave a row as it lies; a block that is heard, compared with itself.
-/
import Derived.Test.YtokejgoplalkhaaGreatDoorM21
import Derived.Test.YtokejgoplalkhaaGreatDoorM28
import Derived.Test.YtokejgoplalkhaaGreatDoorM43
import Derived.Test.YtokejgoplalkhaaGreatDoorM45
import Derived.Test.YtokejgoplalkhaaGreatDoorM46
import Derived.Test.YtokejgoplalkhaaGreatDoorM47
import Derived.ChangeAlike
import Derived.Deep.Cut
import Derived.Deep.CutRange
import Derived.Deep.DeepCutAuto
import Derived.OneCell
namespace Go.Proofs.YtokejgoplalkhaaGreatDoor
open Go.RowKit

theorem row_set7x {w : World} {base D size : Nat} {e : TypeId} {v : Value} {n : Nat} {xs : List Value} (h : w.ownsRow base e size v n xs) (hD : v.ownBlock ≠ some D) (a b c d e' f g : Value) : (((((((w.setCell ⟨D, 0, none⟩ a).setCell ⟨D, 1, none⟩ b).setCell ⟨D, 2, none⟩ c).setCell ⟨D, 3, none⟩ d).setCell ⟨D, 4, none⟩ e').setCell ⟨D, 5, none⟩ f).setCell ⟨D, 6, none⟩ g).ownsRow base e size v n xs := ownsRow_setCell_other (ownsRow_setCell_other (ownsRow_setCell_other (ownsRow_setCell_other (ownsRow_setCell_other (ownsRow_setCell_other (ownsRow_setCell_other h (a := ⟨D, 0, none⟩) hD a) (a := ⟨D, 1, none⟩) hD b) (a := ⟨D, 2, none⟩) hD c) (a := ⟨D, 3, none⟩) hD d) (a := ⟨D, 4, none⟩) hD e') (a := ⟨D, 5, none⟩) hD f) (a := ⟨D, 6, none⟩) hD g
theorem keepHear_same (h : Hr) (a b a' b' : Option Addr) (cap bc cap' bc' : Nat) (hl : h.hL.length ≤ 4611686018427387904) (hb : h.hB.length ≤ 4611686018427387904) (w : World) (H : HearAt w h a cap b bc) (H' : HearAt w h a' cap' b' bc') : Calls Tryz.prog 16 #[.agg #[.int .i64 h.hS, .int .i64 h.hR, .int .i64 h.hN, .int .i64 h.hP, .slice a h.hL.length cap, .bool h.hD, .slice b h.hB.length bc], .agg #[.int .i64 h.hS, .int .i64 h.hR, .int .i64 h.hN, .int .i64 h.hP, .slice a' h.hL.length cap', .bool h.hD, .slice b' h.hB.length bc']] w fun e w' => e = .returned (.bool true) ∧ Below w.heap.size w w' := by
  have := keepHear_any h.hS h.hR h.hN h.hP h.hS h.hR h.hN h.hP h.hD h.hD _ _ _ _ h.hL h.hL h.hB h.hB hl hb w H.syms H.byts H'.syms H'.byts
  rw [decide_eq_true ⟨rfl, rfl, rfl, ⟨rfl, rfl, rfl⟩, rfl⟩] at this
  exact this

end Go.Proofs.YtokejgoplalkhaaGreatDoor

/-
  A block that is heard, its fields as plain numbers: how it lies, and what hear's calls and the laws' helpers answer of it.
-/
namespace Go.Proofs.YtokejgoplalkhaaGreatDoor
open Go.RowKit

/-- It lies in memory from base on; its fields are these. -/
structure At7 (base : Nat) (W : World) (h : Hr) (S R N P : Int) (a : Option Addr) (n cap : Nat) (D : Bool) (b : Option Addr) (m bc : Nat) : Prop where
  eS : h.hS = S
  eR : h.hR = R
  eN : h.hN = N
  eP : h.hP = P
  en : h.hL.length = n
  eD : h.hD = D
  em : h.hB.length = m
  own : OwnHear base W h a cap b bc
theorem At7.next {base : Nat} {W W' : World} {h : Hr} {S R N P : Int} {a : Option Addr} {n cap : Nat} {D : Bool} {b : Option Addr} {m bc : Nat} (H : At7 base W h S R N P a n cap D b m bc) (k : Below W.heap.size W W') : At7 base W' h S R N P a n cap D b m bc := ⟨H.eS, H.eR, H.eN, H.eP, H.en, H.eD, H.em, H.own.next k (Nat.le_refl _)⟩
theorem At7.base {base base' : Nat} {W : World} {h : Hr} {S R N P : Int} {a : Option Addr} {n cap : Nat} {D : Bool} {b : Option Addr} {m bc : Nat} (H : At7 base W h S R N P a n cap D b m bc) (hb : base' ≤ base) : At7 base' W h S R N P a n cap D b m bc := ⟨H.eS, H.eR, H.eN, H.eP, H.en, H.eD, H.em, H.own.base hb⟩
theorem At7.at {base : Nat} {W : World} {h : Hr} {S R N P : Int} {a : Option Addr} {n cap : Nat} {D : Bool} {b : Option Addr} {m bc : Nat} (H : At7 base W h S R N P a n cap D b m bc) : HearAt W h a cap b bc := H.own.at
/-- A store of seven cells into a block that was there before. -/
theorem At7.store {base : Nat} {W : World} {h : Hr} {S R N P : Int} {a : Option Addr} {n cap : Nat} {D : Bool} {b : Option Addr} {m bc : Nat} (H : At7 base W h S R N P a n cap D b m bc) {B : Nat} (hB : B < base) (x0 x1 x2 x3 x4 x5 x6 : Value) : At7 base (((((((W.setCell ⟨B, 0, none⟩ x0).setCell ⟨B, 1, none⟩ x1).setCell ⟨B, 2, none⟩ x2).setCell ⟨B, 3, none⟩ x3).setCell ⟨B, 4, none⟩ x4).setCell ⟨B, 5, none⟩ x5).setCell ⟨B, 6, none⟩ x6) h S R N P a n cap D b m bc := ⟨H.eS, H.eR, H.eN, H.eP, H.en, H.eD, H.em, ⟨row_set7c H.own.syms hB x0 x1 x2 x3 x4 x5 x6, row_set7c H.own.byts hB x0 x1 x2 x3 x4 x5 x6, H.own.byte⟩⟩

theorem newV (c : Cfg) (hC : okC c = true) (s : Int) (hs : 0 ≤ s) (w : World) :
    Calls Tryz.prog 13 #[.agg #[.int .i64 c.cB, .int .i64 c.cBeam, .int .i64 c.cDepth, .int .i64 c.cWin, .int .i64 c.cQs, .int .i64 c.cQr, .int .i64 c.cBatch, .int .i64 c.cPass, .int .i64 c.cMsg, .int .i64 c.cSeqs], .int .i64 s] w fun e W' => ∃ (N P : Int) (a : Option Addr) (cap : Nat) (b : Option Addr) (bc : Nat), e = .returned (.tuple #[.agg #[.int .i64 s, .int .i64 (-1), .int .i64 N, .int .i64 P, .slice a 0 cap, .bool false, .slice b 0 bc], .int .i64 0]) ∧ At7 w.heap.size W' (newH c s) s (-1) N P a 0 cap false b 0 bc ∧ Below w.heap.size w W' :=
  (HearNew_ok c s hC hs w).mono fun _ _ ⟨a, cap, b, bc, he, ho, hb⟩ => ⟨segsC c, c.cPass, a, cap, b, bc, he, ⟨rfl, rfl, rfl, rfl, rfl, rfl, rfl, ho⟩, hb⟩

theorem takeV (c : Cfg) (hC : okC c = true) (h : Hr) (hk : okH c h) {base : Nat} {S R N P : Int} {a : Option Addr} {n cap : Nat} {D : Bool} {b : Option Addr} {m bc : Nat} (r f : Int) (xs : List Int) (x : Option Addr) (xn xc : Nat) (hxn : xs.length = xn) (w : World) (H : At7 base w h S R N P a n cap D b m bc) (hR : RightD S r f xs) (hx : Holds .u8 w.heap.size w (.slice x xn xc) xs) (hX : xn ≤ xc) (bx : ∀ z ∈ xs, 0 ≤ z ∧ z ≤ 255) (hF : Firsts w) :
    Calls Tryz.prog 15 #[.agg #[.int .i64 c.cB, .int .i64 c.cBeam, .int .i64 c.cDepth, .int .i64 c.cWin, .int .i64 c.cQs, .int .i64 c.cQr, .int .i64 c.cBatch, .int .i64 c.cPass, .int .i64 c.cMsg, .int .i64 c.cSeqs], .agg #[.int .i64 S, .int .i64 R, .int .i64 N, .int .i64 P, .slice a n cap, .bool D, .slice b m bc], .agg #[.int .i64 S, .int .i64 r, .int .i64 f, .slice x xn xc]] w fun e W' => ∃ (R' N' P' : Int) (a' : Option Addr) (n' cap' : Nat) (D' : Bool) (b' : Option Addr) (m' bc' : Nat) (i : Bool) (g : Hr), e = .returned (.tuple #[.agg #[.int .i64 S, .int .i64 R', .int .i64 N', .int .i64 P', .slice a' n' cap', .bool D', .slice b' m' bc'], .bool i, .int .i64 0]) ∧ Hid (takeH c h r f xs = (g, i)) ∧ okH c g ∧ At7 w.heap.size W' g S R' N' P' a' n' cap' D' b' m' bc' ∧ Below w.heap.size w W' := by
  obtain ⟨eS, eR, eN, eP, en, eD, em, own⟩ := H
  subst eS eR eN eP en eD em hxn
  have hxx : okX r f xs := ⟨hR.2.1, hR.2.2.1.1, bx⟩
  refine (HearTake_ok c h r f xs hC hk hR a b cap bc x xc w own.at hx hX bx hF).mono ?_
  rintro e W' ⟨a', cap', b', bc', he, ho, hb⟩
  refine ⟨(takeH c h r f xs).1.hR, (takeH c h r f xs).1.hN, (takeH c h r f xs).1.hP, a', (takeH c h r f xs).1.hL.length, cap', (takeH c h r f xs).1.hD, b', (takeH c h r f xs).1.hB.length, bc', (takeH c h r f xs).2, (takeH c h r f xs).1, ?_, (rfl : takeH c h r f xs = _), takeH_ok hk hxx, ⟨takeH_seq _ _ _ _ _, rfl, rfl, rfl, rfl, rfl, rfl, ho⟩, hb⟩
  rw [he, takeH_seq]

theorem takeV_no (c : Cfg) (h : Hr) (hl : h.hL.length ≤ 4294967296) (hb : h.hB.length ≤ 4096) {base : Nat} {S R N P : Int} {a : Option Addr} {n cap : Nat} {D : Bool} {b : Option Addr} {m bc : Nat} (r f : Int) (xs : List Int) (x : Option Addr) (xn xc : Nat) (hxn : xs.length = xn) (w : World) (H : At7 base w h S R N P a n cap D b m bc) (hR : errD S r f xs.length ≠ 0) (hx : Holds .u8 w.heap.size w (.slice x xn xc) xs) (hX : xn ≤ xc) (hX2 : xn ≤ 4294967296) (bx : ∀ z ∈ xs, 0 ≤ z ∧ z ≤ 255) (hF : Firsts w) :
    Calls Tryz.prog 15 #[.agg #[.int .i64 c.cB, .int .i64 c.cBeam, .int .i64 c.cDepth, .int .i64 c.cWin, .int .i64 c.cQs, .int .i64 c.cQr, .int .i64 c.cBatch, .int .i64 c.cPass, .int .i64 c.cMsg, .int .i64 c.cSeqs], .agg #[.int .i64 S, .int .i64 R, .int .i64 N, .int .i64 P, .slice a n cap, .bool D, .slice b m bc], .agg #[.int .i64 S, .int .i64 r, .int .i64 f, .slice x xn xc]] w fun e w' => e = .returned (.tuple #[.agg #[.int .i64 0, .int .i64 0, .int .i64 0, .int .i64 0, .slice none 0 0, .bool false, .slice none 0 0], .bool false, .int .i64 1]) ∧ Below w.heap.size w w' := by
  obtain ⟨eS, eR, eN, eP, en, eD, em, own⟩ := H
  subst eS eR eN eP en eD em hxn
  exact HearTake_no c h h.hS r f xs (fun q => hR q.2.2.1) hl hb a b cap bc x xc w own.at hx hX hX2 bx hF

theorem checkV (c : Cfg) (hC : okC c = true) (h : Hr) (hk : okH c h) {base : Nat} {S R N P : Int} {a : Option Addr} {n cap : Nat} {D : Bool} {b : Option Addr} {m bc : Nat} (w : World) (H : At7 base w h S R N P a n cap D b m bc) :
    Calls Tryz.prog 14 #[.agg #[.int .i64 c.cB, .int .i64 c.cBeam, .int .i64 c.cDepth, .int .i64 c.cWin, .int .i64 c.cQs, .int .i64 c.cQr, .int .i64 c.cBatch, .int .i64 c.cPass, .int .i64 c.cMsg, .int .i64 c.cSeqs], .agg #[.int .i64 S, .int .i64 R, .int .i64 N, .int .i64 P, .slice a n cap, .bool D, .slice b m bc]] w fun e w' => e = .returned (.int .i64 0) ∧ Below w.heap.size w w' := by
  obtain ⟨eS, eR, eN, eP, en, eD, em, own⟩ := H
  subst eS eR eN eP en eD em
  exact HearCheck_ok c h hC hk a b cap bc w own.at

theorem okH_le {c : Cfg} (hC : okC c = true) {h : Hr} (hk : okH c h) : h.hL.length ≤ 4611686018427387904 ∧ h.hB.length ≤ 4611686018427387904 := by
  have := okH_lens hC hk
  exact ⟨by omega, by omega⟩
theorem keepV (c : Cfg) (hC : okC c = true) (h : Hr) (hk : okH c h) {base base' : Nat} {S R N P : Int} {a a' : Option Addr} {n cap cap' : Nat} {D : Bool} {b b' : Option Addr} {m bc bc' : Nat} {S' R' N' P' : Int} {n' m' : Nat} {D' : Bool} (w : World) (H : At7 base w h S R N P a n cap D b m bc) (H' : At7 base' w h S' R' N' P' a' n' cap' D' b' m' bc') :
    Calls Tryz.prog 16 #[.agg #[.int .i64 S, .int .i64 R, .int .i64 N, .int .i64 P, .slice a n cap, .bool D, .slice b m bc], .agg #[.int .i64 S', .int .i64 R', .int .i64 N', .int .i64 P', .slice a' n' cap', .bool D', .slice b' m' bc']] w fun e w' => e = .returned (.bool true) ∧ Below w.heap.size w w' := by
  obtain ⟨eS, eR, eN, eP, en, eD, em, own⟩ := H
  obtain ⟨eS', eR', eN', eP', en', eD', em', own'⟩ := H'
  subst eS eR eN eP en eD em eS' eR' eN' eP' en' eD' em'
  exact keepHear_same h a b a' b' cap bc cap' bc' (okH_le hC hk).1 (okH_le hC hk).2 w own.at own'.at

/-- What becomes of it: it was accepted, it stays, or it was accepted now. -/
theorem takeH_cases {c : Cfg} {h g : Hr} {r f : Int} {xs : List Int} {i : Bool} (e : takeH c h r f xs = (g, i)) : (h.hD = true ∧ g = h ∧ i = false) ∨ (h.hD = false ∧ g = stayH h r f xs ∧ i = false ∧ gotH c h r f xs = none) ∨ (h.hD = false ∧ i = true ∧ ∃ b, gotH c h r f xs = some b ∧ g = doneH h r b) := by
  cases hd : h.hD with
  | true => rw [takeH_done hd] at e; cases e; exact .inl ⟨rfl, rfl, rfl⟩
  | false =>
    cases hg : gotH c h r f xs with
    | none => rw [takeH_none hd hg] at e; cases e; exact .inr (.inl ⟨rfl, rfl, rfl, rfl⟩)
    | some b => rw [takeH_some hd hg] at e; cases e; exact .inr (.inr ⟨rfl, rfl, b, rfl, rfl⟩)

end Go.Proofs.YtokejgoplalkhaaGreatDoor

/-
  Symbols that are put side by side into an empty pile, as numbers. No function of the program is spoken of. (Written by tpl_hearflush.py.)
-/
namespace Go.Proofs.YtokejgoplalkhaaGreatDoor
open Go.RowKit

theorem fills_nil {n p : Int} (h : HeadOk n p) (k : Int) : Fills n p [] k k := ⟨pileOk_nil h, fun q => ⟨(fun ⟨v, hv⟩ => by cases hv), fun e => by omega⟩⟩
theorem within_none (k q : Int) (m : Nat) : within k k q m = 0 := by
  have := within_eq k k q (by omega) m
  omega
/-- Into an empty pile: as many as are put; their places. -/
theorem puts_new {n p : Int} (h : HeadOk n p) {k : Int} (hk : 0 ≤ k) {xs : List Int} (hx : ∀ z ∈ xs, 0 ≤ z ∧ z ≤ 255) (hn : k + (xs.length : Int) ≤ n * p) : (putsL n p [] k xs).length = xs.length ∧ Fills n p (putsL n p [] k xs) k (k + (xs.length : Int)) := by
  obtain ⟨h1, h2, h3⟩ := fills_len (fills_nil h k) hk xs.length rfl hx hn
  rw [within_none] at h1
  refine ⟨by simpa using h1, h2, fun q => ?_⟩
  rw [h3 q]
  omega
/-- The first one. -/
theorem puts_first {n p : Int} (h : HeadOk n p) {k : Int} (hk : 0 ≤ k) {x : Int} {xs : List Int} (hx : ∀ z ∈ x :: xs, 0 ≤ z ∧ z ≤ 255) (hn : k + ((x :: xs).length : Int) ≤ n * p) : (putsL n p [] k (x :: xs))[0]? = some (k, x) := by
  obtain ⟨h1, h2, h3⟩ := puts_new h hk hx hn
  rw [List.length_cons] at hn
  have e0 : putN n p [] k x = [(k, x)] := by
    unfold putN
    rw [if_neg]
    · rfl
    · rintro (e | e)
      · omega
      · cases e
  have hm : (k, x) ∈ putsL n p [] k (x :: xs) := by
    rw [putsL]
    exact putsL_has (by rw [e0]; simp)
  cases hl : putsL n p [] k (x :: xs) with
  | nil => rw [hl] at hm; cases hm
  | cons y t =>
    rw [hl] at hm h3 h2
    rcases List.mem_cons.1 hm with e | e
    · rw [← e]; rfl
    · exfalso
      have hy := (h3 y.1).1 ⟨y.2, by simp⟩
      have hr := List.rel_of_pairwise_cons h2.2.2 e
      simp only at hr
      omega
/-- Into what is there: those that were there already do not count. -/
theorem puts_more {n p : Int} (h : HeadOk n p) {k q : Int} (hk : 0 ≤ k) (hq : 0 ≤ q) {xs ys : List Int} (hx : ∀ z ∈ xs, 0 ≤ z ∧ z ≤ 255) (hy : ∀ z ∈ ys, 0 ≤ z ∧ z ≤ 255) (hn : k + (xs.length : Int) ≤ n * p) (hm : q + (ys.length : Int) ≤ n * p) : (putsL n p (putsL n p [] k xs) q ys).length + within q (q + (ys.length : Int)) k xs.length = xs.length + ys.length := by
  obtain ⟨h1, h2⟩ := puts_new h hk hx hn
  have h3 := (fills_len h2 hq ys.length rfl hy hm).1
  rw [h1, within_comm] at h3
  exact h3
theorem small_most {c : Cfg} (h : SmallC c) : 88 ≤ mostC c ∧ mostC c ≤ 182 := by
  have e : mostC c = segsC c * c.cPass := rfl
  unfold SmallC at h
  have hs : 22 ≤ segsC c ∧ segsC c ≤ 26 := by unfold segsC; omega
  rw [e]
  obtain ⟨p, hp⟩ : ∃ p, c.cPass = p := ⟨_, rfl⟩
  rw [hp] at h ⊢
  obtain rfl | rfl | rfl | rfl : p = 4 ∨ p = 5 ∨ p = 6 ∨ p = 7 := by omega
  all_goals omega

end Go.Proofs.YtokejgoplalkhaaGreatDoor

/-
  HearFlush: the walk: whatever the configuration, the number, the symbols and the rounds, the law answers true, and nothing that lay has turned. (Written by tpl_hearflush.py.)
-/
namespace Go.Proofs.YtokejgoplalkhaaGreatDoor
open Go.RowKit

set_option maxRecDepth 100000 in
set_option maxHeartbeats 16000000 in
theorem hearFlush_at (cq : Cfg) (seq : Int) (aa : Option Addr) (an ac : Nat) (xs : List Int) (ba : Option Addr) (bn bcp : Nat) (ys : List Int) (from0 other0 round0 : Int) (w : World) (hxn : xs.length = an) (hxc : an ≤ ac) (hX : Holds .u8 w.heap.size w (.slice aa an ac) xs) (bx : ∀ z ∈ xs, 0 ≤ z ∧ z ≤ 255) (hyn : ys.length = bn) (hyc : bn ≤ bcp) (hY : Holds .u8 w.heap.size w (.slice ba bn bcp) ys) (by_ : ∀ z ∈ ys, 0 ≤ z ∧ z ≤ 255) (hF : Firsts w) :
    Calls Tryz.prog 7 #[.agg #[.int .i64 cq.cB, .int .i64 cq.cBeam, .int .i64 cq.cDepth, .int .i64 cq.cWin, .int .i64 cq.cQs, .int .i64 cq.cQr, .int .i64 cq.cBatch, .int .i64 cq.cPass, .int .i64 cq.cMsg, .int .i64 cq.cSeqs], .int .i64 seq, .slice aa an ac, .slice ba bn bcp, .int .i64 from0, .int .i64 other0, .int .i64 round0] w fun e w' => e = .returned (.bool true) ∧ Below w.heap.size w w' := by
  have bb := ((Below.refl w.heap.size w).alloc (by first | exact Nat.le_refl _ | (simp; done) | (simp; omega)) (.cells #[.int .i64 cq.cB, .int .i64 cq.cBeam, .int .i64 cq.cDepth, .int .i64 cq.cWin, .int .i64 cq.cQs, .int .i64 cq.cQr, .int .i64 cq.cBatch, .int .i64 cq.cPass, .int .i64 cq.cMsg, .int .i64 cq.cSeqs] 23))
  have xC := (Box.new w 23 #[.int .i64 cq.cB, .int .i64 cq.cBeam, .int .i64 cq.cDepth, .int .i64 cq.cWin, .int .i64 cq.cQs, .int .i64 cq.cQr, .int .i64 cq.cBatch, .int .i64 cq.cPass, .int .i64 cq.cMsg, .int .i64 cq.cSeqs])
  go_enter Tryz.func7, Tryz.ntmps7
  have c0 := xC.cell 0 _ rfl
  have c1 := xC.cell 1 _ rfl
  have c2 := xC.cell 2 _ rfl
  have c3 := xC.cell 3 _ rfl
  have c4 := xC.cell 4 _ rfl
  have c5 := xC.cell 5 _ rfl
  have c6 := xC.cell 6 _ rfl
  have c7 := xC.cell 7 _ rfl
  have c8 := xC.cell 8 _ rfl
  have c9 := xC.cell 9 _ rfl
  have hltC := xC.lt
  go_wp2_with fail
  refine (small_any cq _).mono ?_
  rintro e w1 ⟨c, rfl, hSm, b9⟩
  replace xC := xC.next b9
  replace bb := bb.trans (b9.mono bb.size)
  clear b9 hltC c0 c1 c2 c3 c4 c5 c6 c7 c8 c9
  have c0 := xC.cell 0 _ rfl
  have c1 := xC.cell 1 _ rfl
  have c2 := xC.cell 2 _ rfl
  have c3 := xC.cell 3 _ rfl
  have c4 := xC.cell 4 _ rfl
  have c5 := xC.cell 5 _ rfl
  have c6 := xC.cell 6 _ rfl
  have c7 := xC.cell 7 _ rfl
  have c8 := xC.cell 8 _ rfl
  have c9 := xC.cell 9 _ rfl
  have u0 := xC.free 0
  have u1 := xC.free 1
  have u2 := xC.free 2
  have u3 := xC.free 3
  have u4 := xC.free 4
  have u5 := xC.free 5
  have u6 := xC.free 6
  have u7 := xC.free 7
  have u8 := xC.free 8
  have u9 := xC.free 9
  have hltC := xC.lt
  go_upto_region 2 with fail
  clear c0 u0 c1 u1 c2 u2 c3 u3 c4 u4 c5 u5 c6 u6 c7 u7 c8 u8 c9 u9 hltC
  have q9 := ((((((((((xC.set 0 (.int .i64 c.cB)).set 1 (.int .i64 c.cBeam)).set 2 (.int .i64 c.cDepth)).set 3 (.int .i64 c.cWin)).set 4 (.int .i64 c.cQs)).set 5 (.int .i64 c.cQr)).set 6 (.int .i64 c.cBatch)).set 7 (.int .i64 c.cPass)).set 8 (.int .i64 c.cMsg)).set 9 (.int .i64 c.cSeqs))
  simp only [sn] at q9
  replace bb := ((((((((((bb.setCell (p := ⟨w.heap.size, 0, none⟩) (Nat.le_refl _) (.int .i64 c.cB)).setCell (p := ⟨w.heap.size, 1, none⟩) (Nat.le_refl _) (.int .i64 c.cBeam)).setCell (p := ⟨w.heap.size, 2, none⟩) (Nat.le_refl _) (.int .i64 c.cDepth)).setCell (p := ⟨w.heap.size, 3, none⟩) (Nat.le_refl _) (.int .i64 c.cWin)).setCell (p := ⟨w.heap.size, 4, none⟩) (Nat.le_refl _) (.int .i64 c.cQs)).setCell (p := ⟨w.heap.size, 5, none⟩) (Nat.le_refl _) (.int .i64 c.cQr)).setCell (p := ⟨w.heap.size, 6, none⟩) (Nat.le_refl _) (.int .i64 c.cBatch)).setCell (p := ⟨w.heap.size, 7, none⟩) (Nat.le_refl _) (.int .i64 c.cPass)).setCell (p := ⟨w.heap.size, 8, none⟩) (Nat.le_refl _) (.int .i64 c.cMsg)).setCell (p := ⟨w.heap.size, 9, none⟩) (Nat.le_refl _) (.int .i64 c.cSeqs))
  generalize ((((((((((w1.setCell ⟨w.heap.size, 0, none⟩ (.int .i64 c.cB)).setCell ⟨w.heap.size, 1, none⟩ (.int .i64 c.cBeam)).setCell ⟨w.heap.size, 2, none⟩ (.int .i64 c.cDepth)).setCell ⟨w.heap.size, 3, none⟩ (.int .i64 c.cWin)).setCell ⟨w.heap.size, 4, none⟩ (.int .i64 c.cQs)).setCell ⟨w.heap.size, 5, none⟩ (.int .i64 c.cQr)).setCell ⟨w.heap.size, 6, none⟩ (.int .i64 c.cBatch)).setCell ⟨w.heap.size, 7, none⟩ (.int .i64 c.cPass)).setCell ⟨w.heap.size, 8, none⟩ (.int .i64 c.cMsg)).setCell ⟨w.heap.size, 9, none⟩ (.int .i64 c.cSeqs)) = W2 at *
  clear xC
  have hC := hSm.ok
  have HC : Hid (okC c = true) := hC
  obtain ⟨S, hS⟩ : ∃ S, segsC c = S := ⟨_, rfl⟩
  obtain ⟨n1, hn1⟩ : ∃ n, W2.heap.size = n := ⟨_, rfl⟩
  have hltC : w.heap.size < n1 := hn1 ▸ q9.lt
  have k0 : Hid (W2.cell? ⟨w.heap.size, 0, none⟩ = some (.int .i64 c.cB)) := q9.cell 0 _ rfl
  have k1 : Hid (W2.cell? ⟨w.heap.size, 1, none⟩ = some (.int .i64 c.cBeam)) := q9.cell 1 _ rfl
  have k2 : Hid (W2.cell? ⟨w.heap.size, 2, none⟩ = some (.int .i64 c.cDepth)) := q9.cell 2 _ rfl
  have k3 : Hid (W2.cell? ⟨w.heap.size, 3, none⟩ = some (.int .i64 c.cWin)) := q9.cell 3 _ rfl
  have k4 : Hid (W2.cell? ⟨w.heap.size, 4, none⟩ = some (.int .i64 c.cQs)) := q9.cell 4 _ rfl
  have k5 : Hid (W2.cell? ⟨w.heap.size, 5, none⟩ = some (.int .i64 c.cQr)) := q9.cell 5 _ rfl
  have k6 : Hid (W2.cell? ⟨w.heap.size, 6, none⟩ = some (.int .i64 c.cBatch)) := q9.cell 6 _ rfl
  have k7 : Hid (W2.cell? ⟨w.heap.size, 7, none⟩ = some (.int .i64 c.cPass)) := q9.cell 7 _ rfl
  have k8 : Hid (W2.cell? ⟨w.heap.size, 8, none⟩ = some (.int .i64 c.cMsg)) := q9.cell 8 _ rfl
  have k9 : Hid (W2.cell? ⟨w.heap.size, 9, none⟩ = some (.int .i64 c.cSeqs)) := q9.cell 9 _ rfl
  have HSG : Hid (∀ wx : World, Below n1 W2 wx → Calls Tryz.prog 25 #[.agg #[.int .i64 c.cB, .int .i64 c.cBeam, .int .i64 c.cDepth, .int .i64 c.cWin, .int .i64 c.cQs, .int .i64 c.cQr, .int .i64 c.cBatch, .int .i64 c.cPass, .int .i64 c.cMsg, .int .i64 c.cSeqs]] wx fun e w' => e = .returned (.int .i64 S) ∧ Below n1 W2 w') := fun wx hx => by
    have := refSegs_any c hC wx
    rw [hS] at this
    exact this.mono fun e w' ⟨h, b⟩ => ⟨h, hx.trans (b.mono (hn1 ▸ hx.size))⟩
  have HLI : Hid (∀ wx : World, Below n1 W2 wx → Calls Tryz.prog 24 #[.int .i64 S, .int .i64 c.cBeam, .int .i64 c.cDepth] wx fun e w' => ∃ G, e = .returned (.bool G) ∧ Below n1 W2 w') := fun wx hx => (light_any S c.cBeam c.cDepth wx).mono fun e w' ⟨h, b⟩ => h.elim (fun h => ⟨true, h, b ▸ hx⟩) (fun h => ⟨false, h, b ▸ hx⟩)
  clear hS
  go_cut [63] (fun v wx => ∃ G : Bool, v = .bool G ∧ (G = false → (0 ≤ seq ∧ seq < 1073741824) ∧ (1 ≤ an ∧ an ≤ 20) ∧ (1 ≤ bn ∧ bn ≤ 20)) ∧ Box wx w.heap.size 23 #[.int .i64 c.cB, .int .i64 c.cBeam, .int .i64 c.cDepth, .int .i64 c.cWin, .int .i64 c.cQs, .int .i64 c.cQr, .int .i64 c.cBatch, .int .i64 c.cPass, .int .i64 c.cMsg, .int .i64 c.cSeqs] ∧ Below w.heap.size w wx)
  case first =>
    by_cases hq0 : seq < 0
    · have dz0 : decide (seq < 0) = true := decide_eq_true (by omega)
      as_aux_lemma =>
        refine wp_region_held_drew (S := fun w' => Below n1 W2 w') (by kernel_rfl) ((hn1 ▸ (Below.refl _ _).drew)) (fun hHeld => ?_)
        refine ht 0 28 (v := ?v1) (fun _ hSw => ?y1) hHeld ?_
        case y1 => have q0 := hSw.at k0.out hltC; have q1 := hSw.at k1.out hltC; have q2 := hSw.at k2.out hltC; have q3 := hSw.at k3.out hltC; have q4 := hSw.at k4.out hltC; have q5 := hSw.at k5.out hltC; have q6 := hSw.at k6.out hltC; have q7 := hSw.at k7.out hltC; have q8 := hSw.at k8.out hltC; have q9 := hSw.at k9.out hltC; clear hSw; go_simp; with_reducible rfl
        simp only [sn]
        refine ht0 2 30 (v := ?v2) (fun _ => ?y2) hHeld ?_
        case y2 => go_simp; with_reducible rfl
        simp only [sn]
        refine ht 3 31 (v := ?v3) (fun _ hSw => ?y3) hHeld ?_
        case y3 => have q0 := hSw.at k1.out hltC; clear hSw; go_simp; with_reducible rfl
        simp only [sn]
        refine ht0 4 32 (v := ?v4) (fun _ => ?y4) hHeld ?_
        case y4 => go_simp; with_reducible rfl
        simp only [sn]
        refine ht 5 33 (v := ?v5) (fun _ hSw => ?y5) hHeld ?_
        case y5 => have q0 := hSw.at k2.out hltC; clear hSw; go_simp; with_reducible rfl
        simp only [sn]
        refine wpAnyH_ready (rs := [1]) (by kernel_rfl) (by simp) ?_
        refine AllReadyH.cons rfl (fun K hK => ?_) AllReadyH.nil
        go_simp
        go_wp2_with (go_at_call 25; refine (HSG.out _ (by exact hHeld)).mono ?_; rintro e wb ⟨rfl, b8⟩)
        refine hK.out _ _ (b8) (fun hHeld => ?_)
        clear hK K
        refine wpAnyH_ready (rs := [6]) (by kernel_rfl) (by simp) ?_
        refine AllReadyH.cons rfl (fun K hK => ?_) AllReadyH.nil
        go_simp
        go_wp2_with (go_at_call 24; refine (HLI.out _ (by exact hHeld)).mono ?_; rintro e wb ⟨G, rfl, b8⟩)
        cases G
        · refine hK.out _ _ (b8) (fun hHeld => ?_)
          clear hK K
          refine ht0 7 35 (v := ?v6) (fun _ => ?y6) hHeld ?_
          case y6 => go_simp; with_reducible rfl
          simp only [sn]
          refine ht0 8 36 (v := ?v7) (fun _ => ?y7) hHeld ?_
          case y7 => go_simp; with_reducible rfl
          simp only [sn]
          refine hu 9 37 hHeld ?_
          simp only [sn]
          refine hu 10 38 hHeld ?_
          simp only [sn]
          refine ht0 11 39 (v := ?v8) (fun _ => ?y8) hHeld ?_
          case y8 => go_simp; with_reducible rfl
          simp only [sn]
          refine ht0 12 40 (v := ?v9) (fun _ => ?y9) hHeld ?_
          case y9 => go_simp; with_reducible rfl
          simp only [sn]
          refine hu 13 41 hHeld ?_
          simp only [sn]
          refine hu 14 42 hHeld ?_
          simp only [sn]
          refine ht0 15 43 (v := ?v10) (fun _ => ?y10) hHeld ?_
          case y10 => go_simp; with_reducible rfl
          simp only [sn]
          refine ht0 16 44 (v := ?v11) (fun _ => ?y11) hHeld ?_
          case y11 => go_simp; with_reducible rfl
          simp only [sn]
          refine hu 17 45 hHeld ?_
          simp only [sn]
          refine hu 18 46 hHeld ?_
          simp only [sn]
          refine hu 19 47 hHeld ?_
          simp only [sn]
          refine ht0 20 48 (v := ?v12) (fun _ => ?y12) hHeld ?_
          case y12 => go_simp; with_reducible rfl
          simp only [sn]
          refine ht0 21 49 (v := ?v13) (fun _ => ?y13) hHeld ?_
          case y13 => go_simp; with_reducible rfl
          simp only [sn]
          refine hu 22 50 hHeld ?_
          simp only [sn]
          refine hu 23 51 hHeld ?_
          simp only [sn]
          refine hu 24 52 hHeld ?_
          simp only [sn]
          refine ht0 25 53 (v := ?v14) (fun _ => ?y14) hHeld ?_
          case y14 => go_simp; with_reducible rfl
          simp only [sn]
          refine ht0 26 54 (v := ?v15) (fun _ => ?y15) hHeld ?_
          case y15 => go_simp; with_reducible rfl
          simp only [sn]
          refine hu 27 55 hHeld ?_
          simp only [sn]
          refine hu 28 56 hHeld ?_
          simp only [sn]
          refine hu 29 57 hHeld ?_
          simp only [sn]
          refine ht0 30 58 (v := ?v16) (fun _ => ?y16) hHeld ?_
          case y16 => go_simp; with_reducible rfl
          simp only [sn]
          refine ht0 31 59 (v := ?v17) (fun _ => ?y17) hHeld ?_
          case y17 => go_simp; with_reducible rfl
          simp only [sn]
          refine hu 32 60 hHeld ?_
          simp only [sn]
          refine hu 33 61 hHeld ?_
          simp only [sn]
          refine hu 34 62 hHeld ?_
          simp only [sn]
          refine wpAnyH_ready (rs := [35]) (by kernel_rfl) (by simp) ?_
          refine AllReadyH.cons rfl (fun K hK => ?_) AllReadyH.nil
          go_simp
          refine hK.out _ _ hHeld (fun hHeld => ?_)
          clear hK K
          refine wpAnyH_done (by kernel_rfl) ?_ _
          go_wp2_with fail
          go_meet
          exact ⟨true, rfl, (fun e => by cases e), q9.next (hn1 ▸ hHeld), bb.trans ((hn1 ▸ hHeld : Below W2.heap.size W2 _).mono bb.size)⟩
        · refine hK.out _ _ (b8) (fun hHeld => ?_)
          clear hK K
          refine ht0 7 35 (v := ?v18) (fun _ => ?y18) hHeld ?_
          case y18 => go_simp; with_reducible rfl
          simp only [sn]
          refine ht0 8 36 (v := ?v19) (fun _ => ?y19) hHeld ?_
          case y19 => go_simp; with_reducible rfl
          simp only [sn]
          refine ht0 9 37 (v := ?v20) (fun _ => ?y20) hHeld ?_
          case y20 => go_simp; with_reducible rfl
          simp only [sn]
          refine ht0 10 38 (v := ?v21) (fun _ => ?y21) hHeld ?_
          case y21 => go_simp; with_reducible rfl
          simp only [sn]
          refine ht0 11 39 (v := ?v22) (fun _ => ?y22) hHeld ?_
          case y22 => go_simp; with_reducible rfl
          simp only [sn]
          refine ht0 12 40 (v := ?v23) (fun _ => ?y23) hHeld ?_
          case y23 => go_simp; with_reducible rfl
          simp only [sn]
          refine hu 13 41 hHeld ?_
          simp only [sn]
          refine hu 14 42 hHeld ?_
          simp only [sn]
          refine ht0 15 43 (v := ?v24) (fun _ => ?y24) hHeld ?_
          case y24 => go_simp; with_reducible rfl
          simp only [sn]
          refine ht0 16 44 (v := ?v25) (fun _ => ?y25) hHeld ?_
          case y25 => go_simp; with_reducible rfl
          simp only [sn]
          refine hu 17 45 hHeld ?_
          simp only [sn]
          refine hu 18 46 hHeld ?_
          simp only [sn]
          refine hu 19 47 hHeld ?_
          simp only [sn]
          refine ht0 20 48 (v := ?v26) (fun _ => ?y26) hHeld ?_
          case y26 => go_simp; with_reducible rfl
          simp only [sn]
          refine ht0 21 49 (v := ?v27) (fun _ => ?y27) hHeld ?_
          case y27 => go_simp; with_reducible rfl
          simp only [sn]
          refine hu 22 50 hHeld ?_
          simp only [sn]
          refine hu 23 51 hHeld ?_
          simp only [sn]
          refine hu 24 52 hHeld ?_
          simp only [sn]
          refine ht0 25 53 (v := ?v28) (fun _ => ?y28) hHeld ?_
          case y28 => go_simp; with_reducible rfl
          simp only [sn]
          refine ht0 26 54 (v := ?v29) (fun _ => ?y29) hHeld ?_
          case y29 => go_simp; with_reducible rfl
          simp only [sn]
          refine hu 27 55 hHeld ?_
          simp only [sn]
          refine hu 28 56 hHeld ?_
          simp only [sn]
          refine hu 29 57 hHeld ?_
          simp only [sn]
          refine ht0 30 58 (v := ?v30) (fun _ => ?y30) hHeld ?_
          case y30 => go_simp; with_reducible rfl
          simp only [sn]
          refine ht0 31 59 (v := ?v31) (fun _ => ?y31) hHeld ?_
          case y31 => go_simp; with_reducible rfl
          simp only [sn]
          refine hu 32 60 hHeld ?_
          simp only [sn]
          refine hu 33 61 hHeld ?_
          simp only [sn]
          refine hu 34 62 hHeld ?_
          simp only [sn]
          refine wpAnyH_ready (rs := [35]) (by kernel_rfl) (by simp) ?_
          refine AllReadyH.cons rfl (fun K hK => ?_) AllReadyH.nil
          go_simp
          refine hK.out _ _ hHeld (fun hHeld => ?_)
          clear hK K
          refine wpAnyH_done (by kernel_rfl) ?_ _
          go_wp2_with fail
          go_meet
          exact ⟨true, rfl, (fun e => by cases e), q9.next (hn1 ▸ hHeld), bb.trans ((hn1 ▸ hHeld : Below W2.heap.size W2 _).mono bb.size)⟩
    have dz0 : decide (seq < 0) = false := decide_eq_false (by omega)
    by_cases hq1 : 1073741824 ≤ seq
    · have dz1 : decide (1073741824 ≤ seq) = true := decide_eq_true (by omega)
      as_aux_lemma =>
        refine wp_region_held_drew (S := fun w' => Below n1 W2 w') (by kernel_rfl) ((hn1 ▸ (Below.refl _ _).drew)) (fun hHeld => ?_)
        refine ht 0 28 (v := ?v32) (fun _ hSw => ?y32) hHeld ?_
        case y32 => have q0 := hSw.at k0.out hltC; have q1 := hSw.at k1.out hltC; have q2 := hSw.at k2.out hltC; have q3 := hSw.at k3.out hltC; have q4 := hSw.at k4.out hltC; have q5 := hSw.at k5.out hltC; have q6 := hSw.at k6.out hltC; have q7 := hSw.at k7.out hltC; have q8 := hSw.at k8.out hltC; have q9 := hSw.at k9.out hltC; clear hSw; go_simp; with_reducible rfl
        simp only [sn]
        refine ht0 2 30 (v := ?v33) (fun _ => ?y33) hHeld ?_
        case y33 => go_simp; with_reducible rfl
        simp only [sn]
        refine ht 3 31 (v := ?v34) (fun _ hSw => ?y34) hHeld ?_
        case y34 => have q0 := hSw.at k1.out hltC; clear hSw; go_simp; with_reducible rfl
        simp only [sn]
        refine ht0 4 32 (v := ?v35) (fun _ => ?y35) hHeld ?_
        case y35 => go_simp; with_reducible rfl
        simp only [sn]
        refine ht 5 33 (v := ?v36) (fun _ hSw => ?y36) hHeld ?_
        case y36 => have q0 := hSw.at k2.out hltC; clear hSw; go_simp; with_reducible rfl
        simp only [sn]
        refine wpAnyH_ready (rs := [1]) (by kernel_rfl) (by simp) ?_
        refine AllReadyH.cons rfl (fun K hK => ?_) AllReadyH.nil
        go_simp
        go_wp2_with (go_at_call 25; refine (HSG.out _ (by exact hHeld)).mono ?_; rintro e wb ⟨rfl, b8⟩)
        refine hK.out _ _ (b8) (fun hHeld => ?_)
        clear hK K
        refine wpAnyH_ready (rs := [6]) (by kernel_rfl) (by simp) ?_
        refine AllReadyH.cons rfl (fun K hK => ?_) AllReadyH.nil
        go_simp
        go_wp2_with (go_at_call 24; refine (HLI.out _ (by exact hHeld)).mono ?_; rintro e wb ⟨G, rfl, b8⟩)
        cases G
        · refine hK.out _ _ (b8) (fun hHeld => ?_)
          clear hK K
          refine ht0 7 35 (v := ?v37) (fun _ => ?y37) hHeld ?_
          case y37 => go_simp; with_reducible rfl
          simp only [sn]
          refine ht0 8 36 (v := ?v38) (fun _ => ?y38) hHeld ?_
          case y38 => go_simp; with_reducible rfl
          simp only [sn]
          refine hu 9 37 hHeld ?_
          simp only [sn]
          refine hu 10 38 hHeld ?_
          simp only [sn]
          refine ht0 11 39 (v := ?v39) (fun _ => ?y39) hHeld ?_
          case y39 => go_simp; with_reducible rfl
          simp only [sn]
          refine ht0 12 40 (v := ?v40) (fun _ => ?y40) hHeld ?_
          case y40 => go_simp; with_reducible rfl
          simp only [sn]
          refine hu 13 41 hHeld ?_
          simp only [sn]
          refine hu 14 42 hHeld ?_
          simp only [sn]
          refine ht0 15 43 (v := ?v41) (fun _ => ?y41) hHeld ?_
          case y41 => go_simp; with_reducible rfl
          simp only [sn]
          refine ht0 16 44 (v := ?v42) (fun _ => ?y42) hHeld ?_
          case y42 => go_simp; with_reducible rfl
          simp only [sn]
          refine hu 17 45 hHeld ?_
          simp only [sn]
          refine hu 18 46 hHeld ?_
          simp only [sn]
          refine hu 19 47 hHeld ?_
          simp only [sn]
          refine ht0 20 48 (v := ?v43) (fun _ => ?y43) hHeld ?_
          case y43 => go_simp; with_reducible rfl
          simp only [sn]
          refine ht0 21 49 (v := ?v44) (fun _ => ?y44) hHeld ?_
          case y44 => go_simp; with_reducible rfl
          simp only [sn]
          refine hu 22 50 hHeld ?_
          simp only [sn]
          refine hu 23 51 hHeld ?_
          simp only [sn]
          refine hu 24 52 hHeld ?_
          simp only [sn]
          refine ht0 25 53 (v := ?v45) (fun _ => ?y45) hHeld ?_
          case y45 => go_simp; with_reducible rfl
          simp only [sn]
          refine ht0 26 54 (v := ?v46) (fun _ => ?y46) hHeld ?_
          case y46 => go_simp; with_reducible rfl
          simp only [sn]
          refine hu 27 55 hHeld ?_
          simp only [sn]
          refine hu 28 56 hHeld ?_
          simp only [sn]
          refine hu 29 57 hHeld ?_
          simp only [sn]
          refine ht0 30 58 (v := ?v47) (fun _ => ?y47) hHeld ?_
          case y47 => go_simp; with_reducible rfl
          simp only [sn]
          refine ht0 31 59 (v := ?v48) (fun _ => ?y48) hHeld ?_
          case y48 => go_simp; with_reducible rfl
          simp only [sn]
          refine hu 32 60 hHeld ?_
          simp only [sn]
          refine hu 33 61 hHeld ?_
          simp only [sn]
          refine hu 34 62 hHeld ?_
          simp only [sn]
          refine wpAnyH_ready (rs := [35]) (by kernel_rfl) (by simp) ?_
          refine AllReadyH.cons rfl (fun K hK => ?_) AllReadyH.nil
          go_simp
          refine hK.out _ _ hHeld (fun hHeld => ?_)
          clear hK K
          refine wpAnyH_done (by kernel_rfl) ?_ _
          go_wp2_with fail
          go_meet
          exact ⟨true, rfl, (fun e => by cases e), q9.next (hn1 ▸ hHeld), bb.trans ((hn1 ▸ hHeld : Below W2.heap.size W2 _).mono bb.size)⟩
        · refine hK.out _ _ (b8) (fun hHeld => ?_)
          clear hK K
          refine ht0 7 35 (v := ?v49) (fun _ => ?y49) hHeld ?_
          case y49 => go_simp; with_reducible rfl
          simp only [sn]
          refine ht0 8 36 (v := ?v50) (fun _ => ?y50) hHeld ?_
          case y50 => go_simp; with_reducible rfl
          simp only [sn]
          refine ht0 9 37 (v := ?v51) (fun _ => ?y51) hHeld ?_
          case y51 => go_simp; with_reducible rfl
          simp only [sn]
          refine ht0 10 38 (v := ?v52) (fun _ => ?y52) hHeld ?_
          case y52 => go_simp; with_reducible rfl
          simp only [sn]
          refine ht0 11 39 (v := ?v53) (fun _ => ?y53) hHeld ?_
          case y53 => go_simp; with_reducible rfl
          simp only [sn]
          refine ht0 12 40 (v := ?v54) (fun _ => ?y54) hHeld ?_
          case y54 => go_simp; with_reducible rfl
          simp only [sn]
          refine ht0 13 41 (v := ?v55) (fun _ => ?y55) hHeld ?_
          case y55 => go_simp; with_reducible rfl
          simp only [sn]
          refine ht0 14 42 (v := ?v56) (fun _ => ?y56) hHeld ?_
          case y56 => go_simp; with_reducible rfl
          simp only [sn]
          refine ht0 15 43 (v := ?v57) (fun _ => ?y57) hHeld ?_
          case y57 => go_simp; with_reducible rfl
          simp only [sn]
          refine ht0 16 44 (v := ?v58) (fun _ => ?y58) hHeld ?_
          case y58 => go_simp; with_reducible rfl
          simp only [sn]
          refine hu 17 45 hHeld ?_
          simp only [sn]
          refine hu 18 46 hHeld ?_
          simp only [sn]
          refine hu 19 47 hHeld ?_
          simp only [sn]
          refine ht0 20 48 (v := ?v59) (fun _ => ?y59) hHeld ?_
          case y59 => go_simp; with_reducible rfl
          simp only [sn]
          refine ht0 21 49 (v := ?v60) (fun _ => ?y60) hHeld ?_
          case y60 => go_simp; with_reducible rfl
          simp only [sn]
          refine hu 22 50 hHeld ?_
          simp only [sn]
          refine hu 23 51 hHeld ?_
          simp only [sn]
          refine hu 24 52 hHeld ?_
          simp only [sn]
          refine ht0 25 53 (v := ?v61) (fun _ => ?y61) hHeld ?_
          case y61 => go_simp; with_reducible rfl
          simp only [sn]
          refine ht0 26 54 (v := ?v62) (fun _ => ?y62) hHeld ?_
          case y62 => go_simp; with_reducible rfl
          simp only [sn]
          refine hu 27 55 hHeld ?_
          simp only [sn]
          refine hu 28 56 hHeld ?_
          simp only [sn]
          refine hu 29 57 hHeld ?_
          simp only [sn]
          refine ht0 30 58 (v := ?v63) (fun _ => ?y63) hHeld ?_
          case y63 => go_simp; with_reducible rfl
          simp only [sn]
          refine ht0 31 59 (v := ?v64) (fun _ => ?y64) hHeld ?_
          case y64 => go_simp; with_reducible rfl
          simp only [sn]
          refine hu 32 60 hHeld ?_
          simp only [sn]
          refine hu 33 61 hHeld ?_
          simp only [sn]
          refine hu 34 62 hHeld ?_
          simp only [sn]
          refine wpAnyH_ready (rs := [35]) (by kernel_rfl) (by simp) ?_
          refine AllReadyH.cons rfl (fun K hK => ?_) AllReadyH.nil
          go_simp
          refine hK.out _ _ hHeld (fun hHeld => ?_)
          clear hK K
          refine wpAnyH_done (by kernel_rfl) ?_ _
          go_wp2_with fail
          go_meet
          exact ⟨true, rfl, (fun e => by cases e), q9.next (hn1 ▸ hHeld), bb.trans ((hn1 ▸ hHeld : Below W2.heap.size W2 _).mono bb.size)⟩
    have dz1 : decide (1073741824 ≤ seq) = false := decide_eq_false (by omega)
    by_cases hq2 : an < 1
    · have dz2 : decide ((an : Int) < 1) = true := decide_eq_true (by omega)
      have dn2 : decide (an < 1) = true := decide_eq_true hq2
      as_aux_lemma =>
        refine wp_region_held_drew (S := fun w' => Below n1 W2 w') (by kernel_rfl) ((hn1 ▸ (Below.refl _ _).drew)) (fun hHeld => ?_)
        refine ht 0 28 (v := ?v65) (fun _ hSw => ?y65) hHeld ?_
        case y65 => have q0 := hSw.at k0.out hltC; have q1 := hSw.at k1.out hltC; have q2 := hSw.at k2.out hltC; have q3 := hSw.at k3.out hltC; have q4 := hSw.at k4.out hltC; have q5 := hSw.at k5.out hltC; have q6 := hSw.at k6.out hltC; have q7 := hSw.at k7.out hltC; have q8 := hSw.at k8.out hltC; have q9 := hSw.at k9.out hltC; clear hSw; go_simp; with_reducible rfl
        simp only [sn]
        refine ht0 2 30 (v := ?v66) (fun _ => ?y66) hHeld ?_
        case y66 => go_simp; with_reducible rfl
        simp only [sn]
        refine ht 3 31 (v := ?v67) (fun _ hSw => ?y67) hHeld ?_
        case y67 => have q0 := hSw.at k1.out hltC; clear hSw; go_simp; with_reducible rfl
        simp only [sn]
        refine ht0 4 32 (v := ?v68) (fun _ => ?y68) hHeld ?_
        case y68 => go_simp; with_reducible rfl
        simp only [sn]
        refine ht 5 33 (v := ?v69) (fun _ hSw => ?y69) hHeld ?_
        case y69 => have q0 := hSw.at k2.out hltC; clear hSw; go_simp; with_reducible rfl
        simp only [sn]
        refine wpAnyH_ready (rs := [1]) (by kernel_rfl) (by simp) ?_
        refine AllReadyH.cons rfl (fun K hK => ?_) AllReadyH.nil
        go_simp
        go_wp2_with (go_at_call 25; refine (HSG.out _ (by exact hHeld)).mono ?_; rintro e wb ⟨rfl, b8⟩)
        refine hK.out _ _ (b8) (fun hHeld => ?_)
        clear hK K
        refine wpAnyH_ready (rs := [6]) (by kernel_rfl) (by simp) ?_
        refine AllReadyH.cons rfl (fun K hK => ?_) AllReadyH.nil
        go_simp
        go_wp2_with (go_at_call 24; refine (HLI.out _ (by exact hHeld)).mono ?_; rintro e wb ⟨G, rfl, b8⟩)
        cases G
        · refine hK.out _ _ (b8) (fun hHeld => ?_)
          clear hK K
          refine ht0 7 35 (v := ?v70) (fun _ => ?y70) hHeld ?_
          case y70 => go_simp; with_reducible rfl
          simp only [sn]
          refine ht0 8 36 (v := ?v71) (fun _ => ?y71) hHeld ?_
          case y71 => go_simp; with_reducible rfl
          simp only [sn]
          refine hu 9 37 hHeld ?_
          simp only [sn]
          refine hu 10 38 hHeld ?_
          simp only [sn]
          refine ht0 11 39 (v := ?v72) (fun _ => ?y72) hHeld ?_
          case y72 => go_simp; with_reducible rfl
          simp only [sn]
          refine ht0 12 40 (v := ?v73) (fun _ => ?y73) hHeld ?_
          case y73 => go_simp; with_reducible rfl
          simp only [sn]
          refine hu 13 41 hHeld ?_
          simp only [sn]
          refine hu 14 42 hHeld ?_
          simp only [sn]
          refine ht0 15 43 (v := ?v74) (fun _ => ?y74) hHeld ?_
          case y74 => go_simp; with_reducible rfl
          simp only [sn]
          refine ht0 16 44 (v := ?v75) (fun _ => ?y75) hHeld ?_
          case y75 => go_simp; with_reducible rfl
          simp only [sn]
          refine hu 17 45 hHeld ?_
          simp only [sn]
          refine hu 18 46 hHeld ?_
          simp only [sn]
          refine hu 19 47 hHeld ?_
          simp only [sn]
          refine ht0 20 48 (v := ?v76) (fun _ => ?y76) hHeld ?_
          case y76 => go_simp; with_reducible rfl
          simp only [sn]
          refine ht0 21 49 (v := ?v77) (fun _ => ?y77) hHeld ?_
          case y77 => go_simp; with_reducible rfl
          simp only [sn]
          refine hu 22 50 hHeld ?_
          simp only [sn]
          refine hu 23 51 hHeld ?_
          simp only [sn]
          refine hu 24 52 hHeld ?_
          simp only [sn]
          refine ht0 25 53 (v := ?v78) (fun _ => ?y78) hHeld ?_
          case y78 => go_simp; with_reducible rfl
          simp only [sn]
          refine ht0 26 54 (v := ?v79) (fun _ => ?y79) hHeld ?_
          case y79 => go_simp; with_reducible rfl
          simp only [sn]
          refine hu 27 55 hHeld ?_
          simp only [sn]
          refine hu 28 56 hHeld ?_
          simp only [sn]
          refine hu 29 57 hHeld ?_
          simp only [sn]
          refine ht0 30 58 (v := ?v80) (fun _ => ?y80) hHeld ?_
          case y80 => go_simp; with_reducible rfl
          simp only [sn]
          refine ht0 31 59 (v := ?v81) (fun _ => ?y81) hHeld ?_
          case y81 => go_simp; with_reducible rfl
          simp only [sn]
          refine hu 32 60 hHeld ?_
          simp only [sn]
          refine hu 33 61 hHeld ?_
          simp only [sn]
          refine hu 34 62 hHeld ?_
          simp only [sn]
          refine wpAnyH_ready (rs := [35]) (by kernel_rfl) (by simp) ?_
          refine AllReadyH.cons rfl (fun K hK => ?_) AllReadyH.nil
          go_simp
          refine hK.out _ _ hHeld (fun hHeld => ?_)
          clear hK K
          refine wpAnyH_done (by kernel_rfl) ?_ _
          go_wp2_with fail
          go_meet
          exact ⟨true, rfl, (fun e => by cases e), q9.next (hn1 ▸ hHeld), bb.trans ((hn1 ▸ hHeld : Below W2.heap.size W2 _).mono bb.size)⟩
        · refine hK.out _ _ (b8) (fun hHeld => ?_)
          clear hK K
          refine ht0 7 35 (v := ?v82) (fun _ => ?y82) hHeld ?_
          case y82 => go_simp; with_reducible rfl
          simp only [sn]
          refine ht0 8 36 (v := ?v83) (fun _ => ?y83) hHeld ?_
          case y83 => go_simp; with_reducible rfl
          simp only [sn]
          refine ht0 9 37 (v := ?v84) (fun _ => ?y84) hHeld ?_
          case y84 => go_simp; with_reducible rfl
          simp only [sn]
          refine ht0 10 38 (v := ?v85) (fun _ => ?y85) hHeld ?_
          case y85 => go_simp; with_reducible rfl
          simp only [sn]
          refine ht0 11 39 (v := ?v86) (fun _ => ?y86) hHeld ?_
          case y86 => go_simp; with_reducible rfl
          simp only [sn]
          refine ht0 12 40 (v := ?v87) (fun _ => ?y87) hHeld ?_
          case y87 => go_simp; with_reducible rfl
          simp only [sn]
          refine ht0 13 41 (v := ?v88) (fun _ => ?y88) hHeld ?_
          case y88 => go_simp; with_reducible rfl
          simp only [sn]
          refine ht0 14 42 (v := ?v89) (fun _ => ?y89) hHeld ?_
          case y89 => go_simp; with_reducible rfl
          simp only [sn]
          refine ht0 15 43 (v := ?v90) (fun _ => ?y90) hHeld ?_
          case y90 => go_simp; with_reducible rfl
          simp only [sn]
          refine ht0 16 44 (v := ?v91) (fun _ => ?y91) hHeld ?_
          case y91 => go_simp; with_reducible rfl
          simp only [sn]
          refine ht0 17 45 (v := ?v92) (fun _ => ?y92) hHeld ?_
          case y92 => go_simp; with_reducible rfl
          simp only [sn]
          refine ht0 18 46 (v := ?v93) (fun _ => ?y93) hHeld ?_
          case y93 => go_simp; with_reducible rfl
          simp only [sn]
          refine ht0 19 47 (v := ?v94) (fun _ => ?y94) hHeld ?_
          case y94 => go_simp; with_reducible rfl
          simp only [sn]
          refine ht0 20 48 (v := ?v95) (fun _ => ?y95) hHeld ?_
          case y95 => go_simp; with_reducible rfl
          simp only [sn]
          refine ht0 21 49 (v := ?v96) (fun _ => ?y96) hHeld ?_
          case y96 => go_simp; with_reducible rfl
          simp only [sn]
          refine hu 22 50 hHeld ?_
          simp only [sn]
          refine hu 23 51 hHeld ?_
          simp only [sn]
          refine hu 24 52 hHeld ?_
          simp only [sn]
          refine ht0 25 53 (v := ?v97) (fun _ => ?y97) hHeld ?_
          case y97 => go_simp; with_reducible rfl
          simp only [sn]
          refine ht0 26 54 (v := ?v98) (fun _ => ?y98) hHeld ?_
          case y98 => go_simp; with_reducible rfl
          simp only [sn]
          refine hu 27 55 hHeld ?_
          simp only [sn]
          refine hu 28 56 hHeld ?_
          simp only [sn]
          refine hu 29 57 hHeld ?_
          simp only [sn]
          refine ht0 30 58 (v := ?v99) (fun _ => ?y99) hHeld ?_
          case y99 => go_simp; with_reducible rfl
          simp only [sn]
          refine ht0 31 59 (v := ?v100) (fun _ => ?y100) hHeld ?_
          case y100 => go_simp; with_reducible rfl
          simp only [sn]
          refine hu 32 60 hHeld ?_
          simp only [sn]
          refine hu 33 61 hHeld ?_
          simp only [sn]
          refine hu 34 62 hHeld ?_
          simp only [sn]
          refine wpAnyH_ready (rs := [35]) (by kernel_rfl) (by simp) ?_
          refine AllReadyH.cons rfl (fun K hK => ?_) AllReadyH.nil
          go_simp
          refine hK.out _ _ hHeld (fun hHeld => ?_)
          clear hK K
          refine wpAnyH_done (by kernel_rfl) ?_ _
          go_wp2_with fail
          go_meet
          exact ⟨true, rfl, (fun e => by cases e), q9.next (hn1 ▸ hHeld), bb.trans ((hn1 ▸ hHeld : Below W2.heap.size W2 _).mono bb.size)⟩
    have dz2 : decide ((an : Int) < 1) = false := decide_eq_false (by omega)
    have dn2 : decide (an < 1) = false := decide_eq_false hq2
    by_cases hq3 : bn < 1
    · have dz3 : decide ((bn : Int) < 1) = true := decide_eq_true (by omega)
      have dn3 : decide (bn < 1) = true := decide_eq_true hq3
      as_aux_lemma =>
        refine wp_region_held_drew (S := fun w' => Below n1 W2 w') (by kernel_rfl) ((hn1 ▸ (Below.refl _ _).drew)) (fun hHeld => ?_)
        refine ht 0 28 (v := ?v101) (fun _ hSw => ?y101) hHeld ?_
        case y101 => have q0 := hSw.at k0.out hltC; have q1 := hSw.at k1.out hltC; have q2 := hSw.at k2.out hltC; have q3 := hSw.at k3.out hltC; have q4 := hSw.at k4.out hltC; have q5 := hSw.at k5.out hltC; have q6 := hSw.at k6.out hltC; have q7 := hSw.at k7.out hltC; have q8 := hSw.at k8.out hltC; have q9 := hSw.at k9.out hltC; clear hSw; go_simp; with_reducible rfl
        simp only [sn]
        refine ht0 2 30 (v := ?v102) (fun _ => ?y102) hHeld ?_
        case y102 => go_simp; with_reducible rfl
        simp only [sn]
        refine ht 3 31 (v := ?v103) (fun _ hSw => ?y103) hHeld ?_
        case y103 => have q0 := hSw.at k1.out hltC; clear hSw; go_simp; with_reducible rfl
        simp only [sn]
        refine ht0 4 32 (v := ?v104) (fun _ => ?y104) hHeld ?_
        case y104 => go_simp; with_reducible rfl
        simp only [sn]
        refine ht 5 33 (v := ?v105) (fun _ hSw => ?y105) hHeld ?_
        case y105 => have q0 := hSw.at k2.out hltC; clear hSw; go_simp; with_reducible rfl
        simp only [sn]
        refine wpAnyH_ready (rs := [1]) (by kernel_rfl) (by simp) ?_
        refine AllReadyH.cons rfl (fun K hK => ?_) AllReadyH.nil
        go_simp
        go_wp2_with (go_at_call 25; refine (HSG.out _ (by exact hHeld)).mono ?_; rintro e wb ⟨rfl, b8⟩)
        refine hK.out _ _ (b8) (fun hHeld => ?_)
        clear hK K
        refine wpAnyH_ready (rs := [6]) (by kernel_rfl) (by simp) ?_
        refine AllReadyH.cons rfl (fun K hK => ?_) AllReadyH.nil
        go_simp
        go_wp2_with (go_at_call 24; refine (HLI.out _ (by exact hHeld)).mono ?_; rintro e wb ⟨G, rfl, b8⟩)
        cases G
        · refine hK.out _ _ (b8) (fun hHeld => ?_)
          clear hK K
          refine ht0 7 35 (v := ?v106) (fun _ => ?y106) hHeld ?_
          case y106 => go_simp; with_reducible rfl
          simp only [sn]
          refine ht0 8 36 (v := ?v107) (fun _ => ?y107) hHeld ?_
          case y107 => go_simp; with_reducible rfl
          simp only [sn]
          refine hu 9 37 hHeld ?_
          simp only [sn]
          refine hu 10 38 hHeld ?_
          simp only [sn]
          refine ht0 11 39 (v := ?v108) (fun _ => ?y108) hHeld ?_
          case y108 => go_simp; with_reducible rfl
          simp only [sn]
          refine ht0 12 40 (v := ?v109) (fun _ => ?y109) hHeld ?_
          case y109 => go_simp; with_reducible rfl
          simp only [sn]
          refine hu 13 41 hHeld ?_
          simp only [sn]
          refine hu 14 42 hHeld ?_
          simp only [sn]
          refine ht0 15 43 (v := ?v110) (fun _ => ?y110) hHeld ?_
          case y110 => go_simp; with_reducible rfl
          simp only [sn]
          refine ht0 16 44 (v := ?v111) (fun _ => ?y111) hHeld ?_
          case y111 => go_simp; with_reducible rfl
          simp only [sn]
          refine hu 17 45 hHeld ?_
          simp only [sn]
          refine hu 18 46 hHeld ?_
          simp only [sn]
          refine hu 19 47 hHeld ?_
          simp only [sn]
          refine ht0 20 48 (v := ?v112) (fun _ => ?y112) hHeld ?_
          case y112 => go_simp; with_reducible rfl
          simp only [sn]
          refine ht0 21 49 (v := ?v113) (fun _ => ?y113) hHeld ?_
          case y113 => go_simp; with_reducible rfl
          simp only [sn]
          refine hu 22 50 hHeld ?_
          simp only [sn]
          refine hu 23 51 hHeld ?_
          simp only [sn]
          refine hu 24 52 hHeld ?_
          simp only [sn]
          refine ht0 25 53 (v := ?v114) (fun _ => ?y114) hHeld ?_
          case y114 => go_simp; with_reducible rfl
          simp only [sn]
          refine ht0 26 54 (v := ?v115) (fun _ => ?y115) hHeld ?_
          case y115 => go_simp; with_reducible rfl
          simp only [sn]
          refine hu 27 55 hHeld ?_
          simp only [sn]
          refine hu 28 56 hHeld ?_
          simp only [sn]
          refine hu 29 57 hHeld ?_
          simp only [sn]
          refine ht0 30 58 (v := ?v116) (fun _ => ?y116) hHeld ?_
          case y116 => go_simp; with_reducible rfl
          simp only [sn]
          refine ht0 31 59 (v := ?v117) (fun _ => ?y117) hHeld ?_
          case y117 => go_simp; with_reducible rfl
          simp only [sn]
          refine hu 32 60 hHeld ?_
          simp only [sn]
          refine hu 33 61 hHeld ?_
          simp only [sn]
          refine hu 34 62 hHeld ?_
          simp only [sn]
          refine wpAnyH_ready (rs := [35]) (by kernel_rfl) (by simp) ?_
          refine AllReadyH.cons rfl (fun K hK => ?_) AllReadyH.nil
          go_simp
          refine hK.out _ _ hHeld (fun hHeld => ?_)
          clear hK K
          refine wpAnyH_done (by kernel_rfl) ?_ _
          go_wp2_with fail
          go_meet
          exact ⟨true, rfl, (fun e => by cases e), q9.next (hn1 ▸ hHeld), bb.trans ((hn1 ▸ hHeld : Below W2.heap.size W2 _).mono bb.size)⟩
        · refine hK.out _ _ (b8) (fun hHeld => ?_)
          clear hK K
          refine ht0 7 35 (v := ?v118) (fun _ => ?y118) hHeld ?_
          case y118 => go_simp; with_reducible rfl
          simp only [sn]
          refine ht0 8 36 (v := ?v119) (fun _ => ?y119) hHeld ?_
          case y119 => go_simp; with_reducible rfl
          simp only [sn]
          refine ht0 9 37 (v := ?v120) (fun _ => ?y120) hHeld ?_
          case y120 => go_simp; with_reducible rfl
          simp only [sn]
          refine ht0 10 38 (v := ?v121) (fun _ => ?y121) hHeld ?_
          case y121 => go_simp; with_reducible rfl
          simp only [sn]
          refine ht0 11 39 (v := ?v122) (fun _ => ?y122) hHeld ?_
          case y122 => go_simp; with_reducible rfl
          simp only [sn]
          refine ht0 12 40 (v := ?v123) (fun _ => ?y123) hHeld ?_
          case y123 => go_simp; with_reducible rfl
          simp only [sn]
          refine ht0 13 41 (v := ?v124) (fun _ => ?y124) hHeld ?_
          case y124 => go_simp; with_reducible rfl
          simp only [sn]
          refine ht0 14 42 (v := ?v125) (fun _ => ?y125) hHeld ?_
          case y125 => go_simp; with_reducible rfl
          simp only [sn]
          refine ht0 15 43 (v := ?v126) (fun _ => ?y126) hHeld ?_
          case y126 => go_simp; with_reducible rfl
          simp only [sn]
          refine ht0 16 44 (v := ?v127) (fun _ => ?y127) hHeld ?_
          case y127 => go_simp; with_reducible rfl
          simp only [sn]
          refine ht0 17 45 (v := ?v128) (fun _ => ?y128) hHeld ?_
          case y128 => go_simp; with_reducible rfl
          simp only [sn]
          refine ht0 18 46 (v := ?v129) (fun _ => ?y129) hHeld ?_
          case y129 => go_simp; with_reducible rfl
          simp only [sn]
          refine ht0 19 47 (v := ?v130) (fun _ => ?y130) hHeld ?_
          case y130 => go_simp; with_reducible rfl
          simp only [sn]
          refine ht0 20 48 (v := ?v131) (fun _ => ?y131) hHeld ?_
          case y131 => go_simp; with_reducible rfl
          simp only [sn]
          refine ht0 21 49 (v := ?v132) (fun _ => ?y132) hHeld ?_
          case y132 => go_simp; with_reducible rfl
          simp only [sn]
          refine ht0 22 50 (v := ?v133) (fun _ => ?y133) hHeld ?_
          case y133 => go_simp; with_reducible rfl
          simp only [sn]
          refine ht0 23 51 (v := ?v134) (fun _ => ?y134) hHeld ?_
          case y134 => go_simp; with_reducible rfl
          simp only [sn]
          refine ht0 24 52 (v := ?v135) (fun _ => ?y135) hHeld ?_
          case y135 => go_simp; with_reducible rfl
          simp only [sn]
          refine ht0 25 53 (v := ?v136) (fun _ => ?y136) hHeld ?_
          case y136 => go_simp; with_reducible rfl
          simp only [sn]
          refine ht0 26 54 (v := ?v137) (fun _ => ?y137) hHeld ?_
          case y137 => go_simp; with_reducible rfl
          simp only [sn]
          refine hu 27 55 hHeld ?_
          simp only [sn]
          refine hu 28 56 hHeld ?_
          simp only [sn]
          refine hu 29 57 hHeld ?_
          simp only [sn]
          refine ht0 30 58 (v := ?v138) (fun _ => ?y138) hHeld ?_
          case y138 => go_simp; with_reducible rfl
          simp only [sn]
          refine ht0 31 59 (v := ?v139) (fun _ => ?y139) hHeld ?_
          case y139 => go_simp; with_reducible rfl
          simp only [sn]
          refine hu 32 60 hHeld ?_
          simp only [sn]
          refine hu 33 61 hHeld ?_
          simp only [sn]
          refine hu 34 62 hHeld ?_
          simp only [sn]
          refine wpAnyH_ready (rs := [35]) (by kernel_rfl) (by simp) ?_
          refine AllReadyH.cons rfl (fun K hK => ?_) AllReadyH.nil
          go_simp
          refine hK.out _ _ hHeld (fun hHeld => ?_)
          clear hK K
          refine wpAnyH_done (by kernel_rfl) ?_ _
          go_wp2_with fail
          go_meet
          exact ⟨true, rfl, (fun e => by cases e), q9.next (hn1 ▸ hHeld), bb.trans ((hn1 ▸ hHeld : Below W2.heap.size W2 _).mono bb.size)⟩
    have dz3 : decide ((bn : Int) < 1) = false := decide_eq_false (by omega)
    have dn3 : decide (bn < 1) = false := decide_eq_false hq3
    by_cases hq4 : 20 < an
    · have dz4 : decide ((20 : Int) < (an : Int)) = true := decide_eq_true (by omega)
      have dn4 : decide (20 < an) = true := decide_eq_true hq4
      as_aux_lemma =>
        refine wp_region_held_drew (S := fun w' => Below n1 W2 w') (by kernel_rfl) ((hn1 ▸ (Below.refl _ _).drew)) (fun hHeld => ?_)
        refine ht 0 28 (v := ?v140) (fun _ hSw => ?y140) hHeld ?_
        case y140 => have q0 := hSw.at k0.out hltC; have q1 := hSw.at k1.out hltC; have q2 := hSw.at k2.out hltC; have q3 := hSw.at k3.out hltC; have q4 := hSw.at k4.out hltC; have q5 := hSw.at k5.out hltC; have q6 := hSw.at k6.out hltC; have q7 := hSw.at k7.out hltC; have q8 := hSw.at k8.out hltC; have q9 := hSw.at k9.out hltC; clear hSw; go_simp; with_reducible rfl
        simp only [sn]
        refine ht0 2 30 (v := ?v141) (fun _ => ?y141) hHeld ?_
        case y141 => go_simp; with_reducible rfl
        simp only [sn]
        refine ht 3 31 (v := ?v142) (fun _ hSw => ?y142) hHeld ?_
        case y142 => have q0 := hSw.at k1.out hltC; clear hSw; go_simp; with_reducible rfl
        simp only [sn]
        refine ht0 4 32 (v := ?v143) (fun _ => ?y143) hHeld ?_
        case y143 => go_simp; with_reducible rfl
        simp only [sn]
        refine ht 5 33 (v := ?v144) (fun _ hSw => ?y144) hHeld ?_
        case y144 => have q0 := hSw.at k2.out hltC; clear hSw; go_simp; with_reducible rfl
        simp only [sn]
        refine wpAnyH_ready (rs := [1]) (by kernel_rfl) (by simp) ?_
        refine AllReadyH.cons rfl (fun K hK => ?_) AllReadyH.nil
        go_simp
        go_wp2_with (go_at_call 25; refine (HSG.out _ (by exact hHeld)).mono ?_; rintro e wb ⟨rfl, b8⟩)
        refine hK.out _ _ (b8) (fun hHeld => ?_)
        clear hK K
        refine wpAnyH_ready (rs := [6]) (by kernel_rfl) (by simp) ?_
        refine AllReadyH.cons rfl (fun K hK => ?_) AllReadyH.nil
        go_simp
        go_wp2_with (go_at_call 24; refine (HLI.out _ (by exact hHeld)).mono ?_; rintro e wb ⟨G, rfl, b8⟩)
        cases G
        · refine hK.out _ _ (b8) (fun hHeld => ?_)
          clear hK K
          refine ht0 7 35 (v := ?v145) (fun _ => ?y145) hHeld ?_
          case y145 => go_simp; with_reducible rfl
          simp only [sn]
          refine ht0 8 36 (v := ?v146) (fun _ => ?y146) hHeld ?_
          case y146 => go_simp; with_reducible rfl
          simp only [sn]
          refine hu 9 37 hHeld ?_
          simp only [sn]
          refine hu 10 38 hHeld ?_
          simp only [sn]
          refine ht0 11 39 (v := ?v147) (fun _ => ?y147) hHeld ?_
          case y147 => go_simp; with_reducible rfl
          simp only [sn]
          refine ht0 12 40 (v := ?v148) (fun _ => ?y148) hHeld ?_
          case y148 => go_simp; with_reducible rfl
          simp only [sn]
          refine hu 13 41 hHeld ?_
          simp only [sn]
          refine hu 14 42 hHeld ?_
          simp only [sn]
          refine ht0 15 43 (v := ?v149) (fun _ => ?y149) hHeld ?_
          case y149 => go_simp; with_reducible rfl
          simp only [sn]
          refine ht0 16 44 (v := ?v150) (fun _ => ?y150) hHeld ?_
          case y150 => go_simp; with_reducible rfl
          simp only [sn]
          refine hu 17 45 hHeld ?_
          simp only [sn]
          refine hu 18 46 hHeld ?_
          simp only [sn]
          refine hu 19 47 hHeld ?_
          simp only [sn]
          refine ht0 20 48 (v := ?v151) (fun _ => ?y151) hHeld ?_
          case y151 => go_simp; with_reducible rfl
          simp only [sn]
          refine ht0 21 49 (v := ?v152) (fun _ => ?y152) hHeld ?_
          case y152 => go_simp; with_reducible rfl
          simp only [sn]
          refine hu 22 50 hHeld ?_
          simp only [sn]
          refine hu 23 51 hHeld ?_
          simp only [sn]
          refine hu 24 52 hHeld ?_
          simp only [sn]
          refine ht0 25 53 (v := ?v153) (fun _ => ?y153) hHeld ?_
          case y153 => go_simp; with_reducible rfl
          simp only [sn]
          refine ht0 26 54 (v := ?v154) (fun _ => ?y154) hHeld ?_
          case y154 => go_simp; with_reducible rfl
          simp only [sn]
          refine hu 27 55 hHeld ?_
          simp only [sn]
          refine hu 28 56 hHeld ?_
          simp only [sn]
          refine hu 29 57 hHeld ?_
          simp only [sn]
          refine ht0 30 58 (v := ?v155) (fun _ => ?y155) hHeld ?_
          case y155 => go_simp; with_reducible rfl
          simp only [sn]
          refine ht0 31 59 (v := ?v156) (fun _ => ?y156) hHeld ?_
          case y156 => go_simp; with_reducible rfl
          simp only [sn]
          refine hu 32 60 hHeld ?_
          simp only [sn]
          refine hu 33 61 hHeld ?_
          simp only [sn]
          refine hu 34 62 hHeld ?_
          simp only [sn]
          refine wpAnyH_ready (rs := [35]) (by kernel_rfl) (by simp) ?_
          refine AllReadyH.cons rfl (fun K hK => ?_) AllReadyH.nil
          go_simp
          refine hK.out _ _ hHeld (fun hHeld => ?_)
          clear hK K
          refine wpAnyH_done (by kernel_rfl) ?_ _
          go_wp2_with fail
          go_meet
          exact ⟨true, rfl, (fun e => by cases e), q9.next (hn1 ▸ hHeld), bb.trans ((hn1 ▸ hHeld : Below W2.heap.size W2 _).mono bb.size)⟩
        · refine hK.out _ _ (b8) (fun hHeld => ?_)
          clear hK K
          refine ht0 7 35 (v := ?v157) (fun _ => ?y157) hHeld ?_
          case y157 => go_simp; with_reducible rfl
          simp only [sn]
          refine ht0 8 36 (v := ?v158) (fun _ => ?y158) hHeld ?_
          case y158 => go_simp; with_reducible rfl
          simp only [sn]
          refine ht0 9 37 (v := ?v159) (fun _ => ?y159) hHeld ?_
          case y159 => go_simp; with_reducible rfl
          simp only [sn]
          refine ht0 10 38 (v := ?v160) (fun _ => ?y160) hHeld ?_
          case y160 => go_simp; with_reducible rfl
          simp only [sn]
          refine ht0 11 39 (v := ?v161) (fun _ => ?y161) hHeld ?_
          case y161 => go_simp; with_reducible rfl
          simp only [sn]
          refine ht0 12 40 (v := ?v162) (fun _ => ?y162) hHeld ?_
          case y162 => go_simp; with_reducible rfl
          simp only [sn]
          refine ht0 13 41 (v := ?v163) (fun _ => ?y163) hHeld ?_
          case y163 => go_simp; with_reducible rfl
          simp only [sn]
          refine ht0 14 42 (v := ?v164) (fun _ => ?y164) hHeld ?_
          case y164 => go_simp; with_reducible rfl
          simp only [sn]
          refine ht0 15 43 (v := ?v165) (fun _ => ?y165) hHeld ?_
          case y165 => go_simp; with_reducible rfl
          simp only [sn]
          refine ht0 16 44 (v := ?v166) (fun _ => ?y166) hHeld ?_
          case y166 => go_simp; with_reducible rfl
          simp only [sn]
          refine ht0 17 45 (v := ?v167) (fun _ => ?y167) hHeld ?_
          case y167 => go_simp; with_reducible rfl
          simp only [sn]
          refine ht0 18 46 (v := ?v168) (fun _ => ?y168) hHeld ?_
          case y168 => go_simp; with_reducible rfl
          simp only [sn]
          refine ht0 19 47 (v := ?v169) (fun _ => ?y169) hHeld ?_
          case y169 => go_simp; with_reducible rfl
          simp only [sn]
          refine ht0 20 48 (v := ?v170) (fun _ => ?y170) hHeld ?_
          case y170 => go_simp; with_reducible rfl
          simp only [sn]
          refine ht0 21 49 (v := ?v171) (fun _ => ?y171) hHeld ?_
          case y171 => go_simp; with_reducible rfl
          simp only [sn]
          refine ht0 22 50 (v := ?v172) (fun _ => ?y172) hHeld ?_
          case y172 => go_simp; with_reducible rfl
          simp only [sn]
          refine ht0 23 51 (v := ?v173) (fun _ => ?y173) hHeld ?_
          case y173 => go_simp; with_reducible rfl
          simp only [sn]
          refine ht0 24 52 (v := ?v174) (fun _ => ?y174) hHeld ?_
          case y174 => go_simp; with_reducible rfl
          simp only [sn]
          refine ht0 25 53 (v := ?v175) (fun _ => ?y175) hHeld ?_
          case y175 => go_simp; with_reducible rfl
          simp only [sn]
          refine ht0 26 54 (v := ?v176) (fun _ => ?y176) hHeld ?_
          case y176 => go_simp; with_reducible rfl
          simp only [sn]
          refine ht0 27 55 (v := ?v177) (fun _ => ?y177) hHeld ?_
          case y177 => go_simp; with_reducible rfl
          simp only [sn]
          refine ht0 28 56 (v := ?v178) (fun _ => ?y178) hHeld ?_
          case y178 => go_simp; with_reducible rfl
          simp only [sn]
          refine ht0 29 57 (v := ?v179) (fun _ => ?y179) hHeld ?_
          case y179 => go_simp; with_reducible rfl
          simp only [sn]
          refine ht0 30 58 (v := ?v180) (fun _ => ?y180) hHeld ?_
          case y180 => go_simp; with_reducible rfl
          simp only [sn]
          refine ht0 31 59 (v := ?v181) (fun _ => ?y181) hHeld ?_
          case y181 => go_simp; with_reducible rfl
          simp only [sn]
          refine hu 32 60 hHeld ?_
          simp only [sn]
          refine hu 33 61 hHeld ?_
          simp only [sn]
          refine hu 34 62 hHeld ?_
          simp only [sn]
          refine wpAnyH_ready (rs := [35]) (by kernel_rfl) (by simp) ?_
          refine AllReadyH.cons rfl (fun K hK => ?_) AllReadyH.nil
          go_simp
          refine hK.out _ _ hHeld (fun hHeld => ?_)
          clear hK K
          refine wpAnyH_done (by kernel_rfl) ?_ _
          go_wp2_with fail
          go_meet
          exact ⟨true, rfl, (fun e => by cases e), q9.next (hn1 ▸ hHeld), bb.trans ((hn1 ▸ hHeld : Below W2.heap.size W2 _).mono bb.size)⟩
    have dz4 : decide ((20 : Int) < (an : Int)) = false := decide_eq_false (by omega)
    have dn4 : decide (20 < an) = false := decide_eq_false hq4
    by_cases hq5 : 20 < bn
    · have dz5 : decide ((20 : Int) < (bn : Int)) = true := decide_eq_true (by omega)
      have dn5 : decide (20 < bn) = true := decide_eq_true hq5
      as_aux_lemma =>
        refine wp_region_held_drew (S := fun w' => Below n1 W2 w') (by kernel_rfl) ((hn1 ▸ (Below.refl _ _).drew)) (fun hHeld => ?_)
        refine ht 0 28 (v := ?v182) (fun _ hSw => ?y182) hHeld ?_
        case y182 => have q0 := hSw.at k0.out hltC; have q1 := hSw.at k1.out hltC; have q2 := hSw.at k2.out hltC; have q3 := hSw.at k3.out hltC; have q4 := hSw.at k4.out hltC; have q5 := hSw.at k5.out hltC; have q6 := hSw.at k6.out hltC; have q7 := hSw.at k7.out hltC; have q8 := hSw.at k8.out hltC; have q9 := hSw.at k9.out hltC; clear hSw; go_simp; with_reducible rfl
        simp only [sn]
        refine ht0 2 30 (v := ?v183) (fun _ => ?y183) hHeld ?_
        case y183 => go_simp; with_reducible rfl
        simp only [sn]
        refine ht 3 31 (v := ?v184) (fun _ hSw => ?y184) hHeld ?_
        case y184 => have q0 := hSw.at k1.out hltC; clear hSw; go_simp; with_reducible rfl
        simp only [sn]
        refine ht0 4 32 (v := ?v185) (fun _ => ?y185) hHeld ?_
        case y185 => go_simp; with_reducible rfl
        simp only [sn]
        refine ht 5 33 (v := ?v186) (fun _ hSw => ?y186) hHeld ?_
        case y186 => have q0 := hSw.at k2.out hltC; clear hSw; go_simp; with_reducible rfl
        simp only [sn]
        refine wpAnyH_ready (rs := [1]) (by kernel_rfl) (by simp) ?_
        refine AllReadyH.cons rfl (fun K hK => ?_) AllReadyH.nil
        go_simp
        go_wp2_with (go_at_call 25; refine (HSG.out _ (by exact hHeld)).mono ?_; rintro e wb ⟨rfl, b8⟩)
        refine hK.out _ _ (b8) (fun hHeld => ?_)
        clear hK K
        refine wpAnyH_ready (rs := [6]) (by kernel_rfl) (by simp) ?_
        refine AllReadyH.cons rfl (fun K hK => ?_) AllReadyH.nil
        go_simp
        go_wp2_with (go_at_call 24; refine (HLI.out _ (by exact hHeld)).mono ?_; rintro e wb ⟨G, rfl, b8⟩)
        cases G
        · refine hK.out _ _ (b8) (fun hHeld => ?_)
          clear hK K
          refine ht0 7 35 (v := ?v187) (fun _ => ?y187) hHeld ?_
          case y187 => go_simp; with_reducible rfl
          simp only [sn]
          refine ht0 8 36 (v := ?v188) (fun _ => ?y188) hHeld ?_
          case y188 => go_simp; with_reducible rfl
          simp only [sn]
          refine hu 9 37 hHeld ?_
          simp only [sn]
          refine hu 10 38 hHeld ?_
          simp only [sn]
          refine ht0 11 39 (v := ?v189) (fun _ => ?y189) hHeld ?_
          case y189 => go_simp; with_reducible rfl
          simp only [sn]
          refine ht0 12 40 (v := ?v190) (fun _ => ?y190) hHeld ?_
          case y190 => go_simp; with_reducible rfl
          simp only [sn]
          refine hu 13 41 hHeld ?_
          simp only [sn]
          refine hu 14 42 hHeld ?_
          simp only [sn]
          refine ht0 15 43 (v := ?v191) (fun _ => ?y191) hHeld ?_
          case y191 => go_simp; with_reducible rfl
          simp only [sn]
          refine ht0 16 44 (v := ?v192) (fun _ => ?y192) hHeld ?_
          case y192 => go_simp; with_reducible rfl
          simp only [sn]
          refine hu 17 45 hHeld ?_
          simp only [sn]
          refine hu 18 46 hHeld ?_
          simp only [sn]
          refine hu 19 47 hHeld ?_
          simp only [sn]
          refine ht0 20 48 (v := ?v193) (fun _ => ?y193) hHeld ?_
          case y193 => go_simp; with_reducible rfl
          simp only [sn]
          refine ht0 21 49 (v := ?v194) (fun _ => ?y194) hHeld ?_
          case y194 => go_simp; with_reducible rfl
          simp only [sn]
          refine hu 22 50 hHeld ?_
          simp only [sn]
          refine hu 23 51 hHeld ?_
          simp only [sn]
          refine hu 24 52 hHeld ?_
          simp only [sn]
          refine ht0 25 53 (v := ?v195) (fun _ => ?y195) hHeld ?_
          case y195 => go_simp; with_reducible rfl
          simp only [sn]
          refine ht0 26 54 (v := ?v196) (fun _ => ?y196) hHeld ?_
          case y196 => go_simp; with_reducible rfl
          simp only [sn]
          refine hu 27 55 hHeld ?_
          simp only [sn]
          refine hu 28 56 hHeld ?_
          simp only [sn]
          refine hu 29 57 hHeld ?_
          simp only [sn]
          refine ht0 30 58 (v := ?v197) (fun _ => ?y197) hHeld ?_
          case y197 => go_simp; with_reducible rfl
          simp only [sn]
          refine ht0 31 59 (v := ?v198) (fun _ => ?y198) hHeld ?_
          case y198 => go_simp; with_reducible rfl
          simp only [sn]
          refine hu 32 60 hHeld ?_
          simp only [sn]
          refine hu 33 61 hHeld ?_
          simp only [sn]
          refine hu 34 62 hHeld ?_
          simp only [sn]
          refine wpAnyH_ready (rs := [35]) (by kernel_rfl) (by simp) ?_
          refine AllReadyH.cons rfl (fun K hK => ?_) AllReadyH.nil
          go_simp
          refine hK.out _ _ hHeld (fun hHeld => ?_)
          clear hK K
          refine wpAnyH_done (by kernel_rfl) ?_ _
          go_wp2_with fail
          go_meet
          exact ⟨true, rfl, (fun e => by cases e), q9.next (hn1 ▸ hHeld), bb.trans ((hn1 ▸ hHeld : Below W2.heap.size W2 _).mono bb.size)⟩
        · refine hK.out _ _ (b8) (fun hHeld => ?_)
          clear hK K
          refine ht0 7 35 (v := ?v199) (fun _ => ?y199) hHeld ?_
          case y199 => go_simp; with_reducible rfl
          simp only [sn]
          refine ht0 8 36 (v := ?v200) (fun _ => ?y200) hHeld ?_
          case y200 => go_simp; with_reducible rfl
          simp only [sn]
          refine ht0 9 37 (v := ?v201) (fun _ => ?y201) hHeld ?_
          case y201 => go_simp; with_reducible rfl
          simp only [sn]
          refine ht0 10 38 (v := ?v202) (fun _ => ?y202) hHeld ?_
          case y202 => go_simp; with_reducible rfl
          simp only [sn]
          refine ht0 11 39 (v := ?v203) (fun _ => ?y203) hHeld ?_
          case y203 => go_simp; with_reducible rfl
          simp only [sn]
          refine ht0 12 40 (v := ?v204) (fun _ => ?y204) hHeld ?_
          case y204 => go_simp; with_reducible rfl
          simp only [sn]
          refine ht0 13 41 (v := ?v205) (fun _ => ?y205) hHeld ?_
          case y205 => go_simp; with_reducible rfl
          simp only [sn]
          refine ht0 14 42 (v := ?v206) (fun _ => ?y206) hHeld ?_
          case y206 => go_simp; with_reducible rfl
          simp only [sn]
          refine ht0 15 43 (v := ?v207) (fun _ => ?y207) hHeld ?_
          case y207 => go_simp; with_reducible rfl
          simp only [sn]
          refine ht0 16 44 (v := ?v208) (fun _ => ?y208) hHeld ?_
          case y208 => go_simp; with_reducible rfl
          simp only [sn]
          refine ht0 17 45 (v := ?v209) (fun _ => ?y209) hHeld ?_
          case y209 => go_simp; with_reducible rfl
          simp only [sn]
          refine ht0 18 46 (v := ?v210) (fun _ => ?y210) hHeld ?_
          case y210 => go_simp; with_reducible rfl
          simp only [sn]
          refine ht0 19 47 (v := ?v211) (fun _ => ?y211) hHeld ?_
          case y211 => go_simp; with_reducible rfl
          simp only [sn]
          refine ht0 20 48 (v := ?v212) (fun _ => ?y212) hHeld ?_
          case y212 => go_simp; with_reducible rfl
          simp only [sn]
          refine ht0 21 49 (v := ?v213) (fun _ => ?y213) hHeld ?_
          case y213 => go_simp; with_reducible rfl
          simp only [sn]
          refine ht0 22 50 (v := ?v214) (fun _ => ?y214) hHeld ?_
          case y214 => go_simp; with_reducible rfl
          simp only [sn]
          refine ht0 23 51 (v := ?v215) (fun _ => ?y215) hHeld ?_
          case y215 => go_simp; with_reducible rfl
          simp only [sn]
          refine ht0 24 52 (v := ?v216) (fun _ => ?y216) hHeld ?_
          case y216 => go_simp; with_reducible rfl
          simp only [sn]
          refine ht0 25 53 (v := ?v217) (fun _ => ?y217) hHeld ?_
          case y217 => go_simp; with_reducible rfl
          simp only [sn]
          refine ht0 26 54 (v := ?v218) (fun _ => ?y218) hHeld ?_
          case y218 => go_simp; with_reducible rfl
          simp only [sn]
          refine ht0 27 55 (v := ?v219) (fun _ => ?y219) hHeld ?_
          case y219 => go_simp; with_reducible rfl
          simp only [sn]
          refine ht0 28 56 (v := ?v220) (fun _ => ?y220) hHeld ?_
          case y220 => go_simp; with_reducible rfl
          simp only [sn]
          refine ht0 29 57 (v := ?v221) (fun _ => ?y221) hHeld ?_
          case y221 => go_simp; with_reducible rfl
          simp only [sn]
          refine ht0 30 58 (v := ?v222) (fun _ => ?y222) hHeld ?_
          case y222 => go_simp; with_reducible rfl
          simp only [sn]
          refine ht0 31 59 (v := ?v223) (fun _ => ?y223) hHeld ?_
          case y223 => go_simp; with_reducible rfl
          simp only [sn]
          refine ht0 32 60 (v := ?v224) (fun _ => ?y224) hHeld ?_
          case y224 => go_simp; with_reducible rfl
          simp only [sn]
          refine ht0 33 61 (v := ?v225) (fun _ => ?y225) hHeld ?_
          case y225 => go_simp; with_reducible rfl
          simp only [sn]
          refine ht0 34 62 (v := ?v226) (fun _ => ?y226) hHeld ?_
          case y226 => go_simp; with_reducible rfl
          simp only [sn]
          refine wpAnyH_ready (rs := [35]) (by kernel_rfl) (by simp) ?_
          refine AllReadyH.cons rfl (fun K hK => ?_) AllReadyH.nil
          go_simp
          refine hK.out _ _ hHeld (fun hHeld => ?_)
          clear hK K
          refine wpAnyH_done (by kernel_rfl) ?_ _
          go_wp2_with fail
          go_meet
          exact ⟨true, rfl, (fun e => by cases e), q9.next (hn1 ▸ hHeld), bb.trans ((hn1 ▸ hHeld : Below W2.heap.size W2 _).mono bb.size)⟩
    have dz5 : decide ((20 : Int) < (bn : Int)) = false := decide_eq_false (by omega)
    have dn5 : decide (20 < bn) = false := decide_eq_false hq5
    have hKP : (0 ≤ seq ∧ seq < 1073741824) ∧ (1 ≤ an ∧ an ≤ 20) ∧ (1 ≤ bn ∧ bn ≤ 20) := by omega
    as_aux_lemma =>
      refine wp_region_held_drew (S := fun w' => Below n1 W2 w') (by kernel_rfl) ((hn1 ▸ (Below.refl _ _).drew)) (fun hHeld => ?_)
      refine ht 0 28 (v := ?v227) (fun _ hSw => ?y227) hHeld ?_
      case y227 => have q0 := hSw.at k0.out hltC; have q1 := hSw.at k1.out hltC; have q2 := hSw.at k2.out hltC; have q3 := hSw.at k3.out hltC; have q4 := hSw.at k4.out hltC; have q5 := hSw.at k5.out hltC; have q6 := hSw.at k6.out hltC; have q7 := hSw.at k7.out hltC; have q8 := hSw.at k8.out hltC; have q9 := hSw.at k9.out hltC; clear hSw; go_simp; with_reducible rfl
      simp only [sn]
      refine ht0 2 30 (v := ?v228) (fun _ => ?y228) hHeld ?_
      case y228 => go_simp; with_reducible rfl
      simp only [sn]
      refine ht 3 31 (v := ?v229) (fun _ hSw => ?y229) hHeld ?_
      case y229 => have q0 := hSw.at k1.out hltC; clear hSw; go_simp; with_reducible rfl
      simp only [sn]
      refine ht0 4 32 (v := ?v230) (fun _ => ?y230) hHeld ?_
      case y230 => go_simp; with_reducible rfl
      simp only [sn]
      refine ht 5 33 (v := ?v231) (fun _ hSw => ?y231) hHeld ?_
      case y231 => have q0 := hSw.at k2.out hltC; clear hSw; go_simp; with_reducible rfl
      simp only [sn]
      refine wpAnyH_ready (rs := [1]) (by kernel_rfl) (by simp) ?_
      refine AllReadyH.cons rfl (fun K hK => ?_) AllReadyH.nil
      go_simp
      go_wp2_with (go_at_call 25; refine (HSG.out _ (by exact hHeld)).mono ?_; rintro e wb ⟨rfl, b8⟩)
      refine hK.out _ _ (b8) (fun hHeld => ?_)
      clear hK K
      refine wpAnyH_ready (rs := [6]) (by kernel_rfl) (by simp) ?_
      refine AllReadyH.cons rfl (fun K hK => ?_) AllReadyH.nil
      go_simp
      go_wp2_with (go_at_call 24; refine (HLI.out _ (by exact hHeld)).mono ?_; rintro e wb ⟨G, rfl, b8⟩)
      cases G
      · refine hK.out _ _ (b8) (fun hHeld => ?_)
        clear hK K
        refine ht0 7 35 (v := ?v232) (fun _ => ?y232) hHeld ?_
        case y232 => go_simp; with_reducible rfl
        simp only [sn]
        refine ht0 8 36 (v := ?v233) (fun _ => ?y233) hHeld ?_
        case y233 => go_simp; with_reducible rfl
        simp only [sn]
        refine hu 9 37 hHeld ?_
        simp only [sn]
        refine hu 10 38 hHeld ?_
        simp only [sn]
        refine ht0 11 39 (v := ?v234) (fun _ => ?y234) hHeld ?_
        case y234 => go_simp; with_reducible rfl
        simp only [sn]
        refine ht0 12 40 (v := ?v235) (fun _ => ?y235) hHeld ?_
        case y235 => go_simp; with_reducible rfl
        simp only [sn]
        refine hu 13 41 hHeld ?_
        simp only [sn]
        refine hu 14 42 hHeld ?_
        simp only [sn]
        refine ht0 15 43 (v := ?v236) (fun _ => ?y236) hHeld ?_
        case y236 => go_simp; with_reducible rfl
        simp only [sn]
        refine ht0 16 44 (v := ?v237) (fun _ => ?y237) hHeld ?_
        case y237 => go_simp; with_reducible rfl
        simp only [sn]
        refine hu 17 45 hHeld ?_
        simp only [sn]
        refine hu 18 46 hHeld ?_
        simp only [sn]
        refine hu 19 47 hHeld ?_
        simp only [sn]
        refine ht0 20 48 (v := ?v238) (fun _ => ?y238) hHeld ?_
        case y238 => go_simp; with_reducible rfl
        simp only [sn]
        refine ht0 21 49 (v := ?v239) (fun _ => ?y239) hHeld ?_
        case y239 => go_simp; with_reducible rfl
        simp only [sn]
        refine hu 22 50 hHeld ?_
        simp only [sn]
        refine hu 23 51 hHeld ?_
        simp only [sn]
        refine hu 24 52 hHeld ?_
        simp only [sn]
        refine ht0 25 53 (v := ?v240) (fun _ => ?y240) hHeld ?_
        case y240 => go_simp; with_reducible rfl
        simp only [sn]
        refine ht0 26 54 (v := ?v241) (fun _ => ?y241) hHeld ?_
        case y241 => go_simp; with_reducible rfl
        simp only [sn]
        refine hu 27 55 hHeld ?_
        simp only [sn]
        refine hu 28 56 hHeld ?_
        simp only [sn]
        refine hu 29 57 hHeld ?_
        simp only [sn]
        refine ht0 30 58 (v := ?v242) (fun _ => ?y242) hHeld ?_
        case y242 => go_simp; with_reducible rfl
        simp only [sn]
        refine ht0 31 59 (v := ?v243) (fun _ => ?y243) hHeld ?_
        case y243 => go_simp; with_reducible rfl
        simp only [sn]
        refine hu 32 60 hHeld ?_
        simp only [sn]
        refine hu 33 61 hHeld ?_
        simp only [sn]
        refine hu 34 62 hHeld ?_
        simp only [sn]
        refine wpAnyH_ready (rs := [35]) (by kernel_rfl) (by simp) ?_
        refine AllReadyH.cons rfl (fun K hK => ?_) AllReadyH.nil
        go_simp
        refine hK.out _ _ hHeld (fun hHeld => ?_)
        clear hK K
        refine wpAnyH_done (by kernel_rfl) ?_ _
        go_wp2_with fail
        go_meet
        exact ⟨true, rfl, (fun e => by cases e), q9.next (hn1 ▸ hHeld), bb.trans ((hn1 ▸ hHeld : Below W2.heap.size W2 _).mono bb.size)⟩
      · refine hK.out _ _ (b8) (fun hHeld => ?_)
        clear hK K
        refine ht0 7 35 (v := ?v244) (fun _ => ?y244) hHeld ?_
        case y244 => go_simp; with_reducible rfl
        simp only [sn]
        refine ht0 8 36 (v := ?v245) (fun _ => ?y245) hHeld ?_
        case y245 => go_simp; with_reducible rfl
        simp only [sn]
        refine ht0 9 37 (v := ?v246) (fun _ => ?y246) hHeld ?_
        case y246 => go_simp; with_reducible rfl
        simp only [sn]
        refine ht0 10 38 (v := ?v247) (fun _ => ?y247) hHeld ?_
        case y247 => go_simp; with_reducible rfl
        simp only [sn]
        refine ht0 11 39 (v := ?v248) (fun _ => ?y248) hHeld ?_
        case y248 => go_simp; with_reducible rfl
        simp only [sn]
        refine ht0 12 40 (v := ?v249) (fun _ => ?y249) hHeld ?_
        case y249 => go_simp; with_reducible rfl
        simp only [sn]
        refine ht0 13 41 (v := ?v250) (fun _ => ?y250) hHeld ?_
        case y250 => go_simp; with_reducible rfl
        simp only [sn]
        refine ht0 14 42 (v := ?v251) (fun _ => ?y251) hHeld ?_
        case y251 => go_simp; with_reducible rfl
        simp only [sn]
        refine ht0 15 43 (v := ?v252) (fun _ => ?y252) hHeld ?_
        case y252 => go_simp; with_reducible rfl
        simp only [sn]
        refine ht0 16 44 (v := ?v253) (fun _ => ?y253) hHeld ?_
        case y253 => go_simp; with_reducible rfl
        simp only [sn]
        refine ht0 17 45 (v := ?v254) (fun _ => ?y254) hHeld ?_
        case y254 => go_simp; with_reducible rfl
        simp only [sn]
        refine ht0 18 46 (v := ?v255) (fun _ => ?y255) hHeld ?_
        case y255 => go_simp; with_reducible rfl
        simp only [sn]
        refine ht0 19 47 (v := ?v256) (fun _ => ?y256) hHeld ?_
        case y256 => go_simp; with_reducible rfl
        simp only [sn]
        refine ht0 20 48 (v := ?v257) (fun _ => ?y257) hHeld ?_
        case y257 => go_simp; with_reducible rfl
        simp only [sn]
        refine ht0 21 49 (v := ?v258) (fun _ => ?y258) hHeld ?_
        case y258 => go_simp; with_reducible rfl
        simp only [sn]
        refine ht0 22 50 (v := ?v259) (fun _ => ?y259) hHeld ?_
        case y259 => go_simp; with_reducible rfl
        simp only [sn]
        refine ht0 23 51 (v := ?v260) (fun _ => ?y260) hHeld ?_
        case y260 => go_simp; with_reducible rfl
        simp only [sn]
        refine ht0 24 52 (v := ?v261) (fun _ => ?y261) hHeld ?_
        case y261 => go_simp; with_reducible rfl
        simp only [sn]
        refine ht0 25 53 (v := ?v262) (fun _ => ?y262) hHeld ?_
        case y262 => go_simp; with_reducible rfl
        simp only [sn]
        refine ht0 26 54 (v := ?v263) (fun _ => ?y263) hHeld ?_
        case y263 => go_simp; with_reducible rfl
        simp only [sn]
        refine ht0 27 55 (v := ?v264) (fun _ => ?y264) hHeld ?_
        case y264 => go_simp; with_reducible rfl
        simp only [sn]
        refine ht0 28 56 (v := ?v265) (fun _ => ?y265) hHeld ?_
        case y265 => go_simp; with_reducible rfl
        simp only [sn]
        refine ht0 29 57 (v := ?v266) (fun _ => ?y266) hHeld ?_
        case y266 => go_simp; with_reducible rfl
        simp only [sn]
        refine ht0 30 58 (v := ?v267) (fun _ => ?y267) hHeld ?_
        case y267 => go_simp; with_reducible rfl
        simp only [sn]
        refine ht0 31 59 (v := ?v268) (fun _ => ?y268) hHeld ?_
        case y268 => go_simp; with_reducible rfl
        simp only [sn]
        refine ht0 32 60 (v := ?v269) (fun _ => ?y269) hHeld ?_
        case y269 => go_simp; with_reducible rfl
        simp only [sn]
        refine ht0 33 61 (v := ?v270) (fun _ => ?y270) hHeld ?_
        case y270 => go_simp; with_reducible rfl
        simp only [sn]
        refine ht0 34 62 (v := ?v271) (fun _ => ?y271) hHeld ?_
        case y271 => go_simp; with_reducible rfl
        simp only [sn]
        refine wpAnyH_ready (rs := [35]) (by kernel_rfl) (by simp) ?_
        refine AllReadyH.cons rfl (fun K hK => ?_) AllReadyH.nil
        go_simp
        refine hK.out _ _ hHeld (fun hHeld => ?_)
        clear hK K
        refine wpAnyH_done (by kernel_rfl) ?_ _
        go_wp2_with fail
        go_meet
        exact ⟨false, rfl, (fun _ => hKP), q9.next (hn1 ▸ hHeld), bb.trans ((hn1 ▸ hHeld : Below W2.heap.size W2 _).mono bb.size)⟩
  case rest =>
    clear q9 bb hn1 hltC HSG HLI  k0 k1 k2 k3 k4 k5 k6 k7 k8 k9
    obtain ⟨G, rfl, hG0, xC, bb⟩ := hcut
    generalize wc = w2 at *
    cases G with
    | true =>
      go_wp2
      go_ret
      exact ⟨rfl, bb⟩
    | false =>
      have hKP := hG0 rfl
      clear hG0 hC S
      have hmost := small_most hSm
      have hhd := headOk_conf HC.out
      have hnp : segsC c * c.cPass = mostC c := rfl
      obtain ⟨fr, hfr, fr0, fr1⟩ := mod_u64 from0 40 (by decide) (by decide)
      obtain ⟨ot, hot, ot0, ot1⟩ := mod_u64 other0 40 (by decide) (by decide)
      obtain ⟨ro, hro, ro0, ro1⟩ := mod_u64 round0 255 (by decide) (by decide)
      have HX : Hid (Holds .u8 w.heap.size w (.slice aa an ac) xs) := hX
      have HY : Hid (Holds .u8 w.heap.size w (.slice ba bn bcp) ys) := hY
      have HF0 : Hid (Firsts w) := hF
      have HXN : Hid (xs.length = an) := hxn
      have HYN : Hid (ys.length = bn) := hyn
      have HBX : Hid (∀ z ∈ xs, 0 ≤ z ∧ z ≤ 255) := bx
      have HBY : Hid (∀ z ∈ ys, 0 ≤ z ∧ z ≤ 255) := by_
      have HR1 : Hid (RightD seq ro fr xs) := (⟨hKP.1, by omega, by omega, by omega, by omega⟩ : RightD seq ro fr xs)
      have HR2 : Hid (RightD seq (ro + 1) ot ys) := (⟨hKP.1, by omega, by omega, by omega, by omega⟩ : RightD seq (ro + 1) ot ys)
      have HR3 : Hid (RightD seq ro ot ys) := (⟨hKP.1, by omega, by omega, by omega, by omega⟩ : RightD seq ro ot ys)
      have w1_ : IntKind.i64.wrap (ro + 1) = ro + 1 := by rw [IntKind.wrap_i64]; omega
      have HSQ : Hid (0 ≤ seq) := hKP.1.1
      have HL1 : Hid ((putsL (segsC c) c.cPass [] fr xs).length = an) := by have := (puts_new hhd fr0 HBX.out (by omega)).1; rw [HXN.out] at this; exact this
      have HL2 : Hid ((putsL (segsC c) c.cPass [] ot ys).length = bn) := by have := (puts_new hhd ot0 HBY.out (by omega)).1; rw [HYN.out] at this; exact this
      obtain ⟨y0, yt, hy0⟩ : ∃ y t, ys = y :: t := by
        rcases ys with _ | ⟨y, t⟩
        · exfalso; simp only [List.length_nil] at hyn; omega
        · exact ⟨y, t, rfl⟩
      have HY0 : Hid ((putsL (segsC c) c.cPass [] ot ys)[0]? = some (ot, y0)) := by have h8 := HBY.out; have h9 : ot + (ys.length : Int) ≤ segsC c * c.cPass := (by omega); rw [hy0] at h8 h9 ⊢; exact puts_first hhd ot0 h8 h9
      have HYF : Hid (ys[0]? = some y0) := by rw [hy0]; rfl
      have HL3 : Hid ((putsL (segsC c) c.cPass (putsL (segsC c) c.cPass [] fr xs) ot ys).length + within ot (ot + (bn : Int)) fr an = an + bn) := by have := puts_more hhd fr0 ot0 HBX.out HBY.out (by omega) (by omega); rw [HXN.out, HYN.out] at this; exact this
      have HK2 : Hid ((1 ≤ an ∧ an ≤ 20) ∧ 1 ≤ bn ∧ bn ≤ 20) := hKP.2
      clear hy0 hmost hhd hnp hX hY hF hxn hyn bx by_ hKP hSm
      have lxC := xC.lt
      have cxC0 := xC.cell 0 _ rfl
      have cxC1 := xC.cell 1 _ rfl
      have cxC2 := xC.cell 2 _ rfl
      have cxC3 := xC.cell 3 _ rfl
      have cxC4 := xC.cell 4 _ rfl
      have cxC5 := xC.cell 5 _ rfl
      have cxC6 := xC.cell 6 _ rfl
      have cxC7 := xC.cell 7 _ rfl
      have cxC8 := xC.cell 8 _ rfl
      have cxC9 := xC.cell 9 _ rfl
      go_wp2_with fail
      refine (newV c HC.out seq HSQ.out _).mono ?_
      rintro e w3 ⟨N, P, a1, cap1, b1, bc1, rfl, h1, b9⟩
      clear cxC0 cxC1 cxC2 cxC3 cxC4 cxC5 cxC6 cxC7 cxC8 cxC9
      replace xC := xC.next b9
      replace bb := bb.trans (b9.mono bb.size)
      clear b9
      clear lxC
      have b9 : Below w3.heap.size w3 (w3.alloc (.cells #[.int .i64 seq, .int .i64 (-1), .int .i64 N, .int .i64 P, .slice a1 0 cap1, .bool false, .slice b1 0 bc1] 29)) := (Below.refl _ _).alloc (Nat.le_refl _) _
      have x15 := Box.new w3 29 #[.int .i64 seq, .int .i64 (-1), .int .i64 N, .int .i64 P, .slice a1 0 cap1, .bool false, .slice b1 0 bc1]
      replace xC := xC.next b9
      replace h1 := h1.next b9
      replace bb := bb.trans (b9.mono bb.size)
      clear b9
      go_upto_region 6 with fail
      obtain ⟨B15, hB15⟩ : ∃ B, w3.heap.size = B := ⟨_, rfl⟩
      rw [hB15] at x15 ⊢
      clear hB15
      generalize w3.alloc (.cells #[.int .i64 seq, .int .i64 (-1), .int .i64 N, .int .i64 P, .slice a1 0 cap1, .bool false, .slice b1 0 bc1] 29) = w4 at *
      have lxC := xC.lt
      have lx15 := x15.lt
      have cxC0 := xC.cell 0 _ rfl
      have cxC1 := xC.cell 1 _ rfl
      have cxC2 := xC.cell 2 _ rfl
      have cxC3 := xC.cell 3 _ rfl
      have cxC4 := xC.cell 4 _ rfl
      have cxC5 := xC.cell 5 _ rfl
      have cxC6 := xC.cell 6 _ rfl
      have cxC7 := xC.cell 7 _ rfl
      have cxC8 := xC.cell 8 _ rfl
      have cxC9 := xC.cell 9 _ rfl
      have cx150 := x15.cell 0 _ rfl
      have cx151 := x15.cell 1 _ rfl
      have cx152 := x15.cell 2 _ rfl
      have cx153 := x15.cell 3 _ rfl
      have cx154 := x15.cell 4 _ rfl
      have cx155 := x15.cell 5 _ rfl
      have cx156 := x15.cell 6 _ rfl
      go_wp2_with fail
      refine (takeV c HC.out _ (newH_ok HC.out HSQ.out) ro fr xs aa an ac HXN.out _ h1 HR1.out ((HX.out).next bb) hxc HBX.out (HF0.out.next bb)).mono ?_
      rintro e w5 ⟨R2, N2, P2, a2, n2, cap2, D2, b2, m2, bc2, i2, g2, rfl, hT2, hk2, h2, b9⟩
      clear cxC0 cxC1 cxC2 cxC3 cxC4 cxC5 cxC6 cxC7 cxC8 cxC9
      clear cx150 cx151 cx152 cx153 cx154 cx155 cx156
      replace xC := xC.next b9
      replace h1 := h1.next b9
      replace x15 := x15.next b9
      replace bb := bb.trans (b9.mono bb.size)
      clear b9
      clear lxC lx15
      have b9 : Below w5.heap.size w5 (w5.alloc (.cells #[.int .i64 seq, .int .i64 R2, .int .i64 N2, .int .i64 P2, .slice a2 n2 cap2, .bool D2, .slice b2 m2 bc2] 29)) := (Below.refl _ _).alloc (Nat.le_refl _) _
      have x17 := Box.new w5 29 #[.int .i64 seq, .int .i64 R2, .int .i64 N2, .int .i64 P2, .slice a2 n2 cap2, .bool D2, .slice b2 m2 bc2]
      replace xC := xC.next b9
      replace h1 := h1.next b9
      replace x15 := x15.next b9
      replace h2 := h2.next b9
      replace bb := bb.trans (b9.mono bb.size)
      clear b9
      go_upto_region 7 with fail
      obtain ⟨B17, hB17⟩ : ∃ B, w5.heap.size = B := ⟨_, rfl⟩
      rw [hB17] at x17 ⊢
      clear hB17
      generalize w5.alloc (.cells #[.int .i64 seq, .int .i64 R2, .int .i64 N2, .int .i64 P2, .slice a2 n2 cap2, .bool D2, .slice b2 m2 bc2] 29) = w6 at *
      have hc2 := takeH_cases hT2.out
      clear hT2
      rcases hc2 with ⟨e, _⟩ | ⟨_, hg2, hi2, _⟩ | ⟨_, hi2, bq, _, hg2⟩
      · cases e
      · subst hi2
        have hz2 : flushH (newH c seq) ro = [] := by unfold flushH; split <;> rfl
        have eR2 : ro = R2 := by rw [← h2.eR, hg2]; rfl
        subst eR2
        have en2 : an = n2 := by rw [← h2.en, hg2]; show an = (pileH (newH c seq) ro fr xs).length; unfold pileH; rw [hz2]; exact HL1.out.symm
        subst en2
        have HG2 : Hid (g2.hD = false ∧ g2.hN = segsC c ∧ g2.hP = c.cPass ∧ g2.hR = ro ∧ g2.hL = putsL (segsC c) c.cPass [] fr xs) := by rw [hg2]; refine ⟨rfl, rfl, rfl, rfl, ?_⟩; show pileH (newH c seq) ro fr xs = _; unfold pileH; rw [hz2]; rfl
        clear hg2 hz2 h1 x15
        have hn2 : ((an : Int) != (an : Int)) = false := by simp
        have lxC := xC.lt
        have lx17 := x17.lt
        have cxC0 := xC.cell 0 _ rfl
        have cxC1 := xC.cell 1 _ rfl
        have cxC2 := xC.cell 2 _ rfl
        have cxC3 := xC.cell 3 _ rfl
        have cxC4 := xC.cell 4 _ rfl
        have cxC5 := xC.cell 5 _ rfl
        have cxC6 := xC.cell 6 _ rfl
        have cxC7 := xC.cell 7 _ rfl
        have cxC8 := xC.cell 8 _ rfl
        have cxC9 := xC.cell 9 _ rfl
        have cx170 := x17.cell 0 _ rfl
        have cx171 := x17.cell 1 _ rfl
        have cx172 := x17.cell 2 _ rfl
        have cx173 := x17.cell 3 _ rfl
        have cx174 := x17.cell 4 _ rfl
        have cx175 := x17.cell 5 _ rfl
        have cx176 := x17.cell 6 _ rfl
        go_wp2_with fail
        refine (takeV c HC.out g2 hk2 (ro + 1) ot ys ba bn bcp HYN.out _ h2 HR2.out ((HY.out).next bb) hyc HBY.out (HF0.out.next bb)).mono ?_
        rintro e w7 ⟨R3, N3, P3, a3, n3, cap3, D3, b3, m3, bc3, i3, g3, rfl, hT3, hk3, h3, b9⟩
        clear cxC0 cxC1 cxC2 cxC3 cxC4 cxC5 cxC6 cxC7 cxC8 cxC9
        clear cx170 cx171 cx172 cx173 cx174 cx175 cx176
        replace xC := xC.next b9
        replace h2 := h2.next b9
        replace x17 := x17.next b9
        replace bb := bb.trans (b9.mono bb.size)
        clear b9
        clear lxC lx17
        have b9 : Below w7.heap.size w7 (w7.alloc (.cells #[.int .i64 seq, .int .i64 R3, .int .i64 N3, .int .i64 P3, .slice a3 n3 cap3, .bool D3, .slice b3 m3 bc3] 29)) := (Below.refl _ _).alloc (Nat.le_refl _) _
        have x20 := Box.new w7 29 #[.int .i64 seq, .int .i64 R3, .int .i64 N3, .int .i64 P3, .slice a3 n3 cap3, .bool D3, .slice b3 m3 bc3]
        replace xC := xC.next b9
        replace h2 := h2.next b9
        replace x17 := x17.next b9
        replace h3 := h3.next b9
        replace bb := bb.trans (b9.mono bb.size)
        clear b9
        go_upto_region 10 with fail
        obtain ⟨B20, hB20⟩ : ∃ B, w7.heap.size = B := ⟨_, rfl⟩
        rw [hB20] at x20 ⊢
        clear hB20
        generalize w7.alloc (.cells #[.int .i64 seq, .int .i64 R3, .int .i64 N3, .int .i64 P3, .slice a3 n3 cap3, .bool D3, .slice b3 m3 bc3] 29) = w8 at *
        have lxC := xC.lt
        have lx17 := x17.lt
        have cxC0 := xC.cell 0 _ rfl
        have cxC1 := xC.cell 1 _ rfl
        have cxC2 := xC.cell 2 _ rfl
        have cxC3 := xC.cell 3 _ rfl
        have cxC4 := xC.cell 4 _ rfl
        have cxC5 := xC.cell 5 _ rfl
        have cxC6 := xC.cell 6 _ rfl
        have cxC7 := xC.cell 7 _ rfl
        have cxC8 := xC.cell 8 _ rfl
        have cxC9 := xC.cell 9 _ rfl
        have cx170 := x17.cell 0 _ rfl
        have cx171 := x17.cell 1 _ rfl
        have cx172 := x17.cell 2 _ rfl
        have cx173 := x17.cell 3 _ rfl
        have cx174 := x17.cell 4 _ rfl
        have cx175 := x17.cell 5 _ rfl
        have cx176 := x17.cell 6 _ rfl
        go_wp2_with fail
        refine (takeV c HC.out g2 hk2 ro ot ys ba bn bcp HYN.out _ h2 HR3.out ((HY.out).next bb) hyc HBY.out (HF0.out.next bb)).mono ?_
        rintro e w9 ⟨R4, N4, P4, a4, n4, cap4, D4, b4, m4, bc4, i4, g4, rfl, hT4, hk4, h4, b9⟩
        clear cxC0 cxC1 cxC2 cxC3 cxC4 cxC5 cxC6 cxC7 cxC8 cxC9
        clear cx170 cx171 cx172 cx173 cx174 cx175 cx176
        replace xC := xC.next b9
        replace h2 := h2.next b9
        replace x17 := x17.next b9
        replace h3 := h3.next b9
        replace x20 := x20.next b9
        replace bb := bb.trans (b9.mono bb.size)
        clear b9
        clear lxC lx17
        have b9 : Below w9.heap.size w9 (w9.alloc (.cells #[.int .i64 seq, .int .i64 R4, .int .i64 N4, .int .i64 P4, .slice a4 n4 cap4, .bool D4, .slice b4 m4 bc4] 29)) := (Below.refl _ _).alloc (Nat.le_refl _) _
        have x22 := Box.new w9 29 #[.int .i64 seq, .int .i64 R4, .int .i64 N4, .int .i64 P4, .slice a4 n4 cap4, .bool D4, .slice b4 m4 bc4]
        replace xC := xC.next b9
        replace h2 := h2.next b9
        replace x17 := x17.next b9
        replace h3 := h3.next b9
        replace x20 := x20.next b9
        replace h4 := h4.next b9
        replace bb := bb.trans (b9.mono bb.size)
        clear b9
        go_upto_region 11 with fail
        obtain ⟨B22, hB22⟩ : ∃ B, w9.heap.size = B := ⟨_, rfl⟩
        rw [hB22] at x22 ⊢
        clear hB22
        generalize w9.alloc (.cells #[.int .i64 seq, .int .i64 R4, .int .i64 N4, .int .i64 P4, .slice a4 n4 cap4, .bool D4, .slice b4 m4 bc4] 29) = w10 at *
        have HC3 : Hid (i3 = true ∨ i3 = false ∧ R3 = ro + 1 ∧ n3 = bn ∧ g3.hL = putsL (segsC c) c.cPass [] ot ys) := by
          obtain ⟨q1, q2, q3, q4, q5⟩ := HG2.out
          rcases takeH_cases hT3.out with ⟨e, _⟩ | ⟨_, hg, hi, _⟩ | ⟨_, hi, _⟩
          · rw [q1] at e; cases e
          · have hfl : flushH g2 (ro + 1) = [] := by unfold flushH; rw [q4, if_neg (by omega)]
            have hp : g3.hL = putsL (segsC c) c.cPass [] ot ys := by rw [hg]; show putsL g2.hN g2.hP (flushH g2 (ro + 1)) ot ys = _; rw [hfl, q2, q3]
            exact .inr ⟨hi, by rw [← h3.eR, hg]; rfl, by rw [← h3.en, hp]; exact HL2.out, hp⟩
          · exact .inl hi
        have HC4 : Hid (i4 = true ∨ i4 = false ∧ R4 = ro ∧ n4 + within ot (ot + (bn : Int)) fr an = an + bn) := by
          obtain ⟨q1, q2, q3, q4, q5⟩ := HG2.out
          rcases takeH_cases hT4.out with ⟨e, _⟩ | ⟨_, hg, hi, _⟩ | ⟨_, hi, _⟩
          · rw [q1] at e; cases e
          · have hfl : flushH g2 ro = putsL (segsC c) c.cPass [] fr xs := by unfold flushH; rw [q4, if_pos rfl, q5]
            have hp : g4.hL = putsL (segsC c) c.cPass (putsL (segsC c) c.cPass [] fr xs) ot ys := by rw [hg]; show putsL g2.hN g2.hP (flushH g2 ro) ot ys = _; rw [hfl, q2, q3]
            exact .inr ⟨hi, by rw [← h4.eR, hg]; rfl, by rw [← h4.en, hp]; exact HL3.out⟩
          · exact .inl hi
        clear hT3 hT4 hk3 hk4 h4 hn2
        go_upto_region 13 with fail
        obtain ⟨nq, hnq⟩ : ∃ n, w10.heap.size = n := ⟨_, rfl⟩
        have hl20 : B20 < nq := hnq ▸ x20.lt
        have hl22 : B22 < nq := hnq ▸ x22.lt
        have m0 := x20.cell 0 _ rfl
        have m1 := x20.cell 1 _ rfl
        have m2 := x20.cell 2 _ rfl
        have m3 := x20.cell 3 _ rfl
        have m4 := x20.cell 4 _ rfl
        have m5 := x20.cell 5 _ rfl
        have m6 := x20.cell 6 _ rfl
        go_cut [197] (fun v wx => v = .bool false ∧ Below nq w10 wx)
        case first =>
          rcases HC3.out with hi3 | ⟨hi3, hR3, hn3, hL3⟩
          · subst hi3
            as_aux_lemma =>
              refine wp_region_held_drew (S := fun w' => Below nq w10 w') (by kernel_rfl) ((hnq ▸ (Below.refl _ _).drew)) (fun hHeld => ?_)
              refine ht0 0 157 (v := ?v272) (fun _ => ?y272) hHeld ?_
              case y272 => go_simp; with_reducible rfl
              simp only [sn]
              refine ht0 1 158 (v := ?v273) (fun _ => ?y273) hHeld ?_
              case y273 => go_simp; with_reducible rfl
              simp only [sn]
              refine ht0 2 159 (v := ?v274) (fun _ => ?y274) hHeld ?_
              case y274 => go_simp; with_reducible rfl
              simp only [sn]
              refine hu 3 160 hHeld ?_
              simp only [sn]
              refine hu 4 161 hHeld ?_
              simp only [sn]
              refine hu 5 162 hHeld ?_
              simp only [sn]
              refine hu 6 163 hHeld ?_
              simp only [sn]
              refine hu 7 164 hHeld ?_
              simp only [sn]
              refine hu 8 165 hHeld ?_
              simp only [sn]
              refine hu 9 166 hHeld ?_
              simp only [sn]
              refine hu 10 167 hHeld ?_
              simp only [sn]
              refine hu 11 168 hHeld ?_
              simp only [sn]
              refine hu 12 169 hHeld ?_
              simp only [sn]
              refine hu 13 170 hHeld ?_
              simp only [sn]
              refine hu 14 171 hHeld ?_
              simp only [sn]
              refine hu 15 172 hHeld ?_
              simp only [sn]
              refine hu 16 173 hHeld ?_
              simp only [sn]
              refine hu 17 174 hHeld ?_
              simp only [sn]
              refine hu 18 175 hHeld ?_
              simp only [sn]
              refine hu 19 176 hHeld ?_
              simp only [sn]
              refine hu 20 177 hHeld ?_
              simp only [sn]
              refine hu 21 178 hHeld ?_
              simp only [sn]
              refine hu 22 179 hHeld ?_
              simp only [sn]
              refine hu 23 180 hHeld ?_
              simp only [sn]
              refine hu 24 181 hHeld ?_
              simp only [sn]
              refine hu 25 182 hHeld ?_
              simp only [sn]
              refine hu 26 183 hHeld ?_
              simp only [sn]
              refine hu 27 184 hHeld ?_
              simp only [sn]
              refine hu 28 185 hHeld ?_
              simp only [sn]
              refine hu 29 186 hHeld ?_
              simp only [sn]
              refine hu 30 187 hHeld ?_
              simp only [sn]
              refine hu 31 188 hHeld ?_
              simp only [sn]
              refine hu 32 189 hHeld ?_
              simp only [sn]
              refine hu 33 190 hHeld ?_
              simp only [sn]
              refine hu 34 191 hHeld ?_
              simp only [sn]
              refine hu 35 192 hHeld ?_
              simp only [sn]
              refine hu 36 193 hHeld ?_
              simp only [sn]
              refine hu 37 194 hHeld ?_
              simp only [sn]
              refine hu 38 195 hHeld ?_
              simp only [sn]
              refine hu 39 196 hHeld ?_
              simp only [sn]
              refine wpAnyH_ready (rs := [40]) (by kernel_rfl) (by simp) ?_
              refine AllReadyH.cons rfl (fun K hK => ?_) AllReadyH.nil
              go_simp
              refine hK.out _ _ hHeld (fun hHeld => ?_)
              clear hK K
              refine wpAnyH_done (by kernel_rfl) ?_ _
              go_wp2_with fail
              go_meet
              exact ⟨rfl, hHeld⟩
          · subst hi3
            replace hR3 := hR3.symm
            subst hR3
            replace hn3 := hn3.symm
            subst hn3
            obtain ⟨sb, so, sc, hsv, hsb, hs0, hs1⟩ : ∃ sb so sc, Value.slice a3 bn cap3 = .slice (some ⟨sb, so, none⟩) bn sc ∧ sb < nq ∧ w10.cell? ⟨sb, so, none⟩ = some (.int .i64 ot) ∧ w10.cell? ⟨sb, so + 1, none⟩ = some (.int .i64 y0) := by
              have hsy := syms_of_row h3.own.syms
              rw [hL3] at hsy
              rw [HL2.out] at hsy
              rcases hsy with ⟨_, e⟩ | ⟨sb, so, sc, e, hlt, hc⟩
              · exfalso; have h7 := HL2.out; rw [e] at h7; have h8 := HK2.out; simp only [List.length_nil] at h7; omega
              · have hq := hc 0 (ot, y0) HY0.out
                rw [HL2.out] at e
                exact ⟨sb, so, sc, e, hnq ▸ hlt, by simpa using hq.1, by simpa using hq.2⟩
            simp only [Value.slice.injEq, true_and] at hsv
            obtain ⟨rfl, hsv⟩ := hsv
            obtain ⟨yb, yo, hya, hyb, hy0⟩ : ∃ yb yo, ba = some ⟨yb, yo, none⟩ ∧ yb < nq ∧ w10.cell? ⟨yb, yo, none⟩ = some (.int .u8 y0) := by
              rcases HY.out.next bb with ⟨_, e⟩ | ⟨yb, yo, yc, e, hlt, hc⟩
              · have := HYF.out; rw [e] at this; cases this
              · simp only [Value.slice.injEq] at e
                have hq := hc 0 (by have := HYN.out; have := HK2.out; omega)
                rw [HYF.out] at hq
                exact ⟨yb, yo, e.1, hnq ▸ hlt, by simpa using hq⟩
            subst hya
            have hb1 := HK2.out.2.1
            have hbp : 0 < bn := hb1
            have hbz : (0 : Int) < (bn : Int) := by omega
            have dbn : decide (0 < bn) = true := decide_eq_true hbp
            have dbz : decide ((0 : Int) < (bn : Int)) = true := decide_eq_true hbz
            have wy : IntKind.i64.wrap y0 = y0 := by have := HBY.out y0 (List.mem_of_getElem? HYF.out); rw [IntKind.wrap_i64]; omega
            clear HX HY HF0 HBX HBY HR1 HR2 HR3 HL1 HL2 HL3 HY0 HYF HG2 HC3 HC4 h2 h3 x17 x20 x22 xC hk2 bb
            as_aux_lemma =>
              refine wp_region_held_drew (S := fun w' => Below nq w10 w') (by kernel_rfl) ((hnq ▸ (Below.refl _ _).drew)) (fun hHeld => ?_)
              refine ht0 0 157 (v := ?v275) (fun _ => ?y275) hHeld ?_
              case y275 => go_simp; with_reducible rfl
              simp only [sn]
              refine ht0 1 158 (v := ?v276) (fun _ => ?y276) hHeld ?_
              case y276 => go_simp; with_reducible rfl
              simp only [sn]
              refine ht0 2 159 (v := ?v277) (fun _ => ?y277) hHeld ?_
              case y277 => go_simp; with_reducible rfl
              simp only [sn]
              refine ht0 3 160 (v := ?v278) (fun _ => ?y278) hHeld ?_
              case y278 => go_simp; with_reducible rfl
              simp only [sn]
              refine ht 4 161 (v := ?v279) (fun _ hSw => ?y279) hHeld ?_
              case y279 => have q0 := hSw.at m1 hl20; clear hSw; go_simp; with_reducible rfl
              simp only [sn]
              refine ht0 5 162 (v := ?v280) (fun _ => ?y280) hHeld ?_
              case y280 => go_simp; with_reducible rfl
              simp only [sn]
              refine ht0 6 163 (v := ?v281) (fun _ => ?y281) hHeld ?_
              case y281 => go_simp; with_reducible rfl
              simp only [sn]
              refine ht0 7 164 (v := ?v282) (fun _ => ?y282) hHeld ?_
              case y282 => go_simp; with_reducible rfl
              simp only [sn]
              refine ht0 8 165 (v := ?v283) (fun _ => ?y283) hHeld ?_
              case y283 => go_simp; with_reducible rfl
              simp only [sn]
              refine ht0 9 166 (v := ?v284) (fun _ => ?y284) hHeld ?_
              case y284 => go_simp; with_reducible rfl
              simp only [sn]
              refine ht0 10 167 (v := ?v285) (fun _ => ?y285) hHeld ?_
              case y285 => go_simp; with_reducible rfl
              simp only [sn]
              refine ht 11 168 (v := ?v286) (fun _ hSw => ?y286) hHeld ?_
              case y286 => have q0 := hSw.at m4 hl20; clear hSw; go_simp; with_reducible rfl
              simp only [sn]
              refine ht0 12 169 (v := ?v287) (fun _ => ?y287) hHeld ?_
              case y287 => go_simp; with_reducible rfl
              simp only [sn]
              refine ht0 13 170 (v := ?v288) (fun _ => ?y288) hHeld ?_
              case y288 => go_simp; with_reducible rfl
              simp only [sn]
              refine ht0 14 171 (v := ?v289) (fun _ => ?y289) hHeld ?_
              case y289 => go_simp; with_reducible rfl
              simp only [sn]
              refine ht0 15 172 (v := ?v290) (fun _ => ?y290) hHeld ?_
              case y290 => go_simp; with_reducible rfl
              simp only [sn]
              refine ht0 16 173 (v := ?v291) (fun _ => ?y291) hHeld ?_
              case y291 => go_simp; with_reducible rfl
              simp only [sn]
              refine ht0 17 174 (v := ?v292) (fun _ => ?y292) hHeld ?_
              case y292 => go_simp; with_reducible rfl
              simp only [sn]
              refine ht0 18 175 (v := ?v293) (fun _ => ?y293) hHeld ?_
              case y293 => go_simp; with_reducible rfl
              simp only [sn]
              refine ht0 19 176 (v := ?v294) (fun _ => ?y294) hHeld ?_
              case y294 => go_simp; with_reducible rfl
              simp only [sn]
              refine ht 20 177 (v := ?v295) (fun _ hSw => ?y295) hHeld ?_
              case y295 => have q0 := hSw.at m4 hl20; clear hSw; go_simp; with_reducible rfl
              simp only [sn]
              refine ht0 21 178 (v := ?v296) (fun _ => ?y296) hHeld ?_
              case y296 => go_simp; with_reducible rfl
              simp only [sn]
              refine ht0 22 179 (v := ?v297) (fun _ => ?y297) hHeld ?_
              case y297 => go_simp; with_reducible rfl
              simp only [sn]
              refine ht 23 180 (v := ?v298) (fun _ hSw => ?y298) hHeld ?_
              case y298 => have q0 := hSw.at hs0 hsb; clear hSw; go_simp; with_reducible rfl
              simp only [sn]
              refine ht0 24 181 (v := ?v299) (fun _ => ?y299) hHeld ?_
              case y299 => go_simp; with_reducible rfl
              simp only [sn]
              refine ht0 25 182 (v := ?v300) (fun _ => ?y300) hHeld ?_
              case y300 => go_simp; with_reducible rfl
              simp only [sn]
              refine ht0 26 183 (v := ?v301) (fun _ => ?y301) hHeld ?_
              case y301 => go_simp; with_reducible rfl
              simp only [sn]
              refine ht0 27 184 (v := ?v302) (fun _ => ?y302) hHeld ?_
              case y302 => go_simp; with_reducible rfl
              simp only [sn]
              refine ht0 28 185 (v := ?v303) (fun _ => ?y303) hHeld ?_
              case y303 => go_simp; with_reducible rfl
              simp only [sn]
              refine ht0 29 186 (v := ?v304) (fun _ => ?y304) hHeld ?_
              case y304 => go_simp; with_reducible rfl
              simp only [sn]
              refine ht 30 187 (v := ?v305) (fun _ hSw => ?y305) hHeld ?_
              case y305 => have q0 := hSw.at m4 hl20; clear hSw; go_simp; with_reducible rfl
              simp only [sn]
              refine ht0 31 188 (v := ?v306) (fun _ => ?y306) hHeld ?_
              case y306 => go_simp; with_reducible rfl
              simp only [sn]
              refine ht0 32 189 (v := ?v307) (fun _ => ?y307) hHeld ?_
              case y307 => go_simp; with_reducible rfl
              simp only [sn]
              refine ht 33 190 (v := ?v308) (fun _ hSw => ?y308) hHeld ?_
              case y308 => have q0 := hSw.at hs1 hsb; clear hSw; go_simp; with_reducible rfl
              simp only [sn]
              refine ht0 34 191 (v := ?v309) (fun _ => ?y309) hHeld ?_
              case y309 => go_simp; with_reducible rfl
              simp only [sn]
              refine ht0 35 192 (v := ?v310) (fun _ => ?y310) hHeld ?_
              case y310 => go_simp; with_reducible rfl
              simp only [sn]
              refine ht 36 193 (v := ?v311) (fun _ hSw => ?y311) hHeld ?_
              case y311 => have q0 := hSw.at hy0 hyb; clear hSw; go_simp; with_reducible rfl
              simp only [sn]
              refine ht0 37 194 (v := ?v312) (fun _ => ?y312) hHeld ?_
              case y312 => go_simp; with_reducible rfl
              simp only [sn]
              refine ht0 38 195 (v := ?v313) (fun _ => ?y313) hHeld ?_
              case y313 => go_simp; with_reducible rfl
              simp only [sn]
              refine ht0 39 196 (v := ?v314) (fun _ => ?y314) hHeld ?_
              case y314 => go_simp; with_reducible rfl
              simp only [sn]
              refine wpAnyH_ready (rs := [40]) (by kernel_rfl) (by simp) ?_
              refine AllReadyH.cons rfl (fun K hK => ?_) AllReadyH.nil
              go_simp
              refine hK.out _ _ hHeld (fun hHeld => ?_)
              clear hK K
              refine wpAnyH_done (by kernel_rfl) ?_ _
              go_wp2_with fail
              go_meet
              exact ⟨rfl, hHeld⟩
        case rest =>
          as_aux_lemma =>
            obtain ⟨rfl, b9⟩ := hcut
            replace b9 : Below w10.heap.size w10 wc := hnq ▸ b9
            generalize hwc : wc = w11 at *
            clear hwc hnq hl20 hl22 x17 x20 h2 h3 hk2 HC3 HG2 HL1 HL2 HL3 HY0 HYF m0 m1 m2 m3 m4 m5 m6
            replace xC := xC.next b9
            replace x22 := x22.next b9
            replace bb := bb.trans (b9.mono bb.size)
            clear b9
            go_wp2
            obtain ⟨W9, hW9⟩ : ∃ W, w11 = W := ⟨_, rfl⟩
            rw [hW9] at bb xC x22 ⊢
            clear hW9
            have hk1 := HK2.out
            have wfa : IntKind.i64.wrap (fr + (an : Int)) = fr + (an : Int) := by rw [IntKind.wrap_i64]; omega
            have wob : IntKind.i64.wrap (ot + (bn : Int)) = ot + (bn : Int) := by rw [IntKind.wrap_i64]; omega
            go_loopw [24, 25] (fun v24 v25 wr => ∃ j : Nat, j ≤ an ∧ v24 = .int .i64 ((within ot (ot + (bn : Int)) fr j : Nat) : Int) ∧ v25 = .int .i64 (fr + (j : Int)) ∧ Below W9.heap.size W9 wr) (fun _ v25 _ => (fr + (an : Int) - intOf v25).toNat)
            case atStart => exact ⟨0, Nat.zero_le _, rfl, by simp, Below.refl _ _⟩
            case round =>
              obtain ⟨j, hj, rfl, rfl, b9⟩ := hrel
              generalize wr = w40 at *
              replace xC := xC.next b9
              replace x22 := x22.next b9
              replace bb := bb.trans (b9.mono bb.size)
              have hwl := within_le ot (ot + (bn : Int)) fr j
              obtain ⟨m, hm⟩ : ∃ m, within ot (ot + (bn : Int)) fr j = m := ⟨_, rfl⟩
              have hst : within ot (ot + (bn : Int)) fr (j + 1) = m + (if ot ≤ fr + (j : Int) ∧ fr + (j : Int) < ot + (bn : Int) then 1 else 0) := by rw [← hm]; rfl
              have HST : Hid _ := hst
              have HMM : Hid (within ot (ot + (bn : Int)) fr j = m) := hm
              rw [hm] at hwl ⊢
              clear hst hm
              by_cases hlt : j < an
              · as_aux_lemma =>
                  have wj : IntKind.i64.wrap (fr + (j : Int) + 1) = fr + ((j + 1 : Nat) : Int) := by rw [IntKind.wrap_i64]; omega
                  have wm : IntKind.i64.wrap ((m : Int) + 1) = ((m + 1 : Nat) : Int) := by rw [IntKind.wrap_i64]; omega
                  have dlt : decide (fr + (j : Int) < fr + (an : Int)) = true := decide_eq_true (by omega)
                  by_cases p1 : ot ≤ fr + (j : Int)
                  · have d1 : decide (ot ≤ fr + (j : Int)) = true := decide_eq_true p1
                    by_cases p2 : fr + (j : Int) < ot + (bn : Int)
                    · have d2 : decide (fr + (j : Int) < ot + (bn : Int)) = true := decide_eq_true p2
                      go_wp2
                      exact ⟨⟨j + 1, by omega, by rw [HST.out, if_pos ⟨p1, p2⟩]; simp, rfl, b9⟩, by simp [intOf]; omega⟩
                    · have d2 : decide (fr + (j : Int) < ot + (bn : Int)) = false := decide_eq_false p2
                      go_wp2
                      exact ⟨⟨j + 1, by omega, by rw [HST.out, if_neg (fun q => p2 q.2), Nat.add_zero], rfl, b9⟩, by simp [intOf]; omega⟩
                  · have d1 : decide (ot ≤ fr + (j : Int)) = false := decide_eq_false p1
                    go_wp2
                    exact ⟨⟨j + 1, by omega, by rw [HST.out, if_neg (fun q => p1 q.1), Nat.add_zero], rfl, b9⟩, by simp [intOf]; omega⟩
              · obtain rfl : j = an := by omega
                have dlt : decide (fr + (j : Int) < fr + (j : Int)) = false := decide_eq_false (by omega)
                have cz := HC4.out
                rw [HMM.out] at cz
                rcases cz with hi4 | ⟨hi4, hR4, hn4⟩
                · subst hi4
                  as_aux_lemma =>
                    go_wp2_with fail
                    refine (hearWakes_any _ (HF0.out.next bb)).mono ?_
                    rintro e w99 ⟨rfl, b99⟩
                    go_wp2
                    go_ret
                    exact ⟨rfl, bb.trans (b99.mono bb.size)⟩
                · subst hi4
                  as_aux_lemma =>
                    replace hR4 := hR4.symm
                    subst hR4
                    have w5 : IntKind.i64.wrap ((j : Int) + (bn : Int)) = (j : Int) + (bn : Int) := by rw [IntKind.wrap_i64]; omega
                    have w6 : IntKind.i64.wrap ((j : Int) + (bn : Int) - (m : Int)) = (n4 : Int) := by rw [IntKind.wrap_i64]; omega
                    clear hn4 hwl
                    have m0 := x22.cell 0 _ rfl
                    have m1 := x22.cell 1 _ rfl
                    have m2 := x22.cell 2 _ rfl
                    have m3 := x22.cell 3 _ rfl
                    have m4 := x22.cell 4 _ rfl
                    have m5 := x22.cell 5 _ rfl
                    have m6 := x22.cell 6 _ rfl
                    have l22 := x22.lt
                    go_wp2_with fail
                    refine (hearWakes_any _ (HF0.out.next bb)).mono ?_
                    rintro e w99 ⟨rfl, b99⟩
                    go_wp2
                    go_ret
                    exact ⟨rfl, bb.trans (b99.mono bb.size)⟩
      · as_aux_lemma =>
          subst hi2
          have eD2 : true = D2 := by rw [← h2.eD, hg2]; rfl
          subst eD2
          clear hg2
          have m0 := x17.cell 0 _ rfl
          have m1 := x17.cell 1 _ rfl
          have m2 := x17.cell 2 _ rfl
          have m3 := x17.cell 3 _ rfl
          have m4 := x17.cell 4 _ rfl
          have m5 := x17.cell 5 _ rfl
          have m6 := x17.cell 6 _ rfl
          have l17 := x17.lt
          go_wp2_with fail
          refine (hearWakes_any _ (HF0.out.next bb)).mono ?_
          rintro e w99 ⟨rfl, b99⟩
          go_wp2
          go_ret
          exact ⟨rfl, bb.trans (b99.mono bb.size)⟩

end Go.Proofs.YtokejgoplalkhaaGreatDoor
