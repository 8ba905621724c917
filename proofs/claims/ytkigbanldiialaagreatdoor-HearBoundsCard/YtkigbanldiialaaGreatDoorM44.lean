/-
  What package hear answers (isBlock, isRightBytes, isRightPile, Check, New, apart, putAll, tell, Take). (Written by tpl_hearcode.py.)
-/
import Derived.Test.YtkigbanldiialaaGreatDoorM18
import Derived.Test.YtkigbanldiialaaGreatDoorM23
import Derived.Test.YtkigbanldiialaaGreatDoorM28
import Derived.Test.YtkigbanldiialaaGreatDoorM29
import Derived.Test.YtkigbanldiialaaGreatDoorM30
import Derived.Test.YtkigbanldiialaaGreatDoorM39
import Derived.Test.YtkigbanldiialaaGreatDoorM41
import Derived.Test.YtkigbanldiialaaGreatDoorM42
import Derived.Test.YtkigbanldiialaaGreatDoorM43
import Derived.Deep.LoopGhost
namespace Go.Proofs.YtkigbanldiialaaGreatDoor
open Go.RowKit

theorem row_shapeH {W : World} {base k : Nat} {e : TypeId} {v : Value} {xs : List Value} (h : W.ownsRow base e 1 v k xs) : ∃ a c, v = .slice a k c := by
  rcases h.2 with ⟨rfl, rfl⟩ | ⟨g, cap, cur, rfl, _⟩
  · exact ⟨_, _, rfl⟩
  · exact ⟨_, _, rfl⟩
theorem symRow_shapeH {W : World} {base k : Nat} {e : TypeId} {v : Value} {xs : List Value} (h : W.ownsRow base e 2 v k xs) : ∃ a c, v = .slice a k c := by
  rcases h.2 with ⟨rfl, rfl⟩ | ⟨g, cap, cur, rfl, _⟩
  · exact ⟨_, _, rfl⟩
  · exact ⟨_, _, rfl⟩
theorem below_set7c {W V : World} {n : Nat} (h : Below n W V) {D : Nat} (hD : n ≤ D) (a b c d e f g : Value) : Below n W (((((((V.setCell ⟨D, 0, none⟩ a).setCell ⟨D, 1, none⟩ b).setCell ⟨D, 2, none⟩ c).setCell ⟨D, 3, none⟩ d).setCell ⟨D, 4, none⟩ e).setCell ⟨D, 5, none⟩ f).setCell ⟨D, 6, none⟩ g) := ((((((h.setCell (p := ⟨D, 0, none⟩) hD a).setCell (p := ⟨D, 1, none⟩) hD b).setCell (p := ⟨D, 2, none⟩) hD c).setCell (p := ⟨D, 3, none⟩) hD d).setCell (p := ⟨D, 4, none⟩) hD e).setCell (p := ⟨D, 5, none⟩) hD f).setCell (p := ⟨D, 6, none⟩) hD g
theorem row_set7c {w : World} {base size : Nat} {t : TypeId} {v : Value} {n : Nat} {xs : List Value} (h : w.ownsRow base t size v n xs) {D : Nat} (hD : D < base) (a b c d e f g : Value) : (((((((w.setCell ⟨D, 0, none⟩ a).setCell ⟨D, 1, none⟩ b).setCell ⟨D, 2, none⟩ c).setCell ⟨D, 3, none⟩ d).setCell ⟨D, 4, none⟩ e).setCell ⟨D, 5, none⟩ f).setCell ⟨D, 6, none⟩ g).ownsRow base t size v n xs := ownsRow_setCell_below (ownsRow_setCell_below (ownsRow_setCell_below (ownsRow_setCell_below (ownsRow_setCell_below (ownsRow_setCell_below (ownsRow_setCell_below h (a := ⟨D, 0, none⟩) hD a) (a := ⟨D, 1, none⟩) hD b) (a := ⟨D, 2, none⟩) hD c) (a := ⟨D, 3, none⟩) hD d) (a := ⟨D, 4, none⟩) hD e) (a := ⟨D, 5, none⟩) hD f) (a := ⟨D, 6, none⟩) hD g
theorem Box.set7c {W : World} {B : Nat} {t : TypeId} {x0 x1 x2 x3 x4 x5 x6 : Value} (h : Box W B t #[x0, x1, x2, x3, x4, x5, x6]) (a b c d e f g : Value) : Box (((((((W.setCell ⟨B, 0, none⟩ a).setCell ⟨B, 1, none⟩ b).setCell ⟨B, 2, none⟩ c).setCell ⟨B, 3, none⟩ d).setCell ⟨B, 4, none⟩ e).setCell ⟨B, 5, none⟩ f).setCell ⟨B, 6, none⟩ g) B t #[a, b, c, d, e, f, g] := by
  have q := ((((((h.set 0 a).set 1 b).set 2 c).set 3 d).set 4 e).set 5 f).set 6 g
  simp only [sn] at q
  exact q
theorem Box.other7c {W : World} {B : Nat} {t : TypeId} {cs : Array Value} (h : Box W B t cs) {D : Nat} (hp : B ≠ D) (a b c d e f g : Value) : Box (((((((W.setCell ⟨D, 0, none⟩ a).setCell ⟨D, 1, none⟩ b).setCell ⟨D, 2, none⟩ c).setCell ⟨D, 3, none⟩ d).setCell ⟨D, 4, none⟩ e).setCell ⟨D, 5, none⟩ f).setCell ⟨D, 6, none⟩ g) B t cs := ((((((h.other (p := ⟨D, 0, none⟩) hp a).other (p := ⟨D, 1, none⟩) hp b).other (p := ⟨D, 2, none⟩) hp c).other (p := ⟨D, 3, none⟩) hp d).other (p := ⟨D, 4, none⟩) hp e).other (p := ⟨D, 5, none⟩) hp f).other (p := ⟨D, 6, none⟩) hp g

theorem pre2 (w : World) (ca : Array Value) (ta : TypeId) (cb : Array Value) (tb : TypeId) : Below w.heap.size w ((w.alloc (.cells ca ta)).alloc (.cells cb tb)) ∧ Box ((w.alloc (.cells ca ta)).alloc (.cells cb tb)) w.heap.size ta ca ∧ Box ((w.alloc (.cells ca ta)).alloc (.cells cb tb)) (w.heap.size + 1) tb cb := by
  refine ⟨((Below.refl w.heap.size w).alloc (Nat.le_refl _) _).alloc (by simp) _, (Box.new w ta ca).alloc _, ?_⟩
  have x := Box.new (w.alloc (.cells ca ta)) tb cb
  rwa [show (w.alloc (.cells ca ta)).heap.size = w.heap.size + 1 by simp] at x
theorem pre4 (w : World) (ca : Array Value) (ta : TypeId) (cb : Array Value) (tb : TypeId) (cc : Array Value) (tc : TypeId) (cd : Array Value) (td : TypeId) : Below w.heap.size w ((((w.alloc (.cells ca ta)).alloc (.cells cb tb)).alloc (.cells cc tc)).alloc (.cells cd td)) ∧ Box ((((w.alloc (.cells ca ta)).alloc (.cells cb tb)).alloc (.cells cc tc)).alloc (.cells cd td)) w.heap.size ta ca ∧ Box ((((w.alloc (.cells ca ta)).alloc (.cells cb tb)).alloc (.cells cc tc)).alloc (.cells cd td)) (w.heap.size + 1) tb cb ∧ Box ((((w.alloc (.cells ca ta)).alloc (.cells cb tb)).alloc (.cells cc tc)).alloc (.cells cd td)) (w.heap.size + 2) tc cc ∧ Box ((((w.alloc (.cells ca ta)).alloc (.cells cb tb)).alloc (.cells cc tc)).alloc (.cells cd td)) (w.heap.size + 3) td cd ∧ w.heap.size + 4 ≤ ((((w.alloc (.cells ca ta)).alloc (.cells cb tb)).alloc (.cells cc tc)).alloc (.cells cd td)).heap.size := by
  refine ⟨((((Below.refl w.heap.size w).alloc (Nat.le_refl _) _).alloc (by simp) _).alloc (by simp; omega) _).alloc (by simp; omega) _, (((Box.new w ta ca).alloc _).alloc _).alloc _, ?_, ?_, ?_, by simp⟩
  · have x := ((Box.new (w.alloc (.cells ca ta)) tb cb).alloc (.cells cc tc)).alloc (.cells cd td)
    rwa [show (w.alloc (.cells ca ta)).heap.size = w.heap.size + 1 by simp] at x
  · have x := (Box.new ((w.alloc (.cells ca ta)).alloc (.cells cb tb)) tc cc).alloc (.cells cd td)
    rwa [show ((w.alloc (.cells ca ta)).alloc (.cells cb tb)).heap.size = w.heap.size + 2 by simp] at x
  · have x := Box.new (((w.alloc (.cells ca ta)).alloc (.cells cb tb)).alloc (.cells cc tc)) td cd
    rwa [show (((w.alloc (.cells ca ta)).alloc (.cells cb tb)).alloc (.cells cc tc)).heap.size = w.heap.size + 3 by simp] at x

theorem blockB_badC {c : Cfg} (hC : okC c = true) {zs : List Int} {e s : Int} (h : badB c.cB zs e) : blockB c s zs = false := by
  rw [← Bool.not_eq_true, blockB_iff]
  rintro ⟨h1, h2, h3, _⟩
  have hb := ((okC_iff c).1 hC).1
  rcases h with ⟨h, _⟩ | ⟨_, h, _⟩ | ⟨_, _, h, _⟩ | ⟨_, _, _, h, _⟩
  · rw [(bSize_iff c.cB).2 (by omega)] at h; cases h
  · exact h h1
  · rw [h2] at h; cases h
  · exact h h3
theorem blockB_goodC {c : Cfg} {zs : List Int} {Z : Nat} {s : Int} (hZ : c.cB = (Z : Int)) (hl : zs.length = Z + 10) (hs : isSealed zs = true) (hr : readOk Z zs) : blockB c s zs = (rdS zs == s) := by
  rw [Bool.eq_iff_iff, blockB_iff, beq_iff_eq]
  exact ⟨fun h => h.2.2.2, fun h => ⟨by omega, hs, by rw [hZ]; simpa using hr, h⟩⟩
def rbH (c : Cfg) (h : Hr) : Bool := if h.hD then blockB c h.hS h.hB else decide (h.hB.length = 0)
def rpH (c : Cfg) (h : Hr) : Prop := PileOk h.hN h.hP h.hL ∧ h.hN = segsC c ∧ h.hP = c.cPass ∧ (h.hR = -1 → h.hL.length = 0)
theorem okH_parts {c : Cfg} {h : Hr} : okH c h ↔ 0 ≤ h.hS ∧ -1 ≤ h.hR ∧ h.hR ≤ 255 ∧ rpH c h ∧ rbH c h = true := by
  unfold okH rpH rbH
  cases h.hD <;> simp only [List.length_eq_zero_iff, if_true, Bool.false_eq_true, if_false, decide_eq_true_eq, true_implies, false_implies] <;> constructor
  · rintro ⟨a, ⟨b, c⟩, d, e, f, g, _, h⟩; exact ⟨a, b, c, ⟨d, e, f, g⟩, h⟩
  · rintro ⟨a, b, c, ⟨d, e, f, g⟩, h⟩; exact ⟨a, ⟨b, c⟩, d, e, f, g, trivial, h⟩
  · rintro ⟨a, ⟨b, c⟩, d, e, f, g, h, _⟩; exact ⟨a, b, c, ⟨d, e, f, g⟩, h⟩
  · rintro ⟨a, b, c, ⟨d, e, f, g⟩, h⟩; exact ⟨a, ⟨b, c⟩, d, e, f, g, h, fun e => by cases e⟩

set_option maxRecDepth 100000 in
set_option maxHeartbeats 2000000 in
theorem cloneB_ok (a : Option Addr) (cap : Nat) (zs : List Int) (hl : zs.length ≤ 4096) (w : World) (ha : Holds .u8 w.heap.size w (.slice a zs.length cap) zs) :
    Calls Tryz.prog 56 #[.slice a zs.length cap] w fun e W' => ∃ r, e = .returned r ∧ W'.ownsRow w.heap.size 5 1 r zs.length (zs.map (Value.int .u8)) ∧ Below w.heap.size w W' := by
  have qS : ∀ (w : World) (a : Option Addr) (n c n' c' : Nat), (binOp .eql 24 (.slice a n c) (.slice none n' c')).run Tryz.prog w = .ok (.bool a.isNone) w := fun w a n c n' c' => Lib.run_eql_slice_nil w _ _ a n c n' c' Tryz.underlying24
  cases a with
  | none =>
    have h0 : zs = [] := by
      rcases ha with ⟨_, h⟩ | ⟨b, off, c, e, _⟩
      · exact h
      · simp only [Value.slice.injEq] at e; exact absurd e.1 (by simp)
    subst h0
    clear ha
    go_enter Tryz.func56, Tryz.ntmps56
    go_wp2
    go_ret
    exact ⟨_, rfl, World.ownsRow_nil _ _ _ _, Below.refl _ _⟩
  | some ad =>
    have o0 : (w.alloc (.cells #[] 5)).ownsRow w.heap.size 5 1 (.slice (some ⟨w.heap.size, 0, none⟩) 0 0) 0 (([] : List Int).map (Value.int .u8)) := World.ownsRow_made w #[] 0 (Nat.le_refl _) (Nat.zero_le _) rfl
    have b0 := (Below.refl w.heap.size w).alloc (Nat.le_refl _) (.cells #[] 5)
    obtain ⟨v3, w3, hr3, ho3, hg3⟩ := run_append_u8 (.slice (some ⟨w.heap.size, 0, none⟩) 0 0) (.slice (some ad) zs.length cap) 0 w.heap.size _ [] zs 24 (w.alloc (.cells #[] 5)) o0 (ha.below b0) (by simp) (by omega) (by omega)
    have b3 := b0.trans ((Below.refl w.heap.size _).grown hg3 (by simp) (fun q e => (o0.lt q e).1))
    have HR3 : Hid _ := hr3
    clear hr3 ha o0 hg3
    go_enter Tryz.func56, Tryz.ntmps56
    go_wp2_with (at_builtin; refine wpList_append_known rfl _ _ 24 rfl _ _ rfl rfl _ _ HR3.out ?_)
    go_ret
    refine ⟨_, rfl, ?_, b3⟩
    simpa using ho3

set_option maxRecDepth 100000 in
set_option maxHeartbeats 2000000 in
theorem isBlock_any (c : Cfg) (hC : okC c = true) (s : Int) (b : Option Addr) (bc : Nat) (zs : List Int) (hl : zs.length ≤ 4096) (hc : zs.length ≤ bc) (bz : ∀ z ∈ zs, 0 ≤ z ∧ z ≤ 255) (w : World) (hb : Holds .u8 w.heap.size w (.slice b zs.length bc) zs) :
    Calls Tryz.prog 60 #[.agg #[.int .i64 c.cB, .int .i64 c.cBeam, .int .i64 c.cDepth, .int .i64 c.cWin, .int .i64 c.cQs, .int .i64 c.cQr, .int .i64 c.cBatch, .int .i64 c.cPass, .int .i64 c.cMsg, .int .i64 c.cSeqs], .int .i64 s, .slice b zs.length bc] w fun e w' => e = .returned (.bool (blockB c s zs)) ∧ Below w.heap.size w w' := by
  have b1 := (Below.refl w.heap.size w).alloc (Nat.le_refl _) (.cells #[.int .i64 c.cB, .int .i64 c.cBeam, .int .i64 c.cDepth, .int .i64 c.cWin, .int .i64 c.cQs, .int .i64 c.cQr, .int .i64 c.cBatch, .int .i64 c.cPass, .int .i64 c.cMsg, .int .i64 c.cSeqs] 23)
  rcases read_cases c.cB zs with ⟨er, he, hbad⟩ | ⟨Z, hZ, hZ1, hZ2, hlz, hs, hr⟩
  · have HR := Read_no c.cB b bc zs hl hc bz er hbad (w.alloc (.cells #[.int .i64 c.cB, .int .i64 c.cBeam, .int .i64 c.cDepth, .int .i64 c.cWin, .int .i64 c.cQs, .int .i64 c.cQr, .int .i64 c.cBatch, .int .i64 c.cPass, .int .i64 c.cMsg, .int .i64 c.cSeqs] 23)) (hb.next b1)
    have d0 : (er == 0) = false := by rw [beq_eq_false_iff_ne]; omega
    rw [blockB_badC hC hbad]
    clear hbad he hb hC
    go_enter Tryz.func60, Tryz.ntmps60
    go_wp2_with fail
    refine HR.mono ?_
    rintro e w2 ⟨rfl, b2⟩
    have b3 := b1.trans (b2.mono b1.size)
    clear b1 b2 HR
    go_wp2
    go_ret
    exact ⟨rfl, b3.alloc b3.size _⟩
  · have HR := Read_ok Z hZ1 hZ2 b bc zs hlz hc bz hs hr (w.alloc (.cells #[.int .i64 c.cB, .int .i64 c.cBeam, .int .i64 c.cDepth, .int .i64 c.cWin, .int .i64 c.cQs, .int .i64 c.cQr, .int .i64 c.cBatch, .int .i64 c.cPass, .int .i64 c.cMsg, .int .i64 c.cSeqs] 23)) (hb.next b1)
    rw [blockB_goodC hZ hlz hs hr]
    rw [← hZ] at HR
    clear hZ hlz hs hr hb hC
    go_enter Tryz.func60, Tryz.ntmps60
    go_wp2_with fail
    refine HR.mono ?_
    rintro e w2 ⟨ra, rc, rfl, _, b2⟩
    have b3 := b1.trans (b2.mono b1.size)
    clear b1 b2 HR
    go_wp2
    go_ret
    exact ⟨rfl, b3.alloc b3.size _⟩

set_option maxRecDepth 100000 in
set_option maxHeartbeats 2000000 in
theorem isRightBytes_true (c : Cfg) (hC : okC c = true) (h : Hr) (a b : Option Addr) (cap bc : Nat) (hd : h.hD = true) (hb : h.hB.length ≤ 4096) (w : World) (ha : HearAt w h a cap b bc) :
    Calls Tryz.prog 36 #[.agg #[.int .i64 c.cB, .int .i64 c.cBeam, .int .i64 c.cDepth, .int .i64 c.cWin, .int .i64 c.cQs, .int .i64 c.cQr, .int .i64 c.cBatch, .int .i64 c.cPass, .int .i64 c.cMsg, .int .i64 c.cSeqs], .agg #[.int .i64 h.hS, .int .i64 h.hR, .int .i64 h.hN, .int .i64 h.hP, .slice a h.hL.length cap, .bool h.hD, .slice b h.hB.length bc]] w fun e w' => e = .returned (.bool (rbH c h)) ∧ Below w.heap.size w w' := by
  unfold rbH
  rw [hd]
  obtain ⟨b1, xC, xH⟩ := pre2 w #[.int .i64 c.cB, .int .i64 c.cBeam, .int .i64 c.cDepth, .int .i64 c.cWin, .int .i64 c.cQs, .int .i64 c.cQr, .int .i64 c.cBatch, .int .i64 c.cPass, .int .i64 c.cMsg, .int .i64 c.cSeqs] 23 #[.int .i64 h.hS, .int .i64 h.hR, .int .i64 h.hN, .int .i64 h.hP, .slice a h.hL.length cap, .bool true, .slice b h.hB.length bc] 39
  have HI := isBlock_any c hC h.hS b bc h.hB hb ha.fits ha.byte _ (ha.next b1).byts
  rw [if_pos rfl]
  clear hd hb ha hC
  have k0 := xC.cell 0 _ rfl
  have k1 := xC.cell 1 _ rfl
  have k2 := xC.cell 2 _ rfl
  have k3 := xC.cell 3 _ rfl
  have k4 := xC.cell 4 _ rfl
  have k5 := xC.cell 5 _ rfl
  have k6 := xC.cell 6 _ rfl
  have k7 := xC.cell 7 _ rfl
  have k8 := xC.cell 8 _ rfl
  have k9 := xC.cell 9 _ rfl
  have m0 := xH.cell 0 _ rfl
  have m1 := xH.cell 1 _ rfl
  have m2 := xH.cell 2 _ rfl
  have m3 := xH.cell 3 _ rfl
  have m4 := xH.cell 4 _ rfl
  have m5 := xH.cell 5 _ rfl
  have m6 := xH.cell 6 _ rfl
  go_enter Tryz.func36, Tryz.ntmps36
  go_wp2_with fail
  refine HI.mono ?_
  rintro e w2 ⟨rfl, b2⟩
  go_wp2
  go_ret
  exact ⟨rfl, b1.trans (b2.mono b1.size)⟩

set_option maxRecDepth 100000 in
set_option maxHeartbeats 2000000 in
theorem isRightBytes_false (c : Cfg) (_hC : okC c = true) (h : Hr) (a b : Option Addr) (cap bc : Nat) (hd : h.hD = false) (_hb : h.hB.length ≤ 4096) (w : World) (_ha : HearAt w h a cap b bc) :
    Calls Tryz.prog 36 #[.agg #[.int .i64 c.cB, .int .i64 c.cBeam, .int .i64 c.cDepth, .int .i64 c.cWin, .int .i64 c.cQs, .int .i64 c.cQr, .int .i64 c.cBatch, .int .i64 c.cPass, .int .i64 c.cMsg, .int .i64 c.cSeqs], .agg #[.int .i64 h.hS, .int .i64 h.hR, .int .i64 h.hN, .int .i64 h.hP, .slice a h.hL.length cap, .bool h.hD, .slice b h.hB.length bc]] w fun e w' => e = .returned (.bool (rbH c h)) ∧ Below w.heap.size w w' := by
  unfold rbH
  rw [hd]
  obtain ⟨b1, xC, xH⟩ := pre2 w #[.int .i64 c.cB, .int .i64 c.cBeam, .int .i64 c.cDepth, .int .i64 c.cWin, .int .i64 c.cQs, .int .i64 c.cQr, .int .i64 c.cBatch, .int .i64 c.cPass, .int .i64 c.cMsg, .int .i64 c.cSeqs] 23 #[.int .i64 h.hS, .int .i64 h.hR, .int .i64 h.hN, .int .i64 h.hP, .slice a h.hL.length cap, .bool false, .slice b h.hB.length bc] 39
  rw [if_neg (by simp)]
  clear hd
  generalize h.hB.length = nb at *
  have m0 := xH.cell 0 _ rfl
  have m1 := xH.cell 1 _ rfl
  have m2 := xH.cell 2 _ rfl
  have m3 := xH.cell 3 _ rfl
  have m4 := xH.cell 4 _ rfl
  have m5 := xH.cell 5 _ rfl
  have m6 := xH.cell 6 _ rfl
  by_cases hz : nb = 0
  · subst hz
    go_enter Tryz.func36, Tryz.ntmps36
    go_wp2
    go_ret
    exact ⟨rfl, b1⟩
  · have d1 : ((nb : Int) == 0) = false := by rw [beq_eq_false_iff_ne]; omega
    have d2 : (nb == 0) = false := by rw [beq_eq_false_iff_ne]; exact hz
    rw [decide_eq_false hz]
    go_enter Tryz.func36, Tryz.ntmps36
    go_wp2
    go_ret
    exact ⟨rfl, b1⟩

theorem isRightBytes_any (c : Cfg) (hC : okC c = true) (h : Hr) (a b : Option Addr) (cap bc : Nat) (hb : h.hB.length ≤ 4096) (w : World) (ha : HearAt w h a cap b bc) :
    Calls Tryz.prog 36 #[.agg #[.int .i64 c.cB, .int .i64 c.cBeam, .int .i64 c.cDepth, .int .i64 c.cWin, .int .i64 c.cQs, .int .i64 c.cQr, .int .i64 c.cBatch, .int .i64 c.cPass, .int .i64 c.cMsg, .int .i64 c.cSeqs], .agg #[.int .i64 h.hS, .int .i64 h.hR, .int .i64 h.hN, .int .i64 h.hP, .slice a h.hL.length cap, .bool h.hD, .slice b h.hB.length bc]] w fun e w' => e = .returned (.bool (rbH c h)) ∧ Below w.heap.size w w' := by
  cases hd : h.hD with
  | true => have := isRightBytes_true c hC h a b cap bc hd hb w ha; rwa [hd] at this
  | false => have := isRightBytes_false c hC h a b cap bc hd hb w ha; rwa [hd] at this

set_option maxRecDepth 100000 in
set_option maxHeartbeats 4000000 in
theorem isRightPile_d (c : Cfg) (hC : okC c = true) (h : Hr) (a b : Option Addr) (cap bc : Nat) (hl : h.hL.length ≤ 4294967296) (hp : PileOk h.hN h.hP h.hL) (h1 : h.hN = segsC c) (h2 : h.hP = c.cPass) (h3 : ¬ h.hR = -1) (w : World) (ha : HearAt w h a cap b bc) :
    Calls Tryz.prog 35 #[.agg #[.int .i64 c.cB, .int .i64 c.cBeam, .int .i64 c.cDepth, .int .i64 c.cWin, .int .i64 c.cQs, .int .i64 c.cQr, .int .i64 c.cBatch, .int .i64 c.cPass, .int .i64 c.cMsg, .int .i64 c.cSeqs], .agg #[.int .i64 h.hS, .int .i64 h.hR, .int .i64 h.hN, .int .i64 h.hP, .slice a h.hL.length cap, .bool h.hD, .slice b h.hB.length bc]] w fun e w' => e = .returned (.bool true) ∧ Below w.heap.size w w' := by
  obtain ⟨b1, xC, xH⟩ := pre2 w #[.int .i64 c.cB, .int .i64 c.cBeam, .int .i64 c.cDepth, .int .i64 c.cWin, .int .i64 c.cQs, .int .i64 c.cQr, .int .i64 c.cBatch, .int .i64 c.cPass, .int .i64 c.cMsg, .int .i64 c.cSeqs] 23 #[.int .i64 h.hS, .int .i64 h.hR, .int .i64 h.hN, .int .i64 h.hP, .slice a h.hL.length cap, .bool h.hD, .slice b h.hB.length bc] 39
  obtain ⟨W1, hW1⟩ : ∃ W, (w.alloc (.cells #[.int .i64 c.cB, .int .i64 c.cBeam, .int .i64 c.cDepth, .int .i64 c.cWin, .int .i64 c.cQs, .int .i64 c.cQr, .int .i64 c.cBatch, .int .i64 c.cPass, .int .i64 c.cMsg, .int .i64 c.cSeqs] 23)).alloc (.cells #[.int .i64 h.hS, .int .i64 h.hR, .int .i64 h.hN, .int .i64 h.hP, .slice a h.hL.length cap, .bool h.hD, .slice b h.hB.length bc] 39) = W := ⟨_, rfl⟩
  have hz1 : w.heap.size ≤ W1.heap.size := by rw [← hW1]; exact b1.size
  have hltC : w.heap.size < W1.heap.size := hW1 ▸ xC.lt
  have hltH : w.heap.size + 1 < W1.heap.size := hW1 ▸ xH.lt
  have k0 : Hid (W1.cell? ⟨w.heap.size, 0, none⟩ = some (.int .i64 c.cB)) := hW1 ▸ xC.cell 0 _ rfl
  have k1 : Hid (W1.cell? ⟨w.heap.size, 1, none⟩ = some (.int .i64 c.cBeam)) := hW1 ▸ xC.cell 1 _ rfl
  have k2 : Hid (W1.cell? ⟨w.heap.size, 2, none⟩ = some (.int .i64 c.cDepth)) := hW1 ▸ xC.cell 2 _ rfl
  have k3 : Hid (W1.cell? ⟨w.heap.size, 3, none⟩ = some (.int .i64 c.cWin)) := hW1 ▸ xC.cell 3 _ rfl
  have k4 : Hid (W1.cell? ⟨w.heap.size, 4, none⟩ = some (.int .i64 c.cQs)) := hW1 ▸ xC.cell 4 _ rfl
  have k5 : Hid (W1.cell? ⟨w.heap.size, 5, none⟩ = some (.int .i64 c.cQr)) := hW1 ▸ xC.cell 5 _ rfl
  have k6 : Hid (W1.cell? ⟨w.heap.size, 6, none⟩ = some (.int .i64 c.cBatch)) := hW1 ▸ xC.cell 6 _ rfl
  have k7 : Hid (W1.cell? ⟨w.heap.size, 7, none⟩ = some (.int .i64 c.cPass)) := hW1 ▸ xC.cell 7 _ rfl
  have k8 : Hid (W1.cell? ⟨w.heap.size, 8, none⟩ = some (.int .i64 c.cMsg)) := hW1 ▸ xC.cell 8 _ rfl
  have k9 : Hid (W1.cell? ⟨w.heap.size, 9, none⟩ = some (.int .i64 c.cSeqs)) := hW1 ▸ xC.cell 9 _ rfl
  have m0 : Hid (W1.cell? ⟨w.heap.size + 1, 0, none⟩ = some (.int .i64 h.hS)) := hW1 ▸ xH.cell 0 _ rfl
  have m1 : Hid (W1.cell? ⟨w.heap.size + 1, 1, none⟩ = some (.int .i64 h.hR)) := hW1 ▸ xH.cell 1 _ rfl
  have m2 : Hid (W1.cell? ⟨w.heap.size + 1, 2, none⟩ = some (.int .i64 h.hN)) := hW1 ▸ xH.cell 2 _ rfl
  have m3 : Hid (W1.cell? ⟨w.heap.size + 1, 3, none⟩ = some (.int .i64 h.hP)) := hW1 ▸ xH.cell 3 _ rfl
  have m4 : Hid (W1.cell? ⟨w.heap.size + 1, 4, none⟩ = some (.slice a h.hL.length cap)) := hW1 ▸ xH.cell 4 _ rfl
  have m5 : Hid (W1.cell? ⟨w.heap.size + 1, 5, none⟩ = some (.bool h.hD)) := hW1 ▸ xH.cell 5 _ rfl
  have m6 : Hid (W1.cell? ⟨w.heap.size + 1, 6, none⟩ = some (.slice b h.hB.length bc)) := hW1 ▸ xH.cell 6 _ rfl
  have hA1 : HearAt W1 h a cap b bc := hW1 ▸ ha.next b1
  have HPC : Hid (∀ wx : World, Below W1.heap.size W1 wx → Calls Tryz.prog 20 #[.agg #[.int .i64 h.hN, .int .i64 h.hP, .slice a h.hL.length cap]] wx fun e w' => e = .returned (.int .i64 0) ∧ Below W1.heap.size W1 w') := fun wx hw => (Check_ok h.hN h.hP a cap h.hL hl hp wx (hA1.next hw).syms).mono fun e w' ⟨h, b⟩ => ⟨h, hw.trans (b.mono hw.size)⟩
  have HSG : Hid (∀ wx : World, Below W1.heap.size W1 wx → Calls Tryz.prog 18 #[.agg #[.int .i64 c.cB, .int .i64 c.cBeam, .int .i64 c.cDepth, .int .i64 c.cWin, .int .i64 c.cQs, .int .i64 c.cQr, .int .i64 c.cBatch, .int .i64 c.cPass, .int .i64 c.cMsg, .int .i64 c.cSeqs]] wx fun e w' => e = .returned (.int .i64 (segsC c)) ∧ Below W1.heap.size W1 w') := fun wx hw => by
    have := ConfSegs_any c wx
    unfold segsA at this
    rw [if_pos hC] at this
    exact this.mono fun e w' ⟨h, b⟩ => ⟨h, hw.trans (b.mono hw.size)⟩
  have d1 : (h.hN == segsC c) = true := by rw [beq_iff_eq]; exact h1
  clear h1
  have d2 : (h.hP == c.cPass) = true := by rw [beq_iff_eq]; exact h2
  clear h2
  have d3 : (h.hR != -1) = true := by rw [bne_iff_ne]; exact h3
  clear h3
  replace b1 : Below w.heap.size w W1 := hW1 ▸ b1
  clear xC xH ha hA1 hl hp hC
  go_enter Tryz.func35, Tryz.ntmps35
  go_upto_region 1 with fail
  try rw [hW1]
  clear hW1
  refine wp_region_held_drew (S := fun w' => Below W1.heap.size W1 w') (by kernel_rfl) ((Below.refl _ _).drew) (fun hHeld => ?_)
  refine ht0 0 5 (v := ?v44) (fun _ => ?y44) hHeld ?_
  case y44 => go_simp; with_reducible rfl
  simp only [sn]
  refine ht 1 6 (v := ?v45) (fun _ hSw => ?y45) hHeld ?_
  case y45 => have q0 := hSw.at m2.out hltH; have q1 := hSw.at m3.out hltH; have q2 := hSw.at m4.out hltH; clear hSw; go_simp; with_reducible rfl
  simp only [sn]
  refine wpAnyH_ready (rs := [2]) (by kernel_rfl) (by simp) ?_
  refine AllReadyH.cons rfl (fun K hK => ?_) AllReadyH.nil
  go_simp
  go_wp2_with (go_at_call 20; refine (HPC.out _ (by exact hHeld)).mono ?_; rintro e wb ⟨rfl, b8⟩)
  refine hK.out _ _ (b8) (fun hHeld => ?_)
  clear hK K
  refine ht0 3 8 (v := ?v46) (fun _ => ?y46) hHeld ?_
  case y46 => go_simp; with_reducible rfl
  simp only [sn]
  refine ht0 4 9 (v := ?v47) (fun _ => ?y47) hHeld ?_
  case y47 => go_simp; with_reducible rfl
  simp only [sn]
  refine ht0 5 10 (v := ?v48) (fun _ => ?y48) hHeld ?_
  case y48 => go_simp; with_reducible rfl
  simp only [sn]
  refine ht0 6 11 (v := ?v49) (fun _ => ?y49) hHeld ?_
  case y49 => go_simp; with_reducible rfl
  simp only [sn]
  refine ht 7 12 (v := ?v50) (fun _ hSw => ?y50) hHeld ?_
  case y50 => have q0 := hSw.at m2.out hltH; clear hSw; go_simp; with_reducible rfl
  simp only [sn]
  refine ht 8 13 (v := ?v51) (fun _ hSw => ?y51) hHeld ?_
  case y51 => have q0 := hSw.at k0.out hltC; have q1 := hSw.at k1.out hltC; have q2 := hSw.at k2.out hltC; have q3 := hSw.at k3.out hltC; have q4 := hSw.at k4.out hltC; have q5 := hSw.at k5.out hltC; have q6 := hSw.at k6.out hltC; have q7 := hSw.at k7.out hltC; have q8 := hSw.at k8.out hltC; have q9 := hSw.at k9.out hltC; clear hSw; go_simp; with_reducible rfl
  simp only [sn]
  refine wpAnyH_ready (rs := [9]) (by kernel_rfl) (by simp) ?_
  refine AllReadyH.cons rfl (fun K hK => ?_) AllReadyH.nil
  go_simp
  go_wp2_with (go_at_call 18; refine (HSG.out _ (by exact hHeld)).mono ?_; rintro e wb ⟨rfl, b8⟩)
  refine hK.out _ _ (b8) (fun hHeld => ?_)
  clear hK K
  refine ht0 10 15 (v := ?v52) (fun _ => ?y52) hHeld ?_
  case y52 => go_simp; with_reducible rfl
  simp only [sn]
  refine ht0 11 16 (v := ?v53) (fun _ => ?y53) hHeld ?_
  case y53 => go_simp; with_reducible rfl
  simp only [sn]
  refine ht0 12 17 (v := ?v54) (fun _ => ?y54) hHeld ?_
  case y54 => go_simp; with_reducible rfl
  simp only [sn]
  refine ht0 13 18 (v := ?v55) (fun _ => ?y55) hHeld ?_
  case y55 => go_simp; with_reducible rfl
  simp only [sn]
  refine ht0 14 19 (v := ?v56) (fun _ => ?y56) hHeld ?_
  case y56 => go_simp; with_reducible rfl
  simp only [sn]
  refine ht 15 20 (v := ?v57) (fun _ hSw => ?y57) hHeld ?_
  case y57 => have q0 := hSw.at m3.out hltH; clear hSw; go_simp; with_reducible rfl
  simp only [sn]
  refine ht0 16 21 (v := ?v58) (fun _ => ?y58) hHeld ?_
  case y58 => go_simp; with_reducible rfl
  simp only [sn]
  refine ht 17 22 (v := ?v59) (fun _ hSw => ?y59) hHeld ?_
  case y59 => have q0 := hSw.at k7.out hltC; clear hSw; go_simp; with_reducible rfl
  simp only [sn]
  refine ht0 18 23 (v := ?v60) (fun _ => ?y60) hHeld ?_
  case y60 => go_simp; with_reducible rfl
  simp only [sn]
  refine ht0 19 24 (v := ?v61) (fun _ => ?y61) hHeld ?_
  case y61 => go_simp; with_reducible rfl
  simp only [sn]
  refine ht0 20 25 (v := ?v62) (fun _ => ?y62) hHeld ?_
  case y62 => go_simp; with_reducible rfl
  simp only [sn]
  refine ht0 21 26 (v := ?v63) (fun _ => ?y63) hHeld ?_
  case y63 => go_simp; with_reducible rfl
  simp only [sn]
  refine ht 22 27 (v := ?v64) (fun _ hSw => ?y64) hHeld ?_
  case y64 => have q0 := hSw.at m1.out hltH; clear hSw; go_simp; with_reducible rfl
  simp only [sn]
  refine ht0 23 28 (v := ?v65) (fun _ => ?y65) hHeld ?_
  case y65 => go_simp; with_reducible rfl
  simp only [sn]
  refine ht0 24 29 (v := ?v66) (fun _ => ?y66) hHeld ?_
  case y66 => go_simp; with_reducible rfl
  simp only [sn]
  refine hu 25 30 hHeld ?_
  simp only [sn]
  refine hu 26 31 hHeld ?_
  simp only [sn]
  refine hu 27 32 hHeld ?_
  simp only [sn]
  refine hu 28 33 hHeld ?_
  simp only [sn]
  refine hu 29 34 hHeld ?_
  simp only [sn]
  refine ht0 30 35 (v := ?v67) (fun _ => ?y67) hHeld ?_
  case y67 => go_simp; with_reducible rfl
  simp only [sn]
  refine ht0 31 36 (v := ?v68) (fun _ => ?y68) hHeld ?_
  case y68 => go_simp; with_reducible rfl
  simp only [sn]
  refine wpAnyH_ready (rs := [32]) (by kernel_rfl) (by simp) ?_
  refine AllReadyH.cons rfl (fun K hK => ?_) AllReadyH.nil
  go_simp
  refine hK.out _ _ hHeld (fun hHeld => ?_)
  clear hK K
  refine wpAnyH_done (by kernel_rfl) ?_ _
  go_wp2
  go_ret
  exact ⟨rfl, b1.trans (hHeld.mono hz1)⟩

set_option maxRecDepth 100000 in
set_option maxHeartbeats 4000000 in
theorem isRightPile_e (c : Cfg) (hC : okC c = true) (h : Hr) (a b : Option Addr) (cap bc : Nat) (hl : h.hL.length ≤ 4294967296) (hp : PileOk h.hN h.hP h.hL) (h1 : h.hN = segsC c) (h2 : h.hP = c.cPass) (h3 : h.hR = -1) (h4 : h.hL.length = 0) (w : World) (ha : HearAt w h a cap b bc) :
    Calls Tryz.prog 35 #[.agg #[.int .i64 c.cB, .int .i64 c.cBeam, .int .i64 c.cDepth, .int .i64 c.cWin, .int .i64 c.cQs, .int .i64 c.cQr, .int .i64 c.cBatch, .int .i64 c.cPass, .int .i64 c.cMsg, .int .i64 c.cSeqs], .agg #[.int .i64 h.hS, .int .i64 h.hR, .int .i64 h.hN, .int .i64 h.hP, .slice a h.hL.length cap, .bool h.hD, .slice b h.hB.length bc]] w fun e w' => e = .returned (.bool true) ∧ Below w.heap.size w w' := by
  obtain ⟨b1, xC, xH⟩ := pre2 w #[.int .i64 c.cB, .int .i64 c.cBeam, .int .i64 c.cDepth, .int .i64 c.cWin, .int .i64 c.cQs, .int .i64 c.cQr, .int .i64 c.cBatch, .int .i64 c.cPass, .int .i64 c.cMsg, .int .i64 c.cSeqs] 23 #[.int .i64 h.hS, .int .i64 h.hR, .int .i64 h.hN, .int .i64 h.hP, .slice a h.hL.length cap, .bool h.hD, .slice b h.hB.length bc] 39
  obtain ⟨W1, hW1⟩ : ∃ W, (w.alloc (.cells #[.int .i64 c.cB, .int .i64 c.cBeam, .int .i64 c.cDepth, .int .i64 c.cWin, .int .i64 c.cQs, .int .i64 c.cQr, .int .i64 c.cBatch, .int .i64 c.cPass, .int .i64 c.cMsg, .int .i64 c.cSeqs] 23)).alloc (.cells #[.int .i64 h.hS, .int .i64 h.hR, .int .i64 h.hN, .int .i64 h.hP, .slice a h.hL.length cap, .bool h.hD, .slice b h.hB.length bc] 39) = W := ⟨_, rfl⟩
  have hz1 : w.heap.size ≤ W1.heap.size := by rw [← hW1]; exact b1.size
  have hltC : w.heap.size < W1.heap.size := hW1 ▸ xC.lt
  have hltH : w.heap.size + 1 < W1.heap.size := hW1 ▸ xH.lt
  have k0 : Hid (W1.cell? ⟨w.heap.size, 0, none⟩ = some (.int .i64 c.cB)) := hW1 ▸ xC.cell 0 _ rfl
  have k1 : Hid (W1.cell? ⟨w.heap.size, 1, none⟩ = some (.int .i64 c.cBeam)) := hW1 ▸ xC.cell 1 _ rfl
  have k2 : Hid (W1.cell? ⟨w.heap.size, 2, none⟩ = some (.int .i64 c.cDepth)) := hW1 ▸ xC.cell 2 _ rfl
  have k3 : Hid (W1.cell? ⟨w.heap.size, 3, none⟩ = some (.int .i64 c.cWin)) := hW1 ▸ xC.cell 3 _ rfl
  have k4 : Hid (W1.cell? ⟨w.heap.size, 4, none⟩ = some (.int .i64 c.cQs)) := hW1 ▸ xC.cell 4 _ rfl
  have k5 : Hid (W1.cell? ⟨w.heap.size, 5, none⟩ = some (.int .i64 c.cQr)) := hW1 ▸ xC.cell 5 _ rfl
  have k6 : Hid (W1.cell? ⟨w.heap.size, 6, none⟩ = some (.int .i64 c.cBatch)) := hW1 ▸ xC.cell 6 _ rfl
  have k7 : Hid (W1.cell? ⟨w.heap.size, 7, none⟩ = some (.int .i64 c.cPass)) := hW1 ▸ xC.cell 7 _ rfl
  have k8 : Hid (W1.cell? ⟨w.heap.size, 8, none⟩ = some (.int .i64 c.cMsg)) := hW1 ▸ xC.cell 8 _ rfl
  have k9 : Hid (W1.cell? ⟨w.heap.size, 9, none⟩ = some (.int .i64 c.cSeqs)) := hW1 ▸ xC.cell 9 _ rfl
  have m0 : Hid (W1.cell? ⟨w.heap.size + 1, 0, none⟩ = some (.int .i64 h.hS)) := hW1 ▸ xH.cell 0 _ rfl
  have m1 : Hid (W1.cell? ⟨w.heap.size + 1, 1, none⟩ = some (.int .i64 h.hR)) := hW1 ▸ xH.cell 1 _ rfl
  have m2 : Hid (W1.cell? ⟨w.heap.size + 1, 2, none⟩ = some (.int .i64 h.hN)) := hW1 ▸ xH.cell 2 _ rfl
  have m3 : Hid (W1.cell? ⟨w.heap.size + 1, 3, none⟩ = some (.int .i64 h.hP)) := hW1 ▸ xH.cell 3 _ rfl
  have m4 : Hid (W1.cell? ⟨w.heap.size + 1, 4, none⟩ = some (.slice a h.hL.length cap)) := hW1 ▸ xH.cell 4 _ rfl
  have m5 : Hid (W1.cell? ⟨w.heap.size + 1, 5, none⟩ = some (.bool h.hD)) := hW1 ▸ xH.cell 5 _ rfl
  have m6 : Hid (W1.cell? ⟨w.heap.size + 1, 6, none⟩ = some (.slice b h.hB.length bc)) := hW1 ▸ xH.cell 6 _ rfl
  have hA1 : HearAt W1 h a cap b bc := hW1 ▸ ha.next b1
  have HPC : Hid (∀ wx : World, Below W1.heap.size W1 wx → Calls Tryz.prog 20 #[.agg #[.int .i64 h.hN, .int .i64 h.hP, .slice a h.hL.length cap]] wx fun e w' => e = .returned (.int .i64 0) ∧ Below W1.heap.size W1 w') := fun wx hw => (Check_ok h.hN h.hP a cap h.hL hl hp wx (hA1.next hw).syms).mono fun e w' ⟨h, b⟩ => ⟨h, hw.trans (b.mono hw.size)⟩
  have HSG : Hid (∀ wx : World, Below W1.heap.size W1 wx → Calls Tryz.prog 18 #[.agg #[.int .i64 c.cB, .int .i64 c.cBeam, .int .i64 c.cDepth, .int .i64 c.cWin, .int .i64 c.cQs, .int .i64 c.cQr, .int .i64 c.cBatch, .int .i64 c.cPass, .int .i64 c.cMsg, .int .i64 c.cSeqs]] wx fun e w' => e = .returned (.int .i64 (segsC c)) ∧ Below W1.heap.size W1 w') := fun wx hw => by
    have := ConfSegs_any c wx
    unfold segsA at this
    rw [if_pos hC] at this
    exact this.mono fun e w' ⟨h, b⟩ => ⟨h, hw.trans (b.mono hw.size)⟩
  have d1 : (h.hN == segsC c) = true := by rw [beq_iff_eq]; exact h1
  clear h1
  have d2 : (h.hP == c.cPass) = true := by rw [beq_iff_eq]; exact h2
  clear h2
  have d3 : (h.hR != -1) = false := by rw [bne_eq_false_iff_eq]; exact h3
  clear h3
  have d4 : ((h.hL.length : Int) == 0) = true := by rw [beq_iff_eq]; omega
  have d5 : (h.hL.length == 0) = true := by rw [beq_iff_eq]; exact h4
  clear h4
  replace b1 : Below w.heap.size w W1 := hW1 ▸ b1
  clear xC xH ha hA1 hl hp hC
  go_enter Tryz.func35, Tryz.ntmps35
  go_upto_region 1 with fail
  try rw [hW1]
  clear hW1
  refine wp_region_held_drew (S := fun w' => Below W1.heap.size W1 w') (by kernel_rfl) ((Below.refl _ _).drew) (fun hHeld => ?_)
  refine ht0 0 5 (v := ?v69) (fun _ => ?y69) hHeld ?_
  case y69 => go_simp; with_reducible rfl
  simp only [sn]
  refine ht 1 6 (v := ?v70) (fun _ hSw => ?y70) hHeld ?_
  case y70 => have q0 := hSw.at m2.out hltH; have q1 := hSw.at m3.out hltH; have q2 := hSw.at m4.out hltH; clear hSw; go_simp; with_reducible rfl
  simp only [sn]
  refine wpAnyH_ready (rs := [2]) (by kernel_rfl) (by simp) ?_
  refine AllReadyH.cons rfl (fun K hK => ?_) AllReadyH.nil
  go_simp
  go_wp2_with (go_at_call 20; refine (HPC.out _ (by exact hHeld)).mono ?_; rintro e wb ⟨rfl, b8⟩)
  refine hK.out _ _ (b8) (fun hHeld => ?_)
  clear hK K
  refine ht0 3 8 (v := ?v71) (fun _ => ?y71) hHeld ?_
  case y71 => go_simp; with_reducible rfl
  simp only [sn]
  refine ht0 4 9 (v := ?v72) (fun _ => ?y72) hHeld ?_
  case y72 => go_simp; with_reducible rfl
  simp only [sn]
  refine ht0 5 10 (v := ?v73) (fun _ => ?y73) hHeld ?_
  case y73 => go_simp; with_reducible rfl
  simp only [sn]
  refine ht0 6 11 (v := ?v74) (fun _ => ?y74) hHeld ?_
  case y74 => go_simp; with_reducible rfl
  simp only [sn]
  refine ht 7 12 (v := ?v75) (fun _ hSw => ?y75) hHeld ?_
  case y75 => have q0 := hSw.at m2.out hltH; clear hSw; go_simp; with_reducible rfl
  simp only [sn]
  refine ht 8 13 (v := ?v76) (fun _ hSw => ?y76) hHeld ?_
  case y76 => have q0 := hSw.at k0.out hltC; have q1 := hSw.at k1.out hltC; have q2 := hSw.at k2.out hltC; have q3 := hSw.at k3.out hltC; have q4 := hSw.at k4.out hltC; have q5 := hSw.at k5.out hltC; have q6 := hSw.at k6.out hltC; have q7 := hSw.at k7.out hltC; have q8 := hSw.at k8.out hltC; have q9 := hSw.at k9.out hltC; clear hSw; go_simp; with_reducible rfl
  simp only [sn]
  refine wpAnyH_ready (rs := [9]) (by kernel_rfl) (by simp) ?_
  refine AllReadyH.cons rfl (fun K hK => ?_) AllReadyH.nil
  go_simp
  go_wp2_with (go_at_call 18; refine (HSG.out _ (by exact hHeld)).mono ?_; rintro e wb ⟨rfl, b8⟩)
  refine hK.out _ _ (b8) (fun hHeld => ?_)
  clear hK K
  refine ht0 10 15 (v := ?v77) (fun _ => ?y77) hHeld ?_
  case y77 => go_simp; with_reducible rfl
  simp only [sn]
  refine ht0 11 16 (v := ?v78) (fun _ => ?y78) hHeld ?_
  case y78 => go_simp; with_reducible rfl
  simp only [sn]
  refine ht0 12 17 (v := ?v79) (fun _ => ?y79) hHeld ?_
  case y79 => go_simp; with_reducible rfl
  simp only [sn]
  refine ht0 13 18 (v := ?v80) (fun _ => ?y80) hHeld ?_
  case y80 => go_simp; with_reducible rfl
  simp only [sn]
  refine ht0 14 19 (v := ?v81) (fun _ => ?y81) hHeld ?_
  case y81 => go_simp; with_reducible rfl
  simp only [sn]
  refine ht 15 20 (v := ?v82) (fun _ hSw => ?y82) hHeld ?_
  case y82 => have q0 := hSw.at m3.out hltH; clear hSw; go_simp; with_reducible rfl
  simp only [sn]
  refine ht0 16 21 (v := ?v83) (fun _ => ?y83) hHeld ?_
  case y83 => go_simp; with_reducible rfl
  simp only [sn]
  refine ht 17 22 (v := ?v84) (fun _ hSw => ?y84) hHeld ?_
  case y84 => have q0 := hSw.at k7.out hltC; clear hSw; go_simp; with_reducible rfl
  simp only [sn]
  refine ht0 18 23 (v := ?v85) (fun _ => ?y85) hHeld ?_
  case y85 => go_simp; with_reducible rfl
  simp only [sn]
  refine ht0 19 24 (v := ?v86) (fun _ => ?y86) hHeld ?_
  case y86 => go_simp; with_reducible rfl
  simp only [sn]
  refine ht0 20 25 (v := ?v87) (fun _ => ?y87) hHeld ?_
  case y87 => go_simp; with_reducible rfl
  simp only [sn]
  refine ht0 21 26 (v := ?v88) (fun _ => ?y88) hHeld ?_
  case y88 => go_simp; with_reducible rfl
  simp only [sn]
  refine ht 22 27 (v := ?v89) (fun _ hSw => ?y89) hHeld ?_
  case y89 => have q0 := hSw.at m1.out hltH; clear hSw; go_simp; with_reducible rfl
  simp only [sn]
  refine ht0 23 28 (v := ?v90) (fun _ => ?y90) hHeld ?_
  case y90 => go_simp; with_reducible rfl
  simp only [sn]
  refine ht0 24 29 (v := ?v91) (fun _ => ?y91) hHeld ?_
  case y91 => go_simp; with_reducible rfl
  simp only [sn]
  refine ht0 25 30 (v := ?v92) (fun _ => ?y92) hHeld ?_
  case y92 => go_simp; with_reducible rfl
  simp only [sn]
  refine ht0 26 31 (v := ?v93) (fun _ => ?y93) hHeld ?_
  case y93 => go_simp; with_reducible rfl
  simp only [sn]
  refine ht 27 32 (v := ?v94) (fun _ hSw => ?y94) hHeld ?_
  case y94 => have q0 := hSw.at m4.out hltH; clear hSw; go_simp; with_reducible rfl
  simp only [sn]
  refine ht0 28 33 (v := ?v95) (fun _ => ?y95) hHeld ?_
  case y95 => go_simp; with_reducible rfl
  simp only [sn]
  refine ht0 29 34 (v := ?v96) (fun _ => ?y96) hHeld ?_
  case y96 => go_simp; with_reducible rfl
  simp only [sn]
  refine ht0 30 35 (v := ?v97) (fun _ => ?y97) hHeld ?_
  case y97 => go_simp; with_reducible rfl
  simp only [sn]
  refine ht0 31 36 (v := ?v98) (fun _ => ?y98) hHeld ?_
  case y98 => go_simp; with_reducible rfl
  simp only [sn]
  refine wpAnyH_ready (rs := [32]) (by kernel_rfl) (by simp) ?_
  refine AllReadyH.cons rfl (fun K hK => ?_) AllReadyH.nil
  go_simp
  refine hK.out _ _ hHeld (fun hHeld => ?_)
  clear hK K
  refine wpAnyH_done (by kernel_rfl) ?_ _
  go_wp2
  go_ret
  exact ⟨rfl, b1.trans (hHeld.mono hz1)⟩

theorem isRightPile_yes (c : Cfg) (hC : okC c = true) (h : Hr) (a b : Option Addr) (cap bc : Nat) (hl : h.hL.length ≤ 4294967296) (hr : rpH c h) (w : World) (ha : HearAt w h a cap b bc) :
    Calls Tryz.prog 35 #[.agg #[.int .i64 c.cB, .int .i64 c.cBeam, .int .i64 c.cDepth, .int .i64 c.cWin, .int .i64 c.cQs, .int .i64 c.cQr, .int .i64 c.cBatch, .int .i64 c.cPass, .int .i64 c.cMsg, .int .i64 c.cSeqs], .agg #[.int .i64 h.hS, .int .i64 h.hR, .int .i64 h.hN, .int .i64 h.hP, .slice a h.hL.length cap, .bool h.hD, .slice b h.hB.length bc]] w fun e w' => e = .returned (.bool true) ∧ Below w.heap.size w w' := by
  by_cases h3 : h.hR = -1
  · exact isRightPile_e c hC h a b cap bc hl hr.1 hr.2.1 hr.2.2.1 h3 (hr.2.2.2 h3) w ha
  · exact isRightPile_d c hC h a b cap bc hl hr.1 hr.2.1 hr.2.2.1 h3 w ha
set_option maxRecDepth 100000 in
set_option maxHeartbeats 4000000 in
theorem hearCheck_f (c : Cfg) (hC : okC c = true) (h : Hr) (a b : Option Addr) (cap bc : Nat) (hl : h.hL.length ≤ 4294967296) (hb : h.hB.length ≤ 4096) (q0 : 0 ≤ h.hS) (q1 : -1 ≤ h.hR) (q2 : h.hR ≤ 255) (hp : rpH c h) (hrb : rbH c h = true) (w : World) (ha : HearAt w h a cap b bc) :
    Calls Tryz.prog 16 #[.agg #[.int .i64 c.cB, .int .i64 c.cBeam, .int .i64 c.cDepth, .int .i64 c.cWin, .int .i64 c.cQs, .int .i64 c.cQr, .int .i64 c.cBatch, .int .i64 c.cPass, .int .i64 c.cMsg, .int .i64 c.cSeqs], .agg #[.int .i64 h.hS, .int .i64 h.hR, .int .i64 h.hN, .int .i64 h.hP, .slice a h.hL.length cap, .bool h.hD, .slice b h.hB.length bc]] w fun e w' => e = .returned (.int .i64 0) ∧ Below w.heap.size w w' := by
  obtain ⟨b1, xC, xH⟩ := pre2 w #[.int .i64 c.cB, .int .i64 c.cBeam, .int .i64 c.cDepth, .int .i64 c.cWin, .int .i64 c.cQs, .int .i64 c.cQr, .int .i64 c.cBatch, .int .i64 c.cPass, .int .i64 c.cMsg, .int .i64 c.cSeqs] 23 #[.int .i64 h.hS, .int .i64 h.hR, .int .i64 h.hN, .int .i64 h.hP, .slice a h.hL.length cap, .bool h.hD, .slice b h.hB.length bc] 39
  have H1 := ConfCheck_any c ((w.alloc (.cells #[.int .i64 c.cB, .int .i64 c.cBeam, .int .i64 c.cDepth, .int .i64 c.cWin, .int .i64 c.cQs, .int .i64 c.cQr, .int .i64 c.cBatch, .int .i64 c.cPass, .int .i64 c.cMsg, .int .i64 c.cSeqs] 23)).alloc (.cells #[.int .i64 h.hS, .int .i64 h.hR, .int .i64 h.hN, .int .i64 h.hP, .slice a h.hL.length cap, .bool h.hD, .slice b h.hB.length bc] 39))
  unfold checkA at H1
  rw [if_pos hC] at H1
  have HP : Hid (∀ wx : World, HearAt wx h a cap b bc → Calls Tryz.prog 35 #[.agg #[.int .i64 c.cB, .int .i64 c.cBeam, .int .i64 c.cDepth, .int .i64 c.cWin, .int .i64 c.cQs, .int .i64 c.cQr, .int .i64 c.cBatch, .int .i64 c.cPass, .int .i64 c.cMsg, .int .i64 c.cSeqs], .agg #[.int .i64 h.hS, .int .i64 h.hR, .int .i64 h.hN, .int .i64 h.hP, .slice a h.hL.length cap, .bool h.hD, .slice b h.hB.length bc]] wx fun e w' => e = .returned (.bool true) ∧ Below wx.heap.size wx w') := fun wx hx => isRightPile_yes c hC h a b cap bc hl hp wx hx
  have HB : Hid (∀ wx : World, HearAt wx h a cap b bc → Calls Tryz.prog 36 #[.agg #[.int .i64 c.cB, .int .i64 c.cBeam, .int .i64 c.cDepth, .int .i64 c.cWin, .int .i64 c.cQs, .int .i64 c.cQr, .int .i64 c.cBatch, .int .i64 c.cPass, .int .i64 c.cMsg, .int .i64 c.cSeqs], .agg #[.int .i64 h.hS, .int .i64 h.hR, .int .i64 h.hN, .int .i64 h.hP, .slice a h.hL.length cap, .bool h.hD, .slice b h.hB.length bc]] wx fun e w' => e = .returned (.bool true) ∧ Below wx.heap.size wx w') := fun wx hx => hrb ▸ isRightBytes_any c hC h a b cap bc hb wx hx
  have HA : Hid (HearAt ((w.alloc (.cells #[.int .i64 c.cB, .int .i64 c.cBeam, .int .i64 c.cDepth, .int .i64 c.cWin, .int .i64 c.cQs, .int .i64 c.cQr, .int .i64 c.cBatch, .int .i64 c.cPass, .int .i64 c.cMsg, .int .i64 c.cSeqs] 23)).alloc (.cells #[.int .i64 h.hS, .int .i64 h.hR, .int .i64 h.hN, .int .i64 h.hP, .slice a h.hL.length cap, .bool h.hD, .slice b h.hB.length bc] 39)) h a cap b bc) := ha.next b1
  have d0 : decide (0 ≤ h.hS) = true := decide_eq_true q0
  clear q0
  have d1 : decide (-1 ≤ h.hR) = true := decide_eq_true q1
  clear q1
  have d2 : decide (h.hR ≤ 255) = true := decide_eq_true q2
  clear q2
  clear ha hl hb hC hp hrb
  go_enter Tryz.func16, Tryz.ntmps16
  go_wp2_with fail
  refine H1.mono ?_
  rintro e w2 ⟨rfl, b2⟩
  have yC := xC.next b2
  have yH := xH.next b2
  have HA2 : Hid (HearAt w2 h a cap b bc) := HA.out.next b2
  have b3 := b1.trans (b2.mono b1.size)
  clear H1 xC xH b1 b2 HA
  have k0 := yC.cell 0 _ rfl
  have k1 := yC.cell 1 _ rfl
  have k2 := yC.cell 2 _ rfl
  have k3 := yC.cell 3 _ rfl
  have k4 := yC.cell 4 _ rfl
  have k5 := yC.cell 5 _ rfl
  have k6 := yC.cell 6 _ rfl
  have k7 := yC.cell 7 _ rfl
  have k8 := yC.cell 8 _ rfl
  have k9 := yC.cell 9 _ rfl
  have m0 := yH.cell 0 _ rfl
  have m1 := yH.cell 1 _ rfl
  have m2 := yH.cell 2 _ rfl
  have m3 := yH.cell 3 _ rfl
  have m4 := yH.cell 4 _ rfl
  have m5 := yH.cell 5 _ rfl
  have m6 := yH.cell 6 _ rfl
  go_wp2_with fail
  refine (HP.out _ HA2.out).mono ?_
  rintro e w4 ⟨rfl, b4⟩
  have zC := yC.next b4
  have zH := yH.next b4
  have HA4 : Hid (HearAt w4 h a cap b bc) := HA2.out.next b4
  have b5 := b3.trans (b4.mono b3.size)
  clear HP yC yH b3 b4 HA2 k0 k1 k2 k3 k4 k5 k6 k7 k8 k9 m0 m1 m2 m3 m4 m5 m6
  have k0 := zC.cell 0 _ rfl
  have k1 := zC.cell 1 _ rfl
  have k2 := zC.cell 2 _ rfl
  have k3 := zC.cell 3 _ rfl
  have k4 := zC.cell 4 _ rfl
  have k5 := zC.cell 5 _ rfl
  have k6 := zC.cell 6 _ rfl
  have k7 := zC.cell 7 _ rfl
  have k8 := zC.cell 8 _ rfl
  have k9 := zC.cell 9 _ rfl
  have m0 := zH.cell 0 _ rfl
  have m1 := zH.cell 1 _ rfl
  have m2 := zH.cell 2 _ rfl
  have m3 := zH.cell 3 _ rfl
  have m4 := zH.cell 4 _ rfl
  have m5 := zH.cell 5 _ rfl
  have m6 := zH.cell 6 _ rfl
  go_wp2_with fail
  refine (HB.out _ HA4.out).mono ?_
  rintro e w6 ⟨rfl, b6⟩
  go_wp2
  go_ret
  exact ⟨rfl, b5.trans (b6.mono b5.size)⟩

theorem okH_lens {c : Cfg} (hC : okC c = true) {h : Hr} (hk : okH c h) : h.hL.length ≤ 4294967296 ∧ h.hB.length ≤ 4096 := by
  have h1 := pile_len hk.2.2.1
  have h2 := hk.2.2.1.1.prod
  have h3 := ((okC_iff c).1 hC).1
  refine ⟨by omega, ?_⟩
  cases hd : h.hD with
  | true => have := ((blockB_iff _ _ _).1 (hk.2.2.2.2.2.2.1 hd)).1; omega
  | false => rw [hk.2.2.2.2.2.2.2 hd]; exact Nat.zero_le _
theorem HearCheck_ok (c : Cfg) (h : Hr) (hC : okC c = true) (hk : okH c h) (a b : Option Addr) (cap bc : Nat) (w : World) (ha : HearAt w h a cap b bc) :
    Calls Tryz.prog 16 #[.agg #[.int .i64 c.cB, .int .i64 c.cBeam, .int .i64 c.cDepth, .int .i64 c.cWin, .int .i64 c.cQs, .int .i64 c.cQr, .int .i64 c.cBatch, .int .i64 c.cPass, .int .i64 c.cMsg, .int .i64 c.cSeqs], .agg #[.int .i64 h.hS, .int .i64 h.hR, .int .i64 h.hN, .int .i64 h.hP, .slice a h.hL.length cap, .bool h.hD, .slice b h.hB.length bc]] w fun e w' => e = .returned (.int .i64 0) ∧ Below w.heap.size w w' := by
  obtain ⟨hl, hb⟩ := okH_lens hC hk
  obtain ⟨q0, q1, q2, hp, hrb⟩ := okH_parts.1 hk
  exact hearCheck_f c hC h a b cap bc hl hb q0 q1 q2 hp hrb w ha

set_option maxRecDepth 100000 in
set_option maxHeartbeats 4000000 in
theorem HearNew_ok (c : Cfg) (s : Int) (h : okC c = true) (hs : 0 ≤ s) (w : World) :
    Calls Tryz.prog 11 #[.agg #[.int .i64 c.cB, .int .i64 c.cBeam, .int .i64 c.cDepth, .int .i64 c.cWin, .int .i64 c.cQs, .int .i64 c.cQr, .int .i64 c.cBatch, .int .i64 c.cPass, .int .i64 c.cMsg, .int .i64 c.cSeqs], .int .i64 s] w fun e W' => ∃ a cap b bc, e = .returned (.tuple #[.agg #[.int .i64 s, .int .i64 (-1), .int .i64 (segsC c), .int .i64 c.cPass, .slice a 0 cap, .bool false, .slice b 0 bc], .int .i64 0]) ∧ OwnHear w.heap.size W' (newH c s) a cap b bc ∧ Below w.heap.size w W' := by
  obtain ⟨b1, xC, xR⟩ := pre2 w #[.int .i64 c.cB, .int .i64 c.cBeam, .int .i64 c.cDepth, .int .i64 c.cWin, .int .i64 c.cQs, .int .i64 c.cQr, .int .i64 c.cBatch, .int .i64 c.cPass, .int .i64 c.cMsg, .int .i64 c.cSeqs] 23 #[.int .i64 0, .int .i64 0, .int .i64 0, .int .i64 0, .slice none 0 0, .bool false, .slice none 0 0] 39
  have H1 := ConfCheck_any c ((w.alloc (.cells #[.int .i64 c.cB, .int .i64 c.cBeam, .int .i64 c.cDepth, .int .i64 c.cWin, .int .i64 c.cQs, .int .i64 c.cQr, .int .i64 c.cBatch, .int .i64 c.cPass, .int .i64 c.cMsg, .int .i64 c.cSeqs] 23)).alloc (.cells #[.int .i64 0, .int .i64 0, .int .i64 0, .int .i64 0, .slice none 0 0, .bool false, .slice none 0 0] 39))
  unfold checkA at H1
  rw [if_pos h] at H1
  have ds : decide (s < 0) = false := decide_eq_false (by omega)
  have hHd := headOk_conf h
  have hC := h
  clear h hs
  go_enter Tryz.func11, Tryz.ntmps11
  go_wp2_with fail
  refine H1.mono ?_
  rintro e w2 ⟨rfl, b2⟩
  have yC := xC.next b2
  have yR := xR.next b2
  have b3 := b1.trans (b2.mono b1.size)
  clear H1 xC xR b1 b2
  have k0 : Hid (w2.cell? ⟨w.heap.size, 0, none⟩ = some (.int .i64 c.cB)) := yC.cell 0 _ rfl
  have k1 : Hid (w2.cell? ⟨w.heap.size, 1, none⟩ = some (.int .i64 c.cBeam)) := yC.cell 1 _ rfl
  have k2 : Hid (w2.cell? ⟨w.heap.size, 2, none⟩ = some (.int .i64 c.cDepth)) := yC.cell 2 _ rfl
  have k3 : Hid (w2.cell? ⟨w.heap.size, 3, none⟩ = some (.int .i64 c.cWin)) := yC.cell 3 _ rfl
  have k4 : Hid (w2.cell? ⟨w.heap.size, 4, none⟩ = some (.int .i64 c.cQs)) := yC.cell 4 _ rfl
  have k5 : Hid (w2.cell? ⟨w.heap.size, 5, none⟩ = some (.int .i64 c.cQr)) := yC.cell 5 _ rfl
  have k6 : Hid (w2.cell? ⟨w.heap.size, 6, none⟩ = some (.int .i64 c.cBatch)) := yC.cell 6 _ rfl
  have k7 : Hid (w2.cell? ⟨w.heap.size, 7, none⟩ = some (.int .i64 c.cPass)) := yC.cell 7 _ rfl
  have k8 : Hid (w2.cell? ⟨w.heap.size, 8, none⟩ = some (.int .i64 c.cMsg)) := yC.cell 8 _ rfl
  have k9 : Hid (w2.cell? ⟨w.heap.size, 9, none⟩ = some (.int .i64 c.cSeqs)) := yC.cell 9 _ rfl
  have hltC := yC.lt
  have HSG : Hid (∀ wx : World, Below w2.heap.size w2 wx → Calls Tryz.prog 18 #[.agg #[.int .i64 c.cB, .int .i64 c.cBeam, .int .i64 c.cDepth, .int .i64 c.cWin, .int .i64 c.cQs, .int .i64 c.cQr, .int .i64 c.cBatch, .int .i64 c.cPass, .int .i64 c.cMsg, .int .i64 c.cSeqs]] wx fun e w' => e = .returned (.int .i64 (segsC c)) ∧ Below w2.heap.size w2 w' ∧ Below wx.heap.size wx w') := fun wx hw => by
    have := ConfSegs_any c wx
    unfold segsA at this
    rw [if_pos hC] at this
    exact this.mono fun e w' ⟨h, b⟩ => ⟨h, hw.trans (b.mono hw.size), b⟩
  have HPN : Hid (∀ wx : World, Below w2.heap.size w2 wx → Calls Tryz.prog 26 #[.int .i64 (segsC c), .int .i64 c.cPass] wx fun e w' => e = .returned (.tuple #[.agg #[.int .i64 (segsC c), .int .i64 c.cPass, .slice none 0 0], .int .i64 0]) ∧ Below w2.heap.size w2 w' ∧ Below wx.heap.size wx w') := fun wx hw => (New_ok (segsC c) c.cPass hHd wx).mono fun e w' ⟨h, b⟩ => ⟨h, hw.trans (b.mono hw.size), b⟩
  clear yC hC hHd
  go_upto_region 6 with fail
  have hS : Below w2.heap.size w2 w2.drew := (Below.refl _ _).drew
  refine wp_region_held_drew (S := fun w' => Below w2.heap.size w2 w') (by kernel_rfl) (hS) (fun hHeld => ?_)
  generalize w2.drew = wk0 at *
  refine ht 0 19 (v := ?v129) (fun _ hSw => ?y129) hHeld ?_
  case y129 => have q0 := hSw.at k0.out hltC; have q1 := hSw.at k1.out hltC; have q2 := hSw.at k2.out hltC; have q3 := hSw.at k3.out hltC; have q4 := hSw.at k4.out hltC; have q5 := hSw.at k5.out hltC; have q6 := hSw.at k6.out hltC; have q7 := hSw.at k7.out hltC; have q8 := hSw.at k8.out hltC; have q9 := hSw.at k9.out hltC; clear hSw; go_simp; with_reducible rfl
  simp only [sn]
  refine ht0 2 21 (v := ?v130) (fun _ => ?y130) hHeld ?_
  case y130 => go_simp; with_reducible rfl
  simp only [sn]
  refine ht 3 22 (v := ?v131) (fun _ hSw => ?y131) hHeld ?_
  case y131 => have q0 := hSw.at k7.out hltC; clear hSw; go_simp; with_reducible rfl
  simp only [sn]
  refine wpAnyH_ready (rs := [1, 8]) (by kernel_rfl) (by simp) ?_
  refine AllReadyH.cons rfl (fun K hK => ?_) ?_
  · go_simp
    go_wp2_with (go_at_call 18; refine (HSG.out _ (by exact hS)).mono ?_; rintro e wk1 ⟨rfl, b8, b7⟩)
    replace hS := b8
    clear b8 b7
    refine hK.out _ _ (hS) (fun hHeld => ?_)
    clear hK K
    refine wpAnyH_ready (rs := [4, 8]) (by kernel_rfl) (by simp) ?_
    refine AllReadyH.cons rfl (fun K hK => ?_) ?_
    · go_simp
      go_wp2_with (go_at_call 26; refine (HPN.out _ (by exact hS)).mono ?_; rintro e wk2 ⟨rfl, b8, b7⟩)
      replace hS := b8
      clear b8 b7
      refine hK.out _ _ (hS) (fun hHeld => ?_)
      clear hK K
      refine ht0 5 18 (v := ?v132) (fun _ => ?y132) hHeld ?_
      case y132 => go_simp; with_reducible rfl
      simp only [sn]
      refine ht0 6 24 (v := ?v133) (fun _ => ?y133) hHeld ?_
      case y133 => go_simp; with_reducible rfl
      simp only [sn]
      refine ht0 7 25 (v := ?v134) (fun _ => ?y134) hHeld ?_
      case y134 => go_simp; with_reducible rfl
      simp only [sn]
      refine wpAnyH_ready (rs := [8]) (by kernel_rfl) (by simp) ?_
      refine AllReadyH.cons rfl (fun K hK => ?_) AllReadyH.nil
      go_simp
      have x7 := Box.new wk2 37 #[.int .i64 0, .int .i64 0, .slice none 0 0]
      have hn7 : w2.heap.size ≤ wk2.heap.size := hS.size
      replace hS := hS.alloc hS.size (.cells #[.int .i64 0, .int .i64 0, .slice none 0 0] 37)
      generalize wk2.alloc (.cells #[.int .i64 0, .int .i64 0, .slice none 0 0] 37) = wk3 at *
      refine hK.out _ _ (hS) (fun hHeld => ?_)
      clear hK K
      refine wpAnyH_ready (rs := [9]) (by kernel_rfl) (by simp) ?_
      refine AllReadyH.cons rfl (fun K hK => ?_) AllReadyH.nil
      have y0 := x7.cell 0 _ rfl
      have y1 := x7.cell 1 _ rfl
      have y2 := x7.cell 2 _ rfl
      have u0 := x7.free 0
      have u1 := x7.free 1
      have u2 := x7.free 2
      have hltq := x7.lt
      go_simp
      replace x7 := x7.set3 (.int .i64 (segsC c)) (.int .i64 c.cPass) (.slice none 0 0)
      replace hS := ((hS.setCell (p := ⟨wk2.heap.size, 0, none⟩) hn7 (.int .i64 (segsC c))).setCell (p := ⟨wk2.heap.size, 1, none⟩) hn7 (.int .i64 c.cPass)).setCell (p := ⟨wk2.heap.size, 2, none⟩) hn7 (.slice none 0 0)
      clear y0 y1 y2 u0 u1 u2 hltq
      generalize ((wk3.setCell ⟨wk2.heap.size, 0, none⟩ (.int .i64 (segsC c))).setCell ⟨wk2.heap.size, 1, none⟩ (.int .i64 c.cPass)).setCell ⟨wk2.heap.size, 2, none⟩ (.slice none 0 0) = wk4 at *
      refine hK.out _ _ (hS) (fun hHeld => ?_)
      clear hK K
      refine wpAnyH_ready (rs := [10]) (by kernel_rfl) (by simp) ?_
      refine AllReadyH.cons rfl (fun K hK => ?_) AllReadyH.nil
      go_simp
      refine hK.out _ _ hHeld (fun hHeld => ?_)
      clear hK K
      refine wpAnyH_done (by kernel_rfl) ?_ _
      replace yR := yR.next hS
      have z0 := yR.cell 0 _ rfl
      have z1 := yR.cell 1 _ rfl
      have z2 := yR.cell 2 _ rfl
      have z3 := yR.cell 3 _ rfl
      have z4 := yR.cell 4 _ rfl
      have z5 := yR.cell 5 _ rfl
      have z6 := yR.cell 6 _ rfl
      have g0 := yR.free 0
      have g1 := yR.free 1
      have g2 := yR.free 2
      have g3 := yR.free 3
      have g4 := yR.free 4
      have g5 := yR.free 5
      have g6 := yR.free 6
      have y0 := x7.cell 0 _ rfl
      have y1 := x7.cell 1 _ rfl
      have y2 := x7.cell 2 _ rfl
      have hlt7 := x7.lt
      have b9 := b3.trans (hS.mono b3.size)
      go_wp2
      exact bodyPost_ret (v := .tuple #[.agg #[.int .i64 s, .int .i64 (-1), .int .i64 (segsC c), .int .i64 c.cPass, .slice none 0 0, .bool false, .slice none 0 0], .int .i64 0]) (by simp [results, Tryz.results11, go_sem, z0, z1, z2, z3, z4, z5, z6]) rfl ⟨none, 0, none, 0, rfl, ownHear_new _ _ c s, below_set7c b9 (by omega) (.int .i64 s) (.int .i64 (-1)) (.int .i64 (segsC c)) (.int .i64 c.cPass) (.slice none 0 0) (.bool false) (.slice none 0 0)⟩
    refine AllReadyH.cons rfl (fun K hK => ?_) ?_
    · go_simp
      have x7 := Box.new wk1 37 #[.int .i64 0, .int .i64 0, .slice none 0 0]
      have hn7 : w2.heap.size ≤ wk1.heap.size := hS.size
      replace hS := hS.alloc hS.size (.cells #[.int .i64 0, .int .i64 0, .slice none 0 0] 37)
      generalize wk1.alloc (.cells #[.int .i64 0, .int .i64 0, .slice none 0 0] 37) = wk2 at *
      refine hK.out _ _ (hS) (fun hHeld => ?_)
      clear hK K
      refine wpAnyH_ready (rs := [4]) (by kernel_rfl) (by simp) ?_
      refine AllReadyH.cons rfl (fun K hK => ?_) AllReadyH.nil
      go_simp
      go_wp2_with (go_at_call 26; refine (HPN.out _ (by exact hS)).mono ?_; rintro e wk3 ⟨rfl, b8, b7⟩)
      replace x7 := x7.next b7
      replace hS := b8
      clear b8 b7
      refine hK.out _ _ (hS) (fun hHeld => ?_)
      clear hK K
      refine ht0 5 18 (v := ?v135) (fun _ => ?y135) hHeld ?_
      case y135 => go_simp; with_reducible rfl
      simp only [sn]
      refine ht0 6 24 (v := ?v136) (fun _ => ?y136) hHeld ?_
      case y136 => go_simp; with_reducible rfl
      simp only [sn]
      refine ht0 7 25 (v := ?v137) (fun _ => ?y137) hHeld ?_
      case y137 => go_simp; with_reducible rfl
      simp only [sn]
      refine wpAnyH_ready (rs := [9]) (by kernel_rfl) (by simp) ?_
      refine AllReadyH.cons rfl (fun K hK => ?_) AllReadyH.nil
      have y0 := x7.cell 0 _ rfl
      have y1 := x7.cell 1 _ rfl
      have y2 := x7.cell 2 _ rfl
      have u0 := x7.free 0
      have u1 := x7.free 1
      have u2 := x7.free 2
      have hltq := x7.lt
      go_simp
      replace x7 := x7.set3 (.int .i64 (segsC c)) (.int .i64 c.cPass) (.slice none 0 0)
      replace hS := ((hS.setCell (p := ⟨wk1.heap.size, 0, none⟩) hn7 (.int .i64 (segsC c))).setCell (p := ⟨wk1.heap.size, 1, none⟩) hn7 (.int .i64 c.cPass)).setCell (p := ⟨wk1.heap.size, 2, none⟩) hn7 (.slice none 0 0)
      clear y0 y1 y2 u0 u1 u2 hltq
      generalize ((wk3.setCell ⟨wk1.heap.size, 0, none⟩ (.int .i64 (segsC c))).setCell ⟨wk1.heap.size, 1, none⟩ (.int .i64 c.cPass)).setCell ⟨wk1.heap.size, 2, none⟩ (.slice none 0 0) = wk4 at *
      refine hK.out _ _ (hS) (fun hHeld => ?_)
      clear hK K
      refine wpAnyH_ready (rs := [10]) (by kernel_rfl) (by simp) ?_
      refine AllReadyH.cons rfl (fun K hK => ?_) AllReadyH.nil
      go_simp
      refine hK.out _ _ hHeld (fun hHeld => ?_)
      clear hK K
      refine wpAnyH_done (by kernel_rfl) ?_ _
      replace yR := yR.next hS
      have z0 := yR.cell 0 _ rfl
      have z1 := yR.cell 1 _ rfl
      have z2 := yR.cell 2 _ rfl
      have z3 := yR.cell 3 _ rfl
      have z4 := yR.cell 4 _ rfl
      have z5 := yR.cell 5 _ rfl
      have z6 := yR.cell 6 _ rfl
      have g0 := yR.free 0
      have g1 := yR.free 1
      have g2 := yR.free 2
      have g3 := yR.free 3
      have g4 := yR.free 4
      have g5 := yR.free 5
      have g6 := yR.free 6
      have y0 := x7.cell 0 _ rfl
      have y1 := x7.cell 1 _ rfl
      have y2 := x7.cell 2 _ rfl
      have hlt7 := x7.lt
      have b9 := b3.trans (hS.mono b3.size)
      go_wp2
      exact bodyPost_ret (v := .tuple #[.agg #[.int .i64 s, .int .i64 (-1), .int .i64 (segsC c), .int .i64 c.cPass, .slice none 0 0, .bool false, .slice none 0 0], .int .i64 0]) (by simp [results, Tryz.results11, go_sem, z0, z1, z2, z3, z4, z5, z6]) rfl ⟨none, 0, none, 0, rfl, ownHear_new _ _ c s, below_set7c b9 (by omega) (.int .i64 s) (.int .i64 (-1)) (.int .i64 (segsC c)) (.int .i64 c.cPass) (.slice none 0 0) (.bool false) (.slice none 0 0)⟩
    exact AllReadyH.nil
  refine AllReadyH.cons rfl (fun K hK => ?_) ?_
  · go_simp
    have x7 := Box.new wk0 37 #[.int .i64 0, .int .i64 0, .slice none 0 0]
    have hn7 : w2.heap.size ≤ wk0.heap.size := hS.size
    replace hS := hS.alloc hS.size (.cells #[.int .i64 0, .int .i64 0, .slice none 0 0] 37)
    generalize wk0.alloc (.cells #[.int .i64 0, .int .i64 0, .slice none 0 0] 37) = wk1 at *
    refine hK.out _ _ (hS) (fun hHeld => ?_)
    clear hK K
    refine wpAnyH_ready (rs := [1]) (by kernel_rfl) (by simp) ?_
    refine AllReadyH.cons rfl (fun K hK => ?_) AllReadyH.nil
    go_simp
    go_wp2_with (go_at_call 18; refine (HSG.out _ (by exact hS)).mono ?_; rintro e wk2 ⟨rfl, b8, b7⟩)
    replace x7 := x7.next b7
    replace hS := b8
    clear b8 b7
    refine hK.out _ _ (hS) (fun hHeld => ?_)
    clear hK K
    refine wpAnyH_ready (rs := [4]) (by kernel_rfl) (by simp) ?_
    refine AllReadyH.cons rfl (fun K hK => ?_) AllReadyH.nil
    go_simp
    go_wp2_with (go_at_call 26; refine (HPN.out _ (by exact hS)).mono ?_; rintro e wk3 ⟨rfl, b8, b7⟩)
    replace x7 := x7.next b7
    replace hS := b8
    clear b8 b7
    refine hK.out _ _ (hS) (fun hHeld => ?_)
    clear hK K
    refine ht0 5 18 (v := ?v138) (fun _ => ?y138) hHeld ?_
    case y138 => go_simp; with_reducible rfl
    simp only [sn]
    refine ht0 6 24 (v := ?v139) (fun _ => ?y139) hHeld ?_
    case y139 => go_simp; with_reducible rfl
    simp only [sn]
    refine ht0 7 25 (v := ?v140) (fun _ => ?y140) hHeld ?_
    case y140 => go_simp; with_reducible rfl
    simp only [sn]
    refine wpAnyH_ready (rs := [9]) (by kernel_rfl) (by simp) ?_
    refine AllReadyH.cons rfl (fun K hK => ?_) AllReadyH.nil
    have y0 := x7.cell 0 _ rfl
    have y1 := x7.cell 1 _ rfl
    have y2 := x7.cell 2 _ rfl
    have u0 := x7.free 0
    have u1 := x7.free 1
    have u2 := x7.free 2
    have hltq := x7.lt
    go_simp
    replace x7 := x7.set3 (.int .i64 (segsC c)) (.int .i64 c.cPass) (.slice none 0 0)
    replace hS := ((hS.setCell (p := ⟨wk0.heap.size, 0, none⟩) hn7 (.int .i64 (segsC c))).setCell (p := ⟨wk0.heap.size, 1, none⟩) hn7 (.int .i64 c.cPass)).setCell (p := ⟨wk0.heap.size, 2, none⟩) hn7 (.slice none 0 0)
    clear y0 y1 y2 u0 u1 u2 hltq
    generalize ((wk3.setCell ⟨wk0.heap.size, 0, none⟩ (.int .i64 (segsC c))).setCell ⟨wk0.heap.size, 1, none⟩ (.int .i64 c.cPass)).setCell ⟨wk0.heap.size, 2, none⟩ (.slice none 0 0) = wk4 at *
    refine hK.out _ _ (hS) (fun hHeld => ?_)
    clear hK K
    refine wpAnyH_ready (rs := [10]) (by kernel_rfl) (by simp) ?_
    refine AllReadyH.cons rfl (fun K hK => ?_) AllReadyH.nil
    go_simp
    refine hK.out _ _ hHeld (fun hHeld => ?_)
    clear hK K
    refine wpAnyH_done (by kernel_rfl) ?_ _
    replace yR := yR.next hS
    have z0 := yR.cell 0 _ rfl
    have z1 := yR.cell 1 _ rfl
    have z2 := yR.cell 2 _ rfl
    have z3 := yR.cell 3 _ rfl
    have z4 := yR.cell 4 _ rfl
    have z5 := yR.cell 5 _ rfl
    have z6 := yR.cell 6 _ rfl
    have g0 := yR.free 0
    have g1 := yR.free 1
    have g2 := yR.free 2
    have g3 := yR.free 3
    have g4 := yR.free 4
    have g5 := yR.free 5
    have g6 := yR.free 6
    have y0 := x7.cell 0 _ rfl
    have y1 := x7.cell 1 _ rfl
    have y2 := x7.cell 2 _ rfl
    have hlt7 := x7.lt
    have b9 := b3.trans (hS.mono b3.size)
    go_wp2
    exact bodyPost_ret (v := .tuple #[.agg #[.int .i64 s, .int .i64 (-1), .int .i64 (segsC c), .int .i64 c.cPass, .slice none 0 0, .bool false, .slice none 0 0], .int .i64 0]) (by simp [results, Tryz.results11, go_sem, z0, z1, z2, z3, z4, z5, z6]) rfl ⟨none, 0, none, 0, rfl, ownHear_new _ _ c s, below_set7c b9 (by omega) (.int .i64 s) (.int .i64 (-1)) (.int .i64 (segsC c)) (.int .i64 c.cPass) (.slice none 0 0) (.bool false) (.slice none 0 0)⟩
  exact AllReadyH.nil

end Go.Proofs.YtkigbanldiialaaGreatDoor
