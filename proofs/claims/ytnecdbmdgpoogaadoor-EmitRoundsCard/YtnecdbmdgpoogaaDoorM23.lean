/-
  What the page's Tick answers, of a right one. (Written by tpl_refemit.py.)
-/
import Derived.Test.YtnecdbmdgpoogaaDoorM07
import Derived.Test.YtnecdbmdgpoogaaDoorM13
import Derived.Test.YtnecdbmdgpoogaaDoorM21
import Derived.Test.YtnecdbmdgpoogaaDoorM22
import Derived.Lib.MinMax
namespace Go.Proofs.YtnecdbmdgpoogaaDoor
open Go.RowKit

theorem below_set5 {W V : World} {n : Nat} (h : Below n W V) {D : Nat} (hD : n ≤ D) (x y z u t : Value) : Below n W (((((V.setCell ⟨D, 0, none⟩ x).setCell ⟨D, 1, none⟩ y).setCell ⟨D, 2, none⟩ z).setCell ⟨D, 3, none⟩ u).setCell ⟨D, 4, none⟩ t) := ((((h.setCell hD x).setCell hD y).setCell hD z).setCell hD u).setCell hD t
theorem row_set5 {w : World} {base : Nat} {e : TypeId} {size : Nat} {v : Value} {n : Nat} {xs : List Value} (h : w.ownsRow base e size v n xs) {D : Nat} (hD : D < base) (x y z u t : Value) : (((((w.setCell ⟨D, 0, none⟩ x).setCell ⟨D, 1, none⟩ y).setCell ⟨D, 2, none⟩ z).setCell ⟨D, 3, none⟩ u).setCell ⟨D, 4, none⟩ t).ownsRow base e size v n xs := ownsRow_setCell_below (ownsRow_setCell_below (ownsRow_setCell_below (ownsRow_setCell_below (ownsRow_setCell_below h (a := ⟨D, 0, none⟩) hD x) (a := ⟨D, 1, none⟩) hD y) (a := ⟨D, 2, none⟩) hD z) (a := ⟨D, 3, none⟩) hD u) (a := ⟨D, 4, none⟩) hD t
theorem refEncode_at (a : Option Addr) (n cap : Nat) (zs : List Int) (hz : zs.length = n) (h1 : 1 ≤ n) (hn : n ≤ 32) (bz : ∀ z ∈ zs, 0 ≤ z ∧ z ≤ 255) (f c : Int) (h0 : 0 ≤ f) (hc : 0 ≤ c) (h : f + c ≤ 32 * (n : Int)) (w : World) (ha : Holds .u8 w.heap.size w (.slice a n cap) zs) :
    Calls Tryd.prog 28 #[.slice a n cap, .int .i64 f, .int .i64 c] w fun e W' => ∃ ra rc, e = .returned (.slice ra c.toNat rc) ∧ W'.ownsRow w.heap.size 5 1 (.slice ra c.toNat rc) c.toNat ((codeL zs f.toNat c.toNat).map (Value.int .u8)) ∧ Below w.heap.size w W' := by
  obtain ⟨F, rfl⟩ := Int.eq_ofNat_of_zero_le h0
  obtain ⟨C, rfl⟩ := Int.eq_ofNat_of_zero_le hc
  subst hz
  refine (refEncode_any a cap zs h1 hn bz F C (by omega) w ha).mono ?_
  rintro e W' ⟨r, rfl, o, b⟩
  obtain ⟨ra, rc, rfl⟩ := row_shapeP o
  exact ⟨ra, rc, rfl, o, b⟩
theorem refPacket_at (s r f : Int) (a : Option Addr) (n cap : Nat) (xs : List Int) (hn : xs.length = n) (h : RightD s r f xs) (bx : ∀ z ∈ xs, 0 ≤ z ∧ z ≤ 255) (w : World) (ha : Holds .u8 w.heap.size w (.slice a n cap) xs) :
    Calls Tryd.prog 27 #[.agg #[.int .i64 s, .int .i64 r, .int .i64 f, .slice a n cap]] w fun e W' => ∃ qa qc, e = .returned (.slice qa (n + 11) qc) ∧ W'.ownsRow w.heap.size 5 1 (.slice qa (n + 11) qc) (n + 11) ((packD s r f xs).map (Value.int .u8)) ∧ Below w.heap.size w W' := by
  subst hn
  refine (refPacket_any s r f a cap xs h bx w ha).mono ?_
  rintro e W' ⟨q, rfl, o, b⟩
  obtain ⟨ra, rc, rfl⟩ := row_shapeP o
  exact ⟨ra, rc, rfl, o, b⟩

set_option maxRecDepth 100000 in
set_option maxHeartbeats 4000000 in
theorem refTick_acked (c : Cfg) (s r f : Int) (a : Option Addr) (n cap : Nat) (zs : List Int) (hn : zs.length = n) (hl : n ≤ 4096) (w : World) (ha : Holds .u8 w.heap.size w (.slice a n cap) zs) :
    Calls Tryd.prog 14 #[.agg #[.int .i64 c.cB, .int .i64 c.cBeam, .int .i64 c.cDepth, .int .i64 c.cWin, .int .i64 c.cQs, .int .i64 c.cQr, .int .i64 c.cBatch, .int .i64 c.cPass, .int .i64 c.cMsg, .int .i64 c.cSeqs], .agg #[.int .i64 s, .int .i64 r, .int .i64 f, .bool true, .slice a n cap]] w fun e W' => ∃ ra rc, e = .returned (.tuple #[.agg #[.int .i64 s, .int .i64 r, .int .i64 f, .bool true, .slice ra n rc], .slice none 0 0]) ∧ W'.ownsRow w.heap.size 5 1 (.slice ra n rc) n (zs.map (Value.int .u8)) ∧ Below w.heap.size w W' := by
  have b1 := (((Below.refl w.heap.size w).alloc (Nat.le_refl _) (.cells #[.int .i64 c.cB, .int .i64 c.cBeam, .int .i64 c.cDepth, .int .i64 c.cWin, .int .i64 c.cQs, .int .i64 c.cQr, .int .i64 c.cBatch, .int .i64 c.cPass, .int .i64 c.cMsg, .int .i64 c.cSeqs] 23)).alloc (by simp) (.cells #[.int .i64 s, .int .i64 r, .int .i64 f, .bool true, .slice a n cap] 26)).alloc (by simp; omega) (.cells #[.int .i64 0, .int .i64 0, .int .i64 0, .bool false, .slice none 0 0] 26)
  have xC := ((Box.new w 23 #[.int .i64 c.cB, .int .i64 c.cBeam, .int .i64 c.cDepth, .int .i64 c.cWin, .int .i64 c.cQs, .int .i64 c.cQr, .int .i64 c.cBatch, .int .i64 c.cPass, .int .i64 c.cMsg, .int .i64 c.cSeqs]).alloc (.cells #[.int .i64 s, .int .i64 r, .int .i64 f, .bool true, .slice a n cap] 26)).alloc (.cells #[.int .i64 0, .int .i64 0, .int .i64 0, .bool false, .slice none 0 0] 26)
  have xE := (Box.new (w.alloc (.cells #[.int .i64 c.cB, .int .i64 c.cBeam, .int .i64 c.cDepth, .int .i64 c.cWin, .int .i64 c.cQs, .int .i64 c.cQr, .int .i64 c.cBatch, .int .i64 c.cPass, .int .i64 c.cMsg, .int .i64 c.cSeqs] 23)) 26 #[.int .i64 s, .int .i64 r, .int .i64 f, .bool true, .slice a n cap]).alloc (.cells #[.int .i64 0, .int .i64 0, .int .i64 0, .bool false, .slice none 0 0] 26)
  have xZ := Box.new ((w.alloc (.cells #[.int .i64 c.cB, .int .i64 c.cBeam, .int .i64 c.cDepth, .int .i64 c.cWin, .int .i64 c.cQs, .int .i64 c.cQr, .int .i64 c.cBatch, .int .i64 c.cPass, .int .i64 c.cMsg, .int .i64 c.cSeqs] 23)).alloc (.cells #[.int .i64 s, .int .i64 r, .int .i64 f, .bool true, .slice a n cap] 26)) 26 #[.int .i64 0, .int .i64 0, .int .i64 0, .bool false, .slice none 0 0]
  rw [show (w.alloc (.cells #[.int .i64 c.cB, .int .i64 c.cBeam, .int .i64 c.cDepth, .int .i64 c.cWin, .int .i64 c.cQs, .int .i64 c.cQr, .int .i64 c.cBatch, .int .i64 c.cPass, .int .i64 c.cMsg, .int .i64 c.cSeqs] 23)).heap.size = w.heap.size + 1 by simp] at xE
  rw [show ((w.alloc (.cells #[.int .i64 c.cB, .int .i64 c.cBeam, .int .i64 c.cDepth, .int .i64 c.cWin, .int .i64 c.cQs, .int .i64 c.cQr, .int .i64 c.cBatch, .int .i64 c.cPass, .int .i64 c.cMsg, .int .i64 c.cSeqs] 23)).alloc (.cells #[.int .i64 s, .int .i64 r, .int .i64 f, .bool true, .slice a n cap] 26)).heap.size = w.heap.size + 1 + 1 by simp] at xZ
  go_enter Tryd.func14, Tryd.ntmps14
  go_wp2_with fail
  obtain ⟨W1, hW1⟩ : ∃ W, ((w.alloc (.cells #[.int .i64 c.cB, .int .i64 c.cBeam, .int .i64 c.cDepth, .int .i64 c.cWin, .int .i64 c.cQs, .int .i64 c.cQr, .int .i64 c.cBatch, .int .i64 c.cPass, .int .i64 c.cMsg, .int .i64 c.cSeqs] 23)).alloc (.cells #[.int .i64 s, .int .i64 r, .int .i64 f, .bool true, .slice a n cap] 26)).alloc (.cells #[.int .i64 0, .int .i64 0, .int .i64 0, .bool false, .slice none 0 0] 26) = W := ⟨_, rfl⟩
  have hs1 : W1.heap.size = w.heap.size + 1 + 1 + 1 := by rw [← hW1]; simp
  rw [hW1] at b1 xC xE xZ ⊢
  clear hW1
  obtain ⟨D, hD⟩ : ∃ D, w.heap.size = D := ⟨_, rfl⟩
  rw [hD] at b1 xC xE xZ hs1 ha ⊢
  have HT := twin_any (.slice a n cap) zs _ (by rw [hn]; omega) W1 (ha.below b1)
  rw [hn] at HT
  refine HT.mono ?_
  rintro e w2 ⟨rv, rfl, o2, b2⟩
  obtain ⟨ra, rc, rfl⟩ := row_shapeP o2
  have bb2 := b1.trans (b2.mono (by omega))
  have yC := xC.next b2
  have yE := xE.next b2
  have yZ := xZ.next b2
  clear HT xC xE xZ b2
  have e0 := yE.cell 0 _ rfl
  have e1 := yE.cell 1 _ rfl
  have e2 := yE.cell 2 _ rfl
  have e3 := yE.cell 3 _ rfl
  have e4 := yE.cell 4 _ rfl
  have z0 := yZ.cell 0 _ rfl
  have z1 := yZ.cell 1 _ rfl
  have z2 := yZ.cell 2 _ rfl
  have z3 := yZ.cell 3 _ rfl
  have z4 := yZ.cell 4 _ rfl
  have fZ0 := yZ.free 0
  have fZ1 := yZ.free 1
  have fZ2 := yZ.free 2
  have fZ3 := yZ.free 3
  have fZ4 := yZ.free 4
  have fE4 := yE.free 4
  have hE1 := yE.lt
  have hZ1 := yZ.lt
  clear yC ha hn
  go_wp2
  refine bodyPost_ret (v := .tuple #[.agg #[.int .i64 s, .int .i64 r, .int .i64 f, .bool true, .slice ra n rc], .slice none 0 0]) (by simp [results, Tryd.results14, go_sem, z0, z1, z2, z3, z4]) rfl ⟨ra, rc, rfl, ?_, ?_⟩
  · rw [hD]
    exact row_base (row_set5 (ownsRow_setCell_below o2 (a := ⟨D + 1, 4, none⟩) (by show D + 1 < _; omega) _) (by omega) _ _ _ _ _) (by omega)
  · rw [hD]
    exact below_set5 (bb2.setCell (p := ⟨D + 1, 4, none⟩) (by show D ≤ D + 1; omega) _) (by omega) _ _ _ _ _

set_option maxRecDepth 100000 in
set_option maxHeartbeats 8000000 in
theorem refTick_new (c : Cfg) (hC : okC c = true) (s r f : Int) (a : Option Addr) (n cap : Nat) (zs : List Int) (hn : zs.length = n) (bz : ∀ z ∈ zs, 0 ≤ z ∧ z ≤ 255) (hE : okE c s r f n = true) (hq : f = mostC c) (w : World) (ha : Holds .u8 w.heap.size w (.slice a n cap) zs) :
    Calls Tryd.prog 14 #[.agg #[.int .i64 c.cB, .int .i64 c.cBeam, .int .i64 c.cDepth, .int .i64 c.cWin, .int .i64 c.cQs, .int .i64 c.cQr, .int .i64 c.cBatch, .int .i64 c.cPass, .int .i64 c.cMsg, .int .i64 c.cSeqs], .agg #[.int .i64 s, .int .i64 r, .int .i64 f, .bool false, .slice a n cap]] w fun e W' => ∃ ra rc qa qc, e = .returned (.tuple #[.agg #[.int .i64 s, .int .i64 ((r + 1) % 256), .int .i64 (emN c f), .bool false, .slice ra n rc], .slice qa ((emN c f).toNat + 11) qc]) ∧ W'.ownsRow w.heap.size 5 1 (.slice ra n rc) n (zs.map (Value.int .u8)) ∧ W'.ownsRow w.heap.size 5 1 (.slice qa ((emN c f).toNat + 11) qc) ((emN c f).toNat + 11) ((emP c s r f zs).map (Value.int .u8)) ∧ Below w.heap.size w W' := by
  obtain ⟨hn10, hs, hr, hf⟩ := (okE_iff _ _ _ _ _).1 hE
  have hcb := ((okC_iff c).1 hC).1
  have hbt := ((okC_iff c).1 hC).2.2.2.2.2.2.1
  have hm := mostC_bd hC
  have hm2 := mostC_le hC hn10
  have hN := emN_bd hC hf.1 hf.2
  have HRD : Hid (RightD s (emR c r f) (emF c f) (emX c f zs)) := em_right hC (by rw [hn]; exact hE)
  have HXL : Hid ((emX c f zs).length = (emN c f).toNat) := emX_len c f zs
  have HXB : Hid (∀ z ∈ emX c f zs, 0 ≤ z ∧ z ≤ 255) := emX_bd c f zs
  have eF : emF c f = 0 := by unfold emF; rw [if_pos hq]
  have eR : emR c r f = ((r + 1) % 256) := by unfold emR; rw [if_pos hq]
  have eN : min c.cBatch (mostC c) = emN c f := by unfold emN; rw [eF]; rw [Int.sub_zero]
  have HP : Hid (packD s ((r + 1) % 256) 0 (emX c f zs) = emP c s r f zs) := by show packD s ((r + 1) % 256) 0 (emX c f zs) = emP c s r f zs; unfold emP; rw [eF, eR]
  have HX : Hid (codeL zs 0 (emN c f).toNat = emX c f zs) := by show _ = _; unfold emX; rw [eF]; rfl
  rw [eF] at HRD hN
  rw [eR] at HRD
  obtain ⟨M, hM⟩ : ∃ M, mostC c = M := ⟨_, rfl⟩
  obtain ⟨NN, hNN⟩ : ∃ x, emN c f = x := ⟨_, rfl⟩
  obtain ⟨X, hX⟩ : ∃ X, emX c f zs = X := ⟨_, rfl⟩
  obtain ⟨P, hP⟩ : ∃ X, emP c s r f zs = X := ⟨_, rfl⟩
  rw [hM] at hq hm hm2 hf eN hN
  rw [hNN] at hN HXL eN HX
  rw [hX] at HRD HXL HXB HP HX
  rw [hP] at HP
  rw [hNN, hP]
  have HMost : Hid (∀ wx : World, Calls Tryd.prog 19 #[.agg #[.int .i64 c.cB, .int .i64 c.cBeam, .int .i64 c.cDepth, .int .i64 c.cWin, .int .i64 c.cQs, .int .i64 c.cQr, .int .i64 c.cBatch, .int .i64 c.cPass, .int .i64 c.cMsg, .int .i64 c.cSeqs]] wx fun e w' => e = .returned (.int .i64 M) ∧ Below wx.heap.size wx w') := fun wx => hM ▸ refMost_any c hC wx
  have hnl : n ≤ 32 := by omega
  have hn1 : 1 ≤ n := by omega
  have HN : Hid (zs.length = n) := hn
  have HB : Hid (∀ z ∈ zs, 0 ≤ z ∧ z ≤ 255) := bz
  have HNB : Hid (1 ≤ NN ∧ NN ≤ 64 ∧ 0 + NN ≤ 32 * (n : Int) ∧ (0 : Int) ≤ 0) := ⟨hN.1, hN.2.2.1, by omega, by omega⟩
  have dq : (f == M) = true := by rw [beq_iff_eq]; exact hq
  have eS : IntKind.i64.wrap (M) = M := by rw [IntKind.wrap_i64]; omega
  have eA : IntKind.i64.wrap NN = NN := by rw [IntKind.wrap_i64]; omega
  have eR1 : IntKind.i64.wrap (r + 1) = r + 1 := by rw [IntKind.wrap_i64]; omega
  have eR2 : (r + 1).tmod 256 = (r + 1) % 256 := Int.tmod_eq_emod_of_nonneg (by omega)
  clear eF eR bz hE hq hm2 hNN hX hP hM hcb
  have b1 := (((Below.refl w.heap.size w).alloc (Nat.le_refl _) (.cells #[.int .i64 c.cB, .int .i64 c.cBeam, .int .i64 c.cDepth, .int .i64 c.cWin, .int .i64 c.cQs, .int .i64 c.cQr, .int .i64 c.cBatch, .int .i64 c.cPass, .int .i64 c.cMsg, .int .i64 c.cSeqs] 23)).alloc (by simp) (.cells #[.int .i64 s, .int .i64 r, .int .i64 f, .bool false, .slice a n cap] 26)).alloc (by simp; omega) (.cells #[.int .i64 0, .int .i64 0, .int .i64 0, .bool false, .slice none 0 0] 26)
  have xC := ((Box.new w 23 #[.int .i64 c.cB, .int .i64 c.cBeam, .int .i64 c.cDepth, .int .i64 c.cWin, .int .i64 c.cQs, .int .i64 c.cQr, .int .i64 c.cBatch, .int .i64 c.cPass, .int .i64 c.cMsg, .int .i64 c.cSeqs]).alloc (.cells #[.int .i64 s, .int .i64 r, .int .i64 f, .bool false, .slice a n cap] 26)).alloc (.cells #[.int .i64 0, .int .i64 0, .int .i64 0, .bool false, .slice none 0 0] 26)
  have xE := (Box.new (w.alloc (.cells #[.int .i64 c.cB, .int .i64 c.cBeam, .int .i64 c.cDepth, .int .i64 c.cWin, .int .i64 c.cQs, .int .i64 c.cQr, .int .i64 c.cBatch, .int .i64 c.cPass, .int .i64 c.cMsg, .int .i64 c.cSeqs] 23)) 26 #[.int .i64 s, .int .i64 r, .int .i64 f, .bool false, .slice a n cap]).alloc (.cells #[.int .i64 0, .int .i64 0, .int .i64 0, .bool false, .slice none 0 0] 26)
  have xZ := Box.new ((w.alloc (.cells #[.int .i64 c.cB, .int .i64 c.cBeam, .int .i64 c.cDepth, .int .i64 c.cWin, .int .i64 c.cQs, .int .i64 c.cQr, .int .i64 c.cBatch, .int .i64 c.cPass, .int .i64 c.cMsg, .int .i64 c.cSeqs] 23)).alloc (.cells #[.int .i64 s, .int .i64 r, .int .i64 f, .bool false, .slice a n cap] 26)) 26 #[.int .i64 0, .int .i64 0, .int .i64 0, .bool false, .slice none 0 0]
  rw [show (w.alloc (.cells #[.int .i64 c.cB, .int .i64 c.cBeam, .int .i64 c.cDepth, .int .i64 c.cWin, .int .i64 c.cQs, .int .i64 c.cQr, .int .i64 c.cBatch, .int .i64 c.cPass, .int .i64 c.cMsg, .int .i64 c.cSeqs] 23)).heap.size = w.heap.size + 1 by simp] at xE
  rw [show ((w.alloc (.cells #[.int .i64 c.cB, .int .i64 c.cBeam, .int .i64 c.cDepth, .int .i64 c.cWin, .int .i64 c.cQs, .int .i64 c.cQr, .int .i64 c.cBatch, .int .i64 c.cPass, .int .i64 c.cMsg, .int .i64 c.cSeqs] 23)).alloc (.cells #[.int .i64 s, .int .i64 r, .int .i64 f, .bool false, .slice a n cap] 26)).heap.size = w.heap.size + 1 + 1 by simp] at xZ
  go_enter Tryd.func14, Tryd.ntmps14
  go_wp2_with fail
  obtain ⟨W1, hW1⟩ : ∃ W, ((w.alloc (.cells #[.int .i64 c.cB, .int .i64 c.cBeam, .int .i64 c.cDepth, .int .i64 c.cWin, .int .i64 c.cQs, .int .i64 c.cQr, .int .i64 c.cBatch, .int .i64 c.cPass, .int .i64 c.cMsg, .int .i64 c.cSeqs] 23)).alloc (.cells #[.int .i64 s, .int .i64 r, .int .i64 f, .bool false, .slice a n cap] 26)).alloc (.cells #[.int .i64 0, .int .i64 0, .int .i64 0, .bool false, .slice none 0 0] 26) = W := ⟨_, rfl⟩
  have hs1 : W1.heap.size = w.heap.size + 1 + 1 + 1 := by rw [← hW1]; simp
  rw [hW1] at b1 xC xE xZ ⊢
  clear hW1
  obtain ⟨D, hD⟩ : ∃ D, w.heap.size = D := ⟨_, rfl⟩
  rw [hD] at b1 xC xE xZ hs1 ha ⊢
  have HT := twin_any (.slice a n cap) zs _ (by rw [hn]; omega) W1 (ha.below b1)
  rw [hn] at HT
  refine HT.mono ?_
  rintro e w2 ⟨rv, rfl, o2, b2⟩
  obtain ⟨ra, rc, rfl⟩ := row_shapeP o2
  have bb2 := b1.trans (b2.mono (by omega))
  have yC := xC.next b2
  have yE := xE.next b2
  have yZ := xZ.next b2
  clear HT xC xE xZ b2
  have e0 := yE.cell 0 _ rfl
  have e1 := yE.cell 1 _ rfl
  have e2 := yE.cell 2 _ rfl
  have e3 := yE.cell 3 _ rfl
  have e4 := yE.cell 4 _ rfl
  have fE4 := yE.free 4
  have hE1 := yE.lt
  clear ha
  go_wp2
  obtain ⟨W3, hW3⟩ : ∃ W, w2.setCell ⟨D + 1, 4, none⟩ (.slice ra n rc) = W := ⟨_, rfl⟩
  have hs3 : W3.heap.size = w2.heap.size := by rw [← hW3]; simp
  have zC : Box W3 D 23 #[.int .i64 c.cB, .int .i64 c.cBeam, .int .i64 c.cDepth, .int .i64 c.cWin, .int .i64 c.cQs, .int .i64 c.cQr, .int .i64 c.cBatch, .int .i64 c.cPass, .int .i64 c.cMsg, .int .i64 c.cSeqs] := hW3 ▸ yC.other (by show D ≠ D + 1; omega) _
  have zE : Box W3 (D + 1) 26 #[.int .i64 s, .int .i64 r, .int .i64 f, .bool false, .slice ra n rc] := hW3 ▸ yE.set 4 (.slice ra n rc)
  have zZ : Box W3 (D + 1 + 1) 26 #[.int .i64 0, .int .i64 0, .int .i64 0, .bool false, .slice none 0 0] := hW3 ▸ yZ.other (by show D + 1 + 1 ≠ D + 1; omega) _
  have o3 : W3.ownsRow (D + 3) 5 1 (.slice ra n rc) n (zs.map (Value.int .u8)) := by
    rw [← hW3]
    exact row_base (ownsRow_setCell_below o2 (a := ⟨D + 1, 4, none⟩) (by show D + 1 < _; omega) _) (by omega)
  have bb3 : Below D w W3 := hW3 ▸ bb2.setCell (p := ⟨D + 1, 4, none⟩) (by show D ≤ D + 1; omega) _
  clear yC yE yZ o2 bb2 e0 e1 e2 e3 e4 fE4 hE1 b1 hs1
  rw [hW3]
  clear hW3 hs3
  have k0 : Hid (W3.cell? ⟨D, 0, none⟩ = some (.int .i64 c.cB)) := zC.cell 0 _ rfl
  have k1 : Hid (W3.cell? ⟨D, 1, none⟩ = some (.int .i64 c.cBeam)) := zC.cell 1 _ rfl
  have k2 : Hid (W3.cell? ⟨D, 2, none⟩ = some (.int .i64 c.cDepth)) := zC.cell 2 _ rfl
  have k3 : Hid (W3.cell? ⟨D, 3, none⟩ = some (.int .i64 c.cWin)) := zC.cell 3 _ rfl
  have k4 : Hid (W3.cell? ⟨D, 4, none⟩ = some (.int .i64 c.cQs)) := zC.cell 4 _ rfl
  have k5 : Hid (W3.cell? ⟨D, 5, none⟩ = some (.int .i64 c.cQr)) := zC.cell 5 _ rfl
  have k6 : Hid (W3.cell? ⟨D, 6, none⟩ = some (.int .i64 c.cBatch)) := zC.cell 6 _ rfl
  have k7 : Hid (W3.cell? ⟨D, 7, none⟩ = some (.int .i64 c.cPass)) := zC.cell 7 _ rfl
  have k8 : Hid (W3.cell? ⟨D, 8, none⟩ = some (.int .i64 c.cMsg)) := zC.cell 8 _ rfl
  have k9 : Hid (W3.cell? ⟨D, 9, none⟩ = some (.int .i64 c.cSeqs)) := zC.cell 9 _ rfl
  have hltC := zC.lt
  have hltE := zE.lt
  have e2 := zE.cell 2 _ rfl
  refine wp_region_held_drew (S := fun w' => Below W3.heap.size W3 w') (by kernel_rfl) ((Below.refl _ _).drew) (fun hHeld => ?_)
  refine held_take (i := 0) (d := 15) (v := ?v104) rfl rfl (by kernel_rfl) (by kernel_rfl) (by kernel_rfl) (fun _ _ _ h => h) (Or.inl ⟨by kernel_rfl, ?hy104⟩) hHeld ?rest104
  case hy104 =>
    intro wx hSw
    clear hSw
    go_simp
    with_reducible rfl
  simp only [List.setIfInBounds_toArray, List.set_cons_zero, List.set_cons_succ]
  refine held_take (i := 1) (d := 16) (v := ?v105) rfl rfl (by kernel_rfl) (by kernel_rfl) (by kernel_rfl) (fun _ _ _ h => h) (Or.inl ⟨by kernel_rfl, ?hy105⟩) hHeld ?rest105
  case hy105 =>
    intro wx hSw
    have q0 := (hSw.cell (p := ⟨D + 1, 2, none⟩) hltE).trans e2
    clear hSw
    go_simp
    with_reducible rfl
  simp only [List.setIfInBounds_toArray, List.set_cons_zero, List.set_cons_succ]
  refine held_take (i := 2) (d := 17) (v := ?v106) rfl rfl (by kernel_rfl) (by kernel_rfl) (by kernel_rfl) (fun _ _ _ h => h) (Or.inl ⟨by kernel_rfl, ?hy106⟩) hHeld ?rest106
  case hy106 =>
    intro wx hSw
    have q0 := (hSw.cell (p := ⟨D, 0, none⟩) hltC).trans k0.out
    have q1 := (hSw.cell (p := ⟨D, 1, none⟩) hltC).trans k1.out
    have q2 := (hSw.cell (p := ⟨D, 2, none⟩) hltC).trans k2.out
    have q3 := (hSw.cell (p := ⟨D, 3, none⟩) hltC).trans k3.out
    have q4 := (hSw.cell (p := ⟨D, 4, none⟩) hltC).trans k4.out
    have q5 := (hSw.cell (p := ⟨D, 5, none⟩) hltC).trans k5.out
    have q6 := (hSw.cell (p := ⟨D, 6, none⟩) hltC).trans k6.out
    have q7 := (hSw.cell (p := ⟨D, 7, none⟩) hltC).trans k7.out
    have q8 := (hSw.cell (p := ⟨D, 8, none⟩) hltC).trans k8.out
    have q9 := (hSw.cell (p := ⟨D, 9, none⟩) hltC).trans k9.out
    clear hSw
    go_simp
    with_reducible rfl
  simp only [List.setIfInBounds_toArray, List.set_cons_zero, List.set_cons_succ]
  refine wpAnyH_ready (rs := [3]) (by kernel_rfl) (by simp) ?_
  refine AllReadyH.cons rfl (fun K hK => ?_) AllReadyH.nil
  go_simp
  go_wp2_with (go_at_call 19; refine (HMost.out _).mono ?_; rintro e wb ⟨rfl, b8⟩)
  refine hK.out _ _ (hHeld.trans (b8.mono hHeld.size)) (fun hHeld => ?_)
  clear hK K
  refine wpAnyH_ready (rs := [4]) (by kernel_rfl) (by simp) ?_
  refine AllReadyH.cons rfl (fun K hK => ?_) AllReadyH.nil
  go_simp
  refine hK.out _ _ hHeld (fun hHeld => ?_)
  clear hK K
  refine wpAnyH_done (by kernel_rfl) ?_ _
  have yC := zC.next hHeld
  have yE := zE.next hHeld
  have yZ := zZ.next hHeld
  have oB := row_base (row_below o3 hHeld (Nat.le_refl _)) (Nat.le_refl _)
  replace bb3 := bb3.trans (hHeld.mono (by have := bb3.size; omega))
  clear zC zE zZ o3 hltC hltE e2 k0 k1 k2 k3 k4 k5 k6 k7 k8 k9
  clear hHeld
  have e1 := yE.cell 1 _ rfl
  have e2 := yE.cell 2 _ rfl
  have fE1 := yE.free 1
  have fE2 := yE.free 2
  have hE1 := yE.lt
  go_wp2
  obtain ⟨W5, hW5⟩ : ∃ W, (wb.setCell ⟨D + 1, 1, none⟩ (.int .i64 ((r + 1) % 256))).setCell ⟨D + 1, 2, none⟩ (.int .i64 0) = W := ⟨_, rfl⟩
  have zC : Box W5 D 23 #[.int .i64 c.cB, .int .i64 c.cBeam, .int .i64 c.cDepth, .int .i64 c.cWin, .int .i64 c.cQs, .int .i64 c.cQr, .int .i64 c.cBatch, .int .i64 c.cPass, .int .i64 c.cMsg, .int .i64 c.cSeqs] := hW5 ▸ (yC.other (by show D ≠ D + 1; omega) _).other (by show D ≠ D + 1; omega) _
  have zE : Box W5 (D + 1) 26 #[.int .i64 s, .int .i64 ((r + 1) % 256), .int .i64 0, .bool false, .slice ra n rc] := hW5 ▸ (yE.set 1 (.int .i64 ((r + 1) % 256))).set 2 (.int .i64 0)
  have zZ : Box W5 (D + 1 + 1) 26 #[.int .i64 0, .int .i64 0, .int .i64 0, .bool false, .slice none 0 0] := hW5 ▸ (yZ.other (by show D + 1 + 1 ≠ D + 1; omega) _).other (by show D + 1 + 1 ≠ D + 1; omega) _
  have o5 : W5.ownsRow (D + 3) 5 1 (.slice ra n rc) n (zs.map (Value.int .u8)) := by
    rw [← hW5]
    exact ownsRow_setCell_below (ownsRow_setCell_below oB (a := ⟨D + 1, 1, none⟩) (by show D + 1 < _; omega) _) (a := ⟨D + 1, 2, none⟩) (by show D + 1 < _; omega) _
  have bb5 : Below D w W5 := hW5 ▸ (bb3.setCell (p := ⟨D + 1, 1, none⟩) (by show D ≤ D + 1; omega) _).setCell (p := ⟨D + 1, 2, none⟩) (by show D ≤ D + 1; omega) _
  rw [hW5]
  clear yC yE yZ oB bb3 fE1 fE2 e1 e2 hE1
  clear hW5
  have k0 : Hid (W5.cell? ⟨D, 0, none⟩ = some (.int .i64 c.cB)) := zC.cell 0 _ rfl
  have k1 : Hid (W5.cell? ⟨D, 1, none⟩ = some (.int .i64 c.cBeam)) := zC.cell 1 _ rfl
  have k2 : Hid (W5.cell? ⟨D, 2, none⟩ = some (.int .i64 c.cDepth)) := zC.cell 2 _ rfl
  have k3 : Hid (W5.cell? ⟨D, 3, none⟩ = some (.int .i64 c.cWin)) := zC.cell 3 _ rfl
  have k4 : Hid (W5.cell? ⟨D, 4, none⟩ = some (.int .i64 c.cQs)) := zC.cell 4 _ rfl
  have k5 : Hid (W5.cell? ⟨D, 5, none⟩ = some (.int .i64 c.cQr)) := zC.cell 5 _ rfl
  have k6 : Hid (W5.cell? ⟨D, 6, none⟩ = some (.int .i64 c.cBatch)) := zC.cell 6 _ rfl
  have k7 : Hid (W5.cell? ⟨D, 7, none⟩ = some (.int .i64 c.cPass)) := zC.cell 7 _ rfl
  have k8 : Hid (W5.cell? ⟨D, 8, none⟩ = some (.int .i64 c.cMsg)) := zC.cell 8 _ rfl
  have k9 : Hid (W5.cell? ⟨D, 9, none⟩ = some (.int .i64 c.cSeqs)) := zC.cell 9 _ rfl
  have hltC := zC.lt
  have hltE := zE.lt
  have e0 := zE.cell 0 _ rfl
  have e1 := zE.cell 1 _ rfl
  have e2 := zE.cell 2 _ rfl
  have e4 := zE.cell 4 _ rfl
  refine wp_region_held_drew (S := fun w' => Below W5.heap.size W5 w') (by kernel_rfl) ((Below.refl _ _).drew) (fun hHeld => ?_)
  refine held_take (i := 0) (d := 26) (v := ?v107) rfl rfl (by kernel_rfl) (by kernel_rfl) (by kernel_rfl) (fun _ _ _ h => h) (Or.inl ⟨by kernel_rfl, ?hy107⟩) hHeld ?rest107
  case hy107 =>
    intro wx hSw
    clear hSw
    go_simp
    with_reducible rfl
  simp only [List.setIfInBounds_toArray, List.set_cons_zero, List.set_cons_succ]
  refine held_take (i := 1) (d := 27) (v := ?v108) rfl rfl (by kernel_rfl) (by kernel_rfl) (by kernel_rfl) (fun _ _ _ h => h) (Or.inl ⟨by kernel_rfl, ?hy108⟩) hHeld ?rest108
  case hy108 =>
    intro wx hSw
    have q0 := (hSw.cell (p := ⟨D, 6, none⟩) hltC).trans k6.out
    clear hSw
    go_simp
    with_reducible rfl
  simp only [List.setIfInBounds_toArray, List.set_cons_zero, List.set_cons_succ]
  refine held_take (i := 2) (d := 28) (v := ?v109) rfl rfl (by kernel_rfl) (by kernel_rfl) (by kernel_rfl) (fun _ _ _ h => h) (Or.inl ⟨by kernel_rfl, ?hy109⟩) hHeld ?rest109
  case hy109 =>
    intro wx hSw
    have q0 := (hSw.cell (p := ⟨D, 0, none⟩) hltC).trans k0.out
    have q1 := (hSw.cell (p := ⟨D, 1, none⟩) hltC).trans k1.out
    have q2 := (hSw.cell (p := ⟨D, 2, none⟩) hltC).trans k2.out
    have q3 := (hSw.cell (p := ⟨D, 3, none⟩) hltC).trans k3.out
    have q4 := (hSw.cell (p := ⟨D, 4, none⟩) hltC).trans k4.out
    have q5 := (hSw.cell (p := ⟨D, 5, none⟩) hltC).trans k5.out
    have q6 := (hSw.cell (p := ⟨D, 6, none⟩) hltC).trans k6.out
    have q7 := (hSw.cell (p := ⟨D, 7, none⟩) hltC).trans k7.out
    have q8 := (hSw.cell (p := ⟨D, 8, none⟩) hltC).trans k8.out
    have q9 := (hSw.cell (p := ⟨D, 9, none⟩) hltC).trans k9.out
    clear hSw
    go_simp
    with_reducible rfl
  simp only [List.setIfInBounds_toArray, List.set_cons_zero, List.set_cons_succ]
  refine held_take (i := 4) (d := 30) (v := ?v110) rfl rfl (by kernel_rfl) (by kernel_rfl) (by kernel_rfl) (fun _ _ _ h => h) (Or.inl ⟨by kernel_rfl, ?hy110⟩) hHeld ?rest110
  case hy110 =>
    intro wx hSw
    clear hSw
    go_simp
    with_reducible rfl
  simp only [List.setIfInBounds_toArray, List.set_cons_zero, List.set_cons_succ]
  refine held_take (i := 5) (d := 31) (v := ?v111) rfl rfl (by kernel_rfl) (by kernel_rfl) (by kernel_rfl) (fun _ _ _ h => h) (Or.inl ⟨by kernel_rfl, ?hy111⟩) hHeld ?rest111
  case hy111 =>
    intro wx hSw
    have q0 := (hSw.cell (p := ⟨D + 1, 2, none⟩) hltE).trans e2
    clear hSw
    go_simp
    with_reducible rfl
  simp only [List.setIfInBounds_toArray, List.set_cons_zero, List.set_cons_succ]
  refine wpAnyH_ready (rs := [3]) (by kernel_rfl) (by simp) ?_
  refine AllReadyH.cons rfl (fun K hK => ?_) AllReadyH.nil
  go_simp
  go_wp2_with (go_at_call 19; refine (HMost.out _).mono ?_; rintro e wc ⟨rfl, b8⟩)
  refine hK.out _ _ (hHeld.trans (b8.mono hHeld.size)) (fun hHeld => ?_)
  clear hK K
  refine held_take (i := 6) (d := 32) (v := ?v112) rfl rfl (by kernel_rfl) (by kernel_rfl) (by kernel_rfl) (fun _ _ _ h => h) (Or.inl ⟨by kernel_rfl, ?hy112⟩) hHeld ?rest112
  case hy112 =>
    intro wx hSw
    clear hSw
    go_simp
    with_reducible rfl
  simp only [List.setIfInBounds_toArray, List.set_cons_zero, List.set_cons_succ]
  refine held_take (i := 7) (d := 33) (v := ?v113) rfl rfl (by kernel_rfl) (by kernel_rfl) (by kernel_rfl) (fun _ _ _ h => h) (Or.inl ⟨by kernel_rfl, ?hy113⟩) hHeld ?rest113
  case hy113 =>
    intro wx hSw
    clear hSw
    go_simp
    with_reducible rfl
  simp only [List.setIfInBounds_toArray, List.set_cons_zero, List.set_cons_succ]
  refine wpAnyH_ready (rs := [8]) (by kernel_rfl) (by simp) ?_
  refine AllReadyH.cons rfl (fun K hK => ?_) AllReadyH.nil
  go_simp
  refine hK.out _ _ hHeld (fun hHeld => ?_)
  clear hK K
  refine wpAnyH_done (by kernel_rfl) ?_ _
  have yC := zC.next hHeld
  have yE := zE.next hHeld
  have yZ := zZ.next hHeld
  have oB := row_below o5 hHeld (Nat.le_refl _)
  replace bb5 := bb5.trans (hHeld.mono (by have := bb5.size; omega))
  clear zC zE zZ o5 hltC hltE e0 e1 e2 e4 k0 k1 k2 k3 k4 k5 k6 k7 k8 k9
  clear hHeld
  have hltE := yE.lt
  have e0 := yE.cell 0 _ rfl
  have e1 := yE.cell 1 _ rfl
  have e2 := yE.cell 2 _ rfl
  have e4 := yE.cell 4 _ rfl
  have HEN : Hid (∀ wx : World, Below wc.heap.size wc wx → Calls Tryd.prog 28 #[.slice ra n rc, .int .i64 0, .int .i64 NN] wx fun e W' => ∃ xa xc, e = .returned (.slice xa NN.toNat xc) ∧ W'.ownsRow wx.heap.size 5 1 (.slice xa NN.toNat xc) NN.toNat (X.map (Value.int .u8)) ∧ Below wx.heap.size wx W') := fun wx hx => by
    have := refEncode_at ra n rc zs HN.out hn1 hnl HB.out 0 NN HNB.out.2.2.2 (by have := HNB.out.1; omega) HNB.out.2.2.1 wx ((holds_of_row oB).next hx)
    rw [show codeL zs (Int.toNat 0) NN.toNat = X from HX.out] at this
    exact this
  have HPK : Hid (∀ (wx : World) (xa : Option Addr) (xc : Nat), Holds .u8 wx.heap.size wx (.slice xa NN.toNat xc) X → Calls Tryd.prog 27 #[.agg #[.int .i64 s, .int .i64 ((r + 1) % 256), .int .i64 0, .slice xa NN.toNat xc]] wx fun e W' => ∃ qa qc, e = .returned (.slice qa (NN.toNat + 11) qc) ∧ W'.ownsRow wx.heap.size 5 1 (.slice qa (NN.toNat + 11) qc) (NN.toNat + 11) (P.map (Value.int .u8)) ∧ Below wx.heap.size wx W') := fun wx xa xc hx => by
    have := refPacket_at s ((r + 1) % 256) 0 xa NN.toNat xc X HXL.out HRD.out HXB.out wx hx
    rw [HP.out] at this
    exact this
  go_wp2
  refine wp_region_held_drew (S := fun w' => Below wc.heap.size wc w') (by kernel_rfl) ((Below.refl _ _).drew) (fun hHeld => ?_)
  refine held_take (i := 0) (d := 34) (v := ?v114) rfl rfl (by kernel_rfl) (by kernel_rfl) (by kernel_rfl) (fun _ _ _ h => h) (Or.inl ⟨by kernel_rfl, ?hy114⟩) hHeld ?rest114
  case hy114 =>
    intro wx hSw
    clear hSw
    go_simp
    with_reducible rfl
  simp only [List.setIfInBounds_toArray, List.set_cons_zero, List.set_cons_succ]
  refine held_take (i := 1) (d := 35) (v := ?v115) rfl rfl (by kernel_rfl) (by kernel_rfl) (by kernel_rfl) (fun _ _ _ h => h) (Or.inl ⟨by kernel_rfl, ?hy115⟩) hHeld ?rest115
  case hy115 =>
    intro wx hSw
    have q0 := (hSw.cell (p := ⟨D + 1, 0, none⟩) hltE).trans e0
    clear hSw
    go_simp
    with_reducible rfl
  simp only [List.setIfInBounds_toArray, List.set_cons_zero, List.set_cons_succ]
  refine held_take (i := 2) (d := 36) (v := ?v116) rfl rfl (by kernel_rfl) (by kernel_rfl) (by kernel_rfl) (fun _ _ _ h => h) (Or.inl ⟨by kernel_rfl, ?hy116⟩) hHeld ?rest116
  case hy116 =>
    intro wx hSw
    clear hSw
    go_simp
    with_reducible rfl
  simp only [List.setIfInBounds_toArray, List.set_cons_zero, List.set_cons_succ]
  refine held_take (i := 3) (d := 37) (v := ?v117) rfl rfl (by kernel_rfl) (by kernel_rfl) (by kernel_rfl) (fun _ _ _ h => h) (Or.inl ⟨by kernel_rfl, ?hy117⟩) hHeld ?rest117
  case hy117 =>
    intro wx hSw
    have q0 := (hSw.cell (p := ⟨D + 1, 1, none⟩) hltE).trans e1
    clear hSw
    go_simp
    with_reducible rfl
  simp only [List.setIfInBounds_toArray, List.set_cons_zero, List.set_cons_succ]
  refine held_take (i := 4) (d := 38) (v := ?v118) rfl rfl (by kernel_rfl) (by kernel_rfl) (by kernel_rfl) (fun _ _ _ h => h) (Or.inl ⟨by kernel_rfl, ?hy118⟩) hHeld ?rest118
  case hy118 =>
    intro wx hSw
    clear hSw
    go_simp
    with_reducible rfl
  simp only [List.setIfInBounds_toArray, List.set_cons_zero, List.set_cons_succ]
  refine held_take (i := 5) (d := 39) (v := ?v119) rfl rfl (by kernel_rfl) (by kernel_rfl) (by kernel_rfl) (fun _ _ _ h => h) (Or.inl ⟨by kernel_rfl, ?hy119⟩) hHeld ?rest119
  case hy119 =>
    intro wx hSw
    have q0 := (hSw.cell (p := ⟨D + 1, 2, none⟩) hltE).trans e2
    clear hSw
    go_simp
    with_reducible rfl
  simp only [List.setIfInBounds_toArray, List.set_cons_zero, List.set_cons_succ]
  refine held_take (i := 6) (d := 40) (v := ?v120) rfl rfl (by kernel_rfl) (by kernel_rfl) (by kernel_rfl) (fun _ _ _ h => h) (Or.inl ⟨by kernel_rfl, ?hy120⟩) hHeld ?rest120
  case hy120 =>
    intro wx hSw
    clear hSw
    go_simp
    with_reducible rfl
  simp only [List.setIfInBounds_toArray, List.set_cons_zero, List.set_cons_succ]
  refine held_take (i := 7) (d := 41) (v := ?v121) rfl rfl (by kernel_rfl) (by kernel_rfl) (by kernel_rfl) (fun _ _ _ h => h) (Or.inl ⟨by kernel_rfl, ?hy121⟩) hHeld ?rest121
  case hy121 =>
    intro wx hSw
    have q0 := (hSw.cell (p := ⟨D + 1, 4, none⟩) hltE).trans e4
    clear hSw
    go_simp
    with_reducible rfl
  simp only [List.setIfInBounds_toArray, List.set_cons_zero, List.set_cons_succ]
  refine held_take (i := 8) (d := 42) (v := ?v122) rfl rfl (by kernel_rfl) (by kernel_rfl) (by kernel_rfl) (fun _ _ _ h => h) (Or.inl ⟨by kernel_rfl, ?hy122⟩) hHeld ?rest122
  case hy122 =>
    intro wx hSw
    clear hSw
    go_simp
    with_reducible rfl
  simp only [List.setIfInBounds_toArray, List.set_cons_zero, List.set_cons_succ]
  refine held_take (i := 9) (d := 43) (v := ?v123) rfl rfl (by kernel_rfl) (by kernel_rfl) (by kernel_rfl) (fun _ _ _ h => h) (Or.inl ⟨by kernel_rfl, ?hy123⟩) hHeld ?rest123
  case hy123 =>
    intro wx hSw
    have q0 := (hSw.cell (p := ⟨D + 1, 2, none⟩) hltE).trans e2
    clear hSw
    go_simp
    with_reducible rfl
  simp only [List.setIfInBounds_toArray, List.set_cons_zero, List.set_cons_succ]
  refine held_take (i := 10) (d := 44) (v := ?v124) rfl rfl (by kernel_rfl) (by kernel_rfl) (by kernel_rfl) (fun _ _ _ h => h) (Or.inl ⟨by kernel_rfl, ?hy124⟩) hHeld ?rest124
  case hy124 =>
    intro wx hSw
    clear hSw
    go_simp
    with_reducible rfl
  simp only [List.setIfInBounds_toArray, List.set_cons_zero, List.set_cons_succ]
  refine wpAnyH_ready (rs := [11]) (by kernel_rfl) (by simp) ?_
  refine AllReadyH.cons rfl (fun K hK => ?_) AllReadyH.nil
  go_simp
  go_wp2_with (go_at_call 28; refine (HEN.out _ (by exact hHeld)).mono ?_; rintro e wx ⟨xa, xc, rfl, oX, b8⟩)
  refine hK.out _ _ (hHeld.trans (b8.mono hHeld.size)) (fun hHeld => ?_)
  clear hK K
  refine held_take (i := 12) (d := 46) (v := ?v125) rfl rfl (by kernel_rfl) (by kernel_rfl) (by kernel_rfl) (fun _ _ _ h => h) (Or.inl ⟨by kernel_rfl, ?hy125⟩) hHeld ?rest125
  case hy125 =>
    intro wx hSw
    clear hSw
    go_simp
    with_reducible rfl
  simp only [List.setIfInBounds_toArray, List.set_cons_zero, List.set_cons_succ]
  refine wpAnyH_ready (rs := [13]) (by kernel_rfl) (by simp) ?_
  refine AllReadyH.cons rfl (fun K hK => ?_) AllReadyH.nil
  have hsx : wc.heap.size ≤ wx.heap.size := hHeld.size
  go_simp
  go_wp2_with (go_at_call 27; refine (HPK.out _ xa xc (by exact holds_of_row oX)).mono ?_; rintro e wp ⟨qa, qc, rfl, oP, b8⟩)
  refine hK.out _ _ (hHeld.trans (b8.mono hHeld.size)) (fun hHeld => ?_)
  clear hK K
  refine wpAnyH_ready (rs := [14]) (by kernel_rfl) (by simp) ?_
  refine AllReadyH.cons rfl (fun K hK => ?_) AllReadyH.nil
  go_simp
  refine hK.out _ _ hHeld (fun hHeld => ?_)
  clear hK K
  refine wpAnyH_done (by kernel_rfl) ?_ _
  have zE := yE.next hHeld
  have zZ := yZ.next hHeld
  have o7 := row_below oB hHeld (Nat.le_refl _)
  have hsc : D + 1 + 1 < wc.heap.size := yZ.lt
  have bb7 := bb5.trans (hHeld.mono (by have := bb5.size; omega))
  have o8 : wp.ownsRow (D + 3) 5 1 (.slice qa (NN.toNat + 11) qc) (NN.toNat + 11) (P.map (Value.int .u8)) := row_base oP (by omega)
  have hpw := hHeld.size
  clear yC yE yZ oB bb5 oP oX b8 hHeld HEN HPK HMost e0 e1 e2 e4 hltE
  have e0 := zE.cell 0 _ rfl
  have e1 := zE.cell 1 _ rfl
  have e2 := zE.cell 2 _ rfl
  have e3 := zE.cell 3 _ rfl
  have e4 := zE.cell 4 _ rfl
  have fE2 := zE.free 2
  have z0 := zZ.cell 0 _ rfl
  have z1 := zZ.cell 1 _ rfl
  have z2 := zZ.cell 2 _ rfl
  have z3 := zZ.cell 3 _ rfl
  have z4 := zZ.cell 4 _ rfl
  have fZ0 := zZ.free 0
  have fZ1 := zZ.free 1
  have fZ2 := zZ.free 2
  have fZ3 := zZ.free 3
  have fZ4 := zZ.free 4
  have hE1 := zE.lt
  have hZ1 := zZ.lt
  clear zE zZ
  go_wp2
  refine bodyPost_ret (v := .tuple #[.agg #[.int .i64 s, .int .i64 ((r + 1) % 256), .int .i64 NN, .bool false, .slice ra n rc], .slice qa (NN.toNat + 11) qc]) (by simp [results, Tryd.results14, go_sem, z0, z1, z2, z3, z4]) rfl ⟨ra, rc, qa, qc, rfl, ?_, ?_, ?_⟩
  · rw [hD]
    exact row_base (row_set5 (ownsRow_setCell_below o7 (a := ⟨D + 1, 2, none⟩) (by show D + 1 < _; omega) _) (by omega) _ _ _ _ _) (by omega)
  · rw [hD]
    exact row_base (row_set5 (ownsRow_setCell_below o8 (a := ⟨D + 1, 2, none⟩) (by show D + 1 < _; omega) _) (by omega) _ _ _ _ _) (by omega)
  · rw [hD]
    exact below_set5 (bb7.setCell (p := ⟨D + 1, 2, none⟩) (by show D ≤ D + 1; omega) _) (by omega) _ _ _ _ _

set_option maxRecDepth 100000 in
set_option maxHeartbeats 8000000 in
theorem refTick_old (c : Cfg) (hC : okC c = true) (s r f : Int) (a : Option Addr) (n cap : Nat) (zs : List Int) (hn : zs.length = n) (bz : ∀ z ∈ zs, 0 ≤ z ∧ z ≤ 255) (hE : okE c s r f n = true) (hq : ¬ f = mostC c) (w : World) (ha : Holds .u8 w.heap.size w (.slice a n cap) zs) :
    Calls Tryd.prog 14 #[.agg #[.int .i64 c.cB, .int .i64 c.cBeam, .int .i64 c.cDepth, .int .i64 c.cWin, .int .i64 c.cQs, .int .i64 c.cQr, .int .i64 c.cBatch, .int .i64 c.cPass, .int .i64 c.cMsg, .int .i64 c.cSeqs], .agg #[.int .i64 s, .int .i64 r, .int .i64 f, .bool false, .slice a n cap]] w fun e W' => ∃ ra rc qa qc, e = .returned (.tuple #[.agg #[.int .i64 s, .int .i64 r, .int .i64 (f + emN c f), .bool false, .slice ra n rc], .slice qa ((emN c f).toNat + 11) qc]) ∧ W'.ownsRow w.heap.size 5 1 (.slice ra n rc) n (zs.map (Value.int .u8)) ∧ W'.ownsRow w.heap.size 5 1 (.slice qa ((emN c f).toNat + 11) qc) ((emN c f).toNat + 11) ((emP c s r f zs).map (Value.int .u8)) ∧ Below w.heap.size w W' := by
  obtain ⟨hn10, hs, hr, hf⟩ := (okE_iff _ _ _ _ _).1 hE
  have hcb := ((okC_iff c).1 hC).1
  have hbt := ((okC_iff c).1 hC).2.2.2.2.2.2.1
  have hm := mostC_bd hC
  have hm2 := mostC_le hC hn10
  have hN := emN_bd hC hf.1 hf.2
  have HRD : Hid (RightD s (emR c r f) (emF c f) (emX c f zs)) := em_right hC (by rw [hn]; exact hE)
  have HXL : Hid ((emX c f zs).length = (emN c f).toNat) := emX_len c f zs
  have HXB : Hid (∀ z ∈ emX c f zs, 0 ≤ z ∧ z ≤ 255) := emX_bd c f zs
  have eF : emF c f = f := by unfold emF; rw [if_neg hq]
  have eR : emR c r f = r := by unfold emR; rw [if_neg hq]
  have eN : min c.cBatch (mostC c - f) = emN c f := by unfold emN; rw [eF]
  have HP : Hid (packD s r f (emX c f zs) = emP c s r f zs) := by show packD s r f (emX c f zs) = emP c s r f zs; unfold emP; rw [eF, eR]
  have HX : Hid (codeL zs f.toNat (emN c f).toNat = emX c f zs) := by show _ = _; unfold emX; rw [eF]
  rw [eF] at HRD hN
  rw [eR] at HRD
  obtain ⟨M, hM⟩ : ∃ M, mostC c = M := ⟨_, rfl⟩
  obtain ⟨NN, hNN⟩ : ∃ x, emN c f = x := ⟨_, rfl⟩
  obtain ⟨X, hX⟩ : ∃ X, emX c f zs = X := ⟨_, rfl⟩
  obtain ⟨P, hP⟩ : ∃ X, emP c s r f zs = X := ⟨_, rfl⟩
  rw [hM] at hq hm hm2 hf eN hN
  rw [hNN] at hN HXL eN HX
  rw [hX] at HRD HXL HXB HP HX
  rw [hP] at HP
  rw [hNN, hP]
  have HMost : Hid (∀ wx : World, Calls Tryd.prog 19 #[.agg #[.int .i64 c.cB, .int .i64 c.cBeam, .int .i64 c.cDepth, .int .i64 c.cWin, .int .i64 c.cQs, .int .i64 c.cQr, .int .i64 c.cBatch, .int .i64 c.cPass, .int .i64 c.cMsg, .int .i64 c.cSeqs]] wx fun e w' => e = .returned (.int .i64 M) ∧ Below wx.heap.size wx w') := fun wx => hM ▸ refMost_any c hC wx
  have hnl : n ≤ 32 := by omega
  have hn1 : 1 ≤ n := by omega
  have HN : Hid (zs.length = n) := hn
  have HB : Hid (∀ z ∈ zs, 0 ≤ z ∧ z ≤ 255) := bz
  have HNB : Hid (1 ≤ NN ∧ NN ≤ 64 ∧ f + NN ≤ 32 * (n : Int) ∧ (0 : Int) ≤ f) := ⟨hN.1, hN.2.2.1, by omega, by omega⟩
  have dq : (f == M) = false := by rw [beq_eq_false_iff_ne]; exact hq
  have eS : IntKind.i64.wrap (M - f) = M - f := by rw [IntKind.wrap_i64]; omega
  have eA : IntKind.i64.wrap (f + NN) = (f + NN) := by rw [IntKind.wrap_i64]; omega
  clear eF eR bz hE hq hm2 hNN hX hP hM hcb
  have b1 := (((Below.refl w.heap.size w).alloc (Nat.le_refl _) (.cells #[.int .i64 c.cB, .int .i64 c.cBeam, .int .i64 c.cDepth, .int .i64 c.cWin, .int .i64 c.cQs, .int .i64 c.cQr, .int .i64 c.cBatch, .int .i64 c.cPass, .int .i64 c.cMsg, .int .i64 c.cSeqs] 23)).alloc (by simp) (.cells #[.int .i64 s, .int .i64 r, .int .i64 f, .bool false, .slice a n cap] 26)).alloc (by simp; omega) (.cells #[.int .i64 0, .int .i64 0, .int .i64 0, .bool false, .slice none 0 0] 26)
  have xC := ((Box.new w 23 #[.int .i64 c.cB, .int .i64 c.cBeam, .int .i64 c.cDepth, .int .i64 c.cWin, .int .i64 c.cQs, .int .i64 c.cQr, .int .i64 c.cBatch, .int .i64 c.cPass, .int .i64 c.cMsg, .int .i64 c.cSeqs]).alloc (.cells #[.int .i64 s, .int .i64 r, .int .i64 f, .bool false, .slice a n cap] 26)).alloc (.cells #[.int .i64 0, .int .i64 0, .int .i64 0, .bool false, .slice none 0 0] 26)
  have xE := (Box.new (w.alloc (.cells #[.int .i64 c.cB, .int .i64 c.cBeam, .int .i64 c.cDepth, .int .i64 c.cWin, .int .i64 c.cQs, .int .i64 c.cQr, .int .i64 c.cBatch, .int .i64 c.cPass, .int .i64 c.cMsg, .int .i64 c.cSeqs] 23)) 26 #[.int .i64 s, .int .i64 r, .int .i64 f, .bool false, .slice a n cap]).alloc (.cells #[.int .i64 0, .int .i64 0, .int .i64 0, .bool false, .slice none 0 0] 26)
  have xZ := Box.new ((w.alloc (.cells #[.int .i64 c.cB, .int .i64 c.cBeam, .int .i64 c.cDepth, .int .i64 c.cWin, .int .i64 c.cQs, .int .i64 c.cQr, .int .i64 c.cBatch, .int .i64 c.cPass, .int .i64 c.cMsg, .int .i64 c.cSeqs] 23)).alloc (.cells #[.int .i64 s, .int .i64 r, .int .i64 f, .bool false, .slice a n cap] 26)) 26 #[.int .i64 0, .int .i64 0, .int .i64 0, .bool false, .slice none 0 0]
  rw [show (w.alloc (.cells #[.int .i64 c.cB, .int .i64 c.cBeam, .int .i64 c.cDepth, .int .i64 c.cWin, .int .i64 c.cQs, .int .i64 c.cQr, .int .i64 c.cBatch, .int .i64 c.cPass, .int .i64 c.cMsg, .int .i64 c.cSeqs] 23)).heap.size = w.heap.size + 1 by simp] at xE
  rw [show ((w.alloc (.cells #[.int .i64 c.cB, .int .i64 c.cBeam, .int .i64 c.cDepth, .int .i64 c.cWin, .int .i64 c.cQs, .int .i64 c.cQr, .int .i64 c.cBatch, .int .i64 c.cPass, .int .i64 c.cMsg, .int .i64 c.cSeqs] 23)).alloc (.cells #[.int .i64 s, .int .i64 r, .int .i64 f, .bool false, .slice a n cap] 26)).heap.size = w.heap.size + 1 + 1 by simp] at xZ
  go_enter Tryd.func14, Tryd.ntmps14
  go_wp2_with fail
  obtain ⟨W1, hW1⟩ : ∃ W, ((w.alloc (.cells #[.int .i64 c.cB, .int .i64 c.cBeam, .int .i64 c.cDepth, .int .i64 c.cWin, .int .i64 c.cQs, .int .i64 c.cQr, .int .i64 c.cBatch, .int .i64 c.cPass, .int .i64 c.cMsg, .int .i64 c.cSeqs] 23)).alloc (.cells #[.int .i64 s, .int .i64 r, .int .i64 f, .bool false, .slice a n cap] 26)).alloc (.cells #[.int .i64 0, .int .i64 0, .int .i64 0, .bool false, .slice none 0 0] 26) = W := ⟨_, rfl⟩
  have hs1 : W1.heap.size = w.heap.size + 1 + 1 + 1 := by rw [← hW1]; simp
  rw [hW1] at b1 xC xE xZ ⊢
  clear hW1
  obtain ⟨D, hD⟩ : ∃ D, w.heap.size = D := ⟨_, rfl⟩
  rw [hD] at b1 xC xE xZ hs1 ha ⊢
  have HT := twin_any (.slice a n cap) zs _ (by rw [hn]; omega) W1 (ha.below b1)
  rw [hn] at HT
  refine HT.mono ?_
  rintro e w2 ⟨rv, rfl, o2, b2⟩
  obtain ⟨ra, rc, rfl⟩ := row_shapeP o2
  have bb2 := b1.trans (b2.mono (by omega))
  have yC := xC.next b2
  have yE := xE.next b2
  have yZ := xZ.next b2
  clear HT xC xE xZ b2
  have e0 := yE.cell 0 _ rfl
  have e1 := yE.cell 1 _ rfl
  have e2 := yE.cell 2 _ rfl
  have e3 := yE.cell 3 _ rfl
  have e4 := yE.cell 4 _ rfl
  have fE4 := yE.free 4
  have hE1 := yE.lt
  clear ha
  go_wp2
  obtain ⟨W3, hW3⟩ : ∃ W, w2.setCell ⟨D + 1, 4, none⟩ (.slice ra n rc) = W := ⟨_, rfl⟩
  have hs3 : W3.heap.size = w2.heap.size := by rw [← hW3]; simp
  have zC : Box W3 D 23 #[.int .i64 c.cB, .int .i64 c.cBeam, .int .i64 c.cDepth, .int .i64 c.cWin, .int .i64 c.cQs, .int .i64 c.cQr, .int .i64 c.cBatch, .int .i64 c.cPass, .int .i64 c.cMsg, .int .i64 c.cSeqs] := hW3 ▸ yC.other (by show D ≠ D + 1; omega) _
  have zE : Box W3 (D + 1) 26 #[.int .i64 s, .int .i64 r, .int .i64 f, .bool false, .slice ra n rc] := hW3 ▸ yE.set 4 (.slice ra n rc)
  have zZ : Box W3 (D + 1 + 1) 26 #[.int .i64 0, .int .i64 0, .int .i64 0, .bool false, .slice none 0 0] := hW3 ▸ yZ.other (by show D + 1 + 1 ≠ D + 1; omega) _
  have o3 : W3.ownsRow (D + 3) 5 1 (.slice ra n rc) n (zs.map (Value.int .u8)) := by
    rw [← hW3]
    exact row_base (ownsRow_setCell_below o2 (a := ⟨D + 1, 4, none⟩) (by show D + 1 < _; omega) _) (by omega)
  have bb3 : Below D w W3 := hW3 ▸ bb2.setCell (p := ⟨D + 1, 4, none⟩) (by show D ≤ D + 1; omega) _
  clear yC yE yZ o2 bb2 e0 e1 e2 e3 e4 fE4 hE1 b1 hs1
  rw [hW3]
  clear hW3 hs3
  have k0 : Hid (W3.cell? ⟨D, 0, none⟩ = some (.int .i64 c.cB)) := zC.cell 0 _ rfl
  have k1 : Hid (W3.cell? ⟨D, 1, none⟩ = some (.int .i64 c.cBeam)) := zC.cell 1 _ rfl
  have k2 : Hid (W3.cell? ⟨D, 2, none⟩ = some (.int .i64 c.cDepth)) := zC.cell 2 _ rfl
  have k3 : Hid (W3.cell? ⟨D, 3, none⟩ = some (.int .i64 c.cWin)) := zC.cell 3 _ rfl
  have k4 : Hid (W3.cell? ⟨D, 4, none⟩ = some (.int .i64 c.cQs)) := zC.cell 4 _ rfl
  have k5 : Hid (W3.cell? ⟨D, 5, none⟩ = some (.int .i64 c.cQr)) := zC.cell 5 _ rfl
  have k6 : Hid (W3.cell? ⟨D, 6, none⟩ = some (.int .i64 c.cBatch)) := zC.cell 6 _ rfl
  have k7 : Hid (W3.cell? ⟨D, 7, none⟩ = some (.int .i64 c.cPass)) := zC.cell 7 _ rfl
  have k8 : Hid (W3.cell? ⟨D, 8, none⟩ = some (.int .i64 c.cMsg)) := zC.cell 8 _ rfl
  have k9 : Hid (W3.cell? ⟨D, 9, none⟩ = some (.int .i64 c.cSeqs)) := zC.cell 9 _ rfl
  have hltC := zC.lt
  have hltE := zE.lt
  have e2 := zE.cell 2 _ rfl
  refine wp_region_held_drew (S := fun w' => Below W3.heap.size W3 w') (by kernel_rfl) ((Below.refl _ _).drew) (fun hHeld => ?_)
  refine held_take (i := 0) (d := 15) (v := ?v126) rfl rfl (by kernel_rfl) (by kernel_rfl) (by kernel_rfl) (fun _ _ _ h => h) (Or.inl ⟨by kernel_rfl, ?hy126⟩) hHeld ?rest126
  case hy126 =>
    intro wx hSw
    clear hSw
    go_simp
    with_reducible rfl
  simp only [List.setIfInBounds_toArray, List.set_cons_zero, List.set_cons_succ]
  refine held_take (i := 1) (d := 16) (v := ?v127) rfl rfl (by kernel_rfl) (by kernel_rfl) (by kernel_rfl) (fun _ _ _ h => h) (Or.inl ⟨by kernel_rfl, ?hy127⟩) hHeld ?rest127
  case hy127 =>
    intro wx hSw
    have q0 := (hSw.cell (p := ⟨D + 1, 2, none⟩) hltE).trans e2
    clear hSw
    go_simp
    with_reducible rfl
  simp only [List.setIfInBounds_toArray, List.set_cons_zero, List.set_cons_succ]
  refine held_take (i := 2) (d := 17) (v := ?v128) rfl rfl (by kernel_rfl) (by kernel_rfl) (by kernel_rfl) (fun _ _ _ h => h) (Or.inl ⟨by kernel_rfl, ?hy128⟩) hHeld ?rest128
  case hy128 =>
    intro wx hSw
    have q0 := (hSw.cell (p := ⟨D, 0, none⟩) hltC).trans k0.out
    have q1 := (hSw.cell (p := ⟨D, 1, none⟩) hltC).trans k1.out
    have q2 := (hSw.cell (p := ⟨D, 2, none⟩) hltC).trans k2.out
    have q3 := (hSw.cell (p := ⟨D, 3, none⟩) hltC).trans k3.out
    have q4 := (hSw.cell (p := ⟨D, 4, none⟩) hltC).trans k4.out
    have q5 := (hSw.cell (p := ⟨D, 5, none⟩) hltC).trans k5.out
    have q6 := (hSw.cell (p := ⟨D, 6, none⟩) hltC).trans k6.out
    have q7 := (hSw.cell (p := ⟨D, 7, none⟩) hltC).trans k7.out
    have q8 := (hSw.cell (p := ⟨D, 8, none⟩) hltC).trans k8.out
    have q9 := (hSw.cell (p := ⟨D, 9, none⟩) hltC).trans k9.out
    clear hSw
    go_simp
    with_reducible rfl
  simp only [List.setIfInBounds_toArray, List.set_cons_zero, List.set_cons_succ]
  refine wpAnyH_ready (rs := [3]) (by kernel_rfl) (by simp) ?_
  refine AllReadyH.cons rfl (fun K hK => ?_) AllReadyH.nil
  go_simp
  go_wp2_with (go_at_call 19; refine (HMost.out _).mono ?_; rintro e wb ⟨rfl, b8⟩)
  refine hK.out _ _ (hHeld.trans (b8.mono hHeld.size)) (fun hHeld => ?_)
  clear hK K
  refine wpAnyH_ready (rs := [4]) (by kernel_rfl) (by simp) ?_
  refine AllReadyH.cons rfl (fun K hK => ?_) AllReadyH.nil
  go_simp
  refine hK.out _ _ hHeld (fun hHeld => ?_)
  clear hK K
  refine wpAnyH_done (by kernel_rfl) ?_ _
  have yC := zC.next hHeld
  have yE := zE.next hHeld
  have yZ := zZ.next hHeld
  have oB := row_base (row_below o3 hHeld (Nat.le_refl _)) (Nat.le_refl _)
  replace bb3 := bb3.trans (hHeld.mono (by have := bb3.size; omega))
  clear zC zE zZ o3 hltC hltE e2 k0 k1 k2 k3 k4 k5 k6 k7 k8 k9
  clear hHeld
  have e1 := yE.cell 1 _ rfl
  have e2 := yE.cell 2 _ rfl
  have fE1 := yE.free 1
  have fE2 := yE.free 2
  have hE1 := yE.lt
  go_wp2
  obtain ⟨W5, rfl⟩ : ∃ W, wb = W := ⟨_, rfl⟩
  have zC := yC
  have zE := yE
  have zZ := yZ
  have o5 := oB
  have bb5 := bb3
  clear yC yE yZ oB bb3 fE1 fE2 e1 e2 hE1
  have k0 : Hid (wb.cell? ⟨D, 0, none⟩ = some (.int .i64 c.cB)) := zC.cell 0 _ rfl
  have k1 : Hid (wb.cell? ⟨D, 1, none⟩ = some (.int .i64 c.cBeam)) := zC.cell 1 _ rfl
  have k2 : Hid (wb.cell? ⟨D, 2, none⟩ = some (.int .i64 c.cDepth)) := zC.cell 2 _ rfl
  have k3 : Hid (wb.cell? ⟨D, 3, none⟩ = some (.int .i64 c.cWin)) := zC.cell 3 _ rfl
  have k4 : Hid (wb.cell? ⟨D, 4, none⟩ = some (.int .i64 c.cQs)) := zC.cell 4 _ rfl
  have k5 : Hid (wb.cell? ⟨D, 5, none⟩ = some (.int .i64 c.cQr)) := zC.cell 5 _ rfl
  have k6 : Hid (wb.cell? ⟨D, 6, none⟩ = some (.int .i64 c.cBatch)) := zC.cell 6 _ rfl
  have k7 : Hid (wb.cell? ⟨D, 7, none⟩ = some (.int .i64 c.cPass)) := zC.cell 7 _ rfl
  have k8 : Hid (wb.cell? ⟨D, 8, none⟩ = some (.int .i64 c.cMsg)) := zC.cell 8 _ rfl
  have k9 : Hid (wb.cell? ⟨D, 9, none⟩ = some (.int .i64 c.cSeqs)) := zC.cell 9 _ rfl
  have hltC := zC.lt
  have hltE := zE.lt
  have e0 := zE.cell 0 _ rfl
  have e1 := zE.cell 1 _ rfl
  have e2 := zE.cell 2 _ rfl
  have e4 := zE.cell 4 _ rfl
  refine wp_region_held_drew (S := fun w' => Below wb.heap.size wb w') (by kernel_rfl) ((Below.refl _ _).drew) (fun hHeld => ?_)
  refine held_take (i := 0) (d := 26) (v := ?v129) rfl rfl (by kernel_rfl) (by kernel_rfl) (by kernel_rfl) (fun _ _ _ h => h) (Or.inl ⟨by kernel_rfl, ?hy129⟩) hHeld ?rest129
  case hy129 =>
    intro wx hSw
    clear hSw
    go_simp
    with_reducible rfl
  simp only [List.setIfInBounds_toArray, List.set_cons_zero, List.set_cons_succ]
  refine held_take (i := 1) (d := 27) (v := ?v130) rfl rfl (by kernel_rfl) (by kernel_rfl) (by kernel_rfl) (fun _ _ _ h => h) (Or.inl ⟨by kernel_rfl, ?hy130⟩) hHeld ?rest130
  case hy130 =>
    intro wx hSw
    have q0 := (hSw.cell (p := ⟨D, 6, none⟩) hltC).trans k6.out
    clear hSw
    go_simp
    with_reducible rfl
  simp only [List.setIfInBounds_toArray, List.set_cons_zero, List.set_cons_succ]
  refine held_take (i := 2) (d := 28) (v := ?v131) rfl rfl (by kernel_rfl) (by kernel_rfl) (by kernel_rfl) (fun _ _ _ h => h) (Or.inl ⟨by kernel_rfl, ?hy131⟩) hHeld ?rest131
  case hy131 =>
    intro wx hSw
    have q0 := (hSw.cell (p := ⟨D, 0, none⟩) hltC).trans k0.out
    have q1 := (hSw.cell (p := ⟨D, 1, none⟩) hltC).trans k1.out
    have q2 := (hSw.cell (p := ⟨D, 2, none⟩) hltC).trans k2.out
    have q3 := (hSw.cell (p := ⟨D, 3, none⟩) hltC).trans k3.out
    have q4 := (hSw.cell (p := ⟨D, 4, none⟩) hltC).trans k4.out
    have q5 := (hSw.cell (p := ⟨D, 5, none⟩) hltC).trans k5.out
    have q6 := (hSw.cell (p := ⟨D, 6, none⟩) hltC).trans k6.out
    have q7 := (hSw.cell (p := ⟨D, 7, none⟩) hltC).trans k7.out
    have q8 := (hSw.cell (p := ⟨D, 8, none⟩) hltC).trans k8.out
    have q9 := (hSw.cell (p := ⟨D, 9, none⟩) hltC).trans k9.out
    clear hSw
    go_simp
    with_reducible rfl
  simp only [List.setIfInBounds_toArray, List.set_cons_zero, List.set_cons_succ]
  refine held_take (i := 4) (d := 30) (v := ?v132) rfl rfl (by kernel_rfl) (by kernel_rfl) (by kernel_rfl) (fun _ _ _ h => h) (Or.inl ⟨by kernel_rfl, ?hy132⟩) hHeld ?rest132
  case hy132 =>
    intro wx hSw
    clear hSw
    go_simp
    with_reducible rfl
  simp only [List.setIfInBounds_toArray, List.set_cons_zero, List.set_cons_succ]
  refine held_take (i := 5) (d := 31) (v := ?v133) rfl rfl (by kernel_rfl) (by kernel_rfl) (by kernel_rfl) (fun _ _ _ h => h) (Or.inl ⟨by kernel_rfl, ?hy133⟩) hHeld ?rest133
  case hy133 =>
    intro wx hSw
    have q0 := (hSw.cell (p := ⟨D + 1, 2, none⟩) hltE).trans e2
    clear hSw
    go_simp
    with_reducible rfl
  simp only [List.setIfInBounds_toArray, List.set_cons_zero, List.set_cons_succ]
  refine wpAnyH_ready (rs := [3]) (by kernel_rfl) (by simp) ?_
  refine AllReadyH.cons rfl (fun K hK => ?_) AllReadyH.nil
  go_simp
  go_wp2_with (go_at_call 19; refine (HMost.out _).mono ?_; rintro e wc ⟨rfl, b8⟩)
  refine hK.out _ _ (hHeld.trans (b8.mono hHeld.size)) (fun hHeld => ?_)
  clear hK K
  refine held_take (i := 6) (d := 32) (v := ?v134) rfl rfl (by kernel_rfl) (by kernel_rfl) (by kernel_rfl) (fun _ _ _ h => h) (Or.inl ⟨by kernel_rfl, ?hy134⟩) hHeld ?rest134
  case hy134 =>
    intro wx hSw
    clear hSw
    go_simp
    with_reducible rfl
  simp only [List.setIfInBounds_toArray, List.set_cons_zero, List.set_cons_succ]
  refine held_take (i := 7) (d := 33) (v := ?v135) rfl rfl (by kernel_rfl) (by kernel_rfl) (by kernel_rfl) (fun _ _ _ h => h) (Or.inl ⟨by kernel_rfl, ?hy135⟩) hHeld ?rest135
  case hy135 =>
    intro wx hSw
    clear hSw
    go_simp
    with_reducible rfl
  simp only [List.setIfInBounds_toArray, List.set_cons_zero, List.set_cons_succ]
  refine wpAnyH_ready (rs := [8]) (by kernel_rfl) (by simp) ?_
  refine AllReadyH.cons rfl (fun K hK => ?_) AllReadyH.nil
  go_simp
  refine hK.out _ _ hHeld (fun hHeld => ?_)
  clear hK K
  refine wpAnyH_done (by kernel_rfl) ?_ _
  have yC := zC.next hHeld
  have yE := zE.next hHeld
  have yZ := zZ.next hHeld
  have oB := row_below o5 hHeld (Nat.le_refl _)
  replace bb5 := bb5.trans (hHeld.mono (by have := bb5.size; omega))
  clear zC zE zZ o5 hltC hltE e0 e1 e2 e4 k0 k1 k2 k3 k4 k5 k6 k7 k8 k9
  clear hHeld
  have hltE := yE.lt
  have e0 := yE.cell 0 _ rfl
  have e1 := yE.cell 1 _ rfl
  have e2 := yE.cell 2 _ rfl
  have e4 := yE.cell 4 _ rfl
  have HEN : Hid (∀ wx : World, Below wc.heap.size wc wx → Calls Tryd.prog 28 #[.slice ra n rc, .int .i64 f, .int .i64 NN] wx fun e W' => ∃ xa xc, e = .returned (.slice xa NN.toNat xc) ∧ W'.ownsRow wx.heap.size 5 1 (.slice xa NN.toNat xc) NN.toNat (X.map (Value.int .u8)) ∧ Below wx.heap.size wx W') := fun wx hx => by
    have := refEncode_at ra n rc zs HN.out hn1 hnl HB.out f NN HNB.out.2.2.2 (by have := HNB.out.1; omega) HNB.out.2.2.1 wx ((holds_of_row oB).next hx)
    rw [show codeL zs (Int.toNat f) NN.toNat = X from HX.out] at this
    exact this
  have HPK : Hid (∀ (wx : World) (xa : Option Addr) (xc : Nat), Holds .u8 wx.heap.size wx (.slice xa NN.toNat xc) X → Calls Tryd.prog 27 #[.agg #[.int .i64 s, .int .i64 r, .int .i64 f, .slice xa NN.toNat xc]] wx fun e W' => ∃ qa qc, e = .returned (.slice qa (NN.toNat + 11) qc) ∧ W'.ownsRow wx.heap.size 5 1 (.slice qa (NN.toNat + 11) qc) (NN.toNat + 11) (P.map (Value.int .u8)) ∧ Below wx.heap.size wx W') := fun wx xa xc hx => by
    have := refPacket_at s r f xa NN.toNat xc X HXL.out HRD.out HXB.out wx hx
    rw [HP.out] at this
    exact this
  go_wp2
  refine wp_region_held_drew (S := fun w' => Below wc.heap.size wc w') (by kernel_rfl) ((Below.refl _ _).drew) (fun hHeld => ?_)
  refine held_take (i := 0) (d := 34) (v := ?v136) rfl rfl (by kernel_rfl) (by kernel_rfl) (by kernel_rfl) (fun _ _ _ h => h) (Or.inl ⟨by kernel_rfl, ?hy136⟩) hHeld ?rest136
  case hy136 =>
    intro wx hSw
    clear hSw
    go_simp
    with_reducible rfl
  simp only [List.setIfInBounds_toArray, List.set_cons_zero, List.set_cons_succ]
  refine held_take (i := 1) (d := 35) (v := ?v137) rfl rfl (by kernel_rfl) (by kernel_rfl) (by kernel_rfl) (fun _ _ _ h => h) (Or.inl ⟨by kernel_rfl, ?hy137⟩) hHeld ?rest137
  case hy137 =>
    intro wx hSw
    have q0 := (hSw.cell (p := ⟨D + 1, 0, none⟩) hltE).trans e0
    clear hSw
    go_simp
    with_reducible rfl
  simp only [List.setIfInBounds_toArray, List.set_cons_zero, List.set_cons_succ]
  refine held_take (i := 2) (d := 36) (v := ?v138) rfl rfl (by kernel_rfl) (by kernel_rfl) (by kernel_rfl) (fun _ _ _ h => h) (Or.inl ⟨by kernel_rfl, ?hy138⟩) hHeld ?rest138
  case hy138 =>
    intro wx hSw
    clear hSw
    go_simp
    with_reducible rfl
  simp only [List.setIfInBounds_toArray, List.set_cons_zero, List.set_cons_succ]
  refine held_take (i := 3) (d := 37) (v := ?v139) rfl rfl (by kernel_rfl) (by kernel_rfl) (by kernel_rfl) (fun _ _ _ h => h) (Or.inl ⟨by kernel_rfl, ?hy139⟩) hHeld ?rest139
  case hy139 =>
    intro wx hSw
    have q0 := (hSw.cell (p := ⟨D + 1, 1, none⟩) hltE).trans e1
    clear hSw
    go_simp
    with_reducible rfl
  simp only [List.setIfInBounds_toArray, List.set_cons_zero, List.set_cons_succ]
  refine held_take (i := 4) (d := 38) (v := ?v140) rfl rfl (by kernel_rfl) (by kernel_rfl) (by kernel_rfl) (fun _ _ _ h => h) (Or.inl ⟨by kernel_rfl, ?hy140⟩) hHeld ?rest140
  case hy140 =>
    intro wx hSw
    clear hSw
    go_simp
    with_reducible rfl
  simp only [List.setIfInBounds_toArray, List.set_cons_zero, List.set_cons_succ]
  refine held_take (i := 5) (d := 39) (v := ?v141) rfl rfl (by kernel_rfl) (by kernel_rfl) (by kernel_rfl) (fun _ _ _ h => h) (Or.inl ⟨by kernel_rfl, ?hy141⟩) hHeld ?rest141
  case hy141 =>
    intro wx hSw
    have q0 := (hSw.cell (p := ⟨D + 1, 2, none⟩) hltE).trans e2
    clear hSw
    go_simp
    with_reducible rfl
  simp only [List.setIfInBounds_toArray, List.set_cons_zero, List.set_cons_succ]
  refine held_take (i := 6) (d := 40) (v := ?v142) rfl rfl (by kernel_rfl) (by kernel_rfl) (by kernel_rfl) (fun _ _ _ h => h) (Or.inl ⟨by kernel_rfl, ?hy142⟩) hHeld ?rest142
  case hy142 =>
    intro wx hSw
    clear hSw
    go_simp
    with_reducible rfl
  simp only [List.setIfInBounds_toArray, List.set_cons_zero, List.set_cons_succ]
  refine held_take (i := 7) (d := 41) (v := ?v143) rfl rfl (by kernel_rfl) (by kernel_rfl) (by kernel_rfl) (fun _ _ _ h => h) (Or.inl ⟨by kernel_rfl, ?hy143⟩) hHeld ?rest143
  case hy143 =>
    intro wx hSw
    have q0 := (hSw.cell (p := ⟨D + 1, 4, none⟩) hltE).trans e4
    clear hSw
    go_simp
    with_reducible rfl
  simp only [List.setIfInBounds_toArray, List.set_cons_zero, List.set_cons_succ]
  refine held_take (i := 8) (d := 42) (v := ?v144) rfl rfl (by kernel_rfl) (by kernel_rfl) (by kernel_rfl) (fun _ _ _ h => h) (Or.inl ⟨by kernel_rfl, ?hy144⟩) hHeld ?rest144
  case hy144 =>
    intro wx hSw
    clear hSw
    go_simp
    with_reducible rfl
  simp only [List.setIfInBounds_toArray, List.set_cons_zero, List.set_cons_succ]
  refine held_take (i := 9) (d := 43) (v := ?v145) rfl rfl (by kernel_rfl) (by kernel_rfl) (by kernel_rfl) (fun _ _ _ h => h) (Or.inl ⟨by kernel_rfl, ?hy145⟩) hHeld ?rest145
  case hy145 =>
    intro wx hSw
    have q0 := (hSw.cell (p := ⟨D + 1, 2, none⟩) hltE).trans e2
    clear hSw
    go_simp
    with_reducible rfl
  simp only [List.setIfInBounds_toArray, List.set_cons_zero, List.set_cons_succ]
  refine held_take (i := 10) (d := 44) (v := ?v146) rfl rfl (by kernel_rfl) (by kernel_rfl) (by kernel_rfl) (fun _ _ _ h => h) (Or.inl ⟨by kernel_rfl, ?hy146⟩) hHeld ?rest146
  case hy146 =>
    intro wx hSw
    clear hSw
    go_simp
    with_reducible rfl
  simp only [List.setIfInBounds_toArray, List.set_cons_zero, List.set_cons_succ]
  refine wpAnyH_ready (rs := [11]) (by kernel_rfl) (by simp) ?_
  refine AllReadyH.cons rfl (fun K hK => ?_) AllReadyH.nil
  go_simp
  go_wp2_with (go_at_call 28; refine (HEN.out _ (by exact hHeld)).mono ?_; rintro e wx ⟨xa, xc, rfl, oX, b8⟩)
  refine hK.out _ _ (hHeld.trans (b8.mono hHeld.size)) (fun hHeld => ?_)
  clear hK K
  refine held_take (i := 12) (d := 46) (v := ?v147) rfl rfl (by kernel_rfl) (by kernel_rfl) (by kernel_rfl) (fun _ _ _ h => h) (Or.inl ⟨by kernel_rfl, ?hy147⟩) hHeld ?rest147
  case hy147 =>
    intro wx hSw
    clear hSw
    go_simp
    with_reducible rfl
  simp only [List.setIfInBounds_toArray, List.set_cons_zero, List.set_cons_succ]
  refine wpAnyH_ready (rs := [13]) (by kernel_rfl) (by simp) ?_
  refine AllReadyH.cons rfl (fun K hK => ?_) AllReadyH.nil
  have hsx : wc.heap.size ≤ wx.heap.size := hHeld.size
  go_simp
  go_wp2_with (go_at_call 27; refine (HPK.out _ xa xc (by exact holds_of_row oX)).mono ?_; rintro e wp ⟨qa, qc, rfl, oP, b8⟩)
  refine hK.out _ _ (hHeld.trans (b8.mono hHeld.size)) (fun hHeld => ?_)
  clear hK K
  refine wpAnyH_ready (rs := [14]) (by kernel_rfl) (by simp) ?_
  refine AllReadyH.cons rfl (fun K hK => ?_) AllReadyH.nil
  go_simp
  refine hK.out _ _ hHeld (fun hHeld => ?_)
  clear hK K
  refine wpAnyH_done (by kernel_rfl) ?_ _
  have zE := yE.next hHeld
  have zZ := yZ.next hHeld
  have o7 := row_below oB hHeld (Nat.le_refl _)
  have hsc : D + 1 + 1 < wc.heap.size := yZ.lt
  have bb7 := bb5.trans (hHeld.mono (by have := bb5.size; omega))
  have o8 : wp.ownsRow (D + 3) 5 1 (.slice qa (NN.toNat + 11) qc) (NN.toNat + 11) (P.map (Value.int .u8)) := row_base oP (by omega)
  have hpw := hHeld.size
  clear yC yE yZ oB bb5 oP oX b8 hHeld HEN HPK HMost e0 e1 e2 e4 hltE
  have e0 := zE.cell 0 _ rfl
  have e1 := zE.cell 1 _ rfl
  have e2 := zE.cell 2 _ rfl
  have e3 := zE.cell 3 _ rfl
  have e4 := zE.cell 4 _ rfl
  have fE2 := zE.free 2
  have z0 := zZ.cell 0 _ rfl
  have z1 := zZ.cell 1 _ rfl
  have z2 := zZ.cell 2 _ rfl
  have z3 := zZ.cell 3 _ rfl
  have z4 := zZ.cell 4 _ rfl
  have fZ0 := zZ.free 0
  have fZ1 := zZ.free 1
  have fZ2 := zZ.free 2
  have fZ3 := zZ.free 3
  have fZ4 := zZ.free 4
  have hE1 := zE.lt
  have hZ1 := zZ.lt
  clear zE zZ
  go_wp2
  refine bodyPost_ret (v := .tuple #[.agg #[.int .i64 s, .int .i64 r, .int .i64 (f + NN), .bool false, .slice ra n rc], .slice qa (NN.toNat + 11) qc]) (by simp [results, Tryd.results14, go_sem, z0, z1, z2, z3, z4]) rfl ⟨ra, rc, qa, qc, rfl, ?_, ?_, ?_⟩
  · rw [hD]
    exact row_base (row_set5 (ownsRow_setCell_below o7 (a := ⟨D + 1, 2, none⟩) (by show D + 1 < _; omega) _) (by omega) _ _ _ _ _) (by omega)
  · rw [hD]
    exact row_base (row_set5 (ownsRow_setCell_below o8 (a := ⟨D + 1, 2, none⟩) (by show D + 1 < _; omega) _) (by omega) _ _ _ _ _) (by omega)
  · rw [hD]
    exact below_set5 (bb7.setCell (p := ⟨D + 1, 2, none⟩) (by show D ≤ D + 1; omega) _) (by omega) _ _ _ _ _

theorem refTick_go (c : Cfg) (hC : okC c = true) (s r f : Int) (a : Option Addr) (n cap : Nat) (zs : List Int) (hn : zs.length = n) (bz : ∀ z ∈ zs, 0 ≤ z ∧ z ≤ 255) (hE : okE c s r f n = true) (w : World) (ha : Holds .u8 w.heap.size w (.slice a n cap) zs) :
    Calls Tryd.prog 14 #[.agg #[.int .i64 c.cB, .int .i64 c.cBeam, .int .i64 c.cDepth, .int .i64 c.cWin, .int .i64 c.cQs, .int .i64 c.cQr, .int .i64 c.cBatch, .int .i64 c.cPass, .int .i64 c.cMsg, .int .i64 c.cSeqs], .agg #[.int .i64 s, .int .i64 r, .int .i64 f, .bool false, .slice a n cap]] w fun e W' => ∃ ra rc qa qc, e = .returned (.tuple #[.agg #[.int .i64 s, .int .i64 (emR c r f), .int .i64 (emF c f + emN c f), .bool false, .slice ra n rc], .slice qa ((emN c f).toNat + 11) qc]) ∧ W'.ownsRow w.heap.size 5 1 (.slice ra n rc) n (zs.map (Value.int .u8)) ∧ W'.ownsRow w.heap.size 5 1 (.slice qa ((emN c f).toNat + 11) qc) ((emN c f).toNat + 11) ((emP c s r f zs).map (Value.int .u8)) ∧ Below w.heap.size w W' := by
  by_cases hq : f = mostC c
  · rw [show emR c r f = (r + 1) % 256 by unfold emR; rw [if_pos hq], show emF c f + emN c f = emN c f by unfold emF; rw [if_pos hq, Int.zero_add]]
    exact refTick_new c hC s r f a n cap zs hn bz hE hq w ha
  · rw [show emR c r f = r by unfold emR; rw [if_neg hq], show emF c f = f by unfold emF; rw [if_neg hq]]
    exact refTick_old c hC s r f a n cap zs hn bz hE hq w ha

end Go.Proofs.YtnecdbmdgpoogaaDoor
