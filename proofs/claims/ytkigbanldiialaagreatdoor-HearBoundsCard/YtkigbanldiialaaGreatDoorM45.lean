/-
  What package hear answers (apart, putAll, tell, Take). (Written by tpl_hearcode.py.)
-/
import Derived.Test.YtkigbanldiialaaGreatDoorM44
namespace Go.Proofs.YtkigbanldiialaaGreatDoor
open Go.RowKit

set_option maxRecDepth 100000 in
set_option maxHeartbeats 4000000 in
theorem apartH_ok (h : Hr) (a b : Option Addr) (cap bc : Nat) (hl : h.hL.length ≤ 4294967296) (hb : h.hB.length ≤ 4096) (w : World) (ha : HearAt w h a cap b bc) :
    Calls Tryz.prog 32 #[.agg #[.int .i64 h.hS, .int .i64 h.hR, .int .i64 h.hN, .int .i64 h.hP, .slice a h.hL.length cap, .bool h.hD, .slice b h.hB.length bc]] w fun e W' => ∃ a' cap' b' bc', e = .returned (.agg #[.int .i64 h.hS, .int .i64 h.hR, .int .i64 h.hN, .int .i64 h.hP, .slice a' h.hL.length cap', .bool h.hD, .slice b' h.hB.length bc']) ∧ OwnHear w.heap.size W' h a' cap' b' bc' ∧ Below w.heap.size w W' := by
  obtain ⟨b1, x1, x2⟩ := pre2 w #[.int .i64 h.hS, .int .i64 h.hR, .int .i64 h.hN, .int .i64 h.hP, .slice a h.hL.length cap, .bool h.hD, .slice b h.hB.length bc] 39 #[.int .i64 0, .int .i64 0, .int .i64 0, .int .i64 0, .slice none 0 0, .bool false, .slice none 0 0] 39
  have HC := clone_ok a cap h.hL hl _ (ha.next b1).syms
  have HA : Hid (HearAt w h a cap b bc) := ha
  have hs2 : w.heap.size + 2 ≤ ((w.alloc (.cells #[.int .i64 h.hS, .int .i64 h.hR, .int .i64 h.hN, .int .i64 h.hP, .slice a h.hL.length cap, .bool h.hD, .slice b h.hB.length bc] 39)).alloc (.cells #[.int .i64 0, .int .i64 0, .int .i64 0, .int .i64 0, .slice none 0 0, .bool false, .slice none 0 0] 39)).heap.size := by simp
  clear ha hl
  have k0 := x1.cell 0 _ rfl
  have k1 := x1.cell 1 _ rfl
  have k2 := x1.cell 2 _ rfl
  have k3 := x1.cell 3 _ rfl
  have k4 := x1.cell 4 _ rfl
  have k5 := x1.cell 5 _ rfl
  have k6 := x1.cell 6 _ rfl
  go_enter Tryz.func32, Tryz.ntmps32
  go_wp2_with fail
  refine HC.mono ?_
  rintro e w2 ⟨v2, rfl, o2, b2⟩
  obtain ⟨ar, cr, rfl⟩ := symRow_shapeH o2
  have y1 := x1.next b2
  have y2 := x2.next b2
  have b3 := b1.trans (b2.mono (by omega))
  have hs3 : w.heap.size + 2 ≤ w2.heap.size := Nat.le_trans hs2 b2.size
  clear k0 k1 k2 k3 k4 k5 k6
  have f4 := y1.free 4
  have k4 := y1.cell 4 _ rfl
  have l1 := y1.lt
  clear x1 x2 b1 b2 HC
  go_upto_region 2 with fail
  obtain ⟨W3, hW3⟩ : ∃ W, w2.setCell ⟨w.heap.size, 4, none⟩ (.slice ar h.hL.length cr) = W := ⟨_, rfl⟩
  have z1 := y1.set 4 (.slice ar h.hL.length cr)
  have z2 := y2.other (p := ⟨w.heap.size, 4, none⟩) (by simp) (.slice ar h.hL.length cr)
  have o3 := ownsRow_setCell_below o2 (a := ⟨w.heap.size, 4, none⟩) (by simp only; omega) (.slice ar h.hL.length cr)
  have b4 := b3.setCell (p := ⟨w.heap.size, 4, none⟩) (Nat.le_refl _) (.slice ar h.hL.length cr)
  have hz3 : w2.heap.size = W3.heap.size := by rw [← hW3]; simp
  simp only [sn] at z1
  rw [hW3] at z1 z2 o3 b4 ⊢
  rw [hz3] at hs3
  clear hW3 hz3 y1 y2 b3 o2 f4 k4 l1
  have HB := cloneB_ok b bc h.hB hb W3 (HA.out.next b4).byts
  have k0 := z1.cell 0 _ rfl
  have k1 := z1.cell 1 _ rfl
  have k2 := z1.cell 2 _ rfl
  have k3 := z1.cell 3 _ rfl
  have k4 := z1.cell 4 _ rfl
  have k5 := z1.cell 5 _ rfl
  have k6 := z1.cell 6 _ rfl
  go_wp2_with fail
  refine HB.mono ?_
  rintro e w5 ⟨v5, rfl, o5, b5⟩
  obtain ⟨br, dr, rfl⟩ := row_shapeH o5
  have u1 := z1.next b5
  have u2 := z2.next b5
  clear k0 k1 k2 k3 k4 k5 k6
  have k0 := u1.cell 0 _ rfl
  have k1 := u1.cell 1 _ rfl
  have k2 := u1.cell 2 _ rfl
  have k3 := u1.cell 3 _ rfl
  have k4 := u1.cell 4 _ rfl
  have k5 := u1.cell 5 _ rfl
  have k6 := u1.cell 6 _ rfl
  have f6 := u1.free 6
  have m0 := u2.cell 0 _ rfl
  have m1 := u2.cell 1 _ rfl
  have m2 := u2.cell 2 _ rfl
  have m3 := u2.cell 3 _ rfl
  have m4 := u2.cell 4 _ rfl
  have m5 := u2.cell 5 _ rfl
  have m6 := u2.cell 6 _ rfl
  have g0 := u2.free 0
  have g1 := u2.free 1
  have g2 := u2.free 2
  have g3 := u2.free 3
  have g4 := u2.free 4
  have g5 := u2.free 5
  have g6 := u2.free 6
  have b6 := b4.trans (b5.mono b4.size)
  have o6 := symRow_below o3 b5 (Nat.le_refl _)
  have b7 := below_set7c (b6.setCell (p := ⟨w.heap.size, 6, none⟩) (Nat.le_refl _) (.slice br h.hB.length dr)) (D := w.heap.size + 1) (by omega) (.int .i64 h.hS) (.int .i64 h.hR) (.int .i64 h.hN) (.int .i64 h.hP) (.slice ar h.hL.length cr) (.bool h.hD) (.slice br h.hB.length dr)
  have o7 := symRow_base (row_set7c (ownsRow_setCell_below o6 (a := ⟨w.heap.size, 6, none⟩) (by simp only; omega) (.slice br h.hB.length dr)) (D := w.heap.size + 1) (by omega) (.int .i64 h.hS) (.int .i64 h.hR) (.int .i64 h.hN) (.int .i64 h.hP) (.slice ar h.hL.length cr) (.bool h.hD) (.slice br h.hB.length dr)) (show w.heap.size ≤ _ by omega)
  have o8 := row_base (row_set7c (ownsRow_setCell_below o5 (a := ⟨w.heap.size, 6, none⟩) (by simp only; omega) (.slice br h.hB.length dr)) (D := w.heap.size + 1) (by omega) (.int .i64 h.hS) (.int .i64 h.hR) (.int .i64 h.hN) (.int .i64 h.hP) (.slice ar h.hL.length cr) (.bool h.hD) (.slice br h.hB.length dr)) (show w.heap.size ≤ _ by omega)
  have HY : Hid (∀ z ∈ h.hB, 0 ≤ z ∧ z ≤ 255) := HA.out.byte
  clear HB HA o5 o6 o3 b5 b6 b4 z1 z2 u1 u2 hb
  go_wp2
  exact bodyPost_ret (v := .agg #[.int .i64 h.hS, .int .i64 h.hR, .int .i64 h.hN, .int .i64 h.hP, .slice ar h.hL.length cr, .bool h.hD, .slice br h.hB.length dr]) (by simp [results, Tryz.results32, go_sem, m0, m1, m2, m3, m4, m5, m6]) rfl ⟨ar, cr, br, dr, rfl, ⟨o7, o8, HY.out⟩, b7⟩

set_option maxRecDepth 100000 in
set_option maxHeartbeats 8000000 in
theorem putAll_ok (n p : Int) (l : List (Int × Int)) (hp : PileOk n p l) (a : Option Addr) (cap : Nat) (s r f : Int) (hf : 0 ≤ f ∧ f ≤ 65535) (xs : List Int) (hx0 : 1 ≤ xs.length) (hx1 : xs.length ≤ 64) (bx : ∀ z ∈ xs, 0 ≤ z ∧ z ≤ 255) (x : Option Addr) (xc : Nat) (base : Nat) (w : World) (hbase : base ≤ w.heap.size) (ho : w.ownsRow base 79 2 (.slice a l.length cap) l.length (symCells l)) (hx : Holds .u8 w.heap.size w (.slice x xs.length xc) xs) :
    Calls Tryz.prog 33 #[.agg #[.int .i64 n, .int .i64 p, .slice a l.length cap], .agg #[.int .i64 s, .int .i64 r, .int .i64 f, .slice x xs.length xc]] w fun e W' => ∃ a' cap', e = .returned (.tuple #[.agg #[.int .i64 n, .int .i64 p, .slice a' (putsL n p l f xs).length cap'], .bool (freshL n p l f xs), .int .i64 0]) ∧ W'.ownsRow base 79 2 (.slice a' (putsL n p l f xs).length cap') (putsL n p l f xs).length (symCells (putsL n p l f xs)) ∧ Below w.heap.size w W' := by
  have hpr := hp.1.prod
  obtain ⟨M, hM⟩ : ∃ M, n * p = M := ⟨_, rfl⟩
  have hw1 : IntKind.i64.wrap (n * p) = M := by rw [IntKind.wrap_i64]; omega
  obtain ⟨xb, xo, rfl, hxb, hxc⟩ : ∃ xb xo, x = some ⟨xb, xo, none⟩ ∧ xb < w.heap.size ∧ ∀ j, j < xs.length → w.cell? ⟨xb, xo + j, none⟩ = some (.int .u8 (xs[j]?.getD 0)) := by
    rcases hx with ⟨_, e⟩ | ⟨b, off, c, e, h1, h2⟩
    · rw [e] at hx0; simp at hx0
    · simp only [Value.slice.injEq] at e
      exact ⟨b, off, e.1, h1, h2⟩
  have b1 := (((Below.refl w.heap.size w).alloc (Nat.le_refl _) (.cells #[.int .i64 n, .int .i64 p, .slice a l.length cap] 37)).alloc (by simp) (.cells #[.int .i64 s, .int .i64 r, .int .i64 f, .slice (some ⟨xb, xo, none⟩) xs.length xc] 48)).alloc (by simp; omega) (.cells #[.int .i64 0, .int .i64 0, .slice none 0 0] 37)
  have xP := ((Box.new w 37 #[.int .i64 n, .int .i64 p, .slice a l.length cap]).alloc (.cells #[.int .i64 s, .int .i64 r, .int .i64 f, .slice (some ⟨xb, xo, none⟩) xs.length xc] 48)).alloc (.cells #[.int .i64 0, .int .i64 0, .slice none 0 0] 37)
  have xD := (Box.new (w.alloc (.cells #[.int .i64 n, .int .i64 p, .slice a l.length cap] 37)) 48 #[.int .i64 s, .int .i64 r, .int .i64 f, .slice (some ⟨xb, xo, none⟩) xs.length xc]).alloc (.cells #[.int .i64 0, .int .i64 0, .slice none 0 0] 37)
  have xR := Box.new ((w.alloc (.cells #[.int .i64 n, .int .i64 p, .slice a l.length cap] 37)).alloc (.cells #[.int .i64 s, .int .i64 r, .int .i64 f, .slice (some ⟨xb, xo, none⟩) xs.length xc] 48)) 37 #[.int .i64 0, .int .i64 0, .slice none 0 0]
  rw [show (w.alloc (.cells #[.int .i64 n, .int .i64 p, .slice a l.length cap] 37)).heap.size = w.heap.size + 1 by simp] at xD
  rw [show ((w.alloc (.cells #[.int .i64 n, .int .i64 p, .slice a l.length cap] 37)).alloc (.cells #[.int .i64 s, .int .i64 r, .int .i64 f, .slice (some ⟨xb, xo, none⟩) xs.length xc] 48)).heap.size = w.heap.size + 2 by simp] at xR
  have ho0 := ho.lt
  have hne0 : (Value.slice a l.length cap).ownBlock ≠ some (w.heap.size + 2) := fun e => by have := (ho0 _ e).2; omega
  have hs1 : w.heap.size + 3 ≤ (((w.alloc (.cells #[.int .i64 n, .int .i64 p, .slice a l.length cap] 37)).alloc (.cells #[.int .i64 s, .int .i64 r, .int .i64 f, .slice (some ⟨xb, xo, none⟩) xs.length xc] 48)).alloc (.cells #[.int .i64 0, .int .i64 0, .slice none 0 0] 37)).heap.size := by simp
  have HP : Hid (PileOk n p l) := hp
  have HFF : Hid (0 ≤ f ∧ f ≤ 65535) := hf
  have HBX : Hid (∀ z ∈ xs, 0 ≤ z ∧ z ≤ 255) := bx
  have HM : Hid (n * p = M) := hM
  have HXC : Hid (∀ j, j < xs.length → w.cell? ⟨xb, xo + j, none⟩ = some (.int .u8 (xs[j]?.getD 0))) := hxc
  have HX1 : Hid (xs.length ≤ 64) := hx1
  have HBS : Hid (base ≤ w.heap.size) := hbase
  have HO : Hid (w.ownsRow base 79 2 (.slice a l.length cap) l.length (symCells l)) := ho
  clear hx ho hp hf bx hM hxc hpr hx0 hx1 hbase
  have k0 := xP.cell 0 _ rfl
  have k1 := xP.cell 1 _ rfl
  have k2 := xP.cell 2 _ rfl
  have d0 := xD.cell 0 _ rfl
  have d1 := xD.cell 1 _ rfl
  have d2 := xD.cell 2 _ rfl
  have d3 := xD.cell 3 _ rfl
  have z0 := xR.cell 0 _ rfl
  have z1 := xR.cell 1 _ rfl
  have z2 := xR.cell 2 _ rfl
  have g0 := xR.free 0
  have g1 := xR.free 1
  have g2 := xR.free 2
  go_enter Tryz.func33, Tryz.ntmps33
  go_wp2
  go_step3
  go_wp2
  go_step3
  go_wp2
  obtain ⟨W0, hW0⟩ : ∃ W, ((w.alloc (.cells #[.int .i64 n, .int .i64 p, .slice a l.length cap] 37)).alloc (.cells #[.int .i64 s, .int .i64 r, .int .i64 f, .slice (some ⟨xb, xo, none⟩) xs.length xc] 48)).alloc (.cells #[.int .i64 n, .int .i64 p, .slice a l.length cap] 37) = W := ⟨_, rfl⟩
  have b2 := (((Below.refl w.heap.size w).alloc (Nat.le_refl _) (.cells #[.int .i64 n, .int .i64 p, .slice a l.length cap] 37)).alloc (by simp) (.cells #[.int .i64 s, .int .i64 r, .int .i64 f, .slice (some ⟨xb, xo, none⟩) xs.length xc] 48)).alloc (by simp; omega) (.cells #[.int .i64 n, .int .i64 p, .slice a l.length cap] 37)
  have vD := (Box.new (w.alloc (.cells #[.int .i64 n, .int .i64 p, .slice a l.length cap] 37)) 48 #[.int .i64 s, .int .i64 r, .int .i64 f, .slice (some ⟨xb, xo, none⟩) xs.length xc]).alloc (.cells #[.int .i64 n, .int .i64 p, .slice a l.length cap] 37)
  have vR := Box.new ((w.alloc (.cells #[.int .i64 n, .int .i64 p, .slice a l.length cap] 37)).alloc (.cells #[.int .i64 s, .int .i64 r, .int .i64 f, .slice (some ⟨xb, xo, none⟩) xs.length xc] 48)) 37 #[.int .i64 n, .int .i64 p, .slice a l.length cap]
  rw [show (w.alloc (.cells #[.int .i64 n, .int .i64 p, .slice a l.length cap] 37)).heap.size = w.heap.size + 1 by simp] at vD
  rw [show ((w.alloc (.cells #[.int .i64 n, .int .i64 p, .slice a l.length cap] 37)).alloc (.cells #[.int .i64 s, .int .i64 r, .int .i64 f, .slice (some ⟨xb, xo, none⟩) xs.length xc] 48)).heap.size = w.heap.size + 2 by simp] at vR
  have oS := symRow_below HO.out b2 (Nat.le_refl _)
  rw [hW0] at vD vR oS b2 ⊢
  clear hW0 HO xP xD xR b1 hs1 k0 k1 k2 d0 d1 d2 d3 z0 z1 z2 g0 g1 g2 ho0
  go_loopg [23, 5] xs.length (fun gk s23 s5 wr => ∃ (i : Nat) (q : Option Addr) (qc : Nat), i + gk = xs.length ∧ s23 = .int .i64 (i : Int) ∧ s5 = .bool (freshL n p l f (xs.take i)) ∧ Box wr (w.heap.size + 2) 37 #[.int .i64 n, .int .i64 p, .slice q (putsL n p l f (xs.take i)).length qc] ∧ wr.ownsRow base 79 2 (.slice q (putsL n p l f (xs.take i)).length qc) (putsL n p l f (xs.take i)).length (symCells (putsL n p l f (xs.take i))) ∧ (Value.slice q (putsL n p l f (xs.take i)).length qc).ownBlock ≠ some (w.heap.size + 2) ∧ Box wr (w.heap.size + 1) 48 #[.int .i64 s, .int .i64 r, .int .i64 f, .slice (some ⟨xb, xo, none⟩) xs.length xc] ∧ Below w.heap.size w wr)
  case atStart => exact ⟨0, a, cap, by omega, rfl, rfl, vR, oS, hne0, vD, b2⟩
  case round =>
    clear vR oS hne0 vD b2
    obtain ⟨i, q, qc, hig, rfl, rfl, vR, oS, hne, vD, bw⟩ := hrel
    obtain ⟨L, hL⟩ : ∃ L, putsL n p l f (xs.take i) = L := ⟨_, rfl⟩
    obtain ⟨F, hFq⟩ : ∃ F, freshL n p l f (xs.take i) = F := ⟨_, rfl⟩
    rw [hL] at vR oS hne
    rw [hFq]
    have HL : Hid (putsL n p l f (xs.take i) = L) := hL
    have HF : Hid (freshL n p l f (xs.take i) = F) := hFq
    have HPL : Hid (PileOk n p L) := by have := putsL_ok HP.out HFF.out.1 (fun z hz => HBX.out z (List.mem_of_mem_take (i := i) hz)); rw [hL] at this; exact this
    clear hL hFq
    have hsz := bw.size
    have hlR := vR.lt
    cases gk with
    | zero =>
      have hi : i = xs.length := by omega
      have HE : Hid (putsL n p l f xs = L ∧ freshL n p l f xs = F) := by rw [← HL.out, ← HF.out, hi, List.take_length]; exact ⟨rfl, rfl⟩
      have dlt : decide ((i : Int) < (xs.length : Int)) = false := decide_eq_false (by omega)
      have dltn : decide (i < xs.length) = false := decide_eq_false (by omega)
      clear hi hig
      have z0 := vR.cell 0 _ rfl
      have z1 := vR.cell 1 _ rfl
      have z2 := vR.cell 2 _ rfl
      have g0 := vR.free 0
      have g1 := vR.free 1
      have g2 := vR.free 2
      have bz := ((bw.setCell (p := ⟨w.heap.size + 2, 0, none⟩) (by simp only; omega) (.int .i64 n)).setCell (p := ⟨w.heap.size + 2, 1, none⟩) (by simp only; omega) (.int .i64 p)).setCell (p := ⟨w.heap.size + 2, 2, none⟩) (by simp only; omega) (.slice q L.length qc)
      have oz := ownsRow_setCell_other (ownsRow_setCell_other (ownsRow_setCell_other oS (a := ⟨w.heap.size + 2, 0, none⟩) hne (.int .i64 n)) (a := ⟨w.heap.size + 2, 1, none⟩) hne (.int .i64 p)) (a := ⟨w.heap.size + 2, 2, none⟩) hne (.slice q L.length qc)
      go_wp2
      try rw [Exit.noGoto_exit]
      try go_wp2
      rw [Exit.noGoto_ret]
      exact bodyPost_ret (v := .tuple #[.agg #[.int .i64 n, .int .i64 p, .slice q L.length qc], .bool F, .int .i64 0]) (by simp [results, Tryz.results33, go_sem, z0, z1, z2]) rfl ⟨q, qc, by rw [HE.out.1, HE.out.2], by rw [HE.out.1]; exact oz, bz⟩
    | succ g =>
      have hlt : i < xs.length := by omega
      have dlt : decide ((i : Int) < (xs.length : Int)) = true := decide_eq_true (by omega)
      have dltn : decide (i < xs.length) = true := decide_eq_true hlt
      obtain ⟨v, hv⟩ : ∃ v, xs[i]? = some v := ⟨_, List.getElem?_eq_getElem hlt⟩
      have hvb := HBX.out v (List.mem_of_getElem? hv)
      have cx : wr.cell? ⟨xb, xo + i, none⟩ = some (.int .u8 v) := (bw.cell (p := ⟨xb, xo + i, none⟩) hxb).trans (by have := HXC.out i hlt; rw [hv] at this; exact this)
      have hxlt : xb < wr.heap.size := by omega
      have h64 := HX1.out
      have hff := HFF.out
      obtain ⟨K, hK⟩ : ∃ K, f + (i : Int) = K := ⟨_, rfl⟩
      obtain ⟨I, hI⟩ : ∃ I, i + 1 = I := ⟨_, rfl⟩
      have wA : IntKind.i64.wrap (f + (i : Int)) = K := by rw [IntKind.wrap_i64]; omega
      have wV : IntKind.i64.wrap v = v := by rw [IntKind.wrap_i64]; omega
      have wI : IntKind.i64.wrap ((i : Int) + 1) = (I : Int) := by rw [IntKind.wrap_i64]; omega
      have HPI := Put_in n p K v (by omega) (by omega) hvb.1 hvb.2 q qc L HPL.out wr (syms_of_row oS) (rowCap_of oS)
      have hst := puts_step n p l f hv
      rw [HL.out, HF.out, hK, hI] at hst
      have HST : Hid (putsL n p l f (xs.take I) = putN n p L K v ∧ freshL n p l f (xs.take I) = (F || freshN n p L K)) := hst
      have HKI : Hid (f + (i : Int) = K) := hK
      have HII : Hid (i + 1 = I) := hI
      have HIG : Hid (i + (g + 1) = xs.length) := hig
      clear hst hK hI hig hvb h64 hff hv
      have z0 := vR.cell 0 _ rfl
      have z1 := vR.cell 1 _ rfl
      have z2 := vR.cell 2 _ rfl
      have d0 := vD.cell 0 _ rfl
      have d1 := vD.cell 1 _ rfl
      have d2 := vD.cell 2 _ rfl
      have d3 := vD.cell 3 _ rfl
      go_wp2_with fail
      refine HPI.mono ?_
      rintro e w3 ⟨v3, rfl, o3, b3⟩
      obtain ⟨na, nc, rfl⟩ := symRow_shapeH o3
      obtain ⟨L', hL'⟩ : ∃ L', putN n p L K v = L' := ⟨_, rfl⟩
      rw [hL'] at o3 ⊢
      have HL' : Hid (putN n p L K v = L') := hL'
      have vR3 := vR.next b3
      have vD3 := vD.next b3
      have oS3 := symRow_below oS b3 (Nat.le_refl _)
      have bw3 := bw.trans (b3.mono hsz)
      have hs3 := b3.size
      clear HPI hL' z0 z1 z2 d0 d1 d2 d3 cx wA wV
      go_upto_region 8 with fail
      have bq := (Below.refl w3.heap.size w3).alloc (Nat.le_refl _) (.cells #[.int .i64 n, .int .i64 p, .slice na L'.length nc] 37)
      have vM := Box.new w3 37 #[.int .i64 n, .int .i64 p, .slice na L'.length nc]
      replace vR := vR3.next bq
      replace vD := vD3.next bq
      replace oS := symRow_below oS3 bq (Nat.le_refl _)
      have o4 := symRow_below o3 bq (Nat.le_refl _)
      replace bw := bw3.trans (bq.mono (by omega))
      have hne4 : (Value.slice na L'.length nc).ownBlock ≠ some (w.heap.size + 2) := fun e => by have := (o3.lt _ e).1; omega
      have hDM : w.heap.size + 2 ≠ w3.heap.size := by omega
      generalize hW4 : w3.alloc (.cells #[.int .i64 n, .int .i64 p, .slice na L'.length nc] 37) = W4 at *
      clear hW4 vR3 vD3 oS3 bw3 b3 bq o3
      by_cases hMK : M ≤ K
      · have dK : decide (M ≤ K) = true := decide_eq_true hMK
        have HE : Hid (putsL n p l f xs = L ∧ freshL n p l f xs = F) := by
          have := puts_upto HP.out HFF.out.1 HBX.out (Nat.le_of_lt hlt) (by rw [HM.out, HKI.out]; exact hMK)
          rw [HL.out, HF.out] at this
          exact this
        have z0 := vR.cell 0 _ rfl
        have z1 := vR.cell 1 _ rfl
        have z2 := vR.cell 2 _ rfl
        have g0 := vR.free 0
        have g1 := vR.free 1
        have g2 := vR.free 2
        have bz := ((bw.setCell (p := ⟨w.heap.size + 2, 0, none⟩) (by simp only; omega) (.int .i64 n)).setCell (p := ⟨w.heap.size + 2, 1, none⟩) (by simp only; omega) (.int .i64 p)).setCell (p := ⟨w.heap.size + 2, 2, none⟩) (by simp only; omega) (.slice q L.length qc)
        have oz := ownsRow_setCell_other (ownsRow_setCell_other (ownsRow_setCell_other oS (a := ⟨w.heap.size + 2, 0, none⟩) hne (.int .i64 n)) (a := ⟨w.heap.size + 2, 1, none⟩) hne (.int .i64 p)) (a := ⟨w.heap.size + 2, 2, none⟩) hne (.slice q L.length qc)
        go_wp2
        try rw [Exit.noGoto_exit]
        try go_wp2
        rw [Exit.noGoto_ret]
        exact bodyPost_ret (v := .tuple #[.agg #[.int .i64 n, .int .i64 p, .slice q L.length qc], .bool F, .int .i64 0]) (by simp [results, Tryz.results33, go_sem, z0, z1, z2]) rfl ⟨q, qc, by rw [HE.out.1, HE.out.2], by rw [HE.out.1]; exact oz, bz⟩
      · have dK : decide (M ≤ K) = false := decide_eq_false hMK
        obtain ⟨fr, hfr⟩ : ∃ fr, freshN n p L K = fr := ⟨_, rfl⟩
        have HFR : Hid (freshN n p L K = fr) := hfr
        rw [hfr]
        clear hfr
        cases fr with
        | false =>
          go_wp2
          go_roundg g
          case measure => have := HII.out; have := HIG.out; omega
          case rel =>
            have e1 := HST.out
            rw [putN_stale HPL.out ((stale_iff HPL.out).1 HFR.out), HFR.out, Bool.or_false] at e1
            refine ⟨I, q, qc, by have := HII.out; have := HIG.out; omega, rfl, ?_, ?_, ?_, ?_, vD, bw⟩
            · rw [e1.2]
            · rw [e1.1]; exact vR
            · rw [e1.1]; exact oS
            · rw [e1.1]; exact hne
        | true =>
          have m0 := vM.cell 0 _ rfl
          have m1 := vM.cell 1 _ rfl
          have m2 := vM.cell 2 _ rfl
          have z0 := vR.cell 0 _ rfl
          have z1 := vR.cell 1 _ rfl
          have z2 := vR.cell 2 _ rfl
          have g0 := vR.free 0
          have g1 := vR.free 1
          have g2 := vR.free 2
          have vR5 := vR.set3 (.int .i64 n) (.int .i64 p) (.slice na L'.length nc)
          have vD5 := vD.other3 (D := w.heap.size + 2) (by omega) (.int .i64 n) (.int .i64 p) (.slice na L'.length nc)
          have o5 := symRow_base (ownsRow_setCell_other (ownsRow_setCell_other (ownsRow_setCell_other o4 (a := ⟨w.heap.size + 2, 0, none⟩) hne4 (.int .i64 n)) (a := ⟨w.heap.size + 2, 1, none⟩) hne4 (.int .i64 p)) (a := ⟨w.heap.size + 2, 2, none⟩) hne4 (.slice na L'.length nc)) (show base ≤ _ by have := HBS.out; omega)
          have b5 := ((bw.setCell (p := ⟨w.heap.size + 2, 0, none⟩) (by simp only; omega) (.int .i64 n)).setCell (p := ⟨w.heap.size + 2, 1, none⟩) (by simp only; omega) (.int .i64 p)).setCell (p := ⟨w.heap.size + 2, 2, none⟩) (by simp only; omega) (.slice na L'.length nc)
          clear vR vD oS hne o4
          go_wp2
          go_roundg g
          case measure => have := HII.out; have := HIG.out; omega
          case rel =>
            have e1 := HST.out
            rw [HL'.out, HFR.out, Bool.or_true] at e1
            refine ⟨I, na, nc, by have := HII.out; have := HIG.out; omega, rfl, ?_, ?_, ?_, ?_, vD5, b5⟩
            · rw [e1.2]
            · rw [e1.1]; exact vR5
            · rw [e1.1]; exact o5
            · rw [e1.1]; exact hne4

theorem joinW_twoC (l : List Int) (h : ∀ z ∈ l, 0 ≤ z ∧ z < 16) (hl : l.length ≤ 2) : 0 ≤ joinW 4 l ∧ joinW 4 l ≤ 255 := by
  match l, hl with
  | [], _ => simp [joinW]
  | [a], _ => have := h a (by simp); simp [joinW]; omega
  | [a, b], _ => have := h a (by simp); have := h b (by simp); simp [joinW]; omega
theorem wholes_bdC {ps : List Int} (h : ∀ z ∈ ps, 0 ≤ z ∧ z < 16) (k : Nat) : ∀ z ∈ wholesOf 4 2 ps k, 0 ≤ z ∧ z ≤ 255 := fun z hz => by
  unfold wholesOf at hz
  obtain ⟨i, _, rfl⟩ := List.mem_map.1 hz
  exact joinW_twoC _ (fun y hy => h y (List.mem_of_mem_drop (List.mem_of_mem_take hy))) (by rw [List.length_take]; omega)
/-- What a pile tells, if it is a block of that number. -/
def tolB (c : Cfg) (g : Hr) : Option (List Int) := match toldL g.hN.toNat g.hL c.cBeam.toNat (c.cDepth - 1).toNat with
  | none => none
  | some ps => if blockB c g.hS (joinH ps) = true then some (joinH ps) else none
theorem tolB_none {c : Cfg} {g : Hr} (h : toldL g.hN.toNat g.hL c.cBeam.toNat (c.cDepth - 1).toNat = none) : tolB c g = none := by unfold tolB; rw [h]
theorem tolB_some {c : Cfg} {g : Hr} {ps : List Int} (h : toldL g.hN.toNat g.hL c.cBeam.toNat (c.cDepth - 1).toNat = some ps) : tolB c g = if blockB c g.hS (joinH ps) = true then some (joinH ps) else none := by unfold tolB; rw [h]
theorem gotH_tol {c : Cfg} {h : Hr} {r f : Int} {xs : List Int} (hf : freshL h.hN h.hP (flushH h r) f xs = true) : gotH c h r f xs = tolB c (stayH h r f xs) := by
  unfold gotH tolB
  rw [if_pos hf]
  rfl

set_option maxRecDepth 100000 in
set_option maxHeartbeats 4000000 in
theorem tell_ok (c : Cfg) (hC : okC c = true) (g : Hr) (hN : g.hN = segsC c) (hp : PileOk g.hN g.hP g.hL) (a b : Option Addr) (cap bc : Nat) (w : World) (ha : Syms w.heap.size w (.slice a g.hL.length cap) g.hL) (hF : Firsts w) :
    Calls Tryz.prog 34 #[.agg #[.int .i64 c.cB, .int .i64 c.cBeam, .int .i64 c.cDepth, .int .i64 c.cWin, .int .i64 c.cQs, .int .i64 c.cQr, .int .i64 c.cBatch, .int .i64 c.cPass, .int .i64 c.cMsg, .int .i64 c.cSeqs], .agg #[.int .i64 g.hS, .int .i64 g.hR, .int .i64 g.hN, .int .i64 g.hP, .slice a g.hL.length cap, .bool g.hD, .slice b g.hB.length bc]] w fun e W' => ((tolB c g = none ∧ e = .returned (.tuple #[.slice none 0 0, .bool false])) ∨ ∃ zs, tolB c g = some zs ∧ ∃ qa qc, e = .returned (.tuple #[.slice qa zs.length qc, .bool true]) ∧ W'.ownsRow w.heap.size 5 1 (.slice qa zs.length qc) zs.length (zs.map (Value.int .u8)) ∧ (∀ z ∈ zs, 0 ≤ z ∧ z ≤ 255)) ∧ Below w.heap.size w W' := by
  have hsb := segsC_bd hC
  have hbe := ((okC_iff c).1 hC).2.1
  have hde := ((okC_iff c).1 hC).2.2.1
  have hN2 : g.hN.toNat = 2 * (g.hN.toNat / 2) := by unfold segsC at hN; omega
  obtain ⟨b1, xC, xH⟩ := pre2 w #[.int .i64 c.cB, .int .i64 c.cBeam, .int .i64 c.cDepth, .int .i64 c.cWin, .int .i64 c.cQs, .int .i64 c.cQr, .int .i64 c.cBatch, .int .i64 c.cPass, .int .i64 c.cMsg, .int .i64 c.cSeqs] 23 #[.int .i64 g.hS, .int .i64 g.hR, .int .i64 g.hN, .int .i64 g.hP, .slice a g.hL.length cap, .bool g.hD, .slice b g.hB.length bc] 39
  have HD := Decode_ok g.hN.toNat g.hP a cap g.hL (by rw [Int.toNat_of_nonneg (by omega)]; exact hp) c.cBeam.toNat (by omega) (by omega) (c.cDepth - 1).toNat (by omega) _ (ha.next b1) (hF.next b1)
  rw [Int.toNat_of_nonneg (show 0 ≤ g.hN by omega), Int.toNat_of_nonneg (show 0 ≤ c.cBeam by omega), show (((c.cDepth - 1).toNat + 1 : Nat) : Int) = c.cDepth by omega] at HD
  have HT : Hid (∀ O, decB (walkB g.hN.toNat g.hL c.cBeam.toNat (c.cDepth - 1).toNat g.hN.toNat).1 (walkB g.hN.toNat g.hL c.cBeam.toNat (c.cDepth - 1).toNat g.hN.toNat).2 = O → toldL g.hN.toNat g.hL c.cBeam.toNat (c.cDepth - 1).toNat = O.map fun x => x.1) := fun O h => by unfold toldL; rw [h]
  obtain ⟨OD, hOD⟩ : ∃ O, decB (walkB g.hN.toNat g.hL c.cBeam.toNat (c.cDepth - 1).toNat g.hN.toNat).1 (walkB g.hN.toNat g.hL c.cBeam.toNat (c.cDepth - 1).toNat g.hN.toNat).2 = O := ⟨_, rfl⟩
  rw [hOD] at HD
  have HTO : Hid (toldL g.hN.toNat g.hL c.cBeam.toNat (c.cDepth - 1).toNat = OD.map fun x => x.1) := HT.out OD hOD
  have HPT : Hid (∀ ps, toldL g.hN.toNat g.hL c.cBeam.toNat (c.cDepth - 1).toNat = some ps → ps.length = g.hN.toNat ∧ Nibs ps) := fun ps h => toldL_path (by omega) (by omega) h
  have HC : Hid (okC c = true) := hC
  have HN2 : Hid (g.hN.toNat = 2 * (g.hN.toNat / 2) ∧ g.hN.toNat ≤ 64) := ⟨hN2, by omega⟩
  clear HT hOD hsb hbe hde hN hp ha hF hC hN2
  have k0 := xC.cell 0 _ rfl
  have k1 := xC.cell 1 _ rfl
  have k2 := xC.cell 2 _ rfl
  have k3 := xC.cell 3 _ rfl
  have k4 := xC.cell 4 _ rfl
  have k5 := xC.cell 5 _ rfl
  have k6 := xC.cell 6 _ rfl
  have k7 := xC.cell 7 _ rfl
  have k8 := xC.cell 8 _ rfl
  have k9 := xC.cell 9 _ rfl
  have m0 := xH.cell 0 _ rfl
  have m1 := xH.cell 1 _ rfl
  have m2 := xH.cell 2 _ rfl
  have m3 := xH.cell 3 _ rfl
  have m4 := xH.cell 4 _ rfl
  have m5 := xH.cell 5 _ rfl
  have m6 := xH.cell 6 _ rfl
  go_enter Tryz.func34, Tryz.ntmps34
  go_wp2_with fail
  refine HD.mono ?_
  rintro e w2 ⟨hres, b2⟩
  have b3 := b1.trans (b2.mono b1.size)
  rcases hres with ⟨hnone, rfl⟩ | ⟨ps, M, hsome, qa, qc, rfl, hqc, hq⟩
  · clear HD xC xH b1 b2
    have HNO : Hid (OD = none) := hnone
    clear hnone
    go_wp2
    go_ret2
    exact ⟨.inl ⟨tolB_none (by rw [HTO.out, HNO.out]; rfl), rfl⟩, b3⟩
  · have ht : toldL g.hN.toNat g.hL c.cBeam.toNat (c.cDepth - 1).toNat = some ps := by rw [HTO.out, hsome]; rfl
    obtain ⟨hpl, hpn⟩ := HPT.out ps ht
    have hN3 := HN2.out
    have HJ := join_ok qa qc ps (ps.length / 2) (by omega) (by omega) hqc hpn w2 hq
    obtain ⟨J, hJ⟩ : ∃ J, joinH ps = J := ⟨_, rfl⟩
    have hJl : ps.length / 2 = J.length := by rw [← hJ]; exact (wholesOf_len _ _ _ _).symm
    have hJ2 : wholesOf 4 2 ps J.length = J := by rw [← hJl]; exact hJ
    have hJb : ∀ z ∈ J, 0 ≤ z ∧ z ≤ 255 := by rw [← hJ]; exact wholes_bdC hpn _
    rw [hJl, hJ2] at HJ
    have HTB : Hid (tolB c g = if blockB c g.hS J = true then some J else none) := by
      have := tolB_some ht
      rw [hJ] at this
      exact this
    have hJ4 : J.length ≤ 4096 := by omega
    have yC := xC.next b2
    have yH := xH.next b2
    clear HD xC xH b1 b2 HPT HTO HN2 hN3 hJ2 hJl hJ hpl hpn ht hq hqc hsome
    clear k0 k1 k2 k3 k4 k5 k6 k7 k8 k9 m0 m1 m2 m3 m4 m5 m6
    go_wp2_with fail
    refine HJ.mono ?_
    rintro e w4 ⟨v4, rfl, o4, b4⟩
    obtain ⟨ja, jc, rfl⟩ := row_shapeH o4
    have HI := isBlock_any c HC.out g.hS ja jc J hJ4 (row_cap1 o4) hJb w4 (holds_of_row o4)
    replace yC := yC.next b4
    replace yH := yH.next b4
    have b5 := b3.trans (b4.mono b3.size)
    have HJB : Hid (∀ z ∈ J, 0 ≤ z ∧ z ≤ 255) := hJb
    clear HJ b4 hJb hJ4
    have k0 := yC.cell 0 _ rfl
    have k1 := yC.cell 1 _ rfl
    have k2 := yC.cell 2 _ rfl
    have k3 := yC.cell 3 _ rfl
    have k4 := yC.cell 4 _ rfl
    have k5 := yC.cell 5 _ rfl
    have k6 := yC.cell 6 _ rfl
    have k7 := yC.cell 7 _ rfl
    have k8 := yC.cell 8 _ rfl
    have k9 := yC.cell 9 _ rfl
    have m0 := yH.cell 0 _ rfl
    have m1 := yH.cell 1 _ rfl
    have m2 := yH.cell 2 _ rfl
    have m3 := yH.cell 3 _ rfl
    have m4 := yH.cell 4 _ rfl
    have m5 := yH.cell 5 _ rfl
    have m6 := yH.cell 6 _ rfl
    go_wp2_with fail
    refine HI.mono ?_
    rintro e w6 ⟨rfl, b6⟩
    have b7 := b5.trans (b6.mono b5.size)
    have o7 := row_base (row_below o4 b6 (Nat.le_refl _)) b3.size
    have HO7 : Hid _ := o7
    obtain ⟨B, hB⟩ : ∃ B, blockB c g.hS J = B := ⟨_, rfl⟩
    have HT2 : Hid (tolB c g = if B = true then some J else none) := by have := HTB.out; rw [hB] at this; exact this
    rw [hB]
    clear hB HTB HI b6 o4 o7 yC yH k0 k1 k2 k3 k4 k5 k6 k7 k8 k9 m0 m1 m2 m3 m4 m5 m6
    cases B with
    | false =>
      go_wp2
      go_ret2
      exact ⟨.inl ⟨by simpa using HT2.out, rfl⟩, b7⟩
    | true =>
      go_wp2
      go_ret2
      exact ⟨.inr ⟨J, by simpa using HT2.out, ja, jc, rfl, HO7.out, HJB.out⟩, b7⟩

set_option maxRecDepth 100000 in
set_option maxHeartbeats 8000000 in
theorem hearTake_done (c : Cfg) (h : Hr) (r : Int) (f : Int) (xs : List Int) (hC : okC c = true) (hk : okH c h) (hD : RightD h.hS r f xs) (hd : h.hD = true) (a b : Option Addr) (cap bc : Nat) (x : Option Addr) (xc : Nat) (w : World) (ha : HearAt w h a cap b bc) (hx : Holds .u8 w.heap.size w (.slice x xs.length xc) xs) (_bx : ∀ z ∈ xs, 0 ≤ z ∧ z ≤ 255) (_hF : Firsts w) :
    Calls Tryz.prog 15 #[.agg #[.int .i64 c.cB, .int .i64 c.cBeam, .int .i64 c.cDepth, .int .i64 c.cWin, .int .i64 c.cQs, .int .i64 c.cQr, .int .i64 c.cBatch, .int .i64 c.cPass, .int .i64 c.cMsg, .int .i64 c.cSeqs], .agg #[.int .i64 h.hS, .int .i64 h.hR, .int .i64 h.hN, .int .i64 h.hP, .slice a h.hL.length cap, .bool true, .slice b h.hB.length bc], .agg #[.int .i64 h.hS, .int .i64 r, .int .i64 f, .slice x xs.length xc]] w fun e W' => ∃ a' cap' b' bc', e = .returned (.tuple #[.agg #[.int .i64 h.hS, .int .i64 h.hR, .int .i64 h.hN, .int .i64 h.hP, .slice a' h.hL.length cap', .bool true, .slice b' h.hB.length bc'], .bool false, .int .i64 0]) ∧ OwnHear w.heap.size W' h a' cap' b' bc' ∧ Below w.heap.size w W' := by
  obtain ⟨hl, hb⟩ := okH_lens hC hk
  obtain ⟨b1, xC, xH, xD, xN, hs1⟩ := pre4 w #[.int .i64 c.cB, .int .i64 c.cBeam, .int .i64 c.cDepth, .int .i64 c.cWin, .int .i64 c.cQs, .int .i64 c.cQr, .int .i64 c.cBatch, .int .i64 c.cPass, .int .i64 c.cMsg, .int .i64 c.cSeqs] 23 #[.int .i64 h.hS, .int .i64 h.hR, .int .i64 h.hN, .int .i64 h.hP, .slice a h.hL.length cap, .bool true, .slice b h.hB.length bc] 39 #[.int .i64 h.hS, .int .i64 r, .int .i64 f, .slice x xs.length xc] 48 #[.int .i64 0, .int .i64 0, .int .i64 0, .int .i64 0, .slice none 0 0, .bool false, .slice none 0 0] 39
  have HK := HearCheck_ok c h hC hk a b cap bc _ (ha.next b1)
  rw [hd] at HK
  have HA : Hid (HearAt w h a cap b bc) := ha
  have HX : Hid (Holds .u8 w.heap.size w (.slice x xs.length xc) xs) := hx
  have HR : Hid (RightD h.hS r f xs) := hD
  have HAP : Hid (∀ wx : World, HearAt wx h a cap b bc → Calls Tryz.prog 32 #[.agg #[.int .i64 h.hS, .int .i64 h.hR, .int .i64 h.hN, .int .i64 h.hP, .slice a h.hL.length cap, .bool true, .slice b h.hB.length bc]] wx fun e W' => ∃ a' cap' b' bc', e = .returned (.agg #[.int .i64 h.hS, .int .i64 h.hR, .int .i64 h.hN, .int .i64 h.hP, .slice a' h.hL.length cap', .bool true, .slice b' h.hB.length bc']) ∧ OwnHear wx.heap.size W' h a' cap' b' bc' ∧ Below wx.heap.size wx W') := fun wx hh => by
    have := apartH_ok h a b cap bc hl hb wx hh
    rw [hd] at this
    exact this
  skip
  clear hl hb hC hk hD hd ha hx
  have k0 := xC.cell 0 _ rfl
  have k1 := xC.cell 1 _ rfl
  have k2 := xC.cell 2 _ rfl
  have k3 := xC.cell 3 _ rfl
  have k4 := xC.cell 4 _ rfl
  have k5 := xC.cell 5 _ rfl
  have k6 := xC.cell 6 _ rfl
  have k7 := xC.cell 7 _ rfl
  have k8 := xC.cell 8 _ rfl
  have k9 := xC.cell 9 _ rfl
  have m0 := xH.cell 0 _ rfl
  have m1 := xH.cell 1 _ rfl
  have m2 := xH.cell 2 _ rfl
  have m3 := xH.cell 3 _ rfl
  have m4 := xH.cell 4 _ rfl
  have m5 := xH.cell 5 _ rfl
  have m6 := xH.cell 6 _ rfl
  go_enter Tryz.func15, Tryz.ntmps15
  go_wp2_with fail
  refine HK.mono ?_
  rintro e w2 ⟨rfl, b2⟩
  have yC := xC.next b2
  have yH := xH.next b2
  have yD := xD.next b2
  have yN := xN.next b2
  have b3 := b1.trans (b2.mono b1.size)
  have hs2 : w.heap.size + 4 ≤ w2.heap.size := Nat.le_trans hs1 b2.size
  have HM := DataMake_at h.hS r f x xs.length xc xs rfl HR.out w2 (HX.out.next b3)
  clear HK xC xH xD xN b1 b2 hs1 HR k0 k1 k2 k3 k4 k5 k6 k7 k8 k9 m0 m1 m2 m3 m4 m5 m6
  have d0 := yD.cell 0 _ rfl
  have d1 := yD.cell 1 _ rfl
  have d2 := yD.cell 2 _ rfl
  have d3 := yD.cell 3 _ rfl
  go_wp2_with fail
  refine HM.mono ?_
  rintro e w4 ⟨q, rfl, _, b4⟩
  replace yC := yC.next b4
  replace yH := yH.next b4
  replace yD := yD.next b4
  replace yN := yN.next b4
  have b5 := b3.trans (b4.mono b3.size)
  have hs4 : w.heap.size + 4 ≤ w4.heap.size := Nat.le_trans hs2 b4.size
  clear HM b3 b4 hs2 d0 d1 d2 d3
  have d0 := yD.cell 0 _ rfl
  have m0 := yH.cell 0 _ rfl
  have m1 := yH.cell 1 _ rfl
  have m2 := yH.cell 2 _ rfl
  have m3 := yH.cell 3 _ rfl
  have m4 := yH.cell 4 _ rfl
  have m5 := yH.cell 5 _ rfl
  have m6 := yH.cell 6 _ rfl
  go_wp2_with fail
  refine (HAP.out _ (HA.out.next b5)).mono ?_
  rintro e w6 ⟨ar, cr, br, dr, rfl, o6, b6⟩
  replace yC := yC.next b6
  replace yD := yD.next b6
  replace yN := yN.next b6
  have b7 := b5.trans (b6.mono b5.size)
  have hs6 : w.heap.size + 4 ≤ w6.heap.size := Nat.le_trans hs4 b6.size
  have hq4 : w4.heap.size ≤ w6.heap.size := b6.size
  clear HAP HA yH b5 b6 d0 m0 m1 m2 m3 m4 m5 m6
  have z0 := yN.cell 0 _ rfl
  have z1 := yN.cell 1 _ rfl
  have z2 := yN.cell 2 _ rfl
  have z3 := yN.cell 3 _ rfl
  have z4 := yN.cell 4 _ rfl
  have z5 := yN.cell 5 _ rfl
  have z6 := yN.cell 6 _ rfl
  have g0 := yN.free 0
  have g1 := yN.free 1
  have g2 := yN.free 2
  have g3 := yN.free 3
  have g4 := yN.free 4
  have g5 := yN.free 5
  have g6 := yN.free 6
  have hlN := yN.lt
  go_upto_region 8 with fail
  obtain ⟨W7, hW7⟩ : ∃ W, ((((((w6.setCell ⟨w.heap.size + 3, 0, none⟩ (.int .i64 h.hS)).setCell ⟨w.heap.size + 3, 1, none⟩ (.int .i64 h.hR)).setCell ⟨w.heap.size + 3, 2, none⟩ (.int .i64 h.hN)).setCell ⟨w.heap.size + 3, 3, none⟩ (.int .i64 h.hP)).setCell ⟨w.heap.size + 3, 4, none⟩ (.slice ar h.hL.length cr)).setCell ⟨w.heap.size + 3, 5, none⟩ (.bool true)).setCell ⟨w.heap.size + 3, 6, none⟩ (.slice br h.hB.length dr) = W := ⟨_, rfl⟩
  have vC := yC.other7c (D := w.heap.size + 3) (by omega) (.int .i64 h.hS) (.int .i64 h.hR) (.int .i64 h.hN) (.int .i64 h.hP) (.slice ar h.hL.length cr) (.bool true) (.slice br h.hB.length dr)
  have vD := yD.other7c (D := w.heap.size + 3) (by omega) (.int .i64 h.hS) (.int .i64 h.hR) (.int .i64 h.hN) (.int .i64 h.hP) (.slice ar h.hL.length cr) (.bool true) (.slice br h.hB.length dr)
  have vN := yN.set7c (.int .i64 h.hS) (.int .i64 h.hR) (.int .i64 h.hN) (.int .i64 h.hP) (.slice ar h.hL.length cr) (.bool true) (.slice br h.hB.length dr)
  have oS := row_set7c o6.syms (D := w.heap.size + 3) (by omega) (.int .i64 h.hS) (.int .i64 h.hR) (.int .i64 h.hN) (.int .i64 h.hP) (.slice ar h.hL.length cr) (.bool true) (.slice br h.hB.length dr)
  have oB := row_set7c o6.byts (D := w.heap.size + 3) (by omega) (.int .i64 h.hS) (.int .i64 h.hR) (.int .i64 h.hN) (.int .i64 h.hP) (.slice ar h.hL.length cr) (.bool true) (.slice br h.hB.length dr)
  have hby : Hid (∀ z ∈ h.hB, 0 ≤ z ∧ z ≤ 255) := o6.byte
  have b8 := below_set7c b7 (D := w.heap.size + 3) (by omega) (.int .i64 h.hS) (.int .i64 h.hR) (.int .i64 h.hN) (.int .i64 h.hP) (.slice ar h.hL.length cr) (.bool true) (.slice br h.hB.length dr)
  have hz7 : w6.heap.size = W7.heap.size := by rw [← hW7]; simp
  rw [hW7] at vC vD vN oS oB b8 ⊢
  rw [hz7] at hs6 hq4
  clear hW7 hz7 yC yD yN o6 b7 hlN z0 g0 z1 g1 z2 g2 z3 g3 z4 g4 z5 g5 z6 g6
  have z0 := vN.cell 0 _ rfl
  have z1 := vN.cell 1 _ rfl
  have z2 := vN.cell 2 _ rfl
  have z3 := vN.cell 3 _ rfl
  have z4 := vN.cell 4 _ rfl
  have z5 := vN.cell 5 _ rfl
  have z6 := vN.cell 6 _ rfl
  have g0 := vN.free 0
  have g1 := vN.free 1
  have g2 := vN.free 2
  have g3 := vN.free 3
  have g4 := vN.free 4
  have g5 := vN.free 5
  have g6 := vN.free 6
  have bz := below_set7c b8 (D := w.heap.size + 3) (by omega) (.int .i64 h.hS) (.int .i64 h.hR) (.int .i64 h.hN) (.int .i64 h.hP) (.slice ar h.hL.length cr) (.bool true) (.slice br h.hB.length dr)
  have os := symRow_base (row_set7c oS (D := w.heap.size + 3) (by omega) (.int .i64 h.hS) (.int .i64 h.hR) (.int .i64 h.hN) (.int .i64 h.hP) (.slice ar h.hL.length cr) (.bool true) (.slice br h.hB.length dr)) (show w.heap.size ≤ _ by omega)
  have ob := row_base (row_set7c oB (D := w.heap.size + 3) (by omega) (.int .i64 h.hS) (.int .i64 h.hR) (.int .i64 h.hN) (.int .i64 h.hP) (.slice ar h.hL.length cr) (.bool true) (.slice br h.hB.length dr)) (show w.heap.size ≤ _ by omega)
  go_wp2
  exact bodyPost_ret (v := .tuple #[.agg #[.int .i64 h.hS, .int .i64 h.hR, .int .i64 h.hN, .int .i64 h.hP, .slice ar h.hL.length cr, .bool true, .slice br h.hB.length dr], .bool false, .int .i64 0]) (by simp [results, Tryz.results15, go_sem, z0, z1, z2, z3, z4, z5, z6]) rfl ⟨ar, cr, br, dr, rfl, ⟨os, ob, hby.out⟩, bz⟩

set_option maxRecDepth 100000 in
set_option maxHeartbeats 8000000 in
theorem hearTake_staleS (c : Cfg) (h : Hr) (f : Int) (xs : List Int) (hC : okC c = true) (hk : okH c h) (hD : RightD h.hS h.hR f xs) (hd : h.hD = false) (hfr : freshL h.hN h.hP (flushH h h.hR) f xs = false) (a b : Option Addr) (cap bc : Nat) (x : Option Addr) (xc : Nat) (w : World) (ha : HearAt w h a cap b bc) (hx : Holds .u8 w.heap.size w (.slice x xs.length xc) xs) (bx : ∀ z ∈ xs, 0 ≤ z ∧ z ≤ 255) (hF : Firsts w) :
    Calls Tryz.prog 15 #[.agg #[.int .i64 c.cB, .int .i64 c.cBeam, .int .i64 c.cDepth, .int .i64 c.cWin, .int .i64 c.cQs, .int .i64 c.cQr, .int .i64 c.cBatch, .int .i64 c.cPass, .int .i64 c.cMsg, .int .i64 c.cSeqs], .agg #[.int .i64 h.hS, .int .i64 h.hR, .int .i64 h.hN, .int .i64 h.hP, .slice a h.hL.length cap, .bool false, .slice b h.hB.length bc], .agg #[.int .i64 h.hS, .int .i64 h.hR, .int .i64 f, .slice x xs.length xc]] w fun e W' => ∃ a' cap' b' bc', e = .returned (.tuple #[.agg #[.int .i64 h.hS, .int .i64 h.hR, .int .i64 h.hN, .int .i64 h.hP, .slice a' (pileH h h.hR f xs).length cap', .bool false, .slice b' h.hB.length bc'], .bool false, .int .i64 0]) ∧ OwnHear w.heap.size W' (stayH h h.hR f xs) a' cap' b' bc' ∧ Below w.heap.size w W' := by
  obtain ⟨hl, hb⟩ := okH_lens hC hk
  obtain ⟨b1, xC, xH, xD, xN, hs1⟩ := pre4 w #[.int .i64 c.cB, .int .i64 c.cBeam, .int .i64 c.cDepth, .int .i64 c.cWin, .int .i64 c.cQs, .int .i64 c.cQr, .int .i64 c.cBatch, .int .i64 c.cPass, .int .i64 c.cMsg, .int .i64 c.cSeqs] 23 #[.int .i64 h.hS, .int .i64 h.hR, .int .i64 h.hN, .int .i64 h.hP, .slice a h.hL.length cap, .bool false, .slice b h.hB.length bc] 39 #[.int .i64 h.hS, .int .i64 h.hR, .int .i64 f, .slice x xs.length xc] 48 #[.int .i64 0, .int .i64 0, .int .i64 0, .int .i64 0, .slice none 0 0, .bool false, .slice none 0 0] 39
  have HK := HearCheck_ok c h hC hk a b cap bc _ (ha.next b1)
  rw [hd] at HK
  have HA : Hid (HearAt w h a cap b bc) := ha
  have HX : Hid (Holds .u8 w.heap.size w (.slice x xs.length xc) xs) := hx
  have HR : Hid (RightD h.hS h.hR f xs) := hD
  have HAP : Hid (∀ wx : World, HearAt wx h a cap b bc → Calls Tryz.prog 32 #[.agg #[.int .i64 h.hS, .int .i64 h.hR, .int .i64 h.hN, .int .i64 h.hP, .slice a h.hL.length cap, .bool false, .slice b h.hB.length bc]] wx fun e W' => ∃ a' cap' b' bc', e = .returned (.agg #[.int .i64 h.hS, .int .i64 h.hR, .int .i64 h.hN, .int .i64 h.hP, .slice a' h.hL.length cap', .bool false, .slice b' h.hB.length bc']) ∧ OwnHear wx.heap.size W' h a' cap' b' bc' ∧ Below wx.heap.size wx W') := fun wx hh => by
    have := apartH_ok h a b cap bc hl hb wx hh
    rw [hd] at this
    exact this
  have HPO : Hid (PileOk h.hN h.hP (flushH h h.hR)) := flushH_ok hk h.hR
  have HFF : Hid (0 ≤ f ∧ f ≤ 65535) := hD.2.2.1
  have HX1 : Hid (xs.length ≤ 64) := hD.2.2.2.2
  have HX0 : Hid (1 ≤ xs.length) := hD.2.2.2.1
  have HBX : Hid (∀ z ∈ xs, 0 ≤ z ∧ z ≤ 255) := bx
  obtain ⟨P, hPq⟩ : ∃ P, putsL h.hN h.hP (flushH h h.hR) f xs = P := ⟨_, rfl⟩
  obtain ⟨F, hFq⟩ : ∃ F, (flushH h h.hR) = F := ⟨_, rfl⟩
  have HPA : Hid (∀ (a : Option Addr) (cap base : Nat) (wx : World), base ≤ wx.heap.size → wx.ownsRow base 79 2 (.slice a F.length cap) F.length (symCells F) → Holds .u8 wx.heap.size wx (.slice x xs.length xc) xs → Calls Tryz.prog 33 #[.agg #[.int .i64 h.hN, .int .i64 h.hP, .slice a F.length cap], .agg #[.int .i64 h.hS, .int .i64 h.hR, .int .i64 f, .slice x xs.length xc]] wx fun e W' => ∃ a' cap', e = .returned (.tuple #[.agg #[.int .i64 h.hN, .int .i64 h.hP, .slice a' P.length cap'], .bool false, .int .i64 0]) ∧ W'.ownsRow base 79 2 (.slice a' P.length cap') P.length (symCells P) ∧ Below wx.heap.size wx W') := fun a cap base wx h1 h2 h3 => by
    rw [hFq] at hPq hfr HPO
    have := putAll_ok h.hN h.hP F HPO.out a cap h.hS h.hR f HFF.out xs HX0.out HX1.out HBX.out x xc base wx h1 h2 h3
    rw [hPq, hfr] at this
    exact this
  have HFL : Hid (F = h.hL) := by have : (flushH h h.hR) = h.hL := if_pos rfl; rw [← hFq]; exact this
  have HPP : Hid (pileH h h.hR f xs = P) := hPq
  have HFR : Hid (Firsts w) := hF
  clear HPO HFF HX0 HX1 HBX hPq hFq hfr bx hF
  clear hl hb hC hk hD hd ha hx
  have k0 := xC.cell 0 _ rfl
  have k1 := xC.cell 1 _ rfl
  have k2 := xC.cell 2 _ rfl
  have k3 := xC.cell 3 _ rfl
  have k4 := xC.cell 4 _ rfl
  have k5 := xC.cell 5 _ rfl
  have k6 := xC.cell 6 _ rfl
  have k7 := xC.cell 7 _ rfl
  have k8 := xC.cell 8 _ rfl
  have k9 := xC.cell 9 _ rfl
  have m0 := xH.cell 0 _ rfl
  have m1 := xH.cell 1 _ rfl
  have m2 := xH.cell 2 _ rfl
  have m3 := xH.cell 3 _ rfl
  have m4 := xH.cell 4 _ rfl
  have m5 := xH.cell 5 _ rfl
  have m6 := xH.cell 6 _ rfl
  go_enter Tryz.func15, Tryz.ntmps15
  go_wp2_with fail
  refine HK.mono ?_
  rintro e w2 ⟨rfl, b2⟩
  have yC := xC.next b2
  have yH := xH.next b2
  have yD := xD.next b2
  have yN := xN.next b2
  have b3 := b1.trans (b2.mono b1.size)
  have hs2 : w.heap.size + 4 ≤ w2.heap.size := Nat.le_trans hs1 b2.size
  have HM := DataMake_at h.hS h.hR f x xs.length xc xs rfl HR.out w2 (HX.out.next b3)
  clear HK xC xH xD xN b1 b2 hs1 HR k0 k1 k2 k3 k4 k5 k6 k7 k8 k9 m0 m1 m2 m3 m4 m5 m6
  have d0 := yD.cell 0 _ rfl
  have d1 := yD.cell 1 _ rfl
  have d2 := yD.cell 2 _ rfl
  have d3 := yD.cell 3 _ rfl
  go_wp2_with fail
  refine HM.mono ?_
  rintro e w4 ⟨q, rfl, _, b4⟩
  replace yC := yC.next b4
  replace yH := yH.next b4
  replace yD := yD.next b4
  replace yN := yN.next b4
  have b5 := b3.trans (b4.mono b3.size)
  have hs4 : w.heap.size + 4 ≤ w4.heap.size := Nat.le_trans hs2 b4.size
  clear HM b3 b4 hs2 d0 d1 d2 d3
  have d0 := yD.cell 0 _ rfl
  have m0 := yH.cell 0 _ rfl
  have m1 := yH.cell 1 _ rfl
  have m2 := yH.cell 2 _ rfl
  have m3 := yH.cell 3 _ rfl
  have m4 := yH.cell 4 _ rfl
  have m5 := yH.cell 5 _ rfl
  have m6 := yH.cell 6 _ rfl
  go_wp2_with fail
  refine (HAP.out _ (HA.out.next b5)).mono ?_
  rintro e w6 ⟨ar, cr, br, dr, rfl, o6, b6⟩
  replace yC := yC.next b6
  replace yD := yD.next b6
  replace yN := yN.next b6
  have b7 := b5.trans (b6.mono b5.size)
  have hs6 : w.heap.size + 4 ≤ w6.heap.size := Nat.le_trans hs4 b6.size
  have hq4 : w4.heap.size ≤ w6.heap.size := b6.size
  clear HAP HA yH b5 b6 d0 m0 m1 m2 m3 m4 m5 m6
  have z0 := yN.cell 0 _ rfl
  have z1 := yN.cell 1 _ rfl
  have z2 := yN.cell 2 _ rfl
  have z3 := yN.cell 3 _ rfl
  have z4 := yN.cell 4 _ rfl
  have z5 := yN.cell 5 _ rfl
  have z6 := yN.cell 6 _ rfl
  have g0 := yN.free 0
  have g1 := yN.free 1
  have g2 := yN.free 2
  have g3 := yN.free 3
  have g4 := yN.free 4
  have g5 := yN.free 5
  have g6 := yN.free 6
  have hlN := yN.lt
  go_upto_region 8 with fail
  obtain ⟨W7, hW7⟩ : ∃ W, ((((((w6.setCell ⟨w.heap.size + 3, 0, none⟩ (.int .i64 h.hS)).setCell ⟨w.heap.size + 3, 1, none⟩ (.int .i64 h.hR)).setCell ⟨w.heap.size + 3, 2, none⟩ (.int .i64 h.hN)).setCell ⟨w.heap.size + 3, 3, none⟩ (.int .i64 h.hP)).setCell ⟨w.heap.size + 3, 4, none⟩ (.slice ar h.hL.length cr)).setCell ⟨w.heap.size + 3, 5, none⟩ (.bool false)).setCell ⟨w.heap.size + 3, 6, none⟩ (.slice br h.hB.length dr) = W := ⟨_, rfl⟩
  have vC := yC.other7c (D := w.heap.size + 3) (by omega) (.int .i64 h.hS) (.int .i64 h.hR) (.int .i64 h.hN) (.int .i64 h.hP) (.slice ar h.hL.length cr) (.bool false) (.slice br h.hB.length dr)
  have vD := yD.other7c (D := w.heap.size + 3) (by omega) (.int .i64 h.hS) (.int .i64 h.hR) (.int .i64 h.hN) (.int .i64 h.hP) (.slice ar h.hL.length cr) (.bool false) (.slice br h.hB.length dr)
  have vN := yN.set7c (.int .i64 h.hS) (.int .i64 h.hR) (.int .i64 h.hN) (.int .i64 h.hP) (.slice ar h.hL.length cr) (.bool false) (.slice br h.hB.length dr)
  have oS := row_set7c o6.syms (D := w.heap.size + 3) (by omega) (.int .i64 h.hS) (.int .i64 h.hR) (.int .i64 h.hN) (.int .i64 h.hP) (.slice ar h.hL.length cr) (.bool false) (.slice br h.hB.length dr)
  have oB := row_set7c o6.byts (D := w.heap.size + 3) (by omega) (.int .i64 h.hS) (.int .i64 h.hR) (.int .i64 h.hN) (.int .i64 h.hP) (.slice ar h.hL.length cr) (.bool false) (.slice br h.hB.length dr)
  have hby : Hid (∀ z ∈ h.hB, 0 ≤ z ∧ z ≤ 255) := o6.byte
  have b8 := below_set7c b7 (D := w.heap.size + 3) (by omega) (.int .i64 h.hS) (.int .i64 h.hR) (.int .i64 h.hN) (.int .i64 h.hP) (.slice ar h.hL.length cr) (.bool false) (.slice br h.hB.length dr)
  have hz7 : w6.heap.size = W7.heap.size := by rw [← hW7]; simp
  rw [hW7] at vC vD vN oS oB b8 ⊢
  rw [hz7] at hs6 hq4
  clear hW7 hz7 yC yD yN o6 b7 hlN z0 g0 z1 g1 z2 g2 z3 g3 z4 g4 z5 g5 z6 g6
  obtain ⟨W8, hW8⟩ : ∃ W, W7 = W := ⟨_, rfl⟩
  subst hW8
  rw [← HFL.out] at vN oS
  have hs8 := hs6
  clear HFL hs6
  have hb4 : w4.heap.size ≤ W7.heap.size := hq4
  have z0 := vN.cell 0 _ rfl
  have z1 := vN.cell 1 _ rfl
  have z2 := vN.cell 2 _ rfl
  have z3 := vN.cell 3 _ rfl
  have z4 := vN.cell 4 _ rfl
  have z5 := vN.cell 5 _ rfl
  have z6 := vN.cell 6 _ rfl
  have d0 := vD.cell 0 _ rfl
  have d1 := vD.cell 1 _ rfl
  have d2 := vD.cell 2 _ rfl
  have d3 := vD.cell 3 _ rfl
  go_wp2_with fail
  refine (HPA.out _ _ _ _ hb4 oS (HX.out.next b8)).mono ?_
  rintro e w9 ⟨pa, pc, rfl, oP, b9⟩
  replace vC := vC.next b9
  replace vN := vN.next b9
  replace oB := row_below oB b9 (Nat.le_refl _)
  have b10 := b8.trans (b9.mono b8.size)
  have hs9 : w.heap.size + 4 ≤ w9.heap.size := Nat.le_trans hs8 b9.size
  clear HPA HX vD oS b8 b9 hs8 hq4 hb4 z0 z1 z2 z3 z4 z5 z6 d0 d1 d2 d3
  go_upto_region 13 with fail
  have b11 := b10.alloc b10.size (.cells #[.int .i64 h.hN, .int .i64 h.hP, .slice pa P.length pc] 37)
  have bq := (Below.refl w9.heap.size w9).alloc (Nat.le_refl _) (.cells #[.int .i64 h.hN, .int .i64 h.hP, .slice pa P.length pc] 37)
  have xV := Box.new w9 37 #[.int .i64 h.hN, .int .i64 h.hP, .slice pa P.length pc]
  replace vC := vC.next bq
  replace vN := vN.next bq
  replace oB := row_below oB bq (Nat.le_refl _)
  replace oP := symRow_below oP bq (Nat.le_refl _)
  have hlV : w.heap.size + 3 < w9.heap.size := by omega
  generalize hW10 : w9.alloc (.cells #[.int .i64 h.hN, .int .i64 h.hP, .slice pa P.length pc] 37) = W10 at *
  have hs10 : w.heap.size + 4 ≤ W10.heap.size := by rw [← hW10]; simp; omega
  clear hW10 b10 bq
  have p0 := xV.cell 0 _ rfl
  have p1 := xV.cell 1 _ rfl
  have p2 := xV.cell 2 _ rfl
  have lV := xV.lt
  have z0 := vN.cell 0 _ rfl
  have z1 := vN.cell 1 _ rfl
  have z2 := vN.cell 2 _ rfl
  have z3 := vN.cell 3 _ rfl
  have z4 := vN.cell 4 _ rfl
  have z5 := vN.cell 5 _ rfl
  have z6 := vN.cell 6 _ rfl
  have g0 := vN.free 0
  have g1 := vN.free 1
  have g2 := vN.free 2
  have g3 := vN.free 3
  have g4 := vN.free 4
  have g5 := vN.free 5
  have g6 := vN.free 6
  have lN := vN.lt
  go_upto_region 16 with fail
  obtain ⟨W11, hW11⟩ : ∃ W, ((W10.setCell ⟨w.heap.size + 3, 2, none⟩ (.int .i64 h.hN)).setCell ⟨w.heap.size + 3, 3, none⟩ (.int .i64 h.hP)).setCell ⟨w.heap.size + 3, 4, none⟩ (.slice pa P.length pc) = W := ⟨_, rfl⟩
  replace vC := ((vC.other (p := ⟨w.heap.size + 3, 2, none⟩) (by simp) (.int .i64 h.hN)).other (p := ⟨w.heap.size + 3, 3, none⟩) (by simp) (.int .i64 h.hP)).other (p := ⟨w.heap.size + 3, 4, none⟩) (by simp) (.slice pa P.length pc)
  replace vN := ((vN.set 2 (.int .i64 h.hN)).set 3 (.int .i64 h.hP)).set 4 (.slice pa P.length pc)
  simp only [sn] at vN
  replace oB := ownsRow_setCell_below (ownsRow_setCell_below (ownsRow_setCell_below oB (a := ⟨w.heap.size + 3, 2, none⟩) (by simp only; omega) (.int .i64 h.hN)) (a := ⟨w.heap.size + 3, 3, none⟩) (by simp only; omega) (.int .i64 h.hP)) (a := ⟨w.heap.size + 3, 4, none⟩) (by simp only; omega) (.slice pa P.length pc)
  replace oP := ownsRow_setCell_below (ownsRow_setCell_below (ownsRow_setCell_below oP (a := ⟨w.heap.size + 3, 2, none⟩) (by simp only; omega) (.int .i64 h.hN)) (a := ⟨w.heap.size + 3, 3, none⟩) (by simp only; omega) (.int .i64 h.hP)) (a := ⟨w.heap.size + 3, 4, none⟩) (by simp only; omega) (.slice pa P.length pc)
  have b12 := ((b11.setCell (p := ⟨w.heap.size + 3, 2, none⟩) (by simp only; omega) (.int .i64 h.hN)).setCell (p := ⟨w.heap.size + 3, 3, none⟩) (by simp only; omega) (.int .i64 h.hP)).setCell (p := ⟨w.heap.size + 3, 4, none⟩) (by simp only; omega) (.slice pa P.length pc)
  have hz11 : W10.heap.size = W11.heap.size := by rw [← hW11]; simp
  rw [hW11] at vC vN oB oP b12 ⊢
  rw [hz11] at hs10
  clear hW11 hz11 xV p0 p1 p2 lV lN b11 hlV hs9 z0 g0 z1 g1 z2 g2 z3 g3 z4 g4 z5 g5 z6 g6
  have z0 := vN.cell 0 _ rfl
  have z1 := vN.cell 1 _ rfl
  have z2 := vN.cell 2 _ rfl
  have z3 := vN.cell 3 _ rfl
  have z4 := vN.cell 4 _ rfl
  have z5 := vN.cell 5 _ rfl
  have z6 := vN.cell 6 _ rfl
  have g0 := vN.free 0
  have g1 := vN.free 1
  have g2 := vN.free 2
  have g3 := vN.free 3
  have g4 := vN.free 4
  have g5 := vN.free 5
  have g6 := vN.free 6
  have bz := below_set7c b12 (D := w.heap.size + 3) (by omega) (.int .i64 h.hS) (.int .i64 h.hR) (.int .i64 h.hN) (.int .i64 h.hP) (.slice pa P.length pc) (.bool false) (.slice br h.hB.length dr)
  have os := symRow_base (row_set7c oP (D := w.heap.size + 3) (by omega) (.int .i64 h.hS) (.int .i64 h.hR) (.int .i64 h.hN) (.int .i64 h.hP) (.slice pa P.length pc) (.bool false) (.slice br h.hB.length dr)) (show w.heap.size ≤ _ by omega)
  have ob := row_base (row_set7c oB (D := w.heap.size + 3) (by omega) (.int .i64 h.hS) (.int .i64 h.hR) (.int .i64 h.hN) (.int .i64 h.hP) (.slice pa P.length pc) (.bool false) (.slice br h.hB.length dr)) (show w.heap.size ≤ _ by omega)
  go_wp2
  have hPQ := HPP.out
  subst hPQ
  exact bodyPost_ret (v := .tuple #[.agg #[.int .i64 h.hS, .int .i64 h.hR, .int .i64 h.hN, .int .i64 h.hP, .slice pa (pileH h h.hR f xs).length pc, .bool false, .slice br h.hB.length dr], .bool false, .int .i64 0]) (by simp [results, Tryz.results15, go_sem, z0, z1, z2, z3, z4, z5, z6]) rfl ⟨pa, pc, br, dr, rfl, ⟨os, ob, hby.out⟩, bz⟩

set_option maxRecDepth 100000 in
set_option maxHeartbeats 8000000 in
theorem hearTake_staleO (c : Cfg) (h : Hr) (r : Int) (f : Int) (xs : List Int) (hC : okC c = true) (hk : okH c h) (hD : RightD h.hS r f xs) (hd : h.hD = false) (hR : ¬ h.hR = r) (hfr : freshL h.hN h.hP (flushH h r) f xs = false) (a b : Option Addr) (cap bc : Nat) (x : Option Addr) (xc : Nat) (w : World) (ha : HearAt w h a cap b bc) (hx : Holds .u8 w.heap.size w (.slice x xs.length xc) xs) (bx : ∀ z ∈ xs, 0 ≤ z ∧ z ≤ 255) (hF : Firsts w) :
    Calls Tryz.prog 15 #[.agg #[.int .i64 c.cB, .int .i64 c.cBeam, .int .i64 c.cDepth, .int .i64 c.cWin, .int .i64 c.cQs, .int .i64 c.cQr, .int .i64 c.cBatch, .int .i64 c.cPass, .int .i64 c.cMsg, .int .i64 c.cSeqs], .agg #[.int .i64 h.hS, .int .i64 h.hR, .int .i64 h.hN, .int .i64 h.hP, .slice a h.hL.length cap, .bool false, .slice b h.hB.length bc], .agg #[.int .i64 h.hS, .int .i64 r, .int .i64 f, .slice x xs.length xc]] w fun e W' => ∃ a' cap' b' bc', e = .returned (.tuple #[.agg #[.int .i64 h.hS, .int .i64 r, .int .i64 h.hN, .int .i64 h.hP, .slice a' (pileH h r f xs).length cap', .bool false, .slice b' h.hB.length bc'], .bool false, .int .i64 0]) ∧ OwnHear w.heap.size W' (stayH h r f xs) a' cap' b' bc' ∧ Below w.heap.size w W' := by
  obtain ⟨hl, hb⟩ := okH_lens hC hk
  obtain ⟨b1, xC, xH, xD, xN, hs1⟩ := pre4 w #[.int .i64 c.cB, .int .i64 c.cBeam, .int .i64 c.cDepth, .int .i64 c.cWin, .int .i64 c.cQs, .int .i64 c.cQr, .int .i64 c.cBatch, .int .i64 c.cPass, .int .i64 c.cMsg, .int .i64 c.cSeqs] 23 #[.int .i64 h.hS, .int .i64 h.hR, .int .i64 h.hN, .int .i64 h.hP, .slice a h.hL.length cap, .bool false, .slice b h.hB.length bc] 39 #[.int .i64 h.hS, .int .i64 r, .int .i64 f, .slice x xs.length xc] 48 #[.int .i64 0, .int .i64 0, .int .i64 0, .int .i64 0, .slice none 0 0, .bool false, .slice none 0 0] 39
  have HK := HearCheck_ok c h hC hk a b cap bc _ (ha.next b1)
  rw [hd] at HK
  have HA : Hid (HearAt w h a cap b bc) := ha
  have HX : Hid (Holds .u8 w.heap.size w (.slice x xs.length xc) xs) := hx
  have HR : Hid (RightD h.hS r f xs) := hD
  have HAP : Hid (∀ wx : World, HearAt wx h a cap b bc → Calls Tryz.prog 32 #[.agg #[.int .i64 h.hS, .int .i64 h.hR, .int .i64 h.hN, .int .i64 h.hP, .slice a h.hL.length cap, .bool false, .slice b h.hB.length bc]] wx fun e W' => ∃ a' cap' b' bc', e = .returned (.agg #[.int .i64 h.hS, .int .i64 h.hR, .int .i64 h.hN, .int .i64 h.hP, .slice a' h.hL.length cap', .bool false, .slice b' h.hB.length bc']) ∧ OwnHear wx.heap.size W' h a' cap' b' bc' ∧ Below wx.heap.size wx W') := fun wx hh => by
    have := apartH_ok h a b cap bc hl hb wx hh
    rw [hd] at this
    exact this
  have HPO : Hid (PileOk h.hN h.hP (flushH h r)) := flushH_ok hk r
  have HFF : Hid (0 ≤ f ∧ f ≤ 65535) := hD.2.2.1
  have HX1 : Hid (xs.length ≤ 64) := hD.2.2.2.2
  have HX0 : Hid (1 ≤ xs.length) := hD.2.2.2.1
  have HBX : Hid (∀ z ∈ xs, 0 ≤ z ∧ z ≤ 255) := bx
  obtain ⟨P, hPq⟩ : ∃ P, putsL h.hN h.hP (flushH h r) f xs = P := ⟨_, rfl⟩
  obtain ⟨F, hFq⟩ : ∃ F, (flushH h r) = F := ⟨_, rfl⟩
  have HPA : Hid (∀ (a : Option Addr) (cap base : Nat) (wx : World), base ≤ wx.heap.size → wx.ownsRow base 79 2 (.slice a F.length cap) F.length (symCells F) → Holds .u8 wx.heap.size wx (.slice x xs.length xc) xs → Calls Tryz.prog 33 #[.agg #[.int .i64 h.hN, .int .i64 h.hP, .slice a F.length cap], .agg #[.int .i64 h.hS, .int .i64 r, .int .i64 f, .slice x xs.length xc]] wx fun e W' => ∃ a' cap', e = .returned (.tuple #[.agg #[.int .i64 h.hN, .int .i64 h.hP, .slice a' P.length cap'], .bool false, .int .i64 0]) ∧ W'.ownsRow base 79 2 (.slice a' P.length cap') P.length (symCells P) ∧ Below wx.heap.size wx W') := fun a cap base wx h1 h2 h3 => by
    rw [hFq] at hPq hfr HPO
    have := putAll_ok h.hN h.hP F HPO.out a cap h.hS r f HFF.out xs HX0.out HX1.out HBX.out x xc base wx h1 h2 h3
    rw [hPq, hfr] at this
    exact this
  have dR : (h.hR != r) = true := by rw [bne_iff_ne]; exact hR
  have HFL : Hid (F = []) := by have : (flushH h r) = [] := if_neg (fun e => hR e.symm); rw [← hFq]; exact this
  have HPP : Hid (pileH h r f xs = P) := hPq
  have HFR : Hid (Firsts w) := hF
  clear HPO HFF HX0 HX1 HBX hPq hFq hfr bx hF hR
  clear hl hb hC hk hD hd ha hx
  have k0 := xC.cell 0 _ rfl
  have k1 := xC.cell 1 _ rfl
  have k2 := xC.cell 2 _ rfl
  have k3 := xC.cell 3 _ rfl
  have k4 := xC.cell 4 _ rfl
  have k5 := xC.cell 5 _ rfl
  have k6 := xC.cell 6 _ rfl
  have k7 := xC.cell 7 _ rfl
  have k8 := xC.cell 8 _ rfl
  have k9 := xC.cell 9 _ rfl
  have m0 := xH.cell 0 _ rfl
  have m1 := xH.cell 1 _ rfl
  have m2 := xH.cell 2 _ rfl
  have m3 := xH.cell 3 _ rfl
  have m4 := xH.cell 4 _ rfl
  have m5 := xH.cell 5 _ rfl
  have m6 := xH.cell 6 _ rfl
  go_enter Tryz.func15, Tryz.ntmps15
  go_wp2_with fail
  refine HK.mono ?_
  rintro e w2 ⟨rfl, b2⟩
  have yC := xC.next b2
  have yH := xH.next b2
  have yD := xD.next b2
  have yN := xN.next b2
  have b3 := b1.trans (b2.mono b1.size)
  have hs2 : w.heap.size + 4 ≤ w2.heap.size := Nat.le_trans hs1 b2.size
  have HM := DataMake_at h.hS r f x xs.length xc xs rfl HR.out w2 (HX.out.next b3)
  clear HK xC xH xD xN b1 b2 hs1 HR k0 k1 k2 k3 k4 k5 k6 k7 k8 k9 m0 m1 m2 m3 m4 m5 m6
  have d0 := yD.cell 0 _ rfl
  have d1 := yD.cell 1 _ rfl
  have d2 := yD.cell 2 _ rfl
  have d3 := yD.cell 3 _ rfl
  go_wp2_with fail
  refine HM.mono ?_
  rintro e w4 ⟨q, rfl, _, b4⟩
  replace yC := yC.next b4
  replace yH := yH.next b4
  replace yD := yD.next b4
  replace yN := yN.next b4
  have b5 := b3.trans (b4.mono b3.size)
  have hs4 : w.heap.size + 4 ≤ w4.heap.size := Nat.le_trans hs2 b4.size
  clear HM b3 b4 hs2 d0 d1 d2 d3
  have d0 := yD.cell 0 _ rfl
  have m0 := yH.cell 0 _ rfl
  have m1 := yH.cell 1 _ rfl
  have m2 := yH.cell 2 _ rfl
  have m3 := yH.cell 3 _ rfl
  have m4 := yH.cell 4 _ rfl
  have m5 := yH.cell 5 _ rfl
  have m6 := yH.cell 6 _ rfl
  go_wp2_with fail
  refine (HAP.out _ (HA.out.next b5)).mono ?_
  rintro e w6 ⟨ar, cr, br, dr, rfl, o6, b6⟩
  replace yC := yC.next b6
  replace yD := yD.next b6
  replace yN := yN.next b6
  have b7 := b5.trans (b6.mono b5.size)
  have hs6 : w.heap.size + 4 ≤ w6.heap.size := Nat.le_trans hs4 b6.size
  have hq4 : w4.heap.size ≤ w6.heap.size := b6.size
  clear HAP HA yH b5 b6 d0 m0 m1 m2 m3 m4 m5 m6
  have z0 := yN.cell 0 _ rfl
  have z1 := yN.cell 1 _ rfl
  have z2 := yN.cell 2 _ rfl
  have z3 := yN.cell 3 _ rfl
  have z4 := yN.cell 4 _ rfl
  have z5 := yN.cell 5 _ rfl
  have z6 := yN.cell 6 _ rfl
  have g0 := yN.free 0
  have g1 := yN.free 1
  have g2 := yN.free 2
  have g3 := yN.free 3
  have g4 := yN.free 4
  have g5 := yN.free 5
  have g6 := yN.free 6
  have hlN := yN.lt
  go_upto_region 8 with fail
  obtain ⟨W7, hW7⟩ : ∃ W, ((((((w6.setCell ⟨w.heap.size + 3, 0, none⟩ (.int .i64 h.hS)).setCell ⟨w.heap.size + 3, 1, none⟩ (.int .i64 h.hR)).setCell ⟨w.heap.size + 3, 2, none⟩ (.int .i64 h.hN)).setCell ⟨w.heap.size + 3, 3, none⟩ (.int .i64 h.hP)).setCell ⟨w.heap.size + 3, 4, none⟩ (.slice ar h.hL.length cr)).setCell ⟨w.heap.size + 3, 5, none⟩ (.bool false)).setCell ⟨w.heap.size + 3, 6, none⟩ (.slice br h.hB.length dr) = W := ⟨_, rfl⟩
  have vC := yC.other7c (D := w.heap.size + 3) (by omega) (.int .i64 h.hS) (.int .i64 h.hR) (.int .i64 h.hN) (.int .i64 h.hP) (.slice ar h.hL.length cr) (.bool false) (.slice br h.hB.length dr)
  have vD := yD.other7c (D := w.heap.size + 3) (by omega) (.int .i64 h.hS) (.int .i64 h.hR) (.int .i64 h.hN) (.int .i64 h.hP) (.slice ar h.hL.length cr) (.bool false) (.slice br h.hB.length dr)
  have vN := yN.set7c (.int .i64 h.hS) (.int .i64 h.hR) (.int .i64 h.hN) (.int .i64 h.hP) (.slice ar h.hL.length cr) (.bool false) (.slice br h.hB.length dr)
  have oS := row_set7c o6.syms (D := w.heap.size + 3) (by omega) (.int .i64 h.hS) (.int .i64 h.hR) (.int .i64 h.hN) (.int .i64 h.hP) (.slice ar h.hL.length cr) (.bool false) (.slice br h.hB.length dr)
  have oB := row_set7c o6.byts (D := w.heap.size + 3) (by omega) (.int .i64 h.hS) (.int .i64 h.hR) (.int .i64 h.hN) (.int .i64 h.hP) (.slice ar h.hL.length cr) (.bool false) (.slice br h.hB.length dr)
  have hby : Hid (∀ z ∈ h.hB, 0 ≤ z ∧ z ≤ 255) := o6.byte
  have b8 := below_set7c b7 (D := w.heap.size + 3) (by omega) (.int .i64 h.hS) (.int .i64 h.hR) (.int .i64 h.hN) (.int .i64 h.hP) (.slice ar h.hL.length cr) (.bool false) (.slice br h.hB.length dr)
  have hz7 : w6.heap.size = W7.heap.size := by rw [← hW7]; simp
  rw [hW7] at vC vD vN oS oB b8 ⊢
  rw [hz7] at hs6 hq4
  clear hW7 hz7 yC yD yN o6 b7 hlN z0 g0 z1 g1 z2 g2 z3 g3 z4 g4 z5 g5 z6 g6
  have z0 := vN.cell 0 _ rfl
  have z1 := vN.cell 1 _ rfl
  have z2 := vN.cell 2 _ rfl
  have z3 := vN.cell 3 _ rfl
  have z4 := vN.cell 4 _ rfl
  have z5 := vN.cell 5 _ rfl
  have z6 := vN.cell 6 _ rfl
  have g0 := vN.free 0
  have g1 := vN.free 1
  have g2 := vN.free 2
  have g3 := vN.free 3
  have g4 := vN.free 4
  have g5 := vN.free 5
  have g6 := vN.free 6
  have d1 := vD.cell 1 _ rfl
  have hlN := vN.lt
  go_upto_region 12 with fail
  obtain ⟨W8, hW8⟩ : ∃ W, (W7.setCell ⟨w.heap.size + 3, 1, none⟩ (.int .i64 r)).setCell ⟨w.heap.size + 3, 4, none⟩ (.slice none 0 0) = W := ⟨_, rfl⟩
  replace vC := (vC.other (p := ⟨w.heap.size + 3, 1, none⟩) (by simp) (.int .i64 r)).other (p := ⟨w.heap.size + 3, 4, none⟩) (by simp) (.slice none 0 0)
  replace vD := (vD.other (p := ⟨w.heap.size + 3, 1, none⟩) (by simp) (.int .i64 r)).other (p := ⟨w.heap.size + 3, 4, none⟩) (by simp) (.slice none 0 0)
  replace vN := (vN.set 1 (.int .i64 r)).set 4 (.slice none 0 0)
  simp only [sn] at vN
  replace oB := ownsRow_setCell_below (ownsRow_setCell_below oB (a := ⟨w.heap.size + 3, 1, none⟩) (by simp only; omega) (.int .i64 r)) (a := ⟨w.heap.size + 3, 4, none⟩) (by simp only; omega) (.slice none 0 0)
  replace b8 := (b8.setCell (p := ⟨w.heap.size + 3, 1, none⟩) (by simp only; omega) (.int .i64 r)).setCell (p := ⟨w.heap.size + 3, 4, none⟩) (by simp only; omega) (.slice none 0 0)
  have hz8 : W7.heap.size = W8.heap.size := by rw [← hW8]; simp
  have hs8 : w.heap.size + 4 ≤ W8.heap.size := by rw [← hz8]; exact hs6
  rw [hz8] at hq4
  rw [hW8] at vC vD vN oB b8 ⊢
  clear hW8 hz8 hs6 oS d1 hlN dR z0 g0 z1 g1 z2 g2 z3 g3 z4 g4 z5 g5 z6 g6
  have hF0 := HFL.out
  subst hF0
  have oS : W8.ownsRow w4.heap.size 79 2 (.slice none ([] : List (Int × Int)).length 0) ([] : List (Int × Int)).length (symCells []) := World.ownsRow_nil _ _ _ _
  replace vN : Box W8 (w.heap.size + 3) 39 #[.int .i64 h.hS, .int .i64 r, .int .i64 h.hN, .int .i64 h.hP, .slice none ([] : List (Int × Int)).length 0, .bool false, .slice br h.hB.length dr] := vN
  have hb4 : w4.heap.size ≤ W8.heap.size := hq4
  have z0 := vN.cell 0 _ rfl
  have z1 := vN.cell 1 _ rfl
  have z2 := vN.cell 2 _ rfl
  have z3 := vN.cell 3 _ rfl
  have z4 := vN.cell 4 _ rfl
  have z5 := vN.cell 5 _ rfl
  have z6 := vN.cell 6 _ rfl
  have d0 := vD.cell 0 _ rfl
  have d1 := vD.cell 1 _ rfl
  have d2 := vD.cell 2 _ rfl
  have d3 := vD.cell 3 _ rfl
  go_wp2_with fail
  refine (HPA.out _ _ _ _ hb4 oS (HX.out.next b8)).mono ?_
  rintro e w9 ⟨pa, pc, rfl, oP, b9⟩
  replace vC := vC.next b9
  replace vN := vN.next b9
  replace oB := row_below oB b9 (Nat.le_refl _)
  have b10 := b8.trans (b9.mono b8.size)
  have hs9 : w.heap.size + 4 ≤ w9.heap.size := Nat.le_trans hs8 b9.size
  clear HPA HX vD oS b8 b9 hs8 hq4 hb4 z0 z1 z2 z3 z4 z5 z6 d0 d1 d2 d3
  go_upto_region 13 with fail
  have b11 := b10.alloc b10.size (.cells #[.int .i64 h.hN, .int .i64 h.hP, .slice pa P.length pc] 37)
  have bq := (Below.refl w9.heap.size w9).alloc (Nat.le_refl _) (.cells #[.int .i64 h.hN, .int .i64 h.hP, .slice pa P.length pc] 37)
  have xV := Box.new w9 37 #[.int .i64 h.hN, .int .i64 h.hP, .slice pa P.length pc]
  replace vC := vC.next bq
  replace vN := vN.next bq
  replace oB := row_below oB bq (Nat.le_refl _)
  replace oP := symRow_below oP bq (Nat.le_refl _)
  have hlV : w.heap.size + 3 < w9.heap.size := by omega
  generalize hW10 : w9.alloc (.cells #[.int .i64 h.hN, .int .i64 h.hP, .slice pa P.length pc] 37) = W10 at *
  have hs10 : w.heap.size + 4 ≤ W10.heap.size := by rw [← hW10]; simp; omega
  clear hW10 b10 bq
  have p0 := xV.cell 0 _ rfl
  have p1 := xV.cell 1 _ rfl
  have p2 := xV.cell 2 _ rfl
  have lV := xV.lt
  have z0 := vN.cell 0 _ rfl
  have z1 := vN.cell 1 _ rfl
  have z2 := vN.cell 2 _ rfl
  have z3 := vN.cell 3 _ rfl
  have z4 := vN.cell 4 _ rfl
  have z5 := vN.cell 5 _ rfl
  have z6 := vN.cell 6 _ rfl
  have g0 := vN.free 0
  have g1 := vN.free 1
  have g2 := vN.free 2
  have g3 := vN.free 3
  have g4 := vN.free 4
  have g5 := vN.free 5
  have g6 := vN.free 6
  have lN := vN.lt
  go_upto_region 16 with fail
  obtain ⟨W11, hW11⟩ : ∃ W, ((W10.setCell ⟨w.heap.size + 3, 2, none⟩ (.int .i64 h.hN)).setCell ⟨w.heap.size + 3, 3, none⟩ (.int .i64 h.hP)).setCell ⟨w.heap.size + 3, 4, none⟩ (.slice pa P.length pc) = W := ⟨_, rfl⟩
  replace vC := ((vC.other (p := ⟨w.heap.size + 3, 2, none⟩) (by simp) (.int .i64 h.hN)).other (p := ⟨w.heap.size + 3, 3, none⟩) (by simp) (.int .i64 h.hP)).other (p := ⟨w.heap.size + 3, 4, none⟩) (by simp) (.slice pa P.length pc)
  replace vN := ((vN.set 2 (.int .i64 h.hN)).set 3 (.int .i64 h.hP)).set 4 (.slice pa P.length pc)
  simp only [sn] at vN
  replace oB := ownsRow_setCell_below (ownsRow_setCell_below (ownsRow_setCell_below oB (a := ⟨w.heap.size + 3, 2, none⟩) (by simp only; omega) (.int .i64 h.hN)) (a := ⟨w.heap.size + 3, 3, none⟩) (by simp only; omega) (.int .i64 h.hP)) (a := ⟨w.heap.size + 3, 4, none⟩) (by simp only; omega) (.slice pa P.length pc)
  replace oP := ownsRow_setCell_below (ownsRow_setCell_below (ownsRow_setCell_below oP (a := ⟨w.heap.size + 3, 2, none⟩) (by simp only; omega) (.int .i64 h.hN)) (a := ⟨w.heap.size + 3, 3, none⟩) (by simp only; omega) (.int .i64 h.hP)) (a := ⟨w.heap.size + 3, 4, none⟩) (by simp only; omega) (.slice pa P.length pc)
  have b12 := ((b11.setCell (p := ⟨w.heap.size + 3, 2, none⟩) (by simp only; omega) (.int .i64 h.hN)).setCell (p := ⟨w.heap.size + 3, 3, none⟩) (by simp only; omega) (.int .i64 h.hP)).setCell (p := ⟨w.heap.size + 3, 4, none⟩) (by simp only; omega) (.slice pa P.length pc)
  have hz11 : W10.heap.size = W11.heap.size := by rw [← hW11]; simp
  rw [hW11] at vC vN oB oP b12 ⊢
  rw [hz11] at hs10
  clear hW11 hz11 xV p0 p1 p2 lV lN b11 hlV hs9 z0 g0 z1 g1 z2 g2 z3 g3 z4 g4 z5 g5 z6 g6
  have z0 := vN.cell 0 _ rfl
  have z1 := vN.cell 1 _ rfl
  have z2 := vN.cell 2 _ rfl
  have z3 := vN.cell 3 _ rfl
  have z4 := vN.cell 4 _ rfl
  have z5 := vN.cell 5 _ rfl
  have z6 := vN.cell 6 _ rfl
  have g0 := vN.free 0
  have g1 := vN.free 1
  have g2 := vN.free 2
  have g3 := vN.free 3
  have g4 := vN.free 4
  have g5 := vN.free 5
  have g6 := vN.free 6
  have bz := below_set7c b12 (D := w.heap.size + 3) (by omega) (.int .i64 h.hS) (.int .i64 r) (.int .i64 h.hN) (.int .i64 h.hP) (.slice pa P.length pc) (.bool false) (.slice br h.hB.length dr)
  have os := symRow_base (row_set7c oP (D := w.heap.size + 3) (by omega) (.int .i64 h.hS) (.int .i64 r) (.int .i64 h.hN) (.int .i64 h.hP) (.slice pa P.length pc) (.bool false) (.slice br h.hB.length dr)) (show w.heap.size ≤ _ by omega)
  have ob := row_base (row_set7c oB (D := w.heap.size + 3) (by omega) (.int .i64 h.hS) (.int .i64 r) (.int .i64 h.hN) (.int .i64 h.hP) (.slice pa P.length pc) (.bool false) (.slice br h.hB.length dr)) (show w.heap.size ≤ _ by omega)
  go_wp2
  have hPQ := HPP.out
  subst hPQ
  exact bodyPost_ret (v := .tuple #[.agg #[.int .i64 h.hS, .int .i64 r, .int .i64 h.hN, .int .i64 h.hP, .slice pa (pileH h r f xs).length pc, .bool false, .slice br h.hB.length dr], .bool false, .int .i64 0]) (by simp [results, Tryz.results15, go_sem, z0, z1, z2, z3, z4, z5, z6]) rfl ⟨pa, pc, br, dr, rfl, ⟨os, ob, hby.out⟩, bz⟩

set_option maxRecDepth 100000 in
set_option maxHeartbeats 8000000 in
theorem hearTake_untoldS (c : Cfg) (h : Hr) (f : Int) (xs : List Int) (hC : okC c = true) (hk : okH c h) (hD : RightD h.hS h.hR f xs) (hd : h.hD = false) (hfr : freshL h.hN h.hP (flushH h h.hR) f xs = true) (hto : tolB c (stayH h h.hR f xs) = none) (a b : Option Addr) (cap bc : Nat) (x : Option Addr) (xc : Nat) (w : World) (ha : HearAt w h a cap b bc) (hx : Holds .u8 w.heap.size w (.slice x xs.length xc) xs) (bx : ∀ z ∈ xs, 0 ≤ z ∧ z ≤ 255) (hF : Firsts w) :
    Calls Tryz.prog 15 #[.agg #[.int .i64 c.cB, .int .i64 c.cBeam, .int .i64 c.cDepth, .int .i64 c.cWin, .int .i64 c.cQs, .int .i64 c.cQr, .int .i64 c.cBatch, .int .i64 c.cPass, .int .i64 c.cMsg, .int .i64 c.cSeqs], .agg #[.int .i64 h.hS, .int .i64 h.hR, .int .i64 h.hN, .int .i64 h.hP, .slice a h.hL.length cap, .bool false, .slice b h.hB.length bc], .agg #[.int .i64 h.hS, .int .i64 h.hR, .int .i64 f, .slice x xs.length xc]] w fun e W' => ∃ a' cap' b' bc', e = .returned (.tuple #[.agg #[.int .i64 h.hS, .int .i64 h.hR, .int .i64 h.hN, .int .i64 h.hP, .slice a' (pileH h h.hR f xs).length cap', .bool false, .slice b' h.hB.length bc'], .bool false, .int .i64 0]) ∧ OwnHear w.heap.size W' (stayH h h.hR f xs) a' cap' b' bc' ∧ Below w.heap.size w W' := by
  obtain ⟨hl, hb⟩ := okH_lens hC hk
  obtain ⟨b1, xC, xH, xD, xN, hs1⟩ := pre4 w #[.int .i64 c.cB, .int .i64 c.cBeam, .int .i64 c.cDepth, .int .i64 c.cWin, .int .i64 c.cQs, .int .i64 c.cQr, .int .i64 c.cBatch, .int .i64 c.cPass, .int .i64 c.cMsg, .int .i64 c.cSeqs] 23 #[.int .i64 h.hS, .int .i64 h.hR, .int .i64 h.hN, .int .i64 h.hP, .slice a h.hL.length cap, .bool false, .slice b h.hB.length bc] 39 #[.int .i64 h.hS, .int .i64 h.hR, .int .i64 f, .slice x xs.length xc] 48 #[.int .i64 0, .int .i64 0, .int .i64 0, .int .i64 0, .slice none 0 0, .bool false, .slice none 0 0] 39
  have HK := HearCheck_ok c h hC hk a b cap bc _ (ha.next b1)
  rw [hd] at HK
  have HA : Hid (HearAt w h a cap b bc) := ha
  have HX : Hid (Holds .u8 w.heap.size w (.slice x xs.length xc) xs) := hx
  have HR : Hid (RightD h.hS h.hR f xs) := hD
  have HAP : Hid (∀ wx : World, HearAt wx h a cap b bc → Calls Tryz.prog 32 #[.agg #[.int .i64 h.hS, .int .i64 h.hR, .int .i64 h.hN, .int .i64 h.hP, .slice a h.hL.length cap, .bool false, .slice b h.hB.length bc]] wx fun e W' => ∃ a' cap' b' bc', e = .returned (.agg #[.int .i64 h.hS, .int .i64 h.hR, .int .i64 h.hN, .int .i64 h.hP, .slice a' h.hL.length cap', .bool false, .slice b' h.hB.length bc']) ∧ OwnHear wx.heap.size W' h a' cap' b' bc' ∧ Below wx.heap.size wx W') := fun wx hh => by
    have := apartH_ok h a b cap bc hl hb wx hh
    rw [hd] at this
    exact this
  have HPO : Hid (PileOk h.hN h.hP (flushH h h.hR)) := flushH_ok hk h.hR
  have HFF : Hid (0 ≤ f ∧ f ≤ 65535) := hD.2.2.1
  have HX1 : Hid (xs.length ≤ 64) := hD.2.2.2.2
  have HX0 : Hid (1 ≤ xs.length) := hD.2.2.2.1
  have HBX : Hid (∀ z ∈ xs, 0 ≤ z ∧ z ≤ 255) := bx
  obtain ⟨P, hPq⟩ : ∃ P, putsL h.hN h.hP (flushH h h.hR) f xs = P := ⟨_, rfl⟩
  obtain ⟨F, hFq⟩ : ∃ F, (flushH h h.hR) = F := ⟨_, rfl⟩
  have HPA : Hid (∀ (a : Option Addr) (cap base : Nat) (wx : World), base ≤ wx.heap.size → wx.ownsRow base 79 2 (.slice a F.length cap) F.length (symCells F) → Holds .u8 wx.heap.size wx (.slice x xs.length xc) xs → Calls Tryz.prog 33 #[.agg #[.int .i64 h.hN, .int .i64 h.hP, .slice a F.length cap], .agg #[.int .i64 h.hS, .int .i64 h.hR, .int .i64 f, .slice x xs.length xc]] wx fun e W' => ∃ a' cap', e = .returned (.tuple #[.agg #[.int .i64 h.hN, .int .i64 h.hP, .slice a' P.length cap'], .bool true, .int .i64 0]) ∧ W'.ownsRow base 79 2 (.slice a' P.length cap') P.length (symCells P) ∧ Below wx.heap.size wx W') := fun a cap base wx h1 h2 h3 => by
    rw [hFq] at hPq hfr HPO
    have := putAll_ok h.hN h.hP F HPO.out a cap h.hS h.hR f HFF.out xs HX0.out HX1.out HBX.out x xc base wx h1 h2 h3
    rw [hPq, hfr] at this
    exact this
  have HFL : Hid (F = h.hL) := by have : (flushH h h.hR) = h.hL := if_pos rfl; rw [← hFq]; exact this
  have HPP : Hid (pileH h h.hR f xs = P) := hPq
  have HTE : Hid (∀ (a b : Option Addr) (cap bc : Nat) (wx : World), Syms wx.heap.size wx (.slice a P.length cap) P → Firsts wx → Calls Tryz.prog 34 #[.agg #[.int .i64 c.cB, .int .i64 c.cBeam, .int .i64 c.cDepth, .int .i64 c.cWin, .int .i64 c.cQs, .int .i64 c.cQr, .int .i64 c.cBatch, .int .i64 c.cPass, .int .i64 c.cMsg, .int .i64 c.cSeqs], .agg #[.int .i64 h.hS, .int .i64 h.hR, .int .i64 h.hN, .int .i64 h.hP, .slice a P.length cap, .bool false, .slice b h.hB.length bc]] wx fun e W' => e = .returned (.tuple #[.slice none 0 0, .bool false]) ∧ Below wx.heap.size wx W') := fun a b cap bc wx h1 h2 => by
    have hPp : PileOk h.hN h.hP P := by rw [← hPq]; exact putsL_ok (flushH_ok hk h.hR) hD.2.2.1.1 bx
    have := tell_ok c hC ⟨h.hS, h.hR, h.hN, h.hP, P, false, h.hB⟩ hk.2.2.2.1 hPp a b cap bc wx h1 h2
    have hto' : tolB c ⟨h.hS, h.hR, h.hN, h.hP, P, false, h.hB⟩ = none := by rw [← hPq]; exact hto
    refine this.mono ?_
    rintro e W' ⟨h3, h4⟩
    rw [hto'] at h3
    rcases h3 with ⟨h5, h6⟩ | ⟨zs', h5, h6⟩
    · exact ⟨h6, h4⟩
    · cases h5
  have HFR : Hid (Firsts w) := hF
  clear HPO HFF HX0 HX1 HBX hPq hFq hfr bx hF hto
  clear hl hb hC hk hD hd ha hx
  have k0 := xC.cell 0 _ rfl
  have k1 := xC.cell 1 _ rfl
  have k2 := xC.cell 2 _ rfl
  have k3 := xC.cell 3 _ rfl
  have k4 := xC.cell 4 _ rfl
  have k5 := xC.cell 5 _ rfl
  have k6 := xC.cell 6 _ rfl
  have k7 := xC.cell 7 _ rfl
  have k8 := xC.cell 8 _ rfl
  have k9 := xC.cell 9 _ rfl
  have m0 := xH.cell 0 _ rfl
  have m1 := xH.cell 1 _ rfl
  have m2 := xH.cell 2 _ rfl
  have m3 := xH.cell 3 _ rfl
  have m4 := xH.cell 4 _ rfl
  have m5 := xH.cell 5 _ rfl
  have m6 := xH.cell 6 _ rfl
  go_enter Tryz.func15, Tryz.ntmps15
  go_wp2_with fail
  refine HK.mono ?_
  rintro e w2 ⟨rfl, b2⟩
  have yC := xC.next b2
  have yH := xH.next b2
  have yD := xD.next b2
  have yN := xN.next b2
  have b3 := b1.trans (b2.mono b1.size)
  have hs2 : w.heap.size + 4 ≤ w2.heap.size := Nat.le_trans hs1 b2.size
  have HM := DataMake_at h.hS h.hR f x xs.length xc xs rfl HR.out w2 (HX.out.next b3)
  clear HK xC xH xD xN b1 b2 hs1 HR k0 k1 k2 k3 k4 k5 k6 k7 k8 k9 m0 m1 m2 m3 m4 m5 m6
  have d0 := yD.cell 0 _ rfl
  have d1 := yD.cell 1 _ rfl
  have d2 := yD.cell 2 _ rfl
  have d3 := yD.cell 3 _ rfl
  go_wp2_with fail
  refine HM.mono ?_
  rintro e w4 ⟨q, rfl, _, b4⟩
  replace yC := yC.next b4
  replace yH := yH.next b4
  replace yD := yD.next b4
  replace yN := yN.next b4
  have b5 := b3.trans (b4.mono b3.size)
  have hs4 : w.heap.size + 4 ≤ w4.heap.size := Nat.le_trans hs2 b4.size
  clear HM b3 b4 hs2 d0 d1 d2 d3
  have d0 := yD.cell 0 _ rfl
  have m0 := yH.cell 0 _ rfl
  have m1 := yH.cell 1 _ rfl
  have m2 := yH.cell 2 _ rfl
  have m3 := yH.cell 3 _ rfl
  have m4 := yH.cell 4 _ rfl
  have m5 := yH.cell 5 _ rfl
  have m6 := yH.cell 6 _ rfl
  go_wp2_with fail
  refine (HAP.out _ (HA.out.next b5)).mono ?_
  rintro e w6 ⟨ar, cr, br, dr, rfl, o6, b6⟩
  replace yC := yC.next b6
  replace yD := yD.next b6
  replace yN := yN.next b6
  have b7 := b5.trans (b6.mono b5.size)
  have hs6 : w.heap.size + 4 ≤ w6.heap.size := Nat.le_trans hs4 b6.size
  have hq4 : w4.heap.size ≤ w6.heap.size := b6.size
  clear HAP HA yH b5 b6 d0 m0 m1 m2 m3 m4 m5 m6
  have z0 := yN.cell 0 _ rfl
  have z1 := yN.cell 1 _ rfl
  have z2 := yN.cell 2 _ rfl
  have z3 := yN.cell 3 _ rfl
  have z4 := yN.cell 4 _ rfl
  have z5 := yN.cell 5 _ rfl
  have z6 := yN.cell 6 _ rfl
  have g0 := yN.free 0
  have g1 := yN.free 1
  have g2 := yN.free 2
  have g3 := yN.free 3
  have g4 := yN.free 4
  have g5 := yN.free 5
  have g6 := yN.free 6
  have hlN := yN.lt
  go_upto_region 8 with fail
  obtain ⟨W7, hW7⟩ : ∃ W, ((((((w6.setCell ⟨w.heap.size + 3, 0, none⟩ (.int .i64 h.hS)).setCell ⟨w.heap.size + 3, 1, none⟩ (.int .i64 h.hR)).setCell ⟨w.heap.size + 3, 2, none⟩ (.int .i64 h.hN)).setCell ⟨w.heap.size + 3, 3, none⟩ (.int .i64 h.hP)).setCell ⟨w.heap.size + 3, 4, none⟩ (.slice ar h.hL.length cr)).setCell ⟨w.heap.size + 3, 5, none⟩ (.bool false)).setCell ⟨w.heap.size + 3, 6, none⟩ (.slice br h.hB.length dr) = W := ⟨_, rfl⟩
  have vC := yC.other7c (D := w.heap.size + 3) (by omega) (.int .i64 h.hS) (.int .i64 h.hR) (.int .i64 h.hN) (.int .i64 h.hP) (.slice ar h.hL.length cr) (.bool false) (.slice br h.hB.length dr)
  have vD := yD.other7c (D := w.heap.size + 3) (by omega) (.int .i64 h.hS) (.int .i64 h.hR) (.int .i64 h.hN) (.int .i64 h.hP) (.slice ar h.hL.length cr) (.bool false) (.slice br h.hB.length dr)
  have vN := yN.set7c (.int .i64 h.hS) (.int .i64 h.hR) (.int .i64 h.hN) (.int .i64 h.hP) (.slice ar h.hL.length cr) (.bool false) (.slice br h.hB.length dr)
  have oS := row_set7c o6.syms (D := w.heap.size + 3) (by omega) (.int .i64 h.hS) (.int .i64 h.hR) (.int .i64 h.hN) (.int .i64 h.hP) (.slice ar h.hL.length cr) (.bool false) (.slice br h.hB.length dr)
  have oB := row_set7c o6.byts (D := w.heap.size + 3) (by omega) (.int .i64 h.hS) (.int .i64 h.hR) (.int .i64 h.hN) (.int .i64 h.hP) (.slice ar h.hL.length cr) (.bool false) (.slice br h.hB.length dr)
  have hby : Hid (∀ z ∈ h.hB, 0 ≤ z ∧ z ≤ 255) := o6.byte
  have b8 := below_set7c b7 (D := w.heap.size + 3) (by omega) (.int .i64 h.hS) (.int .i64 h.hR) (.int .i64 h.hN) (.int .i64 h.hP) (.slice ar h.hL.length cr) (.bool false) (.slice br h.hB.length dr)
  have hz7 : w6.heap.size = W7.heap.size := by rw [← hW7]; simp
  rw [hW7] at vC vD vN oS oB b8 ⊢
  rw [hz7] at hs6 hq4
  clear hW7 hz7 yC yD yN o6 b7 hlN z0 g0 z1 g1 z2 g2 z3 g3 z4 g4 z5 g5 z6 g6
  obtain ⟨W8, hW8⟩ : ∃ W, W7 = W := ⟨_, rfl⟩
  subst hW8
  rw [← HFL.out] at vN oS
  have hs8 := hs6
  clear HFL hs6
  have hb4 : w4.heap.size ≤ W7.heap.size := hq4
  have z0 := vN.cell 0 _ rfl
  have z1 := vN.cell 1 _ rfl
  have z2 := vN.cell 2 _ rfl
  have z3 := vN.cell 3 _ rfl
  have z4 := vN.cell 4 _ rfl
  have z5 := vN.cell 5 _ rfl
  have z6 := vN.cell 6 _ rfl
  have d0 := vD.cell 0 _ rfl
  have d1 := vD.cell 1 _ rfl
  have d2 := vD.cell 2 _ rfl
  have d3 := vD.cell 3 _ rfl
  go_wp2_with fail
  refine (HPA.out _ _ _ _ hb4 oS (HX.out.next b8)).mono ?_
  rintro e w9 ⟨pa, pc, rfl, oP, b9⟩
  replace vC := vC.next b9
  replace vN := vN.next b9
  replace oB := row_below oB b9 (Nat.le_refl _)
  have b10 := b8.trans (b9.mono b8.size)
  have hs9 : w.heap.size + 4 ≤ w9.heap.size := Nat.le_trans hs8 b9.size
  clear HPA HX vD oS b8 b9 hs8 hq4 hb4 z0 z1 z2 z3 z4 z5 z6 d0 d1 d2 d3
  go_upto_region 13 with fail
  have b11 := b10.alloc b10.size (.cells #[.int .i64 h.hN, .int .i64 h.hP, .slice pa P.length pc] 37)
  have bq := (Below.refl w9.heap.size w9).alloc (Nat.le_refl _) (.cells #[.int .i64 h.hN, .int .i64 h.hP, .slice pa P.length pc] 37)
  have xV := Box.new w9 37 #[.int .i64 h.hN, .int .i64 h.hP, .slice pa P.length pc]
  replace vC := vC.next bq
  replace vN := vN.next bq
  replace oB := row_below oB bq (Nat.le_refl _)
  replace oP := symRow_below oP bq (Nat.le_refl _)
  have hlV : w.heap.size + 3 < w9.heap.size := by omega
  generalize hW10 : w9.alloc (.cells #[.int .i64 h.hN, .int .i64 h.hP, .slice pa P.length pc] 37) = W10 at *
  have hs10 : w.heap.size + 4 ≤ W10.heap.size := by rw [← hW10]; simp; omega
  clear hW10 b10 bq
  have p0 := xV.cell 0 _ rfl
  have p1 := xV.cell 1 _ rfl
  have p2 := xV.cell 2 _ rfl
  have lV := xV.lt
  have z0 := vN.cell 0 _ rfl
  have z1 := vN.cell 1 _ rfl
  have z2 := vN.cell 2 _ rfl
  have z3 := vN.cell 3 _ rfl
  have z4 := vN.cell 4 _ rfl
  have z5 := vN.cell 5 _ rfl
  have z6 := vN.cell 6 _ rfl
  have g0 := vN.free 0
  have g1 := vN.free 1
  have g2 := vN.free 2
  have g3 := vN.free 3
  have g4 := vN.free 4
  have g5 := vN.free 5
  have g6 := vN.free 6
  have lN := vN.lt
  go_upto_region 16 with fail
  obtain ⟨W11, hW11⟩ : ∃ W, ((W10.setCell ⟨w.heap.size + 3, 2, none⟩ (.int .i64 h.hN)).setCell ⟨w.heap.size + 3, 3, none⟩ (.int .i64 h.hP)).setCell ⟨w.heap.size + 3, 4, none⟩ (.slice pa P.length pc) = W := ⟨_, rfl⟩
  replace vC := ((vC.other (p := ⟨w.heap.size + 3, 2, none⟩) (by simp) (.int .i64 h.hN)).other (p := ⟨w.heap.size + 3, 3, none⟩) (by simp) (.int .i64 h.hP)).other (p := ⟨w.heap.size + 3, 4, none⟩) (by simp) (.slice pa P.length pc)
  replace vN := ((vN.set 2 (.int .i64 h.hN)).set 3 (.int .i64 h.hP)).set 4 (.slice pa P.length pc)
  simp only [sn] at vN
  replace oB := ownsRow_setCell_below (ownsRow_setCell_below (ownsRow_setCell_below oB (a := ⟨w.heap.size + 3, 2, none⟩) (by simp only; omega) (.int .i64 h.hN)) (a := ⟨w.heap.size + 3, 3, none⟩) (by simp only; omega) (.int .i64 h.hP)) (a := ⟨w.heap.size + 3, 4, none⟩) (by simp only; omega) (.slice pa P.length pc)
  replace oP := ownsRow_setCell_below (ownsRow_setCell_below (ownsRow_setCell_below oP (a := ⟨w.heap.size + 3, 2, none⟩) (by simp only; omega) (.int .i64 h.hN)) (a := ⟨w.heap.size + 3, 3, none⟩) (by simp only; omega) (.int .i64 h.hP)) (a := ⟨w.heap.size + 3, 4, none⟩) (by simp only; omega) (.slice pa P.length pc)
  have b12 := ((b11.setCell (p := ⟨w.heap.size + 3, 2, none⟩) (by simp only; omega) (.int .i64 h.hN)).setCell (p := ⟨w.heap.size + 3, 3, none⟩) (by simp only; omega) (.int .i64 h.hP)).setCell (p := ⟨w.heap.size + 3, 4, none⟩) (by simp only; omega) (.slice pa P.length pc)
  have hz11 : W10.heap.size = W11.heap.size := by rw [← hW11]; simp
  rw [hW11] at vC vN oB oP b12 ⊢
  rw [hz11] at hs10
  clear hW11 hz11 xV p0 p1 p2 lV lN b11 hlV hs9 z0 g0 z1 g1 z2 g2 z3 g3 z4 g4 z5 g5 z6 g6
  have k0 := vC.cell 0 _ rfl
  have k1 := vC.cell 1 _ rfl
  have k2 := vC.cell 2 _ rfl
  have k3 := vC.cell 3 _ rfl
  have k4 := vC.cell 4 _ rfl
  have k5 := vC.cell 5 _ rfl
  have k6 := vC.cell 6 _ rfl
  have k7 := vC.cell 7 _ rfl
  have k8 := vC.cell 8 _ rfl
  have k9 := vC.cell 9 _ rfl
  have z0 := vN.cell 0 _ rfl
  have z1 := vN.cell 1 _ rfl
  have z2 := vN.cell 2 _ rfl
  have z3 := vN.cell 3 _ rfl
  have z4 := vN.cell 4 _ rfl
  have z5 := vN.cell 5 _ rfl
  have z6 := vN.cell 6 _ rfl
  go_wp2_with fail
  refine (HTE.out _ _ _ _ _ (syms_of_row oP) (HFR.out.next b12)).mono ?_
  rintro e w13 ⟨rfl, b13⟩
  replace vN := vN.next b13
  replace oB := row_below oB b13 (Nat.le_refl _)
  replace oP := symRow_below oP b13 (Nat.le_refl _)
  have b14 := b12.trans (b13.mono b12.size)
  have hs13 : w.heap.size + 4 ≤ w13.heap.size := Nat.le_trans hs10 b13.size
  clear HTE HFR vC k0 k1 k2 k3 k4 k5 k6 k7 k8 k9 z0 z1 z2 z3 z4 z5 z6
  clear b12 b13
  have z0 := vN.cell 0 _ rfl
  have z1 := vN.cell 1 _ rfl
  have z2 := vN.cell 2 _ rfl
  have z3 := vN.cell 3 _ rfl
  have z4 := vN.cell 4 _ rfl
  have z5 := vN.cell 5 _ rfl
  have z6 := vN.cell 6 _ rfl
  have g0 := vN.free 0
  have g1 := vN.free 1
  have g2 := vN.free 2
  have g3 := vN.free 3
  have g4 := vN.free 4
  have g5 := vN.free 5
  have g6 := vN.free 6
  have bz := below_set7c b14 (D := w.heap.size + 3) (by omega) (.int .i64 h.hS) (.int .i64 h.hR) (.int .i64 h.hN) (.int .i64 h.hP) (.slice pa P.length pc) (.bool false) (.slice br h.hB.length dr)
  have os := symRow_base (row_set7c oP (D := w.heap.size + 3) (by omega) (.int .i64 h.hS) (.int .i64 h.hR) (.int .i64 h.hN) (.int .i64 h.hP) (.slice pa P.length pc) (.bool false) (.slice br h.hB.length dr)) (show w.heap.size ≤ _ by omega)
  have ob := row_base (row_set7c oB (D := w.heap.size + 3) (by omega) (.int .i64 h.hS) (.int .i64 h.hR) (.int .i64 h.hN) (.int .i64 h.hP) (.slice pa P.length pc) (.bool false) (.slice br h.hB.length dr)) (show w.heap.size ≤ _ by omega)
  go_wp2
  have hPQ := HPP.out
  subst hPQ
  exact bodyPost_ret (v := .tuple #[.agg #[.int .i64 h.hS, .int .i64 h.hR, .int .i64 h.hN, .int .i64 h.hP, .slice pa (pileH h h.hR f xs).length pc, .bool false, .slice br h.hB.length dr], .bool false, .int .i64 0]) (by simp [results, Tryz.results15, go_sem, z0, z1, z2, z3, z4, z5, z6]) rfl ⟨pa, pc, br, dr, rfl, ⟨os, ob, hby.out⟩, bz⟩

set_option maxRecDepth 100000 in
set_option maxHeartbeats 8000000 in
theorem hearTake_untoldO (c : Cfg) (h : Hr) (r : Int) (f : Int) (xs : List Int) (hC : okC c = true) (hk : okH c h) (hD : RightD h.hS r f xs) (hd : h.hD = false) (hR : ¬ h.hR = r) (hfr : freshL h.hN h.hP (flushH h r) f xs = true) (hto : tolB c (stayH h r f xs) = none) (a b : Option Addr) (cap bc : Nat) (x : Option Addr) (xc : Nat) (w : World) (ha : HearAt w h a cap b bc) (hx : Holds .u8 w.heap.size w (.slice x xs.length xc) xs) (bx : ∀ z ∈ xs, 0 ≤ z ∧ z ≤ 255) (hF : Firsts w) :
    Calls Tryz.prog 15 #[.agg #[.int .i64 c.cB, .int .i64 c.cBeam, .int .i64 c.cDepth, .int .i64 c.cWin, .int .i64 c.cQs, .int .i64 c.cQr, .int .i64 c.cBatch, .int .i64 c.cPass, .int .i64 c.cMsg, .int .i64 c.cSeqs], .agg #[.int .i64 h.hS, .int .i64 h.hR, .int .i64 h.hN, .int .i64 h.hP, .slice a h.hL.length cap, .bool false, .slice b h.hB.length bc], .agg #[.int .i64 h.hS, .int .i64 r, .int .i64 f, .slice x xs.length xc]] w fun e W' => ∃ a' cap' b' bc', e = .returned (.tuple #[.agg #[.int .i64 h.hS, .int .i64 r, .int .i64 h.hN, .int .i64 h.hP, .slice a' (pileH h r f xs).length cap', .bool false, .slice b' h.hB.length bc'], .bool false, .int .i64 0]) ∧ OwnHear w.heap.size W' (stayH h r f xs) a' cap' b' bc' ∧ Below w.heap.size w W' := by
  obtain ⟨hl, hb⟩ := okH_lens hC hk
  obtain ⟨b1, xC, xH, xD, xN, hs1⟩ := pre4 w #[.int .i64 c.cB, .int .i64 c.cBeam, .int .i64 c.cDepth, .int .i64 c.cWin, .int .i64 c.cQs, .int .i64 c.cQr, .int .i64 c.cBatch, .int .i64 c.cPass, .int .i64 c.cMsg, .int .i64 c.cSeqs] 23 #[.int .i64 h.hS, .int .i64 h.hR, .int .i64 h.hN, .int .i64 h.hP, .slice a h.hL.length cap, .bool false, .slice b h.hB.length bc] 39 #[.int .i64 h.hS, .int .i64 r, .int .i64 f, .slice x xs.length xc] 48 #[.int .i64 0, .int .i64 0, .int .i64 0, .int .i64 0, .slice none 0 0, .bool false, .slice none 0 0] 39
  have HK := HearCheck_ok c h hC hk a b cap bc _ (ha.next b1)
  rw [hd] at HK
  have HA : Hid (HearAt w h a cap b bc) := ha
  have HX : Hid (Holds .u8 w.heap.size w (.slice x xs.length xc) xs) := hx
  have HR : Hid (RightD h.hS r f xs) := hD
  have HAP : Hid (∀ wx : World, HearAt wx h a cap b bc → Calls Tryz.prog 32 #[.agg #[.int .i64 h.hS, .int .i64 h.hR, .int .i64 h.hN, .int .i64 h.hP, .slice a h.hL.length cap, .bool false, .slice b h.hB.length bc]] wx fun e W' => ∃ a' cap' b' bc', e = .returned (.agg #[.int .i64 h.hS, .int .i64 h.hR, .int .i64 h.hN, .int .i64 h.hP, .slice a' h.hL.length cap', .bool false, .slice b' h.hB.length bc']) ∧ OwnHear wx.heap.size W' h a' cap' b' bc' ∧ Below wx.heap.size wx W') := fun wx hh => by
    have := apartH_ok h a b cap bc hl hb wx hh
    rw [hd] at this
    exact this
  have HPO : Hid (PileOk h.hN h.hP (flushH h r)) := flushH_ok hk r
  have HFF : Hid (0 ≤ f ∧ f ≤ 65535) := hD.2.2.1
  have HX1 : Hid (xs.length ≤ 64) := hD.2.2.2.2
  have HX0 : Hid (1 ≤ xs.length) := hD.2.2.2.1
  have HBX : Hid (∀ z ∈ xs, 0 ≤ z ∧ z ≤ 255) := bx
  obtain ⟨P, hPq⟩ : ∃ P, putsL h.hN h.hP (flushH h r) f xs = P := ⟨_, rfl⟩
  obtain ⟨F, hFq⟩ : ∃ F, (flushH h r) = F := ⟨_, rfl⟩
  have HPA : Hid (∀ (a : Option Addr) (cap base : Nat) (wx : World), base ≤ wx.heap.size → wx.ownsRow base 79 2 (.slice a F.length cap) F.length (symCells F) → Holds .u8 wx.heap.size wx (.slice x xs.length xc) xs → Calls Tryz.prog 33 #[.agg #[.int .i64 h.hN, .int .i64 h.hP, .slice a F.length cap], .agg #[.int .i64 h.hS, .int .i64 r, .int .i64 f, .slice x xs.length xc]] wx fun e W' => ∃ a' cap', e = .returned (.tuple #[.agg #[.int .i64 h.hN, .int .i64 h.hP, .slice a' P.length cap'], .bool true, .int .i64 0]) ∧ W'.ownsRow base 79 2 (.slice a' P.length cap') P.length (symCells P) ∧ Below wx.heap.size wx W') := fun a cap base wx h1 h2 h3 => by
    rw [hFq] at hPq hfr HPO
    have := putAll_ok h.hN h.hP F HPO.out a cap h.hS r f HFF.out xs HX0.out HX1.out HBX.out x xc base wx h1 h2 h3
    rw [hPq, hfr] at this
    exact this
  have dR : (h.hR != r) = true := by rw [bne_iff_ne]; exact hR
  have HFL : Hid (F = []) := by have : (flushH h r) = [] := if_neg (fun e => hR e.symm); rw [← hFq]; exact this
  have HPP : Hid (pileH h r f xs = P) := hPq
  have HTE : Hid (∀ (a b : Option Addr) (cap bc : Nat) (wx : World), Syms wx.heap.size wx (.slice a P.length cap) P → Firsts wx → Calls Tryz.prog 34 #[.agg #[.int .i64 c.cB, .int .i64 c.cBeam, .int .i64 c.cDepth, .int .i64 c.cWin, .int .i64 c.cQs, .int .i64 c.cQr, .int .i64 c.cBatch, .int .i64 c.cPass, .int .i64 c.cMsg, .int .i64 c.cSeqs], .agg #[.int .i64 h.hS, .int .i64 r, .int .i64 h.hN, .int .i64 h.hP, .slice a P.length cap, .bool false, .slice b h.hB.length bc]] wx fun e W' => e = .returned (.tuple #[.slice none 0 0, .bool false]) ∧ Below wx.heap.size wx W') := fun a b cap bc wx h1 h2 => by
    have hPp : PileOk h.hN h.hP P := by rw [← hPq]; exact putsL_ok (flushH_ok hk r) hD.2.2.1.1 bx
    have := tell_ok c hC ⟨h.hS, r, h.hN, h.hP, P, false, h.hB⟩ hk.2.2.2.1 hPp a b cap bc wx h1 h2
    have hto' : tolB c ⟨h.hS, r, h.hN, h.hP, P, false, h.hB⟩ = none := by rw [← hPq]; exact hto
    refine this.mono ?_
    rintro e W' ⟨h3, h4⟩
    rw [hto'] at h3
    rcases h3 with ⟨h5, h6⟩ | ⟨zs', h5, h6⟩
    · exact ⟨h6, h4⟩
    · cases h5
  have HFR : Hid (Firsts w) := hF
  clear HPO HFF HX0 HX1 HBX hPq hFq hfr bx hF hR hto
  clear hl hb hC hk hD hd ha hx
  have k0 := xC.cell 0 _ rfl
  have k1 := xC.cell 1 _ rfl
  have k2 := xC.cell 2 _ rfl
  have k3 := xC.cell 3 _ rfl
  have k4 := xC.cell 4 _ rfl
  have k5 := xC.cell 5 _ rfl
  have k6 := xC.cell 6 _ rfl
  have k7 := xC.cell 7 _ rfl
  have k8 := xC.cell 8 _ rfl
  have k9 := xC.cell 9 _ rfl
  have m0 := xH.cell 0 _ rfl
  have m1 := xH.cell 1 _ rfl
  have m2 := xH.cell 2 _ rfl
  have m3 := xH.cell 3 _ rfl
  have m4 := xH.cell 4 _ rfl
  have m5 := xH.cell 5 _ rfl
  have m6 := xH.cell 6 _ rfl
  go_enter Tryz.func15, Tryz.ntmps15
  go_wp2_with fail
  refine HK.mono ?_
  rintro e w2 ⟨rfl, b2⟩
  have yC := xC.next b2
  have yH := xH.next b2
  have yD := xD.next b2
  have yN := xN.next b2
  have b3 := b1.trans (b2.mono b1.size)
  have hs2 : w.heap.size + 4 ≤ w2.heap.size := Nat.le_trans hs1 b2.size
  have HM := DataMake_at h.hS r f x xs.length xc xs rfl HR.out w2 (HX.out.next b3)
  clear HK xC xH xD xN b1 b2 hs1 HR k0 k1 k2 k3 k4 k5 k6 k7 k8 k9 m0 m1 m2 m3 m4 m5 m6
  have d0 := yD.cell 0 _ rfl
  have d1 := yD.cell 1 _ rfl
  have d2 := yD.cell 2 _ rfl
  have d3 := yD.cell 3 _ rfl
  go_wp2_with fail
  refine HM.mono ?_
  rintro e w4 ⟨q, rfl, _, b4⟩
  replace yC := yC.next b4
  replace yH := yH.next b4
  replace yD := yD.next b4
  replace yN := yN.next b4
  have b5 := b3.trans (b4.mono b3.size)
  have hs4 : w.heap.size + 4 ≤ w4.heap.size := Nat.le_trans hs2 b4.size
  clear HM b3 b4 hs2 d0 d1 d2 d3
  have d0 := yD.cell 0 _ rfl
  have m0 := yH.cell 0 _ rfl
  have m1 := yH.cell 1 _ rfl
  have m2 := yH.cell 2 _ rfl
  have m3 := yH.cell 3 _ rfl
  have m4 := yH.cell 4 _ rfl
  have m5 := yH.cell 5 _ rfl
  have m6 := yH.cell 6 _ rfl
  go_wp2_with fail
  refine (HAP.out _ (HA.out.next b5)).mono ?_
  rintro e w6 ⟨ar, cr, br, dr, rfl, o6, b6⟩
  replace yC := yC.next b6
  replace yD := yD.next b6
  replace yN := yN.next b6
  have b7 := b5.trans (b6.mono b5.size)
  have hs6 : w.heap.size + 4 ≤ w6.heap.size := Nat.le_trans hs4 b6.size
  have hq4 : w4.heap.size ≤ w6.heap.size := b6.size
  clear HAP HA yH b5 b6 d0 m0 m1 m2 m3 m4 m5 m6
  have z0 := yN.cell 0 _ rfl
  have z1 := yN.cell 1 _ rfl
  have z2 := yN.cell 2 _ rfl
  have z3 := yN.cell 3 _ rfl
  have z4 := yN.cell 4 _ rfl
  have z5 := yN.cell 5 _ rfl
  have z6 := yN.cell 6 _ rfl
  have g0 := yN.free 0
  have g1 := yN.free 1
  have g2 := yN.free 2
  have g3 := yN.free 3
  have g4 := yN.free 4
  have g5 := yN.free 5
  have g6 := yN.free 6
  have hlN := yN.lt
  go_upto_region 8 with fail
  obtain ⟨W7, hW7⟩ : ∃ W, ((((((w6.setCell ⟨w.heap.size + 3, 0, none⟩ (.int .i64 h.hS)).setCell ⟨w.heap.size + 3, 1, none⟩ (.int .i64 h.hR)).setCell ⟨w.heap.size + 3, 2, none⟩ (.int .i64 h.hN)).setCell ⟨w.heap.size + 3, 3, none⟩ (.int .i64 h.hP)).setCell ⟨w.heap.size + 3, 4, none⟩ (.slice ar h.hL.length cr)).setCell ⟨w.heap.size + 3, 5, none⟩ (.bool false)).setCell ⟨w.heap.size + 3, 6, none⟩ (.slice br h.hB.length dr) = W := ⟨_, rfl⟩
  have vC := yC.other7c (D := w.heap.size + 3) (by omega) (.int .i64 h.hS) (.int .i64 h.hR) (.int .i64 h.hN) (.int .i64 h.hP) (.slice ar h.hL.length cr) (.bool false) (.slice br h.hB.length dr)
  have vD := yD.other7c (D := w.heap.size + 3) (by omega) (.int .i64 h.hS) (.int .i64 h.hR) (.int .i64 h.hN) (.int .i64 h.hP) (.slice ar h.hL.length cr) (.bool false) (.slice br h.hB.length dr)
  have vN := yN.set7c (.int .i64 h.hS) (.int .i64 h.hR) (.int .i64 h.hN) (.int .i64 h.hP) (.slice ar h.hL.length cr) (.bool false) (.slice br h.hB.length dr)
  have oS := row_set7c o6.syms (D := w.heap.size + 3) (by omega) (.int .i64 h.hS) (.int .i64 h.hR) (.int .i64 h.hN) (.int .i64 h.hP) (.slice ar h.hL.length cr) (.bool false) (.slice br h.hB.length dr)
  have oB := row_set7c o6.byts (D := w.heap.size + 3) (by omega) (.int .i64 h.hS) (.int .i64 h.hR) (.int .i64 h.hN) (.int .i64 h.hP) (.slice ar h.hL.length cr) (.bool false) (.slice br h.hB.length dr)
  have hby : Hid (∀ z ∈ h.hB, 0 ≤ z ∧ z ≤ 255) := o6.byte
  have b8 := below_set7c b7 (D := w.heap.size + 3) (by omega) (.int .i64 h.hS) (.int .i64 h.hR) (.int .i64 h.hN) (.int .i64 h.hP) (.slice ar h.hL.length cr) (.bool false) (.slice br h.hB.length dr)
  have hz7 : w6.heap.size = W7.heap.size := by rw [← hW7]; simp
  rw [hW7] at vC vD vN oS oB b8 ⊢
  rw [hz7] at hs6 hq4
  clear hW7 hz7 yC yD yN o6 b7 hlN z0 g0 z1 g1 z2 g2 z3 g3 z4 g4 z5 g5 z6 g6
  have z0 := vN.cell 0 _ rfl
  have z1 := vN.cell 1 _ rfl
  have z2 := vN.cell 2 _ rfl
  have z3 := vN.cell 3 _ rfl
  have z4 := vN.cell 4 _ rfl
  have z5 := vN.cell 5 _ rfl
  have z6 := vN.cell 6 _ rfl
  have g0 := vN.free 0
  have g1 := vN.free 1
  have g2 := vN.free 2
  have g3 := vN.free 3
  have g4 := vN.free 4
  have g5 := vN.free 5
  have g6 := vN.free 6
  have d1 := vD.cell 1 _ rfl
  have hlN := vN.lt
  go_upto_region 12 with fail
  obtain ⟨W8, hW8⟩ : ∃ W, (W7.setCell ⟨w.heap.size + 3, 1, none⟩ (.int .i64 r)).setCell ⟨w.heap.size + 3, 4, none⟩ (.slice none 0 0) = W := ⟨_, rfl⟩
  replace vC := (vC.other (p := ⟨w.heap.size + 3, 1, none⟩) (by simp) (.int .i64 r)).other (p := ⟨w.heap.size + 3, 4, none⟩) (by simp) (.slice none 0 0)
  replace vD := (vD.other (p := ⟨w.heap.size + 3, 1, none⟩) (by simp) (.int .i64 r)).other (p := ⟨w.heap.size + 3, 4, none⟩) (by simp) (.slice none 0 0)
  replace vN := (vN.set 1 (.int .i64 r)).set 4 (.slice none 0 0)
  simp only [sn] at vN
  replace oB := ownsRow_setCell_below (ownsRow_setCell_below oB (a := ⟨w.heap.size + 3, 1, none⟩) (by simp only; omega) (.int .i64 r)) (a := ⟨w.heap.size + 3, 4, none⟩) (by simp only; omega) (.slice none 0 0)
  replace b8 := (b8.setCell (p := ⟨w.heap.size + 3, 1, none⟩) (by simp only; omega) (.int .i64 r)).setCell (p := ⟨w.heap.size + 3, 4, none⟩) (by simp only; omega) (.slice none 0 0)
  have hz8 : W7.heap.size = W8.heap.size := by rw [← hW8]; simp
  have hs8 : w.heap.size + 4 ≤ W8.heap.size := by rw [← hz8]; exact hs6
  rw [hz8] at hq4
  rw [hW8] at vC vD vN oB b8 ⊢
  clear hW8 hz8 hs6 oS d1 hlN dR z0 g0 z1 g1 z2 g2 z3 g3 z4 g4 z5 g5 z6 g6
  have hF0 := HFL.out
  subst hF0
  have oS : W8.ownsRow w4.heap.size 79 2 (.slice none ([] : List (Int × Int)).length 0) ([] : List (Int × Int)).length (symCells []) := World.ownsRow_nil _ _ _ _
  replace vN : Box W8 (w.heap.size + 3) 39 #[.int .i64 h.hS, .int .i64 r, .int .i64 h.hN, .int .i64 h.hP, .slice none ([] : List (Int × Int)).length 0, .bool false, .slice br h.hB.length dr] := vN
  have hb4 : w4.heap.size ≤ W8.heap.size := hq4
  have z0 := vN.cell 0 _ rfl
  have z1 := vN.cell 1 _ rfl
  have z2 := vN.cell 2 _ rfl
  have z3 := vN.cell 3 _ rfl
  have z4 := vN.cell 4 _ rfl
  have z5 := vN.cell 5 _ rfl
  have z6 := vN.cell 6 _ rfl
  have d0 := vD.cell 0 _ rfl
  have d1 := vD.cell 1 _ rfl
  have d2 := vD.cell 2 _ rfl
  have d3 := vD.cell 3 _ rfl
  go_wp2_with fail
  refine (HPA.out _ _ _ _ hb4 oS (HX.out.next b8)).mono ?_
  rintro e w9 ⟨pa, pc, rfl, oP, b9⟩
  replace vC := vC.next b9
  replace vN := vN.next b9
  replace oB := row_below oB b9 (Nat.le_refl _)
  have b10 := b8.trans (b9.mono b8.size)
  have hs9 : w.heap.size + 4 ≤ w9.heap.size := Nat.le_trans hs8 b9.size
  clear HPA HX vD oS b8 b9 hs8 hq4 hb4 z0 z1 z2 z3 z4 z5 z6 d0 d1 d2 d3
  go_upto_region 13 with fail
  have b11 := b10.alloc b10.size (.cells #[.int .i64 h.hN, .int .i64 h.hP, .slice pa P.length pc] 37)
  have bq := (Below.refl w9.heap.size w9).alloc (Nat.le_refl _) (.cells #[.int .i64 h.hN, .int .i64 h.hP, .slice pa P.length pc] 37)
  have xV := Box.new w9 37 #[.int .i64 h.hN, .int .i64 h.hP, .slice pa P.length pc]
  replace vC := vC.next bq
  replace vN := vN.next bq
  replace oB := row_below oB bq (Nat.le_refl _)
  replace oP := symRow_below oP bq (Nat.le_refl _)
  have hlV : w.heap.size + 3 < w9.heap.size := by omega
  generalize hW10 : w9.alloc (.cells #[.int .i64 h.hN, .int .i64 h.hP, .slice pa P.length pc] 37) = W10 at *
  have hs10 : w.heap.size + 4 ≤ W10.heap.size := by rw [← hW10]; simp; omega
  clear hW10 b10 bq
  have p0 := xV.cell 0 _ rfl
  have p1 := xV.cell 1 _ rfl
  have p2 := xV.cell 2 _ rfl
  have lV := xV.lt
  have z0 := vN.cell 0 _ rfl
  have z1 := vN.cell 1 _ rfl
  have z2 := vN.cell 2 _ rfl
  have z3 := vN.cell 3 _ rfl
  have z4 := vN.cell 4 _ rfl
  have z5 := vN.cell 5 _ rfl
  have z6 := vN.cell 6 _ rfl
  have g0 := vN.free 0
  have g1 := vN.free 1
  have g2 := vN.free 2
  have g3 := vN.free 3
  have g4 := vN.free 4
  have g5 := vN.free 5
  have g6 := vN.free 6
  have lN := vN.lt
  go_upto_region 16 with fail
  obtain ⟨W11, hW11⟩ : ∃ W, ((W10.setCell ⟨w.heap.size + 3, 2, none⟩ (.int .i64 h.hN)).setCell ⟨w.heap.size + 3, 3, none⟩ (.int .i64 h.hP)).setCell ⟨w.heap.size + 3, 4, none⟩ (.slice pa P.length pc) = W := ⟨_, rfl⟩
  replace vC := ((vC.other (p := ⟨w.heap.size + 3, 2, none⟩) (by simp) (.int .i64 h.hN)).other (p := ⟨w.heap.size + 3, 3, none⟩) (by simp) (.int .i64 h.hP)).other (p := ⟨w.heap.size + 3, 4, none⟩) (by simp) (.slice pa P.length pc)
  replace vN := ((vN.set 2 (.int .i64 h.hN)).set 3 (.int .i64 h.hP)).set 4 (.slice pa P.length pc)
  simp only [sn] at vN
  replace oB := ownsRow_setCell_below (ownsRow_setCell_below (ownsRow_setCell_below oB (a := ⟨w.heap.size + 3, 2, none⟩) (by simp only; omega) (.int .i64 h.hN)) (a := ⟨w.heap.size + 3, 3, none⟩) (by simp only; omega) (.int .i64 h.hP)) (a := ⟨w.heap.size + 3, 4, none⟩) (by simp only; omega) (.slice pa P.length pc)
  replace oP := ownsRow_setCell_below (ownsRow_setCell_below (ownsRow_setCell_below oP (a := ⟨w.heap.size + 3, 2, none⟩) (by simp only; omega) (.int .i64 h.hN)) (a := ⟨w.heap.size + 3, 3, none⟩) (by simp only; omega) (.int .i64 h.hP)) (a := ⟨w.heap.size + 3, 4, none⟩) (by simp only; omega) (.slice pa P.length pc)
  have b12 := ((b11.setCell (p := ⟨w.heap.size + 3, 2, none⟩) (by simp only; omega) (.int .i64 h.hN)).setCell (p := ⟨w.heap.size + 3, 3, none⟩) (by simp only; omega) (.int .i64 h.hP)).setCell (p := ⟨w.heap.size + 3, 4, none⟩) (by simp only; omega) (.slice pa P.length pc)
  have hz11 : W10.heap.size = W11.heap.size := by rw [← hW11]; simp
  rw [hW11] at vC vN oB oP b12 ⊢
  rw [hz11] at hs10
  clear hW11 hz11 xV p0 p1 p2 lV lN b11 hlV hs9 z0 g0 z1 g1 z2 g2 z3 g3 z4 g4 z5 g5 z6 g6
  have k0 := vC.cell 0 _ rfl
  have k1 := vC.cell 1 _ rfl
  have k2 := vC.cell 2 _ rfl
  have k3 := vC.cell 3 _ rfl
  have k4 := vC.cell 4 _ rfl
  have k5 := vC.cell 5 _ rfl
  have k6 := vC.cell 6 _ rfl
  have k7 := vC.cell 7 _ rfl
  have k8 := vC.cell 8 _ rfl
  have k9 := vC.cell 9 _ rfl
  have z0 := vN.cell 0 _ rfl
  have z1 := vN.cell 1 _ rfl
  have z2 := vN.cell 2 _ rfl
  have z3 := vN.cell 3 _ rfl
  have z4 := vN.cell 4 _ rfl
  have z5 := vN.cell 5 _ rfl
  have z6 := vN.cell 6 _ rfl
  go_wp2_with fail
  refine (HTE.out _ _ _ _ _ (syms_of_row oP) (HFR.out.next b12)).mono ?_
  rintro e w13 ⟨rfl, b13⟩
  replace vN := vN.next b13
  replace oB := row_below oB b13 (Nat.le_refl _)
  replace oP := symRow_below oP b13 (Nat.le_refl _)
  have b14 := b12.trans (b13.mono b12.size)
  have hs13 : w.heap.size + 4 ≤ w13.heap.size := Nat.le_trans hs10 b13.size
  clear HTE HFR vC k0 k1 k2 k3 k4 k5 k6 k7 k8 k9 z0 z1 z2 z3 z4 z5 z6
  clear b12 b13
  have z0 := vN.cell 0 _ rfl
  have z1 := vN.cell 1 _ rfl
  have z2 := vN.cell 2 _ rfl
  have z3 := vN.cell 3 _ rfl
  have z4 := vN.cell 4 _ rfl
  have z5 := vN.cell 5 _ rfl
  have z6 := vN.cell 6 _ rfl
  have g0 := vN.free 0
  have g1 := vN.free 1
  have g2 := vN.free 2
  have g3 := vN.free 3
  have g4 := vN.free 4
  have g5 := vN.free 5
  have g6 := vN.free 6
  have bz := below_set7c b14 (D := w.heap.size + 3) (by omega) (.int .i64 h.hS) (.int .i64 r) (.int .i64 h.hN) (.int .i64 h.hP) (.slice pa P.length pc) (.bool false) (.slice br h.hB.length dr)
  have os := symRow_base (row_set7c oP (D := w.heap.size + 3) (by omega) (.int .i64 h.hS) (.int .i64 r) (.int .i64 h.hN) (.int .i64 h.hP) (.slice pa P.length pc) (.bool false) (.slice br h.hB.length dr)) (show w.heap.size ≤ _ by omega)
  have ob := row_base (row_set7c oB (D := w.heap.size + 3) (by omega) (.int .i64 h.hS) (.int .i64 r) (.int .i64 h.hN) (.int .i64 h.hP) (.slice pa P.length pc) (.bool false) (.slice br h.hB.length dr)) (show w.heap.size ≤ _ by omega)
  go_wp2
  have hPQ := HPP.out
  subst hPQ
  exact bodyPost_ret (v := .tuple #[.agg #[.int .i64 h.hS, .int .i64 r, .int .i64 h.hN, .int .i64 h.hP, .slice pa (pileH h r f xs).length pc, .bool false, .slice br h.hB.length dr], .bool false, .int .i64 0]) (by simp [results, Tryz.results15, go_sem, z0, z1, z2, z3, z4, z5, z6]) rfl ⟨pa, pc, br, dr, rfl, ⟨os, ob, hby.out⟩, bz⟩

set_option maxRecDepth 100000 in
set_option maxHeartbeats 8000000 in
theorem hearTake_toldS (c : Cfg) (h : Hr) (f : Int) (xs : List Int) (hC : okC c = true) (hk : okH c h) (hD : RightD h.hS h.hR f xs) (hd : h.hD = false) (hfr : freshL h.hN h.hP (flushH h h.hR) f xs = true) (zs : List Int) (hto : tolB c (stayH h h.hR f xs) = some zs) (a b : Option Addr) (cap bc : Nat) (x : Option Addr) (xc : Nat) (w : World) (ha : HearAt w h a cap b bc) (hx : Holds .u8 w.heap.size w (.slice x xs.length xc) xs) (bx : ∀ z ∈ xs, 0 ≤ z ∧ z ≤ 255) (hF : Firsts w) :
    Calls Tryz.prog 15 #[.agg #[.int .i64 c.cB, .int .i64 c.cBeam, .int .i64 c.cDepth, .int .i64 c.cWin, .int .i64 c.cQs, .int .i64 c.cQr, .int .i64 c.cBatch, .int .i64 c.cPass, .int .i64 c.cMsg, .int .i64 c.cSeqs], .agg #[.int .i64 h.hS, .int .i64 h.hR, .int .i64 h.hN, .int .i64 h.hP, .slice a h.hL.length cap, .bool false, .slice b h.hB.length bc], .agg #[.int .i64 h.hS, .int .i64 h.hR, .int .i64 f, .slice x xs.length xc]] w fun e W' => ∃ a' cap' b' bc', e = .returned (.tuple #[.agg #[.int .i64 h.hS, .int .i64 h.hR, .int .i64 h.hN, .int .i64 h.hP, .slice a' 0 cap', .bool true, .slice b' zs.length bc'], .bool true, .int .i64 0]) ∧ OwnHear w.heap.size W' (doneH h h.hR zs) a' cap' b' bc' ∧ Below w.heap.size w W' := by
  obtain ⟨hl, hb⟩ := okH_lens hC hk
  obtain ⟨b1, xC, xH, xD, xN, hs1⟩ := pre4 w #[.int .i64 c.cB, .int .i64 c.cBeam, .int .i64 c.cDepth, .int .i64 c.cWin, .int .i64 c.cQs, .int .i64 c.cQr, .int .i64 c.cBatch, .int .i64 c.cPass, .int .i64 c.cMsg, .int .i64 c.cSeqs] 23 #[.int .i64 h.hS, .int .i64 h.hR, .int .i64 h.hN, .int .i64 h.hP, .slice a h.hL.length cap, .bool false, .slice b h.hB.length bc] 39 #[.int .i64 h.hS, .int .i64 h.hR, .int .i64 f, .slice x xs.length xc] 48 #[.int .i64 0, .int .i64 0, .int .i64 0, .int .i64 0, .slice none 0 0, .bool false, .slice none 0 0] 39
  have HK := HearCheck_ok c h hC hk a b cap bc _ (ha.next b1)
  rw [hd] at HK
  have HA : Hid (HearAt w h a cap b bc) := ha
  have HX : Hid (Holds .u8 w.heap.size w (.slice x xs.length xc) xs) := hx
  have HR : Hid (RightD h.hS h.hR f xs) := hD
  have HAP : Hid (∀ wx : World, HearAt wx h a cap b bc → Calls Tryz.prog 32 #[.agg #[.int .i64 h.hS, .int .i64 h.hR, .int .i64 h.hN, .int .i64 h.hP, .slice a h.hL.length cap, .bool false, .slice b h.hB.length bc]] wx fun e W' => ∃ a' cap' b' bc', e = .returned (.agg #[.int .i64 h.hS, .int .i64 h.hR, .int .i64 h.hN, .int .i64 h.hP, .slice a' h.hL.length cap', .bool false, .slice b' h.hB.length bc']) ∧ OwnHear wx.heap.size W' h a' cap' b' bc' ∧ Below wx.heap.size wx W') := fun wx hh => by
    have := apartH_ok h a b cap bc hl hb wx hh
    rw [hd] at this
    exact this
  have HPO : Hid (PileOk h.hN h.hP (flushH h h.hR)) := flushH_ok hk h.hR
  have HFF : Hid (0 ≤ f ∧ f ≤ 65535) := hD.2.2.1
  have HX1 : Hid (xs.length ≤ 64) := hD.2.2.2.2
  have HX0 : Hid (1 ≤ xs.length) := hD.2.2.2.1
  have HBX : Hid (∀ z ∈ xs, 0 ≤ z ∧ z ≤ 255) := bx
  obtain ⟨P, hPq⟩ : ∃ P, putsL h.hN h.hP (flushH h h.hR) f xs = P := ⟨_, rfl⟩
  obtain ⟨F, hFq⟩ : ∃ F, (flushH h h.hR) = F := ⟨_, rfl⟩
  have HPA : Hid (∀ (a : Option Addr) (cap base : Nat) (wx : World), base ≤ wx.heap.size → wx.ownsRow base 79 2 (.slice a F.length cap) F.length (symCells F) → Holds .u8 wx.heap.size wx (.slice x xs.length xc) xs → Calls Tryz.prog 33 #[.agg #[.int .i64 h.hN, .int .i64 h.hP, .slice a F.length cap], .agg #[.int .i64 h.hS, .int .i64 h.hR, .int .i64 f, .slice x xs.length xc]] wx fun e W' => ∃ a' cap', e = .returned (.tuple #[.agg #[.int .i64 h.hN, .int .i64 h.hP, .slice a' P.length cap'], .bool true, .int .i64 0]) ∧ W'.ownsRow base 79 2 (.slice a' P.length cap') P.length (symCells P) ∧ Below wx.heap.size wx W') := fun a cap base wx h1 h2 h3 => by
    rw [hFq] at hPq hfr HPO
    have := putAll_ok h.hN h.hP F HPO.out a cap h.hS h.hR f HFF.out xs HX0.out HX1.out HBX.out x xc base wx h1 h2 h3
    rw [hPq, hfr] at this
    exact this
  have HFL : Hid (F = h.hL) := by have : (flushH h h.hR) = h.hL := if_pos rfl; rw [← hFq]; exact this
  have HPP : Hid (pileH h h.hR f xs = P) := hPq
  have HTE : Hid (∀ (a b : Option Addr) (cap bc : Nat) (wx : World), Syms wx.heap.size wx (.slice a P.length cap) P → Firsts wx → Calls Tryz.prog 34 #[.agg #[.int .i64 c.cB, .int .i64 c.cBeam, .int .i64 c.cDepth, .int .i64 c.cWin, .int .i64 c.cQs, .int .i64 c.cQr, .int .i64 c.cBatch, .int .i64 c.cPass, .int .i64 c.cMsg, .int .i64 c.cSeqs], .agg #[.int .i64 h.hS, .int .i64 h.hR, .int .i64 h.hN, .int .i64 h.hP, .slice a P.length cap, .bool false, .slice b h.hB.length bc]] wx fun e W' => ∃ qa qc, e = .returned (.tuple #[.slice qa zs.length qc, .bool true]) ∧ W'.ownsRow wx.heap.size 5 1 (.slice qa zs.length qc) zs.length (zs.map (Value.int .u8)) ∧ (∀ z ∈ zs, 0 ≤ z ∧ z ≤ 255) ∧ Below wx.heap.size wx W') := fun a b cap bc wx h1 h2 => by
    have hPp : PileOk h.hN h.hP P := by rw [← hPq]; exact putsL_ok (flushH_ok hk h.hR) hD.2.2.1.1 bx
    have := tell_ok c hC ⟨h.hS, h.hR, h.hN, h.hP, P, false, h.hB⟩ hk.2.2.2.1 hPp a b cap bc wx h1 h2
    have hto' : tolB c ⟨h.hS, h.hR, h.hN, h.hP, P, false, h.hB⟩ = some zs := by rw [← hPq]; exact hto
    refine this.mono ?_
    rintro e W' ⟨h3, h4⟩
    rw [hto'] at h3
    rcases h3 with ⟨h5, h6⟩ | ⟨zs', h5, h6⟩
    · cases h5
    · cases h5
      obtain ⟨qa, qc, h7, h8, h9⟩ := h6
      exact ⟨qa, qc, h7, h8, h9, h4⟩
  have HFR : Hid (Firsts w) := hF
  clear HPO HFF HX0 HX1 HBX hPq hFq hfr bx hF hto
  clear hl hb hC hk hD hd ha hx
  have k0 := xC.cell 0 _ rfl
  have k1 := xC.cell 1 _ rfl
  have k2 := xC.cell 2 _ rfl
  have k3 := xC.cell 3 _ rfl
  have k4 := xC.cell 4 _ rfl
  have k5 := xC.cell 5 _ rfl
  have k6 := xC.cell 6 _ rfl
  have k7 := xC.cell 7 _ rfl
  have k8 := xC.cell 8 _ rfl
  have k9 := xC.cell 9 _ rfl
  have m0 := xH.cell 0 _ rfl
  have m1 := xH.cell 1 _ rfl
  have m2 := xH.cell 2 _ rfl
  have m3 := xH.cell 3 _ rfl
  have m4 := xH.cell 4 _ rfl
  have m5 := xH.cell 5 _ rfl
  have m6 := xH.cell 6 _ rfl
  go_enter Tryz.func15, Tryz.ntmps15
  go_wp2_with fail
  refine HK.mono ?_
  rintro e w2 ⟨rfl, b2⟩
  have yC := xC.next b2
  have yH := xH.next b2
  have yD := xD.next b2
  have yN := xN.next b2
  have b3 := b1.trans (b2.mono b1.size)
  have hs2 : w.heap.size + 4 ≤ w2.heap.size := Nat.le_trans hs1 b2.size
  have HM := DataMake_at h.hS h.hR f x xs.length xc xs rfl HR.out w2 (HX.out.next b3)
  clear HK xC xH xD xN b1 b2 hs1 HR k0 k1 k2 k3 k4 k5 k6 k7 k8 k9 m0 m1 m2 m3 m4 m5 m6
  have d0 := yD.cell 0 _ rfl
  have d1 := yD.cell 1 _ rfl
  have d2 := yD.cell 2 _ rfl
  have d3 := yD.cell 3 _ rfl
  go_wp2_with fail
  refine HM.mono ?_
  rintro e w4 ⟨q, rfl, _, b4⟩
  replace yC := yC.next b4
  replace yH := yH.next b4
  replace yD := yD.next b4
  replace yN := yN.next b4
  have b5 := b3.trans (b4.mono b3.size)
  have hs4 : w.heap.size + 4 ≤ w4.heap.size := Nat.le_trans hs2 b4.size
  clear HM b3 b4 hs2 d0 d1 d2 d3
  have d0 := yD.cell 0 _ rfl
  have m0 := yH.cell 0 _ rfl
  have m1 := yH.cell 1 _ rfl
  have m2 := yH.cell 2 _ rfl
  have m3 := yH.cell 3 _ rfl
  have m4 := yH.cell 4 _ rfl
  have m5 := yH.cell 5 _ rfl
  have m6 := yH.cell 6 _ rfl
  go_wp2_with fail
  refine (HAP.out _ (HA.out.next b5)).mono ?_
  rintro e w6 ⟨ar, cr, br, dr, rfl, o6, b6⟩
  replace yC := yC.next b6
  replace yD := yD.next b6
  replace yN := yN.next b6
  have b7 := b5.trans (b6.mono b5.size)
  have hs6 : w.heap.size + 4 ≤ w6.heap.size := Nat.le_trans hs4 b6.size
  have hq4 : w4.heap.size ≤ w6.heap.size := b6.size
  clear HAP HA yH b5 b6 d0 m0 m1 m2 m3 m4 m5 m6
  have z0 := yN.cell 0 _ rfl
  have z1 := yN.cell 1 _ rfl
  have z2 := yN.cell 2 _ rfl
  have z3 := yN.cell 3 _ rfl
  have z4 := yN.cell 4 _ rfl
  have z5 := yN.cell 5 _ rfl
  have z6 := yN.cell 6 _ rfl
  have g0 := yN.free 0
  have g1 := yN.free 1
  have g2 := yN.free 2
  have g3 := yN.free 3
  have g4 := yN.free 4
  have g5 := yN.free 5
  have g6 := yN.free 6
  have hlN := yN.lt
  go_upto_region 8 with fail
  obtain ⟨W7, hW7⟩ : ∃ W, ((((((w6.setCell ⟨w.heap.size + 3, 0, none⟩ (.int .i64 h.hS)).setCell ⟨w.heap.size + 3, 1, none⟩ (.int .i64 h.hR)).setCell ⟨w.heap.size + 3, 2, none⟩ (.int .i64 h.hN)).setCell ⟨w.heap.size + 3, 3, none⟩ (.int .i64 h.hP)).setCell ⟨w.heap.size + 3, 4, none⟩ (.slice ar h.hL.length cr)).setCell ⟨w.heap.size + 3, 5, none⟩ (.bool false)).setCell ⟨w.heap.size + 3, 6, none⟩ (.slice br h.hB.length dr) = W := ⟨_, rfl⟩
  have vC := yC.other7c (D := w.heap.size + 3) (by omega) (.int .i64 h.hS) (.int .i64 h.hR) (.int .i64 h.hN) (.int .i64 h.hP) (.slice ar h.hL.length cr) (.bool false) (.slice br h.hB.length dr)
  have vD := yD.other7c (D := w.heap.size + 3) (by omega) (.int .i64 h.hS) (.int .i64 h.hR) (.int .i64 h.hN) (.int .i64 h.hP) (.slice ar h.hL.length cr) (.bool false) (.slice br h.hB.length dr)
  have vN := yN.set7c (.int .i64 h.hS) (.int .i64 h.hR) (.int .i64 h.hN) (.int .i64 h.hP) (.slice ar h.hL.length cr) (.bool false) (.slice br h.hB.length dr)
  have oS := row_set7c o6.syms (D := w.heap.size + 3) (by omega) (.int .i64 h.hS) (.int .i64 h.hR) (.int .i64 h.hN) (.int .i64 h.hP) (.slice ar h.hL.length cr) (.bool false) (.slice br h.hB.length dr)
  have oB := row_set7c o6.byts (D := w.heap.size + 3) (by omega) (.int .i64 h.hS) (.int .i64 h.hR) (.int .i64 h.hN) (.int .i64 h.hP) (.slice ar h.hL.length cr) (.bool false) (.slice br h.hB.length dr)
  have hby : Hid (∀ z ∈ h.hB, 0 ≤ z ∧ z ≤ 255) := o6.byte
  have b8 := below_set7c b7 (D := w.heap.size + 3) (by omega) (.int .i64 h.hS) (.int .i64 h.hR) (.int .i64 h.hN) (.int .i64 h.hP) (.slice ar h.hL.length cr) (.bool false) (.slice br h.hB.length dr)
  have hz7 : w6.heap.size = W7.heap.size := by rw [← hW7]; simp
  rw [hW7] at vC vD vN oS oB b8 ⊢
  rw [hz7] at hs6 hq4
  clear hW7 hz7 yC yD yN o6 b7 hlN z0 g0 z1 g1 z2 g2 z3 g3 z4 g4 z5 g5 z6 g6
  obtain ⟨W8, hW8⟩ : ∃ W, W7 = W := ⟨_, rfl⟩
  subst hW8
  rw [← HFL.out] at vN oS
  have hs8 := hs6
  clear HFL hs6
  have hb4 : w4.heap.size ≤ W7.heap.size := hq4
  have z0 := vN.cell 0 _ rfl
  have z1 := vN.cell 1 _ rfl
  have z2 := vN.cell 2 _ rfl
  have z3 := vN.cell 3 _ rfl
  have z4 := vN.cell 4 _ rfl
  have z5 := vN.cell 5 _ rfl
  have z6 := vN.cell 6 _ rfl
  have d0 := vD.cell 0 _ rfl
  have d1 := vD.cell 1 _ rfl
  have d2 := vD.cell 2 _ rfl
  have d3 := vD.cell 3 _ rfl
  go_wp2_with fail
  refine (HPA.out _ _ _ _ hb4 oS (HX.out.next b8)).mono ?_
  rintro e w9 ⟨pa, pc, rfl, oP, b9⟩
  replace vC := vC.next b9
  replace vN := vN.next b9
  replace oB := row_below oB b9 (Nat.le_refl _)
  have b10 := b8.trans (b9.mono b8.size)
  have hs9 : w.heap.size + 4 ≤ w9.heap.size := Nat.le_trans hs8 b9.size
  clear HPA HX vD oS b8 b9 hs8 hq4 hb4 z0 z1 z2 z3 z4 z5 z6 d0 d1 d2 d3
  go_upto_region 13 with fail
  have b11 := b10.alloc b10.size (.cells #[.int .i64 h.hN, .int .i64 h.hP, .slice pa P.length pc] 37)
  have bq := (Below.refl w9.heap.size w9).alloc (Nat.le_refl _) (.cells #[.int .i64 h.hN, .int .i64 h.hP, .slice pa P.length pc] 37)
  have xV := Box.new w9 37 #[.int .i64 h.hN, .int .i64 h.hP, .slice pa P.length pc]
  replace vC := vC.next bq
  replace vN := vN.next bq
  replace oB := row_below oB bq (Nat.le_refl _)
  replace oP := symRow_below oP bq (Nat.le_refl _)
  have hlV : w.heap.size + 3 < w9.heap.size := by omega
  generalize hW10 : w9.alloc (.cells #[.int .i64 h.hN, .int .i64 h.hP, .slice pa P.length pc] 37) = W10 at *
  have hs10 : w.heap.size + 4 ≤ W10.heap.size := by rw [← hW10]; simp; omega
  clear hW10 b10 bq
  have p0 := xV.cell 0 _ rfl
  have p1 := xV.cell 1 _ rfl
  have p2 := xV.cell 2 _ rfl
  have lV := xV.lt
  have z0 := vN.cell 0 _ rfl
  have z1 := vN.cell 1 _ rfl
  have z2 := vN.cell 2 _ rfl
  have z3 := vN.cell 3 _ rfl
  have z4 := vN.cell 4 _ rfl
  have z5 := vN.cell 5 _ rfl
  have z6 := vN.cell 6 _ rfl
  have g0 := vN.free 0
  have g1 := vN.free 1
  have g2 := vN.free 2
  have g3 := vN.free 3
  have g4 := vN.free 4
  have g5 := vN.free 5
  have g6 := vN.free 6
  have lN := vN.lt
  go_upto_region 16 with fail
  obtain ⟨W11, hW11⟩ : ∃ W, ((W10.setCell ⟨w.heap.size + 3, 2, none⟩ (.int .i64 h.hN)).setCell ⟨w.heap.size + 3, 3, none⟩ (.int .i64 h.hP)).setCell ⟨w.heap.size + 3, 4, none⟩ (.slice pa P.length pc) = W := ⟨_, rfl⟩
  replace vC := ((vC.other (p := ⟨w.heap.size + 3, 2, none⟩) (by simp) (.int .i64 h.hN)).other (p := ⟨w.heap.size + 3, 3, none⟩) (by simp) (.int .i64 h.hP)).other (p := ⟨w.heap.size + 3, 4, none⟩) (by simp) (.slice pa P.length pc)
  replace vN := ((vN.set 2 (.int .i64 h.hN)).set 3 (.int .i64 h.hP)).set 4 (.slice pa P.length pc)
  simp only [sn] at vN
  replace oB := ownsRow_setCell_below (ownsRow_setCell_below (ownsRow_setCell_below oB (a := ⟨w.heap.size + 3, 2, none⟩) (by simp only; omega) (.int .i64 h.hN)) (a := ⟨w.heap.size + 3, 3, none⟩) (by simp only; omega) (.int .i64 h.hP)) (a := ⟨w.heap.size + 3, 4, none⟩) (by simp only; omega) (.slice pa P.length pc)
  replace oP := ownsRow_setCell_below (ownsRow_setCell_below (ownsRow_setCell_below oP (a := ⟨w.heap.size + 3, 2, none⟩) (by simp only; omega) (.int .i64 h.hN)) (a := ⟨w.heap.size + 3, 3, none⟩) (by simp only; omega) (.int .i64 h.hP)) (a := ⟨w.heap.size + 3, 4, none⟩) (by simp only; omega) (.slice pa P.length pc)
  have b12 := ((b11.setCell (p := ⟨w.heap.size + 3, 2, none⟩) (by simp only; omega) (.int .i64 h.hN)).setCell (p := ⟨w.heap.size + 3, 3, none⟩) (by simp only; omega) (.int .i64 h.hP)).setCell (p := ⟨w.heap.size + 3, 4, none⟩) (by simp only; omega) (.slice pa P.length pc)
  have hz11 : W10.heap.size = W11.heap.size := by rw [← hW11]; simp
  rw [hW11] at vC vN oB oP b12 ⊢
  rw [hz11] at hs10
  clear hW11 hz11 xV p0 p1 p2 lV lN b11 hlV hs9 z0 g0 z1 g1 z2 g2 z3 g3 z4 g4 z5 g5 z6 g6
  have k0 := vC.cell 0 _ rfl
  have k1 := vC.cell 1 _ rfl
  have k2 := vC.cell 2 _ rfl
  have k3 := vC.cell 3 _ rfl
  have k4 := vC.cell 4 _ rfl
  have k5 := vC.cell 5 _ rfl
  have k6 := vC.cell 6 _ rfl
  have k7 := vC.cell 7 _ rfl
  have k8 := vC.cell 8 _ rfl
  have k9 := vC.cell 9 _ rfl
  have z0 := vN.cell 0 _ rfl
  have z1 := vN.cell 1 _ rfl
  have z2 := vN.cell 2 _ rfl
  have z3 := vN.cell 3 _ rfl
  have z4 := vN.cell 4 _ rfl
  have z5 := vN.cell 5 _ rfl
  have z6 := vN.cell 6 _ rfl
  go_wp2_with fail
  refine (HTE.out _ _ _ _ _ (syms_of_row oP) (HFR.out.next b12)).mono ?_
  rintro e w13 ⟨qa, qc, rfl, oZ, hbz, b13⟩
  replace vN := vN.next b13
  replace oB := row_below oB b13 (Nat.le_refl _)
  replace oP := symRow_below oP b13 (Nat.le_refl _)
  have b14 := b12.trans (b13.mono b12.size)
  have hs13 : w.heap.size + 4 ≤ w13.heap.size := Nat.le_trans hs10 b13.size
  clear HTE HFR vC k0 k1 k2 k3 k4 k5 k6 k7 k8 k9 z0 z1 z2 z3 z4 z5 z6
  have hB12 : w.heap.size + 3 < W11.heap.size := by omega
  clear oP oB HPP b12 b13
  have z0 := vN.cell 0 _ rfl
  have z1 := vN.cell 1 _ rfl
  have z2 := vN.cell 2 _ rfl
  have z3 := vN.cell 3 _ rfl
  have z4 := vN.cell 4 _ rfl
  have z5 := vN.cell 5 _ rfl
  have z6 := vN.cell 6 _ rfl
  have g0 := vN.free 0
  have g1 := vN.free 1
  have g2 := vN.free 2
  have g3 := vN.free 3
  have g4 := vN.free 4
  have g5 := vN.free 5
  have g6 := vN.free 6
  have lN := vN.lt
  go_upto_region 22 with fail
  obtain ⟨W15, hW15⟩ : ∃ W, ((w13.setCell ⟨w.heap.size + 3, 5, none⟩ (.bool true)).setCell ⟨w.heap.size + 3, 6, none⟩ (.slice qa zs.length qc)).setCell ⟨w.heap.size + 3, 4, none⟩ (.slice none 0 0) = W := ⟨_, rfl⟩
  replace vN := ((vN.set 5 (.bool true)).set 6 (.slice qa zs.length qc)).set 4 (.slice none 0 0)
  simp only [sn] at vN
  replace oZ := ownsRow_setCell_below (ownsRow_setCell_below (ownsRow_setCell_below oZ (a := ⟨w.heap.size + 3, 5, none⟩) (by simp only; omega) (.bool true)) (a := ⟨w.heap.size + 3, 6, none⟩) (by simp only; omega) (.slice qa zs.length qc)) (a := ⟨w.heap.size + 3, 4, none⟩) (by simp only; omega) (.slice none 0 0)
  have b15 := ((b14.setCell (p := ⟨w.heap.size + 3, 5, none⟩) (by simp only; omega) (.bool true)).setCell (p := ⟨w.heap.size + 3, 6, none⟩) (by simp only; omega) (.slice qa zs.length qc)).setCell (p := ⟨w.heap.size + 3, 4, none⟩) (by simp only; omega) (.slice none 0 0)
  rw [hW15] at vN oZ b15 ⊢
  clear hW15 b14 lN z0 g0 z1 g1 z2 g2 z3 g3 z4 g4 z5 g5 z6 g6
  have z0 := vN.cell 0 _ rfl
  have z1 := vN.cell 1 _ rfl
  have z2 := vN.cell 2 _ rfl
  have z3 := vN.cell 3 _ rfl
  have z4 := vN.cell 4 _ rfl
  have z5 := vN.cell 5 _ rfl
  have z6 := vN.cell 6 _ rfl
  have g0 := vN.free 0
  have g1 := vN.free 1
  have g2 := vN.free 2
  have g3 := vN.free 3
  have g4 := vN.free 4
  have g5 := vN.free 5
  have g6 := vN.free 6
  have bz := below_set7c b15 (D := w.heap.size + 3) (by omega) (.int .i64 h.hS) (.int .i64 h.hR) (.int .i64 h.hN) (.int .i64 h.hP) (.slice none 0 0) (.bool true) (.slice qa zs.length qc)
  have ob := row_base (row_set7c oZ (D := w.heap.size + 3) (by omega) (.int .i64 h.hS) (.int .i64 h.hR) (.int .i64 h.hN) (.int .i64 h.hP) (.slice none 0 0) (.bool true) (.slice qa zs.length qc)) (show w.heap.size ≤ _ by omega)
  go_wp2
  exact bodyPost_ret (v := .tuple #[.agg #[.int .i64 h.hS, .int .i64 h.hR, .int .i64 h.hN, .int .i64 h.hP, .slice none 0 0, .bool true, .slice qa zs.length qc], .bool true, .int .i64 0]) (by simp [results, Tryz.results15, go_sem, z0, z1, z2, z3, z4, z5, z6]) rfl ⟨none, 0, qa, qc, rfl, ⟨World.ownsRow_nil _ _ _ _, ob, hbz⟩, bz⟩

set_option maxRecDepth 100000 in
set_option maxHeartbeats 8000000 in
theorem hearTake_toldO (c : Cfg) (h : Hr) (r : Int) (f : Int) (xs : List Int) (hC : okC c = true) (hk : okH c h) (hD : RightD h.hS r f xs) (hd : h.hD = false) (hR : ¬ h.hR = r) (hfr : freshL h.hN h.hP (flushH h r) f xs = true) (zs : List Int) (hto : tolB c (stayH h r f xs) = some zs) (a b : Option Addr) (cap bc : Nat) (x : Option Addr) (xc : Nat) (w : World) (ha : HearAt w h a cap b bc) (hx : Holds .u8 w.heap.size w (.slice x xs.length xc) xs) (bx : ∀ z ∈ xs, 0 ≤ z ∧ z ≤ 255) (hF : Firsts w) :
    Calls Tryz.prog 15 #[.agg #[.int .i64 c.cB, .int .i64 c.cBeam, .int .i64 c.cDepth, .int .i64 c.cWin, .int .i64 c.cQs, .int .i64 c.cQr, .int .i64 c.cBatch, .int .i64 c.cPass, .int .i64 c.cMsg, .int .i64 c.cSeqs], .agg #[.int .i64 h.hS, .int .i64 h.hR, .int .i64 h.hN, .int .i64 h.hP, .slice a h.hL.length cap, .bool false, .slice b h.hB.length bc], .agg #[.int .i64 h.hS, .int .i64 r, .int .i64 f, .slice x xs.length xc]] w fun e W' => ∃ a' cap' b' bc', e = .returned (.tuple #[.agg #[.int .i64 h.hS, .int .i64 r, .int .i64 h.hN, .int .i64 h.hP, .slice a' 0 cap', .bool true, .slice b' zs.length bc'], .bool true, .int .i64 0]) ∧ OwnHear w.heap.size W' (doneH h r zs) a' cap' b' bc' ∧ Below w.heap.size w W' := by
  obtain ⟨hl, hb⟩ := okH_lens hC hk
  obtain ⟨b1, xC, xH, xD, xN, hs1⟩ := pre4 w #[.int .i64 c.cB, .int .i64 c.cBeam, .int .i64 c.cDepth, .int .i64 c.cWin, .int .i64 c.cQs, .int .i64 c.cQr, .int .i64 c.cBatch, .int .i64 c.cPass, .int .i64 c.cMsg, .int .i64 c.cSeqs] 23 #[.int .i64 h.hS, .int .i64 h.hR, .int .i64 h.hN, .int .i64 h.hP, .slice a h.hL.length cap, .bool false, .slice b h.hB.length bc] 39 #[.int .i64 h.hS, .int .i64 r, .int .i64 f, .slice x xs.length xc] 48 #[.int .i64 0, .int .i64 0, .int .i64 0, .int .i64 0, .slice none 0 0, .bool false, .slice none 0 0] 39
  have HK := HearCheck_ok c h hC hk a b cap bc _ (ha.next b1)
  rw [hd] at HK
  have HA : Hid (HearAt w h a cap b bc) := ha
  have HX : Hid (Holds .u8 w.heap.size w (.slice x xs.length xc) xs) := hx
  have HR : Hid (RightD h.hS r f xs) := hD
  have HAP : Hid (∀ wx : World, HearAt wx h a cap b bc → Calls Tryz.prog 32 #[.agg #[.int .i64 h.hS, .int .i64 h.hR, .int .i64 h.hN, .int .i64 h.hP, .slice a h.hL.length cap, .bool false, .slice b h.hB.length bc]] wx fun e W' => ∃ a' cap' b' bc', e = .returned (.agg #[.int .i64 h.hS, .int .i64 h.hR, .int .i64 h.hN, .int .i64 h.hP, .slice a' h.hL.length cap', .bool false, .slice b' h.hB.length bc']) ∧ OwnHear wx.heap.size W' h a' cap' b' bc' ∧ Below wx.heap.size wx W') := fun wx hh => by
    have := apartH_ok h a b cap bc hl hb wx hh
    rw [hd] at this
    exact this
  have HPO : Hid (PileOk h.hN h.hP (flushH h r)) := flushH_ok hk r
  have HFF : Hid (0 ≤ f ∧ f ≤ 65535) := hD.2.2.1
  have HX1 : Hid (xs.length ≤ 64) := hD.2.2.2.2
  have HX0 : Hid (1 ≤ xs.length) := hD.2.2.2.1
  have HBX : Hid (∀ z ∈ xs, 0 ≤ z ∧ z ≤ 255) := bx
  obtain ⟨P, hPq⟩ : ∃ P, putsL h.hN h.hP (flushH h r) f xs = P := ⟨_, rfl⟩
  obtain ⟨F, hFq⟩ : ∃ F, (flushH h r) = F := ⟨_, rfl⟩
  have HPA : Hid (∀ (a : Option Addr) (cap base : Nat) (wx : World), base ≤ wx.heap.size → wx.ownsRow base 79 2 (.slice a F.length cap) F.length (symCells F) → Holds .u8 wx.heap.size wx (.slice x xs.length xc) xs → Calls Tryz.prog 33 #[.agg #[.int .i64 h.hN, .int .i64 h.hP, .slice a F.length cap], .agg #[.int .i64 h.hS, .int .i64 r, .int .i64 f, .slice x xs.length xc]] wx fun e W' => ∃ a' cap', e = .returned (.tuple #[.agg #[.int .i64 h.hN, .int .i64 h.hP, .slice a' P.length cap'], .bool true, .int .i64 0]) ∧ W'.ownsRow base 79 2 (.slice a' P.length cap') P.length (symCells P) ∧ Below wx.heap.size wx W') := fun a cap base wx h1 h2 h3 => by
    rw [hFq] at hPq hfr HPO
    have := putAll_ok h.hN h.hP F HPO.out a cap h.hS r f HFF.out xs HX0.out HX1.out HBX.out x xc base wx h1 h2 h3
    rw [hPq, hfr] at this
    exact this
  have dR : (h.hR != r) = true := by rw [bne_iff_ne]; exact hR
  have HFL : Hid (F = []) := by have : (flushH h r) = [] := if_neg (fun e => hR e.symm); rw [← hFq]; exact this
  have HPP : Hid (pileH h r f xs = P) := hPq
  have HTE : Hid (∀ (a b : Option Addr) (cap bc : Nat) (wx : World), Syms wx.heap.size wx (.slice a P.length cap) P → Firsts wx → Calls Tryz.prog 34 #[.agg #[.int .i64 c.cB, .int .i64 c.cBeam, .int .i64 c.cDepth, .int .i64 c.cWin, .int .i64 c.cQs, .int .i64 c.cQr, .int .i64 c.cBatch, .int .i64 c.cPass, .int .i64 c.cMsg, .int .i64 c.cSeqs], .agg #[.int .i64 h.hS, .int .i64 r, .int .i64 h.hN, .int .i64 h.hP, .slice a P.length cap, .bool false, .slice b h.hB.length bc]] wx fun e W' => ∃ qa qc, e = .returned (.tuple #[.slice qa zs.length qc, .bool true]) ∧ W'.ownsRow wx.heap.size 5 1 (.slice qa zs.length qc) zs.length (zs.map (Value.int .u8)) ∧ (∀ z ∈ zs, 0 ≤ z ∧ z ≤ 255) ∧ Below wx.heap.size wx W') := fun a b cap bc wx h1 h2 => by
    have hPp : PileOk h.hN h.hP P := by rw [← hPq]; exact putsL_ok (flushH_ok hk r) hD.2.2.1.1 bx
    have := tell_ok c hC ⟨h.hS, r, h.hN, h.hP, P, false, h.hB⟩ hk.2.2.2.1 hPp a b cap bc wx h1 h2
    have hto' : tolB c ⟨h.hS, r, h.hN, h.hP, P, false, h.hB⟩ = some zs := by rw [← hPq]; exact hto
    refine this.mono ?_
    rintro e W' ⟨h3, h4⟩
    rw [hto'] at h3
    rcases h3 with ⟨h5, h6⟩ | ⟨zs', h5, h6⟩
    · cases h5
    · cases h5
      obtain ⟨qa, qc, h7, h8, h9⟩ := h6
      exact ⟨qa, qc, h7, h8, h9, h4⟩
  have HFR : Hid (Firsts w) := hF
  clear HPO HFF HX0 HX1 HBX hPq hFq hfr bx hF hR hto
  clear hl hb hC hk hD hd ha hx
  have k0 := xC.cell 0 _ rfl
  have k1 := xC.cell 1 _ rfl
  have k2 := xC.cell 2 _ rfl
  have k3 := xC.cell 3 _ rfl
  have k4 := xC.cell 4 _ rfl
  have k5 := xC.cell 5 _ rfl
  have k6 := xC.cell 6 _ rfl
  have k7 := xC.cell 7 _ rfl
  have k8 := xC.cell 8 _ rfl
  have k9 := xC.cell 9 _ rfl
  have m0 := xH.cell 0 _ rfl
  have m1 := xH.cell 1 _ rfl
  have m2 := xH.cell 2 _ rfl
  have m3 := xH.cell 3 _ rfl
  have m4 := xH.cell 4 _ rfl
  have m5 := xH.cell 5 _ rfl
  have m6 := xH.cell 6 _ rfl
  go_enter Tryz.func15, Tryz.ntmps15
  go_wp2_with fail
  refine HK.mono ?_
  rintro e w2 ⟨rfl, b2⟩
  have yC := xC.next b2
  have yH := xH.next b2
  have yD := xD.next b2
  have yN := xN.next b2
  have b3 := b1.trans (b2.mono b1.size)
  have hs2 : w.heap.size + 4 ≤ w2.heap.size := Nat.le_trans hs1 b2.size
  have HM := DataMake_at h.hS r f x xs.length xc xs rfl HR.out w2 (HX.out.next b3)
  clear HK xC xH xD xN b1 b2 hs1 HR k0 k1 k2 k3 k4 k5 k6 k7 k8 k9 m0 m1 m2 m3 m4 m5 m6
  have d0 := yD.cell 0 _ rfl
  have d1 := yD.cell 1 _ rfl
  have d2 := yD.cell 2 _ rfl
  have d3 := yD.cell 3 _ rfl
  go_wp2_with fail
  refine HM.mono ?_
  rintro e w4 ⟨q, rfl, _, b4⟩
  replace yC := yC.next b4
  replace yH := yH.next b4
  replace yD := yD.next b4
  replace yN := yN.next b4
  have b5 := b3.trans (b4.mono b3.size)
  have hs4 : w.heap.size + 4 ≤ w4.heap.size := Nat.le_trans hs2 b4.size
  clear HM b3 b4 hs2 d0 d1 d2 d3
  have d0 := yD.cell 0 _ rfl
  have m0 := yH.cell 0 _ rfl
  have m1 := yH.cell 1 _ rfl
  have m2 := yH.cell 2 _ rfl
  have m3 := yH.cell 3 _ rfl
  have m4 := yH.cell 4 _ rfl
  have m5 := yH.cell 5 _ rfl
  have m6 := yH.cell 6 _ rfl
  go_wp2_with fail
  refine (HAP.out _ (HA.out.next b5)).mono ?_
  rintro e w6 ⟨ar, cr, br, dr, rfl, o6, b6⟩
  replace yC := yC.next b6
  replace yD := yD.next b6
  replace yN := yN.next b6
  have b7 := b5.trans (b6.mono b5.size)
  have hs6 : w.heap.size + 4 ≤ w6.heap.size := Nat.le_trans hs4 b6.size
  have hq4 : w4.heap.size ≤ w6.heap.size := b6.size
  clear HAP HA yH b5 b6 d0 m0 m1 m2 m3 m4 m5 m6
  have z0 := yN.cell 0 _ rfl
  have z1 := yN.cell 1 _ rfl
  have z2 := yN.cell 2 _ rfl
  have z3 := yN.cell 3 _ rfl
  have z4 := yN.cell 4 _ rfl
  have z5 := yN.cell 5 _ rfl
  have z6 := yN.cell 6 _ rfl
  have g0 := yN.free 0
  have g1 := yN.free 1
  have g2 := yN.free 2
  have g3 := yN.free 3
  have g4 := yN.free 4
  have g5 := yN.free 5
  have g6 := yN.free 6
  have hlN := yN.lt
  go_upto_region 8 with fail
  obtain ⟨W7, hW7⟩ : ∃ W, ((((((w6.setCell ⟨w.heap.size + 3, 0, none⟩ (.int .i64 h.hS)).setCell ⟨w.heap.size + 3, 1, none⟩ (.int .i64 h.hR)).setCell ⟨w.heap.size + 3, 2, none⟩ (.int .i64 h.hN)).setCell ⟨w.heap.size + 3, 3, none⟩ (.int .i64 h.hP)).setCell ⟨w.heap.size + 3, 4, none⟩ (.slice ar h.hL.length cr)).setCell ⟨w.heap.size + 3, 5, none⟩ (.bool false)).setCell ⟨w.heap.size + 3, 6, none⟩ (.slice br h.hB.length dr) = W := ⟨_, rfl⟩
  have vC := yC.other7c (D := w.heap.size + 3) (by omega) (.int .i64 h.hS) (.int .i64 h.hR) (.int .i64 h.hN) (.int .i64 h.hP) (.slice ar h.hL.length cr) (.bool false) (.slice br h.hB.length dr)
  have vD := yD.other7c (D := w.heap.size + 3) (by omega) (.int .i64 h.hS) (.int .i64 h.hR) (.int .i64 h.hN) (.int .i64 h.hP) (.slice ar h.hL.length cr) (.bool false) (.slice br h.hB.length dr)
  have vN := yN.set7c (.int .i64 h.hS) (.int .i64 h.hR) (.int .i64 h.hN) (.int .i64 h.hP) (.slice ar h.hL.length cr) (.bool false) (.slice br h.hB.length dr)
  have oS := row_set7c o6.syms (D := w.heap.size + 3) (by omega) (.int .i64 h.hS) (.int .i64 h.hR) (.int .i64 h.hN) (.int .i64 h.hP) (.slice ar h.hL.length cr) (.bool false) (.slice br h.hB.length dr)
  have oB := row_set7c o6.byts (D := w.heap.size + 3) (by omega) (.int .i64 h.hS) (.int .i64 h.hR) (.int .i64 h.hN) (.int .i64 h.hP) (.slice ar h.hL.length cr) (.bool false) (.slice br h.hB.length dr)
  have hby : Hid (∀ z ∈ h.hB, 0 ≤ z ∧ z ≤ 255) := o6.byte
  have b8 := below_set7c b7 (D := w.heap.size + 3) (by omega) (.int .i64 h.hS) (.int .i64 h.hR) (.int .i64 h.hN) (.int .i64 h.hP) (.slice ar h.hL.length cr) (.bool false) (.slice br h.hB.length dr)
  have hz7 : w6.heap.size = W7.heap.size := by rw [← hW7]; simp
  rw [hW7] at vC vD vN oS oB b8 ⊢
  rw [hz7] at hs6 hq4
  clear hW7 hz7 yC yD yN o6 b7 hlN z0 g0 z1 g1 z2 g2 z3 g3 z4 g4 z5 g5 z6 g6
  have z0 := vN.cell 0 _ rfl
  have z1 := vN.cell 1 _ rfl
  have z2 := vN.cell 2 _ rfl
  have z3 := vN.cell 3 _ rfl
  have z4 := vN.cell 4 _ rfl
  have z5 := vN.cell 5 _ rfl
  have z6 := vN.cell 6 _ rfl
  have g0 := vN.free 0
  have g1 := vN.free 1
  have g2 := vN.free 2
  have g3 := vN.free 3
  have g4 := vN.free 4
  have g5 := vN.free 5
  have g6 := vN.free 6
  have d1 := vD.cell 1 _ rfl
  have hlN := vN.lt
  go_upto_region 12 with fail
  obtain ⟨W8, hW8⟩ : ∃ W, (W7.setCell ⟨w.heap.size + 3, 1, none⟩ (.int .i64 r)).setCell ⟨w.heap.size + 3, 4, none⟩ (.slice none 0 0) = W := ⟨_, rfl⟩
  replace vC := (vC.other (p := ⟨w.heap.size + 3, 1, none⟩) (by simp) (.int .i64 r)).other (p := ⟨w.heap.size + 3, 4, none⟩) (by simp) (.slice none 0 0)
  replace vD := (vD.other (p := ⟨w.heap.size + 3, 1, none⟩) (by simp) (.int .i64 r)).other (p := ⟨w.heap.size + 3, 4, none⟩) (by simp) (.slice none 0 0)
  replace vN := (vN.set 1 (.int .i64 r)).set 4 (.slice none 0 0)
  simp only [sn] at vN
  replace oB := ownsRow_setCell_below (ownsRow_setCell_below oB (a := ⟨w.heap.size + 3, 1, none⟩) (by simp only; omega) (.int .i64 r)) (a := ⟨w.heap.size + 3, 4, none⟩) (by simp only; omega) (.slice none 0 0)
  replace b8 := (b8.setCell (p := ⟨w.heap.size + 3, 1, none⟩) (by simp only; omega) (.int .i64 r)).setCell (p := ⟨w.heap.size + 3, 4, none⟩) (by simp only; omega) (.slice none 0 0)
  have hz8 : W7.heap.size = W8.heap.size := by rw [← hW8]; simp
  have hs8 : w.heap.size + 4 ≤ W8.heap.size := by rw [← hz8]; exact hs6
  rw [hz8] at hq4
  rw [hW8] at vC vD vN oB b8 ⊢
  clear hW8 hz8 hs6 oS d1 hlN dR z0 g0 z1 g1 z2 g2 z3 g3 z4 g4 z5 g5 z6 g6
  have hF0 := HFL.out
  subst hF0
  have oS : W8.ownsRow w4.heap.size 79 2 (.slice none ([] : List (Int × Int)).length 0) ([] : List (Int × Int)).length (symCells []) := World.ownsRow_nil _ _ _ _
  replace vN : Box W8 (w.heap.size + 3) 39 #[.int .i64 h.hS, .int .i64 r, .int .i64 h.hN, .int .i64 h.hP, .slice none ([] : List (Int × Int)).length 0, .bool false, .slice br h.hB.length dr] := vN
  have hb4 : w4.heap.size ≤ W8.heap.size := hq4
  have z0 := vN.cell 0 _ rfl
  have z1 := vN.cell 1 _ rfl
  have z2 := vN.cell 2 _ rfl
  have z3 := vN.cell 3 _ rfl
  have z4 := vN.cell 4 _ rfl
  have z5 := vN.cell 5 _ rfl
  have z6 := vN.cell 6 _ rfl
  have d0 := vD.cell 0 _ rfl
  have d1 := vD.cell 1 _ rfl
  have d2 := vD.cell 2 _ rfl
  have d3 := vD.cell 3 _ rfl
  go_wp2_with fail
  refine (HPA.out _ _ _ _ hb4 oS (HX.out.next b8)).mono ?_
  rintro e w9 ⟨pa, pc, rfl, oP, b9⟩
  replace vC := vC.next b9
  replace vN := vN.next b9
  replace oB := row_below oB b9 (Nat.le_refl _)
  have b10 := b8.trans (b9.mono b8.size)
  have hs9 : w.heap.size + 4 ≤ w9.heap.size := Nat.le_trans hs8 b9.size
  clear HPA HX vD oS b8 b9 hs8 hq4 hb4 z0 z1 z2 z3 z4 z5 z6 d0 d1 d2 d3
  go_upto_region 13 with fail
  have b11 := b10.alloc b10.size (.cells #[.int .i64 h.hN, .int .i64 h.hP, .slice pa P.length pc] 37)
  have bq := (Below.refl w9.heap.size w9).alloc (Nat.le_refl _) (.cells #[.int .i64 h.hN, .int .i64 h.hP, .slice pa P.length pc] 37)
  have xV := Box.new w9 37 #[.int .i64 h.hN, .int .i64 h.hP, .slice pa P.length pc]
  replace vC := vC.next bq
  replace vN := vN.next bq
  replace oB := row_below oB bq (Nat.le_refl _)
  replace oP := symRow_below oP bq (Nat.le_refl _)
  have hlV : w.heap.size + 3 < w9.heap.size := by omega
  generalize hW10 : w9.alloc (.cells #[.int .i64 h.hN, .int .i64 h.hP, .slice pa P.length pc] 37) = W10 at *
  have hs10 : w.heap.size + 4 ≤ W10.heap.size := by rw [← hW10]; simp; omega
  clear hW10 b10 bq
  have p0 := xV.cell 0 _ rfl
  have p1 := xV.cell 1 _ rfl
  have p2 := xV.cell 2 _ rfl
  have lV := xV.lt
  have z0 := vN.cell 0 _ rfl
  have z1 := vN.cell 1 _ rfl
  have z2 := vN.cell 2 _ rfl
  have z3 := vN.cell 3 _ rfl
  have z4 := vN.cell 4 _ rfl
  have z5 := vN.cell 5 _ rfl
  have z6 := vN.cell 6 _ rfl
  have g0 := vN.free 0
  have g1 := vN.free 1
  have g2 := vN.free 2
  have g3 := vN.free 3
  have g4 := vN.free 4
  have g5 := vN.free 5
  have g6 := vN.free 6
  have lN := vN.lt
  go_upto_region 16 with fail
  obtain ⟨W11, hW11⟩ : ∃ W, ((W10.setCell ⟨w.heap.size + 3, 2, none⟩ (.int .i64 h.hN)).setCell ⟨w.heap.size + 3, 3, none⟩ (.int .i64 h.hP)).setCell ⟨w.heap.size + 3, 4, none⟩ (.slice pa P.length pc) = W := ⟨_, rfl⟩
  replace vC := ((vC.other (p := ⟨w.heap.size + 3, 2, none⟩) (by simp) (.int .i64 h.hN)).other (p := ⟨w.heap.size + 3, 3, none⟩) (by simp) (.int .i64 h.hP)).other (p := ⟨w.heap.size + 3, 4, none⟩) (by simp) (.slice pa P.length pc)
  replace vN := ((vN.set 2 (.int .i64 h.hN)).set 3 (.int .i64 h.hP)).set 4 (.slice pa P.length pc)
  simp only [sn] at vN
  replace oB := ownsRow_setCell_below (ownsRow_setCell_below (ownsRow_setCell_below oB (a := ⟨w.heap.size + 3, 2, none⟩) (by simp only; omega) (.int .i64 h.hN)) (a := ⟨w.heap.size + 3, 3, none⟩) (by simp only; omega) (.int .i64 h.hP)) (a := ⟨w.heap.size + 3, 4, none⟩) (by simp only; omega) (.slice pa P.length pc)
  replace oP := ownsRow_setCell_below (ownsRow_setCell_below (ownsRow_setCell_below oP (a := ⟨w.heap.size + 3, 2, none⟩) (by simp only; omega) (.int .i64 h.hN)) (a := ⟨w.heap.size + 3, 3, none⟩) (by simp only; omega) (.int .i64 h.hP)) (a := ⟨w.heap.size + 3, 4, none⟩) (by simp only; omega) (.slice pa P.length pc)
  have b12 := ((b11.setCell (p := ⟨w.heap.size + 3, 2, none⟩) (by simp only; omega) (.int .i64 h.hN)).setCell (p := ⟨w.heap.size + 3, 3, none⟩) (by simp only; omega) (.int .i64 h.hP)).setCell (p := ⟨w.heap.size + 3, 4, none⟩) (by simp only; omega) (.slice pa P.length pc)
  have hz11 : W10.heap.size = W11.heap.size := by rw [← hW11]; simp
  rw [hW11] at vC vN oB oP b12 ⊢
  rw [hz11] at hs10
  clear hW11 hz11 xV p0 p1 p2 lV lN b11 hlV hs9 z0 g0 z1 g1 z2 g2 z3 g3 z4 g4 z5 g5 z6 g6
  have k0 := vC.cell 0 _ rfl
  have k1 := vC.cell 1 _ rfl
  have k2 := vC.cell 2 _ rfl
  have k3 := vC.cell 3 _ rfl
  have k4 := vC.cell 4 _ rfl
  have k5 := vC.cell 5 _ rfl
  have k6 := vC.cell 6 _ rfl
  have k7 := vC.cell 7 _ rfl
  have k8 := vC.cell 8 _ rfl
  have k9 := vC.cell 9 _ rfl
  have z0 := vN.cell 0 _ rfl
  have z1 := vN.cell 1 _ rfl
  have z2 := vN.cell 2 _ rfl
  have z3 := vN.cell 3 _ rfl
  have z4 := vN.cell 4 _ rfl
  have z5 := vN.cell 5 _ rfl
  have z6 := vN.cell 6 _ rfl
  go_wp2_with fail
  refine (HTE.out _ _ _ _ _ (syms_of_row oP) (HFR.out.next b12)).mono ?_
  rintro e w13 ⟨qa, qc, rfl, oZ, hbz, b13⟩
  replace vN := vN.next b13
  replace oB := row_below oB b13 (Nat.le_refl _)
  replace oP := symRow_below oP b13 (Nat.le_refl _)
  have b14 := b12.trans (b13.mono b12.size)
  have hs13 : w.heap.size + 4 ≤ w13.heap.size := Nat.le_trans hs10 b13.size
  clear HTE HFR vC k0 k1 k2 k3 k4 k5 k6 k7 k8 k9 z0 z1 z2 z3 z4 z5 z6
  have hB12 : w.heap.size + 3 < W11.heap.size := by omega
  clear oP oB HPP b12 b13
  have z0 := vN.cell 0 _ rfl
  have z1 := vN.cell 1 _ rfl
  have z2 := vN.cell 2 _ rfl
  have z3 := vN.cell 3 _ rfl
  have z4 := vN.cell 4 _ rfl
  have z5 := vN.cell 5 _ rfl
  have z6 := vN.cell 6 _ rfl
  have g0 := vN.free 0
  have g1 := vN.free 1
  have g2 := vN.free 2
  have g3 := vN.free 3
  have g4 := vN.free 4
  have g5 := vN.free 5
  have g6 := vN.free 6
  have lN := vN.lt
  go_upto_region 22 with fail
  obtain ⟨W15, hW15⟩ : ∃ W, ((w13.setCell ⟨w.heap.size + 3, 5, none⟩ (.bool true)).setCell ⟨w.heap.size + 3, 6, none⟩ (.slice qa zs.length qc)).setCell ⟨w.heap.size + 3, 4, none⟩ (.slice none 0 0) = W := ⟨_, rfl⟩
  replace vN := ((vN.set 5 (.bool true)).set 6 (.slice qa zs.length qc)).set 4 (.slice none 0 0)
  simp only [sn] at vN
  replace oZ := ownsRow_setCell_below (ownsRow_setCell_below (ownsRow_setCell_below oZ (a := ⟨w.heap.size + 3, 5, none⟩) (by simp only; omega) (.bool true)) (a := ⟨w.heap.size + 3, 6, none⟩) (by simp only; omega) (.slice qa zs.length qc)) (a := ⟨w.heap.size + 3, 4, none⟩) (by simp only; omega) (.slice none 0 0)
  have b15 := ((b14.setCell (p := ⟨w.heap.size + 3, 5, none⟩) (by simp only; omega) (.bool true)).setCell (p := ⟨w.heap.size + 3, 6, none⟩) (by simp only; omega) (.slice qa zs.length qc)).setCell (p := ⟨w.heap.size + 3, 4, none⟩) (by simp only; omega) (.slice none 0 0)
  rw [hW15] at vN oZ b15 ⊢
  clear hW15 b14 lN z0 g0 z1 g1 z2 g2 z3 g3 z4 g4 z5 g5 z6 g6
  have z0 := vN.cell 0 _ rfl
  have z1 := vN.cell 1 _ rfl
  have z2 := vN.cell 2 _ rfl
  have z3 := vN.cell 3 _ rfl
  have z4 := vN.cell 4 _ rfl
  have z5 := vN.cell 5 _ rfl
  have z6 := vN.cell 6 _ rfl
  have g0 := vN.free 0
  have g1 := vN.free 1
  have g2 := vN.free 2
  have g3 := vN.free 3
  have g4 := vN.free 4
  have g5 := vN.free 5
  have g6 := vN.free 6
  have bz := below_set7c b15 (D := w.heap.size + 3) (by omega) (.int .i64 h.hS) (.int .i64 r) (.int .i64 h.hN) (.int .i64 h.hP) (.slice none 0 0) (.bool true) (.slice qa zs.length qc)
  have ob := row_base (row_set7c oZ (D := w.heap.size + 3) (by omega) (.int .i64 h.hS) (.int .i64 r) (.int .i64 h.hN) (.int .i64 h.hP) (.slice none 0 0) (.bool true) (.slice qa zs.length qc)) (show w.heap.size ≤ _ by omega)
  go_wp2
  exact bodyPost_ret (v := .tuple #[.agg #[.int .i64 h.hS, .int .i64 r, .int .i64 h.hN, .int .i64 h.hP, .slice none 0 0, .bool true, .slice qa zs.length qc], .bool true, .int .i64 0]) (by simp [results, Tryz.results15, go_sem, z0, z1, z2, z3, z4, z5, z6]) rfl ⟨none, 0, qa, qc, rfl, ⟨World.ownsRow_nil _ _ _ _, ob, hbz⟩, bz⟩

theorem HearTake_ok (c : Cfg) (h : Hr) (r f : Int) (xs : List Int) (hC : okC c = true) (hk : okH c h) (hD : RightD h.hS r f xs) (a b : Option Addr) (cap bc : Nat) (x : Option Addr) (xc : Nat) (w : World) (ha : HearAt w h a cap b bc) (hx : Holds .u8 w.heap.size w (.slice x xs.length xc) xs) (_hX : xs.length ≤ xc) (bx : ∀ z ∈ xs, 0 ≤ z ∧ z ≤ 255) (hF : Firsts w) :
    Calls Tryz.prog 15 #[.agg #[.int .i64 c.cB, .int .i64 c.cBeam, .int .i64 c.cDepth, .int .i64 c.cWin, .int .i64 c.cQs, .int .i64 c.cQr, .int .i64 c.cBatch, .int .i64 c.cPass, .int .i64 c.cMsg, .int .i64 c.cSeqs], .agg #[.int .i64 h.hS, .int .i64 h.hR, .int .i64 h.hN, .int .i64 h.hP, .slice a h.hL.length cap, .bool h.hD, .slice b h.hB.length bc], .agg #[.int .i64 h.hS, .int .i64 r, .int .i64 f, .slice x xs.length xc]] w fun e W' => ∃ a' cap' b' bc', e = .returned (.tuple #[.agg #[.int .i64 (takeH c h r f xs).1.hS, .int .i64 (takeH c h r f xs).1.hR, .int .i64 (takeH c h r f xs).1.hN, .int .i64 (takeH c h r f xs).1.hP, .slice a' (takeH c h r f xs).1.hL.length cap', .bool (takeH c h r f xs).1.hD, .slice b' (takeH c h r f xs).1.hB.length bc'], .bool (takeH c h r f xs).2, .int .i64 0]) ∧ OwnHear w.heap.size W' (takeH c h r f xs).1 a' cap' b' bc' ∧ Below w.heap.size w W' := by
  cases hd : h.hD with
  | true =>
    rw [takeH_done hd]
    refine (hearTake_done c h r f xs hC hk hD hd a b cap bc x xc w ha hx bx hF).mono ?_
    rintro e W' ⟨a', cap', b', bc', he, ho, hb⟩
    exact ⟨a', cap', b', bc', by rw [he, hd], ho, hb⟩
  | false =>
    cases hf : freshL h.hN h.hP (flushH h r) f xs with
    | false =>
      rw [takeH_none hd (gotH_stale hf)]
      by_cases hR : h.hR = r
      · subst hR
        exact hearTake_staleS c h f xs hC hk hD hd hf a b cap bc x xc w ha hx bx hF
      · exact hearTake_staleO c h r f xs hC hk hD hd hR hf a b cap bc x xc w ha hx bx hF
    | true =>
      have hg := gotH_tol (c := c) hf
      cases ht : tolB c (stayH h r f xs) with
      | none =>
        rw [takeH_none hd (hg.trans ht)]
        by_cases hR : h.hR = r
        · subst hR
          exact hearTake_untoldS c h f xs hC hk hD hd hf ht a b cap bc x xc w ha hx bx hF
        · exact hearTake_untoldO c h r f xs hC hk hD hd hR hf ht a b cap bc x xc w ha hx bx hF
      | some zs =>
        rw [takeH_some hd (hg.trans ht)]
        by_cases hR : h.hR = r
        · subst hR
          exact hearTake_toldS c h f xs hC hk hD hd hf zs ht a b cap bc x xc w ha hx bx hF
        · exact hearTake_toldO c h r f xs hC hk hD hd hR hf zs ht a b cap bc x xc w ha hx bx hF

end Go.Proofs.YtkigbanldiialaaGreatDoor
