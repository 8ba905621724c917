/-
  What package emit answers (apart, packetOf, Check, New, Tick). (Written by tpl_emitcode.py.)
-/
import Derived.Test.YtmjidhnlofpliaaDoorM11
import Derived.Test.YtmjidhnlofpliaaDoorM21
import Derived.Test.YtmjidhnlofpliaaDoorM24
import Derived.Test.YtmjidhnlofpliaaDoorM26
namespace Go.Proofs.YtmjidhnlofpliaaDoor
open Go.RowKit

theorem row_shapeE {W : World} {base k : Nat} {e : TypeId} {v : Value} {xs : List Value} (h : W.ownsRow base e 1 v k xs) : ∃ a c, v = .slice a k c := by
  rcases h.2 with ⟨rfl, rfl⟩ | ⟨g, cap, cur, rfl, _⟩
  · exact ⟨_, _, rfl⟩
  · exact ⟨_, _, rfl⟩
theorem below_set5e {W V : World} {n : Nat} (h : Below n W V) {D : Nat} (hD : n ≤ D) (x y z u t : Value) : Below n W (((((V.setCell ⟨D, 0, none⟩ x).setCell ⟨D, 1, none⟩ y).setCell ⟨D, 2, none⟩ z).setCell ⟨D, 3, none⟩ u).setCell ⟨D, 4, none⟩ t) := ((((h.setCell (p := ⟨D, 0, none⟩) hD x).setCell (p := ⟨D, 1, none⟩) hD y).setCell (p := ⟨D, 2, none⟩) hD z).setCell (p := ⟨D, 3, none⟩) hD u).setCell (p := ⟨D, 4, none⟩) hD t
theorem row_set5e {w : World} {base : Nat} {e : TypeId} {v : Value} {n : Nat} {xs : List Value} (h : w.ownsRow base e 1 v n xs) {D : Nat} (hD : D < base) (x y z u t : Value) : (((((w.setCell ⟨D, 0, none⟩ x).setCell ⟨D, 1, none⟩ y).setCell ⟨D, 2, none⟩ z).setCell ⟨D, 3, none⟩ u).setCell ⟨D, 4, none⟩ t).ownsRow base e 1 v n xs := ownsRow_setCell_below (ownsRow_setCell_below (ownsRow_setCell_below (ownsRow_setCell_below (ownsRow_setCell_below h (a := ⟨D, 0, none⟩) hD x) (a := ⟨D, 1, none⟩) hD y) (a := ⟨D, 2, none⟩) hD z) (a := ⟨D, 3, none⟩) hD u) (a := ⟨D, 4, none⟩) hD t
theorem Box.set5e {W : World} {B : Nat} {t : TypeId} {x y z u v : Value} (h : Box W B t #[x, y, z, u, v]) (x' y' z' u' v' : Value) : Box (((((W.setCell ⟨B, 0, none⟩ x').setCell ⟨B, 1, none⟩ y').setCell ⟨B, 2, none⟩ z').setCell ⟨B, 3, none⟩ u').setCell ⟨B, 4, none⟩ v') B t #[x', y', z', u', v'] := ((((h.set 0 x').set 1 y').set 2 z').set 3 u').set 4 v'
theorem Box.other5e {W : World} {B : Nat} {t : TypeId} {cs : Array Value} (h : Box W B t cs) {D : Nat} (hp : B ≠ D) (x y z u v : Value) : Box (((((W.setCell ⟨D, 0, none⟩ x).setCell ⟨D, 1, none⟩ y).setCell ⟨D, 2, none⟩ z).setCell ⟨D, 3, none⟩ u).setCell ⟨D, 4, none⟩ v) B t cs := ((((h.other (p := ⟨D, 0, none⟩) hp x).other (p := ⟨D, 1, none⟩) hp y).other (p := ⟨D, 2, none⟩) hp z).other (p := ⟨D, 3, none⟩) hp u).other (p := ⟨D, 4, none⟩) hp v

set_option maxRecDepth 100000 in
set_option maxHeartbeats 2000000 in
theorem cloneE_ok (a : Option Addr) (cap : Nat) (zs : List Int) (hl : zs.length ≤ 4096) (w : World) (ha : Holds .u8 w.heap.size w (.slice a zs.length cap) zs) :
    Calls Tryd.prog 39 #[.slice a zs.length cap] w fun e W' => ∃ r, e = .returned r ∧ W'.ownsRow w.heap.size 5 1 r zs.length (zs.map (Value.int .u8)) ∧ Below w.heap.size w W' := by
  have qS : ∀ (w : World) (a : Option Addr) (n c n' c' : Nat), (binOp .eql 35 (.slice a n c) (.slice none n' c')).run Tryd.prog w = .ok (.bool a.isNone) w := fun w a n c n' c' => Lib.run_eql_slice_nil w _ _ a n c n' c' Tryd.underlying35
  cases a with
  | none =>
    have h0 : zs = [] := by
      rcases ha with ⟨_, h⟩ | ⟨b, off, c, e, _⟩
      · exact h
      · simp only [Value.slice.injEq] at e; exact absurd e.1 (by simp)
    subst h0
    clear ha
    go_enter Tryd.func39, Tryd.ntmps39
    go_wp2
    go_ret
    exact ⟨_, rfl, World.ownsRow_nil _ _ _ _, Below.refl _ _⟩
  | some ad =>
    have o0 : (w.alloc (.cells #[] 5)).ownsRow w.heap.size 5 1 (.slice (some ⟨w.heap.size, 0, none⟩) 0 0) 0 (([] : List Int).map (Value.int .u8)) := World.ownsRow_made w #[] 0 (Nat.le_refl _) (Nat.zero_le _) rfl
    have b0 := (Below.refl w.heap.size w).alloc (Nat.le_refl _) (.cells #[] 5)
    obtain ⟨v3, w3, hr3, ho3, hg3⟩ := run_append_u8 (.slice (some ⟨w.heap.size, 0, none⟩) 0 0) (.slice (some ad) zs.length cap) 0 w.heap.size _ [] zs 35 (w.alloc (.cells #[] 5)) o0 (ha.below b0) (by simp) (by omega) (by omega)
    have b3 := b0.trans ((Below.refl w.heap.size _).grown hg3 (by simp) (fun q e => (o0.lt q e).1))
    have HR3 : Hid _ := hr3
    clear hr3 ha o0 hg3
    go_enter Tryd.func39, Tryd.ntmps39
    go_wp2_with (at_builtin; refine wpList_append_known rfl _ _ 35 rfl _ _ rfl rfl _ _ HR3.out ?_)
    go_ret
    refine ⟨_, rfl, ?_, b3⟩
    simpa using ho3

set_option maxRecDepth 100000 in
set_option maxHeartbeats 2000000 in
theorem apart_ok (s r f : Int) (k : Bool) (a : Option Addr) (n cap : Nat) (zs : List Int) (hn : zs.length = n) (hl : n ≤ 4096) (w : World) (ha : Holds .u8 w.heap.size w (.slice a n cap) zs) :
    Calls Tryd.prog 42 #[.agg #[.int .i64 s, .int .i64 r, .int .i64 f, .bool k, .slice a n cap]] w fun e W' => ∃ ra rc, e = .returned (.agg #[.int .i64 s, .int .i64 r, .int .i64 f, .bool k, .slice ra n rc]) ∧ W'.ownsRow w.heap.size 5 1 (.slice ra n rc) n ((zs).map (Value.int .u8)) ∧ Below w.heap.size w W' := by
  subst hn
  have b1 := ((Below.refl w.heap.size w).alloc (Nat.le_refl _) (.cells #[.int .i64 s, .int .i64 r, .int .i64 f, .bool k, .slice a zs.length cap] 47)).alloc (by simp) (.cells #[.int .i64 0, .int .i64 0, .int .i64 0, .bool false, .slice none 0 0] 47)
  have HC := cloneE_ok a cap zs hl ((w.alloc (.cells #[.int .i64 s, .int .i64 r, .int .i64 f, .bool k, .slice a zs.length cap] 47)).alloc (.cells #[.int .i64 0, .int .i64 0, .int .i64 0, .bool false, .slice none 0 0] 47)) ((ha.below b1).mono b1.size)
  have x1 := (Box.new w 47 #[.int .i64 s, .int .i64 r, .int .i64 f, .bool k, .slice a zs.length cap]).alloc (.cells #[.int .i64 0, .int .i64 0, .int .i64 0, .bool false, .slice none 0 0] 47)
  have x2 := Box.new (w.alloc (.cells #[.int .i64 s, .int .i64 r, .int .i64 f, .bool k, .slice a zs.length cap] 47)) 47 #[.int .i64 0, .int .i64 0, .int .i64 0, .bool false, .slice none 0 0]
  rw [show (w.alloc (.cells #[.int .i64 s, .int .i64 r, .int .i64 f, .bool k, .slice a zs.length cap] 47)).heap.size = w.heap.size + 1 by simp] at x2
  have hs2 : w.heap.size + 2 ≤ ((w.alloc (.cells #[.int .i64 s, .int .i64 r, .int .i64 f, .bool k, .slice a zs.length cap] 47)).alloc (.cells #[.int .i64 0, .int .i64 0, .int .i64 0, .bool false, .slice none 0 0] 47)).heap.size := by simp
  clear ha
  go_enter Tryd.func42, Tryd.ntmps42
  go_wp2_with fail
  refine HC.mono ?_
  rintro e w2 ⟨v2, rfl, o2, b2⟩
  obtain ⟨ar, cr, rfl⟩ := row_shapeE o2
  have y1 := x1.next b2
  have y2 := x2.next b2
  have k0 := y1.cell 0 _ rfl
  have k1 := y1.cell 1 _ rfl
  have k2 := y1.cell 2 _ rfl
  have k3 := y1.cell 3 _ rfl
  have k4 := y1.cell 4 _ rfl
  have m0 := y2.cell 0 _ rfl
  have m1 := y2.cell 1 _ rfl
  have m2 := y2.cell 2 _ rfl
  have m3 := y2.cell 3 _ rfl
  have m4 := y2.cell 4 _ rfl
  have f4 := y1.free 4
  have g0 := y2.free 0
  have g1 := y2.free 1
  have g2 := y2.free 2
  have g3 := y2.free 3
  have g4 := y2.free 4
  have b3 := b1.trans (b2.mono (by omega))
  have o3 := row_set5e (ownsRow_setCell_below o2 (a := ⟨w.heap.size, 4, none⟩) (by simp only; omega) (.slice ar zs.length cr)) (D := w.heap.size + 1) (by omega) (.int .i64 s) (.int .i64 r) (.int .i64 f) (.bool k) (.slice ar zs.length cr)
  have o4 := row_base o3 (show w.heap.size ≤ _ by omega)
  have b4 := below_set5e (b3.setCell (p := ⟨w.heap.size, 4, none⟩) (Nat.le_refl _) (.slice ar zs.length cr)) (D := w.heap.size + 1) (by omega) (.int .i64 s) (.int .i64 r) (.int .i64 f) (.bool k) (.slice ar zs.length cr)
  clear o2 o3 b2 b3 b1 x1 x2 y1 y2 HC
  go_wp2
  exact bodyPost_ret (v := .agg #[.int .i64 s, .int .i64 r, .int .i64 f, .bool k, .slice ar zs.length cr]) (by simp [results, Tryd.results42, go_sem, m0, m1, m2, m3, m4]) rfl ⟨_, _, rfl, o4, b4⟩

set_option maxRecDepth 100000 in
set_option maxHeartbeats 2000000 in
theorem packetOf_ok (s r : Int) (k : Bool) (a : Option Addr) (n cap : Nat) (zs : List Int) (hz : zs.length = n) (h1 : 1 ≤ n) (hn : n ≤ 32) (bz : ∀ z ∈ zs, 0 ≤ z ∧ z ≤ 255) (F C : Nat) (h : F + C ≤ 32 * n) (hR : RightD s r (F : Int) (codeL zs F C)) (w : World) (hF : Firsts w) (ha : Holds .u8 w.heap.size w (.slice a n cap) zs) :
    Calls Tryd.prog 44 #[.agg #[.int .i64 s, .int .i64 r, .int .i64 (F : Int), .bool k, .slice a n cap], .int .i64 (C : Int)] w fun e W' => ∃ q, e = .returned (.tuple #[q, .int .i64 0]) ∧ W'.ownsRow w.heap.size 5 1 (q) (C + 11) ((packD s r (F : Int) (codeL zs F C)).map (Value.int .u8)) ∧ Below w.heap.size w W' := by
  have b1 := (Below.refl w.heap.size w).alloc (Nat.le_refl _) (.cells #[.int .i64 s, .int .i64 r, .int .i64 (F : Int), .bool k, .slice a n cap] 47)
  have x1 := Box.new w 47 #[.int .i64 s, .int .i64 r, .int .i64 (F : Int), .bool k, .slice a n cap]
  have HE := Encode_row a n cap zs hz h1 hn bz F C h (w.alloc (.cells #[.int .i64 s, .int .i64 r, .int .i64 (F : Int), .bool k, .slice a n cap] 47)) (hF.next b1) (ha.next b1)
  have HRR : Hid (RightD s r (F : Int) (codeL zs F C)) := hR
  have HCL : Hid ((codeL zs F C).length = C) := codeL_len _ _ _
  generalize codeL zs F C = X at *
  clear hz h1 hn bz h hF ha hR
  go_enter Tryd.func44, Tryd.ntmps44
  go_wp2_with fail
  refine HE.mono ?_
  rintro e w2 ⟨r2, rfl, o2, b2⟩
  obtain ⟨qa, qc, rfl⟩ := row_shapeE o2
  have x2 := x1.next b2
  have k0 := x2.cell 0 _ rfl
  have k1 := x2.cell 1 _ rfl
  have k2 := x2.cell 2 _ rfl
  have HM := DataMake_at s r (F : Int) qa C qc X HCL.out HRR.out w2 (holds_of_row o2)
  have b3 := b1.trans (b2.mono (by simp))
  clear HE o2 b2 b1 x1 x2
  go_wp2_with fail
  refine HM.mono ?_
  rintro e w3 ⟨q, rfl, o3, b4⟩
  have o5 := row_base o3 b3.size
  have b5 := b3.trans (b4.mono b3.size)
  clear HM o3 b4 b3 k0 k1 k2
  go_wp2
  go_ret2
  exact ⟨_, rfl, o5, b5⟩

set_option maxRecDepth 100000 in
set_option maxHeartbeats 4000000 in
theorem emitCheck_a (c : Cfg) (hC : okC c = true) (s r f : Int) (k : Bool) (a : Option Addr) (n cap : Nat) (_hl : n ≤ 4096) (h : ¬ (n : Int) = c.cB + 10) (w : World) :
    Calls Tryd.prog 41 #[.agg #[.int .i64 c.cB, .int .i64 c.cBeam, .int .i64 c.cDepth, .int .i64 c.cWin, .int .i64 c.cQs, .int .i64 c.cQr, .int .i64 c.cBatch, .int .i64 c.cPass, .int .i64 c.cMsg, .int .i64 c.cSeqs], .agg #[.int .i64 s, .int .i64 r, .int .i64 f, .bool k, .slice a n cap]] w fun e w' => e = .returned (.int .i64 1) ∧ Below w.heap.size w w' := by
  have hb := ((okC_iff c).1 hC).1
  have eW : IntKind.i64.wrap (c.cB + 10) = c.cB + 10 := by rw [IntKind.wrap_i64]; omega
  have d0 : ((n : Int) == c.cB + 10) = false := by rw [beq_eq_false_iff_ne]; exact h
  clear h
  have bE : c.cB + 10 ≤ 9223372036854775807 := by omega
  have bE2 : -9223372036854775808 ≤ c.cB + 10 := by omega
  clear hb
  have b1 := ((Below.refl w.heap.size w).alloc (Nat.le_refl _) (.cells #[.int .i64 c.cB, .int .i64 c.cBeam, .int .i64 c.cDepth, .int .i64 c.cWin, .int .i64 c.cQs, .int .i64 c.cQr, .int .i64 c.cBatch, .int .i64 c.cPass, .int .i64 c.cMsg, .int .i64 c.cSeqs] 23)).alloc (by simp) (.cells #[.int .i64 s, .int .i64 r, .int .i64 f, .bool k, .slice a n cap] 47)
  have xC := (Box.new w 23 #[.int .i64 c.cB, .int .i64 c.cBeam, .int .i64 c.cDepth, .int .i64 c.cWin, .int .i64 c.cQs, .int .i64 c.cQr, .int .i64 c.cBatch, .int .i64 c.cPass, .int .i64 c.cMsg, .int .i64 c.cSeqs]).alloc (.cells #[.int .i64 s, .int .i64 r, .int .i64 f, .bool k, .slice a n cap] 47)
  have xE := Box.new (w.alloc (.cells #[.int .i64 c.cB, .int .i64 c.cBeam, .int .i64 c.cDepth, .int .i64 c.cWin, .int .i64 c.cQs, .int .i64 c.cQr, .int .i64 c.cBatch, .int .i64 c.cPass, .int .i64 c.cMsg, .int .i64 c.cSeqs] 23)) 47 #[.int .i64 s, .int .i64 r, .int .i64 f, .bool k, .slice a n cap]
  rw [show (w.alloc (.cells #[.int .i64 c.cB, .int .i64 c.cBeam, .int .i64 c.cDepth, .int .i64 c.cWin, .int .i64 c.cQs, .int .i64 c.cQr, .int .i64 c.cBatch, .int .i64 c.cPass, .int .i64 c.cMsg, .int .i64 c.cSeqs] 23)).heap.size = w.heap.size + 1 by simp] at xE
  have H1 := ConfCheck_any c ((w.alloc (.cells #[.int .i64 c.cB, .int .i64 c.cBeam, .int .i64 c.cDepth, .int .i64 c.cWin, .int .i64 c.cQs, .int .i64 c.cQr, .int .i64 c.cBatch, .int .i64 c.cPass, .int .i64 c.cMsg, .int .i64 c.cSeqs] 23)).alloc (.cells #[.int .i64 s, .int .i64 r, .int .i64 f, .bool k, .slice a n cap] 47))
  unfold checkA at H1
  rw [if_pos hC] at H1
  go_enter Tryd.func41, Tryd.ntmps41
  go_wp2_with fail
  refine H1.mono ?_
  rintro e W1 ⟨rfl, b2⟩
  have yC := xC.next b2
  have yE := xE.next b2
  have bb := b1.trans (b2.mono b1.size)
  obtain ⟨D, hD⟩ : ∃ D, w.heap.size = D := ⟨_, rfl⟩
  rw [hD] at yC yE ⊢
  have hltC := yC.lt
  have hltE := yE.lt
  have hDS : w.heap.size ≤ W1.heap.size := bb.size
  have k0 : Hid (W1.cell? ⟨D, 0, none⟩ = some (.int .i64 c.cB)) := yC.cell 0 _ rfl
  have k1 : Hid (W1.cell? ⟨D, 1, none⟩ = some (.int .i64 c.cBeam)) := yC.cell 1 _ rfl
  have k2 : Hid (W1.cell? ⟨D, 2, none⟩ = some (.int .i64 c.cDepth)) := yC.cell 2 _ rfl
  have k3 : Hid (W1.cell? ⟨D, 3, none⟩ = some (.int .i64 c.cWin)) := yC.cell 3 _ rfl
  have k4 : Hid (W1.cell? ⟨D, 4, none⟩ = some (.int .i64 c.cQs)) := yC.cell 4 _ rfl
  have k5 : Hid (W1.cell? ⟨D, 5, none⟩ = some (.int .i64 c.cQr)) := yC.cell 5 _ rfl
  have k6 : Hid (W1.cell? ⟨D, 6, none⟩ = some (.int .i64 c.cBatch)) := yC.cell 6 _ rfl
  have k7 : Hid (W1.cell? ⟨D, 7, none⟩ = some (.int .i64 c.cPass)) := yC.cell 7 _ rfl
  have k8 : Hid (W1.cell? ⟨D, 8, none⟩ = some (.int .i64 c.cMsg)) := yC.cell 8 _ rfl
  have k9 : Hid (W1.cell? ⟨D, 9, none⟩ = some (.int .i64 c.cSeqs)) := yC.cell 9 _ rfl
  have e0 := yE.cell 0 _ rfl
  have e1 := yE.cell 1 _ rfl
  have e2 := yE.cell 2 _ rfl
  have e3 := yE.cell 3 _ rfl
  have e4 := yE.cell 4 _ rfl
  clear xC xE yC yE b1 b2 H1
  clear hC hD
  go_wp2
  refine wp_region_held_drew (S := fun w' => Below W1.heap.size W1 w') (by kernel_rfl) ((Below.refl _ _).drew) (fun hHeld => ?_)
  refine held_take (i := 0) (d := 12) (v := ?v1) rfl rfl (by kernel_rfl) (by kernel_rfl) (by kernel_rfl) (fun _ _ _ h => h) (Or.inl ⟨by kernel_rfl, ?hy1⟩) hHeld ?rest1
  case hy1 =>
    intro wx hSw
    clear hSw
    go_simp
    with_reducible rfl
  simp only [List.setIfInBounds_toArray, List.set_cons_zero, List.set_cons_succ]
  refine held_take (i := 1) (d := 13) (v := ?v2) rfl rfl (by kernel_rfl) (by kernel_rfl) (by kernel_rfl) (fun _ _ _ h => h) (Or.inl ⟨by kernel_rfl, ?hy2⟩) hHeld ?rest2
  case hy2 =>
    intro wx hSw
    have q0 := (hSw.cell (p := ⟨D + 1, 4, none⟩) hltE).trans e4
    clear hSw
    go_simp
    with_reducible rfl
  simp only [List.setIfInBounds_toArray, List.set_cons_zero, List.set_cons_succ]
  refine held_take (i := 2) (d := 14) (v := ?v3) rfl rfl (by kernel_rfl) (by kernel_rfl) (by kernel_rfl) (fun _ _ _ h => h) (Or.inl ⟨by kernel_rfl, ?hy3⟩) hHeld ?rest3
  case hy3 =>
    intro wx hSw
    clear hSw
    go_simp
    with_reducible rfl
  simp only [List.setIfInBounds_toArray, List.set_cons_zero, List.set_cons_succ]
  refine held_take (i := 3) (d := 15) (v := ?v4) rfl rfl (by kernel_rfl) (by kernel_rfl) (by kernel_rfl) (fun _ _ _ h => h) (Or.inl ⟨by kernel_rfl, ?hy4⟩) hHeld ?rest4
  case hy4 =>
    intro wx hSw
    clear hSw
    go_simp
    with_reducible rfl
  simp only [List.setIfInBounds_toArray, List.set_cons_zero, List.set_cons_succ]
  refine held_take (i := 4) (d := 16) (v := ?v5) rfl rfl (by kernel_rfl) (by kernel_rfl) (by kernel_rfl) (fun _ _ _ h => h) (Or.inl ⟨by kernel_rfl, ?hy5⟩) hHeld ?rest5
  case hy5 =>
    intro wx hSw
    have q0 := (hSw.cell (p := ⟨D, 0, none⟩) hltC).trans k0.out
    clear hSw
    go_simp
    with_reducible rfl
  simp only [List.setIfInBounds_toArray, List.set_cons_zero, List.set_cons_succ]
  refine held_take (i := 5) (d := 17) (v := ?v6) rfl rfl (by kernel_rfl) (by kernel_rfl) (by kernel_rfl) (fun _ _ _ h => h) (Or.inl ⟨by kernel_rfl, ?hy6⟩) hHeld ?rest6
  case hy6 =>
    intro wx hSw
    clear hSw
    go_simp
    with_reducible rfl
  simp only [List.setIfInBounds_toArray, List.set_cons_zero, List.set_cons_succ]
  refine held_take (i := 6) (d := 18) (v := ?v7) rfl rfl (by kernel_rfl) (by kernel_rfl) (by kernel_rfl) (fun _ _ _ h => h) (Or.inl ⟨by kernel_rfl, ?hy7⟩) hHeld ?rest7
  case hy7 =>
    intro wx hSw
    clear hSw
    go_simp
    with_reducible rfl
  simp only [List.setIfInBounds_toArray, List.set_cons_zero, List.set_cons_succ]
  refine held_take (i := 7) (d := 19) (v := ?v8) rfl rfl (by kernel_rfl) (by kernel_rfl) (by kernel_rfl) (fun _ _ _ h => h) (Or.inl ⟨by kernel_rfl, ?hy8⟩) hHeld ?rest8
  case hy8 =>
    intro wx hSw
    clear hSw
    go_simp
    with_reducible rfl
  simp only [List.setIfInBounds_toArray, List.set_cons_zero, List.set_cons_succ]
  refine held_take (i := 8) (d := 20) (v := undef) rfl rfl (by kernel_rfl) (by kernel_rfl) (by kernel_rfl) (fun _ _ _ h => h) (Or.inr ⟨by kernel_rfl, rfl⟩) hHeld ?_
  simp only [List.setIfInBounds_toArray, List.set_cons_zero, List.set_cons_succ]
  refine held_take (i := 9) (d := 21) (v := undef) rfl rfl (by kernel_rfl) (by kernel_rfl) (by kernel_rfl) (fun _ _ _ h => h) (Or.inr ⟨by kernel_rfl, rfl⟩) hHeld ?_
  simp only [List.setIfInBounds_toArray, List.set_cons_zero, List.set_cons_succ]
  refine held_take (i := 10) (d := 22) (v := undef) rfl rfl (by kernel_rfl) (by kernel_rfl) (by kernel_rfl) (fun _ _ _ h => h) (Or.inr ⟨by kernel_rfl, rfl⟩) hHeld ?_
  simp only [List.setIfInBounds_toArray, List.set_cons_zero, List.set_cons_succ]
  refine held_take (i := 11) (d := 23) (v := ?v9) rfl rfl (by kernel_rfl) (by kernel_rfl) (by kernel_rfl) (fun _ _ _ h => h) (Or.inl ⟨by kernel_rfl, ?hy9⟩) hHeld ?rest9
  case hy9 =>
    intro wx hSw
    clear hSw
    go_simp
    with_reducible rfl
  simp only [List.setIfInBounds_toArray, List.set_cons_zero, List.set_cons_succ]
  refine held_take (i := 12) (d := 24) (v := ?v10) rfl rfl (by kernel_rfl) (by kernel_rfl) (by kernel_rfl) (fun _ _ _ h => h) (Or.inl ⟨by kernel_rfl, ?hy10⟩) hHeld ?rest10
  case hy10 =>
    intro wx hSw
    clear hSw
    go_simp
    with_reducible rfl
  simp only [List.setIfInBounds_toArray, List.set_cons_zero, List.set_cons_succ]
  refine held_take (i := 13) (d := 25) (v := undef) rfl rfl (by kernel_rfl) (by kernel_rfl) (by kernel_rfl) (fun _ _ _ h => h) (Or.inr ⟨by kernel_rfl, rfl⟩) hHeld ?_
  simp only [List.setIfInBounds_toArray, List.set_cons_zero, List.set_cons_succ]
  refine held_take (i := 14) (d := 26) (v := undef) rfl rfl (by kernel_rfl) (by kernel_rfl) (by kernel_rfl) (fun _ _ _ h => h) (Or.inr ⟨by kernel_rfl, rfl⟩) hHeld ?_
  simp only [List.setIfInBounds_toArray, List.set_cons_zero, List.set_cons_succ]
  refine held_take (i := 15) (d := 27) (v := undef) rfl rfl (by kernel_rfl) (by kernel_rfl) (by kernel_rfl) (fun _ _ _ h => h) (Or.inr ⟨by kernel_rfl, rfl⟩) hHeld ?_
  simp only [List.setIfInBounds_toArray, List.set_cons_zero, List.set_cons_succ]
  refine held_take (i := 16) (d := 28) (v := ?v11) rfl rfl (by kernel_rfl) (by kernel_rfl) (by kernel_rfl) (fun _ _ _ h => h) (Or.inl ⟨by kernel_rfl, ?hy11⟩) hHeld ?rest11
  case hy11 =>
    intro wx hSw
    clear hSw
    go_simp
    with_reducible rfl
  simp only [List.setIfInBounds_toArray, List.set_cons_zero, List.set_cons_succ]
  refine held_take (i := 17) (d := 29) (v := ?v12) rfl rfl (by kernel_rfl) (by kernel_rfl) (by kernel_rfl) (fun _ _ _ h => h) (Or.inl ⟨by kernel_rfl, ?hy12⟩) hHeld ?rest12
  case hy12 =>
    intro wx hSw
    clear hSw
    go_simp
    with_reducible rfl
  simp only [List.setIfInBounds_toArray, List.set_cons_zero, List.set_cons_succ]
  refine held_take (i := 18) (d := 30) (v := undef) rfl rfl (by kernel_rfl) (by kernel_rfl) (by kernel_rfl) (fun _ _ _ h => h) (Or.inr ⟨by kernel_rfl, rfl⟩) hHeld ?_
  simp only [List.setIfInBounds_toArray, List.set_cons_zero, List.set_cons_succ]
  refine held_take (i := 19) (d := 31) (v := undef) rfl rfl (by kernel_rfl) (by kernel_rfl) (by kernel_rfl) (fun _ _ _ h => h) (Or.inr ⟨by kernel_rfl, rfl⟩) hHeld ?_
  simp only [List.setIfInBounds_toArray, List.set_cons_zero, List.set_cons_succ]
  refine held_take (i := 20) (d := 32) (v := undef) rfl rfl (by kernel_rfl) (by kernel_rfl) (by kernel_rfl) (fun _ _ _ h => h) (Or.inr ⟨by kernel_rfl, rfl⟩) hHeld ?_
  simp only [List.setIfInBounds_toArray, List.set_cons_zero, List.set_cons_succ]
  refine held_take (i := 21) (d := 33) (v := ?v13) rfl rfl (by kernel_rfl) (by kernel_rfl) (by kernel_rfl) (fun _ _ _ h => h) (Or.inl ⟨by kernel_rfl, ?hy13⟩) hHeld ?rest13
  case hy13 =>
    intro wx hSw
    clear hSw
    go_simp
    with_reducible rfl
  simp only [List.setIfInBounds_toArray, List.set_cons_zero, List.set_cons_succ]
  refine held_take (i := 22) (d := 34) (v := ?v14) rfl rfl (by kernel_rfl) (by kernel_rfl) (by kernel_rfl) (fun _ _ _ h => h) (Or.inl ⟨by kernel_rfl, ?hy14⟩) hHeld ?rest14
  case hy14 =>
    intro wx hSw
    clear hSw
    go_simp
    with_reducible rfl
  simp only [List.setIfInBounds_toArray, List.set_cons_zero, List.set_cons_succ]
  refine held_take (i := 23) (d := 35) (v := undef) rfl rfl (by kernel_rfl) (by kernel_rfl) (by kernel_rfl) (fun _ _ _ h => h) (Or.inr ⟨by kernel_rfl, rfl⟩) hHeld ?_
  simp only [List.setIfInBounds_toArray, List.set_cons_zero, List.set_cons_succ]
  refine held_take (i := 24) (d := 36) (v := undef) rfl rfl (by kernel_rfl) (by kernel_rfl) (by kernel_rfl) (fun _ _ _ h => h) (Or.inr ⟨by kernel_rfl, rfl⟩) hHeld ?_
  simp only [List.setIfInBounds_toArray, List.set_cons_zero, List.set_cons_succ]
  refine held_take (i := 25) (d := 37) (v := undef) rfl rfl (by kernel_rfl) (by kernel_rfl) (by kernel_rfl) (fun _ _ _ h => h) (Or.inr ⟨by kernel_rfl, rfl⟩) hHeld ?_
  simp only [List.setIfInBounds_toArray, List.set_cons_zero, List.set_cons_succ]
  refine held_take (i := 26) (d := 38) (v := ?v15) rfl rfl (by kernel_rfl) (by kernel_rfl) (by kernel_rfl) (fun _ _ _ h => h) (Or.inl ⟨by kernel_rfl, ?hy15⟩) hHeld ?rest15
  case hy15 =>
    intro wx hSw
    clear hSw
    go_simp
    with_reducible rfl
  simp only [List.setIfInBounds_toArray, List.set_cons_zero, List.set_cons_succ]
  refine held_take (i := 27) (d := 39) (v := ?v16) rfl rfl (by kernel_rfl) (by kernel_rfl) (by kernel_rfl) (fun _ _ _ h => h) (Or.inl ⟨by kernel_rfl, ?hy16⟩) hHeld ?rest16
  case hy16 =>
    intro wx hSw
    clear hSw
    go_simp
    with_reducible rfl
  simp only [List.setIfInBounds_toArray, List.set_cons_zero, List.set_cons_succ]
  refine held_take (i := 28) (d := 40) (v := undef) rfl rfl (by kernel_rfl) (by kernel_rfl) (by kernel_rfl) (fun _ _ _ h => h) (Or.inr ⟨by kernel_rfl, rfl⟩) hHeld ?_
  simp only [List.setIfInBounds_toArray, List.set_cons_zero, List.set_cons_succ]
  refine held_take (i := 29) (d := 41) (v := undef) rfl rfl (by kernel_rfl) (by kernel_rfl) (by kernel_rfl) (fun _ _ _ h => h) (Or.inr ⟨by kernel_rfl, rfl⟩) hHeld ?_
  simp only [List.setIfInBounds_toArray, List.set_cons_zero, List.set_cons_succ]
  refine held_take (i := 30) (d := 42) (v := undef) rfl rfl (by kernel_rfl) (by kernel_rfl) (by kernel_rfl) (fun _ _ _ h => h) (Or.inr ⟨by kernel_rfl, rfl⟩) hHeld ?_
  simp only [List.setIfInBounds_toArray, List.set_cons_zero, List.set_cons_succ]
  refine held_take (i := 31) (d := 43) (v := ?v17) rfl rfl (by kernel_rfl) (by kernel_rfl) (by kernel_rfl) (fun _ _ _ h => h) (Or.inl ⟨by kernel_rfl, ?hy17⟩) hHeld ?rest17
  case hy17 =>
    intro wx hSw
    clear hSw
    go_simp
    with_reducible rfl
  simp only [List.setIfInBounds_toArray, List.set_cons_zero, List.set_cons_succ]
  refine held_take (i := 32) (d := 44) (v := ?v18) rfl rfl (by kernel_rfl) (by kernel_rfl) (by kernel_rfl) (fun _ _ _ h => h) (Or.inl ⟨by kernel_rfl, ?hy18⟩) hHeld ?rest18
  case hy18 =>
    intro wx hSw
    clear hSw
    go_simp
    with_reducible rfl
  simp only [List.setIfInBounds_toArray, List.set_cons_zero, List.set_cons_succ]
  refine held_take (i := 33) (d := 45) (v := undef) rfl rfl (by kernel_rfl) (by kernel_rfl) (by kernel_rfl) (fun _ _ _ h => h) (Or.inr ⟨by kernel_rfl, rfl⟩) hHeld ?_
  simp only [List.setIfInBounds_toArray, List.set_cons_zero, List.set_cons_succ]
  refine held_take (i := 34) (d := 46) (v := undef) rfl rfl (by kernel_rfl) (by kernel_rfl) (by kernel_rfl) (fun _ _ _ h => h) (Or.inr ⟨by kernel_rfl, rfl⟩) hHeld ?_
  simp only [List.setIfInBounds_toArray, List.set_cons_zero, List.set_cons_succ]
  refine held_take (i := 35) (d := 47) (v := undef) rfl rfl (by kernel_rfl) (by kernel_rfl) (by kernel_rfl) (fun _ _ _ h => h) (Or.inr ⟨by kernel_rfl, rfl⟩) hHeld ?_
  simp only [List.setIfInBounds_toArray, List.set_cons_zero, List.set_cons_succ]
  refine held_take (i := 36) (d := 48) (v := undef) rfl rfl (by kernel_rfl) (by kernel_rfl) (by kernel_rfl) (fun _ _ _ h => h) (Or.inr ⟨by kernel_rfl, rfl⟩) hHeld ?_
  simp only [List.setIfInBounds_toArray, List.set_cons_zero, List.set_cons_succ]
  refine held_take (i := 37) (d := 49) (v := undef) rfl rfl (by kernel_rfl) (by kernel_rfl) (by kernel_rfl) (fun _ _ _ h => h) (Or.inr ⟨by kernel_rfl, rfl⟩) hHeld ?_
  simp only [List.setIfInBounds_toArray, List.set_cons_zero, List.set_cons_succ]
  refine held_take (i := 38) (d := 50) (v := ?v19) rfl rfl (by kernel_rfl) (by kernel_rfl) (by kernel_rfl) (fun _ _ _ h => h) (Or.inl ⟨by kernel_rfl, ?hy19⟩) hHeld ?rest19
  case hy19 =>
    intro wx hSw
    clear hSw
    go_simp
    with_reducible rfl
  simp only [List.setIfInBounds_toArray, List.set_cons_zero, List.set_cons_succ]
  refine wpAnyH_ready (rs := [39]) (by kernel_rfl) (by simp) ?_
  refine AllReadyH.cons rfl (fun K hK => ?_) AllReadyH.nil
  go_simp
  refine hK.out _ _ hHeld (fun hHeld => ?_)
  clear hK K
  refine wpAnyH_done (by kernel_rfl) ?_ _
  go_wp2
  go_ret
  exact ⟨rfl, bb.trans (hHeld.mono hDS)⟩

set_option maxRecDepth 100000 in
set_option maxHeartbeats 4000000 in
theorem emitCheck_b (c : Cfg) (hC : okC c = true) (s r f : Int) (k : Bool) (a : Option Addr) (n cap : Nat) (hl : n ≤ 4096) (h : (n : Int) = c.cB + 10) (hx : ¬ 0 ≤ s) (w : World) :
    Calls Tryd.prog 41 #[.agg #[.int .i64 c.cB, .int .i64 c.cBeam, .int .i64 c.cDepth, .int .i64 c.cWin, .int .i64 c.cQs, .int .i64 c.cQr, .int .i64 c.cBatch, .int .i64 c.cPass, .int .i64 c.cMsg, .int .i64 c.cSeqs], .agg #[.int .i64 s, .int .i64 r, .int .i64 f, .bool k, .slice a n cap]] w fun e w' => e = .returned (.int .i64 1) ∧ Below w.heap.size w w' := by
  have hb := ((okC_iff c).1 hC).1
  have eW : IntKind.i64.wrap (c.cB + 10) = c.cB + 10 := by rw [IntKind.wrap_i64]; omega
  have d0 : ((n : Int) == c.cB + 10) = true := by rw [beq_iff_eq]; exact h
  clear h
  have dx : decide (0 ≤ s) = false := decide_eq_false hx
  clear hx
  have bE : c.cB + 10 ≤ 9223372036854775807 := by omega
  have bE2 : -9223372036854775808 ≤ c.cB + 10 := by omega
  clear hb hl
  have b1 := ((Below.refl w.heap.size w).alloc (Nat.le_refl _) (.cells #[.int .i64 c.cB, .int .i64 c.cBeam, .int .i64 c.cDepth, .int .i64 c.cWin, .int .i64 c.cQs, .int .i64 c.cQr, .int .i64 c.cBatch, .int .i64 c.cPass, .int .i64 c.cMsg, .int .i64 c.cSeqs] 23)).alloc (by simp) (.cells #[.int .i64 s, .int .i64 r, .int .i64 f, .bool k, .slice a n cap] 47)
  have xC := (Box.new w 23 #[.int .i64 c.cB, .int .i64 c.cBeam, .int .i64 c.cDepth, .int .i64 c.cWin, .int .i64 c.cQs, .int .i64 c.cQr, .int .i64 c.cBatch, .int .i64 c.cPass, .int .i64 c.cMsg, .int .i64 c.cSeqs]).alloc (.cells #[.int .i64 s, .int .i64 r, .int .i64 f, .bool k, .slice a n cap] 47)
  have xE := Box.new (w.alloc (.cells #[.int .i64 c.cB, .int .i64 c.cBeam, .int .i64 c.cDepth, .int .i64 c.cWin, .int .i64 c.cQs, .int .i64 c.cQr, .int .i64 c.cBatch, .int .i64 c.cPass, .int .i64 c.cMsg, .int .i64 c.cSeqs] 23)) 47 #[.int .i64 s, .int .i64 r, .int .i64 f, .bool k, .slice a n cap]
  rw [show (w.alloc (.cells #[.int .i64 c.cB, .int .i64 c.cBeam, .int .i64 c.cDepth, .int .i64 c.cWin, .int .i64 c.cQs, .int .i64 c.cQr, .int .i64 c.cBatch, .int .i64 c.cPass, .int .i64 c.cMsg, .int .i64 c.cSeqs] 23)).heap.size = w.heap.size + 1 by simp] at xE
  have H1 := ConfCheck_any c ((w.alloc (.cells #[.int .i64 c.cB, .int .i64 c.cBeam, .int .i64 c.cDepth, .int .i64 c.cWin, .int .i64 c.cQs, .int .i64 c.cQr, .int .i64 c.cBatch, .int .i64 c.cPass, .int .i64 c.cMsg, .int .i64 c.cSeqs] 23)).alloc (.cells #[.int .i64 s, .int .i64 r, .int .i64 f, .bool k, .slice a n cap] 47))
  unfold checkA at H1
  rw [if_pos hC] at H1
  go_enter Tryd.func41, Tryd.ntmps41
  go_wp2_with fail
  refine H1.mono ?_
  rintro e W1 ⟨rfl, b2⟩
  have yC := xC.next b2
  have yE := xE.next b2
  have bb := b1.trans (b2.mono b1.size)
  obtain ⟨D, hD⟩ : ∃ D, w.heap.size = D := ⟨_, rfl⟩
  rw [hD] at yC yE ⊢
  have hltC := yC.lt
  have hltE := yE.lt
  have hDS : w.heap.size ≤ W1.heap.size := bb.size
  have k0 : Hid (W1.cell? ⟨D, 0, none⟩ = some (.int .i64 c.cB)) := yC.cell 0 _ rfl
  have k1 : Hid (W1.cell? ⟨D, 1, none⟩ = some (.int .i64 c.cBeam)) := yC.cell 1 _ rfl
  have k2 : Hid (W1.cell? ⟨D, 2, none⟩ = some (.int .i64 c.cDepth)) := yC.cell 2 _ rfl
  have k3 : Hid (W1.cell? ⟨D, 3, none⟩ = some (.int .i64 c.cWin)) := yC.cell 3 _ rfl
  have k4 : Hid (W1.cell? ⟨D, 4, none⟩ = some (.int .i64 c.cQs)) := yC.cell 4 _ rfl
  have k5 : Hid (W1.cell? ⟨D, 5, none⟩ = some (.int .i64 c.cQr)) := yC.cell 5 _ rfl
  have k6 : Hid (W1.cell? ⟨D, 6, none⟩ = some (.int .i64 c.cBatch)) := yC.cell 6 _ rfl
  have k7 : Hid (W1.cell? ⟨D, 7, none⟩ = some (.int .i64 c.cPass)) := yC.cell 7 _ rfl
  have k8 : Hid (W1.cell? ⟨D, 8, none⟩ = some (.int .i64 c.cMsg)) := yC.cell 8 _ rfl
  have k9 : Hid (W1.cell? ⟨D, 9, none⟩ = some (.int .i64 c.cSeqs)) := yC.cell 9 _ rfl
  have e0 := yE.cell 0 _ rfl
  have e1 := yE.cell 1 _ rfl
  have e2 := yE.cell 2 _ rfl
  have e3 := yE.cell 3 _ rfl
  have e4 := yE.cell 4 _ rfl
  clear xC xE yC yE b1 b2 H1
  clear hC hD
  go_wp2
  refine wp_region_held_drew (S := fun w' => Below W1.heap.size W1 w') (by kernel_rfl) ((Below.refl _ _).drew) (fun hHeld => ?_)
  refine held_take (i := 0) (d := 12) (v := ?v20) rfl rfl (by kernel_rfl) (by kernel_rfl) (by kernel_rfl) (fun _ _ _ h => h) (Or.inl ⟨by kernel_rfl, ?hy20⟩) hHeld ?rest20
  case hy20 =>
    intro wx hSw
    clear hSw
    go_simp
    with_reducible rfl
  simp only [List.setIfInBounds_toArray, List.set_cons_zero, List.set_cons_succ]
  refine held_take (i := 1) (d := 13) (v := ?v21) rfl rfl (by kernel_rfl) (by kernel_rfl) (by kernel_rfl) (fun _ _ _ h => h) (Or.inl ⟨by kernel_rfl, ?hy21⟩) hHeld ?rest21
  case hy21 =>
    intro wx hSw
    have q0 := (hSw.cell (p := ⟨D + 1, 4, none⟩) hltE).trans e4
    clear hSw
    go_simp
    with_reducible rfl
  simp only [List.setIfInBounds_toArray, List.set_cons_zero, List.set_cons_succ]
  refine held_take (i := 2) (d := 14) (v := ?v22) rfl rfl (by kernel_rfl) (by kernel_rfl) (by kernel_rfl) (fun _ _ _ h => h) (Or.inl ⟨by kernel_rfl, ?hy22⟩) hHeld ?rest22
  case hy22 =>
    intro wx hSw
    clear hSw
    go_simp
    with_reducible rfl
  simp only [List.setIfInBounds_toArray, List.set_cons_zero, List.set_cons_succ]
  refine held_take (i := 3) (d := 15) (v := ?v23) rfl rfl (by kernel_rfl) (by kernel_rfl) (by kernel_rfl) (fun _ _ _ h => h) (Or.inl ⟨by kernel_rfl, ?hy23⟩) hHeld ?rest23
  case hy23 =>
    intro wx hSw
    clear hSw
    go_simp
    with_reducible rfl
  simp only [List.setIfInBounds_toArray, List.set_cons_zero, List.set_cons_succ]
  refine held_take (i := 4) (d := 16) (v := ?v24) rfl rfl (by kernel_rfl) (by kernel_rfl) (by kernel_rfl) (fun _ _ _ h => h) (Or.inl ⟨by kernel_rfl, ?hy24⟩) hHeld ?rest24
  case hy24 =>
    intro wx hSw
    have q0 := (hSw.cell (p := ⟨D, 0, none⟩) hltC).trans k0.out
    clear hSw
    go_simp
    with_reducible rfl
  simp only [List.setIfInBounds_toArray, List.set_cons_zero, List.set_cons_succ]
  refine held_take (i := 5) (d := 17) (v := ?v25) rfl rfl (by kernel_rfl) (by kernel_rfl) (by kernel_rfl) (fun _ _ _ h => h) (Or.inl ⟨by kernel_rfl, ?hy25⟩) hHeld ?rest25
  case hy25 =>
    intro wx hSw
    clear hSw
    go_simp
    with_reducible rfl
  simp only [List.setIfInBounds_toArray, List.set_cons_zero, List.set_cons_succ]
  refine held_take (i := 6) (d := 18) (v := ?v26) rfl rfl (by kernel_rfl) (by kernel_rfl) (by kernel_rfl) (fun _ _ _ h => h) (Or.inl ⟨by kernel_rfl, ?hy26⟩) hHeld ?rest26
  case hy26 =>
    intro wx hSw
    clear hSw
    go_simp
    with_reducible rfl
  simp only [List.setIfInBounds_toArray, List.set_cons_zero, List.set_cons_succ]
  refine held_take (i := 7) (d := 19) (v := ?v27) rfl rfl (by kernel_rfl) (by kernel_rfl) (by kernel_rfl) (fun _ _ _ h => h) (Or.inl ⟨by kernel_rfl, ?hy27⟩) hHeld ?rest27
  case hy27 =>
    intro wx hSw
    clear hSw
    go_simp
    with_reducible rfl
  simp only [List.setIfInBounds_toArray, List.set_cons_zero, List.set_cons_succ]
  refine held_take (i := 8) (d := 20) (v := ?v28) rfl rfl (by kernel_rfl) (by kernel_rfl) (by kernel_rfl) (fun _ _ _ h => h) (Or.inl ⟨by kernel_rfl, ?hy28⟩) hHeld ?rest28
  case hy28 =>
    intro wx hSw
    clear hSw
    go_simp
    with_reducible rfl
  simp only [List.setIfInBounds_toArray, List.set_cons_zero, List.set_cons_succ]
  refine held_take (i := 9) (d := 21) (v := ?v29) rfl rfl (by kernel_rfl) (by kernel_rfl) (by kernel_rfl) (fun _ _ _ h => h) (Or.inl ⟨by kernel_rfl, ?hy29⟩) hHeld ?rest29
  case hy29 =>
    intro wx hSw
    have q0 := (hSw.cell (p := ⟨D + 1, 0, none⟩) hltE).trans e0
    clear hSw
    go_simp
    with_reducible rfl
  simp only [List.setIfInBounds_toArray, List.set_cons_zero, List.set_cons_succ]
  refine held_take (i := 10) (d := 22) (v := ?v30) rfl rfl (by kernel_rfl) (by kernel_rfl) (by kernel_rfl) (fun _ _ _ h => h) (Or.inl ⟨by kernel_rfl, ?hy30⟩) hHeld ?rest30
  case hy30 =>
    intro wx hSw
    clear hSw
    go_simp
    with_reducible rfl
  simp only [List.setIfInBounds_toArray, List.set_cons_zero, List.set_cons_succ]
  refine held_take (i := 11) (d := 23) (v := ?v31) rfl rfl (by kernel_rfl) (by kernel_rfl) (by kernel_rfl) (fun _ _ _ h => h) (Or.inl ⟨by kernel_rfl, ?hy31⟩) hHeld ?rest31
  case hy31 =>
    intro wx hSw
    clear hSw
    go_simp
    with_reducible rfl
  simp only [List.setIfInBounds_toArray, List.set_cons_zero, List.set_cons_succ]
  refine held_take (i := 12) (d := 24) (v := ?v32) rfl rfl (by kernel_rfl) (by kernel_rfl) (by kernel_rfl) (fun _ _ _ h => h) (Or.inl ⟨by kernel_rfl, ?hy32⟩) hHeld ?rest32
  case hy32 =>
    intro wx hSw
    clear hSw
    go_simp
    with_reducible rfl
  simp only [List.setIfInBounds_toArray, List.set_cons_zero, List.set_cons_succ]
  refine held_take (i := 13) (d := 25) (v := undef) rfl rfl (by kernel_rfl) (by kernel_rfl) (by kernel_rfl) (fun _ _ _ h => h) (Or.inr ⟨by kernel_rfl, rfl⟩) hHeld ?_
  simp only [List.setIfInBounds_toArray, List.set_cons_zero, List.set_cons_succ]
  refine held_take (i := 14) (d := 26) (v := undef) rfl rfl (by kernel_rfl) (by kernel_rfl) (by kernel_rfl) (fun _ _ _ h => h) (Or.inr ⟨by kernel_rfl, rfl⟩) hHeld ?_
  simp only [List.setIfInBounds_toArray, List.set_cons_zero, List.set_cons_succ]
  refine held_take (i := 15) (d := 27) (v := undef) rfl rfl (by kernel_rfl) (by kernel_rfl) (by kernel_rfl) (fun _ _ _ h => h) (Or.inr ⟨by kernel_rfl, rfl⟩) hHeld ?_
  simp only [List.setIfInBounds_toArray, List.set_cons_zero, List.set_cons_succ]
  refine held_take (i := 16) (d := 28) (v := ?v33) rfl rfl (by kernel_rfl) (by kernel_rfl) (by kernel_rfl) (fun _ _ _ h => h) (Or.inl ⟨by kernel_rfl, ?hy33⟩) hHeld ?rest33
  case hy33 =>
    intro wx hSw
    clear hSw
    go_simp
    with_reducible rfl
  simp only [List.setIfInBounds_toArray, List.set_cons_zero, List.set_cons_succ]
  refine held_take (i := 17) (d := 29) (v := ?v34) rfl rfl (by kernel_rfl) (by kernel_rfl) (by kernel_rfl) (fun _ _ _ h => h) (Or.inl ⟨by kernel_rfl, ?hy34⟩) hHeld ?rest34
  case hy34 =>
    intro wx hSw
    clear hSw
    go_simp
    with_reducible rfl
  simp only [List.setIfInBounds_toArray, List.set_cons_zero, List.set_cons_succ]
  refine held_take (i := 18) (d := 30) (v := undef) rfl rfl (by kernel_rfl) (by kernel_rfl) (by kernel_rfl) (fun _ _ _ h => h) (Or.inr ⟨by kernel_rfl, rfl⟩) hHeld ?_
  simp only [List.setIfInBounds_toArray, List.set_cons_zero, List.set_cons_succ]
  refine held_take (i := 19) (d := 31) (v := undef) rfl rfl (by kernel_rfl) (by kernel_rfl) (by kernel_rfl) (fun _ _ _ h => h) (Or.inr ⟨by kernel_rfl, rfl⟩) hHeld ?_
  simp only [List.setIfInBounds_toArray, List.set_cons_zero, List.set_cons_succ]
  refine held_take (i := 20) (d := 32) (v := undef) rfl rfl (by kernel_rfl) (by kernel_rfl) (by kernel_rfl) (fun _ _ _ h => h) (Or.inr ⟨by kernel_rfl, rfl⟩) hHeld ?_
  simp only [List.setIfInBounds_toArray, List.set_cons_zero, List.set_cons_succ]
  refine held_take (i := 21) (d := 33) (v := ?v35) rfl rfl (by kernel_rfl) (by kernel_rfl) (by kernel_rfl) (fun _ _ _ h => h) (Or.inl ⟨by kernel_rfl, ?hy35⟩) hHeld ?rest35
  case hy35 =>
    intro wx hSw
    clear hSw
    go_simp
    with_reducible rfl
  simp only [List.setIfInBounds_toArray, List.set_cons_zero, List.set_cons_succ]
  refine held_take (i := 22) (d := 34) (v := ?v36) rfl rfl (by kernel_rfl) (by kernel_rfl) (by kernel_rfl) (fun _ _ _ h => h) (Or.inl ⟨by kernel_rfl, ?hy36⟩) hHeld ?rest36
  case hy36 =>
    intro wx hSw
    clear hSw
    go_simp
    with_reducible rfl
  simp only [List.setIfInBounds_toArray, List.set_cons_zero, List.set_cons_succ]
  refine held_take (i := 23) (d := 35) (v := undef) rfl rfl (by kernel_rfl) (by kernel_rfl) (by kernel_rfl) (fun _ _ _ h => h) (Or.inr ⟨by kernel_rfl, rfl⟩) hHeld ?_
  simp only [List.setIfInBounds_toArray, List.set_cons_zero, List.set_cons_succ]
  refine held_take (i := 24) (d := 36) (v := undef) rfl rfl (by kernel_rfl) (by kernel_rfl) (by kernel_rfl) (fun _ _ _ h => h) (Or.inr ⟨by kernel_rfl, rfl⟩) hHeld ?_
  simp only [List.setIfInBounds_toArray, List.set_cons_zero, List.set_cons_succ]
  refine held_take (i := 25) (d := 37) (v := undef) rfl rfl (by kernel_rfl) (by kernel_rfl) (by kernel_rfl) (fun _ _ _ h => h) (Or.inr ⟨by kernel_rfl, rfl⟩) hHeld ?_
  simp only [List.setIfInBounds_toArray, List.set_cons_zero, List.set_cons_succ]
  refine held_take (i := 26) (d := 38) (v := ?v37) rfl rfl (by kernel_rfl) (by kernel_rfl) (by kernel_rfl) (fun _ _ _ h => h) (Or.inl ⟨by kernel_rfl, ?hy37⟩) hHeld ?rest37
  case hy37 =>
    intro wx hSw
    clear hSw
    go_simp
    with_reducible rfl
  simp only [List.setIfInBounds_toArray, List.set_cons_zero, List.set_cons_succ]
  refine held_take (i := 27) (d := 39) (v := ?v38) rfl rfl (by kernel_rfl) (by kernel_rfl) (by kernel_rfl) (fun _ _ _ h => h) (Or.inl ⟨by kernel_rfl, ?hy38⟩) hHeld ?rest38
  case hy38 =>
    intro wx hSw
    clear hSw
    go_simp
    with_reducible rfl
  simp only [List.setIfInBounds_toArray, List.set_cons_zero, List.set_cons_succ]
  refine held_take (i := 28) (d := 40) (v := undef) rfl rfl (by kernel_rfl) (by kernel_rfl) (by kernel_rfl) (fun _ _ _ h => h) (Or.inr ⟨by kernel_rfl, rfl⟩) hHeld ?_
  simp only [List.setIfInBounds_toArray, List.set_cons_zero, List.set_cons_succ]
  refine held_take (i := 29) (d := 41) (v := undef) rfl rfl (by kernel_rfl) (by kernel_rfl) (by kernel_rfl) (fun _ _ _ h => h) (Or.inr ⟨by kernel_rfl, rfl⟩) hHeld ?_
  simp only [List.setIfInBounds_toArray, List.set_cons_zero, List.set_cons_succ]
  refine held_take (i := 30) (d := 42) (v := undef) rfl rfl (by kernel_rfl) (by kernel_rfl) (by kernel_rfl) (fun _ _ _ h => h) (Or.inr ⟨by kernel_rfl, rfl⟩) hHeld ?_
  simp only [List.setIfInBounds_toArray, List.set_cons_zero, List.set_cons_succ]
  refine held_take (i := 31) (d := 43) (v := ?v39) rfl rfl (by kernel_rfl) (by kernel_rfl) (by kernel_rfl) (fun _ _ _ h => h) (Or.inl ⟨by kernel_rfl, ?hy39⟩) hHeld ?rest39
  case hy39 =>
    intro wx hSw
    clear hSw
    go_simp
    with_reducible rfl
  simp only [List.setIfInBounds_toArray, List.set_cons_zero, List.set_cons_succ]
  refine held_take (i := 32) (d := 44) (v := ?v40) rfl rfl (by kernel_rfl) (by kernel_rfl) (by kernel_rfl) (fun _ _ _ h => h) (Or.inl ⟨by kernel_rfl, ?hy40⟩) hHeld ?rest40
  case hy40 =>
    intro wx hSw
    clear hSw
    go_simp
    with_reducible rfl
  simp only [List.setIfInBounds_toArray, List.set_cons_zero, List.set_cons_succ]
  refine held_take (i := 33) (d := 45) (v := undef) rfl rfl (by kernel_rfl) (by kernel_rfl) (by kernel_rfl) (fun _ _ _ h => h) (Or.inr ⟨by kernel_rfl, rfl⟩) hHeld ?_
  simp only [List.setIfInBounds_toArray, List.set_cons_zero, List.set_cons_succ]
  refine held_take (i := 34) (d := 46) (v := undef) rfl rfl (by kernel_rfl) (by kernel_rfl) (by kernel_rfl) (fun _ _ _ h => h) (Or.inr ⟨by kernel_rfl, rfl⟩) hHeld ?_
  simp only [List.setIfInBounds_toArray, List.set_cons_zero, List.set_cons_succ]
  refine held_take (i := 35) (d := 47) (v := undef) rfl rfl (by kernel_rfl) (by kernel_rfl) (by kernel_rfl) (fun _ _ _ h => h) (Or.inr ⟨by kernel_rfl, rfl⟩) hHeld ?_
  simp only [List.setIfInBounds_toArray, List.set_cons_zero, List.set_cons_succ]
  refine held_take (i := 36) (d := 48) (v := undef) rfl rfl (by kernel_rfl) (by kernel_rfl) (by kernel_rfl) (fun _ _ _ h => h) (Or.inr ⟨by kernel_rfl, rfl⟩) hHeld ?_
  simp only [List.setIfInBounds_toArray, List.set_cons_zero, List.set_cons_succ]
  refine held_take (i := 37) (d := 49) (v := undef) rfl rfl (by kernel_rfl) (by kernel_rfl) (by kernel_rfl) (fun _ _ _ h => h) (Or.inr ⟨by kernel_rfl, rfl⟩) hHeld ?_
  simp only [List.setIfInBounds_toArray, List.set_cons_zero, List.set_cons_succ]
  refine held_take (i := 38) (d := 50) (v := ?v41) rfl rfl (by kernel_rfl) (by kernel_rfl) (by kernel_rfl) (fun _ _ _ h => h) (Or.inl ⟨by kernel_rfl, ?hy41⟩) hHeld ?rest41
  case hy41 =>
    intro wx hSw
    clear hSw
    go_simp
    with_reducible rfl
  simp only [List.setIfInBounds_toArray, List.set_cons_zero, List.set_cons_succ]
  refine wpAnyH_ready (rs := [39]) (by kernel_rfl) (by simp) ?_
  refine AllReadyH.cons rfl (fun K hK => ?_) AllReadyH.nil
  go_simp
  refine hK.out _ _ hHeld (fun hHeld => ?_)
  clear hK K
  refine wpAnyH_done (by kernel_rfl) ?_ _
  go_wp2
  go_ret
  exact ⟨rfl, bb.trans (hHeld.mono hDS)⟩

set_option maxRecDepth 100000 in
set_option maxHeartbeats 4000000 in
theorem emitCheck_c (c : Cfg) (hC : okC c = true) (s r f : Int) (k : Bool) (a : Option Addr) (n cap : Nat) (hl : n ≤ 4096) (h : (n : Int) = c.cB + 10) (h1 : 0 ≤ s) (hx : ¬ s < 1073741824) (w : World) :
    Calls Tryd.prog 41 #[.agg #[.int .i64 c.cB, .int .i64 c.cBeam, .int .i64 c.cDepth, .int .i64 c.cWin, .int .i64 c.cQs, .int .i64 c.cQr, .int .i64 c.cBatch, .int .i64 c.cPass, .int .i64 c.cMsg, .int .i64 c.cSeqs], .agg #[.int .i64 s, .int .i64 r, .int .i64 f, .bool k, .slice a n cap]] w fun e w' => e = .returned (.int .i64 1) ∧ Below w.heap.size w w' := by
  have hb := ((okC_iff c).1 hC).1
  have eW : IntKind.i64.wrap (c.cB + 10) = c.cB + 10 := by rw [IntKind.wrap_i64]; omega
  have d0 : ((n : Int) == c.cB + 10) = true := by rw [beq_iff_eq]; exact h
  clear h
  have d1 : decide (0 ≤ s) = true := decide_eq_true h1
  clear h1
  have dx : decide (s < 1073741824) = false := decide_eq_false hx
  clear hx
  have bE : c.cB + 10 ≤ 9223372036854775807 := by omega
  have bE2 : -9223372036854775808 ≤ c.cB + 10 := by omega
  clear hb hl
  have b1 := ((Below.refl w.heap.size w).alloc (Nat.le_refl _) (.cells #[.int .i64 c.cB, .int .i64 c.cBeam, .int .i64 c.cDepth, .int .i64 c.cWin, .int .i64 c.cQs, .int .i64 c.cQr, .int .i64 c.cBatch, .int .i64 c.cPass, .int .i64 c.cMsg, .int .i64 c.cSeqs] 23)).alloc (by simp) (.cells #[.int .i64 s, .int .i64 r, .int .i64 f, .bool k, .slice a n cap] 47)
  have xC := (Box.new w 23 #[.int .i64 c.cB, .int .i64 c.cBeam, .int .i64 c.cDepth, .int .i64 c.cWin, .int .i64 c.cQs, .int .i64 c.cQr, .int .i64 c.cBatch, .int .i64 c.cPass, .int .i64 c.cMsg, .int .i64 c.cSeqs]).alloc (.cells #[.int .i64 s, .int .i64 r, .int .i64 f, .bool k, .slice a n cap] 47)
  have xE := Box.new (w.alloc (.cells #[.int .i64 c.cB, .int .i64 c.cBeam, .int .i64 c.cDepth, .int .i64 c.cWin, .int .i64 c.cQs, .int .i64 c.cQr, .int .i64 c.cBatch, .int .i64 c.cPass, .int .i64 c.cMsg, .int .i64 c.cSeqs] 23)) 47 #[.int .i64 s, .int .i64 r, .int .i64 f, .bool k, .slice a n cap]
  rw [show (w.alloc (.cells #[.int .i64 c.cB, .int .i64 c.cBeam, .int .i64 c.cDepth, .int .i64 c.cWin, .int .i64 c.cQs, .int .i64 c.cQr, .int .i64 c.cBatch, .int .i64 c.cPass, .int .i64 c.cMsg, .int .i64 c.cSeqs] 23)).heap.size = w.heap.size + 1 by simp] at xE
  have H1 := ConfCheck_any c ((w.alloc (.cells #[.int .i64 c.cB, .int .i64 c.cBeam, .int .i64 c.cDepth, .int .i64 c.cWin, .int .i64 c.cQs, .int .i64 c.cQr, .int .i64 c.cBatch, .int .i64 c.cPass, .int .i64 c.cMsg, .int .i64 c.cSeqs] 23)).alloc (.cells #[.int .i64 s, .int .i64 r, .int .i64 f, .bool k, .slice a n cap] 47))
  unfold checkA at H1
  rw [if_pos hC] at H1
  go_enter Tryd.func41, Tryd.ntmps41
  go_wp2_with fail
  refine H1.mono ?_
  rintro e W1 ⟨rfl, b2⟩
  have yC := xC.next b2
  have yE := xE.next b2
  have bb := b1.trans (b2.mono b1.size)
  obtain ⟨D, hD⟩ : ∃ D, w.heap.size = D := ⟨_, rfl⟩
  rw [hD] at yC yE ⊢
  have hltC := yC.lt
  have hltE := yE.lt
  have hDS : w.heap.size ≤ W1.heap.size := bb.size
  have k0 : Hid (W1.cell? ⟨D, 0, none⟩ = some (.int .i64 c.cB)) := yC.cell 0 _ rfl
  have k1 : Hid (W1.cell? ⟨D, 1, none⟩ = some (.int .i64 c.cBeam)) := yC.cell 1 _ rfl
  have k2 : Hid (W1.cell? ⟨D, 2, none⟩ = some (.int .i64 c.cDepth)) := yC.cell 2 _ rfl
  have k3 : Hid (W1.cell? ⟨D, 3, none⟩ = some (.int .i64 c.cWin)) := yC.cell 3 _ rfl
  have k4 : Hid (W1.cell? ⟨D, 4, none⟩ = some (.int .i64 c.cQs)) := yC.cell 4 _ rfl
  have k5 : Hid (W1.cell? ⟨D, 5, none⟩ = some (.int .i64 c.cQr)) := yC.cell 5 _ rfl
  have k6 : Hid (W1.cell? ⟨D, 6, none⟩ = some (.int .i64 c.cBatch)) := yC.cell 6 _ rfl
  have k7 : Hid (W1.cell? ⟨D, 7, none⟩ = some (.int .i64 c.cPass)) := yC.cell 7 _ rfl
  have k8 : Hid (W1.cell? ⟨D, 8, none⟩ = some (.int .i64 c.cMsg)) := yC.cell 8 _ rfl
  have k9 : Hid (W1.cell? ⟨D, 9, none⟩ = some (.int .i64 c.cSeqs)) := yC.cell 9 _ rfl
  have e0 := yE.cell 0 _ rfl
  have e1 := yE.cell 1 _ rfl
  have e2 := yE.cell 2 _ rfl
  have e3 := yE.cell 3 _ rfl
  have e4 := yE.cell 4 _ rfl
  clear xC xE yC yE b1 b2 H1
  clear hC hD
  go_wp2
  refine wp_region_held_drew (S := fun w' => Below W1.heap.size W1 w') (by kernel_rfl) ((Below.refl _ _).drew) (fun hHeld => ?_)
  refine held_take (i := 0) (d := 12) (v := ?v42) rfl rfl (by kernel_rfl) (by kernel_rfl) (by kernel_rfl) (fun _ _ _ h => h) (Or.inl ⟨by kernel_rfl, ?hy42⟩) hHeld ?rest42
  case hy42 =>
    intro wx hSw
    clear hSw
    go_simp
    with_reducible rfl
  simp only [List.setIfInBounds_toArray, List.set_cons_zero, List.set_cons_succ]
  refine held_take (i := 1) (d := 13) (v := ?v43) rfl rfl (by kernel_rfl) (by kernel_rfl) (by kernel_rfl) (fun _ _ _ h => h) (Or.inl ⟨by kernel_rfl, ?hy43⟩) hHeld ?rest43
  case hy43 =>
    intro wx hSw
    have q0 := (hSw.cell (p := ⟨D + 1, 4, none⟩) hltE).trans e4
    clear hSw
    go_simp
    with_reducible rfl
  simp only [List.setIfInBounds_toArray, List.set_cons_zero, List.set_cons_succ]
  refine held_take (i := 2) (d := 14) (v := ?v44) rfl rfl (by kernel_rfl) (by kernel_rfl) (by kernel_rfl) (fun _ _ _ h => h) (Or.inl ⟨by kernel_rfl, ?hy44⟩) hHeld ?rest44
  case hy44 =>
    intro wx hSw
    clear hSw
    go_simp
    with_reducible rfl
  simp only [List.setIfInBounds_toArray, List.set_cons_zero, List.set_cons_succ]
  refine held_take (i := 3) (d := 15) (v := ?v45) rfl rfl (by kernel_rfl) (by kernel_rfl) (by kernel_rfl) (fun _ _ _ h => h) (Or.inl ⟨by kernel_rfl, ?hy45⟩) hHeld ?rest45
  case hy45 =>
    intro wx hSw
    clear hSw
    go_simp
    with_reducible rfl
  simp only [List.setIfInBounds_toArray, List.set_cons_zero, List.set_cons_succ]
  refine held_take (i := 4) (d := 16) (v := ?v46) rfl rfl (by kernel_rfl) (by kernel_rfl) (by kernel_rfl) (fun _ _ _ h => h) (Or.inl ⟨by kernel_rfl, ?hy46⟩) hHeld ?rest46
  case hy46 =>
    intro wx hSw
    have q0 := (hSw.cell (p := ⟨D, 0, none⟩) hltC).trans k0.out
    clear hSw
    go_simp
    with_reducible rfl
  simp only [List.setIfInBounds_toArray, List.set_cons_zero, List.set_cons_succ]
  refine held_take (i := 5) (d := 17) (v := ?v47) rfl rfl (by kernel_rfl) (by kernel_rfl) (by kernel_rfl) (fun _ _ _ h => h) (Or.inl ⟨by kernel_rfl, ?hy47⟩) hHeld ?rest47
  case hy47 =>
    intro wx hSw
    clear hSw
    go_simp
    with_reducible rfl
  simp only [List.setIfInBounds_toArray, List.set_cons_zero, List.set_cons_succ]
  refine held_take (i := 6) (d := 18) (v := ?v48) rfl rfl (by kernel_rfl) (by kernel_rfl) (by kernel_rfl) (fun _ _ _ h => h) (Or.inl ⟨by kernel_rfl, ?hy48⟩) hHeld ?rest48
  case hy48 =>
    intro wx hSw
    clear hSw
    go_simp
    with_reducible rfl
  simp only [List.setIfInBounds_toArray, List.set_cons_zero, List.set_cons_succ]
  refine held_take (i := 7) (d := 19) (v := ?v49) rfl rfl (by kernel_rfl) (by kernel_rfl) (by kernel_rfl) (fun _ _ _ h => h) (Or.inl ⟨by kernel_rfl, ?hy49⟩) hHeld ?rest49
  case hy49 =>
    intro wx hSw
    clear hSw
    go_simp
    with_reducible rfl
  simp only [List.setIfInBounds_toArray, List.set_cons_zero, List.set_cons_succ]
  refine held_take (i := 8) (d := 20) (v := ?v50) rfl rfl (by kernel_rfl) (by kernel_rfl) (by kernel_rfl) (fun _ _ _ h => h) (Or.inl ⟨by kernel_rfl, ?hy50⟩) hHeld ?rest50
  case hy50 =>
    intro wx hSw
    clear hSw
    go_simp
    with_reducible rfl
  simp only [List.setIfInBounds_toArray, List.set_cons_zero, List.set_cons_succ]
  refine held_take (i := 9) (d := 21) (v := ?v51) rfl rfl (by kernel_rfl) (by kernel_rfl) (by kernel_rfl) (fun _ _ _ h => h) (Or.inl ⟨by kernel_rfl, ?hy51⟩) hHeld ?rest51
  case hy51 =>
    intro wx hSw
    have q0 := (hSw.cell (p := ⟨D + 1, 0, none⟩) hltE).trans e0
    clear hSw
    go_simp
    with_reducible rfl
  simp only [List.setIfInBounds_toArray, List.set_cons_zero, List.set_cons_succ]
  refine held_take (i := 10) (d := 22) (v := ?v52) rfl rfl (by kernel_rfl) (by kernel_rfl) (by kernel_rfl) (fun _ _ _ h => h) (Or.inl ⟨by kernel_rfl, ?hy52⟩) hHeld ?rest52
  case hy52 =>
    intro wx hSw
    clear hSw
    go_simp
    with_reducible rfl
  simp only [List.setIfInBounds_toArray, List.set_cons_zero, List.set_cons_succ]
  refine held_take (i := 11) (d := 23) (v := ?v53) rfl rfl (by kernel_rfl) (by kernel_rfl) (by kernel_rfl) (fun _ _ _ h => h) (Or.inl ⟨by kernel_rfl, ?hy53⟩) hHeld ?rest53
  case hy53 =>
    intro wx hSw
    clear hSw
    go_simp
    with_reducible rfl
  simp only [List.setIfInBounds_toArray, List.set_cons_zero, List.set_cons_succ]
  refine held_take (i := 12) (d := 24) (v := ?v54) rfl rfl (by kernel_rfl) (by kernel_rfl) (by kernel_rfl) (fun _ _ _ h => h) (Or.inl ⟨by kernel_rfl, ?hy54⟩) hHeld ?rest54
  case hy54 =>
    intro wx hSw
    clear hSw
    go_simp
    with_reducible rfl
  simp only [List.setIfInBounds_toArray, List.set_cons_zero, List.set_cons_succ]
  refine held_take (i := 13) (d := 25) (v := ?v55) rfl rfl (by kernel_rfl) (by kernel_rfl) (by kernel_rfl) (fun _ _ _ h => h) (Or.inl ⟨by kernel_rfl, ?hy55⟩) hHeld ?rest55
  case hy55 =>
    intro wx hSw
    clear hSw
    go_simp
    with_reducible rfl
  simp only [List.setIfInBounds_toArray, List.set_cons_zero, List.set_cons_succ]
  refine held_take (i := 14) (d := 26) (v := ?v56) rfl rfl (by kernel_rfl) (by kernel_rfl) (by kernel_rfl) (fun _ _ _ h => h) (Or.inl ⟨by kernel_rfl, ?hy56⟩) hHeld ?rest56
  case hy56 =>
    intro wx hSw
    have q0 := (hSw.cell (p := ⟨D + 1, 0, none⟩) hltE).trans e0
    clear hSw
    go_simp
    with_reducible rfl
  simp only [List.setIfInBounds_toArray, List.set_cons_zero, List.set_cons_succ]
  refine held_take (i := 15) (d := 27) (v := ?v57) rfl rfl (by kernel_rfl) (by kernel_rfl) (by kernel_rfl) (fun _ _ _ h => h) (Or.inl ⟨by kernel_rfl, ?hy57⟩) hHeld ?rest57
  case hy57 =>
    intro wx hSw
    clear hSw
    go_simp
    with_reducible rfl
  simp only [List.setIfInBounds_toArray, List.set_cons_zero, List.set_cons_succ]
  refine held_take (i := 16) (d := 28) (v := ?v58) rfl rfl (by kernel_rfl) (by kernel_rfl) (by kernel_rfl) (fun _ _ _ h => h) (Or.inl ⟨by kernel_rfl, ?hy58⟩) hHeld ?rest58
  case hy58 =>
    intro wx hSw
    clear hSw
    go_simp
    with_reducible rfl
  simp only [List.setIfInBounds_toArray, List.set_cons_zero, List.set_cons_succ]
  refine held_take (i := 17) (d := 29) (v := ?v59) rfl rfl (by kernel_rfl) (by kernel_rfl) (by kernel_rfl) (fun _ _ _ h => h) (Or.inl ⟨by kernel_rfl, ?hy59⟩) hHeld ?rest59
  case hy59 =>
    intro wx hSw
    clear hSw
    go_simp
    with_reducible rfl
  simp only [List.setIfInBounds_toArray, List.set_cons_zero, List.set_cons_succ]
  refine held_take (i := 18) (d := 30) (v := undef) rfl rfl (by kernel_rfl) (by kernel_rfl) (by kernel_rfl) (fun _ _ _ h => h) (Or.inr ⟨by kernel_rfl, rfl⟩) hHeld ?_
  simp only [List.setIfInBounds_toArray, List.set_cons_zero, List.set_cons_succ]
  refine held_take (i := 19) (d := 31) (v := undef) rfl rfl (by kernel_rfl) (by kernel_rfl) (by kernel_rfl) (fun _ _ _ h => h) (Or.inr ⟨by kernel_rfl, rfl⟩) hHeld ?_
  simp only [List.setIfInBounds_toArray, List.set_cons_zero, List.set_cons_succ]
  refine held_take (i := 20) (d := 32) (v := undef) rfl rfl (by kernel_rfl) (by kernel_rfl) (by kernel_rfl) (fun _ _ _ h => h) (Or.inr ⟨by kernel_rfl, rfl⟩) hHeld ?_
  simp only [List.setIfInBounds_toArray, List.set_cons_zero, List.set_cons_succ]
  refine held_take (i := 21) (d := 33) (v := ?v60) rfl rfl (by kernel_rfl) (by kernel_rfl) (by kernel_rfl) (fun _ _ _ h => h) (Or.inl ⟨by kernel_rfl, ?hy60⟩) hHeld ?rest60
  case hy60 =>
    intro wx hSw
    clear hSw
    go_simp
    with_reducible rfl
  simp only [List.setIfInBounds_toArray, List.set_cons_zero, List.set_cons_succ]
  refine held_take (i := 22) (d := 34) (v := ?v61) rfl rfl (by kernel_rfl) (by kernel_rfl) (by kernel_rfl) (fun _ _ _ h => h) (Or.inl ⟨by kernel_rfl, ?hy61⟩) hHeld ?rest61
  case hy61 =>
    intro wx hSw
    clear hSw
    go_simp
    with_reducible rfl
  simp only [List.setIfInBounds_toArray, List.set_cons_zero, List.set_cons_succ]
  refine held_take (i := 23) (d := 35) (v := undef) rfl rfl (by kernel_rfl) (by kernel_rfl) (by kernel_rfl) (fun _ _ _ h => h) (Or.inr ⟨by kernel_rfl, rfl⟩) hHeld ?_
  simp only [List.setIfInBounds_toArray, List.set_cons_zero, List.set_cons_succ]
  refine held_take (i := 24) (d := 36) (v := undef) rfl rfl (by kernel_rfl) (by kernel_rfl) (by kernel_rfl) (fun _ _ _ h => h) (Or.inr ⟨by kernel_rfl, rfl⟩) hHeld ?_
  simp only [List.setIfInBounds_toArray, List.set_cons_zero, List.set_cons_succ]
  refine held_take (i := 25) (d := 37) (v := undef) rfl rfl (by kernel_rfl) (by kernel_rfl) (by kernel_rfl) (fun _ _ _ h => h) (Or.inr ⟨by kernel_rfl, rfl⟩) hHeld ?_
  simp only [List.setIfInBounds_toArray, List.set_cons_zero, List.set_cons_succ]
  refine held_take (i := 26) (d := 38) (v := ?v62) rfl rfl (by kernel_rfl) (by kernel_rfl) (by kernel_rfl) (fun _ _ _ h => h) (Or.inl ⟨by kernel_rfl, ?hy62⟩) hHeld ?rest62
  case hy62 =>
    intro wx hSw
    clear hSw
    go_simp
    with_reducible rfl
  simp only [List.setIfInBounds_toArray, List.set_cons_zero, List.set_cons_succ]
  refine held_take (i := 27) (d := 39) (v := ?v63) rfl rfl (by kernel_rfl) (by kernel_rfl) (by kernel_rfl) (fun _ _ _ h => h) (Or.inl ⟨by kernel_rfl, ?hy63⟩) hHeld ?rest63
  case hy63 =>
    intro wx hSw
    clear hSw
    go_simp
    with_reducible rfl
  simp only [List.setIfInBounds_toArray, List.set_cons_zero, List.set_cons_succ]
  refine held_take (i := 28) (d := 40) (v := undef) rfl rfl (by kernel_rfl) (by kernel_rfl) (by kernel_rfl) (fun _ _ _ h => h) (Or.inr ⟨by kernel_rfl, rfl⟩) hHeld ?_
  simp only [List.setIfInBounds_toArray, List.set_cons_zero, List.set_cons_succ]
  refine held_take (i := 29) (d := 41) (v := undef) rfl rfl (by kernel_rfl) (by kernel_rfl) (by kernel_rfl) (fun _ _ _ h => h) (Or.inr ⟨by kernel_rfl, rfl⟩) hHeld ?_
  simp only [List.setIfInBounds_toArray, List.set_cons_zero, List.set_cons_succ]
  refine held_take (i := 30) (d := 42) (v := undef) rfl rfl (by kernel_rfl) (by kernel_rfl) (by kernel_rfl) (fun _ _ _ h => h) (Or.inr ⟨by kernel_rfl, rfl⟩) hHeld ?_
  simp only [List.setIfInBounds_toArray, List.set_cons_zero, List.set_cons_succ]
  refine held_take (i := 31) (d := 43) (v := ?v64) rfl rfl (by kernel_rfl) (by kernel_rfl) (by kernel_rfl) (fun _ _ _ h => h) (Or.inl ⟨by kernel_rfl, ?hy64⟩) hHeld ?rest64
  case hy64 =>
    intro wx hSw
    clear hSw
    go_simp
    with_reducible rfl
  simp only [List.setIfInBounds_toArray, List.set_cons_zero, List.set_cons_succ]
  refine held_take (i := 32) (d := 44) (v := ?v65) rfl rfl (by kernel_rfl) (by kernel_rfl) (by kernel_rfl) (fun _ _ _ h => h) (Or.inl ⟨by kernel_rfl, ?hy65⟩) hHeld ?rest65
  case hy65 =>
    intro wx hSw
    clear hSw
    go_simp
    with_reducible rfl
  simp only [List.setIfInBounds_toArray, List.set_cons_zero, List.set_cons_succ]
  refine held_take (i := 33) (d := 45) (v := undef) rfl rfl (by kernel_rfl) (by kernel_rfl) (by kernel_rfl) (fun _ _ _ h => h) (Or.inr ⟨by kernel_rfl, rfl⟩) hHeld ?_
  simp only [List.setIfInBounds_toArray, List.set_cons_zero, List.set_cons_succ]
  refine held_take (i := 34) (d := 46) (v := undef) rfl rfl (by kernel_rfl) (by kernel_rfl) (by kernel_rfl) (fun _ _ _ h => h) (Or.inr ⟨by kernel_rfl, rfl⟩) hHeld ?_
  simp only [List.setIfInBounds_toArray, List.set_cons_zero, List.set_cons_succ]
  refine held_take (i := 35) (d := 47) (v := undef) rfl rfl (by kernel_rfl) (by kernel_rfl) (by kernel_rfl) (fun _ _ _ h => h) (Or.inr ⟨by kernel_rfl, rfl⟩) hHeld ?_
  simp only [List.setIfInBounds_toArray, List.set_cons_zero, List.set_cons_succ]
  refine held_take (i := 36) (d := 48) (v := undef) rfl rfl (by kernel_rfl) (by kernel_rfl) (by kernel_rfl) (fun _ _ _ h => h) (Or.inr ⟨by kernel_rfl, rfl⟩) hHeld ?_
  simp only [List.setIfInBounds_toArray, List.set_cons_zero, List.set_cons_succ]
  refine held_take (i := 37) (d := 49) (v := undef) rfl rfl (by kernel_rfl) (by kernel_rfl) (by kernel_rfl) (fun _ _ _ h => h) (Or.inr ⟨by kernel_rfl, rfl⟩) hHeld ?_
  simp only [List.setIfInBounds_toArray, List.set_cons_zero, List.set_cons_succ]
  refine held_take (i := 38) (d := 50) (v := ?v66) rfl rfl (by kernel_rfl) (by kernel_rfl) (by kernel_rfl) (fun _ _ _ h => h) (Or.inl ⟨by kernel_rfl, ?hy66⟩) hHeld ?rest66
  case hy66 =>
    intro wx hSw
    clear hSw
    go_simp
    with_reducible rfl
  simp only [List.setIfInBounds_toArray, List.set_cons_zero, List.set_cons_succ]
  refine wpAnyH_ready (rs := [39]) (by kernel_rfl) (by simp) ?_
  refine AllReadyH.cons rfl (fun K hK => ?_) AllReadyH.nil
  go_simp
  refine hK.out _ _ hHeld (fun hHeld => ?_)
  clear hK K
  refine wpAnyH_done (by kernel_rfl) ?_ _
  go_wp2
  go_ret
  exact ⟨rfl, bb.trans (hHeld.mono hDS)⟩

set_option maxRecDepth 100000 in
set_option maxHeartbeats 4000000 in
theorem emitCheck_d (c : Cfg) (hC : okC c = true) (s r f : Int) (k : Bool) (a : Option Addr) (n cap : Nat) (hl : n ≤ 4096) (h : (n : Int) = c.cB + 10) (h1 : 0 ≤ s) (h2 : s < 1073741824) (hx : ¬ 0 ≤ r) (w : World) :
    Calls Tryd.prog 41 #[.agg #[.int .i64 c.cB, .int .i64 c.cBeam, .int .i64 c.cDepth, .int .i64 c.cWin, .int .i64 c.cQs, .int .i64 c.cQr, .int .i64 c.cBatch, .int .i64 c.cPass, .int .i64 c.cMsg, .int .i64 c.cSeqs], .agg #[.int .i64 s, .int .i64 r, .int .i64 f, .bool k, .slice a n cap]] w fun e w' => e = .returned (.int .i64 1) ∧ Below w.heap.size w w' := by
  have hb := ((okC_iff c).1 hC).1
  have eW : IntKind.i64.wrap (c.cB + 10) = c.cB + 10 := by rw [IntKind.wrap_i64]; omega
  have d0 : ((n : Int) == c.cB + 10) = true := by rw [beq_iff_eq]; exact h
  clear h
  have d1 : decide (0 ≤ s) = true := decide_eq_true h1
  clear h1
  have d2 : decide (s < 1073741824) = true := decide_eq_true h2
  clear h2
  have dx : decide (0 ≤ r) = false := decide_eq_false hx
  clear hx
  have bE : c.cB + 10 ≤ 9223372036854775807 := by omega
  have bE2 : -9223372036854775808 ≤ c.cB + 10 := by omega
  clear hb hl
  have b1 := ((Below.refl w.heap.size w).alloc (Nat.le_refl _) (.cells #[.int .i64 c.cB, .int .i64 c.cBeam, .int .i64 c.cDepth, .int .i64 c.cWin, .int .i64 c.cQs, .int .i64 c.cQr, .int .i64 c.cBatch, .int .i64 c.cPass, .int .i64 c.cMsg, .int .i64 c.cSeqs] 23)).alloc (by simp) (.cells #[.int .i64 s, .int .i64 r, .int .i64 f, .bool k, .slice a n cap] 47)
  have xC := (Box.new w 23 #[.int .i64 c.cB, .int .i64 c.cBeam, .int .i64 c.cDepth, .int .i64 c.cWin, .int .i64 c.cQs, .int .i64 c.cQr, .int .i64 c.cBatch, .int .i64 c.cPass, .int .i64 c.cMsg, .int .i64 c.cSeqs]).alloc (.cells #[.int .i64 s, .int .i64 r, .int .i64 f, .bool k, .slice a n cap] 47)
  have xE := Box.new (w.alloc (.cells #[.int .i64 c.cB, .int .i64 c.cBeam, .int .i64 c.cDepth, .int .i64 c.cWin, .int .i64 c.cQs, .int .i64 c.cQr, .int .i64 c.cBatch, .int .i64 c.cPass, .int .i64 c.cMsg, .int .i64 c.cSeqs] 23)) 47 #[.int .i64 s, .int .i64 r, .int .i64 f, .bool k, .slice a n cap]
  rw [show (w.alloc (.cells #[.int .i64 c.cB, .int .i64 c.cBeam, .int .i64 c.cDepth, .int .i64 c.cWin, .int .i64 c.cQs, .int .i64 c.cQr, .int .i64 c.cBatch, .int .i64 c.cPass, .int .i64 c.cMsg, .int .i64 c.cSeqs] 23)).heap.size = w.heap.size + 1 by simp] at xE
  have H1 := ConfCheck_any c ((w.alloc (.cells #[.int .i64 c.cB, .int .i64 c.cBeam, .int .i64 c.cDepth, .int .i64 c.cWin, .int .i64 c.cQs, .int .i64 c.cQr, .int .i64 c.cBatch, .int .i64 c.cPass, .int .i64 c.cMsg, .int .i64 c.cSeqs] 23)).alloc (.cells #[.int .i64 s, .int .i64 r, .int .i64 f, .bool k, .slice a n cap] 47))
  unfold checkA at H1
  rw [if_pos hC] at H1
  go_enter Tryd.func41, Tryd.ntmps41
  go_wp2_with fail
  refine H1.mono ?_
  rintro e W1 ⟨rfl, b2⟩
  have yC := xC.next b2
  have yE := xE.next b2
  have bb := b1.trans (b2.mono b1.size)
  obtain ⟨D, hD⟩ : ∃ D, w.heap.size = D := ⟨_, rfl⟩
  rw [hD] at yC yE ⊢
  have hltC := yC.lt
  have hltE := yE.lt
  have hDS : w.heap.size ≤ W1.heap.size := bb.size
  have k0 : Hid (W1.cell? ⟨D, 0, none⟩ = some (.int .i64 c.cB)) := yC.cell 0 _ rfl
  have k1 : Hid (W1.cell? ⟨D, 1, none⟩ = some (.int .i64 c.cBeam)) := yC.cell 1 _ rfl
  have k2 : Hid (W1.cell? ⟨D, 2, none⟩ = some (.int .i64 c.cDepth)) := yC.cell 2 _ rfl
  have k3 : Hid (W1.cell? ⟨D, 3, none⟩ = some (.int .i64 c.cWin)) := yC.cell 3 _ rfl
  have k4 : Hid (W1.cell? ⟨D, 4, none⟩ = some (.int .i64 c.cQs)) := yC.cell 4 _ rfl
  have k5 : Hid (W1.cell? ⟨D, 5, none⟩ = some (.int .i64 c.cQr)) := yC.cell 5 _ rfl
  have k6 : Hid (W1.cell? ⟨D, 6, none⟩ = some (.int .i64 c.cBatch)) := yC.cell 6 _ rfl
  have k7 : Hid (W1.cell? ⟨D, 7, none⟩ = some (.int .i64 c.cPass)) := yC.cell 7 _ rfl
  have k8 : Hid (W1.cell? ⟨D, 8, none⟩ = some (.int .i64 c.cMsg)) := yC.cell 8 _ rfl
  have k9 : Hid (W1.cell? ⟨D, 9, none⟩ = some (.int .i64 c.cSeqs)) := yC.cell 9 _ rfl
  have e0 := yE.cell 0 _ rfl
  have e1 := yE.cell 1 _ rfl
  have e2 := yE.cell 2 _ rfl
  have e3 := yE.cell 3 _ rfl
  have e4 := yE.cell 4 _ rfl
  clear xC xE yC yE b1 b2 H1
  clear hC hD
  go_wp2
  refine wp_region_held_drew (S := fun w' => Below W1.heap.size W1 w') (by kernel_rfl) ((Below.refl _ _).drew) (fun hHeld => ?_)
  refine held_take (i := 0) (d := 12) (v := ?v67) rfl rfl (by kernel_rfl) (by kernel_rfl) (by kernel_rfl) (fun _ _ _ h => h) (Or.inl ⟨by kernel_rfl, ?hy67⟩) hHeld ?rest67
  case hy67 =>
    intro wx hSw
    clear hSw
    go_simp
    with_reducible rfl
  simp only [List.setIfInBounds_toArray, List.set_cons_zero, List.set_cons_succ]
  refine held_take (i := 1) (d := 13) (v := ?v68) rfl rfl (by kernel_rfl) (by kernel_rfl) (by kernel_rfl) (fun _ _ _ h => h) (Or.inl ⟨by kernel_rfl, ?hy68⟩) hHeld ?rest68
  case hy68 =>
    intro wx hSw
    have q0 := (hSw.cell (p := ⟨D + 1, 4, none⟩) hltE).trans e4
    clear hSw
    go_simp
    with_reducible rfl
  simp only [List.setIfInBounds_toArray, List.set_cons_zero, List.set_cons_succ]
  refine held_take (i := 2) (d := 14) (v := ?v69) rfl rfl (by kernel_rfl) (by kernel_rfl) (by kernel_rfl) (fun _ _ _ h => h) (Or.inl ⟨by kernel_rfl, ?hy69⟩) hHeld ?rest69
  case hy69 =>
    intro wx hSw
    clear hSw
    go_simp
    with_reducible rfl
  simp only [List.setIfInBounds_toArray, List.set_cons_zero, List.set_cons_succ]
  refine held_take (i := 3) (d := 15) (v := ?v70) rfl rfl (by kernel_rfl) (by kernel_rfl) (by kernel_rfl) (fun _ _ _ h => h) (Or.inl ⟨by kernel_rfl, ?hy70⟩) hHeld ?rest70
  case hy70 =>
    intro wx hSw
    clear hSw
    go_simp
    with_reducible rfl
  simp only [List.setIfInBounds_toArray, List.set_cons_zero, List.set_cons_succ]
  refine held_take (i := 4) (d := 16) (v := ?v71) rfl rfl (by kernel_rfl) (by kernel_rfl) (by kernel_rfl) (fun _ _ _ h => h) (Or.inl ⟨by kernel_rfl, ?hy71⟩) hHeld ?rest71
  case hy71 =>
    intro wx hSw
    have q0 := (hSw.cell (p := ⟨D, 0, none⟩) hltC).trans k0.out
    clear hSw
    go_simp
    with_reducible rfl
  simp only [List.setIfInBounds_toArray, List.set_cons_zero, List.set_cons_succ]
  refine held_take (i := 5) (d := 17) (v := ?v72) rfl rfl (by kernel_rfl) (by kernel_rfl) (by kernel_rfl) (fun _ _ _ h => h) (Or.inl ⟨by kernel_rfl, ?hy72⟩) hHeld ?rest72
  case hy72 =>
    intro wx hSw
    clear hSw
    go_simp
    with_reducible rfl
  simp only [List.setIfInBounds_toArray, List.set_cons_zero, List.set_cons_succ]
  refine held_take (i := 6) (d := 18) (v := ?v73) rfl rfl (by kernel_rfl) (by kernel_rfl) (by kernel_rfl) (fun _ _ _ h => h) (Or.inl ⟨by kernel_rfl, ?hy73⟩) hHeld ?rest73
  case hy73 =>
    intro wx hSw
    clear hSw
    go_simp
    with_reducible rfl
  simp only [List.setIfInBounds_toArray, List.set_cons_zero, List.set_cons_succ]
  refine held_take (i := 7) (d := 19) (v := ?v74) rfl rfl (by kernel_rfl) (by kernel_rfl) (by kernel_rfl) (fun _ _ _ h => h) (Or.inl ⟨by kernel_rfl, ?hy74⟩) hHeld ?rest74
  case hy74 =>
    intro wx hSw
    clear hSw
    go_simp
    with_reducible rfl
  simp only [List.setIfInBounds_toArray, List.set_cons_zero, List.set_cons_succ]
  refine held_take (i := 8) (d := 20) (v := ?v75) rfl rfl (by kernel_rfl) (by kernel_rfl) (by kernel_rfl) (fun _ _ _ h => h) (Or.inl ⟨by kernel_rfl, ?hy75⟩) hHeld ?rest75
  case hy75 =>
    intro wx hSw
    clear hSw
    go_simp
    with_reducible rfl
  simp only [List.setIfInBounds_toArray, List.set_cons_zero, List.set_cons_succ]
  refine held_take (i := 9) (d := 21) (v := ?v76) rfl rfl (by kernel_rfl) (by kernel_rfl) (by kernel_rfl) (fun _ _ _ h => h) (Or.inl ⟨by kernel_rfl, ?hy76⟩) hHeld ?rest76
  case hy76 =>
    intro wx hSw
    have q0 := (hSw.cell (p := ⟨D + 1, 0, none⟩) hltE).trans e0
    clear hSw
    go_simp
    with_reducible rfl
  simp only [List.setIfInBounds_toArray, List.set_cons_zero, List.set_cons_succ]
  refine held_take (i := 10) (d := 22) (v := ?v77) rfl rfl (by kernel_rfl) (by kernel_rfl) (by kernel_rfl) (fun _ _ _ h => h) (Or.inl ⟨by kernel_rfl, ?hy77⟩) hHeld ?rest77
  case hy77 =>
    intro wx hSw
    clear hSw
    go_simp
    with_reducible rfl
  simp only [List.setIfInBounds_toArray, List.set_cons_zero, List.set_cons_succ]
  refine held_take (i := 11) (d := 23) (v := ?v78) rfl rfl (by kernel_rfl) (by kernel_rfl) (by kernel_rfl) (fun _ _ _ h => h) (Or.inl ⟨by kernel_rfl, ?hy78⟩) hHeld ?rest78
  case hy78 =>
    intro wx hSw
    clear hSw
    go_simp
    with_reducible rfl
  simp only [List.setIfInBounds_toArray, List.set_cons_zero, List.set_cons_succ]
  refine held_take (i := 12) (d := 24) (v := ?v79) rfl rfl (by kernel_rfl) (by kernel_rfl) (by kernel_rfl) (fun _ _ _ h => h) (Or.inl ⟨by kernel_rfl, ?hy79⟩) hHeld ?rest79
  case hy79 =>
    intro wx hSw
    clear hSw
    go_simp
    with_reducible rfl
  simp only [List.setIfInBounds_toArray, List.set_cons_zero, List.set_cons_succ]
  refine held_take (i := 13) (d := 25) (v := ?v80) rfl rfl (by kernel_rfl) (by kernel_rfl) (by kernel_rfl) (fun _ _ _ h => h) (Or.inl ⟨by kernel_rfl, ?hy80⟩) hHeld ?rest80
  case hy80 =>
    intro wx hSw
    clear hSw
    go_simp
    with_reducible rfl
  simp only [List.setIfInBounds_toArray, List.set_cons_zero, List.set_cons_succ]
  refine held_take (i := 14) (d := 26) (v := ?v81) rfl rfl (by kernel_rfl) (by kernel_rfl) (by kernel_rfl) (fun _ _ _ h => h) (Or.inl ⟨by kernel_rfl, ?hy81⟩) hHeld ?rest81
  case hy81 =>
    intro wx hSw
    have q0 := (hSw.cell (p := ⟨D + 1, 0, none⟩) hltE).trans e0
    clear hSw
    go_simp
    with_reducible rfl
  simp only [List.setIfInBounds_toArray, List.set_cons_zero, List.set_cons_succ]
  refine held_take (i := 15) (d := 27) (v := ?v82) rfl rfl (by kernel_rfl) (by kernel_rfl) (by kernel_rfl) (fun _ _ _ h => h) (Or.inl ⟨by kernel_rfl, ?hy82⟩) hHeld ?rest82
  case hy82 =>
    intro wx hSw
    clear hSw
    go_simp
    with_reducible rfl
  simp only [List.setIfInBounds_toArray, List.set_cons_zero, List.set_cons_succ]
  refine held_take (i := 16) (d := 28) (v := ?v83) rfl rfl (by kernel_rfl) (by kernel_rfl) (by kernel_rfl) (fun _ _ _ h => h) (Or.inl ⟨by kernel_rfl, ?hy83⟩) hHeld ?rest83
  case hy83 =>
    intro wx hSw
    clear hSw
    go_simp
    with_reducible rfl
  simp only [List.setIfInBounds_toArray, List.set_cons_zero, List.set_cons_succ]
  refine held_take (i := 17) (d := 29) (v := ?v84) rfl rfl (by kernel_rfl) (by kernel_rfl) (by kernel_rfl) (fun _ _ _ h => h) (Or.inl ⟨by kernel_rfl, ?hy84⟩) hHeld ?rest84
  case hy84 =>
    intro wx hSw
    clear hSw
    go_simp
    with_reducible rfl
  simp only [List.setIfInBounds_toArray, List.set_cons_zero, List.set_cons_succ]
  refine held_take (i := 18) (d := 30) (v := ?v85) rfl rfl (by kernel_rfl) (by kernel_rfl) (by kernel_rfl) (fun _ _ _ h => h) (Or.inl ⟨by kernel_rfl, ?hy85⟩) hHeld ?rest85
  case hy85 =>
    intro wx hSw
    clear hSw
    go_simp
    with_reducible rfl
  simp only [List.setIfInBounds_toArray, List.set_cons_zero, List.set_cons_succ]
  refine held_take (i := 19) (d := 31) (v := ?v86) rfl rfl (by kernel_rfl) (by kernel_rfl) (by kernel_rfl) (fun _ _ _ h => h) (Or.inl ⟨by kernel_rfl, ?hy86⟩) hHeld ?rest86
  case hy86 =>
    intro wx hSw
    have q0 := (hSw.cell (p := ⟨D + 1, 1, none⟩) hltE).trans e1
    clear hSw
    go_simp
    with_reducible rfl
  simp only [List.setIfInBounds_toArray, List.set_cons_zero, List.set_cons_succ]
  refine held_take (i := 20) (d := 32) (v := ?v87) rfl rfl (by kernel_rfl) (by kernel_rfl) (by kernel_rfl) (fun _ _ _ h => h) (Or.inl ⟨by kernel_rfl, ?hy87⟩) hHeld ?rest87
  case hy87 =>
    intro wx hSw
    clear hSw
    go_simp
    with_reducible rfl
  simp only [List.setIfInBounds_toArray, List.set_cons_zero, List.set_cons_succ]
  refine held_take (i := 21) (d := 33) (v := ?v88) rfl rfl (by kernel_rfl) (by kernel_rfl) (by kernel_rfl) (fun _ _ _ h => h) (Or.inl ⟨by kernel_rfl, ?hy88⟩) hHeld ?rest88
  case hy88 =>
    intro wx hSw
    clear hSw
    go_simp
    with_reducible rfl
  simp only [List.setIfInBounds_toArray, List.set_cons_zero, List.set_cons_succ]
  refine held_take (i := 22) (d := 34) (v := ?v89) rfl rfl (by kernel_rfl) (by kernel_rfl) (by kernel_rfl) (fun _ _ _ h => h) (Or.inl ⟨by kernel_rfl, ?hy89⟩) hHeld ?rest89
  case hy89 =>
    intro wx hSw
    clear hSw
    go_simp
    with_reducible rfl
  simp only [List.setIfInBounds_toArray, List.set_cons_zero, List.set_cons_succ]
  refine held_take (i := 23) (d := 35) (v := undef) rfl rfl (by kernel_rfl) (by kernel_rfl) (by kernel_rfl) (fun _ _ _ h => h) (Or.inr ⟨by kernel_rfl, rfl⟩) hHeld ?_
  simp only [List.setIfInBounds_toArray, List.set_cons_zero, List.set_cons_succ]
  refine held_take (i := 24) (d := 36) (v := undef) rfl rfl (by kernel_rfl) (by kernel_rfl) (by kernel_rfl) (fun _ _ _ h => h) (Or.inr ⟨by kernel_rfl, rfl⟩) hHeld ?_
  simp only [List.setIfInBounds_toArray, List.set_cons_zero, List.set_cons_succ]
  refine held_take (i := 25) (d := 37) (v := undef) rfl rfl (by kernel_rfl) (by kernel_rfl) (by kernel_rfl) (fun _ _ _ h => h) (Or.inr ⟨by kernel_rfl, rfl⟩) hHeld ?_
  simp only [List.setIfInBounds_toArray, List.set_cons_zero, List.set_cons_succ]
  refine held_take (i := 26) (d := 38) (v := ?v90) rfl rfl (by kernel_rfl) (by kernel_rfl) (by kernel_rfl) (fun _ _ _ h => h) (Or.inl ⟨by kernel_rfl, ?hy90⟩) hHeld ?rest90
  case hy90 =>
    intro wx hSw
    clear hSw
    go_simp
    with_reducible rfl
  simp only [List.setIfInBounds_toArray, List.set_cons_zero, List.set_cons_succ]
  refine held_take (i := 27) (d := 39) (v := ?v91) rfl rfl (by kernel_rfl) (by kernel_rfl) (by kernel_rfl) (fun _ _ _ h => h) (Or.inl ⟨by kernel_rfl, ?hy91⟩) hHeld ?rest91
  case hy91 =>
    intro wx hSw
    clear hSw
    go_simp
    with_reducible rfl
  simp only [List.setIfInBounds_toArray, List.set_cons_zero, List.set_cons_succ]
  refine held_take (i := 28) (d := 40) (v := undef) rfl rfl (by kernel_rfl) (by kernel_rfl) (by kernel_rfl) (fun _ _ _ h => h) (Or.inr ⟨by kernel_rfl, rfl⟩) hHeld ?_
  simp only [List.setIfInBounds_toArray, List.set_cons_zero, List.set_cons_succ]
  refine held_take (i := 29) (d := 41) (v := undef) rfl rfl (by kernel_rfl) (by kernel_rfl) (by kernel_rfl) (fun _ _ _ h => h) (Or.inr ⟨by kernel_rfl, rfl⟩) hHeld ?_
  simp only [List.setIfInBounds_toArray, List.set_cons_zero, List.set_cons_succ]
  refine held_take (i := 30) (d := 42) (v := undef) rfl rfl (by kernel_rfl) (by kernel_rfl) (by kernel_rfl) (fun _ _ _ h => h) (Or.inr ⟨by kernel_rfl, rfl⟩) hHeld ?_
  simp only [List.setIfInBounds_toArray, List.set_cons_zero, List.set_cons_succ]
  refine held_take (i := 31) (d := 43) (v := ?v92) rfl rfl (by kernel_rfl) (by kernel_rfl) (by kernel_rfl) (fun _ _ _ h => h) (Or.inl ⟨by kernel_rfl, ?hy92⟩) hHeld ?rest92
  case hy92 =>
    intro wx hSw
    clear hSw
    go_simp
    with_reducible rfl
  simp only [List.setIfInBounds_toArray, List.set_cons_zero, List.set_cons_succ]
  refine held_take (i := 32) (d := 44) (v := ?v93) rfl rfl (by kernel_rfl) (by kernel_rfl) (by kernel_rfl) (fun _ _ _ h => h) (Or.inl ⟨by kernel_rfl, ?hy93⟩) hHeld ?rest93
  case hy93 =>
    intro wx hSw
    clear hSw
    go_simp
    with_reducible rfl
  simp only [List.setIfInBounds_toArray, List.set_cons_zero, List.set_cons_succ]
  refine held_take (i := 33) (d := 45) (v := undef) rfl rfl (by kernel_rfl) (by kernel_rfl) (by kernel_rfl) (fun _ _ _ h => h) (Or.inr ⟨by kernel_rfl, rfl⟩) hHeld ?_
  simp only [List.setIfInBounds_toArray, List.set_cons_zero, List.set_cons_succ]
  refine held_take (i := 34) (d := 46) (v := undef) rfl rfl (by kernel_rfl) (by kernel_rfl) (by kernel_rfl) (fun _ _ _ h => h) (Or.inr ⟨by kernel_rfl, rfl⟩) hHeld ?_
  simp only [List.setIfInBounds_toArray, List.set_cons_zero, List.set_cons_succ]
  refine held_take (i := 35) (d := 47) (v := undef) rfl rfl (by kernel_rfl) (by kernel_rfl) (by kernel_rfl) (fun _ _ _ h => h) (Or.inr ⟨by kernel_rfl, rfl⟩) hHeld ?_
  simp only [List.setIfInBounds_toArray, List.set_cons_zero, List.set_cons_succ]
  refine held_take (i := 36) (d := 48) (v := undef) rfl rfl (by kernel_rfl) (by kernel_rfl) (by kernel_rfl) (fun _ _ _ h => h) (Or.inr ⟨by kernel_rfl, rfl⟩) hHeld ?_
  simp only [List.setIfInBounds_toArray, List.set_cons_zero, List.set_cons_succ]
  refine held_take (i := 37) (d := 49) (v := undef) rfl rfl (by kernel_rfl) (by kernel_rfl) (by kernel_rfl) (fun _ _ _ h => h) (Or.inr ⟨by kernel_rfl, rfl⟩) hHeld ?_
  simp only [List.setIfInBounds_toArray, List.set_cons_zero, List.set_cons_succ]
  refine held_take (i := 38) (d := 50) (v := ?v94) rfl rfl (by kernel_rfl) (by kernel_rfl) (by kernel_rfl) (fun _ _ _ h => h) (Or.inl ⟨by kernel_rfl, ?hy94⟩) hHeld ?rest94
  case hy94 =>
    intro wx hSw
    clear hSw
    go_simp
    with_reducible rfl
  simp only [List.setIfInBounds_toArray, List.set_cons_zero, List.set_cons_succ]
  refine wpAnyH_ready (rs := [39]) (by kernel_rfl) (by simp) ?_
  refine AllReadyH.cons rfl (fun K hK => ?_) AllReadyH.nil
  go_simp
  refine hK.out _ _ hHeld (fun hHeld => ?_)
  clear hK K
  refine wpAnyH_done (by kernel_rfl) ?_ _
  go_wp2
  go_ret
  exact ⟨rfl, bb.trans (hHeld.mono hDS)⟩

set_option maxRecDepth 100000 in
set_option maxHeartbeats 4000000 in
theorem emitCheck_e (c : Cfg) (hC : okC c = true) (s r f : Int) (k : Bool) (a : Option Addr) (n cap : Nat) (hl : n ≤ 4096) (h : (n : Int) = c.cB + 10) (h1 : 0 ≤ s) (h2 : s < 1073741824) (h3 : 0 ≤ r) (hx : ¬ r < 256) (w : World) :
    Calls Tryd.prog 41 #[.agg #[.int .i64 c.cB, .int .i64 c.cBeam, .int .i64 c.cDepth, .int .i64 c.cWin, .int .i64 c.cQs, .int .i64 c.cQr, .int .i64 c.cBatch, .int .i64 c.cPass, .int .i64 c.cMsg, .int .i64 c.cSeqs], .agg #[.int .i64 s, .int .i64 r, .int .i64 f, .bool k, .slice a n cap]] w fun e w' => e = .returned (.int .i64 1) ∧ Below w.heap.size w w' := by
  have hb := ((okC_iff c).1 hC).1
  have eW : IntKind.i64.wrap (c.cB + 10) = c.cB + 10 := by rw [IntKind.wrap_i64]; omega
  have d0 : ((n : Int) == c.cB + 10) = true := by rw [beq_iff_eq]; exact h
  clear h
  have d1 : decide (0 ≤ s) = true := decide_eq_true h1
  clear h1
  have d2 : decide (s < 1073741824) = true := decide_eq_true h2
  clear h2
  have d3 : decide (0 ≤ r) = true := decide_eq_true h3
  clear h3
  have dx : decide (r < 256) = false := decide_eq_false hx
  clear hx
  have bE : c.cB + 10 ≤ 9223372036854775807 := by omega
  have bE2 : -9223372036854775808 ≤ c.cB + 10 := by omega
  clear hb hl
  have b1 := ((Below.refl w.heap.size w).alloc (Nat.le_refl _) (.cells #[.int .i64 c.cB, .int .i64 c.cBeam, .int .i64 c.cDepth, .int .i64 c.cWin, .int .i64 c.cQs, .int .i64 c.cQr, .int .i64 c.cBatch, .int .i64 c.cPass, .int .i64 c.cMsg, .int .i64 c.cSeqs] 23)).alloc (by simp) (.cells #[.int .i64 s, .int .i64 r, .int .i64 f, .bool k, .slice a n cap] 47)
  have xC := (Box.new w 23 #[.int .i64 c.cB, .int .i64 c.cBeam, .int .i64 c.cDepth, .int .i64 c.cWin, .int .i64 c.cQs, .int .i64 c.cQr, .int .i64 c.cBatch, .int .i64 c.cPass, .int .i64 c.cMsg, .int .i64 c.cSeqs]).alloc (.cells #[.int .i64 s, .int .i64 r, .int .i64 f, .bool k, .slice a n cap] 47)
  have xE := Box.new (w.alloc (.cells #[.int .i64 c.cB, .int .i64 c.cBeam, .int .i64 c.cDepth, .int .i64 c.cWin, .int .i64 c.cQs, .int .i64 c.cQr, .int .i64 c.cBatch, .int .i64 c.cPass, .int .i64 c.cMsg, .int .i64 c.cSeqs] 23)) 47 #[.int .i64 s, .int .i64 r, .int .i64 f, .bool k, .slice a n cap]
  rw [show (w.alloc (.cells #[.int .i64 c.cB, .int .i64 c.cBeam, .int .i64 c.cDepth, .int .i64 c.cWin, .int .i64 c.cQs, .int .i64 c.cQr, .int .i64 c.cBatch, .int .i64 c.cPass, .int .i64 c.cMsg, .int .i64 c.cSeqs] 23)).heap.size = w.heap.size + 1 by simp] at xE
  have H1 := ConfCheck_any c ((w.alloc (.cells #[.int .i64 c.cB, .int .i64 c.cBeam, .int .i64 c.cDepth, .int .i64 c.cWin, .int .i64 c.cQs, .int .i64 c.cQr, .int .i64 c.cBatch, .int .i64 c.cPass, .int .i64 c.cMsg, .int .i64 c.cSeqs] 23)).alloc (.cells #[.int .i64 s, .int .i64 r, .int .i64 f, .bool k, .slice a n cap] 47))
  unfold checkA at H1
  rw [if_pos hC] at H1
  go_enter Tryd.func41, Tryd.ntmps41
  go_wp2_with fail
  refine H1.mono ?_
  rintro e W1 ⟨rfl, b2⟩
  have yC := xC.next b2
  have yE := xE.next b2
  have bb := b1.trans (b2.mono b1.size)
  obtain ⟨D, hD⟩ : ∃ D, w.heap.size = D := ⟨_, rfl⟩
  rw [hD] at yC yE ⊢
  have hltC := yC.lt
  have hltE := yE.lt
  have hDS : w.heap.size ≤ W1.heap.size := bb.size
  have k0 : Hid (W1.cell? ⟨D, 0, none⟩ = some (.int .i64 c.cB)) := yC.cell 0 _ rfl
  have k1 : Hid (W1.cell? ⟨D, 1, none⟩ = some (.int .i64 c.cBeam)) := yC.cell 1 _ rfl
  have k2 : Hid (W1.cell? ⟨D, 2, none⟩ = some (.int .i64 c.cDepth)) := yC.cell 2 _ rfl
  have k3 : Hid (W1.cell? ⟨D, 3, none⟩ = some (.int .i64 c.cWin)) := yC.cell 3 _ rfl
  have k4 : Hid (W1.cell? ⟨D, 4, none⟩ = some (.int .i64 c.cQs)) := yC.cell 4 _ rfl
  have k5 : Hid (W1.cell? ⟨D, 5, none⟩ = some (.int .i64 c.cQr)) := yC.cell 5 _ rfl
  have k6 : Hid (W1.cell? ⟨D, 6, none⟩ = some (.int .i64 c.cBatch)) := yC.cell 6 _ rfl
  have k7 : Hid (W1.cell? ⟨D, 7, none⟩ = some (.int .i64 c.cPass)) := yC.cell 7 _ rfl
  have k8 : Hid (W1.cell? ⟨D, 8, none⟩ = some (.int .i64 c.cMsg)) := yC.cell 8 _ rfl
  have k9 : Hid (W1.cell? ⟨D, 9, none⟩ = some (.int .i64 c.cSeqs)) := yC.cell 9 _ rfl
  have e0 := yE.cell 0 _ rfl
  have e1 := yE.cell 1 _ rfl
  have e2 := yE.cell 2 _ rfl
  have e3 := yE.cell 3 _ rfl
  have e4 := yE.cell 4 _ rfl
  clear xC xE yC yE b1 b2 H1
  clear hC hD
  go_wp2
  refine wp_region_held_drew (S := fun w' => Below W1.heap.size W1 w') (by kernel_rfl) ((Below.refl _ _).drew) (fun hHeld => ?_)
  refine held_take (i := 0) (d := 12) (v := ?v95) rfl rfl (by kernel_rfl) (by kernel_rfl) (by kernel_rfl) (fun _ _ _ h => h) (Or.inl ⟨by kernel_rfl, ?hy95⟩) hHeld ?rest95
  case hy95 =>
    intro wx hSw
    clear hSw
    go_simp
    with_reducible rfl
  simp only [List.setIfInBounds_toArray, List.set_cons_zero, List.set_cons_succ]
  refine held_take (i := 1) (d := 13) (v := ?v96) rfl rfl (by kernel_rfl) (by kernel_rfl) (by kernel_rfl) (fun _ _ _ h => h) (Or.inl ⟨by kernel_rfl, ?hy96⟩) hHeld ?rest96
  case hy96 =>
    intro wx hSw
    have q0 := (hSw.cell (p := ⟨D + 1, 4, none⟩) hltE).trans e4
    clear hSw
    go_simp
    with_reducible rfl
  simp only [List.setIfInBounds_toArray, List.set_cons_zero, List.set_cons_succ]
  refine held_take (i := 2) (d := 14) (v := ?v97) rfl rfl (by kernel_rfl) (by kernel_rfl) (by kernel_rfl) (fun _ _ _ h => h) (Or.inl ⟨by kernel_rfl, ?hy97⟩) hHeld ?rest97
  case hy97 =>
    intro wx hSw
    clear hSw
    go_simp
    with_reducible rfl
  simp only [List.setIfInBounds_toArray, List.set_cons_zero, List.set_cons_succ]
  refine held_take (i := 3) (d := 15) (v := ?v98) rfl rfl (by kernel_rfl) (by kernel_rfl) (by kernel_rfl) (fun _ _ _ h => h) (Or.inl ⟨by kernel_rfl, ?hy98⟩) hHeld ?rest98
  case hy98 =>
    intro wx hSw
    clear hSw
    go_simp
    with_reducible rfl
  simp only [List.setIfInBounds_toArray, List.set_cons_zero, List.set_cons_succ]
  refine held_take (i := 4) (d := 16) (v := ?v99) rfl rfl (by kernel_rfl) (by kernel_rfl) (by kernel_rfl) (fun _ _ _ h => h) (Or.inl ⟨by kernel_rfl, ?hy99⟩) hHeld ?rest99
  case hy99 =>
    intro wx hSw
    have q0 := (hSw.cell (p := ⟨D, 0, none⟩) hltC).trans k0.out
    clear hSw
    go_simp
    with_reducible rfl
  simp only [List.setIfInBounds_toArray, List.set_cons_zero, List.set_cons_succ]
  refine held_take (i := 5) (d := 17) (v := ?v100) rfl rfl (by kernel_rfl) (by kernel_rfl) (by kernel_rfl) (fun _ _ _ h => h) (Or.inl ⟨by kernel_rfl, ?hy100⟩) hHeld ?rest100
  case hy100 =>
    intro wx hSw
    clear hSw
    go_simp
    with_reducible rfl
  simp only [List.setIfInBounds_toArray, List.set_cons_zero, List.set_cons_succ]
  refine held_take (i := 6) (d := 18) (v := ?v101) rfl rfl (by kernel_rfl) (by kernel_rfl) (by kernel_rfl) (fun _ _ _ h => h) (Or.inl ⟨by kernel_rfl, ?hy101⟩) hHeld ?rest101
  case hy101 =>
    intro wx hSw
    clear hSw
    go_simp
    with_reducible rfl
  simp only [List.setIfInBounds_toArray, List.set_cons_zero, List.set_cons_succ]
  refine held_take (i := 7) (d := 19) (v := ?v102) rfl rfl (by kernel_rfl) (by kernel_rfl) (by kernel_rfl) (fun _ _ _ h => h) (Or.inl ⟨by kernel_rfl, ?hy102⟩) hHeld ?rest102
  case hy102 =>
    intro wx hSw
    clear hSw
    go_simp
    with_reducible rfl
  simp only [List.setIfInBounds_toArray, List.set_cons_zero, List.set_cons_succ]
  refine held_take (i := 8) (d := 20) (v := ?v103) rfl rfl (by kernel_rfl) (by kernel_rfl) (by kernel_rfl) (fun _ _ _ h => h) (Or.inl ⟨by kernel_rfl, ?hy103⟩) hHeld ?rest103
  case hy103 =>
    intro wx hSw
    clear hSw
    go_simp
    with_reducible rfl
  simp only [List.setIfInBounds_toArray, List.set_cons_zero, List.set_cons_succ]
  refine held_take (i := 9) (d := 21) (v := ?v104) rfl rfl (by kernel_rfl) (by kernel_rfl) (by kernel_rfl) (fun _ _ _ h => h) (Or.inl ⟨by kernel_rfl, ?hy104⟩) hHeld ?rest104
  case hy104 =>
    intro wx hSw
    have q0 := (hSw.cell (p := ⟨D + 1, 0, none⟩) hltE).trans e0
    clear hSw
    go_simp
    with_reducible rfl
  simp only [List.setIfInBounds_toArray, List.set_cons_zero, List.set_cons_succ]
  refine held_take (i := 10) (d := 22) (v := ?v105) rfl rfl (by kernel_rfl) (by kernel_rfl) (by kernel_rfl) (fun _ _ _ h => h) (Or.inl ⟨by kernel_rfl, ?hy105⟩) hHeld ?rest105
  case hy105 =>
    intro wx hSw
    clear hSw
    go_simp
    with_reducible rfl
  simp only [List.setIfInBounds_toArray, List.set_cons_zero, List.set_cons_succ]
  refine held_take (i := 11) (d := 23) (v := ?v106) rfl rfl (by kernel_rfl) (by kernel_rfl) (by kernel_rfl) (fun _ _ _ h => h) (Or.inl ⟨by kernel_rfl, ?hy106⟩) hHeld ?rest106
  case hy106 =>
    intro wx hSw
    clear hSw
    go_simp
    with_reducible rfl
  simp only [List.setIfInBounds_toArray, List.set_cons_zero, List.set_cons_succ]
  refine held_take (i := 12) (d := 24) (v := ?v107) rfl rfl (by kernel_rfl) (by kernel_rfl) (by kernel_rfl) (fun _ _ _ h => h) (Or.inl ⟨by kernel_rfl, ?hy107⟩) hHeld ?rest107
  case hy107 =>
    intro wx hSw
    clear hSw
    go_simp
    with_reducible rfl
  simp only [List.setIfInBounds_toArray, List.set_cons_zero, List.set_cons_succ]
  refine held_take (i := 13) (d := 25) (v := ?v108) rfl rfl (by kernel_rfl) (by kernel_rfl) (by kernel_rfl) (fun _ _ _ h => h) (Or.inl ⟨by kernel_rfl, ?hy108⟩) hHeld ?rest108
  case hy108 =>
    intro wx hSw
    clear hSw
    go_simp
    with_reducible rfl
  simp only [List.setIfInBounds_toArray, List.set_cons_zero, List.set_cons_succ]
  refine held_take (i := 14) (d := 26) (v := ?v109) rfl rfl (by kernel_rfl) (by kernel_rfl) (by kernel_rfl) (fun _ _ _ h => h) (Or.inl ⟨by kernel_rfl, ?hy109⟩) hHeld ?rest109
  case hy109 =>
    intro wx hSw
    have q0 := (hSw.cell (p := ⟨D + 1, 0, none⟩) hltE).trans e0
    clear hSw
    go_simp
    with_reducible rfl
  simp only [List.setIfInBounds_toArray, List.set_cons_zero, List.set_cons_succ]
  refine held_take (i := 15) (d := 27) (v := ?v110) rfl rfl (by kernel_rfl) (by kernel_rfl) (by kernel_rfl) (fun _ _ _ h => h) (Or.inl ⟨by kernel_rfl, ?hy110⟩) hHeld ?rest110
  case hy110 =>
    intro wx hSw
    clear hSw
    go_simp
    with_reducible rfl
  simp only [List.setIfInBounds_toArray, List.set_cons_zero, List.set_cons_succ]
  refine held_take (i := 16) (d := 28) (v := ?v111) rfl rfl (by kernel_rfl) (by kernel_rfl) (by kernel_rfl) (fun _ _ _ h => h) (Or.inl ⟨by kernel_rfl, ?hy111⟩) hHeld ?rest111
  case hy111 =>
    intro wx hSw
    clear hSw
    go_simp
    with_reducible rfl
  simp only [List.setIfInBounds_toArray, List.set_cons_zero, List.set_cons_succ]
  refine held_take (i := 17) (d := 29) (v := ?v112) rfl rfl (by kernel_rfl) (by kernel_rfl) (by kernel_rfl) (fun _ _ _ h => h) (Or.inl ⟨by kernel_rfl, ?hy112⟩) hHeld ?rest112
  case hy112 =>
    intro wx hSw
    clear hSw
    go_simp
    with_reducible rfl
  simp only [List.setIfInBounds_toArray, List.set_cons_zero, List.set_cons_succ]
  refine held_take (i := 18) (d := 30) (v := ?v113) rfl rfl (by kernel_rfl) (by kernel_rfl) (by kernel_rfl) (fun _ _ _ h => h) (Or.inl ⟨by kernel_rfl, ?hy113⟩) hHeld ?rest113
  case hy113 =>
    intro wx hSw
    clear hSw
    go_simp
    with_reducible rfl
  simp only [List.setIfInBounds_toArray, List.set_cons_zero, List.set_cons_succ]
  refine held_take (i := 19) (d := 31) (v := ?v114) rfl rfl (by kernel_rfl) (by kernel_rfl) (by kernel_rfl) (fun _ _ _ h => h) (Or.inl ⟨by kernel_rfl, ?hy114⟩) hHeld ?rest114
  case hy114 =>
    intro wx hSw
    have q0 := (hSw.cell (p := ⟨D + 1, 1, none⟩) hltE).trans e1
    clear hSw
    go_simp
    with_reducible rfl
  simp only [List.setIfInBounds_toArray, List.set_cons_zero, List.set_cons_succ]
  refine held_take (i := 20) (d := 32) (v := ?v115) rfl rfl (by kernel_rfl) (by kernel_rfl) (by kernel_rfl) (fun _ _ _ h => h) (Or.inl ⟨by kernel_rfl, ?hy115⟩) hHeld ?rest115
  case hy115 =>
    intro wx hSw
    clear hSw
    go_simp
    with_reducible rfl
  simp only [List.setIfInBounds_toArray, List.set_cons_zero, List.set_cons_succ]
  refine held_take (i := 21) (d := 33) (v := ?v116) rfl rfl (by kernel_rfl) (by kernel_rfl) (by kernel_rfl) (fun _ _ _ h => h) (Or.inl ⟨by kernel_rfl, ?hy116⟩) hHeld ?rest116
  case hy116 =>
    intro wx hSw
    clear hSw
    go_simp
    with_reducible rfl
  simp only [List.setIfInBounds_toArray, List.set_cons_zero, List.set_cons_succ]
  refine held_take (i := 22) (d := 34) (v := ?v117) rfl rfl (by kernel_rfl) (by kernel_rfl) (by kernel_rfl) (fun _ _ _ h => h) (Or.inl ⟨by kernel_rfl, ?hy117⟩) hHeld ?rest117
  case hy117 =>
    intro wx hSw
    clear hSw
    go_simp
    with_reducible rfl
  simp only [List.setIfInBounds_toArray, List.set_cons_zero, List.set_cons_succ]
  refine held_take (i := 23) (d := 35) (v := ?v118) rfl rfl (by kernel_rfl) (by kernel_rfl) (by kernel_rfl) (fun _ _ _ h => h) (Or.inl ⟨by kernel_rfl, ?hy118⟩) hHeld ?rest118
  case hy118 =>
    intro wx hSw
    clear hSw
    go_simp
    with_reducible rfl
  simp only [List.setIfInBounds_toArray, List.set_cons_zero, List.set_cons_succ]
  refine held_take (i := 24) (d := 36) (v := ?v119) rfl rfl (by kernel_rfl) (by kernel_rfl) (by kernel_rfl) (fun _ _ _ h => h) (Or.inl ⟨by kernel_rfl, ?hy119⟩) hHeld ?rest119
  case hy119 =>
    intro wx hSw
    have q0 := (hSw.cell (p := ⟨D + 1, 1, none⟩) hltE).trans e1
    clear hSw
    go_simp
    with_reducible rfl
  simp only [List.setIfInBounds_toArray, List.set_cons_zero, List.set_cons_succ]
  refine held_take (i := 25) (d := 37) (v := ?v120) rfl rfl (by kernel_rfl) (by kernel_rfl) (by kernel_rfl) (fun _ _ _ h => h) (Or.inl ⟨by kernel_rfl, ?hy120⟩) hHeld ?rest120
  case hy120 =>
    intro wx hSw
    clear hSw
    go_simp
    with_reducible rfl
  simp only [List.setIfInBounds_toArray, List.set_cons_zero, List.set_cons_succ]
  refine held_take (i := 26) (d := 38) (v := ?v121) rfl rfl (by kernel_rfl) (by kernel_rfl) (by kernel_rfl) (fun _ _ _ h => h) (Or.inl ⟨by kernel_rfl, ?hy121⟩) hHeld ?rest121
  case hy121 =>
    intro wx hSw
    clear hSw
    go_simp
    with_reducible rfl
  simp only [List.setIfInBounds_toArray, List.set_cons_zero, List.set_cons_succ]
  refine held_take (i := 27) (d := 39) (v := ?v122) rfl rfl (by kernel_rfl) (by kernel_rfl) (by kernel_rfl) (fun _ _ _ h => h) (Or.inl ⟨by kernel_rfl, ?hy122⟩) hHeld ?rest122
  case hy122 =>
    intro wx hSw
    clear hSw
    go_simp
    with_reducible rfl
  simp only [List.setIfInBounds_toArray, List.set_cons_zero, List.set_cons_succ]
  refine held_take (i := 28) (d := 40) (v := undef) rfl rfl (by kernel_rfl) (by kernel_rfl) (by kernel_rfl) (fun _ _ _ h => h) (Or.inr ⟨by kernel_rfl, rfl⟩) hHeld ?_
  simp only [List.setIfInBounds_toArray, List.set_cons_zero, List.set_cons_succ]
  refine held_take (i := 29) (d := 41) (v := undef) rfl rfl (by kernel_rfl) (by kernel_rfl) (by kernel_rfl) (fun _ _ _ h => h) (Or.inr ⟨by kernel_rfl, rfl⟩) hHeld ?_
  simp only [List.setIfInBounds_toArray, List.set_cons_zero, List.set_cons_succ]
  refine held_take (i := 30) (d := 42) (v := undef) rfl rfl (by kernel_rfl) (by kernel_rfl) (by kernel_rfl) (fun _ _ _ h => h) (Or.inr ⟨by kernel_rfl, rfl⟩) hHeld ?_
  simp only [List.setIfInBounds_toArray, List.set_cons_zero, List.set_cons_succ]
  refine held_take (i := 31) (d := 43) (v := ?v123) rfl rfl (by kernel_rfl) (by kernel_rfl) (by kernel_rfl) (fun _ _ _ h => h) (Or.inl ⟨by kernel_rfl, ?hy123⟩) hHeld ?rest123
  case hy123 =>
    intro wx hSw
    clear hSw
    go_simp
    with_reducible rfl
  simp only [List.setIfInBounds_toArray, List.set_cons_zero, List.set_cons_succ]
  refine held_take (i := 32) (d := 44) (v := ?v124) rfl rfl (by kernel_rfl) (by kernel_rfl) (by kernel_rfl) (fun _ _ _ h => h) (Or.inl ⟨by kernel_rfl, ?hy124⟩) hHeld ?rest124
  case hy124 =>
    intro wx hSw
    clear hSw
    go_simp
    with_reducible rfl
  simp only [List.setIfInBounds_toArray, List.set_cons_zero, List.set_cons_succ]
  refine held_take (i := 33) (d := 45) (v := undef) rfl rfl (by kernel_rfl) (by kernel_rfl) (by kernel_rfl) (fun _ _ _ h => h) (Or.inr ⟨by kernel_rfl, rfl⟩) hHeld ?_
  simp only [List.setIfInBounds_toArray, List.set_cons_zero, List.set_cons_succ]
  refine held_take (i := 34) (d := 46) (v := undef) rfl rfl (by kernel_rfl) (by kernel_rfl) (by kernel_rfl) (fun _ _ _ h => h) (Or.inr ⟨by kernel_rfl, rfl⟩) hHeld ?_
  simp only [List.setIfInBounds_toArray, List.set_cons_zero, List.set_cons_succ]
  refine held_take (i := 35) (d := 47) (v := undef) rfl rfl (by kernel_rfl) (by kernel_rfl) (by kernel_rfl) (fun _ _ _ h => h) (Or.inr ⟨by kernel_rfl, rfl⟩) hHeld ?_
  simp only [List.setIfInBounds_toArray, List.set_cons_zero, List.set_cons_succ]
  refine held_take (i := 36) (d := 48) (v := undef) rfl rfl (by kernel_rfl) (by kernel_rfl) (by kernel_rfl) (fun _ _ _ h => h) (Or.inr ⟨by kernel_rfl, rfl⟩) hHeld ?_
  simp only [List.setIfInBounds_toArray, List.set_cons_zero, List.set_cons_succ]
  refine held_take (i := 37) (d := 49) (v := undef) rfl rfl (by kernel_rfl) (by kernel_rfl) (by kernel_rfl) (fun _ _ _ h => h) (Or.inr ⟨by kernel_rfl, rfl⟩) hHeld ?_
  simp only [List.setIfInBounds_toArray, List.set_cons_zero, List.set_cons_succ]
  refine held_take (i := 38) (d := 50) (v := ?v125) rfl rfl (by kernel_rfl) (by kernel_rfl) (by kernel_rfl) (fun _ _ _ h => h) (Or.inl ⟨by kernel_rfl, ?hy125⟩) hHeld ?rest125
  case hy125 =>
    intro wx hSw
    clear hSw
    go_simp
    with_reducible rfl
  simp only [List.setIfInBounds_toArray, List.set_cons_zero, List.set_cons_succ]
  refine wpAnyH_ready (rs := [39]) (by kernel_rfl) (by simp) ?_
  refine AllReadyH.cons rfl (fun K hK => ?_) AllReadyH.nil
  go_simp
  refine hK.out _ _ hHeld (fun hHeld => ?_)
  clear hK K
  refine wpAnyH_done (by kernel_rfl) ?_ _
  go_wp2
  go_ret
  exact ⟨rfl, bb.trans (hHeld.mono hDS)⟩

set_option maxRecDepth 100000 in
set_option maxHeartbeats 4000000 in
theorem emitCheck_f (c : Cfg) (hC : okC c = true) (s r f : Int) (k : Bool) (a : Option Addr) (n cap : Nat) (hl : n ≤ 4096) (h : (n : Int) = c.cB + 10) (h1 : 0 ≤ s) (h2 : s < 1073741824) (h3 : 0 ≤ r) (h4 : r < 256) (hx : ¬ 0 ≤ f) (w : World) :
    Calls Tryd.prog 41 #[.agg #[.int .i64 c.cB, .int .i64 c.cBeam, .int .i64 c.cDepth, .int .i64 c.cWin, .int .i64 c.cQs, .int .i64 c.cQr, .int .i64 c.cBatch, .int .i64 c.cPass, .int .i64 c.cMsg, .int .i64 c.cSeqs], .agg #[.int .i64 s, .int .i64 r, .int .i64 f, .bool k, .slice a n cap]] w fun e w' => e = .returned (.int .i64 1) ∧ Below w.heap.size w w' := by
  have hb := ((okC_iff c).1 hC).1
  have eW : IntKind.i64.wrap (c.cB + 10) = c.cB + 10 := by rw [IntKind.wrap_i64]; omega
  have d0 : ((n : Int) == c.cB + 10) = true := by rw [beq_iff_eq]; exact h
  clear h
  have d1 : decide (0 ≤ s) = true := decide_eq_true h1
  clear h1
  have d2 : decide (s < 1073741824) = true := decide_eq_true h2
  clear h2
  have d3 : decide (0 ≤ r) = true := decide_eq_true h3
  clear h3
  have d4 : decide (r < 256) = true := decide_eq_true h4
  clear h4
  have dx : decide (0 ≤ f) = false := decide_eq_false hx
  clear hx
  have bE : c.cB + 10 ≤ 9223372036854775807 := by omega
  have bE2 : -9223372036854775808 ≤ c.cB + 10 := by omega
  clear hb hl
  have b1 := ((Below.refl w.heap.size w).alloc (Nat.le_refl _) (.cells #[.int .i64 c.cB, .int .i64 c.cBeam, .int .i64 c.cDepth, .int .i64 c.cWin, .int .i64 c.cQs, .int .i64 c.cQr, .int .i64 c.cBatch, .int .i64 c.cPass, .int .i64 c.cMsg, .int .i64 c.cSeqs] 23)).alloc (by simp) (.cells #[.int .i64 s, .int .i64 r, .int .i64 f, .bool k, .slice a n cap] 47)
  have xC := (Box.new w 23 #[.int .i64 c.cB, .int .i64 c.cBeam, .int .i64 c.cDepth, .int .i64 c.cWin, .int .i64 c.cQs, .int .i64 c.cQr, .int .i64 c.cBatch, .int .i64 c.cPass, .int .i64 c.cMsg, .int .i64 c.cSeqs]).alloc (.cells #[.int .i64 s, .int .i64 r, .int .i64 f, .bool k, .slice a n cap] 47)
  have xE := Box.new (w.alloc (.cells #[.int .i64 c.cB, .int .i64 c.cBeam, .int .i64 c.cDepth, .int .i64 c.cWin, .int .i64 c.cQs, .int .i64 c.cQr, .int .i64 c.cBatch, .int .i64 c.cPass, .int .i64 c.cMsg, .int .i64 c.cSeqs] 23)) 47 #[.int .i64 s, .int .i64 r, .int .i64 f, .bool k, .slice a n cap]
  rw [show (w.alloc (.cells #[.int .i64 c.cB, .int .i64 c.cBeam, .int .i64 c.cDepth, .int .i64 c.cWin, .int .i64 c.cQs, .int .i64 c.cQr, .int .i64 c.cBatch, .int .i64 c.cPass, .int .i64 c.cMsg, .int .i64 c.cSeqs] 23)).heap.size = w.heap.size + 1 by simp] at xE
  have H1 := ConfCheck_any c ((w.alloc (.cells #[.int .i64 c.cB, .int .i64 c.cBeam, .int .i64 c.cDepth, .int .i64 c.cWin, .int .i64 c.cQs, .int .i64 c.cQr, .int .i64 c.cBatch, .int .i64 c.cPass, .int .i64 c.cMsg, .int .i64 c.cSeqs] 23)).alloc (.cells #[.int .i64 s, .int .i64 r, .int .i64 f, .bool k, .slice a n cap] 47))
  unfold checkA at H1
  rw [if_pos hC] at H1
  go_enter Tryd.func41, Tryd.ntmps41
  go_wp2_with fail
  refine H1.mono ?_
  rintro e W1 ⟨rfl, b2⟩
  have yC := xC.next b2
  have yE := xE.next b2
  have bb := b1.trans (b2.mono b1.size)
  obtain ⟨D, hD⟩ : ∃ D, w.heap.size = D := ⟨_, rfl⟩
  rw [hD] at yC yE ⊢
  have hltC := yC.lt
  have hltE := yE.lt
  have hDS : w.heap.size ≤ W1.heap.size := bb.size
  have k0 : Hid (W1.cell? ⟨D, 0, none⟩ = some (.int .i64 c.cB)) := yC.cell 0 _ rfl
  have k1 : Hid (W1.cell? ⟨D, 1, none⟩ = some (.int .i64 c.cBeam)) := yC.cell 1 _ rfl
  have k2 : Hid (W1.cell? ⟨D, 2, none⟩ = some (.int .i64 c.cDepth)) := yC.cell 2 _ rfl
  have k3 : Hid (W1.cell? ⟨D, 3, none⟩ = some (.int .i64 c.cWin)) := yC.cell 3 _ rfl
  have k4 : Hid (W1.cell? ⟨D, 4, none⟩ = some (.int .i64 c.cQs)) := yC.cell 4 _ rfl
  have k5 : Hid (W1.cell? ⟨D, 5, none⟩ = some (.int .i64 c.cQr)) := yC.cell 5 _ rfl
  have k6 : Hid (W1.cell? ⟨D, 6, none⟩ = some (.int .i64 c.cBatch)) := yC.cell 6 _ rfl
  have k7 : Hid (W1.cell? ⟨D, 7, none⟩ = some (.int .i64 c.cPass)) := yC.cell 7 _ rfl
  have k8 : Hid (W1.cell? ⟨D, 8, none⟩ = some (.int .i64 c.cMsg)) := yC.cell 8 _ rfl
  have k9 : Hid (W1.cell? ⟨D, 9, none⟩ = some (.int .i64 c.cSeqs)) := yC.cell 9 _ rfl
  have e0 := yE.cell 0 _ rfl
  have e1 := yE.cell 1 _ rfl
  have e2 := yE.cell 2 _ rfl
  have e3 := yE.cell 3 _ rfl
  have e4 := yE.cell 4 _ rfl
  clear xC xE yC yE b1 b2 H1
  clear hC hD
  go_wp2
  refine wp_region_held_drew (S := fun w' => Below W1.heap.size W1 w') (by kernel_rfl) ((Below.refl _ _).drew) (fun hHeld => ?_)
  refine held_take (i := 0) (d := 12) (v := ?v126) rfl rfl (by kernel_rfl) (by kernel_rfl) (by kernel_rfl) (fun _ _ _ h => h) (Or.inl ⟨by kernel_rfl, ?hy126⟩) hHeld ?rest126
  case hy126 =>
    intro wx hSw
    clear hSw
    go_simp
    with_reducible rfl
  simp only [List.setIfInBounds_toArray, List.set_cons_zero, List.set_cons_succ]
  refine held_take (i := 1) (d := 13) (v := ?v127) rfl rfl (by kernel_rfl) (by kernel_rfl) (by kernel_rfl) (fun _ _ _ h => h) (Or.inl ⟨by kernel_rfl, ?hy127⟩) hHeld ?rest127
  case hy127 =>
    intro wx hSw
    have q0 := (hSw.cell (p := ⟨D + 1, 4, none⟩) hltE).trans e4
    clear hSw
    go_simp
    with_reducible rfl
  simp only [List.setIfInBounds_toArray, List.set_cons_zero, List.set_cons_succ]
  refine held_take (i := 2) (d := 14) (v := ?v128) rfl rfl (by kernel_rfl) (by kernel_rfl) (by kernel_rfl) (fun _ _ _ h => h) (Or.inl ⟨by kernel_rfl, ?hy128⟩) hHeld ?rest128
  case hy128 =>
    intro wx hSw
    clear hSw
    go_simp
    with_reducible rfl
  simp only [List.setIfInBounds_toArray, List.set_cons_zero, List.set_cons_succ]
  refine held_take (i := 3) (d := 15) (v := ?v129) rfl rfl (by kernel_rfl) (by kernel_rfl) (by kernel_rfl) (fun _ _ _ h => h) (Or.inl ⟨by kernel_rfl, ?hy129⟩) hHeld ?rest129
  case hy129 =>
    intro wx hSw
    clear hSw
    go_simp
    with_reducible rfl
  simp only [List.setIfInBounds_toArray, List.set_cons_zero, List.set_cons_succ]
  refine held_take (i := 4) (d := 16) (v := ?v130) rfl rfl (by kernel_rfl) (by kernel_rfl) (by kernel_rfl) (fun _ _ _ h => h) (Or.inl ⟨by kernel_rfl, ?hy130⟩) hHeld ?rest130
  case hy130 =>
    intro wx hSw
    have q0 := (hSw.cell (p := ⟨D, 0, none⟩) hltC).trans k0.out
    clear hSw
    go_simp
    with_reducible rfl
  simp only [List.setIfInBounds_toArray, List.set_cons_zero, List.set_cons_succ]
  refine held_take (i := 5) (d := 17) (v := ?v131) rfl rfl (by kernel_rfl) (by kernel_rfl) (by kernel_rfl) (fun _ _ _ h => h) (Or.inl ⟨by kernel_rfl, ?hy131⟩) hHeld ?rest131
  case hy131 =>
    intro wx hSw
    clear hSw
    go_simp
    with_reducible rfl
  simp only [List.setIfInBounds_toArray, List.set_cons_zero, List.set_cons_succ]
  refine held_take (i := 6) (d := 18) (v := ?v132) rfl rfl (by kernel_rfl) (by kernel_rfl) (by kernel_rfl) (fun _ _ _ h => h) (Or.inl ⟨by kernel_rfl, ?hy132⟩) hHeld ?rest132
  case hy132 =>
    intro wx hSw
    clear hSw
    go_simp
    with_reducible rfl
  simp only [List.setIfInBounds_toArray, List.set_cons_zero, List.set_cons_succ]
  refine held_take (i := 7) (d := 19) (v := ?v133) rfl rfl (by kernel_rfl) (by kernel_rfl) (by kernel_rfl) (fun _ _ _ h => h) (Or.inl ⟨by kernel_rfl, ?hy133⟩) hHeld ?rest133
  case hy133 =>
    intro wx hSw
    clear hSw
    go_simp
    with_reducible rfl
  simp only [List.setIfInBounds_toArray, List.set_cons_zero, List.set_cons_succ]
  refine held_take (i := 8) (d := 20) (v := ?v134) rfl rfl (by kernel_rfl) (by kernel_rfl) (by kernel_rfl) (fun _ _ _ h => h) (Or.inl ⟨by kernel_rfl, ?hy134⟩) hHeld ?rest134
  case hy134 =>
    intro wx hSw
    clear hSw
    go_simp
    with_reducible rfl
  simp only [List.setIfInBounds_toArray, List.set_cons_zero, List.set_cons_succ]
  refine held_take (i := 9) (d := 21) (v := ?v135) rfl rfl (by kernel_rfl) (by kernel_rfl) (by kernel_rfl) (fun _ _ _ h => h) (Or.inl ⟨by kernel_rfl, ?hy135⟩) hHeld ?rest135
  case hy135 =>
    intro wx hSw
    have q0 := (hSw.cell (p := ⟨D + 1, 0, none⟩) hltE).trans e0
    clear hSw
    go_simp
    with_reducible rfl
  simp only [List.setIfInBounds_toArray, List.set_cons_zero, List.set_cons_succ]
  refine held_take (i := 10) (d := 22) (v := ?v136) rfl rfl (by kernel_rfl) (by kernel_rfl) (by kernel_rfl) (fun _ _ _ h => h) (Or.inl ⟨by kernel_rfl, ?hy136⟩) hHeld ?rest136
  case hy136 =>
    intro wx hSw
    clear hSw
    go_simp
    with_reducible rfl
  simp only [List.setIfInBounds_toArray, List.set_cons_zero, List.set_cons_succ]
  refine held_take (i := 11) (d := 23) (v := ?v137) rfl rfl (by kernel_rfl) (by kernel_rfl) (by kernel_rfl) (fun _ _ _ h => h) (Or.inl ⟨by kernel_rfl, ?hy137⟩) hHeld ?rest137
  case hy137 =>
    intro wx hSw
    clear hSw
    go_simp
    with_reducible rfl
  simp only [List.setIfInBounds_toArray, List.set_cons_zero, List.set_cons_succ]
  refine held_take (i := 12) (d := 24) (v := ?v138) rfl rfl (by kernel_rfl) (by kernel_rfl) (by kernel_rfl) (fun _ _ _ h => h) (Or.inl ⟨by kernel_rfl, ?hy138⟩) hHeld ?rest138
  case hy138 =>
    intro wx hSw
    clear hSw
    go_simp
    with_reducible rfl
  simp only [List.setIfInBounds_toArray, List.set_cons_zero, List.set_cons_succ]
  refine held_take (i := 13) (d := 25) (v := ?v139) rfl rfl (by kernel_rfl) (by kernel_rfl) (by kernel_rfl) (fun _ _ _ h => h) (Or.inl ⟨by kernel_rfl, ?hy139⟩) hHeld ?rest139
  case hy139 =>
    intro wx hSw
    clear hSw
    go_simp
    with_reducible rfl
  simp only [List.setIfInBounds_toArray, List.set_cons_zero, List.set_cons_succ]
  refine held_take (i := 14) (d := 26) (v := ?v140) rfl rfl (by kernel_rfl) (by kernel_rfl) (by kernel_rfl) (fun _ _ _ h => h) (Or.inl ⟨by kernel_rfl, ?hy140⟩) hHeld ?rest140
  case hy140 =>
    intro wx hSw
    have q0 := (hSw.cell (p := ⟨D + 1, 0, none⟩) hltE).trans e0
    clear hSw
    go_simp
    with_reducible rfl
  simp only [List.setIfInBounds_toArray, List.set_cons_zero, List.set_cons_succ]
  refine held_take (i := 15) (d := 27) (v := ?v141) rfl rfl (by kernel_rfl) (by kernel_rfl) (by kernel_rfl) (fun _ _ _ h => h) (Or.inl ⟨by kernel_rfl, ?hy141⟩) hHeld ?rest141
  case hy141 =>
    intro wx hSw
    clear hSw
    go_simp
    with_reducible rfl
  simp only [List.setIfInBounds_toArray, List.set_cons_zero, List.set_cons_succ]
  refine held_take (i := 16) (d := 28) (v := ?v142) rfl rfl (by kernel_rfl) (by kernel_rfl) (by kernel_rfl) (fun _ _ _ h => h) (Or.inl ⟨by kernel_rfl, ?hy142⟩) hHeld ?rest142
  case hy142 =>
    intro wx hSw
    clear hSw
    go_simp
    with_reducible rfl
  simp only [List.setIfInBounds_toArray, List.set_cons_zero, List.set_cons_succ]
  refine held_take (i := 17) (d := 29) (v := ?v143) rfl rfl (by kernel_rfl) (by kernel_rfl) (by kernel_rfl) (fun _ _ _ h => h) (Or.inl ⟨by kernel_rfl, ?hy143⟩) hHeld ?rest143
  case hy143 =>
    intro wx hSw
    clear hSw
    go_simp
    with_reducible rfl
  simp only [List.setIfInBounds_toArray, List.set_cons_zero, List.set_cons_succ]
  refine held_take (i := 18) (d := 30) (v := ?v144) rfl rfl (by kernel_rfl) (by kernel_rfl) (by kernel_rfl) (fun _ _ _ h => h) (Or.inl ⟨by kernel_rfl, ?hy144⟩) hHeld ?rest144
  case hy144 =>
    intro wx hSw
    clear hSw
    go_simp
    with_reducible rfl
  simp only [List.setIfInBounds_toArray, List.set_cons_zero, List.set_cons_succ]
  refine held_take (i := 19) (d := 31) (v := ?v145) rfl rfl (by kernel_rfl) (by kernel_rfl) (by kernel_rfl) (fun _ _ _ h => h) (Or.inl ⟨by kernel_rfl, ?hy145⟩) hHeld ?rest145
  case hy145 =>
    intro wx hSw
    have q0 := (hSw.cell (p := ⟨D + 1, 1, none⟩) hltE).trans e1
    clear hSw
    go_simp
    with_reducible rfl
  simp only [List.setIfInBounds_toArray, List.set_cons_zero, List.set_cons_succ]
  refine held_take (i := 20) (d := 32) (v := ?v146) rfl rfl (by kernel_rfl) (by kernel_rfl) (by kernel_rfl) (fun _ _ _ h => h) (Or.inl ⟨by kernel_rfl, ?hy146⟩) hHeld ?rest146
  case hy146 =>
    intro wx hSw
    clear hSw
    go_simp
    with_reducible rfl
  simp only [List.setIfInBounds_toArray, List.set_cons_zero, List.set_cons_succ]
  refine held_take (i := 21) (d := 33) (v := ?v147) rfl rfl (by kernel_rfl) (by kernel_rfl) (by kernel_rfl) (fun _ _ _ h => h) (Or.inl ⟨by kernel_rfl, ?hy147⟩) hHeld ?rest147
  case hy147 =>
    intro wx hSw
    clear hSw
    go_simp
    with_reducible rfl
  simp only [List.setIfInBounds_toArray, List.set_cons_zero, List.set_cons_succ]
  refine held_take (i := 22) (d := 34) (v := ?v148) rfl rfl (by kernel_rfl) (by kernel_rfl) (by kernel_rfl) (fun _ _ _ h => h) (Or.inl ⟨by kernel_rfl, ?hy148⟩) hHeld ?rest148
  case hy148 =>
    intro wx hSw
    clear hSw
    go_simp
    with_reducible rfl
  simp only [List.setIfInBounds_toArray, List.set_cons_zero, List.set_cons_succ]
  refine held_take (i := 23) (d := 35) (v := ?v149) rfl rfl (by kernel_rfl) (by kernel_rfl) (by kernel_rfl) (fun _ _ _ h => h) (Or.inl ⟨by kernel_rfl, ?hy149⟩) hHeld ?rest149
  case hy149 =>
    intro wx hSw
    clear hSw
    go_simp
    with_reducible rfl
  simp only [List.setIfInBounds_toArray, List.set_cons_zero, List.set_cons_succ]
  refine held_take (i := 24) (d := 36) (v := ?v150) rfl rfl (by kernel_rfl) (by kernel_rfl) (by kernel_rfl) (fun _ _ _ h => h) (Or.inl ⟨by kernel_rfl, ?hy150⟩) hHeld ?rest150
  case hy150 =>
    intro wx hSw
    have q0 := (hSw.cell (p := ⟨D + 1, 1, none⟩) hltE).trans e1
    clear hSw
    go_simp
    with_reducible rfl
  simp only [List.setIfInBounds_toArray, List.set_cons_zero, List.set_cons_succ]
  refine held_take (i := 25) (d := 37) (v := ?v151) rfl rfl (by kernel_rfl) (by kernel_rfl) (by kernel_rfl) (fun _ _ _ h => h) (Or.inl ⟨by kernel_rfl, ?hy151⟩) hHeld ?rest151
  case hy151 =>
    intro wx hSw
    clear hSw
    go_simp
    with_reducible rfl
  simp only [List.setIfInBounds_toArray, List.set_cons_zero, List.set_cons_succ]
  refine held_take (i := 26) (d := 38) (v := ?v152) rfl rfl (by kernel_rfl) (by kernel_rfl) (by kernel_rfl) (fun _ _ _ h => h) (Or.inl ⟨by kernel_rfl, ?hy152⟩) hHeld ?rest152
  case hy152 =>
    intro wx hSw
    clear hSw
    go_simp
    with_reducible rfl
  simp only [List.setIfInBounds_toArray, List.set_cons_zero, List.set_cons_succ]
  refine held_take (i := 27) (d := 39) (v := ?v153) rfl rfl (by kernel_rfl) (by kernel_rfl) (by kernel_rfl) (fun _ _ _ h => h) (Or.inl ⟨by kernel_rfl, ?hy153⟩) hHeld ?rest153
  case hy153 =>
    intro wx hSw
    clear hSw
    go_simp
    with_reducible rfl
  simp only [List.setIfInBounds_toArray, List.set_cons_zero, List.set_cons_succ]
  refine held_take (i := 28) (d := 40) (v := ?v154) rfl rfl (by kernel_rfl) (by kernel_rfl) (by kernel_rfl) (fun _ _ _ h => h) (Or.inl ⟨by kernel_rfl, ?hy154⟩) hHeld ?rest154
  case hy154 =>
    intro wx hSw
    clear hSw
    go_simp
    with_reducible rfl
  simp only [List.setIfInBounds_toArray, List.set_cons_zero, List.set_cons_succ]
  refine held_take (i := 29) (d := 41) (v := ?v155) rfl rfl (by kernel_rfl) (by kernel_rfl) (by kernel_rfl) (fun _ _ _ h => h) (Or.inl ⟨by kernel_rfl, ?hy155⟩) hHeld ?rest155
  case hy155 =>
    intro wx hSw
    have q0 := (hSw.cell (p := ⟨D + 1, 2, none⟩) hltE).trans e2
    clear hSw
    go_simp
    with_reducible rfl
  simp only [List.setIfInBounds_toArray, List.set_cons_zero, List.set_cons_succ]
  refine held_take (i := 30) (d := 42) (v := ?v156) rfl rfl (by kernel_rfl) (by kernel_rfl) (by kernel_rfl) (fun _ _ _ h => h) (Or.inl ⟨by kernel_rfl, ?hy156⟩) hHeld ?rest156
  case hy156 =>
    intro wx hSw
    clear hSw
    go_simp
    with_reducible rfl
  simp only [List.setIfInBounds_toArray, List.set_cons_zero, List.set_cons_succ]
  refine held_take (i := 31) (d := 43) (v := ?v157) rfl rfl (by kernel_rfl) (by kernel_rfl) (by kernel_rfl) (fun _ _ _ h => h) (Or.inl ⟨by kernel_rfl, ?hy157⟩) hHeld ?rest157
  case hy157 =>
    intro wx hSw
    clear hSw
    go_simp
    with_reducible rfl
  simp only [List.setIfInBounds_toArray, List.set_cons_zero, List.set_cons_succ]
  refine held_take (i := 32) (d := 44) (v := ?v158) rfl rfl (by kernel_rfl) (by kernel_rfl) (by kernel_rfl) (fun _ _ _ h => h) (Or.inl ⟨by kernel_rfl, ?hy158⟩) hHeld ?rest158
  case hy158 =>
    intro wx hSw
    clear hSw
    go_simp
    with_reducible rfl
  simp only [List.setIfInBounds_toArray, List.set_cons_zero, List.set_cons_succ]
  refine held_take (i := 33) (d := 45) (v := undef) rfl rfl (by kernel_rfl) (by kernel_rfl) (by kernel_rfl) (fun _ _ _ h => h) (Or.inr ⟨by kernel_rfl, rfl⟩) hHeld ?_
  simp only [List.setIfInBounds_toArray, List.set_cons_zero, List.set_cons_succ]
  refine held_take (i := 34) (d := 46) (v := undef) rfl rfl (by kernel_rfl) (by kernel_rfl) (by kernel_rfl) (fun _ _ _ h => h) (Or.inr ⟨by kernel_rfl, rfl⟩) hHeld ?_
  simp only [List.setIfInBounds_toArray, List.set_cons_zero, List.set_cons_succ]
  refine held_take (i := 35) (d := 47) (v := undef) rfl rfl (by kernel_rfl) (by kernel_rfl) (by kernel_rfl) (fun _ _ _ h => h) (Or.inr ⟨by kernel_rfl, rfl⟩) hHeld ?_
  simp only [List.setIfInBounds_toArray, List.set_cons_zero, List.set_cons_succ]
  refine held_take (i := 36) (d := 48) (v := undef) rfl rfl (by kernel_rfl) (by kernel_rfl) (by kernel_rfl) (fun _ _ _ h => h) (Or.inr ⟨by kernel_rfl, rfl⟩) hHeld ?_
  simp only [List.setIfInBounds_toArray, List.set_cons_zero, List.set_cons_succ]
  refine held_take (i := 37) (d := 49) (v := undef) rfl rfl (by kernel_rfl) (by kernel_rfl) (by kernel_rfl) (fun _ _ _ h => h) (Or.inr ⟨by kernel_rfl, rfl⟩) hHeld ?_
  simp only [List.setIfInBounds_toArray, List.set_cons_zero, List.set_cons_succ]
  refine held_take (i := 38) (d := 50) (v := ?v159) rfl rfl (by kernel_rfl) (by kernel_rfl) (by kernel_rfl) (fun _ _ _ h => h) (Or.inl ⟨by kernel_rfl, ?hy159⟩) hHeld ?rest159
  case hy159 =>
    intro wx hSw
    clear hSw
    go_simp
    with_reducible rfl
  simp only [List.setIfInBounds_toArray, List.set_cons_zero, List.set_cons_succ]
  refine wpAnyH_ready (rs := [39]) (by kernel_rfl) (by simp) ?_
  refine AllReadyH.cons rfl (fun K hK => ?_) AllReadyH.nil
  go_simp
  refine hK.out _ _ hHeld (fun hHeld => ?_)
  clear hK K
  refine wpAnyH_done (by kernel_rfl) ?_ _
  go_wp2
  go_ret
  exact ⟨rfl, bb.trans (hHeld.mono hDS)⟩

set_option maxRecDepth 100000 in
set_option maxHeartbeats 4000000 in
theorem emitCheck_g (c : Cfg) (hC : okC c = true) (s r f : Int) (k : Bool) (a : Option Addr) (n cap : Nat) (hl : n ≤ 4096) (h : (n : Int) = c.cB + 10) (h1 : 0 ≤ s) (h2 : s < 1073741824) (h3 : 0 ≤ r) (h4 : r < 256) (h5 : 0 ≤ f) (hx : ¬ f ≤ mostC c) (w : World) :
    Calls Tryd.prog 41 #[.agg #[.int .i64 c.cB, .int .i64 c.cBeam, .int .i64 c.cDepth, .int .i64 c.cWin, .int .i64 c.cQs, .int .i64 c.cQr, .int .i64 c.cBatch, .int .i64 c.cPass, .int .i64 c.cMsg, .int .i64 c.cSeqs], .agg #[.int .i64 s, .int .i64 r, .int .i64 f, .bool k, .slice a n cap]] w fun e w' => e = .returned (.int .i64 1) ∧ Below w.heap.size w w' := by
  have hb := ((okC_iff c).1 hC).1
  have eW : IntKind.i64.wrap (c.cB + 10) = c.cB + 10 := by rw [IntKind.wrap_i64]; omega
  have d0 : ((n : Int) == c.cB + 10) = true := by rw [beq_iff_eq]; exact h
  clear h
  have d1 : decide (0 ≤ s) = true := decide_eq_true h1
  clear h1
  have d2 : decide (s < 1073741824) = true := decide_eq_true h2
  clear h2
  have d3 : decide (0 ≤ r) = true := decide_eq_true h3
  clear h3
  have d4 : decide (r < 256) = true := decide_eq_true h4
  clear h4
  have d5 : decide (0 ≤ f) = true := decide_eq_true h5
  clear h5
  have bE : c.cB + 10 ≤ 9223372036854775807 := by omega
  have bE2 : -9223372036854775808 ≤ c.cB + 10 := by omega
  clear hb hl
  have b1 := ((Below.refl w.heap.size w).alloc (Nat.le_refl _) (.cells #[.int .i64 c.cB, .int .i64 c.cBeam, .int .i64 c.cDepth, .int .i64 c.cWin, .int .i64 c.cQs, .int .i64 c.cQr, .int .i64 c.cBatch, .int .i64 c.cPass, .int .i64 c.cMsg, .int .i64 c.cSeqs] 23)).alloc (by simp) (.cells #[.int .i64 s, .int .i64 r, .int .i64 f, .bool k, .slice a n cap] 47)
  have xC := (Box.new w 23 #[.int .i64 c.cB, .int .i64 c.cBeam, .int .i64 c.cDepth, .int .i64 c.cWin, .int .i64 c.cQs, .int .i64 c.cQr, .int .i64 c.cBatch, .int .i64 c.cPass, .int .i64 c.cMsg, .int .i64 c.cSeqs]).alloc (.cells #[.int .i64 s, .int .i64 r, .int .i64 f, .bool k, .slice a n cap] 47)
  have xE := Box.new (w.alloc (.cells #[.int .i64 c.cB, .int .i64 c.cBeam, .int .i64 c.cDepth, .int .i64 c.cWin, .int .i64 c.cQs, .int .i64 c.cQr, .int .i64 c.cBatch, .int .i64 c.cPass, .int .i64 c.cMsg, .int .i64 c.cSeqs] 23)) 47 #[.int .i64 s, .int .i64 r, .int .i64 f, .bool k, .slice a n cap]
  rw [show (w.alloc (.cells #[.int .i64 c.cB, .int .i64 c.cBeam, .int .i64 c.cDepth, .int .i64 c.cWin, .int .i64 c.cQs, .int .i64 c.cQr, .int .i64 c.cBatch, .int .i64 c.cPass, .int .i64 c.cMsg, .int .i64 c.cSeqs] 23)).heap.size = w.heap.size + 1 by simp] at xE
  have H1 := ConfCheck_any c ((w.alloc (.cells #[.int .i64 c.cB, .int .i64 c.cBeam, .int .i64 c.cDepth, .int .i64 c.cWin, .int .i64 c.cQs, .int .i64 c.cQr, .int .i64 c.cBatch, .int .i64 c.cPass, .int .i64 c.cMsg, .int .i64 c.cSeqs] 23)).alloc (.cells #[.int .i64 s, .int .i64 r, .int .i64 f, .bool k, .slice a n cap] 47))
  unfold checkA at H1
  rw [if_pos hC] at H1
  go_enter Tryd.func41, Tryd.ntmps41
  go_wp2_with fail
  refine H1.mono ?_
  rintro e W1 ⟨rfl, b2⟩
  have yC := xC.next b2
  have yE := xE.next b2
  have bb := b1.trans (b2.mono b1.size)
  obtain ⟨D, hD⟩ : ∃ D, w.heap.size = D := ⟨_, rfl⟩
  rw [hD] at yC yE ⊢
  have hltC := yC.lt
  have hltE := yE.lt
  have hDS : w.heap.size ≤ W1.heap.size := bb.size
  have k0 : Hid (W1.cell? ⟨D, 0, none⟩ = some (.int .i64 c.cB)) := yC.cell 0 _ rfl
  have k1 : Hid (W1.cell? ⟨D, 1, none⟩ = some (.int .i64 c.cBeam)) := yC.cell 1 _ rfl
  have k2 : Hid (W1.cell? ⟨D, 2, none⟩ = some (.int .i64 c.cDepth)) := yC.cell 2 _ rfl
  have k3 : Hid (W1.cell? ⟨D, 3, none⟩ = some (.int .i64 c.cWin)) := yC.cell 3 _ rfl
  have k4 : Hid (W1.cell? ⟨D, 4, none⟩ = some (.int .i64 c.cQs)) := yC.cell 4 _ rfl
  have k5 : Hid (W1.cell? ⟨D, 5, none⟩ = some (.int .i64 c.cQr)) := yC.cell 5 _ rfl
  have k6 : Hid (W1.cell? ⟨D, 6, none⟩ = some (.int .i64 c.cBatch)) := yC.cell 6 _ rfl
  have k7 : Hid (W1.cell? ⟨D, 7, none⟩ = some (.int .i64 c.cPass)) := yC.cell 7 _ rfl
  have k8 : Hid (W1.cell? ⟨D, 8, none⟩ = some (.int .i64 c.cMsg)) := yC.cell 8 _ rfl
  have k9 : Hid (W1.cell? ⟨D, 9, none⟩ = some (.int .i64 c.cSeqs)) := yC.cell 9 _ rfl
  have e0 := yE.cell 0 _ rfl
  have e1 := yE.cell 1 _ rfl
  have e2 := yE.cell 2 _ rfl
  have e3 := yE.cell 3 _ rfl
  have e4 := yE.cell 4 _ rfl
  clear xC xE yC yE b1 b2 H1
  obtain ⟨M, hM⟩ : ∃ M, mostC c = M := ⟨_, rfl⟩
  rw [hM] at hx
  have HM : Hid (∀ wx : World, Below W1.heap.size W1 wx → Calls Tryd.prog 43 #[.agg #[.int .i64 c.cB, .int .i64 c.cBeam, .int .i64 c.cDepth, .int .i64 c.cWin, .int .i64 c.cQs, .int .i64 c.cQr, .int .i64 c.cBatch, .int .i64 c.cPass, .int .i64 c.cMsg, .int .i64 c.cSeqs]] wx fun e w' => e = .returned (.int .i64 M) ∧ Below W1.heap.size W1 w') := fun wx hw => by
    have := ConfMost_any c wx
    unfold mostA at this
    rw [if_pos hC, hM] at this
    exact this.mono fun e w' ⟨h, b⟩ => ⟨h, hw.trans (b.mono hw.size)⟩
  have dx : decide (f ≤ M) = false := decide_eq_false (by omega)
  clear hM hx
  clear hC hD
  go_wp2
  refine wp_region_held_drew (S := fun w' => Below W1.heap.size W1 w') (by kernel_rfl) ((Below.refl _ _).drew) (fun hHeld => ?_)
  refine held_take (i := 0) (d := 12) (v := ?v160) rfl rfl (by kernel_rfl) (by kernel_rfl) (by kernel_rfl) (fun _ _ _ h => h) (Or.inl ⟨by kernel_rfl, ?hy160⟩) hHeld ?rest160
  case hy160 =>
    intro wx hSw
    clear hSw
    go_simp
    with_reducible rfl
  simp only [List.setIfInBounds_toArray, List.set_cons_zero, List.set_cons_succ]
  refine held_take (i := 1) (d := 13) (v := ?v161) rfl rfl (by kernel_rfl) (by kernel_rfl) (by kernel_rfl) (fun _ _ _ h => h) (Or.inl ⟨by kernel_rfl, ?hy161⟩) hHeld ?rest161
  case hy161 =>
    intro wx hSw
    have q0 := (hSw.cell (p := ⟨D + 1, 4, none⟩) hltE).trans e4
    clear hSw
    go_simp
    with_reducible rfl
  simp only [List.setIfInBounds_toArray, List.set_cons_zero, List.set_cons_succ]
  refine held_take (i := 2) (d := 14) (v := ?v162) rfl rfl (by kernel_rfl) (by kernel_rfl) (by kernel_rfl) (fun _ _ _ h => h) (Or.inl ⟨by kernel_rfl, ?hy162⟩) hHeld ?rest162
  case hy162 =>
    intro wx hSw
    clear hSw
    go_simp
    with_reducible rfl
  simp only [List.setIfInBounds_toArray, List.set_cons_zero, List.set_cons_succ]
  refine held_take (i := 3) (d := 15) (v := ?v163) rfl rfl (by kernel_rfl) (by kernel_rfl) (by kernel_rfl) (fun _ _ _ h => h) (Or.inl ⟨by kernel_rfl, ?hy163⟩) hHeld ?rest163
  case hy163 =>
    intro wx hSw
    clear hSw
    go_simp
    with_reducible rfl
  simp only [List.setIfInBounds_toArray, List.set_cons_zero, List.set_cons_succ]
  refine held_take (i := 4) (d := 16) (v := ?v164) rfl rfl (by kernel_rfl) (by kernel_rfl) (by kernel_rfl) (fun _ _ _ h => h) (Or.inl ⟨by kernel_rfl, ?hy164⟩) hHeld ?rest164
  case hy164 =>
    intro wx hSw
    have q0 := (hSw.cell (p := ⟨D, 0, none⟩) hltC).trans k0.out
    clear hSw
    go_simp
    with_reducible rfl
  simp only [List.setIfInBounds_toArray, List.set_cons_zero, List.set_cons_succ]
  refine held_take (i := 5) (d := 17) (v := ?v165) rfl rfl (by kernel_rfl) (by kernel_rfl) (by kernel_rfl) (fun _ _ _ h => h) (Or.inl ⟨by kernel_rfl, ?hy165⟩) hHeld ?rest165
  case hy165 =>
    intro wx hSw
    clear hSw
    go_simp
    with_reducible rfl
  simp only [List.setIfInBounds_toArray, List.set_cons_zero, List.set_cons_succ]
  refine held_take (i := 6) (d := 18) (v := ?v166) rfl rfl (by kernel_rfl) (by kernel_rfl) (by kernel_rfl) (fun _ _ _ h => h) (Or.inl ⟨by kernel_rfl, ?hy166⟩) hHeld ?rest166
  case hy166 =>
    intro wx hSw
    clear hSw
    go_simp
    with_reducible rfl
  simp only [List.setIfInBounds_toArray, List.set_cons_zero, List.set_cons_succ]
  refine held_take (i := 7) (d := 19) (v := ?v167) rfl rfl (by kernel_rfl) (by kernel_rfl) (by kernel_rfl) (fun _ _ _ h => h) (Or.inl ⟨by kernel_rfl, ?hy167⟩) hHeld ?rest167
  case hy167 =>
    intro wx hSw
    clear hSw
    go_simp
    with_reducible rfl
  simp only [List.setIfInBounds_toArray, List.set_cons_zero, List.set_cons_succ]
  refine held_take (i := 8) (d := 20) (v := ?v168) rfl rfl (by kernel_rfl) (by kernel_rfl) (by kernel_rfl) (fun _ _ _ h => h) (Or.inl ⟨by kernel_rfl, ?hy168⟩) hHeld ?rest168
  case hy168 =>
    intro wx hSw
    clear hSw
    go_simp
    with_reducible rfl
  simp only [List.setIfInBounds_toArray, List.set_cons_zero, List.set_cons_succ]
  refine held_take (i := 9) (d := 21) (v := ?v169) rfl rfl (by kernel_rfl) (by kernel_rfl) (by kernel_rfl) (fun _ _ _ h => h) (Or.inl ⟨by kernel_rfl, ?hy169⟩) hHeld ?rest169
  case hy169 =>
    intro wx hSw
    have q0 := (hSw.cell (p := ⟨D + 1, 0, none⟩) hltE).trans e0
    clear hSw
    go_simp
    with_reducible rfl
  simp only [List.setIfInBounds_toArray, List.set_cons_zero, List.set_cons_succ]
  refine held_take (i := 10) (d := 22) (v := ?v170) rfl rfl (by kernel_rfl) (by kernel_rfl) (by kernel_rfl) (fun _ _ _ h => h) (Or.inl ⟨by kernel_rfl, ?hy170⟩) hHeld ?rest170
  case hy170 =>
    intro wx hSw
    clear hSw
    go_simp
    with_reducible rfl
  simp only [List.setIfInBounds_toArray, List.set_cons_zero, List.set_cons_succ]
  refine held_take (i := 11) (d := 23) (v := ?v171) rfl rfl (by kernel_rfl) (by kernel_rfl) (by kernel_rfl) (fun _ _ _ h => h) (Or.inl ⟨by kernel_rfl, ?hy171⟩) hHeld ?rest171
  case hy171 =>
    intro wx hSw
    clear hSw
    go_simp
    with_reducible rfl
  simp only [List.setIfInBounds_toArray, List.set_cons_zero, List.set_cons_succ]
  refine held_take (i := 12) (d := 24) (v := ?v172) rfl rfl (by kernel_rfl) (by kernel_rfl) (by kernel_rfl) (fun _ _ _ h => h) (Or.inl ⟨by kernel_rfl, ?hy172⟩) hHeld ?rest172
  case hy172 =>
    intro wx hSw
    clear hSw
    go_simp
    with_reducible rfl
  simp only [List.setIfInBounds_toArray, List.set_cons_zero, List.set_cons_succ]
  refine held_take (i := 13) (d := 25) (v := ?v173) rfl rfl (by kernel_rfl) (by kernel_rfl) (by kernel_rfl) (fun _ _ _ h => h) (Or.inl ⟨by kernel_rfl, ?hy173⟩) hHeld ?rest173
  case hy173 =>
    intro wx hSw
    clear hSw
    go_simp
    with_reducible rfl
  simp only [List.setIfInBounds_toArray, List.set_cons_zero, List.set_cons_succ]
  refine held_take (i := 14) (d := 26) (v := ?v174) rfl rfl (by kernel_rfl) (by kernel_rfl) (by kernel_rfl) (fun _ _ _ h => h) (Or.inl ⟨by kernel_rfl, ?hy174⟩) hHeld ?rest174
  case hy174 =>
    intro wx hSw
    have q0 := (hSw.cell (p := ⟨D + 1, 0, none⟩) hltE).trans e0
    clear hSw
    go_simp
    with_reducible rfl
  simp only [List.setIfInBounds_toArray, List.set_cons_zero, List.set_cons_succ]
  refine held_take (i := 15) (d := 27) (v := ?v175) rfl rfl (by kernel_rfl) (by kernel_rfl) (by kernel_rfl) (fun _ _ _ h => h) (Or.inl ⟨by kernel_rfl, ?hy175⟩) hHeld ?rest175
  case hy175 =>
    intro wx hSw
    clear hSw
    go_simp
    with_reducible rfl
  simp only [List.setIfInBounds_toArray, List.set_cons_zero, List.set_cons_succ]
  refine held_take (i := 16) (d := 28) (v := ?v176) rfl rfl (by kernel_rfl) (by kernel_rfl) (by kernel_rfl) (fun _ _ _ h => h) (Or.inl ⟨by kernel_rfl, ?hy176⟩) hHeld ?rest176
  case hy176 =>
    intro wx hSw
    clear hSw
    go_simp
    with_reducible rfl
  simp only [List.setIfInBounds_toArray, List.set_cons_zero, List.set_cons_succ]
  refine held_take (i := 17) (d := 29) (v := ?v177) rfl rfl (by kernel_rfl) (by kernel_rfl) (by kernel_rfl) (fun _ _ _ h => h) (Or.inl ⟨by kernel_rfl, ?hy177⟩) hHeld ?rest177
  case hy177 =>
    intro wx hSw
    clear hSw
    go_simp
    with_reducible rfl
  simp only [List.setIfInBounds_toArray, List.set_cons_zero, List.set_cons_succ]
  refine held_take (i := 18) (d := 30) (v := ?v178) rfl rfl (by kernel_rfl) (by kernel_rfl) (by kernel_rfl) (fun _ _ _ h => h) (Or.inl ⟨by kernel_rfl, ?hy178⟩) hHeld ?rest178
  case hy178 =>
    intro wx hSw
    clear hSw
    go_simp
    with_reducible rfl
  simp only [List.setIfInBounds_toArray, List.set_cons_zero, List.set_cons_succ]
  refine held_take (i := 19) (d := 31) (v := ?v179) rfl rfl (by kernel_rfl) (by kernel_rfl) (by kernel_rfl) (fun _ _ _ h => h) (Or.inl ⟨by kernel_rfl, ?hy179⟩) hHeld ?rest179
  case hy179 =>
    intro wx hSw
    have q0 := (hSw.cell (p := ⟨D + 1, 1, none⟩) hltE).trans e1
    clear hSw
    go_simp
    with_reducible rfl
  simp only [List.setIfInBounds_toArray, List.set_cons_zero, List.set_cons_succ]
  refine held_take (i := 20) (d := 32) (v := ?v180) rfl rfl (by kernel_rfl) (by kernel_rfl) (by kernel_rfl) (fun _ _ _ h => h) (Or.inl ⟨by kernel_rfl, ?hy180⟩) hHeld ?rest180
  case hy180 =>
    intro wx hSw
    clear hSw
    go_simp
    with_reducible rfl
  simp only [List.setIfInBounds_toArray, List.set_cons_zero, List.set_cons_succ]
  refine held_take (i := 21) (d := 33) (v := ?v181) rfl rfl (by kernel_rfl) (by kernel_rfl) (by kernel_rfl) (fun _ _ _ h => h) (Or.inl ⟨by kernel_rfl, ?hy181⟩) hHeld ?rest181
  case hy181 =>
    intro wx hSw
    clear hSw
    go_simp
    with_reducible rfl
  simp only [List.setIfInBounds_toArray, List.set_cons_zero, List.set_cons_succ]
  refine held_take (i := 22) (d := 34) (v := ?v182) rfl rfl (by kernel_rfl) (by kernel_rfl) (by kernel_rfl) (fun _ _ _ h => h) (Or.inl ⟨by kernel_rfl, ?hy182⟩) hHeld ?rest182
  case hy182 =>
    intro wx hSw
    clear hSw
    go_simp
    with_reducible rfl
  simp only [List.setIfInBounds_toArray, List.set_cons_zero, List.set_cons_succ]
  refine held_take (i := 23) (d := 35) (v := ?v183) rfl rfl (by kernel_rfl) (by kernel_rfl) (by kernel_rfl) (fun _ _ _ h => h) (Or.inl ⟨by kernel_rfl, ?hy183⟩) hHeld ?rest183
  case hy183 =>
    intro wx hSw
    clear hSw
    go_simp
    with_reducible rfl
  simp only [List.setIfInBounds_toArray, List.set_cons_zero, List.set_cons_succ]
  refine held_take (i := 24) (d := 36) (v := ?v184) rfl rfl (by kernel_rfl) (by kernel_rfl) (by kernel_rfl) (fun _ _ _ h => h) (Or.inl ⟨by kernel_rfl, ?hy184⟩) hHeld ?rest184
  case hy184 =>
    intro wx hSw
    have q0 := (hSw.cell (p := ⟨D + 1, 1, none⟩) hltE).trans e1
    clear hSw
    go_simp
    with_reducible rfl
  simp only [List.setIfInBounds_toArray, List.set_cons_zero, List.set_cons_succ]
  refine held_take (i := 25) (d := 37) (v := ?v185) rfl rfl (by kernel_rfl) (by kernel_rfl) (by kernel_rfl) (fun _ _ _ h => h) (Or.inl ⟨by kernel_rfl, ?hy185⟩) hHeld ?rest185
  case hy185 =>
    intro wx hSw
    clear hSw
    go_simp
    with_reducible rfl
  simp only [List.setIfInBounds_toArray, List.set_cons_zero, List.set_cons_succ]
  refine held_take (i := 26) (d := 38) (v := ?v186) rfl rfl (by kernel_rfl) (by kernel_rfl) (by kernel_rfl) (fun _ _ _ h => h) (Or.inl ⟨by kernel_rfl, ?hy186⟩) hHeld ?rest186
  case hy186 =>
    intro wx hSw
    clear hSw
    go_simp
    with_reducible rfl
  simp only [List.setIfInBounds_toArray, List.set_cons_zero, List.set_cons_succ]
  refine held_take (i := 27) (d := 39) (v := ?v187) rfl rfl (by kernel_rfl) (by kernel_rfl) (by kernel_rfl) (fun _ _ _ h => h) (Or.inl ⟨by kernel_rfl, ?hy187⟩) hHeld ?rest187
  case hy187 =>
    intro wx hSw
    clear hSw
    go_simp
    with_reducible rfl
  simp only [List.setIfInBounds_toArray, List.set_cons_zero, List.set_cons_succ]
  refine held_take (i := 28) (d := 40) (v := ?v188) rfl rfl (by kernel_rfl) (by kernel_rfl) (by kernel_rfl) (fun _ _ _ h => h) (Or.inl ⟨by kernel_rfl, ?hy188⟩) hHeld ?rest188
  case hy188 =>
    intro wx hSw
    clear hSw
    go_simp
    with_reducible rfl
  simp only [List.setIfInBounds_toArray, List.set_cons_zero, List.set_cons_succ]
  refine held_take (i := 29) (d := 41) (v := ?v189) rfl rfl (by kernel_rfl) (by kernel_rfl) (by kernel_rfl) (fun _ _ _ h => h) (Or.inl ⟨by kernel_rfl, ?hy189⟩) hHeld ?rest189
  case hy189 =>
    intro wx hSw
    have q0 := (hSw.cell (p := ⟨D + 1, 2, none⟩) hltE).trans e2
    clear hSw
    go_simp
    with_reducible rfl
  simp only [List.setIfInBounds_toArray, List.set_cons_zero, List.set_cons_succ]
  refine held_take (i := 30) (d := 42) (v := ?v190) rfl rfl (by kernel_rfl) (by kernel_rfl) (by kernel_rfl) (fun _ _ _ h => h) (Or.inl ⟨by kernel_rfl, ?hy190⟩) hHeld ?rest190
  case hy190 =>
    intro wx hSw
    clear hSw
    go_simp
    with_reducible rfl
  simp only [List.setIfInBounds_toArray, List.set_cons_zero, List.set_cons_succ]
  refine held_take (i := 31) (d := 43) (v := ?v191) rfl rfl (by kernel_rfl) (by kernel_rfl) (by kernel_rfl) (fun _ _ _ h => h) (Or.inl ⟨by kernel_rfl, ?hy191⟩) hHeld ?rest191
  case hy191 =>
    intro wx hSw
    clear hSw
    go_simp
    with_reducible rfl
  simp only [List.setIfInBounds_toArray, List.set_cons_zero, List.set_cons_succ]
  refine held_take (i := 32) (d := 44) (v := ?v192) rfl rfl (by kernel_rfl) (by kernel_rfl) (by kernel_rfl) (fun _ _ _ h => h) (Or.inl ⟨by kernel_rfl, ?hy192⟩) hHeld ?rest192
  case hy192 =>
    intro wx hSw
    clear hSw
    go_simp
    with_reducible rfl
  simp only [List.setIfInBounds_toArray, List.set_cons_zero, List.set_cons_succ]
  refine held_take (i := 33) (d := 45) (v := ?v193) rfl rfl (by kernel_rfl) (by kernel_rfl) (by kernel_rfl) (fun _ _ _ h => h) (Or.inl ⟨by kernel_rfl, ?hy193⟩) hHeld ?rest193
  case hy193 =>
    intro wx hSw
    clear hSw
    go_simp
    with_reducible rfl
  simp only [List.setIfInBounds_toArray, List.set_cons_zero, List.set_cons_succ]
  refine held_take (i := 34) (d := 46) (v := ?v194) rfl rfl (by kernel_rfl) (by kernel_rfl) (by kernel_rfl) (fun _ _ _ h => h) (Or.inl ⟨by kernel_rfl, ?hy194⟩) hHeld ?rest194
  case hy194 =>
    intro wx hSw
    have q0 := (hSw.cell (p := ⟨D + 1, 2, none⟩) hltE).trans e2
    clear hSw
    go_simp
    with_reducible rfl
  simp only [List.setIfInBounds_toArray, List.set_cons_zero, List.set_cons_succ]
  refine held_take (i := 35) (d := 47) (v := ?v195) rfl rfl (by kernel_rfl) (by kernel_rfl) (by kernel_rfl) (fun _ _ _ h => h) (Or.inl ⟨by kernel_rfl, ?hy195⟩) hHeld ?rest195
  case hy195 =>
    intro wx hSw
    have q0 := (hSw.cell (p := ⟨D, 0, none⟩) hltC).trans k0.out
    have q1 := (hSw.cell (p := ⟨D, 1, none⟩) hltC).trans k1.out
    have q2 := (hSw.cell (p := ⟨D, 2, none⟩) hltC).trans k2.out
    have q3 := (hSw.cell (p := ⟨D, 3, none⟩) hltC).trans k3.out
    have q4 := (hSw.cell (p := ⟨D, 4, none⟩) hltC).trans k4.out
    have q5 := (hSw.cell (p := ⟨D, 5, none⟩) hltC).trans k5.out
    have q6 := (hSw.cell (p := ⟨D, 6, none⟩) hltC).trans k6.out
    have q7 := (hSw.cell (p := ⟨D, 7, none⟩) hltC).trans k7.out
    have q8 := (hSw.cell (p := ⟨D, 8, none⟩) hltC).trans k8.out
    have q9 := (hSw.cell (p := ⟨D, 9, none⟩) hltC).trans k9.out
    clear hSw
    go_simp
    with_reducible rfl
  simp only [List.setIfInBounds_toArray, List.set_cons_zero, List.set_cons_succ]
  refine wpAnyH_ready (rs := [36]) (by kernel_rfl) (by simp) ?_
  refine AllReadyH.cons rfl (fun K hK => ?_) AllReadyH.nil
  go_simp
  go_wp2_with (go_at_call 43; refine (HM.out _ (by exact hHeld)).mono ?_; rintro e wb ⟨rfl, b8⟩)
  refine hK.out _ _ (b8) (fun hHeld => ?_)
  clear hK K
  refine held_take (i := 37) (d := 49) (v := ?v196) rfl rfl (by kernel_rfl) (by kernel_rfl) (by kernel_rfl) (fun _ _ _ h => h) (Or.inl ⟨by kernel_rfl, ?hy196⟩) hHeld ?rest196
  case hy196 =>
    intro wx hSw
    clear hSw
    go_simp
    with_reducible rfl
  simp only [List.setIfInBounds_toArray, List.set_cons_zero, List.set_cons_succ]
  refine held_take (i := 38) (d := 50) (v := ?v197) rfl rfl (by kernel_rfl) (by kernel_rfl) (by kernel_rfl) (fun _ _ _ h => h) (Or.inl ⟨by kernel_rfl, ?hy197⟩) hHeld ?rest197
  case hy197 =>
    intro wx hSw
    clear hSw
    go_simp
    with_reducible rfl
  simp only [List.setIfInBounds_toArray, List.set_cons_zero, List.set_cons_succ]
  refine wpAnyH_ready (rs := [39]) (by kernel_rfl) (by simp) ?_
  refine AllReadyH.cons rfl (fun K hK => ?_) AllReadyH.nil
  go_simp
  refine hK.out _ _ hHeld (fun hHeld => ?_)
  clear hK K
  refine wpAnyH_done (by kernel_rfl) ?_ _
  go_wp2
  go_ret
  exact ⟨rfl, bb.trans (hHeld.mono hDS)⟩

set_option maxRecDepth 100000 in
set_option maxHeartbeats 4000000 in
theorem emitCheck_h (c : Cfg) (hC : okC c = true) (s r f : Int) (k : Bool) (a : Option Addr) (n cap : Nat) (hl : n ≤ 4096) (h : (n : Int) = c.cB + 10) (h1 : 0 ≤ s) (h2 : s < 1073741824) (h3 : 0 ≤ r) (h4 : r < 256) (h5 : 0 ≤ f) (hx : f ≤ mostC c) (w : World) :
    Calls Tryd.prog 41 #[.agg #[.int .i64 c.cB, .int .i64 c.cBeam, .int .i64 c.cDepth, .int .i64 c.cWin, .int .i64 c.cQs, .int .i64 c.cQr, .int .i64 c.cBatch, .int .i64 c.cPass, .int .i64 c.cMsg, .int .i64 c.cSeqs], .agg #[.int .i64 s, .int .i64 r, .int .i64 f, .bool k, .slice a n cap]] w fun e w' => e = .returned (.int .i64 0) ∧ Below w.heap.size w w' := by
  have hb := ((okC_iff c).1 hC).1
  have eW : IntKind.i64.wrap (c.cB + 10) = c.cB + 10 := by rw [IntKind.wrap_i64]; omega
  have d0 : ((n : Int) == c.cB + 10) = true := by rw [beq_iff_eq]; exact h
  clear h
  have d1 : decide (0 ≤ s) = true := decide_eq_true h1
  clear h1
  have d2 : decide (s < 1073741824) = true := decide_eq_true h2
  clear h2
  have d3 : decide (0 ≤ r) = true := decide_eq_true h3
  clear h3
  have d4 : decide (r < 256) = true := decide_eq_true h4
  clear h4
  have d5 : decide (0 ≤ f) = true := decide_eq_true h5
  clear h5
  have bE : c.cB + 10 ≤ 9223372036854775807 := by omega
  have bE2 : -9223372036854775808 ≤ c.cB + 10 := by omega
  clear hb hl
  have b1 := ((Below.refl w.heap.size w).alloc (Nat.le_refl _) (.cells #[.int .i64 c.cB, .int .i64 c.cBeam, .int .i64 c.cDepth, .int .i64 c.cWin, .int .i64 c.cQs, .int .i64 c.cQr, .int .i64 c.cBatch, .int .i64 c.cPass, .int .i64 c.cMsg, .int .i64 c.cSeqs] 23)).alloc (by simp) (.cells #[.int .i64 s, .int .i64 r, .int .i64 f, .bool k, .slice a n cap] 47)
  have xC := (Box.new w 23 #[.int .i64 c.cB, .int .i64 c.cBeam, .int .i64 c.cDepth, .int .i64 c.cWin, .int .i64 c.cQs, .int .i64 c.cQr, .int .i64 c.cBatch, .int .i64 c.cPass, .int .i64 c.cMsg, .int .i64 c.cSeqs]).alloc (.cells #[.int .i64 s, .int .i64 r, .int .i64 f, .bool k, .slice a n cap] 47)
  have xE := Box.new (w.alloc (.cells #[.int .i64 c.cB, .int .i64 c.cBeam, .int .i64 c.cDepth, .int .i64 c.cWin, .int .i64 c.cQs, .int .i64 c.cQr, .int .i64 c.cBatch, .int .i64 c.cPass, .int .i64 c.cMsg, .int .i64 c.cSeqs] 23)) 47 #[.int .i64 s, .int .i64 r, .int .i64 f, .bool k, .slice a n cap]
  rw [show (w.alloc (.cells #[.int .i64 c.cB, .int .i64 c.cBeam, .int .i64 c.cDepth, .int .i64 c.cWin, .int .i64 c.cQs, .int .i64 c.cQr, .int .i64 c.cBatch, .int .i64 c.cPass, .int .i64 c.cMsg, .int .i64 c.cSeqs] 23)).heap.size = w.heap.size + 1 by simp] at xE
  have H1 := ConfCheck_any c ((w.alloc (.cells #[.int .i64 c.cB, .int .i64 c.cBeam, .int .i64 c.cDepth, .int .i64 c.cWin, .int .i64 c.cQs, .int .i64 c.cQr, .int .i64 c.cBatch, .int .i64 c.cPass, .int .i64 c.cMsg, .int .i64 c.cSeqs] 23)).alloc (.cells #[.int .i64 s, .int .i64 r, .int .i64 f, .bool k, .slice a n cap] 47))
  unfold checkA at H1
  rw [if_pos hC] at H1
  go_enter Tryd.func41, Tryd.ntmps41
  go_wp2_with fail
  refine H1.mono ?_
  rintro e W1 ⟨rfl, b2⟩
  have yC := xC.next b2
  have yE := xE.next b2
  have bb := b1.trans (b2.mono b1.size)
  obtain ⟨D, hD⟩ : ∃ D, w.heap.size = D := ⟨_, rfl⟩
  rw [hD] at yC yE ⊢
  have hltC := yC.lt
  have hltE := yE.lt
  have hDS : w.heap.size ≤ W1.heap.size := bb.size
  have k0 : Hid (W1.cell? ⟨D, 0, none⟩ = some (.int .i64 c.cB)) := yC.cell 0 _ rfl
  have k1 : Hid (W1.cell? ⟨D, 1, none⟩ = some (.int .i64 c.cBeam)) := yC.cell 1 _ rfl
  have k2 : Hid (W1.cell? ⟨D, 2, none⟩ = some (.int .i64 c.cDepth)) := yC.cell 2 _ rfl
  have k3 : Hid (W1.cell? ⟨D, 3, none⟩ = some (.int .i64 c.cWin)) := yC.cell 3 _ rfl
  have k4 : Hid (W1.cell? ⟨D, 4, none⟩ = some (.int .i64 c.cQs)) := yC.cell 4 _ rfl
  have k5 : Hid (W1.cell? ⟨D, 5, none⟩ = some (.int .i64 c.cQr)) := yC.cell 5 _ rfl
  have k6 : Hid (W1.cell? ⟨D, 6, none⟩ = some (.int .i64 c.cBatch)) := yC.cell 6 _ rfl
  have k7 : Hid (W1.cell? ⟨D, 7, none⟩ = some (.int .i64 c.cPass)) := yC.cell 7 _ rfl
  have k8 : Hid (W1.cell? ⟨D, 8, none⟩ = some (.int .i64 c.cMsg)) := yC.cell 8 _ rfl
  have k9 : Hid (W1.cell? ⟨D, 9, none⟩ = some (.int .i64 c.cSeqs)) := yC.cell 9 _ rfl
  have e0 := yE.cell 0 _ rfl
  have e1 := yE.cell 1 _ rfl
  have e2 := yE.cell 2 _ rfl
  have e3 := yE.cell 3 _ rfl
  have e4 := yE.cell 4 _ rfl
  clear xC xE yC yE b1 b2 H1
  obtain ⟨M, hM⟩ : ∃ M, mostC c = M := ⟨_, rfl⟩
  rw [hM] at hx
  have HM : Hid (∀ wx : World, Below W1.heap.size W1 wx → Calls Tryd.prog 43 #[.agg #[.int .i64 c.cB, .int .i64 c.cBeam, .int .i64 c.cDepth, .int .i64 c.cWin, .int .i64 c.cQs, .int .i64 c.cQr, .int .i64 c.cBatch, .int .i64 c.cPass, .int .i64 c.cMsg, .int .i64 c.cSeqs]] wx fun e w' => e = .returned (.int .i64 M) ∧ Below W1.heap.size W1 w') := fun wx hw => by
    have := ConfMost_any c wx
    unfold mostA at this
    rw [if_pos hC, hM] at this
    exact this.mono fun e w' ⟨h, b⟩ => ⟨h, hw.trans (b.mono hw.size)⟩
  have dx : decide (f ≤ M) = true := decide_eq_true hx
  clear hM hx
  clear hC hD
  go_wp2
  refine wp_region_held_drew (S := fun w' => Below W1.heap.size W1 w') (by kernel_rfl) ((Below.refl _ _).drew) (fun hHeld => ?_)
  refine held_take (i := 0) (d := 12) (v := ?v198) rfl rfl (by kernel_rfl) (by kernel_rfl) (by kernel_rfl) (fun _ _ _ h => h) (Or.inl ⟨by kernel_rfl, ?hy198⟩) hHeld ?rest198
  case hy198 =>
    intro wx hSw
    clear hSw
    go_simp
    with_reducible rfl
  simp only [List.setIfInBounds_toArray, List.set_cons_zero, List.set_cons_succ]
  refine held_take (i := 1) (d := 13) (v := ?v199) rfl rfl (by kernel_rfl) (by kernel_rfl) (by kernel_rfl) (fun _ _ _ h => h) (Or.inl ⟨by kernel_rfl, ?hy199⟩) hHeld ?rest199
  case hy199 =>
    intro wx hSw
    have q0 := (hSw.cell (p := ⟨D + 1, 4, none⟩) hltE).trans e4
    clear hSw
    go_simp
    with_reducible rfl
  simp only [List.setIfInBounds_toArray, List.set_cons_zero, List.set_cons_succ]
  refine held_take (i := 2) (d := 14) (v := ?v200) rfl rfl (by kernel_rfl) (by kernel_rfl) (by kernel_rfl) (fun _ _ _ h => h) (Or.inl ⟨by kernel_rfl, ?hy200⟩) hHeld ?rest200
  case hy200 =>
    intro wx hSw
    clear hSw
    go_simp
    with_reducible rfl
  simp only [List.setIfInBounds_toArray, List.set_cons_zero, List.set_cons_succ]
  refine held_take (i := 3) (d := 15) (v := ?v201) rfl rfl (by kernel_rfl) (by kernel_rfl) (by kernel_rfl) (fun _ _ _ h => h) (Or.inl ⟨by kernel_rfl, ?hy201⟩) hHeld ?rest201
  case hy201 =>
    intro wx hSw
    clear hSw
    go_simp
    with_reducible rfl
  simp only [List.setIfInBounds_toArray, List.set_cons_zero, List.set_cons_succ]
  refine held_take (i := 4) (d := 16) (v := ?v202) rfl rfl (by kernel_rfl) (by kernel_rfl) (by kernel_rfl) (fun _ _ _ h => h) (Or.inl ⟨by kernel_rfl, ?hy202⟩) hHeld ?rest202
  case hy202 =>
    intro wx hSw
    have q0 := (hSw.cell (p := ⟨D, 0, none⟩) hltC).trans k0.out
    clear hSw
    go_simp
    with_reducible rfl
  simp only [List.setIfInBounds_toArray, List.set_cons_zero, List.set_cons_succ]
  refine held_take (i := 5) (d := 17) (v := ?v203) rfl rfl (by kernel_rfl) (by kernel_rfl) (by kernel_rfl) (fun _ _ _ h => h) (Or.inl ⟨by kernel_rfl, ?hy203⟩) hHeld ?rest203
  case hy203 =>
    intro wx hSw
    clear hSw
    go_simp
    with_reducible rfl
  simp only [List.setIfInBounds_toArray, List.set_cons_zero, List.set_cons_succ]
  refine held_take (i := 6) (d := 18) (v := ?v204) rfl rfl (by kernel_rfl) (by kernel_rfl) (by kernel_rfl) (fun _ _ _ h => h) (Or.inl ⟨by kernel_rfl, ?hy204⟩) hHeld ?rest204
  case hy204 =>
    intro wx hSw
    clear hSw
    go_simp
    with_reducible rfl
  simp only [List.setIfInBounds_toArray, List.set_cons_zero, List.set_cons_succ]
  refine held_take (i := 7) (d := 19) (v := ?v205) rfl rfl (by kernel_rfl) (by kernel_rfl) (by kernel_rfl) (fun _ _ _ h => h) (Or.inl ⟨by kernel_rfl, ?hy205⟩) hHeld ?rest205
  case hy205 =>
    intro wx hSw
    clear hSw
    go_simp
    with_reducible rfl
  simp only [List.setIfInBounds_toArray, List.set_cons_zero, List.set_cons_succ]
  refine held_take (i := 8) (d := 20) (v := ?v206) rfl rfl (by kernel_rfl) (by kernel_rfl) (by kernel_rfl) (fun _ _ _ h => h) (Or.inl ⟨by kernel_rfl, ?hy206⟩) hHeld ?rest206
  case hy206 =>
    intro wx hSw
    clear hSw
    go_simp
    with_reducible rfl
  simp only [List.setIfInBounds_toArray, List.set_cons_zero, List.set_cons_succ]
  refine held_take (i := 9) (d := 21) (v := ?v207) rfl rfl (by kernel_rfl) (by kernel_rfl) (by kernel_rfl) (fun _ _ _ h => h) (Or.inl ⟨by kernel_rfl, ?hy207⟩) hHeld ?rest207
  case hy207 =>
    intro wx hSw
    have q0 := (hSw.cell (p := ⟨D + 1, 0, none⟩) hltE).trans e0
    clear hSw
    go_simp
    with_reducible rfl
  simp only [List.setIfInBounds_toArray, List.set_cons_zero, List.set_cons_succ]
  refine held_take (i := 10) (d := 22) (v := ?v208) rfl rfl (by kernel_rfl) (by kernel_rfl) (by kernel_rfl) (fun _ _ _ h => h) (Or.inl ⟨by kernel_rfl, ?hy208⟩) hHeld ?rest208
  case hy208 =>
    intro wx hSw
    clear hSw
    go_simp
    with_reducible rfl
  simp only [List.setIfInBounds_toArray, List.set_cons_zero, List.set_cons_succ]
  refine held_take (i := 11) (d := 23) (v := ?v209) rfl rfl (by kernel_rfl) (by kernel_rfl) (by kernel_rfl) (fun _ _ _ h => h) (Or.inl ⟨by kernel_rfl, ?hy209⟩) hHeld ?rest209
  case hy209 =>
    intro wx hSw
    clear hSw
    go_simp
    with_reducible rfl
  simp only [List.setIfInBounds_toArray, List.set_cons_zero, List.set_cons_succ]
  refine held_take (i := 12) (d := 24) (v := ?v210) rfl rfl (by kernel_rfl) (by kernel_rfl) (by kernel_rfl) (fun _ _ _ h => h) (Or.inl ⟨by kernel_rfl, ?hy210⟩) hHeld ?rest210
  case hy210 =>
    intro wx hSw
    clear hSw
    go_simp
    with_reducible rfl
  simp only [List.setIfInBounds_toArray, List.set_cons_zero, List.set_cons_succ]
  refine held_take (i := 13) (d := 25) (v := ?v211) rfl rfl (by kernel_rfl) (by kernel_rfl) (by kernel_rfl) (fun _ _ _ h => h) (Or.inl ⟨by kernel_rfl, ?hy211⟩) hHeld ?rest211
  case hy211 =>
    intro wx hSw
    clear hSw
    go_simp
    with_reducible rfl
  simp only [List.setIfInBounds_toArray, List.set_cons_zero, List.set_cons_succ]
  refine held_take (i := 14) (d := 26) (v := ?v212) rfl rfl (by kernel_rfl) (by kernel_rfl) (by kernel_rfl) (fun _ _ _ h => h) (Or.inl ⟨by kernel_rfl, ?hy212⟩) hHeld ?rest212
  case hy212 =>
    intro wx hSw
    have q0 := (hSw.cell (p := ⟨D + 1, 0, none⟩) hltE).trans e0
    clear hSw
    go_simp
    with_reducible rfl
  simp only [List.setIfInBounds_toArray, List.set_cons_zero, List.set_cons_succ]
  refine held_take (i := 15) (d := 27) (v := ?v213) rfl rfl (by kernel_rfl) (by kernel_rfl) (by kernel_rfl) (fun _ _ _ h => h) (Or.inl ⟨by kernel_rfl, ?hy213⟩) hHeld ?rest213
  case hy213 =>
    intro wx hSw
    clear hSw
    go_simp
    with_reducible rfl
  simp only [List.setIfInBounds_toArray, List.set_cons_zero, List.set_cons_succ]
  refine held_take (i := 16) (d := 28) (v := ?v214) rfl rfl (by kernel_rfl) (by kernel_rfl) (by kernel_rfl) (fun _ _ _ h => h) (Or.inl ⟨by kernel_rfl, ?hy214⟩) hHeld ?rest214
  case hy214 =>
    intro wx hSw
    clear hSw
    go_simp
    with_reducible rfl
  simp only [List.setIfInBounds_toArray, List.set_cons_zero, List.set_cons_succ]
  refine held_take (i := 17) (d := 29) (v := ?v215) rfl rfl (by kernel_rfl) (by kernel_rfl) (by kernel_rfl) (fun _ _ _ h => h) (Or.inl ⟨by kernel_rfl, ?hy215⟩) hHeld ?rest215
  case hy215 =>
    intro wx hSw
    clear hSw
    go_simp
    with_reducible rfl
  simp only [List.setIfInBounds_toArray, List.set_cons_zero, List.set_cons_succ]
  refine held_take (i := 18) (d := 30) (v := ?v216) rfl rfl (by kernel_rfl) (by kernel_rfl) (by kernel_rfl) (fun _ _ _ h => h) (Or.inl ⟨by kernel_rfl, ?hy216⟩) hHeld ?rest216
  case hy216 =>
    intro wx hSw
    clear hSw
    go_simp
    with_reducible rfl
  simp only [List.setIfInBounds_toArray, List.set_cons_zero, List.set_cons_succ]
  refine held_take (i := 19) (d := 31) (v := ?v217) rfl rfl (by kernel_rfl) (by kernel_rfl) (by kernel_rfl) (fun _ _ _ h => h) (Or.inl ⟨by kernel_rfl, ?hy217⟩) hHeld ?rest217
  case hy217 =>
    intro wx hSw
    have q0 := (hSw.cell (p := ⟨D + 1, 1, none⟩) hltE).trans e1
    clear hSw
    go_simp
    with_reducible rfl
  simp only [List.setIfInBounds_toArray, List.set_cons_zero, List.set_cons_succ]
  refine held_take (i := 20) (d := 32) (v := ?v218) rfl rfl (by kernel_rfl) (by kernel_rfl) (by kernel_rfl) (fun _ _ _ h => h) (Or.inl ⟨by kernel_rfl, ?hy218⟩) hHeld ?rest218
  case hy218 =>
    intro wx hSw
    clear hSw
    go_simp
    with_reducible rfl
  simp only [List.setIfInBounds_toArray, List.set_cons_zero, List.set_cons_succ]
  refine held_take (i := 21) (d := 33) (v := ?v219) rfl rfl (by kernel_rfl) (by kernel_rfl) (by kernel_rfl) (fun _ _ _ h => h) (Or.inl ⟨by kernel_rfl, ?hy219⟩) hHeld ?rest219
  case hy219 =>
    intro wx hSw
    clear hSw
    go_simp
    with_reducible rfl
  simp only [List.setIfInBounds_toArray, List.set_cons_zero, List.set_cons_succ]
  refine held_take (i := 22) (d := 34) (v := ?v220) rfl rfl (by kernel_rfl) (by kernel_rfl) (by kernel_rfl) (fun _ _ _ h => h) (Or.inl ⟨by kernel_rfl, ?hy220⟩) hHeld ?rest220
  case hy220 =>
    intro wx hSw
    clear hSw
    go_simp
    with_reducible rfl
  simp only [List.setIfInBounds_toArray, List.set_cons_zero, List.set_cons_succ]
  refine held_take (i := 23) (d := 35) (v := ?v221) rfl rfl (by kernel_rfl) (by kernel_rfl) (by kernel_rfl) (fun _ _ _ h => h) (Or.inl ⟨by kernel_rfl, ?hy221⟩) hHeld ?rest221
  case hy221 =>
    intro wx hSw
    clear hSw
    go_simp
    with_reducible rfl
  simp only [List.setIfInBounds_toArray, List.set_cons_zero, List.set_cons_succ]
  refine held_take (i := 24) (d := 36) (v := ?v222) rfl rfl (by kernel_rfl) (by kernel_rfl) (by kernel_rfl) (fun _ _ _ h => h) (Or.inl ⟨by kernel_rfl, ?hy222⟩) hHeld ?rest222
  case hy222 =>
    intro wx hSw
    have q0 := (hSw.cell (p := ⟨D + 1, 1, none⟩) hltE).trans e1
    clear hSw
    go_simp
    with_reducible rfl
  simp only [List.setIfInBounds_toArray, List.set_cons_zero, List.set_cons_succ]
  refine held_take (i := 25) (d := 37) (v := ?v223) rfl rfl (by kernel_rfl) (by kernel_rfl) (by kernel_rfl) (fun _ _ _ h => h) (Or.inl ⟨by kernel_rfl, ?hy223⟩) hHeld ?rest223
  case hy223 =>
    intro wx hSw
    clear hSw
    go_simp
    with_reducible rfl
  simp only [List.setIfInBounds_toArray, List.set_cons_zero, List.set_cons_succ]
  refine held_take (i := 26) (d := 38) (v := ?v224) rfl rfl (by kernel_rfl) (by kernel_rfl) (by kernel_rfl) (fun _ _ _ h => h) (Or.inl ⟨by kernel_rfl, ?hy224⟩) hHeld ?rest224
  case hy224 =>
    intro wx hSw
    clear hSw
    go_simp
    with_reducible rfl
  simp only [List.setIfInBounds_toArray, List.set_cons_zero, List.set_cons_succ]
  refine held_take (i := 27) (d := 39) (v := ?v225) rfl rfl (by kernel_rfl) (by kernel_rfl) (by kernel_rfl) (fun _ _ _ h => h) (Or.inl ⟨by kernel_rfl, ?hy225⟩) hHeld ?rest225
  case hy225 =>
    intro wx hSw
    clear hSw
    go_simp
    with_reducible rfl
  simp only [List.setIfInBounds_toArray, List.set_cons_zero, List.set_cons_succ]
  refine held_take (i := 28) (d := 40) (v := ?v226) rfl rfl (by kernel_rfl) (by kernel_rfl) (by kernel_rfl) (fun _ _ _ h => h) (Or.inl ⟨by kernel_rfl, ?hy226⟩) hHeld ?rest226
  case hy226 =>
    intro wx hSw
    clear hSw
    go_simp
    with_reducible rfl
  simp only [List.setIfInBounds_toArray, List.set_cons_zero, List.set_cons_succ]
  refine held_take (i := 29) (d := 41) (v := ?v227) rfl rfl (by kernel_rfl) (by kernel_rfl) (by kernel_rfl) (fun _ _ _ h => h) (Or.inl ⟨by kernel_rfl, ?hy227⟩) hHeld ?rest227
  case hy227 =>
    intro wx hSw
    have q0 := (hSw.cell (p := ⟨D + 1, 2, none⟩) hltE).trans e2
    clear hSw
    go_simp
    with_reducible rfl
  simp only [List.setIfInBounds_toArray, List.set_cons_zero, List.set_cons_succ]
  refine held_take (i := 30) (d := 42) (v := ?v228) rfl rfl (by kernel_rfl) (by kernel_rfl) (by kernel_rfl) (fun _ _ _ h => h) (Or.inl ⟨by kernel_rfl, ?hy228⟩) hHeld ?rest228
  case hy228 =>
    intro wx hSw
    clear hSw
    go_simp
    with_reducible rfl
  simp only [List.setIfInBounds_toArray, List.set_cons_zero, List.set_cons_succ]
  refine held_take (i := 31) (d := 43) (v := ?v229) rfl rfl (by kernel_rfl) (by kernel_rfl) (by kernel_rfl) (fun _ _ _ h => h) (Or.inl ⟨by kernel_rfl, ?hy229⟩) hHeld ?rest229
  case hy229 =>
    intro wx hSw
    clear hSw
    go_simp
    with_reducible rfl
  simp only [List.setIfInBounds_toArray, List.set_cons_zero, List.set_cons_succ]
  refine held_take (i := 32) (d := 44) (v := ?v230) rfl rfl (by kernel_rfl) (by kernel_rfl) (by kernel_rfl) (fun _ _ _ h => h) (Or.inl ⟨by kernel_rfl, ?hy230⟩) hHeld ?rest230
  case hy230 =>
    intro wx hSw
    clear hSw
    go_simp
    with_reducible rfl
  simp only [List.setIfInBounds_toArray, List.set_cons_zero, List.set_cons_succ]
  refine held_take (i := 33) (d := 45) (v := ?v231) rfl rfl (by kernel_rfl) (by kernel_rfl) (by kernel_rfl) (fun _ _ _ h => h) (Or.inl ⟨by kernel_rfl, ?hy231⟩) hHeld ?rest231
  case hy231 =>
    intro wx hSw
    clear hSw
    go_simp
    with_reducible rfl
  simp only [List.setIfInBounds_toArray, List.set_cons_zero, List.set_cons_succ]
  refine held_take (i := 34) (d := 46) (v := ?v232) rfl rfl (by kernel_rfl) (by kernel_rfl) (by kernel_rfl) (fun _ _ _ h => h) (Or.inl ⟨by kernel_rfl, ?hy232⟩) hHeld ?rest232
  case hy232 =>
    intro wx hSw
    have q0 := (hSw.cell (p := ⟨D + 1, 2, none⟩) hltE).trans e2
    clear hSw
    go_simp
    with_reducible rfl
  simp only [List.setIfInBounds_toArray, List.set_cons_zero, List.set_cons_succ]
  refine held_take (i := 35) (d := 47) (v := ?v233) rfl rfl (by kernel_rfl) (by kernel_rfl) (by kernel_rfl) (fun _ _ _ h => h) (Or.inl ⟨by kernel_rfl, ?hy233⟩) hHeld ?rest233
  case hy233 =>
    intro wx hSw
    have q0 := (hSw.cell (p := ⟨D, 0, none⟩) hltC).trans k0.out
    have q1 := (hSw.cell (p := ⟨D, 1, none⟩) hltC).trans k1.out
    have q2 := (hSw.cell (p := ⟨D, 2, none⟩) hltC).trans k2.out
    have q3 := (hSw.cell (p := ⟨D, 3, none⟩) hltC).trans k3.out
    have q4 := (hSw.cell (p := ⟨D, 4, none⟩) hltC).trans k4.out
    have q5 := (hSw.cell (p := ⟨D, 5, none⟩) hltC).trans k5.out
    have q6 := (hSw.cell (p := ⟨D, 6, none⟩) hltC).trans k6.out
    have q7 := (hSw.cell (p := ⟨D, 7, none⟩) hltC).trans k7.out
    have q8 := (hSw.cell (p := ⟨D, 8, none⟩) hltC).trans k8.out
    have q9 := (hSw.cell (p := ⟨D, 9, none⟩) hltC).trans k9.out
    clear hSw
    go_simp
    with_reducible rfl
  simp only [List.setIfInBounds_toArray, List.set_cons_zero, List.set_cons_succ]
  refine wpAnyH_ready (rs := [36]) (by kernel_rfl) (by simp) ?_
  refine AllReadyH.cons rfl (fun K hK => ?_) AllReadyH.nil
  go_simp
  go_wp2_with (go_at_call 43; refine (HM.out _ (by exact hHeld)).mono ?_; rintro e wb ⟨rfl, b8⟩)
  refine hK.out _ _ (b8) (fun hHeld => ?_)
  clear hK K
  refine held_take (i := 37) (d := 49) (v := ?v234) rfl rfl (by kernel_rfl) (by kernel_rfl) (by kernel_rfl) (fun _ _ _ h => h) (Or.inl ⟨by kernel_rfl, ?hy234⟩) hHeld ?rest234
  case hy234 =>
    intro wx hSw
    clear hSw
    go_simp
    with_reducible rfl
  simp only [List.setIfInBounds_toArray, List.set_cons_zero, List.set_cons_succ]
  refine held_take (i := 38) (d := 50) (v := ?v235) rfl rfl (by kernel_rfl) (by kernel_rfl) (by kernel_rfl) (fun _ _ _ h => h) (Or.inl ⟨by kernel_rfl, ?hy235⟩) hHeld ?rest235
  case hy235 =>
    intro wx hSw
    clear hSw
    go_simp
    with_reducible rfl
  simp only [List.setIfInBounds_toArray, List.set_cons_zero, List.set_cons_succ]
  refine wpAnyH_ready (rs := [39]) (by kernel_rfl) (by simp) ?_
  refine AllReadyH.cons rfl (fun K hK => ?_) AllReadyH.nil
  go_simp
  refine hK.out _ _ hHeld (fun hHeld => ?_)
  clear hK K
  refine wpAnyH_done (by kernel_rfl) ?_ _
  go_wp2
  go_ret
  exact ⟨rfl, bb.trans (hHeld.mono hDS)⟩

set_option maxRecDepth 100000 in
set_option maxHeartbeats 2000000 in
theorem emitCheck_conf (c : Cfg) (hC : ¬ okC c = true) (s r f : Int) (k : Bool) (a : Option Addr) (n cap : Nat) (w : World) :
    Calls Tryd.prog 41 #[.agg #[.int .i64 c.cB, .int .i64 c.cBeam, .int .i64 c.cDepth, .int .i64 c.cWin, .int .i64 c.cQs, .int .i64 c.cQr, .int .i64 c.cBatch, .int .i64 c.cPass, .int .i64 c.cMsg, .int .i64 c.cSeqs], .agg #[.int .i64 s, .int .i64 r, .int .i64 f, .bool k, .slice a n cap]] w fun e w' => e = .returned (.int .i64 1) ∧ Below w.heap.size w w' := by
  have b1 := ((Below.refl w.heap.size w).alloc (Nat.le_refl _) (.cells #[.int .i64 c.cB, .int .i64 c.cBeam, .int .i64 c.cDepth, .int .i64 c.cWin, .int .i64 c.cQs, .int .i64 c.cQr, .int .i64 c.cBatch, .int .i64 c.cPass, .int .i64 c.cMsg, .int .i64 c.cSeqs] 23)).alloc (by simp) (.cells #[.int .i64 s, .int .i64 r, .int .i64 f, .bool k, .slice a n cap] 47)
  have H1 := ConfCheck_any c ((w.alloc (.cells #[.int .i64 c.cB, .int .i64 c.cBeam, .int .i64 c.cDepth, .int .i64 c.cWin, .int .i64 c.cQs, .int .i64 c.cQr, .int .i64 c.cBatch, .int .i64 c.cPass, .int .i64 c.cMsg, .int .i64 c.cSeqs] 23)).alloc (.cells #[.int .i64 s, .int .i64 r, .int .i64 f, .bool k, .slice a n cap] 47))
  unfold checkA at H1
  rw [if_neg hC] at H1
  clear hC
  go_enter Tryd.func41, Tryd.ntmps41
  go_wp2_with fail
  refine H1.mono ?_
  rintro e w2 ⟨rfl, b2⟩
  go_wp2
  go_ret
  exact ⟨rfl, b1.trans (b2.mono b1.size)⟩

theorem EmitCheck_any (c : Cfg) (s r f : Int) (k : Bool) (a : Option Addr) (n cap : Nat) (hl : n ≤ 4096) (w : World) :
    Calls Tryd.prog 41 #[.agg #[.int .i64 c.cB, .int .i64 c.cBeam, .int .i64 c.cDepth, .int .i64 c.cWin, .int .i64 c.cQs, .int .i64 c.cQr, .int .i64 c.cBatch, .int .i64 c.cPass, .int .i64 c.cMsg, .int .i64 c.cSeqs], .agg #[.int .i64 s, .int .i64 r, .int .i64 f, .bool k, .slice a n cap]] w fun e w' => e = .returned (.int .i64 (errE c s r f n)) ∧ Below w.heap.size w w' := by
  by_cases hC : okC c = true
  · have no : ∀ h : ¬ ((n : Int) = c.cB + 10 ∧ (0 ≤ s ∧ s < 1073741824) ∧ (0 ≤ r ∧ r ≤ 255) ∧ (0 ≤ f ∧ f ≤ mostC c)), errE c s r f n = 1 := fun h => errE_one (fun q => h ((okE_iff _ _ _ _ _).1 q.2))
    by_cases h0 : (n : Int) = c.cB + 10
    · by_cases h1 : 0 ≤ s
      · by_cases h2 : s < 1073741824
        · by_cases h3 : 0 ≤ r
          · by_cases h4 : r < 256
            · by_cases h5 : 0 ≤ f
              · by_cases h6 : f ≤ mostC c
                · rw [errE_zero.2 ⟨hC, (okE_iff _ _ _ _ _).2 ⟨h0, ⟨h1, h2⟩, ⟨h3, by omega⟩, ⟨h5, h6⟩⟩⟩]
                  exact emitCheck_h c hC s r f k a n cap hl h0 h1 h2 h3 h4 h5 h6 w
                · rw [no (by omega)]
                  exact emitCheck_g c hC s r f k a n cap hl h0 h1 h2 h3 h4 h5 h6 w
              · rw [no (by omega)]
                exact emitCheck_f c hC s r f k a n cap hl h0 h1 h2 h3 h4 h5 w
            · rw [no (by omega)]
              exact emitCheck_e c hC s r f k a n cap hl h0 h1 h2 h3 h4 w
          · rw [no (by omega)]
            exact emitCheck_d c hC s r f k a n cap hl h0 h1 h2 h3 w
        · rw [no (by omega)]
          exact emitCheck_c c hC s r f k a n cap hl h0 h1 h2 w
      · rw [no (by omega)]
        exact emitCheck_b c hC s r f k a n cap hl h0 h1 w
    · rw [no (by omega)]
      exact emitCheck_a c hC s r f k a n cap hl h0 w
  · rw [errE_one (fun q => hC q.1)]
    exact emitCheck_conf c hC s r f k a n cap w

set_option maxRecDepth 100000 in
set_option maxHeartbeats 4000000 in
theorem EmitNew_ok (c : Cfg) (s : Int) (a : Option Addr) (n cap : Nat) (h : errE c s 0 0 n = 0) (zs : List Int) (hn : zs.length = n) (hl : n ≤ 4096) (w : World) (ha : Holds .u8 w.heap.size w (.slice a n cap) zs) :
    Calls Tryd.prog 56 #[.agg #[.int .i64 c.cB, .int .i64 c.cBeam, .int .i64 c.cDepth, .int .i64 c.cWin, .int .i64 c.cQs, .int .i64 c.cQr, .int .i64 c.cBatch, .int .i64 c.cPass, .int .i64 c.cMsg, .int .i64 c.cSeqs], .int .i64 s, .slice a n cap] w fun e W' => ∃ ra rc, e = .returned (.tuple #[.agg #[.int .i64 s, .int .i64 0, .int .i64 0, .bool false, .slice ra n rc], .int .i64 0]) ∧ W'.ownsRow w.heap.size 5 1 (.slice ra n rc) n ((zs).map (Value.int .u8)) ∧ Below w.heap.size w W' := by
  have b1 := (((Below.refl w.heap.size w).alloc (Nat.le_refl _) (.cells #[.int .i64 c.cB, .int .i64 c.cBeam, .int .i64 c.cDepth, .int .i64 c.cWin, .int .i64 c.cQs, .int .i64 c.cQr, .int .i64 c.cBatch, .int .i64 c.cPass, .int .i64 c.cMsg, .int .i64 c.cSeqs] 23)).alloc (by simp) (.cells #[.int .i64 0, .int .i64 0, .int .i64 0, .bool false, .slice none 0 0] 47)).alloc (by simp; omega) (.cells #[.int .i64 s, .int .i64 0, .int .i64 0, .bool false, .slice a n cap] 47)
  have xC := ((Box.new w 23 #[.int .i64 c.cB, .int .i64 c.cBeam, .int .i64 c.cDepth, .int .i64 c.cWin, .int .i64 c.cQs, .int .i64 c.cQr, .int .i64 c.cBatch, .int .i64 c.cPass, .int .i64 c.cMsg, .int .i64 c.cSeqs]).alloc (.cells #[.int .i64 0, .int .i64 0, .int .i64 0, .bool false, .slice none 0 0] 47)).alloc (.cells #[.int .i64 s, .int .i64 0, .int .i64 0, .bool false, .slice a n cap] 47)
  have xA := (Box.new (w.alloc (.cells #[.int .i64 c.cB, .int .i64 c.cBeam, .int .i64 c.cDepth, .int .i64 c.cWin, .int .i64 c.cQs, .int .i64 c.cQr, .int .i64 c.cBatch, .int .i64 c.cPass, .int .i64 c.cMsg, .int .i64 c.cSeqs] 23)) 47 #[.int .i64 0, .int .i64 0, .int .i64 0, .bool false, .slice none 0 0]).alloc (.cells #[.int .i64 s, .int .i64 0, .int .i64 0, .bool false, .slice a n cap] 47)
  have xB := Box.new ((w.alloc (.cells #[.int .i64 c.cB, .int .i64 c.cBeam, .int .i64 c.cDepth, .int .i64 c.cWin, .int .i64 c.cQs, .int .i64 c.cQr, .int .i64 c.cBatch, .int .i64 c.cPass, .int .i64 c.cMsg, .int .i64 c.cSeqs] 23)).alloc (.cells #[.int .i64 0, .int .i64 0, .int .i64 0, .bool false, .slice none 0 0] 47)) 47 #[.int .i64 s, .int .i64 0, .int .i64 0, .bool false, .slice a n cap]
  rw [show (w.alloc (.cells #[.int .i64 c.cB, .int .i64 c.cBeam, .int .i64 c.cDepth, .int .i64 c.cWin, .int .i64 c.cQs, .int .i64 c.cQr, .int .i64 c.cBatch, .int .i64 c.cPass, .int .i64 c.cMsg, .int .i64 c.cSeqs] 23)).heap.size = w.heap.size + 1 by simp] at xA
  rw [show ((w.alloc (.cells #[.int .i64 c.cB, .int .i64 c.cBeam, .int .i64 c.cDepth, .int .i64 c.cWin, .int .i64 c.cQs, .int .i64 c.cQr, .int .i64 c.cBatch, .int .i64 c.cPass, .int .i64 c.cMsg, .int .i64 c.cSeqs] 23)).alloc (.cells #[.int .i64 0, .int .i64 0, .int .i64 0, .bool false, .slice none 0 0] 47)).heap.size = w.heap.size + 2 by simp] at xB
  have HK := EmitCheck_any c s 0 0 false a n cap hl (((w.alloc (.cells #[.int .i64 c.cB, .int .i64 c.cBeam, .int .i64 c.cDepth, .int .i64 c.cWin, .int .i64 c.cQs, .int .i64 c.cQr, .int .i64 c.cBatch, .int .i64 c.cPass, .int .i64 c.cMsg, .int .i64 c.cSeqs] 23)).alloc (.cells #[.int .i64 0, .int .i64 0, .int .i64 0, .bool false, .slice none 0 0] 47)).alloc (.cells #[.int .i64 s, .int .i64 0, .int .i64 0, .bool false, .slice a n cap] 47))
  rw [h] at HK
  have HA : Hid (Holds .u8 _ (((w.alloc (.cells #[.int .i64 c.cB, .int .i64 c.cBeam, .int .i64 c.cDepth, .int .i64 c.cWin, .int .i64 c.cQs, .int .i64 c.cQr, .int .i64 c.cBatch, .int .i64 c.cPass, .int .i64 c.cMsg, .int .i64 c.cSeqs] 23)).alloc (.cells #[.int .i64 0, .int .i64 0, .int .i64 0, .bool false, .slice none 0 0] 47)).alloc (.cells #[.int .i64 s, .int .i64 0, .int .i64 0, .bool false, .slice a n cap] 47)) (.slice a n cap) zs) := ha.next b1
  have HN : Hid (zs.length = n) := hn
  have hs3 : w.heap.size + 3 ≤ (((w.alloc (.cells #[.int .i64 c.cB, .int .i64 c.cBeam, .int .i64 c.cDepth, .int .i64 c.cWin, .int .i64 c.cQs, .int .i64 c.cQr, .int .i64 c.cBatch, .int .i64 c.cPass, .int .i64 c.cMsg, .int .i64 c.cSeqs] 23)).alloc (.cells #[.int .i64 0, .int .i64 0, .int .i64 0, .bool false, .slice none 0 0] 47)).alloc (.cells #[.int .i64 s, .int .i64 0, .int .i64 0, .bool false, .slice a n cap] 47)).heap.size := by simp
  clear h hn ha
  go_enter Tryd.func56, Tryd.ntmps56
  go_wp2_with fail
  refine HK.mono ?_
  rintro e w2 ⟨rfl, b2⟩
  have HC := apart_ok s 0 0 false a n cap zs HN.out hl w2 (HA.out.next b2)
  have yA := xA.next b2
  have yB := xB.next b2
  have k0 := yB.cell 0 _ rfl
  have k1 := yB.cell 1 _ rfl
  have k2 := yB.cell 2 _ rfl
  have k3 := yB.cell 3 _ rfl
  have k4 := yB.cell 4 _ rfl
  have b3 := b1.trans (b2.mono b1.size)
  have hs4 : w.heap.size + 3 ≤ w2.heap.size := Nat.le_trans hs3 b2.size
  clear HA hs3 xC xA xB yB b1 b2 HK hl
  go_wp2_with fail
  refine HC.mono ?_
  rintro e w4 ⟨ra, rc, rfl, o4, b4⟩
  have vA := yA.next b4
  have z0 := vA.cell 0 _ rfl
  have z1 := vA.cell 1 _ rfl
  have z2 := vA.cell 2 _ rfl
  have z3 := vA.cell 3 _ rfl
  have z4 := vA.cell 4 _ rfl
  have g0 := vA.free 0
  have g1 := vA.free 1
  have g2 := vA.free 2
  have g3 := vA.free 3
  have g4 := vA.free 4
  have b5 := below_set5e (b3.trans (b4.mono b3.size)) (D := w.heap.size + 1) (by omega) (.int .i64 s) (.int .i64 0) (.int .i64 0) (.bool false) (.slice ra n rc)
  have o5 := row_base (row_set5e o4 (D := w.heap.size + 1) (by omega) (.int .i64 s) (.int .i64 0) (.int .i64 0) (.bool false) (.slice ra n rc)) (show w.heap.size ≤ _ by omega)
  clear HC o4 b4 b3 yA vA k0 k1 k2 k3 k4
  go_wp2
  exact bodyPost_ret (v := .tuple #[.agg #[.int .i64 s, .int .i64 0, .int .i64 0, .bool false, .slice ra n rc], .int .i64 0]) (by simp [results, Tryd.results56, go_sem, z0, z1, z2, z3, z4]) rfl ⟨_, _, rfl, o5, b5⟩

set_option maxRecDepth 100000 in
set_option maxHeartbeats 4000000 in
theorem EmitTick_acked (c : Cfg) (s r f : Int) (a : Option Addr) (n cap : Nat) (h : errE c s r f n = 0) (zs : List Int) (hn : zs.length = n) (hl : n ≤ 4096) (w : World) (ha : Holds .u8 w.heap.size w (.slice a n cap) zs) :
    Calls Tryd.prog 20 #[.agg #[.int .i64 c.cB, .int .i64 c.cBeam, .int .i64 c.cDepth, .int .i64 c.cWin, .int .i64 c.cQs, .int .i64 c.cQr, .int .i64 c.cBatch, .int .i64 c.cPass, .int .i64 c.cMsg, .int .i64 c.cSeqs], .agg #[.int .i64 s, .int .i64 r, .int .i64 f, .bool true, .slice a n cap]] w fun e W' => ∃ ra rc, e = .returned (.tuple #[.agg #[.int .i64 s, .int .i64 r, .int .i64 f, .bool true, .slice ra n rc], .slice none 0 0, .int .i64 0]) ∧ W'.ownsRow w.heap.size 5 1 (.slice ra n rc) n ((zs).map (Value.int .u8)) ∧ Below w.heap.size w W' := by
  have b1 := (((Below.refl w.heap.size w).alloc (Nat.le_refl _) (.cells #[.int .i64 c.cB, .int .i64 c.cBeam, .int .i64 c.cDepth, .int .i64 c.cWin, .int .i64 c.cQs, .int .i64 c.cQr, .int .i64 c.cBatch, .int .i64 c.cPass, .int .i64 c.cMsg, .int .i64 c.cSeqs] 23)).alloc (by simp) (.cells #[.int .i64 s, .int .i64 r, .int .i64 f, .bool true, .slice a n cap] 47)).alloc (by simp; omega) (.cells #[.int .i64 0, .int .i64 0, .int .i64 0, .bool false, .slice none 0 0] 47)
  have xC := ((Box.new w 23 #[.int .i64 c.cB, .int .i64 c.cBeam, .int .i64 c.cDepth, .int .i64 c.cWin, .int .i64 c.cQs, .int .i64 c.cQr, .int .i64 c.cBatch, .int .i64 c.cPass, .int .i64 c.cMsg, .int .i64 c.cSeqs]).alloc (.cells #[.int .i64 s, .int .i64 r, .int .i64 f, .bool true, .slice a n cap] 47)).alloc (.cells #[.int .i64 0, .int .i64 0, .int .i64 0, .bool false, .slice none 0 0] 47)
  have xA := (Box.new (w.alloc (.cells #[.int .i64 c.cB, .int .i64 c.cBeam, .int .i64 c.cDepth, .int .i64 c.cWin, .int .i64 c.cQs, .int .i64 c.cQr, .int .i64 c.cBatch, .int .i64 c.cPass, .int .i64 c.cMsg, .int .i64 c.cSeqs] 23)) 47 #[.int .i64 s, .int .i64 r, .int .i64 f, .bool true, .slice a n cap]).alloc (.cells #[.int .i64 0, .int .i64 0, .int .i64 0, .bool false, .slice none 0 0] 47)
  have xB := Box.new ((w.alloc (.cells #[.int .i64 c.cB, .int .i64 c.cBeam, .int .i64 c.cDepth, .int .i64 c.cWin, .int .i64 c.cQs, .int .i64 c.cQr, .int .i64 c.cBatch, .int .i64 c.cPass, .int .i64 c.cMsg, .int .i64 c.cSeqs] 23)).alloc (.cells #[.int .i64 s, .int .i64 r, .int .i64 f, .bool true, .slice a n cap] 47)) 47 #[.int .i64 0, .int .i64 0, .int .i64 0, .bool false, .slice none 0 0]
  rw [show (w.alloc (.cells #[.int .i64 c.cB, .int .i64 c.cBeam, .int .i64 c.cDepth, .int .i64 c.cWin, .int .i64 c.cQs, .int .i64 c.cQr, .int .i64 c.cBatch, .int .i64 c.cPass, .int .i64 c.cMsg, .int .i64 c.cSeqs] 23)).heap.size = w.heap.size + 1 by simp] at xA
  rw [show ((w.alloc (.cells #[.int .i64 c.cB, .int .i64 c.cBeam, .int .i64 c.cDepth, .int .i64 c.cWin, .int .i64 c.cQs, .int .i64 c.cQr, .int .i64 c.cBatch, .int .i64 c.cPass, .int .i64 c.cMsg, .int .i64 c.cSeqs] 23)).alloc (.cells #[.int .i64 s, .int .i64 r, .int .i64 f, .bool true, .slice a n cap] 47)).heap.size = w.heap.size + 2 by simp] at xB
  have HK := EmitCheck_any c s r f true a n cap hl (((w.alloc (.cells #[.int .i64 c.cB, .int .i64 c.cBeam, .int .i64 c.cDepth, .int .i64 c.cWin, .int .i64 c.cQs, .int .i64 c.cQr, .int .i64 c.cBatch, .int .i64 c.cPass, .int .i64 c.cMsg, .int .i64 c.cSeqs] 23)).alloc (.cells #[.int .i64 s, .int .i64 r, .int .i64 f, .bool true, .slice a n cap] 47)).alloc (.cells #[.int .i64 0, .int .i64 0, .int .i64 0, .bool false, .slice none 0 0] 47))
  rw [h] at HK
  have HA : Hid (Holds .u8 _ (((w.alloc (.cells #[.int .i64 c.cB, .int .i64 c.cBeam, .int .i64 c.cDepth, .int .i64 c.cWin, .int .i64 c.cQs, .int .i64 c.cQr, .int .i64 c.cBatch, .int .i64 c.cPass, .int .i64 c.cMsg, .int .i64 c.cSeqs] 23)).alloc (.cells #[.int .i64 s, .int .i64 r, .int .i64 f, .bool true, .slice a n cap] 47)).alloc (.cells #[.int .i64 0, .int .i64 0, .int .i64 0, .bool false, .slice none 0 0] 47)) (.slice a n cap) zs) := ha.next b1
  have HN : Hid (zs.length = n) := hn
  have hs3 : w.heap.size + 3 ≤ (((w.alloc (.cells #[.int .i64 c.cB, .int .i64 c.cBeam, .int .i64 c.cDepth, .int .i64 c.cWin, .int .i64 c.cQs, .int .i64 c.cQr, .int .i64 c.cBatch, .int .i64 c.cPass, .int .i64 c.cMsg, .int .i64 c.cSeqs] 23)).alloc (.cells #[.int .i64 s, .int .i64 r, .int .i64 f, .bool true, .slice a n cap] 47)).alloc (.cells #[.int .i64 0, .int .i64 0, .int .i64 0, .bool false, .slice none 0 0] 47)).heap.size := by simp
  clear h hn ha
  go_enter Tryd.func20, Tryd.ntmps20
  go_wp2_with fail
  refine HK.mono ?_
  rintro e w2 ⟨rfl, b2⟩
  have HC := apart_ok s r f true a n cap zs HN.out hl w2 (HA.out.next b2)
  have yC := xC.next b2
  have yA := xA.next b2
  have yB := xB.next b2
  have k0 := yA.cell 0 _ rfl
  have k1 := yA.cell 1 _ rfl
  have k2 := yA.cell 2 _ rfl
  have k3 := yA.cell 3 _ rfl
  have k4 := yA.cell 4 _ rfl
  have b3 := b1.trans (b2.mono b1.size)
  have hs4 : w.heap.size + 3 ≤ w2.heap.size := Nat.le_trans hs3 b2.size
  clear HA hs3 xC xA xB yA b1 b2 HK hl
  go_wp2_with fail
  refine HC.mono ?_
  rintro e w4 ⟨ra, rc, rfl, o4, b4⟩
  have vC := (yC.next b4).other5e (D := w.heap.size + 2) (by omega) (.int .i64 s) (.int .i64 r) (.int .i64 f) (.bool true) (.slice ra n rc)
  have vB := yB.next b4
  have z0 := vB.cell 0 _ rfl
  have z1 := vB.cell 1 _ rfl
  have z2 := vB.cell 2 _ rfl
  have z3 := vB.cell 3 _ rfl
  have z4 := vB.cell 4 _ rfl
  have g0 := vB.free 0
  have g1 := vB.free 1
  have g2 := vB.free 2
  have g3 := vB.free 3
  have g4 := vB.free 4
  have vN := vB.set5e (.int .i64 s) (.int .i64 r) (.int .i64 f) (.bool true) (.slice ra n rc)
  have b5 := below_set5e (b3.trans (b4.mono b3.size)) (D := w.heap.size + 2) (by omega) (.int .i64 s) (.int .i64 r) (.int .i64 f) (.bool true) (.slice ra n rc)
  have o5 := row_set5e o4 (D := w.heap.size + 2) (by omega) (.int .i64 s) (.int .i64 r) (.int .i64 f) (.bool true) (.slice ra n rc)
  have hs5 : w.heap.size + 3 ≤ w4.heap.size := Nat.le_trans hs4 b4.size
  clear HC o4 b4 b3 yC yB vB k0 k1 k2 k3 k4
  go_upto_region 5 with fail
  obtain ⟨W4, hW4⟩ : ∃ W, ((((w4.setCell ⟨w.heap.size + 2, 0, none⟩ (.int .i64 s)).setCell ⟨w.heap.size + 2, 1, none⟩ (.int .i64 r)).setCell ⟨w.heap.size + 2, 2, none⟩ (.int .i64 f)).setCell ⟨w.heap.size + 2, 3, none⟩ (.bool true)).setCell ⟨w.heap.size + 2, 4, none⟩ (.slice ra n rc) = W := ⟨_, rfl⟩
  rw [hW4] at vC vN b5 o5 ⊢
  clear hW4 z0 z1 z2 z3 z4 g0 g1 g2 g3 g4
  have z0 := vN.cell 0 _ rfl
  have z1 := vN.cell 1 _ rfl
  have z2 := vN.cell 2 _ rfl
  have z3 := vN.cell 3 _ rfl
  have z4 := vN.cell 4 _ rfl
  have g0 := vN.free 0
  have g1 := vN.free 1
  have g2 := vN.free 2
  have g3 := vN.free 3
  have g4 := vN.free 4
  have b6 := below_set5e b5 (D := w.heap.size + 2) (by omega) (.int .i64 s) (.int .i64 r) (.int .i64 f) (.bool true) (.slice ra n rc)
  have o6 := row_base (row_set5e o5 (D := w.heap.size + 2) (by omega) (.int .i64 s) (.int .i64 r) (.int .i64 f) (.bool true) (.slice ra n rc)) (show w.heap.size ≤ _ by omega)
  clear vC vN b5 o5
  go_wp2
  exact bodyPost_ret (v := .tuple #[.agg #[.int .i64 s, .int .i64 r, .int .i64 f, .bool true, .slice ra n rc], .slice none 0 0, .int .i64 0]) (by simp [results, Tryd.results20, go_sem, z0, z1, z2, z3, z4]) rfl ⟨_, _, rfl, o6, b6⟩

set_option maxRecDepth 100000 in
set_option maxHeartbeats 8000000 in
theorem emitTick_on (c : Cfg) (s r f : Int) (a : Option Addr) (n cap : Nat) (h : errE c s r f n = 0) (hf : ¬ f = mostC c) (C : Int) (hCq : min c.cBatch (mostC c - f) = C) (F' C' : Nat) (hF' : (f : Int) = (F' : Int)) (hC' : C = (C' : Int)) (zs : List Int) (hn : zs.length = n) (bz : ∀ z ∈ zs, 0 ≤ z ∧ z ≤ 255) (hfc : F' + C' ≤ 32 * n) (hRD : RightD s r (F' : Int) (codeL zs F' C')) (w : World) (hF : Firsts w) (ha : Holds .u8 w.heap.size w (.slice a n cap) zs) :
    Calls Tryd.prog 20 #[.agg #[.int .i64 c.cB, .int .i64 c.cBeam, .int .i64 c.cDepth, .int .i64 c.cWin, .int .i64 c.cQs, .int .i64 c.cQr, .int .i64 c.cBatch, .int .i64 c.cPass, .int .i64 c.cMsg, .int .i64 c.cSeqs], .agg #[.int .i64 s, .int .i64 r, .int .i64 f, .bool false, .slice a n cap]] w fun e W' => ∃ ra rc qa qc, e = .returned (.tuple #[.agg #[.int .i64 s, .int .i64 r, .int .i64 (f + C), .bool false, .slice ra n rc], .slice qa (C' + 11) qc, .int .i64 0]) ∧ W'.ownsRow w.heap.size 5 1 (.slice ra n rc) n ((zs).map (Value.int .u8)) ∧ W'.ownsRow w.heap.size 5 1 ((.slice qa (C' + 11) qc)) (C' + 11) ((packD s r (F' : Int) (codeL zs F' C')).map (Value.int .u8)) ∧ (∀ g, (Value.slice ra n rc).ownBlock = some g → (Value.slice qa (C' + 11) qc).ownBlock ≠ some g) ∧ Below w.heap.size w W' := by
  obtain ⟨hC, hE⟩ := errE_zero.1 h
  obtain ⟨hnc, hsb, hrb, hfb⟩ := (okE_iff _ _ _ _ _).1 hE
  have hcb := ((okC_iff c).1 hC).1
  have hbb := ((okC_iff c).1 hC).2.2.2.2.2.2.1
  have hl : n ≤ 4096 := by omega
  have hmb := mostC_bd hC
  have HP : Hid (∀ (wx : World) (ra : Option Addr) (rc : Nat), Firsts wx → Holds .u8 wx.heap.size wx (.slice ra n rc) zs → Calls Tryd.prog 44 #[.agg #[.int .i64 s, .int .i64 r, .int .i64 f, .bool false, .slice ra n rc], .int .i64 C] wx fun e W' => ∃ q, e = .returned (.tuple #[q, .int .i64 0]) ∧ W'.ownsRow wx.heap.size 5 1 q (C' + 11) ((packD s r (F' : Int) (codeL zs F' C')).map (Value.int .u8)) ∧ Below wx.heap.size wx W') := fun wx ra rc hf hh => by
    rw [hF', hC']
    skip
    exact packetOf_ok s r false ra n rc zs hn (by omega) (by omega) bz F' C' hfc hRD wx hf hh
  have HM : Hid (∀ wx : World, Calls Tryd.prog 43 #[.agg #[.int .i64 c.cB, .int .i64 c.cBeam, .int .i64 c.cDepth, .int .i64 c.cWin, .int .i64 c.cQs, .int .i64 c.cQr, .int .i64 c.cBatch, .int .i64 c.cPass, .int .i64 c.cMsg, .int .i64 c.cSeqs]] wx fun e w' => e = .returned (.int .i64 (mostC c)) ∧ Below wx.heap.size wx w') := fun wx => by
    have := ConfMost_any c wx
    unfold mostA at this
    rw [if_pos hC] at this
    exact this
  have HF : Hid (Firsts w) := hF
  have b1 := (((Below.refl w.heap.size w).alloc (Nat.le_refl _) (.cells #[.int .i64 c.cB, .int .i64 c.cBeam, .int .i64 c.cDepth, .int .i64 c.cWin, .int .i64 c.cQs, .int .i64 c.cQr, .int .i64 c.cBatch, .int .i64 c.cPass, .int .i64 c.cMsg, .int .i64 c.cSeqs] 23)).alloc (by simp) (.cells #[.int .i64 s, .int .i64 r, .int .i64 f, .bool false, .slice a n cap] 47)).alloc (by simp; omega) (.cells #[.int .i64 0, .int .i64 0, .int .i64 0, .bool false, .slice none 0 0] 47)
  have xC := ((Box.new w 23 #[.int .i64 c.cB, .int .i64 c.cBeam, .int .i64 c.cDepth, .int .i64 c.cWin, .int .i64 c.cQs, .int .i64 c.cQr, .int .i64 c.cBatch, .int .i64 c.cPass, .int .i64 c.cMsg, .int .i64 c.cSeqs]).alloc (.cells #[.int .i64 s, .int .i64 r, .int .i64 f, .bool false, .slice a n cap] 47)).alloc (.cells #[.int .i64 0, .int .i64 0, .int .i64 0, .bool false, .slice none 0 0] 47)
  have xA := (Box.new (w.alloc (.cells #[.int .i64 c.cB, .int .i64 c.cBeam, .int .i64 c.cDepth, .int .i64 c.cWin, .int .i64 c.cQs, .int .i64 c.cQr, .int .i64 c.cBatch, .int .i64 c.cPass, .int .i64 c.cMsg, .int .i64 c.cSeqs] 23)) 47 #[.int .i64 s, .int .i64 r, .int .i64 f, .bool false, .slice a n cap]).alloc (.cells #[.int .i64 0, .int .i64 0, .int .i64 0, .bool false, .slice none 0 0] 47)
  have xB := Box.new ((w.alloc (.cells #[.int .i64 c.cB, .int .i64 c.cBeam, .int .i64 c.cDepth, .int .i64 c.cWin, .int .i64 c.cQs, .int .i64 c.cQr, .int .i64 c.cBatch, .int .i64 c.cPass, .int .i64 c.cMsg, .int .i64 c.cSeqs] 23)).alloc (.cells #[.int .i64 s, .int .i64 r, .int .i64 f, .bool false, .slice a n cap] 47)) 47 #[.int .i64 0, .int .i64 0, .int .i64 0, .bool false, .slice none 0 0]
  rw [show (w.alloc (.cells #[.int .i64 c.cB, .int .i64 c.cBeam, .int .i64 c.cDepth, .int .i64 c.cWin, .int .i64 c.cQs, .int .i64 c.cQr, .int .i64 c.cBatch, .int .i64 c.cPass, .int .i64 c.cMsg, .int .i64 c.cSeqs] 23)).heap.size = w.heap.size + 1 by simp] at xA
  rw [show ((w.alloc (.cells #[.int .i64 c.cB, .int .i64 c.cBeam, .int .i64 c.cDepth, .int .i64 c.cWin, .int .i64 c.cQs, .int .i64 c.cQr, .int .i64 c.cBatch, .int .i64 c.cPass, .int .i64 c.cMsg, .int .i64 c.cSeqs] 23)).alloc (.cells #[.int .i64 s, .int .i64 r, .int .i64 f, .bool false, .slice a n cap] 47)).heap.size = w.heap.size + 2 by simp] at xB
  have HK := EmitCheck_any c s r f false a n cap hl (((w.alloc (.cells #[.int .i64 c.cB, .int .i64 c.cBeam, .int .i64 c.cDepth, .int .i64 c.cWin, .int .i64 c.cQs, .int .i64 c.cQr, .int .i64 c.cBatch, .int .i64 c.cPass, .int .i64 c.cMsg, .int .i64 c.cSeqs] 23)).alloc (.cells #[.int .i64 s, .int .i64 r, .int .i64 f, .bool false, .slice a n cap] 47)).alloc (.cells #[.int .i64 0, .int .i64 0, .int .i64 0, .bool false, .slice none 0 0] 47))
  rw [h] at HK
  have HA : Hid (Holds .u8 _ (((w.alloc (.cells #[.int .i64 c.cB, .int .i64 c.cBeam, .int .i64 c.cDepth, .int .i64 c.cWin, .int .i64 c.cQs, .int .i64 c.cQr, .int .i64 c.cBatch, .int .i64 c.cPass, .int .i64 c.cMsg, .int .i64 c.cSeqs] 23)).alloc (.cells #[.int .i64 s, .int .i64 r, .int .i64 f, .bool false, .slice a n cap] 47)).alloc (.cells #[.int .i64 0, .int .i64 0, .int .i64 0, .bool false, .slice none 0 0] 47)) (.slice a n cap) zs) := ha.next b1
  have HN : Hid (zs.length = n) := hn
  have hs3 : w.heap.size + 3 ≤ (((w.alloc (.cells #[.int .i64 c.cB, .int .i64 c.cBeam, .int .i64 c.cDepth, .int .i64 c.cWin, .int .i64 c.cQs, .int .i64 c.cQr, .int .i64 c.cBatch, .int .i64 c.cPass, .int .i64 c.cMsg, .int .i64 c.cSeqs] 23)).alloc (.cells #[.int .i64 s, .int .i64 r, .int .i64 f, .bool false, .slice a n cap] 47)).alloc (.cells #[.int .i64 0, .int .i64 0, .int .i64 0, .bool false, .slice none 0 0] 47)).heap.size := by simp
  generalize codeL zs F' C' = X at *
  generalize mostC c = M at *
  have q0 : (f == M) = false := by rw [beq_eq_false_iff_ne]; exact hf
  have q4 : IntKind.i64.wrap (M - f) = M - f := by rw [IntKind.wrap_i64]; omega
  have q5 : min c.cBatch (M - f) = C := hCq
  have q6 : IntKind.i64.wrap (f + C) = f + C := by rw [IntKind.wrap_i64]; omega
  clear h hn ha hC hE hnc hsb hrb hfb hcb hbb hmb bz hF hCq hF' hC' hfc hRD hf
  go_enter Tryd.func20, Tryd.ntmps20
  go_wp2_with fail
  refine HK.mono ?_
  rintro e w2 ⟨rfl, b2⟩
  have HC := apart_ok s r f false a n cap zs HN.out hl w2 (HA.out.next b2)
  have yC := xC.next b2
  have yA := xA.next b2
  have yB := xB.next b2
  have k0 := yA.cell 0 _ rfl
  have k1 := yA.cell 1 _ rfl
  have k2 := yA.cell 2 _ rfl
  have k3 := yA.cell 3 _ rfl
  have k4 := yA.cell 4 _ rfl
  have b3 := b1.trans (b2.mono b1.size)
  have hs4 : w.heap.size + 3 ≤ w2.heap.size := Nat.le_trans hs3 b2.size
  clear HA hs3 xC xA xB yA b1 b2 HK hl
  go_wp2_with fail
  refine HC.mono ?_
  rintro e w4 ⟨ra, rc, rfl, o4, b4⟩
  have vC := (yC.next b4).other5e (D := w.heap.size + 2) (by omega) (.int .i64 s) (.int .i64 r) (.int .i64 f) (.bool false) (.slice ra n rc)
  have vB := yB.next b4
  have z0 := vB.cell 0 _ rfl
  have z1 := vB.cell 1 _ rfl
  have z2 := vB.cell 2 _ rfl
  have z3 := vB.cell 3 _ rfl
  have z4 := vB.cell 4 _ rfl
  have g0 := vB.free 0
  have g1 := vB.free 1
  have g2 := vB.free 2
  have g3 := vB.free 3
  have g4 := vB.free 4
  have vN := vB.set5e (.int .i64 s) (.int .i64 r) (.int .i64 f) (.bool false) (.slice ra n rc)
  have b5 := below_set5e (b3.trans (b4.mono b3.size)) (D := w.heap.size + 2) (by omega) (.int .i64 s) (.int .i64 r) (.int .i64 f) (.bool false) (.slice ra n rc)
  have o5 := row_set5e o4 (D := w.heap.size + 2) (by omega) (.int .i64 s) (.int .i64 r) (.int .i64 f) (.bool false) (.slice ra n rc)
  have hs5 : w.heap.size + 3 ≤ w4.heap.size := Nat.le_trans hs4 b4.size
  clear HC o4 b4 b3 yC yB vB k0 k1 k2 k3 k4
  go_upto_region 5 with fail
  obtain ⟨W4, hW4⟩ : ∃ W, ((((w4.setCell ⟨w.heap.size + 2, 0, none⟩ (.int .i64 s)).setCell ⟨w.heap.size + 2, 1, none⟩ (.int .i64 r)).setCell ⟨w.heap.size + 2, 2, none⟩ (.int .i64 f)).setCell ⟨w.heap.size + 2, 3, none⟩ (.bool false)).setCell ⟨w.heap.size + 2, 4, none⟩ (.slice ra n rc) = W := ⟨_, rfl⟩
  have hz4 : w4.heap.size = W4.heap.size := by rw [← hW4]; simp
  rw [hW4] at vC vN b5 o5 ⊢
  rw [hz4] at hs5
  clear hW4 hz4 z0 z1 z2 z3 z4 g0 g1 g2 g3 g4
  have z0 := vN.cell 0 _ rfl
  have z1 := vN.cell 1 _ rfl
  have z2 := vN.cell 2 _ rfl
  have z3 := vN.cell 3 _ rfl
  have z4 := vN.cell 4 _ rfl
  have k0 := vC.cell 0 _ rfl
  have k1 := vC.cell 1 _ rfl
  have k2 := vC.cell 2 _ rfl
  have k3 := vC.cell 3 _ rfl
  have k4 := vC.cell 4 _ rfl
  have k5 := vC.cell 5 _ rfl
  have k6 := vC.cell 6 _ rfl
  have k7 := vC.cell 7 _ rfl
  have k8 := vC.cell 8 _ rfl
  have k9 := vC.cell 9 _ rfl
  go_upto_region 7 with fail
  go_wp2_with fail
  refine (HM.out _).mono ?_
  rintro e w5 ⟨rfl, b6⟩
  have uC := vC.next b6
  have uN := vN.next b6
  have o6 := row_below o5 b6 (Nat.le_refl _)
  have bb6 := b5.trans (b6.mono b5.size)
  have hs6 : w.heap.size + 3 ≤ w5.heap.size := Nat.le_trans hs5 b6.size
  clear z0 z1 z2 z3 z4 k0 k1 k2 k3 k4 k5 k6 k7 k8 k9 vC vN o5 b5 b6 hs5 HM
  have z0 := uN.cell 0 _ rfl
  have z1 := uN.cell 1 _ rfl
  have z2 := uN.cell 2 _ rfl
  have z3 := uN.cell 3 _ rfl
  have z4 := uN.cell 4 _ rfl
  have g0 := uN.free 0
  have g1 := uN.free 1
  have g2 := uN.free 2
  have g3 := uN.free 3
  have g4 := uN.free 4
  have k6 := uC.cell 6 _ rfl
  obtain ⟨W6, hW6⟩ : ∃ W, w5 = W := ⟨_, rfl⟩
  subst hW6
  have tN := uN
  have o7 := o6
  have bb7 := bb6
  clear uC uN o6 bb6
  go_wp2_with fail
  refine (HP.out _ _ _ (HF.out.next bb7) (holds_of_row o7)).mono ?_
  rintro e w7 ⟨v7, rfl, o8, b8⟩
  obtain ⟨qa, qc, rfl⟩ := row_shapeE o8
  have sN := tN.next b8
  have o9 := row_below o7 b8 (Nat.le_refl _)
  have bb8 := bb7.trans (b8.mono bb7.size)
  have hs8 : w.heap.size + 3 ≤ w7.heap.size := Nat.le_trans hs6 b8.size
  have hne : ∀ g, (Value.slice ra n rc).ownBlock = some g → (Value.slice qa (C' + 11) qc).ownBlock ≠ some g := fun g hg hg' => by
    have e1 := (o7.lt _ hg).2
    have e2 := (o8.lt _ hg').1
    omega
  clear z0 z1 z2 z3 z4 k6 tN o7 bb7 b8 g0 g1 g2 g3 g4
  have z0 := sN.cell 0 _ rfl
  have z1 := sN.cell 1 _ rfl
  have z2 := sN.cell 2 _ rfl
  have z3 := sN.cell 3 _ rfl
  have z4 := sN.cell 4 _ rfl
  have g0 := sN.free 0
  have g1 := sN.free 1
  have g2 := sN.free 2
  have g3 := sN.free 3
  have g4 := sN.free 4
  go_upto_region 15 with fail
  obtain ⟨W8, hW8⟩ : ∃ W, w7.setCell ⟨w.heap.size + 2, 2, none⟩ (.int .i64 (f + C)) = W := ⟨_, rfl⟩
  have pN := sN.set 2 (.int .i64 (f + C))
  have o10 := ownsRow_setCell_below o9 (a := ⟨w.heap.size + 2, 2, none⟩) (by simp only; omega) (.int .i64 (f + C))
  have o11 := ownsRow_setCell_below o8 (a := ⟨w.heap.size + 2, 2, none⟩) (by simp only; omega) (.int .i64 (f + C))
  have bb9 := bb8.setCell (p := ⟨w.heap.size + 2, 2, none⟩) (by simp only; omega) (.int .i64 (f + C))
  rw [hW8] at pN o10 o11 bb9 ⊢
  clear hW8 z0 z1 z2 z3 z4 g0 g1 g2 g3 g4 sN o8 o9 bb8
  have z0 := pN.cell 0 _ rfl
  have z1 := pN.cell 1 _ rfl
  have z2 := pN.cell 2 _ rfl
  have z3 := pN.cell 3 _ rfl
  have z4 := pN.cell 4 _ rfl
  have g0 := pN.free 0
  have g1 := pN.free 1
  have g2 := pN.free 2
  have g3 := pN.free 3
  have g4 := pN.free 4
  have bb10 := below_set5e bb9 (D := w.heap.size + 2) (by omega) (.int .i64 s) (.int .i64 r) (.int .i64 (f + C)) (.bool false) (.slice ra n rc)
  have o12 := row_base (row_set5e o10 (D := w.heap.size + 2) (by omega) (.int .i64 s) (.int .i64 r) (.int .i64 (f + C)) (.bool false) (.slice ra n rc)) (show w.heap.size ≤ _ by omega)
  have o13 := row_base (row_set5e o11 (D := w.heap.size + 2) (by omega) (.int .i64 s) (.int .i64 r) (.int .i64 (f + C)) (.bool false) (.slice ra n rc)) (show w.heap.size ≤ _ by omega)
  clear pN o10 o11 bb9
  go_wp2
  exact bodyPost_ret (v := .tuple #[.agg #[.int .i64 s, .int .i64 r, .int .i64 (f + C), .bool false, .slice ra n rc], .slice qa (C' + 11) qc, .int .i64 0]) (by simp [results, Tryd.results20, go_sem, z0, z1, z2, z3, z4]) rfl ⟨_, _, _, _, rfl, o12, o13, hne, bb10⟩

set_option maxRecDepth 100000 in
set_option maxHeartbeats 8000000 in
theorem emitTick_full (c : Cfg) (s r f : Int) (a : Option Addr) (n cap : Nat) (h : errE c s r f n = 0) (hf : f = mostC c) (R C : Int) (hR : (r + 1) % 256 = R) (hCq : min c.cBatch (mostC c - 0) = C) (F' C' : Nat) (hF' : (0 : Int) = (F' : Int)) (hC' : C = (C' : Int)) (zs : List Int) (hn : zs.length = n) (bz : ∀ z ∈ zs, 0 ≤ z ∧ z ≤ 255) (hfc : F' + C' ≤ 32 * n) (hRD : RightD s R (F' : Int) (codeL zs F' C')) (w : World) (hF : Firsts w) (ha : Holds .u8 w.heap.size w (.slice a n cap) zs) :
    Calls Tryd.prog 20 #[.agg #[.int .i64 c.cB, .int .i64 c.cBeam, .int .i64 c.cDepth, .int .i64 c.cWin, .int .i64 c.cQs, .int .i64 c.cQr, .int .i64 c.cBatch, .int .i64 c.cPass, .int .i64 c.cMsg, .int .i64 c.cSeqs], .agg #[.int .i64 s, .int .i64 r, .int .i64 f, .bool false, .slice a n cap]] w fun e W' => ∃ ra rc qa qc, e = .returned (.tuple #[.agg #[.int .i64 s, .int .i64 R, .int .i64 C, .bool false, .slice ra n rc], .slice qa (C' + 11) qc, .int .i64 0]) ∧ W'.ownsRow w.heap.size 5 1 (.slice ra n rc) n ((zs).map (Value.int .u8)) ∧ W'.ownsRow w.heap.size 5 1 ((.slice qa (C' + 11) qc)) (C' + 11) ((packD s R (F' : Int) (codeL zs F' C')).map (Value.int .u8)) ∧ (∀ g, (Value.slice ra n rc).ownBlock = some g → (Value.slice qa (C' + 11) qc).ownBlock ≠ some g) ∧ Below w.heap.size w W' := by
  obtain ⟨hC, hE⟩ := errE_zero.1 h
  obtain ⟨hnc, hsb, hrb, hfb⟩ := (okE_iff _ _ _ _ _).1 hE
  have hcb := ((okC_iff c).1 hC).1
  have hbb := ((okC_iff c).1 hC).2.2.2.2.2.2.1
  have hl : n ≤ 4096 := by omega
  have hmb := mostC_bd hC
  have HP : Hid (∀ (wx : World) (ra : Option Addr) (rc : Nat), Firsts wx → Holds .u8 wx.heap.size wx (.slice ra n rc) zs → Calls Tryd.prog 44 #[.agg #[.int .i64 s, .int .i64 R, .int .i64 0, .bool false, .slice ra n rc], .int .i64 C] wx fun e W' => ∃ q, e = .returned (.tuple #[q, .int .i64 0]) ∧ W'.ownsRow wx.heap.size 5 1 q (C' + 11) ((packD s R (F' : Int) (codeL zs F' C')).map (Value.int .u8)) ∧ Below wx.heap.size wx W') := fun wx ra rc hf hh => by
    have e0 : F' = 0 := by omega
    subst e0; rw [hC']
    exact packetOf_ok s R false ra n rc zs hn (by omega) (by omega) bz 0 C' hfc hRD wx hf hh
  have HM : Hid (∀ wx : World, Calls Tryd.prog 43 #[.agg #[.int .i64 c.cB, .int .i64 c.cBeam, .int .i64 c.cDepth, .int .i64 c.cWin, .int .i64 c.cQs, .int .i64 c.cQr, .int .i64 c.cBatch, .int .i64 c.cPass, .int .i64 c.cMsg, .int .i64 c.cSeqs]] wx fun e w' => e = .returned (.int .i64 (mostC c)) ∧ Below wx.heap.size wx w') := fun wx => by
    have := ConfMost_any c wx
    unfold mostA at this
    rw [if_pos hC] at this
    exact this
  have HF : Hid (Firsts w) := hF
  have b1 := (((Below.refl w.heap.size w).alloc (Nat.le_refl _) (.cells #[.int .i64 c.cB, .int .i64 c.cBeam, .int .i64 c.cDepth, .int .i64 c.cWin, .int .i64 c.cQs, .int .i64 c.cQr, .int .i64 c.cBatch, .int .i64 c.cPass, .int .i64 c.cMsg, .int .i64 c.cSeqs] 23)).alloc (by simp) (.cells #[.int .i64 s, .int .i64 r, .int .i64 f, .bool false, .slice a n cap] 47)).alloc (by simp; omega) (.cells #[.int .i64 0, .int .i64 0, .int .i64 0, .bool false, .slice none 0 0] 47)
  have xC := ((Box.new w 23 #[.int .i64 c.cB, .int .i64 c.cBeam, .int .i64 c.cDepth, .int .i64 c.cWin, .int .i64 c.cQs, .int .i64 c.cQr, .int .i64 c.cBatch, .int .i64 c.cPass, .int .i64 c.cMsg, .int .i64 c.cSeqs]).alloc (.cells #[.int .i64 s, .int .i64 r, .int .i64 f, .bool false, .slice a n cap] 47)).alloc (.cells #[.int .i64 0, .int .i64 0, .int .i64 0, .bool false, .slice none 0 0] 47)
  have xA := (Box.new (w.alloc (.cells #[.int .i64 c.cB, .int .i64 c.cBeam, .int .i64 c.cDepth, .int .i64 c.cWin, .int .i64 c.cQs, .int .i64 c.cQr, .int .i64 c.cBatch, .int .i64 c.cPass, .int .i64 c.cMsg, .int .i64 c.cSeqs] 23)) 47 #[.int .i64 s, .int .i64 r, .int .i64 f, .bool false, .slice a n cap]).alloc (.cells #[.int .i64 0, .int .i64 0, .int .i64 0, .bool false, .slice none 0 0] 47)
  have xB := Box.new ((w.alloc (.cells #[.int .i64 c.cB, .int .i64 c.cBeam, .int .i64 c.cDepth, .int .i64 c.cWin, .int .i64 c.cQs, .int .i64 c.cQr, .int .i64 c.cBatch, .int .i64 c.cPass, .int .i64 c.cMsg, .int .i64 c.cSeqs] 23)).alloc (.cells #[.int .i64 s, .int .i64 r, .int .i64 f, .bool false, .slice a n cap] 47)) 47 #[.int .i64 0, .int .i64 0, .int .i64 0, .bool false, .slice none 0 0]
  rw [show (w.alloc (.cells #[.int .i64 c.cB, .int .i64 c.cBeam, .int .i64 c.cDepth, .int .i64 c.cWin, .int .i64 c.cQs, .int .i64 c.cQr, .int .i64 c.cBatch, .int .i64 c.cPass, .int .i64 c.cMsg, .int .i64 c.cSeqs] 23)).heap.size = w.heap.size + 1 by simp] at xA
  rw [show ((w.alloc (.cells #[.int .i64 c.cB, .int .i64 c.cBeam, .int .i64 c.cDepth, .int .i64 c.cWin, .int .i64 c.cQs, .int .i64 c.cQr, .int .i64 c.cBatch, .int .i64 c.cPass, .int .i64 c.cMsg, .int .i64 c.cSeqs] 23)).alloc (.cells #[.int .i64 s, .int .i64 r, .int .i64 f, .bool false, .slice a n cap] 47)).heap.size = w.heap.size + 2 by simp] at xB
  have HK := EmitCheck_any c s r f false a n cap hl (((w.alloc (.cells #[.int .i64 c.cB, .int .i64 c.cBeam, .int .i64 c.cDepth, .int .i64 c.cWin, .int .i64 c.cQs, .int .i64 c.cQr, .int .i64 c.cBatch, .int .i64 c.cPass, .int .i64 c.cMsg, .int .i64 c.cSeqs] 23)).alloc (.cells #[.int .i64 s, .int .i64 r, .int .i64 f, .bool false, .slice a n cap] 47)).alloc (.cells #[.int .i64 0, .int .i64 0, .int .i64 0, .bool false, .slice none 0 0] 47))
  rw [h] at HK
  have HA : Hid (Holds .u8 _ (((w.alloc (.cells #[.int .i64 c.cB, .int .i64 c.cBeam, .int .i64 c.cDepth, .int .i64 c.cWin, .int .i64 c.cQs, .int .i64 c.cQr, .int .i64 c.cBatch, .int .i64 c.cPass, .int .i64 c.cMsg, .int .i64 c.cSeqs] 23)).alloc (.cells #[.int .i64 s, .int .i64 r, .int .i64 f, .bool false, .slice a n cap] 47)).alloc (.cells #[.int .i64 0, .int .i64 0, .int .i64 0, .bool false, .slice none 0 0] 47)) (.slice a n cap) zs) := ha.next b1
  have HN : Hid (zs.length = n) := hn
  have hs3 : w.heap.size + 3 ≤ (((w.alloc (.cells #[.int .i64 c.cB, .int .i64 c.cBeam, .int .i64 c.cDepth, .int .i64 c.cWin, .int .i64 c.cQs, .int .i64 c.cQr, .int .i64 c.cBatch, .int .i64 c.cPass, .int .i64 c.cMsg, .int .i64 c.cSeqs] 23)).alloc (.cells #[.int .i64 s, .int .i64 r, .int .i64 f, .bool false, .slice a n cap] 47)).alloc (.cells #[.int .i64 0, .int .i64 0, .int .i64 0, .bool false, .slice none 0 0] 47)).heap.size := by simp
  generalize codeL zs F' C' = X at *
  generalize mostC c = M at *
  have q0 : (f == M) = true := by rw [beq_iff_eq]; exact hf
  have q1 : IntKind.i64.wrap (r + 1) = r + 1 := by rw [IntKind.wrap_i64]; omega
  have q2 : (r + 1).tmod 256 = R := by rw [Int.tmod_eq_emod_of_nonneg (by omega)]; exact hR
  have q3 : IntKind.i64.wrap R = R := by rw [IntKind.wrap_i64]; omega
  have q4 : IntKind.i64.wrap M = M := by rw [IntKind.wrap_i64]; omega
  have q5 : min c.cBatch M = C := by rw [← hCq, Int.sub_zero]
  have q6 : IntKind.i64.wrap C = C := by rw [IntKind.wrap_i64]; omega
  clear h hn ha hC hE hnc hsb hrb hfb hcb hbb hmb bz hF hCq hF' hC' hfc hRD hf hR
  go_enter Tryd.func20, Tryd.ntmps20
  go_wp2_with fail
  refine HK.mono ?_
  rintro e w2 ⟨rfl, b2⟩
  have HC := apart_ok s r f false a n cap zs HN.out hl w2 (HA.out.next b2)
  have yC := xC.next b2
  have yA := xA.next b2
  have yB := xB.next b2
  have k0 := yA.cell 0 _ rfl
  have k1 := yA.cell 1 _ rfl
  have k2 := yA.cell 2 _ rfl
  have k3 := yA.cell 3 _ rfl
  have k4 := yA.cell 4 _ rfl
  have b3 := b1.trans (b2.mono b1.size)
  have hs4 : w.heap.size + 3 ≤ w2.heap.size := Nat.le_trans hs3 b2.size
  clear HA hs3 xC xA xB yA b1 b2 HK hl
  go_wp2_with fail
  refine HC.mono ?_
  rintro e w4 ⟨ra, rc, rfl, o4, b4⟩
  have vC := (yC.next b4).other5e (D := w.heap.size + 2) (by omega) (.int .i64 s) (.int .i64 r) (.int .i64 f) (.bool false) (.slice ra n rc)
  have vB := yB.next b4
  have z0 := vB.cell 0 _ rfl
  have z1 := vB.cell 1 _ rfl
  have z2 := vB.cell 2 _ rfl
  have z3 := vB.cell 3 _ rfl
  have z4 := vB.cell 4 _ rfl
  have g0 := vB.free 0
  have g1 := vB.free 1
  have g2 := vB.free 2
  have g3 := vB.free 3
  have g4 := vB.free 4
  have vN := vB.set5e (.int .i64 s) (.int .i64 r) (.int .i64 f) (.bool false) (.slice ra n rc)
  have b5 := below_set5e (b3.trans (b4.mono b3.size)) (D := w.heap.size + 2) (by omega) (.int .i64 s) (.int .i64 r) (.int .i64 f) (.bool false) (.slice ra n rc)
  have o5 := row_set5e o4 (D := w.heap.size + 2) (by omega) (.int .i64 s) (.int .i64 r) (.int .i64 f) (.bool false) (.slice ra n rc)
  have hs5 : w.heap.size + 3 ≤ w4.heap.size := Nat.le_trans hs4 b4.size
  clear HC o4 b4 b3 yC yB vB k0 k1 k2 k3 k4
  go_upto_region 5 with fail
  obtain ⟨W4, hW4⟩ : ∃ W, ((((w4.setCell ⟨w.heap.size + 2, 0, none⟩ (.int .i64 s)).setCell ⟨w.heap.size + 2, 1, none⟩ (.int .i64 r)).setCell ⟨w.heap.size + 2, 2, none⟩ (.int .i64 f)).setCell ⟨w.heap.size + 2, 3, none⟩ (.bool false)).setCell ⟨w.heap.size + 2, 4, none⟩ (.slice ra n rc) = W := ⟨_, rfl⟩
  have hz4 : w4.heap.size = W4.heap.size := by rw [← hW4]; simp
  rw [hW4] at vC vN b5 o5 ⊢
  rw [hz4] at hs5
  clear hW4 hz4 z0 z1 z2 z3 z4 g0 g1 g2 g3 g4
  have z0 := vN.cell 0 _ rfl
  have z1 := vN.cell 1 _ rfl
  have z2 := vN.cell 2 _ rfl
  have z3 := vN.cell 3 _ rfl
  have z4 := vN.cell 4 _ rfl
  have k0 := vC.cell 0 _ rfl
  have k1 := vC.cell 1 _ rfl
  have k2 := vC.cell 2 _ rfl
  have k3 := vC.cell 3 _ rfl
  have k4 := vC.cell 4 _ rfl
  have k5 := vC.cell 5 _ rfl
  have k6 := vC.cell 6 _ rfl
  have k7 := vC.cell 7 _ rfl
  have k8 := vC.cell 8 _ rfl
  have k9 := vC.cell 9 _ rfl
  go_upto_region 7 with fail
  go_wp2_with fail
  refine (HM.out _).mono ?_
  rintro e w5 ⟨rfl, b6⟩
  have uC := vC.next b6
  have uN := vN.next b6
  have o6 := row_below o5 b6 (Nat.le_refl _)
  have bb6 := b5.trans (b6.mono b5.size)
  have hs6 : w.heap.size + 3 ≤ w5.heap.size := Nat.le_trans hs5 b6.size
  clear z0 z1 z2 z3 z4 k0 k1 k2 k3 k4 k5 k6 k7 k8 k9 vC vN o5 b5 b6 hs5 HM
  have z0 := uN.cell 0 _ rfl
  have z1 := uN.cell 1 _ rfl
  have z2 := uN.cell 2 _ rfl
  have z3 := uN.cell 3 _ rfl
  have z4 := uN.cell 4 _ rfl
  have g0 := uN.free 0
  have g1 := uN.free 1
  have g2 := uN.free 2
  have g3 := uN.free 3
  have g4 := uN.free 4
  have k6 := uC.cell 6 _ rfl
  go_upto_region 10 with fail
  obtain ⟨W6, hW6⟩ : ∃ W, (w5.setCell ⟨w.heap.size + 2, 1, none⟩ (.int .i64 R)).setCell ⟨w.heap.size + 2, 2, none⟩ (.int .i64 0) = W := ⟨_, rfl⟩
  have hz6 : w5.heap.size = W6.heap.size := by rw [← hW6]; simp
  have tC := (uC.other (p := ⟨w.heap.size + 2, 1, none⟩) (by simp) (.int .i64 R)).other (p := ⟨w.heap.size + 2, 2, none⟩) (by simp) (.int .i64 0)
  have tN := (uN.set 1 (.int .i64 R)).set 2 (.int .i64 0)
  have o7 := ownsRow_setCell_below (ownsRow_setCell_below o6 (a := ⟨w.heap.size + 2, 1, none⟩) (by simp only; omega) (.int .i64 R)) (a := ⟨w.heap.size + 2, 2, none⟩) (by simp only; omega) (.int .i64 0)
  have bb7 := (bb6.setCell (p := ⟨w.heap.size + 2, 1, none⟩) (by simp only; omega) (.int .i64 R)).setCell (p := ⟨w.heap.size + 2, 2, none⟩) (by simp only; omega) (.int .i64 0)
  rw [hW6] at tC tN o7 bb7 ⊢
  rw [hz6] at hs6
  clear hW6 hz6 z0 z1 z2 z3 z4 g0 g1 g2 g3 g4 k6 uC uN o6 bb6
  have z0 := tN.cell 0 _ rfl
  have z1 := tN.cell 1 _ rfl
  have z2 := tN.cell 2 _ rfl
  have z3 := tN.cell 3 _ rfl
  have z4 := tN.cell 4 _ rfl
  have k6 := tC.cell 6 _ rfl
  go_wp2_with fail
  refine (HP.out _ _ _ (HF.out.next bb7) (holds_of_row o7)).mono ?_
  rintro e w7 ⟨v7, rfl, o8, b8⟩
  obtain ⟨qa, qc, rfl⟩ := row_shapeE o8
  have sN := tN.next b8
  have o9 := row_below o7 b8 (Nat.le_refl _)
  have bb8 := bb7.trans (b8.mono bb7.size)
  have hs8 : w.heap.size + 3 ≤ w7.heap.size := Nat.le_trans hs6 b8.size
  have hne : ∀ g, (Value.slice ra n rc).ownBlock = some g → (Value.slice qa (C' + 11) qc).ownBlock ≠ some g := fun g hg hg' => by
    have e1 := (o7.lt _ hg).2
    have e2 := (o8.lt _ hg').1
    omega
  clear z0 z1 z2 z3 z4 k6 tN o7 bb7 b8 tC
  have z0 := sN.cell 0 _ rfl
  have z1 := sN.cell 1 _ rfl
  have z2 := sN.cell 2 _ rfl
  have z3 := sN.cell 3 _ rfl
  have z4 := sN.cell 4 _ rfl
  have g0 := sN.free 0
  have g1 := sN.free 1
  have g2 := sN.free 2
  have g3 := sN.free 3
  have g4 := sN.free 4
  go_upto_region 15 with fail
  obtain ⟨W8, hW8⟩ : ∃ W, w7.setCell ⟨w.heap.size + 2, 2, none⟩ (.int .i64 C) = W := ⟨_, rfl⟩
  have pN := sN.set 2 (.int .i64 C)
  have o10 := ownsRow_setCell_below o9 (a := ⟨w.heap.size + 2, 2, none⟩) (by simp only; omega) (.int .i64 C)
  have o11 := ownsRow_setCell_below o8 (a := ⟨w.heap.size + 2, 2, none⟩) (by simp only; omega) (.int .i64 C)
  have bb9 := bb8.setCell (p := ⟨w.heap.size + 2, 2, none⟩) (by simp only; omega) (.int .i64 C)
  rw [hW8] at pN o10 o11 bb9 ⊢
  clear hW8 z0 z1 z2 z3 z4 g0 g1 g2 g3 g4 sN o8 o9 bb8
  have z0 := pN.cell 0 _ rfl
  have z1 := pN.cell 1 _ rfl
  have z2 := pN.cell 2 _ rfl
  have z3 := pN.cell 3 _ rfl
  have z4 := pN.cell 4 _ rfl
  have g0 := pN.free 0
  have g1 := pN.free 1
  have g2 := pN.free 2
  have g3 := pN.free 3
  have g4 := pN.free 4
  have bb10 := below_set5e bb9 (D := w.heap.size + 2) (by omega) (.int .i64 s) (.int .i64 R) (.int .i64 C) (.bool false) (.slice ra n rc)
  have o12 := row_base (row_set5e o10 (D := w.heap.size + 2) (by omega) (.int .i64 s) (.int .i64 R) (.int .i64 C) (.bool false) (.slice ra n rc)) (show w.heap.size ≤ _ by omega)
  have o13 := row_base (row_set5e o11 (D := w.heap.size + 2) (by omega) (.int .i64 s) (.int .i64 R) (.int .i64 C) (.bool false) (.slice ra n rc)) (show w.heap.size ≤ _ by omega)
  clear pN o10 o11 bb9
  go_wp2
  exact bodyPost_ret (v := .tuple #[.agg #[.int .i64 s, .int .i64 R, .int .i64 C, .bool false, .slice ra n rc], .slice qa (C' + 11) qc, .int .i64 0]) (by simp [results, Tryd.results20, go_sem, z0, z1, z2, z3, z4]) rfl ⟨_, _, _, _, rfl, o12, o13, hne, bb10⟩

theorem EmitTick_go (c : Cfg) (s r f : Int) (a : Option Addr) (n cap : Nat) (h : errE c s r f n = 0) (zs : List Int) (hn : zs.length = n) (bz : ∀ z ∈ zs, 0 ≤ z ∧ z ≤ 255) (w : World) (hF : Firsts w) (ha : Holds .u8 w.heap.size w (.slice a n cap) zs) :
    Calls Tryd.prog 20 #[.agg #[.int .i64 c.cB, .int .i64 c.cBeam, .int .i64 c.cDepth, .int .i64 c.cWin, .int .i64 c.cQs, .int .i64 c.cQr, .int .i64 c.cBatch, .int .i64 c.cPass, .int .i64 c.cMsg, .int .i64 c.cSeqs], .agg #[.int .i64 s, .int .i64 r, .int .i64 f, .bool false, .slice a n cap]] w fun e W' => ∃ ra rc qa qc, e = .returned (.tuple #[.agg #[.int .i64 s, .int .i64 (emR c r f), .int .i64 (emF c f + emN c f), .bool false, .slice ra n rc], .slice qa ((emN c f).toNat + 11) qc, .int .i64 0]) ∧ W'.ownsRow w.heap.size 5 1 (.slice ra n rc) n ((zs).map (Value.int .u8)) ∧ W'.ownsRow w.heap.size 5 1 (.slice qa ((emN c f).toNat + 11) qc) ((emN c f).toNat + 11) ((emP c s r f zs).map (Value.int .u8)) ∧ (∀ g, (Value.slice ra n rc).ownBlock = some g → (Value.slice qa ((emN c f).toNat + 11) qc).ownBlock ≠ some g) ∧ Below w.heap.size w W' := by
  obtain ⟨hC, hE⟩ := errE_zero.1 h
  obtain ⟨hnc, hsb, hrb, hfb⟩ := (okE_iff _ _ _ _ _).1 hE
  have hfF := emF_bd hC hfb.1 hfb.2
  have hfN := emN_bd hC hfb.1 hfb.2
  have hmle := mostC_le hC hnc
  have hRD := em_right hC (zs := zs) (hn ▸ hE)
  unfold emP
  unfold emX at hRD ⊢
  obtain ⟨C, hCq⟩ : ∃ C, emN c f = C := ⟨_, rfl⟩
  obtain ⟨C', hC'⟩ : ∃ C' : Nat, C = (C' : Int) := ⟨C.toNat, by omega⟩
  have hU : C.toNat = C' := by omega
  have hCm : min c.cBatch (mostC c - emF c f) = C := hCq
  rw [hCq, hU] at hRD ⊢
  rw [hCq] at hfN
  by_cases hf : f = mostC c
  · have e1 : emF c f = 0 := if_pos hf
    have e2 : emR c r f = (r + 1) % 256 := if_pos hf
    rw [e1] at hfN hRD hCm ⊢
    rw [e2] at hRD ⊢
    have := emitTick_full c s r f a n cap h hf ((r + 1) % 256) C rfl hCm 0 C' rfl hC' zs hn bz (by omega) hRD w hF ha
    rw [Int.zero_add]
    exact this
  · have e1 : emF c f = f := if_neg hf
    have e2 : emR c r f = r := if_neg hf
    rw [e1] at hfN hRD hCm ⊢
    rw [e2] at hRD ⊢
    obtain ⟨F', hF'⟩ : ∃ F' : Nat, f = (F' : Int) := ⟨f.toNat, by omega⟩
    have hT : f.toNat = F' := by omega
    rw [hT] at hRD ⊢
    have hRD' : RightD s r (F' : Int) (codeL zs F' C') := hF' ▸ hRD
    have := emitTick_on c s r f a n cap h hf C hCm F' C' hF' hC' zs hn bz (by omega) hRD' w hF ha
    rw [show packD s r f (codeL zs F' C') = packD s r (F' : Int) (codeL zs F' C') by rw [← hF']]
    exact this

end Go.Proofs.YtmjidhnlofpliaaDoor
