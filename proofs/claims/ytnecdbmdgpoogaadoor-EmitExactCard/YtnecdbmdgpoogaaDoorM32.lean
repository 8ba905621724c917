/-
  EmitExact: the walk: whatever the configuration and the block, the law answers true, and nothing that lay has turned. (Written by tpl_emitexact.py.)
-/
import Derived.Test.YtnecdbmdgpoogaaDoorM07
import Derived.Test.YtnecdbmdgpoogaaDoorM31
namespace Go.Proofs.YtnecdbmdgpoogaaDoor
open Go.RowKit

theorem holds_nilE (n₀ : Nat) (w : World) : Holds .u8 n₀ w (.slice none 0 0) [] := .inl ⟨⟨_, _, rfl, fun _ => rfl⟩, rfl⟩

set_option maxRecDepth 100000 in
set_option maxHeartbeats 8000000 in
theorem emitExact_c (c : Cfg) (s r f : Int) (k : Bool) (a : Option Addr) (n cap : Nat) (xs : List Int) (hn : xs.length = n) (hl : n ≤ 100) (bx : ∀ z ∈ xs, 0 ≤ z ∧ z ≤ 255) (hC : okC c = false) (w : World) (hF : Firsts w) (ha : Holds .u8 w.heap.size w (.slice a n cap) xs) :
    Calls Tryd.prog 3 #[.agg #[.int .i64 c.cB, .int .i64 c.cBeam, .int .i64 c.cDepth, .int .i64 c.cWin, .int .i64 c.cQs, .int .i64 c.cQr, .int .i64 c.cBatch, .int .i64 c.cPass, .int .i64 c.cMsg, .int .i64 c.cSeqs], .agg #[.int .i64 s, .int .i64 r, .int .i64 f, .bool k, .slice a n cap]] w fun e w' => e = .returned (.bool true) ∧ Below w.heap.size w w' := by
  have HN : Hid (xs.length = n) := hn
  have HBX : Hid (∀ z ∈ xs, 0 ≤ z ∧ z ≤ 255) := bx
  have dl : decide (100 < (n : Int)) = false := decide_eq_false (by omega)
  have dl' : decide (100 < n) = false := decide_eq_false (by omega)
  have HXL : Hid (xs.length ≤ 4294967296) := by show xs.length ≤ _; omega
  have HXM : Hid (xs.length ≤ 4611686018427387904) := by show xs.length ≤ _; omega
  have hl96 : n ≤ 4096 := by omega
  have HE1 : Hid (errE c s 0 0 n ≠ 0) := fun h => by have := errE_zero.1 h; simp_all
  have HE2 : Hid (errE c s r f n = 1) := errE_one (fun h => by simp_all)
  have HC : Hid (okC c = false) := hC
  clear bx hn hC
  have HA : Hid (Holds .u8 w.heap.size w (.slice a n cap) xs) := ha
  have HF0 : Hid (Firsts w) := hF
  have bb := (((Below.refl w.heap.size w).alloc (Nat.le_refl _) (.cells #[.int .i64 c.cB, .int .i64 c.cBeam, .int .i64 c.cDepth, .int .i64 c.cWin, .int .i64 c.cQs, .int .i64 c.cQr, .int .i64 c.cBatch, .int .i64 c.cPass, .int .i64 c.cMsg, .int .i64 c.cSeqs] 23)).alloc (by simp) (.cells #[.int .i64 s, .int .i64 r, .int .i64 f, .bool k, .slice a n cap] 26)).alloc (by simp; omega) (.cells #[.int .i64 s, .int .i64 r, .int .i64 f, .bool k, .slice a n cap] 26)
  have xc := ((Box.new w 23 #[.int .i64 c.cB, .int .i64 c.cBeam, .int .i64 c.cDepth, .int .i64 c.cWin, .int .i64 c.cQs, .int .i64 c.cQr, .int .i64 c.cBatch, .int .i64 c.cPass, .int .i64 c.cMsg, .int .i64 c.cSeqs]).alloc (.cells #[.int .i64 s, .int .i64 r, .int .i64 f, .bool k, .slice a n cap] 26)).alloc (.cells #[.int .i64 s, .int .i64 r, .int .i64 f, .bool k, .slice a n cap] 26)
  have xx := (Box.new (w.alloc (.cells #[.int .i64 c.cB, .int .i64 c.cBeam, .int .i64 c.cDepth, .int .i64 c.cWin, .int .i64 c.cQs, .int .i64 c.cQr, .int .i64 c.cBatch, .int .i64 c.cPass, .int .i64 c.cMsg, .int .i64 c.cSeqs] 23)) 26 #[.int .i64 s, .int .i64 r, .int .i64 f, .bool k, .slice a n cap]).alloc (.cells #[.int .i64 s, .int .i64 r, .int .i64 f, .bool k, .slice a n cap] 26)
  have xi := Box.new ((w.alloc (.cells #[.int .i64 c.cB, .int .i64 c.cBeam, .int .i64 c.cDepth, .int .i64 c.cWin, .int .i64 c.cQs, .int .i64 c.cQr, .int .i64 c.cBatch, .int .i64 c.cPass, .int .i64 c.cMsg, .int .i64 c.cSeqs] 23)).alloc (.cells #[.int .i64 s, .int .i64 r, .int .i64 f, .bool k, .slice a n cap] 26)) 26 #[.int .i64 s, .int .i64 r, .int .i64 f, .bool k, .slice a n cap]
  rw [show (w.alloc (.cells #[.int .i64 c.cB, .int .i64 c.cBeam, .int .i64 c.cDepth, .int .i64 c.cWin, .int .i64 c.cQs, .int .i64 c.cQr, .int .i64 c.cBatch, .int .i64 c.cPass, .int .i64 c.cMsg, .int .i64 c.cSeqs] 23)).heap.size = w.heap.size + 1 by simp] at xx
  rw [show ((w.alloc (.cells #[.int .i64 c.cB, .int .i64 c.cBeam, .int .i64 c.cDepth, .int .i64 c.cWin, .int .i64 c.cQs, .int .i64 c.cQr, .int .i64 c.cBatch, .int .i64 c.cPass, .int .i64 c.cMsg, .int .i64 c.cSeqs] 23)).alloc (.cells #[.int .i64 s, .int .i64 r, .int .i64 f, .bool k, .slice a n cap] 26)).heap.size = w.heap.size + 1 + 1 by simp] at xi
  clear ha hF
  go_enter Tryd.func3, Tryd.ntmps3
  go_wp2_with fail
  obtain ⟨w1, hw1⟩ : ∃ W, ((w.alloc (.cells #[.int .i64 c.cB, .int .i64 c.cBeam, .int .i64 c.cDepth, .int .i64 c.cWin, .int .i64 c.cQs, .int .i64 c.cQr, .int .i64 c.cBatch, .int .i64 c.cPass, .int .i64 c.cMsg, .int .i64 c.cSeqs] 23)).alloc (.cells #[.int .i64 s, .int .i64 r, .int .i64 f, .bool k, .slice a n cap] 26)).alloc (.cells #[.int .i64 s, .int .i64 r, .int .i64 f, .bool k, .slice a n cap] 26) = W := ⟨_, rfl⟩
  have hs1 : w1.heap.size = w.heap.size + 1 + 1 + 1 := by rw [← hw1]; simp
  rw [hw1] at bb xc xx xi ⊢
  clear hw1
  have HT := twin_any (.slice a n cap) xs _ HXL.out w1 (HA.out.below bb)
  rw [HN.out] at HT
  refine HT.mono ?_
  rintro e w2 ⟨rv, rfl, o2, b2⟩
  obtain ⟨ra, rc, rfl⟩ := row_shapeP o2
  clear HT
  replace xc := xc.next b2
  replace xx := xx.next b2
  replace xi := xi.next b2
  replace bb := bb.trans (b2.mono bb.size)
  clear b2
  have cxi0 := xi.cell 0 _ rfl
  have cxi1 := xi.cell 1 _ rfl
  have cxi2 := xi.cell 2 _ rfl
  have cxi3 := xi.cell 3 _ rfl
  have cxi4 := xi.cell 4 _ rfl
  have cxc0 := xc.cell 0 _ rfl
  have cxc1 := xc.cell 1 _ rfl
  have cxc2 := xc.cell 2 _ rfl
  have cxc3 := xc.cell 3 _ rfl
  have cxc4 := xc.cell 4 _ rfl
  have cxc5 := xc.cell 5 _ rfl
  have cxc6 := xc.cell 6 _ rfl
  have cxc7 := xc.cell 7 _ rfl
  have cxc8 := xc.cell 8 _ rfl
  have cxc9 := xc.cell 9 _ rfl
  have cxx0 := xx.cell 0 _ rfl
  have cxx1 := xx.cell 1 _ rfl
  have cxx2 := xx.cell 2 _ rfl
  have cxx3 := xx.cell 3 _ rfl
  have cxx4 := xx.cell 4 _ rfl
  have fxi4 := xi.free 4
  have lxi := xi.lt
  have lxc := xc.lt
  have lxx := xx.lt
  go_wp2_with fail
  clear cxi0 cxi1 cxi2 cxi3 cxi4
  clear cxc0 cxc1 cxc2 cxc3 cxc4 cxc5 cxc6 cxc7 cxc8 cxc9
  clear cxx0 cxx1 cxx2 cxx3 cxx4
  obtain ⟨w3, hw3⟩ : ∃ W, w2.setCell ⟨w.heap.size + 1 + 1, 4, none⟩ (.slice ra n rc) = W := ⟨_, rfl⟩
  replace xc : Box w3 w.heap.size 23 #[.int .i64 c.cB, .int .i64 c.cBeam, .int .i64 c.cDepth, .int .i64 c.cWin, .int .i64 c.cQs, .int .i64 c.cQr, .int .i64 c.cBatch, .int .i64 c.cPass, .int .i64 c.cMsg, .int .i64 c.cSeqs] := hw3 ▸ xc.other (by show w.heap.size ≠ w.heap.size + 1 + 1; omega) _
  replace xx : Box w3 (w.heap.size + 1) 26 #[.int .i64 s, .int .i64 r, .int .i64 f, .bool k, .slice a n cap] := hw3 ▸ xx.other (by show w.heap.size + 1 ≠ w.heap.size + 1 + 1; omega) _
  replace xi : Box w3 (w.heap.size + 1 + 1) 26 #[.int .i64 s, .int .i64 r, .int .i64 f, .bool k, .slice ra n rc] := hw3 ▸ xi.set 4 (.slice ra n rc)
  replace bb : Below w.heap.size w w3 := hw3 ▸ bb.setCell (p := ⟨w.heap.size + 1 + 1, 4, none⟩) (by show w.heap.size ≤ w.heap.size + 1 + 1; omega) _
  have o3 : w3.ownsRow (w.heap.size + 3) 5 1 (.slice ra n rc) n (xs.map (Value.int .u8)) := by
    rw [← hw3]
    exact row_base (ownsRow_setCell_below o2 (a := ⟨w.heap.size + 1 + 1, 4, none⟩) (by show w.heap.size + 1 + 1 < _; omega) _) (by omega)
  have hi := holds_of_row o3
  have ha := (HA.out.below bb).mono bb.size
  have hF := HF0.out.next bb
  rw [hw3]
  clear hw3 o2 o3 fxi4 lxi lxc lxx hs1
  have HC1 := EmitNew_no c s ra n rc HE1.out xs HN.out hl96 w3 hi
  refine HC1.mono ?_
  rintro e w4 ⟨rfl, b9⟩
  clear HC1
  replace xc := xc.next b9
  replace xx := xx.next b9
  replace xi := xi.next b9
  replace hi := hi.next b9
  replace ha := ha.next b9
  replace hF := hF.next b9
  replace bb := bb.trans (b9.mono bb.size)
  clear b9
  have b9 : Below w4.heap.size w4 (w4.alloc (.cells #[.int .i64 0, .int .i64 0, .int .i64 0, .bool false, .slice none 0 0] 26)) := (Below.refl _ _).alloc (Nat.le_refl _) _
  have xn := Box.new w4 26 #[.int .i64 0, .int .i64 0, .int .i64 0, .bool false, .slice none 0 0]
  replace xc := xc.next b9
  replace xx := xx.next b9
  replace xi := xi.next b9
  replace hi := hi.next b9
  replace ha := ha.next b9
  replace hF := hF.next b9
  replace bb := bb.trans (b9.mono bb.size)
  clear b9
  have HC1 := EmitCheck_any c s r f k ra n rc hl96 (w4.alloc (.cells #[.int .i64 0, .int .i64 0, .int .i64 0, .bool false, .slice none 0 0] 26))
  rw [HE2.out] at HC1
  have cxc0 := xc.cell 0 _ rfl
  have cxc1 := xc.cell 1 _ rfl
  have cxc2 := xc.cell 2 _ rfl
  have cxc3 := xc.cell 3 _ rfl
  have cxc4 := xc.cell 4 _ rfl
  have cxc5 := xc.cell 5 _ rfl
  have cxc6 := xc.cell 6 _ rfl
  have cxc7 := xc.cell 7 _ rfl
  have cxc8 := xc.cell 8 _ rfl
  have cxc9 := xc.cell 9 _ rfl
  have cxi0 := xi.cell 0 _ rfl
  have cxi1 := xi.cell 1 _ rfl
  have cxi2 := xi.cell 2 _ rfl
  have cxi3 := xi.cell 3 _ rfl
  have cxi4 := xi.cell 4 _ rfl
  go_wp2_with fail
  refine (HC1).mono ?_
  rintro e w5 ⟨rfl, b9⟩
  clear cxc0 cxc1 cxc2 cxc3 cxc4 cxc5 cxc6 cxc7 cxc8 cxc9
  clear cxi0 cxi1 cxi2 cxi3 cxi4
  replace xc := xc.next b9
  replace xx := xx.next b9
  replace xi := xi.next b9
  replace hi := hi.next b9
  replace ha := ha.next b9
  replace hF := hF.next b9
  replace xn := xn.next b9
  replace bb := bb.trans (b9.mono bb.size)
  clear b9
  clear HC1
  have HC1 := EmitTick_no c s r f k ra n rc (by rw [HE2.out]; decide) xs HN.out hl96 w5 hi
  have cxc0 := xc.cell 0 _ rfl
  have cxc1 := xc.cell 1 _ rfl
  have cxc2 := xc.cell 2 _ rfl
  have cxc3 := xc.cell 3 _ rfl
  have cxc4 := xc.cell 4 _ rfl
  have cxc5 := xc.cell 5 _ rfl
  have cxc6 := xc.cell 6 _ rfl
  have cxc7 := xc.cell 7 _ rfl
  have cxc8 := xc.cell 8 _ rfl
  have cxc9 := xc.cell 9 _ rfl
  have cxi0 := xi.cell 0 _ rfl
  have cxi1 := xi.cell 1 _ rfl
  have cxi2 := xi.cell 2 _ rfl
  have cxi3 := xi.cell 3 _ rfl
  have cxi4 := xi.cell 4 _ rfl
  go_wp2_with fail
  refine (HC1).mono ?_
  rintro e w6 ⟨rfl, b9⟩
  clear cxc0 cxc1 cxc2 cxc3 cxc4 cxc5 cxc6 cxc7 cxc8 cxc9
  clear cxi0 cxi1 cxi2 cxi3 cxi4
  clear HC1
  replace xc := xc.next b9
  replace xx := xx.next b9
  replace xi := xi.next b9
  replace hi := hi.next b9
  replace ha := ha.next b9
  replace hF := hF.next b9
  replace xn := xn.next b9
  replace bb := bb.trans (b9.mono bb.size)
  clear b9
  have b9 : Below w6.heap.size w6 (w6.alloc (.cells #[.int .i64 0, .int .i64 0, .int .i64 0, .bool false, .slice none 0 0] 26)) := (Below.refl _ _).alloc (Nat.le_refl _) _
  have xt := Box.new w6 26 #[.int .i64 0, .int .i64 0, .int .i64 0, .bool false, .slice none 0 0]
  replace xc := xc.next b9
  replace xx := xx.next b9
  replace xi := xi.next b9
  replace hi := hi.next b9
  replace ha := ha.next b9
  replace hF := hF.next b9
  replace xn := xn.next b9
  replace bb := bb.trans (b9.mono bb.size)
  clear b9
  have HC1 := keepEmit_any s r f s r f k k (.slice ra n rc) (.slice a n cap) xs xs _ _ _ (Nat.le_refl _) (Nat.le_refl _) HXM.out hi ha
  rw [decide_eq_true ⟨rfl, rfl, rfl, rfl, rfl⟩] at HC1
  have cxi0 := xi.cell 0 _ rfl
  have cxi1 := xi.cell 1 _ rfl
  have cxi2 := xi.cell 2 _ rfl
  have cxi3 := xi.cell 3 _ rfl
  have cxi4 := xi.cell 4 _ rfl
  have cxx0 := xx.cell 0 _ rfl
  have cxx1 := xx.cell 1 _ rfl
  have cxx2 := xx.cell 2 _ rfl
  have cxx3 := xx.cell 3 _ rfl
  have cxx4 := xx.cell 4 _ rfl
  go_wp2_with fail
  refine (HC1).mono ?_
  rintro e w7 ⟨rfl, b9⟩
  clear cxi0 cxi1 cxi2 cxi3 cxi4
  clear cxx0 cxx1 cxx2 cxx3 cxx4
  replace xc := xc.next b9
  replace xx := xx.next b9
  replace xi := xi.next b9
  replace hi := hi.next b9
  replace ha := ha.next b9
  replace hF := hF.next b9
  replace xn := xn.next b9
  replace xt := xt.next b9
  replace bb := bb.trans (b9.mono bb.size)
  clear b9
  clear HC1
  have HC1 := refConfig_any c w7
  rw [HC.out] at HC1
  have cxc0 := xc.cell 0 _ rfl
  have cxc1 := xc.cell 1 _ rfl
  have cxc2 := xc.cell 2 _ rfl
  have cxc3 := xc.cell 3 _ rfl
  have cxc4 := xc.cell 4 _ rfl
  have cxc5 := xc.cell 5 _ rfl
  have cxc6 := xc.cell 6 _ rfl
  have cxc7 := xc.cell 7 _ rfl
  have cxc8 := xc.cell 8 _ rfl
  have cxc9 := xc.cell 9 _ rfl
  have cxx0 := xx.cell 0 _ rfl
  have cxx1 := xx.cell 1 _ rfl
  have cxx2 := xx.cell 2 _ rfl
  have cxx3 := xx.cell 3 _ rfl
  have cxx4 := xx.cell 4 _ rfl
  go_wp2_with fail
  refine (HC1).mono ?_
  rintro e w8 ⟨rfl, b9⟩
  clear cxc0 cxc1 cxc2 cxc3 cxc4 cxc5 cxc6 cxc7 cxc8 cxc9
  clear cxx0 cxx1 cxx2 cxx3 cxx4
  replace xc := xc.next b9
  replace xx := xx.next b9
  replace xi := xi.next b9
  replace hi := hi.next b9
  replace ha := ha.next b9
  replace hF := hF.next b9
  replace xn := xn.next b9
  replace xt := xt.next b9
  replace bb := bb.trans (b9.mono bb.size)
  clear b9
  clear HC1
  have HC1 := keepEmit_any 0 0 0 0 0 0 false false (.slice none 0 0) (.slice none 0 0) [] [] _ _ _ (Nat.le_refl _) (Nat.le_refl _) (by decide) (holds_nilE _ w8) (holds_nilE _ w8)
  rw [decide_eq_true ⟨rfl, rfl, rfl, rfl, rfl⟩] at HC1
  have cxn0 := xn.cell 0 _ rfl
  have cxn1 := xn.cell 1 _ rfl
  have cxn2 := xn.cell 2 _ rfl
  have cxn3 := xn.cell 3 _ rfl
  have cxn4 := xn.cell 4 _ rfl
  go_wp2_with fail
  refine (HC1).mono ?_
  rintro e w9 ⟨rfl, b9⟩
  clear cxn0 cxn1 cxn2 cxn3 cxn4
  replace xc := xc.next b9
  replace xx := xx.next b9
  replace xi := xi.next b9
  replace hi := hi.next b9
  replace ha := ha.next b9
  replace hF := hF.next b9
  replace xn := xn.next b9
  replace xt := xt.next b9
  replace bb := bb.trans (b9.mono bb.size)
  clear b9
  clear HC1
  have HC1 := refConfig_any c w9
  rw [HC.out] at HC1
  have cxc0 := xc.cell 0 _ rfl
  have cxc1 := xc.cell 1 _ rfl
  have cxc2 := xc.cell 2 _ rfl
  have cxc3 := xc.cell 3 _ rfl
  have cxc4 := xc.cell 4 _ rfl
  have cxc5 := xc.cell 5 _ rfl
  have cxc6 := xc.cell 6 _ rfl
  have cxc7 := xc.cell 7 _ rfl
  have cxc8 := xc.cell 8 _ rfl
  have cxc9 := xc.cell 9 _ rfl
  have cxx0 := xx.cell 0 _ rfl
  have cxx1 := xx.cell 1 _ rfl
  have cxx2 := xx.cell 2 _ rfl
  have cxx3 := xx.cell 3 _ rfl
  have cxx4 := xx.cell 4 _ rfl
  go_wp2_with fail
  refine (HC1).mono ?_
  rintro e w10 ⟨rfl, b9⟩
  clear cxc0 cxc1 cxc2 cxc3 cxc4 cxc5 cxc6 cxc7 cxc8 cxc9
  clear cxx0 cxx1 cxx2 cxx3 cxx4
  replace xc := xc.next b9
  replace xx := xx.next b9
  replace xi := xi.next b9
  replace hi := hi.next b9
  replace ha := ha.next b9
  replace hF := hF.next b9
  replace xn := xn.next b9
  replace xt := xt.next b9
  replace bb := bb.trans (b9.mono bb.size)
  clear b9
  clear HC1
  have HC1 := keepEmit_any 0 0 0 0 0 0 false false (.slice none 0 0) (.slice none 0 0) [] [] _ _ _ (Nat.le_refl _) (Nat.le_refl _) (by decide) (holds_nilE _ w10) (holds_nilE _ w10)
  rw [decide_eq_true ⟨rfl, rfl, rfl, rfl, rfl⟩] at HC1
  have cxt0 := xt.cell 0 _ rfl
  have cxt1 := xt.cell 1 _ rfl
  have cxt2 := xt.cell 2 _ rfl
  have cxt3 := xt.cell 3 _ rfl
  have cxt4 := xt.cell 4 _ rfl
  go_wp2_with fail
  refine (HC1).mono ?_
  rintro e w11 ⟨rfl, b9⟩
  clear cxt0 cxt1 cxt2 cxt3 cxt4
  replace xc := xc.next b9
  replace xx := xx.next b9
  replace xi := xi.next b9
  replace hi := hi.next b9
  replace ha := ha.next b9
  replace hF := hF.next b9
  replace xn := xn.next b9
  replace xt := xt.next b9
  replace bb := bb.trans (b9.mono bb.size)
  clear b9
  clear HC1
  have HWK := emitWakes_any w11 hF
  go_wp2_with (go_at_call 13; refine HWK.mono ?_; rintro e w99 ⟨rfl, b99⟩)
  go_ret
  exact ⟨rfl, bb.trans (b99.mono bb.size)⟩

set_option maxRecDepth 100000 in
set_option maxHeartbeats 8000000 in
theorem emitExact_d (c : Cfg) (s r f : Int) (k : Bool) (a : Option Addr) (n cap : Nat) (xs : List Int) (hn : xs.length = n) (hl : n ≤ 100) (bx : ∀ z ∈ xs, 0 ≤ z ∧ z ≤ 255) (hC : okC c = true) (h1 : okE c s 0 0 n = false) (h2 : okE c s r f n = false) (w : World) (hF : Firsts w) (ha : Holds .u8 w.heap.size w (.slice a n cap) xs) :
    Calls Tryd.prog 3 #[.agg #[.int .i64 c.cB, .int .i64 c.cBeam, .int .i64 c.cDepth, .int .i64 c.cWin, .int .i64 c.cQs, .int .i64 c.cQr, .int .i64 c.cBatch, .int .i64 c.cPass, .int .i64 c.cMsg, .int .i64 c.cSeqs], .agg #[.int .i64 s, .int .i64 r, .int .i64 f, .bool k, .slice a n cap]] w fun e w' => e = .returned (.bool true) ∧ Below w.heap.size w w' := by
  have HN : Hid (xs.length = n) := hn
  have HBX : Hid (∀ z ∈ xs, 0 ≤ z ∧ z ≤ 255) := bx
  have dl : decide (100 < (n : Int)) = false := decide_eq_false (by omega)
  have dl' : decide (100 < n) = false := decide_eq_false (by omega)
  have HXL : Hid (xs.length ≤ 4294967296) := by show xs.length ≤ _; omega
  have HXM : Hid (xs.length ≤ 4611686018427387904) := by show xs.length ≤ _; omega
  have hl96 : n ≤ 4096 := by omega
  have HE1 : Hid (errE c s 0 0 n ≠ 0) := fun h => by have := errE_zero.1 h; simp_all
  have HE2 : Hid (errE c s r f n = 1) := errE_one (fun h => by simp_all)
  have HC : Hid (okC c = true) := hC
  have H1 : Hid (okE c s 0 0 n = false) := h1
  have H2 : Hid (okE c s r f n = false) := h2
  clear h1 h2
  clear bx hn hC
  have HA : Hid (Holds .u8 w.heap.size w (.slice a n cap) xs) := ha
  have HF0 : Hid (Firsts w) := hF
  have bb := (((Below.refl w.heap.size w).alloc (Nat.le_refl _) (.cells #[.int .i64 c.cB, .int .i64 c.cBeam, .int .i64 c.cDepth, .int .i64 c.cWin, .int .i64 c.cQs, .int .i64 c.cQr, .int .i64 c.cBatch, .int .i64 c.cPass, .int .i64 c.cMsg, .int .i64 c.cSeqs] 23)).alloc (by simp) (.cells #[.int .i64 s, .int .i64 r, .int .i64 f, .bool k, .slice a n cap] 26)).alloc (by simp; omega) (.cells #[.int .i64 s, .int .i64 r, .int .i64 f, .bool k, .slice a n cap] 26)
  have xc := ((Box.new w 23 #[.int .i64 c.cB, .int .i64 c.cBeam, .int .i64 c.cDepth, .int .i64 c.cWin, .int .i64 c.cQs, .int .i64 c.cQr, .int .i64 c.cBatch, .int .i64 c.cPass, .int .i64 c.cMsg, .int .i64 c.cSeqs]).alloc (.cells #[.int .i64 s, .int .i64 r, .int .i64 f, .bool k, .slice a n cap] 26)).alloc (.cells #[.int .i64 s, .int .i64 r, .int .i64 f, .bool k, .slice a n cap] 26)
  have xx := (Box.new (w.alloc (.cells #[.int .i64 c.cB, .int .i64 c.cBeam, .int .i64 c.cDepth, .int .i64 c.cWin, .int .i64 c.cQs, .int .i64 c.cQr, .int .i64 c.cBatch, .int .i64 c.cPass, .int .i64 c.cMsg, .int .i64 c.cSeqs] 23)) 26 #[.int .i64 s, .int .i64 r, .int .i64 f, .bool k, .slice a n cap]).alloc (.cells #[.int .i64 s, .int .i64 r, .int .i64 f, .bool k, .slice a n cap] 26)
  have xi := Box.new ((w.alloc (.cells #[.int .i64 c.cB, .int .i64 c.cBeam, .int .i64 c.cDepth, .int .i64 c.cWin, .int .i64 c.cQs, .int .i64 c.cQr, .int .i64 c.cBatch, .int .i64 c.cPass, .int .i64 c.cMsg, .int .i64 c.cSeqs] 23)).alloc (.cells #[.int .i64 s, .int .i64 r, .int .i64 f, .bool k, .slice a n cap] 26)) 26 #[.int .i64 s, .int .i64 r, .int .i64 f, .bool k, .slice a n cap]
  rw [show (w.alloc (.cells #[.int .i64 c.cB, .int .i64 c.cBeam, .int .i64 c.cDepth, .int .i64 c.cWin, .int .i64 c.cQs, .int .i64 c.cQr, .int .i64 c.cBatch, .int .i64 c.cPass, .int .i64 c.cMsg, .int .i64 c.cSeqs] 23)).heap.size = w.heap.size + 1 by simp] at xx
  rw [show ((w.alloc (.cells #[.int .i64 c.cB, .int .i64 c.cBeam, .int .i64 c.cDepth, .int .i64 c.cWin, .int .i64 c.cQs, .int .i64 c.cQr, .int .i64 c.cBatch, .int .i64 c.cPass, .int .i64 c.cMsg, .int .i64 c.cSeqs] 23)).alloc (.cells #[.int .i64 s, .int .i64 r, .int .i64 f, .bool k, .slice a n cap] 26)).heap.size = w.heap.size + 1 + 1 by simp] at xi
  clear ha hF
  go_enter Tryd.func3, Tryd.ntmps3
  go_wp2_with fail
  obtain ⟨w1, hw1⟩ : ∃ W, ((w.alloc (.cells #[.int .i64 c.cB, .int .i64 c.cBeam, .int .i64 c.cDepth, .int .i64 c.cWin, .int .i64 c.cQs, .int .i64 c.cQr, .int .i64 c.cBatch, .int .i64 c.cPass, .int .i64 c.cMsg, .int .i64 c.cSeqs] 23)).alloc (.cells #[.int .i64 s, .int .i64 r, .int .i64 f, .bool k, .slice a n cap] 26)).alloc (.cells #[.int .i64 s, .int .i64 r, .int .i64 f, .bool k, .slice a n cap] 26) = W := ⟨_, rfl⟩
  have hs1 : w1.heap.size = w.heap.size + 1 + 1 + 1 := by rw [← hw1]; simp
  rw [hw1] at bb xc xx xi ⊢
  clear hw1
  have HT := twin_any (.slice a n cap) xs _ HXL.out w1 (HA.out.below bb)
  rw [HN.out] at HT
  refine HT.mono ?_
  rintro e w2 ⟨rv, rfl, o2, b2⟩
  obtain ⟨ra, rc, rfl⟩ := row_shapeP o2
  clear HT
  replace xc := xc.next b2
  replace xx := xx.next b2
  replace xi := xi.next b2
  replace bb := bb.trans (b2.mono bb.size)
  clear b2
  have cxi0 := xi.cell 0 _ rfl
  have cxi1 := xi.cell 1 _ rfl
  have cxi2 := xi.cell 2 _ rfl
  have cxi3 := xi.cell 3 _ rfl
  have cxi4 := xi.cell 4 _ rfl
  have cxc0 := xc.cell 0 _ rfl
  have cxc1 := xc.cell 1 _ rfl
  have cxc2 := xc.cell 2 _ rfl
  have cxc3 := xc.cell 3 _ rfl
  have cxc4 := xc.cell 4 _ rfl
  have cxc5 := xc.cell 5 _ rfl
  have cxc6 := xc.cell 6 _ rfl
  have cxc7 := xc.cell 7 _ rfl
  have cxc8 := xc.cell 8 _ rfl
  have cxc9 := xc.cell 9 _ rfl
  have cxx0 := xx.cell 0 _ rfl
  have cxx1 := xx.cell 1 _ rfl
  have cxx2 := xx.cell 2 _ rfl
  have cxx3 := xx.cell 3 _ rfl
  have cxx4 := xx.cell 4 _ rfl
  have fxi4 := xi.free 4
  have lxi := xi.lt
  have lxc := xc.lt
  have lxx := xx.lt
  go_wp2_with fail
  clear cxi0 cxi1 cxi2 cxi3 cxi4
  clear cxc0 cxc1 cxc2 cxc3 cxc4 cxc5 cxc6 cxc7 cxc8 cxc9
  clear cxx0 cxx1 cxx2 cxx3 cxx4
  obtain ⟨w3, hw3⟩ : ∃ W, w2.setCell ⟨w.heap.size + 1 + 1, 4, none⟩ (.slice ra n rc) = W := ⟨_, rfl⟩
  replace xc : Box w3 w.heap.size 23 #[.int .i64 c.cB, .int .i64 c.cBeam, .int .i64 c.cDepth, .int .i64 c.cWin, .int .i64 c.cQs, .int .i64 c.cQr, .int .i64 c.cBatch, .int .i64 c.cPass, .int .i64 c.cMsg, .int .i64 c.cSeqs] := hw3 ▸ xc.other (by show w.heap.size ≠ w.heap.size + 1 + 1; omega) _
  replace xx : Box w3 (w.heap.size + 1) 26 #[.int .i64 s, .int .i64 r, .int .i64 f, .bool k, .slice a n cap] := hw3 ▸ xx.other (by show w.heap.size + 1 ≠ w.heap.size + 1 + 1; omega) _
  replace xi : Box w3 (w.heap.size + 1 + 1) 26 #[.int .i64 s, .int .i64 r, .int .i64 f, .bool k, .slice ra n rc] := hw3 ▸ xi.set 4 (.slice ra n rc)
  replace bb : Below w.heap.size w w3 := hw3 ▸ bb.setCell (p := ⟨w.heap.size + 1 + 1, 4, none⟩) (by show w.heap.size ≤ w.heap.size + 1 + 1; omega) _
  have o3 : w3.ownsRow (w.heap.size + 3) 5 1 (.slice ra n rc) n (xs.map (Value.int .u8)) := by
    rw [← hw3]
    exact row_base (ownsRow_setCell_below o2 (a := ⟨w.heap.size + 1 + 1, 4, none⟩) (by show w.heap.size + 1 + 1 < _; omega) _) (by omega)
  have hi := holds_of_row o3
  have ha := (HA.out.below bb).mono bb.size
  have hF := HF0.out.next bb
  rw [hw3]
  clear hw3 o2 o3 fxi4 lxi lxc lxx hs1
  have HC1 := EmitNew_no c s ra n rc HE1.out xs HN.out hl96 w3 hi
  refine HC1.mono ?_
  rintro e w4 ⟨rfl, b9⟩
  clear HC1
  replace xc := xc.next b9
  replace xx := xx.next b9
  replace xi := xi.next b9
  replace hi := hi.next b9
  replace ha := ha.next b9
  replace hF := hF.next b9
  replace bb := bb.trans (b9.mono bb.size)
  clear b9
  have b9 : Below w4.heap.size w4 (w4.alloc (.cells #[.int .i64 0, .int .i64 0, .int .i64 0, .bool false, .slice none 0 0] 26)) := (Below.refl _ _).alloc (Nat.le_refl _) _
  have xn := Box.new w4 26 #[.int .i64 0, .int .i64 0, .int .i64 0, .bool false, .slice none 0 0]
  replace xc := xc.next b9
  replace xx := xx.next b9
  replace xi := xi.next b9
  replace hi := hi.next b9
  replace ha := ha.next b9
  replace hF := hF.next b9
  replace bb := bb.trans (b9.mono bb.size)
  clear b9
  have HC1 := EmitCheck_any c s r f k ra n rc hl96 (w4.alloc (.cells #[.int .i64 0, .int .i64 0, .int .i64 0, .bool false, .slice none 0 0] 26))
  rw [HE2.out] at HC1
  have cxc0 := xc.cell 0 _ rfl
  have cxc1 := xc.cell 1 _ rfl
  have cxc2 := xc.cell 2 _ rfl
  have cxc3 := xc.cell 3 _ rfl
  have cxc4 := xc.cell 4 _ rfl
  have cxc5 := xc.cell 5 _ rfl
  have cxc6 := xc.cell 6 _ rfl
  have cxc7 := xc.cell 7 _ rfl
  have cxc8 := xc.cell 8 _ rfl
  have cxc9 := xc.cell 9 _ rfl
  have cxi0 := xi.cell 0 _ rfl
  have cxi1 := xi.cell 1 _ rfl
  have cxi2 := xi.cell 2 _ rfl
  have cxi3 := xi.cell 3 _ rfl
  have cxi4 := xi.cell 4 _ rfl
  go_wp2_with fail
  refine (HC1).mono ?_
  rintro e w5 ⟨rfl, b9⟩
  clear cxc0 cxc1 cxc2 cxc3 cxc4 cxc5 cxc6 cxc7 cxc8 cxc9
  clear cxi0 cxi1 cxi2 cxi3 cxi4
  replace xc := xc.next b9
  replace xx := xx.next b9
  replace xi := xi.next b9
  replace hi := hi.next b9
  replace ha := ha.next b9
  replace hF := hF.next b9
  replace xn := xn.next b9
  replace bb := bb.trans (b9.mono bb.size)
  clear b9
  clear HC1
  have HC1 := EmitTick_no c s r f k ra n rc (by rw [HE2.out]; decide) xs HN.out hl96 w5 hi
  have cxc0 := xc.cell 0 _ rfl
  have cxc1 := xc.cell 1 _ rfl
  have cxc2 := xc.cell 2 _ rfl
  have cxc3 := xc.cell 3 _ rfl
  have cxc4 := xc.cell 4 _ rfl
  have cxc5 := xc.cell 5 _ rfl
  have cxc6 := xc.cell 6 _ rfl
  have cxc7 := xc.cell 7 _ rfl
  have cxc8 := xc.cell 8 _ rfl
  have cxc9 := xc.cell 9 _ rfl
  have cxi0 := xi.cell 0 _ rfl
  have cxi1 := xi.cell 1 _ rfl
  have cxi2 := xi.cell 2 _ rfl
  have cxi3 := xi.cell 3 _ rfl
  have cxi4 := xi.cell 4 _ rfl
  go_wp2_with fail
  refine (HC1).mono ?_
  rintro e w6 ⟨rfl, b9⟩
  clear cxc0 cxc1 cxc2 cxc3 cxc4 cxc5 cxc6 cxc7 cxc8 cxc9
  clear cxi0 cxi1 cxi2 cxi3 cxi4
  clear HC1
  replace xc := xc.next b9
  replace xx := xx.next b9
  replace xi := xi.next b9
  replace hi := hi.next b9
  replace ha := ha.next b9
  replace hF := hF.next b9
  replace xn := xn.next b9
  replace bb := bb.trans (b9.mono bb.size)
  clear b9
  have b9 : Below w6.heap.size w6 (w6.alloc (.cells #[.int .i64 0, .int .i64 0, .int .i64 0, .bool false, .slice none 0 0] 26)) := (Below.refl _ _).alloc (Nat.le_refl _) _
  have xt := Box.new w6 26 #[.int .i64 0, .int .i64 0, .int .i64 0, .bool false, .slice none 0 0]
  replace xc := xc.next b9
  replace xx := xx.next b9
  replace xi := xi.next b9
  replace hi := hi.next b9
  replace ha := ha.next b9
  replace hF := hF.next b9
  replace xn := xn.next b9
  replace bb := bb.trans (b9.mono bb.size)
  clear b9
  have HC1 := keepEmit_any s r f s r f k k (.slice ra n rc) (.slice a n cap) xs xs _ _ _ (Nat.le_refl _) (Nat.le_refl _) HXM.out hi ha
  rw [decide_eq_true ⟨rfl, rfl, rfl, rfl, rfl⟩] at HC1
  have cxi0 := xi.cell 0 _ rfl
  have cxi1 := xi.cell 1 _ rfl
  have cxi2 := xi.cell 2 _ rfl
  have cxi3 := xi.cell 3 _ rfl
  have cxi4 := xi.cell 4 _ rfl
  have cxx0 := xx.cell 0 _ rfl
  have cxx1 := xx.cell 1 _ rfl
  have cxx2 := xx.cell 2 _ rfl
  have cxx3 := xx.cell 3 _ rfl
  have cxx4 := xx.cell 4 _ rfl
  go_wp2_with fail
  refine (HC1).mono ?_
  rintro e w7 ⟨rfl, b9⟩
  clear cxi0 cxi1 cxi2 cxi3 cxi4
  clear cxx0 cxx1 cxx2 cxx3 cxx4
  replace xc := xc.next b9
  replace xx := xx.next b9
  replace xi := xi.next b9
  replace hi := hi.next b9
  replace ha := ha.next b9
  replace hF := hF.next b9
  replace xn := xn.next b9
  replace xt := xt.next b9
  replace bb := bb.trans (b9.mono bb.size)
  clear b9
  clear HC1
  have HC1 := refConfig_any c w7
  rw [HC.out] at HC1
  have cxc0 := xc.cell 0 _ rfl
  have cxc1 := xc.cell 1 _ rfl
  have cxc2 := xc.cell 2 _ rfl
  have cxc3 := xc.cell 3 _ rfl
  have cxc4 := xc.cell 4 _ rfl
  have cxc5 := xc.cell 5 _ rfl
  have cxc6 := xc.cell 6 _ rfl
  have cxc7 := xc.cell 7 _ rfl
  have cxc8 := xc.cell 8 _ rfl
  have cxc9 := xc.cell 9 _ rfl
  have cxx0 := xx.cell 0 _ rfl
  have cxx1 := xx.cell 1 _ rfl
  have cxx2 := xx.cell 2 _ rfl
  have cxx3 := xx.cell 3 _ rfl
  have cxx4 := xx.cell 4 _ rfl
  go_wp2_with fail
  refine (HC1).mono ?_
  rintro e w8 ⟨rfl, b9⟩
  clear cxc0 cxc1 cxc2 cxc3 cxc4 cxc5 cxc6 cxc7 cxc8 cxc9
  clear cxx0 cxx1 cxx2 cxx3 cxx4
  replace xc := xc.next b9
  replace xx := xx.next b9
  replace xi := xi.next b9
  replace hi := hi.next b9
  replace ha := ha.next b9
  replace hF := hF.next b9
  replace xn := xn.next b9
  replace xt := xt.next b9
  replace bb := bb.trans (b9.mono bb.size)
  clear b9
  clear HC1
  have HC1 := refEmit_any c HC.out s 0 0 false a n cap w8
  rw [H1.out] at HC1
  have cxc0 := xc.cell 0 _ rfl
  have cxc1 := xc.cell 1 _ rfl
  have cxc2 := xc.cell 2 _ rfl
  have cxc3 := xc.cell 3 _ rfl
  have cxc4 := xc.cell 4 _ rfl
  have cxc5 := xc.cell 5 _ rfl
  have cxc6 := xc.cell 6 _ rfl
  have cxc7 := xc.cell 7 _ rfl
  have cxc8 := xc.cell 8 _ rfl
  have cxc9 := xc.cell 9 _ rfl
  have cxx0 := xx.cell 0 _ rfl
  have cxx1 := xx.cell 1 _ rfl
  have cxx2 := xx.cell 2 _ rfl
  have cxx3 := xx.cell 3 _ rfl
  have cxx4 := xx.cell 4 _ rfl
  go_wp2_with fail
  refine (HC1).mono ?_
  rintro e w9 ⟨rfl, b9⟩
  clear cxc0 cxc1 cxc2 cxc3 cxc4 cxc5 cxc6 cxc7 cxc8 cxc9
  clear cxx0 cxx1 cxx2 cxx3 cxx4
  replace xc := xc.next b9
  replace xx := xx.next b9
  replace xi := xi.next b9
  replace hi := hi.next b9
  replace ha := ha.next b9
  replace hF := hF.next b9
  replace xn := xn.next b9
  replace xt := xt.next b9
  replace bb := bb.trans (b9.mono bb.size)
  clear b9
  clear HC1
  have HC1 := keepEmit_any 0 0 0 0 0 0 false false (.slice none 0 0) (.slice none 0 0) [] [] _ _ _ (Nat.le_refl _) (Nat.le_refl _) (by decide) (holds_nilE _ w9) (holds_nilE _ w9)
  rw [decide_eq_true ⟨rfl, rfl, rfl, rfl, rfl⟩] at HC1
  have cxn0 := xn.cell 0 _ rfl
  have cxn1 := xn.cell 1 _ rfl
  have cxn2 := xn.cell 2 _ rfl
  have cxn3 := xn.cell 3 _ rfl
  have cxn4 := xn.cell 4 _ rfl
  go_wp2_with fail
  refine (HC1).mono ?_
  rintro e w10 ⟨rfl, b9⟩
  clear cxn0 cxn1 cxn2 cxn3 cxn4
  replace xc := xc.next b9
  replace xx := xx.next b9
  replace xi := xi.next b9
  replace hi := hi.next b9
  replace ha := ha.next b9
  replace hF := hF.next b9
  replace xn := xn.next b9
  replace xt := xt.next b9
  replace bb := bb.trans (b9.mono bb.size)
  clear b9
  clear HC1
  have HC1 := refConfig_any c w10
  rw [HC.out] at HC1
  have cxc0 := xc.cell 0 _ rfl
  have cxc1 := xc.cell 1 _ rfl
  have cxc2 := xc.cell 2 _ rfl
  have cxc3 := xc.cell 3 _ rfl
  have cxc4 := xc.cell 4 _ rfl
  have cxc5 := xc.cell 5 _ rfl
  have cxc6 := xc.cell 6 _ rfl
  have cxc7 := xc.cell 7 _ rfl
  have cxc8 := xc.cell 8 _ rfl
  have cxc9 := xc.cell 9 _ rfl
  have cxx0 := xx.cell 0 _ rfl
  have cxx1 := xx.cell 1 _ rfl
  have cxx2 := xx.cell 2 _ rfl
  have cxx3 := xx.cell 3 _ rfl
  have cxx4 := xx.cell 4 _ rfl
  go_wp2_with fail
  refine (HC1).mono ?_
  rintro e w11 ⟨rfl, b9⟩
  clear cxc0 cxc1 cxc2 cxc3 cxc4 cxc5 cxc6 cxc7 cxc8 cxc9
  clear cxx0 cxx1 cxx2 cxx3 cxx4
  replace xc := xc.next b9
  replace xx := xx.next b9
  replace xi := xi.next b9
  replace hi := hi.next b9
  replace ha := ha.next b9
  replace hF := hF.next b9
  replace xn := xn.next b9
  replace xt := xt.next b9
  replace bb := bb.trans (b9.mono bb.size)
  clear b9
  clear HC1
  have HC1 := refEmit_any c HC.out s r f k a n cap w11
  rw [H2.out] at HC1
  have cxc0 := xc.cell 0 _ rfl
  have cxc1 := xc.cell 1 _ rfl
  have cxc2 := xc.cell 2 _ rfl
  have cxc3 := xc.cell 3 _ rfl
  have cxc4 := xc.cell 4 _ rfl
  have cxc5 := xc.cell 5 _ rfl
  have cxc6 := xc.cell 6 _ rfl
  have cxc7 := xc.cell 7 _ rfl
  have cxc8 := xc.cell 8 _ rfl
  have cxc9 := xc.cell 9 _ rfl
  have cxx0 := xx.cell 0 _ rfl
  have cxx1 := xx.cell 1 _ rfl
  have cxx2 := xx.cell 2 _ rfl
  have cxx3 := xx.cell 3 _ rfl
  have cxx4 := xx.cell 4 _ rfl
  go_wp2_with fail
  refine (HC1).mono ?_
  rintro e w12 ⟨rfl, b9⟩
  clear cxc0 cxc1 cxc2 cxc3 cxc4 cxc5 cxc6 cxc7 cxc8 cxc9
  clear cxx0 cxx1 cxx2 cxx3 cxx4
  replace xc := xc.next b9
  replace xx := xx.next b9
  replace xi := xi.next b9
  replace hi := hi.next b9
  replace ha := ha.next b9
  replace hF := hF.next b9
  replace xn := xn.next b9
  replace xt := xt.next b9
  replace bb := bb.trans (b9.mono bb.size)
  clear b9
  clear HC1
  have HC1 := keepEmit_any 0 0 0 0 0 0 false false (.slice none 0 0) (.slice none 0 0) [] [] _ _ _ (Nat.le_refl _) (Nat.le_refl _) (by decide) (holds_nilE _ w12) (holds_nilE _ w12)
  rw [decide_eq_true ⟨rfl, rfl, rfl, rfl, rfl⟩] at HC1
  have cxt0 := xt.cell 0 _ rfl
  have cxt1 := xt.cell 1 _ rfl
  have cxt2 := xt.cell 2 _ rfl
  have cxt3 := xt.cell 3 _ rfl
  have cxt4 := xt.cell 4 _ rfl
  go_wp2_with fail
  refine (HC1).mono ?_
  rintro e w13 ⟨rfl, b9⟩
  clear cxt0 cxt1 cxt2 cxt3 cxt4
  replace xc := xc.next b9
  replace xx := xx.next b9
  replace xi := xi.next b9
  replace hi := hi.next b9
  replace ha := ha.next b9
  replace hF := hF.next b9
  replace xn := xn.next b9
  replace xt := xt.next b9
  replace bb := bb.trans (b9.mono bb.size)
  clear b9
  clear HC1
  have HWK := emitWakes_any w13 hF
  go_wp2_with (go_at_call 13; refine HWK.mono ?_; rintro e w99 ⟨rfl, b99⟩)
  go_ret
  exact ⟨rfl, bb.trans (b99.mono bb.size)⟩

set_option maxRecDepth 100000 in
set_option maxHeartbeats 8000000 in
theorem emitExact_e (c : Cfg) (s r f : Int) (k : Bool) (a : Option Addr) (n cap : Nat) (xs : List Int) (hn : xs.length = n) (hl : n ≤ 100) (bx : ∀ z ∈ xs, 0 ≤ z ∧ z ≤ 255) (hC : okC c = true) (h1 : okE c s 0 0 n = true) (h2 : okE c s r f n = false) (w : World) (hF : Firsts w) (ha : Holds .u8 w.heap.size w (.slice a n cap) xs) :
    Calls Tryd.prog 3 #[.agg #[.int .i64 c.cB, .int .i64 c.cBeam, .int .i64 c.cDepth, .int .i64 c.cWin, .int .i64 c.cQs, .int .i64 c.cQr, .int .i64 c.cBatch, .int .i64 c.cPass, .int .i64 c.cMsg, .int .i64 c.cSeqs], .agg #[.int .i64 s, .int .i64 r, .int .i64 f, .bool k, .slice a n cap]] w fun e w' => e = .returned (.bool true) ∧ Below w.heap.size w w' := by
  have HN : Hid (xs.length = n) := hn
  have HBX : Hid (∀ z ∈ xs, 0 ≤ z ∧ z ≤ 255) := bx
  have dl : decide (100 < (n : Int)) = false := decide_eq_false (by omega)
  have dl' : decide (100 < n) = false := decide_eq_false (by omega)
  have HXL : Hid (xs.length ≤ 4294967296) := by show xs.length ≤ _; omega
  have HXM : Hid (xs.length ≤ 4611686018427387904) := by show xs.length ≤ _; omega
  have hl96 : n ≤ 4096 := by omega
  have HE1 : Hid (errE c s 0 0 n = 0) := errE_zero.2 ⟨hC, h1⟩
  have HE2 : Hid (errE c s r f n = 1) := errE_one (fun h => by simp_all)
  have HC : Hid (okC c = true) := hC
  have H1 : Hid (okE c s 0 0 n = true) := h1
  have H2 : Hid (okE c s r f n = false) := h2
  clear h1 h2
  clear bx hn hC
  have HA : Hid (Holds .u8 w.heap.size w (.slice a n cap) xs) := ha
  have HF0 : Hid (Firsts w) := hF
  have bb := (((Below.refl w.heap.size w).alloc (Nat.le_refl _) (.cells #[.int .i64 c.cB, .int .i64 c.cBeam, .int .i64 c.cDepth, .int .i64 c.cWin, .int .i64 c.cQs, .int .i64 c.cQr, .int .i64 c.cBatch, .int .i64 c.cPass, .int .i64 c.cMsg, .int .i64 c.cSeqs] 23)).alloc (by simp) (.cells #[.int .i64 s, .int .i64 r, .int .i64 f, .bool k, .slice a n cap] 26)).alloc (by simp; omega) (.cells #[.int .i64 s, .int .i64 r, .int .i64 f, .bool k, .slice a n cap] 26)
  have xc := ((Box.new w 23 #[.int .i64 c.cB, .int .i64 c.cBeam, .int .i64 c.cDepth, .int .i64 c.cWin, .int .i64 c.cQs, .int .i64 c.cQr, .int .i64 c.cBatch, .int .i64 c.cPass, .int .i64 c.cMsg, .int .i64 c.cSeqs]).alloc (.cells #[.int .i64 s, .int .i64 r, .int .i64 f, .bool k, .slice a n cap] 26)).alloc (.cells #[.int .i64 s, .int .i64 r, .int .i64 f, .bool k, .slice a n cap] 26)
  have xx := (Box.new (w.alloc (.cells #[.int .i64 c.cB, .int .i64 c.cBeam, .int .i64 c.cDepth, .int .i64 c.cWin, .int .i64 c.cQs, .int .i64 c.cQr, .int .i64 c.cBatch, .int .i64 c.cPass, .int .i64 c.cMsg, .int .i64 c.cSeqs] 23)) 26 #[.int .i64 s, .int .i64 r, .int .i64 f, .bool k, .slice a n cap]).alloc (.cells #[.int .i64 s, .int .i64 r, .int .i64 f, .bool k, .slice a n cap] 26)
  have xi := Box.new ((w.alloc (.cells #[.int .i64 c.cB, .int .i64 c.cBeam, .int .i64 c.cDepth, .int .i64 c.cWin, .int .i64 c.cQs, .int .i64 c.cQr, .int .i64 c.cBatch, .int .i64 c.cPass, .int .i64 c.cMsg, .int .i64 c.cSeqs] 23)).alloc (.cells #[.int .i64 s, .int .i64 r, .int .i64 f, .bool k, .slice a n cap] 26)) 26 #[.int .i64 s, .int .i64 r, .int .i64 f, .bool k, .slice a n cap]
  rw [show (w.alloc (.cells #[.int .i64 c.cB, .int .i64 c.cBeam, .int .i64 c.cDepth, .int .i64 c.cWin, .int .i64 c.cQs, .int .i64 c.cQr, .int .i64 c.cBatch, .int .i64 c.cPass, .int .i64 c.cMsg, .int .i64 c.cSeqs] 23)).heap.size = w.heap.size + 1 by simp] at xx
  rw [show ((w.alloc (.cells #[.int .i64 c.cB, .int .i64 c.cBeam, .int .i64 c.cDepth, .int .i64 c.cWin, .int .i64 c.cQs, .int .i64 c.cQr, .int .i64 c.cBatch, .int .i64 c.cPass, .int .i64 c.cMsg, .int .i64 c.cSeqs] 23)).alloc (.cells #[.int .i64 s, .int .i64 r, .int .i64 f, .bool k, .slice a n cap] 26)).heap.size = w.heap.size + 1 + 1 by simp] at xi
  clear ha hF
  go_enter Tryd.func3, Tryd.ntmps3
  go_wp2_with fail
  obtain ⟨w1, hw1⟩ : ∃ W, ((w.alloc (.cells #[.int .i64 c.cB, .int .i64 c.cBeam, .int .i64 c.cDepth, .int .i64 c.cWin, .int .i64 c.cQs, .int .i64 c.cQr, .int .i64 c.cBatch, .int .i64 c.cPass, .int .i64 c.cMsg, .int .i64 c.cSeqs] 23)).alloc (.cells #[.int .i64 s, .int .i64 r, .int .i64 f, .bool k, .slice a n cap] 26)).alloc (.cells #[.int .i64 s, .int .i64 r, .int .i64 f, .bool k, .slice a n cap] 26) = W := ⟨_, rfl⟩
  have hs1 : w1.heap.size = w.heap.size + 1 + 1 + 1 := by rw [← hw1]; simp
  rw [hw1] at bb xc xx xi ⊢
  clear hw1
  have HT := twin_any (.slice a n cap) xs _ HXL.out w1 (HA.out.below bb)
  rw [HN.out] at HT
  refine HT.mono ?_
  rintro e w2 ⟨rv, rfl, o2, b2⟩
  obtain ⟨ra, rc, rfl⟩ := row_shapeP o2
  clear HT
  replace xc := xc.next b2
  replace xx := xx.next b2
  replace xi := xi.next b2
  replace bb := bb.trans (b2.mono bb.size)
  clear b2
  have cxi0 := xi.cell 0 _ rfl
  have cxi1 := xi.cell 1 _ rfl
  have cxi2 := xi.cell 2 _ rfl
  have cxi3 := xi.cell 3 _ rfl
  have cxi4 := xi.cell 4 _ rfl
  have cxc0 := xc.cell 0 _ rfl
  have cxc1 := xc.cell 1 _ rfl
  have cxc2 := xc.cell 2 _ rfl
  have cxc3 := xc.cell 3 _ rfl
  have cxc4 := xc.cell 4 _ rfl
  have cxc5 := xc.cell 5 _ rfl
  have cxc6 := xc.cell 6 _ rfl
  have cxc7 := xc.cell 7 _ rfl
  have cxc8 := xc.cell 8 _ rfl
  have cxc9 := xc.cell 9 _ rfl
  have cxx0 := xx.cell 0 _ rfl
  have cxx1 := xx.cell 1 _ rfl
  have cxx2 := xx.cell 2 _ rfl
  have cxx3 := xx.cell 3 _ rfl
  have cxx4 := xx.cell 4 _ rfl
  have fxi4 := xi.free 4
  have lxi := xi.lt
  have lxc := xc.lt
  have lxx := xx.lt
  go_wp2_with fail
  clear cxi0 cxi1 cxi2 cxi3 cxi4
  clear cxc0 cxc1 cxc2 cxc3 cxc4 cxc5 cxc6 cxc7 cxc8 cxc9
  clear cxx0 cxx1 cxx2 cxx3 cxx4
  obtain ⟨w3, hw3⟩ : ∃ W, w2.setCell ⟨w.heap.size + 1 + 1, 4, none⟩ (.slice ra n rc) = W := ⟨_, rfl⟩
  replace xc : Box w3 w.heap.size 23 #[.int .i64 c.cB, .int .i64 c.cBeam, .int .i64 c.cDepth, .int .i64 c.cWin, .int .i64 c.cQs, .int .i64 c.cQr, .int .i64 c.cBatch, .int .i64 c.cPass, .int .i64 c.cMsg, .int .i64 c.cSeqs] := hw3 ▸ xc.other (by show w.heap.size ≠ w.heap.size + 1 + 1; omega) _
  replace xx : Box w3 (w.heap.size + 1) 26 #[.int .i64 s, .int .i64 r, .int .i64 f, .bool k, .slice a n cap] := hw3 ▸ xx.other (by show w.heap.size + 1 ≠ w.heap.size + 1 + 1; omega) _
  replace xi : Box w3 (w.heap.size + 1 + 1) 26 #[.int .i64 s, .int .i64 r, .int .i64 f, .bool k, .slice ra n rc] := hw3 ▸ xi.set 4 (.slice ra n rc)
  replace bb : Below w.heap.size w w3 := hw3 ▸ bb.setCell (p := ⟨w.heap.size + 1 + 1, 4, none⟩) (by show w.heap.size ≤ w.heap.size + 1 + 1; omega) _
  have o3 : w3.ownsRow (w.heap.size + 3) 5 1 (.slice ra n rc) n (xs.map (Value.int .u8)) := by
    rw [← hw3]
    exact row_base (ownsRow_setCell_below o2 (a := ⟨w.heap.size + 1 + 1, 4, none⟩) (by show w.heap.size + 1 + 1 < _; omega) _) (by omega)
  have hi := holds_of_row o3
  have ha := (HA.out.below bb).mono bb.size
  have hF := HF0.out.next bb
  rw [hw3]
  clear hw3 o2 o3 fxi4 lxi lxc lxx hs1
  have HC1 := EmitNew_ok c s ra n rc HE1.out xs HN.out hl96 w3 hi
  refine HC1.mono ?_
  rintro e w4 ⟨na, nc, rfl, on, b9⟩
  clear HC1
  replace xc := xc.next b9
  replace xx := xx.next b9
  replace xi := xi.next b9
  replace hi := hi.next b9
  replace ha := ha.next b9
  replace hF := hF.next b9
  replace bb := bb.trans (b9.mono bb.size)
  clear b9
  have hN := holds_of_row on
  clear on
  have b9 : Below w4.heap.size w4 (w4.alloc (.cells #[.int .i64 s, .int .i64 0, .int .i64 0, .bool false, .slice na n nc] 26)) := (Below.refl _ _).alloc (Nat.le_refl _) _
  have xn := Box.new w4 26 #[.int .i64 s, .int .i64 0, .int .i64 0, .bool false, .slice na n nc]
  replace xc := xc.next b9
  replace xx := xx.next b9
  replace xi := xi.next b9
  replace hi := hi.next b9
  replace ha := ha.next b9
  replace hF := hF.next b9
  replace hN := hN.next b9
  replace bb := bb.trans (b9.mono bb.size)
  clear b9
  have HC1 := EmitCheck_any c s r f k ra n rc hl96 (w4.alloc (.cells #[.int .i64 s, .int .i64 0, .int .i64 0, .bool false, .slice na n nc] 26))
  rw [HE2.out] at HC1
  have cxc0 := xc.cell 0 _ rfl
  have cxc1 := xc.cell 1 _ rfl
  have cxc2 := xc.cell 2 _ rfl
  have cxc3 := xc.cell 3 _ rfl
  have cxc4 := xc.cell 4 _ rfl
  have cxc5 := xc.cell 5 _ rfl
  have cxc6 := xc.cell 6 _ rfl
  have cxc7 := xc.cell 7 _ rfl
  have cxc8 := xc.cell 8 _ rfl
  have cxc9 := xc.cell 9 _ rfl
  have cxi0 := xi.cell 0 _ rfl
  have cxi1 := xi.cell 1 _ rfl
  have cxi2 := xi.cell 2 _ rfl
  have cxi3 := xi.cell 3 _ rfl
  have cxi4 := xi.cell 4 _ rfl
  go_wp2_with fail
  refine (HC1).mono ?_
  rintro e w5 ⟨rfl, b9⟩
  clear cxc0 cxc1 cxc2 cxc3 cxc4 cxc5 cxc6 cxc7 cxc8 cxc9
  clear cxi0 cxi1 cxi2 cxi3 cxi4
  replace xc := xc.next b9
  replace xx := xx.next b9
  replace xi := xi.next b9
  replace hi := hi.next b9
  replace ha := ha.next b9
  replace hF := hF.next b9
  replace hN := hN.next b9
  replace xn := xn.next b9
  replace bb := bb.trans (b9.mono bb.size)
  clear b9
  clear HC1
  have HC1 := EmitTick_no c s r f k ra n rc (by rw [HE2.out]; decide) xs HN.out hl96 w5 hi
  have cxc0 := xc.cell 0 _ rfl
  have cxc1 := xc.cell 1 _ rfl
  have cxc2 := xc.cell 2 _ rfl
  have cxc3 := xc.cell 3 _ rfl
  have cxc4 := xc.cell 4 _ rfl
  have cxc5 := xc.cell 5 _ rfl
  have cxc6 := xc.cell 6 _ rfl
  have cxc7 := xc.cell 7 _ rfl
  have cxc8 := xc.cell 8 _ rfl
  have cxc9 := xc.cell 9 _ rfl
  have cxi0 := xi.cell 0 _ rfl
  have cxi1 := xi.cell 1 _ rfl
  have cxi2 := xi.cell 2 _ rfl
  have cxi3 := xi.cell 3 _ rfl
  have cxi4 := xi.cell 4 _ rfl
  go_wp2_with fail
  refine (HC1).mono ?_
  rintro e w6 ⟨rfl, b9⟩
  clear cxc0 cxc1 cxc2 cxc3 cxc4 cxc5 cxc6 cxc7 cxc8 cxc9
  clear cxi0 cxi1 cxi2 cxi3 cxi4
  clear HC1
  replace xc := xc.next b9
  replace xx := xx.next b9
  replace xi := xi.next b9
  replace hi := hi.next b9
  replace ha := ha.next b9
  replace hF := hF.next b9
  replace hN := hN.next b9
  replace xn := xn.next b9
  replace bb := bb.trans (b9.mono bb.size)
  clear b9
  have b9 : Below w6.heap.size w6 (w6.alloc (.cells #[.int .i64 0, .int .i64 0, .int .i64 0, .bool false, .slice none 0 0] 26)) := (Below.refl _ _).alloc (Nat.le_refl _) _
  have xt := Box.new w6 26 #[.int .i64 0, .int .i64 0, .int .i64 0, .bool false, .slice none 0 0]
  replace xc := xc.next b9
  replace xx := xx.next b9
  replace xi := xi.next b9
  replace hi := hi.next b9
  replace ha := ha.next b9
  replace hF := hF.next b9
  replace hN := hN.next b9
  replace xn := xn.next b9
  replace bb := bb.trans (b9.mono bb.size)
  clear b9
  have HC1 := keepEmit_any s r f s r f k k (.slice ra n rc) (.slice a n cap) xs xs _ _ _ (Nat.le_refl _) (Nat.le_refl _) HXM.out hi ha
  rw [decide_eq_true ⟨rfl, rfl, rfl, rfl, rfl⟩] at HC1
  have cxi0 := xi.cell 0 _ rfl
  have cxi1 := xi.cell 1 _ rfl
  have cxi2 := xi.cell 2 _ rfl
  have cxi3 := xi.cell 3 _ rfl
  have cxi4 := xi.cell 4 _ rfl
  have cxx0 := xx.cell 0 _ rfl
  have cxx1 := xx.cell 1 _ rfl
  have cxx2 := xx.cell 2 _ rfl
  have cxx3 := xx.cell 3 _ rfl
  have cxx4 := xx.cell 4 _ rfl
  go_wp2_with fail
  refine (HC1).mono ?_
  rintro e w7 ⟨rfl, b9⟩
  clear cxi0 cxi1 cxi2 cxi3 cxi4
  clear cxx0 cxx1 cxx2 cxx3 cxx4
  replace xc := xc.next b9
  replace xx := xx.next b9
  replace xi := xi.next b9
  replace hi := hi.next b9
  replace ha := ha.next b9
  replace hF := hF.next b9
  replace hN := hN.next b9
  replace xn := xn.next b9
  replace xt := xt.next b9
  replace bb := bb.trans (b9.mono bb.size)
  clear b9
  clear HC1
  have HC1 := refConfig_any c w7
  rw [HC.out] at HC1
  have cxc0 := xc.cell 0 _ rfl
  have cxc1 := xc.cell 1 _ rfl
  have cxc2 := xc.cell 2 _ rfl
  have cxc3 := xc.cell 3 _ rfl
  have cxc4 := xc.cell 4 _ rfl
  have cxc5 := xc.cell 5 _ rfl
  have cxc6 := xc.cell 6 _ rfl
  have cxc7 := xc.cell 7 _ rfl
  have cxc8 := xc.cell 8 _ rfl
  have cxc9 := xc.cell 9 _ rfl
  have cxx0 := xx.cell 0 _ rfl
  have cxx1 := xx.cell 1 _ rfl
  have cxx2 := xx.cell 2 _ rfl
  have cxx3 := xx.cell 3 _ rfl
  have cxx4 := xx.cell 4 _ rfl
  go_wp2_with fail
  refine (HC1).mono ?_
  rintro e w8 ⟨rfl, b9⟩
  clear cxc0 cxc1 cxc2 cxc3 cxc4 cxc5 cxc6 cxc7 cxc8 cxc9
  clear cxx0 cxx1 cxx2 cxx3 cxx4
  replace xc := xc.next b9
  replace xx := xx.next b9
  replace xi := xi.next b9
  replace hi := hi.next b9
  replace ha := ha.next b9
  replace hF := hF.next b9
  replace hN := hN.next b9
  replace xn := xn.next b9
  replace xt := xt.next b9
  replace bb := bb.trans (b9.mono bb.size)
  clear b9
  clear HC1
  have HC1 := refEmit_any c HC.out s 0 0 false a n cap w8
  rw [H1.out] at HC1
  have cxc0 := xc.cell 0 _ rfl
  have cxc1 := xc.cell 1 _ rfl
  have cxc2 := xc.cell 2 _ rfl
  have cxc3 := xc.cell 3 _ rfl
  have cxc4 := xc.cell 4 _ rfl
  have cxc5 := xc.cell 5 _ rfl
  have cxc6 := xc.cell 6 _ rfl
  have cxc7 := xc.cell 7 _ rfl
  have cxc8 := xc.cell 8 _ rfl
  have cxc9 := xc.cell 9 _ rfl
  have cxx0 := xx.cell 0 _ rfl
  have cxx1 := xx.cell 1 _ rfl
  have cxx2 := xx.cell 2 _ rfl
  have cxx3 := xx.cell 3 _ rfl
  have cxx4 := xx.cell 4 _ rfl
  go_wp2_with fail
  refine (HC1).mono ?_
  rintro e w9 ⟨rfl, b9⟩
  clear cxc0 cxc1 cxc2 cxc3 cxc4 cxc5 cxc6 cxc7 cxc8 cxc9
  clear cxx0 cxx1 cxx2 cxx3 cxx4
  replace xc := xc.next b9
  replace xx := xx.next b9
  replace xi := xi.next b9
  replace hi := hi.next b9
  replace ha := ha.next b9
  replace hF := hF.next b9
  replace hN := hN.next b9
  replace xn := xn.next b9
  replace xt := xt.next b9
  replace bb := bb.trans (b9.mono bb.size)
  clear b9
  clear HC1
  have HC1 := keepEmit_any s 0 0 s 0 0 false false (.slice na n nc) (.slice a n cap) xs xs _ _ _ (Nat.le_refl _) (Nat.le_refl _) HXM.out hN ha
  rw [decide_eq_true ⟨rfl, rfl, rfl, rfl, rfl⟩] at HC1
  have cxn0 := xn.cell 0 _ rfl
  have cxn1 := xn.cell 1 _ rfl
  have cxn2 := xn.cell 2 _ rfl
  have cxn3 := xn.cell 3 _ rfl
  have cxn4 := xn.cell 4 _ rfl
  have cxx0 := xx.cell 0 _ rfl
  have cxx1 := xx.cell 1 _ rfl
  have cxx2 := xx.cell 2 _ rfl
  have cxx3 := xx.cell 3 _ rfl
  have cxx4 := xx.cell 4 _ rfl
  go_wp2_with fail
  refine (HC1).mono ?_
  rintro e w10 ⟨rfl, b9⟩
  clear cxn0 cxn1 cxn2 cxn3 cxn4
  clear cxx0 cxx1 cxx2 cxx3 cxx4
  replace xc := xc.next b9
  replace xx := xx.next b9
  replace xi := xi.next b9
  replace hi := hi.next b9
  replace ha := ha.next b9
  replace hF := hF.next b9
  replace hN := hN.next b9
  replace xn := xn.next b9
  replace xt := xt.next b9
  replace bb := bb.trans (b9.mono bb.size)
  clear b9
  clear HC1
  have HC1 := refConfig_any c w10
  rw [HC.out] at HC1
  have cxc0 := xc.cell 0 _ rfl
  have cxc1 := xc.cell 1 _ rfl
  have cxc2 := xc.cell 2 _ rfl
  have cxc3 := xc.cell 3 _ rfl
  have cxc4 := xc.cell 4 _ rfl
  have cxc5 := xc.cell 5 _ rfl
  have cxc6 := xc.cell 6 _ rfl
  have cxc7 := xc.cell 7 _ rfl
  have cxc8 := xc.cell 8 _ rfl
  have cxc9 := xc.cell 9 _ rfl
  have cxx0 := xx.cell 0 _ rfl
  have cxx1 := xx.cell 1 _ rfl
  have cxx2 := xx.cell 2 _ rfl
  have cxx3 := xx.cell 3 _ rfl
  have cxx4 := xx.cell 4 _ rfl
  go_wp2_with fail
  refine (HC1).mono ?_
  rintro e w11 ⟨rfl, b9⟩
  clear cxc0 cxc1 cxc2 cxc3 cxc4 cxc5 cxc6 cxc7 cxc8 cxc9
  clear cxx0 cxx1 cxx2 cxx3 cxx4
  replace xc := xc.next b9
  replace xx := xx.next b9
  replace xi := xi.next b9
  replace hi := hi.next b9
  replace ha := ha.next b9
  replace hF := hF.next b9
  replace hN := hN.next b9
  replace xn := xn.next b9
  replace xt := xt.next b9
  replace bb := bb.trans (b9.mono bb.size)
  clear b9
  clear HC1
  have HC1 := refEmit_any c HC.out s r f k a n cap w11
  rw [H2.out] at HC1
  have cxc0 := xc.cell 0 _ rfl
  have cxc1 := xc.cell 1 _ rfl
  have cxc2 := xc.cell 2 _ rfl
  have cxc3 := xc.cell 3 _ rfl
  have cxc4 := xc.cell 4 _ rfl
  have cxc5 := xc.cell 5 _ rfl
  have cxc6 := xc.cell 6 _ rfl
  have cxc7 := xc.cell 7 _ rfl
  have cxc8 := xc.cell 8 _ rfl
  have cxc9 := xc.cell 9 _ rfl
  have cxx0 := xx.cell 0 _ rfl
  have cxx1 := xx.cell 1 _ rfl
  have cxx2 := xx.cell 2 _ rfl
  have cxx3 := xx.cell 3 _ rfl
  have cxx4 := xx.cell 4 _ rfl
  go_wp2_with fail
  refine (HC1).mono ?_
  rintro e w12 ⟨rfl, b9⟩
  clear cxc0 cxc1 cxc2 cxc3 cxc4 cxc5 cxc6 cxc7 cxc8 cxc9
  clear cxx0 cxx1 cxx2 cxx3 cxx4
  replace xc := xc.next b9
  replace xx := xx.next b9
  replace xi := xi.next b9
  replace hi := hi.next b9
  replace ha := ha.next b9
  replace hF := hF.next b9
  replace hN := hN.next b9
  replace xn := xn.next b9
  replace xt := xt.next b9
  replace bb := bb.trans (b9.mono bb.size)
  clear b9
  clear HC1
  have HC1 := keepEmit_any 0 0 0 0 0 0 false false (.slice none 0 0) (.slice none 0 0) [] [] _ _ _ (Nat.le_refl _) (Nat.le_refl _) (by decide) (holds_nilE _ w12) (holds_nilE _ w12)
  rw [decide_eq_true ⟨rfl, rfl, rfl, rfl, rfl⟩] at HC1
  have cxt0 := xt.cell 0 _ rfl
  have cxt1 := xt.cell 1 _ rfl
  have cxt2 := xt.cell 2 _ rfl
  have cxt3 := xt.cell 3 _ rfl
  have cxt4 := xt.cell 4 _ rfl
  go_wp2_with fail
  refine (HC1).mono ?_
  rintro e w13 ⟨rfl, b9⟩
  clear cxt0 cxt1 cxt2 cxt3 cxt4
  replace xc := xc.next b9
  replace xx := xx.next b9
  replace xi := xi.next b9
  replace hi := hi.next b9
  replace ha := ha.next b9
  replace hF := hF.next b9
  replace hN := hN.next b9
  replace xn := xn.next b9
  replace xt := xt.next b9
  replace bb := bb.trans (b9.mono bb.size)
  clear b9
  clear HC1
  have HWK := emitWakes_any w13 hF
  go_wp2_with (go_at_call 13; refine HWK.mono ?_; rintro e w99 ⟨rfl, b99⟩)
  go_ret
  exact ⟨rfl, bb.trans (b99.mono bb.size)⟩

set_option maxRecDepth 100000 in
set_option maxHeartbeats 8000000 in
theorem emitExact_f (c : Cfg) (s r f : Int) (a : Option Addr) (n cap : Nat) (xs : List Int) (hn : xs.length = n) (hl : n ≤ 100) (bx : ∀ z ∈ xs, 0 ≤ z ∧ z ≤ 255) (hC : okC c = true) (h1 : okE c s 0 0 n = true) (h2 : okE c s r f n = true) (w : World) (hF : Firsts w) (ha : Holds .u8 w.heap.size w (.slice a n cap) xs) :
    Calls Tryd.prog 3 #[.agg #[.int .i64 c.cB, .int .i64 c.cBeam, .int .i64 c.cDepth, .int .i64 c.cWin, .int .i64 c.cQs, .int .i64 c.cQr, .int .i64 c.cBatch, .int .i64 c.cPass, .int .i64 c.cMsg, .int .i64 c.cSeqs], .agg #[.int .i64 s, .int .i64 r, .int .i64 f, .bool true, .slice a n cap]] w fun e w' => e = .returned (.bool true) ∧ Below w.heap.size w w' := by
  have HN : Hid (xs.length = n) := hn
  have HBX : Hid (∀ z ∈ xs, 0 ≤ z ∧ z ≤ 255) := bx
  have dl : decide (100 < (n : Int)) = false := decide_eq_false (by omega)
  have dl' : decide (100 < n) = false := decide_eq_false (by omega)
  have HXL : Hid (xs.length ≤ 4294967296) := by show xs.length ≤ _; omega
  have HXM : Hid (xs.length ≤ 4611686018427387904) := by show xs.length ≤ _; omega
  have hl96 : n ≤ 4096 := by omega
  have HE1 : Hid (errE c s 0 0 n = 0) := errE_zero.2 ⟨hC, h1⟩
  have HE2 : Hid (errE c s r f n = 0) := errE_zero.2 ⟨hC, h2⟩
  have HC : Hid (okC c = true) := hC
  have H1 : Hid (okE c s 0 0 n = true) := h1
  have H2 : Hid (okE c s r f n = true) := h2
  clear h1 h2
  clear bx hn hC
  have HA : Hid (Holds .u8 w.heap.size w (.slice a n cap) xs) := ha
  have HF0 : Hid (Firsts w) := hF
  have bb := (((Below.refl w.heap.size w).alloc (Nat.le_refl _) (.cells #[.int .i64 c.cB, .int .i64 c.cBeam, .int .i64 c.cDepth, .int .i64 c.cWin, .int .i64 c.cQs, .int .i64 c.cQr, .int .i64 c.cBatch, .int .i64 c.cPass, .int .i64 c.cMsg, .int .i64 c.cSeqs] 23)).alloc (by simp) (.cells #[.int .i64 s, .int .i64 r, .int .i64 f, .bool true, .slice a n cap] 26)).alloc (by simp; omega) (.cells #[.int .i64 s, .int .i64 r, .int .i64 f, .bool true, .slice a n cap] 26)
  have xc := ((Box.new w 23 #[.int .i64 c.cB, .int .i64 c.cBeam, .int .i64 c.cDepth, .int .i64 c.cWin, .int .i64 c.cQs, .int .i64 c.cQr, .int .i64 c.cBatch, .int .i64 c.cPass, .int .i64 c.cMsg, .int .i64 c.cSeqs]).alloc (.cells #[.int .i64 s, .int .i64 r, .int .i64 f, .bool true, .slice a n cap] 26)).alloc (.cells #[.int .i64 s, .int .i64 r, .int .i64 f, .bool true, .slice a n cap] 26)
  have xx := (Box.new (w.alloc (.cells #[.int .i64 c.cB, .int .i64 c.cBeam, .int .i64 c.cDepth, .int .i64 c.cWin, .int .i64 c.cQs, .int .i64 c.cQr, .int .i64 c.cBatch, .int .i64 c.cPass, .int .i64 c.cMsg, .int .i64 c.cSeqs] 23)) 26 #[.int .i64 s, .int .i64 r, .int .i64 f, .bool true, .slice a n cap]).alloc (.cells #[.int .i64 s, .int .i64 r, .int .i64 f, .bool true, .slice a n cap] 26)
  have xi := Box.new ((w.alloc (.cells #[.int .i64 c.cB, .int .i64 c.cBeam, .int .i64 c.cDepth, .int .i64 c.cWin, .int .i64 c.cQs, .int .i64 c.cQr, .int .i64 c.cBatch, .int .i64 c.cPass, .int .i64 c.cMsg, .int .i64 c.cSeqs] 23)).alloc (.cells #[.int .i64 s, .int .i64 r, .int .i64 f, .bool true, .slice a n cap] 26)) 26 #[.int .i64 s, .int .i64 r, .int .i64 f, .bool true, .slice a n cap]
  rw [show (w.alloc (.cells #[.int .i64 c.cB, .int .i64 c.cBeam, .int .i64 c.cDepth, .int .i64 c.cWin, .int .i64 c.cQs, .int .i64 c.cQr, .int .i64 c.cBatch, .int .i64 c.cPass, .int .i64 c.cMsg, .int .i64 c.cSeqs] 23)).heap.size = w.heap.size + 1 by simp] at xx
  rw [show ((w.alloc (.cells #[.int .i64 c.cB, .int .i64 c.cBeam, .int .i64 c.cDepth, .int .i64 c.cWin, .int .i64 c.cQs, .int .i64 c.cQr, .int .i64 c.cBatch, .int .i64 c.cPass, .int .i64 c.cMsg, .int .i64 c.cSeqs] 23)).alloc (.cells #[.int .i64 s, .int .i64 r, .int .i64 f, .bool true, .slice a n cap] 26)).heap.size = w.heap.size + 1 + 1 by simp] at xi
  clear ha hF
  go_enter Tryd.func3, Tryd.ntmps3
  go_wp2_with fail
  obtain ⟨w1, hw1⟩ : ∃ W, ((w.alloc (.cells #[.int .i64 c.cB, .int .i64 c.cBeam, .int .i64 c.cDepth, .int .i64 c.cWin, .int .i64 c.cQs, .int .i64 c.cQr, .int .i64 c.cBatch, .int .i64 c.cPass, .int .i64 c.cMsg, .int .i64 c.cSeqs] 23)).alloc (.cells #[.int .i64 s, .int .i64 r, .int .i64 f, .bool true, .slice a n cap] 26)).alloc (.cells #[.int .i64 s, .int .i64 r, .int .i64 f, .bool true, .slice a n cap] 26) = W := ⟨_, rfl⟩
  have hs1 : w1.heap.size = w.heap.size + 1 + 1 + 1 := by rw [← hw1]; simp
  rw [hw1] at bb xc xx xi ⊢
  clear hw1
  have HT := twin_any (.slice a n cap) xs _ HXL.out w1 (HA.out.below bb)
  rw [HN.out] at HT
  refine HT.mono ?_
  rintro e w2 ⟨rv, rfl, o2, b2⟩
  obtain ⟨ra, rc, rfl⟩ := row_shapeP o2
  clear HT
  replace xc := xc.next b2
  replace xx := xx.next b2
  replace xi := xi.next b2
  replace bb := bb.trans (b2.mono bb.size)
  clear b2
  have cxi0 := xi.cell 0 _ rfl
  have cxi1 := xi.cell 1 _ rfl
  have cxi2 := xi.cell 2 _ rfl
  have cxi3 := xi.cell 3 _ rfl
  have cxi4 := xi.cell 4 _ rfl
  have cxc0 := xc.cell 0 _ rfl
  have cxc1 := xc.cell 1 _ rfl
  have cxc2 := xc.cell 2 _ rfl
  have cxc3 := xc.cell 3 _ rfl
  have cxc4 := xc.cell 4 _ rfl
  have cxc5 := xc.cell 5 _ rfl
  have cxc6 := xc.cell 6 _ rfl
  have cxc7 := xc.cell 7 _ rfl
  have cxc8 := xc.cell 8 _ rfl
  have cxc9 := xc.cell 9 _ rfl
  have cxx0 := xx.cell 0 _ rfl
  have cxx1 := xx.cell 1 _ rfl
  have cxx2 := xx.cell 2 _ rfl
  have cxx3 := xx.cell 3 _ rfl
  have cxx4 := xx.cell 4 _ rfl
  have fxi4 := xi.free 4
  have lxi := xi.lt
  have lxc := xc.lt
  have lxx := xx.lt
  go_wp2_with fail
  clear cxi0 cxi1 cxi2 cxi3 cxi4
  clear cxc0 cxc1 cxc2 cxc3 cxc4 cxc5 cxc6 cxc7 cxc8 cxc9
  clear cxx0 cxx1 cxx2 cxx3 cxx4
  obtain ⟨w3, hw3⟩ : ∃ W, w2.setCell ⟨w.heap.size + 1 + 1, 4, none⟩ (.slice ra n rc) = W := ⟨_, rfl⟩
  replace xc : Box w3 w.heap.size 23 #[.int .i64 c.cB, .int .i64 c.cBeam, .int .i64 c.cDepth, .int .i64 c.cWin, .int .i64 c.cQs, .int .i64 c.cQr, .int .i64 c.cBatch, .int .i64 c.cPass, .int .i64 c.cMsg, .int .i64 c.cSeqs] := hw3 ▸ xc.other (by show w.heap.size ≠ w.heap.size + 1 + 1; omega) _
  replace xx : Box w3 (w.heap.size + 1) 26 #[.int .i64 s, .int .i64 r, .int .i64 f, .bool true, .slice a n cap] := hw3 ▸ xx.other (by show w.heap.size + 1 ≠ w.heap.size + 1 + 1; omega) _
  replace xi : Box w3 (w.heap.size + 1 + 1) 26 #[.int .i64 s, .int .i64 r, .int .i64 f, .bool true, .slice ra n rc] := hw3 ▸ xi.set 4 (.slice ra n rc)
  replace bb : Below w.heap.size w w3 := hw3 ▸ bb.setCell (p := ⟨w.heap.size + 1 + 1, 4, none⟩) (by show w.heap.size ≤ w.heap.size + 1 + 1; omega) _
  have o3 : w3.ownsRow (w.heap.size + 3) 5 1 (.slice ra n rc) n (xs.map (Value.int .u8)) := by
    rw [← hw3]
    exact row_base (ownsRow_setCell_below o2 (a := ⟨w.heap.size + 1 + 1, 4, none⟩) (by show w.heap.size + 1 + 1 < _; omega) _) (by omega)
  have hi := holds_of_row o3
  have ha := (HA.out.below bb).mono bb.size
  have hF := HF0.out.next bb
  rw [hw3]
  clear hw3 o2 o3 fxi4 lxi lxc lxx hs1
  have HC1 := EmitNew_ok c s ra n rc HE1.out xs HN.out hl96 w3 hi
  refine HC1.mono ?_
  rintro e w4 ⟨na, nc, rfl, on, b9⟩
  clear HC1
  replace xc := xc.next b9
  replace xx := xx.next b9
  replace xi := xi.next b9
  replace hi := hi.next b9
  replace ha := ha.next b9
  replace hF := hF.next b9
  replace bb := bb.trans (b9.mono bb.size)
  clear b9
  have hN := holds_of_row on
  clear on
  have b9 : Below w4.heap.size w4 (w4.alloc (.cells #[.int .i64 s, .int .i64 0, .int .i64 0, .bool false, .slice na n nc] 26)) := (Below.refl _ _).alloc (Nat.le_refl _) _
  have xn := Box.new w4 26 #[.int .i64 s, .int .i64 0, .int .i64 0, .bool false, .slice na n nc]
  replace xc := xc.next b9
  replace xx := xx.next b9
  replace xi := xi.next b9
  replace hi := hi.next b9
  replace ha := ha.next b9
  replace hF := hF.next b9
  replace hN := hN.next b9
  replace bb := bb.trans (b9.mono bb.size)
  clear b9
  have HC1 := EmitCheck_any c s r f true ra n rc hl96 (w4.alloc (.cells #[.int .i64 s, .int .i64 0, .int .i64 0, .bool false, .slice na n nc] 26))
  rw [HE2.out] at HC1
  have cxc0 := xc.cell 0 _ rfl
  have cxc1 := xc.cell 1 _ rfl
  have cxc2 := xc.cell 2 _ rfl
  have cxc3 := xc.cell 3 _ rfl
  have cxc4 := xc.cell 4 _ rfl
  have cxc5 := xc.cell 5 _ rfl
  have cxc6 := xc.cell 6 _ rfl
  have cxc7 := xc.cell 7 _ rfl
  have cxc8 := xc.cell 8 _ rfl
  have cxc9 := xc.cell 9 _ rfl
  have cxi0 := xi.cell 0 _ rfl
  have cxi1 := xi.cell 1 _ rfl
  have cxi2 := xi.cell 2 _ rfl
  have cxi3 := xi.cell 3 _ rfl
  have cxi4 := xi.cell 4 _ rfl
  go_wp2_with fail
  refine (HC1).mono ?_
  rintro e w5 ⟨rfl, b9⟩
  clear cxc0 cxc1 cxc2 cxc3 cxc4 cxc5 cxc6 cxc7 cxc8 cxc9
  clear cxi0 cxi1 cxi2 cxi3 cxi4
  replace xc := xc.next b9
  replace xx := xx.next b9
  replace xi := xi.next b9
  replace hi := hi.next b9
  replace ha := ha.next b9
  replace hF := hF.next b9
  replace hN := hN.next b9
  replace xn := xn.next b9
  replace bb := bb.trans (b9.mono bb.size)
  clear b9
  clear HC1
  have HC1 := EmitTick_acked c s r f ra n rc HE2.out xs HN.out hl96 w5 hi
  have HXI : Hid (Box w5 (w.heap.size + 1 + 1) 26 #[.int .i64 s, .int .i64 r, .int .i64 f, .bool true, .slice ra n rc]) := xi
  have HXX : Hid (Box w5 (w.heap.size + 1) 26 #[.int .i64 s, .int .i64 r, .int .i64 f, .bool true, .slice a n cap]) := xx
  have HHI : Hid (Holds .u8 w5.heap.size w5 (.slice ra n rc) xs) := hi
  have HHA : Hid (Holds .u8 w5.heap.size w5 (.slice a n cap) xs) := ha
  have HFW : Hid (Firsts w5) := hF
  have HBB : Hid (Below w.heap.size w w5) := bb
  have cxc0 := xc.cell 0 _ rfl
  have cxc1 := xc.cell 1 _ rfl
  have cxc2 := xc.cell 2 _ rfl
  have cxc3 := xc.cell 3 _ rfl
  have cxc4 := xc.cell 4 _ rfl
  have cxc5 := xc.cell 5 _ rfl
  have cxc6 := xc.cell 6 _ rfl
  have cxc7 := xc.cell 7 _ rfl
  have cxc8 := xc.cell 8 _ rfl
  have cxc9 := xc.cell 9 _ rfl
  have cxi0 := xi.cell 0 _ rfl
  have cxi1 := xi.cell 1 _ rfl
  have cxi2 := xi.cell 2 _ rfl
  have cxi3 := xi.cell 3 _ rfl
  have cxi4 := xi.cell 4 _ rfl
  go_wp2_with fail
  refine (HC1).mono ?_
  rintro e w6 ⟨ta, tc, rfl, ot, b9⟩
  clear cxc0 cxc1 cxc2 cxc3 cxc4 cxc5 cxc6 cxc7 cxc8 cxc9
  clear cxi0 cxi1 cxi2 cxi3 cxi4
  clear HC1
  replace xc := xc.next b9
  replace xx := xx.next b9
  replace xi := xi.next b9
  replace hi := hi.next b9
  replace ha := ha.next b9
  replace hF := hF.next b9
  replace hN := hN.next b9
  replace xn := xn.next b9
  replace bb := bb.trans (b9.mono bb.size)
  have sT : Since w5 w6 := b9
  have ht := holds_of_row ot
  have oT : OwnB w6 w5.heap.size (.slice ta n tc) n xs := ot
  clear ot
  clear b9
  have b9 : Below w6.heap.size w6 (w6.alloc (.cells #[.int .i64 s, .int .i64 r, .int .i64 f, .bool true, .slice ta n tc] 26)) := (Below.refl _ _).alloc (Nat.le_refl _) _
  have xt := Box.new w6 26 #[.int .i64 s, .int .i64 r, .int .i64 f, .bool true, .slice ta n tc]
  replace xc := xc.next b9
  replace xx := xx.next b9
  replace xi := xi.next b9
  replace hi := hi.next b9
  replace ha := ha.next b9
  replace hF := hF.next b9
  replace hN := hN.next b9
  replace xn := xn.next b9
  replace ht := ht.next b9
  replace sT := sT.next b9
  replace oT := oT.next b9
  replace bb := bb.trans (b9.mono bb.size)
  clear b9
  have HC1 := keepEmit_any s r f s r f true true (.slice ra n rc) (.slice a n cap) xs xs _ _ _ (Nat.le_refl _) (Nat.le_refl _) HXM.out hi ha
  rw [decide_eq_true ⟨rfl, rfl, rfl, rfl, rfl⟩] at HC1
  have cxi0 := xi.cell 0 _ rfl
  have cxi1 := xi.cell 1 _ rfl
  have cxi2 := xi.cell 2 _ rfl
  have cxi3 := xi.cell 3 _ rfl
  have cxi4 := xi.cell 4 _ rfl
  have cxx0 := xx.cell 0 _ rfl
  have cxx1 := xx.cell 1 _ rfl
  have cxx2 := xx.cell 2 _ rfl
  have cxx3 := xx.cell 3 _ rfl
  have cxx4 := xx.cell 4 _ rfl
  go_wp2_with fail
  refine (HC1).mono ?_
  rintro e w7 ⟨rfl, b9⟩
  clear cxi0 cxi1 cxi2 cxi3 cxi4
  clear cxx0 cxx1 cxx2 cxx3 cxx4
  replace xc := xc.next b9
  replace xx := xx.next b9
  replace xi := xi.next b9
  replace hi := hi.next b9
  replace ha := ha.next b9
  replace hF := hF.next b9
  replace hN := hN.next b9
  replace xn := xn.next b9
  replace ht := ht.next b9
  replace sT := sT.next b9
  replace oT := oT.next b9
  replace xt := xt.next b9
  replace bb := bb.trans (b9.mono bb.size)
  clear b9
  clear HC1
  have HC1 := refConfig_any c w7
  rw [HC.out] at HC1
  have cxc0 := xc.cell 0 _ rfl
  have cxc1 := xc.cell 1 _ rfl
  have cxc2 := xc.cell 2 _ rfl
  have cxc3 := xc.cell 3 _ rfl
  have cxc4 := xc.cell 4 _ rfl
  have cxc5 := xc.cell 5 _ rfl
  have cxc6 := xc.cell 6 _ rfl
  have cxc7 := xc.cell 7 _ rfl
  have cxc8 := xc.cell 8 _ rfl
  have cxc9 := xc.cell 9 _ rfl
  have cxx0 := xx.cell 0 _ rfl
  have cxx1 := xx.cell 1 _ rfl
  have cxx2 := xx.cell 2 _ rfl
  have cxx3 := xx.cell 3 _ rfl
  have cxx4 := xx.cell 4 _ rfl
  go_wp2_with fail
  refine (HC1).mono ?_
  rintro e w8 ⟨rfl, b9⟩
  clear cxc0 cxc1 cxc2 cxc3 cxc4 cxc5 cxc6 cxc7 cxc8 cxc9
  clear cxx0 cxx1 cxx2 cxx3 cxx4
  replace xc := xc.next b9
  replace xx := xx.next b9
  replace xi := xi.next b9
  replace hi := hi.next b9
  replace ha := ha.next b9
  replace hF := hF.next b9
  replace hN := hN.next b9
  replace xn := xn.next b9
  replace ht := ht.next b9
  replace sT := sT.next b9
  replace oT := oT.next b9
  replace xt := xt.next b9
  replace bb := bb.trans (b9.mono bb.size)
  clear b9
  clear HC1
  have HC1 := refEmit_any c HC.out s 0 0 false a n cap w8
  rw [H1.out] at HC1
  have cxc0 := xc.cell 0 _ rfl
  have cxc1 := xc.cell 1 _ rfl
  have cxc2 := xc.cell 2 _ rfl
  have cxc3 := xc.cell 3 _ rfl
  have cxc4 := xc.cell 4 _ rfl
  have cxc5 := xc.cell 5 _ rfl
  have cxc6 := xc.cell 6 _ rfl
  have cxc7 := xc.cell 7 _ rfl
  have cxc8 := xc.cell 8 _ rfl
  have cxc9 := xc.cell 9 _ rfl
  have cxx0 := xx.cell 0 _ rfl
  have cxx1 := xx.cell 1 _ rfl
  have cxx2 := xx.cell 2 _ rfl
  have cxx3 := xx.cell 3 _ rfl
  have cxx4 := xx.cell 4 _ rfl
  go_wp2_with fail
  refine (HC1).mono ?_
  rintro e w9 ⟨rfl, b9⟩
  clear cxc0 cxc1 cxc2 cxc3 cxc4 cxc5 cxc6 cxc7 cxc8 cxc9
  clear cxx0 cxx1 cxx2 cxx3 cxx4
  replace xc := xc.next b9
  replace xx := xx.next b9
  replace xi := xi.next b9
  replace hi := hi.next b9
  replace ha := ha.next b9
  replace hF := hF.next b9
  replace hN := hN.next b9
  replace xn := xn.next b9
  replace ht := ht.next b9
  replace sT := sT.next b9
  replace oT := oT.next b9
  replace xt := xt.next b9
  replace bb := bb.trans (b9.mono bb.size)
  clear b9
  clear HC1
  have HC1 := keepEmit_any s 0 0 s 0 0 false false (.slice na n nc) (.slice a n cap) xs xs _ _ _ (Nat.le_refl _) (Nat.le_refl _) HXM.out hN ha
  rw [decide_eq_true ⟨rfl, rfl, rfl, rfl, rfl⟩] at HC1
  have cxn0 := xn.cell 0 _ rfl
  have cxn1 := xn.cell 1 _ rfl
  have cxn2 := xn.cell 2 _ rfl
  have cxn3 := xn.cell 3 _ rfl
  have cxn4 := xn.cell 4 _ rfl
  have cxx0 := xx.cell 0 _ rfl
  have cxx1 := xx.cell 1 _ rfl
  have cxx2 := xx.cell 2 _ rfl
  have cxx3 := xx.cell 3 _ rfl
  have cxx4 := xx.cell 4 _ rfl
  go_wp2_with fail
  refine (HC1).mono ?_
  rintro e w10 ⟨rfl, b9⟩
  clear cxn0 cxn1 cxn2 cxn3 cxn4
  clear cxx0 cxx1 cxx2 cxx3 cxx4
  replace xc := xc.next b9
  replace xx := xx.next b9
  replace xi := xi.next b9
  replace hi := hi.next b9
  replace ha := ha.next b9
  replace hF := hF.next b9
  replace hN := hN.next b9
  replace xn := xn.next b9
  replace ht := ht.next b9
  replace sT := sT.next b9
  replace oT := oT.next b9
  replace xt := xt.next b9
  replace bb := bb.trans (b9.mono bb.size)
  clear b9
  clear HC1
  have HC1 := refConfig_any c w10
  rw [HC.out] at HC1
  have cxc0 := xc.cell 0 _ rfl
  have cxc1 := xc.cell 1 _ rfl
  have cxc2 := xc.cell 2 _ rfl
  have cxc3 := xc.cell 3 _ rfl
  have cxc4 := xc.cell 4 _ rfl
  have cxc5 := xc.cell 5 _ rfl
  have cxc6 := xc.cell 6 _ rfl
  have cxc7 := xc.cell 7 _ rfl
  have cxc8 := xc.cell 8 _ rfl
  have cxc9 := xc.cell 9 _ rfl
  have cxx0 := xx.cell 0 _ rfl
  have cxx1 := xx.cell 1 _ rfl
  have cxx2 := xx.cell 2 _ rfl
  have cxx3 := xx.cell 3 _ rfl
  have cxx4 := xx.cell 4 _ rfl
  go_wp2_with fail
  refine (HC1).mono ?_
  rintro e w11 ⟨rfl, b9⟩
  clear cxc0 cxc1 cxc2 cxc3 cxc4 cxc5 cxc6 cxc7 cxc8 cxc9
  clear cxx0 cxx1 cxx2 cxx3 cxx4
  replace xc := xc.next b9
  replace xx := xx.next b9
  replace xi := xi.next b9
  replace hi := hi.next b9
  replace ha := ha.next b9
  replace hF := hF.next b9
  replace hN := hN.next b9
  replace xn := xn.next b9
  replace ht := ht.next b9
  replace sT := sT.next b9
  replace oT := oT.next b9
  replace xt := xt.next b9
  replace bb := bb.trans (b9.mono bb.size)
  clear b9
  clear HC1
  have HC1 := refEmit_any c HC.out s r f true a n cap w11
  rw [H2.out] at HC1
  have cxc0 := xc.cell 0 _ rfl
  have cxc1 := xc.cell 1 _ rfl
  have cxc2 := xc.cell 2 _ rfl
  have cxc3 := xc.cell 3 _ rfl
  have cxc4 := xc.cell 4 _ rfl
  have cxc5 := xc.cell 5 _ rfl
  have cxc6 := xc.cell 6 _ rfl
  have cxc7 := xc.cell 7 _ rfl
  have cxc8 := xc.cell 8 _ rfl
  have cxc9 := xc.cell 9 _ rfl
  have cxx0 := xx.cell 0 _ rfl
  have cxx1 := xx.cell 1 _ rfl
  have cxx2 := xx.cell 2 _ rfl
  have cxx3 := xx.cell 3 _ rfl
  have cxx4 := xx.cell 4 _ rfl
  go_wp2_with fail
  refine (HC1).mono ?_
  rintro e w12 ⟨rfl, b9⟩
  clear cxc0 cxc1 cxc2 cxc3 cxc4 cxc5 cxc6 cxc7 cxc8 cxc9
  clear cxx0 cxx1 cxx2 cxx3 cxx4
  replace xc := xc.next b9
  replace xx := xx.next b9
  replace xi := xi.next b9
  replace hi := hi.next b9
  replace ha := ha.next b9
  replace hF := hF.next b9
  replace hN := hN.next b9
  replace xn := xn.next b9
  replace ht := ht.next b9
  replace sT := sT.next b9
  replace oT := oT.next b9
  replace xt := xt.next b9
  replace bb := bb.trans (b9.mono bb.size)
  clear b9
  clear HC1
  have HC1 := refTick_acked c s r f a n cap xs HN.out hl96 w12 ha
  have cxc0 := xc.cell 0 _ rfl
  have cxc1 := xc.cell 1 _ rfl
  have cxc2 := xc.cell 2 _ rfl
  have cxc3 := xc.cell 3 _ rfl
  have cxc4 := xc.cell 4 _ rfl
  have cxc5 := xc.cell 5 _ rfl
  have cxc6 := xc.cell 6 _ rfl
  have cxc7 := xc.cell 7 _ rfl
  have cxc8 := xc.cell 8 _ rfl
  have cxc9 := xc.cell 9 _ rfl
  have cxx0 := xx.cell 0 _ rfl
  have cxx1 := xx.cell 1 _ rfl
  have cxx2 := xx.cell 2 _ rfl
  have cxx3 := xx.cell 3 _ rfl
  have cxx4 := xx.cell 4 _ rfl
  go_wp2_with fail
  refine (HC1).mono ?_
  rintro e w13 ⟨ga, gc, rfl, og, b9⟩
  clear cxc0 cxc1 cxc2 cxc3 cxc4 cxc5 cxc6 cxc7 cxc8 cxc9
  clear cxx0 cxx1 cxx2 cxx3 cxx4
  replace xc := xc.next b9
  replace xx := xx.next b9
  replace xi := xi.next b9
  replace hi := hi.next b9
  replace ha := ha.next b9
  replace hF := hF.next b9
  replace hN := hN.next b9
  replace xn := xn.next b9
  replace ht := ht.next b9
  replace sT := sT.next b9
  replace oT := oT.next b9
  replace xt := xt.next b9
  replace bb := bb.trans (b9.mono bb.size)
  clear b9
  clear HC1
  have hg := holds_of_row og
  clear og
  have b9 : Below w13.heap.size w13 (w13.alloc (.cells #[.int .i64 s, .int .i64 r, .int .i64 f, .bool true, .slice ga n gc] 26)) := (Below.refl _ _).alloc (Nat.le_refl _) _
  have xg := Box.new w13 26 #[.int .i64 s, .int .i64 r, .int .i64 f, .bool true, .slice ga n gc]
  replace xc := xc.next b9
  replace xx := xx.next b9
  replace xi := xi.next b9
  replace hi := hi.next b9
  replace ha := ha.next b9
  replace hF := hF.next b9
  replace hN := hN.next b9
  replace xn := xn.next b9
  replace ht := ht.next b9
  replace sT := sT.next b9
  replace oT := oT.next b9
  replace xt := xt.next b9
  replace hg := hg.next b9
  replace bb := bb.trans (b9.mono bb.size)
  clear b9
  have HC1 := keepEmit_any s r f s r f true true (.slice ta n tc) (.slice ga n gc) xs xs _ _ _ (Nat.le_refl _) (Nat.le_refl _) HXM.out ht hg
  rw [decide_eq_true ⟨rfl, rfl, rfl, rfl, rfl⟩] at HC1
  have cxt0 := xt.cell 0 _ rfl
  have cxt1 := xt.cell 1 _ rfl
  have cxt2 := xt.cell 2 _ rfl
  have cxt3 := xt.cell 3 _ rfl
  have cxt4 := xt.cell 4 _ rfl
  have cxg0 := xg.cell 0 _ rfl
  have cxg1 := xg.cell 1 _ rfl
  have cxg2 := xg.cell 2 _ rfl
  have cxg3 := xg.cell 3 _ rfl
  have cxg4 := xg.cell 4 _ rfl
  go_wp2_with fail
  refine (HC1).mono ?_
  rintro e w14 ⟨rfl, b9⟩
  clear cxt0 cxt1 cxt2 cxt3 cxt4
  clear cxg0 cxg1 cxg2 cxg3 cxg4
  replace xc := xc.next b9
  replace xx := xx.next b9
  replace xi := xi.next b9
  replace hi := hi.next b9
  replace ha := ha.next b9
  replace hF := hF.next b9
  replace hN := hN.next b9
  replace xn := xn.next b9
  replace ht := ht.next b9
  replace sT := sT.next b9
  replace oT := oT.next b9
  replace xt := xt.next b9
  replace hg := hg.next b9
  replace xg := xg.next b9
  replace bb := bb.trans (b9.mono bb.size)
  clear b9
  clear HC1
  have HC1 := bytes_any (.slice none 0 0) (.slice none 0 0) [] [] _ _ w14 (by decide) (holds_nilE w14.heap.size w14) (holds_nilE w14.heap.size w14)
  rw [decide_eq_true rfl] at HC1
  go_wp2_with fail
  refine (HC1).mono ?_
  rintro e wx ⟨rfl, q, rfl⟩
  have b9 : Below w14.heap.size w14 (w14.drewN q) := below_drewN (Below.refl _ _) q
  replace xc := xc.next b9
  replace xx := xx.next b9
  replace xi := xi.next b9
  replace hi := hi.next b9
  replace ha := ha.next b9
  replace hF := hF.next b9
  replace hN := hN.next b9
  replace xn := xn.next b9
  replace ht := ht.next b9
  replace sT := sT.next b9
  replace oT := oT.next b9
  replace xt := xt.next b9
  replace hg := hg.next b9
  replace xg := xg.next b9
  replace bb := bb.trans (b9.mono bb.size)
  clear b9
  generalize w14.drewN q = w15 at *
  clear HC1
  have HC1 := spoilBytes_own (.slice none 0 0) 0 w15.heap.size [] (by decide) w15 (rowB_nil _ _)
  go_wp2_with fail
  refine HC1.mono ?_
  rintro e w16 ⟨rfl, b9, _, _⟩
  clear HC1
  replace xc := xc.next b9
  replace xx := xx.next b9
  replace xi := xi.next b9
  replace hi := hi.next b9
  replace ha := ha.next b9
  replace hF := hF.next b9
  replace hN := hN.next b9
  replace xn := xn.next b9
  replace ht := ht.next b9
  replace sT := sT.next b9
  replace oT := oT.next b9
  replace xt := xt.next b9
  replace hg := hg.next b9
  replace xg := xg.next b9
  replace bb := bb.trans (b9.mono bb.size)
  clear b9
  have bS : Below w5.heap.size w5 w16 := sT
  have HC1 := spoilBytes_own (.slice ta n tc) n w5.heap.size xs (by omega) w16 oT
  have cxt0 := xt.cell 0 _ rfl
  have cxt1 := xt.cell 1 _ rfl
  have cxt2 := xt.cell 2 _ rfl
  have cxt3 := xt.cell 3 _ rfl
  have cxt4 := xt.cell 4 _ rfl
  go_wp2_with fail
  refine HC1.mono ?_
  rintro e w17 ⟨rfl, b9, _, _⟩
  clear HC1
  clear cxt0 cxt1 cxt2 cxt3 cxt4
  replace bS := bS.trans b9
  clear xt xc xx xi hi ha hF hN ht hg xn xg sT bb b9 oT
  have xi := HXI.out.next bS
  have xx := HXX.out.next bS
  have hi := HHI.out.next bS
  have ha := HHA.out.next bS
  have hF := HFW.out.next bS
  have bb := HBB.out.trans (bS.mono HBB.out.size)
  have HC1 := keepEmit_any s r f s r f true true (.slice ra n rc) (.slice a n cap) xs xs _ _ _ (Nat.le_refl _) (Nat.le_refl _) HXM.out hi ha
  rw [decide_eq_true ⟨rfl, rfl, rfl, rfl, rfl⟩] at HC1
  have cxi0 := xi.cell 0 _ rfl
  have cxi1 := xi.cell 1 _ rfl
  have cxi2 := xi.cell 2 _ rfl
  have cxi3 := xi.cell 3 _ rfl
  have cxi4 := xi.cell 4 _ rfl
  have cxx0 := xx.cell 0 _ rfl
  have cxx1 := xx.cell 1 _ rfl
  have cxx2 := xx.cell 2 _ rfl
  have cxx3 := xx.cell 3 _ rfl
  have cxx4 := xx.cell 4 _ rfl
  go_wp2_with fail
  refine (HC1).mono ?_
  rintro e w18 ⟨rfl, b9⟩
  clear cxi0 cxi1 cxi2 cxi3 cxi4
  clear cxx0 cxx1 cxx2 cxx3 cxx4
  replace xi := xi.next b9
  replace xx := xx.next b9
  replace hi := hi.next b9
  replace ha := ha.next b9
  replace hF := hF.next b9
  replace bb := bb.trans (b9.mono bb.size)
  clear b9
  clear HC1
  have HWK := emitWakes_any w18 hF
  go_wp2_with (go_at_call 13; refine HWK.mono ?_; rintro e w99 ⟨rfl, b99⟩)
  go_ret
  exact ⟨rfl, bb.trans (b99.mono bb.size)⟩

set_option maxRecDepth 100000 in
set_option maxHeartbeats 8000000 in
theorem emitExact_g (c : Cfg) (s r f : Int) (a : Option Addr) (n cap : Nat) (xs : List Int) (hn : xs.length = n) (hl : n ≤ 100) (bx : ∀ z ∈ xs, 0 ≤ z ∧ z ≤ 255) (hC : okC c = true) (h1 : okE c s 0 0 n = true) (h2 : okE c s r f n = true) (w : World) (hF : Firsts w) (ha : Holds .u8 w.heap.size w (.slice a n cap) xs) :
    Calls Tryd.prog 3 #[.agg #[.int .i64 c.cB, .int .i64 c.cBeam, .int .i64 c.cDepth, .int .i64 c.cWin, .int .i64 c.cQs, .int .i64 c.cQr, .int .i64 c.cBatch, .int .i64 c.cPass, .int .i64 c.cMsg, .int .i64 c.cSeqs], .agg #[.int .i64 s, .int .i64 r, .int .i64 f, .bool false, .slice a n cap]] w fun e w' => e = .returned (.bool true) ∧ Below w.heap.size w w' := by
  have HN : Hid (xs.length = n) := hn
  have HBX : Hid (∀ z ∈ xs, 0 ≤ z ∧ z ≤ 255) := bx
  have dl : decide (100 < (n : Int)) = false := decide_eq_false (by omega)
  have dl' : decide (100 < n) = false := decide_eq_false (by omega)
  have HXL : Hid (xs.length ≤ 4294967296) := by show xs.length ≤ _; omega
  have HXM : Hid (xs.length ≤ 4611686018427387904) := by show xs.length ≤ _; omega
  have hl96 : n ≤ 4096 := by omega
  have HE1 : Hid (errE c s 0 0 n = 0) := errE_zero.2 ⟨hC, h1⟩
  have HE2 : Hid (errE c s r f n = 0) := errE_zero.2 ⟨hC, h2⟩
  have HC : Hid (okC c = true) := hC
  have H1 : Hid (okE c s 0 0 n = true) := h1
  have H2 : Hid (okE c s r f n = true) := h2
  clear h1 h2
  clear bx hn hC
  have HA : Hid (Holds .u8 w.heap.size w (.slice a n cap) xs) := ha
  have HF0 : Hid (Firsts w) := hF
  have bb := (((Below.refl w.heap.size w).alloc (Nat.le_refl _) (.cells #[.int .i64 c.cB, .int .i64 c.cBeam, .int .i64 c.cDepth, .int .i64 c.cWin, .int .i64 c.cQs, .int .i64 c.cQr, .int .i64 c.cBatch, .int .i64 c.cPass, .int .i64 c.cMsg, .int .i64 c.cSeqs] 23)).alloc (by simp) (.cells #[.int .i64 s, .int .i64 r, .int .i64 f, .bool false, .slice a n cap] 26)).alloc (by simp; omega) (.cells #[.int .i64 s, .int .i64 r, .int .i64 f, .bool false, .slice a n cap] 26)
  have xc := ((Box.new w 23 #[.int .i64 c.cB, .int .i64 c.cBeam, .int .i64 c.cDepth, .int .i64 c.cWin, .int .i64 c.cQs, .int .i64 c.cQr, .int .i64 c.cBatch, .int .i64 c.cPass, .int .i64 c.cMsg, .int .i64 c.cSeqs]).alloc (.cells #[.int .i64 s, .int .i64 r, .int .i64 f, .bool false, .slice a n cap] 26)).alloc (.cells #[.int .i64 s, .int .i64 r, .int .i64 f, .bool false, .slice a n cap] 26)
  have xx := (Box.new (w.alloc (.cells #[.int .i64 c.cB, .int .i64 c.cBeam, .int .i64 c.cDepth, .int .i64 c.cWin, .int .i64 c.cQs, .int .i64 c.cQr, .int .i64 c.cBatch, .int .i64 c.cPass, .int .i64 c.cMsg, .int .i64 c.cSeqs] 23)) 26 #[.int .i64 s, .int .i64 r, .int .i64 f, .bool false, .slice a n cap]).alloc (.cells #[.int .i64 s, .int .i64 r, .int .i64 f, .bool false, .slice a n cap] 26)
  have xi := Box.new ((w.alloc (.cells #[.int .i64 c.cB, .int .i64 c.cBeam, .int .i64 c.cDepth, .int .i64 c.cWin, .int .i64 c.cQs, .int .i64 c.cQr, .int .i64 c.cBatch, .int .i64 c.cPass, .int .i64 c.cMsg, .int .i64 c.cSeqs] 23)).alloc (.cells #[.int .i64 s, .int .i64 r, .int .i64 f, .bool false, .slice a n cap] 26)) 26 #[.int .i64 s, .int .i64 r, .int .i64 f, .bool false, .slice a n cap]
  rw [show (w.alloc (.cells #[.int .i64 c.cB, .int .i64 c.cBeam, .int .i64 c.cDepth, .int .i64 c.cWin, .int .i64 c.cQs, .int .i64 c.cQr, .int .i64 c.cBatch, .int .i64 c.cPass, .int .i64 c.cMsg, .int .i64 c.cSeqs] 23)).heap.size = w.heap.size + 1 by simp] at xx
  rw [show ((w.alloc (.cells #[.int .i64 c.cB, .int .i64 c.cBeam, .int .i64 c.cDepth, .int .i64 c.cWin, .int .i64 c.cQs, .int .i64 c.cQr, .int .i64 c.cBatch, .int .i64 c.cPass, .int .i64 c.cMsg, .int .i64 c.cSeqs] 23)).alloc (.cells #[.int .i64 s, .int .i64 r, .int .i64 f, .bool false, .slice a n cap] 26)).heap.size = w.heap.size + 1 + 1 by simp] at xi
  clear ha hF
  go_enter Tryd.func3, Tryd.ntmps3
  go_wp2_with fail
  obtain ⟨w1, hw1⟩ : ∃ W, ((w.alloc (.cells #[.int .i64 c.cB, .int .i64 c.cBeam, .int .i64 c.cDepth, .int .i64 c.cWin, .int .i64 c.cQs, .int .i64 c.cQr, .int .i64 c.cBatch, .int .i64 c.cPass, .int .i64 c.cMsg, .int .i64 c.cSeqs] 23)).alloc (.cells #[.int .i64 s, .int .i64 r, .int .i64 f, .bool false, .slice a n cap] 26)).alloc (.cells #[.int .i64 s, .int .i64 r, .int .i64 f, .bool false, .slice a n cap] 26) = W := ⟨_, rfl⟩
  have hs1 : w1.heap.size = w.heap.size + 1 + 1 + 1 := by rw [← hw1]; simp
  rw [hw1] at bb xc xx xi ⊢
  clear hw1
  have HT := twin_any (.slice a n cap) xs _ HXL.out w1 (HA.out.below bb)
  rw [HN.out] at HT
  refine HT.mono ?_
  rintro e w2 ⟨rv, rfl, o2, b2⟩
  obtain ⟨ra, rc, rfl⟩ := row_shapeP o2
  clear HT
  replace xc := xc.next b2
  replace xx := xx.next b2
  replace xi := xi.next b2
  replace bb := bb.trans (b2.mono bb.size)
  clear b2
  have cxi0 := xi.cell 0 _ rfl
  have cxi1 := xi.cell 1 _ rfl
  have cxi2 := xi.cell 2 _ rfl
  have cxi3 := xi.cell 3 _ rfl
  have cxi4 := xi.cell 4 _ rfl
  have cxc0 := xc.cell 0 _ rfl
  have cxc1 := xc.cell 1 _ rfl
  have cxc2 := xc.cell 2 _ rfl
  have cxc3 := xc.cell 3 _ rfl
  have cxc4 := xc.cell 4 _ rfl
  have cxc5 := xc.cell 5 _ rfl
  have cxc6 := xc.cell 6 _ rfl
  have cxc7 := xc.cell 7 _ rfl
  have cxc8 := xc.cell 8 _ rfl
  have cxc9 := xc.cell 9 _ rfl
  have cxx0 := xx.cell 0 _ rfl
  have cxx1 := xx.cell 1 _ rfl
  have cxx2 := xx.cell 2 _ rfl
  have cxx3 := xx.cell 3 _ rfl
  have cxx4 := xx.cell 4 _ rfl
  have fxi4 := xi.free 4
  have lxi := xi.lt
  have lxc := xc.lt
  have lxx := xx.lt
  go_wp2_with fail
  clear cxi0 cxi1 cxi2 cxi3 cxi4
  clear cxc0 cxc1 cxc2 cxc3 cxc4 cxc5 cxc6 cxc7 cxc8 cxc9
  clear cxx0 cxx1 cxx2 cxx3 cxx4
  obtain ⟨w3, hw3⟩ : ∃ W, w2.setCell ⟨w.heap.size + 1 + 1, 4, none⟩ (.slice ra n rc) = W := ⟨_, rfl⟩
  replace xc : Box w3 w.heap.size 23 #[.int .i64 c.cB, .int .i64 c.cBeam, .int .i64 c.cDepth, .int .i64 c.cWin, .int .i64 c.cQs, .int .i64 c.cQr, .int .i64 c.cBatch, .int .i64 c.cPass, .int .i64 c.cMsg, .int .i64 c.cSeqs] := hw3 ▸ xc.other (by show w.heap.size ≠ w.heap.size + 1 + 1; omega) _
  replace xx : Box w3 (w.heap.size + 1) 26 #[.int .i64 s, .int .i64 r, .int .i64 f, .bool false, .slice a n cap] := hw3 ▸ xx.other (by show w.heap.size + 1 ≠ w.heap.size + 1 + 1; omega) _
  replace xi : Box w3 (w.heap.size + 1 + 1) 26 #[.int .i64 s, .int .i64 r, .int .i64 f, .bool false, .slice ra n rc] := hw3 ▸ xi.set 4 (.slice ra n rc)
  replace bb : Below w.heap.size w w3 := hw3 ▸ bb.setCell (p := ⟨w.heap.size + 1 + 1, 4, none⟩) (by show w.heap.size ≤ w.heap.size + 1 + 1; omega) _
  have o3 : w3.ownsRow (w.heap.size + 3) 5 1 (.slice ra n rc) n (xs.map (Value.int .u8)) := by
    rw [← hw3]
    exact row_base (ownsRow_setCell_below o2 (a := ⟨w.heap.size + 1 + 1, 4, none⟩) (by show w.heap.size + 1 + 1 < _; omega) _) (by omega)
  have hi := holds_of_row o3
  have ha := (HA.out.below bb).mono bb.size
  have hF := HF0.out.next bb
  rw [hw3]
  clear hw3 o2 o3 fxi4 lxi lxc lxx hs1
  have HC1 := EmitNew_ok c s ra n rc HE1.out xs HN.out hl96 w3 hi
  refine HC1.mono ?_
  rintro e w4 ⟨na, nc, rfl, on, b9⟩
  clear HC1
  replace xc := xc.next b9
  replace xx := xx.next b9
  replace xi := xi.next b9
  replace hi := hi.next b9
  replace ha := ha.next b9
  replace hF := hF.next b9
  replace bb := bb.trans (b9.mono bb.size)
  clear b9
  have hN := holds_of_row on
  clear on
  have b9 : Below w4.heap.size w4 (w4.alloc (.cells #[.int .i64 s, .int .i64 0, .int .i64 0, .bool false, .slice na n nc] 26)) := (Below.refl _ _).alloc (Nat.le_refl _) _
  have xn := Box.new w4 26 #[.int .i64 s, .int .i64 0, .int .i64 0, .bool false, .slice na n nc]
  replace xc := xc.next b9
  replace xx := xx.next b9
  replace xi := xi.next b9
  replace hi := hi.next b9
  replace ha := ha.next b9
  replace hF := hF.next b9
  replace hN := hN.next b9
  replace bb := bb.trans (b9.mono bb.size)
  clear b9
  have HC1 := EmitCheck_any c s r f false ra n rc hl96 (w4.alloc (.cells #[.int .i64 s, .int .i64 0, .int .i64 0, .bool false, .slice na n nc] 26))
  rw [HE2.out] at HC1
  have cxc0 := xc.cell 0 _ rfl
  have cxc1 := xc.cell 1 _ rfl
  have cxc2 := xc.cell 2 _ rfl
  have cxc3 := xc.cell 3 _ rfl
  have cxc4 := xc.cell 4 _ rfl
  have cxc5 := xc.cell 5 _ rfl
  have cxc6 := xc.cell 6 _ rfl
  have cxc7 := xc.cell 7 _ rfl
  have cxc8 := xc.cell 8 _ rfl
  have cxc9 := xc.cell 9 _ rfl
  have cxi0 := xi.cell 0 _ rfl
  have cxi1 := xi.cell 1 _ rfl
  have cxi2 := xi.cell 2 _ rfl
  have cxi3 := xi.cell 3 _ rfl
  have cxi4 := xi.cell 4 _ rfl
  go_wp2_with fail
  refine (HC1).mono ?_
  rintro e w5 ⟨rfl, b9⟩
  clear cxc0 cxc1 cxc2 cxc3 cxc4 cxc5 cxc6 cxc7 cxc8 cxc9
  clear cxi0 cxi1 cxi2 cxi3 cxi4
  replace xc := xc.next b9
  replace xx := xx.next b9
  replace xi := xi.next b9
  replace hi := hi.next b9
  replace ha := ha.next b9
  replace hF := hF.next b9
  replace hN := hN.next b9
  replace xn := xn.next b9
  replace bb := bb.trans (b9.mono bb.size)
  clear b9
  clear HC1
  have HC1 := EmitTick_go c s r f ra n rc HE2.out xs HN.out HBX.out w5 hF hi
  obtain ⟨RR, hRR⟩ : ∃ x, emR c r f = x := ⟨_, rfl⟩
  obtain ⟨FF, hFF⟩ : ∃ x, emF c f + emN c f = x := ⟨_, rfl⟩
  obtain ⟨NN, hNN⟩ : ∃ x, (emN c f).toNat + 11 = x := ⟨_, rfl⟩
  obtain ⟨PP, hPP⟩ : ∃ x, emP c s r f xs = x := ⟨_, rfl⟩
  have hN64 : NN ≤ 4096 := by have hb := (okE_iff _ _ _ _ _).1 H2.out; have := emN_bd HC.out hb.2.2.2.1 hb.2.2.2.2; omega
  have HPL : Hid (PP.length ≤ 4611686018427387904) := by show PP.length ≤ _; rw [← hPP, emP_len]; omega
  rw [hRR, hFF, hNN, hPP] at HC1
  have HRR : Hid (emR c r f = RR) := hRR
  have HFF : Hid (emF c f + emN c f = FF) := hFF
  have HNN : Hid ((emN c f).toNat + 11 = NN) := hNN
  have HPP : Hid (emP c s r f xs = PP) := hPP
  clear hRR hFF hNN hPP
  have HXI : Hid (Box w5 (w.heap.size + 1 + 1) 26 #[.int .i64 s, .int .i64 r, .int .i64 f, .bool false, .slice ra n rc]) := xi
  have HXX : Hid (Box w5 (w.heap.size + 1) 26 #[.int .i64 s, .int .i64 r, .int .i64 f, .bool false, .slice a n cap]) := xx
  have HHI : Hid (Holds .u8 w5.heap.size w5 (.slice ra n rc) xs) := hi
  have HHA : Hid (Holds .u8 w5.heap.size w5 (.slice a n cap) xs) := ha
  have HFW : Hid (Firsts w5) := hF
  have HBB : Hid (Below w.heap.size w w5) := bb
  have cxc0 := xc.cell 0 _ rfl
  have cxc1 := xc.cell 1 _ rfl
  have cxc2 := xc.cell 2 _ rfl
  have cxc3 := xc.cell 3 _ rfl
  have cxc4 := xc.cell 4 _ rfl
  have cxc5 := xc.cell 5 _ rfl
  have cxc6 := xc.cell 6 _ rfl
  have cxc7 := xc.cell 7 _ rfl
  have cxc8 := xc.cell 8 _ rfl
  have cxc9 := xc.cell 9 _ rfl
  have cxi0 := xi.cell 0 _ rfl
  have cxi1 := xi.cell 1 _ rfl
  have cxi2 := xi.cell 2 _ rfl
  have cxi3 := xi.cell 3 _ rfl
  have cxi4 := xi.cell 4 _ rfl
  go_wp2_with fail
  refine (HC1).mono ?_
  rintro e w6 ⟨ta, tc, qa, qc, rfl, ot, oq, hap, b9⟩
  clear cxc0 cxc1 cxc2 cxc3 cxc4 cxc5 cxc6 cxc7 cxc8 cxc9
  clear cxi0 cxi1 cxi2 cxi3 cxi4
  clear HC1
  replace xc := xc.next b9
  replace xx := xx.next b9
  replace xi := xi.next b9
  replace hi := hi.next b9
  replace ha := ha.next b9
  replace hF := hF.next b9
  replace hN := hN.next b9
  replace xn := xn.next b9
  replace bb := bb.trans (b9.mono bb.size)
  have sT : Since w5 w6 := b9
  have ht := holds_of_row ot
  have oT : OwnB w6 w5.heap.size (.slice ta n tc) n xs := ot
  have hq := holds_of_row oq
  have oQ : OwnB w6 w5.heap.size (.slice qa NN qc) NN PP := oq
  have hltQ : Hid (∀ g, (Value.slice qa NN qc).ownBlock = some g → g ≠ w6.heap.size) := fun g e => Nat.ne_of_lt (oq.lt g e).2
  have HAP : Hid _ := hap
  clear oq hap
  clear ot
  clear b9
  have b9 : Below w6.heap.size w6 (w6.alloc (.cells #[.int .i64 s, .int .i64 RR, .int .i64 FF, .bool false, .slice ta n tc] 26)) := (Below.refl _ _).alloc (Nat.le_refl _) _
  have xt := Box.new w6 26 #[.int .i64 s, .int .i64 RR, .int .i64 FF, .bool false, .slice ta n tc]
  replace xc := xc.next b9
  replace xx := xx.next b9
  replace xi := xi.next b9
  replace hi := hi.next b9
  replace ha := ha.next b9
  replace hF := hF.next b9
  replace hN := hN.next b9
  replace xn := xn.next b9
  replace ht := ht.next b9
  replace sT := sT.next b9
  replace oT := oT.next b9
  replace hq := hq.next b9
  replace oQ := oQ.next b9
  replace bb := bb.trans (b9.mono bb.size)
  clear b9
  have HC1 := keepEmit_any s r f s r f false false (.slice ra n rc) (.slice a n cap) xs xs _ _ _ (Nat.le_refl _) (Nat.le_refl _) HXM.out hi ha
  rw [decide_eq_true ⟨rfl, rfl, rfl, rfl, rfl⟩] at HC1
  have cxi0 := xi.cell 0 _ rfl
  have cxi1 := xi.cell 1 _ rfl
  have cxi2 := xi.cell 2 _ rfl
  have cxi3 := xi.cell 3 _ rfl
  have cxi4 := xi.cell 4 _ rfl
  have cxx0 := xx.cell 0 _ rfl
  have cxx1 := xx.cell 1 _ rfl
  have cxx2 := xx.cell 2 _ rfl
  have cxx3 := xx.cell 3 _ rfl
  have cxx4 := xx.cell 4 _ rfl
  go_wp2_with fail
  refine (HC1).mono ?_
  rintro e w7 ⟨rfl, b9⟩
  clear cxi0 cxi1 cxi2 cxi3 cxi4
  clear cxx0 cxx1 cxx2 cxx3 cxx4
  replace xc := xc.next b9
  replace xx := xx.next b9
  replace xi := xi.next b9
  replace hi := hi.next b9
  replace ha := ha.next b9
  replace hF := hF.next b9
  replace hN := hN.next b9
  replace xn := xn.next b9
  replace ht := ht.next b9
  replace sT := sT.next b9
  replace oT := oT.next b9
  replace hq := hq.next b9
  replace oQ := oQ.next b9
  replace xt := xt.next b9
  replace bb := bb.trans (b9.mono bb.size)
  clear b9
  clear HC1
  have HC1 := refConfig_any c w7
  rw [HC.out] at HC1
  have cxc0 := xc.cell 0 _ rfl
  have cxc1 := xc.cell 1 _ rfl
  have cxc2 := xc.cell 2 _ rfl
  have cxc3 := xc.cell 3 _ rfl
  have cxc4 := xc.cell 4 _ rfl
  have cxc5 := xc.cell 5 _ rfl
  have cxc6 := xc.cell 6 _ rfl
  have cxc7 := xc.cell 7 _ rfl
  have cxc8 := xc.cell 8 _ rfl
  have cxc9 := xc.cell 9 _ rfl
  have cxx0 := xx.cell 0 _ rfl
  have cxx1 := xx.cell 1 _ rfl
  have cxx2 := xx.cell 2 _ rfl
  have cxx3 := xx.cell 3 _ rfl
  have cxx4 := xx.cell 4 _ rfl
  go_wp2_with fail
  refine (HC1).mono ?_
  rintro e w8 ⟨rfl, b9⟩
  clear cxc0 cxc1 cxc2 cxc3 cxc4 cxc5 cxc6 cxc7 cxc8 cxc9
  clear cxx0 cxx1 cxx2 cxx3 cxx4
  replace xc := xc.next b9
  replace xx := xx.next b9
  replace xi := xi.next b9
  replace hi := hi.next b9
  replace ha := ha.next b9
  replace hF := hF.next b9
  replace hN := hN.next b9
  replace xn := xn.next b9
  replace ht := ht.next b9
  replace sT := sT.next b9
  replace oT := oT.next b9
  replace hq := hq.next b9
  replace oQ := oQ.next b9
  replace xt := xt.next b9
  replace bb := bb.trans (b9.mono bb.size)
  clear b9
  clear HC1
  have HC1 := refEmit_any c HC.out s 0 0 false a n cap w8
  rw [H1.out] at HC1
  have cxc0 := xc.cell 0 _ rfl
  have cxc1 := xc.cell 1 _ rfl
  have cxc2 := xc.cell 2 _ rfl
  have cxc3 := xc.cell 3 _ rfl
  have cxc4 := xc.cell 4 _ rfl
  have cxc5 := xc.cell 5 _ rfl
  have cxc6 := xc.cell 6 _ rfl
  have cxc7 := xc.cell 7 _ rfl
  have cxc8 := xc.cell 8 _ rfl
  have cxc9 := xc.cell 9 _ rfl
  have cxx0 := xx.cell 0 _ rfl
  have cxx1 := xx.cell 1 _ rfl
  have cxx2 := xx.cell 2 _ rfl
  have cxx3 := xx.cell 3 _ rfl
  have cxx4 := xx.cell 4 _ rfl
  go_wp2_with fail
  refine (HC1).mono ?_
  rintro e w9 ⟨rfl, b9⟩
  clear cxc0 cxc1 cxc2 cxc3 cxc4 cxc5 cxc6 cxc7 cxc8 cxc9
  clear cxx0 cxx1 cxx2 cxx3 cxx4
  replace xc := xc.next b9
  replace xx := xx.next b9
  replace xi := xi.next b9
  replace hi := hi.next b9
  replace ha := ha.next b9
  replace hF := hF.next b9
  replace hN := hN.next b9
  replace xn := xn.next b9
  replace ht := ht.next b9
  replace sT := sT.next b9
  replace oT := oT.next b9
  replace hq := hq.next b9
  replace oQ := oQ.next b9
  replace xt := xt.next b9
  replace bb := bb.trans (b9.mono bb.size)
  clear b9
  clear HC1
  have HC1 := keepEmit_any s 0 0 s 0 0 false false (.slice na n nc) (.slice a n cap) xs xs _ _ _ (Nat.le_refl _) (Nat.le_refl _) HXM.out hN ha
  rw [decide_eq_true ⟨rfl, rfl, rfl, rfl, rfl⟩] at HC1
  have cxn0 := xn.cell 0 _ rfl
  have cxn1 := xn.cell 1 _ rfl
  have cxn2 := xn.cell 2 _ rfl
  have cxn3 := xn.cell 3 _ rfl
  have cxn4 := xn.cell 4 _ rfl
  have cxx0 := xx.cell 0 _ rfl
  have cxx1 := xx.cell 1 _ rfl
  have cxx2 := xx.cell 2 _ rfl
  have cxx3 := xx.cell 3 _ rfl
  have cxx4 := xx.cell 4 _ rfl
  go_wp2_with fail
  refine (HC1).mono ?_
  rintro e w10 ⟨rfl, b9⟩
  clear cxn0 cxn1 cxn2 cxn3 cxn4
  clear cxx0 cxx1 cxx2 cxx3 cxx4
  replace xc := xc.next b9
  replace xx := xx.next b9
  replace xi := xi.next b9
  replace hi := hi.next b9
  replace ha := ha.next b9
  replace hF := hF.next b9
  replace hN := hN.next b9
  replace xn := xn.next b9
  replace ht := ht.next b9
  replace sT := sT.next b9
  replace oT := oT.next b9
  replace hq := hq.next b9
  replace oQ := oQ.next b9
  replace xt := xt.next b9
  replace bb := bb.trans (b9.mono bb.size)
  clear b9
  clear HC1
  have HC1 := refConfig_any c w10
  rw [HC.out] at HC1
  have cxc0 := xc.cell 0 _ rfl
  have cxc1 := xc.cell 1 _ rfl
  have cxc2 := xc.cell 2 _ rfl
  have cxc3 := xc.cell 3 _ rfl
  have cxc4 := xc.cell 4 _ rfl
  have cxc5 := xc.cell 5 _ rfl
  have cxc6 := xc.cell 6 _ rfl
  have cxc7 := xc.cell 7 _ rfl
  have cxc8 := xc.cell 8 _ rfl
  have cxc9 := xc.cell 9 _ rfl
  have cxx0 := xx.cell 0 _ rfl
  have cxx1 := xx.cell 1 _ rfl
  have cxx2 := xx.cell 2 _ rfl
  have cxx3 := xx.cell 3 _ rfl
  have cxx4 := xx.cell 4 _ rfl
  go_wp2_with fail
  refine (HC1).mono ?_
  rintro e w11 ⟨rfl, b9⟩
  clear cxc0 cxc1 cxc2 cxc3 cxc4 cxc5 cxc6 cxc7 cxc8 cxc9
  clear cxx0 cxx1 cxx2 cxx3 cxx4
  replace xc := xc.next b9
  replace xx := xx.next b9
  replace xi := xi.next b9
  replace hi := hi.next b9
  replace ha := ha.next b9
  replace hF := hF.next b9
  replace hN := hN.next b9
  replace xn := xn.next b9
  replace ht := ht.next b9
  replace sT := sT.next b9
  replace oT := oT.next b9
  replace hq := hq.next b9
  replace oQ := oQ.next b9
  replace xt := xt.next b9
  replace bb := bb.trans (b9.mono bb.size)
  clear b9
  clear HC1
  have HC1 := refEmit_any c HC.out s r f false a n cap w11
  rw [H2.out] at HC1
  have cxc0 := xc.cell 0 _ rfl
  have cxc1 := xc.cell 1 _ rfl
  have cxc2 := xc.cell 2 _ rfl
  have cxc3 := xc.cell 3 _ rfl
  have cxc4 := xc.cell 4 _ rfl
  have cxc5 := xc.cell 5 _ rfl
  have cxc6 := xc.cell 6 _ rfl
  have cxc7 := xc.cell 7 _ rfl
  have cxc8 := xc.cell 8 _ rfl
  have cxc9 := xc.cell 9 _ rfl
  have cxx0 := xx.cell 0 _ rfl
  have cxx1 := xx.cell 1 _ rfl
  have cxx2 := xx.cell 2 _ rfl
  have cxx3 := xx.cell 3 _ rfl
  have cxx4 := xx.cell 4 _ rfl
  go_wp2_with fail
  refine (HC1).mono ?_
  rintro e w12 ⟨rfl, b9⟩
  clear cxc0 cxc1 cxc2 cxc3 cxc4 cxc5 cxc6 cxc7 cxc8 cxc9
  clear cxx0 cxx1 cxx2 cxx3 cxx4
  replace xc := xc.next b9
  replace xx := xx.next b9
  replace xi := xi.next b9
  replace hi := hi.next b9
  replace ha := ha.next b9
  replace hF := hF.next b9
  replace hN := hN.next b9
  replace xn := xn.next b9
  replace ht := ht.next b9
  replace sT := sT.next b9
  replace oT := oT.next b9
  replace hq := hq.next b9
  replace oQ := oQ.next b9
  replace xt := xt.next b9
  replace bb := bb.trans (b9.mono bb.size)
  clear b9
  clear HC1
  have HC1 := refTick_go c HC.out s r f a n cap xs HN.out HBX.out H2.out w12 ha
  rw [HRR.out, HFF.out, HNN.out, HPP.out] at HC1
  have cxc0 := xc.cell 0 _ rfl
  have cxc1 := xc.cell 1 _ rfl
  have cxc2 := xc.cell 2 _ rfl
  have cxc3 := xc.cell 3 _ rfl
  have cxc4 := xc.cell 4 _ rfl
  have cxc5 := xc.cell 5 _ rfl
  have cxc6 := xc.cell 6 _ rfl
  have cxc7 := xc.cell 7 _ rfl
  have cxc8 := xc.cell 8 _ rfl
  have cxc9 := xc.cell 9 _ rfl
  have cxx0 := xx.cell 0 _ rfl
  have cxx1 := xx.cell 1 _ rfl
  have cxx2 := xx.cell 2 _ rfl
  have cxx3 := xx.cell 3 _ rfl
  have cxx4 := xx.cell 4 _ rfl
  go_wp2_with fail
  refine (HC1).mono ?_
  rintro e w13 ⟨ga, gc, ua, uc, rfl, og, ou, b9⟩
  clear cxc0 cxc1 cxc2 cxc3 cxc4 cxc5 cxc6 cxc7 cxc8 cxc9
  clear cxx0 cxx1 cxx2 cxx3 cxx4
  replace xc := xc.next b9
  replace xx := xx.next b9
  replace xi := xi.next b9
  replace hi := hi.next b9
  replace ha := ha.next b9
  replace hF := hF.next b9
  replace hN := hN.next b9
  replace xn := xn.next b9
  replace ht := ht.next b9
  replace sT := sT.next b9
  replace oT := oT.next b9
  replace hq := hq.next b9
  replace oQ := oQ.next b9
  replace xt := xt.next b9
  replace bb := bb.trans (b9.mono bb.size)
  clear b9
  clear HC1
  have hg := holds_of_row og
  clear og
  have hu := holds_of_row ou
  clear ou
  have b9 : Below w13.heap.size w13 (w13.alloc (.cells #[.int .i64 s, .int .i64 RR, .int .i64 FF, .bool false, .slice ga n gc] 26)) := (Below.refl _ _).alloc (Nat.le_refl _) _
  have xg := Box.new w13 26 #[.int .i64 s, .int .i64 RR, .int .i64 FF, .bool false, .slice ga n gc]
  replace xc := xc.next b9
  replace xx := xx.next b9
  replace xi := xi.next b9
  replace hi := hi.next b9
  replace ha := ha.next b9
  replace hF := hF.next b9
  replace hN := hN.next b9
  replace xn := xn.next b9
  replace ht := ht.next b9
  replace sT := sT.next b9
  replace oT := oT.next b9
  replace hq := hq.next b9
  replace oQ := oQ.next b9
  replace xt := xt.next b9
  replace hg := hg.next b9
  replace hu := hu.next b9
  replace bb := bb.trans (b9.mono bb.size)
  clear b9
  have HC1 := keepEmit_any s RR FF s RR FF false false (.slice ta n tc) (.slice ga n gc) xs xs _ _ _ (Nat.le_refl _) (Nat.le_refl _) HXM.out ht hg
  rw [decide_eq_true ⟨rfl, rfl, rfl, rfl, rfl⟩] at HC1
  have cxt0 := xt.cell 0 _ rfl
  have cxt1 := xt.cell 1 _ rfl
  have cxt2 := xt.cell 2 _ rfl
  have cxt3 := xt.cell 3 _ rfl
  have cxt4 := xt.cell 4 _ rfl
  have cxg0 := xg.cell 0 _ rfl
  have cxg1 := xg.cell 1 _ rfl
  have cxg2 := xg.cell 2 _ rfl
  have cxg3 := xg.cell 3 _ rfl
  have cxg4 := xg.cell 4 _ rfl
  go_wp2_with fail
  refine (HC1).mono ?_
  rintro e w14 ⟨rfl, b9⟩
  clear cxt0 cxt1 cxt2 cxt3 cxt4
  clear cxg0 cxg1 cxg2 cxg3 cxg4
  replace xc := xc.next b9
  replace xx := xx.next b9
  replace xi := xi.next b9
  replace hi := hi.next b9
  replace ha := ha.next b9
  replace hF := hF.next b9
  replace hN := hN.next b9
  replace xn := xn.next b9
  replace ht := ht.next b9
  replace sT := sT.next b9
  replace oT := oT.next b9
  replace hq := hq.next b9
  replace oQ := oQ.next b9
  replace xt := xt.next b9
  replace hg := hg.next b9
  replace hu := hu.next b9
  replace xg := xg.next b9
  replace bb := bb.trans (b9.mono bb.size)
  clear b9
  clear HC1
  have HC1 := bytes_any (.slice qa NN qc) (.slice ua NN uc) PP PP _ _ w14 HPL.out hq hu
  rw [decide_eq_true rfl] at HC1
  go_wp2_with fail
  refine (HC1).mono ?_
  rintro e wx ⟨rfl, q, rfl⟩
  have b9 : Below w14.heap.size w14 (w14.drewN q) := below_drewN (Below.refl _ _) q
  replace xc := xc.next b9
  replace xx := xx.next b9
  replace xi := xi.next b9
  replace hi := hi.next b9
  replace ha := ha.next b9
  replace hF := hF.next b9
  replace hN := hN.next b9
  replace xn := xn.next b9
  replace ht := ht.next b9
  replace sT := sT.next b9
  replace oT := oT.next b9
  replace hq := hq.next b9
  replace oQ := oQ.next b9
  replace xt := xt.next b9
  replace hg := hg.next b9
  replace hu := hu.next b9
  replace xg := xg.next b9
  replace bb := bb.trans (b9.mono bb.size)
  clear b9
  generalize w14.drewN q = w15 at *
  clear HC1
  have HC1 := spoilBytes_own (.slice qa NN qc) NN w5.heap.size PP (by omega) w15 oQ
  go_wp2_with fail
  refine HC1.mono ?_
  rintro e w16 ⟨rfl, b9, hsz9, hoth⟩
  clear HC1
  have oT2 : OwnB w16 w5.heap.size (.slice ta n tc) n xs := row_same oT (fun g hg => hoth g (fun e => HAP.out g hg e.symm))
  have xt2 : Box w16 w6.heap.size 26 #[.int .i64 s, .int .i64 RR, .int .i64 FF, .bool false, .slice ta n tc] := (hoth _ (fun e => hltQ.out _ e.symm rfl)).trans xt
  have bS : Below w5.heap.size w5 w16 := sT.out.trans b9
  clear oT xt xc xx xi hi ha hF hN ht hq hg hu xn xg oQ sT bb b9 hoth hsz9
  have oT := oT2
  have xt := xt2
  clear oT2 xt2
  have HC1 := spoilBytes_own (.slice ta n tc) n w5.heap.size xs (by omega) w16 oT
  have cxt0 := xt.cell 0 _ rfl
  have cxt1 := xt.cell 1 _ rfl
  have cxt2 := xt.cell 2 _ rfl
  have cxt3 := xt.cell 3 _ rfl
  have cxt4 := xt.cell 4 _ rfl
  go_wp2_with fail
  refine HC1.mono ?_
  rintro e w17 ⟨rfl, b9, _, _⟩
  clear HC1
  clear cxt0 cxt1 cxt2 cxt3 cxt4
  replace bS := bS.trans b9
  clear xt b9 oT
  have xi := HXI.out.next bS
  have xx := HXX.out.next bS
  have hi := HHI.out.next bS
  have ha := HHA.out.next bS
  have hF := HFW.out.next bS
  have bb := HBB.out.trans (bS.mono HBB.out.size)
  have HC1 := keepEmit_any s r f s r f false false (.slice ra n rc) (.slice a n cap) xs xs _ _ _ (Nat.le_refl _) (Nat.le_refl _) HXM.out hi ha
  rw [decide_eq_true ⟨rfl, rfl, rfl, rfl, rfl⟩] at HC1
  have cxi0 := xi.cell 0 _ rfl
  have cxi1 := xi.cell 1 _ rfl
  have cxi2 := xi.cell 2 _ rfl
  have cxi3 := xi.cell 3 _ rfl
  have cxi4 := xi.cell 4 _ rfl
  have cxx0 := xx.cell 0 _ rfl
  have cxx1 := xx.cell 1 _ rfl
  have cxx2 := xx.cell 2 _ rfl
  have cxx3 := xx.cell 3 _ rfl
  have cxx4 := xx.cell 4 _ rfl
  go_wp2_with fail
  refine (HC1).mono ?_
  rintro e w18 ⟨rfl, b9⟩
  clear cxi0 cxi1 cxi2 cxi3 cxi4
  clear cxx0 cxx1 cxx2 cxx3 cxx4
  replace xi := xi.next b9
  replace xx := xx.next b9
  replace hi := hi.next b9
  replace ha := ha.next b9
  replace hF := hF.next b9
  replace bb := bb.trans (b9.mono bb.size)
  clear b9
  clear HC1
  have HWK := emitWakes_any w18 hF
  go_wp2_with (go_at_call 13; refine HWK.mono ?_; rintro e w99 ⟨rfl, b99⟩)
  go_ret
  exact ⟨rfl, bb.trans (b99.mono bb.size)⟩

set_option maxRecDepth 100000 in
set_option maxHeartbeats 1000000 in
theorem emitExact_long (c : Cfg) (s r f : Int) (k : Bool) (a : Option Addr) (n cap : Nat) (hl : 100 < n) (w : World) :
    Calls Tryd.prog 3 #[.agg #[.int .i64 c.cB, .int .i64 c.cBeam, .int .i64 c.cDepth, .int .i64 c.cWin, .int .i64 c.cQs, .int .i64 c.cQr, .int .i64 c.cBatch, .int .i64 c.cPass, .int .i64 c.cMsg, .int .i64 c.cSeqs], .agg #[.int .i64 s, .int .i64 r, .int .i64 f, .bool k, .slice a n cap]] w fun e w' => e = .returned (.bool true) ∧ Below w.heap.size w w' := by
  have dl : decide (100 < (n : Int)) = true := decide_eq_true (by omega)
  have dl' : decide (100 < n) = true := decide_eq_true hl
  have bb := ((Below.refl w.heap.size w).alloc (Nat.le_refl _) (.cells #[.int .i64 c.cB, .int .i64 c.cBeam, .int .i64 c.cDepth, .int .i64 c.cWin, .int .i64 c.cQs, .int .i64 c.cQr, .int .i64 c.cBatch, .int .i64 c.cPass, .int .i64 c.cMsg, .int .i64 c.cSeqs] 23)).alloc (by simp) (.cells #[.int .i64 s, .int .i64 r, .int .i64 f, .bool k, .slice a n cap] 26)
  clear hl
  go_enter Tryd.func3, Tryd.ntmps3
  go_wp2
  go_ret
  exact ⟨rfl, bb⟩

/-- The law, of whatever configuration and block. -/
theorem emitExact_walk (c : Cfg) (s r f : Int) (k : Bool) (a : Option Addr) (len cap : Nat) (z1 : List Int) (w : World) (hF : Firsts w) (h1 : IsRow .u8 w a len cap z1) :
    Calls Tryd.prog 3 #[.agg #[.int .i64 c.cB, .int .i64 c.cBeam, .int .i64 c.cDepth, .int .i64 c.cWin, .int .i64 c.cQs, .int .i64 c.cQr, .int .i64 c.cBatch, .int .i64 c.cPass, .int .i64 c.cMsg, .int .i64 c.cSeqs], .agg #[.int .i64 s, .int .i64 r, .int .i64 f, .bool k, .slice a len cap]] w fun e w' => e = .returned (.bool true) ∧ Below w.heap.size w w' := by
  obtain ⟨xs, rfl, hx, bx⟩ := holds_of_isRow h1
  by_cases hl : 100 < xs.length
  · exact emitExact_long c s r f k a _ cap hl w
  have bx := bytes_bd bx
  cases hC : okC c
  · exact emitExact_c c s r f k a _ cap xs rfl (by omega) bx hC w hF hx
  cases h2 : okE c s r f xs.length
  · cases h1 : okE c s 0 0 xs.length
    · exact emitExact_d c s r f k a _ cap xs rfl (by omega) bx hC h1 h2 w hF hx
    · exact emitExact_e c s r f k a _ cap xs rfl (by omega) bx hC h1 h2 w hF hx
  have h1 : okE c s 0 0 xs.length = true := by
    have := (okE_iff _ _ _ _ _).1 h2
    have hm := mostC_bd hC
    exact (okE_iff _ _ _ _ _).2 ⟨this.1, this.2.1, by omega, by omega⟩
  cases k
  · exact emitExact_g c s r f a _ cap xs rfl (by omega) bx hC h1 h2 w hF hx
  · exact emitExact_f c s r f a _ cap xs rfl (by omega) bx hC h1 h2 w hF hx

end Go.Proofs.YtnecdbmdgpoogaaDoor
