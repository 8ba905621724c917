/-
  BlockUnlike: the walk: whatever the size and the two blocks, the law answers true, and nothing that lay has turned. (Written by tpl_blockunlike.py.)
-/
import Derived.Test.YtejpnjegahbaoaaBlockReadsWalk
import Derived.Test.YtejpnjegahbaoaaCrcBurstWalk
import Derived.Test.YtejpnjegahbaoaaRegionHand
import Derived.Deep.Cut
import Derived.Deep.CutRange
import Derived.Deep.DeepCutAuto
namespace Go.Proofs.Ytejpnjegahbaoaa
open Go.RowKit

/-- A number below 2^30 and its four bytes. -/
theorem four_of {s : Int} (h0 : 0 ≤ s) (h1 : s < 1073741824) : ∃ x0 x1 x2 x3 : Int, beBytes 4 s = [x0, x1, x2, x3] ∧ (0 ≤ x0 ∧ x0 ≤ 255) ∧ (0 ≤ x1 ∧ x1 ≤ 255) ∧ (0 ≤ x2 ∧ x2 ≤ 255) ∧ (0 ≤ x3 ∧ x3 ≤ 255) ∧ s = x0 * 16777216 + x1 * 65536 + x2 * 256 + x3 := by
  refine ⟨_, _, _, _, beBytes_four s, ?_⟩
  have e1 : (2 : Int) ^ 24 = 16777216 := by decide
  have e2 : (2 : Int) ^ 16 = 65536 := by decide
  have e3 : (2 : Int) ^ 8 = 256 := by decide
  have e4 : (2 : Int) ^ 0 = 1 := by decide
  rw [e1, e2, e3, e4]
  omega
theorem or_four {x0 x1 x2 x3 : Int} (h0 : 0 ≤ x0 ∧ x0 ≤ 255) (h1 : 0 ≤ x1 ∧ x1 ≤ 255) (h2 : 0 ≤ x2 ∧ x2 ≤ 255) (h3 : 0 ≤ x3 ∧ x3 ≤ 255) :
    bits .or .i64 (x0 * 16777216) (x1 * 65536) = x0 * 16777216 + x1 * 65536 ∧ bits .or .i64 (x0 * 16777216 + x1 * 65536) (x2 * 256) = x0 * 16777216 + x1 * 65536 + x2 * 256 ∧ bits .or .i64 (x0 * 16777216 + x1 * 65536 + x2 * 256) x3 = x0 * 16777216 + x1 * 65536 + x2 * 256 + x3 := by
  have e63 : (2 : Int) ^ 63 = 9223372036854775808 := by decide
  have e24 : (2 : Int) ^ 24 = 16777216 := by decide
  have e16 : (2 : Int) ^ 16 = 65536 := by decide
  have e8 : (2 : Int) ^ 8 = 256 := by decide
  refine ⟨?_, ?_, ?_⟩
  · exact bits_join .i64 63 (by decide) wraps_i64 24 _ _ (by omega) (by rw [e24]; omega) (by rw [e63]; omega) (by omega) (by rw [e24]; omega) (by rw [e63]; omega)
  · exact bits_join .i64 63 (by decide) wraps_i64 16 _ _ (by omega) (by rw [e16]; omega) (by rw [e63]; omega) (by omega) (by rw [e16]; omega) (by rw [e63]; omega)
  · exact bits_join .i64 63 (by decide) wraps_i64 8 _ _ (by omega) (by rw [e8]; omega) (by rw [e63]; omega) (by omega) (by rw [e8]; omega) (by rw [e63]; omega)

set_option maxRecDepth 100000 in
set_option maxHeartbeats 4000000 in
theorem blockUnlike_nn (z : Int) (s m : Int) (a : Option Addr) (cap : Nat) (xs : List Int) (hl : xs.length ≤ 100) (bx : ∀ z ∈ xs, 0 ≤ z ∧ z ≤ 255) (s' m' : Int) (a' : Option Addr) (cap' : Nat) (ys : List Int) (hl' : ys.length ≤ 100) (by' : ∀ z ∈ ys, 0 ≤ z ∧ z ≤ 255) (hA : errB z s m xs.length ≠ 0) (hB : errB z s' m' ys.length ≠ 0) (w : World) (ha : Holds .u8 w.heap.size w (.slice a xs.length cap) xs) (hb : Holds .u8 w.heap.size w (.slice a' ys.length cap') ys) :
    Calls Try.prog 6 #[.int .i64 z, .agg #[.int .i64 s, .int .i64 m, .slice a xs.length cap], .agg #[.int .i64 s', .int .i64 m', .slice a' ys.length cap']] w fun e w' => e = .returned (.bool true) ∧ Below w.heap.size w w' := by
  have HBX : Hid (∀ z ∈ xs, 0 ≤ z ∧ z ≤ 255) := bx
  have HBY : Hid (∀ z ∈ ys, 0 ≤ z ∧ z ≤ 255) := by'
  have dl : decide (100 < (xs.length : Int)) = false := decide_eq_false (by omega)
  have dm : decide (100 < xs.length) = false := decide_eq_false (by omega)
  have dl' : decide (100 < (ys.length : Int)) = false := decide_eq_false (by omega)
  have dm' : decide (100 < ys.length) = false := decide_eq_false (by omega)
  have bb : Below w.heap.size w ((w.alloc (.cells #[.int .i64 s, .int .i64 m, .slice a xs.length cap] 24)).alloc (.cells #[.int .i64 s', .int .i64 m', .slice a' ys.length cap'] 24)) := ((Below.refl w.heap.size w).alloc (Nat.le_refl _) _).alloc (by simp) _
  have xa : Box ((w.alloc (.cells #[.int .i64 s, .int .i64 m, .slice a xs.length cap] 24)).alloc (.cells #[.int .i64 s', .int .i64 m', .slice a' ys.length cap'] 24)) w.heap.size 24 #[.int .i64 s, .int .i64 m, .slice a xs.length cap] := (Box.new w _ _).alloc _
  have xb : Box ((w.alloc (.cells #[.int .i64 s, .int .i64 m, .slice a xs.length cap] 24)).alloc (.cells #[.int .i64 s', .int .i64 m', .slice a' ys.length cap'] 24)) (w.heap.size + 1) 24 #[.int .i64 s', .int .i64 m', .slice a' ys.length cap'] := by
    have := Box.new (w.alloc (.cells #[.int .i64 s, .int .i64 m, .slice a xs.length cap] 24)) 24 #[.int .i64 s', .int .i64 m', .slice a' ys.length cap']
    simpa using this
  replace ha := ha.next bb
  replace hb := hb.next bb
  obtain ⟨E, hE⟩ : ∃ E, errB z s m xs.length = E := ⟨_, rfl⟩
  have HhA : Hid (errB z s m xs.length ≠ 0) := hA
  have HEhA : Hid (errB z s m xs.length = E) := hE
  rw [hE] at hA
  have dhA : (E != 0) = true := by simp [hA]
  have ehA : (E == 0) = false := by simp [hA]
  clear hE hA
  obtain ⟨E', hE'⟩ : ∃ E, errB z s' m' ys.length = E := ⟨_, rfl⟩
  have HhB : Hid (errB z s' m' ys.length ≠ 0) := hB
  have HEhB : Hid (errB z s' m' ys.length = E') := hE'
  rw [hE'] at hB
  have dhB : (E' != 0) = true := by simp [hB]
  have ehB : (E' == 0) = false := by simp [hB]
  clear hE' hB
  clear bx by'
  go_enter Try.func6, Try.ntmps6
  have HC := Make_no z s m a xs.length cap HhA.out ((w.alloc (.cells #[.int .i64 s, .int .i64 m, .slice a xs.length cap] 24)).alloc (.cells #[.int .i64 s', .int .i64 m', .slice a' ys.length cap'] 24))
  rw [HEhA.out] at HC
  have cxa0 := xa.cell 0 _ rfl
  have cxa1 := xa.cell 1 _ rfl
  have cxa2 := xa.cell 2 _ rfl
  go_wp2_with fail
  refine (HC).mono ?_
  rintro e w1 ⟨rfl, b9⟩
  clear cxa0 cxa1 cxa2
  replace xa := xa.next b9
  replace xb := xb.next b9
  replace ha := ha.next b9
  replace hb := hb.next b9
  replace bb := bb.trans (b9.mono bb.size)
  clear b9
  clear HC
  have HC := Make_no z s' m' a' ys.length cap' HhB.out w1
  rw [HEhB.out] at HC
  have cxb0 := xb.cell 0 _ rfl
  have cxb1 := xb.cell 1 _ rfl
  have cxb2 := xb.cell 2 _ rfl
  go_wp2_with fail
  refine (HC).mono ?_
  rintro e w2 ⟨rfl, b9⟩
  clear cxb0 cxb1 cxb2
  replace xa := xa.next b9
  replace xb := xb.next b9
  replace ha := ha.next b9
  replace hb := hb.next b9
  replace bb := bb.trans (b9.mono bb.size)
  clear b9
  clear HC
  have HWK := blockWakes_any w2
  go_wp2_with (go_at_call 13; refine HWK.mono ?_; rintro e w99 ⟨rfl, b99⟩)
  go_ret
  exact ⟨rfl, bb.trans (b99.mono bb.size)⟩

set_option maxRecDepth 100000 in
set_option maxHeartbeats 4000000 in
theorem blockUnlike_ny (Z : Nat) (s m : Int) (a : Option Addr) (cap : Nat) (xs : List Int) (hl : xs.length ≤ 100) (bx : ∀ z ∈ xs, 0 ≤ z ∧ z ≤ 255) (s' m' : Int) (a' : Option Addr) (cap' : Nat) (ys : List Int) (hl' : ys.length ≤ 100) (by' : ∀ z ∈ ys, 0 ≤ z ∧ z ≤ 255) (hA : errB (Z : Int) s m xs.length ≠ 0) (hB : Right Z s' m' ys) (w : World) (ha : Holds .u8 w.heap.size w (.slice a xs.length cap) xs) (hb : Holds .u8 w.heap.size w (.slice a' ys.length cap') ys) :
    Calls Try.prog 6 #[.int .i64 (Z : Int), .agg #[.int .i64 s, .int .i64 m, .slice a xs.length cap], .agg #[.int .i64 s', .int .i64 m', .slice a' ys.length cap']] w fun e w' => e = .returned (.bool true) ∧ Below w.heap.size w w' := by
  have HBX : Hid (∀ z ∈ xs, 0 ≤ z ∧ z ≤ 255) := bx
  have HBY : Hid (∀ z ∈ ys, 0 ≤ z ∧ z ≤ 255) := by'
  have dl : decide (100 < (xs.length : Int)) = false := decide_eq_false (by omega)
  have dm : decide (100 < xs.length) = false := decide_eq_false (by omega)
  have dl' : decide (100 < (ys.length : Int)) = false := decide_eq_false (by omega)
  have dm' : decide (100 < ys.length) = false := decide_eq_false (by omega)
  have bb : Below w.heap.size w ((w.alloc (.cells #[.int .i64 s, .int .i64 m, .slice a xs.length cap] 24)).alloc (.cells #[.int .i64 s', .int .i64 m', .slice a' ys.length cap'] 24)) := ((Below.refl w.heap.size w).alloc (Nat.le_refl _) _).alloc (by simp) _
  have xa : Box ((w.alloc (.cells #[.int .i64 s, .int .i64 m, .slice a xs.length cap] 24)).alloc (.cells #[.int .i64 s', .int .i64 m', .slice a' ys.length cap'] 24)) w.heap.size 24 #[.int .i64 s, .int .i64 m, .slice a xs.length cap] := (Box.new w _ _).alloc _
  have xb : Box ((w.alloc (.cells #[.int .i64 s, .int .i64 m, .slice a xs.length cap] 24)).alloc (.cells #[.int .i64 s', .int .i64 m', .slice a' ys.length cap'] 24)) (w.heap.size + 1) 24 #[.int .i64 s', .int .i64 m', .slice a' ys.length cap'] := by
    have := Box.new (w.alloc (.cells #[.int .i64 s, .int .i64 m, .slice a xs.length cap] 24)) 24 #[.int .i64 s', .int .i64 m', .slice a' ys.length cap']
    simpa using this
  replace ha := ha.next bb
  replace hb := hb.next bb
  obtain ⟨E, hE⟩ : ∃ E, errB (Z : Int) s m xs.length = E := ⟨_, rfl⟩
  have HhA : Hid (errB (Z : Int) s m xs.length ≠ 0) := hA
  have HEhA : Hid (errB (Z : Int) s m xs.length = E) := hE
  rw [hE] at hA
  have dhA : (E != 0) = true := by simp [hA]
  have ehA : (E == 0) = false := by simp [hA]
  clear hE hA
  have HhB : Hid (Right Z s' m' ys) := hB
  clear hB
  clear bx by'
  go_enter Try.func6, Try.ntmps6
  have HC := Make_no (Z : Int) s m a xs.length cap HhA.out ((w.alloc (.cells #[.int .i64 s, .int .i64 m, .slice a xs.length cap] 24)).alloc (.cells #[.int .i64 s', .int .i64 m', .slice a' ys.length cap'] 24))
  rw [HEhA.out] at HC
  have cxa0 := xa.cell 0 _ rfl
  have cxa1 := xa.cell 1 _ rfl
  have cxa2 := xa.cell 2 _ rfl
  go_wp2_with fail
  refine (HC).mono ?_
  rintro e w1 ⟨rfl, b9⟩
  clear cxa0 cxa1 cxa2
  replace xa := xa.next b9
  replace xb := xb.next b9
  replace ha := ha.next b9
  replace hb := hb.next b9
  replace bb := bb.trans (b9.mono bb.size)
  clear b9
  clear HC
  have HC := Make_ok Z s' m' a' cap' ys HhB.out HBY.out _ hb
  have cxb0 := xb.cell 0 _ rfl
  have cxb1 := xb.cell 1 _ rfl
  have cxb2 := xb.cell 2 _ rfl
  go_wp2_with fail
  refine (HC).mono ?_
  rintro e w2 ⟨q, rfl, o9, b9⟩
  clear cxb0 cxb1 cxb2
  replace xa := xa.next b9
  replace xb := xb.next b9
  replace ha := ha.next b9
  replace hb := hb.next b9
  replace bb := bb.trans (b9.mono bb.size)
  clear b9
  clear HC
  obtain ⟨qa, qc, rfl⟩ := row_shape1 o9
  clear o9
  have HWK := blockWakes_any w2
  go_wp2_with (go_at_call 13; refine HWK.mono ?_; rintro e w99 ⟨rfl, b99⟩)
  go_ret
  exact ⟨rfl, bb.trans (b99.mono bb.size)⟩

set_option maxRecDepth 100000 in
set_option maxHeartbeats 4000000 in
theorem blockUnlike_yn (Z : Nat) (s m : Int) (a : Option Addr) (cap : Nat) (xs : List Int) (hl : xs.length ≤ 100) (bx : ∀ z ∈ xs, 0 ≤ z ∧ z ≤ 255) (s' m' : Int) (a' : Option Addr) (cap' : Nat) (ys : List Int) (hl' : ys.length ≤ 100) (by' : ∀ z ∈ ys, 0 ≤ z ∧ z ≤ 255) (hA : Right Z s m xs) (hB : errB (Z : Int) s' m' ys.length ≠ 0) (w : World) (ha : Holds .u8 w.heap.size w (.slice a xs.length cap) xs) (hb : Holds .u8 w.heap.size w (.slice a' ys.length cap') ys) :
    Calls Try.prog 6 #[.int .i64 (Z : Int), .agg #[.int .i64 s, .int .i64 m, .slice a xs.length cap], .agg #[.int .i64 s', .int .i64 m', .slice a' ys.length cap']] w fun e w' => e = .returned (.bool true) ∧ Below w.heap.size w w' := by
  have HBX : Hid (∀ z ∈ xs, 0 ≤ z ∧ z ≤ 255) := bx
  have HBY : Hid (∀ z ∈ ys, 0 ≤ z ∧ z ≤ 255) := by'
  have dl : decide (100 < (xs.length : Int)) = false := decide_eq_false (by omega)
  have dm : decide (100 < xs.length) = false := decide_eq_false (by omega)
  have dl' : decide (100 < (ys.length : Int)) = false := decide_eq_false (by omega)
  have dm' : decide (100 < ys.length) = false := decide_eq_false (by omega)
  have bb : Below w.heap.size w ((w.alloc (.cells #[.int .i64 s, .int .i64 m, .slice a xs.length cap] 24)).alloc (.cells #[.int .i64 s', .int .i64 m', .slice a' ys.length cap'] 24)) := ((Below.refl w.heap.size w).alloc (Nat.le_refl _) _).alloc (by simp) _
  have xa : Box ((w.alloc (.cells #[.int .i64 s, .int .i64 m, .slice a xs.length cap] 24)).alloc (.cells #[.int .i64 s', .int .i64 m', .slice a' ys.length cap'] 24)) w.heap.size 24 #[.int .i64 s, .int .i64 m, .slice a xs.length cap] := (Box.new w _ _).alloc _
  have xb : Box ((w.alloc (.cells #[.int .i64 s, .int .i64 m, .slice a xs.length cap] 24)).alloc (.cells #[.int .i64 s', .int .i64 m', .slice a' ys.length cap'] 24)) (w.heap.size + 1) 24 #[.int .i64 s', .int .i64 m', .slice a' ys.length cap'] := by
    have := Box.new (w.alloc (.cells #[.int .i64 s, .int .i64 m, .slice a xs.length cap] 24)) 24 #[.int .i64 s', .int .i64 m', .slice a' ys.length cap']
    simpa using this
  replace ha := ha.next bb
  replace hb := hb.next bb
  have HhA : Hid (Right Z s m xs) := hA
  clear hA
  obtain ⟨E', hE'⟩ : ∃ E, errB (Z : Int) s' m' ys.length = E := ⟨_, rfl⟩
  have HhB : Hid (errB (Z : Int) s' m' ys.length ≠ 0) := hB
  have HEhB : Hid (errB (Z : Int) s' m' ys.length = E') := hE'
  rw [hE'] at hB
  have dhB : (E' != 0) = true := by simp [hB]
  have ehB : (E' == 0) = false := by simp [hB]
  clear hE' hB
  clear bx by'
  go_enter Try.func6, Try.ntmps6
  have HC := Make_ok Z s m a cap xs HhA.out HBX.out _ ha
  have cxa0 := xa.cell 0 _ rfl
  have cxa1 := xa.cell 1 _ rfl
  have cxa2 := xa.cell 2 _ rfl
  go_wp2_with fail
  refine (HC).mono ?_
  rintro e w1 ⟨r, rfl, o9, b9⟩
  clear cxa0 cxa1 cxa2
  replace xa := xa.next b9
  replace xb := xb.next b9
  replace ha := ha.next b9
  replace hb := hb.next b9
  replace bb := bb.trans (b9.mono bb.size)
  clear b9
  clear HC
  obtain ⟨ra, rc, rfl⟩ := row_shape1 o9
  clear o9
  have HC := Make_no (Z : Int) s' m' a' ys.length cap' HhB.out w1
  rw [HEhB.out] at HC
  have cxb0 := xb.cell 0 _ rfl
  have cxb1 := xb.cell 1 _ rfl
  have cxb2 := xb.cell 2 _ rfl
  go_wp2_with fail
  refine (HC).mono ?_
  rintro e w2 ⟨rfl, b9⟩
  clear cxb0 cxb1 cxb2
  replace xa := xa.next b9
  replace xb := xb.next b9
  replace ha := ha.next b9
  replace hb := hb.next b9
  replace bb := bb.trans (b9.mono bb.size)
  clear b9
  clear HC
  have HWK := blockWakes_any w2
  go_wp2_with (go_at_call 13; refine HWK.mono ?_; rintro e w99 ⟨rfl, b99⟩)
  go_ret
  exact ⟨rfl, bb.trans (b99.mono bb.size)⟩

set_option maxRecDepth 100000 in
set_option maxHeartbeats 4000000 in
theorem blockUnlike_ok (Z : Nat) (s m : Int) (a : Option Addr) (cap : Nat) (xs : List Int) (hl : xs.length ≤ 100) (bx : ∀ z ∈ xs, 0 ≤ z ∧ z ≤ 255) (s' m' : Int) (a' : Option Addr) (cap' : Nat) (ys : List Int) (hl' : ys.length ≤ 100) (by' : ∀ z ∈ ys, 0 ≤ z ∧ z ≤ 255) (hA : Right Z s m xs) (hB : Right Z s' m' ys) (w : World) (ha : Holds .u8 w.heap.size w (.slice a xs.length cap) xs) (hb : Holds .u8 w.heap.size w (.slice a' ys.length cap') ys) :
    Calls Try.prog 6 #[.int .i64 (Z : Int), .agg #[.int .i64 s, .int .i64 m, .slice a xs.length cap], .agg #[.int .i64 s', .int .i64 m', .slice a' ys.length cap']] w fun e w' => e = .returned (.bool true) ∧ Below w.heap.size w w' := by
  have HBX : Hid (∀ z ∈ xs, 0 ≤ z ∧ z ≤ 255) := bx
  have HBY : Hid (∀ z ∈ ys, 0 ≤ z ∧ z ≤ 255) := by'
  have dl : decide (100 < (xs.length : Int)) = false := decide_eq_false (by omega)
  have dm : decide (100 < xs.length) = false := decide_eq_false (by omega)
  have dl' : decide (100 < (ys.length : Int)) = false := decide_eq_false (by omega)
  have dm' : decide (100 < ys.length) = false := decide_eq_false (by omega)
  have bb : Below w.heap.size w ((w.alloc (.cells #[.int .i64 s, .int .i64 m, .slice a xs.length cap] 24)).alloc (.cells #[.int .i64 s', .int .i64 m', .slice a' ys.length cap'] 24)) := ((Below.refl w.heap.size w).alloc (Nat.le_refl _) _).alloc (by simp) _
  have xa : Box ((w.alloc (.cells #[.int .i64 s, .int .i64 m, .slice a xs.length cap] 24)).alloc (.cells #[.int .i64 s', .int .i64 m', .slice a' ys.length cap'] 24)) w.heap.size 24 #[.int .i64 s, .int .i64 m, .slice a xs.length cap] := (Box.new w _ _).alloc _
  have xb : Box ((w.alloc (.cells #[.int .i64 s, .int .i64 m, .slice a xs.length cap] 24)).alloc (.cells #[.int .i64 s', .int .i64 m', .slice a' ys.length cap'] 24)) (w.heap.size + 1) 24 #[.int .i64 s', .int .i64 m', .slice a' ys.length cap'] := by
    have := Box.new (w.alloc (.cells #[.int .i64 s, .int .i64 m, .slice a xs.length cap] 24)) 24 #[.int .i64 s', .int .i64 m', .slice a' ys.length cap']
    simpa using this
  replace ha := ha.next bb
  replace hb := hb.next bb
  have HA : Hid (Right Z s m xs) := hA
  have HB : Hid (Right Z s' m' ys) := hB
  have hZx := hA.2.2.2.1
  have hZy := hB.2.2.2.1
  have hZ1 := hA.1.1
  have hZ2 := hA.1.2
  obtain ⟨x0, x1, x2, x3, h4, k0, k1, k2, k3, hsum⟩ := four_of hA.2.1.1 hA.2.1.2
  have H4 : Hid (beBytes 4 s = [x0, x1, x2, x3]) := h4
  have HSUM : Hid (s = x0 * 16777216 + x1 * 65536 + x2 * 256 + x3) := hsum
  obtain ⟨o1, o2, o3⟩ := or_four k0 k1 k2 k3
  have hm0 := hA.2.2.1
  have eq4 : ((Z : Int) + 10 != (Z : Int) + 10) = false := by simp
  have ewz : IntKind.i64.wrap ((Z : Int) + 10) = (Z : Int) + 10 := by rw [IntKind.wrap_i64]; omega
  clear bx by' hA hB h4 hsum
  go_enter Try.func6, Try.ntmps6
  have cxa0 := xa.cell 0 _ rfl
  have cxa1 := xa.cell 1 _ rfl
  have cxa2 := xa.cell 2 _ rfl
  go_wp2_with fail
  refine (Make_ok Z s m a cap xs HA.out HBX.out _ ha).mono ?_
  rintro e w1 ⟨r, rfl, o9, b9⟩
  clear cxa0 cxa1 cxa2
  replace xa := xa.next b9
  replace xb := xb.next b9
  replace ha := ha.next b9
  replace hb := hb.next b9
  replace bb := bb.trans (b9.mono bb.size)
  clear b9
  obtain ⟨g, c, rfl, hg0, hg⟩ := own_block o9 (by omega)
  have hx := holds_of_row o9
  have hc := row_cap o9
  clear o9 hg0
  have cxb0 := xb.cell 0 _ rfl
  have cxb1 := xb.cell 1 _ rfl
  have cxb2 := xb.cell 2 _ rfl
  go_wp2_with fail
  refine (Make_ok Z s' m' a' cap' ys HB.out HBY.out _ hb).mono ?_
  rintro e w2 ⟨r, rfl, o9, b9⟩
  clear cxb0 cxb1 cxb2
  replace xa := xa.next b9
  replace xb := xb.next b9
  replace ha := ha.next b9
  replace hb := hb.next b9
  replace hx := hx.next b9
  replace bb := bb.trans (b9.mono bb.size)
  clear b9
  obtain ⟨ya, yc, rfl⟩ := row_shape1 o9
  have hy := holds_of_row o9
  clear o9
  have HC := Sealed_at (some ⟨g, 0, none⟩) (Z + 10) c (bytesB Z s m xs) (bytesB_len hZx) (by omega) hc (bytesB_bd HA.out HBX.out) w2 hx
  rw [show isSealed (bytesB Z s m xs) = true from isSealed_sealB _] at HC
  go_wp2_with fail
  refine (HC).mono ?_
  rintro e w3 ⟨rfl, b9⟩
  replace xa := xa.next b9
  replace xb := xb.next b9
  replace ha := ha.next b9
  replace hb := hb.next b9
  replace hx := hx.next b9
  replace hy := hy.next b9
  replace bb := bb.trans (b9.mono bb.size)
  clear b9
  clear HC
  have HK : Hid (decide (bytesB Z s m xs = bytesB Z s' m' ys) = decide (s = s' ∧ m = m' ∧ xs = ys)) := by
    show decide (bytesB Z s m xs = bytesB Z s' m' ys) = decide (s = s' ∧ m = m' ∧ xs = ys)
    by_cases h : s = s' ∧ m = m' ∧ xs = ys
    · obtain ⟨rfl, rfl, rfl⟩ := h
      simp
    · rw [decide_eq_false h, decide_eq_false (fun e => h (bytesB_inj HA.out HB.out e))]
  obtain ⟨D, hD⟩ : ∃ D, decide (s = s' ∧ m = m' ∧ xs = ys) = D := ⟨_, rfl⟩
  have HD : Hid (decide (s = s' ∧ m = m' ∧ xs = ys) = D) := hD
  have dD : (D != D) = false := by simp
  have HCY : Hid (∀ wx : World, Below w3.heap.size w3 wx → Calls Try.prog 14 #[.slice (some ⟨g, 0, none⟩) (Z + 10) c, .slice ya (Z + 10) yc] wx fun e w' => e = .returned (.bool D) ∧ Below w3.heap.size w3 w') := fun wx hw => by
    have := bytes_any (.slice (some ⟨g, 0, none⟩) (Z + 10) c) (.slice ya (Z + 10) yc) (bytesB Z s m xs) (bytesB Z s' m' ys) _ _ wx (by rw [bytesB_len hZy]; omega) (hx.below hw) (hy.below hw)
    rw [HK.out, HD.out] at this
    exact this.mono fun e w' ⟨h, q, hq⟩ => ⟨h, by rw [hq]; exact below_drewN hw q⟩
  have HCB : Hid (∀ wx : World, Below w3.heap.size w3 wx → Calls Try.prog 12 #[.agg #[.int .i64 s, .int .i64 m, .slice a xs.length cap], .agg #[.int .i64 s', .int .i64 m', .slice a' ys.length cap']] wx fun e w' => e = .returned (.bool D) ∧ Below w3.heap.size w3 w') := fun wx hw => by
    have := keepBlock_any s m s' m' (.slice a xs.length cap) (.slice a' ys.length cap') xs ys wx _ _ hw.size hw.size (by omega) (ha.below hw) (hb.below hw)
    rw [HD.out] at this
    exact this.mono fun e w' ⟨h, b⟩ => ⟨h, hw.trans (b.mono hw.size)⟩
  clear hD
  have cxa0 := xa.cell 0 _ rfl
  have cxa1 := xa.cell 1 _ rfl
  have cxa2 := xa.cell 2 _ rfl
  have cxb0 := xb.cell 0 _ rfl
  have cxb1 := xb.cell 1 _ rfl
  have cxb2 := xb.cell 2 _ rfl
  have hlta := xa.lt
  have hltb := xb.lt
  go_wp2
  go_cut [94] (fun v wx => v = .bool false ∧ Below w3.heap.size w3 wx)
  case first =>
    refine wp_region_held_drew (S := fun w' => Below w3.heap.size w3 w') (by kernel_rfl) ((Below.refl _ _).drew) (fun hHeld => ?_)
    refine held_take (i := 0) (d := 66) (v := ?v1) rfl rfl (by kernel_rfl) (by kernel_rfl) (by kernel_rfl) (fun _ _ _ h => h) (Or.inl ⟨by kernel_rfl, ?hy1⟩) hHeld ?rest1
    case hy1 =>
      intro wx hSw
      clear hSw
      go_simp
      with_reducible rfl
    simp only [List.setIfInBounds_toArray, List.set_cons_zero, List.set_cons_succ]
    refine held_take (i := 1) (d := 67) (v := ?v2) rfl rfl (by kernel_rfl) (by kernel_rfl) (by kernel_rfl) (fun _ _ _ h => h) (Or.inl ⟨by kernel_rfl, ?hy2⟩) hHeld ?rest2
    case hy2 =>
      intro wx hSw
      clear hSw
      go_simp
      with_reducible rfl
    simp only [List.setIfInBounds_toArray, List.set_cons_zero, List.set_cons_succ]
    refine held_take (i := 2) (d := 68) (v := ?v3) rfl rfl (by kernel_rfl) (by kernel_rfl) (by kernel_rfl) (fun _ _ _ h => h) (Or.inl ⟨by kernel_rfl, ?hy3⟩) hHeld ?rest3
    case hy3 =>
      intro wx hSw
      clear hSw
      go_simp
      with_reducible rfl
    simp only [List.setIfInBounds_toArray, List.set_cons_zero, List.set_cons_succ]
    refine held_take (i := 3) (d := 69) (v := ?v4) rfl rfl (by kernel_rfl) (by kernel_rfl) (by kernel_rfl) (fun _ _ _ h => h) (Or.inl ⟨by kernel_rfl, ?hy4⟩) hHeld ?rest4
    case hy4 =>
      intro wx hSw
      clear hSw
      go_simp
      with_reducible rfl
    simp only [List.setIfInBounds_toArray, List.set_cons_zero, List.set_cons_succ]
    refine held_take (i := 4) (d := 70) (v := ?v5) rfl rfl (by kernel_rfl) (by kernel_rfl) (by kernel_rfl) (fun _ _ _ h => h) (Or.inl ⟨by kernel_rfl, ?hy5⟩) hHeld ?rest5
    case hy5 =>
      intro wx hSw
      clear hSw
      go_simp
      with_reducible rfl
    simp only [List.setIfInBounds_toArray, List.set_cons_zero, List.set_cons_succ]
    refine held_take (i := 5) (d := 71) (v := ?v6) rfl rfl (by kernel_rfl) (by kernel_rfl) (by kernel_rfl) (fun _ _ _ h => h) (Or.inl ⟨by kernel_rfl, ?hy6⟩) hHeld ?rest6
    case hy6 =>
      intro wx hSw
      clear hSw
      go_simp
      with_reducible rfl
    simp only [List.setIfInBounds_toArray, List.set_cons_zero, List.set_cons_succ]
    refine held_take (i := 6) (d := 72) (v := ?v7) rfl rfl (by kernel_rfl) (by kernel_rfl) (by kernel_rfl) (fun _ _ _ h => h) (Or.inl ⟨by kernel_rfl, ?hy7⟩) hHeld ?rest7
    case hy7 =>
      intro wx hSw
      clear hSw
      go_simp
      with_reducible rfl
    simp only [List.setIfInBounds_toArray, List.set_cons_zero, List.set_cons_succ]
    refine held_take (i := 7) (d := 73) (v := ?v8) rfl rfl (by kernel_rfl) (by kernel_rfl) (by kernel_rfl) (fun _ _ _ h => h) (Or.inl ⟨by kernel_rfl, ?hy8⟩) hHeld ?rest8
    case hy8 =>
      intro wx hSw
      clear hSw
      go_simp
      with_reducible rfl
    simp only [List.setIfInBounds_toArray, List.set_cons_zero, List.set_cons_succ]
    refine held_take (i := 8) (d := 74) (v := ?v9) rfl rfl (by kernel_rfl) (by kernel_rfl) (by kernel_rfl) (fun _ _ _ h => h) (Or.inl ⟨by kernel_rfl, ?hy9⟩) hHeld ?rest9
    case hy9 =>
      intro wx hSw
      clear hSw
      go_simp
      with_reducible rfl
    simp only [List.setIfInBounds_toArray, List.set_cons_zero, List.set_cons_succ]
    refine held_take (i := 9) (d := 75) (v := ?v10) rfl rfl (by kernel_rfl) (by kernel_rfl) (by kernel_rfl) (fun _ _ _ h => h) (Or.inl ⟨by kernel_rfl, ?hy10⟩) hHeld ?rest10
    case hy10 =>
      intro wx hSw
      clear hSw
      go_simp
      with_reducible rfl
    simp only [List.setIfInBounds_toArray, List.set_cons_zero, List.set_cons_succ]
    refine held_take (i := 10) (d := 76) (v := ?v11) rfl rfl (by kernel_rfl) (by kernel_rfl) (by kernel_rfl) (fun _ _ _ h => h) (Or.inl ⟨by kernel_rfl, ?hy11⟩) hHeld ?rest11
    case hy11 =>
      intro wx hSw
      clear hSw
      go_simp
      with_reducible rfl
    simp only [List.setIfInBounds_toArray, List.set_cons_zero, List.set_cons_succ]
    refine held_take (i := 11) (d := 77) (v := ?v12) rfl rfl (by kernel_rfl) (by kernel_rfl) (by kernel_rfl) (fun _ _ _ h => h) (Or.inl ⟨by kernel_rfl, ?hy12⟩) hHeld ?rest12
    case hy12 =>
      intro wx hSw
      clear hSw
      go_simp
      with_reducible rfl
    simp only [List.setIfInBounds_toArray, List.set_cons_zero, List.set_cons_succ]
    refine held_take (i := 12) (d := 78) (v := ?v13) rfl rfl (by kernel_rfl) (by kernel_rfl) (by kernel_rfl) (fun _ _ _ h => h) (Or.inl ⟨by kernel_rfl, ?hy13⟩) hHeld ?rest13
    case hy13 =>
      intro wx hSw
      clear hSw
      go_simp
      with_reducible rfl
    simp only [List.setIfInBounds_toArray, List.set_cons_zero, List.set_cons_succ]
    refine held_take (i := 13) (d := 79) (v := ?v14) rfl rfl (by kernel_rfl) (by kernel_rfl) (by kernel_rfl) (fun _ _ _ h => h) (Or.inl ⟨by kernel_rfl, ?hy14⟩) hHeld ?rest14
    case hy14 =>
      intro wx hSw
      clear hSw
      go_simp
      with_reducible rfl
    simp only [List.setIfInBounds_toArray, List.set_cons_zero, List.set_cons_succ]
    refine held_take (i := 14) (d := 80) (v := ?v15) rfl rfl (by kernel_rfl) (by kernel_rfl) (by kernel_rfl) (fun _ _ _ h => h) (Or.inl ⟨by kernel_rfl, ?hy15⟩) hHeld ?rest15
    case hy15 =>
      intro wx hSw
      clear hSw
      go_simp
      with_reducible rfl
    simp only [List.setIfInBounds_toArray, List.set_cons_zero, List.set_cons_succ]
    refine held_take (i := 15) (d := 81) (v := ?v16) rfl rfl (by kernel_rfl) (by kernel_rfl) (by kernel_rfl) (fun _ _ _ h => h) (Or.inl ⟨by kernel_rfl, ?hy16⟩) hHeld ?rest16
    case hy16 =>
      intro wx hSw
      clear hSw
      go_simp
      with_reducible rfl
    simp only [List.setIfInBounds_toArray, List.set_cons_zero, List.set_cons_succ]
    refine held_take (i := 16) (d := 82) (v := ?v17) rfl rfl (by kernel_rfl) (by kernel_rfl) (by kernel_rfl) (fun _ _ _ h => h) (Or.inl ⟨by kernel_rfl, ?hy17⟩) hHeld ?rest17
    case hy17 =>
      intro wx hSw
      clear hSw
      go_simp
      with_reducible rfl
    simp only [List.setIfInBounds_toArray, List.set_cons_zero, List.set_cons_succ]
    refine held_take (i := 17) (d := 83) (v := ?v18) rfl rfl (by kernel_rfl) (by kernel_rfl) (by kernel_rfl) (fun _ _ _ h => h) (Or.inl ⟨by kernel_rfl, ?hy18⟩) hHeld ?rest18
    case hy18 =>
      intro wx hSw
      clear hSw
      go_simp
      with_reducible rfl
    simp only [List.setIfInBounds_toArray, List.set_cons_zero, List.set_cons_succ]
    refine held_take (i := 18) (d := 84) (v := ?v19) rfl rfl (by kernel_rfl) (by kernel_rfl) (by kernel_rfl) (fun _ _ _ h => h) (Or.inl ⟨by kernel_rfl, ?hy19⟩) hHeld ?rest19
    case hy19 =>
      intro wx hSw
      clear hSw
      go_simp
      with_reducible rfl
    simp only [List.setIfInBounds_toArray, List.set_cons_zero, List.set_cons_succ]
    refine held_take (i := 19) (d := 85) (v := ?v20) rfl rfl (by kernel_rfl) (by kernel_rfl) (by kernel_rfl) (fun _ _ _ h => h) (Or.inl ⟨by kernel_rfl, ?hy20⟩) hHeld ?rest20
    case hy20 =>
      intro wx hSw
      clear hSw
      go_simp
      with_reducible rfl
    simp only [List.setIfInBounds_toArray, List.set_cons_zero, List.set_cons_succ]
    refine held_take (i := 20) (d := 86) (v := ?v21) rfl rfl (by kernel_rfl) (by kernel_rfl) (by kernel_rfl) (fun _ _ _ h => h) (Or.inl ⟨by kernel_rfl, ?hy21⟩) hHeld ?rest21
    case hy21 =>
      intro wx hSw
      clear hSw
      go_simp
      with_reducible rfl
    simp only [List.setIfInBounds_toArray, List.set_cons_zero, List.set_cons_succ]
    refine held_take (i := 21) (d := 87) (v := ?v22) rfl rfl (by kernel_rfl) (by kernel_rfl) (by kernel_rfl) (fun _ _ _ h => h) (Or.inl ⟨by kernel_rfl, ?hy22⟩) hHeld ?rest22
    case hy22 =>
      intro wx hSw
      clear hSw
      go_simp
      with_reducible rfl
    simp only [List.setIfInBounds_toArray, List.set_cons_zero, List.set_cons_succ]
    refine held_take (i := 22) (d := 88) (v := ?v23) rfl rfl (by kernel_rfl) (by kernel_rfl) (by kernel_rfl) (fun _ _ _ h => h) (Or.inl ⟨by kernel_rfl, ?hy23⟩) hHeld ?rest23
    case hy23 =>
      intro wx hSw
      clear hSw
      go_simp
      with_reducible rfl
    simp only [List.setIfInBounds_toArray, List.set_cons_zero, List.set_cons_succ]
    refine held_take (i := 24) (d := 90) (v := ?v24) rfl rfl (by kernel_rfl) (by kernel_rfl) (by kernel_rfl) (fun _ _ _ h => h) (Or.inl ⟨by kernel_rfl, ?hy24⟩) hHeld ?rest24
    case hy24 =>
      intro wx hSw
      have q0 := (hSw.cell (p := ⟨w.heap.size, 0, none⟩) hlta).trans cxa0
      have q1 := (hSw.cell (p := ⟨w.heap.size, 1, none⟩) hlta).trans cxa1
      have q2 := (hSw.cell (p := ⟨w.heap.size, 2, none⟩) hlta).trans cxa2
      clear hSw
      go_simp
      with_reducible rfl
    simp only [List.setIfInBounds_toArray, List.set_cons_zero, List.set_cons_succ]
    refine held_take (i := 25) (d := 91) (v := ?v25) rfl rfl (by kernel_rfl) (by kernel_rfl) (by kernel_rfl) (fun _ _ _ h => h) (Or.inl ⟨by kernel_rfl, ?hy25⟩) hHeld ?rest25
    case hy25 =>
      intro wx hSw
      have q0 := (hSw.cell (p := ⟨w.heap.size + 1, 0, none⟩) hltb).trans cxb0
      have q1 := (hSw.cell (p := ⟨w.heap.size + 1, 1, none⟩) hltb).trans cxb1
      have q2 := (hSw.cell (p := ⟨w.heap.size + 1, 2, none⟩) hltb).trans cxb2
      clear hSw
      go_simp
      with_reducible rfl
    simp only [List.setIfInBounds_toArray, List.set_cons_zero, List.set_cons_succ]
    refine wpAnyH_ready (rs := [23]) (by kernel_rfl) (by simp) ?_
    refine AllReadyH.cons rfl (fun K hK => ?_) AllReadyH.nil
    go_simp
    go_wp2_with (go_at_call 14; refine (HCY.out _ (by exact hHeld)).mono ?_; rintro e wb ⟨rfl, b8⟩)
    refine hK.out _ _ (b8) (fun hHeld => ?_)
    clear hK K
    refine wpAnyH_ready (rs := [26]) (by kernel_rfl) (by simp) ?_
    refine AllReadyH.cons rfl (fun K hK => ?_) AllReadyH.nil
    go_simp
    go_wp2_with (go_at_call 12; refine (HCB.out _ (by exact hHeld)).mono ?_; rintro e wb ⟨rfl, b8⟩)
    refine hK.out _ _ (b8) (fun hHeld => ?_)
    clear hK K
    refine held_take (i := 27) (d := 93) (v := ?v26) rfl rfl (by kernel_rfl) (by kernel_rfl) (by kernel_rfl) (fun _ _ _ h => h) (Or.inl ⟨by kernel_rfl, ?hy26⟩) hHeld ?rest26
    case hy26 =>
      intro wx hSw
      clear hSw
      go_simp
      with_reducible rfl
    simp only [List.setIfInBounds_toArray, List.set_cons_zero, List.set_cons_succ]
    refine wpAnyH_ready (rs := [28]) (by kernel_rfl) (by simp) ?_
    refine AllReadyH.cons rfl (fun K hK => ?_) AllReadyH.nil
    go_simp
    refine hK.out _ _ hHeld (fun hHeld => ?_)
    clear hK K
    refine wpAnyH_done (by kernel_rfl) ?_ _
    go_wp2_with fail
    go_meet
    exact ⟨rfl, hHeld⟩
  case rest =>
    obtain ⟨rfl, b9⟩ := hcut
    clear cxa0 cxa1 cxa2
    clear cxb0 cxb1 cxb2
    replace xa := xa.next b9
    replace xb := xb.next b9
    replace ha := ha.next b9
    replace hb := hb.next b9
    replace hx := hx.next b9
    replace hy := hy.next b9
    replace bb := bb.trans (b9.mono bb.size)
    clear b9 HCY HCB HK HD
    generalize wc = w4 at *
    obtain ⟨bq, oq, eq, hbq, hcs⟩ := holds_at hx (bytesB_len hZx) (by omega)
    cases eq
    have v0 := hcs 0 x0 (by rw [bytesB_eq, H4.out]; rfl)
    have v1 := hcs 1 x1 (by rw [bytesB_eq, H4.out]; rfl)
    have v2 := hcs 2 x2 (by rw [bytesB_eq, H4.out]; rfl)
    have v3 := hcs 3 x3 (by rw [bytesB_eq, H4.out]; rfl)
    have v4 := hcs 4 m (bytesB_get4 _ _ _ _)
    have v5 := hcs 5 (xs.length : Int) (bytesB_get5 _ _ _ _)
    have i0 : (0 : Int) < (Z : Int) + 10 := by omega
    have j0 : 0 < Z + 10 := by omega
    have i1 : (1 : Int) < (Z : Int) + 10 := by omega
    have j1 : 1 < Z + 10 := by omega
    have i2 : (2 : Int) < (Z : Int) + 10 := by omega
    have j2 : 2 < Z + 10 := by omega
    have i3 : (3 : Int) < (Z : Int) + 10 := by omega
    have j3 : 3 < Z + 10 := by omega
    have u0w : IntKind.i64.wrap x0 = x0 := by rw [IntKind.wrap_i64]; omega
    have u1w : IntKind.i64.wrap x1 = x1 := by rw [IntKind.wrap_i64]; omega
    have u2w : IntKind.i64.wrap x2 = x2 := by rw [IntKind.wrap_i64]; omega
    have u3w : IntKind.i64.wrap x3 = x3 := by rw [IntKind.wrap_i64]; omega
    have p0w : IntKind.i64.wrap (x0 * 16777216) = x0 * 16777216 := by rw [IntKind.wrap_i64]; omega
    have p1w : IntKind.i64.wrap (x1 * 65536) = x1 * 65536 := by rw [IntKind.wrap_i64]; omega
    have p2w : IntKind.i64.wrap (x2 * 256) = x2 * 256 := by rw [IntKind.wrap_i64]; omega
    go_wp2
    go_cut [13] (fun v wx => v = .int .i64 s ∧ Below w4.heap.size w4 wx)
    case first =>
      refine wp_region_held_drew (S := fun w' => Below w4.heap.size w4 w') (by kernel_rfl) ((Below.refl _ _).drew) (fun hHeld => ?_)
      refine held_take (i := 0) (d := 95) (v := ?v27) rfl rfl (by kernel_rfl) (by kernel_rfl) (by kernel_rfl) (fun _ _ _ h => h) (Or.inl ⟨by kernel_rfl, ?hy27⟩) hHeld ?rest27
      case hy27 =>
        intro wx hSw
        clear hSw
        go_simp
        with_reducible rfl
      simp only [List.setIfInBounds_toArray, List.set_cons_zero, List.set_cons_succ]
      refine held_take (i := 1) (d := 96) (v := ?v28) rfl rfl (by kernel_rfl) (by kernel_rfl) (by kernel_rfl) (fun _ _ _ h => h) (Or.inl ⟨by kernel_rfl, ?hy28⟩) hHeld ?rest28
      case hy28 =>
        intro wx hSw
        clear hSw
        go_simp
        with_reducible rfl
      simp only [List.setIfInBounds_toArray, List.set_cons_zero, List.set_cons_succ]
      refine held_take (i := 2) (d := 97) (v := ?v29) rfl rfl (by kernel_rfl) (by kernel_rfl) (by kernel_rfl) (fun _ _ _ h => h) (Or.inl ⟨by kernel_rfl, ?hy29⟩) hHeld ?rest29
      case hy29 =>
        intro wx hSw
        have q0 := (hSw.cell (p := ⟨g, 0 + 0, none⟩) hbq).trans v0
        clear hSw
        go_simp
        with_reducible rfl
      simp only [List.setIfInBounds_toArray, List.set_cons_zero, List.set_cons_succ]
      refine held_take (i := 3) (d := 98) (v := ?v30) rfl rfl (by kernel_rfl) (by kernel_rfl) (by kernel_rfl) (fun _ _ _ h => h) (Or.inl ⟨by kernel_rfl, ?hy30⟩) hHeld ?rest30
      case hy30 =>
        intro wx hSw
        clear hSw
        go_simp
        with_reducible rfl
      simp only [List.setIfInBounds_toArray, List.set_cons_zero, List.set_cons_succ]
      refine held_take (i := 4) (d := 99) (v := ?v31) rfl rfl (by kernel_rfl) (by kernel_rfl) (by kernel_rfl) (fun _ _ _ h => h) (Or.inl ⟨by kernel_rfl, ?hy31⟩) hHeld ?rest31
      case hy31 =>
        intro wx hSw
        clear hSw
        go_simp
        with_reducible rfl
      simp only [List.setIfInBounds_toArray, List.set_cons_zero, List.set_cons_succ]
      refine held_take (i := 5) (d := 100) (v := ?v32) rfl rfl (by kernel_rfl) (by kernel_rfl) (by kernel_rfl) (fun _ _ _ h => h) (Or.inl ⟨by kernel_rfl, ?hy32⟩) hHeld ?rest32
      case hy32 =>
        intro wx hSw
        clear hSw
        go_simp
        with_reducible rfl
      simp only [List.setIfInBounds_toArray, List.set_cons_zero, List.set_cons_succ]
      refine held_take (i := 6) (d := 101) (v := ?v33) rfl rfl (by kernel_rfl) (by kernel_rfl) (by kernel_rfl) (fun _ _ _ h => h) (Or.inl ⟨by kernel_rfl, ?hy33⟩) hHeld ?rest33
      case hy33 =>
        intro wx hSw
        clear hSw
        go_simp
        with_reducible rfl
      simp only [List.setIfInBounds_toArray, List.set_cons_zero, List.set_cons_succ]
      refine held_take (i := 7) (d := 102) (v := ?v34) rfl rfl (by kernel_rfl) (by kernel_rfl) (by kernel_rfl) (fun _ _ _ h => h) (Or.inl ⟨by kernel_rfl, ?hy34⟩) hHeld ?rest34
      case hy34 =>
        intro wx hSw
        have q0 := (hSw.cell (p := ⟨g, 0 + 1, none⟩) hbq).trans v1
        clear hSw
        go_simp
        with_reducible rfl
      simp only [List.setIfInBounds_toArray, List.set_cons_zero, List.set_cons_succ]
      refine held_take (i := 8) (d := 103) (v := ?v35) rfl rfl (by kernel_rfl) (by kernel_rfl) (by kernel_rfl) (fun _ _ _ h => h) (Or.inl ⟨by kernel_rfl, ?hy35⟩) hHeld ?rest35
      case hy35 =>
        intro wx hSw
        clear hSw
        go_simp
        with_reducible rfl
      simp only [List.setIfInBounds_toArray, List.set_cons_zero, List.set_cons_succ]
      refine held_take (i := 9) (d := 104) (v := ?v36) rfl rfl (by kernel_rfl) (by kernel_rfl) (by kernel_rfl) (fun _ _ _ h => h) (Or.inl ⟨by kernel_rfl, ?hy36⟩) hHeld ?rest36
      case hy36 =>
        intro wx hSw
        clear hSw
        go_simp
        with_reducible rfl
      simp only [List.setIfInBounds_toArray, List.set_cons_zero, List.set_cons_succ]
      refine held_take (i := 10) (d := 105) (v := ?v37) rfl rfl (by kernel_rfl) (by kernel_rfl) (by kernel_rfl) (fun _ _ _ h => h) (Or.inl ⟨by kernel_rfl, ?hy37⟩) hHeld ?rest37
      case hy37 =>
        intro wx hSw
        clear hSw
        go_simp
        with_reducible rfl
      simp only [List.setIfInBounds_toArray, List.set_cons_zero, List.set_cons_succ]
      refine held_take (i := 11) (d := 106) (v := ?v38) rfl rfl (by kernel_rfl) (by kernel_rfl) (by kernel_rfl) (fun _ _ _ h => h) (Or.inl ⟨by kernel_rfl, ?hy38⟩) hHeld ?rest38
      case hy38 =>
        intro wx hSw
        clear hSw
        go_simp
        with_reducible rfl
      simp only [List.setIfInBounds_toArray, List.set_cons_zero, List.set_cons_succ]
      refine held_take (i := 12) (d := 107) (v := ?v39) rfl rfl (by kernel_rfl) (by kernel_rfl) (by kernel_rfl) (fun _ _ _ h => h) (Or.inl ⟨by kernel_rfl, ?hy39⟩) hHeld ?rest39
      case hy39 =>
        intro wx hSw
        clear hSw
        go_simp
        with_reducible rfl
      simp only [List.setIfInBounds_toArray, List.set_cons_zero, List.set_cons_succ]
      refine held_take (i := 13) (d := 108) (v := ?v40) rfl rfl (by kernel_rfl) (by kernel_rfl) (by kernel_rfl) (fun _ _ _ h => h) (Or.inl ⟨by kernel_rfl, ?hy40⟩) hHeld ?rest40
      case hy40 =>
        intro wx hSw
        have q0 := (hSw.cell (p := ⟨g, 0 + 2, none⟩) hbq).trans v2
        clear hSw
        go_simp
        with_reducible rfl
      simp only [List.setIfInBounds_toArray, List.set_cons_zero, List.set_cons_succ]
      refine held_take (i := 14) (d := 109) (v := ?v41) rfl rfl (by kernel_rfl) (by kernel_rfl) (by kernel_rfl) (fun _ _ _ h => h) (Or.inl ⟨by kernel_rfl, ?hy41⟩) hHeld ?rest41
      case hy41 =>
        intro wx hSw
        clear hSw
        go_simp
        with_reducible rfl
      simp only [List.setIfInBounds_toArray, List.set_cons_zero, List.set_cons_succ]
      refine held_take (i := 15) (d := 110) (v := ?v42) rfl rfl (by kernel_rfl) (by kernel_rfl) (by kernel_rfl) (fun _ _ _ h => h) (Or.inl ⟨by kernel_rfl, ?hy42⟩) hHeld ?rest42
      case hy42 =>
        intro wx hSw
        clear hSw
        go_simp
        with_reducible rfl
      simp only [List.setIfInBounds_toArray, List.set_cons_zero, List.set_cons_succ]
      refine held_take (i := 16) (d := 111) (v := ?v43) rfl rfl (by kernel_rfl) (by kernel_rfl) (by kernel_rfl) (fun _ _ _ h => h) (Or.inl ⟨by kernel_rfl, ?hy43⟩) hHeld ?rest43
      case hy43 =>
        intro wx hSw
        clear hSw
        go_simp
        with_reducible rfl
      simp only [List.setIfInBounds_toArray, List.set_cons_zero, List.set_cons_succ]
      refine held_take (i := 17) (d := 112) (v := ?v44) rfl rfl (by kernel_rfl) (by kernel_rfl) (by kernel_rfl) (fun _ _ _ h => h) (Or.inl ⟨by kernel_rfl, ?hy44⟩) hHeld ?rest44
      case hy44 =>
        intro wx hSw
        clear hSw
        go_simp
        with_reducible rfl
      simp only [List.setIfInBounds_toArray, List.set_cons_zero, List.set_cons_succ]
      refine held_take (i := 18) (d := 113) (v := ?v45) rfl rfl (by kernel_rfl) (by kernel_rfl) (by kernel_rfl) (fun _ _ _ h => h) (Or.inl ⟨by kernel_rfl, ?hy45⟩) hHeld ?rest45
      case hy45 =>
        intro wx hSw
        clear hSw
        go_simp
        with_reducible rfl
      simp only [List.setIfInBounds_toArray, List.set_cons_zero, List.set_cons_succ]
      refine held_take (i := 19) (d := 114) (v := ?v46) rfl rfl (by kernel_rfl) (by kernel_rfl) (by kernel_rfl) (fun _ _ _ h => h) (Or.inl ⟨by kernel_rfl, ?hy46⟩) hHeld ?rest46
      case hy46 =>
        intro wx hSw
        have q0 := (hSw.cell (p := ⟨g, 0 + 3, none⟩) hbq).trans v3
        clear hSw
        go_simp
        with_reducible rfl
      simp only [List.setIfInBounds_toArray, List.set_cons_zero, List.set_cons_succ]
      refine held_take (i := 20) (d := 115) (v := ?v47) rfl rfl (by kernel_rfl) (by kernel_rfl) (by kernel_rfl) (fun _ _ _ h => h) (Or.inl ⟨by kernel_rfl, ?hy47⟩) hHeld ?rest47
      case hy47 =>
        intro wx hSw
        clear hSw
        go_simp
        with_reducible rfl
      simp only [List.setIfInBounds_toArray, List.set_cons_zero, List.set_cons_succ]
      refine held_take (i := 21) (d := 116) (v := ?v48) rfl rfl (by kernel_rfl) (by kernel_rfl) (by kernel_rfl) (fun _ _ _ h => h) (Or.inl ⟨by kernel_rfl, ?hy48⟩) hHeld ?rest48
      case hy48 =>
        intro wx hSw
        clear hSw
        go_simp
        with_reducible rfl
      simp only [List.setIfInBounds_toArray, List.set_cons_zero, List.set_cons_succ]
      refine wpAnyH_ready (rs := [22]) (by kernel_rfl) (by simp) ?_
      refine AllReadyH.cons rfl (fun K hK => ?_) AllReadyH.nil
      go_simp
      refine hK.out _ _ hHeld (fun hHeld => ?_)
      clear hK K
      refine wpAnyH_done (by kernel_rfl) ?_ _
      go_wp2_with fail
      go_meet
      exact ⟨by rw [← HSUM.out], hHeld⟩
    case rest =>
      obtain ⟨rfl, b9⟩ := hcut
      clear v0 v1 v2 v3 v4 v5 hcs o1 o2 o3 p0w p1w p2w u0w u1w u2w u3w i0 i1 i2 i3 j0 j1 j2 j3 k0 k1 k2 k3 HSUM H4 eq4 ewz hbq
      replace xa := xa.next b9
      replace xb := xb.next b9
      replace ha := ha.next b9
      replace hb := hb.next b9
      replace hx := hx.next b9
      replace hy := hy.next b9
      replace bb := bb.trans (b9.mono bb.size)
      clear b9
      generalize wc = w5 at *
      obtain ⟨bq, oq, eq, hbq, hcs⟩ := holds_at hx (bytesB_len hZx) (by omega)
      cases eq
      have v4 := hcs 4 m (bytesB_get4 _ _ _ _)
      have v5 := hcs 5 (xs.length : Int) (bytesB_get5 _ _ _ _)
      have hX6 : Holds .u8 w5.heap.size w5 (.slice (some ⟨g, 6, none⟩) xs.length (c - 6)) xs := .inr ⟨g, 6, c - 6, rfl, hbq, fun j hj => by
        have h6 := hcs (6 + j) (xs[j]?.getD 0) (by rw [← List.getElem?_drop, bytesB_drop6, List.getElem?_append_left hj, List.getElem?_eq_getElem hj]; rfl)
        rw [Nat.zero_add] at h6
        exact h6⟩
      have HCY : Hid (∀ wx : World, Below w5.heap.size w5 wx → Calls Try.prog 14 #[.slice (some ⟨g, 6, none⟩) xs.length (c - 6), .slice a xs.length cap] wx fun e w' => e = .returned (.bool true) ∧ Below w5.heap.size w5 w') := fun wx hw => by
        have := bytes_any (.slice (some ⟨g, 6, none⟩) xs.length (c - 6)) (.slice a xs.length cap) xs xs _ _ wx (by omega) (hX6.below hw) (ha.below hw)
        rw [decide_eq_true rfl] at this
        exact this.mono fun e w' ⟨h, q, hq⟩ => ⟨h, by rw [hq]; exact below_drewN hw q⟩
      have HWK : Hid (∀ wx : World, Below w5.heap.size w5 wx → Calls Try.prog 13 #[] wx fun e w' => e = .returned (.bool true) ∧ Below w5.heap.size w5 w') := fun wx hw => (blockWakes_any wx).mono fun e w' ⟨h, b⟩ => ⟨h, hw.trans (b.mono hw.size)⟩
      have cxa0 := xa.cell 0 _ rfl
      have cxa1 := xa.cell 1 _ rfl
      have cxa2 := xa.cell 2 _ rfl
      have hlta := xa.lt
      have i4 : (4 : Int) < (Z : Int) + 10 := by omega
      have j4 : 4 < Z + 10 := by omega
      have i5 : (5 : Int) < (Z : Int) + 10 := by omega
      have j5 : 5 < Z + 10 := by omega
      have wm : IntKind.i64.wrap m = m := by rw [IntKind.wrap_i64]; omega
      have wl : IntKind.i64.wrap (xs.length : Int) = (xs.length : Int) := by rw [IntKind.wrap_i64]; omega
      have w6 : IntKind.i64.wrap (6 + (xs.length : Int)) = 6 + (xs.length : Int) := by rw [IntKind.wrap_i64]; omega
      have s1 : (6 : Int) ≤ 6 + (xs.length : Int) := by omega
      have s2 : 6 + (xs.length : Int) ≤ (c : Int) := by omega
      have s3 : ¬ c = 6 := by omega
      have s4 : 6 + xs.length ≤ c := by omega
      have s5 : 6 + xs.length - 6 = xs.length := by omega
      have s6 : (6 : Int) + (xs.length : Int) - 6 = (xs.length : Int) := by omega
      have s7 : (6 + (xs.length : Int)).toNat - 6 = xs.length := by omega
      clear hX6 hcs
      go_wp2
      refine wp_region_held_drew (S := fun w' => Below w5.heap.size w5 w') (by kernel_rfl) ((Below.refl _ _).drew) (fun hHeld => ?_)
      refine held_take (i := 0) (d := 117) (v := ?v49) rfl rfl (by kernel_rfl) (by kernel_rfl) (by kernel_rfl) (fun _ _ _ h => h) (Or.inl ⟨by kernel_rfl, ?hy49⟩) hHeld ?rest49
      case hy49 =>
        intro wx hSw
        clear hSw
        go_simp
        with_reducible rfl
      simp only [List.setIfInBounds_toArray, List.set_cons_zero, List.set_cons_succ]
      refine held_take (i := 1) (d := 118) (v := ?v50) rfl rfl (by kernel_rfl) (by kernel_rfl) (by kernel_rfl) (fun _ _ _ h => h) (Or.inl ⟨by kernel_rfl, ?hy50⟩) hHeld ?rest50
      case hy50 =>
        intro wx hSw
        clear hSw
        go_simp
        with_reducible rfl
      simp only [List.setIfInBounds_toArray, List.set_cons_zero, List.set_cons_succ]
      refine held_take (i := 2) (d := 119) (v := ?v51) rfl rfl (by kernel_rfl) (by kernel_rfl) (by kernel_rfl) (fun _ _ _ h => h) (Or.inl ⟨by kernel_rfl, ?hy51⟩) hHeld ?rest51
      case hy51 =>
        intro wx hSw
        have q0 := (hSw.cell (p := ⟨w.heap.size, 0, none⟩) hlta).trans cxa0
        clear hSw
        go_simp
        with_reducible rfl
      simp only [List.setIfInBounds_toArray, List.set_cons_zero, List.set_cons_succ]
      refine held_take (i := 3) (d := 120) (v := ?v52) rfl rfl (by kernel_rfl) (by kernel_rfl) (by kernel_rfl) (fun _ _ _ h => h) (Or.inl ⟨by kernel_rfl, ?hy52⟩) hHeld ?rest52
      case hy52 =>
        intro wx hSw
        clear hSw
        go_simp
        with_reducible rfl
      simp only [List.setIfInBounds_toArray, List.set_cons_zero, List.set_cons_succ]
      refine held_take (i := 4) (d := 121) (v := ?v53) rfl rfl (by kernel_rfl) (by kernel_rfl) (by kernel_rfl) (fun _ _ _ h => h) (Or.inl ⟨by kernel_rfl, ?hy53⟩) hHeld ?rest53
      case hy53 =>
        intro wx hSw
        clear hSw
        go_simp
        with_reducible rfl
      simp only [List.setIfInBounds_toArray, List.set_cons_zero, List.set_cons_succ]
      refine held_take (i := 5) (d := 122) (v := ?v54) rfl rfl (by kernel_rfl) (by kernel_rfl) (by kernel_rfl) (fun _ _ _ h => h) (Or.inl ⟨by kernel_rfl, ?hy54⟩) hHeld ?rest54
      case hy54 =>
        intro wx hSw
        clear hSw
        go_simp
        with_reducible rfl
      simp only [List.setIfInBounds_toArray, List.set_cons_zero, List.set_cons_succ]
      refine held_take (i := 6) (d := 123) (v := ?v55) rfl rfl (by kernel_rfl) (by kernel_rfl) (by kernel_rfl) (fun _ _ _ h => h) (Or.inl ⟨by kernel_rfl, ?hy55⟩) hHeld ?rest55
      case hy55 =>
        intro wx hSw
        clear hSw
        go_simp
        with_reducible rfl
      simp only [List.setIfInBounds_toArray, List.set_cons_zero, List.set_cons_succ]
      refine held_take (i := 7) (d := 124) (v := ?v56) rfl rfl (by kernel_rfl) (by kernel_rfl) (by kernel_rfl) (fun _ _ _ h => h) (Or.inl ⟨by kernel_rfl, ?hy56⟩) hHeld ?rest56
      case hy56 =>
        intro wx hSw
        have q0 := (hSw.cell (p := ⟨g, 0 + 4, none⟩) hbq).trans v4
        clear hSw
        go_simp
        with_reducible rfl
      simp only [List.setIfInBounds_toArray, List.set_cons_zero, List.set_cons_succ]
      refine held_take (i := 8) (d := 125) (v := ?v57) rfl rfl (by kernel_rfl) (by kernel_rfl) (by kernel_rfl) (fun _ _ _ h => h) (Or.inl ⟨by kernel_rfl, ?hy57⟩) hHeld ?rest57
      case hy57 =>
        intro wx hSw
        clear hSw
        go_simp
        with_reducible rfl
      simp only [List.setIfInBounds_toArray, List.set_cons_zero, List.set_cons_succ]
      refine held_take (i := 9) (d := 126) (v := ?v58) rfl rfl (by kernel_rfl) (by kernel_rfl) (by kernel_rfl) (fun _ _ _ h => h) (Or.inl ⟨by kernel_rfl, ?hy58⟩) hHeld ?rest58
      case hy58 =>
        intro wx hSw
        clear hSw
        go_simp
        with_reducible rfl
      simp only [List.setIfInBounds_toArray, List.set_cons_zero, List.set_cons_succ]
      refine held_take (i := 10) (d := 127) (v := ?v59) rfl rfl (by kernel_rfl) (by kernel_rfl) (by kernel_rfl) (fun _ _ _ h => h) (Or.inl ⟨by kernel_rfl, ?hy59⟩) hHeld ?rest59
      case hy59 =>
        intro wx hSw
        have q0 := (hSw.cell (p := ⟨w.heap.size, 1, none⟩) hlta).trans cxa1
        clear hSw
        go_simp
        with_reducible rfl
      simp only [List.setIfInBounds_toArray, List.set_cons_zero, List.set_cons_succ]
      refine held_take (i := 11) (d := 128) (v := ?v60) rfl rfl (by kernel_rfl) (by kernel_rfl) (by kernel_rfl) (fun _ _ _ h => h) (Or.inl ⟨by kernel_rfl, ?hy60⟩) hHeld ?rest60
      case hy60 =>
        intro wx hSw
        clear hSw
        go_simp
        with_reducible rfl
      simp only [List.setIfInBounds_toArray, List.set_cons_zero, List.set_cons_succ]
      refine held_take (i := 12) (d := 129) (v := ?v61) rfl rfl (by kernel_rfl) (by kernel_rfl) (by kernel_rfl) (fun _ _ _ h => h) (Or.inl ⟨by kernel_rfl, ?hy61⟩) hHeld ?rest61
      case hy61 =>
        intro wx hSw
        clear hSw
        go_simp
        with_reducible rfl
      simp only [List.setIfInBounds_toArray, List.set_cons_zero, List.set_cons_succ]
      refine held_take (i := 13) (d := 130) (v := ?v62) rfl rfl (by kernel_rfl) (by kernel_rfl) (by kernel_rfl) (fun _ _ _ h => h) (Or.inl ⟨by kernel_rfl, ?hy62⟩) hHeld ?rest62
      case hy62 =>
        intro wx hSw
        clear hSw
        go_simp
        with_reducible rfl
      simp only [List.setIfInBounds_toArray, List.set_cons_zero, List.set_cons_succ]
      refine held_take (i := 14) (d := 131) (v := ?v63) rfl rfl (by kernel_rfl) (by kernel_rfl) (by kernel_rfl) (fun _ _ _ h => h) (Or.inl ⟨by kernel_rfl, ?hy63⟩) hHeld ?rest63
      case hy63 =>
        intro wx hSw
        clear hSw
        go_simp
        with_reducible rfl
      simp only [List.setIfInBounds_toArray, List.set_cons_zero, List.set_cons_succ]
      refine held_take (i := 15) (d := 132) (v := ?v64) rfl rfl (by kernel_rfl) (by kernel_rfl) (by kernel_rfl) (fun _ _ _ h => h) (Or.inl ⟨by kernel_rfl, ?hy64⟩) hHeld ?rest64
      case hy64 =>
        intro wx hSw
        clear hSw
        go_simp
        with_reducible rfl
      simp only [List.setIfInBounds_toArray, List.set_cons_zero, List.set_cons_succ]
      refine held_take (i := 16) (d := 133) (v := ?v65) rfl rfl (by kernel_rfl) (by kernel_rfl) (by kernel_rfl) (fun _ _ _ h => h) (Or.inl ⟨by kernel_rfl, ?hy65⟩) hHeld ?rest65
      case hy65 =>
        intro wx hSw
        have q0 := (hSw.cell (p := ⟨g, 0 + 5, none⟩) hbq).trans v5
        clear hSw
        go_simp
        with_reducible rfl
      simp only [List.setIfInBounds_toArray, List.set_cons_zero, List.set_cons_succ]
      refine held_take (i := 17) (d := 134) (v := ?v66) rfl rfl (by kernel_rfl) (by kernel_rfl) (by kernel_rfl) (fun _ _ _ h => h) (Or.inl ⟨by kernel_rfl, ?hy66⟩) hHeld ?rest66
      case hy66 =>
        intro wx hSw
        clear hSw
        go_simp
        with_reducible rfl
      simp only [List.setIfInBounds_toArray, List.set_cons_zero, List.set_cons_succ]
      refine held_take (i := 18) (d := 135) (v := ?v67) rfl rfl (by kernel_rfl) (by kernel_rfl) (by kernel_rfl) (fun _ _ _ h => h) (Or.inl ⟨by kernel_rfl, ?hy67⟩) hHeld ?rest67
      case hy67 =>
        intro wx hSw
        clear hSw
        go_simp
        with_reducible rfl
      simp only [List.setIfInBounds_toArray, List.set_cons_zero, List.set_cons_succ]
      refine held_take (i := 19) (d := 136) (v := ?v68) rfl rfl (by kernel_rfl) (by kernel_rfl) (by kernel_rfl) (fun _ _ _ h => h) (Or.inl ⟨by kernel_rfl, ?hy68⟩) hHeld ?rest68
      case hy68 =>
        intro wx hSw
        have q0 := (hSw.cell (p := ⟨w.heap.size, 2, none⟩) hlta).trans cxa2
        clear hSw
        go_simp
        with_reducible rfl
      simp only [List.setIfInBounds_toArray, List.set_cons_zero, List.set_cons_succ]
      refine held_take (i := 20) (d := 137) (v := ?v69) rfl rfl (by kernel_rfl) (by kernel_rfl) (by kernel_rfl) (fun _ _ _ h => h) (Or.inl ⟨by kernel_rfl, ?hy69⟩) hHeld ?rest69
      case hy69 =>
        intro wx hSw
        clear hSw
        go_simp
        with_reducible rfl
      simp only [List.setIfInBounds_toArray, List.set_cons_zero, List.set_cons_succ]
      refine held_take (i := 21) (d := 138) (v := ?v70) rfl rfl (by kernel_rfl) (by kernel_rfl) (by kernel_rfl) (fun _ _ _ h => h) (Or.inl ⟨by kernel_rfl, ?hy70⟩) hHeld ?rest70
      case hy70 =>
        intro wx hSw
        clear hSw
        go_simp
        with_reducible rfl
      simp only [List.setIfInBounds_toArray, List.set_cons_zero, List.set_cons_succ]
      refine held_take (i := 22) (d := 139) (v := ?v71) rfl rfl (by kernel_rfl) (by kernel_rfl) (by kernel_rfl) (fun _ _ _ h => h) (Or.inl ⟨by kernel_rfl, ?hy71⟩) hHeld ?rest71
      case hy71 =>
        intro wx hSw
        clear hSw
        go_simp
        with_reducible rfl
      simp only [List.setIfInBounds_toArray, List.set_cons_zero, List.set_cons_succ]
      refine held_take (i := 23) (d := 140) (v := ?v72) rfl rfl (by kernel_rfl) (by kernel_rfl) (by kernel_rfl) (fun _ _ _ h => h) (Or.inl ⟨by kernel_rfl, ?hy72⟩) hHeld ?rest72
      case hy72 =>
        intro wx hSw
        clear hSw
        go_simp
        with_reducible rfl
      simp only [List.setIfInBounds_toArray, List.set_cons_zero, List.set_cons_succ]
      refine held_take (i := 24) (d := 141) (v := ?v73) rfl rfl (by kernel_rfl) (by kernel_rfl) (by kernel_rfl) (fun _ _ _ h => h) (Or.inl ⟨by kernel_rfl, ?hy73⟩) hHeld ?rest73
      case hy73 =>
        intro wx hSw
        clear hSw
        go_simp
        with_reducible rfl
      simp only [List.setIfInBounds_toArray, List.set_cons_zero, List.set_cons_succ]
      refine held_take (i := 25) (d := 142) (v := ?v74) rfl rfl (by kernel_rfl) (by kernel_rfl) (by kernel_rfl) (fun _ _ _ h => h) (Or.inl ⟨by kernel_rfl, ?hy74⟩) hHeld ?rest74
      case hy74 =>
        intro wx hSw
        clear hSw
        go_simp
        with_reducible rfl
      simp only [List.setIfInBounds_toArray, List.set_cons_zero, List.set_cons_succ]
      refine held_take (i := 26) (d := 143) (v := ?v75) rfl rfl (by kernel_rfl) (by kernel_rfl) (by kernel_rfl) (fun _ _ _ h => h) (Or.inl ⟨by kernel_rfl, ?hy75⟩) hHeld ?rest75
      case hy75 =>
        intro wx hSw
        have q0 := (hSw.cell (p := ⟨w.heap.size, 2, none⟩) hlta).trans cxa2
        clear hSw
        go_simp
        with_reducible rfl
      simp only [List.setIfInBounds_toArray, List.set_cons_zero, List.set_cons_succ]
      refine held_take (i := 27) (d := 144) (v := ?v76) rfl rfl (by kernel_rfl) (by kernel_rfl) (by kernel_rfl) (fun _ _ _ h => h) (Or.inl ⟨by kernel_rfl, ?hy76⟩) hHeld ?rest76
      case hy76 =>
        intro wx hSw
        clear hSw
        go_simp
        with_reducible rfl
      simp only [List.setIfInBounds_toArray, List.set_cons_zero, List.set_cons_succ]
      refine held_take (i := 28) (d := 145) (v := ?v77) rfl rfl (by kernel_rfl) (by kernel_rfl) (by kernel_rfl) (fun _ _ _ h => h) (Or.inl ⟨by kernel_rfl, ?hy77⟩) hHeld ?rest77
      case hy77 =>
        intro wx hSw
        clear hSw
        go_simp
        with_reducible rfl
      simp only [List.setIfInBounds_toArray, List.set_cons_zero, List.set_cons_succ]
      refine held_take (i := 29) (d := 146) (v := ?v78) rfl rfl (by kernel_rfl) (by kernel_rfl) (by kernel_rfl) (fun _ _ _ h => h) (Or.inl ⟨by kernel_rfl, ?hy78⟩) hHeld ?rest78
      case hy78 =>
        intro wx hSw
        clear hSw
        go_simp
        with_reducible rfl
      simp only [List.setIfInBounds_toArray, List.set_cons_zero, List.set_cons_succ]
      refine held_take (i := 30) (d := 147) (v := ?v79) rfl rfl (by kernel_rfl) (by kernel_rfl) (by kernel_rfl) (fun _ _ _ h => h) (Or.inl ⟨by kernel_rfl, ?hy79⟩) hHeld ?rest79
      case hy79 =>
        intro wx hSw
        clear hSw
        go_simp
        with_reducible rfl
      simp only [List.setIfInBounds_toArray, List.set_cons_zero, List.set_cons_succ]
      refine held_take (i := 31) (d := 148) (v := ?v80) rfl rfl (by kernel_rfl) (by kernel_rfl) (by kernel_rfl) (fun _ _ _ h => h) (Or.inl ⟨by kernel_rfl, ?hy80⟩) hHeld ?rest80
      case hy80 =>
        intro wx hSw
        have q0 := (hSw.cell (p := ⟨w.heap.size, 2, none⟩) hlta).trans cxa2
        clear hSw
        go_simp
        with_reducible rfl
      simp only [List.setIfInBounds_toArray, List.set_cons_zero, List.set_cons_succ]
      refine wpAnyH_ready (rs := [32]) (by kernel_rfl) (by simp) ?_
      refine AllReadyH.cons rfl (fun K hK => ?_) AllReadyH.nil
      go_simp
      go_wp2_with (go_at_call 14; refine (HCY.out _ (by exact hHeld)).mono ?_; rintro e wb ⟨rfl, b8⟩)
      refine hK.out _ _ (b8) (fun hHeld => ?_)
      clear hK K
      refine held_take (i := 33) (d := 150) (v := ?v81) rfl rfl (by kernel_rfl) (by kernel_rfl) (by kernel_rfl) (fun _ _ _ h => h) (Or.inl ⟨by kernel_rfl, ?hy81⟩) hHeld ?rest81
      case hy81 =>
        intro wx hSw
        clear hSw
        go_simp
        with_reducible rfl
      simp only [List.setIfInBounds_toArray, List.set_cons_zero, List.set_cons_succ]
      refine held_take (i := 34) (d := 151) (v := ?v82) rfl rfl (by kernel_rfl) (by kernel_rfl) (by kernel_rfl) (fun _ _ _ h => h) (Or.inl ⟨by kernel_rfl, ?hy82⟩) hHeld ?rest82
      case hy82 =>
        intro wx hSw
        clear hSw
        go_simp
        with_reducible rfl
      simp only [List.setIfInBounds_toArray, List.set_cons_zero, List.set_cons_succ]
      refine wpAnyH_ready (rs := [35]) (by kernel_rfl) (by simp) ?_
      refine AllReadyH.cons rfl (fun K hK => ?_) AllReadyH.nil
      go_simp
      go_wp2_with (go_at_call 13; refine (HWK.out _ (by exact hHeld)).mono ?_; rintro e wb ⟨rfl, b8⟩)
      refine hK.out _ _ (b8) (fun hHeld => ?_)
      clear hK K
      refine held_take (i := 36) (d := 153) (v := ?v83) rfl rfl (by kernel_rfl) (by kernel_rfl) (by kernel_rfl) (fun _ _ _ h => h) (Or.inl ⟨by kernel_rfl, ?hy83⟩) hHeld ?rest83
      case hy83 =>
        intro wx hSw
        clear hSw
        go_simp
        with_reducible rfl
      simp only [List.setIfInBounds_toArray, List.set_cons_zero, List.set_cons_succ]
      refine wpAnyH_ready (rs := [37]) (by kernel_rfl) (by simp) ?_
      refine AllReadyH.cons rfl (fun K hK => ?_) AllReadyH.nil
      go_simp
      refine hK.out _ _ hHeld (fun hHeld => ?_)
      clear hK K
      refine wpAnyH_done (by kernel_rfl) ?_ _
      go_wp2
      go_ret
      exact ⟨rfl, bb.trans (hHeld.mono bb.size)⟩

set_option maxRecDepth 100000 in
set_option maxHeartbeats 2000000 in
theorem blockUnlike_long (z s m : Int) (a : Option Addr) (n cap : Nat) (s' m' : Int) (a' : Option Addr) (n' cap' : Nat) (h : 100 < n ∨ 100 < n') (w : World) :
    Calls Try.prog 6 #[.int .i64 z, .agg #[.int .i64 s, .int .i64 m, .slice a n cap], .agg #[.int .i64 s', .int .i64 m', .slice a' n' cap']] w fun e w' => e = .returned (.bool true) ∧ Below w.heap.size w w' := by
  have b0 : Below w.heap.size w ((w.alloc (.cells #[.int .i64 s, .int .i64 m, .slice a n cap] 24)).alloc (.cells #[.int .i64 s', .int .i64 m', .slice a' n' cap'] 24)) := ((Below.refl w.heap.size w).alloc (Nat.le_refl _) _).alloc (by simp) _
  by_cases h3 : 100 < n
  · have dl : decide (100 < (n : Int)) = true := decide_eq_true (by omega)
    have dl' : decide (100 < n) = true := decide_eq_true h3
    clear h h3
    go_enter Try.func6, Try.ntmps6
    go_wp2
    go_ret
    exact ⟨rfl, b0⟩
  · have h4 : 100 < n' := by omega
    have dl : decide (100 < (n : Int)) = false := decide_eq_false (by omega)
    have dl' : decide (100 < n) = false := decide_eq_false (by omega)
    have dm : decide (100 < (n' : Int)) = true := decide_eq_true (by omega)
    have dm' : decide (100 < n') = true := decide_eq_true h4
    clear h h3 h4
    go_enter Try.func6, Try.ntmps6
    go_wp2
    go_ret
    exact ⟨rfl, b0⟩

/-- The law, of whatever size and blocks. -/
theorem blockUnlike_walk (z s m : Int) (a : Option Addr) (len cap : Nat) (z1 : List Int) (s' m' : Int) (a' : Option Addr) (len' cap' : Nat) (z2 : List Int) (w : World) (h1 : IsRow .u8 w a len cap z1) (h2 : IsRow .u8 w a' len' cap' z2) :
    Calls Try.prog 6 #[.int .i64 z, .agg #[.int .i64 s, .int .i64 m, .slice a len cap], .agg #[.int .i64 s', .int .i64 m', .slice a' len' cap']] w fun e w' => e = .returned (.bool true) ∧ Below w.heap.size w w' := by
  obtain ⟨xs, rfl, hx, bx⟩ := holds_of_isRow h1
  obtain ⟨ys, rfl, hy, by'⟩ := holds_of_isRow h2
  by_cases h : 100 < xs.length ∨ 100 < ys.length
  · exact blockUnlike_long z s m a _ cap s' m' a' _ cap' h w
  by_cases hE : errB z s m xs.length = 0
  · obtain ⟨Z, rfl, hR⟩ := right_of hE
    by_cases hE' : errB (Z : Int) s' m' ys.length = 0
    · exact blockUnlike_ok Z s m a cap xs (by omega) (bytes_bd bx) s' m' a' cap' ys (by omega) (bytes_bd by') hR ((right_iff _ _ _ _).1 hE') w hx hy
    · exact blockUnlike_yn Z s m a cap xs (by omega) (bytes_bd bx) s' m' a' cap' ys (by omega) (bytes_bd by') hR hE' w hx hy
  · by_cases hE' : errB z s' m' ys.length = 0
    · obtain ⟨Z, rfl, hR⟩ := right_of hE'
      exact blockUnlike_ny Z s m a cap xs (by omega) (bytes_bd bx) s' m' a' cap' ys (by omega) (bytes_bd by') hE hR w hx hy
    · exact blockUnlike_nn z s m a cap xs (by omega) (bytes_bd bx) s' m' a' cap' ys (by omega) (bytes_bd by') hE hE' w hx hy

end Go.Proofs.Ytejpnjegahbaoaa
