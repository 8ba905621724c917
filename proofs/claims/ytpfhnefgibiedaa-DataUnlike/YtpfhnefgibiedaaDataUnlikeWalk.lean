/-
  DataUnlike: the walk: whatever the two data, the law answers true, and nothing that lay has turned. (Written by tpl_dataunlike.py.)
-/
import Derived.Test.YtpfhnefgibiedaaDataReadsWalk
import Derived.Test.YtpfhnefgibiedaaCrcBurstWalk
import Derived.Test.YtpfhnefgibiedaaRegionHand
import Derived.Deep.Cut
import Derived.Deep.CutRange
import Derived.Deep.DeepCutAuto
namespace Go.Proofs.Ytpfhnefgibiedaa
open Go.RowKit

theorem packD_get9 (s r f : Int) (xs : List Int) : ∃ c1 c2 : Int, (packD s r f xs)[9]? = some c1 ∧ (packD s r f xs)[10]? = some c2 ∧ (0 ≤ c1 ∧ c1 ≤ 255) ∧ (0 ≤ c2 ∧ c2 ≤ 255) ∧ c1 * 256 + c2 = (sum16 (headD s r f xs.length) : Int) := by
  have hs := sum16_lt (headD s r f xs.length)
  have hb := beBytes_two (sum16 (headD s r f xs.length) : Int)
  have h9 : (packD s r f xs)[9]? = ((packD s r f xs).drop 9)[0]? := by rw [List.getElem?_drop]
  have h10 : (packD s r f xs)[10]? = ((packD s r f xs).drop 9)[1]? := by rw [List.getElem?_drop]
  rw [packD_drop9, hb] at h9 h10
  have e3 : (2 : Int) ^ 8 = 256 := by decide
  have e4 : (2 : Int) ^ 0 = 1 := by decide
  rw [e3, e4] at h9 h10
  refine ⟨_, _, h9, h10, ?_, ?_, ?_⟩
  · omega
  · omega
  · omega
theorem or_two {x0 x1 : Int} (h0 : 0 ≤ x0 ∧ x0 ≤ 255) (h1 : 0 ≤ x1 ∧ x1 ≤ 255) : bits .or .i64 (x0 * 256) x1 = x0 * 256 + x1 := by
  have e63 : (2 : Int) ^ 63 = 9223372036854775808 := by decide
  have e8 : (2 : Int) ^ 8 = 256 := by decide
  exact bits_join .i64 63 (by decide) wraps_i64 8 _ _ (by omega) (by rw [e8]; omega) (by rw [e63]; omega) (by omega) (by rw [e8]; omega) (by rw [e63]; omega)
theorem packD_get0 (s r f : Int) (xs : List Int) : (packD s r f xs)[0]? = some 68 := by rw [packD_list]; rfl
theorem packD_get5 (s r f : Int) (xs : List Int) : (packD s r f xs)[5]? = some r := by rw [packD_list]; rfl
theorem packD_get8 (s r f : Int) (xs : List Int) : (packD s r f xs)[8]? = some (xs.length : Int) := by rw [packD_list]; rfl

set_option maxRecDepth 100000 in
set_option maxHeartbeats 4000000 in
theorem dataUnlike_nn (s r f : Int) (a : Option Addr) (cap : Nat) (xs : List Int) (hl : xs.length ≤ 200) (bx : ∀ z ∈ xs, 0 ≤ z ∧ z ≤ 255) (s' r' f' : Int) (a' : Option Addr) (cap' : Nat) (ys : List Int) (hl' : ys.length ≤ 200) (by' : ∀ z ∈ ys, 0 ≤ z ∧ z ≤ 255) (hA : errD s r f xs.length ≠ 0) (hB : errD s' r' f' ys.length ≠ 0) (w : World) (ha : Holds .u8 w.heap.size w (.slice a xs.length cap) xs) (hb : Holds .u8 w.heap.size w (.slice a' ys.length cap') ys) :
    Calls Try.prog 7 #[.agg #[.int .i64 s, .int .i64 r, .int .i64 f, .slice a xs.length cap], .agg #[.int .i64 s', .int .i64 r', .int .i64 f', .slice a' ys.length cap']] w fun e w' => e = .returned (.bool true) ∧ Below w.heap.size w w' := by
  have HBX : Hid (∀ z ∈ xs, 0 ≤ z ∧ z ≤ 255) := bx
  have HBY : Hid (∀ z ∈ ys, 0 ≤ z ∧ z ≤ 255) := by'
  have dl : decide (200 < (xs.length : Int)) = false := decide_eq_false (by omega)
  have dm : decide (200 < xs.length) = false := decide_eq_false (by omega)
  have dl' : decide (200 < (ys.length : Int)) = false := decide_eq_false (by omega)
  have dm' : decide (200 < ys.length) = false := decide_eq_false (by omega)
  have bb : Below w.heap.size w ((w.alloc (.cells #[.int .i64 s, .int .i64 r, .int .i64 f, .slice a xs.length cap] 24)).alloc (.cells #[.int .i64 s', .int .i64 r', .int .i64 f', .slice a' ys.length cap'] 24)) := ((Below.refl w.heap.size w).alloc (Nat.le_refl _) _).alloc (by simp) _
  have xa : Box ((w.alloc (.cells #[.int .i64 s, .int .i64 r, .int .i64 f, .slice a xs.length cap] 24)).alloc (.cells #[.int .i64 s', .int .i64 r', .int .i64 f', .slice a' ys.length cap'] 24)) w.heap.size 24 #[.int .i64 s, .int .i64 r, .int .i64 f, .slice a xs.length cap] := (Box.new w _ _).alloc _
  have xb : Box ((w.alloc (.cells #[.int .i64 s, .int .i64 r, .int .i64 f, .slice a xs.length cap] 24)).alloc (.cells #[.int .i64 s', .int .i64 r', .int .i64 f', .slice a' ys.length cap'] 24)) (w.heap.size + 1) 24 #[.int .i64 s', .int .i64 r', .int .i64 f', .slice a' ys.length cap'] := by
    have := Box.new (w.alloc (.cells #[.int .i64 s, .int .i64 r, .int .i64 f, .slice a xs.length cap] 24)) 24 #[.int .i64 s', .int .i64 r', .int .i64 f', .slice a' ys.length cap']
    simpa using this
  replace ha := ha.next bb
  replace hb := hb.next bb
  obtain ⟨E, hE⟩ : ∃ E, errD s r f xs.length = E := ⟨_, rfl⟩
  have HhA : Hid (errD s r f xs.length ≠ 0) := hA
  have HEhA : Hid (errD s r f xs.length = E) := hE
  rw [hE] at hA
  have dhA : (E != 0) = true := by simp [hA]
  have ehA : (E == 0) = false := by simp [hA]
  clear hE hA
  obtain ⟨E', hE'⟩ : ∃ E, errD s' r' f' ys.length = E := ⟨_, rfl⟩
  have HhB : Hid (errD s' r' f' ys.length ≠ 0) := hB
  have HEhB : Hid (errD s' r' f' ys.length = E') := hE'
  rw [hE'] at hB
  have dhB : (E' != 0) = true := by simp [hB]
  have ehB : (E' == 0) = false := by simp [hB]
  clear hE' hB
  clear bx by'
  go_enter Try.func7, Try.ntmps7
  have HC := DataMake_no s r f a xs.length cap HhA.out ((w.alloc (.cells #[.int .i64 s, .int .i64 r, .int .i64 f, .slice a xs.length cap] 24)).alloc (.cells #[.int .i64 s', .int .i64 r', .int .i64 f', .slice a' ys.length cap'] 24))
  rw [HEhA.out] at HC
  have cxa0 := xa.cell 0 _ rfl
  have cxa1 := xa.cell 1 _ rfl
  have cxa2 := xa.cell 2 _ rfl
  have cxa3 := xa.cell 3 _ rfl
  go_wp2_with fail
  refine (HC).mono ?_
  rintro e w1 ⟨rfl, b9⟩
  clear cxa0 cxa1 cxa2 cxa3
  replace xa := xa.next b9
  replace xb := xb.next b9
  replace ha := ha.next b9
  replace hb := hb.next b9
  replace bb := bb.trans (b9.mono bb.size)
  clear b9
  clear HC
  have HC := DataMake_no s' r' f' a' ys.length cap' HhB.out w1
  rw [HEhB.out] at HC
  have cxb0 := xb.cell 0 _ rfl
  have cxb1 := xb.cell 1 _ rfl
  have cxb2 := xb.cell 2 _ rfl
  have cxb3 := xb.cell 3 _ rfl
  go_wp2_with fail
  refine (HC).mono ?_
  rintro e w2 ⟨rfl, b9⟩
  clear cxb0 cxb1 cxb2 cxb3
  replace xa := xa.next b9
  replace xb := xb.next b9
  replace ha := ha.next b9
  replace hb := hb.next b9
  replace bb := bb.trans (b9.mono bb.size)
  clear b9
  clear HC
  have HWK := dataWakes_any w2
  go_wp2_with (go_at_call 13; refine HWK.mono ?_; rintro e w99 ⟨rfl, b99⟩)
  go_ret
  exact ⟨rfl, bb.trans (b99.mono bb.size)⟩

set_option maxRecDepth 100000 in
set_option maxHeartbeats 4000000 in
theorem dataUnlike_ny (s r f : Int) (a : Option Addr) (cap : Nat) (xs : List Int) (hl : xs.length ≤ 200) (bx : ∀ z ∈ xs, 0 ≤ z ∧ z ≤ 255) (s' r' f' : Int) (a' : Option Addr) (cap' : Nat) (ys : List Int) (hl' : ys.length ≤ 200) (by' : ∀ z ∈ ys, 0 ≤ z ∧ z ≤ 255) (hA : errD s r f xs.length ≠ 0) (hB : RightD s' r' f' ys) (w : World) (ha : Holds .u8 w.heap.size w (.slice a xs.length cap) xs) (hb : Holds .u8 w.heap.size w (.slice a' ys.length cap') ys) :
    Calls Try.prog 7 #[.agg #[.int .i64 s, .int .i64 r, .int .i64 f, .slice a xs.length cap], .agg #[.int .i64 s', .int .i64 r', .int .i64 f', .slice a' ys.length cap']] w fun e w' => e = .returned (.bool true) ∧ Below w.heap.size w w' := by
  have HBX : Hid (∀ z ∈ xs, 0 ≤ z ∧ z ≤ 255) := bx
  have HBY : Hid (∀ z ∈ ys, 0 ≤ z ∧ z ≤ 255) := by'
  have dl : decide (200 < (xs.length : Int)) = false := decide_eq_false (by omega)
  have dm : decide (200 < xs.length) = false := decide_eq_false (by omega)
  have dl' : decide (200 < (ys.length : Int)) = false := decide_eq_false (by omega)
  have dm' : decide (200 < ys.length) = false := decide_eq_false (by omega)
  have bb : Below w.heap.size w ((w.alloc (.cells #[.int .i64 s, .int .i64 r, .int .i64 f, .slice a xs.length cap] 24)).alloc (.cells #[.int .i64 s', .int .i64 r', .int .i64 f', .slice a' ys.length cap'] 24)) := ((Below.refl w.heap.size w).alloc (Nat.le_refl _) _).alloc (by simp) _
  have xa : Box ((w.alloc (.cells #[.int .i64 s, .int .i64 r, .int .i64 f, .slice a xs.length cap] 24)).alloc (.cells #[.int .i64 s', .int .i64 r', .int .i64 f', .slice a' ys.length cap'] 24)) w.heap.size 24 #[.int .i64 s, .int .i64 r, .int .i64 f, .slice a xs.length cap] := (Box.new w _ _).alloc _
  have xb : Box ((w.alloc (.cells #[.int .i64 s, .int .i64 r, .int .i64 f, .slice a xs.length cap] 24)).alloc (.cells #[.int .i64 s', .int .i64 r', .int .i64 f', .slice a' ys.length cap'] 24)) (w.heap.size + 1) 24 #[.int .i64 s', .int .i64 r', .int .i64 f', .slice a' ys.length cap'] := by
    have := Box.new (w.alloc (.cells #[.int .i64 s, .int .i64 r, .int .i64 f, .slice a xs.length cap] 24)) 24 #[.int .i64 s', .int .i64 r', .int .i64 f', .slice a' ys.length cap']
    simpa using this
  replace ha := ha.next bb
  replace hb := hb.next bb
  obtain ⟨E, hE⟩ : ∃ E, errD s r f xs.length = E := ⟨_, rfl⟩
  have HhA : Hid (errD s r f xs.length ≠ 0) := hA
  have HEhA : Hid (errD s r f xs.length = E) := hE
  rw [hE] at hA
  have dhA : (E != 0) = true := by simp [hA]
  have ehA : (E == 0) = false := by simp [hA]
  clear hE hA
  have HhB : Hid (RightD s' r' f' ys) := hB
  clear hB
  clear bx by'
  go_enter Try.func7, Try.ntmps7
  have HC := DataMake_no s r f a xs.length cap HhA.out ((w.alloc (.cells #[.int .i64 s, .int .i64 r, .int .i64 f, .slice a xs.length cap] 24)).alloc (.cells #[.int .i64 s', .int .i64 r', .int .i64 f', .slice a' ys.length cap'] 24))
  rw [HEhA.out] at HC
  have cxa0 := xa.cell 0 _ rfl
  have cxa1 := xa.cell 1 _ rfl
  have cxa2 := xa.cell 2 _ rfl
  have cxa3 := xa.cell 3 _ rfl
  go_wp2_with fail
  refine (HC).mono ?_
  rintro e w1 ⟨rfl, b9⟩
  clear cxa0 cxa1 cxa2 cxa3
  replace xa := xa.next b9
  replace xb := xb.next b9
  replace ha := ha.next b9
  replace hb := hb.next b9
  replace bb := bb.trans (b9.mono bb.size)
  clear b9
  clear HC
  have HC := DataMake_ok s' r' f' a' cap' ys HhB.out HBY.out _ hb
  have cxb0 := xb.cell 0 _ rfl
  have cxb1 := xb.cell 1 _ rfl
  have cxb2 := xb.cell 2 _ rfl
  have cxb3 := xb.cell 3 _ rfl
  go_wp2_with fail
  refine (HC).mono ?_
  rintro e w2 ⟨q, rfl, o9, b9⟩
  clear cxb0 cxb1 cxb2 cxb3
  replace xa := xa.next b9
  replace xb := xb.next b9
  replace ha := ha.next b9
  replace hb := hb.next b9
  replace bb := bb.trans (b9.mono bb.size)
  clear b9
  clear HC
  obtain ⟨qa, qc, rfl⟩ := row_shapeP o9
  clear o9
  have HWK := dataWakes_any w2
  go_wp2_with (go_at_call 13; refine HWK.mono ?_; rintro e w99 ⟨rfl, b99⟩)
  go_ret
  exact ⟨rfl, bb.trans (b99.mono bb.size)⟩

set_option maxRecDepth 100000 in
set_option maxHeartbeats 4000000 in
theorem dataUnlike_yn (s r f : Int) (a : Option Addr) (cap : Nat) (xs : List Int) (hl : xs.length ≤ 200) (bx : ∀ z ∈ xs, 0 ≤ z ∧ z ≤ 255) (s' r' f' : Int) (a' : Option Addr) (cap' : Nat) (ys : List Int) (hl' : ys.length ≤ 200) (by' : ∀ z ∈ ys, 0 ≤ z ∧ z ≤ 255) (hA : RightD s r f xs) (hB : errD s' r' f' ys.length ≠ 0) (w : World) (ha : Holds .u8 w.heap.size w (.slice a xs.length cap) xs) (hb : Holds .u8 w.heap.size w (.slice a' ys.length cap') ys) :
    Calls Try.prog 7 #[.agg #[.int .i64 s, .int .i64 r, .int .i64 f, .slice a xs.length cap], .agg #[.int .i64 s', .int .i64 r', .int .i64 f', .slice a' ys.length cap']] w fun e w' => e = .returned (.bool true) ∧ Below w.heap.size w w' := by
  have HBX : Hid (∀ z ∈ xs, 0 ≤ z ∧ z ≤ 255) := bx
  have HBY : Hid (∀ z ∈ ys, 0 ≤ z ∧ z ≤ 255) := by'
  have dl : decide (200 < (xs.length : Int)) = false := decide_eq_false (by omega)
  have dm : decide (200 < xs.length) = false := decide_eq_false (by omega)
  have dl' : decide (200 < (ys.length : Int)) = false := decide_eq_false (by omega)
  have dm' : decide (200 < ys.length) = false := decide_eq_false (by omega)
  have bb : Below w.heap.size w ((w.alloc (.cells #[.int .i64 s, .int .i64 r, .int .i64 f, .slice a xs.length cap] 24)).alloc (.cells #[.int .i64 s', .int .i64 r', .int .i64 f', .slice a' ys.length cap'] 24)) := ((Below.refl w.heap.size w).alloc (Nat.le_refl _) _).alloc (by simp) _
  have xa : Box ((w.alloc (.cells #[.int .i64 s, .int .i64 r, .int .i64 f, .slice a xs.length cap] 24)).alloc (.cells #[.int .i64 s', .int .i64 r', .int .i64 f', .slice a' ys.length cap'] 24)) w.heap.size 24 #[.int .i64 s, .int .i64 r, .int .i64 f, .slice a xs.length cap] := (Box.new w _ _).alloc _
  have xb : Box ((w.alloc (.cells #[.int .i64 s, .int .i64 r, .int .i64 f, .slice a xs.length cap] 24)).alloc (.cells #[.int .i64 s', .int .i64 r', .int .i64 f', .slice a' ys.length cap'] 24)) (w.heap.size + 1) 24 #[.int .i64 s', .int .i64 r', .int .i64 f', .slice a' ys.length cap'] := by
    have := Box.new (w.alloc (.cells #[.int .i64 s, .int .i64 r, .int .i64 f, .slice a xs.length cap] 24)) 24 #[.int .i64 s', .int .i64 r', .int .i64 f', .slice a' ys.length cap']
    simpa using this
  replace ha := ha.next bb
  replace hb := hb.next bb
  have HhA : Hid (RightD s r f xs) := hA
  clear hA
  obtain ⟨E', hE'⟩ : ∃ E, errD s' r' f' ys.length = E := ⟨_, rfl⟩
  have HhB : Hid (errD s' r' f' ys.length ≠ 0) := hB
  have HEhB : Hid (errD s' r' f' ys.length = E') := hE'
  rw [hE'] at hB
  have dhB : (E' != 0) = true := by simp [hB]
  have ehB : (E' == 0) = false := by simp [hB]
  clear hE' hB
  clear bx by'
  go_enter Try.func7, Try.ntmps7
  have HC := DataMake_ok s r f a cap xs HhA.out HBX.out _ ha
  have cxa0 := xa.cell 0 _ rfl
  have cxa1 := xa.cell 1 _ rfl
  have cxa2 := xa.cell 2 _ rfl
  have cxa3 := xa.cell 3 _ rfl
  go_wp2_with fail
  refine (HC).mono ?_
  rintro e w1 ⟨p, rfl, o9, b9⟩
  clear cxa0 cxa1 cxa2 cxa3
  replace xa := xa.next b9
  replace xb := xb.next b9
  replace ha := ha.next b9
  replace hb := hb.next b9
  replace bb := bb.trans (b9.mono bb.size)
  clear b9
  clear HC
  obtain ⟨pa, pc, rfl⟩ := row_shapeP o9
  clear o9
  have HC := DataMake_no s' r' f' a' ys.length cap' HhB.out w1
  rw [HEhB.out] at HC
  have cxb0 := xb.cell 0 _ rfl
  have cxb1 := xb.cell 1 _ rfl
  have cxb2 := xb.cell 2 _ rfl
  have cxb3 := xb.cell 3 _ rfl
  go_wp2_with fail
  refine (HC).mono ?_
  rintro e w2 ⟨rfl, b9⟩
  clear cxb0 cxb1 cxb2 cxb3
  replace xa := xa.next b9
  replace xb := xb.next b9
  replace ha := ha.next b9
  replace hb := hb.next b9
  replace bb := bb.trans (b9.mono bb.size)
  clear b9
  clear HC
  have HWK := dataWakes_any w2
  go_wp2_with (go_at_call 13; refine HWK.mono ?_; rintro e w99 ⟨rfl, b99⟩)
  go_ret
  exact ⟨rfl, bb.trans (b99.mono bb.size)⟩

set_option maxRecDepth 100000 in
set_option maxHeartbeats 4000000 in
theorem dataUnlike_ok (s r f : Int) (a : Option Addr) (cap : Nat) (xs : List Int) (hl : xs.length ≤ 200) (bx : ∀ z ∈ xs, 0 ≤ z ∧ z ≤ 255) (s' r' f' : Int) (a' : Option Addr) (cap' : Nat) (ys : List Int) (hl' : ys.length ≤ 200) (by' : ∀ z ∈ ys, 0 ≤ z ∧ z ≤ 255) (hA : RightD s r f xs) (hB : RightD s' r' f' ys) (w : World) (ha : Holds .u8 w.heap.size w (.slice a xs.length cap) xs) (hb : Holds .u8 w.heap.size w (.slice a' ys.length cap') ys) :
    Calls Try.prog 7 #[.agg #[.int .i64 s, .int .i64 r, .int .i64 f, .slice a xs.length cap], .agg #[.int .i64 s', .int .i64 r', .int .i64 f', .slice a' ys.length cap']] w fun e w' => e = .returned (.bool true) ∧ Below w.heap.size w w' := by
  have HBX : Hid (∀ z ∈ xs, 0 ≤ z ∧ z ≤ 255) := bx
  have HBY : Hid (∀ z ∈ ys, 0 ≤ z ∧ z ≤ 255) := by'
  have dl : decide (200 < (xs.length : Int)) = false := decide_eq_false (by omega)
  have dm : decide (200 < xs.length) = false := decide_eq_false (by omega)
  have dl' : decide (200 < (ys.length : Int)) = false := decide_eq_false (by omega)
  have dm' : decide (200 < ys.length) = false := decide_eq_false (by omega)
  have bb : Below w.heap.size w ((w.alloc (.cells #[.int .i64 s, .int .i64 r, .int .i64 f, .slice a xs.length cap] 24)).alloc (.cells #[.int .i64 s', .int .i64 r', .int .i64 f', .slice a' ys.length cap'] 24)) := ((Below.refl w.heap.size w).alloc (Nat.le_refl _) _).alloc (by simp) _
  have xa : Box ((w.alloc (.cells #[.int .i64 s, .int .i64 r, .int .i64 f, .slice a xs.length cap] 24)).alloc (.cells #[.int .i64 s', .int .i64 r', .int .i64 f', .slice a' ys.length cap'] 24)) w.heap.size 24 #[.int .i64 s, .int .i64 r, .int .i64 f, .slice a xs.length cap] := (Box.new w _ _).alloc _
  have xb : Box ((w.alloc (.cells #[.int .i64 s, .int .i64 r, .int .i64 f, .slice a xs.length cap] 24)).alloc (.cells #[.int .i64 s', .int .i64 r', .int .i64 f', .slice a' ys.length cap'] 24)) (w.heap.size + 1) 24 #[.int .i64 s', .int .i64 r', .int .i64 f', .slice a' ys.length cap'] := by
    have := Box.new (w.alloc (.cells #[.int .i64 s, .int .i64 r, .int .i64 f, .slice a xs.length cap] 24)) 24 #[.int .i64 s', .int .i64 r', .int .i64 f', .slice a' ys.length cap']
    simpa using this
  replace ha := ha.next bb
  replace hb := hb.next bb
  have HA : Hid (RightD s r f xs) := hA
  have HB : Hid (RightD s' r' f' ys) := hB
  have hx1 := hA.2.2.2.1
  have hx64 := hA.2.2.2.2
  have hr0 := hA.2.1
  obtain ⟨c1, c2, g9, g10, k1, k2, hsum⟩ := packD_get9 s r f xs
  have H9 : Hid ((packD s r f xs)[9]? = some c1) := g9
  have H10 : Hid ((packD s r f xs)[10]? = some c2) := g10
  have eq4 : ((xs.length : Int) + 11 != 11 + (xs.length : Int)) = false := by rw [bne_eq_false_iff_eq]; omega
  have ewz : IntKind.i64.wrap (11 + (xs.length : Int)) = 11 + (xs.length : Int) := by rw [IntKind.wrap_i64]; omega
  have ewz2 : IntKind.i64.wrap ((xs.length : Int) + 11) = (xs.length : Int) + 11 := by rw [IntKind.wrap_i64]; omega
  clear bx by' hA hB g9 g10
  go_enter Try.func7, Try.ntmps7
  have cxa0 := xa.cell 0 _ rfl
  have cxa1 := xa.cell 1 _ rfl
  have cxa2 := xa.cell 2 _ rfl
  have cxa3 := xa.cell 3 _ rfl
  go_wp2_with fail
  refine (DataMake_ok s r f a cap xs HA.out HBX.out _ ha).mono ?_
  rintro e w1 ⟨p, rfl, o9, b9⟩
  clear cxa0 cxa1 cxa2 cxa3
  replace xa := xa.next b9
  replace xb := xb.next b9
  replace ha := ha.next b9
  replace hb := hb.next b9
  replace bb := bb.trans (b9.mono bb.size)
  clear b9
  obtain ⟨g, c, rfl, hg0, hg⟩ := own_block o9 (by omega)
  have hx := holds_of_row o9
  have hc := row_cap o9
  clear o9 hg0
  have cxb0 := xb.cell 0 _ rfl
  have cxb1 := xb.cell 1 _ rfl
  have cxb2 := xb.cell 2 _ rfl
  have cxb3 := xb.cell 3 _ rfl
  go_wp2_with fail
  refine (DataMake_ok s' r' f' a' cap' ys HB.out HBY.out _ hb).mono ?_
  rintro e w2 ⟨p, rfl, o9, b9⟩
  clear cxb0 cxb1 cxb2 cxb3
  replace xa := xa.next b9
  replace xb := xb.next b9
  replace ha := ha.next b9
  replace hb := hb.next b9
  replace hx := hx.next b9
  replace bb := bb.trans (b9.mono bb.size)
  clear b9
  obtain ⟨ya, yc, rfl⟩ := row_shapeP o9
  have hy := holds_of_row o9
  clear o9
  have HK : Hid (decide (packD s r f xs = packD s' r' f' ys) = decide (s = s' ∧ r = r' ∧ f = f' ∧ xs = ys)) := by
    show decide (packD s r f xs = packD s' r' f' ys) = decide (s = s' ∧ r = r' ∧ f = f' ∧ xs = ys)
    by_cases h : s = s' ∧ r = r' ∧ f = f' ∧ xs = ys
    · obtain ⟨rfl, rfl, rfl, rfl⟩ := h
      simp
    · rw [decide_eq_false h, decide_eq_false (fun e => h (packD_inj HA.out HB.out e))]
  obtain ⟨D, hD⟩ : ∃ D, decide (s = s' ∧ r = r' ∧ f = f' ∧ xs = ys) = D := ⟨_, rfl⟩
  have HD : Hid (decide (s = s' ∧ r = r' ∧ f = f' ∧ xs = ys) = D) := hD
  have dD : (D != D) = false := by simp
  have HCY : Hid (∀ wx : World, Below w2.heap.size w2 wx → Calls Try.prog 14 #[.slice (some ⟨g, 0, none⟩) (xs.length + 11) c, .slice ya (ys.length + 11) yc] wx fun e w' => e = .returned (.bool D) ∧ Below w2.heap.size w2 w') := fun wx hw => by
    have := bytes_any (.slice (some ⟨g, 0, none⟩) (xs.length + 11) c) (.slice ya (ys.length + 11) yc) (packD s r f xs) (packD s' r' f' ys) _ _ wx (by rw [packD_len]; omega) (hx.below hw) (hy.below hw)
    rw [HK.out, HD.out] at this
    exact this.mono fun e w' ⟨h, q, hq⟩ => ⟨h, by rw [hq]; exact below_drewN hw q⟩
  have HCB : Hid (∀ wx : World, Below w2.heap.size w2 wx → Calls Try.prog 12 #[.agg #[.int .i64 s, .int .i64 r, .int .i64 f, .slice a xs.length cap], .agg #[.int .i64 s', .int .i64 r', .int .i64 f', .slice a' ys.length cap']] wx fun e w' => e = .returned (.bool D) ∧ Below w2.heap.size w2 w') := fun wx hw => by
    have := keepData_any s r f s' r' f' (.slice a xs.length cap) (.slice a' ys.length cap') xs ys wx _ _ hw.size hw.size (by omega) (ha.below hw) (hb.below hw)
    rw [HD.out] at this
    exact this.mono fun e w' ⟨h, b⟩ => ⟨h, hw.trans (b.mono hw.size)⟩
  clear hD
  have cxa0 := xa.cell 0 _ rfl
  have cxa1 := xa.cell 1 _ rfl
  have cxa2 := xa.cell 2 _ rfl
  have cxa3 := xa.cell 3 _ rfl
  have cxb0 := xb.cell 0 _ rfl
  have cxb1 := xb.cell 1 _ rfl
  have cxb2 := xb.cell 2 _ rfl
  have cxb3 := xb.cell 3 _ rfl
  have hlta := xa.lt
  have hltb := xb.lt
  go_wp2
  go_cut [70] (fun v wx => v = .bool false ∧ Below w2.heap.size w2 wx)
  case first =>
    refine wp_region_held_drew (S := fun w' => Below w2.heap.size w2 w') (by kernel_rfl) ((Below.refl _ _).drew) (fun hHeld => ?_)
    refine held_take (i := 0) (d := 55) (v := ?v1) rfl rfl (by kernel_rfl) (by kernel_rfl) (by kernel_rfl) (fun _ _ _ h => h) (Or.inl ⟨by kernel_rfl, ?hy1⟩) hHeld ?rest1
    case hy1 =>
      intro wx hSw
      clear hSw
      go_simp
      with_reducible rfl
    simp only [List.setIfInBounds_toArray, List.set_cons_zero, List.set_cons_succ]
    refine held_take (i := 1) (d := 56) (v := ?v2) rfl rfl (by kernel_rfl) (by kernel_rfl) (by kernel_rfl) (fun _ _ _ h => h) (Or.inl ⟨by kernel_rfl, ?hy2⟩) hHeld ?rest2
    case hy2 =>
      intro wx hSw
      clear hSw
      go_simp
      with_reducible rfl
    simp only [List.setIfInBounds_toArray, List.set_cons_zero, List.set_cons_succ]
    refine held_take (i := 2) (d := 57) (v := ?v3) rfl rfl (by kernel_rfl) (by kernel_rfl) (by kernel_rfl) (fun _ _ _ h => h) (Or.inl ⟨by kernel_rfl, ?hy3⟩) hHeld ?rest3
    case hy3 =>
      intro wx hSw
      clear hSw
      go_simp
      with_reducible rfl
    simp only [List.setIfInBounds_toArray, List.set_cons_zero, List.set_cons_succ]
    refine held_take (i := 3) (d := 58) (v := ?v4) rfl rfl (by kernel_rfl) (by kernel_rfl) (by kernel_rfl) (fun _ _ _ h => h) (Or.inl ⟨by kernel_rfl, ?hy4⟩) hHeld ?rest4
    case hy4 =>
      intro wx hSw
      have q0 := (hSw.cell (p := ⟨w.heap.size, 3, none⟩) hlta).trans cxa3
      clear hSw
      go_simp
      with_reducible rfl
    simp only [List.setIfInBounds_toArray, List.set_cons_zero, List.set_cons_succ]
    refine held_take (i := 4) (d := 59) (v := ?v5) rfl rfl (by kernel_rfl) (by kernel_rfl) (by kernel_rfl) (fun _ _ _ h => h) (Or.inl ⟨by kernel_rfl, ?hy5⟩) hHeld ?rest5
    case hy5 =>
      intro wx hSw
      clear hSw
      go_simp
      with_reducible rfl
    simp only [List.setIfInBounds_toArray, List.set_cons_zero, List.set_cons_succ]
    refine held_take (i := 5) (d := 60) (v := ?v6) rfl rfl (by kernel_rfl) (by kernel_rfl) (by kernel_rfl) (fun _ _ _ h => h) (Or.inl ⟨by kernel_rfl, ?hy6⟩) hHeld ?rest6
    case hy6 =>
      intro wx hSw
      clear hSw
      go_simp
      with_reducible rfl
    simp only [List.setIfInBounds_toArray, List.set_cons_zero, List.set_cons_succ]
    refine held_take (i := 6) (d := 61) (v := ?v7) rfl rfl (by kernel_rfl) (by kernel_rfl) (by kernel_rfl) (fun _ _ _ h => h) (Or.inl ⟨by kernel_rfl, ?hy7⟩) hHeld ?rest7
    case hy7 =>
      intro wx hSw
      clear hSw
      go_simp
      with_reducible rfl
    simp only [List.setIfInBounds_toArray, List.set_cons_zero, List.set_cons_succ]
    refine held_take (i := 7) (d := 62) (v := ?v8) rfl rfl (by kernel_rfl) (by kernel_rfl) (by kernel_rfl) (fun _ _ _ h => h) (Or.inl ⟨by kernel_rfl, ?hy8⟩) hHeld ?rest8
    case hy8 =>
      intro wx hSw
      clear hSw
      go_simp
      with_reducible rfl
    simp only [List.setIfInBounds_toArray, List.set_cons_zero, List.set_cons_succ]
    refine held_take (i := 8) (d := 63) (v := ?v9) rfl rfl (by kernel_rfl) (by kernel_rfl) (by kernel_rfl) (fun _ _ _ h => h) (Or.inl ⟨by kernel_rfl, ?hy9⟩) hHeld ?rest9
    case hy9 =>
      intro wx hSw
      clear hSw
      go_simp
      with_reducible rfl
    simp only [List.setIfInBounds_toArray, List.set_cons_zero, List.set_cons_succ]
    refine held_take (i := 9) (d := 64) (v := ?v10) rfl rfl (by kernel_rfl) (by kernel_rfl) (by kernel_rfl) (fun _ _ _ h => h) (Or.inl ⟨by kernel_rfl, ?hy10⟩) hHeld ?rest10
    case hy10 =>
      intro wx hSw
      clear hSw
      go_simp
      with_reducible rfl
    simp only [List.setIfInBounds_toArray, List.set_cons_zero, List.set_cons_succ]
    refine held_take (i := 11) (d := 66) (v := ?v11) rfl rfl (by kernel_rfl) (by kernel_rfl) (by kernel_rfl) (fun _ _ _ h => h) (Or.inl ⟨by kernel_rfl, ?hy11⟩) hHeld ?rest11
    case hy11 =>
      intro wx hSw
      have q0 := (hSw.cell (p := ⟨w.heap.size, 0, none⟩) hlta).trans cxa0
      have q1 := (hSw.cell (p := ⟨w.heap.size, 1, none⟩) hlta).trans cxa1
      have q2 := (hSw.cell (p := ⟨w.heap.size, 2, none⟩) hlta).trans cxa2
      have q3 := (hSw.cell (p := ⟨w.heap.size, 3, none⟩) hlta).trans cxa3
      clear hSw
      go_simp
      with_reducible rfl
    simp only [List.setIfInBounds_toArray, List.set_cons_zero, List.set_cons_succ]
    refine held_take (i := 12) (d := 67) (v := ?v12) rfl rfl (by kernel_rfl) (by kernel_rfl) (by kernel_rfl) (fun _ _ _ h => h) (Or.inl ⟨by kernel_rfl, ?hy12⟩) hHeld ?rest12
    case hy12 =>
      intro wx hSw
      have q0 := (hSw.cell (p := ⟨w.heap.size + 1, 0, none⟩) hltb).trans cxb0
      have q1 := (hSw.cell (p := ⟨w.heap.size + 1, 1, none⟩) hltb).trans cxb1
      have q2 := (hSw.cell (p := ⟨w.heap.size + 1, 2, none⟩) hltb).trans cxb2
      have q3 := (hSw.cell (p := ⟨w.heap.size + 1, 3, none⟩) hltb).trans cxb3
      clear hSw
      go_simp
      with_reducible rfl
    simp only [List.setIfInBounds_toArray, List.set_cons_zero, List.set_cons_succ]
    refine wpAnyH_ready (rs := [10]) (by kernel_rfl) (by simp) ?_
    refine AllReadyH.cons rfl (fun K hK => ?_) AllReadyH.nil
    go_simp
    go_wp2_with (go_at_call 14; refine (HCY.out _ (by exact hHeld)).mono ?_; rintro e wb ⟨rfl, b8⟩)
    refine hK.out _ _ (b8) (fun hHeld => ?_)
    clear hK K
    refine wpAnyH_ready (rs := [13]) (by kernel_rfl) (by simp) ?_
    refine AllReadyH.cons rfl (fun K hK => ?_) AllReadyH.nil
    go_simp
    go_wp2_with (go_at_call 12; refine (HCB.out _ (by exact hHeld)).mono ?_; rintro e wb ⟨rfl, b8⟩)
    refine hK.out _ _ (b8) (fun hHeld => ?_)
    clear hK K
    refine held_take (i := 14) (d := 69) (v := ?v13) rfl rfl (by kernel_rfl) (by kernel_rfl) (by kernel_rfl) (fun _ _ _ h => h) (Or.inl ⟨by kernel_rfl, ?hy13⟩) hHeld ?rest13
    case hy13 =>
      intro wx hSw
      clear hSw
      go_simp
      with_reducible rfl
    simp only [List.setIfInBounds_toArray, List.set_cons_zero, List.set_cons_succ]
    refine wpAnyH_ready (rs := [15]) (by kernel_rfl) (by simp) ?_
    refine AllReadyH.cons rfl (fun K hK => ?_) AllReadyH.nil
    go_simp
    refine hK.out _ _ hHeld (fun hHeld => ?_)
    clear hK K
    refine wpAnyH_done (by kernel_rfl) ?_ _
    go_wp2_with fail
    go_meet
    exact ⟨rfl, hHeld⟩
  case rest =>
    obtain ⟨rfl, b9⟩ := hcut
    clear cxa0 cxa1 cxa2 cxa3
    clear cxb0 cxb1 cxb2 cxb3
    replace xa := xa.next b9
    replace xb := xb.next b9
    replace ha := ha.next b9
    replace hb := hb.next b9
    replace hx := hx.next b9
    replace hy := hy.next b9
    replace bb := bb.trans (b9.mono bb.size)
    clear b9 HCY HCB HK HD
    generalize wc = w3 at *
    have h9l : ((packD s r f xs).take 9).length = 9 := by rw [packD_take9, headD_len]
    have hx9 : Holds .u8 w3.heap.size w3 (.slice (some ⟨g, 0, none⟩) 9 c) ((packD s r f xs).take 9) := by
      have := holds_takeB (zs := packD s r f xs) (by rw [packD_len]; exact hx) 9 (by rw [packD_len]; omega)
      rw [h9l] at this
      exact this
    have HC := Sum16_at (some ⟨g, 0, none⟩) 9 c ((packD s r f xs).take 9) h9l (by decide) (fun z hz => packD_bd HA.out HBX.out z (List.mem_of_mem_take hz)) w3 _ hx9
    rw [packD_take9, ← hsum] at HC
    clear h9l hx9
    have hi9c : (9 : Int) ≤ (c : Int) := by omega
    have hi9d : 9 ≤ c := by omega
    go_wp2_with fail
    refine HC.mono ?_
    rintro e wz ⟨rfl, rfl⟩
    clear HC
    obtain ⟨bq, oq, eq, hbq, hcs⟩ := holds_at hx (packD_len s r f xs) (by omega)
    cases eq
    have v0 := hcs 0 68 (packD_get0 _ _ _ _)
    have v5 := hcs 5 r (packD_get5 _ _ _ _)
    have v8 := hcs 8 (xs.length : Int) (packD_get8 _ _ _ _)
    have v9 := hcs 9 c1 H9.out
    have v10 := hcs 10 c2 H10.out
    have hX11 : Holds .u8 w3.heap.size w3 (.slice (some ⟨g, 11, none⟩) xs.length (c - 11)) xs := .inr ⟨g, 11, c - 11, rfl, hbq, fun j hj => by
      have h6 := hcs (11 + j) (xs[j]?.getD 0) (by rw [← List.getElem?_drop, show (packD s r f xs).drop 11 = xs from dX_pack s r f xs, List.getElem?_eq_getElem hj]; rfl)
      rw [Nat.zero_add] at h6
      exact h6⟩
    have HCY : Hid (∀ wx : World, Below w3.heap.size w3 wx → Calls Try.prog 14 #[.slice (some ⟨g, 11, none⟩) xs.length (c - 11), .slice a xs.length cap] wx fun e w' => e = .returned (.bool true) ∧ Below w3.heap.size w3 w') := fun wx hw => by
      have := bytes_any (.slice (some ⟨g, 11, none⟩) xs.length (c - 11)) (.slice a xs.length cap) xs xs _ _ wx (by omega) (hX11.below hw) (ha.below hw)
      rw [decide_eq_true rfl] at this
      exact this.mono fun e w' ⟨h, q, hq⟩ => ⟨h, by rw [hq]; exact below_drewN hw q⟩
    have HWK : Hid (∀ wx : World, Below w3.heap.size w3 wx → Calls Try.prog 13 #[] wx fun e w' => e = .returned (.bool true) ∧ Below w3.heap.size w3 w') := fun wx hw => (dataWakes_any wx).mono fun e w' ⟨h, b⟩ => ⟨h, hw.trans (b.mono hw.size)⟩
    have cxa0 := xa.cell 0 _ rfl
    have cxa1 := xa.cell 1 _ rfl
    have cxa2 := xa.cell 2 _ rfl
    have cxa3 := xa.cell 3 _ rfl
    have hlta := xa.lt
    have i0 : (0 : Int) < (xs.length : Int) + 11 := by omega
    have j0 : 0 < xs.length + 11 := by omega
    have i5 : (5 : Int) < (xs.length : Int) + 11 := by omega
    have j5 : 5 < xs.length + 11 := by omega
    have i8 : (8 : Int) < (xs.length : Int) + 11 := by omega
    have j8 : 8 < xs.length + 11 := by omega
    have i9 : (9 : Int) < (xs.length : Int) + 11 := by omega
    have j9 : 9 < xs.length + 11 := by omega
    have i10 : (10 : Int) < (xs.length : Int) + 11 := by omega
    have j10 : 10 < xs.length + 11 := by omega
    have wr_ : IntKind.i64.wrap r = r := by rw [IntKind.wrap_i64]; omega
    have wl : IntKind.i64.wrap (xs.length : Int) = (xs.length : Int) := by rw [IntKind.wrap_i64]; omega
    have wc1 : IntKind.i64.wrap c1 = c1 := by rw [IntKind.wrap_i64]; omega
    have wc2 : IntKind.i64.wrap c2 = c2 := by rw [IntKind.wrap_i64]; omega
    have wc3 : IntKind.i64.wrap (c1 * 256) = c1 * 256 := by rw [IntKind.wrap_i64]; omega
    have or2 := or_two k1 k2
    have ess : (c1 * 256 + c2 == c1 * 256 + c2) = true := by simp
    have err_ : (r == r) = true := by simp
    have ell : ((xs.length : Int) == (xs.length : Int)) = true := by simp
    have eln : (xs.length == xs.length) = true := by simp
    have s3 : ¬ c = 11 := by omega
    have s4 : xs.length + 11 - 11 = xs.length := by omega
    have s1 : (11 : Int) ≤ (xs.length : Int) + 11 := by omega
    have s2 : 11 ≤ xs.length + 11 := by omega
    have s6 : 11 ≤ c := by omega
    have s7 : (11 : Int) ≤ (c : Int) := by omega
    clear hX11 hcs H9 H10 hsum
    go_wp2
    refine wp_region_held_drew (S := fun w' => Below w3.heap.size w3 w') (by kernel_rfl) ((Below.refl _ _).drew) (fun hHeld => ?_)
    refine held_take (i := 0) (d := 77) (v := ?v14) rfl rfl (by kernel_rfl) (by kernel_rfl) (by kernel_rfl) (fun _ _ _ h => h) (Or.inl ⟨by kernel_rfl, ?hy14⟩) hHeld ?rest14
    case hy14 =>
      intro wx hSw
      clear hSw
      go_simp
      with_reducible rfl
    simp only [List.setIfInBounds_toArray, List.set_cons_zero, List.set_cons_succ]
    refine held_take (i := 1) (d := 78) (v := ?v15) rfl rfl (by kernel_rfl) (by kernel_rfl) (by kernel_rfl) (fun _ _ _ h => h) (Or.inl ⟨by kernel_rfl, ?hy15⟩) hHeld ?rest15
    case hy15 =>
      intro wx hSw
      clear hSw
      go_simp
      with_reducible rfl
    simp only [List.setIfInBounds_toArray, List.set_cons_zero, List.set_cons_succ]
    refine held_take (i := 2) (d := 79) (v := ?v16) rfl rfl (by kernel_rfl) (by kernel_rfl) (by kernel_rfl) (fun _ _ _ h => h) (Or.inl ⟨by kernel_rfl, ?hy16⟩) hHeld ?rest16
    case hy16 =>
      intro wx hSw
      clear hSw
      go_simp
      with_reducible rfl
    simp only [List.setIfInBounds_toArray, List.set_cons_zero, List.set_cons_succ]
    refine held_take (i := 3) (d := 80) (v := ?v17) rfl rfl (by kernel_rfl) (by kernel_rfl) (by kernel_rfl) (fun _ _ _ h => h) (Or.inl ⟨by kernel_rfl, ?hy17⟩) hHeld ?rest17
    case hy17 =>
      intro wx hSw
      clear hSw
      go_simp
      with_reducible rfl
    simp only [List.setIfInBounds_toArray, List.set_cons_zero, List.set_cons_succ]
    refine held_take (i := 4) (d := 81) (v := ?v18) rfl rfl (by kernel_rfl) (by kernel_rfl) (by kernel_rfl) (fun _ _ _ h => h) (Or.inl ⟨by kernel_rfl, ?hy18⟩) hHeld ?rest18
    case hy18 =>
      intro wx hSw
      clear hSw
      go_simp
      with_reducible rfl
    simp only [List.setIfInBounds_toArray, List.set_cons_zero, List.set_cons_succ]
    refine held_take (i := 5) (d := 82) (v := ?v19) rfl rfl (by kernel_rfl) (by kernel_rfl) (by kernel_rfl) (fun _ _ _ h => h) (Or.inl ⟨by kernel_rfl, ?hy19⟩) hHeld ?rest19
    case hy19 =>
      intro wx hSw
      have q0 := (hSw.cell (p := ⟨g, 0 + 9, none⟩) hbq).trans v9
      clear hSw
      go_simp
      with_reducible rfl
    simp only [List.setIfInBounds_toArray, List.set_cons_zero, List.set_cons_succ]
    refine held_take (i := 6) (d := 83) (v := ?v20) rfl rfl (by kernel_rfl) (by kernel_rfl) (by kernel_rfl) (fun _ _ _ h => h) (Or.inl ⟨by kernel_rfl, ?hy20⟩) hHeld ?rest20
    case hy20 =>
      intro wx hSw
      clear hSw
      go_simp
      with_reducible rfl
    simp only [List.setIfInBounds_toArray, List.set_cons_zero, List.set_cons_succ]
    refine held_take (i := 7) (d := 84) (v := ?v21) rfl rfl (by kernel_rfl) (by kernel_rfl) (by kernel_rfl) (fun _ _ _ h => h) (Or.inl ⟨by kernel_rfl, ?hy21⟩) hHeld ?rest21
    case hy21 =>
      intro wx hSw
      clear hSw
      go_simp
      with_reducible rfl
    simp only [List.setIfInBounds_toArray, List.set_cons_zero, List.set_cons_succ]
    refine held_take (i := 8) (d := 85) (v := ?v22) rfl rfl (by kernel_rfl) (by kernel_rfl) (by kernel_rfl) (fun _ _ _ h => h) (Or.inl ⟨by kernel_rfl, ?hy22⟩) hHeld ?rest22
    case hy22 =>
      intro wx hSw
      clear hSw
      go_simp
      with_reducible rfl
    simp only [List.setIfInBounds_toArray, List.set_cons_zero, List.set_cons_succ]
    refine held_take (i := 9) (d := 86) (v := ?v23) rfl rfl (by kernel_rfl) (by kernel_rfl) (by kernel_rfl) (fun _ _ _ h => h) (Or.inl ⟨by kernel_rfl, ?hy23⟩) hHeld ?rest23
    case hy23 =>
      intro wx hSw
      clear hSw
      go_simp
      with_reducible rfl
    simp only [List.setIfInBounds_toArray, List.set_cons_zero, List.set_cons_succ]
    refine held_take (i := 10) (d := 87) (v := ?v24) rfl rfl (by kernel_rfl) (by kernel_rfl) (by kernel_rfl) (fun _ _ _ h => h) (Or.inl ⟨by kernel_rfl, ?hy24⟩) hHeld ?rest24
    case hy24 =>
      intro wx hSw
      have q0 := (hSw.cell (p := ⟨g, 0 + 10, none⟩) hbq).trans v10
      clear hSw
      go_simp
      with_reducible rfl
    simp only [List.setIfInBounds_toArray, List.set_cons_zero, List.set_cons_succ]
    refine held_take (i := 11) (d := 88) (v := ?v25) rfl rfl (by kernel_rfl) (by kernel_rfl) (by kernel_rfl) (fun _ _ _ h => h) (Or.inl ⟨by kernel_rfl, ?hy25⟩) hHeld ?rest25
    case hy25 =>
      intro wx hSw
      clear hSw
      go_simp
      with_reducible rfl
    simp only [List.setIfInBounds_toArray, List.set_cons_zero, List.set_cons_succ]
    refine held_take (i := 12) (d := 89) (v := ?v26) rfl rfl (by kernel_rfl) (by kernel_rfl) (by kernel_rfl) (fun _ _ _ h => h) (Or.inl ⟨by kernel_rfl, ?hy26⟩) hHeld ?rest26
    case hy26 =>
      intro wx hSw
      clear hSw
      go_simp
      with_reducible rfl
    simp only [List.setIfInBounds_toArray, List.set_cons_zero, List.set_cons_succ]
    refine held_take (i := 13) (d := 90) (v := ?v27) rfl rfl (by kernel_rfl) (by kernel_rfl) (by kernel_rfl) (fun _ _ _ h => h) (Or.inl ⟨by kernel_rfl, ?hy27⟩) hHeld ?rest27
    case hy27 =>
      intro wx hSw
      clear hSw
      go_simp
      with_reducible rfl
    simp only [List.setIfInBounds_toArray, List.set_cons_zero, List.set_cons_succ]
    refine held_take (i := 14) (d := 91) (v := ?v28) rfl rfl (by kernel_rfl) (by kernel_rfl) (by kernel_rfl) (fun _ _ _ h => h) (Or.inl ⟨by kernel_rfl, ?hy28⟩) hHeld ?rest28
    case hy28 =>
      intro wx hSw
      clear hSw
      go_simp
      with_reducible rfl
    simp only [List.setIfInBounds_toArray, List.set_cons_zero, List.set_cons_succ]
    refine held_take (i := 15) (d := 92) (v := ?v29) rfl rfl (by kernel_rfl) (by kernel_rfl) (by kernel_rfl) (fun _ _ _ h => h) (Or.inl ⟨by kernel_rfl, ?hy29⟩) hHeld ?rest29
    case hy29 =>
      intro wx hSw
      clear hSw
      go_simp
      with_reducible rfl
    simp only [List.setIfInBounds_toArray, List.set_cons_zero, List.set_cons_succ]
    refine held_take (i := 16) (d := 93) (v := ?v30) rfl rfl (by kernel_rfl) (by kernel_rfl) (by kernel_rfl) (fun _ _ _ h => h) (Or.inl ⟨by kernel_rfl, ?hy30⟩) hHeld ?rest30
    case hy30 =>
      intro wx hSw
      clear hSw
      go_simp
      with_reducible rfl
    simp only [List.setIfInBounds_toArray, List.set_cons_zero, List.set_cons_succ]
    refine held_take (i := 17) (d := 94) (v := ?v31) rfl rfl (by kernel_rfl) (by kernel_rfl) (by kernel_rfl) (fun _ _ _ h => h) (Or.inl ⟨by kernel_rfl, ?hy31⟩) hHeld ?rest31
    case hy31 =>
      intro wx hSw
      clear hSw
      go_simp
      with_reducible rfl
    simp only [List.setIfInBounds_toArray, List.set_cons_zero, List.set_cons_succ]
    refine held_take (i := 18) (d := 95) (v := ?v32) rfl rfl (by kernel_rfl) (by kernel_rfl) (by kernel_rfl) (fun _ _ _ h => h) (Or.inl ⟨by kernel_rfl, ?hy32⟩) hHeld ?rest32
    case hy32 =>
      intro wx hSw
      clear hSw
      go_simp
      with_reducible rfl
    simp only [List.setIfInBounds_toArray, List.set_cons_zero, List.set_cons_succ]
    refine held_take (i := 19) (d := 96) (v := ?v33) rfl rfl (by kernel_rfl) (by kernel_rfl) (by kernel_rfl) (fun _ _ _ h => h) (Or.inl ⟨by kernel_rfl, ?hy33⟩) hHeld ?rest33
    case hy33 =>
      intro wx hSw
      have q0 := (hSw.cell (p := ⟨g, 0 + 0, none⟩) hbq).trans v0
      clear hSw
      go_simp
      with_reducible rfl
    simp only [List.setIfInBounds_toArray, List.set_cons_zero, List.set_cons_succ]
    refine held_take (i := 20) (d := 97) (v := ?v34) rfl rfl (by kernel_rfl) (by kernel_rfl) (by kernel_rfl) (fun _ _ _ h => h) (Or.inl ⟨by kernel_rfl, ?hy34⟩) hHeld ?rest34
    case hy34 =>
      intro wx hSw
      clear hSw
      go_simp
      with_reducible rfl
    simp only [List.setIfInBounds_toArray, List.set_cons_zero, List.set_cons_succ]
    refine held_take (i := 21) (d := 98) (v := ?v35) rfl rfl (by kernel_rfl) (by kernel_rfl) (by kernel_rfl) (fun _ _ _ h => h) (Or.inl ⟨by kernel_rfl, ?hy35⟩) hHeld ?rest35
    case hy35 =>
      intro wx hSw
      clear hSw
      go_simp
      with_reducible rfl
    simp only [List.setIfInBounds_toArray, List.set_cons_zero, List.set_cons_succ]
    refine held_take (i := 22) (d := 99) (v := ?v36) rfl rfl (by kernel_rfl) (by kernel_rfl) (by kernel_rfl) (fun _ _ _ h => h) (Or.inl ⟨by kernel_rfl, ?hy36⟩) hHeld ?rest36
    case hy36 =>
      intro wx hSw
      clear hSw
      go_simp
      with_reducible rfl
    simp only [List.setIfInBounds_toArray, List.set_cons_zero, List.set_cons_succ]
    refine held_take (i := 23) (d := 100) (v := ?v37) rfl rfl (by kernel_rfl) (by kernel_rfl) (by kernel_rfl) (fun _ _ _ h => h) (Or.inl ⟨by kernel_rfl, ?hy37⟩) hHeld ?rest37
    case hy37 =>
      intro wx hSw
      clear hSw
      go_simp
      with_reducible rfl
    simp only [List.setIfInBounds_toArray, List.set_cons_zero, List.set_cons_succ]
    refine held_take (i := 24) (d := 101) (v := ?v38) rfl rfl (by kernel_rfl) (by kernel_rfl) (by kernel_rfl) (fun _ _ _ h => h) (Or.inl ⟨by kernel_rfl, ?hy38⟩) hHeld ?rest38
    case hy38 =>
      intro wx hSw
      clear hSw
      go_simp
      with_reducible rfl
    simp only [List.setIfInBounds_toArray, List.set_cons_zero, List.set_cons_succ]
    refine held_take (i := 25) (d := 102) (v := ?v39) rfl rfl (by kernel_rfl) (by kernel_rfl) (by kernel_rfl) (fun _ _ _ h => h) (Or.inl ⟨by kernel_rfl, ?hy39⟩) hHeld ?rest39
    case hy39 =>
      intro wx hSw
      have q0 := (hSw.cell (p := ⟨g, 0 + 5, none⟩) hbq).trans v5
      clear hSw
      go_simp
      with_reducible rfl
    simp only [List.setIfInBounds_toArray, List.set_cons_zero, List.set_cons_succ]
    refine held_take (i := 26) (d := 103) (v := ?v40) rfl rfl (by kernel_rfl) (by kernel_rfl) (by kernel_rfl) (fun _ _ _ h => h) (Or.inl ⟨by kernel_rfl, ?hy40⟩) hHeld ?rest40
    case hy40 =>
      intro wx hSw
      clear hSw
      go_simp
      with_reducible rfl
    simp only [List.setIfInBounds_toArray, List.set_cons_zero, List.set_cons_succ]
    refine held_take (i := 27) (d := 104) (v := ?v41) rfl rfl (by kernel_rfl) (by kernel_rfl) (by kernel_rfl) (fun _ _ _ h => h) (Or.inl ⟨by kernel_rfl, ?hy41⟩) hHeld ?rest41
    case hy41 =>
      intro wx hSw
      clear hSw
      go_simp
      with_reducible rfl
    simp only [List.setIfInBounds_toArray, List.set_cons_zero, List.set_cons_succ]
    refine held_take (i := 28) (d := 105) (v := ?v42) rfl rfl (by kernel_rfl) (by kernel_rfl) (by kernel_rfl) (fun _ _ _ h => h) (Or.inl ⟨by kernel_rfl, ?hy42⟩) hHeld ?rest42
    case hy42 =>
      intro wx hSw
      have q0 := (hSw.cell (p := ⟨w.heap.size, 1, none⟩) hlta).trans cxa1
      clear hSw
      go_simp
      with_reducible rfl
    simp only [List.setIfInBounds_toArray, List.set_cons_zero, List.set_cons_succ]
    refine held_take (i := 29) (d := 106) (v := ?v43) rfl rfl (by kernel_rfl) (by kernel_rfl) (by kernel_rfl) (fun _ _ _ h => h) (Or.inl ⟨by kernel_rfl, ?hy43⟩) hHeld ?rest43
    case hy43 =>
      intro wx hSw
      clear hSw
      go_simp
      with_reducible rfl
    simp only [List.setIfInBounds_toArray, List.set_cons_zero, List.set_cons_succ]
    refine held_take (i := 30) (d := 107) (v := ?v44) rfl rfl (by kernel_rfl) (by kernel_rfl) (by kernel_rfl) (fun _ _ _ h => h) (Or.inl ⟨by kernel_rfl, ?hy44⟩) hHeld ?rest44
    case hy44 =>
      intro wx hSw
      clear hSw
      go_simp
      with_reducible rfl
    simp only [List.setIfInBounds_toArray, List.set_cons_zero, List.set_cons_succ]
    refine held_take (i := 31) (d := 108) (v := ?v45) rfl rfl (by kernel_rfl) (by kernel_rfl) (by kernel_rfl) (fun _ _ _ h => h) (Or.inl ⟨by kernel_rfl, ?hy45⟩) hHeld ?rest45
    case hy45 =>
      intro wx hSw
      clear hSw
      go_simp
      with_reducible rfl
    simp only [List.setIfInBounds_toArray, List.set_cons_zero, List.set_cons_succ]
    refine held_take (i := 32) (d := 109) (v := ?v46) rfl rfl (by kernel_rfl) (by kernel_rfl) (by kernel_rfl) (fun _ _ _ h => h) (Or.inl ⟨by kernel_rfl, ?hy46⟩) hHeld ?rest46
    case hy46 =>
      intro wx hSw
      clear hSw
      go_simp
      with_reducible rfl
    simp only [List.setIfInBounds_toArray, List.set_cons_zero, List.set_cons_succ]
    refine held_take (i := 33) (d := 110) (v := ?v47) rfl rfl (by kernel_rfl) (by kernel_rfl) (by kernel_rfl) (fun _ _ _ h => h) (Or.inl ⟨by kernel_rfl, ?hy47⟩) hHeld ?rest47
    case hy47 =>
      intro wx hSw
      clear hSw
      go_simp
      with_reducible rfl
    simp only [List.setIfInBounds_toArray, List.set_cons_zero, List.set_cons_succ]
    refine held_take (i := 34) (d := 111) (v := ?v48) rfl rfl (by kernel_rfl) (by kernel_rfl) (by kernel_rfl) (fun _ _ _ h => h) (Or.inl ⟨by kernel_rfl, ?hy48⟩) hHeld ?rest48
    case hy48 =>
      intro wx hSw
      have q0 := (hSw.cell (p := ⟨g, 0 + 8, none⟩) hbq).trans v8
      clear hSw
      go_simp
      with_reducible rfl
    simp only [List.setIfInBounds_toArray, List.set_cons_zero, List.set_cons_succ]
    refine held_take (i := 35) (d := 112) (v := ?v49) rfl rfl (by kernel_rfl) (by kernel_rfl) (by kernel_rfl) (fun _ _ _ h => h) (Or.inl ⟨by kernel_rfl, ?hy49⟩) hHeld ?rest49
    case hy49 =>
      intro wx hSw
      clear hSw
      go_simp
      with_reducible rfl
    simp only [List.setIfInBounds_toArray, List.set_cons_zero, List.set_cons_succ]
    refine held_take (i := 36) (d := 113) (v := ?v50) rfl rfl (by kernel_rfl) (by kernel_rfl) (by kernel_rfl) (fun _ _ _ h => h) (Or.inl ⟨by kernel_rfl, ?hy50⟩) hHeld ?rest50
    case hy50 =>
      intro wx hSw
      clear hSw
      go_simp
      with_reducible rfl
    simp only [List.setIfInBounds_toArray, List.set_cons_zero, List.set_cons_succ]
    refine held_take (i := 37) (d := 114) (v := ?v51) rfl rfl (by kernel_rfl) (by kernel_rfl) (by kernel_rfl) (fun _ _ _ h => h) (Or.inl ⟨by kernel_rfl, ?hy51⟩) hHeld ?rest51
    case hy51 =>
      intro wx hSw
      have q0 := (hSw.cell (p := ⟨w.heap.size, 3, none⟩) hlta).trans cxa3
      clear hSw
      go_simp
      with_reducible rfl
    simp only [List.setIfInBounds_toArray, List.set_cons_zero, List.set_cons_succ]
    refine held_take (i := 38) (d := 115) (v := ?v52) rfl rfl (by kernel_rfl) (by kernel_rfl) (by kernel_rfl) (fun _ _ _ h => h) (Or.inl ⟨by kernel_rfl, ?hy52⟩) hHeld ?rest52
    case hy52 =>
      intro wx hSw
      clear hSw
      go_simp
      with_reducible rfl
    simp only [List.setIfInBounds_toArray, List.set_cons_zero, List.set_cons_succ]
    refine held_take (i := 39) (d := 116) (v := ?v53) rfl rfl (by kernel_rfl) (by kernel_rfl) (by kernel_rfl) (fun _ _ _ h => h) (Or.inl ⟨by kernel_rfl, ?hy53⟩) hHeld ?rest53
    case hy53 =>
      intro wx hSw
      clear hSw
      go_simp
      with_reducible rfl
    simp only [List.setIfInBounds_toArray, List.set_cons_zero, List.set_cons_succ]
    refine held_take (i := 40) (d := 117) (v := ?v54) rfl rfl (by kernel_rfl) (by kernel_rfl) (by kernel_rfl) (fun _ _ _ h => h) (Or.inl ⟨by kernel_rfl, ?hy54⟩) hHeld ?rest54
    case hy54 =>
      intro wx hSw
      clear hSw
      go_simp
      with_reducible rfl
    simp only [List.setIfInBounds_toArray, List.set_cons_zero, List.set_cons_succ]
    refine held_take (i := 41) (d := 118) (v := ?v55) rfl rfl (by kernel_rfl) (by kernel_rfl) (by kernel_rfl) (fun _ _ _ h => h) (Or.inl ⟨by kernel_rfl, ?hy55⟩) hHeld ?rest55
    case hy55 =>
      intro wx hSw
      clear hSw
      go_simp
      with_reducible rfl
    simp only [List.setIfInBounds_toArray, List.set_cons_zero, List.set_cons_succ]
    refine held_take (i := 42) (d := 119) (v := ?v56) rfl rfl (by kernel_rfl) (by kernel_rfl) (by kernel_rfl) (fun _ _ _ h => h) (Or.inl ⟨by kernel_rfl, ?hy56⟩) hHeld ?rest56
    case hy56 =>
      intro wx hSw
      clear hSw
      go_simp
      with_reducible rfl
    simp only [List.setIfInBounds_toArray, List.set_cons_zero, List.set_cons_succ]
    refine held_take (i := 43) (d := 120) (v := ?v57) rfl rfl (by kernel_rfl) (by kernel_rfl) (by kernel_rfl) (fun _ _ _ h => h) (Or.inl ⟨by kernel_rfl, ?hy57⟩) hHeld ?rest57
    case hy57 =>
      intro wx hSw
      clear hSw
      go_simp
      with_reducible rfl
    simp only [List.setIfInBounds_toArray, List.set_cons_zero, List.set_cons_succ]
    refine held_take (i := 44) (d := 121) (v := ?v58) rfl rfl (by kernel_rfl) (by kernel_rfl) (by kernel_rfl) (fun _ _ _ h => h) (Or.inl ⟨by kernel_rfl, ?hy58⟩) hHeld ?rest58
    case hy58 =>
      intro wx hSw
      clear hSw
      go_simp
      with_reducible rfl
    simp only [List.setIfInBounds_toArray, List.set_cons_zero, List.set_cons_succ]
    refine held_take (i := 45) (d := 122) (v := ?v59) rfl rfl (by kernel_rfl) (by kernel_rfl) (by kernel_rfl) (fun _ _ _ h => h) (Or.inl ⟨by kernel_rfl, ?hy59⟩) hHeld ?rest59
    case hy59 =>
      intro wx hSw
      have q0 := (hSw.cell (p := ⟨w.heap.size, 3, none⟩) hlta).trans cxa3
      clear hSw
      go_simp
      with_reducible rfl
    simp only [List.setIfInBounds_toArray, List.set_cons_zero, List.set_cons_succ]
    refine wpAnyH_ready (rs := [46]) (by kernel_rfl) (by simp) ?_
    refine AllReadyH.cons rfl (fun K hK => ?_) AllReadyH.nil
    go_simp
    go_wp2_with (go_at_call 14; refine (HCY.out _ (by exact hHeld)).mono ?_; rintro e wb ⟨rfl, b8⟩)
    refine hK.out _ _ (b8) (fun hHeld => ?_)
    clear hK K
    refine held_take (i := 47) (d := 124) (v := ?v60) rfl rfl (by kernel_rfl) (by kernel_rfl) (by kernel_rfl) (fun _ _ _ h => h) (Or.inl ⟨by kernel_rfl, ?hy60⟩) hHeld ?rest60
    case hy60 =>
      intro wx hSw
      clear hSw
      go_simp
      with_reducible rfl
    simp only [List.setIfInBounds_toArray, List.set_cons_zero, List.set_cons_succ]
    refine held_take (i := 48) (d := 125) (v := ?v61) rfl rfl (by kernel_rfl) (by kernel_rfl) (by kernel_rfl) (fun _ _ _ h => h) (Or.inl ⟨by kernel_rfl, ?hy61⟩) hHeld ?rest61
    case hy61 =>
      intro wx hSw
      clear hSw
      go_simp
      with_reducible rfl
    simp only [List.setIfInBounds_toArray, List.set_cons_zero, List.set_cons_succ]
    refine wpAnyH_ready (rs := [49]) (by kernel_rfl) (by simp) ?_
    refine AllReadyH.cons rfl (fun K hK => ?_) AllReadyH.nil
    go_simp
    go_wp2_with (go_at_call 13; refine (HWK.out _ (by exact hHeld)).mono ?_; rintro e wb ⟨rfl, b8⟩)
    refine hK.out _ _ (b8) (fun hHeld => ?_)
    clear hK K
    refine held_take (i := 50) (d := 127) (v := ?v62) rfl rfl (by kernel_rfl) (by kernel_rfl) (by kernel_rfl) (fun _ _ _ h => h) (Or.inl ⟨by kernel_rfl, ?hy62⟩) hHeld ?rest62
    case hy62 =>
      intro wx hSw
      clear hSw
      go_simp
      with_reducible rfl
    simp only [List.setIfInBounds_toArray, List.set_cons_zero, List.set_cons_succ]
    refine wpAnyH_ready (rs := [51]) (by kernel_rfl) (by simp) ?_
    refine AllReadyH.cons rfl (fun K hK => ?_) AllReadyH.nil
    go_simp
    refine hK.out _ _ hHeld (fun hHeld => ?_)
    clear hK K
    refine wpAnyH_done (by kernel_rfl) ?_ _
    go_wp2
    go_ret
    exact ⟨rfl, bb.trans (hHeld.mono bb.size)⟩

set_option maxRecDepth 100000 in
set_option maxHeartbeats 2000000 in
theorem dataUnlike_long (s r f : Int) (a : Option Addr) (n cap : Nat) (s' r' f' : Int) (a' : Option Addr) (n' cap' : Nat) (h : 200 < n ∨ 200 < n') (w : World) :
    Calls Try.prog 7 #[.agg #[.int .i64 s, .int .i64 r, .int .i64 f, .slice a n cap], .agg #[.int .i64 s', .int .i64 r', .int .i64 f', .slice a' n' cap']] w fun e w' => e = .returned (.bool true) ∧ Below w.heap.size w w' := by
  have b0 : Below w.heap.size w ((w.alloc (.cells #[.int .i64 s, .int .i64 r, .int .i64 f, .slice a n cap] 24)).alloc (.cells #[.int .i64 s', .int .i64 r', .int .i64 f', .slice a' n' cap'] 24)) := ((Below.refl w.heap.size w).alloc (Nat.le_refl _) _).alloc (by simp) _
  by_cases h3 : 200 < n
  · have dl : decide (200 < (n : Int)) = true := decide_eq_true (by omega)
    have dl' : decide (200 < n) = true := decide_eq_true h3
    clear h h3
    go_enter Try.func7, Try.ntmps7
    go_wp2
    go_ret
    exact ⟨rfl, b0⟩
  · have h4 : 200 < n' := by omega
    have dl : decide (200 < (n : Int)) = false := decide_eq_false (by omega)
    have dl' : decide (200 < n) = false := decide_eq_false (by omega)
    have dm : decide (200 < (n' : Int)) = true := decide_eq_true (by omega)
    have dm' : decide (200 < n') = true := decide_eq_true h4
    clear h h3 h4
    go_enter Try.func7, Try.ntmps7
    go_wp2
    go_ret
    exact ⟨rfl, b0⟩

/-- The law, of whatever data. -/
theorem dataUnlike_walk (s r f : Int) (a : Option Addr) (len cap : Nat) (z1 : List Int) (s' r' f' : Int) (a' : Option Addr) (len' cap' : Nat) (z2 : List Int) (w : World) (h1 : IsRow .u8 w a len cap z1) (h2 : IsRow .u8 w a' len' cap' z2) :
    Calls Try.prog 7 #[.agg #[.int .i64 s, .int .i64 r, .int .i64 f, .slice a len cap], .agg #[.int .i64 s', .int .i64 r', .int .i64 f', .slice a' len' cap']] w fun e w' => e = .returned (.bool true) ∧ Below w.heap.size w w' := by
  obtain ⟨xs, rfl, hx, bx⟩ := holds_of_isRow h1
  obtain ⟨ys, rfl, hy, by'⟩ := holds_of_isRow h2
  by_cases h : 200 < xs.length ∨ 200 < ys.length
  · exact dataUnlike_long s r f a _ cap s' r' f' a' _ cap' h w
  by_cases hA : errD s r f xs.length = 0
  · by_cases hB : errD s' r' f' ys.length = 0
    · exact dataUnlike_ok s r f a cap xs (by omega) (bytes_bd bx) s' r' f' a' cap' ys (by omega) (bytes_bd by') ((rightD_iff _ _ _ _).1 hA) ((rightD_iff _ _ _ _).1 hB) w hx hy
    · exact dataUnlike_yn s r f a cap xs (by omega) (bytes_bd bx) s' r' f' a' cap' ys (by omega) (bytes_bd by') ((rightD_iff _ _ _ _).1 hA) hB w hx hy
  · by_cases hB : errD s' r' f' ys.length = 0
    · exact dataUnlike_ny s r f a cap xs (by omega) (bytes_bd bx) s' r' f' a' cap' ys (by omega) (bytes_bd by') hA ((rightD_iff _ _ _ _).1 hB) w hx hy
    · exact dataUnlike_nn s r f a cap xs (by omega) (bytes_bd bx) s' r' f' a' cap' ys (by omega) (bytes_bd by') hA hB w hx hy

end Go.Proofs.Ytpfhnefgibiedaa
