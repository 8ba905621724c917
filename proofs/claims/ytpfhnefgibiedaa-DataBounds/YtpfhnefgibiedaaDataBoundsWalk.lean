/-
  DataBounds: the walk: whatever the two numbers, the law answers true, and nothing that lay has turned. (Written by tpl_databounds.py.)
-/
import Derived.Test.YtpfhnefgibiedaaDataReadsWalk
import Derived.Test.YtpfhnefgibiedaaCrcBurstWalk
namespace Go.Proofs.Ytpfhnefgibiedaa
open Go.RowKit

theorem noughts_bd (n : Nat) : ∀ z ∈ List.replicate n (0 : Int), 0 ≤ z ∧ z ≤ 255 := fun z hz => by rw [List.eq_of_mem_replicate hz]; omega
theorem made_noughtsD {w1 : World} {base n : Nat} {a : Option Addr} (h : w1.ownsRow base 5 1 (.slice a n n) n (madeCells (Value.int IntKind.u8 0).cells (n * 1)).toList) : w1.ownsRow base 5 1 (.slice a n n) n ((List.replicate n (0 : Int)).map (Value.int .u8)) := by
  rw [show (Value.int IntKind.u8 0).cells = #[.int .u8 0] from rfl, toList_madeCells_one, Nat.mul_one] at h
  rw [List.map_replicate]; exact h

set_option maxRecDepth 100000 in
set_option maxHeartbeats 2000000 in
theorem dataBounds_00 (which over : Int) (hw : (IntKind.u64.wrap which).tmod 4 = 0) (ho : (IntKind.u64.wrap over).tmod 2 = 0) (w : World) :
    Calls Try.prog 8 #[.int .i64 which, .int .i64 over] w fun e w' => e = .returned (.bool true) ∧ Below w.heap.size w w' := by
  have HR : Hid (RightD 1073741823 1 1 [1]) := ⟨by decide, by decide, by decide, by simp, by simp⟩
  have HBX : Hid (∀ z ∈ ([1] : List Int), 0 ≤ z ∧ z ≤ 255) := (by decide : ∀ z ∈ ([1] : List Int), 0 ≤ z ∧ z ≤ 255)
  have bb : Below w.heap.size w ((w.alloc (.cells #[.int .u8 1] 5)).alloc (.cells #[.int .i64 1073741823, .int .i64 1, .int .i64 1, (.slice (some ⟨w.heap.size, 0, none⟩) 1 1)] 24)) := ((Below.refl w.heap.size w).alloc (Nat.le_refl _) _).alloc (by simp) _
  have xd : Box ((w.alloc (.cells #[.int .u8 1] 5)).alloc (.cells #[.int .i64 1073741823, .int .i64 1, .int .i64 1, (.slice (some ⟨w.heap.size, 0, none⟩) 1 1)] 24)) (w.heap.size + 1) 24 #[.int .i64 1073741823, .int .i64 1, .int .i64 1, (.slice (some ⟨w.heap.size, 0, none⟩) 1 1)] := by
    have := Box.new (w.alloc (.cells #[.int .u8 1] 5)) 24 #[.int .i64 1073741823, .int .i64 1, .int .i64 1, (.slice (some ⟨w.heap.size, 0, none⟩) 1 1)]
    simpa using this
  have hx : Holds .u8 ((w.alloc (.cells #[.int .u8 1] 5)).alloc (.cells #[.int .i64 1073741823, .int .i64 1, .int .i64 1, (.slice (some ⟨w.heap.size, 0, none⟩) 1 1)] 24)).heap.size ((w.alloc (.cells #[.int .u8 1] 5)).alloc (.cells #[.int .i64 1073741823, .int .i64 1, .int .i64 1, (.slice (some ⟨w.heap.size, 0, none⟩) 1 1)] 24)) (.slice (some ⟨w.heap.size, 0, none⟩) 1 1) [1] := (holds_new .u8 w [1] 1 5 (0, 0)).next ((Below.refl _ _).alloc (Nat.le_refl _) _)
  go_enter Try.func8, Try.ntmps8
  go_wp2_with fail
  generalize ((w.alloc (.cells #[.int .u8 1] 5)).alloc (.cells #[.int .i64 1073741823, .int .i64 1, .int .i64 1, (.slice (some ⟨w.heap.size, 0, none⟩) 1 1)] 24)) = w0 at *
  have HC := DataMake_ok 1073741823 1 1 (some ⟨w.heap.size, 0, none⟩) 1 [1] HR.out HBX.out w0 hx
  rw [show ([1] : List Int).length = 1 from rfl] at HC
  refine HC.mono ?_
  rintro e w1 ⟨q, rfl, o9, b9⟩
  clear HC
  replace xd := xd.next b9
  replace hx := hx.next b9
  replace bb := bb.trans (b9.mono bb.size)
  clear b9
  obtain ⟨qa, qc, rfl⟩ := row_shapeP o9
  have hq := holds_of_row o9
  have hqc := row_cap o9
  clear o9
  have hpl : (packD 1073741823 1 1 [1]).length = 12 := by rw [packD_len]; rfl
  have HC := DataRead_ok qa qc (packD 1073741823 1 1 [1]) (by rw [hpl]; exact hqc) (packD_bd HR.out HBX.out) (okD_pack HR.out) w1 (by rw [hpl]; exact hq)
  rw [hpl, dS_pack HR.out, dR_pack, dF_pack HR.out, dX_pack] at HC
  rw [show ([1] : List Int).length = 1 from rfl] at HC
  clear hpl
  go_wp2_with fail
  refine (HC).mono ?_
  rintro e w2 ⟨ya, yc, rfl, oy, b9⟩
  replace xd := xd.next b9
  replace hx := hx.next b9
  replace hq := hq.next b9
  replace bb := bb.trans (b9.mono bb.size)
  clear b9
  clear HC
  have hy := holds_of_row oy
  clear oy
  have b9 : Below w2.heap.size w2 (w2.alloc (.cells #[.int .i64 1073741823, .int .i64 1, .int .i64 1, .slice ya 1 yc] 24)) := (Below.refl _ _).alloc (Nat.le_refl _) _
  have xy := Box.new w2 24 #[.int .i64 1073741823, .int .i64 1, .int .i64 1, .slice ya 1 yc]
  replace xd := xd.next b9
  replace hx := hx.next b9
  replace hq := hq.next b9
  replace hy := hy.next b9
  replace bb := bb.trans (b9.mono bb.size)
  clear b9
  have HC := keepData_any 1073741823 1 1 1073741823 1 1 (.slice ya 1 yc) (.slice (some ⟨w.heap.size, 0, none⟩) 1 1) [1] [1] _ _ _ (Nat.le_refl _) (Nat.le_refl _) (by simp) hy hx
  rw [decide_eq_true ⟨rfl, rfl, rfl, rfl⟩] at HC
  have cxy0 := xy.cell 0 _ rfl
  have cxy1 := xy.cell 1 _ rfl
  have cxy2 := xy.cell 2 _ rfl
  have cxy3 := xy.cell 3 _ rfl
  have cxd0 := xd.cell 0 _ rfl
  have cxd1 := xd.cell 1 _ rfl
  have cxd2 := xd.cell 2 _ rfl
  have cxd3 := xd.cell 3 _ rfl
  go_wp2_with fail
  refine (HC).mono ?_
  rintro e w3 ⟨rfl, b9⟩
  clear cxy0 cxy1 cxy2 cxy3
  clear cxd0 cxd1 cxd2 cxd3
  replace xd := xd.next b9
  replace hx := hx.next b9
  replace hq := hq.next b9
  replace hy := hy.next b9
  replace xy := xy.next b9
  replace bb := bb.trans (b9.mono bb.size)
  clear b9
  clear HC
  have HWK := dataWakes_any w3
  go_wp2_with (go_at_call 13; refine HWK.mono ?_; rintro e w99 ⟨rfl, b99⟩)
  go_ret
  exact ⟨rfl, bb.trans (b99.mono bb.size)⟩

set_option maxRecDepth 100000 in
set_option maxHeartbeats 2000000 in
theorem dataBounds_01 (which over : Int) (hw : (IntKind.u64.wrap which).tmod 4 = 0) (ho : (IntKind.u64.wrap over).tmod 2 = 1) (w : World) :
    Calls Try.prog 8 #[.int .i64 which, .int .i64 over] w fun e w' => e = .returned (.bool true) ∧ Below w.heap.size w w' := by
  have HE : Hid (errD 1073741824 1 1 1 = 1) := (by decide : errD 1073741824 1 1 1 = 1)
  have bb : Below w.heap.size w ((w.alloc (.cells #[.int .u8 1] 5)).alloc (.cells #[.int .i64 1073741824, .int .i64 1, .int .i64 1, (.slice (some ⟨w.heap.size, 0, none⟩) 1 1)] 24)) := ((Below.refl w.heap.size w).alloc (Nat.le_refl _) _).alloc (by simp) _
  have xd : Box ((w.alloc (.cells #[.int .u8 1] 5)).alloc (.cells #[.int .i64 1073741824, .int .i64 1, .int .i64 1, (.slice (some ⟨w.heap.size, 0, none⟩) 1 1)] 24)) (w.heap.size + 1) 24 #[.int .i64 1073741824, .int .i64 1, .int .i64 1, (.slice (some ⟨w.heap.size, 0, none⟩) 1 1)] := by
    have := Box.new (w.alloc (.cells #[.int .u8 1] 5)) 24 #[.int .i64 1073741824, .int .i64 1, .int .i64 1, (.slice (some ⟨w.heap.size, 0, none⟩) 1 1)]
    simpa using this
  have hx : Holds .u8 ((w.alloc (.cells #[.int .u8 1] 5)).alloc (.cells #[.int .i64 1073741824, .int .i64 1, .int .i64 1, (.slice (some ⟨w.heap.size, 0, none⟩) 1 1)] 24)).heap.size ((w.alloc (.cells #[.int .u8 1] 5)).alloc (.cells #[.int .i64 1073741824, .int .i64 1, .int .i64 1, (.slice (some ⟨w.heap.size, 0, none⟩) 1 1)] 24)) (.slice (some ⟨w.heap.size, 0, none⟩) 1 1) [1] := (holds_new .u8 w [1] 1 5 (0, 0)).next ((Below.refl _ _).alloc (Nat.le_refl _) _)
  go_enter Try.func8, Try.ntmps8
  go_wp2_with fail
  generalize ((w.alloc (.cells #[.int .u8 1] 5)).alloc (.cells #[.int .i64 1073741824, .int .i64 1, .int .i64 1, (.slice (some ⟨w.heap.size, 0, none⟩) 1 1)] 24)) = w0 at *
  have HC := DataMake_no 1073741824 1 1 (some ⟨w.heap.size, 0, none⟩) 1 1 (by rw [HE.out]; decide) w0
  rw [HE.out] at HC
  refine HC.mono ?_
  rintro e w1 ⟨rfl, b9⟩
  clear HC
  replace xd := xd.next b9
  replace hx := hx.next b9
  replace bb := bb.trans (b9.mono bb.size)
  clear b9
  have HWK := dataWakes_any w1
  go_wp2_with (go_at_call 13; refine HWK.mono ?_; rintro e w99 ⟨rfl, b99⟩)
  go_ret
  exact ⟨rfl, bb.trans (b99.mono bb.size)⟩

set_option maxRecDepth 100000 in
set_option maxHeartbeats 2000000 in
theorem dataBounds_10 (which over : Int) (hw : (IntKind.u64.wrap which).tmod 4 = 1) (ho : (IntKind.u64.wrap over).tmod 2 = 0) (w : World) :
    Calls Try.prog 8 #[.int .i64 which, .int .i64 over] w fun e w' => e = .returned (.bool true) ∧ Below w.heap.size w w' := by
  have HR : Hid (RightD 1 255 1 [1]) := ⟨by decide, by decide, by decide, by simp, by simp⟩
  have HBX : Hid (∀ z ∈ ([1] : List Int), 0 ≤ z ∧ z ≤ 255) := (by decide : ∀ z ∈ ([1] : List Int), 0 ≤ z ∧ z ≤ 255)
  have bb : Below w.heap.size w ((w.alloc (.cells #[.int .u8 1] 5)).alloc (.cells #[.int .i64 1, .int .i64 255, .int .i64 1, (.slice (some ⟨w.heap.size, 0, none⟩) 1 1)] 24)) := ((Below.refl w.heap.size w).alloc (Nat.le_refl _) _).alloc (by simp) _
  have xd : Box ((w.alloc (.cells #[.int .u8 1] 5)).alloc (.cells #[.int .i64 1, .int .i64 255, .int .i64 1, (.slice (some ⟨w.heap.size, 0, none⟩) 1 1)] 24)) (w.heap.size + 1) 24 #[.int .i64 1, .int .i64 255, .int .i64 1, (.slice (some ⟨w.heap.size, 0, none⟩) 1 1)] := by
    have := Box.new (w.alloc (.cells #[.int .u8 1] 5)) 24 #[.int .i64 1, .int .i64 255, .int .i64 1, (.slice (some ⟨w.heap.size, 0, none⟩) 1 1)]
    simpa using this
  have hx : Holds .u8 ((w.alloc (.cells #[.int .u8 1] 5)).alloc (.cells #[.int .i64 1, .int .i64 255, .int .i64 1, (.slice (some ⟨w.heap.size, 0, none⟩) 1 1)] 24)).heap.size ((w.alloc (.cells #[.int .u8 1] 5)).alloc (.cells #[.int .i64 1, .int .i64 255, .int .i64 1, (.slice (some ⟨w.heap.size, 0, none⟩) 1 1)] 24)) (.slice (some ⟨w.heap.size, 0, none⟩) 1 1) [1] := (holds_new .u8 w [1] 1 5 (0, 0)).next ((Below.refl _ _).alloc (Nat.le_refl _) _)
  go_enter Try.func8, Try.ntmps8
  go_wp2_with fail
  generalize ((w.alloc (.cells #[.int .u8 1] 5)).alloc (.cells #[.int .i64 1, .int .i64 255, .int .i64 1, (.slice (some ⟨w.heap.size, 0, none⟩) 1 1)] 24)) = w0 at *
  have HC := DataMake_ok 1 255 1 (some ⟨w.heap.size, 0, none⟩) 1 [1] HR.out HBX.out w0 hx
  rw [show ([1] : List Int).length = 1 from rfl] at HC
  refine HC.mono ?_
  rintro e w1 ⟨q, rfl, o9, b9⟩
  clear HC
  replace xd := xd.next b9
  replace hx := hx.next b9
  replace bb := bb.trans (b9.mono bb.size)
  clear b9
  obtain ⟨qa, qc, rfl⟩ := row_shapeP o9
  have hq := holds_of_row o9
  have hqc := row_cap o9
  clear o9
  have hpl : (packD 1 255 1 [1]).length = 12 := by rw [packD_len]; rfl
  have HC := DataRead_ok qa qc (packD 1 255 1 [1]) (by rw [hpl]; exact hqc) (packD_bd HR.out HBX.out) (okD_pack HR.out) w1 (by rw [hpl]; exact hq)
  rw [hpl, dS_pack HR.out, dR_pack, dF_pack HR.out, dX_pack] at HC
  rw [show ([1] : List Int).length = 1 from rfl] at HC
  clear hpl
  go_wp2_with fail
  refine (HC).mono ?_
  rintro e w2 ⟨ya, yc, rfl, oy, b9⟩
  replace xd := xd.next b9
  replace hx := hx.next b9
  replace hq := hq.next b9
  replace bb := bb.trans (b9.mono bb.size)
  clear b9
  clear HC
  have hy := holds_of_row oy
  clear oy
  have b9 : Below w2.heap.size w2 (w2.alloc (.cells #[.int .i64 1, .int .i64 255, .int .i64 1, .slice ya 1 yc] 24)) := (Below.refl _ _).alloc (Nat.le_refl _) _
  have xy := Box.new w2 24 #[.int .i64 1, .int .i64 255, .int .i64 1, .slice ya 1 yc]
  replace xd := xd.next b9
  replace hx := hx.next b9
  replace hq := hq.next b9
  replace hy := hy.next b9
  replace bb := bb.trans (b9.mono bb.size)
  clear b9
  have HC := keepData_any 1 255 1 1 255 1 (.slice ya 1 yc) (.slice (some ⟨w.heap.size, 0, none⟩) 1 1) [1] [1] _ _ _ (Nat.le_refl _) (Nat.le_refl _) (by simp) hy hx
  rw [decide_eq_true ⟨rfl, rfl, rfl, rfl⟩] at HC
  have cxy0 := xy.cell 0 _ rfl
  have cxy1 := xy.cell 1 _ rfl
  have cxy2 := xy.cell 2 _ rfl
  have cxy3 := xy.cell 3 _ rfl
  have cxd0 := xd.cell 0 _ rfl
  have cxd1 := xd.cell 1 _ rfl
  have cxd2 := xd.cell 2 _ rfl
  have cxd3 := xd.cell 3 _ rfl
  go_wp2_with fail
  refine (HC).mono ?_
  rintro e w3 ⟨rfl, b9⟩
  clear cxy0 cxy1 cxy2 cxy3
  clear cxd0 cxd1 cxd2 cxd3
  replace xd := xd.next b9
  replace hx := hx.next b9
  replace hq := hq.next b9
  replace hy := hy.next b9
  replace xy := xy.next b9
  replace bb := bb.trans (b9.mono bb.size)
  clear b9
  clear HC
  have HWK := dataWakes_any w3
  go_wp2_with (go_at_call 13; refine HWK.mono ?_; rintro e w99 ⟨rfl, b99⟩)
  go_ret
  exact ⟨rfl, bb.trans (b99.mono bb.size)⟩

set_option maxRecDepth 100000 in
set_option maxHeartbeats 2000000 in
theorem dataBounds_11 (which over : Int) (hw : (IntKind.u64.wrap which).tmod 4 = 1) (ho : (IntKind.u64.wrap over).tmod 2 = 1) (w : World) :
    Calls Try.prog 8 #[.int .i64 which, .int .i64 over] w fun e w' => e = .returned (.bool true) ∧ Below w.heap.size w w' := by
  have HE : Hid (errD 1 256 1 1 = 1) := (by decide : errD 1 256 1 1 = 1)
  have bb : Below w.heap.size w ((w.alloc (.cells #[.int .u8 1] 5)).alloc (.cells #[.int .i64 1, .int .i64 256, .int .i64 1, (.slice (some ⟨w.heap.size, 0, none⟩) 1 1)] 24)) := ((Below.refl w.heap.size w).alloc (Nat.le_refl _) _).alloc (by simp) _
  have xd : Box ((w.alloc (.cells #[.int .u8 1] 5)).alloc (.cells #[.int .i64 1, .int .i64 256, .int .i64 1, (.slice (some ⟨w.heap.size, 0, none⟩) 1 1)] 24)) (w.heap.size + 1) 24 #[.int .i64 1, .int .i64 256, .int .i64 1, (.slice (some ⟨w.heap.size, 0, none⟩) 1 1)] := by
    have := Box.new (w.alloc (.cells #[.int .u8 1] 5)) 24 #[.int .i64 1, .int .i64 256, .int .i64 1, (.slice (some ⟨w.heap.size, 0, none⟩) 1 1)]
    simpa using this
  have hx : Holds .u8 ((w.alloc (.cells #[.int .u8 1] 5)).alloc (.cells #[.int .i64 1, .int .i64 256, .int .i64 1, (.slice (some ⟨w.heap.size, 0, none⟩) 1 1)] 24)).heap.size ((w.alloc (.cells #[.int .u8 1] 5)).alloc (.cells #[.int .i64 1, .int .i64 256, .int .i64 1, (.slice (some ⟨w.heap.size, 0, none⟩) 1 1)] 24)) (.slice (some ⟨w.heap.size, 0, none⟩) 1 1) [1] := (holds_new .u8 w [1] 1 5 (0, 0)).next ((Below.refl _ _).alloc (Nat.le_refl _) _)
  go_enter Try.func8, Try.ntmps8
  go_wp2_with fail
  generalize ((w.alloc (.cells #[.int .u8 1] 5)).alloc (.cells #[.int .i64 1, .int .i64 256, .int .i64 1, (.slice (some ⟨w.heap.size, 0, none⟩) 1 1)] 24)) = w0 at *
  have HC := DataMake_no 1 256 1 (some ⟨w.heap.size, 0, none⟩) 1 1 (by rw [HE.out]; decide) w0
  rw [HE.out] at HC
  refine HC.mono ?_
  rintro e w1 ⟨rfl, b9⟩
  clear HC
  replace xd := xd.next b9
  replace hx := hx.next b9
  replace bb := bb.trans (b9.mono bb.size)
  clear b9
  have HWK := dataWakes_any w1
  go_wp2_with (go_at_call 13; refine HWK.mono ?_; rintro e w99 ⟨rfl, b99⟩)
  go_ret
  exact ⟨rfl, bb.trans (b99.mono bb.size)⟩

set_option maxRecDepth 100000 in
set_option maxHeartbeats 2000000 in
theorem dataBounds_20 (which over : Int) (hw : (IntKind.u64.wrap which).tmod 4 = 2) (ho : (IntKind.u64.wrap over).tmod 2 = 0) (w : World) :
    Calls Try.prog 8 #[.int .i64 which, .int .i64 over] w fun e w' => e = .returned (.bool true) ∧ Below w.heap.size w w' := by
  have HR : Hid (RightD 1 1 65535 [1]) := ⟨by decide, by decide, by decide, by simp, by simp⟩
  have HBX : Hid (∀ z ∈ ([1] : List Int), 0 ≤ z ∧ z ≤ 255) := (by decide : ∀ z ∈ ([1] : List Int), 0 ≤ z ∧ z ≤ 255)
  have bb : Below w.heap.size w ((w.alloc (.cells #[.int .u8 1] 5)).alloc (.cells #[.int .i64 1, .int .i64 1, .int .i64 65535, (.slice (some ⟨w.heap.size, 0, none⟩) 1 1)] 24)) := ((Below.refl w.heap.size w).alloc (Nat.le_refl _) _).alloc (by simp) _
  have xd : Box ((w.alloc (.cells #[.int .u8 1] 5)).alloc (.cells #[.int .i64 1, .int .i64 1, .int .i64 65535, (.slice (some ⟨w.heap.size, 0, none⟩) 1 1)] 24)) (w.heap.size + 1) 24 #[.int .i64 1, .int .i64 1, .int .i64 65535, (.slice (some ⟨w.heap.size, 0, none⟩) 1 1)] := by
    have := Box.new (w.alloc (.cells #[.int .u8 1] 5)) 24 #[.int .i64 1, .int .i64 1, .int .i64 65535, (.slice (some ⟨w.heap.size, 0, none⟩) 1 1)]
    simpa using this
  have hx : Holds .u8 ((w.alloc (.cells #[.int .u8 1] 5)).alloc (.cells #[.int .i64 1, .int .i64 1, .int .i64 65535, (.slice (some ⟨w.heap.size, 0, none⟩) 1 1)] 24)).heap.size ((w.alloc (.cells #[.int .u8 1] 5)).alloc (.cells #[.int .i64 1, .int .i64 1, .int .i64 65535, (.slice (some ⟨w.heap.size, 0, none⟩) 1 1)] 24)) (.slice (some ⟨w.heap.size, 0, none⟩) 1 1) [1] := (holds_new .u8 w [1] 1 5 (0, 0)).next ((Below.refl _ _).alloc (Nat.le_refl _) _)
  go_enter Try.func8, Try.ntmps8
  go_wp2_with fail
  generalize ((w.alloc (.cells #[.int .u8 1] 5)).alloc (.cells #[.int .i64 1, .int .i64 1, .int .i64 65535, (.slice (some ⟨w.heap.size, 0, none⟩) 1 1)] 24)) = w0 at *
  have HC := DataMake_ok 1 1 65535 (some ⟨w.heap.size, 0, none⟩) 1 [1] HR.out HBX.out w0 hx
  rw [show ([1] : List Int).length = 1 from rfl] at HC
  refine HC.mono ?_
  rintro e w1 ⟨q, rfl, o9, b9⟩
  clear HC
  replace xd := xd.next b9
  replace hx := hx.next b9
  replace bb := bb.trans (b9.mono bb.size)
  clear b9
  obtain ⟨qa, qc, rfl⟩ := row_shapeP o9
  have hq := holds_of_row o9
  have hqc := row_cap o9
  clear o9
  have hpl : (packD 1 1 65535 [1]).length = 12 := by rw [packD_len]; rfl
  have HC := DataRead_ok qa qc (packD 1 1 65535 [1]) (by rw [hpl]; exact hqc) (packD_bd HR.out HBX.out) (okD_pack HR.out) w1 (by rw [hpl]; exact hq)
  rw [hpl, dS_pack HR.out, dR_pack, dF_pack HR.out, dX_pack] at HC
  rw [show ([1] : List Int).length = 1 from rfl] at HC
  clear hpl
  go_wp2_with fail
  refine (HC).mono ?_
  rintro e w2 ⟨ya, yc, rfl, oy, b9⟩
  replace xd := xd.next b9
  replace hx := hx.next b9
  replace hq := hq.next b9
  replace bb := bb.trans (b9.mono bb.size)
  clear b9
  clear HC
  have hy := holds_of_row oy
  clear oy
  have b9 : Below w2.heap.size w2 (w2.alloc (.cells #[.int .i64 1, .int .i64 1, .int .i64 65535, .slice ya 1 yc] 24)) := (Below.refl _ _).alloc (Nat.le_refl _) _
  have xy := Box.new w2 24 #[.int .i64 1, .int .i64 1, .int .i64 65535, .slice ya 1 yc]
  replace xd := xd.next b9
  replace hx := hx.next b9
  replace hq := hq.next b9
  replace hy := hy.next b9
  replace bb := bb.trans (b9.mono bb.size)
  clear b9
  have HC := keepData_any 1 1 65535 1 1 65535 (.slice ya 1 yc) (.slice (some ⟨w.heap.size, 0, none⟩) 1 1) [1] [1] _ _ _ (Nat.le_refl _) (Nat.le_refl _) (by simp) hy hx
  rw [decide_eq_true ⟨rfl, rfl, rfl, rfl⟩] at HC
  have cxy0 := xy.cell 0 _ rfl
  have cxy1 := xy.cell 1 _ rfl
  have cxy2 := xy.cell 2 _ rfl
  have cxy3 := xy.cell 3 _ rfl
  have cxd0 := xd.cell 0 _ rfl
  have cxd1 := xd.cell 1 _ rfl
  have cxd2 := xd.cell 2 _ rfl
  have cxd3 := xd.cell 3 _ rfl
  go_wp2_with fail
  refine (HC).mono ?_
  rintro e w3 ⟨rfl, b9⟩
  clear cxy0 cxy1 cxy2 cxy3
  clear cxd0 cxd1 cxd2 cxd3
  replace xd := xd.next b9
  replace hx := hx.next b9
  replace hq := hq.next b9
  replace hy := hy.next b9
  replace xy := xy.next b9
  replace bb := bb.trans (b9.mono bb.size)
  clear b9
  clear HC
  have HWK := dataWakes_any w3
  go_wp2_with (go_at_call 13; refine HWK.mono ?_; rintro e w99 ⟨rfl, b99⟩)
  go_ret
  exact ⟨rfl, bb.trans (b99.mono bb.size)⟩

set_option maxRecDepth 100000 in
set_option maxHeartbeats 2000000 in
theorem dataBounds_21 (which over : Int) (hw : (IntKind.u64.wrap which).tmod 4 = 2) (ho : (IntKind.u64.wrap over).tmod 2 = 1) (w : World) :
    Calls Try.prog 8 #[.int .i64 which, .int .i64 over] w fun e w' => e = .returned (.bool true) ∧ Below w.heap.size w w' := by
  have HE : Hid (errD 1 1 65536 1 = 1) := (by decide : errD 1 1 65536 1 = 1)
  have bb : Below w.heap.size w ((w.alloc (.cells #[.int .u8 1] 5)).alloc (.cells #[.int .i64 1, .int .i64 1, .int .i64 65536, (.slice (some ⟨w.heap.size, 0, none⟩) 1 1)] 24)) := ((Below.refl w.heap.size w).alloc (Nat.le_refl _) _).alloc (by simp) _
  have xd : Box ((w.alloc (.cells #[.int .u8 1] 5)).alloc (.cells #[.int .i64 1, .int .i64 1, .int .i64 65536, (.slice (some ⟨w.heap.size, 0, none⟩) 1 1)] 24)) (w.heap.size + 1) 24 #[.int .i64 1, .int .i64 1, .int .i64 65536, (.slice (some ⟨w.heap.size, 0, none⟩) 1 1)] := by
    have := Box.new (w.alloc (.cells #[.int .u8 1] 5)) 24 #[.int .i64 1, .int .i64 1, .int .i64 65536, (.slice (some ⟨w.heap.size, 0, none⟩) 1 1)]
    simpa using this
  have hx : Holds .u8 ((w.alloc (.cells #[.int .u8 1] 5)).alloc (.cells #[.int .i64 1, .int .i64 1, .int .i64 65536, (.slice (some ⟨w.heap.size, 0, none⟩) 1 1)] 24)).heap.size ((w.alloc (.cells #[.int .u8 1] 5)).alloc (.cells #[.int .i64 1, .int .i64 1, .int .i64 65536, (.slice (some ⟨w.heap.size, 0, none⟩) 1 1)] 24)) (.slice (some ⟨w.heap.size, 0, none⟩) 1 1) [1] := (holds_new .u8 w [1] 1 5 (0, 0)).next ((Below.refl _ _).alloc (Nat.le_refl _) _)
  go_enter Try.func8, Try.ntmps8
  go_wp2_with fail
  generalize ((w.alloc (.cells #[.int .u8 1] 5)).alloc (.cells #[.int .i64 1, .int .i64 1, .int .i64 65536, (.slice (some ⟨w.heap.size, 0, none⟩) 1 1)] 24)) = w0 at *
  have HC := DataMake_no 1 1 65536 (some ⟨w.heap.size, 0, none⟩) 1 1 (by rw [HE.out]; decide) w0
  rw [HE.out] at HC
  refine HC.mono ?_
  rintro e w1 ⟨rfl, b9⟩
  clear HC
  replace xd := xd.next b9
  replace hx := hx.next b9
  replace bb := bb.trans (b9.mono bb.size)
  clear b9
  have HWK := dataWakes_any w1
  go_wp2_with (go_at_call 13; refine HWK.mono ?_; rintro e w99 ⟨rfl, b99⟩)
  go_ret
  exact ⟨rfl, bb.trans (b99.mono bb.size)⟩

set_option maxRecDepth 100000 in
set_option maxHeartbeats 2000000 in
theorem dataBounds_30 (which over : Int) (hw : (IntKind.u64.wrap which).tmod 4 = 3) (ho : (IntKind.u64.wrap over).tmod 2 = 0) (w : World) :
    Calls Try.prog 8 #[.int .i64 which, .int .i64 over] w fun e w' => e = .returned (.bool true) ∧ Below w.heap.size w w' := by
  have HR : Hid (RightD 1 1 1 (List.replicate 64 0)) := ⟨by decide, by decide, by decide, by simp, by simp⟩
  have HBX : Hid (∀ z ∈ ((List.replicate 64 0) : List Int), 0 ≤ z ∧ z ≤ 255) := noughts_bd 64
  obtain ⟨i0, hi, hz0, hz1, hz2⟩ := info_parts infoU8
  have bb : Below w.heap.size w ((w.alloc (.cells #[.int .u8 1] 5)).alloc (.cells #[.int .i64 1, .int .i64 1, .int .i64 1, .slice (some ⟨w.heap.size, 0, none⟩) 1 1] 24)) := ((Below.refl w.heap.size w).alloc (Nat.le_refl _) _).alloc (by simp) _
  have xd : Box ((w.alloc (.cells #[.int .u8 1] 5)).alloc (.cells #[.int .i64 1, .int .i64 1, .int .i64 1, .slice (some ⟨w.heap.size, 0, none⟩) 1 1] 24)) (w.heap.size + 1) 24 #[.int .i64 1, .int .i64 1, .int .i64 1, .slice (some ⟨w.heap.size, 0, none⟩) 1 1] := by
    have := Box.new (w.alloc (.cells #[.int .u8 1] 5)) 24 #[.int .i64 1, .int .i64 1, .int .i64 1, .slice (some ⟨w.heap.size, 0, none⟩) 1 1]
    simpa using this
  go_enter Try.func8, Try.ntmps8
  go_wp2_with (at_make; refine wpList_make_full _ rfl _ _ 22 rfl (w.heap.size + 2) 5 i0 (.int .u8 0) 1 Try.underlying22 hi hz0 hz1 .i64 .i64 _ _ 64 rfl rfl rfl rfl (by rw [hz2]; omega) (by unfold maxLen; omega) (by simp) ?_; intro w1 hown1 hgrow1; have b1 : Below (w.heap.size + 2) ((w.alloc (.cells #[.int .u8 1] 5)).alloc (.cells #[.int .i64 1, .int .i64 1, .int .i64 1, .slice (some ⟨w.heap.size, 0, none⟩) 1 1] 24)) w1 := (Below.refl _ _).grown hgrow1 (by simp) (fun k e => by cases e); have x1 := xd.below b1 (by omega); have c0 := x1.cell 0 _ rfl; have c1 := x1.cell 1 _ rfl; have c2 := x1.cell 2 _ rfl; have c3 := x1.cell 3 _ rfl; have f3 := x1.free 3)
  have bb0 : Below w.heap.size w (w1.setCell ⟨w.heap.size + 1, 3, none⟩ (.slice (some ⟨w.heap.size + 2, 0, none⟩) 64 64)) := (bb.trans (b1.mono (by omega))).setCell (p := ⟨w.heap.size + 1, 3, none⟩) (by simp) _
  have xd0 : Box (w1.setCell ⟨w.heap.size + 1, 3, none⟩ (.slice (some ⟨w.heap.size + 2, 0, none⟩) 64 64)) (w.heap.size + 1) 24 #[.int .i64 1, .int .i64 1, .int .i64 1, (.slice (some ⟨w.heap.size + 2, 0, none⟩) 64 64)] := x1.set 3 _
  have o1 := made_noughtsD hown1
  rw [show (((w.alloc (.cells #[.int .u8 1] 5)).alloc (.cells #[.int .i64 1, .int .i64 1, .int .i64 1, .slice (some ⟨w.heap.size, 0, none⟩) 1 1] 24))).heap.size = w.heap.size + 2 by simp] at o1
  have hx : Holds .u8 (w1.setCell ⟨w.heap.size + 1, 3, none⟩ (.slice (some ⟨w.heap.size + 2, 0, none⟩) 64 64)).heap.size (w1.setCell ⟨w.heap.size + 1, 3, none⟩ (.slice (some ⟨w.heap.size + 2, 0, none⟩) 64 64)) (.slice (some ⟨w.heap.size + 2, 0, none⟩) 64 64) (List.replicate 64 0) := holds_of_row (ownsRow_setCell_below o1 (a := ⟨w.heap.size + 1, 3, none⟩) (by simp) _)
  clear bb xd x1 c0 c1 c2 c3 f3 hown1 hgrow1 b1 o1
  generalize w1.setCell ⟨w.heap.size + 1, 3, none⟩ (.slice (some ⟨w.heap.size + 2, 0, none⟩) 64 64) = w0 at *
  have bb := bb0
  have xd := xd0
  clear bb0 xd0
  have HC := DataMake_ok 1 1 1 (some ⟨w.heap.size + 2, 0, none⟩) 64 (List.replicate 64 0) HR.out HBX.out w0 (by rw [List.length_replicate]; exact hx)
  rw [List.length_replicate] at HC
  refine HC.mono ?_
  rintro e w1 ⟨q, rfl, o9, b9⟩
  clear HC
  replace xd := xd.next b9
  replace hx := hx.next b9
  replace bb := bb.trans (b9.mono bb.size)
  clear b9
  obtain ⟨qa, qc, rfl⟩ := row_shapeP o9
  have hq := holds_of_row o9
  have hqc := row_cap o9
  clear o9
  have hpl : (packD 1 1 1 (List.replicate 64 0)).length = 75 := by rw [packD_len]; rw [List.length_replicate]
  have HC := DataRead_ok qa qc (packD 1 1 1 (List.replicate 64 0)) (by rw [hpl]; exact hqc) (packD_bd HR.out HBX.out) (okD_pack HR.out) w1 (by rw [hpl]; exact hq)
  rw [hpl, dS_pack HR.out, dR_pack, dF_pack HR.out, dX_pack] at HC
  rw [List.length_replicate] at HC
  clear hpl
  go_wp2_with fail
  refine (HC).mono ?_
  rintro e w2 ⟨ya, yc, rfl, oy, b9⟩
  replace xd := xd.next b9
  replace hx := hx.next b9
  replace hq := hq.next b9
  replace bb := bb.trans (b9.mono bb.size)
  clear b9
  clear HC
  have hy := holds_of_row oy
  clear oy
  have b9 : Below w2.heap.size w2 (w2.alloc (.cells #[.int .i64 1, .int .i64 1, .int .i64 1, .slice ya 64 yc] 24)) := (Below.refl _ _).alloc (Nat.le_refl _) _
  have xy := Box.new w2 24 #[.int .i64 1, .int .i64 1, .int .i64 1, .slice ya 64 yc]
  replace xd := xd.next b9
  replace hx := hx.next b9
  replace hq := hq.next b9
  replace hy := hy.next b9
  replace bb := bb.trans (b9.mono bb.size)
  clear b9
  have HC := keepData_any 1 1 1 1 1 1 (.slice ya 64 yc) (.slice (some ⟨w.heap.size + 2, 0, none⟩) 64 64) (List.replicate 64 0) (List.replicate 64 0) _ _ _ (Nat.le_refl _) (Nat.le_refl _) (by simp) hy hx
  rw [decide_eq_true ⟨rfl, rfl, rfl, rfl⟩] at HC
  have cxy0 := xy.cell 0 _ rfl
  have cxy1 := xy.cell 1 _ rfl
  have cxy2 := xy.cell 2 _ rfl
  have cxy3 := xy.cell 3 _ rfl
  have cxd0 := xd.cell 0 _ rfl
  have cxd1 := xd.cell 1 _ rfl
  have cxd2 := xd.cell 2 _ rfl
  have cxd3 := xd.cell 3 _ rfl
  go_wp2_with fail
  refine (HC).mono ?_
  rintro e w3 ⟨rfl, b9⟩
  clear cxy0 cxy1 cxy2 cxy3
  clear cxd0 cxd1 cxd2 cxd3
  replace xd := xd.next b9
  replace hx := hx.next b9
  replace hq := hq.next b9
  replace hy := hy.next b9
  replace xy := xy.next b9
  replace bb := bb.trans (b9.mono bb.size)
  clear b9
  clear HC
  have HWK := dataWakes_any w3
  go_wp2_with (go_at_call 13; refine HWK.mono ?_; rintro e w99 ⟨rfl, b99⟩)
  go_ret
  exact ⟨rfl, bb.trans (b99.mono bb.size)⟩

set_option maxRecDepth 100000 in
set_option maxHeartbeats 2000000 in
theorem dataBounds_31 (which over : Int) (hw : (IntKind.u64.wrap which).tmod 4 = 3) (ho : (IntKind.u64.wrap over).tmod 2 = 1) (w : World) :
    Calls Try.prog 8 #[.int .i64 which, .int .i64 over] w fun e w' => e = .returned (.bool true) ∧ Below w.heap.size w w' := by
  have HE : Hid (errD 1 1 1 65 = 2) := (by decide : errD 1 1 1 65 = 2)
  obtain ⟨i0, hi, hz0, hz1, hz2⟩ := info_parts infoU8
  have bb : Below w.heap.size w ((w.alloc (.cells #[.int .u8 1] 5)).alloc (.cells #[.int .i64 1, .int .i64 1, .int .i64 1, .slice (some ⟨w.heap.size, 0, none⟩) 1 1] 24)) := ((Below.refl w.heap.size w).alloc (Nat.le_refl _) _).alloc (by simp) _
  have xd : Box ((w.alloc (.cells #[.int .u8 1] 5)).alloc (.cells #[.int .i64 1, .int .i64 1, .int .i64 1, .slice (some ⟨w.heap.size, 0, none⟩) 1 1] 24)) (w.heap.size + 1) 24 #[.int .i64 1, .int .i64 1, .int .i64 1, .slice (some ⟨w.heap.size, 0, none⟩) 1 1] := by
    have := Box.new (w.alloc (.cells #[.int .u8 1] 5)) 24 #[.int .i64 1, .int .i64 1, .int .i64 1, .slice (some ⟨w.heap.size, 0, none⟩) 1 1]
    simpa using this
  go_enter Try.func8, Try.ntmps8
  go_wp2_with (at_make; refine wpList_make_full _ rfl _ _ 22 rfl (w.heap.size + 2) 5 i0 (.int .u8 0) 1 Try.underlying22 hi hz0 hz1 .i64 .i64 _ _ 65 rfl rfl rfl rfl (by rw [hz2]; omega) (by unfold maxLen; omega) (by simp) ?_; intro w1 hown1 hgrow1; have b1 : Below (w.heap.size + 2) ((w.alloc (.cells #[.int .u8 1] 5)).alloc (.cells #[.int .i64 1, .int .i64 1, .int .i64 1, .slice (some ⟨w.heap.size, 0, none⟩) 1 1] 24)) w1 := (Below.refl _ _).grown hgrow1 (by simp) (fun k e => by cases e); have x1 := xd.below b1 (by omega); have c0 := x1.cell 0 _ rfl; have c1 := x1.cell 1 _ rfl; have c2 := x1.cell 2 _ rfl; have c3 := x1.cell 3 _ rfl; have f3 := x1.free 3)
  have bb0 : Below w.heap.size w (w1.setCell ⟨w.heap.size + 1, 3, none⟩ (.slice (some ⟨w.heap.size + 2, 0, none⟩) 65 65)) := (bb.trans (b1.mono (by omega))).setCell (p := ⟨w.heap.size + 1, 3, none⟩) (by simp) _
  have xd0 : Box (w1.setCell ⟨w.heap.size + 1, 3, none⟩ (.slice (some ⟨w.heap.size + 2, 0, none⟩) 65 65)) (w.heap.size + 1) 24 #[.int .i64 1, .int .i64 1, .int .i64 1, (.slice (some ⟨w.heap.size + 2, 0, none⟩) 65 65)] := x1.set 3 _
  have o1 := made_noughtsD hown1
  rw [show (((w.alloc (.cells #[.int .u8 1] 5)).alloc (.cells #[.int .i64 1, .int .i64 1, .int .i64 1, .slice (some ⟨w.heap.size, 0, none⟩) 1 1] 24))).heap.size = w.heap.size + 2 by simp] at o1
  have hx : Holds .u8 (w1.setCell ⟨w.heap.size + 1, 3, none⟩ (.slice (some ⟨w.heap.size + 2, 0, none⟩) 65 65)).heap.size (w1.setCell ⟨w.heap.size + 1, 3, none⟩ (.slice (some ⟨w.heap.size + 2, 0, none⟩) 65 65)) (.slice (some ⟨w.heap.size + 2, 0, none⟩) 65 65) (List.replicate 65 0) := holds_of_row (ownsRow_setCell_below o1 (a := ⟨w.heap.size + 1, 3, none⟩) (by simp) _)
  clear bb xd x1 c0 c1 c2 c3 f3 hown1 hgrow1 b1 o1
  generalize w1.setCell ⟨w.heap.size + 1, 3, none⟩ (.slice (some ⟨w.heap.size + 2, 0, none⟩) 65 65) = w0 at *
  have bb := bb0
  have xd := xd0
  clear bb0 xd0
  have HC := DataMake_no 1 1 1 (some ⟨w.heap.size + 2, 0, none⟩) 65 65 (by rw [HE.out]; decide) w0
  rw [HE.out] at HC
  refine HC.mono ?_
  rintro e w1 ⟨rfl, b9⟩
  clear HC
  replace xd := xd.next b9
  replace hx := hx.next b9
  replace bb := bb.trans (b9.mono bb.size)
  clear b9
  have HWK := dataWakes_any w1
  go_wp2_with (go_at_call 13; refine HWK.mono ?_; rintro e w99 ⟨rfl, b99⟩)
  go_ret
  exact ⟨rfl, bb.trans (b99.mono bb.size)⟩

/-- The law, of whatever numbers. -/
theorem dataBounds_walk (which over : Int) (w : World) :
    Calls Try.prog 8 #[.int .i64 which, .int .i64 over] w fun e w' => e = .returned (.bool true) ∧ Below w.heap.size w w' := by
  obtain ⟨p, hp, hw⟩ := at_place which 4 (by decide)
  obtain ⟨q, hq, ho⟩ := at_place over 2 (by decide)
  have h1 : p = 0 ∨ p = 1 ∨ p = 2 ∨ p = 3 := by omega
  have h2 : q = 0 ∨ q = 1 := by omega
  rcases h1 with rfl | rfl | rfl | rfl <;> rcases h2 with rfl | rfl
  · exact dataBounds_00 which over hw ho w
  · exact dataBounds_01 which over hw ho w
  · exact dataBounds_10 which over hw ho w
  · exact dataBounds_11 which over hw ho w
  · exact dataBounds_20 which over hw ho w
  · exact dataBounds_21 which over hw ho w
  · exact dataBounds_30 which over hw ho w
  · exact dataBounds_31 which over hw ho w

end Go.Proofs.Ytpfhnefgibiedaa
