/-
  DataReads: the walk: whatever the bytes, the law answers true, and nothing that lay has turned. (Written by tpl_dataexact.py.)
-/
import Derived.Test.YtpfhnefgibiedaaDataWakes
namespace Go.Proofs.Ytpfhnefgibiedaa
open Go.RowKit

theorem holds_nilB (n₀ : Nat) (w : World) : Holds .u8 n₀ w (.slice none 0 0) [] := .inl ⟨⟨_, _, rfl, fun _ => rfl⟩, rfl⟩
theorem isRow_capB {kd : IntKind} {w : World} {a : Option Addr} {len cap : Nat} {zs : List Int} (h : IsRow kd w a len cap zs) : len ≤ cap := by
  rcases h with ⟨_, h1, h2, _⟩ | ⟨_, _, h, _⟩
  · omega
  · omega

set_option maxRecDepth 100000 in
set_option maxHeartbeats 4000000 in
theorem dataReads_no (a : Option Addr) (cap : Nat) (zs : List Int) (hl : zs.length ≤ 200) (hc : zs.length ≤ cap) (bz : ∀ z ∈ zs, 0 ≤ z ∧ z ≤ 255) (E : Int) (hE : 0 < E) (hbad : badD zs E) (w : World) (ha : Holds .u8 w.heap.size w (.slice a zs.length cap) zs) :
    Calls Try.prog 4 #[.slice a zs.length cap] w fun e w' => e = .returned (.bool true) ∧ Below w.heap.size w w' := by
  have HBZ : Hid (∀ z ∈ zs, 0 ≤ z ∧ z ≤ 255) := bz
  have dl : decide (200 < (zs.length : Int)) = false := decide_eq_false (by omega)
  have dl' : decide (200 < zs.length) = false := decide_eq_false (by omega)
  have HBD : Hid (badD zs E) := hbad
  have dE : (E != 0) = true := by simp; omega
  have dEE : (E != E) = false := by simp
  clear hbad hE
  clear bz
  have bb := Below.refl w.heap.size w
  go_enter Try.func4, Try.ntmps4
  go_wp2_with fail
  refine (twin_any _ zs _ (by omega) _ ha).mono ?_
  rintro e w1 ⟨q0, rfl, o1, b9⟩
  replace ha := ha.next b9
  replace bb := bb.trans (b9.mono bb.size)
  clear b9
  obtain ⟨ia, ic, rfl⟩ := row_shapeP o1
  have hi := holds_of_row o1
  have hic := row_cap o1
  clear o1
  go_wp2_with fail
  refine (DataRead_no ia ic zs (by omega) hic HBZ.out E HBD.out _ hi).mono ?_
  rintro e w2 ⟨rfl, b9⟩
  replace ha := ha.next b9
  replace hi := hi.next b9
  replace bb := bb.trans (b9.mono bb.size)
  clear b9
  have b9 : Below w2.heap.size w2 (w2.alloc (.cells #[.int .i64 0, .int .i64 0, .int .i64 0, .slice none 0 0] 24)) := (Below.refl _ _).alloc (Nat.le_refl _) _
  have xx := Box.new w2 24 #[.int .i64 0, .int .i64 0, .int .i64 0, .slice none 0 0]
  replace ha := ha.next b9
  replace hi := hi.next b9
  replace bb := bb.trans (b9.mono bb.size)
  clear b9
  go_wp2_with fail
  refine (refReadData_no a cap zs hc HBZ.out E HBD.out _ ha).mono ?_
  rintro e w3 ⟨rfl, b9⟩
  replace ha := ha.next b9
  replace hi := hi.next b9
  replace xx := xx.next b9
  replace bb := bb.trans (b9.mono bb.size)
  clear b9
  have b9 : Below w3.heap.size w3 (w3.alloc (.cells #[.int .i64 0, .int .i64 0, .int .i64 0, .slice none 0 0] 24)) := (Below.refl _ _).alloc (Nat.le_refl _) _
  have xy := Box.new w3 24 #[.int .i64 0, .int .i64 0, .int .i64 0, .slice none 0 0]
  replace ha := ha.next b9
  replace hi := hi.next b9
  replace xx := xx.next b9
  replace bb := bb.trans (b9.mono bb.size)
  clear b9
  have HC := bytes_any (.slice ia zs.length ic) (.slice a zs.length cap) zs zs _ _ _ (by omega) hi ha
  rw [decide_eq_true rfl] at HC
  go_wp2_with fail
  refine HC.mono ?_
  rintro e wx ⟨rfl, q, rfl⟩
  clear HC
  have b9 : Below (w3.alloc (.cells #[.int .i64 0, .int .i64 0, .int .i64 0, .slice none 0 0] 24)).heap.size (w3.alloc (.cells #[.int .i64 0, .int .i64 0, .int .i64 0, .slice none 0 0] 24)) ((w3.alloc (.cells #[.int .i64 0, .int .i64 0, .int .i64 0, .slice none 0 0] 24)).drewN q) := below_drewN (Below.refl _ _) q
  replace ha := ha.next b9
  replace hi := hi.next b9
  replace xx := xx.next b9
  replace xy := xy.next b9
  replace bb := bb.trans (b9.mono bb.size)
  clear b9
  generalize (w3.alloc (.cells #[.int .i64 0, .int .i64 0, .int .i64 0, .slice none 0 0] 24)).drewN q = w4 at *
  have HC := keepData_any 0 0 0 0 0 0 (.slice none 0 0) (.slice none 0 0) [] [] w4 _ _ (Nat.le_refl _) (Nat.le_refl _) (by decide) (holds_nilB _ _) (holds_nilB _ _)
  rw [decide_eq_true ⟨rfl, rfl, rfl, rfl⟩] at HC
  have cxx0 := xx.cell 0 _ rfl
  have cxx1 := xx.cell 1 _ rfl
  have cxx2 := xx.cell 2 _ rfl
  have cxx3 := xx.cell 3 _ rfl
  have cxy0 := xy.cell 0 _ rfl
  have cxy1 := xy.cell 1 _ rfl
  have cxy2 := xy.cell 2 _ rfl
  have cxy3 := xy.cell 3 _ rfl
  go_wp2_with fail
  refine (HC).mono ?_
  rintro e w5 ⟨rfl, b9⟩
  clear cxx0 cxx1 cxx2 cxx3
  clear cxy0 cxy1 cxy2 cxy3
  replace ha := ha.next b9
  replace hi := hi.next b9
  replace xx := xx.next b9
  replace xy := xy.next b9
  replace bb := bb.trans (b9.mono bb.size)
  clear b9
  clear HC
  have HWK := dataWakes_any w5
  go_wp2_with (go_at_call 13; refine HWK.mono ?_; rintro e w99 ⟨rfl, b99⟩)
  go_ret
  exact ⟨rfl, bb.trans (b99.mono bb.size)⟩

set_option maxRecDepth 100000 in
set_option maxHeartbeats 4000000 in
theorem dataReads_ok (a : Option Addr) (cap : Nat) (zs : List Int) (hl : zs.length ≤ 200) (hc : zs.length ≤ cap) (bz : ∀ z ∈ zs, 0 ≤ z ∧ z ≤ 255) (hok : okD zs) (w : World) (ha : Holds .u8 w.heap.size w (.slice a zs.length cap) zs) :
    Calls Try.prog 4 #[.slice a zs.length cap] w fun e w' => e = .returned (.bool true) ∧ Below w.heap.size w w' := by
  have HBZ : Hid (∀ z ∈ zs, 0 ≤ z ∧ z ≤ 255) := bz
  have dl : decide (200 < (zs.length : Int)) = false := decide_eq_false (by omega)
  have dl' : decide (200 < zs.length) = false := decide_eq_false (by omega)
  have HOK : Hid (okD zs) := hok
  obtain ⟨hR0, hP0⟩ := packD_read bz hok
  obtain ⟨S, hS⟩ : ∃ x, dS zs = x := ⟨_, rfl⟩
  have HRS : Hid (dS zs = S) := hS
  obtain ⟨R, hR⟩ : ∃ x, dR zs = x := ⟨_, rfl⟩
  have HRR : Hid (dR zs = R) := hR
  obtain ⟨FF, hFF⟩ : ∃ x, dF zs = x := ⟨_, rfl⟩
  have HRFF : Hid (dF zs = FF) := hFF
  obtain ⟨X, hX⟩ : ∃ x, dX zs = x := ⟨_, rfl⟩
  have HRX : Hid (dX zs = X) := hX
  rw [hS, hR, hFF, hX] at hR0 hP0
  have HR : Hid (RightD S R FF X) := hR0
  have HEQ : Hid (packD S R FF X = zs) := hP0
  have HXB : Hid (∀ z ∈ X, 0 ≤ z ∧ z ≤ 255) := fun z hz => bz z (List.mem_of_mem_drop (show z ∈ zs.drop 11 from by rw [← hX] at hz; exact hz))
  have hXZ : X.length ≤ 64 := hR0.2.2.2.2
  clear hR0 hP0 hok hS hR hFF hX
  clear bz
  have bb := Below.refl w.heap.size w
  go_enter Try.func4, Try.ntmps4
  go_wp2_with fail
  refine (twin_any _ zs _ (by omega) _ ha).mono ?_
  rintro e w1 ⟨q0, rfl, o1, b9⟩
  replace ha := ha.next b9
  replace bb := bb.trans (b9.mono bb.size)
  clear b9
  obtain ⟨ia, ic, rfl⟩ := row_shapeP o1
  have hi := holds_of_row o1
  have hic := row_cap o1
  clear o1
  have HC := DataRead_ok ia ic zs hic HBZ.out HOK.out _ hi
  rw [HRS.out, HRR.out, HRFF.out, HRX.out] at HC
  have hn1 := bb.size
  have HI1 : Hid (Holds .u8 w1.heap.size w1 (.slice ia zs.length ic) zs) := hi
  have HA1 : Hid (Holds .u8 w1.heap.size w1 (.slice a zs.length cap) zs) := ha
  have BB1 : Hid (Below w.heap.size w w1) := bb
  go_wp2_with fail
  refine (HC).mono ?_
  rintro e w2 ⟨xa, xc, rfl, ox, b9⟩
  have hx := holds_of_row ox
  have BX : Below w1.heap.size w1 w2 := b9
  replace ha := ha.next b9
  replace hi := hi.next b9
  replace bb := bb.trans (b9.mono bb.size)
  clear HC b9
  have b9 : Below w2.heap.size w2 (w2.alloc (.cells #[.int .i64 S, .int .i64 R, .int .i64 FF, .slice xa X.length xc] 24)) := (Below.refl _ _).alloc (Nat.le_refl _) _
  have xx := Box.new w2 24 #[.int .i64 S, .int .i64 R, .int .i64 FF, .slice xa X.length xc]
  replace ha := ha.next b9
  replace hi := hi.next b9
  replace hx := hx.next b9
  replace bb := bb.trans (b9.mono bb.size)
  clear b9
  replace ox := ox.alloc (.cells #[.int .i64 S, .int .i64 R, .int .i64 FF, .slice xa X.length xc] 24)
  replace BX := BX.alloc BX.size (.cells #[.int .i64 S, .int .i64 R, .int .i64 FF, .slice xa X.length xc] 24)
  have HC := refReadData_yes a cap zs hc HBZ.out HOK.out _ ha
  rw [HRS.out, HRR.out, HRFF.out, HRX.out] at HC
  go_wp2_with fail
  refine (HC).mono ?_
  rintro e w3 ⟨ya, yc, rfl, hy, b9⟩
  replace ox := row_below ox b9 (Nat.le_refl _)
  replace BX := BX.trans (b9.mono BX.size)
  replace ha := ha.next b9
  replace hi := hi.next b9
  replace hx := hx.next b9
  replace xx := xx.next b9
  replace bb := bb.trans (b9.mono bb.size)
  clear HC b9
  have b9 : Below w3.heap.size w3 (w3.alloc (.cells #[.int .i64 S, .int .i64 R, .int .i64 FF, .slice ya X.length yc] 24)) := (Below.refl _ _).alloc (Nat.le_refl _) _
  have xy := Box.new w3 24 #[.int .i64 S, .int .i64 R, .int .i64 FF, .slice ya X.length yc]
  replace ha := ha.next b9
  replace hi := hi.next b9
  replace hx := hx.next b9
  replace xx := xx.next b9
  replace hy := hy.next b9
  replace bb := bb.trans (b9.mono bb.size)
  clear b9
  replace ox := ox.alloc (.cells #[.int .i64 S, .int .i64 R, .int .i64 FF, .slice ya X.length yc] 24)
  replace BX := BX.alloc BX.size (.cells #[.int .i64 S, .int .i64 R, .int .i64 FF, .slice ya X.length yc] 24)
  have HC := bytes_any (.slice ia zs.length ic) (.slice a zs.length cap) zs zs _ _ _ (by omega) hi ha
  rw [decide_eq_true rfl] at HC
  go_wp2_with fail
  refine HC.mono ?_
  rintro e wx ⟨rfl, q, rfl⟩
  clear HC
  have b9 : Below (w3.alloc (.cells #[.int .i64 S, .int .i64 R, .int .i64 FF, .slice ya X.length yc] 24)).heap.size (w3.alloc (.cells #[.int .i64 S, .int .i64 R, .int .i64 FF, .slice ya X.length yc] 24)) ((w3.alloc (.cells #[.int .i64 S, .int .i64 R, .int .i64 FF, .slice ya X.length yc] 24)).drewN q) := below_drewN (Below.refl _ _) q
  replace ox := row_below ox b9 (Nat.le_refl _)
  replace BX := BX.trans (b9.mono BX.size)
  replace ha := ha.next b9
  replace hi := hi.next b9
  replace hx := hx.next b9
  replace xx := xx.next b9
  replace hy := hy.next b9
  replace xy := xy.next b9
  replace bb := bb.trans (b9.mono bb.size)
  clear b9
  generalize (w3.alloc (.cells #[.int .i64 S, .int .i64 R, .int .i64 FF, .slice ya X.length yc] 24)).drewN q = w4 at *
  have HC := keepData_any S R FF S R FF (.slice xa X.length xc) (.slice ya X.length yc) X X _ _ _ (Nat.le_refl _) (Nat.le_refl _) (by omega) hx hy
  rw [decide_eq_true ⟨rfl, rfl, rfl, rfl⟩] at HC
  have cxx0 := xx.cell 0 _ rfl
  have cxx1 := xx.cell 1 _ rfl
  have cxx2 := xx.cell 2 _ rfl
  have cxx3 := xx.cell 3 _ rfl
  have cxy0 := xy.cell 0 _ rfl
  have cxy1 := xy.cell 1 _ rfl
  have cxy2 := xy.cell 2 _ rfl
  have cxy3 := xy.cell 3 _ rfl
  go_wp2_with fail
  refine (HC).mono ?_
  rintro e w5 ⟨rfl, b9⟩
  clear cxx0 cxx1 cxx2 cxx3
  clear cxy0 cxy1 cxy2 cxy3
  replace ox := row_below ox b9 (Nat.le_refl _)
  replace BX := BX.trans (b9.mono BX.size)
  replace ha := ha.next b9
  replace hi := hi.next b9
  replace hx := hx.next b9
  replace xx := xx.next b9
  replace hy := hy.next b9
  replace xy := xy.next b9
  replace bb := bb.trans (b9.mono bb.size)
  clear HC b9
  have cxx0 := xx.cell 0 _ rfl
  have cxx1 := xx.cell 1 _ rfl
  have cxx2 := xx.cell 2 _ rfl
  have cxx3 := xx.cell 3 _ rfl
  go_wp2_with fail
  refine (DataMake_ok S R FF xa xc X HR.out HXB.out _ hx).mono ?_
  rintro e w6 ⟨r7, rfl, o7, b9⟩
  clear cxx0 cxx1 cxx2 cxx3
  replace ox := row_below ox b9 (Nat.le_refl _)
  replace BX := BX.trans (b9.mono BX.size)
  replace ha := ha.next b9
  replace hi := hi.next b9
  replace hx := hx.next b9
  replace xx := xx.next b9
  replace hy := hy.next b9
  replace xy := xy.next b9
  replace bb := bb.trans (b9.mono bb.size)
  clear b9
  have h7 := holds_of_row o7
  rw [HEQ.out] at h7
  clear o7
  have HC := bytes_any r7 (.slice a zs.length cap) zs zs _ _ w6 (by omega) h7 ha
  rw [decide_eq_true rfl] at HC
  go_wp2_with fail
  refine HC.mono ?_
  rintro e wx ⟨rfl, q, rfl⟩
  have b9 : Below w6.heap.size w6 (w6.drewN q) := below_drewN (Below.refl _ _) q
  replace ox := row_below ox b9 (Nat.le_refl _)
  replace BX := BX.trans (b9.mono BX.size)
  replace ha := ha.next b9
  replace hi := hi.next b9
  replace hx := hx.next b9
  replace xx := xx.next b9
  replace hy := hy.next b9
  replace xy := xy.next b9
  replace bb := bb.trans (b9.mono bb.size)
  clear b9 HC
  generalize w6.drewN q = w7 at *
  have cxx0 := xx.cell 0 _ rfl
  have cxx1 := xx.cell 1 _ rfl
  have cxx2 := xx.cell 2 _ rfl
  have cxx3 := xx.cell 3 _ rfl
  go_wp2_with fail
  refine (spoilBytes_any _ _ _ _ (by omega) _ ox).mono ?_
  rintro e w8 ⟨rfl, bs, _⟩
  clear cxx0 cxx1 cxx2 cxx3
  clear hx hy xx xy ha hi bb ox
  have BW : Below w1.heap.size w1 w8 := BX.trans bs
  have hi := (HI1.out.below BW)
  have ha := HA1.out.below BW
  have bb := BB1.out.trans (BW.mono hn1)
  have HC := bytes_any (.slice ia zs.length ic) (.slice a zs.length cap) zs zs _ _ w8 (by omega) hi ha
  rw [decide_eq_true rfl] at HC
  go_wp2_with fail
  refine (HC).mono ?_
  rintro e wx ⟨rfl, q, rfl⟩
  have b9 : Below w8.heap.size w8 (w8.drewN q) := below_drewN (Below.refl _ _) q
  replace bb := bb.trans (b9.mono bb.size)
  clear b9
  generalize w8.drewN q = w9 at *
  clear HC
  have HWK := dataWakes_any w9
  go_wp2_with (go_at_call 13; refine HWK.mono ?_; rintro e w99 ⟨rfl, b99⟩)
  go_ret
  exact ⟨rfl, bb.trans (b99.mono bb.size)⟩

set_option maxRecDepth 100000 in
set_option maxHeartbeats 1000000 in
theorem dataReads_long (a : Option Addr) (n cap : Nat) (hl : 200 < n) (w : World) :
    Calls Try.prog 4 #[.slice a n cap] w fun e w' => e = .returned (.bool true) ∧ Below w.heap.size w w' := by
  have dl : decide (200 < (n : Int)) = true := decide_eq_true (by omega)
  have dl' : decide (200 < n) = true := decide_eq_true hl
  clear hl
  go_enter Try.func4, Try.ntmps4
  go_wp2
  go_ret
  exact ⟨rfl, Below.refl _ _⟩

/-- The law, of whatever bytes. -/
theorem dataReads_walk (a : Option Addr) (len cap : Nat) (z1 : List Int) (w : World) (h1 : IsRow .u8 w a len cap z1) :
    Calls Try.prog 4 #[.slice a len cap] w fun e w' => e = .returned (.bool true) ∧ Below w.heap.size w w' := by
  have hc := isRow_capB h1
  obtain ⟨xs, rfl, hx, bx⟩ := holds_of_isRow h1
  by_cases hl : 200 < xs.length
  · exact dataReads_long a _ cap hl w
  rcases dread_cases xs with ⟨E, h0, hb⟩ | h5
  · exact dataReads_no a cap xs (by omega) hc (bytes_bd bx) E h0 hb w hx
  · exact dataReads_ok a cap xs (by omega) hc (bytes_bd bx) h5 w hx

end Go.Proofs.Ytpfhnefgibiedaa
