/-
  AckReads: the walk: whatever the bytes, the law answers true, and nothing that lay has turned. (Written by tpl_ackexact.py.)
-/
import Derived.Test.YtkhmcoeffaeppaaAckWakes
namespace Go.Proofs.Ytkhmcoeffaeppaa
open Go.RowKit

theorem isRow_capA {kd : IntKind} {w : World} {a : Option Addr} {len cap : Nat} {zs : List Int} (h : IsRow kd w a len cap zs) : len ≤ cap := by
  rcases h with ⟨_, h1, h2, _⟩ | ⟨_, _, h, _⟩
  · omega
  · omega

set_option maxRecDepth 100000 in
set_option maxHeartbeats 4000000 in
theorem ackReads_no (a : Option Addr) (cap : Nat) (zs : List Int) (hl : zs.length ≤ 100) (hc : zs.length ≤ cap) (bz : ∀ z ∈ zs, 0 ≤ z ∧ z ≤ 255) (E : Int) (hE : 0 < E) (hbad : badA zs E) (w : World) (ha : Holds .u8 w.heap.size w (.slice a zs.length cap) zs) :
    Calls Try.prog 4 #[.slice a zs.length cap] w fun e w' => e = .returned (.bool true) ∧ Below w.heap.size w w' := by
  have HBZ : Hid (∀ z ∈ zs, 0 ≤ z ∧ z ≤ 255) := bz
  have dl : decide (100 < (zs.length : Int)) = false := decide_eq_false (by omega)
  have dl' : decide (100 < zs.length) = false := decide_eq_false (by omega)
  have HBD : Hid (badA zs E) := hbad
  have dE : (E != 0) = true := by simp; omega
  have dEE : (E != E) = false := by simp
  clear hbad hE
  clear bz
  have bb := Below.refl w.heap.size w
  go_enter Try.func4, Try.ntmps4
  go_wp2_with fail
  refine (twin_any _ zs _ (by omega) _ ha).mono ?_
  rintro e w1 ⟨q0, rfl, o1, b9⟩
  replace ha := ha.next b9
  replace bb := bb.trans (b9.mono bb.size)
  clear b9
  obtain ⟨ia, ic, rfl⟩ := row_shapeA o1
  have hi := holds_of_row o1
  have hic := row_cap o1
  clear o1
  go_wp2_with fail
  refine (AckRead_no ia ic zs (by omega) hic HBZ.out E HBD.out _ hi).mono ?_
  rintro e w2 ⟨rfl, b9⟩
  replace ha := ha.next b9
  replace hi := hi.next b9
  replace bb := bb.trans (b9.mono bb.size)
  clear b9
  have b9 : Below w2.heap.size w2 (w2.alloc (.cells #[.int .i64 0, .int .u32 0] 24)) := (Below.refl _ _).alloc (Nat.le_refl _) _
  have xx := Box.new w2 24 #[.int .i64 0, .int .u32 0]
  replace ha := ha.next b9
  replace hi := hi.next b9
  replace bb := bb.trans (b9.mono bb.size)
  clear b9
  go_wp2_with fail
  refine (refReadAck_no a cap zs hc HBZ.out E HBD.out _ ha).mono ?_
  rintro e w3 ⟨rfl, b9⟩
  replace ha := ha.next b9
  replace hi := hi.next b9
  replace xx := xx.next b9
  replace bb := bb.trans (b9.mono bb.size)
  clear b9
  have b9 : Below w3.heap.size w3 (w3.alloc (.cells #[.int .i64 0, .int .u32 0] 24)) := (Below.refl _ _).alloc (Nat.le_refl _) _
  have xy := Box.new w3 24 #[.int .i64 0, .int .u32 0]
  replace ha := ha.next b9
  replace hi := hi.next b9
  replace xx := xx.next b9
  replace bb := bb.trans (b9.mono bb.size)
  clear b9
  have HC := bytes_any (.slice ia zs.length ic) (.slice a zs.length cap) zs zs _ _ _ (by omega) hi ha
  rw [decide_eq_true rfl] at HC
  go_wp2_with fail
  refine HC.mono ?_
  rintro e wx ⟨rfl, q, rfl⟩
  clear HC
  have b9 : Below (w3.alloc (.cells #[.int .i64 0, .int .u32 0] 24)).heap.size (w3.alloc (.cells #[.int .i64 0, .int .u32 0] 24)) ((w3.alloc (.cells #[.int .i64 0, .int .u32 0] 24)).drewN q) := below_drewN (Below.refl _ _) q
  replace ha := ha.next b9
  replace hi := hi.next b9
  replace xx := xx.next b9
  replace xy := xy.next b9
  replace bb := bb.trans (b9.mono bb.size)
  clear b9
  generalize (w3.alloc (.cells #[.int .i64 0, .int .u32 0] 24)).drewN q = w4 at *
  have HC := keepAck_any 0 0 0 0 w4
  rw [decide_eq_true ⟨rfl, rfl⟩] at HC
  have cxx0 := xx.cell 0 _ rfl
  have cxx1 := xx.cell 1 _ rfl
  have cxy0 := xy.cell 0 _ rfl
  have cxy1 := xy.cell 1 _ rfl
  go_wp2_with fail
  refine (HC).mono ?_
  rintro e w5 ⟨rfl, b9⟩
  clear cxx0 cxx1
  clear cxy0 cxy1
  replace ha := ha.next b9
  replace hi := hi.next b9
  replace xx := xx.next b9
  replace xy := xy.next b9
  replace bb := bb.trans (b9.mono bb.size)
  clear b9
  clear HC
  have HWK := ackWakes_any w5
  go_wp2_with (go_at_call 11; refine HWK.mono ?_; rintro e w99 ⟨rfl, b99⟩)
  go_ret
  exact ⟨rfl, bb.trans (b99.mono bb.size)⟩

set_option maxRecDepth 100000 in
set_option maxHeartbeats 4000000 in
theorem ackReads_ok (a : Option Addr) (cap : Nat) (zs : List Int) (hl : zs.length ≤ 100) (hc : zs.length ≤ cap) (bz : ∀ z ∈ zs, 0 ≤ z ∧ z ≤ 255) (hok : okA zs) (w : World) (ha : Holds .u8 w.heap.size w (.slice a zs.length cap) zs) :
    Calls Try.prog 4 #[.slice a zs.length cap] w fun e w' => e = .returned (.bool true) ∧ Below w.heap.size w w' := by
  have HBZ : Hid (∀ z ∈ zs, 0 ≤ z ∧ z ≤ 255) := bz
  have dl : decide (100 < (zs.length : Int)) = false := decide_eq_false (by omega)
  have dl' : decide (100 < zs.length) = false := decide_eq_false (by omega)
  have HOK : Hid (okA zs) := hok
  obtain ⟨hR0, hR1, hP0⟩ := packA_read bz hok
  obtain ⟨S, hS⟩ : ∃ x, aN zs = x := ⟨_, rfl⟩
  have HRS : Hid (aN zs = S) := hS
  obtain ⟨BB, hBB⟩ : ∃ x, aB zs = x := ⟨_, rfl⟩
  have HRBB : Hid (aB zs = BB) := hBB
  rw [hS] at hR0
  rw [hBB] at hR1
  rw [hS, hBB] at hP0
  have HEQ : Hid (packA S BB = zs) := hP0
  obtain ⟨n0, n1⟩ := hR0
  obtain ⟨m0, m1⟩ := hR1
  clear hP0 hok hS hBB
  clear bz
  have bb := Below.refl w.heap.size w
  go_enter Try.func4, Try.ntmps4
  go_wp2_with fail
  refine (twin_any _ zs _ (by omega) _ ha).mono ?_
  rintro e w1 ⟨q0, rfl, o1, b9⟩
  replace ha := ha.next b9
  replace bb := bb.trans (b9.mono bb.size)
  clear b9
  obtain ⟨ia, ic, rfl⟩ := row_shapeA o1
  have hi := holds_of_row o1
  have hic := row_cap o1
  clear o1
  have HC := AckRead_ok ia ic zs hic HBZ.out HOK.out _ hi
  rw [HRS.out, HRBB.out] at HC
  go_wp2_with fail
  refine (HC).mono ?_
  rintro e w2 ⟨rfl, b9⟩
  replace ha := ha.next b9
  replace hi := hi.next b9
  replace bb := bb.trans (b9.mono bb.size)
  clear b9
  clear HC
  have b9 : Below w2.heap.size w2 (w2.alloc (.cells #[.int .i64 S, .int .u32 BB] 24)) := (Below.refl _ _).alloc (Nat.le_refl _) _
  have xx := Box.new w2 24 #[.int .i64 S, .int .u32 BB]
  replace ha := ha.next b9
  replace hi := hi.next b9
  replace bb := bb.trans (b9.mono bb.size)
  clear b9
  have HC := refReadAck_yes a cap zs hc HBZ.out HOK.out _ ha
  rw [HRS.out, HRBB.out] at HC
  go_wp2_with fail
  refine (HC).mono ?_
  rintro e w3 ⟨rfl, b9⟩
  replace ha := ha.next b9
  replace hi := hi.next b9
  replace xx := xx.next b9
  replace bb := bb.trans (b9.mono bb.size)
  clear b9
  clear HC
  have b9 : Below w3.heap.size w3 (w3.alloc (.cells #[.int .i64 S, .int .u32 BB] 24)) := (Below.refl _ _).alloc (Nat.le_refl _) _
  have xy := Box.new w3 24 #[.int .i64 S, .int .u32 BB]
  replace ha := ha.next b9
  replace hi := hi.next b9
  replace xx := xx.next b9
  replace bb := bb.trans (b9.mono bb.size)
  clear b9
  have HC := bytes_any (.slice ia zs.length ic) (.slice a zs.length cap) zs zs _ _ _ (by omega) hi ha
  rw [decide_eq_true rfl] at HC
  go_wp2_with fail
  refine HC.mono ?_
  rintro e wx ⟨rfl, q, rfl⟩
  clear HC
  have b9 : Below (w3.alloc (.cells #[.int .i64 S, .int .u32 BB] 24)).heap.size (w3.alloc (.cells #[.int .i64 S, .int .u32 BB] 24)) ((w3.alloc (.cells #[.int .i64 S, .int .u32 BB] 24)).drewN q) := below_drewN (Below.refl _ _) q
  replace ha := ha.next b9
  replace hi := hi.next b9
  replace xx := xx.next b9
  replace xy := xy.next b9
  replace bb := bb.trans (b9.mono bb.size)
  clear b9
  generalize (w3.alloc (.cells #[.int .i64 S, .int .u32 BB] 24)).drewN q = w4 at *
  have HC := keepAck_any S S BB BB w4
  rw [decide_eq_true ⟨rfl, rfl⟩] at HC
  have cxx0 := xx.cell 0 _ rfl
  have cxx1 := xx.cell 1 _ rfl
  have cxy0 := xy.cell 0 _ rfl
  have cxy1 := xy.cell 1 _ rfl
  go_wp2_with fail
  refine (HC).mono ?_
  rintro e w5 ⟨rfl, b9⟩
  clear cxx0 cxx1
  clear cxy0 cxy1
  replace ha := ha.next b9
  replace hi := hi.next b9
  replace xx := xx.next b9
  replace xy := xy.next b9
  replace bb := bb.trans (b9.mono bb.size)
  clear b9
  clear HC
  have cxx0 := xx.cell 0 _ rfl
  have cxx1 := xx.cell 1 _ rfl
  go_wp2_with fail
  refine (AckMake_ok S BB n0 n1 m0 m1 _).mono ?_
  rintro e w6 ⟨r7, rfl, o7, b9⟩
  clear cxx0 cxx1
  replace ha := ha.next b9
  replace hi := hi.next b9
  replace xx := xx.next b9
  replace xy := xy.next b9
  replace bb := bb.trans (b9.mono bb.size)
  clear b9
  have h7 := holds_of_row o7
  rw [HEQ.out] at h7
  clear o7
  have HC := bytes_any r7 (.slice a zs.length cap) zs zs _ _ w6 (by omega) h7 ha
  rw [decide_eq_true rfl] at HC
  go_wp2_with fail
  refine (HC).mono ?_
  rintro e wx ⟨rfl, q, rfl⟩
  have b9 : Below w6.heap.size w6 (w6.drewN q) := below_drewN (Below.refl _ _) q
  replace ha := ha.next b9
  replace hi := hi.next b9
  replace xx := xx.next b9
  replace xy := xy.next b9
  replace bb := bb.trans (b9.mono bb.size)
  clear b9
  generalize w6.drewN q = w7 at *
  clear HC
  have HWK := ackWakes_any w7
  go_wp2_with (go_at_call 11; refine HWK.mono ?_; rintro e w99 ⟨rfl, b99⟩)
  go_ret
  exact ⟨rfl, bb.trans (b99.mono bb.size)⟩

set_option maxRecDepth 100000 in
set_option maxHeartbeats 1000000 in
theorem ackReads_long (a : Option Addr) (n cap : Nat) (hl : 100 < n) (w : World) :
    Calls Try.prog 4 #[.slice a n cap] w fun e w' => e = .returned (.bool true) ∧ Below w.heap.size w w' := by
  have dl : decide (100 < (n : Int)) = true := decide_eq_true (by omega)
  have dl' : decide (100 < n) = true := decide_eq_true hl
  clear hl
  go_enter Try.func4, Try.ntmps4
  go_wp2
  go_ret
  exact ⟨rfl, Below.refl _ _⟩

/-- The law, of whatever bytes. -/
theorem ackReads_walk (a : Option Addr) (len cap : Nat) (z1 : List Int) (w : World) (h1 : IsRow .u8 w a len cap z1) :
    Calls Try.prog 4 #[.slice a len cap] w fun e w' => e = .returned (.bool true) ∧ Below w.heap.size w w' := by
  have hc := isRow_capA h1
  obtain ⟨xs, rfl, hx, bx⟩ := holds_of_isRow h1
  by_cases hl : 100 < xs.length
  · exact ackReads_long a _ cap hl w
  rcases aread_cases xs with ⟨E, h0, hb⟩ | h5
  · exact ackReads_no a cap xs (by omega) hc (bytes_bd bx) E h0 hb w hx
  · exact ackReads_ok a cap xs (by omega) hc (bytes_bd bx) h5 w hx

end Go.Proofs.Ytkhmcoeffaeppaa
