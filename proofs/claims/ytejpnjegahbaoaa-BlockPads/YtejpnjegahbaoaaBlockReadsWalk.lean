/-
  BlockReads: the walk: whatever the size and the bytes, the law answers true, and nothing that lay has turned. (Written by tpl_blockreads.py.)
-/
import Derived.Test.YtejpnjegahbaoaaBlockWakes
namespace Go.Proofs.Ytejpnjegahbaoaa
open Go.RowKit

theorem holds_nilB (n₀ : Nat) (w : World) : Holds .u8 n₀ w (.slice none 0 0) [] := .inl ⟨⟨_, _, rfl, fun _ => rfl⟩, rfl⟩
theorem isRow_capB {kd : IntKind} {w : World} {a : Option Addr} {len cap : Nat} {zs : List Int} (h : IsRow kd w a len cap zs) : len ≤ cap := by
  rcases h with ⟨_, h1, h2, _⟩ | ⟨_, _, h, _⟩
  · omega
  · omega

set_option maxRecDepth 100000 in
set_option maxHeartbeats 4000000 in
theorem blockReads_no (z : Int) (a : Option Addr) (cap : Nat) (zs : List Int) (hl : zs.length ≤ 100) (hc : zs.length ≤ cap) (bz : ∀ z ∈ zs, 0 ≤ z ∧ z ≤ 255) (E : Int) (hE : 0 < E) (hbad : badB z zs E) (w : World) (ha : Holds .u8 w.heap.size w (.slice a zs.length cap) zs) :
    Calls Try.prog 4 #[.int .i64 z, .slice a zs.length cap] w fun e w' => e = .returned (.bool true) ∧ Below w.heap.size w w' := by
  have HBZ : Hid (∀ z ∈ zs, 0 ≤ z ∧ z ≤ 255) := bz
  have dl : decide (100 < (zs.length : Int)) = false := decide_eq_false (by omega)
  have dl' : decide (100 < zs.length) = false := decide_eq_false (by omega)
  have HBD : Hid (badB z zs E) := hbad
  have dE : (E != 0) = true := by simp; omega
  have dEE : (E != E) = false := by simp
  clear hbad hE
  clear bz
  have bb := Below.refl w.heap.size w
  go_enter Try.func4, Try.ntmps4
  go_wp2_with fail
  refine (twin_any _ zs _ (by omega) _ ha).mono ?_
  rintro e w1 ⟨r, rfl, o1, b9⟩
  replace ha := ha.next b9
  replace bb := bb.trans (b9.mono bb.size)
  clear b9
  obtain ⟨ia, ic, rfl⟩ := row_shape1 o1
  have hi := holds_of_row o1
  have hic := row_cap o1
  clear o1
  go_wp2_with fail
  refine (Read_no z ia ic zs (by omega) hic HBZ.out E HBD.out _ hi).mono ?_
  rintro e w2 ⟨rfl, b9⟩
  replace ha := ha.next b9
  replace hi := hi.next b9
  replace bb := bb.trans (b9.mono bb.size)
  clear b9
  have b9 : Below w2.heap.size w2 (w2.alloc (.cells #[.int .i64 0, .int .i64 0, .slice none 0 0] 24)) := (Below.refl _ _).alloc (Nat.le_refl _) _
  have xx := Box.new w2 24 #[.int .i64 0, .int .i64 0, .slice none 0 0]
  replace ha := ha.next b9
  replace hi := hi.next b9
  replace bb := bb.trans (b9.mono bb.size)
  clear b9
  go_wp2_with fail
  refine (refRead_no z a cap zs hc HBZ.out E HBD.out _ ha).mono ?_
  rintro e w3 ⟨rfl, b9⟩
  replace ha := ha.next b9
  replace hi := hi.next b9
  replace xx := xx.next b9
  replace bb := bb.trans (b9.mono bb.size)
  clear b9
  have b9 : Below w3.heap.size w3 (w3.alloc (.cells #[.int .i64 0, .int .i64 0, .slice none 0 0] 24)) := (Below.refl _ _).alloc (Nat.le_refl _) _
  have xy := Box.new w3 24 #[.int .i64 0, .int .i64 0, .slice none 0 0]
  replace ha := ha.next b9
  replace hi := hi.next b9
  replace xx := xx.next b9
  replace bb := bb.trans (b9.mono bb.size)
  clear b9
  have HC := bytes_any (.slice ia zs.length ic) (.slice a zs.length cap) zs zs _ _ _ (by omega) hi ha
  rw [decide_eq_true rfl] at HC
  go_wp2_with fail
  refine HC.mono ?_
  rintro e wx ⟨rfl, q, rfl⟩
  clear HC
  have b9 : Below (w3.alloc (.cells #[.int .i64 0, .int .i64 0, .slice none 0 0] 24)).heap.size (w3.alloc (.cells #[.int .i64 0, .int .i64 0, .slice none 0 0] 24)) ((w3.alloc (.cells #[.int .i64 0, .int .i64 0, .slice none 0 0] 24)).drewN q) := below_drewN (Below.refl _ _) q
  replace ha := ha.next b9
  replace hi := hi.next b9
  replace xx := xx.next b9
  replace xy := xy.next b9
  replace bb := bb.trans (b9.mono bb.size)
  clear b9
  generalize (w3.alloc (.cells #[.int .i64 0, .int .i64 0, .slice none 0 0] 24)).drewN q = w4 at *
  have HC := keepBlock_any 0 0 0 0 (.slice none 0 0) (.slice none 0 0) [] [] w4 _ _ (Nat.le_refl _) (Nat.le_refl _) (by decide) (holds_nilB _ _) (holds_nilB _ _)
  rw [decide_eq_true ⟨rfl, rfl, rfl⟩] at HC
  have cxx0 := xx.cell 0 _ rfl
  have cxx1 := xx.cell 1 _ rfl
  have cxx2 := xx.cell 2 _ rfl
  have cxy0 := xy.cell 0 _ rfl
  have cxy1 := xy.cell 1 _ rfl
  have cxy2 := xy.cell 2 _ rfl
  go_wp2_with fail
  refine (HC).mono ?_
  rintro e w5 ⟨rfl, b9⟩
  clear cxx0 cxx1 cxx2
  clear cxy0 cxy1 cxy2
  replace ha := ha.next b9
  replace hi := hi.next b9
  replace xx := xx.next b9
  replace xy := xy.next b9
  replace bb := bb.trans (b9.mono bb.size)
  clear b9
  clear HC
  have HWK := blockWakes_any w5
  go_wp2_with (go_at_call 13; refine HWK.mono ?_; rintro e w99 ⟨rfl, b99⟩)
  go_ret
  exact ⟨rfl, bb.trans (b99.mono bb.size)⟩

set_option maxRecDepth 100000 in
set_option maxHeartbeats 4000000 in
theorem blockReads_ok (Z : Nat) (a : Option Addr) (cap : Nat) (zs : List Int) (hl : zs.length ≤ 100) (hc : zs.length ≤ cap) (bz : ∀ z ∈ zs, 0 ≤ z ∧ z ≤ 255) (hZ1 : 1 ≤ Z) (hZ2 : Z ≤ 16) (hlz : zs.length = Z + 10) (hs : isSealed zs = true) (hok : readOk Z zs) (w : World) (ha : Holds .u8 w.heap.size w (.slice a zs.length cap) zs) :
    Calls Try.prog 4 #[.int .i64 (Z : Int), .slice a zs.length cap] w fun e w' => e = .returned (.bool true) ∧ Below w.heap.size w w' := by
  have HBZ : Hid (∀ z ∈ zs, 0 ≤ z ∧ z ≤ 255) := bz
  have dl : decide (100 < (zs.length : Int)) = false := decide_eq_false (by omega)
  have dl' : decide (100 < zs.length) = false := decide_eq_false (by omega)
  have HLZ : Hid (zs.length = Z + 10) := hlz
  have HS : Hid (isSealed zs = true) := hs
  have HOK : Hid (readOk Z zs) := hok
  obtain ⟨S, hS⟩ : ∃ S, rdS zs = S := ⟨_, rfl⟩
  obtain ⟨M, hM⟩ : ∃ M, rdM zs = M := ⟨_, rfl⟩
  obtain ⟨X, hX⟩ : ∃ X, rdX zs = X := ⟨_, rfl⟩
  have HRS : Hid (rdS zs = S) := hS
  have HRM : Hid (rdM zs = M) := hM
  have HRX : Hid (rdX zs = X) := hX
  have HR : Hid (Right Z S M X) := by have := hok.2.1; rw [hS, hM, hX] at this; exact this
  have HEQ : Hid (bytesB Z S M X = zs) := by have := hok.2.2; rw [hS, hM, hX] at this; exact this
  have HXB : Hid (∀ z ∈ X, 0 ≤ z ∧ z ≤ 255) := fun z hz => bz z (List.mem_of_mem_drop (List.mem_of_mem_take (hX ▸ hz)))
  have hXZ : X.length ≤ Z := HR.out.2.2.2.1
  clear hlz hs hok hS hM hX
  clear bz
  have bb := Below.refl w.heap.size w
  go_enter Try.func4, Try.ntmps4
  go_wp2_with fail
  refine (twin_any _ zs _ (by omega) _ ha).mono ?_
  rintro e w1 ⟨r, rfl, o1, b9⟩
  replace ha := ha.next b9
  replace bb := bb.trans (b9.mono bb.size)
  clear b9
  obtain ⟨ia, ic, rfl⟩ := row_shape1 o1
  have hi := holds_of_row o1
  have hic := row_cap o1
  clear o1
  have HC := Read_ok Z hZ1 hZ2 ia ic zs HLZ.out hic HBZ.out HS.out HOK.out _ hi
  rw [HRS.out, HRM.out, HRX.out] at HC
  go_wp2_with fail
  refine (HC).mono ?_
  rintro e w2 ⟨xa, xc, rfl, hx, b9⟩
  replace ha := ha.next b9
  replace hi := hi.next b9
  replace bb := bb.trans (b9.mono bb.size)
  clear b9
  clear HC
  have b9 : Below w2.heap.size w2 (w2.alloc (.cells #[.int .i64 S, .int .i64 M, .slice xa X.length xc] 24)) := (Below.refl _ _).alloc (Nat.le_refl _) _
  have xx := Box.new w2 24 #[.int .i64 S, .int .i64 M, .slice xa X.length xc]
  replace ha := ha.next b9
  replace hi := hi.next b9
  replace hx := hx.next b9
  replace bb := bb.trans (b9.mono bb.size)
  clear b9
  have HC := refRead_yes Z hZ1 hZ2 a cap zs HLZ.out hc HBZ.out HS.out HOK.out _ ha
  rw [HRS.out, HRM.out, HRX.out] at HC
  go_wp2_with fail
  refine (HC).mono ?_
  rintro e w3 ⟨ya, yc, rfl, hy, b9⟩
  replace ha := ha.next b9
  replace hi := hi.next b9
  replace hx := hx.next b9
  replace xx := xx.next b9
  replace bb := bb.trans (b9.mono bb.size)
  clear b9
  clear HC
  have b9 : Below w3.heap.size w3 (w3.alloc (.cells #[.int .i64 S, .int .i64 M, .slice ya X.length yc] 24)) := (Below.refl _ _).alloc (Nat.le_refl _) _
  have xy := Box.new w3 24 #[.int .i64 S, .int .i64 M, .slice ya X.length yc]
  replace ha := ha.next b9
  replace hi := hi.next b9
  replace hx := hx.next b9
  replace xx := xx.next b9
  replace hy := hy.next b9
  replace bb := bb.trans (b9.mono bb.size)
  clear b9
  have HC := bytes_any (.slice ia zs.length ic) (.slice a zs.length cap) zs zs _ _ _ (by omega) hi ha
  rw [decide_eq_true rfl] at HC
  go_wp2_with fail
  refine HC.mono ?_
  rintro e wx ⟨rfl, q, rfl⟩
  clear HC
  have b9 : Below (w3.alloc (.cells #[.int .i64 S, .int .i64 M, .slice ya X.length yc] 24)).heap.size (w3.alloc (.cells #[.int .i64 S, .int .i64 M, .slice ya X.length yc] 24)) ((w3.alloc (.cells #[.int .i64 S, .int .i64 M, .slice ya X.length yc] 24)).drewN q) := below_drewN (Below.refl _ _) q
  replace ha := ha.next b9
  replace hi := hi.next b9
  replace hx := hx.next b9
  replace xx := xx.next b9
  replace hy := hy.next b9
  replace xy := xy.next b9
  replace bb := bb.trans (b9.mono bb.size)
  clear b9
  generalize (w3.alloc (.cells #[.int .i64 S, .int .i64 M, .slice ya X.length yc] 24)).drewN q = w4 at *
  have HC := keepBlock_any S M S M (.slice xa X.length xc) (.slice ya X.length yc) X X _ _ _ (Nat.le_refl _) (Nat.le_refl _) (by omega) hx hy
  rw [decide_eq_true ⟨rfl, rfl, rfl⟩] at HC
  have cxx0 := xx.cell 0 _ rfl
  have cxx1 := xx.cell 1 _ rfl
  have cxx2 := xx.cell 2 _ rfl
  have cxy0 := xy.cell 0 _ rfl
  have cxy1 := xy.cell 1 _ rfl
  have cxy2 := xy.cell 2 _ rfl
  go_wp2_with fail
  refine (HC).mono ?_
  rintro e w5 ⟨rfl, b9⟩
  clear cxx0 cxx1 cxx2
  clear cxy0 cxy1 cxy2
  replace ha := ha.next b9
  replace hi := hi.next b9
  replace hx := hx.next b9
  replace xx := xx.next b9
  replace hy := hy.next b9
  replace xy := xy.next b9
  replace bb := bb.trans (b9.mono bb.size)
  clear b9
  clear HC
  have cxx0 := xx.cell 0 _ rfl
  have cxx1 := xx.cell 1 _ rfl
  have cxx2 := xx.cell 2 _ rfl
  go_wp2_with fail
  refine (Make_ok Z S M xa xc X HR.out HXB.out _ hx).mono ?_
  rintro e w6 ⟨r7, rfl, o7, b9⟩
  clear cxx0 cxx1 cxx2
  replace ha := ha.next b9
  replace hi := hi.next b9
  replace hx := hx.next b9
  replace xx := xx.next b9
  replace hy := hy.next b9
  replace xy := xy.next b9
  replace bb := bb.trans (b9.mono bb.size)
  clear b9
  have h7 := holds_of_row o7
  rw [HEQ.out] at h7
  clear o7
  have HC := bytes_any r7 (.slice a zs.length cap) zs zs _ _ w6 (by omega) h7 ha
  rw [decide_eq_true rfl] at HC
  go_wp2_with fail
  refine (HC).mono ?_
  rintro e wx ⟨rfl, q, rfl⟩
  have b9 : Below w6.heap.size w6 (w6.drewN q) := below_drewN (Below.refl _ _) q
  replace ha := ha.next b9
  replace hi := hi.next b9
  replace hx := hx.next b9
  replace xx := xx.next b9
  replace hy := hy.next b9
  replace xy := xy.next b9
  replace bb := bb.trans (b9.mono bb.size)
  clear b9
  generalize w6.drewN q = w7 at *
  clear HC
  have HWK := blockWakes_any w7
  go_wp2_with (go_at_call 13; refine HWK.mono ?_; rintro e w99 ⟨rfl, b99⟩)
  go_ret
  exact ⟨rfl, bb.trans (b99.mono bb.size)⟩

set_option maxRecDepth 100000 in
set_option maxHeartbeats 1000000 in
theorem blockReads_long (z : Int) (a : Option Addr) (n cap : Nat) (hl : 100 < n) (w : World) :
    Calls Try.prog 4 #[.int .i64 z, .slice a n cap] w fun e w' => e = .returned (.bool true) ∧ Below w.heap.size w w' := by
  have dl : decide (100 < (n : Int)) = true := decide_eq_true (by omega)
  have dl' : decide (100 < n) = true := decide_eq_true hl
  clear hl
  go_enter Try.func4, Try.ntmps4
  go_wp2
  go_ret
  exact ⟨rfl, Below.refl _ _⟩

/-- The law, of whatever size and bytes. -/
theorem blockReads_walk (z : Int) (a : Option Addr) (len cap : Nat) (z1 : List Int) (w : World) (h1 : IsRow .u8 w a len cap z1) :
    Calls Try.prog 4 #[.int .i64 z, .slice a len cap] w fun e w' => e = .returned (.bool true) ∧ Below w.heap.size w w' := by
  have hc := isRow_capB h1
  obtain ⟨xs, rfl, hx, bx⟩ := holds_of_isRow h1
  by_cases hl : 100 < xs.length
  · exact blockReads_long z a _ cap hl w
  rcases read_cases z xs with ⟨E, h0, hb⟩ | ⟨Z, rfl, h1, h2, h3, h4, h5⟩
  · exact blockReads_no z a cap xs (by omega) hc (bytes_bd bx) E h0 hb w hx
  · exact blockReads_ok Z a cap xs (by omega) hc (bytes_bd bx) h1 h2 h3 h4 h5 w hx

end Go.Proofs.Ytejpnjegahbaoaa
