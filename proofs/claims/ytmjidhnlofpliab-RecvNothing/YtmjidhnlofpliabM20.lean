/-
  What package block answers (Read; Check and Make: BlockMake). (Written by tpl_blockcode.py.)
-/
import Derived.Test.YtmjidhnlofpliabM15
import Derived.Test.YtmjidhnlofpliabM18
namespace Go.Proofs.Ytmjidhnlofpliab
open Go.RowKit

set_option maxRecDepth 100000 in
set_option maxHeartbeats 2000000 in
theorem read_arg (z : Int) (hz : bSize z = false) (v : Value) (w : World) :
    Calls Try.prog 35 #[.int .i64 z, v] w fun e w' => e = .returned (.tuple #[.agg #[.int .i64 0, .int .i64 0, .slice none 0 0], .int .i64 1]) ∧ Below w.heap.size w w' := by
  have b0 := (Below.refl w.heap.size w).alloc (Nat.le_refl _) (.cells #[.int .i64 0, .int .i64 0, .slice none 0 0] 79)
  have HS := bsize_any z (w.alloc (.cells #[.int .i64 0, .int .i64 0, .slice none 0 0] 79))
  rw [hz] at HS
  clear hz
  go_enter Try.func35, Try.ntmps35
  go_wp2_with (go_at_call 53; refine HS.mono ?_; rintro e w' ⟨rfl, rfl⟩)
  exact bodyPost_ret (v := .tuple #[.agg #[.int .i64 0, .int .i64 0, .slice none 0 0], .int .i64 1]) (by simp [results, Try.results35, go_sem]) rfl ⟨rfl, b0⟩

set_option maxRecDepth 100000 in
set_option maxHeartbeats 2000000 in
theorem read_len (z : Int) (hz : bSize z = true) (a : Option Addr) (n cap : Nat) (hn : (n : Int) ≠ z + 10) (w : World) :
    Calls Try.prog 35 #[.int .i64 z, .slice a n cap] w fun e w' => e = .returned (.tuple #[.agg #[.int .i64 0, .int .i64 0, .slice none 0 0], .int .i64 2]) ∧ Below w.heap.size w w' := by
  have b0 := (Below.refl w.heap.size w).alloc (Nat.le_refl _) (.cells #[.int .i64 0, .int .i64 0, .slice none 0 0] 79)
  have HS := bsize_any z (w.alloc (.cells #[.int .i64 0, .int .i64 0, .slice none 0 0] 79))
  have hz' := (bSize_iff z).1 hz
  rw [hz] at HS
  have d3 : ((n : Int) != 6 + z + 4) = true := by rw [bne_iff_ne]; omega
  clear hz hn
  go_enter Try.func35, Try.ntmps35
  go_wp2_with (go_at_call 53; refine HS.mono ?_; rintro e w' ⟨rfl, rfl⟩)
  exact bodyPost_ret (v := .tuple #[.agg #[.int .i64 0, .int .i64 0, .slice none 0 0], .int .i64 2]) (by simp [results, Try.results35, go_sem]) rfl ⟨rfl, b0⟩

set_option maxRecDepth 100000 in
set_option maxHeartbeats 4000000 in
theorem read_sum (Z : Nat) (hZ1 : 1 ≤ Z) (hZ2 : Z ≤ 16) (a : Option Addr) (cap : Nat) (zs : List Int) (hl : zs.length = Z + 10) (hc : zs.length ≤ cap) (bz : ∀ z ∈ zs, 0 ≤ z ∧ z ≤ 255) (hs : isSealed zs = false) (w : World) (ha : Holds .u8 w.heap.size w (.slice a zs.length cap) zs) :
    Calls Try.prog 35 #[.int .i64 Z, .slice a zs.length cap] w fun e W' => e = .returned (.tuple #[.agg #[.int .i64 0, .int .i64 0, .slice none 0 0], .int .i64 4]) ∧ Below w.heap.size w W' := by
  have b0 := (Below.refl w.heap.size w).alloc (Nat.le_refl _) (.cells #[.int .i64 0, .int .i64 0, .slice none 0 0] 79)
  have x0 := Box.new w 79 #[.int .i64 0, .int .i64 0, .slice none 0 0]
  have HS := bsize_any (Z : Int) (w.alloc (.cells #[.int .i64 0, .int .i64 0, .slice none 0 0] 79))
  rw [bsize_yes (z := (Z : Int)) (by omega)] at HS
  have d3 : ((zs.length : Int) != 6 + (Z : Int) + 4) = false := by rw [bne_eq_false_iff_eq]; omega
  have HB : Hid (∀ z ∈ zs, 0 ≤ z ∧ z ≤ 255) := bz
  have HA : Hid (Holds .u8 w.heap.size w (.slice a zs.length cap) zs) := ha
  have HC1 := Sealed_any a cap zs (by omega) hc bz _ (ha.next b0)
  rw [hs] at HC1
  have HL : Hid (zs.length = Z + 10) := hl
  clear hs bz hl ha
  go_enter Try.func35, Try.ntmps35
  go_wp2_with fail
  refine HS.mono ?_
  rintro e wz ⟨rfl, rfl⟩
  go_wp2_with fail
  refine HC1.mono ?_
  rintro e w1 ⟨rfl, b1⟩
  have bb1 := b0.trans (b1.mono (by simp))
  have y0 := x0.next b1
  have z0 := y0.cell 0 _ rfl
  have z1 := y0.cell 1 _ rfl
  have z2 := y0.cell 2 _ rfl
  have f0 := y0.free 0
  have f1 := y0.free 1
  have f2 := y0.free 2
  clear HC1 HS b0 b1 x0
  go_wp2
  exact bodyPost_ret (v := .tuple #[.agg #[.int .i64 0, .int .i64 0, .slice none 0 0], .int .i64 4]) (by simp [results, Try.results35, go_sem, z0, z1, z2]) rfl ⟨rfl, below_set3 bb1 (Nat.le_refl _) _ _ _⟩

set_option maxRecDepth 100000 in
set_option maxHeartbeats 4000000 in
theorem read_bad (Z : Nat) (hZ1 : 1 ≤ Z) (hZ2 : Z ≤ 16) (a : Option Addr) (cap : Nat) (zs : List Int) (hl : zs.length = Z + 10) (hc : zs.length ≤ cap) (bz : ∀ z ∈ zs, 0 ≤ z ∧ z ≤ 255) (hs : isSealed zs = true) (hE : errB Z (rdS zs) (rdM zs) (rdN zs) ≠ 0) (w : World) (ha : Holds .u8 w.heap.size w (.slice a zs.length cap) zs) :
    Calls Try.prog 35 #[.int .i64 Z, .slice a zs.length cap] w fun e W' => e = .returned (.tuple #[.agg #[.int .i64 0, .int .i64 0, .slice none 0 0], .int .i64 3]) ∧ Below w.heap.size w W' := by
  have b0 := (Below.refl w.heap.size w).alloc (Nat.le_refl _) (.cells #[.int .i64 0, .int .i64 0, .slice none 0 0] 79)
  have x0 := Box.new w 79 #[.int .i64 0, .int .i64 0, .slice none 0 0]
  have HS := bsize_any (Z : Int) (w.alloc (.cells #[.int .i64 0, .int .i64 0, .slice none 0 0] 79))
  rw [bsize_yes (z := (Z : Int)) (by omega)] at HS
  have d3 : ((zs.length : Int) != 6 + (Z : Int) + 4) = false := by rw [bne_eq_false_iff_eq]; omega
  have HB : Hid (∀ z ∈ zs, 0 ≤ z ∧ z ≤ 255) := bz
  have HA : Hid (Holds .u8 w.heap.size w (.slice a zs.length cap) zs) := ha
  have HC1 := Sealed_any a cap zs (by omega) hc bz _ (ha.next b0)
  rw [hs] at HC1
  have HL : Hid (zs.length = Z + 10) := hl
  clear hs bz hl ha
  go_enter Try.func35, Try.ntmps35
  go_wp2_with fail
  refine HS.mono ?_
  rintro e wz ⟨rfl, rfl⟩
  go_wp2_with fail
  refine HC1.mono ?_
  rintro e w1 ⟨rfl, b1⟩
  have bb1 := b0.trans (b1.mono (by simp))
  have y0 := x0.next b1
  have HT := take_any Z hZ2 a cap zs HL.out hc HB.out w1 ((HA.out.below bb1).mono bb1.size)
  obtain ⟨S, hS⟩ : ∃ S, rdS zs = S := ⟨_, rfl⟩
  obtain ⟨M, hM⟩ : ∃ M, rdM zs = M := ⟨_, rfl⟩
  obtain ⟨n, hn⟩ : ∃ n, rdN zs = n := ⟨_, rfl⟩
  obtain ⟨X, hX⟩ : ∃ X, tkX zs = X := ⟨_, rfl⟩
  rw [hS, hM, hn, hX] at HT
  have HXL : Hid (X.length = n) := by show X.length = n; rw [← hX, ← hn]; exact tkX_len zs
  rw [hS, hM, hn] at hE
  clear hS hM hn hX
  clear HC1 HS x0
  go_wp2_with fail
  refine HT.mono ?_
  rintro e w2 ⟨g, rfl, hX2, hg0, b2⟩
  have HG : Hid (g ≠ w.heap.size) := by show g ≠ w.heap.size; have := y0.lt; omega
  have bb2 := bb1.trans (b2.mono bb1.size)
  have y2 := y0.next b2
  have X3 : Hid (Box (w2.alloc (.cells #[.int .i64 S, .int .i64 M, .slice (some ⟨g, 0, none⟩) n n] 79)) w2.heap.size 79 #[.int .i64 S, .int .i64 M, .slice (some ⟨g, 0, none⟩) n n]) := Box.new w2 _ _
  have B3 : Hid (Below w2.heap.size w2 (w2.alloc (.cells #[.int .i64 S, .int .i64 M, .slice (some ⟨g, 0, none⟩) n n] 79))) := (Below.refl _ _).alloc (Nat.le_refl _) _
  have HX2 : Hid (Holds .u8 w2.heap.size w2 (.slice (some ⟨g, 0, none⟩) n n) X) := hX2
  clear HT hX2
  have HM := Make_no (Z : Int) S M (some ⟨g, 0, none⟩) n n hE (w2.alloc (.cells #[.int .i64 S, .int .i64 M, .slice (some ⟨g, 0, none⟩) n n] 79))
  obtain ⟨E, hEe⟩ : ∃ E, errB Z S M n = E := ⟨_, rfl⟩
  rw [hEe] at hE HM
  have dE : (E != 0) = true := by rw [bne_iff_ne]; exact hE
  clear hEe hE
  go_wp2_with fail
  refine HM.mono ?_
  rintro e w4 ⟨rfl, b4⟩
  have b34 := B3.out.trans (b4.mono B3.out.size)
  have bb4 := bb2.trans (b34.mono bb2.size)
  have y4 := y2.next b34
  have z0 := y4.cell 0 _ rfl
  have z1 := y4.cell 1 _ rfl
  have z2 := y4.cell 2 _ rfl
  have f0 := y4.free 0
  have f1 := y4.free 1
  have f2 := y4.free 2
  clear HM b4 B3 X3 HX2 y0 y2
  go_wp2
  exact bodyPost_ret (v := .tuple #[.agg #[.int .i64 0, .int .i64 0, .slice none 0 0], .int .i64 3]) (by simp [results, Try.results35, go_sem, z0, z1, z2]) rfl ⟨rfl, below_set3 bb4 (Nat.le_refl _) _ _ _⟩

set_option maxRecDepth 100000 in
set_option maxHeartbeats 4000000 in
theorem read_pad (Z : Nat) (hZ1 : 1 ≤ Z) (hZ2 : Z ≤ 16) (a : Option Addr) (cap : Nat) (zs : List Int) (hl : zs.length = Z + 10) (hc : zs.length ≤ cap) (bz : ∀ z ∈ zs, 0 ≤ z ∧ z ≤ 255) (hs : isSealed zs = true) (hn9 : rdN zs ≤ Z) (hR : Right Z (rdS zs) (rdM zs) (rdX zs)) (hq : ¬ bytesB Z (rdS zs) (rdM zs) (rdX zs) = zs) (w : World) (ha : Holds .u8 w.heap.size w (.slice a zs.length cap) zs) :
    Calls Try.prog 35 #[.int .i64 Z, .slice a zs.length cap] w fun e W' => e = .returned (.tuple #[.agg #[.int .i64 0, .int .i64 0, .slice none 0 0], .int .i64 3]) ∧ Below w.heap.size w W' := by
  have b0 := (Below.refl w.heap.size w).alloc (Nat.le_refl _) (.cells #[.int .i64 0, .int .i64 0, .slice none 0 0] 79)
  have x0 := Box.new w 79 #[.int .i64 0, .int .i64 0, .slice none 0 0]
  have HS := bsize_any (Z : Int) (w.alloc (.cells #[.int .i64 0, .int .i64 0, .slice none 0 0] 79))
  rw [bsize_yes (z := (Z : Int)) (by omega)] at HS
  have d3 : ((zs.length : Int) != 6 + (Z : Int) + 4) = false := by rw [bne_eq_false_iff_eq]; omega
  have HB : Hid (∀ z ∈ zs, 0 ≤ z ∧ z ≤ 255) := bz
  have HA : Hid (Holds .u8 w.heap.size w (.slice a zs.length cap) zs) := ha
  have HC1 := Sealed_any a cap zs (by omega) hc bz _ (ha.next b0)
  rw [hs] at HC1
  have HL : Hid (zs.length = Z + 10) := hl
  clear hs bz hl ha
  go_enter Try.func35, Try.ntmps35
  go_wp2_with fail
  refine HS.mono ?_
  rintro e wz ⟨rfl, rfl⟩
  go_wp2_with fail
  refine HC1.mono ?_
  rintro e w1 ⟨rfl, b1⟩
  have bb1 := b0.trans (b1.mono (by simp))
  have y0 := x0.next b1
  have HT := take_any Z hZ2 a cap zs HL.out hc HB.out w1 ((HA.out.below bb1).mono bb1.size)
  obtain ⟨S, hS⟩ : ∃ S, rdS zs = S := ⟨_, rfl⟩
  obtain ⟨M, hM⟩ : ∃ M, rdM zs = M := ⟨_, rfl⟩
  obtain ⟨n, hn⟩ : ∃ n, rdN zs = n := ⟨_, rfl⟩
  obtain ⟨X, hX⟩ : ∃ X, tkX zs = X := ⟨_, rfl⟩
  rw [hS, hM, hn, hX] at HT
  have HXL : Hid (X.length = n) := by show X.length = n; rw [← hX, ← hn]; exact tkX_len zs
  have hXX := (tkX_fits HL.out hn9).symm.trans hX
  rw [hS, hM, hXX] at hR hq
  have HR : Hid (Right Z S M X) := hR
  have HQ : Hid (decide (bytesB Z S M X = zs) = false) := decide_eq_false hq
  have HBX : Hid (∀ z ∈ X, 0 ≤ z ∧ z ≤ 255) := fun z hz => HB.out z (List.mem_of_mem_drop (List.mem_of_mem_take (show z ∈ (zs.drop 6).take (rdN zs) from by rw [← hXX] at hz; exact hz)))
  clear hS hM hn hX hXX hR hq hn9
  clear HC1 HS x0
  go_wp2_with fail
  refine HT.mono ?_
  rintro e w2 ⟨g, rfl, hX2, hg0, b2⟩
  have HG : Hid (g ≠ w.heap.size) := by show g ≠ w.heap.size; have := y0.lt; omega
  have bb2 := bb1.trans (b2.mono bb1.size)
  have y2 := y0.next b2
  have X3 : Hid (Box (w2.alloc (.cells #[.int .i64 S, .int .i64 M, .slice (some ⟨g, 0, none⟩) n n] 79)) w2.heap.size 79 #[.int .i64 S, .int .i64 M, .slice (some ⟨g, 0, none⟩) n n]) := Box.new w2 _ _
  have B3 : Hid (Below w2.heap.size w2 (w2.alloc (.cells #[.int .i64 S, .int .i64 M, .slice (some ⟨g, 0, none⟩) n n] 79))) := (Below.refl _ _).alloc (Nat.le_refl _) _
  have HX2 : Hid (Holds .u8 w2.heap.size w2 (.slice (some ⟨g, 0, none⟩) n n) X) := hX2
  clear HT hX2
  have HM : Calls Try.prog 55 #[.int .i64 Z, .agg #[.int .i64 S, .int .i64 M, .slice (some ⟨g, 0, none⟩) n n]] (w2.alloc (.cells #[.int .i64 S, .int .i64 M, .slice (some ⟨g, 0, none⟩) n n] 79)) fun e W' => ∃ r, e = .returned (.tuple #[r, .int .i64 0]) ∧ W'.ownsRow (w2.alloc (.cells #[.int .i64 S, .int .i64 M, .slice (some ⟨g, 0, none⟩) n n] 79)).heap.size 5 1 r (Z + 10) ((bytesB Z S M X).map (Value.int .u8)) ∧ Below (w2.alloc (.cells #[.int .i64 S, .int .i64 M, .slice (some ⟨g, 0, none⟩) n n] 79)).heap.size (w2.alloc (.cells #[.int .i64 S, .int .i64 M, .slice (some ⟨g, 0, none⟩) n n] 79)) W' := by
    have := Make_ok Z S M (some ⟨g, 0, none⟩) n X HR.out HBX.out (w2.alloc (.cells #[.int .i64 S, .int .i64 M, .slice (some ⟨g, 0, none⟩) n n] 79)) (by rw [HXL.out]; exact HX2.out.next B3.out)
    rw [HXL.out] at this
    exact this
  go_wp2_with fail
  refine HM.mono ?_
  rintro e w4 ⟨r4, rfl, o4, b4⟩
  have b34 := B3.out.trans (b4.mono B3.out.size)
  have bb4 := bb2.trans (b34.mono bb2.size)
  have y4 := y2.next b34
  have v4 := X3.out.next b4
  have hBl : (bytesB Z S M X).length = Z + 10 := by have := o4.1; simpa using this
  rcases id o4.2 with ⟨_, e0⟩ | ⟨g4, c4, cur4, e4, _, hg4, _, _, _, _⟩
  · omega
  subst e4
  have HEq : Calls Try.prog 56 #[.slice (some ⟨g4, 0, none⟩) (Z + 10) c4, .slice a zs.length cap] w4 fun e w' => e = .returned (.bool (decide (bytesB Z S M X = zs))) ∧ ∃ q, w' = w4.drewN q := by
    rcases HA.out with ⟨_, e⟩ | ⟨b, off, cap', e, hb, hcs⟩
    · have := HL.out; rw [e] at this; simp at this
    · cases e
      refine slicesEqual_at g4 0 (Z + 10) c4 b off zs.length cap (bytesB Z S M X) zs hBl rfl (by omega) (by have := HL.out; omega) w4 (fun j hj => ?_) (fun j hj => (bb4.cell (p := ⟨b, off + j, none⟩) hb).trans (hcs j hj))
      have := o4.cells (g := g4) rfl j (.int .u8 ((bytesB Z S M X)[j]?.getD 0)) (by simp [hBl, hj])
      rw [Addr.add_lit] at this
      exact this
  rw [HQ.out] at HEq
  have z0 := y4.cell 0 _ rfl
  have z1 := y4.cell 1 _ rfl
  have z2 := y4.cell 2 _ rfl
  have f0 := y4.free 0
  have f1 := y4.free 1
  have f2 := y4.free 2
  clear HM b4 B3 X3 HX2 y0 y2 o4 hg4 hBl v4
  go_wp2_with fail
  refine HEq.mono ?_
  rintro e w5 ⟨rfl, q, rfl⟩
  clear HEq
  go_wp2
  exact bodyPost_ret (v := .tuple #[.agg #[.int .i64 0, .int .i64 0, .slice none 0 0], .int .i64 3]) (by simp [results, Try.results35, go_sem, z0, z1, z2]) rfl ⟨rfl, below_set3 (below_drewN bb4 q) (Nat.le_refl _) _ _ _⟩

set_option maxRecDepth 100000 in
set_option maxHeartbeats 4000000 in
theorem Read_new (Z : Nat) (hZ1 : 1 ≤ Z) (hZ2 : Z ≤ 16) (a : Option Addr) (cap : Nat) (zs : List Int) (hl : zs.length = Z + 10) (hc : zs.length ≤ cap) (bz : ∀ z ∈ zs, 0 ≤ z ∧ z ≤ 255) (hs : isSealed zs = true) (h : readOk Z zs) (w : World) (ha : Holds .u8 w.heap.size w (.slice a zs.length cap) zs) :
    Calls Try.prog 35 #[.int .i64 Z, .slice a zs.length cap] w fun e W' => ∃ g rc, e = .returned (.tuple #[.agg #[.int .i64 (rdS zs), .int .i64 (rdM zs), .slice (some ⟨g, 0, none⟩) (rdX zs).length rc], .int .i64 0]) ∧ Holds .u8 W'.heap.size W' (.slice (some ⟨g, 0, none⟩) (rdX zs).length rc) (rdX zs) ∧ w.heap.size ≤ g ∧ Below w.heap.size w W' := by
  obtain ⟨hn9, hR, hq⟩ := h
  obtain ⟨XR, hXR⟩ : ∃ X, rdX zs = X := ⟨_, rfl⟩
  obtain ⟨SR, hSR⟩ : ∃ X, rdS zs = X := ⟨_, rfl⟩
  obtain ⟨MR, hMR⟩ : ∃ X, rdM zs = X := ⟨_, rfl⟩
  rw [hXR, hSR, hMR]
  have b0 := (Below.refl w.heap.size w).alloc (Nat.le_refl _) (.cells #[.int .i64 0, .int .i64 0, .slice none 0 0] 79)
  have x0 := Box.new w 79 #[.int .i64 0, .int .i64 0, .slice none 0 0]
  have HS := bsize_any (Z : Int) (w.alloc (.cells #[.int .i64 0, .int .i64 0, .slice none 0 0] 79))
  rw [bsize_yes (z := (Z : Int)) (by omega)] at HS
  have d3 : ((zs.length : Int) != 6 + (Z : Int) + 4) = false := by rw [bne_eq_false_iff_eq]; omega
  have HB : Hid (∀ z ∈ zs, 0 ≤ z ∧ z ≤ 255) := bz
  have HA : Hid (Holds .u8 w.heap.size w (.slice a zs.length cap) zs) := ha
  have HC1 := Sealed_any a cap zs (by omega) hc bz _ (ha.next b0)
  rw [hs] at HC1
  have HL : Hid (zs.length = Z + 10) := hl
  clear hs bz hl ha
  go_enter Try.func35, Try.ntmps35
  go_wp2_with fail
  refine HS.mono ?_
  rintro e wz ⟨rfl, rfl⟩
  go_wp2_with fail
  refine HC1.mono ?_
  rintro e w1 ⟨rfl, b1⟩
  have bb1 := b0.trans (b1.mono (by simp))
  have y0 := x0.next b1
  have HT := take_any Z hZ2 a cap zs HL.out hc HB.out w1 ((HA.out.below bb1).mono bb1.size)
  obtain ⟨S, hS⟩ : ∃ S, rdS zs = S := ⟨_, rfl⟩
  obtain ⟨M, hM⟩ : ∃ M, rdM zs = M := ⟨_, rfl⟩
  obtain ⟨n, hn⟩ : ∃ n, rdN zs = n := ⟨_, rfl⟩
  obtain ⟨X, hX⟩ : ∃ X, tkX zs = X := ⟨_, rfl⟩
  rw [hS, hM, hn, hX] at HT
  have HXL : Hid (X.length = n) := by show X.length = n; rw [← hX, ← hn]; exact tkX_len zs
  have hXX := (tkX_fits HL.out hn9).symm.trans hX
  have HE1 : Hid (XR = X) := hXR.symm.trans hXX
  have HE2 : Hid (SR = S) := hSR.symm.trans hS
  have HE3 : Hid (MR = M) := hMR.symm.trans hM
  clear hXR hSR hMR
  rw [hS, hM, hXX] at hR hq
  have HR : Hid (Right Z S M X) := hR
  have HQ : Hid (decide (bytesB Z S M X = zs) = true) := decide_eq_true hq
  have HBX : Hid (∀ z ∈ X, 0 ≤ z ∧ z ≤ 255) := fun z hz => HB.out z (List.mem_of_mem_drop (List.mem_of_mem_take (show z ∈ (zs.drop 6).take (rdN zs) from by rw [← hXX] at hz; exact hz)))
  clear hS hM hn hX hXX hR hq hn9
  clear HC1 HS x0
  go_wp2_with fail
  refine HT.mono ?_
  rintro e w2 ⟨g, rfl, hX2, hg0, b2⟩
  have HG : Hid (g ≠ w.heap.size) := by show g ≠ w.heap.size; have := y0.lt; omega
  have HGW : Hid (w.heap.size ≤ g) := by show w.heap.size ≤ g; have := bb1.size; omega
  have bb2 := bb1.trans (b2.mono bb1.size)
  have y2 := y0.next b2
  have X3 : Hid (Box (w2.alloc (.cells #[.int .i64 S, .int .i64 M, .slice (some ⟨g, 0, none⟩) n n] 79)) w2.heap.size 79 #[.int .i64 S, .int .i64 M, .slice (some ⟨g, 0, none⟩) n n]) := Box.new w2 _ _
  have B3 : Hid (Below w2.heap.size w2 (w2.alloc (.cells #[.int .i64 S, .int .i64 M, .slice (some ⟨g, 0, none⟩) n n] 79))) := (Below.refl _ _).alloc (Nat.le_refl _) _
  have HX2 : Hid (Holds .u8 w2.heap.size w2 (.slice (some ⟨g, 0, none⟩) n n) X) := hX2
  clear HT hX2
  have HM : Calls Try.prog 55 #[.int .i64 Z, .agg #[.int .i64 S, .int .i64 M, .slice (some ⟨g, 0, none⟩) n n]] (w2.alloc (.cells #[.int .i64 S, .int .i64 M, .slice (some ⟨g, 0, none⟩) n n] 79)) fun e W' => ∃ r, e = .returned (.tuple #[r, .int .i64 0]) ∧ W'.ownsRow (w2.alloc (.cells #[.int .i64 S, .int .i64 M, .slice (some ⟨g, 0, none⟩) n n] 79)).heap.size 5 1 r (Z + 10) ((bytesB Z S M X).map (Value.int .u8)) ∧ Below (w2.alloc (.cells #[.int .i64 S, .int .i64 M, .slice (some ⟨g, 0, none⟩) n n] 79)).heap.size (w2.alloc (.cells #[.int .i64 S, .int .i64 M, .slice (some ⟨g, 0, none⟩) n n] 79)) W' := by
    have := Make_ok Z S M (some ⟨g, 0, none⟩) n X HR.out HBX.out (w2.alloc (.cells #[.int .i64 S, .int .i64 M, .slice (some ⟨g, 0, none⟩) n n] 79)) (by rw [HXL.out]; exact HX2.out.next B3.out)
    rw [HXL.out] at this
    exact this
  go_wp2_with fail
  refine HM.mono ?_
  rintro e w4 ⟨r4, rfl, o4, b4⟩
  have b34 := B3.out.trans (b4.mono B3.out.size)
  have bb4 := bb2.trans (b34.mono bb2.size)
  have y4 := y2.next b34
  have v4 := X3.out.next b4
  have hBl : (bytesB Z S M X).length = Z + 10 := by have := o4.1; simpa using this
  rcases id o4.2 with ⟨_, e0⟩ | ⟨g4, c4, cur4, e4, _, hg4, _, _, _, _⟩
  · omega
  subst e4
  have HEq : Calls Try.prog 56 #[.slice (some ⟨g4, 0, none⟩) (Z + 10) c4, .slice a zs.length cap] w4 fun e w' => e = .returned (.bool (decide (bytesB Z S M X = zs))) ∧ ∃ q, w' = w4.drewN q := by
    rcases HA.out with ⟨_, e⟩ | ⟨b, off, cap', e, hb, hcs⟩
    · have := HL.out; rw [e] at this; simp at this
    · cases e
      refine slicesEqual_at g4 0 (Z + 10) c4 b off zs.length cap (bytesB Z S M X) zs hBl rfl (by omega) (by have := HL.out; omega) w4 (fun j hj => ?_) (fun j hj => (bb4.cell (p := ⟨b, off + j, none⟩) hb).trans (hcs j hj))
      have := o4.cells (g := g4) rfl j (.int .u8 ((bytesB Z S M X)[j]?.getD 0)) (by simp [hBl, hj])
      rw [Addr.add_lit] at this
      exact this
  rw [HQ.out] at HEq
  have z0 := y4.cell 0 _ rfl
  have z1 := y4.cell 1 _ rfl
  have z2 := y4.cell 2 _ rfl
  have f0 := y4.free 0
  have f1 := y4.free 1
  have f2 := y4.free 2
  have v0 := v4.cell 0 _ rfl
  have v1 := v4.cell 1 _ rfl
  have v2 := v4.cell 2 _ rfl
  have HH : Hid (Holds .u8 w4.heap.size w4 (.slice (some ⟨g, 0, none⟩) n n) X ∧ g ≠ w.heap.size) := ⟨HX2.out.next b34, HG.out⟩
  clear HM b4 B3 X3 HX2 y0 y2 o4 hg4 hBl v4
  go_wp2_with fail
  refine HEq.mono ?_
  rintro e w5 ⟨rfl, q, rfl⟩
  clear HEq
  go_wp2
  refine bodyPost_ret (v := .tuple #[.agg #[.int .i64 S, .int .i64 M, .slice (some ⟨g, 0, none⟩) n n], .int .i64 0]) (by simp [results, Try.results35, go_sem, z0, z1, z2]) rfl ⟨g, n, ?_, ?_, HGW.out, below_set3 (below_drewN bb4 q) (Nat.le_refl _) _ _ _⟩
  · rw [HE1.out, HE2.out, HE3.out, HXL.out]
  · rw [HE1.out, HXL.out]
    exact holds_set3 (W := w4.drewN q) HH.out.1 HH.out.2 _ _ _

theorem Read_ok (Z : Nat) (hZ1 : 1 ≤ Z) (hZ2 : Z ≤ 16) (a : Option Addr) (cap : Nat) (zs : List Int) (hl : zs.length = Z + 10) (hc : zs.length ≤ cap) (bz : ∀ z ∈ zs, 0 ≤ z ∧ z ≤ 255) (hs : isSealed zs = true) (h : readOk Z zs) (w : World) (ha : Holds .u8 w.heap.size w (.slice a zs.length cap) zs) :
    Calls Try.prog 35 #[.int .i64 Z, .slice a zs.length cap] w fun e W' => ∃ ra rc, e = .returned (.tuple #[.agg #[.int .i64 (rdS zs), .int .i64 (rdM zs), .slice ra (rdX zs).length rc], .int .i64 0]) ∧ Holds .u8 W'.heap.size W' (.slice ra (rdX zs).length rc) (rdX zs) ∧ Below w.heap.size w W' :=
  (Read_new Z hZ1 hZ2 a cap zs hl hc bz hs h w ha).mono fun _ _ ⟨_, rc, e, h1, _, h3⟩ => ⟨_, rc, e, h1, h3⟩

theorem Read_no (z : Int) (a : Option Addr) (cap : Nat) (zs : List Int) (hl : zs.length ≤ 4096) (hc : zs.length ≤ cap) (bz : ∀ z ∈ zs, 0 ≤ z ∧ z ≤ 255) (e : Int) (h : badB z zs e) (w : World) (ha : Holds .u8 w.heap.size w (.slice a zs.length cap) zs) :
    Calls Try.prog 35 #[.int .i64 z, .slice a zs.length cap] w fun r w' => r = .returned (.tuple #[.agg #[.int .i64 0, .int .i64 0, .slice none 0 0], .int .i64 e]) ∧ Below w.heap.size w w' := by
  rcases h with ⟨h1, rfl⟩ | ⟨h1, h2, rfl⟩ | ⟨h1, h2, h3, rfl⟩ | ⟨h1, h2, h3, h4, rfl⟩
  · exact read_arg z h1 _ w
  · exact read_len z h1 a _ cap h2 w
  · have hz := (bSize_iff z).1 h1
    obtain ⟨Z, rfl⟩ := Int.eq_ofNat_of_zero_le (show 0 ≤ z by omega)
    exact read_sum Z (by omega) (by omega) a cap zs (by omega) hc bz h3 w ha
  · have hz := (bSize_iff z).1 h1
    obtain ⟨Z, rfl⟩ := Int.eq_ofNat_of_zero_le (show 0 ≤ z by omega)
    have hl : zs.length = Z + 10 := by omega
    rw [show (Z : Int).toNat = Z from rfl] at h4
    by_cases hE : errB Z (rdS zs) (rdM zs) (rdN zs) = 0
    · have hn : rdN zs ≤ Z := by
        have := ((bLen_iff _ _ _).1 (errB_zero.1 hE).2).1
        omega
      have hR : Right Z (rdS zs) (rdM zs) (rdX zs) := (right_iff _ _ _ _).1 (by rw [rdX_len hl hn]; exact hE)
      exact read_pad Z (by omega) (by omega) a cap zs hl hc bz h3 hn hR (fun hq => h4 ⟨hn, hR, hq⟩) w ha
    · exact read_bad Z (by omega) (by omega) a cap zs hl hc bz h3 hE w ha

end Go.Proofs.Ytmjidhnlofpliab
