/-
  PileExact: the walk, part A: whatever the pile and the numbers, the law answers true, and nothing that lay has turned. (Written by tpl_pileexact.py, a case a theorem.)
-/
import Derived.Test.YtifkjglhdppocaaDoorPileWakes
import Derived.Test.YtifkjglhdppocaaDoorPileOf
import Derived.Test.YtifkjglhdppocaaDoorRefPut
import Derived.Test.YtifkjglhdppocaaDoorRefOf
import Derived.Test.YtifkjglhdppocaaDoorSpoilSyms
namespace Go.Proofs.YtifkjglhdppocaaDoor
open Go.RowKit

set_option maxRecDepth 100000 in
set_option maxHeartbeats 4000000 in
theorem pileExact_noneYes (N : Nat) (p k u s : Int) (a : Option Addr) (cap : Nat) (l : List (Int × Int)) (hl : l.length ≤ 2000) (hh : HeadOk (N : Int) p) (hp : ¬ PileOk (N : Int) p l) (w : World) (ha : Syms w.heap.size w (.slice a l.length cap) l) :
    Calls Tryd.prog 3 #[.agg #[.int .i64 (N : Int), .int .i64 p, .slice a l.length cap], .int .i64 k, .int .i64 u, .int .i64 s] w fun e w' => e = .returned (.bool true) ∧ Below w.heap.size w w' := by
  have hl32 : l.length ≤ 4294967296 := by omega
  have hl62 : l.length ≤ 4611686018427387904 := by omega
  have HP : Hid (¬ PileOk (N : Int) p l) := hp
  have HH : Hid (HeadOk (N : Int) p) := hh
  clear hp hh
  have dp1 : decide (1 ≤ p) = true := decide_eq_true HH.out.2.2.1
  have dp2 : decide (p ≤ 16) = true := decide_eq_true HH.out.2.2.2
  have bb := Below.refl w.heap.size w
  have b1 : Below w.heap.size w (w.alloc (.cells #[.int .i64 (N : Int), .int .i64 p, .slice a l.length cap] 24)) := (Below.refl _ _).alloc (Nat.le_refl _) _
  have xa := Box.new w 24 #[.int .i64 (N : Int), .int .i64 p, .slice a l.length cap]
  replace ha := ha.next b1
  replace bb := bb.trans (b1.mono bb.size)
  clear b1
  go_enter Tryd.func3, Tryd.ntmps3
  have cxa0m2 := xa.cell 0 _ rfl
  have cxa1m2 := xa.cell 1 _ rfl
  have cxa2m2 := xa.cell 2 _ rfl
  go_wp2_with fail
  clear cxa0m2 cxa1m2 cxa2m2
  obtain ⟨w2, hw2⟩ : ∃ W, (w.alloc (.cells #[.int .i64 (N : Int), .int .i64 p, .slice a l.length cap] 24)) = W := ⟨_, rfl⟩
  rw [hw2] at ha xa bb ⊢
  clear hw2
  refine (twinPile_any (N : Int) p (.slice a l.length cap) l hl32 w2 ha).mono ?_
  rintro e w4 ⟨r1, rfl, o1, b3⟩
  replace ha := ha.next b3
  replace xa := xa.next b3
  replace bb := bb.trans (b3.mono bb.size)
  clear b3
  obtain ⟨a1, c1, rfl⟩ := (syms_of_row o1).shape
  have cxa0m3 := xa.cell 0 _ rfl
  have cxa1m3 := xa.cell 1 _ rfl
  have cxa2m3 := xa.cell 2 _ rfl
  have b5 : Below w4.heap.size w4 (w4.alloc (.cells #[.int .i64 (N : Int), .int .i64 p, .slice a1 l.length c1] 24)) := (Below.refl _ _).alloc (Nat.le_refl _) _
  have xb := Box.new w4 24 #[.int .i64 (N : Int), .int .i64 p, .slice a1 l.length c1]
  replace ha := ha.next b5
  replace xa := xa.next b5
  replace o1 := symRow_below o1 b5 (Nat.le_refl _)
  replace bb := bb.trans (b5.mono bb.size)
  clear b5
  have cxa0m4 := xa.cell 0 _ rfl
  have cxa1m4 := xa.cell 1 _ rfl
  have cxa2m4 := xa.cell 2 _ rfl
  have cxb0m4 := xb.cell 0 _ rfl
  have cxb1m4 := xb.cell 1 _ rfl
  have cxb2m4 := xb.cell 2 _ rfl
  go_wp2_with fail
  clear cxa0m3 cxa1m3 cxa2m3 cxa0m4 cxa1m4 cxa2m4 cxb0m4 cxb1m4 cxb2m4
  obtain ⟨w6, hw6⟩ : ∃ W, (w4.alloc (.cells #[.int .i64 (N : Int), .int .i64 p, .slice a1 l.length c1] 24)) = W := ⟨_, rfl⟩
  rw [hw6] at ha xa xb o1 bb ⊢
  clear hw6
  refine (refPile_no (N : Int) p a cap l hl32 HP.out w6 ha).mono ?_
  rintro e w8 ⟨rfl, b7⟩
  replace ha := ha.next b7
  replace xa := xa.next b7
  replace xb := xb.next b7
  replace o1 := symRow_below o1 b7 (Nat.le_refl _)
  replace bb := bb.trans (b7.mono bb.size)
  clear b7
  have cxa0m5 := xa.cell 0 _ rfl
  have cxa1m5 := xa.cell 1 _ rfl
  have cxa2m5 := xa.cell 2 _ rfl
  have cxb0m5 := xb.cell 0 _ rfl
  have cxb1m5 := xb.cell 1 _ rfl
  have cxb2m5 := xb.cell 2 _ rfl
  go_wp2_with fail
  clear cxa0m5 cxa1m5 cxa2m5 cxb0m5 cxb1m5 cxb2m5
  refine (Check_no (N : Int) p a1 c1 l hl32 HP.out w8 (syms_of_row o1)).mono ?_
  rintro e w10 ⟨rfl, b9⟩
  replace ha := ha.next b9
  replace xa := xa.next b9
  replace xb := xb.next b9
  replace o1 := symRow_below o1 b9 (Nat.le_refl _)
  replace bb := bb.trans (b9.mono bb.size)
  clear b9
  have cxa0m6 := xa.cell 0 _ rfl
  have cxa1m6 := xa.cell 1 _ rfl
  have cxa2m6 := xa.cell 2 _ rfl
  have cxb0m6 := xb.cell 0 _ rfl
  have cxb1m6 := xb.cell 1 _ rfl
  have cxb2m6 := xb.cell 2 _ rfl
  go_wp2_with fail
  clear cxa0m6 cxa1m6 cxa2m6 cxb0m6 cxb1m6 cxb2m6
  refine (Check_no (N : Int) p a1 c1 l hl32 HP.out w10 (syms_of_row o1)).mono ?_
  rintro e w12 ⟨rfl, b11⟩
  replace ha := ha.next b11
  replace xa := xa.next b11
  replace xb := xb.next b11
  replace o1 := symRow_below o1 b11 (Nat.le_refl _)
  replace bb := bb.trans (b11.mono bb.size)
  clear b11
  have cxa0m7 := xa.cell 0 _ rfl
  have cxa1m7 := xa.cell 1 _ rfl
  have cxa2m7 := xa.cell 2 _ rfl
  have cxb0m7 := xb.cell 0 _ rfl
  have cxb1m7 := xb.cell 1 _ rfl
  have cxb2m7 := xb.cell 2 _ rfl
  go_wp2_with fail
  clear cxa0m7 cxa1m7 cxa2m7 cxb0m7 cxb1m7 cxb2m7
  refine (New_ok (N : Int) p HH.out w12).mono ?_
  rintro e w14 ⟨rfl, b13⟩
  replace ha := ha.next b13
  replace xa := xa.next b13
  replace xb := xb.next b13
  replace o1 := symRow_below o1 b13 (Nat.le_refl _)
  replace bb := bb.trans (b13.mono bb.size)
  clear b13
  have cxa0m8 := xa.cell 0 _ rfl
  have cxa1m8 := xa.cell 1 _ rfl
  have cxa2m8 := xa.cell 2 _ rfl
  have cxb0m8 := xb.cell 0 _ rfl
  have cxb1m8 := xb.cell 1 _ rfl
  have cxb2m8 := xb.cell 2 _ rfl
  have b15 : Below w14.heap.size w14 (w14.alloc (.cells #[.int .i64 (N : Int), .int .i64 p, .slice none 0 0] 24)) := (Below.refl _ _).alloc (Nat.le_refl _) _
  have xc := Box.new w14 24 #[.int .i64 (N : Int), .int .i64 p, .slice none 0 0]
  replace ha := ha.next b15
  replace xa := xa.next b15
  replace xb := xb.next b15
  replace o1 := symRow_below o1 b15 (Nat.le_refl _)
  replace bb := bb.trans (b15.mono bb.size)
  clear b15
  have N1 : 1 ≤ N := by have := HH.out.1; omega
  have N2 : N < 65 := by have := HH.out.2.1; omega
  have cxa0m9 := xa.cell 0 _ rfl
  have cxa1m9 := xa.cell 1 _ rfl
  have cxa2m9 := xa.cell 2 _ rfl
  have cxb0m9 := xb.cell 0 _ rfl
  have cxb1m9 := xb.cell 1 _ rfl
  have cxb2m9 := xb.cell 2 _ rfl
  have cxc0m9 := xc.cell 0 _ rfl
  have cxc1m9 := xc.cell 1 _ rfl
  have cxc2m9 := xc.cell 2 _ rfl
  go_wp2_with fail
  clear cxa0m8 cxa1m8 cxa2m8 cxb0m8 cxb1m8 cxb2m8 cxa0m9 cxa1m9 cxa2m9 cxb0m9 cxb1m9 cxb2m9 cxc0m9 cxc1m9 cxc2m9
  obtain ⟨w16, hw16⟩ : ∃ W, (w14.alloc (.cells #[.int .i64 (N : Int), .int .i64 p, .slice none 0 0] 24)) = W := ⟨_, rfl⟩
  rw [hw16] at ha xa xb xc o1 bb ⊢
  clear hw16
  refine (refN_yes N N1 N2 w16).mono ?_
  rintro e wz ⟨rfl, rfl⟩
  have cxa0m10 := xa.cell 0 _ rfl
  have cxa1m10 := xa.cell 1 _ rfl
  have cxa2m10 := xa.cell 2 _ rfl
  have cxb0m10 := xb.cell 0 _ rfl
  have cxb1m10 := xb.cell 1 _ rfl
  have cxb2m10 := xb.cell 2 _ rfl
  have cxc0m10 := xc.cell 0 _ rfl
  have cxc1m10 := xc.cell 1 _ rfl
  have cxc2m10 := xc.cell 2 _ rfl
  go_wp2_with fail
  clear cxa0m10 cxa1m10 cxa2m10 cxb0m10 cxb1m10 cxb2m10 cxc0m10 cxc1m10 cxc2m10
  refine (keepPile_any (N : Int) p (N : Int) p (.slice none 0 0) (.slice none 0 0) [] [] w16 (by simp) (syms_nil _ _) (syms_nil _ _)).mono ?_
  rw [decide_eq_true (⟨rfl, rfl, rfl⟩ : (N : Int) = (N : Int) ∧ p = p ∧ ([] : List (Int × Int)) = [])]
  rintro e w18 ⟨rfl, b17⟩
  replace ha := ha.next b17
  replace xa := xa.next b17
  replace xb := xb.next b17
  replace xc := xc.next b17
  replace o1 := symRow_below o1 b17 (Nat.le_refl _)
  replace bb := bb.trans (b17.mono bb.size)
  clear b17
  clear xc
  have cxa0m11 := xa.cell 0 _ rfl
  have cxa1m11 := xa.cell 1 _ rfl
  have cxa2m11 := xa.cell 2 _ rfl
  have cxb0m11 := xb.cell 0 _ rfl
  have cxb1m11 := xb.cell 1 _ rfl
  have cxb2m11 := xb.cell 2 _ rfl
  go_wp2_with fail
  clear cxa0m11 cxa1m11 cxa2m11 cxb0m11 cxb1m11 cxb2m11
  refine (Put_no (N : Int) p k u a1 c1 l hl32 HP.out w18 (syms_of_row o1)).mono ?_
  rintro e w20 ⟨rfl, b19⟩
  replace ha := ha.next b19
  replace xa := xa.next b19
  replace xb := xb.next b19
  replace o1 := symRow_below o1 b19 (Nat.le_refl _)
  replace bb := bb.trans (b19.mono bb.size)
  clear b19
  have cxa0m12 := xa.cell 0 _ rfl
  have cxa1m12 := xa.cell 1 _ rfl
  have cxa2m12 := xa.cell 2 _ rfl
  have cxb0m12 := xb.cell 0 _ rfl
  have cxb1m12 := xb.cell 1 _ rfl
  have cxb2m12 := xb.cell 2 _ rfl
  have b21 : Below w20.heap.size w20 (w20.alloc (.cells #[.int .i64 0, .int .i64 0, .slice none 0 0] 24)) := (Below.refl _ _).alloc (Nat.le_refl _) _
  have xd := Box.new w20 24 #[.int .i64 0, .int .i64 0, .slice none 0 0]
  replace ha := ha.next b21
  replace xa := xa.next b21
  replace xb := xb.next b21
  replace o1 := symRow_below o1 b21 (Nat.le_refl _)
  replace bb := bb.trans (b21.mono bb.size)
  clear b21
  have cxa0m13 := xa.cell 0 _ rfl
  have cxa1m13 := xa.cell 1 _ rfl
  have cxa2m13 := xa.cell 2 _ rfl
  have cxb0m13 := xb.cell 0 _ rfl
  have cxb1m13 := xb.cell 1 _ rfl
  have cxb2m13 := xb.cell 2 _ rfl
  have cxd0m13 := xd.cell 0 _ rfl
  have cxd1m13 := xd.cell 1 _ rfl
  have cxd2m13 := xd.cell 2 _ rfl
  go_wp2_with fail
  clear cxa0m12 cxa1m12 cxa2m12 cxb0m12 cxb1m12 cxb2m12 cxa0m13 cxa1m13 cxa2m13 cxb0m13 cxb1m13 cxb2m13 cxd0m13 cxd1m13 cxd2m13
  obtain ⟨w22, hw22⟩ : ∃ W, (w20.alloc (.cells #[.int .i64 0, .int .i64 0, .slice none 0 0] 24)) = W := ⟨_, rfl⟩
  rw [hw22] at ha xa xb xd o1 bb ⊢
  clear hw22
  refine (PileOf_no (N : Int) p s a1 c1 l hl32 HP.out w22 (syms_of_row o1)).mono ?_
  rintro e w24 ⟨rfl, b23⟩
  replace ha := ha.next b23
  replace xa := xa.next b23
  replace xb := xb.next b23
  replace xd := xd.next b23
  replace o1 := symRow_below o1 b23 (Nat.le_refl _)
  replace bb := bb.trans (b23.mono bb.size)
  clear b23
  have cxa0m14 := xa.cell 0 _ rfl
  have cxa1m14 := xa.cell 1 _ rfl
  have cxa2m14 := xa.cell 2 _ rfl
  have cxb0m14 := xb.cell 0 _ rfl
  have cxb1m14 := xb.cell 1 _ rfl
  have cxb2m14 := xb.cell 2 _ rfl
  have cxd0m14 := xd.cell 0 _ rfl
  have cxd1m14 := xd.cell 1 _ rfl
  have cxd2m14 := xd.cell 2 _ rfl
  go_wp2_with fail
  clear cxa0m14 cxa1m14 cxa2m14 cxb0m14 cxb1m14 cxb2m14 cxd0m14 cxd1m14 cxd2m14
  refine (keepPile_any (N : Int) p (N : Int) p _ _ l l w24 hl62 (syms_of_row o1) ha).mono ?_
  rw [decide_eq_true (⟨rfl, rfl, rfl⟩ : (N : Int) = (N : Int) ∧ p = p ∧ l = l)]
  rintro e w26 ⟨rfl, b25⟩
  replace ha := ha.next b25
  replace xa := xa.next b25
  replace xb := xb.next b25
  replace xd := xd.next b25
  replace o1 := symRow_below o1 b25 (Nat.le_refl _)
  replace bb := bb.trans (b25.mono bb.size)
  clear b25
  have cxa0m15 := xa.cell 0 _ rfl
  have cxa1m15 := xa.cell 1 _ rfl
  have cxa2m15 := xa.cell 2 _ rfl
  have cxb0m15 := xb.cell 0 _ rfl
  have cxb1m15 := xb.cell 1 _ rfl
  have cxb2m15 := xb.cell 2 _ rfl
  have cxd0m15 := xd.cell 0 _ rfl
  have cxd1m15 := xd.cell 1 _ rfl
  have cxd2m15 := xd.cell 2 _ rfl
  go_wp2_with fail
  clear cxa0m15 cxa1m15 cxa2m15 cxb0m15 cxb1m15 cxb2m15 cxd0m15 cxd1m15 cxd2m15
  refine (keepPile_any 0 0 0 0 (.slice none 0 0) (.slice none 0 0) [] [] w26 (by simp) (syms_nil _ _) (syms_nil _ _)).mono ?_
  rw [decide_eq_true (⟨rfl, rfl, rfl⟩ : (0 : Int) = 0 ∧ (0 : Int) = 0 ∧ ([] : List (Int × Int)) = [])]
  rintro e w28 ⟨rfl, b27⟩
  replace ha := ha.next b27
  replace xa := xa.next b27
  replace xb := xb.next b27
  replace xd := xd.next b27
  replace o1 := symRow_below o1 b27 (Nat.le_refl _)
  replace bb := bb.trans (b27.mono bb.size)
  clear b27
  have cxa0m16 := xa.cell 0 _ rfl
  have cxa1m16 := xa.cell 1 _ rfl
  have cxa2m16 := xa.cell 2 _ rfl
  have cxb0m16 := xb.cell 0 _ rfl
  have cxb1m16 := xb.cell 1 _ rfl
  have cxb2m16 := xb.cell 2 _ rfl
  have cxd0m16 := xd.cell 0 _ rfl
  have cxd1m16 := xd.cell 1 _ rfl
  have cxd2m16 := xd.cell 2 _ rfl
  go_wp2_with fail
  clear cxa0m16 cxa1m16 cxa2m16 cxb0m16 cxb1m16 cxb2m16 cxd0m16 cxd1m16 cxd2m16
  refine (pileWakes_any w28).mono ?_
  rintro e w30 ⟨rfl, b29⟩
  replace ha := ha.next b29
  replace xa := xa.next b29
  replace xb := xb.next b29
  replace xd := xd.next b29
  replace o1 := symRow_below o1 b29 (Nat.le_refl _)
  replace bb := bb.trans (b29.mono bb.size)
  clear b29
  have cxa0m17 := xa.cell 0 _ rfl
  have cxa1m17 := xa.cell 1 _ rfl
  have cxa2m17 := xa.cell 2 _ rfl
  have cxb0m17 := xb.cell 0 _ rfl
  have cxb1m17 := xb.cell 1 _ rfl
  have cxb2m17 := xb.cell 2 _ rfl
  have cxd0m17 := xd.cell 0 _ rfl
  have cxd1m17 := xd.cell 1 _ rfl
  have cxd2m17 := xd.cell 2 _ rfl
  go_wp2
  clear cxa0m17 cxa1m17 cxa2m17 cxb0m17 cxb1m17 cxb2m17 cxd0m17 cxd1m17 cxd2m17
  go_ret
  exact ⟨rfl, bb⟩

set_option maxRecDepth 100000 in
set_option maxHeartbeats 4000000 in
theorem pileExact_noneN (n p k u s : Int) (a : Option Addr) (cap : Nat) (l : List (Int × Int)) (hl : l.length ≤ 2000) (hbad : n < 1 ∨ 64 < n) (w : World) (ha : Syms w.heap.size w (.slice a l.length cap) l) :
    Calls Tryd.prog 3 #[.agg #[.int .i64 n, .int .i64 p, .slice a l.length cap], .int .i64 k, .int .i64 u, .int .i64 s] w fun e w' => e = .returned (.bool true) ∧ Below w.heap.size w w' := by
  have hl32 : l.length ≤ 4294967296 := by omega
  have hl62 : l.length ≤ 4611686018427387904 := by omega
  have HH : Hid (¬ HeadOk n p) := fun h => by obtain ⟨g1, g2, g3, g4⟩ := h; omega
  have HP : Hid (¬ PileOk n p l) := fun h => HH.out h.1
  have bb := Below.refl w.heap.size w
  have b1 : Below w.heap.size w (w.alloc (.cells #[.int .i64 n, .int .i64 p, .slice a l.length cap] 24)) := (Below.refl _ _).alloc (Nat.le_refl _) _
  have xa := Box.new w 24 #[.int .i64 n, .int .i64 p, .slice a l.length cap]
  replace ha := ha.next b1
  replace bb := bb.trans (b1.mono bb.size)
  clear b1
  go_enter Tryd.func3, Tryd.ntmps3
  have cxa0m2 := xa.cell 0 _ rfl
  have cxa1m2 := xa.cell 1 _ rfl
  have cxa2m2 := xa.cell 2 _ rfl
  go_wp2_with fail
  clear cxa0m2 cxa1m2 cxa2m2
  obtain ⟨w2, hw2⟩ : ∃ W, (w.alloc (.cells #[.int .i64 n, .int .i64 p, .slice a l.length cap] 24)) = W := ⟨_, rfl⟩
  rw [hw2] at ha xa bb ⊢
  clear hw2
  refine (twinPile_any n p (.slice a l.length cap) l hl32 w2 ha).mono ?_
  rintro e w4 ⟨r1, rfl, o1, b3⟩
  replace ha := ha.next b3
  replace xa := xa.next b3
  replace bb := bb.trans (b3.mono bb.size)
  clear b3
  obtain ⟨a1, c1, rfl⟩ := (syms_of_row o1).shape
  have cxa0m3 := xa.cell 0 _ rfl
  have cxa1m3 := xa.cell 1 _ rfl
  have cxa2m3 := xa.cell 2 _ rfl
  have b5 : Below w4.heap.size w4 (w4.alloc (.cells #[.int .i64 n, .int .i64 p, .slice a1 l.length c1] 24)) := (Below.refl _ _).alloc (Nat.le_refl _) _
  have xb := Box.new w4 24 #[.int .i64 n, .int .i64 p, .slice a1 l.length c1]
  replace ha := ha.next b5
  replace xa := xa.next b5
  replace o1 := symRow_below o1 b5 (Nat.le_refl _)
  replace bb := bb.trans (b5.mono bb.size)
  clear b5
  have cxa0m4 := xa.cell 0 _ rfl
  have cxa1m4 := xa.cell 1 _ rfl
  have cxa2m4 := xa.cell 2 _ rfl
  have cxb0m4 := xb.cell 0 _ rfl
  have cxb1m4 := xb.cell 1 _ rfl
  have cxb2m4 := xb.cell 2 _ rfl
  go_wp2_with fail
  clear cxa0m3 cxa1m3 cxa2m3 cxa0m4 cxa1m4 cxa2m4 cxb0m4 cxb1m4 cxb2m4
  obtain ⟨w6, hw6⟩ : ∃ W, (w4.alloc (.cells #[.int .i64 n, .int .i64 p, .slice a1 l.length c1] 24)) = W := ⟨_, rfl⟩
  rw [hw6] at ha xa xb o1 bb ⊢
  clear hw6
  refine (refPile_no n p a cap l hl32 HP.out w6 ha).mono ?_
  rintro e w8 ⟨rfl, b7⟩
  replace ha := ha.next b7
  replace xa := xa.next b7
  replace xb := xb.next b7
  replace o1 := symRow_below o1 b7 (Nat.le_refl _)
  replace bb := bb.trans (b7.mono bb.size)
  clear b7
  have cxa0m5 := xa.cell 0 _ rfl
  have cxa1m5 := xa.cell 1 _ rfl
  have cxa2m5 := xa.cell 2 _ rfl
  have cxb0m5 := xb.cell 0 _ rfl
  have cxb1m5 := xb.cell 1 _ rfl
  have cxb2m5 := xb.cell 2 _ rfl
  go_wp2_with fail
  clear cxa0m5 cxa1m5 cxa2m5 cxb0m5 cxb1m5 cxb2m5
  refine (Check_no n p a1 c1 l hl32 HP.out w8 (syms_of_row o1)).mono ?_
  rintro e w10 ⟨rfl, b9⟩
  replace ha := ha.next b9
  replace xa := xa.next b9
  replace xb := xb.next b9
  replace o1 := symRow_below o1 b9 (Nat.le_refl _)
  replace bb := bb.trans (b9.mono bb.size)
  clear b9
  have cxa0m6 := xa.cell 0 _ rfl
  have cxa1m6 := xa.cell 1 _ rfl
  have cxa2m6 := xa.cell 2 _ rfl
  have cxb0m6 := xb.cell 0 _ rfl
  have cxb1m6 := xb.cell 1 _ rfl
  have cxb2m6 := xb.cell 2 _ rfl
  go_wp2_with fail
  clear cxa0m6 cxa1m6 cxa2m6 cxb0m6 cxb1m6 cxb2m6
  refine (Check_no n p a1 c1 l hl32 HP.out w10 (syms_of_row o1)).mono ?_
  rintro e w12 ⟨rfl, b11⟩
  replace ha := ha.next b11
  replace xa := xa.next b11
  replace xb := xb.next b11
  replace o1 := symRow_below o1 b11 (Nat.le_refl _)
  replace bb := bb.trans (b11.mono bb.size)
  clear b11
  have cxa0m7 := xa.cell 0 _ rfl
  have cxa1m7 := xa.cell 1 _ rfl
  have cxa2m7 := xa.cell 2 _ rfl
  have cxb0m7 := xb.cell 0 _ rfl
  have cxb1m7 := xb.cell 1 _ rfl
  have cxb2m7 := xb.cell 2 _ rfl
  go_wp2_with fail
  clear cxa0m7 cxa1m7 cxa2m7 cxb0m7 cxb1m7 cxb2m7
  refine (New_arg n p HH.out w12).mono ?_
  rintro e w14 ⟨rfl, b13⟩
  replace ha := ha.next b13
  replace xa := xa.next b13
  replace xb := xb.next b13
  replace o1 := symRow_below o1 b13 (Nat.le_refl _)
  replace bb := bb.trans (b13.mono bb.size)
  clear b13
  have cxa0m8 := xa.cell 0 _ rfl
  have cxa1m8 := xa.cell 1 _ rfl
  have cxa2m8 := xa.cell 2 _ rfl
  have cxb0m8 := xb.cell 0 _ rfl
  have cxb1m8 := xb.cell 1 _ rfl
  have cxb2m8 := xb.cell 2 _ rfl
  have b15 : Below w14.heap.size w14 (w14.alloc (.cells #[.int .i64 0, .int .i64 0, .slice none 0 0] 24)) := (Below.refl _ _).alloc (Nat.le_refl _) _
  have xc := Box.new w14 24 #[.int .i64 0, .int .i64 0, .slice none 0 0]
  replace ha := ha.next b15
  replace xa := xa.next b15
  replace xb := xb.next b15
  replace o1 := symRow_below o1 b15 (Nat.le_refl _)
  replace bb := bb.trans (b15.mono bb.size)
  clear b15
  have cxa0m9 := xa.cell 0 _ rfl
  have cxa1m9 := xa.cell 1 _ rfl
  have cxa2m9 := xa.cell 2 _ rfl
  have cxb0m9 := xb.cell 0 _ rfl
  have cxb1m9 := xb.cell 1 _ rfl
  have cxb2m9 := xb.cell 2 _ rfl
  have cxc0m9 := xc.cell 0 _ rfl
  have cxc1m9 := xc.cell 1 _ rfl
  have cxc2m9 := xc.cell 2 _ rfl
  go_wp2_with fail
  clear cxa0m8 cxa1m8 cxa2m8 cxb0m8 cxb1m8 cxb2m8 cxa0m9 cxa1m9 cxa2m9 cxb0m9 cxb1m9 cxb2m9 cxc0m9 cxc1m9 cxc2m9
  obtain ⟨w16, hw16⟩ : ∃ W, (w14.alloc (.cells #[.int .i64 0, .int .i64 0, .slice none 0 0] 24)) = W := ⟨_, rfl⟩
  rw [hw16] at ha xa xb xc o1 bb ⊢
  clear hw16
  refine (refN_no n hbad w16).mono ?_
  rintro e wz ⟨rfl, rfl⟩
  have cxa0m10 := xa.cell 0 _ rfl
  have cxa1m10 := xa.cell 1 _ rfl
  have cxa2m10 := xa.cell 2 _ rfl
  have cxb0m10 := xb.cell 0 _ rfl
  have cxb1m10 := xb.cell 1 _ rfl
  have cxb2m10 := xb.cell 2 _ rfl
  have cxc0m10 := xc.cell 0 _ rfl
  have cxc1m10 := xc.cell 1 _ rfl
  have cxc2m10 := xc.cell 2 _ rfl
  go_wp2_with fail
  clear cxa0m10 cxa1m10 cxa2m10 cxb0m10 cxb1m10 cxb2m10 cxc0m10 cxc1m10 cxc2m10
  refine (keepPile_any 0 0 0 0 (.slice none 0 0) (.slice none 0 0) [] [] w16 (by simp) (syms_nil _ _) (syms_nil _ _)).mono ?_
  rw [decide_eq_true (⟨rfl, rfl, rfl⟩ : (0 : Int) = 0 ∧ (0 : Int) = 0 ∧ ([] : List (Int × Int)) = [])]
  rintro e w18 ⟨rfl, b17⟩
  replace ha := ha.next b17
  replace xa := xa.next b17
  replace xb := xb.next b17
  replace xc := xc.next b17
  replace o1 := symRow_below o1 b17 (Nat.le_refl _)
  replace bb := bb.trans (b17.mono bb.size)
  clear b17
  clear xc
  have cxa0m11 := xa.cell 0 _ rfl
  have cxa1m11 := xa.cell 1 _ rfl
  have cxa2m11 := xa.cell 2 _ rfl
  have cxb0m11 := xb.cell 0 _ rfl
  have cxb1m11 := xb.cell 1 _ rfl
  have cxb2m11 := xb.cell 2 _ rfl
  go_wp2_with fail
  clear cxa0m11 cxa1m11 cxa2m11 cxb0m11 cxb1m11 cxb2m11
  refine (Put_no n p k u a1 c1 l hl32 HP.out w18 (syms_of_row o1)).mono ?_
  rintro e w20 ⟨rfl, b19⟩
  replace ha := ha.next b19
  replace xa := xa.next b19
  replace xb := xb.next b19
  replace o1 := symRow_below o1 b19 (Nat.le_refl _)
  replace bb := bb.trans (b19.mono bb.size)
  clear b19
  have cxa0m12 := xa.cell 0 _ rfl
  have cxa1m12 := xa.cell 1 _ rfl
  have cxa2m12 := xa.cell 2 _ rfl
  have cxb0m12 := xb.cell 0 _ rfl
  have cxb1m12 := xb.cell 1 _ rfl
  have cxb2m12 := xb.cell 2 _ rfl
  have b21 : Below w20.heap.size w20 (w20.alloc (.cells #[.int .i64 0, .int .i64 0, .slice none 0 0] 24)) := (Below.refl _ _).alloc (Nat.le_refl _) _
  have xd := Box.new w20 24 #[.int .i64 0, .int .i64 0, .slice none 0 0]
  replace ha := ha.next b21
  replace xa := xa.next b21
  replace xb := xb.next b21
  replace o1 := symRow_below o1 b21 (Nat.le_refl _)
  replace bb := bb.trans (b21.mono bb.size)
  clear b21
  have cxa0m13 := xa.cell 0 _ rfl
  have cxa1m13 := xa.cell 1 _ rfl
  have cxa2m13 := xa.cell 2 _ rfl
  have cxb0m13 := xb.cell 0 _ rfl
  have cxb1m13 := xb.cell 1 _ rfl
  have cxb2m13 := xb.cell 2 _ rfl
  have cxd0m13 := xd.cell 0 _ rfl
  have cxd1m13 := xd.cell 1 _ rfl
  have cxd2m13 := xd.cell 2 _ rfl
  go_wp2_with fail
  clear cxa0m12 cxa1m12 cxa2m12 cxb0m12 cxb1m12 cxb2m12 cxa0m13 cxa1m13 cxa2m13 cxb0m13 cxb1m13 cxb2m13 cxd0m13 cxd1m13 cxd2m13
  obtain ⟨w22, hw22⟩ : ∃ W, (w20.alloc (.cells #[.int .i64 0, .int .i64 0, .slice none 0 0] 24)) = W := ⟨_, rfl⟩
  rw [hw22] at ha xa xb xd o1 bb ⊢
  clear hw22
  refine (PileOf_no n p s a1 c1 l hl32 HP.out w22 (syms_of_row o1)).mono ?_
  rintro e w24 ⟨rfl, b23⟩
  replace ha := ha.next b23
  replace xa := xa.next b23
  replace xb := xb.next b23
  replace xd := xd.next b23
  replace o1 := symRow_below o1 b23 (Nat.le_refl _)
  replace bb := bb.trans (b23.mono bb.size)
  clear b23
  have cxa0m14 := xa.cell 0 _ rfl
  have cxa1m14 := xa.cell 1 _ rfl
  have cxa2m14 := xa.cell 2 _ rfl
  have cxb0m14 := xb.cell 0 _ rfl
  have cxb1m14 := xb.cell 1 _ rfl
  have cxb2m14 := xb.cell 2 _ rfl
  have cxd0m14 := xd.cell 0 _ rfl
  have cxd1m14 := xd.cell 1 _ rfl
  have cxd2m14 := xd.cell 2 _ rfl
  go_wp2_with fail
  clear cxa0m14 cxa1m14 cxa2m14 cxb0m14 cxb1m14 cxb2m14 cxd0m14 cxd1m14 cxd2m14
  refine (keepPile_any n p n p _ _ l l w24 hl62 (syms_of_row o1) ha).mono ?_
  rw [decide_eq_true (⟨rfl, rfl, rfl⟩ : n = n ∧ p = p ∧ l = l)]
  rintro e w26 ⟨rfl, b25⟩
  replace ha := ha.next b25
  replace xa := xa.next b25
  replace xb := xb.next b25
  replace xd := xd.next b25
  replace o1 := symRow_below o1 b25 (Nat.le_refl _)
  replace bb := bb.trans (b25.mono bb.size)
  clear b25
  have cxa0m15 := xa.cell 0 _ rfl
  have cxa1m15 := xa.cell 1 _ rfl
  have cxa2m15 := xa.cell 2 _ rfl
  have cxb0m15 := xb.cell 0 _ rfl
  have cxb1m15 := xb.cell 1 _ rfl
  have cxb2m15 := xb.cell 2 _ rfl
  have cxd0m15 := xd.cell 0 _ rfl
  have cxd1m15 := xd.cell 1 _ rfl
  have cxd2m15 := xd.cell 2 _ rfl
  go_wp2_with fail
  clear cxa0m15 cxa1m15 cxa2m15 cxb0m15 cxb1m15 cxb2m15 cxd0m15 cxd1m15 cxd2m15
  refine (keepPile_any 0 0 0 0 (.slice none 0 0) (.slice none 0 0) [] [] w26 (by simp) (syms_nil _ _) (syms_nil _ _)).mono ?_
  rw [decide_eq_true (⟨rfl, rfl, rfl⟩ : (0 : Int) = 0 ∧ (0 : Int) = 0 ∧ ([] : List (Int × Int)) = [])]
  rintro e w28 ⟨rfl, b27⟩
  replace ha := ha.next b27
  replace xa := xa.next b27
  replace xb := xb.next b27
  replace xd := xd.next b27
  replace o1 := symRow_below o1 b27 (Nat.le_refl _)
  replace bb := bb.trans (b27.mono bb.size)
  clear b27
  have cxa0m16 := xa.cell 0 _ rfl
  have cxa1m16 := xa.cell 1 _ rfl
  have cxa2m16 := xa.cell 2 _ rfl
  have cxb0m16 := xb.cell 0 _ rfl
  have cxb1m16 := xb.cell 1 _ rfl
  have cxb2m16 := xb.cell 2 _ rfl
  have cxd0m16 := xd.cell 0 _ rfl
  have cxd1m16 := xd.cell 1 _ rfl
  have cxd2m16 := xd.cell 2 _ rfl
  go_wp2_with fail
  clear cxa0m16 cxa1m16 cxa2m16 cxb0m16 cxb1m16 cxb2m16 cxd0m16 cxd1m16 cxd2m16
  refine (pileWakes_any w28).mono ?_
  rintro e w30 ⟨rfl, b29⟩
  replace ha := ha.next b29
  replace xa := xa.next b29
  replace xb := xb.next b29
  replace xd := xd.next b29
  replace o1 := symRow_below o1 b29 (Nat.le_refl _)
  replace bb := bb.trans (b29.mono bb.size)
  clear b29
  have cxa0m17 := xa.cell 0 _ rfl
  have cxa1m17 := xa.cell 1 _ rfl
  have cxa2m17 := xa.cell 2 _ rfl
  have cxb0m17 := xb.cell 0 _ rfl
  have cxb1m17 := xb.cell 1 _ rfl
  have cxb2m17 := xb.cell 2 _ rfl
  have cxd0m17 := xd.cell 0 _ rfl
  have cxd1m17 := xd.cell 1 _ rfl
  have cxd2m17 := xd.cell 2 _ rfl
  go_wp2
  clear cxa0m17 cxa1m17 cxa2m17 cxb0m17 cxb1m17 cxb2m17 cxd0m17 cxd1m17 cxd2m17
  go_ret
  exact ⟨rfl, bb⟩

set_option maxRecDepth 100000 in
set_option maxHeartbeats 4000000 in
theorem pileExact_noneP (N : Nat) (p k u s : Int) (a : Option Addr) (cap : Nat) (l : List (Int × Int)) (hl : l.length ≤ 2000) (h1 : 1 ≤ (N : Int)) (h2 : (N : Int) ≤ 64) (h3 : p < 1) (w : World) (ha : Syms w.heap.size w (.slice a l.length cap) l) :
    Calls Tryd.prog 3 #[.agg #[.int .i64 (N : Int), .int .i64 p, .slice a l.length cap], .int .i64 k, .int .i64 u, .int .i64 s] w fun e w' => e = .returned (.bool true) ∧ Below w.heap.size w w' := by
  have hl32 : l.length ≤ 4294967296 := by omega
  have hl62 : l.length ≤ 4611686018427387904 := by omega
  have HH : Hid (¬ HeadOk (N : Int) p) := fun h => by obtain ⟨g1, g2, g3, g4⟩ := h; omega
  have HP : Hid (¬ PileOk (N : Int) p l) := fun h => HH.out h.1
  have dp1 : decide (1 ≤ p) = false := decide_eq_false (by omega)
  have bb := Below.refl w.heap.size w
  have b1 : Below w.heap.size w (w.alloc (.cells #[.int .i64 (N : Int), .int .i64 p, .slice a l.length cap] 24)) := (Below.refl _ _).alloc (Nat.le_refl _) _
  have xa := Box.new w 24 #[.int .i64 (N : Int), .int .i64 p, .slice a l.length cap]
  replace ha := ha.next b1
  replace bb := bb.trans (b1.mono bb.size)
  clear b1
  go_enter Tryd.func3, Tryd.ntmps3
  have cxa0m2 := xa.cell 0 _ rfl
  have cxa1m2 := xa.cell 1 _ rfl
  have cxa2m2 := xa.cell 2 _ rfl
  go_wp2_with fail
  clear cxa0m2 cxa1m2 cxa2m2
  obtain ⟨w2, hw2⟩ : ∃ W, (w.alloc (.cells #[.int .i64 (N : Int), .int .i64 p, .slice a l.length cap] 24)) = W := ⟨_, rfl⟩
  rw [hw2] at ha xa bb ⊢
  clear hw2
  refine (twinPile_any (N : Int) p (.slice a l.length cap) l hl32 w2 ha).mono ?_
  rintro e w4 ⟨r1, rfl, o1, b3⟩
  replace ha := ha.next b3
  replace xa := xa.next b3
  replace bb := bb.trans (b3.mono bb.size)
  clear b3
  obtain ⟨a1, c1, rfl⟩ := (syms_of_row o1).shape
  have cxa0m3 := xa.cell 0 _ rfl
  have cxa1m3 := xa.cell 1 _ rfl
  have cxa2m3 := xa.cell 2 _ rfl
  have b5 : Below w4.heap.size w4 (w4.alloc (.cells #[.int .i64 (N : Int), .int .i64 p, .slice a1 l.length c1] 24)) := (Below.refl _ _).alloc (Nat.le_refl _) _
  have xb := Box.new w4 24 #[.int .i64 (N : Int), .int .i64 p, .slice a1 l.length c1]
  replace ha := ha.next b5
  replace xa := xa.next b5
  replace o1 := symRow_below o1 b5 (Nat.le_refl _)
  replace bb := bb.trans (b5.mono bb.size)
  clear b5
  have cxa0m4 := xa.cell 0 _ rfl
  have cxa1m4 := xa.cell 1 _ rfl
  have cxa2m4 := xa.cell 2 _ rfl
  have cxb0m4 := xb.cell 0 _ rfl
  have cxb1m4 := xb.cell 1 _ rfl
  have cxb2m4 := xb.cell 2 _ rfl
  go_wp2_with fail
  clear cxa0m3 cxa1m3 cxa2m3 cxa0m4 cxa1m4 cxa2m4 cxb0m4 cxb1m4 cxb2m4
  obtain ⟨w6, hw6⟩ : ∃ W, (w4.alloc (.cells #[.int .i64 (N : Int), .int .i64 p, .slice a1 l.length c1] 24)) = W := ⟨_, rfl⟩
  rw [hw6] at ha xa xb o1 bb ⊢
  clear hw6
  refine (refPile_no (N : Int) p a cap l hl32 HP.out w6 ha).mono ?_
  rintro e w8 ⟨rfl, b7⟩
  replace ha := ha.next b7
  replace xa := xa.next b7
  replace xb := xb.next b7
  replace o1 := symRow_below o1 b7 (Nat.le_refl _)
  replace bb := bb.trans (b7.mono bb.size)
  clear b7
  have cxa0m5 := xa.cell 0 _ rfl
  have cxa1m5 := xa.cell 1 _ rfl
  have cxa2m5 := xa.cell 2 _ rfl
  have cxb0m5 := xb.cell 0 _ rfl
  have cxb1m5 := xb.cell 1 _ rfl
  have cxb2m5 := xb.cell 2 _ rfl
  go_wp2_with fail
  clear cxa0m5 cxa1m5 cxa2m5 cxb0m5 cxb1m5 cxb2m5
  refine (Check_no (N : Int) p a1 c1 l hl32 HP.out w8 (syms_of_row o1)).mono ?_
  rintro e w10 ⟨rfl, b9⟩
  replace ha := ha.next b9
  replace xa := xa.next b9
  replace xb := xb.next b9
  replace o1 := symRow_below o1 b9 (Nat.le_refl _)
  replace bb := bb.trans (b9.mono bb.size)
  clear b9
  have cxa0m6 := xa.cell 0 _ rfl
  have cxa1m6 := xa.cell 1 _ rfl
  have cxa2m6 := xa.cell 2 _ rfl
  have cxb0m6 := xb.cell 0 _ rfl
  have cxb1m6 := xb.cell 1 _ rfl
  have cxb2m6 := xb.cell 2 _ rfl
  go_wp2_with fail
  clear cxa0m6 cxa1m6 cxa2m6 cxb0m6 cxb1m6 cxb2m6
  refine (Check_no (N : Int) p a1 c1 l hl32 HP.out w10 (syms_of_row o1)).mono ?_
  rintro e w12 ⟨rfl, b11⟩
  replace ha := ha.next b11
  replace xa := xa.next b11
  replace xb := xb.next b11
  replace o1 := symRow_below o1 b11 (Nat.le_refl _)
  replace bb := bb.trans (b11.mono bb.size)
  clear b11
  have cxa0m7 := xa.cell 0 _ rfl
  have cxa1m7 := xa.cell 1 _ rfl
  have cxa2m7 := xa.cell 2 _ rfl
  have cxb0m7 := xb.cell 0 _ rfl
  have cxb1m7 := xb.cell 1 _ rfl
  have cxb2m7 := xb.cell 2 _ rfl
  go_wp2_with fail
  clear cxa0m7 cxa1m7 cxa2m7 cxb0m7 cxb1m7 cxb2m7
  refine (New_arg (N : Int) p HH.out w12).mono ?_
  rintro e w14 ⟨rfl, b13⟩
  replace ha := ha.next b13
  replace xa := xa.next b13
  replace xb := xb.next b13
  replace o1 := symRow_below o1 b13 (Nat.le_refl _)
  replace bb := bb.trans (b13.mono bb.size)
  clear b13
  have cxa0m8 := xa.cell 0 _ rfl
  have cxa1m8 := xa.cell 1 _ rfl
  have cxa2m8 := xa.cell 2 _ rfl
  have cxb0m8 := xb.cell 0 _ rfl
  have cxb1m8 := xb.cell 1 _ rfl
  have cxb2m8 := xb.cell 2 _ rfl
  have b15 : Below w14.heap.size w14 (w14.alloc (.cells #[.int .i64 0, .int .i64 0, .slice none 0 0] 24)) := (Below.refl _ _).alloc (Nat.le_refl _) _
  have xc := Box.new w14 24 #[.int .i64 0, .int .i64 0, .slice none 0 0]
  replace ha := ha.next b15
  replace xa := xa.next b15
  replace xb := xb.next b15
  replace o1 := symRow_below o1 b15 (Nat.le_refl _)
  replace bb := bb.trans (b15.mono bb.size)
  clear b15
  have cxa0m9 := xa.cell 0 _ rfl
  have cxa1m9 := xa.cell 1 _ rfl
  have cxa2m9 := xa.cell 2 _ rfl
  have cxb0m9 := xb.cell 0 _ rfl
  have cxb1m9 := xb.cell 1 _ rfl
  have cxb2m9 := xb.cell 2 _ rfl
  have cxc0m9 := xc.cell 0 _ rfl
  have cxc1m9 := xc.cell 1 _ rfl
  have cxc2m9 := xc.cell 2 _ rfl
  go_wp2_with fail
  clear cxa0m8 cxa1m8 cxa2m8 cxb0m8 cxb1m8 cxb2m8 cxa0m9 cxa1m9 cxa2m9 cxb0m9 cxb1m9 cxb2m9 cxc0m9 cxc1m9 cxc2m9
  obtain ⟨w16, hw16⟩ : ∃ W, (w14.alloc (.cells #[.int .i64 0, .int .i64 0, .slice none 0 0] 24)) = W := ⟨_, rfl⟩
  rw [hw16] at ha xa xb xc o1 bb ⊢
  clear hw16
  refine (refN_yes N (by omega) (by omega) w16).mono ?_
  rintro e wz ⟨rfl, rfl⟩
  have cxa0m10 := xa.cell 0 _ rfl
  have cxa1m10 := xa.cell 1 _ rfl
  have cxa2m10 := xa.cell 2 _ rfl
  have cxb0m10 := xb.cell 0 _ rfl
  have cxb1m10 := xb.cell 1 _ rfl
  have cxb2m10 := xb.cell 2 _ rfl
  have cxc0m10 := xc.cell 0 _ rfl
  have cxc1m10 := xc.cell 1 _ rfl
  have cxc2m10 := xc.cell 2 _ rfl
  go_wp2_with fail
  clear cxa0m10 cxa1m10 cxa2m10 cxb0m10 cxb1m10 cxb2m10 cxc0m10 cxc1m10 cxc2m10
  refine (keepPile_any 0 0 0 0 (.slice none 0 0) (.slice none 0 0) [] [] w16 (by simp) (syms_nil _ _) (syms_nil _ _)).mono ?_
  rw [decide_eq_true (⟨rfl, rfl, rfl⟩ : (0 : Int) = 0 ∧ (0 : Int) = 0 ∧ ([] : List (Int × Int)) = [])]
  rintro e w18 ⟨rfl, b17⟩
  replace ha := ha.next b17
  replace xa := xa.next b17
  replace xb := xb.next b17
  replace xc := xc.next b17
  replace o1 := symRow_below o1 b17 (Nat.le_refl _)
  replace bb := bb.trans (b17.mono bb.size)
  clear b17
  clear xc
  have cxa0m11 := xa.cell 0 _ rfl
  have cxa1m11 := xa.cell 1 _ rfl
  have cxa2m11 := xa.cell 2 _ rfl
  have cxb0m11 := xb.cell 0 _ rfl
  have cxb1m11 := xb.cell 1 _ rfl
  have cxb2m11 := xb.cell 2 _ rfl
  go_wp2_with fail
  clear cxa0m11 cxa1m11 cxa2m11 cxb0m11 cxb1m11 cxb2m11
  refine (Put_no (N : Int) p k u a1 c1 l hl32 HP.out w18 (syms_of_row o1)).mono ?_
  rintro e w20 ⟨rfl, b19⟩
  replace ha := ha.next b19
  replace xa := xa.next b19
  replace xb := xb.next b19
  replace o1 := symRow_below o1 b19 (Nat.le_refl _)
  replace bb := bb.trans (b19.mono bb.size)
  clear b19
  have cxa0m12 := xa.cell 0 _ rfl
  have cxa1m12 := xa.cell 1 _ rfl
  have cxa2m12 := xa.cell 2 _ rfl
  have cxb0m12 := xb.cell 0 _ rfl
  have cxb1m12 := xb.cell 1 _ rfl
  have cxb2m12 := xb.cell 2 _ rfl
  have b21 : Below w20.heap.size w20 (w20.alloc (.cells #[.int .i64 0, .int .i64 0, .slice none 0 0] 24)) := (Below.refl _ _).alloc (Nat.le_refl _) _
  have xd := Box.new w20 24 #[.int .i64 0, .int .i64 0, .slice none 0 0]
  replace ha := ha.next b21
  replace xa := xa.next b21
  replace xb := xb.next b21
  replace o1 := symRow_below o1 b21 (Nat.le_refl _)
  replace bb := bb.trans (b21.mono bb.size)
  clear b21
  have cxa0m13 := xa.cell 0 _ rfl
  have cxa1m13 := xa.cell 1 _ rfl
  have cxa2m13 := xa.cell 2 _ rfl
  have cxb0m13 := xb.cell 0 _ rfl
  have cxb1m13 := xb.cell 1 _ rfl
  have cxb2m13 := xb.cell 2 _ rfl
  have cxd0m13 := xd.cell 0 _ rfl
  have cxd1m13 := xd.cell 1 _ rfl
  have cxd2m13 := xd.cell 2 _ rfl
  go_wp2_with fail
  clear cxa0m12 cxa1m12 cxa2m12 cxb0m12 cxb1m12 cxb2m12 cxa0m13 cxa1m13 cxa2m13 cxb0m13 cxb1m13 cxb2m13 cxd0m13 cxd1m13 cxd2m13
  obtain ⟨w22, hw22⟩ : ∃ W, (w20.alloc (.cells #[.int .i64 0, .int .i64 0, .slice none 0 0] 24)) = W := ⟨_, rfl⟩
  rw [hw22] at ha xa xb xd o1 bb ⊢
  clear hw22
  refine (PileOf_no (N : Int) p s a1 c1 l hl32 HP.out w22 (syms_of_row o1)).mono ?_
  rintro e w24 ⟨rfl, b23⟩
  replace ha := ha.next b23
  replace xa := xa.next b23
  replace xb := xb.next b23
  replace xd := xd.next b23
  replace o1 := symRow_below o1 b23 (Nat.le_refl _)
  replace bb := bb.trans (b23.mono bb.size)
  clear b23
  have cxa0m14 := xa.cell 0 _ rfl
  have cxa1m14 := xa.cell 1 _ rfl
  have cxa2m14 := xa.cell 2 _ rfl
  have cxb0m14 := xb.cell 0 _ rfl
  have cxb1m14 := xb.cell 1 _ rfl
  have cxb2m14 := xb.cell 2 _ rfl
  have cxd0m14 := xd.cell 0 _ rfl
  have cxd1m14 := xd.cell 1 _ rfl
  have cxd2m14 := xd.cell 2 _ rfl
  go_wp2_with fail
  clear cxa0m14 cxa1m14 cxa2m14 cxb0m14 cxb1m14 cxb2m14 cxd0m14 cxd1m14 cxd2m14
  refine (keepPile_any (N : Int) p (N : Int) p _ _ l l w24 hl62 (syms_of_row o1) ha).mono ?_
  rw [decide_eq_true (⟨rfl, rfl, rfl⟩ : (N : Int) = (N : Int) ∧ p = p ∧ l = l)]
  rintro e w26 ⟨rfl, b25⟩
  replace ha := ha.next b25
  replace xa := xa.next b25
  replace xb := xb.next b25
  replace xd := xd.next b25
  replace o1 := symRow_below o1 b25 (Nat.le_refl _)
  replace bb := bb.trans (b25.mono bb.size)
  clear b25
  have cxa0m15 := xa.cell 0 _ rfl
  have cxa1m15 := xa.cell 1 _ rfl
  have cxa2m15 := xa.cell 2 _ rfl
  have cxb0m15 := xb.cell 0 _ rfl
  have cxb1m15 := xb.cell 1 _ rfl
  have cxb2m15 := xb.cell 2 _ rfl
  have cxd0m15 := xd.cell 0 _ rfl
  have cxd1m15 := xd.cell 1 _ rfl
  have cxd2m15 := xd.cell 2 _ rfl
  go_wp2_with fail
  clear cxa0m15 cxa1m15 cxa2m15 cxb0m15 cxb1m15 cxb2m15 cxd0m15 cxd1m15 cxd2m15
  refine (keepPile_any 0 0 0 0 (.slice none 0 0) (.slice none 0 0) [] [] w26 (by simp) (syms_nil _ _) (syms_nil _ _)).mono ?_
  rw [decide_eq_true (⟨rfl, rfl, rfl⟩ : (0 : Int) = 0 ∧ (0 : Int) = 0 ∧ ([] : List (Int × Int)) = [])]
  rintro e w28 ⟨rfl, b27⟩
  replace ha := ha.next b27
  replace xa := xa.next b27
  replace xb := xb.next b27
  replace xd := xd.next b27
  replace o1 := symRow_below o1 b27 (Nat.le_refl _)
  replace bb := bb.trans (b27.mono bb.size)
  clear b27
  have cxa0m16 := xa.cell 0 _ rfl
  have cxa1m16 := xa.cell 1 _ rfl
  have cxa2m16 := xa.cell 2 _ rfl
  have cxb0m16 := xb.cell 0 _ rfl
  have cxb1m16 := xb.cell 1 _ rfl
  have cxb2m16 := xb.cell 2 _ rfl
  have cxd0m16 := xd.cell 0 _ rfl
  have cxd1m16 := xd.cell 1 _ rfl
  have cxd2m16 := xd.cell 2 _ rfl
  go_wp2_with fail
  clear cxa0m16 cxa1m16 cxa2m16 cxb0m16 cxb1m16 cxb2m16 cxd0m16 cxd1m16 cxd2m16
  refine (pileWakes_any w28).mono ?_
  rintro e w30 ⟨rfl, b29⟩
  replace ha := ha.next b29
  replace xa := xa.next b29
  replace xb := xb.next b29
  replace xd := xd.next b29
  replace o1 := symRow_below o1 b29 (Nat.le_refl _)
  replace bb := bb.trans (b29.mono bb.size)
  clear b29
  have cxa0m17 := xa.cell 0 _ rfl
  have cxa1m17 := xa.cell 1 _ rfl
  have cxa2m17 := xa.cell 2 _ rfl
  have cxb0m17 := xb.cell 0 _ rfl
  have cxb1m17 := xb.cell 1 _ rfl
  have cxb2m17 := xb.cell 2 _ rfl
  have cxd0m17 := xd.cell 0 _ rfl
  have cxd1m17 := xd.cell 1 _ rfl
  have cxd2m17 := xd.cell 2 _ rfl
  go_wp2
  clear cxa0m17 cxa1m17 cxa2m17 cxb0m17 cxb1m17 cxb2m17 cxd0m17 cxd1m17 cxd2m17
  go_ret
  exact ⟨rfl, bb⟩

set_option maxRecDepth 100000 in
set_option maxHeartbeats 4000000 in
theorem pileExact_noneQ (N : Nat) (p k u s : Int) (a : Option Addr) (cap : Nat) (l : List (Int × Int)) (hl : l.length ≤ 2000) (h1 : 1 ≤ (N : Int)) (h2 : (N : Int) ≤ 64) (h3 : 16 < p) (w : World) (ha : Syms w.heap.size w (.slice a l.length cap) l) :
    Calls Tryd.prog 3 #[.agg #[.int .i64 (N : Int), .int .i64 p, .slice a l.length cap], .int .i64 k, .int .i64 u, .int .i64 s] w fun e w' => e = .returned (.bool true) ∧ Below w.heap.size w w' := by
  have hl32 : l.length ≤ 4294967296 := by omega
  have hl62 : l.length ≤ 4611686018427387904 := by omega
  have HH : Hid (¬ HeadOk (N : Int) p) := fun h => by obtain ⟨g1, g2, g3, g4⟩ := h; omega
  have HP : Hid (¬ PileOk (N : Int) p l) := fun h => HH.out h.1
  have dp1 : decide (1 ≤ p) = true := decide_eq_true (by omega)
  have dp2 : decide (p ≤ 16) = false := decide_eq_false (by omega)
  have bb := Below.refl w.heap.size w
  have b1 : Below w.heap.size w (w.alloc (.cells #[.int .i64 (N : Int), .int .i64 p, .slice a l.length cap] 24)) := (Below.refl _ _).alloc (Nat.le_refl _) _
  have xa := Box.new w 24 #[.int .i64 (N : Int), .int .i64 p, .slice a l.length cap]
  replace ha := ha.next b1
  replace bb := bb.trans (b1.mono bb.size)
  clear b1
  go_enter Tryd.func3, Tryd.ntmps3
  have cxa0m2 := xa.cell 0 _ rfl
  have cxa1m2 := xa.cell 1 _ rfl
  have cxa2m2 := xa.cell 2 _ rfl
  go_wp2_with fail
  clear cxa0m2 cxa1m2 cxa2m2
  obtain ⟨w2, hw2⟩ : ∃ W, (w.alloc (.cells #[.int .i64 (N : Int), .int .i64 p, .slice a l.length cap] 24)) = W := ⟨_, rfl⟩
  rw [hw2] at ha xa bb ⊢
  clear hw2
  refine (twinPile_any (N : Int) p (.slice a l.length cap) l hl32 w2 ha).mono ?_
  rintro e w4 ⟨r1, rfl, o1, b3⟩
  replace ha := ha.next b3
  replace xa := xa.next b3
  replace bb := bb.trans (b3.mono bb.size)
  clear b3
  obtain ⟨a1, c1, rfl⟩ := (syms_of_row o1).shape
  have cxa0m3 := xa.cell 0 _ rfl
  have cxa1m3 := xa.cell 1 _ rfl
  have cxa2m3 := xa.cell 2 _ rfl
  have b5 : Below w4.heap.size w4 (w4.alloc (.cells #[.int .i64 (N : Int), .int .i64 p, .slice a1 l.length c1] 24)) := (Below.refl _ _).alloc (Nat.le_refl _) _
  have xb := Box.new w4 24 #[.int .i64 (N : Int), .int .i64 p, .slice a1 l.length c1]
  replace ha := ha.next b5
  replace xa := xa.next b5
  replace o1 := symRow_below o1 b5 (Nat.le_refl _)
  replace bb := bb.trans (b5.mono bb.size)
  clear b5
  have cxa0m4 := xa.cell 0 _ rfl
  have cxa1m4 := xa.cell 1 _ rfl
  have cxa2m4 := xa.cell 2 _ rfl
  have cxb0m4 := xb.cell 0 _ rfl
  have cxb1m4 := xb.cell 1 _ rfl
  have cxb2m4 := xb.cell 2 _ rfl
  go_wp2_with fail
  clear cxa0m3 cxa1m3 cxa2m3 cxa0m4 cxa1m4 cxa2m4 cxb0m4 cxb1m4 cxb2m4
  obtain ⟨w6, hw6⟩ : ∃ W, (w4.alloc (.cells #[.int .i64 (N : Int), .int .i64 p, .slice a1 l.length c1] 24)) = W := ⟨_, rfl⟩
  rw [hw6] at ha xa xb o1 bb ⊢
  clear hw6
  refine (refPile_no (N : Int) p a cap l hl32 HP.out w6 ha).mono ?_
  rintro e w8 ⟨rfl, b7⟩
  replace ha := ha.next b7
  replace xa := xa.next b7
  replace xb := xb.next b7
  replace o1 := symRow_below o1 b7 (Nat.le_refl _)
  replace bb := bb.trans (b7.mono bb.size)
  clear b7
  have cxa0m5 := xa.cell 0 _ rfl
  have cxa1m5 := xa.cell 1 _ rfl
  have cxa2m5 := xa.cell 2 _ rfl
  have cxb0m5 := xb.cell 0 _ rfl
  have cxb1m5 := xb.cell 1 _ rfl
  have cxb2m5 := xb.cell 2 _ rfl
  go_wp2_with fail
  clear cxa0m5 cxa1m5 cxa2m5 cxb0m5 cxb1m5 cxb2m5
  refine (Check_no (N : Int) p a1 c1 l hl32 HP.out w8 (syms_of_row o1)).mono ?_
  rintro e w10 ⟨rfl, b9⟩
  replace ha := ha.next b9
  replace xa := xa.next b9
  replace xb := xb.next b9
  replace o1 := symRow_below o1 b9 (Nat.le_refl _)
  replace bb := bb.trans (b9.mono bb.size)
  clear b9
  have cxa0m6 := xa.cell 0 _ rfl
  have cxa1m6 := xa.cell 1 _ rfl
  have cxa2m6 := xa.cell 2 _ rfl
  have cxb0m6 := xb.cell 0 _ rfl
  have cxb1m6 := xb.cell 1 _ rfl
  have cxb2m6 := xb.cell 2 _ rfl
  go_wp2_with fail
  clear cxa0m6 cxa1m6 cxa2m6 cxb0m6 cxb1m6 cxb2m6
  refine (Check_no (N : Int) p a1 c1 l hl32 HP.out w10 (syms_of_row o1)).mono ?_
  rintro e w12 ⟨rfl, b11⟩
  replace ha := ha.next b11
  replace xa := xa.next b11
  replace xb := xb.next b11
  replace o1 := symRow_below o1 b11 (Nat.le_refl _)
  replace bb := bb.trans (b11.mono bb.size)
  clear b11
  have cxa0m7 := xa.cell 0 _ rfl
  have cxa1m7 := xa.cell 1 _ rfl
  have cxa2m7 := xa.cell 2 _ rfl
  have cxb0m7 := xb.cell 0 _ rfl
  have cxb1m7 := xb.cell 1 _ rfl
  have cxb2m7 := xb.cell 2 _ rfl
  go_wp2_with fail
  clear cxa0m7 cxa1m7 cxa2m7 cxb0m7 cxb1m7 cxb2m7
  refine (New_arg (N : Int) p HH.out w12).mono ?_
  rintro e w14 ⟨rfl, b13⟩
  replace ha := ha.next b13
  replace xa := xa.next b13
  replace xb := xb.next b13
  replace o1 := symRow_below o1 b13 (Nat.le_refl _)
  replace bb := bb.trans (b13.mono bb.size)
  clear b13
  have cxa0m8 := xa.cell 0 _ rfl
  have cxa1m8 := xa.cell 1 _ rfl
  have cxa2m8 := xa.cell 2 _ rfl
  have cxb0m8 := xb.cell 0 _ rfl
  have cxb1m8 := xb.cell 1 _ rfl
  have cxb2m8 := xb.cell 2 _ rfl
  have b15 : Below w14.heap.size w14 (w14.alloc (.cells #[.int .i64 0, .int .i64 0, .slice none 0 0] 24)) := (Below.refl _ _).alloc (Nat.le_refl _) _
  have xc := Box.new w14 24 #[.int .i64 0, .int .i64 0, .slice none 0 0]
  replace ha := ha.next b15
  replace xa := xa.next b15
  replace xb := xb.next b15
  replace o1 := symRow_below o1 b15 (Nat.le_refl _)
  replace bb := bb.trans (b15.mono bb.size)
  clear b15
  have cxa0m9 := xa.cell 0 _ rfl
  have cxa1m9 := xa.cell 1 _ rfl
  have cxa2m9 := xa.cell 2 _ rfl
  have cxb0m9 := xb.cell 0 _ rfl
  have cxb1m9 := xb.cell 1 _ rfl
  have cxb2m9 := xb.cell 2 _ rfl
  have cxc0m9 := xc.cell 0 _ rfl
  have cxc1m9 := xc.cell 1 _ rfl
  have cxc2m9 := xc.cell 2 _ rfl
  go_wp2_with fail
  clear cxa0m8 cxa1m8 cxa2m8 cxb0m8 cxb1m8 cxb2m8 cxa0m9 cxa1m9 cxa2m9 cxb0m9 cxb1m9 cxb2m9 cxc0m9 cxc1m9 cxc2m9
  obtain ⟨w16, hw16⟩ : ∃ W, (w14.alloc (.cells #[.int .i64 0, .int .i64 0, .slice none 0 0] 24)) = W := ⟨_, rfl⟩
  rw [hw16] at ha xa xb xc o1 bb ⊢
  clear hw16
  refine (refN_yes N (by omega) (by omega) w16).mono ?_
  rintro e wz ⟨rfl, rfl⟩
  have cxa0m10 := xa.cell 0 _ rfl
  have cxa1m10 := xa.cell 1 _ rfl
  have cxa2m10 := xa.cell 2 _ rfl
  have cxb0m10 := xb.cell 0 _ rfl
  have cxb1m10 := xb.cell 1 _ rfl
  have cxb2m10 := xb.cell 2 _ rfl
  have cxc0m10 := xc.cell 0 _ rfl
  have cxc1m10 := xc.cell 1 _ rfl
  have cxc2m10 := xc.cell 2 _ rfl
  go_wp2_with fail
  clear cxa0m10 cxa1m10 cxa2m10 cxb0m10 cxb1m10 cxb2m10 cxc0m10 cxc1m10 cxc2m10
  refine (keepPile_any 0 0 0 0 (.slice none 0 0) (.slice none 0 0) [] [] w16 (by simp) (syms_nil _ _) (syms_nil _ _)).mono ?_
  rw [decide_eq_true (⟨rfl, rfl, rfl⟩ : (0 : Int) = 0 ∧ (0 : Int) = 0 ∧ ([] : List (Int × Int)) = [])]
  rintro e w18 ⟨rfl, b17⟩
  replace ha := ha.next b17
  replace xa := xa.next b17
  replace xb := xb.next b17
  replace xc := xc.next b17
  replace o1 := symRow_below o1 b17 (Nat.le_refl _)
  replace bb := bb.trans (b17.mono bb.size)
  clear b17
  clear xc
  have cxa0m11 := xa.cell 0 _ rfl
  have cxa1m11 := xa.cell 1 _ rfl
  have cxa2m11 := xa.cell 2 _ rfl
  have cxb0m11 := xb.cell 0 _ rfl
  have cxb1m11 := xb.cell 1 _ rfl
  have cxb2m11 := xb.cell 2 _ rfl
  go_wp2_with fail
  clear cxa0m11 cxa1m11 cxa2m11 cxb0m11 cxb1m11 cxb2m11
  refine (Put_no (N : Int) p k u a1 c1 l hl32 HP.out w18 (syms_of_row o1)).mono ?_
  rintro e w20 ⟨rfl, b19⟩
  replace ha := ha.next b19
  replace xa := xa.next b19
  replace xb := xb.next b19
  replace o1 := symRow_below o1 b19 (Nat.le_refl _)
  replace bb := bb.trans (b19.mono bb.size)
  clear b19
  have cxa0m12 := xa.cell 0 _ rfl
  have cxa1m12 := xa.cell 1 _ rfl
  have cxa2m12 := xa.cell 2 _ rfl
  have cxb0m12 := xb.cell 0 _ rfl
  have cxb1m12 := xb.cell 1 _ rfl
  have cxb2m12 := xb.cell 2 _ rfl
  have b21 : Below w20.heap.size w20 (w20.alloc (.cells #[.int .i64 0, .int .i64 0, .slice none 0 0] 24)) := (Below.refl _ _).alloc (Nat.le_refl _) _
  have xd := Box.new w20 24 #[.int .i64 0, .int .i64 0, .slice none 0 0]
  replace ha := ha.next b21
  replace xa := xa.next b21
  replace xb := xb.next b21
  replace o1 := symRow_below o1 b21 (Nat.le_refl _)
  replace bb := bb.trans (b21.mono bb.size)
  clear b21
  have cxa0m13 := xa.cell 0 _ rfl
  have cxa1m13 := xa.cell 1 _ rfl
  have cxa2m13 := xa.cell 2 _ rfl
  have cxb0m13 := xb.cell 0 _ rfl
  have cxb1m13 := xb.cell 1 _ rfl
  have cxb2m13 := xb.cell 2 _ rfl
  have cxd0m13 := xd.cell 0 _ rfl
  have cxd1m13 := xd.cell 1 _ rfl
  have cxd2m13 := xd.cell 2 _ rfl
  go_wp2_with fail
  clear cxa0m12 cxa1m12 cxa2m12 cxb0m12 cxb1m12 cxb2m12 cxa0m13 cxa1m13 cxa2m13 cxb0m13 cxb1m13 cxb2m13 cxd0m13 cxd1m13 cxd2m13
  obtain ⟨w22, hw22⟩ : ∃ W, (w20.alloc (.cells #[.int .i64 0, .int .i64 0, .slice none 0 0] 24)) = W := ⟨_, rfl⟩
  rw [hw22] at ha xa xb xd o1 bb ⊢
  clear hw22
  refine (PileOf_no (N : Int) p s a1 c1 l hl32 HP.out w22 (syms_of_row o1)).mono ?_
  rintro e w24 ⟨rfl, b23⟩
  replace ha := ha.next b23
  replace xa := xa.next b23
  replace xb := xb.next b23
  replace xd := xd.next b23
  replace o1 := symRow_below o1 b23 (Nat.le_refl _)
  replace bb := bb.trans (b23.mono bb.size)
  clear b23
  have cxa0m14 := xa.cell 0 _ rfl
  have cxa1m14 := xa.cell 1 _ rfl
  have cxa2m14 := xa.cell 2 _ rfl
  have cxb0m14 := xb.cell 0 _ rfl
  have cxb1m14 := xb.cell 1 _ rfl
  have cxb2m14 := xb.cell 2 _ rfl
  have cxd0m14 := xd.cell 0 _ rfl
  have cxd1m14 := xd.cell 1 _ rfl
  have cxd2m14 := xd.cell 2 _ rfl
  go_wp2_with fail
  clear cxa0m14 cxa1m14 cxa2m14 cxb0m14 cxb1m14 cxb2m14 cxd0m14 cxd1m14 cxd2m14
  refine (keepPile_any (N : Int) p (N : Int) p _ _ l l w24 hl62 (syms_of_row o1) ha).mono ?_
  rw [decide_eq_true (⟨rfl, rfl, rfl⟩ : (N : Int) = (N : Int) ∧ p = p ∧ l = l)]
  rintro e w26 ⟨rfl, b25⟩
  replace ha := ha.next b25
  replace xa := xa.next b25
  replace xb := xb.next b25
  replace xd := xd.next b25
  replace o1 := symRow_below o1 b25 (Nat.le_refl _)
  replace bb := bb.trans (b25.mono bb.size)
  clear b25
  have cxa0m15 := xa.cell 0 _ rfl
  have cxa1m15 := xa.cell 1 _ rfl
  have cxa2m15 := xa.cell 2 _ rfl
  have cxb0m15 := xb.cell 0 _ rfl
  have cxb1m15 := xb.cell 1 _ rfl
  have cxb2m15 := xb.cell 2 _ rfl
  have cxd0m15 := xd.cell 0 _ rfl
  have cxd1m15 := xd.cell 1 _ rfl
  have cxd2m15 := xd.cell 2 _ rfl
  go_wp2_with fail
  clear cxa0m15 cxa1m15 cxa2m15 cxb0m15 cxb1m15 cxb2m15 cxd0m15 cxd1m15 cxd2m15
  refine (keepPile_any 0 0 0 0 (.slice none 0 0) (.slice none 0 0) [] [] w26 (by simp) (syms_nil _ _) (syms_nil _ _)).mono ?_
  rw [decide_eq_true (⟨rfl, rfl, rfl⟩ : (0 : Int) = 0 ∧ (0 : Int) = 0 ∧ ([] : List (Int × Int)) = [])]
  rintro e w28 ⟨rfl, b27⟩
  replace ha := ha.next b27
  replace xa := xa.next b27
  replace xb := xb.next b27
  replace xd := xd.next b27
  replace o1 := symRow_below o1 b27 (Nat.le_refl _)
  replace bb := bb.trans (b27.mono bb.size)
  clear b27
  have cxa0m16 := xa.cell 0 _ rfl
  have cxa1m16 := xa.cell 1 _ rfl
  have cxa2m16 := xa.cell 2 _ rfl
  have cxb0m16 := xb.cell 0 _ rfl
  have cxb1m16 := xb.cell 1 _ rfl
  have cxb2m16 := xb.cell 2 _ rfl
  have cxd0m16 := xd.cell 0 _ rfl
  have cxd1m16 := xd.cell 1 _ rfl
  have cxd2m16 := xd.cell 2 _ rfl
  go_wp2_with fail
  clear cxa0m16 cxa1m16 cxa2m16 cxb0m16 cxb1m16 cxb2m16 cxd0m16 cxd1m16 cxd2m16
  refine (pileWakes_any w28).mono ?_
  rintro e w30 ⟨rfl, b29⟩
  replace ha := ha.next b29
  replace xa := xa.next b29
  replace xb := xb.next b29
  replace xd := xd.next b29
  replace o1 := symRow_below o1 b29 (Nat.le_refl _)
  replace bb := bb.trans (b29.mono bb.size)
  clear b29
  have cxa0m17 := xa.cell 0 _ rfl
  have cxa1m17 := xa.cell 1 _ rfl
  have cxa2m17 := xa.cell 2 _ rfl
  have cxb0m17 := xb.cell 0 _ rfl
  have cxb1m17 := xb.cell 1 _ rfl
  have cxb2m17 := xb.cell 2 _ rfl
  have cxd0m17 := xd.cell 0 _ rfl
  have cxd1m17 := xd.cell 1 _ rfl
  have cxd2m17 := xd.cell 2 _ rfl
  go_wp2
  clear cxa0m17 cxa1m17 cxa2m17 cxb0m17 cxb1m17 cxb2m17 cxd0m17 cxd1m17 cxd2m17
  go_ret
  exact ⟨rfl, bb⟩

end Go.Proofs.YtifkjglhdppocaaDoor
