/-
  PileExact: the walk, part B: whatever the pile and the numbers, the law answers true, and nothing that lay has turned. (Written by tpl_pileexact.py, a case a theorem.)
-/
import Derived.Test.YtifkjglhdppocaaDoorPileWakes
import Derived.Test.YtifkjglhdppocaaDoorPileOf
import Derived.Test.YtifkjglhdppocaaDoorRefPut
import Derived.Test.YtifkjglhdppocaaDoorRefOf
import Derived.Test.YtifkjglhdppocaaDoorSpoilSyms
namespace Go.Proofs.YtifkjglhdppocaaDoor
open Go.RowKit

set_option maxRecDepth 100000 in
set_option maxHeartbeats 4000000 in
theorem pileExact_okArgNeg (N : Nat) (p k u s : Int) (a : Option Addr) (cap : Nat) (l : List (Int × Int)) (hl : l.length ≤ 2000) (hp : PileOk (N : Int) p l) (hA : k < 0 ∨ u < 0 ∨ 255 < u) (hs : s < 0) (w : World) (ha : Syms w.heap.size w (.slice a l.length cap) l) :
    Calls Tryd.prog 3 #[.agg #[.int .i64 (N : Int), .int .i64 p, .slice a l.length cap], .int .i64 k, .int .i64 u, .int .i64 s] w fun e w' => e = .returned (.bool true) ∧ Below w.heap.size w w' := by
  have hl32 : l.length ≤ 4294967296 := by omega
  have hl62 : l.length ≤ 4611686018427387904 := by omega
  have HP : Hid (PileOk (N : Int) p l) := hp
  have HH : Hid (HeadOk (N : Int) p) := hp.1
  clear hp
  have HA : Hid (k < 0 ∨ u < 0 ∨ 255 < u) := hA
  clear hA
  have HS : Hid (s < 0 ∨ (N : Int) ≤ s) := .inl hs
  have ds : decide (s < 0) = true := decide_eq_true hs
  have dp1 : decide (1 ≤ p) = true := decide_eq_true HH.out.2.2.1
  have dp2 : decide (p ≤ 16) = true := decide_eq_true HH.out.2.2.2
  have bb := Below.refl w.heap.size w
  have b1 : Below w.heap.size w (w.alloc (.cells #[.int .i64 (N : Int), .int .i64 p, .slice a l.length cap] 24)) := (Below.refl _ _).alloc (Nat.le_refl _) _
  have xa := Box.new w 24 #[.int .i64 (N : Int), .int .i64 p, .slice a l.length cap]
  replace ha := ha.next b1
  replace bb := bb.trans (b1.mono bb.size)
  clear b1
  go_enter Tryd.func3, Tryd.ntmps3
  have cxa0m2 := xa.cell 0 _ rfl
  have cxa1m2 := xa.cell 1 _ rfl
  have cxa2m2 := xa.cell 2 _ rfl
  go_wp2_with fail
  clear cxa0m2 cxa1m2 cxa2m2
  obtain ⟨w2, hw2⟩ : ∃ W, (w.alloc (.cells #[.int .i64 (N : Int), .int .i64 p, .slice a l.length cap] 24)) = W := ⟨_, rfl⟩
  rw [hw2] at ha xa bb ⊢
  clear hw2
  refine (twinPile_any (N : Int) p (.slice a l.length cap) l hl32 w2 ha).mono ?_
  rintro e w4 ⟨r1, rfl, o1, b3⟩
  replace ha := ha.next b3
  replace xa := xa.next b3
  replace bb := bb.trans (b3.mono bb.size)
  clear b3
  obtain ⟨a1, c1, rfl⟩ := (syms_of_row o1).shape
  have cxa0m3 := xa.cell 0 _ rfl
  have cxa1m3 := xa.cell 1 _ rfl
  have cxa2m3 := xa.cell 2 _ rfl
  have b5 : Below w4.heap.size w4 (w4.alloc (.cells #[.int .i64 (N : Int), .int .i64 p, .slice a1 l.length c1] 24)) := (Below.refl _ _).alloc (Nat.le_refl _) _
  have xb := Box.new w4 24 #[.int .i64 (N : Int), .int .i64 p, .slice a1 l.length c1]
  replace ha := ha.next b5
  replace xa := xa.next b5
  replace o1 := symRow_below o1 b5 (Nat.le_refl _)
  replace bb := bb.trans (b5.mono bb.size)
  clear b5
  have cxa0m4 := xa.cell 0 _ rfl
  have cxa1m4 := xa.cell 1 _ rfl
  have cxa2m4 := xa.cell 2 _ rfl
  have cxb0m4 := xb.cell 0 _ rfl
  have cxb1m4 := xb.cell 1 _ rfl
  have cxb2m4 := xb.cell 2 _ rfl
  go_wp2_with fail
  clear cxa0m3 cxa1m3 cxa2m3 cxa0m4 cxa1m4 cxa2m4 cxb0m4 cxb1m4 cxb2m4
  obtain ⟨w6, hw6⟩ : ∃ W, (w4.alloc (.cells #[.int .i64 (N : Int), .int .i64 p, .slice a1 l.length c1] 24)) = W := ⟨_, rfl⟩
  rw [hw6] at ha xa xb o1 bb ⊢
  clear hw6
  refine (refPile_yes (N : Int) p a cap l hl32 HP.out w6 ha).mono ?_
  rintro e w8 ⟨rfl, b7⟩
  replace ha := ha.next b7
  replace xa := xa.next b7
  replace xb := xb.next b7
  replace o1 := symRow_below o1 b7 (Nat.le_refl _)
  replace bb := bb.trans (b7.mono bb.size)
  clear b7
  have cxa0m5 := xa.cell 0 _ rfl
  have cxa1m5 := xa.cell 1 _ rfl
  have cxa2m5 := xa.cell 2 _ rfl
  have cxb0m5 := xb.cell 0 _ rfl
  have cxb1m5 := xb.cell 1 _ rfl
  have cxb2m5 := xb.cell 2 _ rfl
  go_wp2_with fail
  clear cxa0m5 cxa1m5 cxa2m5 cxb0m5 cxb1m5 cxb2m5
  refine (Check_ok (N : Int) p a1 c1 l hl32 HP.out w8 (syms_of_row o1)).mono ?_
  rintro e w10 ⟨rfl, b9⟩
  replace ha := ha.next b9
  replace xa := xa.next b9
  replace xb := xb.next b9
  replace o1 := symRow_below o1 b9 (Nat.le_refl _)
  replace bb := bb.trans (b9.mono bb.size)
  clear b9
  have cxa0m6 := xa.cell 0 _ rfl
  have cxa1m6 := xa.cell 1 _ rfl
  have cxa2m6 := xa.cell 2 _ rfl
  have cxb0m6 := xb.cell 0 _ rfl
  have cxb1m6 := xb.cell 1 _ rfl
  have cxb2m6 := xb.cell 2 _ rfl
  go_wp2_with fail
  clear cxa0m6 cxa1m6 cxa2m6 cxb0m6 cxb1m6 cxb2m6
  refine (New_ok (N : Int) p HH.out w10).mono ?_
  rintro e w12 ⟨rfl, b11⟩
  replace ha := ha.next b11
  replace xa := xa.next b11
  replace xb := xb.next b11
  replace o1 := symRow_below o1 b11 (Nat.le_refl _)
  replace bb := bb.trans (b11.mono bb.size)
  clear b11
  have cxa0m7 := xa.cell 0 _ rfl
  have cxa1m7 := xa.cell 1 _ rfl
  have cxa2m7 := xa.cell 2 _ rfl
  have cxb0m7 := xb.cell 0 _ rfl
  have cxb1m7 := xb.cell 1 _ rfl
  have cxb2m7 := xb.cell 2 _ rfl
  have b13 : Below w12.heap.size w12 (w12.alloc (.cells #[.int .i64 (N : Int), .int .i64 p, .slice none 0 0] 24)) := (Below.refl _ _).alloc (Nat.le_refl _) _
  have xc := Box.new w12 24 #[.int .i64 (N : Int), .int .i64 p, .slice none 0 0]
  replace ha := ha.next b13
  replace xa := xa.next b13
  replace xb := xb.next b13
  replace o1 := symRow_below o1 b13 (Nat.le_refl _)
  replace bb := bb.trans (b13.mono bb.size)
  clear b13
  have N1 : 1 ≤ N := by have := HH.out.1; omega
  have N2 : N < 65 := by have := HH.out.2.1; omega
  have cxa0m8 := xa.cell 0 _ rfl
  have cxa1m8 := xa.cell 1 _ rfl
  have cxa2m8 := xa.cell 2 _ rfl
  have cxb0m8 := xb.cell 0 _ rfl
  have cxb1m8 := xb.cell 1 _ rfl
  have cxb2m8 := xb.cell 2 _ rfl
  have cxc0m8 := xc.cell 0 _ rfl
  have cxc1m8 := xc.cell 1 _ rfl
  have cxc2m8 := xc.cell 2 _ rfl
  go_wp2_with fail
  clear cxa0m7 cxa1m7 cxa2m7 cxb0m7 cxb1m7 cxb2m7 cxa0m8 cxa1m8 cxa2m8 cxb0m8 cxb1m8 cxb2m8 cxc0m8 cxc1m8 cxc2m8
  obtain ⟨w14, hw14⟩ : ∃ W, (w12.alloc (.cells #[.int .i64 (N : Int), .int .i64 p, .slice none 0 0] 24)) = W := ⟨_, rfl⟩
  rw [hw14] at ha xa xb xc o1 bb ⊢
  clear hw14
  refine (refN_yes N N1 N2 w14).mono ?_
  rintro e wz ⟨rfl, rfl⟩
  have cxa0m9 := xa.cell 0 _ rfl
  have cxa1m9 := xa.cell 1 _ rfl
  have cxa2m9 := xa.cell 2 _ rfl
  have cxb0m9 := xb.cell 0 _ rfl
  have cxb1m9 := xb.cell 1 _ rfl
  have cxb2m9 := xb.cell 2 _ rfl
  have cxc0m9 := xc.cell 0 _ rfl
  have cxc1m9 := xc.cell 1 _ rfl
  have cxc2m9 := xc.cell 2 _ rfl
  go_wp2_with fail
  clear cxa0m9 cxa1m9 cxa2m9 cxb0m9 cxb1m9 cxb2m9 cxc0m9 cxc1m9 cxc2m9
  refine (keepPile_any (N : Int) p (N : Int) p (.slice none 0 0) (.slice none 0 0) [] [] w14 (by simp) (syms_nil _ _) (syms_nil _ _)).mono ?_
  rw [decide_eq_true (⟨rfl, rfl, rfl⟩ : (N : Int) = (N : Int) ∧ p = p ∧ ([] : List (Int × Int)) = [])]
  rintro e w16 ⟨rfl, b15⟩
  replace ha := ha.next b15
  replace xa := xa.next b15
  replace xb := xb.next b15
  replace xc := xc.next b15
  replace o1 := symRow_below o1 b15 (Nat.le_refl _)
  replace bb := bb.trans (b15.mono bb.size)
  clear b15
  clear xc
  have cxa0m10 := xa.cell 0 _ rfl
  have cxa1m10 := xa.cell 1 _ rfl
  have cxa2m10 := xa.cell 2 _ rfl
  have cxb0m10 := xb.cell 0 _ rfl
  have cxb1m10 := xb.cell 1 _ rfl
  have cxb2m10 := xb.cell 2 _ rfl
  go_wp2_with fail
  clear cxa0m10 cxa1m10 cxa2m10 cxb0m10 cxb1m10 cxb2m10
  have haP := ha
  have o1P := o1
  have xaP := xa
  have xbP := xb
  have hwP := bb.size
  have FP := Below.refl w16.heap.size w16
  have cxa0m11 := xa.cell 0 _ rfl
  have cxa1m11 := xa.cell 1 _ rfl
  have cxa2m11 := xa.cell 2 _ rfl
  have cxb0m11 := xb.cell 0 _ rfl
  have cxb1m11 := xb.cell 1 _ rfl
  have cxb2m11 := xb.cell 2 _ rfl
  skip
  clear cxa0m11 cxa1m11 cxa2m11 cxb0m11 cxb1m11 cxb2m11
  refine (Put_arg (N : Int) p k u HA.out a1 c1 l HP.out w16 (syms_of_row o1)).mono ?_
  rintro e w18 ⟨rfl, b17⟩
  replace ha := ha.next b17
  replace xa := xa.next b17
  replace xb := xb.next b17
  replace o1 := symRow_below o1 b17 (Nat.le_refl _)
  replace bb := bb.trans (b17.mono bb.size)
  replace FP := FP.trans (b17.mono FP.size)
  clear b17
  have cxa0m12 := xa.cell 0 _ rfl
  have cxa1m12 := xa.cell 1 _ rfl
  have cxa2m12 := xa.cell 2 _ rfl
  have cxb0m12 := xb.cell 0 _ rfl
  have cxb1m12 := xb.cell 1 _ rfl
  have cxb2m12 := xb.cell 2 _ rfl
  have b19 : Below w18.heap.size w18 (w18.alloc (.cells #[.int .i64 0, .int .i64 0, .slice none 0 0] 24)) := (Below.refl _ _).alloc (Nat.le_refl _) _
  have xd := Box.new w18 24 #[.int .i64 0, .int .i64 0, .slice none 0 0]
  replace ha := ha.next b19
  replace xa := xa.next b19
  replace xb := xb.next b19
  replace o1 := symRow_below o1 b19 (Nat.le_refl _)
  replace bb := bb.trans (b19.mono bb.size)
  replace FP := FP.trans (b19.mono FP.size)
  clear b19
  have cxa0m13 := xa.cell 0 _ rfl
  have cxa1m13 := xa.cell 1 _ rfl
  have cxa2m13 := xa.cell 2 _ rfl
  have cxb0m13 := xb.cell 0 _ rfl
  have cxb1m13 := xb.cell 1 _ rfl
  have cxb2m13 := xb.cell 2 _ rfl
  have cxd0m13 := xd.cell 0 _ rfl
  have cxd1m13 := xd.cell 1 _ rfl
  have cxd2m13 := xd.cell 2 _ rfl
  go_wp2_with fail
  clear cxa0m12 cxa1m12 cxa2m12 cxb0m12 cxb1m12 cxb2m12 cxa0m13 cxa1m13 cxa2m13 cxb0m13 cxb1m13 cxb2m13 cxd0m13 cxd1m13 cxd2m13
  obtain ⟨w20, hw20⟩ : ∃ W, (w18.alloc (.cells #[.int .i64 0, .int .i64 0, .slice none 0 0] 24)) = W := ⟨_, rfl⟩
  rw [hw20] at ha xa xb xd o1 bb FP ⊢
  clear hw20
  have hPO := FP.size
  have cxa0m14 := xa.cell 0 _ rfl
  have cxa1m14 := xa.cell 1 _ rfl
  have cxa2m14 := xa.cell 2 _ rfl
  have cxb0m14 := xb.cell 0 _ rfl
  have cxb1m14 := xb.cell 1 _ rfl
  have cxb2m14 := xb.cell 2 _ rfl
  have cxd0m14 := xd.cell 0 _ rfl
  have cxd1m14 := xd.cell 1 _ rfl
  have cxd2m14 := xd.cell 2 _ rfl
  skip
  clear cxa0m14 cxa1m14 cxa2m14 cxb0m14 cxb1m14 cxb2m14 cxd0m14 cxd1m14 cxd2m14
  refine (PileOf_arg (N : Int) p s HS.out a1 c1 l HP.out w20 (syms_of_row o1)).mono ?_
  rintro e w22 ⟨rfl, b21⟩
  replace ha := ha.next b21
  replace xa := xa.next b21
  replace xb := xb.next b21
  replace xd := xd.next b21
  replace o1 := symRow_below o1 b21 (Nat.le_refl _)
  replace bb := bb.trans (b21.mono bb.size)
  replace FP := FP.trans (b21.mono FP.size)
  clear b21
  have cxa0m15 := xa.cell 0 _ rfl
  have cxa1m15 := xa.cell 1 _ rfl
  have cxa2m15 := xa.cell 2 _ rfl
  have cxb0m15 := xb.cell 0 _ rfl
  have cxb1m15 := xb.cell 1 _ rfl
  have cxb2m15 := xb.cell 2 _ rfl
  have cxd0m15 := xd.cell 0 _ rfl
  have cxd1m15 := xd.cell 1 _ rfl
  have cxd2m15 := xd.cell 2 _ rfl
  go_wp2_with fail
  clear cxa0m15 cxa1m15 cxa2m15 cxb0m15 cxb1m15 cxb2m15 cxd0m15 cxd1m15 cxd2m15
  refine (keepPile_any (N : Int) p (N : Int) p _ _ l l w22 hl62 (syms_of_row o1) ha).mono ?_
  rw [decide_eq_true (⟨rfl, rfl, rfl⟩ : (N : Int) = (N : Int) ∧ p = p ∧ l = l)]
  rintro e w24 ⟨rfl, b23⟩
  replace ha := ha.next b23
  replace xa := xa.next b23
  replace xb := xb.next b23
  replace xd := xd.next b23
  replace o1 := symRow_below o1 b23 (Nat.le_refl _)
  replace bb := bb.trans (b23.mono bb.size)
  replace FP := FP.trans (b23.mono FP.size)
  clear b23
  have cxa0m16 := xa.cell 0 _ rfl
  have cxa1m16 := xa.cell 1 _ rfl
  have cxa2m16 := xa.cell 2 _ rfl
  have cxb0m16 := xb.cell 0 _ rfl
  have cxb1m16 := xb.cell 1 _ rfl
  have cxb2m16 := xb.cell 2 _ rfl
  have cxd0m16 := xd.cell 0 _ rfl
  have cxd1m16 := xd.cell 1 _ rfl
  have cxd2m16 := xd.cell 2 _ rfl
  go_wp2_with fail
  clear cxa0m16 cxa1m16 cxa2m16 cxb0m16 cxb1m16 cxb2m16 cxd0m16 cxd1m16 cxd2m16
  refine (refPut_arg (N : Int) p k u HA.out a l.length cap w24).mono ?_
  rintro e w26 ⟨rfl, b25⟩
  replace ha := ha.next b25
  replace xa := xa.next b25
  replace xb := xb.next b25
  replace xd := xd.next b25
  replace o1 := symRow_below o1 b25 (Nat.le_refl _)
  replace bb := bb.trans (b25.mono bb.size)
  replace FP := FP.trans (b25.mono FP.size)
  clear b25
  have cxa0m17 := xa.cell 0 _ rfl
  have cxa1m17 := xa.cell 1 _ rfl
  have cxa2m17 := xa.cell 2 _ rfl
  have cxb0m17 := xb.cell 0 _ rfl
  have cxb1m17 := xb.cell 1 _ rfl
  have cxb2m17 := xb.cell 2 _ rfl
  have cxd0m17 := xd.cell 0 _ rfl
  have cxd1m17 := xd.cell 1 _ rfl
  have cxd2m17 := xd.cell 2 _ rfl
  have b27 : Below w26.heap.size w26 (w26.alloc (.cells #[.int .i64 0, .int .i64 0, .slice none 0 0] 24)) := (Below.refl _ _).alloc (Nat.le_refl _) _
  have xe := Box.new w26 24 #[.int .i64 0, .int .i64 0, .slice none 0 0]
  replace ha := ha.next b27
  replace xa := xa.next b27
  replace xb := xb.next b27
  replace xd := xd.next b27
  replace o1 := symRow_below o1 b27 (Nat.le_refl _)
  replace bb := bb.trans (b27.mono bb.size)
  replace FP := FP.trans (b27.mono FP.size)
  clear b27
  have cxa0m18 := xa.cell 0 _ rfl
  have cxa1m18 := xa.cell 1 _ rfl
  have cxa2m18 := xa.cell 2 _ rfl
  have cxb0m18 := xb.cell 0 _ rfl
  have cxb1m18 := xb.cell 1 _ rfl
  have cxb2m18 := xb.cell 2 _ rfl
  have cxd0m18 := xd.cell 0 _ rfl
  have cxd1m18 := xd.cell 1 _ rfl
  have cxd2m18 := xd.cell 2 _ rfl
  have cxe0m18 := xe.cell 0 _ rfl
  have cxe1m18 := xe.cell 1 _ rfl
  have cxe2m18 := xe.cell 2 _ rfl
  go_wp2_with fail
  clear cxa0m17 cxa1m17 cxa2m17 cxb0m17 cxb1m17 cxb2m17 cxd0m17 cxd1m17 cxd2m17 cxa0m18 cxa1m18 cxa2m18 cxb0m18 cxb1m18 cxb2m18 cxd0m18 cxd1m18 cxd2m18 cxe0m18 cxe1m18 cxe2m18
  obtain ⟨w28, hw28⟩ : ∃ W, (w26.alloc (.cells #[.int .i64 0, .int .i64 0, .slice none 0 0] 24)) = W := ⟨_, rfl⟩
  rw [hw28] at ha xa xb xd xe o1 bb FP ⊢
  clear hw28
  refine (keepPile_any 0 0 0 0 (.slice none 0 0) (.slice none 0 0) [] [] w28 (by simp) (syms_nil _ _) (syms_nil _ _)).mono ?_
  rw [decide_eq_true (⟨rfl, rfl, rfl⟩ : (0 : Int) = 0 ∧ (0 : Int) = 0 ∧ ([] : List (Int × Int)) = [])]
  rintro e w30 ⟨rfl, b29⟩
  replace ha := ha.next b29
  replace xa := xa.next b29
  replace xb := xb.next b29
  replace xd := xd.next b29
  replace xe := xe.next b29
  replace o1 := symRow_below o1 b29 (Nat.le_refl _)
  replace bb := bb.trans (b29.mono bb.size)
  replace FP := FP.trans (b29.mono FP.size)
  clear b29
  have cxa0m19 := xa.cell 0 _ rfl
  have cxa1m19 := xa.cell 1 _ rfl
  have cxa2m19 := xa.cell 2 _ rfl
  have cxb0m19 := xb.cell 0 _ rfl
  have cxb1m19 := xb.cell 1 _ rfl
  have cxb2m19 := xb.cell 2 _ rfl
  have cxd0m19 := xd.cell 0 _ rfl
  have cxd1m19 := xd.cell 1 _ rfl
  have cxd2m19 := xd.cell 2 _ rfl
  have cxe0m19 := xe.cell 0 _ rfl
  have cxe1m19 := xe.cell 1 _ rfl
  have cxe2m19 := xe.cell 2 _ rfl
  go_wp2_with fail
  clear cxa0m19 cxa1m19 cxa2m19 cxb0m19 cxb1m19 cxb2m19 cxd0m19 cxd1m19 cxd2m19 cxe0m19 cxe1m19 cxe2m19
  refine (spoilSyms_own (.slice none 0 0) 0 w30.heap.size [] (by omega) w30 (World.ownsRow_nil _ _ _ _)).mono ?_
  rintro e w32 ⟨rfl, b31, _, _⟩
  replace ha := ha.next b31
  replace xa := xa.next b31
  replace xb := xb.next b31
  replace xd := xd.next b31
  replace xe := xe.next b31
  replace o1 := symRow_below o1 b31 (Nat.le_refl _)
  replace bb := bb.trans (b31.mono bb.size)
  replace FP := FP.trans (b31.mono FP.size)
  clear b31
  clear xd xe
  have cxa0m20 := xa.cell 0 _ rfl
  have cxa1m20 := xa.cell 1 _ rfl
  have cxa2m20 := xa.cell 2 _ rfl
  have cxb0m20 := xb.cell 0 _ rfl
  have cxb1m20 := xb.cell 1 _ rfl
  have cxb2m20 := xb.cell 2 _ rfl
  go_wp2_with fail
  clear cxa0m20 cxa1m20 cxa2m20 cxb0m20 cxb1m20 cxb2m20
  refine (pileWakes_any w32).mono ?_
  rintro e w34 ⟨rfl, b33⟩
  replace ha := ha.next b33
  replace xa := xa.next b33
  replace xb := xb.next b33
  replace o1 := symRow_below o1 b33 (Nat.le_refl _)
  replace bb := bb.trans (b33.mono bb.size)
  replace FP := FP.trans (b33.mono FP.size)
  clear b33
  have cxa0m21 := xa.cell 0 _ rfl
  have cxa1m21 := xa.cell 1 _ rfl
  have cxa2m21 := xa.cell 2 _ rfl
  have cxb0m21 := xb.cell 0 _ rfl
  have cxb1m21 := xb.cell 1 _ rfl
  have cxb2m21 := xb.cell 2 _ rfl
  go_wp2
  clear cxa0m21 cxa1m21 cxa2m21 cxb0m21 cxb1m21 cxb2m21
  go_ret
  exact ⟨rfl, bb⟩

set_option maxRecDepth 100000 in
set_option maxHeartbeats 4000000 in
theorem pileExact_okArgHigh (N : Nat) (p k u s : Int) (a : Option Addr) (cap : Nat) (l : List (Int × Int)) (hl : l.length ≤ 2000) (hp : PileOk (N : Int) p l) (hA : k < 0 ∨ u < 0 ∨ 255 < u) (hs0 : 0 ≤ s) (hs : (N : Int) ≤ s) (w : World) (ha : Syms w.heap.size w (.slice a l.length cap) l) :
    Calls Tryd.prog 3 #[.agg #[.int .i64 (N : Int), .int .i64 p, .slice a l.length cap], .int .i64 k, .int .i64 u, .int .i64 s] w fun e w' => e = .returned (.bool true) ∧ Below w.heap.size w w' := by
  have hl32 : l.length ≤ 4294967296 := by omega
  have hl62 : l.length ≤ 4611686018427387904 := by omega
  have HP : Hid (PileOk (N : Int) p l) := hp
  have HH : Hid (HeadOk (N : Int) p) := hp.1
  clear hp
  have HA : Hid (k < 0 ∨ u < 0 ∨ 255 < u) := hA
  clear hA
  have HS : Hid (s < 0 ∨ (N : Int) ≤ s) := .inr hs
  have ds : decide (s < 0) = false := decide_eq_false (by omega)
  have ds2 : decide ((N : Int) ≤ s) = true := decide_eq_true hs
  have dp1 : decide (1 ≤ p) = true := decide_eq_true HH.out.2.2.1
  have dp2 : decide (p ≤ 16) = true := decide_eq_true HH.out.2.2.2
  have bb := Below.refl w.heap.size w
  have b1 : Below w.heap.size w (w.alloc (.cells #[.int .i64 (N : Int), .int .i64 p, .slice a l.length cap] 24)) := (Below.refl _ _).alloc (Nat.le_refl _) _
  have xa := Box.new w 24 #[.int .i64 (N : Int), .int .i64 p, .slice a l.length cap]
  replace ha := ha.next b1
  replace bb := bb.trans (b1.mono bb.size)
  clear b1
  go_enter Tryd.func3, Tryd.ntmps3
  have cxa0m2 := xa.cell 0 _ rfl
  have cxa1m2 := xa.cell 1 _ rfl
  have cxa2m2 := xa.cell 2 _ rfl
  go_wp2_with fail
  clear cxa0m2 cxa1m2 cxa2m2
  obtain ⟨w2, hw2⟩ : ∃ W, (w.alloc (.cells #[.int .i64 (N : Int), .int .i64 p, .slice a l.length cap] 24)) = W := ⟨_, rfl⟩
  rw [hw2] at ha xa bb ⊢
  clear hw2
  refine (twinPile_any (N : Int) p (.slice a l.length cap) l hl32 w2 ha).mono ?_
  rintro e w4 ⟨r1, rfl, o1, b3⟩
  replace ha := ha.next b3
  replace xa := xa.next b3
  replace bb := bb.trans (b3.mono bb.size)
  clear b3
  obtain ⟨a1, c1, rfl⟩ := (syms_of_row o1).shape
  have cxa0m3 := xa.cell 0 _ rfl
  have cxa1m3 := xa.cell 1 _ rfl
  have cxa2m3 := xa.cell 2 _ rfl
  have b5 : Below w4.heap.size w4 (w4.alloc (.cells #[.int .i64 (N : Int), .int .i64 p, .slice a1 l.length c1] 24)) := (Below.refl _ _).alloc (Nat.le_refl _) _
  have xb := Box.new w4 24 #[.int .i64 (N : Int), .int .i64 p, .slice a1 l.length c1]
  replace ha := ha.next b5
  replace xa := xa.next b5
  replace o1 := symRow_below o1 b5 (Nat.le_refl _)
  replace bb := bb.trans (b5.mono bb.size)
  clear b5
  have cxa0m4 := xa.cell 0 _ rfl
  have cxa1m4 := xa.cell 1 _ rfl
  have cxa2m4 := xa.cell 2 _ rfl
  have cxb0m4 := xb.cell 0 _ rfl
  have cxb1m4 := xb.cell 1 _ rfl
  have cxb2m4 := xb.cell 2 _ rfl
  go_wp2_with fail
  clear cxa0m3 cxa1m3 cxa2m3 cxa0m4 cxa1m4 cxa2m4 cxb0m4 cxb1m4 cxb2m4
  obtain ⟨w6, hw6⟩ : ∃ W, (w4.alloc (.cells #[.int .i64 (N : Int), .int .i64 p, .slice a1 l.length c1] 24)) = W := ⟨_, rfl⟩
  rw [hw6] at ha xa xb o1 bb ⊢
  clear hw6
  refine (refPile_yes (N : Int) p a cap l hl32 HP.out w6 ha).mono ?_
  rintro e w8 ⟨rfl, b7⟩
  replace ha := ha.next b7
  replace xa := xa.next b7
  replace xb := xb.next b7
  replace o1 := symRow_below o1 b7 (Nat.le_refl _)
  replace bb := bb.trans (b7.mono bb.size)
  clear b7
  have cxa0m5 := xa.cell 0 _ rfl
  have cxa1m5 := xa.cell 1 _ rfl
  have cxa2m5 := xa.cell 2 _ rfl
  have cxb0m5 := xb.cell 0 _ rfl
  have cxb1m5 := xb.cell 1 _ rfl
  have cxb2m5 := xb.cell 2 _ rfl
  go_wp2_with fail
  clear cxa0m5 cxa1m5 cxa2m5 cxb0m5 cxb1m5 cxb2m5
  refine (Check_ok (N : Int) p a1 c1 l hl32 HP.out w8 (syms_of_row o1)).mono ?_
  rintro e w10 ⟨rfl, b9⟩
  replace ha := ha.next b9
  replace xa := xa.next b9
  replace xb := xb.next b9
  replace o1 := symRow_below o1 b9 (Nat.le_refl _)
  replace bb := bb.trans (b9.mono bb.size)
  clear b9
  have cxa0m6 := xa.cell 0 _ rfl
  have cxa1m6 := xa.cell 1 _ rfl
  have cxa2m6 := xa.cell 2 _ rfl
  have cxb0m6 := xb.cell 0 _ rfl
  have cxb1m6 := xb.cell 1 _ rfl
  have cxb2m6 := xb.cell 2 _ rfl
  go_wp2_with fail
  clear cxa0m6 cxa1m6 cxa2m6 cxb0m6 cxb1m6 cxb2m6
  refine (New_ok (N : Int) p HH.out w10).mono ?_
  rintro e w12 ⟨rfl, b11⟩
  replace ha := ha.next b11
  replace xa := xa.next b11
  replace xb := xb.next b11
  replace o1 := symRow_below o1 b11 (Nat.le_refl _)
  replace bb := bb.trans (b11.mono bb.size)
  clear b11
  have cxa0m7 := xa.cell 0 _ rfl
  have cxa1m7 := xa.cell 1 _ rfl
  have cxa2m7 := xa.cell 2 _ rfl
  have cxb0m7 := xb.cell 0 _ rfl
  have cxb1m7 := xb.cell 1 _ rfl
  have cxb2m7 := xb.cell 2 _ rfl
  have b13 : Below w12.heap.size w12 (w12.alloc (.cells #[.int .i64 (N : Int), .int .i64 p, .slice none 0 0] 24)) := (Below.refl _ _).alloc (Nat.le_refl _) _
  have xc := Box.new w12 24 #[.int .i64 (N : Int), .int .i64 p, .slice none 0 0]
  replace ha := ha.next b13
  replace xa := xa.next b13
  replace xb := xb.next b13
  replace o1 := symRow_below o1 b13 (Nat.le_refl _)
  replace bb := bb.trans (b13.mono bb.size)
  clear b13
  have N1 : 1 ≤ N := by have := HH.out.1; omega
  have N2 : N < 65 := by have := HH.out.2.1; omega
  have cxa0m8 := xa.cell 0 _ rfl
  have cxa1m8 := xa.cell 1 _ rfl
  have cxa2m8 := xa.cell 2 _ rfl
  have cxb0m8 := xb.cell 0 _ rfl
  have cxb1m8 := xb.cell 1 _ rfl
  have cxb2m8 := xb.cell 2 _ rfl
  have cxc0m8 := xc.cell 0 _ rfl
  have cxc1m8 := xc.cell 1 _ rfl
  have cxc2m8 := xc.cell 2 _ rfl
  go_wp2_with fail
  clear cxa0m7 cxa1m7 cxa2m7 cxb0m7 cxb1m7 cxb2m7 cxa0m8 cxa1m8 cxa2m8 cxb0m8 cxb1m8 cxb2m8 cxc0m8 cxc1m8 cxc2m8
  obtain ⟨w14, hw14⟩ : ∃ W, (w12.alloc (.cells #[.int .i64 (N : Int), .int .i64 p, .slice none 0 0] 24)) = W := ⟨_, rfl⟩
  rw [hw14] at ha xa xb xc o1 bb ⊢
  clear hw14
  refine (refN_yes N N1 N2 w14).mono ?_
  rintro e wz ⟨rfl, rfl⟩
  have cxa0m9 := xa.cell 0 _ rfl
  have cxa1m9 := xa.cell 1 _ rfl
  have cxa2m9 := xa.cell 2 _ rfl
  have cxb0m9 := xb.cell 0 _ rfl
  have cxb1m9 := xb.cell 1 _ rfl
  have cxb2m9 := xb.cell 2 _ rfl
  have cxc0m9 := xc.cell 0 _ rfl
  have cxc1m9 := xc.cell 1 _ rfl
  have cxc2m9 := xc.cell 2 _ rfl
  go_wp2_with fail
  clear cxa0m9 cxa1m9 cxa2m9 cxb0m9 cxb1m9 cxb2m9 cxc0m9 cxc1m9 cxc2m9
  refine (keepPile_any (N : Int) p (N : Int) p (.slice none 0 0) (.slice none 0 0) [] [] w14 (by simp) (syms_nil _ _) (syms_nil _ _)).mono ?_
  rw [decide_eq_true (⟨rfl, rfl, rfl⟩ : (N : Int) = (N : Int) ∧ p = p ∧ ([] : List (Int × Int)) = [])]
  rintro e w16 ⟨rfl, b15⟩
  replace ha := ha.next b15
  replace xa := xa.next b15
  replace xb := xb.next b15
  replace xc := xc.next b15
  replace o1 := symRow_below o1 b15 (Nat.le_refl _)
  replace bb := bb.trans (b15.mono bb.size)
  clear b15
  clear xc
  have cxa0m10 := xa.cell 0 _ rfl
  have cxa1m10 := xa.cell 1 _ rfl
  have cxa2m10 := xa.cell 2 _ rfl
  have cxb0m10 := xb.cell 0 _ rfl
  have cxb1m10 := xb.cell 1 _ rfl
  have cxb2m10 := xb.cell 2 _ rfl
  go_wp2_with fail
  clear cxa0m10 cxa1m10 cxa2m10 cxb0m10 cxb1m10 cxb2m10
  have haP := ha
  have o1P := o1
  have xaP := xa
  have xbP := xb
  have hwP := bb.size
  have FP := Below.refl w16.heap.size w16
  have cxa0m11 := xa.cell 0 _ rfl
  have cxa1m11 := xa.cell 1 _ rfl
  have cxa2m11 := xa.cell 2 _ rfl
  have cxb0m11 := xb.cell 0 _ rfl
  have cxb1m11 := xb.cell 1 _ rfl
  have cxb2m11 := xb.cell 2 _ rfl
  skip
  clear cxa0m11 cxa1m11 cxa2m11 cxb0m11 cxb1m11 cxb2m11
  refine (Put_arg (N : Int) p k u HA.out a1 c1 l HP.out w16 (syms_of_row o1)).mono ?_
  rintro e w18 ⟨rfl, b17⟩
  replace ha := ha.next b17
  replace xa := xa.next b17
  replace xb := xb.next b17
  replace o1 := symRow_below o1 b17 (Nat.le_refl _)
  replace bb := bb.trans (b17.mono bb.size)
  replace FP := FP.trans (b17.mono FP.size)
  clear b17
  have cxa0m12 := xa.cell 0 _ rfl
  have cxa1m12 := xa.cell 1 _ rfl
  have cxa2m12 := xa.cell 2 _ rfl
  have cxb0m12 := xb.cell 0 _ rfl
  have cxb1m12 := xb.cell 1 _ rfl
  have cxb2m12 := xb.cell 2 _ rfl
  have b19 : Below w18.heap.size w18 (w18.alloc (.cells #[.int .i64 0, .int .i64 0, .slice none 0 0] 24)) := (Below.refl _ _).alloc (Nat.le_refl _) _
  have xd := Box.new w18 24 #[.int .i64 0, .int .i64 0, .slice none 0 0]
  replace ha := ha.next b19
  replace xa := xa.next b19
  replace xb := xb.next b19
  replace o1 := symRow_below o1 b19 (Nat.le_refl _)
  replace bb := bb.trans (b19.mono bb.size)
  replace FP := FP.trans (b19.mono FP.size)
  clear b19
  have cxa0m13 := xa.cell 0 _ rfl
  have cxa1m13 := xa.cell 1 _ rfl
  have cxa2m13 := xa.cell 2 _ rfl
  have cxb0m13 := xb.cell 0 _ rfl
  have cxb1m13 := xb.cell 1 _ rfl
  have cxb2m13 := xb.cell 2 _ rfl
  have cxd0m13 := xd.cell 0 _ rfl
  have cxd1m13 := xd.cell 1 _ rfl
  have cxd2m13 := xd.cell 2 _ rfl
  go_wp2_with fail
  clear cxa0m12 cxa1m12 cxa2m12 cxb0m12 cxb1m12 cxb2m12 cxa0m13 cxa1m13 cxa2m13 cxb0m13 cxb1m13 cxb2m13 cxd0m13 cxd1m13 cxd2m13
  obtain ⟨w20, hw20⟩ : ∃ W, (w18.alloc (.cells #[.int .i64 0, .int .i64 0, .slice none 0 0] 24)) = W := ⟨_, rfl⟩
  rw [hw20] at ha xa xb xd o1 bb FP ⊢
  clear hw20
  have hPO := FP.size
  have cxa0m14 := xa.cell 0 _ rfl
  have cxa1m14 := xa.cell 1 _ rfl
  have cxa2m14 := xa.cell 2 _ rfl
  have cxb0m14 := xb.cell 0 _ rfl
  have cxb1m14 := xb.cell 1 _ rfl
  have cxb2m14 := xb.cell 2 _ rfl
  have cxd0m14 := xd.cell 0 _ rfl
  have cxd1m14 := xd.cell 1 _ rfl
  have cxd2m14 := xd.cell 2 _ rfl
  skip
  clear cxa0m14 cxa1m14 cxa2m14 cxb0m14 cxb1m14 cxb2m14 cxd0m14 cxd1m14 cxd2m14
  refine (PileOf_arg (N : Int) p s HS.out a1 c1 l HP.out w20 (syms_of_row o1)).mono ?_
  rintro e w22 ⟨rfl, b21⟩
  replace ha := ha.next b21
  replace xa := xa.next b21
  replace xb := xb.next b21
  replace xd := xd.next b21
  replace o1 := symRow_below o1 b21 (Nat.le_refl _)
  replace bb := bb.trans (b21.mono bb.size)
  replace FP := FP.trans (b21.mono FP.size)
  clear b21
  have cxa0m15 := xa.cell 0 _ rfl
  have cxa1m15 := xa.cell 1 _ rfl
  have cxa2m15 := xa.cell 2 _ rfl
  have cxb0m15 := xb.cell 0 _ rfl
  have cxb1m15 := xb.cell 1 _ rfl
  have cxb2m15 := xb.cell 2 _ rfl
  have cxd0m15 := xd.cell 0 _ rfl
  have cxd1m15 := xd.cell 1 _ rfl
  have cxd2m15 := xd.cell 2 _ rfl
  go_wp2_with fail
  clear cxa0m15 cxa1m15 cxa2m15 cxb0m15 cxb1m15 cxb2m15 cxd0m15 cxd1m15 cxd2m15
  refine (keepPile_any (N : Int) p (N : Int) p _ _ l l w22 hl62 (syms_of_row o1) ha).mono ?_
  rw [decide_eq_true (⟨rfl, rfl, rfl⟩ : (N : Int) = (N : Int) ∧ p = p ∧ l = l)]
  rintro e w24 ⟨rfl, b23⟩
  replace ha := ha.next b23
  replace xa := xa.next b23
  replace xb := xb.next b23
  replace xd := xd.next b23
  replace o1 := symRow_below o1 b23 (Nat.le_refl _)
  replace bb := bb.trans (b23.mono bb.size)
  replace FP := FP.trans (b23.mono FP.size)
  clear b23
  have cxa0m16 := xa.cell 0 _ rfl
  have cxa1m16 := xa.cell 1 _ rfl
  have cxa2m16 := xa.cell 2 _ rfl
  have cxb0m16 := xb.cell 0 _ rfl
  have cxb1m16 := xb.cell 1 _ rfl
  have cxb2m16 := xb.cell 2 _ rfl
  have cxd0m16 := xd.cell 0 _ rfl
  have cxd1m16 := xd.cell 1 _ rfl
  have cxd2m16 := xd.cell 2 _ rfl
  go_wp2_with fail
  clear cxa0m16 cxa1m16 cxa2m16 cxb0m16 cxb1m16 cxb2m16 cxd0m16 cxd1m16 cxd2m16
  refine (refPut_arg (N : Int) p k u HA.out a l.length cap w24).mono ?_
  rintro e w26 ⟨rfl, b25⟩
  replace ha := ha.next b25
  replace xa := xa.next b25
  replace xb := xb.next b25
  replace xd := xd.next b25
  replace o1 := symRow_below o1 b25 (Nat.le_refl _)
  replace bb := bb.trans (b25.mono bb.size)
  replace FP := FP.trans (b25.mono FP.size)
  clear b25
  have cxa0m17 := xa.cell 0 _ rfl
  have cxa1m17 := xa.cell 1 _ rfl
  have cxa2m17 := xa.cell 2 _ rfl
  have cxb0m17 := xb.cell 0 _ rfl
  have cxb1m17 := xb.cell 1 _ rfl
  have cxb2m17 := xb.cell 2 _ rfl
  have cxd0m17 := xd.cell 0 _ rfl
  have cxd1m17 := xd.cell 1 _ rfl
  have cxd2m17 := xd.cell 2 _ rfl
  have b27 : Below w26.heap.size w26 (w26.alloc (.cells #[.int .i64 0, .int .i64 0, .slice none 0 0] 24)) := (Below.refl _ _).alloc (Nat.le_refl _) _
  have xe := Box.new w26 24 #[.int .i64 0, .int .i64 0, .slice none 0 0]
  replace ha := ha.next b27
  replace xa := xa.next b27
  replace xb := xb.next b27
  replace xd := xd.next b27
  replace o1 := symRow_below o1 b27 (Nat.le_refl _)
  replace bb := bb.trans (b27.mono bb.size)
  replace FP := FP.trans (b27.mono FP.size)
  clear b27
  have cxa0m18 := xa.cell 0 _ rfl
  have cxa1m18 := xa.cell 1 _ rfl
  have cxa2m18 := xa.cell 2 _ rfl
  have cxb0m18 := xb.cell 0 _ rfl
  have cxb1m18 := xb.cell 1 _ rfl
  have cxb2m18 := xb.cell 2 _ rfl
  have cxd0m18 := xd.cell 0 _ rfl
  have cxd1m18 := xd.cell 1 _ rfl
  have cxd2m18 := xd.cell 2 _ rfl
  have cxe0m18 := xe.cell 0 _ rfl
  have cxe1m18 := xe.cell 1 _ rfl
  have cxe2m18 := xe.cell 2 _ rfl
  go_wp2_with fail
  clear cxa0m17 cxa1m17 cxa2m17 cxb0m17 cxb1m17 cxb2m17 cxd0m17 cxd1m17 cxd2m17 cxa0m18 cxa1m18 cxa2m18 cxb0m18 cxb1m18 cxb2m18 cxd0m18 cxd1m18 cxd2m18 cxe0m18 cxe1m18 cxe2m18
  obtain ⟨w28, hw28⟩ : ∃ W, (w26.alloc (.cells #[.int .i64 0, .int .i64 0, .slice none 0 0] 24)) = W := ⟨_, rfl⟩
  rw [hw28] at ha xa xb xd xe o1 bb FP ⊢
  clear hw28
  refine (keepPile_any 0 0 0 0 (.slice none 0 0) (.slice none 0 0) [] [] w28 (by simp) (syms_nil _ _) (syms_nil _ _)).mono ?_
  rw [decide_eq_true (⟨rfl, rfl, rfl⟩ : (0 : Int) = 0 ∧ (0 : Int) = 0 ∧ ([] : List (Int × Int)) = [])]
  rintro e w30 ⟨rfl, b29⟩
  replace ha := ha.next b29
  replace xa := xa.next b29
  replace xb := xb.next b29
  replace xd := xd.next b29
  replace xe := xe.next b29
  replace o1 := symRow_below o1 b29 (Nat.le_refl _)
  replace bb := bb.trans (b29.mono bb.size)
  replace FP := FP.trans (b29.mono FP.size)
  clear b29
  have cxa0m19 := xa.cell 0 _ rfl
  have cxa1m19 := xa.cell 1 _ rfl
  have cxa2m19 := xa.cell 2 _ rfl
  have cxb0m19 := xb.cell 0 _ rfl
  have cxb1m19 := xb.cell 1 _ rfl
  have cxb2m19 := xb.cell 2 _ rfl
  have cxd0m19 := xd.cell 0 _ rfl
  have cxd1m19 := xd.cell 1 _ rfl
  have cxd2m19 := xd.cell 2 _ rfl
  have cxe0m19 := xe.cell 0 _ rfl
  have cxe1m19 := xe.cell 1 _ rfl
  have cxe2m19 := xe.cell 2 _ rfl
  go_wp2_with fail
  clear cxa0m19 cxa1m19 cxa2m19 cxb0m19 cxb1m19 cxb2m19 cxd0m19 cxd1m19 cxd2m19 cxe0m19 cxe1m19 cxe2m19
  refine (spoilSyms_own (.slice none 0 0) 0 w30.heap.size [] (by omega) w30 (World.ownsRow_nil _ _ _ _)).mono ?_
  rintro e w32 ⟨rfl, b31, _, _⟩
  replace ha := ha.next b31
  replace xa := xa.next b31
  replace xb := xb.next b31
  replace xd := xd.next b31
  replace xe := xe.next b31
  replace o1 := symRow_below o1 b31 (Nat.le_refl _)
  replace bb := bb.trans (b31.mono bb.size)
  replace FP := FP.trans (b31.mono FP.size)
  clear b31
  clear xd xe
  have cxa0m20 := xa.cell 0 _ rfl
  have cxa1m20 := xa.cell 1 _ rfl
  have cxa2m20 := xa.cell 2 _ rfl
  have cxb0m20 := xb.cell 0 _ rfl
  have cxb1m20 := xb.cell 1 _ rfl
  have cxb2m20 := xb.cell 2 _ rfl
  go_wp2_with fail
  clear cxa0m20 cxa1m20 cxa2m20 cxb0m20 cxb1m20 cxb2m20
  refine (pileWakes_any w32).mono ?_
  rintro e w34 ⟨rfl, b33⟩
  replace ha := ha.next b33
  replace xa := xa.next b33
  replace xb := xb.next b33
  replace o1 := symRow_below o1 b33 (Nat.le_refl _)
  replace bb := bb.trans (b33.mono bb.size)
  replace FP := FP.trans (b33.mono FP.size)
  clear b33
  have cxa0m21 := xa.cell 0 _ rfl
  have cxa1m21 := xa.cell 1 _ rfl
  have cxa2m21 := xa.cell 2 _ rfl
  have cxb0m21 := xb.cell 0 _ rfl
  have cxb1m21 := xb.cell 1 _ rfl
  have cxb2m21 := xb.cell 2 _ rfl
  go_wp2
  clear cxa0m21 cxa1m21 cxa2m21 cxb0m21 cxb1m21 cxb2m21
  go_ret
  exact ⟨rfl, bb⟩

set_option maxRecDepth 100000 in
set_option maxHeartbeats 4000000 in
theorem pileExact_okArgMid (N : Nat) (p k u : Int) (S : Nat) (a : Option Addr) (cap : Nat) (l : List (Int × Int)) (hl : l.length ≤ 2000) (hp : PileOk (N : Int) p l) (hA : k < 0 ∨ u < 0 ∨ 255 < u) (hS : S < N) (w : World) (ha : Syms w.heap.size w (.slice a l.length cap) l) (hF : Firsts w) :
    Calls Tryd.prog 3 #[.agg #[.int .i64 (N : Int), .int .i64 p, .slice a l.length cap], .int .i64 k, .int .i64 u, .int .i64 (S : Int)] w fun e w' => e = .returned (.bool true) ∧ Below w.heap.size w w' := by
  have hl32 : l.length ≤ 4294967296 := by omega
  have hl62 : l.length ≤ 4611686018427387904 := by omega
  have HP : Hid (PileOk (N : Int) p l) := hp
  have HH : Hid (HeadOk (N : Int) p) := hp.1
  clear hp
  have HA : Hid (k < 0 ∨ u < 0 ∨ 255 < u) := hA
  clear hA
  have ds : decide ((S : Int) < 0) = false := decide_eq_false (by omega)
  have ds2 : decide ((N : Int) ≤ (S : Int)) = false := decide_eq_false (by omega)
  obtain ⟨OL, hOL⟩ : ∃ OL, ofL N l S = OL := ⟨_, rfl⟩
  have HOL : Hid (ofL N l S = OL) := hOL
  have hol32 : OL.length ≤ 4294967296 := by have h1 := ofL_len_le N l S; rw [hOL] at h1; omega
  have hol62 : OL.length ≤ 4611686018427387904 := by omega
  clear hOL
  have dp1 : decide (1 ≤ p) = true := decide_eq_true HH.out.2.2.1
  have dp2 : decide (p ≤ 16) = true := decide_eq_true HH.out.2.2.2
  have bb := Below.refl w.heap.size w
  have b1 : Below w.heap.size w (w.alloc (.cells #[.int .i64 (N : Int), .int .i64 p, .slice a l.length cap] 24)) := (Below.refl _ _).alloc (Nat.le_refl _) _
  have xa := Box.new w 24 #[.int .i64 (N : Int), .int .i64 p, .slice a l.length cap]
  replace ha := ha.next b1
  replace hF := hF.next b1
  replace bb := bb.trans (b1.mono bb.size)
  clear b1
  go_enter Tryd.func3, Tryd.ntmps3
  have cxa0m2 := xa.cell 0 _ rfl
  have cxa1m2 := xa.cell 1 _ rfl
  have cxa2m2 := xa.cell 2 _ rfl
  go_wp2_with fail
  clear cxa0m2 cxa1m2 cxa2m2
  obtain ⟨w2, hw2⟩ : ∃ W, (w.alloc (.cells #[.int .i64 (N : Int), .int .i64 p, .slice a l.length cap] 24)) = W := ⟨_, rfl⟩
  rw [hw2] at ha hF xa bb ⊢
  clear hw2
  refine (twinPile_any (N : Int) p (.slice a l.length cap) l hl32 w2 ha).mono ?_
  rintro e w4 ⟨r1, rfl, o1, b3⟩
  replace ha := ha.next b3
  replace hF := hF.next b3
  replace xa := xa.next b3
  replace bb := bb.trans (b3.mono bb.size)
  clear b3
  obtain ⟨a1, c1, rfl⟩ := (syms_of_row o1).shape
  have cxa0m3 := xa.cell 0 _ rfl
  have cxa1m3 := xa.cell 1 _ rfl
  have cxa2m3 := xa.cell 2 _ rfl
  have b5 : Below w4.heap.size w4 (w4.alloc (.cells #[.int .i64 (N : Int), .int .i64 p, .slice a1 l.length c1] 24)) := (Below.refl _ _).alloc (Nat.le_refl _) _
  have xb := Box.new w4 24 #[.int .i64 (N : Int), .int .i64 p, .slice a1 l.length c1]
  replace ha := ha.next b5
  replace hF := hF.next b5
  replace xa := xa.next b5
  replace o1 := symRow_below o1 b5 (Nat.le_refl _)
  replace bb := bb.trans (b5.mono bb.size)
  clear b5
  have cxa0m4 := xa.cell 0 _ rfl
  have cxa1m4 := xa.cell 1 _ rfl
  have cxa2m4 := xa.cell 2 _ rfl
  have cxb0m4 := xb.cell 0 _ rfl
  have cxb1m4 := xb.cell 1 _ rfl
  have cxb2m4 := xb.cell 2 _ rfl
  go_wp2_with fail
  clear cxa0m3 cxa1m3 cxa2m3 cxa0m4 cxa1m4 cxa2m4 cxb0m4 cxb1m4 cxb2m4
  obtain ⟨w6, hw6⟩ : ∃ W, (w4.alloc (.cells #[.int .i64 (N : Int), .int .i64 p, .slice a1 l.length c1] 24)) = W := ⟨_, rfl⟩
  rw [hw6] at ha hF xa xb o1 bb ⊢
  clear hw6
  refine (refPile_yes (N : Int) p a cap l hl32 HP.out w6 ha).mono ?_
  rintro e w8 ⟨rfl, b7⟩
  replace ha := ha.next b7
  replace hF := hF.next b7
  replace xa := xa.next b7
  replace xb := xb.next b7
  replace o1 := symRow_below o1 b7 (Nat.le_refl _)
  replace bb := bb.trans (b7.mono bb.size)
  clear b7
  have cxa0m5 := xa.cell 0 _ rfl
  have cxa1m5 := xa.cell 1 _ rfl
  have cxa2m5 := xa.cell 2 _ rfl
  have cxb0m5 := xb.cell 0 _ rfl
  have cxb1m5 := xb.cell 1 _ rfl
  have cxb2m5 := xb.cell 2 _ rfl
  go_wp2_with fail
  clear cxa0m5 cxa1m5 cxa2m5 cxb0m5 cxb1m5 cxb2m5
  refine (Check_ok (N : Int) p a1 c1 l hl32 HP.out w8 (syms_of_row o1)).mono ?_
  rintro e w10 ⟨rfl, b9⟩
  replace ha := ha.next b9
  replace hF := hF.next b9
  replace xa := xa.next b9
  replace xb := xb.next b9
  replace o1 := symRow_below o1 b9 (Nat.le_refl _)
  replace bb := bb.trans (b9.mono bb.size)
  clear b9
  have cxa0m6 := xa.cell 0 _ rfl
  have cxa1m6 := xa.cell 1 _ rfl
  have cxa2m6 := xa.cell 2 _ rfl
  have cxb0m6 := xb.cell 0 _ rfl
  have cxb1m6 := xb.cell 1 _ rfl
  have cxb2m6 := xb.cell 2 _ rfl
  go_wp2_with fail
  clear cxa0m6 cxa1m6 cxa2m6 cxb0m6 cxb1m6 cxb2m6
  refine (New_ok (N : Int) p HH.out w10).mono ?_
  rintro e w12 ⟨rfl, b11⟩
  replace ha := ha.next b11
  replace hF := hF.next b11
  replace xa := xa.next b11
  replace xb := xb.next b11
  replace o1 := symRow_below o1 b11 (Nat.le_refl _)
  replace bb := bb.trans (b11.mono bb.size)
  clear b11
  have cxa0m7 := xa.cell 0 _ rfl
  have cxa1m7 := xa.cell 1 _ rfl
  have cxa2m7 := xa.cell 2 _ rfl
  have cxb0m7 := xb.cell 0 _ rfl
  have cxb1m7 := xb.cell 1 _ rfl
  have cxb2m7 := xb.cell 2 _ rfl
  have b13 : Below w12.heap.size w12 (w12.alloc (.cells #[.int .i64 (N : Int), .int .i64 p, .slice none 0 0] 24)) := (Below.refl _ _).alloc (Nat.le_refl _) _
  have xc := Box.new w12 24 #[.int .i64 (N : Int), .int .i64 p, .slice none 0 0]
  replace ha := ha.next b13
  replace hF := hF.next b13
  replace xa := xa.next b13
  replace xb := xb.next b13
  replace o1 := symRow_below o1 b13 (Nat.le_refl _)
  replace bb := bb.trans (b13.mono bb.size)
  clear b13
  have N1 : 1 ≤ N := by have := HH.out.1; omega
  have N2 : N < 65 := by have := HH.out.2.1; omega
  have cxa0m8 := xa.cell 0 _ rfl
  have cxa1m8 := xa.cell 1 _ rfl
  have cxa2m8 := xa.cell 2 _ rfl
  have cxb0m8 := xb.cell 0 _ rfl
  have cxb1m8 := xb.cell 1 _ rfl
  have cxb2m8 := xb.cell 2 _ rfl
  have cxc0m8 := xc.cell 0 _ rfl
  have cxc1m8 := xc.cell 1 _ rfl
  have cxc2m8 := xc.cell 2 _ rfl
  go_wp2_with fail
  clear cxa0m7 cxa1m7 cxa2m7 cxb0m7 cxb1m7 cxb2m7 cxa0m8 cxa1m8 cxa2m8 cxb0m8 cxb1m8 cxb2m8 cxc0m8 cxc1m8 cxc2m8
  obtain ⟨w14, hw14⟩ : ∃ W, (w12.alloc (.cells #[.int .i64 (N : Int), .int .i64 p, .slice none 0 0] 24)) = W := ⟨_, rfl⟩
  rw [hw14] at ha hF xa xb xc o1 bb ⊢
  clear hw14
  refine (refN_yes N N1 N2 w14).mono ?_
  rintro e wz ⟨rfl, rfl⟩
  have cxa0m9 := xa.cell 0 _ rfl
  have cxa1m9 := xa.cell 1 _ rfl
  have cxa2m9 := xa.cell 2 _ rfl
  have cxb0m9 := xb.cell 0 _ rfl
  have cxb1m9 := xb.cell 1 _ rfl
  have cxb2m9 := xb.cell 2 _ rfl
  have cxc0m9 := xc.cell 0 _ rfl
  have cxc1m9 := xc.cell 1 _ rfl
  have cxc2m9 := xc.cell 2 _ rfl
  go_wp2_with fail
  clear cxa0m9 cxa1m9 cxa2m9 cxb0m9 cxb1m9 cxb2m9 cxc0m9 cxc1m9 cxc2m9
  refine (keepPile_any (N : Int) p (N : Int) p (.slice none 0 0) (.slice none 0 0) [] [] w14 (by simp) (syms_nil _ _) (syms_nil _ _)).mono ?_
  rw [decide_eq_true (⟨rfl, rfl, rfl⟩ : (N : Int) = (N : Int) ∧ p = p ∧ ([] : List (Int × Int)) = [])]
  rintro e w16 ⟨rfl, b15⟩
  replace ha := ha.next b15
  replace hF := hF.next b15
  replace xa := xa.next b15
  replace xb := xb.next b15
  replace xc := xc.next b15
  replace o1 := symRow_below o1 b15 (Nat.le_refl _)
  replace bb := bb.trans (b15.mono bb.size)
  clear b15
  clear xc
  have cxa0m10 := xa.cell 0 _ rfl
  have cxa1m10 := xa.cell 1 _ rfl
  have cxa2m10 := xa.cell 2 _ rfl
  have cxb0m10 := xb.cell 0 _ rfl
  have cxb1m10 := xb.cell 1 _ rfl
  have cxb2m10 := xb.cell 2 _ rfl
  go_wp2_with fail
  clear cxa0m10 cxa1m10 cxa2m10 cxb0m10 cxb1m10 cxb2m10
  have haP := ha
  have o1P := o1
  have xaP := xa
  have xbP := xb
  have hwP := bb.size
  have FP := Below.refl w16.heap.size w16
  have cxa0m11 := xa.cell 0 _ rfl
  have cxa1m11 := xa.cell 1 _ rfl
  have cxa2m11 := xa.cell 2 _ rfl
  have cxb0m11 := xb.cell 0 _ rfl
  have cxb1m11 := xb.cell 1 _ rfl
  have cxb2m11 := xb.cell 2 _ rfl
  skip
  clear cxa0m11 cxa1m11 cxa2m11 cxb0m11 cxb1m11 cxb2m11
  refine (Put_arg (N : Int) p k u HA.out a1 c1 l HP.out w16 (syms_of_row o1)).mono ?_
  rintro e w18 ⟨rfl, b17⟩
  replace ha := ha.next b17
  replace hF := hF.next b17
  replace xa := xa.next b17
  replace xb := xb.next b17
  replace o1 := symRow_below o1 b17 (Nat.le_refl _)
  replace bb := bb.trans (b17.mono bb.size)
  replace FP := FP.trans (b17.mono FP.size)
  clear b17
  have cxa0m12 := xa.cell 0 _ rfl
  have cxa1m12 := xa.cell 1 _ rfl
  have cxa2m12 := xa.cell 2 _ rfl
  have cxb0m12 := xb.cell 0 _ rfl
  have cxb1m12 := xb.cell 1 _ rfl
  have cxb2m12 := xb.cell 2 _ rfl
  have b19 : Below w18.heap.size w18 (w18.alloc (.cells #[.int .i64 0, .int .i64 0, .slice none 0 0] 24)) := (Below.refl _ _).alloc (Nat.le_refl _) _
  have xd := Box.new w18 24 #[.int .i64 0, .int .i64 0, .slice none 0 0]
  replace ha := ha.next b19
  replace hF := hF.next b19
  replace xa := xa.next b19
  replace xb := xb.next b19
  replace o1 := symRow_below o1 b19 (Nat.le_refl _)
  replace bb := bb.trans (b19.mono bb.size)
  replace FP := FP.trans (b19.mono FP.size)
  clear b19
  have cxa0m13 := xa.cell 0 _ rfl
  have cxa1m13 := xa.cell 1 _ rfl
  have cxa2m13 := xa.cell 2 _ rfl
  have cxb0m13 := xb.cell 0 _ rfl
  have cxb1m13 := xb.cell 1 _ rfl
  have cxb2m13 := xb.cell 2 _ rfl
  have cxd0m13 := xd.cell 0 _ rfl
  have cxd1m13 := xd.cell 1 _ rfl
  have cxd2m13 := xd.cell 2 _ rfl
  go_wp2_with fail
  clear cxa0m12 cxa1m12 cxa2m12 cxb0m12 cxb1m12 cxb2m12 cxa0m13 cxa1m13 cxa2m13 cxb0m13 cxb1m13 cxb2m13 cxd0m13 cxd1m13 cxd2m13
  obtain ⟨w20, hw20⟩ : ∃ W, (w18.alloc (.cells #[.int .i64 0, .int .i64 0, .slice none 0 0] 24)) = W := ⟨_, rfl⟩
  rw [hw20] at ha hF xa xb xd o1 bb FP ⊢
  clear hw20
  have hPO := FP.size
  have cxa0m14 := xa.cell 0 _ rfl
  have cxa1m14 := xa.cell 1 _ rfl
  have cxa2m14 := xa.cell 2 _ rfl
  have cxb0m14 := xb.cell 0 _ rfl
  have cxb1m14 := xb.cell 1 _ rfl
  have cxb2m14 := xb.cell 2 _ rfl
  have cxd0m14 := xd.cell 0 _ rfl
  have cxd1m14 := xd.cell 1 _ rfl
  have cxd2m14 := xd.cell 2 _ rfl
  skip
  clear cxa0m14 cxa1m14 cxa2m14 cxb0m14 cxb1m14 cxb2m14 cxd0m14 cxd1m14 cxd2m14
  refine (PileOf_in N p S hS a1 c1 l HP.out w20 (syms_of_row o1) hF).mono ?_
  rw [HOL.out]
  rintro e w22 ⟨r3, rfl, o3, b21⟩
  replace ha := ha.next b21
  replace hF := hF.next b21
  replace xa := xa.next b21
  replace xb := xb.next b21
  replace xd := xd.next b21
  replace o1 := symRow_below o1 b21 (Nat.le_refl _)
  replace bb := bb.trans (b21.mono bb.size)
  replace FP := FP.trans (b21.mono FP.size)
  clear b21
  clear hF
  obtain ⟨a3, c3, rfl⟩ := (syms_of_row o3).shape
  have cxa0m15 := xa.cell 0 _ rfl
  have cxa1m15 := xa.cell 1 _ rfl
  have cxa2m15 := xa.cell 2 _ rfl
  have cxb0m15 := xb.cell 0 _ rfl
  have cxb1m15 := xb.cell 1 _ rfl
  have cxb2m15 := xb.cell 2 _ rfl
  have cxd0m15 := xd.cell 0 _ rfl
  have cxd1m15 := xd.cell 1 _ rfl
  have cxd2m15 := xd.cell 2 _ rfl
  go_wp2_with fail
  clear cxa0m15 cxa1m15 cxa2m15 cxb0m15 cxb1m15 cxb2m15 cxd0m15 cxd1m15 cxd2m15
  refine (keepPile_any (N : Int) p (N : Int) p _ _ l l w22 hl62 (syms_of_row o1) ha).mono ?_
  rw [decide_eq_true (⟨rfl, rfl, rfl⟩ : (N : Int) = (N : Int) ∧ p = p ∧ l = l)]
  rintro e w24 ⟨rfl, b23⟩
  replace ha := ha.next b23
  replace xa := xa.next b23
  replace xb := xb.next b23
  replace xd := xd.next b23
  replace o1 := symRow_below o1 b23 (Nat.le_refl _)
  replace o3 := symRow_below o3 b23 (Nat.le_refl _)
  replace bb := bb.trans (b23.mono bb.size)
  replace FP := FP.trans (b23.mono FP.size)
  clear b23
  have cxa0m16 := xa.cell 0 _ rfl
  have cxa1m16 := xa.cell 1 _ rfl
  have cxa2m16 := xa.cell 2 _ rfl
  have cxb0m16 := xb.cell 0 _ rfl
  have cxb1m16 := xb.cell 1 _ rfl
  have cxb2m16 := xb.cell 2 _ rfl
  have cxd0m16 := xd.cell 0 _ rfl
  have cxd1m16 := xd.cell 1 _ rfl
  have cxd2m16 := xd.cell 2 _ rfl
  go_wp2_with fail
  clear cxa0m16 cxa1m16 cxa2m16 cxb0m16 cxb1m16 cxb2m16 cxd0m16 cxd1m16 cxd2m16
  refine (refPut_arg (N : Int) p k u HA.out a l.length cap w24).mono ?_
  rintro e w26 ⟨rfl, b25⟩
  replace ha := ha.next b25
  replace xa := xa.next b25
  replace xb := xb.next b25
  replace xd := xd.next b25
  replace o1 := symRow_below o1 b25 (Nat.le_refl _)
  replace o3 := symRow_below o3 b25 (Nat.le_refl _)
  replace bb := bb.trans (b25.mono bb.size)
  replace FP := FP.trans (b25.mono FP.size)
  clear b25
  have cxa0m17 := xa.cell 0 _ rfl
  have cxa1m17 := xa.cell 1 _ rfl
  have cxa2m17 := xa.cell 2 _ rfl
  have cxb0m17 := xb.cell 0 _ rfl
  have cxb1m17 := xb.cell 1 _ rfl
  have cxb2m17 := xb.cell 2 _ rfl
  have cxd0m17 := xd.cell 0 _ rfl
  have cxd1m17 := xd.cell 1 _ rfl
  have cxd2m17 := xd.cell 2 _ rfl
  have b27 : Below w26.heap.size w26 (w26.alloc (.cells #[.int .i64 0, .int .i64 0, .slice none 0 0] 24)) := (Below.refl _ _).alloc (Nat.le_refl _) _
  have xe := Box.new w26 24 #[.int .i64 0, .int .i64 0, .slice none 0 0]
  replace ha := ha.next b27
  replace xa := xa.next b27
  replace xb := xb.next b27
  replace xd := xd.next b27
  replace o1 := symRow_below o1 b27 (Nat.le_refl _)
  replace o3 := symRow_below o3 b27 (Nat.le_refl _)
  replace bb := bb.trans (b27.mono bb.size)
  replace FP := FP.trans (b27.mono FP.size)
  clear b27
  have cxa0m18 := xa.cell 0 _ rfl
  have cxa1m18 := xa.cell 1 _ rfl
  have cxa2m18 := xa.cell 2 _ rfl
  have cxb0m18 := xb.cell 0 _ rfl
  have cxb1m18 := xb.cell 1 _ rfl
  have cxb2m18 := xb.cell 2 _ rfl
  have cxd0m18 := xd.cell 0 _ rfl
  have cxd1m18 := xd.cell 1 _ rfl
  have cxd2m18 := xd.cell 2 _ rfl
  have cxe0m18 := xe.cell 0 _ rfl
  have cxe1m18 := xe.cell 1 _ rfl
  have cxe2m18 := xe.cell 2 _ rfl
  go_wp2_with fail
  clear cxa0m17 cxa1m17 cxa2m17 cxb0m17 cxb1m17 cxb2m17 cxd0m17 cxd1m17 cxd2m17 cxa0m18 cxa1m18 cxa2m18 cxb0m18 cxb1m18 cxb2m18 cxd0m18 cxd1m18 cxd2m18 cxe0m18 cxe1m18 cxe2m18
  obtain ⟨w28, hw28⟩ : ∃ W, (w26.alloc (.cells #[.int .i64 0, .int .i64 0, .slice none 0 0] 24)) = W := ⟨_, rfl⟩
  rw [hw28] at ha xa xb xd xe o1 o3 bb FP ⊢
  clear hw28
  refine (keepPile_any 0 0 0 0 (.slice none 0 0) (.slice none 0 0) [] [] w28 (by simp) (syms_nil _ _) (syms_nil _ _)).mono ?_
  rw [decide_eq_true (⟨rfl, rfl, rfl⟩ : (0 : Int) = 0 ∧ (0 : Int) = 0 ∧ ([] : List (Int × Int)) = [])]
  rintro e w30 ⟨rfl, b29⟩
  replace ha := ha.next b29
  replace xa := xa.next b29
  replace xb := xb.next b29
  replace xd := xd.next b29
  replace xe := xe.next b29
  replace o1 := symRow_below o1 b29 (Nat.le_refl _)
  replace o3 := symRow_below o3 b29 (Nat.le_refl _)
  replace bb := bb.trans (b29.mono bb.size)
  replace FP := FP.trans (b29.mono FP.size)
  clear b29
  have cxa0m19 := xa.cell 0 _ rfl
  have cxa1m19 := xa.cell 1 _ rfl
  have cxa2m19 := xa.cell 2 _ rfl
  have cxb0m19 := xb.cell 0 _ rfl
  have cxb1m19 := xb.cell 1 _ rfl
  have cxb2m19 := xb.cell 2 _ rfl
  have cxd0m19 := xd.cell 0 _ rfl
  have cxd1m19 := xd.cell 1 _ rfl
  have cxd2m19 := xd.cell 2 _ rfl
  have cxe0m19 := xe.cell 0 _ rfl
  have cxe1m19 := xe.cell 1 _ rfl
  have cxe2m19 := xe.cell 2 _ rfl
  go_wp2_with fail
  clear cxa0m19 cxa1m19 cxa2m19 cxb0m19 cxb1m19 cxb2m19 cxd0m19 cxd1m19 cxd2m19 cxe0m19 cxe1m19 cxe2m19
  refine (spoilSyms_own (.slice none 0 0) 0 w30.heap.size [] (by omega) w30 (World.ownsRow_nil _ _ _ _)).mono ?_
  rintro e w32 ⟨rfl, b31, _, _⟩
  replace ha := ha.next b31
  replace xa := xa.next b31
  replace xb := xb.next b31
  replace xd := xd.next b31
  replace xe := xe.next b31
  replace o1 := symRow_below o1 b31 (Nat.le_refl _)
  replace o3 := symRow_below o3 b31 (Nat.le_refl _)
  replace bb := bb.trans (b31.mono bb.size)
  replace FP := FP.trans (b31.mono FP.size)
  clear b31
  clear xd xe
  have cxa0m20 := xa.cell 0 _ rfl
  have cxa1m20 := xa.cell 1 _ rfl
  have cxa2m20 := xa.cell 2 _ rfl
  have cxb0m20 := xb.cell 0 _ rfl
  have cxb1m20 := xb.cell 1 _ rfl
  have cxb2m20 := xb.cell 2 _ rfl
  go_wp2_with fail
  clear cxa0m20 cxa1m20 cxa2m20 cxb0m20 cxb1m20 cxb2m20
  refine (refOf_in N p S a cap l HP.out w32 ha).mono ?_
  rw [HOL.out]
  rintro e w34 ⟨r5, rfl, o5, b33⟩
  replace ha := ha.next b33
  replace xa := xa.next b33
  replace xb := xb.next b33
  replace o1 := symRow_below o1 b33 (Nat.le_refl _)
  replace o3 := symRow_below o3 b33 (Nat.le_refl _)
  replace bb := bb.trans (b33.mono bb.size)
  replace FP := FP.trans (b33.mono FP.size)
  clear b33
  have cxa0m21 := xa.cell 0 _ rfl
  have cxa1m21 := xa.cell 1 _ rfl
  have cxa2m21 := xa.cell 2 _ rfl
  have cxb0m21 := xb.cell 0 _ rfl
  have cxb1m21 := xb.cell 1 _ rfl
  have cxb2m21 := xb.cell 2 _ rfl
  go_wp2_with fail
  clear cxa0m21 cxa1m21 cxa2m21 cxb0m21 cxb1m21 cxb2m21
  refine (syms_any _ _ OL OL _ _ w34 hol62 (syms_of_row o3) (syms_of_row o5)).mono ?_
  rw [decide_eq_true rfl]
  rintro e wz ⟨rfl, q35, rfl⟩
  have b36 : Below w34.heap.size w34 (w34.drewN q35) := below_drewN (Below.refl _ _) q35
  replace ha := ha.next b36
  replace xa := xa.next b36
  replace xb := xb.next b36
  replace o1 := symRow_below o1 b36 (Nat.le_refl _)
  replace o3 := symRow_below o3 b36 (Nat.le_refl _)
  replace o5 := symRow_below o5 b36 (Nat.le_refl _)
  replace bb := bb.trans (b36.mono bb.size)
  replace FP := FP.trans (b36.mono FP.size)
  obtain ⟨w37, hw37⟩ : ∃ W, w34.drewN q35 = W := ⟨_, rfl⟩
  rw [hw37] at ha xa xb o1 o3 o5 bb FP ⊢
  clear hw37 b36
  have cxa0m22 := xa.cell 0 _ rfl
  have cxa1m22 := xa.cell 1 _ rfl
  have cxa2m22 := xa.cell 2 _ rfl
  have cxb0m22 := xb.cell 0 _ rfl
  have cxb1m22 := xb.cell 1 _ rfl
  have cxb2m22 := xb.cell 2 _ rfl
  go_wp2_with fail
  clear cxa0m22 cxa1m22 cxa2m22 cxb0m22 cxb1m22 cxb2m22
  refine (spoilSyms_own (.slice a3 OL.length c3) OL.length w20.heap.size OL hol32 w37 o3).mono ?_
  rintro e w38 ⟨rfl, bS, _, _⟩
  replace FP := FP.trans (bS.mono hPO)
  replace bb := bb.trans (bS.mono (by omega))
  replace ha := (haP.below FP).mono FP.size
  replace o1 := symRow_below o1P FP (Nat.le_refl _)
  replace xa := xaP.next FP
  replace xb := xbP.next FP
  clear o3 o5 bS
  have cxa0m23 := xa.cell 0 _ rfl
  have cxa1m23 := xa.cell 1 _ rfl
  have cxa2m23 := xa.cell 2 _ rfl
  have cxb0m23 := xb.cell 0 _ rfl
  have cxb1m23 := xb.cell 1 _ rfl
  have cxb2m23 := xb.cell 2 _ rfl
  go_wp2_with fail
  clear cxa0m23 cxa1m23 cxa2m23 cxb0m23 cxb1m23 cxb2m23
  refine (keepPile_any (N : Int) p (N : Int) p _ _ l l w38 hl62 (syms_of_row o1) ha).mono ?_
  rw [decide_eq_true (⟨rfl, rfl, rfl⟩ : (N : Int) = (N : Int) ∧ p = p ∧ l = l)]
  rintro e w40 ⟨rfl, b39⟩
  replace ha := ha.next b39
  replace xa := xa.next b39
  replace xb := xb.next b39
  replace o1 := symRow_below o1 b39 (Nat.le_refl _)
  replace bb := bb.trans (b39.mono bb.size)
  replace FP := FP.trans (b39.mono FP.size)
  clear b39
  have cxa0m24 := xa.cell 0 _ rfl
  have cxa1m24 := xa.cell 1 _ rfl
  have cxa2m24 := xa.cell 2 _ rfl
  have cxb0m24 := xb.cell 0 _ rfl
  have cxb1m24 := xb.cell 1 _ rfl
  have cxb2m24 := xb.cell 2 _ rfl
  go_wp2_with fail
  clear cxa0m24 cxa1m24 cxa2m24 cxb0m24 cxb1m24 cxb2m24
  refine (pileWakes_any w40).mono ?_
  rintro e w42 ⟨rfl, b41⟩
  replace ha := ha.next b41
  replace xa := xa.next b41
  replace xb := xb.next b41
  replace o1 := symRow_below o1 b41 (Nat.le_refl _)
  replace bb := bb.trans (b41.mono bb.size)
  replace FP := FP.trans (b41.mono FP.size)
  clear b41
  have cxa0m25 := xa.cell 0 _ rfl
  have cxa1m25 := xa.cell 1 _ rfl
  have cxa2m25 := xa.cell 2 _ rfl
  have cxb0m25 := xb.cell 0 _ rfl
  have cxb1m25 := xb.cell 1 _ rfl
  have cxb2m25 := xb.cell 2 _ rfl
  go_wp2
  clear cxa0m25 cxa1m25 cxa2m25 cxb0m25 cxb1m25 cxb2m25
  go_ret
  exact ⟨rfl, bb⟩

end Go.Proofs.YtifkjglhdppocaaDoor
