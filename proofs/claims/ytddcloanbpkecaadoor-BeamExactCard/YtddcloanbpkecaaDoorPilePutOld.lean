/-
  What pile.Put answers where nothing is fresh. (Written by tpl_pileput.py.)
-/
import Derived.Test.YtddcloanbpkecaaDoorPileCode
import Derived.Deep.RegionWith
namespace Go.Proofs.YtddcloanbpkecaaDoor
open Go.RowKit

set_option maxRecDepth 100000 in
set_option maxHeartbeats 4000000 in
theorem Put_stands (n p : Int) (k u : Int) (k0 : 0 ≤ k) (hk : k ≤ 9223372036854775807) (u0 : 0 ≤ u) (u1 : u ≤ 255) (a : Option Addr) (cap : Nat) (l : List (Int × Int)) (q : Nat) (hq : aheadOf l k = q) (ht : hasAt l k = true) (hp : PileOk n p l) (w : World) (ha : Syms w.heap.size w (.slice a l.length cap) l) :
    Calls Tryd.prog 56 #[.agg #[.int .i64 n, .int .i64 p, .slice a l.length cap], .int .i64 k, .int .i64 u] w fun e W' => ∃ r, e = .returned (.tuple #[.agg #[.int .i64 n, .int .i64 p, r], .bool false, .int .i64 0]) ∧ W'.ownsRow w.heap.size 72 2 r l.length (symCells l) ∧ Below w.heap.size w W' := by
  have hl : l.length ≤ 1024 := by have := pile_len hp; have := hp.1.prod; omega
  have HP : Hid (PileOk n p l) := hp
  have hpr := hp.1.prod
  obtain ⟨M, hM⟩ : ∃ M, n * p = M := ⟨_, rfl⟩
  have HM : Hid (n * p = M) := hM
  rw [hM] at hpr
  obtain ⟨hM1, hM2⟩ := hpr
  have b0 := ((Below.refl w.heap.size w).alloc (Nat.le_refl _) (.cells #[.int .i64 n, .int .i64 p, .slice a l.length cap] 24)).alloc (by simp) (.cells #[.int .i64 0, .int .i64 0, .slice none 0 0] 24)
  have xP : Box ((w.alloc (.cells #[.int .i64 n, .int .i64 p, .slice a l.length cap] 24)).alloc (.cells #[.int .i64 0, .int .i64 0, .slice none 0 0] 24)) w.heap.size 24 #[.int .i64 n, .int .i64 p, .slice a l.length cap] := (Box.new w 24 #[.int .i64 n, .int .i64 p, .slice a l.length cap]).alloc (.cells #[.int .i64 0, .int .i64 0, .slice none 0 0] 24)
  have xR : Box ((w.alloc (.cells #[.int .i64 n, .int .i64 p, .slice a l.length cap] 24)).alloc (.cells #[.int .i64 0, .int .i64 0, .slice none 0 0] 24)) (w.heap.size + 1) 24 #[.int .i64 0, .int .i64 0, .slice none 0 0] := by
    have := Box.new (w.alloc (.cells #[.int .i64 n, .int .i64 p, .slice a l.length cap] 24)) 24 #[.int .i64 0, .int .i64 0, .slice none 0 0]
    simpa using this
  have ha0 := ha.next b0
  have HC := Check_ok n p a cap l (by omega) hp _ ha0
  have dk : decide (k < 0) = false := decide_eq_false (by omega)
  have HA : Hid (aheadOf l k = q) := hq
  have HT : Hid (hasAt l k = true) := ht
  clear hp ha hM hq ht
  go_enter Tryd.func56, Tryd.ntmps56
  go_wp2_with fail
  refine HC.mono ?_
  rintro e w1 ⟨rfl, b1⟩
  replace xP := xP.next b1
  replace xR := xR.next b1
  have ha1 := ha0.next b1
  have bb1 := b0.trans (b1.mono (by simp; omega))
  clear b0 b1 HC ha0
  have c0 := xP.cell 0 _ rfl
  have c1 := xP.cell 1 _ rfl
  have c2 := xP.cell 2 _ rfl
  go_wp2_with fail
  refine (isValue_yes u u0 u1 _).mono ?_
  rintro e w2 ⟨rfl, rfl⟩
  go_wp2_with fail
  refine (find_ok k a cap l (by omega) HP.out.2.2 w1 ha1).mono ?_
  rw [HA.out, HT.out]
  rintro e w3 ⟨rfl, b3⟩
  replace xP := xP.next b3
  replace xR := xR.next b3
  replace ha1 := ha1.next b3
  have bb3 := bb1.trans (b3.mono bb1.size)
  clear b3 bb1 c0 c1 c2
  have c0 := xP.cell 0 _ rfl
  have c1 := xP.cell 1 _ rfl
  have c2 := xP.cell 2 _ rfl
  go_wp2_with fail
  refine (clone_ok a cap l (by omega) w3 ha1).mono ?_
  rintro e w5 ⟨r, rfl, o5, b5⟩
  obtain ⟨ar, cr, rfl⟩ := (syms_of_row o5).shape
  have hx1 : w.heap.size < w3.heap.size := xP.lt
  have hx2 : w.heap.size + 1 < w3.heap.size := xR.lt
  replace xP := xP.next b5
  replace xR := xR.next b5
  have bb5 := bb3.trans (b5.mono bb3.size)
  clear b5 bb3 c0 c1 c2 ha1
  have c0 := xP.cell 0 _ rfl
  have c1 := xP.cell 1 _ rfl
  have c2 := xP.cell 2 _ rfl
  have cf := xP.free 2
  have z0 := xR.cell 0 _ rfl
  have z1 := xR.cell 1 _ rfl
  have z2 := xR.cell 2 _ rfl
  have f0 := xR.free 0
  have f1 := xR.free 1
  have f2 := xR.free 2
  go_wp2
  refine bodyPost_ret (v := .tuple #[.agg #[.int .i64 n, .int .i64 p, .slice ar l.length cr], .bool false, .int .i64 0]) (by simp [results, Tryd.results56, go_sem, z0, z1, z2]) rfl ⟨_, rfl, ?_, ?_⟩
  · exact symRow_base (row_set3 (ownsRow_setCell_below o5 (a := ⟨w.heap.size, 2, none⟩) hx1 _) hx2 _ _ _) (by omega)
  · exact below_set3 (bb5.setCell (p := ⟨w.heap.size, 2, none⟩) (Nat.le_refl _) _) (D := w.heap.size + 1) (by omega) _ _ _

set_option maxRecDepth 100000 in
set_option maxHeartbeats 4000000 in
theorem Put_beyond (n p : Int) (k u : Int) (k0 : 0 ≤ k) (hk : k ≤ 9223372036854775807) (u0 : 0 ≤ u) (u1 : u ≤ 255) (a : Option Addr) (cap : Nat) (l : List (Int × Int)) (q : Nat) (hq : aheadOf l k = q) (ht : hasAt l k = false) (hMk : n * p ≤ k) (hp : PileOk n p l) (w : World) (ha : Syms w.heap.size w (.slice a l.length cap) l) :
    Calls Tryd.prog 56 #[.agg #[.int .i64 n, .int .i64 p, .slice a l.length cap], .int .i64 k, .int .i64 u] w fun e W' => ∃ r, e = .returned (.tuple #[.agg #[.int .i64 n, .int .i64 p, r], .bool false, .int .i64 0]) ∧ W'.ownsRow w.heap.size 72 2 r l.length (symCells l) ∧ Below w.heap.size w W' := by
  have hl : l.length ≤ 1024 := by have := pile_len hp; have := hp.1.prod; omega
  have HP : Hid (PileOk n p l) := hp
  have hpr := hp.1.prod
  obtain ⟨M, hM⟩ : ∃ M, n * p = M := ⟨_, rfl⟩
  have HM : Hid (n * p = M) := hM
  rw [hM] at hpr hMk
  obtain ⟨hM1, hM2⟩ := hpr
  have b0 := ((Below.refl w.heap.size w).alloc (Nat.le_refl _) (.cells #[.int .i64 n, .int .i64 p, .slice a l.length cap] 24)).alloc (by simp) (.cells #[.int .i64 0, .int .i64 0, .slice none 0 0] 24)
  have xP : Box ((w.alloc (.cells #[.int .i64 n, .int .i64 p, .slice a l.length cap] 24)).alloc (.cells #[.int .i64 0, .int .i64 0, .slice none 0 0] 24)) w.heap.size 24 #[.int .i64 n, .int .i64 p, .slice a l.length cap] := (Box.new w 24 #[.int .i64 n, .int .i64 p, .slice a l.length cap]).alloc (.cells #[.int .i64 0, .int .i64 0, .slice none 0 0] 24)
  have xR : Box ((w.alloc (.cells #[.int .i64 n, .int .i64 p, .slice a l.length cap] 24)).alloc (.cells #[.int .i64 0, .int .i64 0, .slice none 0 0] 24)) (w.heap.size + 1) 24 #[.int .i64 0, .int .i64 0, .slice none 0 0] := by
    have := Box.new (w.alloc (.cells #[.int .i64 n, .int .i64 p, .slice a l.length cap] 24)) 24 #[.int .i64 0, .int .i64 0, .slice none 0 0]
    simpa using this
  have ha0 := ha.next b0
  have HC := Check_ok n p a cap l (by omega) hp _ ha0
  have dk : decide (k < 0) = false := decide_eq_false (by omega)
  have HA : Hid (aheadOf l k = q) := hq
  have HT : Hid (hasAt l k = false) := ht
  clear hp ha hM hq ht
  go_enter Tryd.func56, Tryd.ntmps56
  go_wp2_with fail
  refine HC.mono ?_
  rintro e w1 ⟨rfl, b1⟩
  replace xP := xP.next b1
  replace xR := xR.next b1
  have ha1 := ha0.next b1
  have bb1 := b0.trans (b1.mono (by simp; omega))
  clear b0 b1 HC ha0
  have c0 := xP.cell 0 _ rfl
  have c1 := xP.cell 1 _ rfl
  have c2 := xP.cell 2 _ rfl
  go_wp2_with fail
  refine (isValue_yes u u0 u1 _).mono ?_
  rintro e w2 ⟨rfl, rfl⟩
  go_wp2_with fail
  refine (find_ok k a cap l (by omega) HP.out.2.2 w1 ha1).mono ?_
  rw [HA.out, HT.out]
  rintro e w3 ⟨rfl, b3⟩
  replace xP := xP.next b3
  replace xR := xR.next b3
  replace ha1 := ha1.next b3
  have bb3 := bb1.trans (b3.mono bb1.size)
  clear b3 bb1 c0 c1 c2
  have c0 := xP.cell 0 _ rfl
  have c1 := xP.cell 1 _ rfl
  have c2 := xP.cell 2 _ rfl
  have dM : decide (M ≤ k) = true := decide_eq_true (by omega)
  clear hMk
  go_wp2_with fail
  refine (places_ok n p M HM.out hM1 hM2 a l.length cap w3).mono ?_
  rintro e w4 ⟨rfl, b4⟩
  replace xP := xP.next b4
  replace xR := xR.next b4
  replace ha1 := ha1.next b4
  have bb4 := bb3.trans (b4.mono bb3.size)
  clear b4 bb3 c0 c1 c2
  have c0 := xP.cell 0 _ rfl
  have c1 := xP.cell 1 _ rfl
  have c2 := xP.cell 2 _ rfl
  go_wp2_with fail
  refine (clone_ok a cap l (by omega) w4 ha1).mono ?_
  rintro e w5 ⟨r, rfl, o5, b5⟩
  obtain ⟨ar, cr, rfl⟩ := (syms_of_row o5).shape
  have hx1 : w.heap.size < w4.heap.size := xP.lt
  have hx2 : w.heap.size + 1 < w4.heap.size := xR.lt
  replace xP := xP.next b5
  replace xR := xR.next b5
  have bb5 := bb4.trans (b5.mono bb4.size)
  clear b5 bb4 c0 c1 c2 ha1
  have c0 := xP.cell 0 _ rfl
  have c1 := xP.cell 1 _ rfl
  have c2 := xP.cell 2 _ rfl
  have cf := xP.free 2
  have z0 := xR.cell 0 _ rfl
  have z1 := xR.cell 1 _ rfl
  have z2 := xR.cell 2 _ rfl
  have f0 := xR.free 0
  have f1 := xR.free 1
  have f2 := xR.free 2
  go_wp2
  refine bodyPost_ret (v := .tuple #[.agg #[.int .i64 n, .int .i64 p, .slice ar l.length cr], .bool false, .int .i64 0]) (by simp [results, Tryd.results56, go_sem, z0, z1, z2]) rfl ⟨_, rfl, ?_, ?_⟩
  · exact symRow_base (row_set3 (ownsRow_setCell_below o5 (a := ⟨w.heap.size, 2, none⟩) hx1 _) hx2 _ _ _) (by omega)
  · exact below_set3 (bb5.setCell (p := ⟨w.heap.size, 2, none⟩) (Nat.le_refl _) _) (D := w.heap.size + 1) (by omega) _ _ _

end Go.Proofs.YtddcloanbpkecaaDoor
