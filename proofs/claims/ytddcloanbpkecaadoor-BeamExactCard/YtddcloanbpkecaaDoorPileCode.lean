/-
  What pile.New and pile.Put answer.
-/
import Derived.Test.YtddcloanbpkecaaDoorPileCheck
namespace Go.Proofs.YtddcloanbpkecaaDoor
open Go.RowKit

set_option maxRecDepth 100000 in
set_option maxHeartbeats 2000000 in
theorem New_ok (n p : Int) (h : HeadOk n p) (w : World) : Calls Tryd.prog 54 #[.int .i64 n, .int .i64 p] w fun e w' => e = .returned (.tuple #[.agg #[.int .i64 n, .int .i64 p, .slice none 0 0], .int .i64 0]) ∧ Below w.heap.size w w' := by
  have b0 := ((Below.refl w.heap.size w).alloc (Nat.le_refl _) (.cells #[.int .i64 0, .int .i64 0, .slice none 0 0] 24)).alloc (by simp) (.cells #[.int .i64 n, .int .i64 p, .slice none 0 0] 24)
  have x0 := (Box.new w 24 #[.int .i64 0, .int .i64 0, .slice none 0 0]).alloc (.cells #[.int .i64 n, .int .i64 p, .slice none 0 0] 24)
  have x1 : Box ((w.alloc (.cells #[.int .i64 0, .int .i64 0, .slice none 0 0] 24)).alloc (.cells #[.int .i64 n, .int .i64 p, .slice none 0 0] 24)) (w.heap.size + 1) 24 #[.int .i64 n, .int .i64 p, .slice none 0 0] := by
    have := Box.new (w.alloc (.cells #[.int .i64 0, .int .i64 0, .slice none 0 0] 24)) 24 #[.int .i64 n, .int .i64 p, .slice none 0 0]
    simpa using this
  have HC := Check_ok n p none 0 [] (by decide) (pileOk_nil h) ((w.alloc (.cells #[.int .i64 0, .int .i64 0, .slice none 0 0] 24)).alloc (.cells #[.int .i64 n, .int .i64 p, .slice none 0 0] 24)) (syms_nil _ _)
  clear h
  go_enter Tryd.func54, Tryd.ntmps54
  go_wp2_with fail
  refine HC.mono ?_
  rintro e w1 ⟨rfl, b1⟩
  have bb := b0.trans (b1.mono (by simp; omega))
  have y0 := x0.next b1
  have y1 := x1.next b1
  have c0 := y1.cell 0 _ rfl
  have c1 := y1.cell 1 _ rfl
  have c2 := y1.cell 2 _ rfl
  have z0 := y0.cell 0 _ rfl
  have z1 := y0.cell 1 _ rfl
  have z2 := y0.cell 2 _ rfl
  have f0 := y0.free 0
  have f1 := y0.free 1
  have f2 := y0.free 2
  clear HC b0 b1 x0 x1
  go_wp2
  refine bodyPost_ret (v := .tuple #[.agg #[.int .i64 n, .int .i64 p, .slice none 0 0], .int .i64 0]) (by simp [results, Tryd.results54, go_sem, z0, z1, z2]) rfl ⟨rfl, ?_⟩
  exact below_set3 bb (Nat.le_refl _) _ _ _

set_option maxRecDepth 100000 in
set_option maxHeartbeats 2000000 in
theorem New_arg (n p : Int) (h : ¬ HeadOk n p) (w : World) : Calls Tryd.prog 54 #[.int .i64 n, .int .i64 p] w fun e w' => e = .returned (.tuple #[.agg #[.int .i64 0, .int .i64 0, .slice none 0 0], .int .i64 1]) ∧ Below w.heap.size w w' := by
  have b0 := ((Below.refl w.heap.size w).alloc (Nat.le_refl _) (.cells #[.int .i64 0, .int .i64 0, .slice none 0 0] 24)).alloc (by simp) (.cells #[.int .i64 n, .int .i64 p, .slice none 0 0] 24)
  have x0 := (Box.new w 24 #[.int .i64 0, .int .i64 0, .slice none 0 0]).alloc (.cells #[.int .i64 n, .int .i64 p, .slice none 0 0] 24)
  have HC := Check_head n p h none 0 0 ((w.alloc (.cells #[.int .i64 0, .int .i64 0, .slice none 0 0] 24)).alloc (.cells #[.int .i64 n, .int .i64 p, .slice none 0 0] 24))
  clear h
  go_enter Tryd.func54, Tryd.ntmps54
  go_wp2_with fail
  refine HC.mono ?_
  rintro e w1 ⟨rfl, b1⟩
  have bb := b0.trans (b1.mono (by simp; omega))
  have y0 := x0.next b1
  have z0 := y0.cell 0 _ rfl
  have z1 := y0.cell 1 _ rfl
  have z2 := y0.cell 2 _ rfl
  have f0 := y0.free 0
  have f1 := y0.free 1
  have f2 := y0.free 2
  clear HC b0 b1 x0
  go_wp2
  refine bodyPost_ret (v := .tuple #[.agg #[.int .i64 0, .int .i64 0, .slice none 0 0], .int .i64 1]) (by simp [results, Tryd.results54, go_sem, z0, z1, z2]) rfl ⟨rfl, ?_⟩
  exact below_set3 bb (Nat.le_refl _) _ _ _

set_option maxRecDepth 100000 in
set_option maxHeartbeats 2000000 in
theorem Put_no (n p : Int) (k u : Int) (a : Option Addr) (cap : Nat) (l : List (Int × Int)) (hl : l.length ≤ 4294967296) (hp : ¬ PileOk n p l) (w : World) (ha : Syms w.heap.size w (.slice a l.length cap) l) :
    Calls Tryd.prog 56 #[.agg #[.int .i64 n, .int .i64 p, .slice a l.length cap], .int .i64 k, .int .i64 u] w fun e w' => e = .returned (.tuple #[.agg #[.int .i64 0, .int .i64 0, .slice none 0 0], .bool false, .int .i64 1]) ∧ Below w.heap.size w w' := by
  have b0 := ((Below.refl w.heap.size w).alloc (Nat.le_refl _) (.cells #[.int .i64 n, .int .i64 p, .slice a l.length cap] 24)).alloc (by simp) (.cells #[.int .i64 0, .int .i64 0, .slice none 0 0] 24)
  have x1 : Box ((w.alloc (.cells #[.int .i64 n, .int .i64 p, .slice a l.length cap] 24)).alloc (.cells #[.int .i64 0, .int .i64 0, .slice none 0 0] 24)) (w.heap.size + 1) 24 #[.int .i64 0, .int .i64 0, .slice none 0 0] := by
    have := Box.new (w.alloc (.cells #[.int .i64 n, .int .i64 p, .slice a l.length cap] 24)) 24 #[.int .i64 0, .int .i64 0, .slice none 0 0]
    simpa using this
  have HC := Check_no n p a cap l hl hp _ (ha.next b0)
  clear hp ha
  go_enter Tryd.func56, Tryd.ntmps56
  go_wp2_with fail
  refine HC.mono ?_
  rintro e w1 ⟨rfl, b1⟩
  have bb := b0.trans (b1.mono (by simp; omega))
  have y0 := x1.next b1
  have z0 := y0.cell 0 _ rfl
  have z1 := y0.cell 1 _ rfl
  have z2 := y0.cell 2 _ rfl
  have f0 := y0.free 0
  have f1 := y0.free 1
  have f2 := y0.free 2
  clear HC b0 b1 x1
  go_wp2
  refine bodyPost_ret (v := .tuple #[.agg #[.int .i64 0, .int .i64 0, .slice none 0 0], .bool false, .int .i64 1]) (by simp [results, Tryd.results56, go_sem, z0, z1, z2]) rfl ⟨rfl, ?_⟩
  exact below_set3 bb (by omega) _ _ _

set_option maxRecDepth 100000 in
set_option maxHeartbeats 2000000 in
theorem Put_arg (n p : Int) (k u : Int) (h : k < 0 ∨ u < 0 ∨ 255 < u) (a : Option Addr) (cap : Nat) (l : List (Int × Int)) (hp : PileOk n p l) (w : World) (ha : Syms w.heap.size w (.slice a l.length cap) l) :
    Calls Tryd.prog 56 #[.agg #[.int .i64 n, .int .i64 p, .slice a l.length cap], .int .i64 k, .int .i64 u] w fun e w' => e = .returned (.tuple #[.agg #[.int .i64 0, .int .i64 0, .slice none 0 0], .bool false, .int .i64 1]) ∧ Below w.heap.size w w' := by
  have hl : l.length ≤ 4294967296 := by have := pile_len hp; have := hp.1.prod; omega
  have b0 := ((Below.refl w.heap.size w).alloc (Nat.le_refl _) (.cells #[.int .i64 n, .int .i64 p, .slice a l.length cap] 24)).alloc (by simp) (.cells #[.int .i64 0, .int .i64 0, .slice none 0 0] 24)
  have x1 : Box ((w.alloc (.cells #[.int .i64 n, .int .i64 p, .slice a l.length cap] 24)).alloc (.cells #[.int .i64 0, .int .i64 0, .slice none 0 0] 24)) (w.heap.size + 1) 24 #[.int .i64 0, .int .i64 0, .slice none 0 0] := by
    have := Box.new (w.alloc (.cells #[.int .i64 n, .int .i64 p, .slice a l.length cap] 24)) 24 #[.int .i64 0, .int .i64 0, .slice none 0 0]
    simpa using this
  have HC := Check_ok n p a cap l hl hp _ (ha.next b0)
  clear hp ha
  by_cases hk : k < 0
  · have d1 : decide (k < 0) = true := decide_eq_true hk
    clear h hk
    go_enter Tryd.func56, Tryd.ntmps56
    go_wp2_with fail
    refine HC.mono ?_
    rintro e w1 ⟨rfl, b1⟩
    have bb := b0.trans (b1.mono (by simp; omega))
    have y0 := x1.next b1
    have z0 := y0.cell 0 _ rfl
    have z1 := y0.cell 1 _ rfl
    have z2 := y0.cell 2 _ rfl
    have f0 := y0.free 0
    have f1 := y0.free 1
    have f2 := y0.free 2
    clear HC b0 b1 x1
    go_wp2
    refine bodyPost_ret (v := .tuple #[.agg #[.int .i64 0, .int .i64 0, .slice none 0 0], .bool false, .int .i64 1]) (by simp [results, Tryd.results56, go_sem, z0, z1, z2]) rfl ⟨rfl, ?_⟩
    exact below_set3 bb (by omega) _ _ _
  · have d1 : decide (k < 0) = false := decide_eq_false hk
    have hu : u < 0 ∨ 255 < u := by omega
    clear h hk
    go_enter Tryd.func56, Tryd.ntmps56
    go_wp2_with fail
    refine HC.mono ?_
    rintro e w1 ⟨rfl, b1⟩
    have bb := b0.trans (b1.mono (by simp; omega))
    have y0 := x1.next b1
    have z0 := y0.cell 0 _ rfl
    have z1 := y0.cell 1 _ rfl
    have z2 := y0.cell 2 _ rfl
    have f0 := y0.free 0
    have f1 := y0.free 1
    have f2 := y0.free 2
    clear HC b0 b1 x1
    go_wp2_with fail
    refine (isValue_no u hu _).mono ?_
    rintro e w2 ⟨rfl, rfl⟩
    clear hu
    go_wp2
    refine bodyPost_ret (v := .tuple #[.agg #[.int .i64 0, .int .i64 0, .slice none 0 0], .bool false, .int .i64 1]) (by simp [results, Tryd.results56, go_sem, z0, z1, z2]) rfl ⟨rfl, ?_⟩
    exact below_set3 bb (by omega) _ _ _

end Go.Proofs.YtddcloanbpkecaaDoor
