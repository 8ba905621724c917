/-
  What beam's inner functions answer: isDepth, root, child.
-/
import Derived.Test.YtddcloanbpkecaaDoorBeamLeastNums
import Derived.Test.YtddcloanbpkecaaDoorRefNode
import Derived.Test.YtddcloanbpkecaaDoorSpineCode
import Derived.Test.YtddcloanbpkecaaDoorCostCode
import Derived.Test.YtddcloanbpkecaaDoorPileOf
namespace Go.Proofs.YtddcloanbpkecaaDoor
open Go.RowKit

set_option maxHeartbeats 400000 in
theorem isDepth_yes (d : Int) (h1 : 1 ≤ d) (h3 : d ≤ 3) (w : World) : Calls Tryd.prog 27 #[.int .i64 d] w fun e w' => e = .returned (.bool true) ∧ w = w' := by
  have d1 : decide (1 ≤ d) = true := decide_eq_true h1
  have d3 : decide (d ≤ 3) = true := decide_eq_true h3
  clear h1 h3
  go_enter Tryd.func27, Tryd.ntmps27
  go_wp2
  go_ret
  exact ⟨rfl, rfl⟩

set_option maxHeartbeats 400000 in
theorem isDepth_no (d : Int) (h : d < 1 ∨ 3 < d) (w : World) : Calls Tryd.prog 27 #[.int .i64 d] w fun e w' => e = .returned (.bool false) ∧ w = w' := by
  by_cases h1 : 1 ≤ d
  · have d1 : decide (1 ≤ d) = true := decide_eq_true h1
    have d3 : decide (d ≤ 3) = false := decide_eq_false (by omega)
    clear h1 h
    go_enter Tryd.func27, Tryd.ntmps27
    go_wp2
    go_ret
    exact ⟨rfl, rfl⟩
  · have d1 : decide (1 ≤ d) = false := decide_eq_false h1
    clear h1 h
    go_enter Tryd.func27, Tryd.ntmps27
    go_wp2
    go_ret
    exact ⟨rfl, rfl⟩

/-- A point as it is handed on. -/
def ptV (i s : Nat) (m : Int) : Value := .agg #[.int .i64 (i : Int), .int .u32 (s : Int), .int .i64 m]

set_option maxRecDepth 100000 in
set_option maxHeartbeats 400000 in
theorem root_any (w : World) : Calls Tryd.prog 29 #[] w fun e w' => e = .returned (.agg #[.int .i64 0, .int .u32 (beginN : Int), .int .i64 0]) ∧ Below w.heap.size w w' := by
  have HB := Begin_any (w.alloc (.cells #[.int .i64 0, .int .u32 0, .int .i64 0] 61))
  have b1 : Below w.heap.size w (w.alloc (.cells #[.int .i64 0, .int .u32 0, .int .i64 0] 61)) := (Below.refl w.heap.size w).alloc (Nat.le_refl _) _
  have x1 := Box.new w 61 #[.int .i64 0, .int .u32 0, .int .i64 0]
  go_enter Tryd.func29, Tryd.ntmps29
  go_wp2_with fail
  refine HB.mono ?_
  rintro e w2 ⟨rfl, rfl⟩
  clear HB
  obtain ⟨W1, hW1⟩ : ∃ W, w.alloc (.cells #[.int .i64 0, .int .u32 0, .int .i64 0] 61) = W := ⟨_, rfl⟩
  rw [hW1] at b1 x1 ⊢
  clear hW1
  have k0 := x1.cell 0 _ rfl
  have k1 := x1.cell 1 _ rfl
  have k2 := x1.cell 2 _ rfl
  have f0 := x1.free 0
  have f1 := x1.free 1
  have f2 := x1.free 2
  go_wp2
  refine bodyPost_ret (v := .agg #[.int .i64 0, .int .u32 (beginN : Int), .int .i64 0]) (by simp [results, Tryd.results29, go_sem, k0, k1, k2]) rfl ⟨rfl, ?_⟩
  exact below_set3 b1 (Nat.le_refl _) _ _ _

set_option maxRecDepth 100000 in
set_option maxHeartbeats 2000000 in
theorem child_ok (b off N cap : Nat) (l : List (Int × Int)) (p : Int) (hp : PileOk (N : Int) p l) (i s k : Nat) (hi : i < N) (hs : s < 4294967296) (hk : k < 16) (m : Int) (hm0 : 0 ≤ m) (hm1 : m ≤ 1099511627776) (w : World)
    (hS : Segs w.heap.size w (.slice (some ⟨b, off, none⟩) N cap) (segsL N l)) :
    Calls Tryd.prog 43 #[.slice (some ⟨b, off, none⟩) N cap, .agg #[.int .i64 (i : Int), .int .u32 (s : Int), .int .i64 m], .int .i64 (k : Int)] w fun e W' => e = .returned (.tuple #[.agg #[.int .i64 ((i + 1 : Nat) : Int), .int .u32 ((stepN s k : Nat) : Int), .int .i64 (m + ((costN (stepN s k) (ofL N l i) : Nat) : Int))], .int .i64 0]) ∧ Below w.heap.size w W' := by
  have hN2 : N < 65 := by have := hp.1.2.1; omega
  have hst := stepN_lt s k
  have hcb := costB_le hp i (stepN s k)
  have hlen := ofL_16 hp hi
  have hok := ofL_ok hp i
  have hget := segsL_get (l := l) hi
  have HST := Step_ok s k hs hk
  obtain ⟨t, ht⟩ : ∃ t, stepN s k = t := ⟨_, rfl⟩
  rw [ht] at hst hcb HST ⊢
  have HCO := fun la lc w' h => CostOf_ok t hst la lc (ofL N l i) hlen hok w' h
  obtain ⟨cl, hcl⟩ : ∃ cl, costN t (ofL N l i) = cl := ⟨_, rfl⟩
  rw [hcl] at hcb HCO ⊢
  obtain ⟨I, hI⟩ : ∃ I, i + 1 = I := ⟨_, rfl⟩
  rw [hI]
  have e1i : (i : Int) + 1 = (I : Int) := by omega
  have b1 : Below w.heap.size w ((w.alloc (.cells #[.int .i64 (i : Int), .int .u32 (s : Int), .int .i64 m] 61)).alloc (.cells #[.int .i64 0, .int .u32 0, .int .i64 0] 61)) := ((Below.refl w.heap.size w).alloc (Nat.le_refl _) _).alloc (by simp) _
  have x1 : Box ((w.alloc (.cells #[.int .i64 (i : Int), .int .u32 (s : Int), .int .i64 m] 61)).alloc (.cells #[.int .i64 0, .int .u32 0, .int .i64 0] 61)) w.heap.size 61 #[.int .i64 (i : Int), .int .u32 (s : Int), .int .i64 m] := (Box.new w 61 _).alloc _
  have x2 : Box ((w.alloc (.cells #[.int .i64 (i : Int), .int .u32 (s : Int), .int .i64 m] 61)).alloc (.cells #[.int .i64 0, .int .u32 0, .int .i64 0] 61)) (w.heap.size + 1) 61 #[.int .i64 0, .int .u32 0, .int .i64 0] := by
    have := Box.new (w.alloc (.cells #[.int .i64 (i : Int), .int .u32 (s : Int), .int .i64 m] 61)) 61 #[.int .i64 0, .int .u32 0, .int .i64 0]
    simpa using this
  clear ht hcl hI hp
  go_enter Tryd.func43, Tryd.ntmps43
  go_wp2_with fail
  refine (HST _).mono ?_
  rintro e wz ⟨rfl, rfl⟩
  obtain ⟨W1, hW1⟩ : ∃ W, (w.alloc (.cells #[.int .i64 (i : Int), .int .u32 (s : Int), .int .i64 m] 61)).alloc (.cells #[.int .i64 0, .int .u32 0, .int .i64 0] 61) = W := ⟨_, rfl⟩
  rw [hW1] at b1 x1 x2 ⊢
  clear hW1
  have k0 := x1.cell 0 _ rfl
  have k2 := x1.cell 2 _ rfl
  have hS1 := hS.below b1
  obtain ⟨la, lc, cS, hSy⟩ := segs_at hS1 hget
  have HSY : Hid (Syms W1.heap.size W1 (.slice la (ofL N l i).length lc) (ofL N l i)) := hSy.mono b1.size
  obtain ⟨ln, hln⟩ : ∃ ln, (ofL N l i).length = ln := ⟨_, rfl⟩
  rw [hln] at cS HSY
  have HC := HCO la lc W1 (by rw [hln]; exact HSY.out)
  rw [hln] at HC
  clear HCO hln hSy hS1 hS hget hlen hok
  go_wp2_with fail
  refine HC.mono ?_
  rintro e w2 ⟨rfl, b2⟩
  have y1 := x1.next b2
  have y2 := x2.next b2
  have q0 := y1.cell 0 _ rfl
  have q2 := y1.cell 2 _ rfl
  have z0 := y2.cell 0 _ rfl
  have z1 := y2.cell 1 _ rfl
  have z2 := y2.cell 2 _ rfl
  have f0 := y2.free 0
  have f1 := y2.free 1
  have f2 := y2.free 2
  clear k0 k2 cS
  go_wp2
  refine bodyPost_ret (v := .tuple #[.agg #[.int .i64 (I : Int), .int .u32 (t : Int), .int .i64 (m + (cl : Int))], .int .i64 0]) (by simp [results, Tryd.results43, go_sem, z0, z1, z2]) rfl ⟨rfl, ?_⟩
  exact below_set3 (b1.trans (b2.mono b1.size)) (by simp) _ _ _

set_option maxRecDepth 100000 in
set_option maxHeartbeats 2000000 in
theorem child_arg (b off N cap : Nat) (i s : Nat) (k : Int) (hk : k < 0 ∨ 15 < k) (m : Int) (w : World) :
    Calls Tryd.prog 43 #[.slice (some ⟨b, off, none⟩) N cap, .agg #[.int .i64 (i : Int), .int .u32 (s : Int), .int .i64 m], .int .i64 k] w fun e W' => e = .returned (.tuple #[.agg #[.int .i64 0, .int .u32 0, .int .i64 0], .int .i64 1]) ∧ Below w.heap.size w W' := by
  have HST := Step_arg s k hk
  have b1 : Below w.heap.size w ((w.alloc (.cells #[.int .i64 (i : Int), .int .u32 (s : Int), .int .i64 m] 61)).alloc (.cells #[.int .i64 0, .int .u32 0, .int .i64 0] 61)) := ((Below.refl w.heap.size w).alloc (Nat.le_refl _) _).alloc (by simp) _
  have x2 : Box ((w.alloc (.cells #[.int .i64 (i : Int), .int .u32 (s : Int), .int .i64 m] 61)).alloc (.cells #[.int .i64 0, .int .u32 0, .int .i64 0] 61)) (w.heap.size + 1) 61 #[.int .i64 0, .int .u32 0, .int .i64 0] := by
    have := Box.new (w.alloc (.cells #[.int .i64 (i : Int), .int .u32 (s : Int), .int .i64 m] 61)) 61 #[.int .i64 0, .int .u32 0, .int .i64 0]
    simpa using this
  clear hk
  go_enter Tryd.func43, Tryd.ntmps43
  go_wp2_with fail
  refine (HST _).mono ?_
  rintro e wz ⟨rfl, rfl⟩
  obtain ⟨W1, hW1⟩ : ∃ W, (w.alloc (.cells #[.int .i64 (i : Int), .int .u32 (s : Int), .int .i64 m] 61)).alloc (.cells #[.int .i64 0, .int .u32 0, .int .i64 0] 61) = W := ⟨_, rfl⟩
  rw [hW1] at b1 x2 ⊢
  clear hW1
  have z0 := x2.cell 0 _ rfl
  have z1 := x2.cell 1 _ rfl
  have z2 := x2.cell 2 _ rfl
  have f0 := x2.free 0
  have f1 := x2.free 1
  have f2 := x2.free 2
  go_wp2
  refine bodyPost_ret (v := .tuple #[.agg #[.int .i64 0, .int .u32 0, .int .i64 0], .int .i64 1]) (by simp [results, Tryd.results43, go_sem, z0, z1, z2]) rfl ⟨rfl, ?_⟩
  exact below_set3 b1 (by simp) _ _ _

end Go.Proofs.YtddcloanbpkecaaDoor
