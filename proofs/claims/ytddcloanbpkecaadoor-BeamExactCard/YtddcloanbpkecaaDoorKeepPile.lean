/-
  What volutekeep.Pile, TwinPile, SpoilSyms answer, for all piles in memory.
-/
import Derived.Test.YtddcloanbpkecaaDoorKeepSyms
import Derived.Test.YtddcloanbpkecaaDoorBoxMem
namespace Go.Proofs.YtddcloanbpkecaaDoor
open Go.RowKit

/-- A pile as a value. -/
def pileV (n p : Int) (v : Value) : Value := .agg #[.int .i64 n, .int .i64 p, v]

set_option maxRecDepth 100000 in
set_option maxHeartbeats 2000000 in
/-- volutekeep.Pile. -/
theorem keepPile_any (n p n' p' : Int) (v v' : Value) (xs ys : List (Int × Int)) (w : World) (hy : ys.length ≤ 4611686018427387904) (ha : Syms w.heap.size w v xs) (hb : Syms w.heap.size w v' ys) :
    Calls Tryd.prog 12 #[.agg #[.int .i64 n, .int .i64 p, v], .agg #[.int .i64 n', .int .i64 p', v']] w fun e w' => e = .returned (.bool (decide (n = n' ∧ p = p' ∧ xs = ys))) ∧ Below w.heap.size w w' := by
  have b1 := ((Below.refl w.heap.size w).alloc (Nat.le_refl _) (.cells #[.int .i64 n, .int .i64 p, v] 24)).alloc (by simp) (.cells #[.int .i64 n', .int .i64 p', v'] 24)
  have ha1 := ha.next b1
  have hb1 := hb.next b1
  obtain ⟨a, cap, rfl⟩ := ha.shape
  obtain ⟨a', cap', rfl⟩ := hb.shape
  clear ha hb
  by_cases hn : n = n'
  · have e1 : (n == n') = true := by simp [hn]
    by_cases hp : p = p'
    · have e2 : (p == p') = true := by simp [hp]
      have HD : Hid (decide (n = n' ∧ p = p' ∧ xs = ys) = decide (xs = ys)) := by
        show decide (n = n' ∧ p = p' ∧ xs = ys) = decide (xs = ys)
        exact decide_eq_decide.2 ⟨fun h => h.2.2, fun h => ⟨hn, hp, h⟩⟩
      clear hn hp
      go_enter Tryd.func12, Tryd.ntmps12
      go_wp2_with fail
      refine (syms_any _ _ xs ys _ _ _ hy ha1 hb1).mono ?_
      rw [← HD.out]
      obtain ⟨D, hD⟩ : ∃ D, decide (n = n' ∧ p = p' ∧ xs = ys) = D := ⟨_, rfl⟩
      have HDD : Hid (decide (n = n' ∧ p = p' ∧ xs = ys) = D) := hD
      rw [hD]
      clear hD HD
      rintro e w2 ⟨rfl, q, rfl⟩
      go_wp2
      go_ret
      exact ⟨by rw [HDD.out]; rfl, below_drewN b1 q⟩
    · have e2 : (p == p') = false := by simp [hp]
      have HD : Hid (decide (n = n' ∧ p = p' ∧ xs = ys) = false) := decide_eq_false fun h => hp h.2.1
      clear hn hp ha1 hb1
      go_enter Tryd.func12, Tryd.ntmps12
      go_wp2
      go_ret
      exact ⟨by rw [HD.out]; rfl, b1⟩
  · have e1 : (n == n') = false := by simp [hn]
    have HD : Hid (decide (n = n' ∧ p = p' ∧ xs = ys) = false) := decide_eq_false fun h => hn h.1
    clear hn ha1 hb1
    go_enter Tryd.func12, Tryd.ntmps12
    go_wp2
    go_ret
    exact ⟨by rw [HD.out]; rfl, b1⟩

set_option maxRecDepth 100000 in
set_option maxHeartbeats 2000000 in
/-- volutekeep.TwinPile. -/
theorem twinPile_any (n p : Int) (v : Value) (l : List (Int × Int)) (hl : l.length ≤ 4294967296) (w : World) (ha : Syms w.heap.size w v l) :
    Calls Tryd.prog 6 #[.agg #[.int .i64 n, .int .i64 p, v]] w fun e W' => ∃ r, e = .returned (.agg #[.int .i64 n, .int .i64 p, r]) ∧ W'.ownsRow w.heap.size 72 2 r l.length (symCells l) ∧ Below w.heap.size w W' := by
  have b1 := ((Below.refl w.heap.size w).alloc (Nat.le_refl _) (.cells #[.int .i64 n, .int .i64 p, v] 24)).alloc (by simp) (.cells #[.int .i64 0, .int .i64 0, .slice none 0 0] 24)
  have ha1 := ha.next b1
  obtain ⟨a, cap, rfl⟩ := ha.shape
  clear ha
  go_enter Tryd.func6, Tryd.ntmps6
  go_wp2_with fail
  refine (twinSyms_any _ l _ hl _ ha1).mono ?_
  rintro e w2 ⟨r, rfl, o2, b2⟩
  obtain ⟨ar, cr, rfl⟩ := (syms_of_row o2).shape
  have x1 : Box w2 w.heap.size 24 #[.int .i64 n, .int .i64 p, .slice a l.length cap] := ((Box.new w 24 _).alloc _).next b2
  have x2 : Box w2 (w.heap.size + 1) 24 #[.int .i64 0, .int .i64 0, .slice none 0 0] := by
    have := (Box.new (w.alloc (.cells #[.int .i64 n, .int .i64 p, .slice a l.length cap] 24)) 24 #[.int .i64 0, .int .i64 0, .slice none 0 0]).next b2
    simpa using this
  have k0 := x1.cell 0 _ rfl
  have k1 := x1.cell 1 _ rfl
  have k2 := x1.cell 2 _ rfl
  have m0 := x2.cell 0 _ rfl
  have m1 := x2.cell 1 _ rfl
  have m2 := x2.cell 2 _ rfl
  have f0 := x1.free 2
  have g0 := x2.free 0
  have g1 := x2.free 1
  have g2 := x2.free 2
  go_wp2
  refine bodyPost_ret (v := .agg #[.int .i64 n, .int .i64 p, .slice ar l.length cr]) (by simp [results, Tryd.results6, go_sem, m0, m1, m2]) rfl ⟨_, rfl, ?_, ?_⟩
  · have o3 := symRow_base (ownsRow_setCell_below (ownsRow_setCell_below (ownsRow_setCell_below (ownsRow_setCell_below o2 (a := ⟨w.heap.size, 2, none⟩) (by simp; omega) (.slice ar l.length cr)) (a := ⟨w.heap.size + 1, 0, none⟩) (by simp) (.int .i64 n)) (a := ⟨w.heap.size + 1, 1, none⟩) (by simp) (.int .i64 p)) (a := ⟨w.heap.size + 1, 2, none⟩) (by simp) (.slice ar l.length cr)) (show w.heap.size ≤ _ by simp; omega)
    exact o3
  · have b3 := b1.trans (b2.mono (by simp; omega))
    exact (((b3.setCell (p := ⟨w.heap.size, 2, none⟩) (Nat.le_refl _) _).setCell (p := ⟨w.heap.size + 1, 0, none⟩) (by simp) _).setCell (p := ⟨w.heap.size + 1, 1, none⟩) (by simp) _).setCell (p := ⟨w.heap.size + 1, 2, none⟩) (by simp) _

end Go.Proofs.YtddcloanbpkecaaDoor
