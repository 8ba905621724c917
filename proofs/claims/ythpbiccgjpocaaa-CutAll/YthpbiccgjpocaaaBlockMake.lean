/-
  What package block's isSize, Check and Make answer.
-/
import Derived.Test.YthpbiccgjpocaaaBlockBulk
namespace Go.Proofs.Ythpbiccgjpocaaa
open Go.RowKit

set_option maxHeartbeats 400000 in
theorem bsize_any (z : Int) (w : World) : Calls Try.prog 24 #[.int .i64 z] w fun e w' => e = .returned (.bool (bSize z)) ∧ w = w' := by
  unfold bSize
  by_cases h1 : 1 ≤ z
  · have d1 : decide (1 ≤ z) = true := decide_eq_true h1
    rw [d1, Bool.true_and]
    go_enter Try.func24, Try.ntmps24
    go_wp2
    go_ret
    exact ⟨rfl, rfl⟩
  · have d1 : decide (1 ≤ z) = false := decide_eq_false h1
    rw [d1, Bool.false_and]
    go_enter Try.func24, Try.ntmps24
    go_wp2
    go_ret
    exact ⟨rfl, rfl⟩

theorem bsize_yes {z : Int} (h : 1 ≤ z ∧ z ≤ 16) : bSize z = true := by
  unfold bSize
  rw [decide_eq_true h.1, decide_eq_true h.2]; rfl
theorem bsize_no {z : Int} (h : ¬ (1 ≤ z ∧ z ≤ 16)) : bSize z = false := by
  unfold bSize
  by_cases h1 : 1 ≤ z
  · rw [decide_eq_true h1, decide_eq_false (fun h2 => h ⟨h1, h2⟩)]; rfl
  · rw [decide_eq_false h1]; rfl

theorem and_last {m : Int} (h0 : 0 ≤ m) (h1 : m ≤ 3) : (bits .and .i64 m 2 != 0) = decide (2 ≤ m) := by
  have : m = 0 ∨ m = 1 ∨ m = 2 ∨ m = 3 := by omega
  rcases this with rfl | rfl | rfl | rfl <;> decide

set_option maxRecDepth 100000 in
set_option maxHeartbeats 2000000 in
theorem Check_any (z s m : Int) (a : Option Addr) (n cap : Nat) (w : World) :
    Calls Try.prog 15 #[.int .i64 z, .agg #[.int .i64 s, .int .i64 m, .slice a n cap]] w fun e w' => e = .returned (.int .i64 (errB z s m n)) ∧ Below w.heap.size w w' := by
  have b1 : Below w.heap.size w (w.alloc (.cells #[.int .i64 s, .int .i64 m, .slice a n cap] 36)) := (Below.refl w.heap.size w).alloc (Nat.le_refl _) _
  have HS := bsize_any z (w.alloc (.cells #[.int .i64 s, .int .i64 m, .slice a n cap] 36))
  by_cases h0 : ¬ (1 ≤ z ∧ z ≤ 16)
  · rw [bsize_no h0] at HS
    rw [errB_arg (by rw [← Bool.not_eq_true, bArg_iff]; omega)]
    clear h0
    go_enter Try.func15, Try.ntmps15
    go_wp2_with (go_at_call 24; refine HS.mono ?_; rintro e w' ⟨rfl, rfl⟩)
    go_ret
    exact ⟨rfl, b1⟩
  have h0 : 1 ≤ z ∧ z ≤ 16 := Classical.not_not.1 h0
  rw [bsize_yes h0] at HS
  by_cases h2 : s < 0
  · have d2 : decide (s < 0) = true := decide_eq_true h2
    rw [errB_arg (by rw [← Bool.not_eq_true, bArg_iff]; omega)]
    clear h0 h2
    go_enter Try.func15, Try.ntmps15
    go_wp2_with (go_at_call 24; refine HS.mono ?_; rintro e w' ⟨rfl, rfl⟩)
    go_ret
    exact ⟨rfl, b1⟩
  have d2 : decide (s < 0) = false := decide_eq_false h2
  by_cases h3 : 1073741824 ≤ s
  · have d3 : decide (1073741824 ≤ s) = true := decide_eq_true h3
    rw [errB_arg (by rw [← Bool.not_eq_true, bArg_iff]; omega)]
    clear h0 h2 h3
    go_enter Try.func15, Try.ntmps15
    go_wp2_with (go_at_call 24; refine HS.mono ?_; rintro e w' ⟨rfl, rfl⟩)
    go_ret
    exact ⟨rfl, b1⟩
  have d3 : decide (1073741824 ≤ s) = false := decide_eq_false h3
  by_cases h4 : m < 0
  · have d4 : decide (m < 0) = true := decide_eq_true h4
    rw [errB_arg (by rw [← Bool.not_eq_true, bArg_iff]; omega)]
    clear h0 h2 h3 h4
    go_enter Try.func15, Try.ntmps15
    go_wp2_with (go_at_call 24; refine HS.mono ?_; rintro e w' ⟨rfl, rfl⟩)
    go_ret
    exact ⟨rfl, b1⟩
  have d4 : decide (m < 0) = false := decide_eq_false h4
  by_cases h5 : 3 < m
  · have d5 : decide (3 < m) = true := decide_eq_true h5
    rw [errB_arg (by rw [← Bool.not_eq_true, bArg_iff]; omega)]
    clear h0 h2 h3 h4 h5
    go_enter Try.func15, Try.ntmps15
    go_wp2_with (go_at_call 24; refine HS.mono ?_; rintro e w' ⟨rfl, rfl⟩)
    go_ret
    exact ⟨rfl, b1⟩
  have d5 : decide (3 < m) = false := decide_eq_false h5
  have hA : bArg z s m = true := (bArg_iff _ _ _).2 (by omega)
  have ha := and_last (m := m) (by omega) (by omega)
  by_cases h6 : z < (n : Int)
  · have d6 : decide (z < (n : Int)) = true := decide_eq_true h6
    rw [errB_len hA (by rw [← Bool.not_eq_true, bLen_iff]; omega)]
    clear hA h0 h2 h3 h4 h5 h6
    go_enter Try.func15, Try.ntmps15
    go_wp2_with (go_at_call 24; refine HS.mono ?_; rintro e w' ⟨rfl, rfl⟩)
    go_ret
    exact ⟨rfl, b1⟩
  have d6 : decide (z < (n : Int)) = false := decide_eq_false h6
  by_cases h8 : (n : Int) < z
  · have d8 : decide ((n : Int) < z) = true := decide_eq_true h8
    by_cases h7 : 2 ≤ m
    · rw [decide_eq_true h7] at ha
      rw [errB_zero.2 ⟨hA, (bLen_iff _ _ _).2 (by omega)⟩]
      clear hA h0 h2 h3 h4 h5 h6 h7 h8
      go_enter Try.func15, Try.ntmps15
      go_wp2_with (go_at_call 24; refine HS.mono ?_; rintro e w' ⟨rfl, rfl⟩)
      go_ret
      exact ⟨rfl, b1⟩
    · rw [decide_eq_false h7] at ha
      rw [errB_len hA (by rw [← Bool.not_eq_true, bLen_iff]; omega)]
      clear hA h0 h2 h3 h4 h5 h6 h7 h8
      go_enter Try.func15, Try.ntmps15
      go_wp2_with (go_at_call 24; refine HS.mono ?_; rintro e w' ⟨rfl, rfl⟩)
      go_ret
      exact ⟨rfl, b1⟩
  · have d8 : decide ((n : Int) < z) = false := decide_eq_false h8
    rw [errB_zero.2 ⟨hA, (bLen_iff _ _ _).2 (by omega)⟩]
    clear hA h0 h2 h3 h4 h5 h6 h8
    go_enter Try.func15, Try.ntmps15
    go_wp2_with (go_at_call 24; refine HS.mono ?_; rintro e w' ⟨rfl, rfl⟩)
    go_ret
    exact ⟨rfl, b1⟩

theorem made_noughts {w1 : World} {base n : Nat} {a : Option Addr} (h : w1.ownsRow base 5 1 (.slice a n n) n (madeCells (Value.int IntKind.u8 0).cells (n * 1)).toList) : w1.ownsRow base 5 1 (.slice a n n) n ((List.replicate n (0 : Int)).map (Value.int .u8)) := by
  rw [show (Value.int IntKind.u8 0).cells = #[.int .u8 0] from rfl, toList_madeCells_one, Nat.mul_one] at h
  rw [List.map_replicate]; exact h

theorem row_shapeB {W : World} {base k : Nat} {e : TypeId} {v : Value} {xs : List Value} (h : W.ownsRow base e 1 v k xs) : ∃ a c, v = .slice a k c := by
  rcases h.2 with ⟨e, e0⟩ | ⟨g, c, cur, e, _⟩
  · exact ⟨_, _, by rw [e, e0]⟩
  · exact ⟨_, _, e⟩

end Go.Proofs.Ythpbiccgjpocaaa
