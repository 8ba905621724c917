/-
  BitLong: the walk: whatever the two numbers, the law answers true, and nothing that lay has turned.
-/
import Derived.Test.YtnbfgngeienecaaWakes
import Derived.Test.YtnbfgngeienecaaApartBits
import Derived.Test.YtnbfgngeienecaaTogetherBits
import Derived.Test.YtnbfgngeienecaaTurns
namespace Go.Proofs.Ytnbfgngeienecaa
open Go.RowKit

theorem which_mod (n : Int) : (IntKind.u64.wrap n).tmod 4 = 0 ∨ (IntKind.u64.wrap n).tmod 4 = 1 ∨ (IntKind.u64.wrap n).tmod 4 = 2 ∨ (IntKind.u64.wrap n).tmod 4 = 3 := by
  have hu : 0 ≤ IntKind.u64.wrap n := by simp [IntKind.wrap, IntKind.bits, IntKind.signed]; omega
  rw [Int.tmod_eq_emod_of_nonneg hu]
  omega

theorem row_shape {w : World} {base e n : Nat} {v : Value} {xs : List Value} (h : w.ownsRow base e 1 v n xs) : ∃ a cap, v = .slice a n cap := by
  rcases h.2 with ⟨rfl, rfl⟩ | ⟨g, cap, cur, rfl, _⟩
  · exact ⟨_, _, rfl⟩
  · exact ⟨_, _, rfl⟩

/-- A row of noughts that make has laid. -/
theorem made_row {kd : IntKind} {w : World} {base e n : Nat} {v : Value} {Zs : List Int} (hZ : Zs = List.replicate n 0) (h : w.ownsRow base e 1 v n (madeCells (Value.int kd 0).cells (n * 1)).toList) : w.ownsRow base e 1 v n (Zs.map (Value.int kd)) := by
  rw [show (Value.int kd 0).cells = #[.int kd 0] from rfl, toList_madeCells_one, Nat.mul_one] at h
  rw [hZ, List.map_replicate]
  exact h

theorem zeros (k : Nat) : ∃ Zs : List Int, Zs.length = k ∧ Zs = List.replicate Zs.length 0 ∧ ∀ z ∈ Zs, 0 ≤ z ∧ z < 2 := by
  refine ⟨List.replicate k 0, by simp, by simp, fun z hz => ?_⟩
  rw [List.eq_of_mem_replicate hz]
  decide

set_option maxRecDepth 100000 in
set_option maxHeartbeats 2000000 in
theorem bitLong_out (o n : Int) (w : World) (h : o < -1 ∨ 1 < o) :
    Calls Try.prog 7 #[.int .i64 o, .int .i64 n] w fun e w' => e = .returned (.bool true) ∧ Below w.heap.size w w' := by
  by_cases h0 : o < -1
  · clear h
    go_enter Try.func7, Try.ntmps7
    go_wp2
    go_ret
    exact ⟨rfl, Below.refl _ _⟩
  · have h1 : 1 < o := by omega
    clear h
    go_enter Try.func7, Try.ntmps7
    go_wp2
    go_ret
    exact ⟨rfl, Below.refl _ _⟩

set_option maxRecDepth 100000 in
set_option maxHeartbeats 4000000 in
theorem bitLong_fits0 (o n : Int) (w : World) (h1 : -1 ≤ o) (h2 : o ≤ 0) (hr : (IntKind.u64.wrap n).tmod 4 = 0) :
    Calls Try.prog 7 #[.int .i64 o, .int .i64 n] w fun e w' => e = .returned (.bool true) ∧ Below w.heap.size w w' := by
  obtain ⟨i0, hi, hz0, hz1, hz2⟩ := info_parts infoU8
  obtain ⟨j0, hj, hy0, hy1, hy2⟩ := info_parts infoI64
  obtain ⟨Zs, lZ, hZ, bZ⟩ := zeros (4096 + o).toNat
  obtain ⟨Ls, lL, hL, bL⟩ := zeros (8 * Zs.length)
  have e0 : 4096 + o = (Zs.length : Int) := by omega
  have e1 : 32768 + 8 * o = (Ls.length : Int) := by omega
  have d0 : decide (o < -1) = false := by simp; omega
  have d1 : decide (1 < o) = false := by simp; omega
  have d2 : decide (0 < o) = false := by simp; omega
  have hm1 : 4095 ≤ Zs.length := by omega
  have hm2 : Zs.length ≤ 4096 := by omega
  have hm3 : 0 < Zs.length := by omega
  have HLL : Hid (Ls.length = 8 * Zs.length) := lL
  have HZ : Hid (Zs = List.replicate Zs.length 0) := hZ
  have HL : Hid (Ls = List.replicate Ls.length 0) := hL
  have HBZ : Hid (∀ z ∈ Zs, 0 ≤ z ∧ z < 2) := bZ
  have HB8 : Hid (∀ z ∈ Zs, 0 ≤ z ∧ z ≤ 255) := fun z h => by have := bZ z h; omega
  have HBL : Hid (∀ z ∈ Ls, 0 ≤ z ∧ z < 2) := bL
  have hl1 : Ls.length ≤ 32776 := by omega
  clear lL hZ hL bZ bL lZ h1 h2
  go_enter Try.func7, Try.ntmps7
  go_wp2_with (at_make; refine wpList_make_full _ rfl _ _ 22 rfl w.heap.size 5 i0 (.int .u8 0) 1 Try.underlying22 hi hz0 hz1 .i64 .i64 _ _ Zs.length rfl rfl rfl rfl (by rw [hz2]; omega) (by unfold maxLen; omega) (Nat.le_refl _) ?_; intro w1 hown1 hgrow1)
  have b1 : Below w.heap.size w w1 := (Below.refl _ w).grown hgrow1 (Nat.le_refl _) (fun k e => by cases e)
  have z1 : Holds .u8 w1.heap.size w1 (.slice (some ⟨w.heap.size, 0, none⟩) Zs.length Zs.length) Zs := holds_of_row (made_row HZ.out hown1)
  clear hown1 hgrow1
  refine (bits_any _ Zs (by omega) HB8.out _ z1).mono ?_
  rintro e W2 ⟨r2, rfl, o2, b2⟩
  obtain ⟨c2, k2, rfl⟩ := row_shape o2
  have t1 : ((((8 * Zs.length : Nat) : Int)) == 8 * (Zs.length : Int)) = true := by rw [beq_iff_eq]; omega
  have bb2 : Below w.heap.size w W2 := b1.trans (b2.mono b1.size)
  clear z1 o2 b1 b2
  go_wp2_with fail
  refine (wakes_any _).mono ?_
  rintro e W9 ⟨rfl, b9⟩
  go_wp2
  go_ret
  exact ⟨rfl, bb2.trans (b9.mono bb2.size)⟩

set_option maxRecDepth 100000 in
set_option maxHeartbeats 4000000 in
theorem bitLong_long0 (o n : Int) (w : World) (h1 : o = 1) (hr : (IntKind.u64.wrap n).tmod 4 = 0) :
    Calls Try.prog 7 #[.int .i64 o, .int .i64 n] w fun e w' => e = .returned (.bool true) ∧ Below w.heap.size w w' := by
  obtain ⟨i0, hi, hz0, hz1, hz2⟩ := info_parts infoU8
  obtain ⟨j0, hj, hy0, hy1, hy2⟩ := info_parts infoI64
  obtain ⟨Zs, lZ, hZ, bZ⟩ := zeros (4096 + o).toNat
  obtain ⟨Ls, lL, hL, bL⟩ := zeros (8 * Zs.length)
  have e0 : 4096 + o = (Zs.length : Int) := by omega
  have e1 : 32768 + 8 * o = (Ls.length : Int) := by omega
  have d0 : decide (o < -1) = false := by simp; omega
  have d1 : decide (1 < o) = false := by simp; omega
  have d2 : decide (0 < o) = true := by simp; omega
  have hm1 : 4095 ≤ Zs.length := by omega
  have hm2 : Zs.length ≤ 4097 := by omega
  have hm3 : 4096 < Zs.length := by omega
  have HLL : Hid (Ls.length = 8 * Zs.length) := lL
  have HZ : Hid (Zs = List.replicate Zs.length 0) := hZ
  have HL : Hid (Ls = List.replicate Ls.length 0) := hL
  have HBZ : Hid (∀ z ∈ Zs, 0 ≤ z ∧ z < 2) := bZ
  have HB8 : Hid (∀ z ∈ Zs, 0 ≤ z ∧ z ≤ 255) := fun z h => by have := bZ z h; omega
  have HBL : Hid (∀ z ∈ Ls, 0 ≤ z ∧ z < 2) := bL
  have hl1 : Ls.length ≤ 32776 := by omega
  clear lL hZ hL bZ bL lZ h1
  go_enter Try.func7, Try.ntmps7
  go_wp2_with (at_make; refine wpList_make_full _ rfl _ _ 22 rfl w.heap.size 5 i0 (.int .u8 0) 1 Try.underlying22 hi hz0 hz1 .i64 .i64 _ _ Zs.length rfl rfl rfl rfl (by rw [hz2]; omega) (by unfold maxLen; omega) (Nat.le_refl _) ?_; intro w1 hown1 hgrow1)
  have b1 : Below w.heap.size w w1 := (Below.refl _ w).grown hgrow1 (Nat.le_refl _) (fun k e => by cases e)
  have z1 : Holds .u8 w1.heap.size w1 (.slice (some ⟨w.heap.size, 0, none⟩) Zs.length Zs.length) Zs := holds_of_row (made_row HZ.out hown1)
  clear hown1 hgrow1
  refine (bits_long _ _ _ hm3 (by omega) _).mono ?_
  rintro e w' ⟨rfl, rfl⟩
  go_wp2_with fail
  refine (wakes_any _).mono ?_
  rintro e W9 ⟨rfl, b9⟩
  go_wp2
  go_ret
  exact ⟨rfl, b1.trans (b9.mono b1.size)⟩

set_option maxRecDepth 100000 in
set_option maxHeartbeats 4000000 in
theorem bitLong_fits1 (o n : Int) (w : World) (h1 : -1 ≤ o) (h2 : o ≤ 0) (hr : (IntKind.u64.wrap n).tmod 4 = 1) :
    Calls Try.prog 7 #[.int .i64 o, .int .i64 n] w fun e w' => e = .returned (.bool true) ∧ Below w.heap.size w w' := by
  obtain ⟨i0, hi, hz0, hz1, hz2⟩ := info_parts infoU8
  obtain ⟨j0, hj, hy0, hy1, hy2⟩ := info_parts infoI64
  obtain ⟨Zs, lZ, hZ, bZ⟩ := zeros (4096 + o).toNat
  obtain ⟨Ls, lL, hL, bL⟩ := zeros (8 * Zs.length)
  have e0 : 4096 + o = (Zs.length : Int) := by omega
  have e1 : 32768 + 8 * o = (Ls.length : Int) := by omega
  have d0 : decide (o < -1) = false := by simp; omega
  have d1 : decide (1 < o) = false := by simp; omega
  have d2 : decide (0 < o) = false := by simp; omega
  have hm1 : 4095 ≤ Zs.length := by omega
  have hm2 : Zs.length ≤ 4096 := by omega
  have hm3 : 0 < Zs.length := by omega
  have HLL : Hid (Ls.length = 8 * Zs.length) := lL
  have HZ : Hid (Zs = List.replicate Zs.length 0) := hZ
  have HL : Hid (Ls = List.replicate Ls.length 0) := hL
  have HBZ : Hid (∀ z ∈ Zs, 0 ≤ z ∧ z < 2) := bZ
  have HB8 : Hid (∀ z ∈ Zs, 0 ≤ z ∧ z ≤ 255) := fun z h => by have := bZ z h; omega
  have HBL : Hid (∀ z ∈ Ls, 0 ≤ z ∧ z < 2) := bL
  have hl1 : Ls.length ≤ 32776 := by omega
  clear lL hZ hL bZ bL lZ h1 h2
  go_enter Try.func7, Try.ntmps7
  go_wp2_with (at_make; refine wpList_make_full _ rfl _ _ 22 rfl w.heap.size 5 i0 (.int .u8 0) 1 Try.underlying22 hi hz0 hz1 .i64 .i64 _ _ Zs.length rfl rfl rfl rfl (by rw [hz2]; omega) (by unfold maxLen; omega) (Nat.le_refl _) ?_; intro w1 hown1 hgrow1)
  have b1 : Below w.heap.size w w1 := (Below.refl _ w).grown hgrow1 (Nat.le_refl _) (fun k e => by cases e)
  have z1 : Holds .u8 w1.heap.size w1 (.slice (some ⟨w.heap.size, 0, none⟩) Zs.length Zs.length) Zs := holds_of_row (made_row HZ.out hown1)
  clear hown1 hgrow1
  refine (nibs_any _ Zs (by omega) HB8.out _ z1).mono ?_
  rintro e W2 ⟨r2, rfl, o2, b2⟩
  obtain ⟨c2, k2, rfl⟩ := row_shape o2
  have t1 : ((((2 * Zs.length : Nat) : Int)) == 2 * (Zs.length : Int)) = true := by rw [beq_iff_eq]; omega
  have bb2 : Below w.heap.size w W2 := b1.trans (b2.mono b1.size)
  clear z1 o2 b1 b2
  go_wp2_with fail
  refine (wakes_any _).mono ?_
  rintro e W9 ⟨rfl, b9⟩
  go_wp2
  go_ret
  exact ⟨rfl, bb2.trans (b9.mono bb2.size)⟩

set_option maxRecDepth 100000 in
set_option maxHeartbeats 4000000 in
theorem bitLong_long1 (o n : Int) (w : World) (h1 : o = 1) (hr : (IntKind.u64.wrap n).tmod 4 = 1) :
    Calls Try.prog 7 #[.int .i64 o, .int .i64 n] w fun e w' => e = .returned (.bool true) ∧ Below w.heap.size w w' := by
  obtain ⟨i0, hi, hz0, hz1, hz2⟩ := info_parts infoU8
  obtain ⟨j0, hj, hy0, hy1, hy2⟩ := info_parts infoI64
  obtain ⟨Zs, lZ, hZ, bZ⟩ := zeros (4096 + o).toNat
  obtain ⟨Ls, lL, hL, bL⟩ := zeros (8 * Zs.length)
  have e0 : 4096 + o = (Zs.length : Int) := by omega
  have e1 : 32768 + 8 * o = (Ls.length : Int) := by omega
  have d0 : decide (o < -1) = false := by simp; omega
  have d1 : decide (1 < o) = false := by simp; omega
  have d2 : decide (0 < o) = true := by simp; omega
  have hm1 : 4095 ≤ Zs.length := by omega
  have hm2 : Zs.length ≤ 4097 := by omega
  have hm3 : 4096 < Zs.length := by omega
  have HLL : Hid (Ls.length = 8 * Zs.length) := lL
  have HZ : Hid (Zs = List.replicate Zs.length 0) := hZ
  have HL : Hid (Ls = List.replicate Ls.length 0) := hL
  have HBZ : Hid (∀ z ∈ Zs, 0 ≤ z ∧ z < 2) := bZ
  have HB8 : Hid (∀ z ∈ Zs, 0 ≤ z ∧ z ≤ 255) := fun z h => by have := bZ z h; omega
  have HBL : Hid (∀ z ∈ Ls, 0 ≤ z ∧ z < 2) := bL
  have hl1 : Ls.length ≤ 32776 := by omega
  clear lL hZ hL bZ bL lZ h1
  go_enter Try.func7, Try.ntmps7
  go_wp2_with (at_make; refine wpList_make_full _ rfl _ _ 22 rfl w.heap.size 5 i0 (.int .u8 0) 1 Try.underlying22 hi hz0 hz1 .i64 .i64 _ _ Zs.length rfl rfl rfl rfl (by rw [hz2]; omega) (by unfold maxLen; omega) (Nat.le_refl _) ?_; intro w1 hown1 hgrow1)
  have b1 : Below w.heap.size w w1 := (Below.refl _ w).grown hgrow1 (Nat.le_refl _) (fun k e => by cases e)
  have z1 : Holds .u8 w1.heap.size w1 (.slice (some ⟨w.heap.size, 0, none⟩) Zs.length Zs.length) Zs := holds_of_row (made_row HZ.out hown1)
  clear hown1 hgrow1
  refine (nibs_long _ _ _ hm3 (by omega) _).mono ?_
  rintro e w' ⟨rfl, rfl⟩
  go_wp2_with fail
  refine (wakes_any _).mono ?_
  rintro e W9 ⟨rfl, b9⟩
  go_wp2
  go_ret
  exact ⟨rfl, b1.trans (b9.mono b1.size)⟩

set_option maxRecDepth 100000 in
set_option maxHeartbeats 4000000 in
theorem bitLong_fits2 (o n : Int) (w : World) (h1 : -1 ≤ o) (h2 : o ≤ 0) (hr : (IntKind.u64.wrap n).tmod 4 = 2) :
    Calls Try.prog 7 #[.int .i64 o, .int .i64 n] w fun e w' => e = .returned (.bool true) ∧ Below w.heap.size w w' := by
  obtain ⟨i0, hi, hz0, hz1, hz2⟩ := info_parts infoU8
  obtain ⟨j0, hj, hy0, hy1, hy2⟩ := info_parts infoI64
  obtain ⟨Zs, lZ, hZ, bZ⟩ := zeros (4096 + o).toNat
  obtain ⟨Ls, lL, hL, bL⟩ := zeros (8 * Zs.length)
  have e0 : 4096 + o = (Zs.length : Int) := by omega
  have e1 : 32768 + 8 * o = (Ls.length : Int) := by omega
  have d0 : decide (o < -1) = false := by simp; omega
  have d1 : decide (1 < o) = false := by simp; omega
  have d2 : decide (0 < o) = false := by simp; omega
  have hm1 : 4095 ≤ Zs.length := by omega
  have hm2 : Zs.length ≤ 4096 := by omega
  have hm3 : 0 < Zs.length := by omega
  have HLL : Hid (Ls.length = 8 * Zs.length) := lL
  have HZ : Hid (Zs = List.replicate Zs.length 0) := hZ
  have HL : Hid (Ls = List.replicate Ls.length 0) := hL
  have HBZ : Hid (∀ z ∈ Zs, 0 ≤ z ∧ z < 2) := bZ
  have HB8 : Hid (∀ z ∈ Zs, 0 ≤ z ∧ z ≤ 255) := fun z h => by have := bZ z h; omega
  have HBL : Hid (∀ z ∈ Ls, 0 ≤ z ∧ z < 2) := bL
  have hl1 : Ls.length ≤ 32776 := by omega
  clear lL hZ hL bZ bL lZ h1 h2
  go_enter Try.func7, Try.ntmps7
  go_wp2_with (at_make; refine wpList_make_full _ rfl _ _ 22 rfl w.heap.size 5 i0 (.int .u8 0) 1 Try.underlying22 hi hz0 hz1 .i64 .i64 _ _ Zs.length rfl rfl rfl rfl (by rw [hz2]; omega) (by unfold maxLen; omega) (Nat.le_refl _) ?_; intro w1 hown1 hgrow1)
  have b1 : Below w.heap.size w w1 := (Below.refl _ w).grown hgrow1 (Nat.le_refl _) (fun k e => by cases e)
  have z1 : Holds .u8 w1.heap.size w1 (.slice (some ⟨w.heap.size, 0, none⟩) Zs.length Zs.length) Zs := holds_of_row (made_row HZ.out hown1)
  clear hown1 hgrow1
  have n1 : Holds .u8 w1.heap.size w1 (.slice none 0 0) [] := .inl ⟨⟨_, _, rfl, fun _ => rfl⟩, rfl⟩
  refine (turn_ok _ _ _ _ Zs [] (by omega) (by decide) _ z1 n1).mono ?_
  rintro e W2 ⟨r2, rfl, h2, b2⟩
  obtain ⟨c2, k2, rfl⟩ := h2.shape
  rw [xorL_len]
  have z2 := z1.next b2
  have n2 : Holds .u8 W2.heap.size W2 (.slice none 0 0) [] := .inl ⟨⟨_, _, rfl, fun _ => rfl⟩, rfl⟩
  go_wp2_with fail
  refine (turn_ok none _ 0 _ [] Zs (by decide) (by omega) _ n2 z2).mono ?_
  rintro e W3 ⟨r3, rfl, h3, b3⟩
  have t1 : ((Zs.length : Int) == 0) = false := by rw [beq_eq_false_iff_ne]; omega
  have bb2 : Below w.heap.size w W2 := b1.trans (b2.mono b1.size)
  have bb3 : Below w.heap.size w W3 := bb2.trans (b3.mono bb2.size)
  clear z1 z2 n1 n2 h2 h3 b1 b2 b3 bb2
  go_wp2_with fail
  refine (wakes_any _).mono ?_
  rintro e W9 ⟨rfl, b9⟩
  go_wp2
  go_ret
  exact ⟨rfl, bb3.trans (b9.mono bb3.size)⟩

set_option maxRecDepth 100000 in
set_option maxHeartbeats 4000000 in
theorem bitLong_long2 (o n : Int) (w : World) (h1 : o = 1) (hr : (IntKind.u64.wrap n).tmod 4 = 2) :
    Calls Try.prog 7 #[.int .i64 o, .int .i64 n] w fun e w' => e = .returned (.bool true) ∧ Below w.heap.size w w' := by
  obtain ⟨i0, hi, hz0, hz1, hz2⟩ := info_parts infoU8
  obtain ⟨j0, hj, hy0, hy1, hy2⟩ := info_parts infoI64
  obtain ⟨Zs, lZ, hZ, bZ⟩ := zeros (4096 + o).toNat
  obtain ⟨Ls, lL, hL, bL⟩ := zeros (8 * Zs.length)
  have e0 : 4096 + o = (Zs.length : Int) := by omega
  have e1 : 32768 + 8 * o = (Ls.length : Int) := by omega
  have d0 : decide (o < -1) = false := by simp; omega
  have d1 : decide (1 < o) = false := by simp; omega
  have d2 : decide (0 < o) = true := by simp; omega
  have hm1 : 4095 ≤ Zs.length := by omega
  have hm2 : Zs.length ≤ 4097 := by omega
  have hm3 : 4096 < Zs.length := by omega
  have HLL : Hid (Ls.length = 8 * Zs.length) := lL
  have HZ : Hid (Zs = List.replicate Zs.length 0) := hZ
  have HL : Hid (Ls = List.replicate Ls.length 0) := hL
  have HBZ : Hid (∀ z ∈ Zs, 0 ≤ z ∧ z < 2) := bZ
  have HB8 : Hid (∀ z ∈ Zs, 0 ≤ z ∧ z ≤ 255) := fun z h => by have := bZ z h; omega
  have HBL : Hid (∀ z ∈ Ls, 0 ≤ z ∧ z < 2) := bL
  have hl1 : Ls.length ≤ 32776 := by omega
  clear lL hZ hL bZ bL lZ h1
  go_enter Try.func7, Try.ntmps7
  go_wp2_with (at_make; refine wpList_make_full _ rfl _ _ 22 rfl w.heap.size 5 i0 (.int .u8 0) 1 Try.underlying22 hi hz0 hz1 .i64 .i64 _ _ Zs.length rfl rfl rfl rfl (by rw [hz2]; omega) (by unfold maxLen; omega) (Nat.le_refl _) ?_; intro w1 hown1 hgrow1)
  have b1 : Below w.heap.size w w1 := (Below.refl _ w).grown hgrow1 (Nat.le_refl _) (fun k e => by cases e)
  have z1 : Holds .u8 w1.heap.size w1 (.slice (some ⟨w.heap.size, 0, none⟩) Zs.length Zs.length) Zs := holds_of_row (made_row HZ.out hown1)
  clear hown1 hgrow1
  refine (turn_long _ _ _ _ _ _ _ (.inl hm3) (by omega) (by decide)).mono ?_
  rintro e w' ⟨rfl, rfl⟩
  go_wp2_with fail
  refine (turn_long _ _ _ _ _ _ _ (.inr hm3) (by decide) (by omega)).mono ?_
  rintro e w' ⟨rfl, rfl⟩
  go_wp2_with fail
  refine (wakes_any _).mono ?_
  rintro e W9 ⟨rfl, b9⟩
  go_wp2
  go_ret
  exact ⟨rfl, b1.trans (b9.mono b1.size)⟩

set_option maxRecDepth 100000 in
set_option maxHeartbeats 4000000 in
theorem bitLong_fits3 (o n : Int) (w : World) (h1 : -1 ≤ o) (h2 : o ≤ 0) (hr : (IntKind.u64.wrap n).tmod 4 = 3) :
    Calls Try.prog 7 #[.int .i64 o, .int .i64 n] w fun e w' => e = .returned (.bool true) ∧ Below w.heap.size w w' := by
  obtain ⟨i0, hi, hz0, hz1, hz2⟩ := info_parts infoU8
  obtain ⟨j0, hj, hy0, hy1, hy2⟩ := info_parts infoI64
  obtain ⟨Zs, lZ, hZ, bZ⟩ := zeros (4096 + o).toNat
  obtain ⟨Ls, lL, hL, bL⟩ := zeros (8 * Zs.length)
  have e0 : 4096 + o = (Zs.length : Int) := by omega
  have e1 : 32768 + 8 * o = (Ls.length : Int) := by omega
  have d0 : decide (o < -1) = false := by simp; omega
  have d1 : decide (1 < o) = false := by simp; omega
  have d2 : decide (0 < o) = false := by simp; omega
  have hm1 : 4095 ≤ Zs.length := by omega
  have hm2 : Zs.length ≤ 4096 := by omega
  have hm3 : 0 < Zs.length := by omega
  have HLL : Hid (Ls.length = 8 * Zs.length) := lL
  have HZ : Hid (Zs = List.replicate Zs.length 0) := hZ
  have HL : Hid (Ls = List.replicate Ls.length 0) := hL
  have HBZ : Hid (∀ z ∈ Zs, 0 ≤ z ∧ z < 2) := bZ
  have HB8 : Hid (∀ z ∈ Zs, 0 ≤ z ∧ z ≤ 255) := fun z h => by have := bZ z h; omega
  have HBL : Hid (∀ z ∈ Ls, 0 ≤ z ∧ z < 2) := bL
  have hl1 : Ls.length ≤ 32776 := by omega
  clear lL hZ hL bZ bL lZ h1 h2
  go_enter Try.func7, Try.ntmps7
  go_wp2_with first | (at_make; refine wpList_make_full _ rfl _ _ 22 rfl w.heap.size 5 i0 (.int .u8 0) 1 Try.underlying22 hi hz0 hz1 .i64 .i64 _ _ Zs.length rfl rfl rfl rfl (by rw [hz2]; omega) (by unfold maxLen; omega) (Nat.le_refl _) ?_; intro w1 hown1 hgrow1) | (at_make; have hgs := hgrow1.1; refine wpList_make_full _ rfl _ _ 23 rfl w1.heap.size 3 j0 (.int .i64 0) 1 Try.underlying23 hj hy0 hy1 .i64 .i64 _ _ Ls.length rfl rfl rfl rfl (by rw [hy2]; omega) (by unfold maxLen; omega) (Nat.le_refl _) ?_; intro w2 hown2 hgrow2)
  have b1 : Below w.heap.size w w1 := (Below.refl _ w).grown hgrow1 (Nat.le_refl _) (fun k e => by cases e)
  have b2 : Below w1.heap.size w1 w2 := (Below.refl _ w1).grown hgrow2 (Nat.le_refl _) (fun k e => by cases e)
  have z2 : Holds .i64 w2.heap.size w2 (.slice (some ⟨w1.heap.size, 0, none⟩) Ls.length Ls.length) Ls := holds_of_row (made_row HL.out hown2)
  have bb2 : Below w.heap.size w w2 := b1.trans (b2.mono b1.size)
  clear hown1 hgrow1 hown2 hgrow2 b1 b2
  refine (pack_ok _ _ Ls Zs.length HLL.out (by have := HLL.out; omega) (Nat.le_refl _) HBL.out _ z2).mono ?_
  rintro e W3 ⟨r3, rfl, o3, b3⟩
  obtain ⟨c3, k3, rfl⟩ := row_shape o3
  have t1 : ((Zs.length : Int) == (Ls.length : Int) / 8) = true := by rw [beq_iff_eq]; have := HLL.out; omega
  have bb3 : Below w.heap.size w W3 := bb2.trans (b3.mono bb2.size)
  clear z2 o3 b3 bb2
  go_wp2_with fail
  refine (wakes_any _).mono ?_
  rintro e W9 ⟨rfl, b9⟩
  go_wp2
  go_ret
  exact ⟨rfl, bb3.trans (b9.mono bb3.size)⟩

set_option maxRecDepth 100000 in
set_option maxHeartbeats 4000000 in
theorem bitLong_long3 (o n : Int) (w : World) (h1 : o = 1) (hr : (IntKind.u64.wrap n).tmod 4 = 3) :
    Calls Try.prog 7 #[.int .i64 o, .int .i64 n] w fun e w' => e = .returned (.bool true) ∧ Below w.heap.size w w' := by
  obtain ⟨i0, hi, hz0, hz1, hz2⟩ := info_parts infoU8
  obtain ⟨j0, hj, hy0, hy1, hy2⟩ := info_parts infoI64
  obtain ⟨Zs, lZ, hZ, bZ⟩ := zeros (4096 + o).toNat
  obtain ⟨Ls, lL, hL, bL⟩ := zeros (8 * Zs.length)
  have e0 : 4096 + o = (Zs.length : Int) := by omega
  have e1 : 32768 + 8 * o = (Ls.length : Int) := by omega
  have d0 : decide (o < -1) = false := by simp; omega
  have d1 : decide (1 < o) = false := by simp; omega
  have d2 : decide (0 < o) = true := by simp; omega
  have hm1 : 4095 ≤ Zs.length := by omega
  have hm2 : Zs.length ≤ 4097 := by omega
  have hm3 : 4096 < Zs.length := by omega
  have HLL : Hid (Ls.length = 8 * Zs.length) := lL
  have HZ : Hid (Zs = List.replicate Zs.length 0) := hZ
  have HL : Hid (Ls = List.replicate Ls.length 0) := hL
  have HBZ : Hid (∀ z ∈ Zs, 0 ≤ z ∧ z < 2) := bZ
  have HB8 : Hid (∀ z ∈ Zs, 0 ≤ z ∧ z ≤ 255) := fun z h => by have := bZ z h; omega
  have HBL : Hid (∀ z ∈ Ls, 0 ≤ z ∧ z < 2) := bL
  have hl1 : Ls.length ≤ 32776 := by omega
  clear lL hZ hL bZ bL lZ h1
  go_enter Try.func7, Try.ntmps7
  go_wp2_with first | (at_make; refine wpList_make_full _ rfl _ _ 22 rfl w.heap.size 5 i0 (.int .u8 0) 1 Try.underlying22 hi hz0 hz1 .i64 .i64 _ _ Zs.length rfl rfl rfl rfl (by rw [hz2]; omega) (by unfold maxLen; omega) (Nat.le_refl _) ?_; intro w1 hown1 hgrow1) | (at_make; have hgs := hgrow1.1; refine wpList_make_full _ rfl _ _ 23 rfl w1.heap.size 3 j0 (.int .i64 0) 1 Try.underlying23 hj hy0 hy1 .i64 .i64 _ _ Ls.length rfl rfl rfl rfl (by rw [hy2]; omega) (by unfold maxLen; omega) (Nat.le_refl _) ?_; intro w2 hown2 hgrow2)
  have b1 : Below w.heap.size w w1 := (Below.refl _ w).grown hgrow1 (Nat.le_refl _) (fun k e => by cases e)
  have b2 : Below w1.heap.size w1 w2 := (Below.refl _ w1).grown hgrow2 (Nat.le_refl _) (fun k e => by cases e)
  have z2 : Holds .i64 w2.heap.size w2 (.slice (some ⟨w1.heap.size, 0, none⟩) Ls.length Ls.length) Ls := holds_of_row (made_row HL.out hown2)
  have bb2 : Below w.heap.size w w2 := b1.trans (b2.mono b1.size)
  clear hown1 hgrow1 hown2 hgrow2 b1 b2
  refine (pack_len _ _ _ (.inl (by have := HLL.out; omega)) _).mono ?_
  rintro e w' ⟨rfl, rfl⟩
  go_wp2_with fail
  refine (wakes_any _).mono ?_
  rintro e W9 ⟨rfl, b9⟩
  go_wp2
  go_ret
  exact ⟨rfl, bb2.trans (b9.mono bb2.size)⟩

/-- The law, of whatever two numbers. -/
theorem bitLong_walk (o n : Int) (w : World) :
    Calls Try.prog 7 #[.int .i64 o, .int .i64 n] w fun e w' => e = .returned (.bool true) ∧ Below w.heap.size w w' := by
  by_cases h : o < -1 ∨ 1 < o
  · exact bitLong_out o n w h
  · by_cases h1 : o ≤ 0
    · rcases which_mod n with hr | hr | hr | hr
      · exact bitLong_fits0 o n w (by omega) h1 hr
      · exact bitLong_fits1 o n w (by omega) h1 hr
      · exact bitLong_fits2 o n w (by omega) h1 hr
      · exact bitLong_fits3 o n w (by omega) h1 hr
    · rcases which_mod n with hr | hr | hr | hr
      · exact bitLong_long0 o n w (by omega) hr
      · exact bitLong_long1 o n w (by omega) hr
      · exact bitLong_long2 o n w (by omega) hr
      · exact bitLong_long3 o n w (by omega) hr

end Go.Proofs.Ytnbfgngeienecaa
