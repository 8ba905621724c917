/-
  SatExact, SatStays, SatMany: the walks: whatever the numbers, the laws answer true, and nothing that lay has turned.
-/
import Derived.Test.YtgfepnaikannbaaSatCode
import Derived.BigQuiet
namespace Go.Proofs.Ytgfepnaikannbaa
open Go.RowKit

theorem at_placeS (at_ d : Int) (hd : 0 < d) : ∃ p : Nat, (p : Int) < d ∧ (IntKind.u64.wrap at_).tmod d = (p : Int) := by
  have h0 : 0 ≤ IntKind.u64.wrap at_ := by rw [IntKind.wrap_u64]; omega
  have h1 := Int.tmod_nonneg d h0
  have h2 := Int.tmod_lt_of_pos (IntKind.u64.wrap at_) hd
  exact ⟨((IntKind.u64.wrap at_).tmod d).toNat, by omega, by omega⟩

set_option maxHeartbeats 1000000 in
theorem satWakes_any (w : World) : Calls Try.prog 8 #[] w fun e w' => e = .returned (.bool true) ∧ w = w' := by
  have H1 := SatAdd_any 1073741824 1 w
  have H2 := SatAdd_any 2 3 w
  rw [show satN 1073741824 1 = 1073741824 by decide] at H1
  rw [show satN 2 3 = 5 by decide] at H2
  go_enter Try.func8, Try.ntmps8
  go_wp2_with fail
  refine H1.mono ?_
  rintro e w1 ⟨rfl, rfl⟩
  go_wp2_with fail
  refine H2.mono ?_
  rintro e w1 ⟨rfl, rfl⟩
  go_wp2
  go_ret
  exact ⟨rfl, rfl⟩

set_option maxHeartbeats 1000000 in
theorem satExact_walk (n m : Int) (w : World) :
    Calls Try.prog 3 #[.int .i64 n, .int .i64 m] w fun e w' => e = .returned (.bool true) ∧ Below w.heap.size w w' := by
  have H1 := SatAdd_any n m w
  have H2 := refSat_any n m w
  have H3 := satWakes_any w
  obtain ⟨D, hD⟩ : ∃ D, satN n m = D := ⟨_, rfl⟩
  rw [hD] at H1 H2
  have dD : (D == D) = true := by simp
  clear hD
  go_enter Try.func3, Try.ntmps3
  go_wp2_with fail
  refine H1.mono ?_
  rintro e w1 ⟨rfl, rfl⟩
  go_wp2_with fail
  refine H2.mono ?_
  rintro e w1 ⟨rfl, rfl⟩
  go_wp2_with fail
  refine H3.mono ?_
  rintro e w1 ⟨rfl, rfl⟩
  go_wp2
  go_ret
  exact ⟨rfl, Below.refl _ _⟩

set_option maxHeartbeats 2000000 in
theorem satStays_walk (x a b : Int) (w : World) :
    Calls Try.prog 4 #[.int .i64 x, .int .i64 a, .int .i64 b] w fun e w' => e = .returned (.bool true) ∧ Below w.heap.size w w' := by
  obtain ⟨p, hp, et⟩ := at_placeS x 1073741825 (by decide)
  obtain ⟨n, hn⟩ : ∃ n : Int, (p : Int) = n := ⟨_, rfl⟩
  have h0 : 0 ≤ n := by omega
  have h1 : n ≤ 1073741824 := by omega
  rw [hn] at et
  have A1 := SatAdd_any n a w
  have A2 := SatAdd_any n 0 w
  have A3 := SatAdd_any a n w
  have A4 := SatAdd_any (satN n a) b w
  have A5 := SatAdd_any n b w
  have A6 := SatAdd_any (satN n b) a w
  have A7 := SatAdd_any 1073741824 a w
  have AW := satWakes_any w
  rw [satN_zero h0 h1] at A2
  rw [satN_comm a n] at A3
  rw [satN_two n b a] at A6
  rw [satN_top] at A7
  have hge := satN_ge h0 h1 a
  have hle := (satN_bd n a).2
  obtain ⟨D, hD⟩ : ∃ D, satN n a = D := ⟨_, rfl⟩
  rw [hD] at A1 A3 A4 A6 hge hle
  obtain ⟨E, hE⟩ : ∃ E, satN D b = E := ⟨_, rfl⟩
  rw [hE] at A4 A6
  obtain ⟨F, hF⟩ : ∃ F, satN n b = F := ⟨_, rfl⟩
  rw [hF] at A5 A6
  have d1 : decide (D < n) = false := decide_eq_false (by omega)
  have d2 : decide (1073741824 < D) = false := decide_eq_false (by omega)
  have d3 : (n != n) = false := by simp
  have d4 : (D != D) = false := by simp
  have d5 : (E == E) = true := by simp
  clear hD hE hF hge hle hn hp
  go_enter Try.func4, Try.ntmps4
  go_wp2_with fail
  refine A1.mono ?_
  rintro e w1 ⟨rfl, rfl⟩
  go_wp2_with fail
  refine A2.mono ?_
  rintro e w1 ⟨rfl, rfl⟩
  go_wp2_with fail
  refine A1.mono ?_
  rintro e w1 ⟨rfl, rfl⟩
  go_wp2_with fail
  refine A3.mono ?_
  rintro e w1 ⟨rfl, rfl⟩
  go_wp2_with fail
  refine A1.mono ?_
  rintro e w1 ⟨rfl, rfl⟩
  go_wp2_with fail
  refine A4.mono ?_
  rintro e w1 ⟨rfl, rfl⟩
  go_wp2_with fail
  refine A5.mono ?_
  rintro e w1 ⟨rfl, rfl⟩
  go_wp2_with fail
  refine A6.mono ?_
  rintro e w1 ⟨rfl, rfl⟩
  go_wp2_with fail
  refine A7.mono ?_
  rintro e w1 ⟨rfl, rfl⟩
  go_wp2_with fail
  refine AW.mono ?_
  rintro e w1 ⟨rfl, rfl⟩
  go_wp2
  go_ret
  exact ⟨rfl, Below.refl _ _⟩

set_option maxHeartbeats 2000000 in
theorem satMany_walk (x y : Int) (w : World) :
    Calls Try.prog 5 #[.int .i64 x, .int .i64 y] w fun e w' => e = .returned (.bool true) ∧ Below w.heap.size w w' := by
  obtain ⟨p, hp, et⟩ := at_placeS x 4000 (by decide)
  obtain ⟨k, hk, ek⟩ := at_placeS y 2000 (by decide)
  obtain ⟨n, hn⟩ : ∃ n : Int, 1073741824 - (p : Int) = n := ⟨_, rfl⟩
  have h0 : 0 ≤ n := by omega
  have h1 : n ≤ 1073741824 := by omega
  have hk' : k < 2000 := by omega
  have AW := satWakes_any w
  have AE := SatAdd_any n (k : Int) w
  have HE : Hid (satN n (k : Int) = min (n + k) 1073741824) := satN_many h0 h1 (by omega)
  have HZ : Hid (n = satN n ((0 : Nat) : Int)) := (satN_zero h0 h1).symm
  clear hp hk
  go_enter Try.func5, Try.ntmps5
  go_wp2_with fail
  go_loop [5, 6] (fun s i => ∃ j : Nat, j ≤ k ∧ i = .int .i64 j ∧ s = .int .i64 (satN n (j : Int))) (fun _ i => k - (intOf i).toNat)
  case atStart => exact ⟨0, Nat.zero_le _, rfl, by rw [← HZ.out]⟩
  case round =>
    obtain ⟨j, hj, rfl, rfl⟩ := hrel
    by_cases hlt : j < k
    · have dl : decide ((j : Int) < (k : Int)) = true := decide_eq_true (by omega)
      have dl' : decide (j < k) = true := decide_eq_true hlt
      have A1 := SatAdd_any (satN n (j : Int)) 1 w
      rw [satN_next h0 h1 (by omega)] at A1
      obtain ⟨D, hD⟩ : ∃ D, satN n (j : Int) = D := ⟨_, rfl⟩
      rw [hD] at A1 ⊢
      clear hD
      go_wp2_with fail
      refine A1.mono ?_
      rintro e w1 ⟨rfl, rfl⟩
      go_wp2
      go_round
      case rel => exact ⟨j + 1, by omega, by go_num, rfl⟩
      case measure => simp [intOf]; omega
    · obtain rfl : j = k := by omega
      have dl : decide ((j : Int) < (j : Int)) = false := decide_eq_false (by omega)
      have dl' : decide (j < j) = false := decide_eq_false (by omega)
      rw [HE.out] at AE ⊢
      obtain ⟨D, hD⟩ : ∃ D : Int, min (n + j) 1073741824 = D := ⟨_, rfl⟩
      have dD : (D == D) = true := by simp
      rw [hD] at AE ⊢
      clear hlt HE HZ
      go_wp2_with fail
      refine AE.mono ?_
      rintro e w1 ⟨rfl, rfl⟩
      go_wp2_with fail
      refine AW.mono ?_
      rintro e w1 ⟨rfl, rfl⟩
      go_wp2
      go_ret
      exact ⟨rfl, Below.refl _ _⟩

end Go.Proofs.Ytgfepnaikannbaa
