/-
  The four laws over mix: whatever the numbers, each answers true; the world is as it was.
-/
import Derived.Test.YtelbfcakpjpljaaMixCode
import Derived.Test.YtelbfcakpjpljaaRefMix
namespace Go.Proofs.Ytelbfcakpjpljaa
open Go.RowKit

set_option maxRecDepth 100000 in
set_option maxHeartbeats 1000000 in
theorem mixWakes_any (w : World) : Calls Try.prog 9 #[] w fun e w' => e = .returned (.bool true) ∧ w = w' := by
  have h1 := mix_one
  have h2 := back_mix (x := 123456789) (by decide)
  have q1 : ((mixN 1 : Int) != 0) = true := by rw [bne_iff_ne]; omega
  obtain ⟨m, hm⟩ : ∃ m, mixN 123456789 = m := ⟨_, rfl⟩
  have hml := mixN_lt 123456789
  rw [hm] at h2 hml
  obtain ⟨a, ha⟩ : ∃ a, mixN 1 = a := ⟨_, rfl⟩
  rw [ha] at q1
  have HM : Hid (mixN 123456789 = m) := hm
  have HA : Hid (mixN 1 = a) := ha
  have HB : Hid (backN m = 123456789) := h2
  clear h1 h2 hm ha
  go_enter Try.func9, Try.ntmps9
  go_wp2_with fail
  refine (Mix_any 1 (by decide) w).mono ?_
  rw [HA.out]
  rintro e w1 ⟨rfl, rfl⟩
  go_wp2_with fail
  refine (Mix_any 123456789 (by decide) w).mono ?_
  rw [HM.out]
  rintro e w1 ⟨rfl, rfl⟩
  go_wp2_with fail
  refine (Back_any m hml w).mono ?_
  rw [HB.out]
  rintro e w1 ⟨rfl, rfl⟩
  go_wp2
  go_ret
  exact ⟨rfl, rfl⟩

set_option maxRecDepth 100000 in
set_option maxHeartbeats 1000000 in
theorem mixExact_any (x : Nat) (hx : x < 4294967296) (w : World) : Calls Try.prog 3 #[.int .u32 x] w fun e w' => e = .returned (.bool true) ∧ w = w' := by
  have q : ((mixN x : Int) == (mixN x : Int)) = true := by simp
  go_enter Try.func3, Try.ntmps3
  go_wp2_with fail
  refine (Mix_any x hx w).mono ?_
  rintro e w1 ⟨rfl, rfl⟩
  go_wp2_with fail
  refine (refMix_any x hx w).mono ?_
  rintro e w1 ⟨rfl, rfl⟩
  go_wp2_with fail
  refine (mixWakes_any w).mono ?_
  rintro e w1 ⟨rfl, rfl⟩
  go_wp2
  go_ret
  exact ⟨rfl, rfl⟩

set_option maxRecDepth 100000 in
set_option maxHeartbeats 1000000 in
theorem mixBack_any (x : Nat) (hx : x < 4294967296) (w : World) : Calls Try.prog 4 #[.int .u32 x] w fun e w' => e = .returned (.bool true) ∧ w = w' := by
  have q : ((x : Int) == (x : Int)) = true := by simp
  have HA : Hid _ := back_mix hx
  have HB : Hid _ := mix_back hx
  go_enter Try.func4, Try.ntmps4
  go_wp2_with fail
  refine (Mix_any x hx w).mono ?_
  rintro e w1 ⟨rfl, rfl⟩
  go_wp2_with fail
  refine (Back_any _ (mixN_lt x) w).mono ?_
  rw [HA.out]
  rintro e w1 ⟨rfl, rfl⟩
  go_wp2_with fail
  refine (Back_any x hx w).mono ?_
  rintro e w1 ⟨rfl, rfl⟩
  go_wp2_with fail
  refine (Mix_any _ (backN_lt x) w).mono ?_
  rw [HB.out]
  rintro e w1 ⟨rfl, rfl⟩
  go_wp2_with fail
  refine (mixWakes_any w).mono ?_
  rintro e w1 ⟨rfl, rfl⟩
  go_wp2
  go_ret
  exact ⟨rfl, rfl⟩

set_option maxRecDepth 100000 in
set_option maxHeartbeats 1000000 in
theorem mixUnlike_any (x y : Nat) (hx : x < 4294967296) (hy : y < 4294967296) (w : World) : Calls Try.prog 5 #[.int .u32 x, .int .u32 y] w fun e w' => e = .returned (.bool true) ∧ w = w' := by
  have q1 := mix_eq hx hy
  have q2 := back_eq hx hy
  obtain ⟨d, hd⟩ : ∃ d, ((x : Int) == (y : Int)) = d := ⟨_, rfl⟩
  rw [hd] at q1 q2
  go_enter Try.func5, Try.ntmps5
  go_wp2_with fail
  refine (Mix_any x hx w).mono ?_
  rintro e w1 ⟨rfl, rfl⟩
  go_wp2_with fail
  refine (Mix_any y hy w).mono ?_
  rintro e w1 ⟨rfl, rfl⟩
  go_wp2_with fail
  refine (Back_any x hx w).mono ?_
  rintro e w1 ⟨rfl, rfl⟩
  go_wp2_with fail
  refine (Back_any y hy w).mono ?_
  rintro e w1 ⟨rfl, rfl⟩
  go_wp2_with fail
  refine (mixWakes_any w).mono ?_
  rintro e w1 ⟨rfl, rfl⟩
  go_wp2
  go_ret
  exact ⟨rfl, rfl⟩

/-- So many times. -/
def mixes : Nat → Nat → Nat
  | 0, x => x
  | k + 1, x => mixN (mixes k x)
theorem mixes_lt {x : Nat} (hx : x < 4294967296) : ∀ k, mixes k x < 4294967296
  | 0 => hx
  | _ + 1 => mixN_lt _

theorem hundred (n : Int) : ∃ p : Nat, p < 100 ∧ (IntKind.u64.wrap n).tmod 100 = (p : Int) := by
  have h0 : 0 ≤ IntKind.u64.wrap n := by rw [IntKind.wrap_u64]; omega
  have h1 := Int.tmod_nonneg 100 h0
  have h2 := Int.tmod_lt_of_pos (IntKind.u64.wrap n) (show (0 : Int) < 100 by decide)
  exact ⟨((IntKind.u64.wrap n).tmod 100).toNat, by omega, by omega⟩

set_option maxRecDepth 100000 in
set_option maxHeartbeats 1000000 in
theorem mixChains_any (x : Nat) (hx : x < 4294967296) (n : Int) (w : World) : Calls Try.prog 6 #[.int .u32 x, .int .i64 n] w fun e w' => e = .returned (.bool true) ∧ w = w' := by
  obtain ⟨p, hp, et⟩ := hundred n
  have q : ((x : Int) == (x : Int)) = true := by simp
  go_enter Try.func6, Try.ntmps6
  go_wp2
  go_loop [5, 6] (fun v i => ∃ k : Nat, k ≤ p ∧ i = .int .i64 k ∧ v = .int .u32 ((mixes k x : Nat) : Int)) (fun _ i => p - (intOf i).toNat)
  case atStart => exact ⟨0, Nat.zero_le _, rfl, rfl⟩
  case round =>
    obtain ⟨k, hk, rfl, rfl⟩ := hrel
    by_cases hlt : k < p
    · go_wp2_with fail
      refine (Mix_any _ (mixes_lt hx k) w).mono ?_
      rintro e w1 ⟨rfl, rfl⟩
      go_wp2
      go_round
      case rel => exact ⟨k + 1, by omega, by go_num, rfl⟩
      case measure => simp [intOf]; omega
    · obtain rfl : k = p := by omega
      clear hlt hk
      go_wp2
      go_loop [5, 7] (fun v i => ∃ j : Nat, j ≤ k ∧ i = .int .i64 j ∧ v = .int .u32 ((mixes (k - j) x : Nat) : Int)) (fun _ i => k - (intOf i).toNat)
      case atStart => exact ⟨0, Nat.zero_le _, rfl, rfl⟩
      case round =>
        obtain ⟨j, hj, rfl, rfl⟩ := hrel
        by_cases hlt : j < k
        · have HB : Hid (backN (mixes (k - j) x) = mixes (k - (j + 1)) x) := by
            have e : k - j = k - (j + 1) + 1 := by omega
            show backN (mixes (k - j) x) = _
            rw [e]
            exact back_mix (mixes_lt hx _)
          go_wp2_with fail
          refine (Back_any _ (mixes_lt hx (k - j)) w).mono ?_
          rw [HB.out]
          rintro e w1 ⟨rfl, rfl⟩
          go_wp2
          go_round
          case rel => exact ⟨j + 1, by omega, by go_num, rfl⟩
          case measure => simp [intOf]; omega
        · obtain rfl : j = k := by omega
          have HZ : Hid (mixes (j - j) x = x) := by show mixes (j - j) x = x; rw [Nat.sub_self]; rfl
          rw [HZ.out]
          clear hlt hj
          go_wp2_with fail
          refine (mixWakes_any w).mono ?_
          rintro e w1 ⟨rfl, rfl⟩
          go_wp2
          go_ret
          exact ⟨rfl, rfl⟩

/-- The laws, of whatever numbers. -/
theorem mixExact_walk (a0 : Int) (h0 : (Lit.int .u32 a0).wf = true) (w : World) : Calls Try.prog 3 #[.int .u32 a0] w fun e w' => e = .returned (.bool true) ∧ Below w.heap.size w w' := by
  have h0 := bounds_u32 h0
  obtain ⟨x0, rfl⟩ := Int.eq_ofNat_of_zero_le h0.1
  refine (mixExact_any x0 (by omega) w).mono ?_
  rintro e w' ⟨rfl, rfl⟩
  exact ⟨rfl, Below.refl _ _⟩
theorem mixBack_walk (a0 : Int) (h0 : (Lit.int .u32 a0).wf = true) (w : World) : Calls Try.prog 4 #[.int .u32 a0] w fun e w' => e = .returned (.bool true) ∧ Below w.heap.size w w' := by
  have h0 := bounds_u32 h0
  obtain ⟨x0, rfl⟩ := Int.eq_ofNat_of_zero_le h0.1
  refine (mixBack_any x0 (by omega) w).mono ?_
  rintro e w' ⟨rfl, rfl⟩
  exact ⟨rfl, Below.refl _ _⟩
theorem mixUnlike_walk (a0 : Int) (a1 : Int) (h0 : (Lit.int .u32 a0).wf = true) (h1 : (Lit.int .u32 a1).wf = true) (w : World) : Calls Try.prog 5 #[.int .u32 a0, .int .u32 a1] w fun e w' => e = .returned (.bool true) ∧ Below w.heap.size w w' := by
  have h0 := bounds_u32 h0
  obtain ⟨x0, rfl⟩ := Int.eq_ofNat_of_zero_le h0.1
  have h1 := bounds_u32 h1
  obtain ⟨x1, rfl⟩ := Int.eq_ofNat_of_zero_le h1.1
  refine (mixUnlike_any x0 x1 (by omega) (by omega) w).mono ?_
  rintro e w' ⟨rfl, rfl⟩
  exact ⟨rfl, Below.refl _ _⟩
theorem mixChains_walk (a0 : Int) (a1 : Int) (h0 : (Lit.int .u32 a0).wf = true) (w : World) : Calls Try.prog 6 #[.int .u32 a0, .int .i64 a1] w fun e w' => e = .returned (.bool true) ∧ Below w.heap.size w w' := by
  have h0 := bounds_u32 h0
  obtain ⟨x0, rfl⟩ := Int.eq_ofNat_of_zero_le h0.1
  refine (mixChains_any x0 (by omega) a1 w).mono ?_
  rintro e w' ⟨rfl, rfl⟩
  exact ⟨rfl, Below.refl _ _⟩

end Go.Proofs.Ytelbfcakpjpljaa
