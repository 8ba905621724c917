/-
  SymbolExact, SymbolUnlike: whatever the numbers, each law answers true, and nothing that lay has turned.
-/
import Derived.Test.YtanglpjledfbmaaSymbolWakes
import Derived.Test.YtanglpjledfbmaaRefSymbol
import Derived.Test.YtanglpjledfbmaaPlaces
namespace Go.Proofs.Ytanglpjledfbmaa
open Go.RowKit

set_option maxRecDepth 100000 in
set_option maxHeartbeats 2000000 in
theorem symbolExact_ok (s i : Nat) (hs : s < 4294967296) (hi : i ≤ 255) (w : World) : Calls Try.prog 3 #[.int .u32 s, .int .i64 i] w fun e w' => e = .returned (.bool true) ∧ Below w.heap.size w w' := by
  have hy := symN_lt s i
  have g0 : decide ((i : Int) < 0) = false := decide_eq_false (by omega)
  have g1 : decide (255 < (i : Int)) = false := decide_eq_false (by omega)
  obtain ⟨y, hye⟩ : ∃ y, symN s i = y := ⟨_, rfl⟩
  have HY : Hid (symN s i = y) := hye
  rw [hye] at hy
  have q : ((y : Int) == (y : Int)) = true := by simp
  have q0 : decide (0 ≤ (y : Int)) = true := decide_eq_true (by omega)
  have q1 : decide ((y : Int) ≤ 255) = true := decide_eq_true (by omega)
  clear hye
  go_enter Try.func3, Try.ntmps3
  go_wp2_with fail
  refine (Of_ok s i hs hi w).mono ?_
  rw [HY.out]
  rintro e w1 ⟨rfl, rfl⟩
  go_wp2_with fail
  refine (refSymbol_any s i hs (by omega) w).mono ?_
  rw [HY.out]
  rintro e w1 ⟨rfl, rfl⟩
  go_wp2_with fail
  refine (symbolWakes_any w).mono ?_
  rintro e w1 ⟨rfl, hw⟩
  go_wp2
  go_ret
  exact ⟨rfl, hw⟩

set_option maxRecDepth 100000 in
set_option maxHeartbeats 2000000 in
theorem symbolExact_arg (s : Nat) (i : Int) (h : i < 0 ∨ 255 < i) (w : World) : Calls Try.prog 3 #[.int .u32 s, .int .i64 i] w fun e w' => e = .returned (.bool true) ∧ Below w.heap.size w w' := by
  by_cases h0 : i < 0
  · clear h
    go_enter Try.func3, Try.ntmps3
    go_wp2_with fail
    refine (Of_arg s i (.inl h0) w).mono ?_
    rintro e w1 ⟨rfl, rfl⟩
    go_wp2_with fail
    refine (symbolWakes_any w).mono ?_
    rintro e w1 ⟨rfl, hw⟩
    go_wp2
    go_ret
    exact ⟨rfl, hw⟩
  · have h1 : 255 < i := by omega
    clear h
    go_enter Try.func3, Try.ntmps3
    go_wp2_with fail
    refine (Of_arg s i (.inr h1) w).mono ?_
    rintro e w1 ⟨rfl, rfl⟩
    go_wp2_with fail
    refine (symbolWakes_any w).mono ?_
    rintro e w1 ⟨rfl, hw⟩
    go_wp2
    go_ret
    exact ⟨rfl, hw⟩

theorem symbolExact_walk (a0 a1 : Int) (h0 : (Lit.int .u32 a0).wf = true) (w : World) : Calls Try.prog 3 #[.int .u32 a0, .int .i64 a1] w fun e w' => e = .returned (.bool true) ∧ Below w.heap.size w w' := by
  have h0 := bounds_u32 h0
  obtain ⟨s, rfl⟩ := Int.eq_ofNat_of_zero_le h0.1
  by_cases h : a1 < 0 ∨ 255 < a1
  · exact symbolExact_arg s a1 h w
  · obtain ⟨i, rfl⟩ := Int.eq_ofNat_of_zero_le (a := a1) (by omega)
    exact symbolExact_ok s i (by omega) (by omega) w

/-- Are the first k symbols the same? -/
def sameTo (s t k : Nat) : Bool := decide (∀ i, i < k → symN s i = symN t i)
theorem sameTo_next (s t k : Nat) : sameTo s t (k + 1) = (sameTo s t k && ((symN s k : Int) == (symN t k : Int))) := by
  unfold sameTo
  by_cases h : ∀ i, i < k → symN s i = symN t i
  · rw [decide_eq_true h, Bool.true_and]
    by_cases e : symN s k = symN t k
    · rw [e, decide_eq_true (fun i hi => by by_cases hk : i = k; subst hk; exact e; exact h i (by omega))]
      simp
    · rw [decide_eq_false (fun g => e (g k (by omega))), eq_comm, beq_eq_false_iff_ne]
      omega
  · rw [decide_eq_false h, decide_eq_false (fun g => h fun i hi => g i (by omega)), Bool.false_and]
theorem sameTo_four {s t : Nat} (hs : s < 4294967296) (ht : t < 4294967296) : sameTo s t 4 = ((s : Int) == (t : Int)) := by
  unfold sameTo
  by_cases e : s = t
  · subst e; simp
  · rw [decide_eq_false (fun g => e (four_inj hs ht g)), eq_comm, beq_eq_false_iff_ne]
    omega

set_option maxRecDepth 100000 in
set_option maxHeartbeats 4000000 in
theorem symbolUnlike_any (s t : Nat) (hs : s < 4294967296) (ht : t < 4294967296) (n : Int) (w : World) : Calls Try.prog 5 #[.int .u32 s, .int .u32 t, .int .i64 n] w fun e w' => e = .returned (.bool true) ∧ Below w.heap.size w w' := by
  obtain ⟨p, hp, et⟩ := at_place n 252 (by decide)
  go_enter Try.func5, Try.ntmps5
  go_wp2
  go_loop [7, 8] (fun v i => ∃ k : Nat, k ≤ 4 ∧ i = .int .i64 k ∧ v = .bool (sameTo s t k)) (fun _ i => 4 - (intOf i).toNat)
  case atStart => exact ⟨0, by omega, rfl, by rw [show sameTo s t 0 = true from decide_eq_true (fun i hi => by omega)]⟩
  case round =>
    obtain ⟨k, hk, rfl, rfl⟩ := hrel
    by_cases hlt : k < 4
    · have HN : Hid _ := sameTo_next s t k
      obtain ⟨c, hc⟩ : ∃ c, sameTo s t k = c := ⟨_, rfl⟩
      obtain ⟨x, hx⟩ : ∃ x, symN s k = x := ⟨_, rfl⟩
      obtain ⟨y, hy⟩ : ∃ y, symN t k = y := ⟨_, rfl⟩
      have HX : Hid (symN s k = x) := hx
      have HY : Hid (symN t k = y) := hy
      rw [hc, hx, hy] at HN
      rw [hc]
      clear hc hx hy
      cases c with
      | false =>
        go_wp2_with fail
        refine (Of_ok s k hs (by omega) w).mono ?_
        rw [HX.out]
        rintro e w1 ⟨rfl, rfl⟩
        go_wp2_with fail
        refine (Of_ok t k ht (by omega) w).mono ?_
        rw [HY.out]
        rintro e w1 ⟨rfl, rfl⟩
        go_wp2
        go_round
        case rel => exact ⟨k + 1, by omega, by go_num, by rw [HN.out]; rfl⟩
        case measure => simp [intOf]; omega
      | true =>
        go_wp2_with fail
        refine (Of_ok s k hs (by omega) w).mono ?_
        rw [HX.out]
        rintro e w1 ⟨rfl, rfl⟩
        go_wp2_with fail
        refine (Of_ok t k ht (by omega) w).mono ?_
        rw [HY.out]
        rintro e w1 ⟨rfl, rfl⟩
        go_wp2
        go_round
        case rel => exact ⟨k + 1, by omega, by go_num, by rw [HN.out, Bool.true_and]⟩
        case measure => simp [intOf]; omega
    · obtain rfl : k = 4 := by omega
      have HS : Hid _ := sameTo_four hs ht
      rw [HS.out]
      obtain ⟨c, hc⟩ : ∃ c, ((s : Int) == (t : Int)) = c := ⟨_, rfl⟩
      rw [hc]
      have qc : (c != c) = false := by simp
      have hp2 : p < 252 := by omega
      have HR : Hid (symN s (4 + p) = mixN ((s + (4 + p) * 2654435769) % 4294967296) % 256) := symN_high (by omega)
      have e0 : (4 : Int) + (p : Int) = ((4 + p : Nat) : Int) := by omega
      obtain ⟨i, hi⟩ : ∃ i, 4 + p = i := ⟨_, rfl⟩
      have hi2 : i ≤ 255 := by omega
      rw [hi] at HR e0
      have e1 : IntKind.u32.wrap (i : Int) = (i : Int) := by rw [IntKind.wrap_u32]; omega
      have e2 : IntKind.u32.wrap ((i : Int) * 2654435769) = ((i * 2654435769 % 4294967296 : Nat) : Int) := by
        have := zu32_mod (i * 2654435769)
        rwa [show ((i * 2654435769 : Nat) : Int) = (i : Int) * 2654435769 by omega] at this
      have e3 : IntKind.u32.wrap ((s : Int) + ((i * 2654435769 % 4294967296 : Nat) : Int)) = (((s + i * 2654435769) % 4294967296 : Nat) : Int) := by rw [IntKind.wrap_u32]; omega
      obtain ⟨x, hx⟩ : ∃ x, (s + i * 2654435769) % 4294967296 = x := ⟨_, rfl⟩
      have hxl : x < 4294967296 := by omega
      rw [hx] at e3 HR
      obtain ⟨y, hy⟩ : ∃ y, i * 2654435769 % 4294967296 = y := ⟨_, rfl⟩
      have hyl : y < 4294967296 := by omega
      rw [hy] at e2 e3
      have hm := mixN_lt x
      have ea : bits .and .u32 ((mixN x : Nat) : Int) 255 = ((mixN x % 256 : Nat) : Int) := zu32_and255 _ hm
      obtain ⟨z, hz⟩ : ∃ z, mixN x % 256 = z := ⟨_, rfl⟩
      have hzl : z < 256 := by omega
      rw [hz] at ea HR
      have qz : ((z : Int) == (z : Int)) = true := by simp
      clear hx hy hz HS hi hlt hk
      go_wp2_with fail
      refine (Of_ok s i hs hi2 w).mono ?_
      rw [HR.out]
      rintro e w1 ⟨rfl, rfl⟩
      go_wp2_with fail
      refine (Mix_any x hxl w).mono ?_
      rintro e w1 ⟨rfl, rfl⟩
      go_wp2_with fail
      refine (symbolWakes_any w).mono ?_
      rintro e w1 ⟨rfl, hw⟩
      go_wp2
      go_ret
      exact ⟨rfl, hw⟩

theorem symbolUnlike_walk (a0 a1 a2 : Int) (h0 : (Lit.int .u32 a0).wf = true) (h1 : (Lit.int .u32 a1).wf = true) (w : World) : Calls Try.prog 5 #[.int .u32 a0, .int .u32 a1, .int .i64 a2] w fun e w' => e = .returned (.bool true) ∧ Below w.heap.size w w' := by
  have h0 := bounds_u32 h0
  have h1 := bounds_u32 h1
  obtain ⟨s, rfl⟩ := Int.eq_ofNat_of_zero_le h0.1
  obtain ⟨t, rfl⟩ := Int.eq_ofNat_of_zero_le h1.1
  exact symbolUnlike_any s t (by omega) (by omega) a2 w

end Go.Proofs.Ytanglpjledfbmaa
