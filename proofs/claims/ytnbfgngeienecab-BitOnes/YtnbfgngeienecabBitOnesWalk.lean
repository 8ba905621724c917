/-
  BitOnes: the walk: whatever the two numbers, the law answers true, and nothing that lay has turned.
-/
import Derived.Test.YtnbfgngeienecabWakes
namespace Go.Proofs.Ytnbfgngeienecab
open Go.RowKit

theorem onesZ_nat (n : Nat) : onesZ (n : Int) = pcTo 32 n := by
  unfold onesZ
  rw [if_neg (by omega), Int.toNat_natCast]

theorem onesZ_le (n : Int) : onesZ n ≤ 32 := by
  unfold onesZ
  split
  · omega
  · exact pcTo_le _ _

/-- What the law asks of the counts. -/
theorem ones_facts (N K : Nat) (hN : N < 4294967296) (hK : K < 32) :
    pcTo 32 N = pcTo 32 (N % 65536) + pcTo 32 (N / 65536) ∧ pcTo 32 (N ||| 2 ^ K) = pcTo 32 (N &&& (2 ^ 64 - 1 - 2 ^ K)) + 1 ∧
      (pcTo 32 N = pcTo 32 (N ||| 2 ^ K) ∨ pcTo 32 N = pcTo 32 (N &&& (2 ^ 64 - 1 - 2 ^ K))) := by
  refine ⟨?_, pc_bit 32 N K hK (by decide), ?_⟩
  · rw [pcTo_low 16 32 (N % 65536) (by omega) (by decide), pcTo_low 16 32 (N / 65536) (by omega) (by decide)]
    have e := pcTo_add 16 16 N
    rw [Nat.shiftRight_eq_div_pow] at e
    rw [show (65536 : Nat) = 2 ^ 16 from rfl, pcTo_mod 16 N 16 (Nat.le_refl _)]
    exact e
  · rcases with_or_less N K (by omega) (by omega) with h | h
    · exact .inl (by rw [h])
    · exact .inr (by rw [h])

theorem pow_shift (K : Nat) (hK : K < 32) : ∃ P : Nat, P = 2 ^ K ∧ wrap64 (2 ^ K) = (P : Int) ∧ P < 4294967296 := by
  have h : 2 ^ K < 2 ^ 32 := Nat.pow_lt_pow_right (by omega) hK
  have c : ((2 : Int) ^ K) = ((2 ^ K : Nat) : Int) := by simp
  obtain ⟨P, hP⟩ : ∃ P : Nat, P = 2 ^ K := ⟨_, rfl⟩
  refine ⟨P, hP, ?_, by omega⟩
  rw [c, ← hP]
  rw [← hP] at h
  unfold wrap64
  omega

set_option maxRecDepth 100000 in
set_option maxHeartbeats 2000000 in
theorem bitOnes_walk (a0 a1 : Int) (w : World) :
    Calls Try.prog 3 #[.int .i64 a0, .int .i64 a1] w fun e w' => e = .returned (.bool true) ∧ Below w.heap.size w w' := by
  obtain ⟨N, e0, hN⟩ : ∃ N : Nat, bits .and .i64 a0 4294967295 = (N : Int) ∧ N < 4294967296 := ⟨(a0 % 4294967296).toNat, by rw [i64_low32]; omega, by omega⟩
  obtain ⟨K, e1, hK⟩ : ∃ K : Nat, wrap64 ((IntKind.u64.wrap a1).tmod 32) = (K : Int) ∧ K < 32 := by
    have hu : 0 ≤ IntKind.u64.wrap a1 := by simp [IntKind.wrap, IntKind.bits, IntKind.signed]; omega
    rw [Int.tmod_eq_emod_of_nonneg hu]
    refine ⟨(IntKind.u64.wrap a1 % 32).toNat, ?_, by omega⟩
    unfold wrap64
    omega
  have e2 : IntKind.u64.wrap (K : Int) = K := by simp [IntKind.wrap, IntKind.bits, IntKind.signed]; omega
  obtain ⟨P, hP, e3, hPl⟩ := pow_shift K hK
  obtain ⟨A, hA, e4⟩ : ∃ A : Nat, A = N ||| P ∧ bits .or .i64 (N : Int) (P : Int) = (A : Int) := ⟨_, rfl, i64_or N P (by omega) (by omega)⟩
  obtain ⟨B, hB, e5⟩ : ∃ B : Nat, B = N &&& (2 ^ 64 - 1 - P) ∧ bits .andNot .i64 (N : Int) (P : Int) = (B : Int) := ⟨_, rfl, i64_andNot N P (by omega) (by omega)⟩
  obtain ⟨C, hC, e6⟩ : ∃ C : Nat, C = N % 65536 ∧ bits .and .i64 (N : Int) 65535 = (C : Int) := ⟨_, rfl, by
    have e63 : (2 : Int) ^ 63 = 9223372036854775808 := by decide
    have e := i64_mask 16 (by decide) (N : Int) (by omega) (by rw [e63]; omega)
    simpa using e⟩
  obtain ⟨f1, f2, f3⟩ := ones_facts N K hN hK
  rw [← hP, ← hA, ← hB, ← hC] at *
  have hD : onesZ ((N : Int) / 65536) = pcTo 32 (N / 65536) := by
    have : ((N : Int) / 65536) = ((N / 65536 : Nat) : Int) := by simp
    rw [this, onesZ_nat]
  have hneg : onesZ (-1 - (N : Int)) = 0 := by unfold onesZ; rw [if_pos (by omega)]
  obtain ⟨n, hn⟩ : ∃ n, pcTo 32 N = n := ⟨_, rfl⟩
  obtain ⟨a, ha⟩ : ∃ n, pcTo 32 A = n := ⟨_, rfl⟩
  obtain ⟨b, hb⟩ : ∃ n, pcTo 32 B = n := ⟨_, rfl⟩
  obtain ⟨c, hc⟩ : ∃ n, pcTo 32 C = n := ⟨_, rfl⟩
  obtain ⟨d, hd⟩ : ∃ n, pcTo 32 (N / 65536) = n := ⟨_, rfl⟩
  have ln : n ≤ 32 := hn ▸ pcTo_le _ _
  have la : a ≤ 32 := ha ▸ pcTo_le _ _
  have lb : b ≤ 32 := hb ▸ pcTo_le _ _
  have lc : c ≤ 32 := hc ▸ pcTo_le _ _
  have ld : d ≤ 32 := hd ▸ pcTo_le _ _
  have gN : onesZ (N : Int) = n := (onesZ_nat N).trans hn
  have gA : onesZ (A : Int) = a := (onesZ_nat A).trans ha
  have gB : onesZ (B : Int) = b := (onesZ_nat B).trans hb
  have gC : onesZ (C : Int) = c := (onesZ_nat C).trans hc
  have gD : onesZ ((N : Int) / 65536) = d := hD.trans hd
  rw [hn, hc, hd] at f1
  rw [ha, hb] at f2
  rw [hn, ha, hb] at f3
  clear hn ha hb hc hd hD hP hA hB hC
  have t1 : ((n : Int) == (c : Int) + (d : Int)) = true := by rw [beq_iff_eq]; omega
  have t2 : ((a : Int) == (b : Int) + 1) = true := by rw [beq_iff_eq]; omega
  have F3 : Hid (n = a ∨ n = b) := f3
  clear f1 f2 f3
  go_enter Try.func3, Try.ntmps3
  go_wp2_with fail
  refine (ones_any _ _).mono ?_
  rintro e w1 ⟨rfl, q1, rfl⟩
  rw [gN]
  go_wp2_with fail
  refine (ones_any _ _).mono ?_
  rintro e w1 ⟨rfl, q2, rfl⟩
  rw [gC]
  go_wp2_with fail
  refine (ones_any _ _).mono ?_
  rintro e w1 ⟨rfl, q3, rfl⟩
  rw [gD]
  go_wp2_with fail
  refine (ones_any _ _).mono ?_
  rintro e w1 ⟨rfl, q4, rfl⟩
  rw [gA]
  go_wp2_with fail
  refine (ones_any _ _).mono ?_
  rintro e w1 ⟨rfl, q5, rfl⟩
  rw [gB]
  rcases F3.out with h3 | h3
  · have t3 : ((n : Int) == (a : Int)) = true := by rw [beq_iff_eq]; omega
    clear h3 F3
    go_wp2_with fail
    refine (refOnes_any _ _ (by omega)).mono ?_
    rintro e w1 ⟨rfl, rfl⟩
    rw [gN]
    go_wp2_with fail
    refine (ones_any _ _).mono ?_
    rintro e w1 ⟨rfl, q6, rfl⟩
    rw [hneg]
    go_wp2_with fail
    refine (wakes_any _).mono ?_
    rintro e w2 ⟨rfl, hw⟩
    go_wp2
    go_ret
    exact ⟨rfl, (below_drewN (Below.refl _ w) _).trans hw⟩
  · have t3 : ((n : Int) == (b : Int)) = true := by rw [beq_iff_eq]; omega
    have t4 : ((n : Int) == (a : Int)) = false := by rw [beq_iff_eq] at t2; rw [beq_eq_false_iff_ne]; omega
    clear h3 F3
    go_wp2_with fail
    refine (refOnes_any _ _ (by omega)).mono ?_
    rintro e w1 ⟨rfl, rfl⟩
    rw [gN]
    go_wp2_with fail
    refine (ones_any _ _).mono ?_
    rintro e w1 ⟨rfl, q6, rfl⟩
    rw [hneg]
    go_wp2_with fail
    refine (wakes_any _).mono ?_
    rintro e w2 ⟨rfl, hw⟩
    go_wp2
    go_ret
    exact ⟨rfl, (below_drewN (Below.refl _ w) _).trans hw⟩

end Go.Proofs.Ytnbfgngeienecab
