/-
  What the statements' own number answers: the number that a row of 0 and 1 spells.
-/
import Derived.Test.YtplobmkfmflkaaaRefCrc
import Derived.Deep.QuietTactic
import Derived.BigQuiet
namespace Go.Proofs.Ytplobmkfmflkaaa
open Go.RowKit

theorem or_bit (n x : Nat) (hx : x < 2) : n * 2 ||| x = 2 * n + x := by
  apply Nat.eq_of_testBit_eq
  intro i
  rw [Nat.testBit_or]
  obtain rfl | rfl : x = 0 ∨ x = 1 := by omega
  · simp [Nat.mul_comm]
  · cases i with
    | zero => simp [Nat.testBit_zero]
    | succ i =>
      rw [Nat.testBit_succ, Nat.testBit_succ, Nat.testBit_succ, show n * 2 / 2 = n by omega, show (2 * n + 1) / 2 = n by omega]
      simp

theorem zi_or (a b : Nat) (ha : a < 2 ^ 62) (hb : b < 2 ^ 62) : bits .or .i64 (a : Int) (b : Int) = ((a ||| b : Nat) : Int) :=
  (bits_nat .i64 63 (by decide) zi_wrap a b (by omega) (by omega)).2

set_option maxRecDepth 100000 in
set_option maxHeartbeats 2000000 in
theorem number_any (v : Value) (zs : List Int) (hl : zs.length ≤ 40) (hb : Bin zs) (n₀ : Nat) (w : World) (ha : Holds .i64 n₀ w v zs) :
    Calls Try.prog 26 #[v] w fun e w' => e = .returned (.int .i64 (val zs : Int)) ∧ ∃ q, w' = w.drewN q := by
  obtain ⟨a, cap, rfl⟩ := ha.shape
  go_enter Try.func26, Try.ntmps26
  go_wp2
  go_loopw [3, 4] (fun v i wr => ∃ k : Nat, k ≤ zs.length ∧ i = .int .i64 k ∧ v = .int .i64 ((val (zs.take k) : Nat) : Int) ∧ ∃ q, wr = w.drewN q) (fun _ i _ => zs.length - (intOf i).toNat)
  case atStart => exact ⟨0, Nat.zero_le _, rfl, rfl, 0, rfl⟩
  case round =>
    obtain ⟨k, hk, rfl, rfl, q, rfl⟩ := hrel
    by_cases hlt : k < zs.length
    · obtain ⟨z, hzk⟩ : ∃ z, zs[k]? = some z := ⟨zs[k], by simp⟩
      rcases ha with ⟨_, e⟩ | ⟨b, off, cap', e, hbb, hcs⟩
      · rw [e] at hlt; exact absurd hlt (by simp)
      · cases e
        have c1 : ∀ p, (w.drewN p).cell? ⟨b, off + k, none⟩ = some (.int .i64 z) := fun p => (hcs k hlt).trans (by rw [hzk]; rfl)
        have h01 := hb.get hzk
        obtain ⟨x, rfl, hx2⟩ : ∃ x : Nat, z = (x : Int) ∧ x < 2 := by rcases h01 with rfl | rfl; exact ⟨0, rfl, by decide⟩; exact ⟨1, rfl, by decide⟩
        have hv : val (zs.take k) < 2 ^ 40 := Nat.lt_of_lt_of_le (val_lt (hb.take k)) (Nat.pow_le_pow_right (by omega) (by rw [List.length_take]; omega))
        have HN : Hid (val (zs.take (k + 1)) = 2 * val (zs.take k) + x) := by
          have : zs.take (k + 1) = zs.take k ++ [(x : Int)] := by rw [List.take_add_one, hzk]; rfl
          exact (congrArg val this).trans (val_snoc _ _)
        obtain ⟨n, hn⟩ : ∃ n, val (zs.take k) = n := ⟨_, rfl⟩
        rw [hn] at hv HN ⊢
        have e1 : bits .and .i64 (x : Int) 1 = (x : Int) := by rw [zi_and1 x (by omega), Nat.mod_eq_of_lt hx2]
        have e2 : bits .or .i64 ((n : Int) * 2) (x : Int) = ((2 * n + x : Nat) : Int) := by
          have := zi_or (n * 2) x (by omega) (by omega)
          rw [or_bit n x hx2] at this
          rwa [show ((n * 2 : Nat) : Int) = (n : Int) * 2 by omega] at this
        have hn40 : n < 1099511627776 := hv
        obtain ⟨m, hm⟩ : ∃ m, 2 * n + x = m := ⟨_, rfl⟩
        rw [hm] at e2 HN
        clear hcs hzk hn h01 hv hm
        go_wp2
        go_roundw
        case rel => exact ⟨k + 1, by omega, by go_num, by rw [HN.out], q, rfl⟩
        case measure => simp [intOf]; omega
    · obtain rfl : k = zs.length := by omega
      have HV : Hid (val (zs.take zs.length) = val zs) := congrArg val List.take_length
      clear ha hlt hk
      go_wp2
      go_ret
      exact ⟨by rw [← HV.out]; rfl, q, rfl⟩

end Go.Proofs.Ytplobmkfmflkaaa
