/-
  What symbol.Of and State answer.
-/
import Derived.Test.YtddcloanbpkecaaDoorSymbolNums
import Derived.Test.YtddcloanbpkecaaDoorMixCode
import Derived.Test.YtddcloanbpkecaaDoorSteps
namespace Go.Proofs.YtddcloanbpkecaaDoor
open Go.RowKit

set_option maxRecDepth 100000 in
set_option maxHeartbeats 1000000 in
theorem Of_ok (s i : Nat) (_ : s < 4294967296) (hi : i ≤ 255) (w : World) : Calls Tryd.prog 84 #[.int .u32 s, .int .i64 i] w fun e w' => e = .returned (.tuple #[.int .i64 ((symN s i : Nat) : Int), .int .i64 0]) ∧ w = w' := by
  have g0 : decide ((i : Int) < 0) = false := decide_eq_false (by omega)
  have g1 : decide (255 < (i : Int)) = false := decide_eq_false (by omega)
  by_cases h : i < 4
  · have HR : Hid (symN s i = s / 2 ^ (8 * i) % 256) := symN_low h
    have ed : (s : Int) / 2 ^ (8 * i) = ((s / 2 ^ (8 * i) : Nat) : Int) := by simp
    have hle : s / 2 ^ (8 * i) ≤ s := Nat.div_le_self _ _
    obtain ⟨y, hy⟩ : ∃ y, s / 2 ^ (8 * i) = y := ⟨_, rfl⟩
    rw [hy] at ed hle HR
    clear hy
    go_enter Tryd.func84, Tryd.ntmps84
    go_wp2
    go_ret2
    exact ⟨by rw [HR.out]; rfl, rfl⟩
  · have HR : Hid (symN s i = mixN ((s + i * 2654435769) % 4294967296) % 256) := symN_high h
    have e1 : IntKind.u32.wrap (i : Int) = (i : Int) := by rw [IntKind.wrap_u32]; omega
    have e2 : IntKind.u32.wrap ((i : Int) * 2654435769) = ((i * 2654435769 % 4294967296 : Nat) : Int) := by
      have := zu32_mod (i * 2654435769)
      rwa [show ((i * 2654435769 : Nat) : Int) = (i : Int) * 2654435769 by omega] at this
    have e3 : IntKind.u32.wrap ((s : Int) + ((i * 2654435769 % 4294967296 : Nat) : Int)) = (((s + i * 2654435769) % 4294967296 : Nat) : Int) := by rw [IntKind.wrap_u32]; omega
    obtain ⟨x, hx⟩ : ∃ x, (s + i * 2654435769) % 4294967296 = x := ⟨_, rfl⟩
    have hxl : x < 4294967296 := by omega
    rw [hx] at e3 HR
    obtain ⟨y, hy⟩ : ∃ y, i * 2654435769 % 4294967296 = y := ⟨_, rfl⟩
    have hyl : y < 4294967296 := by omega
    rw [hy] at e2 e3
    have hm := mixN_lt x
    have HM := Mix_any x hxl w
    obtain ⟨y', hy'⟩ : ∃ y', mixN x = y' := ⟨_, rfl⟩
    rw [hy'] at hm HR HM
    clear hx hy hy'
    go_enter Tryd.func84, Tryd.ntmps84
    go_wp2_with fail
    refine HM.mono ?_
    rintro e w1 ⟨rfl, rfl⟩
    go_wp2
    go_ret2
    exact ⟨by rw [HR.out]; rfl, rfl⟩

set_option maxRecDepth 100000 in
set_option maxHeartbeats 1000000 in
theorem Of_arg (s : Nat) (i : Int) (h : i < 0 ∨ 255 < i) (w : World) : Calls Tryd.prog 84 #[.int .u32 s, .int .i64 i] w fun e w' => e = .returned (.tuple #[.int .i64 0, .int .i64 1]) ∧ w = w' := by
  by_cases h0 : i < 0
  · clear h
    go_enter Tryd.func84, Tryd.ntmps84
    go_wp2
    go_ret2
    exact ⟨rfl, rfl⟩
  · have h1 : 255 < i := by omega
    clear h
    go_enter Tryd.func84, Tryd.ntmps84
    go_wp2
    go_ret2
    exact ⟨rfl, rfl⟩

theorem or_shift (a z k : Nat) (ha : a < 2 ^ k) : a ||| 2 ^ k * z = a + 2 ^ k * z := by
  rw [Nat.add_comm, Nat.or_comm]
  exact (Nat.two_pow_add_eq_or_of_lt ha z).symm

end Go.Proofs.YtddcloanbpkecaaDoor
