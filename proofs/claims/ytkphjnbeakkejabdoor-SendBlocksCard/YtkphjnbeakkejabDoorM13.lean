/-
  What mix.Mix and mix.Back answer.
-/
import Derived.Test.YtkphjnbeakkejabDoorM01
import Derived.Test.YtkphjnbeakkejabDoorM07
import Derived.Laws.BitsAllLaws
import Derived.WalkLawsBesides
import Derived.WalkSpells
namespace Go.Proofs.YtkphjnbeakkejabDoor
open Go.RowKit

set_option maxRecDepth 100000 in
set_option maxHeartbeats 1000000 in
theorem Mix_any (x : Nat) (hx : x < 4294967296) (w : World) :
    Calls Tryd.prog 88 #[.int .u32 x] w fun e w' => e = .returned (.int .u32 ((mixN x : Nat) : Int)) ∧ w = w' := by
  have d0 : (x : Int) / 65536 = ((x / 65536 : Nat) : Int) := by simp
  have e0 : bits .xor .u32 (x : Int) ((x / 65536 : Nat) : Int) = ((xs16 x : Nat) : Int) := zu32_xor _ _ hx (div_small hx)
  have hy0 := xs16_lt hx
  obtain ⟨q0, hq0⟩ : ∃ q, x / 65536 = q := ⟨_, rfl⟩
  obtain ⟨y0, g0⟩ : ∃ y, xs16 x = y := ⟨_, rfl⟩
  rw [hq0] at d0 e0
  rw [g0] at e0 hy0
  clear hq0
  have e1 : IntKind.u32.wrap ((y0 : Int) * 2146121005) = ((mul32 2146121005 y0 : Nat) : Int) := by
    have := zu32_mod (y0 * 2146121005)
    rwa [show ((y0 * 2146121005 : Nat) : Int) = (y0 : Int) * 2146121005 by omega] at this
  have hy1 := mul32_lt 2146121005 y0
  obtain ⟨y1, g1⟩ : ∃ y, mul32 2146121005 y0 = y := ⟨_, rfl⟩
  rw [g1] at e1 hy1
  have d2 : (y1 : Int) / 32768 = ((y1 / 32768 : Nat) : Int) := by simp
  have e2 : bits .xor .u32 (y1 : Int) ((y1 / 32768 : Nat) : Int) = ((xs15 y1 : Nat) : Int) := zu32_xor _ _ hy1 (div_small hy1)
  have hy2 := xs15_lt hy1
  obtain ⟨q2, hq2⟩ : ∃ q, y1 / 32768 = q := ⟨_, rfl⟩
  obtain ⟨y2, g2⟩ : ∃ y, xs15 y1 = y := ⟨_, rfl⟩
  rw [hq2] at d2 e2
  rw [g2] at e2 hy2
  clear hq2
  have e3 : IntKind.u32.wrap ((y2 : Int) * 2221713035) = ((mul32 2221713035 y2 : Nat) : Int) := by
    have := zu32_mod (y2 * 2221713035)
    rwa [show ((y2 * 2221713035 : Nat) : Int) = (y2 : Int) * 2221713035 by omega] at this
  have hy3 := mul32_lt 2221713035 y2
  obtain ⟨y3, g3⟩ : ∃ y, mul32 2221713035 y2 = y := ⟨_, rfl⟩
  rw [g3] at e3 hy3
  have d4 : (y3 : Int) / 65536 = ((y3 / 65536 : Nat) : Int) := by simp
  have e4 : bits .xor .u32 (y3 : Int) ((y3 / 65536 : Nat) : Int) = ((xs16 y3 : Nat) : Int) := zu32_xor _ _ hy3 (div_small hy3)
  have hy4 := xs16_lt hy3
  obtain ⟨q4, hq4⟩ : ∃ q, y3 / 65536 = q := ⟨_, rfl⟩
  obtain ⟨y4, g4⟩ : ∃ y, xs16 y3 = y := ⟨_, rfl⟩
  rw [hq4] at d4 e4
  rw [g4] at e4 hy4
  clear hq4
  have HR : Hid (mixN x = y4) := by
    show mixN x = y4
    unfold mixN
    rw [g0, g1, g2, g3, g4]
  clear g0 g1 g2 g3 g4
  go_enter Tryd.func88, Tryd.ntmps88
  go_wp2
  go_ret
  exact ⟨by rw [HR.out]; rfl, rfl⟩

end Go.Proofs.YtkphjnbeakkejabDoor

/-
  What symbol.Of and State answer.
-/
namespace Go.Proofs.YtkphjnbeakkejabDoor
open Go.RowKit

set_option maxRecDepth 100000 in
set_option maxHeartbeats 1000000 in
theorem Of_ok (s i : Nat) (_ : s < 4294967296) (hi : i ≤ 255) (w : World) : Calls Tryd.prog 83 #[.int .u32 s, .int .i64 i] w fun e w' => e = .returned (.tuple #[.int .i64 ((symN s i : Nat) : Int), .int .i64 0]) ∧ w = w' := by
  have g0 : decide ((i : Int) < 0) = false := decide_eq_false (by omega)
  have g1 : decide (255 < (i : Int)) = false := decide_eq_false (by omega)
  by_cases h : i < 4
  · have HR : Hid (symN s i = s / 2 ^ (8 * i) % 256) := symN_low h
    have ed : (s : Int) / 2 ^ (8 * i) = ((s / 2 ^ (8 * i) : Nat) : Int) := by simp
    have hle : s / 2 ^ (8 * i) ≤ s := Nat.div_le_self _ _
    obtain ⟨y, hy⟩ : ∃ y, s / 2 ^ (8 * i) = y := ⟨_, rfl⟩
    rw [hy] at ed hle HR
    clear hy
    go_enter Tryd.func83, Tryd.ntmps83
    go_wp2
    go_ret2
    exact ⟨by rw [HR.out]; rfl, rfl⟩
  · have HR : Hid (symN s i = mixN ((s + i * 2654435769) % 4294967296) % 256) := symN_high h
    have e1 : IntKind.u32.wrap (i : Int) = (i : Int) := by rw [IntKind.wrap_u32]; omega
    have e2 : IntKind.u32.wrap ((i : Int) * 2654435769) = ((i * 2654435769 % 4294967296 : Nat) : Int) := by
      have := zu32_mod (i * 2654435769)
      rwa [show ((i * 2654435769 : Nat) : Int) = (i : Int) * 2654435769 by omega] at this
    have e3 : IntKind.u32.wrap ((s : Int) + ((i * 2654435769 % 4294967296 : Nat) : Int)) = (((s + i * 2654435769) % 4294967296 : Nat) : Int) := by rw [IntKind.wrap_u32]; omega
    obtain ⟨x, hx⟩ : ∃ x, (s + i * 2654435769) % 4294967296 = x := ⟨_, rfl⟩
    have hxl : x < 4294967296 := by omega
    rw [hx] at e3 HR
    obtain ⟨y, hy⟩ : ∃ y, i * 2654435769 % 4294967296 = y := ⟨_, rfl⟩
    have hyl : y < 4294967296 := by omega
    rw [hy] at e2 e3
    have hm := mixN_lt x
    have HM := Mix_any x hxl w
    obtain ⟨y', hy'⟩ : ∃ y', mixN x = y' := ⟨_, rfl⟩
    rw [hy'] at hm HR HM
    clear hx hy hy'
    go_enter Tryd.func83, Tryd.ntmps83
    go_wp2_with fail
    refine HM.mono ?_
    rintro e w1 ⟨rfl, rfl⟩
    go_wp2
    go_ret2
    exact ⟨by rw [HR.out]; rfl, rfl⟩

end Go.Proofs.YtkphjnbeakkejabDoor
