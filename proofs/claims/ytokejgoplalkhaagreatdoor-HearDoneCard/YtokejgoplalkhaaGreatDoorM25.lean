/-
  Symbols of states as numbers. No program is spoken of.
-/
import Derived.Test.YtokejgoplalkhaaGreatDoorM01
import Derived.Test.YtokejgoplalkhaaGreatDoorM14
import Derived.Laws.BitsAllLaws
import Derived.WalkLawsBesides
import Derived.WalkSpells
namespace Go.Proofs.YtokejgoplalkhaaGreatDoor

/-- The symbol of an index. -/
def symN (s i : Nat) : Nat := if i < 4 then s / 2 ^ (8 * i) % 256 else mixN ((s + i * 2654435769) % 4294967296) % 256
theorem symN_lt (s i : Nat) : symN s i < 256 := by
  unfold symN
  split <;> exact Nat.mod_lt _ (by decide)
theorem symN_low {s i : Nat} (h : i < 4) : symN s i = s / 2 ^ (8 * i) % 256 := if_pos h
theorem symN_high {s i : Nat} (h : ¬ i < 4) : symN s i = mixN ((s + i * 2654435769) % 4294967296) % 256 := if_neg h

/-- The number that bytes spell, the lowest first. -/
def spellN : List Int → Nat
  | [] => 0
  | z :: zs => z.toNat + 256 * spellN zs
/-- The first four symbols. -/
def fourOf (s k : Nat) : List Int := (List.range k).map fun i => ((symN s i : Nat) : Int)
theorem bytes_sum (s a b c d : Nat) (hs : s < 4294967296) (h0 : a = s % 256) (h1 : b = s / 256 % 256) (h2 : c = s / 65536 % 256) (h3 : d = s / 16777216 % 256) : a + 256 * (b + 256 * (c + 256 * d)) = s := by omega
theorem spell_of {s : Nat} (hs : s < 4294967296) (f : Nat → Nat) (h0 : f 0 = s % 256) (h1 : f 1 = s / 256 % 256) (h2 : f 2 = s / 65536 % 256) (h3 : f 3 = s / 16777216 % 256) : spellN ((List.range 4).map fun i => ((f i : Nat) : Int)) = s := by
  have e : ((List.range 4).map fun i => ((f i : Nat) : Int)) = [((f 0 : Nat) : Int), ((f 1 : Nat) : Int), ((f 2 : Nat) : Int), ((f 3 : Nat) : Int)] := rfl
  rw [e]
  have h := bytes_sum s (f 0) (f 1) (f 2) (f 3) hs h0 h1 h2 h3
  simpa [spellN] using h
theorem spell_four {s : Nat} (hs : s < 4294967296) : spellN (fourOf s 4) = s :=
  spell_of hs (symN s) (by rw [symN_low (by decide), Nat.mul_zero, Nat.pow_zero, Nat.div_one]) (symN_low (by decide)) (symN_low (by decide)) (symN_low (by decide))
theorem four_inj {s t : Nat} (hs : s < 4294967296) (ht : t < 4294967296) (h : ∀ i, i < 4 → symN s i = symN t i) : s = t := by
  have e : fourOf s 4 = fourOf t 4 := by
    unfold fourOf
    apply List.map_congr_left
    intro i hi
    rw [h i (by simpa using hi)]
  exact (spell_four hs).symm.trans ((congrArg spellN e).trans (spell_four ht))

end Go.Proofs.YtokejgoplalkhaaGreatDoor

/-
  What mix.Mix and mix.Back answer.
-/
namespace Go.Proofs.YtokejgoplalkhaaGreatDoor
open Go.RowKit

set_option maxRecDepth 100000 in
set_option maxHeartbeats 1000000 in
theorem Mix_any (x : Nat) (hx : x < 4294967296) (w : World) :
    Calls Tryz.prog 110 #[.int .u32 x] w fun e w' => e = .returned (.int .u32 ((mixN x : Nat) : Int)) ∧ w = w' := by
  have d0 : (x : Int) / 65536 = ((x / 65536 : Nat) : Int) := by simp
  have e0 : bits .xor .u32 (x : Int) ((x / 65536 : Nat) : Int) = ((xs16 x : Nat) : Int) := zu32_xor _ _ hx (div_small hx)
  have hy0 := xs16_lt hx
  obtain ⟨q0, hq0⟩ : ∃ q, x / 65536 = q := ⟨_, rfl⟩
  obtain ⟨y0, g0⟩ : ∃ y, xs16 x = y := ⟨_, rfl⟩
  rw [hq0] at d0 e0
  rw [g0] at e0 hy0
  clear hq0
  have e1 : IntKind.u32.wrap ((y0 : Int) * 2146121005) = ((mul32 2146121005 y0 : Nat) : Int) := by
    have := zu32_mod (y0 * 2146121005)
    rwa [show ((y0 * 2146121005 : Nat) : Int) = (y0 : Int) * 2146121005 by omega] at this
  have hy1 := mul32_lt 2146121005 y0
  obtain ⟨y1, g1⟩ : ∃ y, mul32 2146121005 y0 = y := ⟨_, rfl⟩
  rw [g1] at e1 hy1
  have d2 : (y1 : Int) / 32768 = ((y1 / 32768 : Nat) : Int) := by simp
  have e2 : bits .xor .u32 (y1 : Int) ((y1 / 32768 : Nat) : Int) = ((xs15 y1 : Nat) : Int) := zu32_xor _ _ hy1 (div_small hy1)
  have hy2 := xs15_lt hy1
  obtain ⟨q2, hq2⟩ : ∃ q, y1 / 32768 = q := ⟨_, rfl⟩
  obtain ⟨y2, g2⟩ : ∃ y, xs15 y1 = y := ⟨_, rfl⟩
  rw [hq2] at d2 e2
  rw [g2] at e2 hy2
  clear hq2
  have e3 : IntKind.u32.wrap ((y2 : Int) * 2221713035) = ((mul32 2221713035 y2 : Nat) : Int) := by
    have := zu32_mod (y2 * 2221713035)
    rwa [show ((y2 * 2221713035 : Nat) : Int) = (y2 : Int) * 2221713035 by omega] at this
  have hy3 := mul32_lt 2221713035 y2
  obtain ⟨y3, g3⟩ : ∃ y, mul32 2221713035 y2 = y := ⟨_, rfl⟩
  rw [g3] at e3 hy3
  have d4 : (y3 : Int) / 65536 = ((y3 / 65536 : Nat) : Int) := by simp
  have e4 : bits .xor .u32 (y3 : Int) ((y3 / 65536 : Nat) : Int) = ((xs16 y3 : Nat) : Int) := zu32_xor _ _ hy3 (div_small hy3)
  have hy4 := xs16_lt hy3
  obtain ⟨q4, hq4⟩ : ∃ q, y3 / 65536 = q := ⟨_, rfl⟩
  obtain ⟨y4, g4⟩ : ∃ y, xs16 y3 = y := ⟨_, rfl⟩
  rw [hq4] at d4 e4
  rw [g4] at e4 hy4
  clear hq4
  have HR : Hid (mixN x = y4) := by
    show mixN x = y4
    unfold mixN
    rw [g0, g1, g2, g3, g4]
  clear g0 g1 g2 g3 g4
  go_enter Tryz.func110, Tryz.ntmps110
  go_wp2
  go_ret
  exact ⟨by rw [HR.out]; rfl, rfl⟩

end Go.Proofs.YtokejgoplalkhaaGreatDoor

/-
  What symbol.Of and State answer.
-/
namespace Go.Proofs.YtokejgoplalkhaaGreatDoor
open Go.RowKit

set_option maxRecDepth 100000 in
set_option maxHeartbeats 1000000 in
theorem Of_ok (s i : Nat) (_ : s < 4294967296) (hi : i ≤ 255) (w : World) : Calls Tryz.prog 88 #[.int .u32 s, .int .i64 i] w fun e w' => e = .returned (.tuple #[.int .i64 ((symN s i : Nat) : Int), .int .i64 0]) ∧ w = w' := by
  have g0 : decide ((i : Int) < 0) = false := decide_eq_false (by omega)
  have g1 : decide (255 < (i : Int)) = false := decide_eq_false (by omega)
  by_cases h : i < 4
  · have HR : Hid (symN s i = s / 2 ^ (8 * i) % 256) := symN_low h
    have ed : (s : Int) / 2 ^ (8 * i) = ((s / 2 ^ (8 * i) : Nat) : Int) := by simp
    have hle : s / 2 ^ (8 * i) ≤ s := Nat.div_le_self _ _
    obtain ⟨y, hy⟩ : ∃ y, s / 2 ^ (8 * i) = y := ⟨_, rfl⟩
    rw [hy] at ed hle HR
    clear hy
    go_enter Tryz.func88, Tryz.ntmps88
    go_wp2
    go_ret2
    exact ⟨by rw [HR.out]; rfl, rfl⟩
  · have HR : Hid (symN s i = mixN ((s + i * 2654435769) % 4294967296) % 256) := symN_high h
    have e1 : IntKind.u32.wrap (i : Int) = (i : Int) := by rw [IntKind.wrap_u32]; omega
    have e2 : IntKind.u32.wrap ((i : Int) * 2654435769) = ((i * 2654435769 % 4294967296 : Nat) : Int) := by
      have := zu32_mod (i * 2654435769)
      rwa [show ((i * 2654435769 : Nat) : Int) = (i : Int) * 2654435769 by omega] at this
    have e3 : IntKind.u32.wrap ((s : Int) + ((i * 2654435769 % 4294967296 : Nat) : Int)) = (((s + i * 2654435769) % 4294967296 : Nat) : Int) := by rw [IntKind.wrap_u32]; omega
    obtain ⟨x, hx⟩ : ∃ x, (s + i * 2654435769) % 4294967296 = x := ⟨_, rfl⟩
    have hxl : x < 4294967296 := by omega
    rw [hx] at e3 HR
    obtain ⟨y, hy⟩ : ∃ y, i * 2654435769 % 4294967296 = y := ⟨_, rfl⟩
    have hyl : y < 4294967296 := by omega
    rw [hy] at e2 e3
    have hm := mixN_lt x
    have HM := Mix_any x hxl w
    obtain ⟨y', hy'⟩ : ∃ y', mixN x = y' := ⟨_, rfl⟩
    rw [hy'] at hm HR HM
    clear hx hy hy'
    go_enter Tryz.func88, Tryz.ntmps88
    go_wp2_with fail
    refine HM.mono ?_
    rintro e w1 ⟨rfl, rfl⟩
    go_wp2
    go_ret2
    exact ⟨by rw [HR.out]; rfl, rfl⟩

set_option maxRecDepth 100000 in
set_option maxHeartbeats 1000000 in
theorem Of_arg (s : Nat) (i : Int) (h : i < 0 ∨ 255 < i) (w : World) : Calls Tryz.prog 88 #[.int .u32 s, .int .i64 i] w fun e w' => e = .returned (.tuple #[.int .i64 0, .int .i64 1]) ∧ w = w' := by
  by_cases h0 : i < 0
  · clear h
    go_enter Tryz.func88, Tryz.ntmps88
    go_wp2
    go_ret2
    exact ⟨rfl, rfl⟩
  · have h1 : 255 < i := by omega
    clear h
    go_enter Tryz.func88, Tryz.ntmps88
    go_wp2
    go_ret2
    exact ⟨rfl, rfl⟩

end Go.Proofs.YtokejgoplalkhaaGreatDoor
