/-
  What the page's Symbol answers.
-/
import Derived.Test.YtddcloanbpkecaaDoorSymbolNums
import Derived.Test.YtddcloanbpkecaaDoorRefMix
namespace Go.Proofs.YtddcloanbpkecaaDoor
open Go.RowKit

set_option maxRecDepth 100000 in
set_option maxHeartbeats 1000000 in
theorem refSymbol_any (s i : Nat) (hs : s < 4294967296) (hi : i ≤ 4294967295) (w : World) : Calls Tryd.prog 71 #[.int .u32 s, .int .i64 i] w fun e w' => e = .returned (.int .i64 ((symN s i : Nat) : Int)) ∧ w = w' := by
  by_cases h : i < 4
  · have HR : Hid (symN s i = s / 2 ^ (8 * i) % 256) := symN_low h
    have ed : (s : Int) / 2 ^ (8 * i) = ((s / 2 ^ (8 * i) : Nat) : Int) := by simp
    have hle : s / 2 ^ (8 * i) ≤ s := Nat.div_le_self _ _
    have ea : bits .and .u32 ((s / 2 ^ (8 * i) : Nat) : Int) 255 = ((s / 2 ^ (8 * i) % 256 : Nat) : Int) := zu32_and255 _ (by omega)
    obtain ⟨t, ht⟩ : ∃ t, s / 2 ^ (8 * i) % 256 = t := ⟨_, rfl⟩
    have hlt : t < 256 := by omega
    obtain ⟨y, hy⟩ : ∃ y, s / 2 ^ (8 * i) = y := ⟨_, rfl⟩
    rw [ht] at ea HR
    rw [hy] at ed ea hle
    clear ht hy
    go_enter Tryd.func71, Tryd.ntmps71
    go_wp2
    go_ret
    exact ⟨by rw [HR.out]; rfl, rfl⟩
  · have HR : Hid (symN s i = mixN ((s + i * 2654435769) % 4294967296) % 256) := symN_high h
    have e1 : IntKind.u32.wrap (i : Int) = (i : Int) := by rw [IntKind.wrap_u32]; omega
    have e2 : IntKind.u32.wrap ((i : Int) * 2654435769) = ((i * 2654435769 % 4294967296 : Nat) : Int) := by
      have := zu32_mod (i * 2654435769)
      rwa [show ((i * 2654435769 : Nat) : Int) = (i : Int) * 2654435769 by omega] at this
    have e3 : IntKind.u32.wrap ((s : Int) + ((i * 2654435769 % 4294967296 : Nat) : Int)) = (((s + i * 2654435769) % 4294967296 : Nat) : Int) := by rw [IntKind.wrap_u32]; omega
    obtain ⟨x, hx⟩ : ∃ x, (s + i * 2654435769) % 4294967296 = x := ⟨_, rfl⟩
    have hxl : x < 4294967296 := by omega
    rw [hx] at e3 HR
    obtain ⟨y, hy⟩ : ∃ y, i * 2654435769 % 4294967296 = y := ⟨_, rfl⟩
    have hyl : y < 4294967296 := by omega
    rw [hy] at e2 e3
    have hm := mixN_lt x
    have ea : bits .and .u32 ((mixN x : Nat) : Int) 255 = ((mixN x % 256 : Nat) : Int) := zu32_and255 _ hm
    obtain ⟨t, ht⟩ : ∃ t, mixN x % 256 = t := ⟨_, rfl⟩
    have hlt : t < 256 := by omega
    rw [ht] at ea HR
    clear hx hy ht
    go_enter Tryd.func71, Tryd.ntmps71
    go_wp2_with fail
    refine (refMix_any x hxl w).mono ?_
    rintro e w1 ⟨rfl, rfl⟩
    go_wp2
    go_ret
    exact ⟨by rw [HR.out]; rfl, rfl⟩

end Go.Proofs.YtddcloanbpkecaaDoor
