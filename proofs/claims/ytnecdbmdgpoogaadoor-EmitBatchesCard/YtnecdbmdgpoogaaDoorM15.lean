/-
  What the page's Mix answers.
-/
import Derived.Test.YtnecdbmdgpoogaaDoorM01
import Derived.Test.YtnecdbmdgpoogaaDoorM06
import Derived.Laws.BitsAllLaws
import Derived.WalkLawsBesides
import Derived.WalkSpells
namespace Go.Proofs.YtnecdbmdgpoogaaDoor
open Go.RowKit

set_option maxRecDepth 100000 in
set_option maxHeartbeats 1000000 in
theorem refMix_any (x : Nat) (hx : x < 4294967296) (w : World) :
    Calls Tryd.prog 63 #[.int .u32 x] w fun e w' => e = .returned (.int .u32 ((mixN x : Nat) : Int)) ∧ w = w' := by
  have d0 : (x : Int) / 65536 = ((x / 65536 : Nat) : Int) := by simp
  have e0 : bits .xor .u32 (x : Int) ((x / 65536 : Nat) : Int) = ((xs16 x : Nat) : Int) := zu32_xor _ _ hx (div_small hx)
  have hy0 := xs16_lt hx
  obtain ⟨q0, hq0⟩ : ∃ q, x / 65536 = q := ⟨_, rfl⟩
  obtain ⟨y0, g0⟩ : ∃ y, xs16 x = y := ⟨_, rfl⟩
  rw [hq0] at d0 e0
  rw [g0] at e0 hy0
  clear hq0
  have e1 : IntKind.u32.wrap ((y0 : Int) * 2146121005) = ((mul32 2146121005 y0 : Nat) : Int) := by
    have := zu32_mod (y0 * 2146121005)
    rwa [show ((y0 * 2146121005 : Nat) : Int) = (y0 : Int) * 2146121005 by omega] at this
  have hy1 := mul32_lt 2146121005 y0
  obtain ⟨y1, g1⟩ : ∃ y, mul32 2146121005 y0 = y := ⟨_, rfl⟩
  rw [g1] at e1 hy1
  have d2 : (y1 : Int) / 32768 = ((y1 / 32768 : Nat) : Int) := by simp
  have e2 : bits .xor .u32 (y1 : Int) ((y1 / 32768 : Nat) : Int) = ((xs15 y1 : Nat) : Int) := zu32_xor _ _ hy1 (div_small hy1)
  have hy2 := xs15_lt hy1
  obtain ⟨q2, hq2⟩ : ∃ q, y1 / 32768 = q := ⟨_, rfl⟩
  obtain ⟨y2, g2⟩ : ∃ y, xs15 y1 = y := ⟨_, rfl⟩
  rw [hq2] at d2 e2
  rw [g2] at e2 hy2
  clear hq2
  have e3 : IntKind.u32.wrap ((y2 : Int) * 2221713035) = ((mul32 2221713035 y2 : Nat) : Int) := by
    have := zu32_mod (y2 * 2221713035)
    rwa [show ((y2 * 2221713035 : Nat) : Int) = (y2 : Int) * 2221713035 by omega] at this
  have hy3 := mul32_lt 2221713035 y2
  obtain ⟨y3, g3⟩ : ∃ y, mul32 2221713035 y2 = y := ⟨_, rfl⟩
  rw [g3] at e3 hy3
  have d4 : (y3 : Int) / 65536 = ((y3 / 65536 : Nat) : Int) := by simp
  have e4 : bits .xor .u32 (y3 : Int) ((y3 / 65536 : Nat) : Int) = ((xs16 y3 : Nat) : Int) := zu32_xor _ _ hy3 (div_small hy3)
  have hy4 := xs16_lt hy3
  obtain ⟨q4, hq4⟩ : ∃ q, y3 / 65536 = q := ⟨_, rfl⟩
  obtain ⟨y4, g4⟩ : ∃ y, xs16 y3 = y := ⟨_, rfl⟩
  rw [hq4] at d4 e4
  rw [g4] at e4 hy4
  clear hq4
  have HR : Hid (mixN x = y4) := by
    show mixN x = y4
    unfold mixN
    rw [g0, g1, g2, g3, g4]
  clear g0 g1 g2 g3 g4
  go_enter Tryd.func63, Tryd.ntmps63
  go_wp2
  go_ret
  exact ⟨by rw [HR.out]; rfl, rfl⟩

end Go.Proofs.YtnecdbmdgpoogaaDoor

/-
  What the page's Path answers, for every row in memory: are they nibbles alone?
-/
namespace Go.Proofs.YtnecdbmdgpoogaaDoor
open Go.RowKit

theorem path_snoc {zs : List Int} {k : Nat} {x : Int} (h : Path (zs.take k)) (hx : zs[k]? = some x) (h01 : 0 ≤ x ∧ x ≤ 15) : Path (zs.take (k + 1)) := by
  rw [take_snoc hx]
  intro y hy
  rcases List.mem_append.1 hy with h' | h'
  · exact h y h'
  · simp at h'; subst h'; exact h01

end Go.Proofs.YtnecdbmdgpoogaaDoor

/-
  What the page's Symbol answers.
-/
namespace Go.Proofs.YtnecdbmdgpoogaaDoor
open Go.RowKit

set_option maxRecDepth 100000 in
set_option maxHeartbeats 1000000 in
theorem refSymbol_any (s i : Nat) (hs : s < 4294967296) (hi : i ≤ 4294967295) (w : World) : Calls Tryd.prog 48 #[.int .u32 s, .int .i64 i] w fun e w' => e = .returned (.int .i64 ((symN s i : Nat) : Int)) ∧ w = w' := by
  by_cases h : i < 4
  · have HR : Hid (symN s i = s / 2 ^ (8 * i) % 256) := symN_low h
    have ed : (s : Int) / 2 ^ (8 * i) = ((s / 2 ^ (8 * i) : Nat) : Int) := by simp
    have hle : s / 2 ^ (8 * i) ≤ s := Nat.div_le_self _ _
    have ea : bits .and .u32 ((s / 2 ^ (8 * i) : Nat) : Int) 255 = ((s / 2 ^ (8 * i) % 256 : Nat) : Int) := zu32_and255 _ (by omega)
    obtain ⟨t, ht⟩ : ∃ t, s / 2 ^ (8 * i) % 256 = t := ⟨_, rfl⟩
    have hlt : t < 256 := by omega
    obtain ⟨y, hy⟩ : ∃ y, s / 2 ^ (8 * i) = y := ⟨_, rfl⟩
    rw [ht] at ea HR
    rw [hy] at ed ea hle
    clear ht hy
    go_enter Tryd.func48, Tryd.ntmps48
    go_wp2
    go_ret
    exact ⟨by rw [HR.out]; rfl, rfl⟩
  · have HR : Hid (symN s i = mixN ((s + i * 2654435769) % 4294967296) % 256) := symN_high h
    have e1 : IntKind.u32.wrap (i : Int) = (i : Int) := by rw [IntKind.wrap_u32]; omega
    have e2 : IntKind.u32.wrap ((i : Int) * 2654435769) = ((i * 2654435769 % 4294967296 : Nat) : Int) := by
      have := zu32_mod (i * 2654435769)
      rwa [show ((i * 2654435769 : Nat) : Int) = (i : Int) * 2654435769 by omega] at this
    have e3 : IntKind.u32.wrap ((s : Int) + ((i * 2654435769 % 4294967296 : Nat) : Int)) = (((s + i * 2654435769) % 4294967296 : Nat) : Int) := by rw [IntKind.wrap_u32]; omega
    obtain ⟨x, hx⟩ : ∃ x, (s + i * 2654435769) % 4294967296 = x := ⟨_, rfl⟩
    have hxl : x < 4294967296 := by omega
    rw [hx] at e3 HR
    obtain ⟨y, hy⟩ : ∃ y, i * 2654435769 % 4294967296 = y := ⟨_, rfl⟩
    have hyl : y < 4294967296 := by omega
    rw [hy] at e2 e3
    have hm := mixN_lt x
    have ea : bits .and .u32 ((mixN x : Nat) : Int) 255 = ((mixN x % 256 : Nat) : Int) := zu32_and255 _ hm
    obtain ⟨t, ht⟩ : ∃ t, mixN x % 256 = t := ⟨_, rfl⟩
    have hlt : t < 256 := by omega
    rw [ht] at ea HR
    clear hx hy ht
    go_enter Tryd.func48, Tryd.ntmps48
    go_wp2_with fail
    refine (refMix_any x hxl w).mono ?_
    rintro e w1 ⟨rfl, rfl⟩
    go_wp2
    go_ret
    exact ⟨by rw [HR.out]; rfl, rfl⟩

end Go.Proofs.YtnecdbmdgpoogaaDoor

/-
  What the page's Shift16, Shift32 answer.
-/
namespace Go.Proofs.YtnecdbmdgpoogaaDoor
open Go.RowKit

set_option maxRecDepth 100000 in
set_option maxHeartbeats 1000000 in
theorem refShift16_any (r b : Nat) (hr : r < 65536) (hb : b < 2) (w : World) :
    Calls Tryd.prog 60 #[.int .i64 r, .int .i64 b] w fun e w' => e = .returned (.int .i64 ((n16 (r ^^^ b * 32768) : Nat) : Int)) ∧ w = w' := by
  have HN : Hid (n16 (r ^^^ b * 32768) = 2 * r % 65536 ^^^ (if r / 32768 = b then 0 else 4129)) := shift16_num r b hr hb
  have ha : bits .and .i64 ((r : Int) * 2) 65535 = ((2 * r % 65536 : Nat) : Int) := by
    have := zi_and16 (2 * r) (by omega)
    rwa [show ((2 * r : Nat) : Int) = (r : Int) * 2 by omega] at this
  have hx : bits .xor .i64 ((2 * r % 65536 : Nat) : Int) 4129 = ((2 * r % 65536 ^^^ 4129 : Nat) : Int) := zi_xor _ 4129 (by omega) (by decide)
  obtain ⟨c, hc⟩ : ∃ c : Nat, 2 * r % 65536 = c := ⟨_, rfl⟩
  rw [hc] at ha hx HN
  clear hc
  by_cases h : (r : Int) / 32768 = (b : Int)
  · have HR : Hid (r / 32768 = b) := by have : ((r / 32768 : Nat) : Int) = b := by simpa using h
                                        exact_mod_cast this
    go_enter Tryd.func60, Tryd.ntmps60
    go_wp2
    go_ret
    refine ⟨?_, rfl⟩
    rw [HN.out, if_pos HR.out, Nat.xor_zero]
    rfl
  · have HR : Hid (¬ r / 32768 = b) := fun e => h (by rw [← e]; simp)
    have hq : ((r : Int) / 32768 != (b : Int)) = true := by simp only [bne_iff_ne]; exact h
    clear h
    go_enter Tryd.func60, Tryd.ntmps60
    go_wp2
    go_ret
    refine ⟨?_, rfl⟩
    rw [HN.out, if_neg HR.out]
    rfl

end Go.Proofs.YtnecdbmdgpoogaaDoor

/-
  What mix.Mix and mix.Back answer.
-/
namespace Go.Proofs.YtnecdbmdgpoogaaDoor
open Go.RowKit

set_option maxRecDepth 100000 in
set_option maxHeartbeats 1000000 in
theorem Mix_any (x : Nat) (hx : x < 4294967296) (w : World) :
    Calls Tryd.prog 68 #[.int .u32 x] w fun e w' => e = .returned (.int .u32 ((mixN x : Nat) : Int)) ∧ w = w' := by
  have d0 : (x : Int) / 65536 = ((x / 65536 : Nat) : Int) := by simp
  have e0 : bits .xor .u32 (x : Int) ((x / 65536 : Nat) : Int) = ((xs16 x : Nat) : Int) := zu32_xor _ _ hx (div_small hx)
  have hy0 := xs16_lt hx
  obtain ⟨q0, hq0⟩ : ∃ q, x / 65536 = q := ⟨_, rfl⟩
  obtain ⟨y0, g0⟩ : ∃ y, xs16 x = y := ⟨_, rfl⟩
  rw [hq0] at d0 e0
  rw [g0] at e0 hy0
  clear hq0
  have e1 : IntKind.u32.wrap ((y0 : Int) * 2146121005) = ((mul32 2146121005 y0 : Nat) : Int) := by
    have := zu32_mod (y0 * 2146121005)
    rwa [show ((y0 * 2146121005 : Nat) : Int) = (y0 : Int) * 2146121005 by omega] at this
  have hy1 := mul32_lt 2146121005 y0
  obtain ⟨y1, g1⟩ : ∃ y, mul32 2146121005 y0 = y := ⟨_, rfl⟩
  rw [g1] at e1 hy1
  have d2 : (y1 : Int) / 32768 = ((y1 / 32768 : Nat) : Int) := by simp
  have e2 : bits .xor .u32 (y1 : Int) ((y1 / 32768 : Nat) : Int) = ((xs15 y1 : Nat) : Int) := zu32_xor _ _ hy1 (div_small hy1)
  have hy2 := xs15_lt hy1
  obtain ⟨q2, hq2⟩ : ∃ q, y1 / 32768 = q := ⟨_, rfl⟩
  obtain ⟨y2, g2⟩ : ∃ y, xs15 y1 = y := ⟨_, rfl⟩
  rw [hq2] at d2 e2
  rw [g2] at e2 hy2
  clear hq2
  have e3 : IntKind.u32.wrap ((y2 : Int) * 2221713035) = ((mul32 2221713035 y2 : Nat) : Int) := by
    have := zu32_mod (y2 * 2221713035)
    rwa [show ((y2 * 2221713035 : Nat) : Int) = (y2 : Int) * 2221713035 by omega] at this
  have hy3 := mul32_lt 2221713035 y2
  obtain ⟨y3, g3⟩ : ∃ y, mul32 2221713035 y2 = y := ⟨_, rfl⟩
  rw [g3] at e3 hy3
  have d4 : (y3 : Int) / 65536 = ((y3 / 65536 : Nat) : Int) := by simp
  have e4 : bits .xor .u32 (y3 : Int) ((y3 / 65536 : Nat) : Int) = ((xs16 y3 : Nat) : Int) := zu32_xor _ _ hy3 (div_small hy3)
  have hy4 := xs16_lt hy3
  obtain ⟨q4, hq4⟩ : ∃ q, y3 / 65536 = q := ⟨_, rfl⟩
  obtain ⟨y4, g4⟩ : ∃ y, xs16 y3 = y := ⟨_, rfl⟩
  rw [hq4] at d4 e4
  rw [g4] at e4 hy4
  clear hq4
  have HR : Hid (mixN x = y4) := by
    show mixN x = y4
    unfold mixN
    rw [g0, g1, g2, g3, g4]
  clear g0 g1 g2 g3 g4
  go_enter Tryd.func68, Tryd.ntmps68
  go_wp2
  go_ret
  exact ⟨by rw [HR.out]; rfl, rfl⟩

end Go.Proofs.YtnecdbmdgpoogaaDoor

/-
  What symbol.Of and State answer.
-/
namespace Go.Proofs.YtnecdbmdgpoogaaDoor
open Go.RowKit

set_option maxRecDepth 100000 in
set_option maxHeartbeats 1000000 in
theorem Of_ok (s i : Nat) (_ : s < 4294967296) (hi : i ≤ 255) (w : World) : Calls Tryd.prog 52 #[.int .u32 s, .int .i64 i] w fun e w' => e = .returned (.tuple #[.int .i64 ((symN s i : Nat) : Int), .int .i64 0]) ∧ w = w' := by
  have g0 : decide ((i : Int) < 0) = false := decide_eq_false (by omega)
  have g1 : decide (255 < (i : Int)) = false := decide_eq_false (by omega)
  by_cases h : i < 4
  · have HR : Hid (symN s i = s / 2 ^ (8 * i) % 256) := symN_low h
    have ed : (s : Int) / 2 ^ (8 * i) = ((s / 2 ^ (8 * i) : Nat) : Int) := by simp
    have hle : s / 2 ^ (8 * i) ≤ s := Nat.div_le_self _ _
    obtain ⟨y, hy⟩ : ∃ y, s / 2 ^ (8 * i) = y := ⟨_, rfl⟩
    rw [hy] at ed hle HR
    clear hy
    go_enter Tryd.func52, Tryd.ntmps52
    go_wp2
    go_ret2
    exact ⟨by rw [HR.out]; rfl, rfl⟩
  · have HR : Hid (symN s i = mixN ((s + i * 2654435769) % 4294967296) % 256) := symN_high h
    have e1 : IntKind.u32.wrap (i : Int) = (i : Int) := by rw [IntKind.wrap_u32]; omega
    have e2 : IntKind.u32.wrap ((i : Int) * 2654435769) = ((i * 2654435769 % 4294967296 : Nat) : Int) := by
      have := zu32_mod (i * 2654435769)
      rwa [show ((i * 2654435769 : Nat) : Int) = (i : Int) * 2654435769 by omega] at this
    have e3 : IntKind.u32.wrap ((s : Int) + ((i * 2654435769 % 4294967296 : Nat) : Int)) = (((s + i * 2654435769) % 4294967296 : Nat) : Int) := by rw [IntKind.wrap_u32]; omega
    obtain ⟨x, hx⟩ : ∃ x, (s + i * 2654435769) % 4294967296 = x := ⟨_, rfl⟩
    have hxl : x < 4294967296 := by omega
    rw [hx] at e3 HR
    obtain ⟨y, hy⟩ : ∃ y, i * 2654435769 % 4294967296 = y := ⟨_, rfl⟩
    have hyl : y < 4294967296 := by omega
    rw [hy] at e2 e3
    have hm := mixN_lt x
    have HM := Mix_any x hxl w
    obtain ⟨y', hy'⟩ : ∃ y', mixN x = y' := ⟨_, rfl⟩
    rw [hy'] at hm HR HM
    clear hx hy hy'
    go_enter Tryd.func52, Tryd.ntmps52
    go_wp2_with fail
    refine HM.mono ?_
    rintro e w1 ⟨rfl, rfl⟩
    go_wp2
    go_ret2
    exact ⟨by rw [HR.out]; rfl, rfl⟩

set_option maxRecDepth 100000 in
set_option maxHeartbeats 1000000 in
theorem Of_arg (s : Nat) (i : Int) (h : i < 0 ∨ 255 < i) (w : World) : Calls Tryd.prog 52 #[.int .u32 s, .int .i64 i] w fun e w' => e = .returned (.tuple #[.int .i64 0, .int .i64 1]) ∧ w = w' := by
  by_cases h0 : i < 0
  · clear h
    go_enter Tryd.func52, Tryd.ntmps52
    go_wp2
    go_ret2
    exact ⟨rfl, rfl⟩
  · have h1 : 255 < i := by omega
    clear h
    go_enter Tryd.func52, Tryd.ntmps52
    go_wp2
    go_ret2
    exact ⟨rfl, rfl⟩

theorem or_shift (a z k : Nat) (ha : a < 2 ^ k) : a ||| 2 ^ k * z = a + 2 ^ k * z := by
  rw [Nat.add_comm, Nat.or_comm]
  exact (Nat.two_pow_add_eq_or_of_lt ha z).symm

end Go.Proofs.YtnecdbmdgpoogaaDoor
