/-
  What symbol.Of and State answer.
-/
import Derived.Test.YtehnplodfpljkaaDoorSymbolNums
import Derived.Test.YtehnplodfpljkaaDoorMixCode
import Derived.Test.YtehnplodfpljkaaDoorSteps
namespace Go.Proofs.YtehnplodfpljkaaDoor
open Go.RowKit

set_option maxRecDepth 100000 in
set_option maxHeartbeats 1000000 in
theorem Of_ok (s i : Nat) (_ : s < 4294967296) (hi : i ≤ 255) (w : World) : Calls Tryd.prog 18 #[.int .u32 s, .int .i64 i] w fun e w' => e = .returned (.tuple #[.int .i64 ((symN s i : Nat) : Int), .int .i64 0]) ∧ w = w' := by
  have g0 : decide ((i : Int) < 0) = false := decide_eq_false (by omega)
  have g1 : decide (255 < (i : Int)) = false := decide_eq_false (by omega)
  by_cases h : i < 4
  · have HR : Hid (symN s i = s / 2 ^ (8 * i) % 256) := symN_low h
    have ed : (s : Int) / 2 ^ (8 * i) = ((s / 2 ^ (8 * i) : Nat) : Int) := by simp
    have hle : s / 2 ^ (8 * i) ≤ s := Nat.div_le_self _ _
    obtain ⟨y, hy⟩ : ∃ y, s / 2 ^ (8 * i) = y := ⟨_, rfl⟩
    rw [hy] at ed hle HR
    clear hy
    go_enter Tryd.func18, Tryd.ntmps18
    go_wp2
    go_ret2
    exact ⟨by rw [HR.out]; rfl, rfl⟩
  · have HR : Hid (symN s i = mixN ((s + i * 2654435769) % 4294967296) % 256) := symN_high h
    have e1 : IntKind.u32.wrap (i : Int) = (i : Int) := by rw [IntKind.wrap_u32]; omega
    have e2 : IntKind.u32.wrap ((i : Int) * 2654435769) = ((i * 2654435769 % 4294967296 : Nat) : Int) := by
      have := zu32_mod (i * 2654435769)
      rwa [show ((i * 2654435769 : Nat) : Int) = (i : Int) * 2654435769 by omega] at this
    have e3 : IntKind.u32.wrap ((s : Int) + ((i * 2654435769 % 4294967296 : Nat) : Int)) = (((s + i * 2654435769) % 4294967296 : Nat) : Int) := by rw [IntKind.wrap_u32]; omega
    obtain ⟨x, hx⟩ : ∃ x, (s + i * 2654435769) % 4294967296 = x := ⟨_, rfl⟩
    have hxl : x < 4294967296 := by omega
    rw [hx] at e3 HR
    obtain ⟨y, hy⟩ : ∃ y, i * 2654435769 % 4294967296 = y := ⟨_, rfl⟩
    have hyl : y < 4294967296 := by omega
    rw [hy] at e2 e3
    have hm := mixN_lt x
    have HM := Mix_any x hxl w
    obtain ⟨y', hy'⟩ : ∃ y', mixN x = y' := ⟨_, rfl⟩
    rw [hy'] at hm HR HM
    clear hx hy hy'
    go_enter Tryd.func18, Tryd.ntmps18
    go_wp2_with fail
    refine HM.mono ?_
    rintro e w1 ⟨rfl, rfl⟩
    go_wp2
    go_ret2
    exact ⟨by rw [HR.out]; rfl, rfl⟩

set_option maxRecDepth 100000 in
set_option maxHeartbeats 1000000 in
theorem Of_arg (s : Nat) (i : Int) (h : i < 0 ∨ 255 < i) (w : World) : Calls Tryd.prog 18 #[.int .u32 s, .int .i64 i] w fun e w' => e = .returned (.tuple #[.int .i64 0, .int .i64 1]) ∧ w = w' := by
  by_cases h0 : i < 0
  · clear h
    go_enter Tryd.func18, Tryd.ntmps18
    go_wp2
    go_ret2
    exact ⟨rfl, rfl⟩
  · have h1 : 255 < i := by omega
    clear h
    go_enter Tryd.func18, Tryd.ntmps18
    go_wp2
    go_ret2
    exact ⟨rfl, rfl⟩

set_option maxHeartbeats 1000000 in
theorem State_len (a : Option Addr) (n cap : Nat) (h : n ≠ 4) (w : World) : Calls Tryd.prog 21 #[.slice a n cap] w fun e w' => e = .returned (.tuple #[.int .u32 0, .int .i64 2]) ∧ w = w' := by
  have hq : ((n : Int) != 4) = true := by rw [bne_iff_ne]; omega
  go_enter Tryd.func21, Tryd.ntmps21
  go_wp2
  go_ret2
  exact ⟨rfl, rfl⟩

theorem or_shift (a z k : Nat) (ha : a < 2 ^ k) : a ||| 2 ^ k * z = a + 2 ^ k * z := by
  rw [Nat.add_comm, Nat.or_comm]
  exact (Nat.two_pow_add_eq_or_of_lt ha z).symm

set_option maxRecDepth 100000 in
set_option maxHeartbeats 2000000 in
/-- State, of four numbers. -/
theorem State_any (a : Option Addr) (cap : Nat) (zs : List Int) (hl : zs.length = 4) (w : World) (n₀ : Nat) (ha : Holds .i64 n₀ w (.slice a 4 cap) zs) :
    Calls Tryd.prog 21 #[.slice a 4 cap] w fun e w' => (Bytes4 zs ∧ e = .returned (.tuple #[.int .u32 ((spellN zs : Nat) : Int), .int .i64 0]) ∨ ¬ Bytes4 zs ∧ e = .returned (.tuple #[.int .u32 0, .int .i64 1])) ∧ w = w' := by
  have HL : Hid (zs.length = 4) := hl
  clear hl
  go_enter Tryd.func21, Tryd.ntmps21
  go_wp2
  go_loop [4, 12] (fun v i => ∃ k : Nat, k ≤ 4 ∧ i = .int .i64 k ∧ v = .int .u32 ((spellN (zs.take k) : Nat) : Int) ∧ Hid (Bytes4 (zs.take k))) (fun _ i => 4 - (intOf i).toNat)
  case atStart => exact ⟨0, by omega, rfl, rfl, fun x hx => by simp at hx⟩
  case round =>
    obtain ⟨k, hk, rfl, rfl, HB⟩ := hrel
    by_cases hlt : k < 4
    · have hlt' : k < zs.length := by rw [HL.out]; exact hlt
      obtain ⟨z, hzk⟩ : ∃ z, zs[k]? = some z := ⟨zs[k], by simp⟩
      rcases ha with ⟨_, e⟩ | ⟨b, off, cap', e, hb, hcs⟩
      · rw [e] at hlt'; exact absurd hlt' (by simp)
      rw [HL.out] at e hcs
      cases e
      have c1 : w.cell? ⟨b, off + k, none⟩ = some (.int .i64 z) := (hcs k hlt).trans (by rw [hzk]; rfl)
      have HZ : Hid (zs[k]? = some z) := hzk
      clear hcs hzk hlt'
      by_cases h0 : z < 0
      · have HN : Hid (¬ Bytes4 zs) := fun h => by have := h z (List.mem_of_getElem? HZ.out); omega
        go_wp2
        go_ret2
        exact ⟨.inr ⟨HN.out, rfl⟩, rfl⟩
      by_cases h1 : 255 < z
      · have HN : Hid (¬ Bytes4 zs) := fun h => by have := h z (List.mem_of_getElem? HZ.out); omega
        go_wp2
        go_ret2
        exact ⟨.inr ⟨HN.out, rfl⟩, rfl⟩
      obtain ⟨n, rfl⟩ := Int.eq_ofNat_of_zero_le (a := z) (by omega)
      have d0 : decide ((n : Int) < 0) = false := decide_eq_false h0
      have d1 : decide (255 < (n : Int)) = false := decide_eq_false h1
      have hn : n < 256 := by omega
      have et : zs.take (k + 1) = zs.take k ++ [(n : Int)] := by rw [List.take_add_one, HZ.out]; rfl
      have hlk : (zs.take k).length = k := by rw [List.length_take, HL.out]; omega
      have hsl := spellN_lt HB.out
      rw [hlk, show (256 : Nat) = 2 ^ 8 by rfl, ← Nat.pow_mul] at hsl
      have HN : Hid (spellN (zs.take (k + 1)) = spellN (zs.take k) + 2 ^ (8 * k) * n) := by
        show spellN (zs.take (k + 1)) = _
        rw [et, spellN_append, hlk, Int.toNat_natCast]
      have HB' : Hid (Bytes4 (zs.take (k + 1))) := by
        show Bytes4 (zs.take (k + 1))
        rw [et]
        intro y hy
        rcases List.mem_append.1 hy with h' | h'
        · exact HB.out y h'
        · simp at h'; subst h'; omega
      have hp : 2 ^ (8 * k) ≤ 2 ^ 24 := Nat.pow_le_pow_right (by omega) (by omega)
      have hpn : 2 ^ (8 * k) * n < 4294967296 := by
        have : 2 ^ (8 * k) * n ≤ 2 ^ 24 * 255 := Nat.mul_le_mul hp (by omega)
        omega
      have e1 : IntKind.u32.wrap (n : Int) = (n : Int) := by rw [IntKind.wrap_u32]; omega
      have e2 : (n : Int) * 2 ^ (8 * k) % 4294967296 = ((2 ^ (8 * k) * n : Nat) : Int) := by
        have h : (n : Int) * 2 ^ (8 * k) = ((2 ^ (8 * k) * n : Nat) : Int) := by rw [Int.mul_comm]; simp
        rw [h]
        omega
      have e3 : bits .or .u32 ((spellN (zs.take k) : Nat) : Int) ((2 ^ (8 * k) * n : Nat) : Int) = ((spellN (zs.take k) + 2 ^ (8 * k) * n : Nat) : Int) := by
        rw [zu32_or _ _ (by omega) hpn, or_shift _ _ _ hsl]
      obtain ⟨x, hx⟩ : ∃ x, spellN (zs.take k) = x := ⟨_, rfl⟩
      obtain ⟨y, hy⟩ : ∃ y, 2 ^ (8 * k) * n = y := ⟨_, rfl⟩
      rw [hx] at HN e3 ⊢
      rw [hy] at HN e2 e3
      obtain ⟨u, hu⟩ : ∃ u, x + y = u := ⟨_, rfl⟩
      rw [hu] at HN e3
      clear et hlk hsl hp hpn hx hy hu HB HZ
      go_wp2
      go_round
      case rel => exact ⟨k + 1, by omega, by go_num, by rw [HN.out], HB'⟩
      case measure => simp [intOf]; omega
    · obtain rfl : k = 4 := by omega
      have HT : Hid (zs.take 4 = zs) := List.take_of_length_le (by rw [HL.out]; exact Nat.le_refl _)
      rw [HT.out] at HB ⊢
      clear hlt hk ha
      go_wp2
      go_ret2
      exact ⟨.inl ⟨HB.out, rfl⟩, rfl⟩

theorem State_ok (a : Option Addr) (cap : Nat) (zs : List Int) (hl : zs.length = 4) (hB : Bytes4 zs) (w : World) (n₀ : Nat) (ha : Holds .i64 n₀ w (.slice a 4 cap) zs) :
    Calls Tryd.prog 21 #[.slice a 4 cap] w fun e w' => e = .returned (.tuple #[.int .u32 ((spellN zs : Nat) : Int), .int .i64 0]) ∧ w = w' := by
  refine (State_any a cap zs hl w n₀ ha).mono ?_
  rintro e w' ⟨⟨_, rfl⟩ | ⟨h, _⟩, rfl⟩
  · exact ⟨rfl, rfl⟩
  · exact absurd hB h
theorem State_arg (a : Option Addr) (cap : Nat) (zs : List Int) (hl : zs.length = 4) (hB : ¬ Bytes4 zs) (w : World) (n₀ : Nat) (ha : Holds .i64 n₀ w (.slice a 4 cap) zs) :
    Calls Tryd.prog 21 #[.slice a 4 cap] w fun e w' => e = .returned (.tuple #[.int .u32 0, .int .i64 1]) ∧ w = w' := by
  refine (State_any a cap zs hl w n₀ ha).mono ?_
  rintro e w' ⟨⟨h, _⟩ | ⟨_, rfl⟩, rfl⟩
  · exact absurd h hB
  · exact ⟨rfl, rfl⟩

end Go.Proofs.YtehnplodfpljkaaDoor
