/-
  What crc.behind16, behind32, isLong, sum32, Sum16, Sum32 answer, for every text in memory.
-/
import Derived.Test.YtmjidhnlofpliabM01
import Derived.Test.YtmjidhnlofpliabM05
import Derived.BigQuiet
import Derived.Deep.QuietTactic
import Derived.Laws.BitsAllLaws
import Derived.WalkLawsBesides
import Derived.WalkSpells
namespace Go.Proofs.Ytmjidhnlofpliab
open Go.RowKit

theorem zu8_and1 (a : Nat) (ha : a < 256) : bits .and .u8 (a : Int) 1 = ((a % 2 : Nat) : Int) := by
  have h1 : (a : Int) < 2 ^ 8 := by exact_mod_cast ha
  have := bits_mask .u8 8 (by decide) zu8_wrap 1 (by omega) a (by omega) h1
  simpa using this
theorem zu32_and1 (a : Nat) (ha : a < 4294967296) : bits .and .u32 (a : Int) 1 = ((a % 2 : Nat) : Int) := by
  have h1 : (a : Int) < 2 ^ 32 := by exact_mod_cast ha
  have := bits_mask .u32 32 (by decide) zu32_wrap 1 (by omega) a (by omega) h1
  simpa using this

theorem lows_next (x k : Nat) (hk : k < 8) : (lows x).take (k + 1) = (lows x).take k ++ [x / 2 ^ k % 2] := by
  rw [List.take_add_one, lows_get x k hk]; rfl

set_option maxRecDepth 100000 in
set_option maxHeartbeats 2000000 in
theorem behind32_any (r x : Nat) (hr : r < 4294967296) (hx : x < 256) (w : World) :
    Calls Try.prog 78 #[.int .u32 r, .int .u8 x] w fun e w' => e = .returned (.int .u32 ((feed32 r (lows x) : Nat) : Int)) ∧ w = w' := by
  go_enter Try.func78, Try.ntmps78
  go_wp2
  go_loop [0, 7] (fun v i => ∃ j : Nat, j ≤ 8 ∧ i = .int .i64 (j : Int) ∧ v = .int .u32 ((feed32 r ((lows x).take j) : Nat) : Int)) (fun _ i => 8 - (intOf i).toNat)
  case atStart => exact ⟨0, by omega, rfl, rfl⟩
  case round =>
    obtain ⟨j, hj, rfl, rfl⟩ := hrel
    by_cases hlt : j < 8
    · have HS : Hid (feed32 r ((lows x).take (j + 1)) = m32 (feed32 r ((lows x).take j) ^^^ x / 2 ^ j % 2)) := (congrArg (feed32 r) (lows_next x j hlt)).trans (feed32_snoc _ _ _)
      have hs := feed32_lt ((lows x).take j) hr (fun y hy => lows_01 _ y (List.mem_of_mem_take hy))
      have hb2 : x / 2 ^ j % 2 < 2 := Nat.mod_lt _ (by decide)
      have hle : x / 2 ^ j ≤ x := Nat.div_le_self _ _
      have ed : (x : Int) / 2 ^ j = ((x / 2 ^ j : Nat) : Int) := by simp
      have ea : bits .and .u8 ((x / 2 ^ j : Nat) : Int) 1 = ((x / 2 ^ j % 2 : Nat) : Int) := zu8_and1 _ (by omega)
      obtain ⟨t, ht⟩ : ∃ t, x / 2 ^ j % 2 = t := ⟨_, rfl⟩
      obtain ⟨y, hy⟩ : ∃ y, x / 2 ^ j = y := ⟨_, rfl⟩
      obtain ⟨s, hse⟩ : ∃ s, feed32 r ((lows x).take j) = s := ⟨_, rfl⟩
      rw [ht] at ea hb2 HS
      rw [hy] at ed ea hle
      rw [hse] at hs HS ⊢
      have HN : Hid (m32 (s ^^^ t) = s / 2 ^^^ (if s % 2 = t then 0 else 3988292384)) := shift32_num s t hb2
      have hs' : s < 4294967296 := hs
      have eb : bits .and .u32 (s : Int) 1 = ((s % 2 : Nat) : Int) := zu32_and1 s hs'
      have eh : (s : Int) / 2 = ((s / 2 : Nat) : Int) := by simp
      have hxo : bits .xor .u32 ((s / 2 : Nat) : Int) 3988292384 = ((s / 2 ^^^ 3988292384 : Nat) : Int) := zu32_xor _ 3988292384 (by omega) (by decide)
      obtain ⟨c, hc⟩ : ∃ c, s / 2 = c := ⟨_, rfl⟩
      obtain ⟨d, hd⟩ : ∃ d, s % 2 = d := ⟨_, rfl⟩
      have hd2 : d < 2 := by omega
      have hc2 : c < 4294967296 := by omega
      rw [hc] at eh hxo HN
      rw [hd] at eb HN
      clear ht hy hse hc hd
      by_cases hdt : d = t
      · subst hdt
        have hq : ((d : Int) != (d : Int)) = false := by simp
        go_wp2
        go_round
        case rel => exact ⟨j + 1, by omega, by go_num, by rw [HS.out, HN.out, if_pos rfl, Nat.xor_zero]⟩
        case measure => simp [intOf]; omega
      · have hq : ((d : Int) != (t : Int)) = true := by rw [bne_iff_ne]; omega
        have HR : Hid (¬ d = t) := hdt
        clear hdt
        go_wp2
        go_round
        case rel => exact ⟨j + 1, by omega, by go_num, by rw [HS.out, HN.out, if_neg HR.out]⟩
        case measure => simp [intOf]; omega
    · obtain rfl : j = 8 := by omega
      have HM : Hid (feed32 r ((lows x).take 8) = feed32 r (lows x)) := rfl
      clear hlt hj
      go_wp2
      go_ret
      exact ⟨by rw [← HM.out]; rfl, rfl⟩

set_option maxHeartbeats 1000000 in
theorem crcLong_no (a : Option Addr) (n cap : Nat) (h : n ≤ 4096) (w : World) : Calls Try.prog 66 #[.slice a n cap] w fun e w' => e = .returned (.bool false) ∧ w = w' := by
  have e : decide ((4096 : Int) < (n : Int)) = false := decide_eq_false (by omega)
  go_enter Try.func66, Try.ntmps66
  go_wp2
  go_ret
  exact ⟨rfl, rfl⟩

set_option maxRecDepth 100000 in
set_option maxHeartbeats 2000000 in
theorem sum32_any (a : Option Addr) (cap : Nat) (xs : List Int) (hl : xs.length ≤ 4294967296) (bx : ∀ z ∈ xs, 0 ≤ z ∧ z ≤ 255) (w : World) (n₀ : Nat) (ha : Holds .u8 n₀ w (.slice a xs.length cap) xs) :
    Calls Try.prog 76 #[.slice a xs.length cap] w fun e w' => e = .returned (.int .u32 ((sum32 xs : Nat) : Int)) ∧ w = w' := by
  go_enter Try.func76, Try.ntmps76
  go_wp2
  go_loop [3, 8] (fun v i => ∃ k : Nat, k ≤ xs.length ∧ i = .int .i64 k ∧ v = .int .u32 ((feed32 4294967295 (textLow (xs.take k)) : Nat) : Int)) (fun _ i => xs.length - (intOf i).toNat)
  case atStart => exact ⟨0, Nat.zero_le _, rfl, rfl⟩
  case round =>
    obtain ⟨k, hk, rfl, rfl⟩ := hrel
    by_cases hlt : k < xs.length
    · obtain ⟨z, hzk, hz0', hz1'⟩ : ∃ z, xs[k]? = some z ∧ 0 ≤ z ∧ z ≤ 255 := ⟨xs[k], by simp, (bx _ (List.getElem_mem _)).1, (bx _ (List.getElem_mem _)).2⟩
      rcases ha with ⟨_, e⟩ | ⟨b, off, cap', e, hb, hcs⟩
      · rw [e] at hlt; exact absurd hlt (by simp)
      · cases e
        obtain ⟨n, rfl⟩ := Int.eq_ofNat_of_zero_le hz0'
        have c1 : w.cell? ⟨b, off + k, none⟩ = some (.int .u8 (n : Int)) := (hcs k hlt).trans (by rw [hzk]; rfl)
        have HN : Hid (feed32 4294967295 (textLow (xs.take (k + 1))) = feed32 (feed32 4294967295 (textLow (xs.take k))) (lows n)) := (congrArg (feed32 4294967295) (textLow_next hzk)).trans (feed32_append _ _ _)
        have hr := feed32_lt (textLow (xs.take k)) (r := 4294967295) (by decide) (textLow_01 _)
        obtain ⟨r, hre⟩ : ∃ r, feed32 4294967295 (textLow (xs.take k)) = r := ⟨_, rfl⟩
        rw [hre] at hr HN ⊢
        clear hcs hzk bx hre
        go_wp2_with fail
        refine (behind32_any r n hr (by omega) _).mono ?_
        rintro e w2 ⟨rfl, rfl⟩
        go_wp2
        go_round
        case rel => exact ⟨k + 1, by omega, by go_num, by rw [HN.out]⟩
        case measure => simp [intOf]; omega
    · obtain rfl : k = xs.length := by omega
      have hr := feed32_lt (textLow (xs.take xs.length)) (r := 4294967295) (by decide) (textLow_01 _)
      have HV : Hid (feed32 4294967295 (textLow (xs.take xs.length)) ^^^ 4294967295 = sum32 xs) := by
        have : xs.take xs.length = xs := List.take_length
        exact congrArg (fun l => feed32 4294967295 (textLow l) ^^^ 4294967295) this
      obtain ⟨r, hre⟩ : ∃ r, feed32 4294967295 (textLow (xs.take xs.length)) = r := ⟨_, rfl⟩
      rw [hre] at hr HV ⊢
      have hr' : r < 4294967296 := hr
      have hx : bits .xor .u32 IntKind.u32.max (r : Int) = ((r ^^^ 4294967295 : Nat) : Int) := (zu32_xor 4294967295 r (by decide) hr').trans (by rw [Nat.xor_comm])
      clear hlt hk ha hre
      go_wp2
      go_ret
      exact ⟨by rw [← HV.out, ← hx]; rfl, rfl⟩

end Go.Proofs.Ytmjidhnlofpliab
