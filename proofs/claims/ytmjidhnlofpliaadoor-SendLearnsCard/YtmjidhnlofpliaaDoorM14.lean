/-
  What crc.behind16, behind32, isLong, sum32, Sum16, Sum32 answer, for every text in memory.
-/
import Derived.Test.YtmjidhnlofpliaaDoorM01
import Derived.Test.YtmjidhnlofpliaaDoorM07
import Derived.BigQuiet
import Derived.Deep.QuietTactic
import Derived.Laws.BitsAllLaws
import Derived.WalkLawsBesides
import Derived.WalkSpells
namespace Go.Proofs.YtmjidhnlofpliaaDoor
open Go.RowKit

theorem zu16_wrap (n : Int) (h0 : 0 ≤ n) (h1 : n < 2 ^ 16) : IntKind.u16.wrap n = n := by
  have e : (2 : Int) ^ 16 = 65536 := by decide
  rw [e] at h1; rw [IntKind.wrap_u16]; omega
theorem zu32_wrap (n : Int) (h0 : 0 ≤ n) (h1 : n < 2 ^ 32) : IntKind.u32.wrap n = n := by
  have e : (2 : Int) ^ 32 = 4294967296 := by decide
  rw [e] at h1; rw [IntKind.wrap_u32]; omega
theorem zu8_wrap (n : Int) (h0 : 0 ≤ n) (h1 : n < 2 ^ 8) : IntKind.u8.wrap n = n := by
  have e : (2 : Int) ^ 8 = 256 := by decide
  rw [e] at h1; rw [IntKind.wrap_u8]; omega

theorem zu16_xor (a b : Nat) (ha : a < 65536) (hb : b < 65536) : bits .xor .u16 (a : Int) (b : Int) = ((a ^^^ b : Nat) : Int) := by
  have e : ∀ n : Nat, n < 65536 → (BitVec.ofInt 16 (n : Int)).toNat = n := fun n h => by
    rw [BitVec.ofInt_natCast, BitVec.toNat_ofNat]; exact Nat.mod_eq_of_lt (by omega)
  have hx : a ^^^ b < 2 ^ 16 := Nat.xor_lt_two_pow ha hb
  show IntKind.u16.wrap ((BitVec.ofInt 16 (a : Int) ^^^ BitVec.ofInt 16 (b : Int)).toNat : Int) = _
  rw [BitVec.toNat_xor, e a ha, e b hb]
  exact zu16_wrap _ (by omega) (by exact_mod_cast hx)
theorem zu32_xor (a b : Nat) (ha : a < 4294967296) (hb : b < 4294967296) : bits .xor .u32 (a : Int) (b : Int) = ((a ^^^ b : Nat) : Int) := by
  have e : ∀ n : Nat, n < 4294967296 → (BitVec.ofInt 32 (n : Int)).toNat = n := fun n h => by
    rw [BitVec.ofInt_natCast, BitVec.toNat_ofNat]; exact Nat.mod_eq_of_lt (by omega)
  have hx : a ^^^ b < 2 ^ 32 := Nat.xor_lt_two_pow ha hb
  show IntKind.u32.wrap ((BitVec.ofInt 32 (a : Int) ^^^ BitVec.ofInt 32 (b : Int)).toNat : Int) = _
  rw [BitVec.toNat_xor, e a ha, e b hb]
  exact zu32_wrap _ (by omega) (by exact_mod_cast hx)
theorem zu8_and1 (a : Nat) (ha : a < 256) : bits .and .u8 (a : Int) 1 = ((a % 2 : Nat) : Int) := by
  have h1 : (a : Int) < 2 ^ 8 := by exact_mod_cast ha
  have := bits_mask .u8 8 (by decide) zu8_wrap 1 (by omega) a (by omega) h1
  simpa using this
theorem zu32_and1 (a : Nat) (ha : a < 4294967296) : bits .and .u32 (a : Int) 1 = ((a % 2 : Nat) : Int) := by
  have h1 : (a : Int) < 2 ^ 32 := by exact_mod_cast ha
  have := bits_mask .u32 32 (by decide) zu32_wrap 1 (by omega) a (by omega) h1
  simpa using this

theorem highs_next (x k : Nat) (hk : k < 8) : (highs x).take (k + 1) = (highs x).take k ++ [x / 2 ^ (7 - k) % 2] := by
  rw [List.take_add_one, highs_get x k hk]; rfl
theorem lows_next (x k : Nat) (hk : k < 8) : (lows x).take (k + 1) = (lows x).take k ++ [x / 2 ^ k % 2] := by
  rw [List.take_add_one, lows_get x k hk]; rfl

set_option maxRecDepth 100000 in
set_option maxHeartbeats 2000000 in
theorem behind16_any (r x : Nat) (hr : r < 65536) (hx : x < 256) (w : World) :
    Calls Tryd.prog 65 #[.int .u16 r, .int .u8 x] w fun e w' => e = .returned (.int .u16 ((feed16 r (highs x) : Nat) : Int)) ∧ w = w' := by
  go_enter Tryd.func65, Tryd.ntmps65
  go_wp2
  go_loop [0, 5] (fun v i => ∃ m : Nat, m ≤ 8 ∧ i = .int .i64 ((m : Int) - 1) ∧ v = .int .u16 ((feed16 r ((highs x).take (8 - m)) : Nat) : Int)) (fun _ i => (intOf i + 1).toNat)
  case atStart => exact ⟨8, by omega, rfl, rfl⟩
  case round =>
    obtain ⟨m, hm, rfl, rfl⟩ := hrel
    by_cases hlt : 0 < m
    · obtain ⟨j, rfl⟩ : ∃ j, m = j + 1 := ⟨m - 1, by omega⟩
      have ej : ((j + 1 : Nat) : Int) - 1 = (j : Int) := by omega
      have HS : Hid (feed16 r ((highs x).take (8 - j)) = n16 (feed16 r ((highs x).take (8 - (j + 1))) ^^^ x / 2 ^ j % 2 * 32768)) := by
        have h := highs_next x (7 - j) (by omega)
        rw [show 7 - j + 1 = 8 - j by omega, show 7 - (7 - j) = j by omega, show 7 - j = 8 - (j + 1) by omega] at h
        exact (congrArg (feed16 r) h).trans (feed16_snoc _ _ _)
      have hs := feed16_lt ((highs x).take (8 - (j + 1))) (r := r) hr
      have hb2 : x / 2 ^ j % 2 < 2 := Nat.mod_lt _ (by decide)
      have hle : x / 2 ^ j ≤ x := Nat.div_le_self _ _
      have ed : (x : Int) / 2 ^ j = ((x / 2 ^ j : Nat) : Int) := by simp
      have ea : bits .and .u8 ((x / 2 ^ j : Nat) : Int) 1 = ((x / 2 ^ j % 2 : Nat) : Int) := zu8_and1 _ (by omega)
      obtain ⟨t, ht⟩ : ∃ t, x / 2 ^ j % 2 = t := ⟨_, rfl⟩
      obtain ⟨y, hy⟩ : ∃ y, x / 2 ^ j = y := ⟨_, rfl⟩
      obtain ⟨s, hse⟩ : ∃ s, feed16 r ((highs x).take (8 - (j + 1))) = s := ⟨_, rfl⟩
      rw [ht] at ea hb2 HS
      rw [hy] at ed ea hle
      rw [hse] at hs HS ⊢
      rw [ej]
      have HN : Hid (n16 (s ^^^ t * 32768) = 2 * s % 65536 ^^^ (if s / 32768 = t then 0 else 4129)) := shift16_num s t hs hb2
      have ew : IntKind.u16.wrap ((s : Int) * 2) = ((2 * s % 65536 : Nat) : Int) := by rw [IntKind.wrap_u16]; omega
      have eq : (s : Int) / 32768 = ((s / 32768 : Nat) : Int) := by simp
      have hxo : bits .xor .u16 ((2 * s % 65536 : Nat) : Int) 4129 = ((2 * s % 65536 ^^^ 4129 : Nat) : Int) := zu16_xor _ 4129 (by omega) (by decide)
      obtain ⟨c, hc⟩ : ∃ c, 2 * s % 65536 = c := ⟨_, rfl⟩
      obtain ⟨d, hd⟩ : ∃ d, s / 32768 = d := ⟨_, rfl⟩
      have hd2 : d < 2 := by omega
      rw [hc] at ew hxo HN
      rw [hd] at eq HN
      clear ht hy hse ej hlt hc hd
      by_cases hdt : d = t
      · subst hdt
        have hq : ((d : Int) != (d : Int)) = false := by simp
        go_wp2
        go_round
        case rel => exact ⟨j, by omega, by go_num, by rw [HS.out, HN.out, if_pos rfl, Nat.xor_zero]⟩
        case measure => simp [intOf]
      · have hq : ((d : Int) != (t : Int)) = true := by rw [bne_iff_ne]; omega
        have HR : Hid (¬ d = t) := hdt
        clear hdt
        go_wp2
        go_round
        case rel => exact ⟨j, by omega, by go_num, by rw [HS.out, HN.out, if_neg HR.out]⟩
        case measure => simp [intOf]
    · obtain rfl : m = 0 := by omega
      have HM : Hid (feed16 r ((highs x).take (8 - 0)) = feed16 r (highs x)) := rfl
      go_wp2
      go_ret
      exact ⟨by rw [← HM.out]; rfl, rfl⟩

set_option maxRecDepth 100000 in
set_option maxHeartbeats 2000000 in
theorem behind32_any (r x : Nat) (hr : r < 4294967296) (hx : x < 256) (w : World) :
    Calls Tryd.prog 90 #[.int .u32 r, .int .u8 x] w fun e w' => e = .returned (.int .u32 ((feed32 r (lows x) : Nat) : Int)) ∧ w = w' := by
  go_enter Tryd.func90, Tryd.ntmps90
  go_wp2
  go_loop [0, 7] (fun v i => ∃ j : Nat, j ≤ 8 ∧ i = .int .i64 (j : Int) ∧ v = .int .u32 ((feed32 r ((lows x).take j) : Nat) : Int)) (fun _ i => 8 - (intOf i).toNat)
  case atStart => exact ⟨0, by omega, rfl, rfl⟩
  case round =>
    obtain ⟨j, hj, rfl, rfl⟩ := hrel
    by_cases hlt : j < 8
    · have HS : Hid (feed32 r ((lows x).take (j + 1)) = m32 (feed32 r ((lows x).take j) ^^^ x / 2 ^ j % 2)) := (congrArg (feed32 r) (lows_next x j hlt)).trans (feed32_snoc _ _ _)
      have hs := feed32_lt ((lows x).take j) hr (fun y hy => lows_01 _ y (List.mem_of_mem_take hy))
      have hb2 : x / 2 ^ j % 2 < 2 := Nat.mod_lt _ (by decide)
      have hle : x / 2 ^ j ≤ x := Nat.div_le_self _ _
      have ed : (x : Int) / 2 ^ j = ((x / 2 ^ j : Nat) : Int) := by simp
      have ea : bits .and .u8 ((x / 2 ^ j : Nat) : Int) 1 = ((x / 2 ^ j % 2 : Nat) : Int) := zu8_and1 _ (by omega)
      obtain ⟨t, ht⟩ : ∃ t, x / 2 ^ j % 2 = t := ⟨_, rfl⟩
      obtain ⟨y, hy⟩ : ∃ y, x / 2 ^ j = y := ⟨_, rfl⟩
      obtain ⟨s, hse⟩ : ∃ s, feed32 r ((lows x).take j) = s := ⟨_, rfl⟩
      rw [ht] at ea hb2 HS
      rw [hy] at ed ea hle
      rw [hse] at hs HS ⊢
      have HN : Hid (m32 (s ^^^ t) = s / 2 ^^^ (if s % 2 = t then 0 else 3988292384)) := shift32_num s t hb2
      have hs' : s < 4294967296 := hs
      have eb : bits .and .u32 (s : Int) 1 = ((s % 2 : Nat) : Int) := zu32_and1 s hs'
      have eh : (s : Int) / 2 = ((s / 2 : Nat) : Int) := by simp
      have hxo : bits .xor .u32 ((s / 2 : Nat) : Int) 3988292384 = ((s / 2 ^^^ 3988292384 : Nat) : Int) := zu32_xor _ 3988292384 (by omega) (by decide)
      obtain ⟨c, hc⟩ : ∃ c, s / 2 = c := ⟨_, rfl⟩
      obtain ⟨d, hd⟩ : ∃ d, s % 2 = d := ⟨_, rfl⟩
      have hd2 : d < 2 := by omega
      have hc2 : c < 4294967296 := by omega
      rw [hc] at eh hxo HN
      rw [hd] at eb HN
      clear ht hy hse hc hd
      by_cases hdt : d = t
      · subst hdt
        have hq : ((d : Int) != (d : Int)) = false := by simp
        go_wp2
        go_round
        case rel => exact ⟨j + 1, by omega, by go_num, by rw [HS.out, HN.out, if_pos rfl, Nat.xor_zero]⟩
        case measure => simp [intOf]; omega
      · have hq : ((d : Int) != (t : Int)) = true := by rw [bne_iff_ne]; omega
        have HR : Hid (¬ d = t) := hdt
        clear hdt
        go_wp2
        go_round
        case rel => exact ⟨j + 1, by omega, by go_num, by rw [HS.out, HN.out, if_neg HR.out]⟩
        case measure => simp [intOf]; omega
    · obtain rfl : j = 8 := by omega
      have HM : Hid (feed32 r ((lows x).take 8) = feed32 r (lows x)) := rfl
      clear hlt hj
      go_wp2
      go_ret
      exact ⟨by rw [← HM.out]; rfl, rfl⟩

set_option maxHeartbeats 1000000 in
theorem crcLong_no (a : Option Addr) (n cap : Nat) (h : n ≤ 4096) (w : World) : Calls Tryd.prog 64 #[.slice a n cap] w fun e w' => e = .returned (.bool false) ∧ w = w' := by
  have e : decide ((4096 : Int) < (n : Int)) = false := decide_eq_false (by omega)
  go_enter Tryd.func64, Tryd.ntmps64
  go_wp2
  go_ret
  exact ⟨rfl, rfl⟩

theorem textHigh_next1 {xs : List Int} {k : Nat} {z : Int} (hz : xs[k]? = some z) : textHigh (xs.take (k + 1)) = textHigh (xs.take k) ++ highs z.toNat := by
  rw [List.take_add_one, hz, Option.toList_some]
  unfold textHigh
  rw [List.flatMap_append]
  simp

set_option maxRecDepth 100000 in
set_option maxHeartbeats 2000000 in
theorem sum32_any (a : Option Addr) (cap : Nat) (xs : List Int) (hl : xs.length ≤ 4294967296) (bx : ∀ z ∈ xs, 0 ≤ z ∧ z ≤ 255) (w : World) (n₀ : Nat) (ha : Holds .u8 n₀ w (.slice a xs.length cap) xs) :
    Calls Tryd.prog 82 #[.slice a xs.length cap] w fun e w' => e = .returned (.int .u32 ((sum32 xs : Nat) : Int)) ∧ w = w' := by
  go_enter Tryd.func82, Tryd.ntmps82
  go_wp2
  go_loop [3, 8] (fun v i => ∃ k : Nat, k ≤ xs.length ∧ i = .int .i64 k ∧ v = .int .u32 ((feed32 4294967295 (textLow (xs.take k)) : Nat) : Int)) (fun _ i => xs.length - (intOf i).toNat)
  case atStart => exact ⟨0, Nat.zero_le _, rfl, rfl⟩
  case round =>
    obtain ⟨k, hk, rfl, rfl⟩ := hrel
    by_cases hlt : k < xs.length
    · obtain ⟨z, hzk, hz0', hz1'⟩ : ∃ z, xs[k]? = some z ∧ 0 ≤ z ∧ z ≤ 255 := ⟨xs[k], by simp, (bx _ (List.getElem_mem _)).1, (bx _ (List.getElem_mem _)).2⟩
      rcases ha with ⟨_, e⟩ | ⟨b, off, cap', e, hb, hcs⟩
      · rw [e] at hlt; exact absurd hlt (by simp)
      · cases e
        obtain ⟨n, rfl⟩ := Int.eq_ofNat_of_zero_le hz0'
        have c1 : w.cell? ⟨b, off + k, none⟩ = some (.int .u8 (n : Int)) := (hcs k hlt).trans (by rw [hzk]; rfl)
        have HN : Hid (feed32 4294967295 (textLow (xs.take (k + 1))) = feed32 (feed32 4294967295 (textLow (xs.take k))) (lows n)) := (congrArg (feed32 4294967295) (textLow_next hzk)).trans (feed32_append _ _ _)
        have hr := feed32_lt (textLow (xs.take k)) (r := 4294967295) (by decide) (textLow_01 _)
        obtain ⟨r, hre⟩ : ∃ r, feed32 4294967295 (textLow (xs.take k)) = r := ⟨_, rfl⟩
        rw [hre] at hr HN ⊢
        clear hcs hzk bx hre
        go_wp2_with fail
        refine (behind32_any r n hr (by omega) _).mono ?_
        rintro e w2 ⟨rfl, rfl⟩
        go_wp2
        go_round
        case rel => exact ⟨k + 1, by omega, by go_num, by rw [HN.out]⟩
        case measure => simp [intOf]; omega
    · obtain rfl : k = xs.length := by omega
      have hr := feed32_lt (textLow (xs.take xs.length)) (r := 4294967295) (by decide) (textLow_01 _)
      have HV : Hid (feed32 4294967295 (textLow (xs.take xs.length)) ^^^ 4294967295 = sum32 xs) := by
        have : xs.take xs.length = xs := List.take_length
        exact congrArg (fun l => feed32 4294967295 (textLow l) ^^^ 4294967295) this
      obtain ⟨r, hre⟩ : ∃ r, feed32 4294967295 (textLow (xs.take xs.length)) = r := ⟨_, rfl⟩
      rw [hre] at hr HV ⊢
      have hr' : r < 4294967296 := hr
      have hx : bits .xor .u32 IntKind.u32.max (r : Int) = ((r ^^^ 4294967295 : Nat) : Int) := (zu32_xor 4294967295 r (by decide) hr').trans (by rw [Nat.xor_comm])
      clear hlt hk ha hre
      go_wp2
      go_ret
      exact ⟨by rw [← HV.out, ← hx]; rfl, rfl⟩

set_option maxRecDepth 100000 in
set_option maxHeartbeats 2000000 in
theorem Sum16_any (a : Option Addr) (cap : Nat) (xs : List Int) (hl : xs.length ≤ 4096) (bx : ∀ z ∈ xs, 0 ≤ z ∧ z ≤ 255) (w : World) (n₀ : Nat) (ha : Holds .u8 n₀ w (.slice a xs.length cap) xs) :
    Calls Tryd.prog 45 #[.slice a xs.length cap] w fun e w' => e = .returned (.tuple #[.int .i64 ((sum16 xs : Nat) : Int), .int .i64 0]) ∧ w = w' := by
  go_enter Tryd.func45, Tryd.ntmps45
  go_wp2_with fail
  refine (crcLong_no a xs.length cap hl w).mono ?_
  rintro e w2 ⟨rfl, rfl⟩
  go_wp2
  go_loop [4, 11] (fun v i => ∃ k : Nat, k ≤ xs.length ∧ i = .int .i64 k ∧ v = .int .u16 ((feed16 65535 (textHigh (xs.take k)) : Nat) : Int)) (fun _ i => xs.length - (intOf i).toNat)
  case atStart => exact ⟨0, Nat.zero_le _, rfl, rfl⟩
  case round =>
    obtain ⟨k, hk, rfl, rfl⟩ := hrel
    by_cases hlt : k < xs.length
    · obtain ⟨z, hzk, hz0', hz1'⟩ : ∃ z, xs[k]? = some z ∧ 0 ≤ z ∧ z ≤ 255 := ⟨xs[k], by simp, (bx _ (List.getElem_mem _)).1, (bx _ (List.getElem_mem _)).2⟩
      rcases ha with ⟨_, e⟩ | ⟨b, off, cap', e, hb, hcs⟩
      · rw [e] at hlt; exact absurd hlt (by simp)
      · cases e
        obtain ⟨n, rfl⟩ := Int.eq_ofNat_of_zero_le hz0'
        have c1 : w.cell? ⟨b, off + k, none⟩ = some (.int .u8 (n : Int)) := (hcs k hlt).trans (by rw [hzk]; rfl)
        have HN : Hid (feed16 65535 (textHigh (xs.take (k + 1))) = feed16 (feed16 65535 (textHigh (xs.take k))) (highs n)) := (congrArg (feed16 65535) (textHigh_next1 hzk)).trans (feed16_append _ _ _)
        have hr := feed16_lt (textHigh (xs.take k)) (r := 65535) (by decide)
        obtain ⟨r, hre⟩ : ∃ r, feed16 65535 (textHigh (xs.take k)) = r := ⟨_, rfl⟩
        rw [hre] at hr HN ⊢
        clear hcs hzk bx hre
        go_wp2_with fail
        refine (behind16_any r n hr (by omega) _).mono ?_
        rintro e w2 ⟨rfl, rfl⟩
        go_wp2
        go_round
        case rel => exact ⟨k + 1, by omega, by go_num, by rw [HN.out]⟩
        case measure => simp [intOf]; omega
    · obtain rfl : k = xs.length := by omega
      have hr := feed16_lt (textHigh (xs.take xs.length)) (r := 65535) (by decide)
      have HV : Hid (feed16 65535 (textHigh (xs.take xs.length)) = sum16 xs) := by
        have : xs.take xs.length = xs := List.take_length
        exact congrArg (fun l => feed16 65535 (textHigh l)) this
      obtain ⟨r, hre⟩ : ∃ r, feed16 65535 (textHigh (xs.take xs.length)) = r := ⟨_, rfl⟩
      rw [hre] at hr HV ⊢
      have hr' : r < 65536 := hr
      clear hlt hk ha hre
      go_wp2
      go_ret2
      exact ⟨by rw [← HV.out]; rfl, rfl⟩

end Go.Proofs.YtmjidhnlofpliaaDoor
