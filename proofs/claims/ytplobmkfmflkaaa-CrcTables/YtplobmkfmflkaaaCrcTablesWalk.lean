/-
  CrcTables: the walk: whatever the text, the law answers true, and nothing that lay has turned.
-/
import Derived.Test.YtplobmkfmflkaaaCrcWakes
import Derived.Test.YtplobmkfmflkaaaCrcTabs
import Derived.Test.YtplobmkfmflkaaaRefCrc
namespace Go.Proofs.Ytplobmkfmflkaaa
open Go.RowKit

set_option maxRecDepth 100000 in
set_option maxHeartbeats 4000000 in
theorem crcTables_short (a : Option Addr) (cap : Nat) (xs : List Int) (hl : xs.length ≤ 300) (bx : ∀ z ∈ xs, 0 ≤ z ∧ z ≤ 255) (w : World) (ha : Holds .u8 w.heap.size w (.slice a xs.length cap) xs) :
    Calls Try.prog 4 #[.slice a xs.length cap] w fun e w' => e = .returned (.bool true) ∧ Below w.heap.size w w' := by
  have HB : Hid (∀ z ∈ xs, 0 ≤ z ∧ z ≤ 255) := bx
  clear bx
  go_enter Try.func4, Try.ntmps4
  go_wp2_with fail
  refine (Table16_any w).mono ?_
  rintro e w1 ⟨rfl, hS, b1⟩
  go_wp2_with fail
  refine (Table32_any w1).mono ?_
  rintro e w2 ⟨rfl, hT, b2⟩
  have hS2 := hS.below b2 hS.1
  have bb := b1.trans (b2.mono b1.size)
  have ha2 := ha.next bb
  obtain ⟨g, hg⟩ : ∃ g, w.heap.size = g := ⟨_, rfl⟩
  obtain ⟨g', hg'⟩ : ∃ g, w1.heap.size = g := ⟨_, rfl⟩
  rw [hg] at hS2 ⊢
  rw [hg'] at hT ⊢
  have HW : Hid (Below w.heap.size w w2) := bb
  have HS : Hid (∀ q, q < 256 → w2.cell? ⟨g, q, none⟩ = some (.int .i64 ((feed16 0 (highs q) : Nat) : Int))) := fun q hq => hS2.cell (tab16_get q hq)
  have HT : Hid (∀ q, q < 256 → w2.cell? ⟨g', q, none⟩ = some (.int .i64 ((feed32 0 (lows q) : Nat) : Int))) := fun q hq => hT.cell (tab32_get q hq)
  clear hS hS2 hT b1 b2 bb hg hg' ha
  go_wp2
  go_loop [5] (fun i => ∃ k : Nat, k ≤ 256 ∧ i = .int .i64 k) (fun i => 256 - (intOf i).toNat)
  case atStart => exact ⟨0, by omega, rfl⟩
  case round =>
    obtain ⟨i, hi, rfl⟩ := hrel
    by_cases hlt : i < 256
    · have cs := HS.out i hlt
      have ct := HT.out i hlt
      go_wp2
      go_loop [6, 7, 8] (fun x y k => ∃ m : Nat, m ≤ 8 ∧ k = .int .i64 ((m : Int) - 1) ∧ x = .int .i64 ((feed16 0 ((highs i).take (8 - m)) : Nat) : Int) ∧ y = .int .i64 ((feed32 0 ((lows i).take (8 - m)) : Nat) : Int)) (fun _ _ k => (intOf k + 1).toNat)
      case atStart => exact ⟨8, by omega, rfl, rfl, rfl⟩
      case round =>
        obtain ⟨m, hm, rfl, rfl, rfl⟩ := hrel
        by_cases hm0 : 0 < m
        · obtain ⟨j, rfl⟩ : ∃ j, m = j + 1 := ⟨m - 1, by omega⟩
          have ej : ((j + 1 : Nat) : Int) - 1 = (j : Int) := by omega
          have e7 : (7 : Int) - (j : Int) = ((7 - j : Nat) : Int) := by omega
          have HA : Hid (feed16 0 ((highs i).take (8 - j)) = n16 (feed16 0 ((highs i).take (8 - (j + 1))) ^^^ i / 2 ^ j % 2 * 32768)) := by
            have h := highs_next i (7 - j) (by omega)
            rw [show 7 - j + 1 = 8 - j by omega, show 7 - (7 - j) = j by omega, show 7 - j = 8 - (j + 1) by omega] at h
            exact (congrArg (feed16 0) h).trans (feed16_snoc _ _ _)
          have HC : Hid (feed32 0 ((lows i).take (8 - j)) = m32 (feed32 0 ((lows i).take (8 - (j + 1))) ^^^ i / 2 ^ (7 - j) % 2)) := by
            have h := lows_next i (7 - j) (by omega)
            have h' : (lows i).take (8 - j) = (lows i).take (8 - (j + 1)) ++ [i / 2 ^ (7 - j) % 2] := by
              rw [show 8 - (j + 1) = 7 - j by omega, show 8 - j = 7 - j + 1 by omega]; exact h
            exact (congrArg (feed32 0) h').trans (feed32_snoc _ _ _)
          have hx := feed16_lt ((highs i).take (8 - (j + 1))) (r := 0) (by decide)
          have hy := feed32_lt ((lows i).take (8 - (j + 1))) (r := 0) (by decide) (fun y hy => lows_01 _ y (List.mem_of_mem_take hy))
          obtain ⟨x, hxe⟩ : ∃ x, feed16 0 ((highs i).take (8 - (j + 1))) = x := ⟨_, rfl⟩
          obtain ⟨y, hye⟩ : ∃ y, feed32 0 ((lows i).take (8 - (j + 1))) = y := ⟨_, rfl⟩
          rw [hxe] at HA hx ⊢
          rw [hye] at HC hy ⊢
          rw [ej]
          have l1 : i / 2 ^ j ≤ i := Nat.div_le_self _ _
          have l2 : i / 2 ^ (7 - j) ≤ i := Nat.div_le_self _ _
          have d1 : (i : Int) / 2 ^ j = ((i / 2 ^ j : Nat) : Int) := by simp
          have d2 : (i : Int) / 2 ^ (7 - j) = ((i / 2 ^ (7 - j) : Nat) : Int) := by simp
          have a1 : bits .and .i64 ((i / 2 ^ j : Nat) : Int) 1 = ((i / 2 ^ j % 2 : Nat) : Int) := zi_and1 _ (by omega)
          have a2 : bits .and .i64 ((i / 2 ^ (7 - j) : Nat) : Int) 1 = ((i / 2 ^ (7 - j) % 2 : Nat) : Int) := zi_and1 _ (by omega)
          have t1 : i / 2 ^ j % 2 < 2 := Nat.mod_lt _ (by decide)
          have t2 : i / 2 ^ (7 - j) % 2 < 2 := Nat.mod_lt _ (by decide)
          obtain ⟨p1, hp1⟩ : ∃ p, i / 2 ^ j % 2 = p := ⟨_, rfl⟩
          obtain ⟨p2, hp2⟩ : ∃ p, i / 2 ^ (7 - j) % 2 = p := ⟨_, rfl⟩
          rw [hp1] at a1 t1 HA
          rw [hp2] at a2 t2 HC
          obtain ⟨q1, hq1⟩ : ∃ p, i / 2 ^ j = p := ⟨_, rfl⟩
          obtain ⟨q2, hq2⟩ : ∃ p, i / 2 ^ (7 - j) = p := ⟨_, rfl⟩
          rw [hq1] at a1 d1 l1
          rw [hq2] at a2 d2 l2
          clear hxe hye ej hp1 hp2 hq1 hq2 hm0
          go_wp2_with fail
          refine (refShift16_any x p1 hx t1 w2).mono ?_
          rintro e w3 ⟨rfl, rfl⟩
          go_wp2_with fail
          refine (refShift32_any y p2 hy t2 w2).mono ?_
          rintro e w3 ⟨rfl, rfl⟩
          go_wp2
          go_round
          case rel => exact ⟨j, by omega, by go_num, by rw [HA.out], by rw [HC.out]⟩
          case measure => simp [intOf]
        · obtain rfl : m = 0 := by omega
          have HA : Hid (feed16 0 ((highs i).take (8 - 0)) = feed16 0 (highs i)) := rfl
          have HC : Hid (feed32 0 ((lows i).take (8 - 0)) = feed32 0 (lows i)) := rfl
          rw [HA.out, HC.out]
          obtain ⟨x, hxe⟩ : ∃ x, feed16 0 (highs i) = x := ⟨_, rfl⟩
          obtain ⟨y, hye⟩ : ∃ y, feed32 0 (lows i) = y := ⟨_, rfl⟩
          rw [hxe] at cs ⊢
          rw [hye] at ct ⊢
          have n1 : ((x : Int) != (x : Int)) = false := by simp
          have n2 : ((y : Int) != (y : Int)) = false := by simp
          clear hxe hye HA HC hm hm0
          go_wp2
          go_round
          case rel => exact ⟨i + 1, by omega, by go_num⟩
          case measure => simp [intOf]; omega
    · obtain rfl : i = 256 := by omega
      clear hlt hi
      go_wp2
      go_loop [9, 10, 11] (fun x y i => ∃ k : Nat, k ≤ xs.length ∧ i = .int .i64 k ∧ x = .int .i64 ((feed16 65535 (textHigh (xs.take k)) : Nat) : Int) ∧ y = .int .i64 ((feed32 4294967295 (textLow (xs.take k)) : Nat) : Int)) (fun _ _ i => xs.length - (intOf i).toNat)
      case atStart => exact ⟨0, by omega, rfl, rfl, rfl⟩
      case round =>
        obtain ⟨k, hk, rfl, rfl, rfl⟩ := hrel
        by_cases hkl : k < xs.length
        · obtain ⟨n, hn, hn2⟩ : ∃ n : Nat, xs[k]? = some (n : Int) ∧ n < 256 := by
            have := HB.out _ (List.getElem_mem hkl)
            exact ⟨xs[k].toNat, by rw [List.getElem?_eq_getElem hkl]; congr 1; omega, by omega⟩
          rcases ha2 with ⟨_, e⟩ | ⟨b, off, cap', e, hb, hcs⟩
          · rw [e] at hkl; exact absurd hkl (by simp)
          cases e
          have c1 : w2.cell? ⟨b, off + k, none⟩ = some (.int .u8 (n : Int)) := (hcs k hkl).trans (by rw [hn]; rfl)
          have HA : Hid (feed16 65535 (textHigh (xs.take (k + 1))) = feed16 (feed16 65535 (textHigh (xs.take k))) (highs n)) := (congrArg (feed16 65535) (textHigh_next1 hn)).trans (feed16_append _ _ _)
          have HC : Hid (feed32 4294967295 (textLow (xs.take (k + 1))) = feed32 (feed32 4294967295 (textLow (xs.take k))) (lows n)) := (congrArg (feed32 4294967295) (textLow_next hn)).trans (feed32_append _ _ _)
          have hr := feed16_lt (textHigh (xs.take k)) (r := 65535) (by decide)
          have hs := feed32_lt (textLow (xs.take k)) (r := 4294967295) (by decide) (textLow_01 _)
          obtain ⟨r, hre⟩ : ∃ r, feed16 65535 (textHigh (xs.take k)) = r := ⟨_, rfl⟩
          obtain ⟨s, hse⟩ : ∃ s, feed32 4294967295 (textLow (xs.take k)) = s := ⟨_, rfl⟩
          rw [hre] at HA hr ⊢
          rw [hse] at HC hs ⊢
          have hr' : r < 65536 := hr
          have hs' : s < 4294967296 := hs
          have hA := HA.out.trans (feed16_byte r n hr' hn2)
          have hC := HC.out.trans (feed32_byte s n hn2)
          have q1 : r / 256 ^^^ n < 256 := xor_lt (k := 8) (by omega) hn2
          have q2 : s ^^^ n < 4294967296 := xor_lt (k := 32) hs' (by omega)
          have v1 := feed16_lt (highs (r / 256 ^^^ n)) (r := 0) (by decide)
          have v2 := feed32_lt (lows ((s ^^^ n) % 256)) (r := 0) (by decide) (lows_01 _)
          have cs := HS.out (r / 256 ^^^ n) q1
          have ct := HT.out ((s ^^^ n) % 256) (by omega)
          have d1 : (r : Int) / 256 = ((r / 256 : Nat) : Int) := by simp
          have d2 : (s : Int) / 256 = ((s / 256 : Nat) : Int) := by simp
          have x1 : bits .xor .i64 ((r / 256 : Nat) : Int) (n : Int) = ((r / 256 ^^^ n : Nat) : Int) := zi_xor _ _ (by omega) (by omega)
          have x2 : bits .xor .i64 (s : Int) (n : Int) = ((s ^^^ n : Nat) : Int) := zi_xor _ _ (by omega) (by omega)
          have y1 : bits .and .i64 ((r / 256 ^^^ n : Nat) : Int) 255 = ((r / 256 ^^^ n : Nat) : Int) := by rw [zi_and255 _ (by omega), Nat.mod_eq_of_lt q1]
          have y2 : bits .and .i64 ((s ^^^ n : Nat) : Int) 255 = (((s ^^^ n) % 256 : Nat) : Int) := zi_and255 _ (by omega)
          have z1 : bits .and .i64 ((r : Int) * 256) 65535 = ((r * 256 % 65536 : Nat) : Int) := by
            have := zi_and16 (r * 256) (by omega)
            rwa [show ((r * 256 : Nat) : Int) = (r : Int) * 256 by omega] at this
          obtain ⟨e1, he1⟩ : ∃ e, r / 256 ^^^ n = e := ⟨_, rfl⟩
          obtain ⟨e2, he2⟩ : ∃ e, (s ^^^ n) % 256 = e := ⟨_, rfl⟩
          obtain ⟨e3, he3⟩ : ∃ e, s ^^^ n = e := ⟨_, rfl⟩
          rw [he1] at x1 y1 cs v1 q1 hA
          rw [he2] at y2 ct v2 hC
          rw [he3] at x2 y2 q2
          obtain ⟨f1, hf1⟩ : ∃ f, feed16 0 (highs e1) = f := ⟨_, rfl⟩
          obtain ⟨f2, hf2⟩ : ∃ f, feed32 0 (lows e2) = f := ⟨_, rfl⟩
          rw [hf1] at cs v1 hA
          rw [hf2] at ct v2 hC
          obtain ⟨c, hc⟩ : ∃ c, r * 256 % 65536 = c := ⟨_, rfl⟩
          obtain ⟨d, hd⟩ : ∃ d, r / 256 = d := ⟨_, rfl⟩
          obtain ⟨h, hh⟩ : ∃ h, s / 256 = h := ⟨_, rfl⟩
          have lc : c < 65536 := by omega
          have lh : h < 4294967296 := by omega
          have ld : d < 65536 := by omega
          have le2 : e2 < 256 := by omega
          rw [hc] at z1 hA
          rw [hd] at d1 x1
          rw [hh] at d2 hC
          have u1 : bits .xor .i64 (c : Int) (f1 : Int) = ((c ^^^ f1 : Nat) : Int) := zi_xor _ _ (by omega) (by omega)
          have u2 : bits .xor .i64 (h : Int) (f2 : Int) = ((h ^^^ f2 : Nat) : Int) := zi_xor _ _ (by omega) (by omega)
          have HA' : Hid _ := hA
          have HC' : Hid _ := hC
          clear hcs hn hre hse HA HC hA hC he1 he2 he3 hf1 hf2 hc hd hh HS HT hr hs v1 v2
          go_wp2
          go_round
          case rel => exact ⟨k + 1, by omega, by go_num, by rw [HA'.out], by rw [HC'.out]⟩
          case measure => simp [intOf]; omega
        · obtain rfl : k = xs.length := by omega
          have HA : Hid (feed16 65535 (textHigh (xs.take xs.length)) = sum16 xs) := congrArg (fun l => feed16 65535 (textHigh l)) (List.take_length)
          have HC : Hid (feed32 4294967295 (textLow (xs.take xs.length)) = reg32 xs) := congrArg (fun l => feed32 4294967295 (textLow l)) (List.take_length)
          rw [HA.out, HC.out]
          have hr := reg32_lt xs
          have hx : bits .xor .i64 (reg32 xs : Int) 4294967295 = ((sum32 xs : Nat) : Int) := zi_xor _ 4294967295 (by omega) (by decide)
          have n1 : ((sum16 xs : Int) == (sum16 xs : Int)) = true := by simp
          have n2 : ((sum32 xs : Int) == (sum32 xs : Int)) = true := by simp
          clear HA HC HS HT hk hkl
          go_wp2_with fail
          refine (Sum16_any a cap xs (by omega) HB.out w2 _ ha2).mono ?_
          rintro e w3 ⟨rfl, rfl⟩
          go_wp2_with fail
          refine (Sum32_any a cap xs (by omega) HB.out w2 _ ha2).mono ?_
          rintro e w3 ⟨rfl, rfl⟩
          go_wp2_with fail
          refine (wakes_any _).mono ?_
          rintro e w3 ⟨rfl, hw⟩
          go_wp2
          go_ret
          exact ⟨rfl, HW.out.trans (hw.mono HW.out.size)⟩

set_option maxRecDepth 100000 in
set_option maxHeartbeats 2000000 in
theorem crcTables_long (a : Option Addr) (n cap : Nat) (w : World) (h : 300 < n) :
    Calls Try.prog 4 #[.slice a n cap] w fun e w' => e = .returned (.bool true) ∧ Below w.heap.size w w' := by
  go_enter Try.func4, Try.ntmps4
  go_wp2
  go_ret
  exact ⟨rfl, Below.refl _ _⟩

/-- The law, of whatever text. -/
theorem crcTables_walk (a0 : Option Addr) (len0 cap0 : Nat) (z0 : List Int) (w : World) (w0 : IsRow .u8 w a0 len0 cap0 z0) :
    Calls Try.prog 4 #[.slice a0 len0 cap0] w fun e w' => e = .returned (.bool true) ∧ Below w.heap.size w w' := by
  obtain ⟨xs, rfl, hx, bx⟩ := holds_of_isRow w0
  by_cases h : 300 < xs.length
  · exact crcTables_long a0 _ cap0 w h
  · exact crcTables_short a0 cap0 xs (by omega) (bytes_bd bx) w hx

end Go.Proofs.Ytplobmkfmflkaaa
