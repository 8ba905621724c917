/-
  SpineExact: the walk: whatever the row, states and number, the law answers true, and nothing that lay has turned.
-/
import Derived.Test.YtcenigjiojlcgaaSpineWakes
import Derived.Test.YtcenigjiojlcgaaRefSpine
import Derived.Test.YtcenigjiojlcgaaPlaces
import Derived.Test.YtcenigjiojlcgaaKeepWords
import Derived.Test.YtcenigjiojlcgaaKeepInts
import Derived.Test.YtcenigjiojlcgaaTwinInts
namespace Go.Proofs.Ytcenigjiojlcgaa
open Go.RowKit

set_option maxRecDepth 100000 in
set_option maxHeartbeats 8000000 in
theorem spineExact_farIn (a : Option Addr) (cap : Nat) (zs : List Int) (h64 : 64 < zs.length) (hl : zs.length ≤ 80) (s : Nat) (hs : s < 4294967296) (n : Nat) (hn : n < 16) (next : Nat) (hx : next < 4294967296) (w : World) (ha : Holds .i64 w.heap.size w (.slice a zs.length cap) zs) :
    Calls Try.prog 3 #[.slice a zs.length cap, .int .u32 s, .int .i64 n, .int .u32 next] w fun e w' => e = .returned (.bool true) ∧ Below w.heap.size w w' := by
  obtain ⟨⟨kk, okb⟩, hnb⟩ : ∃ q, nibN s next = q := ⟨_, rfl⟩
  have HNB : Hid (nibN s next = (kk, okb)) := hnb
  clear hnb
  have d0 : decide ((n : Int) < 0) = false := decide_eq_false (by omega)
  have d1 : decide (15 < (n : Int)) = false := decide_eq_false (by omega)
  have mS : ((stepN s n : Int) != (stepN s n : Int)) = false := by simp
  have d64 : decide (64 < (zs.length : Int)) = true := decide_eq_true (by omega)
  go_enter Try.func3, Try.ntmps3
  go_wp2_with fail
  refine (twinInts_any _ zs _ (by omega) w ha).mono ?_
  rintro e w1 ⟨r1, rfl, o1, b1⟩
  have h1 := holds_of_row o1
  obtain ⟨a1, c1, rfl⟩ := h1.shape
  have ha1 := ha.next b1
  clear o1 ha
  go_wp2_with fail
  refine (States_long a1 zs.length c1 h64 w1).mono ?_
  rintro e w2 ⟨rfl, b2⟩
  have h2 := h1.next b2
  have ha2 := ha1.next b2
  have bb2 := b1.trans (b2.mono b1.size)
  clear h1 ha1 b1 b2
  go_wp2_with fail
  refine (ints_any _ _ zs zs _ _ w2 (by omega) h2 ha2).mono ?_
  rw [decide_eq_true rfl]
  rintro e w3 ⟨rfl, q3, rfl⟩
  have bb3 := below_drewN bb2 q3
  have ha3 : Holds .i64 (w2.drewN q3).heap.size (w2.drewN q3) (.slice a zs.length cap) zs := ha2
  obtain ⟨V, hV⟩ : ∃ V, w2.drewN q3 = V := ⟨_, rfl⟩
  rw [hV] at bb3 ha3 ⊢
  clear hV h2 ha2 bb2
  clear ha3
  go_wp2_with fail
  refine (Step_ok s n hs hn V).mono ?_
  rintro e w5 ⟨rfl, rfl⟩
  go_wp2_with fail
  refine (refStep_any s n hs hn V).mono ?_
  rintro e w5 ⟨rfl, rfl⟩
  go_wp2_with fail
  refine (Nibble_any s next hs hx V).mono ?_
  rw [HNB.out]
  rintro e w5 ⟨rfl, rfl⟩
  go_wp2
  go_loop [15] (fun i => ∃ j : Nat, j ≤ 16 ∧ i = .int .i64 j ∧ Hid (∀ m, m < j → stepN s m ≠ next)) (fun i => 16 - (intOf i).toNat)
  case atStart => exact ⟨0, by omega, rfl, fun m hm => by omega⟩
  case round =>
    obtain ⟨j, hj, rfl, HJ⟩ := hrel
    by_cases hj16 : j < 16
    · by_cases hhit : stepN s j = next
      · have hk := nib_some hs hj16 hhit
        rw [HNB.out] at hk
        obtain ⟨rfl, rfl⟩ : kk = j ∧ okb = true := by cases hk; exact ⟨rfl, rfl⟩
        have HH : Hid (stepN s kk = next) := hhit
        have m1 : ((next : Int) == (next : Int)) = true := by simp
        have m2 : ((kk : Int) == (kk : Int)) = true := by simp
        clear hk hhit HJ HNB
        go_wp2_with fail
        refine (refStep_any s kk hs hj16 V).mono ?_
        rw [HH.out]
        rintro e w6 ⟨rfl, rfl⟩
        go_wp2_with fail
        refine (spineWakes_any V).mono ?_
        rintro e w6 ⟨rfl, rfl⟩
        go_wp2
        go_ret
        exact ⟨rfl, bb3⟩
      · have m1 : ((stepN s j : Int) == (next : Int)) = false := by rw [beq_eq_false_iff_ne]; omega
        have HJ' : Hid (∀ m, m < j + 1 → stepN s m ≠ next) := fun m hm => by
          by_cases e : m = j
          · subst e; exact hhit
          · exact HJ.out m (by omega)
        clear hhit HJ
        go_wp2_with fail
        refine (refStep_any s j hs hj16 V).mono ?_
        rintro e w6 ⟨rfl, rfl⟩
        go_wp2
        go_round
        case rel => exact ⟨j + 1, by omega, by go_num, HJ'⟩
        case measure => simp [intOf]; omega
    · obtain rfl : j = 16 := by omega
      have hk := nib_none (s := s) hx (fun m hm => HJ.out m hm)
      rw [HNB.out] at hk
      obtain ⟨rfl, rfl⟩ : kk = 0 ∧ okb = false := by cases hk; exact ⟨rfl, rfl⟩
      have m1 : ((beginN : Int) == (beginN : Int)) = true := by simp
      clear hk HJ HNB hj16 hj
      go_wp2_with fail
      refine (Begin_any V).mono ?_
      rintro e w6 ⟨rfl, rfl⟩
      go_wp2_with fail
      refine (refBegin_any V).mono ?_
      rintro e w6 ⟨rfl, rfl⟩
      go_wp2_with fail
      refine (spineWakes_any V).mono ?_
      rintro e w6 ⟨rfl, rfl⟩
      go_wp2
      go_ret
      exact ⟨rfl, bb3⟩

set_option maxRecDepth 100000 in
set_option maxHeartbeats 8000000 in
theorem spineExact_farLow (a : Option Addr) (cap : Nat) (zs : List Int) (h64 : 64 < zs.length) (hl : zs.length ≤ 80) (s : Nat) (hs : s < 4294967296) (n : Int) (hn : n < 0) (next : Nat) (hx : next < 4294967296) (w : World) (ha : Holds .i64 w.heap.size w (.slice a zs.length cap) zs) :
    Calls Try.prog 3 #[.slice a zs.length cap, .int .u32 s, .int .i64 n, .int .u32 next] w fun e w' => e = .returned (.bool true) ∧ Below w.heap.size w w' := by
  obtain ⟨⟨kk, okb⟩, hnb⟩ : ∃ q, nibN s next = q := ⟨_, rfl⟩
  have HNB : Hid (nibN s next = (kk, okb)) := hnb
  clear hnb
  have dn : decide (n < 0) = true := decide_eq_true hn
  have d64 : decide (64 < (zs.length : Int)) = true := decide_eq_true (by omega)
  go_enter Try.func3, Try.ntmps3
  go_wp2_with fail
  refine (twinInts_any _ zs _ (by omega) w ha).mono ?_
  rintro e w1 ⟨r1, rfl, o1, b1⟩
  have h1 := holds_of_row o1
  obtain ⟨a1, c1, rfl⟩ := h1.shape
  have ha1 := ha.next b1
  clear o1 ha
  go_wp2_with fail
  refine (States_long a1 zs.length c1 h64 w1).mono ?_
  rintro e w2 ⟨rfl, b2⟩
  have h2 := h1.next b2
  have ha2 := ha1.next b2
  have bb2 := b1.trans (b2.mono b1.size)
  clear h1 ha1 b1 b2
  go_wp2_with fail
  refine (ints_any _ _ zs zs _ _ w2 (by omega) h2 ha2).mono ?_
  rw [decide_eq_true rfl]
  rintro e w3 ⟨rfl, q3, rfl⟩
  have bb3 := below_drewN bb2 q3
  have ha3 : Holds .i64 (w2.drewN q3).heap.size (w2.drewN q3) (.slice a zs.length cap) zs := ha2
  obtain ⟨V, hV⟩ : ∃ V, w2.drewN q3 = V := ⟨_, rfl⟩
  rw [hV] at bb3 ha3 ⊢
  clear hV h2 ha2 bb2
  clear ha3
  go_wp2_with fail
  refine (Step_arg s n (.inl hn) V).mono ?_
  rintro e w5 ⟨rfl, rfl⟩
  clear hn
  go_wp2_with fail
  refine (Nibble_any s next hs hx V).mono ?_
  rw [HNB.out]
  rintro e w5 ⟨rfl, rfl⟩
  go_wp2
  go_loop [15] (fun i => ∃ j : Nat, j ≤ 16 ∧ i = .int .i64 j ∧ Hid (∀ m, m < j → stepN s m ≠ next)) (fun i => 16 - (intOf i).toNat)
  case atStart => exact ⟨0, by omega, rfl, fun m hm => by omega⟩
  case round =>
    obtain ⟨j, hj, rfl, HJ⟩ := hrel
    by_cases hj16 : j < 16
    · by_cases hhit : stepN s j = next
      · have hk := nib_some hs hj16 hhit
        rw [HNB.out] at hk
        obtain ⟨rfl, rfl⟩ : kk = j ∧ okb = true := by cases hk; exact ⟨rfl, rfl⟩
        have HH : Hid (stepN s kk = next) := hhit
        have m1 : ((next : Int) == (next : Int)) = true := by simp
        have m2 : ((kk : Int) == (kk : Int)) = true := by simp
        clear hk hhit HJ HNB
        go_wp2_with fail
        refine (refStep_any s kk hs hj16 V).mono ?_
        rw [HH.out]
        rintro e w6 ⟨rfl, rfl⟩
        go_wp2_with fail
        refine (spineWakes_any V).mono ?_
        rintro e w6 ⟨rfl, rfl⟩
        go_wp2
        go_ret
        exact ⟨rfl, bb3⟩
      · have m1 : ((stepN s j : Int) == (next : Int)) = false := by rw [beq_eq_false_iff_ne]; omega
        have HJ' : Hid (∀ m, m < j + 1 → stepN s m ≠ next) := fun m hm => by
          by_cases e : m = j
          · subst e; exact hhit
          · exact HJ.out m (by omega)
        clear hhit HJ
        go_wp2_with fail
        refine (refStep_any s j hs hj16 V).mono ?_
        rintro e w6 ⟨rfl, rfl⟩
        go_wp2
        go_round
        case rel => exact ⟨j + 1, by omega, by go_num, HJ'⟩
        case measure => simp [intOf]; omega
    · obtain rfl : j = 16 := by omega
      have hk := nib_none (s := s) hx (fun m hm => HJ.out m hm)
      rw [HNB.out] at hk
      obtain ⟨rfl, rfl⟩ : kk = 0 ∧ okb = false := by cases hk; exact ⟨rfl, rfl⟩
      have m1 : ((beginN : Int) == (beginN : Int)) = true := by simp
      clear hk HJ HNB hj16 hj
      go_wp2_with fail
      refine (Begin_any V).mono ?_
      rintro e w6 ⟨rfl, rfl⟩
      go_wp2_with fail
      refine (refBegin_any V).mono ?_
      rintro e w6 ⟨rfl, rfl⟩
      go_wp2_with fail
      refine (spineWakes_any V).mono ?_
      rintro e w6 ⟨rfl, rfl⟩
      go_wp2
      go_ret
      exact ⟨rfl, bb3⟩

set_option maxRecDepth 100000 in
set_option maxHeartbeats 8000000 in
theorem spineExact_farHigh (a : Option Addr) (cap : Nat) (zs : List Int) (h64 : 64 < zs.length) (hl : zs.length ≤ 80) (s : Nat) (hs : s < 4294967296) (n : Int) (hn : 15 < n) (next : Nat) (hx : next < 4294967296) (w : World) (ha : Holds .i64 w.heap.size w (.slice a zs.length cap) zs) :
    Calls Try.prog 3 #[.slice a zs.length cap, .int .u32 s, .int .i64 n, .int .u32 next] w fun e w' => e = .returned (.bool true) ∧ Below w.heap.size w w' := by
  obtain ⟨⟨kk, okb⟩, hnb⟩ : ∃ q, nibN s next = q := ⟨_, rfl⟩
  have HNB : Hid (nibN s next = (kk, okb)) := hnb
  clear hnb
  have dn : decide (n < 0) = false := decide_eq_false (by omega)
  have dn1 : decide (15 < n) = true := decide_eq_true hn
  have d64 : decide (64 < (zs.length : Int)) = true := decide_eq_true (by omega)
  go_enter Try.func3, Try.ntmps3
  go_wp2_with fail
  refine (twinInts_any _ zs _ (by omega) w ha).mono ?_
  rintro e w1 ⟨r1, rfl, o1, b1⟩
  have h1 := holds_of_row o1
  obtain ⟨a1, c1, rfl⟩ := h1.shape
  have ha1 := ha.next b1
  clear o1 ha
  go_wp2_with fail
  refine (States_long a1 zs.length c1 h64 w1).mono ?_
  rintro e w2 ⟨rfl, b2⟩
  have h2 := h1.next b2
  have ha2 := ha1.next b2
  have bb2 := b1.trans (b2.mono b1.size)
  clear h1 ha1 b1 b2
  go_wp2_with fail
  refine (ints_any _ _ zs zs _ _ w2 (by omega) h2 ha2).mono ?_
  rw [decide_eq_true rfl]
  rintro e w3 ⟨rfl, q3, rfl⟩
  have bb3 := below_drewN bb2 q3
  have ha3 : Holds .i64 (w2.drewN q3).heap.size (w2.drewN q3) (.slice a zs.length cap) zs := ha2
  obtain ⟨V, hV⟩ : ∃ V, w2.drewN q3 = V := ⟨_, rfl⟩
  rw [hV] at bb3 ha3 ⊢
  clear hV h2 ha2 bb2
  clear ha3
  go_wp2_with fail
  refine (Step_arg s n (.inr hn) V).mono ?_
  rintro e w5 ⟨rfl, rfl⟩
  clear hn
  go_wp2_with fail
  refine (Nibble_any s next hs hx V).mono ?_
  rw [HNB.out]
  rintro e w5 ⟨rfl, rfl⟩
  go_wp2
  go_loop [15] (fun i => ∃ j : Nat, j ≤ 16 ∧ i = .int .i64 j ∧ Hid (∀ m, m < j → stepN s m ≠ next)) (fun i => 16 - (intOf i).toNat)
  case atStart => exact ⟨0, by omega, rfl, fun m hm => by omega⟩
  case round =>
    obtain ⟨j, hj, rfl, HJ⟩ := hrel
    by_cases hj16 : j < 16
    · by_cases hhit : stepN s j = next
      · have hk := nib_some hs hj16 hhit
        rw [HNB.out] at hk
        obtain ⟨rfl, rfl⟩ : kk = j ∧ okb = true := by cases hk; exact ⟨rfl, rfl⟩
        have HH : Hid (stepN s kk = next) := hhit
        have m1 : ((next : Int) == (next : Int)) = true := by simp
        have m2 : ((kk : Int) == (kk : Int)) = true := by simp
        clear hk hhit HJ HNB
        go_wp2_with fail
        refine (refStep_any s kk hs hj16 V).mono ?_
        rw [HH.out]
        rintro e w6 ⟨rfl, rfl⟩
        go_wp2_with fail
        refine (spineWakes_any V).mono ?_
        rintro e w6 ⟨rfl, rfl⟩
        go_wp2
        go_ret
        exact ⟨rfl, bb3⟩
      · have m1 : ((stepN s j : Int) == (next : Int)) = false := by rw [beq_eq_false_iff_ne]; omega
        have HJ' : Hid (∀ m, m < j + 1 → stepN s m ≠ next) := fun m hm => by
          by_cases e : m = j
          · subst e; exact hhit
          · exact HJ.out m (by omega)
        clear hhit HJ
        go_wp2_with fail
        refine (refStep_any s j hs hj16 V).mono ?_
        rintro e w6 ⟨rfl, rfl⟩
        go_wp2
        go_round
        case rel => exact ⟨j + 1, by omega, by go_num, HJ'⟩
        case measure => simp [intOf]; omega
    · obtain rfl : j = 16 := by omega
      have hk := nib_none (s := s) hx (fun m hm => HJ.out m hm)
      rw [HNB.out] at hk
      obtain ⟨rfl, rfl⟩ : kk = 0 ∧ okb = false := by cases hk; exact ⟨rfl, rfl⟩
      have m1 : ((beginN : Int) == (beginN : Int)) = true := by simp
      clear hk HJ HNB hj16 hj
      go_wp2_with fail
      refine (Begin_any V).mono ?_
      rintro e w6 ⟨rfl, rfl⟩
      go_wp2_with fail
      refine (refBegin_any V).mono ?_
      rintro e w6 ⟨rfl, rfl⟩
      go_wp2_with fail
      refine (spineWakes_any V).mono ?_
      rintro e w6 ⟨rfl, rfl⟩
      go_wp2
      go_ret
      exact ⟨rfl, bb3⟩

set_option maxRecDepth 100000 in
set_option maxHeartbeats 8000000 in
theorem spineExact_notIn (a : Option Addr) (cap : Nat) (zs : List Int) (hl : zs.length ≤ 64) (hP : ¬ Path zs) (s : Nat) (hs : s < 4294967296) (n : Nat) (hn : n < 16) (next : Nat) (hx : next < 4294967296) (w : World) (ha : Holds .i64 w.heap.size w (.slice a zs.length cap) zs) :
    Calls Try.prog 3 #[.slice a zs.length cap, .int .u32 s, .int .i64 n, .int .u32 next] w fun e w' => e = .returned (.bool true) ∧ Below w.heap.size w w' := by
  obtain ⟨⟨kk, okb⟩, hnb⟩ : ∃ q, nibN s next = q := ⟨_, rfl⟩
  have HNB : Hid (nibN s next = (kk, okb)) := hnb
  clear hnb
  have d0 : decide ((n : Int) < 0) = false := decide_eq_false (by omega)
  have d1 : decide (15 < (n : Int)) = false := decide_eq_false (by omega)
  have mS : ((stepN s n : Int) != (stepN s n : Int)) = false := by simp
  have HP : Hid _ := hP
  clear hP
  have d64 : decide (64 < (zs.length : Int)) = false := decide_eq_false (by omega)
  go_enter Try.func3, Try.ntmps3
  go_wp2_with fail
  refine (twinInts_any _ zs _ (by omega) w ha).mono ?_
  rintro e w1 ⟨r1, rfl, o1, b1⟩
  have h1 := holds_of_row o1
  obtain ⟨a1, c1, rfl⟩ := h1.shape
  have ha1 := ha.next b1
  clear o1 ha
  go_wp2_with fail
  refine (States_arg a1 c1 zs hl HP.out w1 h1).mono ?_
  rintro e w2 ⟨rfl, b2⟩
  have h2 := h1.next b2
  have ha2 := ha1.next b2
  have bb2 := b1.trans (b2.mono b1.size)
  clear h1 ha1 b1 b2
  go_wp2_with fail
  refine (ints_any _ _ zs zs _ _ w2 (by omega) h2 ha2).mono ?_
  rw [decide_eq_true rfl]
  rintro e w3 ⟨rfl, q3, rfl⟩
  have bb3 := below_drewN bb2 q3
  have ha3 : Holds .i64 (w2.drewN q3).heap.size (w2.drewN q3) (.slice a zs.length cap) zs := ha2
  obtain ⟨V, hV⟩ : ∃ V, w2.drewN q3 = V := ⟨_, rfl⟩
  rw [hV] at bb3 ha3 ⊢
  clear hV h2 ha2 bb2
  go_wp2_with fail
  refine (refPath_no a cap zs (by omega) HP.out V _ ha3).mono ?_
  rintro e w4 ⟨rfl, rfl⟩
  clear ha3
  go_wp2_with fail
  refine (Step_ok s n hs hn V).mono ?_
  rintro e w5 ⟨rfl, rfl⟩
  go_wp2_with fail
  refine (refStep_any s n hs hn V).mono ?_
  rintro e w5 ⟨rfl, rfl⟩
  go_wp2_with fail
  refine (Nibble_any s next hs hx V).mono ?_
  rw [HNB.out]
  rintro e w5 ⟨rfl, rfl⟩
  go_wp2
  go_loop [15] (fun i => ∃ j : Nat, j ≤ 16 ∧ i = .int .i64 j ∧ Hid (∀ m, m < j → stepN s m ≠ next)) (fun i => 16 - (intOf i).toNat)
  case atStart => exact ⟨0, by omega, rfl, fun m hm => by omega⟩
  case round =>
    obtain ⟨j, hj, rfl, HJ⟩ := hrel
    by_cases hj16 : j < 16
    · by_cases hhit : stepN s j = next
      · have hk := nib_some hs hj16 hhit
        rw [HNB.out] at hk
        obtain ⟨rfl, rfl⟩ : kk = j ∧ okb = true := by cases hk; exact ⟨rfl, rfl⟩
        have HH : Hid (stepN s kk = next) := hhit
        have m1 : ((next : Int) == (next : Int)) = true := by simp
        have m2 : ((kk : Int) == (kk : Int)) = true := by simp
        clear hk hhit HJ HNB
        go_wp2_with fail
        refine (refStep_any s kk hs hj16 V).mono ?_
        rw [HH.out]
        rintro e w6 ⟨rfl, rfl⟩
        go_wp2_with fail
        refine (spineWakes_any V).mono ?_
        rintro e w6 ⟨rfl, rfl⟩
        go_wp2
        go_ret
        exact ⟨rfl, bb3⟩
      · have m1 : ((stepN s j : Int) == (next : Int)) = false := by rw [beq_eq_false_iff_ne]; omega
        have HJ' : Hid (∀ m, m < j + 1 → stepN s m ≠ next) := fun m hm => by
          by_cases e : m = j
          · subst e; exact hhit
          · exact HJ.out m (by omega)
        clear hhit HJ
        go_wp2_with fail
        refine (refStep_any s j hs hj16 V).mono ?_
        rintro e w6 ⟨rfl, rfl⟩
        go_wp2
        go_round
        case rel => exact ⟨j + 1, by omega, by go_num, HJ'⟩
        case measure => simp [intOf]; omega
    · obtain rfl : j = 16 := by omega
      have hk := nib_none (s := s) hx (fun m hm => HJ.out m hm)
      rw [HNB.out] at hk
      obtain ⟨rfl, rfl⟩ : kk = 0 ∧ okb = false := by cases hk; exact ⟨rfl, rfl⟩
      have m1 : ((beginN : Int) == (beginN : Int)) = true := by simp
      clear hk HJ HNB hj16 hj
      go_wp2_with fail
      refine (Begin_any V).mono ?_
      rintro e w6 ⟨rfl, rfl⟩
      go_wp2_with fail
      refine (refBegin_any V).mono ?_
      rintro e w6 ⟨rfl, rfl⟩
      go_wp2_with fail
      refine (spineWakes_any V).mono ?_
      rintro e w6 ⟨rfl, rfl⟩
      go_wp2
      go_ret
      exact ⟨rfl, bb3⟩

set_option maxRecDepth 100000 in
set_option maxHeartbeats 8000000 in
theorem spineExact_notLow (a : Option Addr) (cap : Nat) (zs : List Int) (hl : zs.length ≤ 64) (hP : ¬ Path zs) (s : Nat) (hs : s < 4294967296) (n : Int) (hn : n < 0) (next : Nat) (hx : next < 4294967296) (w : World) (ha : Holds .i64 w.heap.size w (.slice a zs.length cap) zs) :
    Calls Try.prog 3 #[.slice a zs.length cap, .int .u32 s, .int .i64 n, .int .u32 next] w fun e w' => e = .returned (.bool true) ∧ Below w.heap.size w w' := by
  obtain ⟨⟨kk, okb⟩, hnb⟩ : ∃ q, nibN s next = q := ⟨_, rfl⟩
  have HNB : Hid (nibN s next = (kk, okb)) := hnb
  clear hnb
  have dn : decide (n < 0) = true := decide_eq_true hn
  have HP : Hid _ := hP
  clear hP
  have d64 : decide (64 < (zs.length : Int)) = false := decide_eq_false (by omega)
  go_enter Try.func3, Try.ntmps3
  go_wp2_with fail
  refine (twinInts_any _ zs _ (by omega) w ha).mono ?_
  rintro e w1 ⟨r1, rfl, o1, b1⟩
  have h1 := holds_of_row o1
  obtain ⟨a1, c1, rfl⟩ := h1.shape
  have ha1 := ha.next b1
  clear o1 ha
  go_wp2_with fail
  refine (States_arg a1 c1 zs hl HP.out w1 h1).mono ?_
  rintro e w2 ⟨rfl, b2⟩
  have h2 := h1.next b2
  have ha2 := ha1.next b2
  have bb2 := b1.trans (b2.mono b1.size)
  clear h1 ha1 b1 b2
  go_wp2_with fail
  refine (ints_any _ _ zs zs _ _ w2 (by omega) h2 ha2).mono ?_
  rw [decide_eq_true rfl]
  rintro e w3 ⟨rfl, q3, rfl⟩
  have bb3 := below_drewN bb2 q3
  have ha3 : Holds .i64 (w2.drewN q3).heap.size (w2.drewN q3) (.slice a zs.length cap) zs := ha2
  obtain ⟨V, hV⟩ : ∃ V, w2.drewN q3 = V := ⟨_, rfl⟩
  rw [hV] at bb3 ha3 ⊢
  clear hV h2 ha2 bb2
  go_wp2_with fail
  refine (refPath_no a cap zs (by omega) HP.out V _ ha3).mono ?_
  rintro e w4 ⟨rfl, rfl⟩
  clear ha3
  go_wp2_with fail
  refine (Step_arg s n (.inl hn) V).mono ?_
  rintro e w5 ⟨rfl, rfl⟩
  clear hn
  go_wp2_with fail
  refine (Nibble_any s next hs hx V).mono ?_
  rw [HNB.out]
  rintro e w5 ⟨rfl, rfl⟩
  go_wp2
  go_loop [15] (fun i => ∃ j : Nat, j ≤ 16 ∧ i = .int .i64 j ∧ Hid (∀ m, m < j → stepN s m ≠ next)) (fun i => 16 - (intOf i).toNat)
  case atStart => exact ⟨0, by omega, rfl, fun m hm => by omega⟩
  case round =>
    obtain ⟨j, hj, rfl, HJ⟩ := hrel
    by_cases hj16 : j < 16
    · by_cases hhit : stepN s j = next
      · have hk := nib_some hs hj16 hhit
        rw [HNB.out] at hk
        obtain ⟨rfl, rfl⟩ : kk = j ∧ okb = true := by cases hk; exact ⟨rfl, rfl⟩
        have HH : Hid (stepN s kk = next) := hhit
        have m1 : ((next : Int) == (next : Int)) = true := by simp
        have m2 : ((kk : Int) == (kk : Int)) = true := by simp
        clear hk hhit HJ HNB
        go_wp2_with fail
        refine (refStep_any s kk hs hj16 V).mono ?_
        rw [HH.out]
        rintro e w6 ⟨rfl, rfl⟩
        go_wp2_with fail
        refine (spineWakes_any V).mono ?_
        rintro e w6 ⟨rfl, rfl⟩
        go_wp2
        go_ret
        exact ⟨rfl, bb3⟩
      · have m1 : ((stepN s j : Int) == (next : Int)) = false := by rw [beq_eq_false_iff_ne]; omega
        have HJ' : Hid (∀ m, m < j + 1 → stepN s m ≠ next) := fun m hm => by
          by_cases e : m = j
          · subst e; exact hhit
          · exact HJ.out m (by omega)
        clear hhit HJ
        go_wp2_with fail
        refine (refStep_any s j hs hj16 V).mono ?_
        rintro e w6 ⟨rfl, rfl⟩
        go_wp2
        go_round
        case rel => exact ⟨j + 1, by omega, by go_num, HJ'⟩
        case measure => simp [intOf]; omega
    · obtain rfl : j = 16 := by omega
      have hk := nib_none (s := s) hx (fun m hm => HJ.out m hm)
      rw [HNB.out] at hk
      obtain ⟨rfl, rfl⟩ : kk = 0 ∧ okb = false := by cases hk; exact ⟨rfl, rfl⟩
      have m1 : ((beginN : Int) == (beginN : Int)) = true := by simp
      clear hk HJ HNB hj16 hj
      go_wp2_with fail
      refine (Begin_any V).mono ?_
      rintro e w6 ⟨rfl, rfl⟩
      go_wp2_with fail
      refine (refBegin_any V).mono ?_
      rintro e w6 ⟨rfl, rfl⟩
      go_wp2_with fail
      refine (spineWakes_any V).mono ?_
      rintro e w6 ⟨rfl, rfl⟩
      go_wp2
      go_ret
      exact ⟨rfl, bb3⟩

set_option maxRecDepth 100000 in
set_option maxHeartbeats 8000000 in
theorem spineExact_notHigh (a : Option Addr) (cap : Nat) (zs : List Int) (hl : zs.length ≤ 64) (hP : ¬ Path zs) (s : Nat) (hs : s < 4294967296) (n : Int) (hn : 15 < n) (next : Nat) (hx : next < 4294967296) (w : World) (ha : Holds .i64 w.heap.size w (.slice a zs.length cap) zs) :
    Calls Try.prog 3 #[.slice a zs.length cap, .int .u32 s, .int .i64 n, .int .u32 next] w fun e w' => e = .returned (.bool true) ∧ Below w.heap.size w w' := by
  obtain ⟨⟨kk, okb⟩, hnb⟩ : ∃ q, nibN s next = q := ⟨_, rfl⟩
  have HNB : Hid (nibN s next = (kk, okb)) := hnb
  clear hnb
  have dn : decide (n < 0) = false := decide_eq_false (by omega)
  have dn1 : decide (15 < n) = true := decide_eq_true hn
  have HP : Hid _ := hP
  clear hP
  have d64 : decide (64 < (zs.length : Int)) = false := decide_eq_false (by omega)
  go_enter Try.func3, Try.ntmps3
  go_wp2_with fail
  refine (twinInts_any _ zs _ (by omega) w ha).mono ?_
  rintro e w1 ⟨r1, rfl, o1, b1⟩
  have h1 := holds_of_row o1
  obtain ⟨a1, c1, rfl⟩ := h1.shape
  have ha1 := ha.next b1
  clear o1 ha
  go_wp2_with fail
  refine (States_arg a1 c1 zs hl HP.out w1 h1).mono ?_
  rintro e w2 ⟨rfl, b2⟩
  have h2 := h1.next b2
  have ha2 := ha1.next b2
  have bb2 := b1.trans (b2.mono b1.size)
  clear h1 ha1 b1 b2
  go_wp2_with fail
  refine (ints_any _ _ zs zs _ _ w2 (by omega) h2 ha2).mono ?_
  rw [decide_eq_true rfl]
  rintro e w3 ⟨rfl, q3, rfl⟩
  have bb3 := below_drewN bb2 q3
  have ha3 : Holds .i64 (w2.drewN q3).heap.size (w2.drewN q3) (.slice a zs.length cap) zs := ha2
  obtain ⟨V, hV⟩ : ∃ V, w2.drewN q3 = V := ⟨_, rfl⟩
  rw [hV] at bb3 ha3 ⊢
  clear hV h2 ha2 bb2
  go_wp2_with fail
  refine (refPath_no a cap zs (by omega) HP.out V _ ha3).mono ?_
  rintro e w4 ⟨rfl, rfl⟩
  clear ha3
  go_wp2_with fail
  refine (Step_arg s n (.inr hn) V).mono ?_
  rintro e w5 ⟨rfl, rfl⟩
  clear hn
  go_wp2_with fail
  refine (Nibble_any s next hs hx V).mono ?_
  rw [HNB.out]
  rintro e w5 ⟨rfl, rfl⟩
  go_wp2
  go_loop [15] (fun i => ∃ j : Nat, j ≤ 16 ∧ i = .int .i64 j ∧ Hid (∀ m, m < j → stepN s m ≠ next)) (fun i => 16 - (intOf i).toNat)
  case atStart => exact ⟨0, by omega, rfl, fun m hm => by omega⟩
  case round =>
    obtain ⟨j, hj, rfl, HJ⟩ := hrel
    by_cases hj16 : j < 16
    · by_cases hhit : stepN s j = next
      · have hk := nib_some hs hj16 hhit
        rw [HNB.out] at hk
        obtain ⟨rfl, rfl⟩ : kk = j ∧ okb = true := by cases hk; exact ⟨rfl, rfl⟩
        have HH : Hid (stepN s kk = next) := hhit
        have m1 : ((next : Int) == (next : Int)) = true := by simp
        have m2 : ((kk : Int) == (kk : Int)) = true := by simp
        clear hk hhit HJ HNB
        go_wp2_with fail
        refine (refStep_any s kk hs hj16 V).mono ?_
        rw [HH.out]
        rintro e w6 ⟨rfl, rfl⟩
        go_wp2_with fail
        refine (spineWakes_any V).mono ?_
        rintro e w6 ⟨rfl, rfl⟩
        go_wp2
        go_ret
        exact ⟨rfl, bb3⟩
      · have m1 : ((stepN s j : Int) == (next : Int)) = false := by rw [beq_eq_false_iff_ne]; omega
        have HJ' : Hid (∀ m, m < j + 1 → stepN s m ≠ next) := fun m hm => by
          by_cases e : m = j
          · subst e; exact hhit
          · exact HJ.out m (by omega)
        clear hhit HJ
        go_wp2_with fail
        refine (refStep_any s j hs hj16 V).mono ?_
        rintro e w6 ⟨rfl, rfl⟩
        go_wp2
        go_round
        case rel => exact ⟨j + 1, by omega, by go_num, HJ'⟩
        case measure => simp [intOf]; omega
    · obtain rfl : j = 16 := by omega
      have hk := nib_none (s := s) hx (fun m hm => HJ.out m hm)
      rw [HNB.out] at hk
      obtain ⟨rfl, rfl⟩ : kk = 0 ∧ okb = false := by cases hk; exact ⟨rfl, rfl⟩
      have m1 : ((beginN : Int) == (beginN : Int)) = true := by simp
      clear hk HJ HNB hj16 hj
      go_wp2_with fail
      refine (Begin_any V).mono ?_
      rintro e w6 ⟨rfl, rfl⟩
      go_wp2_with fail
      refine (refBegin_any V).mono ?_
      rintro e w6 ⟨rfl, rfl⟩
      go_wp2_with fail
      refine (spineWakes_any V).mono ?_
      rintro e w6 ⟨rfl, rfl⟩
      go_wp2
      go_ret
      exact ⟨rfl, bb3⟩

set_option maxRecDepth 100000 in
set_option maxHeartbeats 8000000 in
theorem spineExact_pathIn (a : Option Addr) (cap : Nat) (zs : List Int) (hl : zs.length ≤ 64) (hP : Path zs) (s : Nat) (hs : s < 4294967296) (n : Nat) (hn : n < 16) (next : Nat) (hx : next < 4294967296) (w : World) (ha : Holds .i64 w.heap.size w (.slice a zs.length cap) zs) :
    Calls Try.prog 3 #[.slice a zs.length cap, .int .u32 s, .int .i64 n, .int .u32 next] w fun e w' => e = .returned (.bool true) ∧ Below w.heap.size w w' := by
  obtain ⟨⟨kk, okb⟩, hnb⟩ : ∃ q, nibN s next = q := ⟨_, rfl⟩
  have HNB : Hid (nibN s next = (kk, okb)) := hnb
  clear hnb
  have d0 : decide ((n : Int) < 0) = false := decide_eq_false (by omega)
  have d1 : decide (15 < (n : Int)) = false := decide_eq_false (by omega)
  have mS : ((stepN s n : Int) != (stepN s n : Int)) = false := by simp
  have HP : Hid _ := hP
  clear hP
  have d64 : decide (64 < (zs.length : Int)) = false := decide_eq_false (by omega)
  go_enter Try.func3, Try.ntmps3
  go_wp2_with fail
  refine (twinInts_any _ zs _ (by omega) w ha).mono ?_
  rintro e w1 ⟨r1, rfl, o1, b1⟩
  have h1 := holds_of_row o1
  obtain ⟨a1, c1, rfl⟩ := h1.shape
  have ha1 := ha.next b1
  clear o1 ha
  go_wp2_with fail
  refine (States_ok a1 c1 zs hl HP.out w1 h1).mono ?_
  rintro e w2 ⟨r2, rfl, ⟨hr2, ar2, cr2, rfl, _⟩, b2⟩
  have HSL : Hid ((statesOf beginN zs).length = zs.length) := statesOf_len _ _
  rw [HSL.out] at hr2 ⊢
  have h2 := h1.next b2
  have ha2 := ha1.next b2
  have bb2 := b1.trans (b2.mono b1.size)
  clear h1 ha1 b1 b2
  go_wp2_with fail
  refine (ints_any _ _ zs zs _ _ w2 (by omega) h2 ha2).mono ?_
  rw [decide_eq_true rfl]
  rintro e w3 ⟨rfl, q3, rfl⟩
  have bb3 := below_drewN bb2 q3
  have ha3 : Holds .i64 (w2.drewN q3).heap.size (w2.drewN q3) (.slice a zs.length cap) zs := ha2
  have hr3 : Holds .u32 (w2.drewN q3).heap.size (w2.drewN q3) (.slice ar2 zs.length cr2) (statesOf beginN zs) := hr2
  obtain ⟨V, hV⟩ : ∃ V, w2.drewN q3 = V := ⟨_, rfl⟩
  rw [hV] at bb3 ha3 hr3 ⊢
  clear hV h2 ha2 bb2 hr2
  go_wp2_with fail
  refine (refPath_yes a cap zs (by omega) HP.out V _ ha3).mono ?_
  rintro e w4 ⟨rfl, rfl⟩
  go_wp2_with fail
  refine (refStates_any a cap zs (by omega) HP.out V ha3).mono ?_
  rintro e w4 ⟨r4, rfl, o4, b4⟩
  have hy4 := holds_of_row o4
  have hr4 := hr3.next b4
  have bb4 := bb3.trans (b4.mono bb3.size)
  clear o4 hr3 ha3 b4
  go_wp2_with fail
  refine (words_any _ _ _ _ _ _ w4 (by rw [HSL.out]; omega) hr4 hy4).mono ?_
  rw [decide_eq_true rfl]
  rintro e w5 ⟨rfl, q5, rfl⟩
  have bb5 := below_drewN bb4 q5
  obtain ⟨U, hU⟩ : ∃ U, w4.drewN q5 = U := ⟨_, rfl⟩
  rw [hU] at bb5 ⊢
  clear hU hr4 hy4 bb4
  go_wp2_with fail
  refine (Step_ok s n hs hn U).mono ?_
  rintro e w5 ⟨rfl, rfl⟩
  go_wp2_with fail
  refine (refStep_any s n hs hn U).mono ?_
  rintro e w5 ⟨rfl, rfl⟩
  go_wp2_with fail
  refine (Nibble_any s next hs hx U).mono ?_
  rw [HNB.out]
  rintro e w5 ⟨rfl, rfl⟩
  go_wp2
  go_loop [15] (fun i => ∃ j : Nat, j ≤ 16 ∧ i = .int .i64 j ∧ Hid (∀ m, m < j → stepN s m ≠ next)) (fun i => 16 - (intOf i).toNat)
  case atStart => exact ⟨0, by omega, rfl, fun m hm => by omega⟩
  case round =>
    obtain ⟨j, hj, rfl, HJ⟩ := hrel
    by_cases hj16 : j < 16
    · by_cases hhit : stepN s j = next
      · have hk := nib_some hs hj16 hhit
        rw [HNB.out] at hk
        obtain ⟨rfl, rfl⟩ : kk = j ∧ okb = true := by cases hk; exact ⟨rfl, rfl⟩
        have HH : Hid (stepN s kk = next) := hhit
        have m1 : ((next : Int) == (next : Int)) = true := by simp
        have m2 : ((kk : Int) == (kk : Int)) = true := by simp
        clear hk hhit HJ HNB
        go_wp2_with fail
        refine (refStep_any s kk hs hj16 U).mono ?_
        rw [HH.out]
        rintro e w6 ⟨rfl, rfl⟩
        go_wp2_with fail
        refine (spineWakes_any U).mono ?_
        rintro e w6 ⟨rfl, rfl⟩
        go_wp2
        go_ret
        exact ⟨rfl, bb5⟩
      · have m1 : ((stepN s j : Int) == (next : Int)) = false := by rw [beq_eq_false_iff_ne]; omega
        have HJ' : Hid (∀ m, m < j + 1 → stepN s m ≠ next) := fun m hm => by
          by_cases e : m = j
          · subst e; exact hhit
          · exact HJ.out m (by omega)
        clear hhit HJ
        go_wp2_with fail
        refine (refStep_any s j hs hj16 U).mono ?_
        rintro e w6 ⟨rfl, rfl⟩
        go_wp2
        go_round
        case rel => exact ⟨j + 1, by omega, by go_num, HJ'⟩
        case measure => simp [intOf]; omega
    · obtain rfl : j = 16 := by omega
      have hk := nib_none (s := s) hx (fun m hm => HJ.out m hm)
      rw [HNB.out] at hk
      obtain ⟨rfl, rfl⟩ : kk = 0 ∧ okb = false := by cases hk; exact ⟨rfl, rfl⟩
      have m1 : ((beginN : Int) == (beginN : Int)) = true := by simp
      clear hk HJ HNB hj16 hj
      go_wp2_with fail
      refine (Begin_any U).mono ?_
      rintro e w6 ⟨rfl, rfl⟩
      go_wp2_with fail
      refine (refBegin_any U).mono ?_
      rintro e w6 ⟨rfl, rfl⟩
      go_wp2_with fail
      refine (spineWakes_any U).mono ?_
      rintro e w6 ⟨rfl, rfl⟩
      go_wp2
      go_ret
      exact ⟨rfl, bb5⟩

set_option maxRecDepth 100000 in
set_option maxHeartbeats 8000000 in
theorem spineExact_pathLow (a : Option Addr) (cap : Nat) (zs : List Int) (hl : zs.length ≤ 64) (hP : Path zs) (s : Nat) (hs : s < 4294967296) (n : Int) (hn : n < 0) (next : Nat) (hx : next < 4294967296) (w : World) (ha : Holds .i64 w.heap.size w (.slice a zs.length cap) zs) :
    Calls Try.prog 3 #[.slice a zs.length cap, .int .u32 s, .int .i64 n, .int .u32 next] w fun e w' => e = .returned (.bool true) ∧ Below w.heap.size w w' := by
  obtain ⟨⟨kk, okb⟩, hnb⟩ : ∃ q, nibN s next = q := ⟨_, rfl⟩
  have HNB : Hid (nibN s next = (kk, okb)) := hnb
  clear hnb
  have dn : decide (n < 0) = true := decide_eq_true hn
  have HP : Hid _ := hP
  clear hP
  have d64 : decide (64 < (zs.length : Int)) = false := decide_eq_false (by omega)
  go_enter Try.func3, Try.ntmps3
  go_wp2_with fail
  refine (twinInts_any _ zs _ (by omega) w ha).mono ?_
  rintro e w1 ⟨r1, rfl, o1, b1⟩
  have h1 := holds_of_row o1
  obtain ⟨a1, c1, rfl⟩ := h1.shape
  have ha1 := ha.next b1
  clear o1 ha
  go_wp2_with fail
  refine (States_ok a1 c1 zs hl HP.out w1 h1).mono ?_
  rintro e w2 ⟨r2, rfl, ⟨hr2, ar2, cr2, rfl, _⟩, b2⟩
  have HSL : Hid ((statesOf beginN zs).length = zs.length) := statesOf_len _ _
  rw [HSL.out] at hr2 ⊢
  have h2 := h1.next b2
  have ha2 := ha1.next b2
  have bb2 := b1.trans (b2.mono b1.size)
  clear h1 ha1 b1 b2
  go_wp2_with fail
  refine (ints_any _ _ zs zs _ _ w2 (by omega) h2 ha2).mono ?_
  rw [decide_eq_true rfl]
  rintro e w3 ⟨rfl, q3, rfl⟩
  have bb3 := below_drewN bb2 q3
  have ha3 : Holds .i64 (w2.drewN q3).heap.size (w2.drewN q3) (.slice a zs.length cap) zs := ha2
  have hr3 : Holds .u32 (w2.drewN q3).heap.size (w2.drewN q3) (.slice ar2 zs.length cr2) (statesOf beginN zs) := hr2
  obtain ⟨V, hV⟩ : ∃ V, w2.drewN q3 = V := ⟨_, rfl⟩
  rw [hV] at bb3 ha3 hr3 ⊢
  clear hV h2 ha2 bb2 hr2
  go_wp2_with fail
  refine (refPath_yes a cap zs (by omega) HP.out V _ ha3).mono ?_
  rintro e w4 ⟨rfl, rfl⟩
  go_wp2_with fail
  refine (refStates_any a cap zs (by omega) HP.out V ha3).mono ?_
  rintro e w4 ⟨r4, rfl, o4, b4⟩
  have hy4 := holds_of_row o4
  have hr4 := hr3.next b4
  have bb4 := bb3.trans (b4.mono bb3.size)
  clear o4 hr3 ha3 b4
  go_wp2_with fail
  refine (words_any _ _ _ _ _ _ w4 (by rw [HSL.out]; omega) hr4 hy4).mono ?_
  rw [decide_eq_true rfl]
  rintro e w5 ⟨rfl, q5, rfl⟩
  have bb5 := below_drewN bb4 q5
  obtain ⟨U, hU⟩ : ∃ U, w4.drewN q5 = U := ⟨_, rfl⟩
  rw [hU] at bb5 ⊢
  clear hU hr4 hy4 bb4
  go_wp2_with fail
  refine (Step_arg s n (.inl hn) U).mono ?_
  rintro e w5 ⟨rfl, rfl⟩
  clear hn
  go_wp2_with fail
  refine (Nibble_any s next hs hx U).mono ?_
  rw [HNB.out]
  rintro e w5 ⟨rfl, rfl⟩
  go_wp2
  go_loop [15] (fun i => ∃ j : Nat, j ≤ 16 ∧ i = .int .i64 j ∧ Hid (∀ m, m < j → stepN s m ≠ next)) (fun i => 16 - (intOf i).toNat)
  case atStart => exact ⟨0, by omega, rfl, fun m hm => by omega⟩
  case round =>
    obtain ⟨j, hj, rfl, HJ⟩ := hrel
    by_cases hj16 : j < 16
    · by_cases hhit : stepN s j = next
      · have hk := nib_some hs hj16 hhit
        rw [HNB.out] at hk
        obtain ⟨rfl, rfl⟩ : kk = j ∧ okb = true := by cases hk; exact ⟨rfl, rfl⟩
        have HH : Hid (stepN s kk = next) := hhit
        have m1 : ((next : Int) == (next : Int)) = true := by simp
        have m2 : ((kk : Int) == (kk : Int)) = true := by simp
        clear hk hhit HJ HNB
        go_wp2_with fail
        refine (refStep_any s kk hs hj16 U).mono ?_
        rw [HH.out]
        rintro e w6 ⟨rfl, rfl⟩
        go_wp2_with fail
        refine (spineWakes_any U).mono ?_
        rintro e w6 ⟨rfl, rfl⟩
        go_wp2
        go_ret
        exact ⟨rfl, bb5⟩
      · have m1 : ((stepN s j : Int) == (next : Int)) = false := by rw [beq_eq_false_iff_ne]; omega
        have HJ' : Hid (∀ m, m < j + 1 → stepN s m ≠ next) := fun m hm => by
          by_cases e : m = j
          · subst e; exact hhit
          · exact HJ.out m (by omega)
        clear hhit HJ
        go_wp2_with fail
        refine (refStep_any s j hs hj16 U).mono ?_
        rintro e w6 ⟨rfl, rfl⟩
        go_wp2
        go_round
        case rel => exact ⟨j + 1, by omega, by go_num, HJ'⟩
        case measure => simp [intOf]; omega
    · obtain rfl : j = 16 := by omega
      have hk := nib_none (s := s) hx (fun m hm => HJ.out m hm)
      rw [HNB.out] at hk
      obtain ⟨rfl, rfl⟩ : kk = 0 ∧ okb = false := by cases hk; exact ⟨rfl, rfl⟩
      have m1 : ((beginN : Int) == (beginN : Int)) = true := by simp
      clear hk HJ HNB hj16 hj
      go_wp2_with fail
      refine (Begin_any U).mono ?_
      rintro e w6 ⟨rfl, rfl⟩
      go_wp2_with fail
      refine (refBegin_any U).mono ?_
      rintro e w6 ⟨rfl, rfl⟩
      go_wp2_with fail
      refine (spineWakes_any U).mono ?_
      rintro e w6 ⟨rfl, rfl⟩
      go_wp2
      go_ret
      exact ⟨rfl, bb5⟩

set_option maxRecDepth 100000 in
set_option maxHeartbeats 8000000 in
theorem spineExact_pathHigh (a : Option Addr) (cap : Nat) (zs : List Int) (hl : zs.length ≤ 64) (hP : Path zs) (s : Nat) (hs : s < 4294967296) (n : Int) (hn : 15 < n) (next : Nat) (hx : next < 4294967296) (w : World) (ha : Holds .i64 w.heap.size w (.slice a zs.length cap) zs) :
    Calls Try.prog 3 #[.slice a zs.length cap, .int .u32 s, .int .i64 n, .int .u32 next] w fun e w' => e = .returned (.bool true) ∧ Below w.heap.size w w' := by
  obtain ⟨⟨kk, okb⟩, hnb⟩ : ∃ q, nibN s next = q := ⟨_, rfl⟩
  have HNB : Hid (nibN s next = (kk, okb)) := hnb
  clear hnb
  have dn : decide (n < 0) = false := decide_eq_false (by omega)
  have dn1 : decide (15 < n) = true := decide_eq_true hn
  have HP : Hid _ := hP
  clear hP
  have d64 : decide (64 < (zs.length : Int)) = false := decide_eq_false (by omega)
  go_enter Try.func3, Try.ntmps3
  go_wp2_with fail
  refine (twinInts_any _ zs _ (by omega) w ha).mono ?_
  rintro e w1 ⟨r1, rfl, o1, b1⟩
  have h1 := holds_of_row o1
  obtain ⟨a1, c1, rfl⟩ := h1.shape
  have ha1 := ha.next b1
  clear o1 ha
  go_wp2_with fail
  refine (States_ok a1 c1 zs hl HP.out w1 h1).mono ?_
  rintro e w2 ⟨r2, rfl, ⟨hr2, ar2, cr2, rfl, _⟩, b2⟩
  have HSL : Hid ((statesOf beginN zs).length = zs.length) := statesOf_len _ _
  rw [HSL.out] at hr2 ⊢
  have h2 := h1.next b2
  have ha2 := ha1.next b2
  have bb2 := b1.trans (b2.mono b1.size)
  clear h1 ha1 b1 b2
  go_wp2_with fail
  refine (ints_any _ _ zs zs _ _ w2 (by omega) h2 ha2).mono ?_
  rw [decide_eq_true rfl]
  rintro e w3 ⟨rfl, q3, rfl⟩
  have bb3 := below_drewN bb2 q3
  have ha3 : Holds .i64 (w2.drewN q3).heap.size (w2.drewN q3) (.slice a zs.length cap) zs := ha2
  have hr3 : Holds .u32 (w2.drewN q3).heap.size (w2.drewN q3) (.slice ar2 zs.length cr2) (statesOf beginN zs) := hr2
  obtain ⟨V, hV⟩ : ∃ V, w2.drewN q3 = V := ⟨_, rfl⟩
  rw [hV] at bb3 ha3 hr3 ⊢
  clear hV h2 ha2 bb2 hr2
  go_wp2_with fail
  refine (refPath_yes a cap zs (by omega) HP.out V _ ha3).mono ?_
  rintro e w4 ⟨rfl, rfl⟩
  go_wp2_with fail
  refine (refStates_any a cap zs (by omega) HP.out V ha3).mono ?_
  rintro e w4 ⟨r4, rfl, o4, b4⟩
  have hy4 := holds_of_row o4
  have hr4 := hr3.next b4
  have bb4 := bb3.trans (b4.mono bb3.size)
  clear o4 hr3 ha3 b4
  go_wp2_with fail
  refine (words_any _ _ _ _ _ _ w4 (by rw [HSL.out]; omega) hr4 hy4).mono ?_
  rw [decide_eq_true rfl]
  rintro e w5 ⟨rfl, q5, rfl⟩
  have bb5 := below_drewN bb4 q5
  obtain ⟨U, hU⟩ : ∃ U, w4.drewN q5 = U := ⟨_, rfl⟩
  rw [hU] at bb5 ⊢
  clear hU hr4 hy4 bb4
  go_wp2_with fail
  refine (Step_arg s n (.inr hn) U).mono ?_
  rintro e w5 ⟨rfl, rfl⟩
  clear hn
  go_wp2_with fail
  refine (Nibble_any s next hs hx U).mono ?_
  rw [HNB.out]
  rintro e w5 ⟨rfl, rfl⟩
  go_wp2
  go_loop [15] (fun i => ∃ j : Nat, j ≤ 16 ∧ i = .int .i64 j ∧ Hid (∀ m, m < j → stepN s m ≠ next)) (fun i => 16 - (intOf i).toNat)
  case atStart => exact ⟨0, by omega, rfl, fun m hm => by omega⟩
  case round =>
    obtain ⟨j, hj, rfl, HJ⟩ := hrel
    by_cases hj16 : j < 16
    · by_cases hhit : stepN s j = next
      · have hk := nib_some hs hj16 hhit
        rw [HNB.out] at hk
        obtain ⟨rfl, rfl⟩ : kk = j ∧ okb = true := by cases hk; exact ⟨rfl, rfl⟩
        have HH : Hid (stepN s kk = next) := hhit
        have m1 : ((next : Int) == (next : Int)) = true := by simp
        have m2 : ((kk : Int) == (kk : Int)) = true := by simp
        clear hk hhit HJ HNB
        go_wp2_with fail
        refine (refStep_any s kk hs hj16 U).mono ?_
        rw [HH.out]
        rintro e w6 ⟨rfl, rfl⟩
        go_wp2_with fail
        refine (spineWakes_any U).mono ?_
        rintro e w6 ⟨rfl, rfl⟩
        go_wp2
        go_ret
        exact ⟨rfl, bb5⟩
      · have m1 : ((stepN s j : Int) == (next : Int)) = false := by rw [beq_eq_false_iff_ne]; omega
        have HJ' : Hid (∀ m, m < j + 1 → stepN s m ≠ next) := fun m hm => by
          by_cases e : m = j
          · subst e; exact hhit
          · exact HJ.out m (by omega)
        clear hhit HJ
        go_wp2_with fail
        refine (refStep_any s j hs hj16 U).mono ?_
        rintro e w6 ⟨rfl, rfl⟩
        go_wp2
        go_round
        case rel => exact ⟨j + 1, by omega, by go_num, HJ'⟩
        case measure => simp [intOf]; omega
    · obtain rfl : j = 16 := by omega
      have hk := nib_none (s := s) hx (fun m hm => HJ.out m hm)
      rw [HNB.out] at hk
      obtain ⟨rfl, rfl⟩ : kk = 0 ∧ okb = false := by cases hk; exact ⟨rfl, rfl⟩
      have m1 : ((beginN : Int) == (beginN : Int)) = true := by simp
      clear hk HJ HNB hj16 hj
      go_wp2_with fail
      refine (Begin_any U).mono ?_
      rintro e w6 ⟨rfl, rfl⟩
      go_wp2_with fail
      refine (refBegin_any U).mono ?_
      rintro e w6 ⟨rfl, rfl⟩
      go_wp2_with fail
      refine (spineWakes_any U).mono ?_
      rintro e w6 ⟨rfl, rfl⟩
      go_wp2
      go_ret
      exact ⟨rfl, bb5⟩

set_option maxRecDepth 100000 in
set_option maxHeartbeats 2000000 in
theorem spineExact_long (a : Option Addr) (n cap : Nat) (s : Nat) (m : Int) (next : Nat) (w : World) (h : 80 < n) :
    Calls Try.prog 3 #[.slice a n cap, .int .u32 s, .int .i64 m, .int .u32 next] w fun e w' => e = .returned (.bool true) ∧ Below w.heap.size w w' := by
  go_enter Try.func3, Try.ntmps3
  go_wp2
  go_ret
  exact ⟨rfl, Below.refl _ _⟩

/-- The law, of whatever row, states and number. -/
theorem spineExact_walk (a0 : Option Addr) (len0 cap0 : Nat) (z0 : List Int) (a1 a2 a3 : Int) (w : World) (w0 : IsRow .i64 w a0 len0 cap0 z0) (w1 : (Lit.int .u32 a1).wf = true) (w3 : (Lit.int .u32 a3).wf = true) :
    Calls Try.prog 3 #[.slice a0 len0 cap0, .int .u32 a1, .int .i64 a2, .int .u32 a3] w fun e w' => e = .returned (.bool true) ∧ Below w.heap.size w w' := by
  obtain ⟨xs, rfl, hx, _⟩ := holds_of_isRow w0
  have h1 := bounds_u32 w1
  have h3 := bounds_u32 w3
  obtain ⟨s, rfl⟩ := Int.eq_ofNat_of_zero_le h1.1
  obtain ⟨t, rfl⟩ := Int.eq_ofNat_of_zero_le h3.1
  have hs : s < 4294967296 := by omega
  have ht : t < 4294967296 := by omega
  by_cases h : 80 < xs.length
  · exact spineExact_long a0 _ cap0 s a2 t w h
  · by_cases hn : a2 < 0 ∨ 15 < a2
    · by_cases h64 : 64 < xs.length
      · rcases hn with hn | hn
        · exact spineExact_farLow a0 cap0 xs h64 (by omega) s hs a2 hn t ht w hx
        · exact spineExact_farHigh a0 cap0 xs h64 (by omega) s hs a2 hn t ht w hx
      · by_cases hP : Path xs
        · rcases hn with hn | hn
          · exact spineExact_pathLow a0 cap0 xs (by omega) hP s hs a2 hn t ht w hx
          · exact spineExact_pathHigh a0 cap0 xs (by omega) hP s hs a2 hn t ht w hx
        · rcases hn with hn | hn
          · exact spineExact_notLow a0 cap0 xs (by omega) hP s hs a2 hn t ht w hx
          · exact spineExact_notHigh a0 cap0 xs (by omega) hP s hs a2 hn t ht w hx
    · obtain ⟨n, rfl⟩ := Int.eq_ofNat_of_zero_le (a := a2) (by omega)
      by_cases h64 : 64 < xs.length
      · exact spineExact_farIn a0 cap0 xs h64 (by omega) s hs n (by omega) t ht w hx
      · by_cases hP : Path xs
        · exact spineExact_pathIn a0 cap0 xs (by omega) hP s hs n (by omega) t ht w hx
        · exact spineExact_notIn a0 cap0 xs (by omega) hP s hs n (by omega) t ht w hx

end Go.Proofs.Ytcenigjiojlcgaa
