/-
  CrcLong: the walk: whatever the number, the law answers true, and nothing that lay has turned.
-/
import Derived.Test.YtplobmkfmflkaaaCrcWakes
import Derived.Test.YtplobmkfmflkaaaCrcText
import Derived.Test.YtplobmkfmflkaaaCrcSealed
namespace Go.Proofs.Ytplobmkfmflkaaa
open Go.RowKit

theorem made_noughts {w : World} {base n : Nat} {v : Value} (h : w.ownsRow base 5 1 v n (madeCells (Value.int .u8 0).cells (n * 1)).toList) : w.ownsRow base 5 1 v n ((List.replicate n (0 : Int)).map (Value.int .u8)) := by
  rw [show (Value.int IntKind.u8 0).cells = #[.int .u8 0] from rfl, toList_madeCells_one, Nat.mul_one] at h
  rw [List.map_replicate]
  exact h

theorem noughts_bd (n : Nat) : ∀ z ∈ List.replicate n (0 : Int), 0 ≤ z ∧ z ≤ 255 := fun z hz => by rw [List.eq_of_mem_replicate hz]; omega

theorem Seal_at (a : Option Addr) (n cap : Nat) (xs : List Int) (hn : xs.length = n) (hl : n ≤ 4092) (bx : ∀ z ∈ xs, 0 ≤ z ∧ z ≤ 255) (w : World) (ha : Holds .u8 w.heap.size w (.slice a n cap) xs) :
    Calls Try.prog 20 #[.slice a n cap] w fun e W' => ∃ r, e = .returned (.tuple #[r, .int .i64 0]) ∧ W'.ownsRow w.heap.size 5 1 r (n + 4) ((sealL xs).map (Value.int .u8)) ∧ Below w.heap.size w W' := by
  subst hn; exact Seal_any a cap xs hl bx w ha

set_option maxRecDepth 100000 in
set_option maxHeartbeats 4000000 in
theorem crcLong_fits (over : Int) (h0 : -1 ≤ over) (h1 : over ≤ 0) (w : World) :
    Calls Try.prog 8 #[.int .i64 over] w fun e w' => e = .returned (.bool true) ∧ Below w.heap.size w w' := by
  obtain ⟨i0, hi, hz0, hz1, hz2⟩ := info_parts infoU8
  obtain ⟨N, hN⟩ : ∃ N : Nat, 4096 + over = (N : Int) := ⟨(4096 + over).toNat, by omega⟩
  obtain ⟨M, hM⟩ : ∃ M : Nat, 4092 + over = (M : Int) := ⟨(4092 + over).toNat, by omega⟩
  have lN : N ≤ 4096 := by omega
  have lM : M ≤ 4092 := by omega
  have HR : ∀ n, Hid ((List.replicate n (0 : Int)).length = n) := fun n => List.length_replicate
  have d0 : decide (over < -1) = false := decide_eq_false (by omega)
  have d1 : decide (1 < over) = false := decide_eq_false (by omega)
  have d2 : decide (0 < over) = false := decide_eq_false (by omega)
  go_enter Try.func8, Try.ntmps8
  go_wp2_with (at_make; refine wpList_make_full _ rfl _ _ 22 rfl w.heap.size 5 i0 (.int .u8 0) 1 Try.underlying22 hi hz0 hz1 .i64 .i64 _ _ N rfl rfl rfl rfl (by rw [hz2]; omega) (by unfold maxLen; omega) (Nat.le_refl _) ?_; intro w1 hown1 hgrow1)
  have b1 : Below w.heap.size w w1 := (Below.refl _ w).grown hgrow1 (Nat.le_refl _) (fun k e => by cases e)
  have hH1 := holds_of_row (made_noughts hown1)
  clear hown1 hgrow1
  refine (Sum16_at _ N N (List.replicate N 0) (HR N).out lN (noughts_bd N) w1 _ hH1).mono ?_
  rintro e w2 ⟨rfl, rfl⟩
  go_wp2_with fail
  refine (Sum32_at _ N N (List.replicate N 0) (HR N).out lN (noughts_bd N) w1 _ hH1).mono ?_
  rintro e w2 ⟨rfl, rfl⟩
  go_wp2_with fail
  refine (Sealed_at _ N N (List.replicate N 0) (HR N).out lN (Nat.le_refl _) (noughts_bd N) w1 hH1).mono ?_
  rintro e w2 ⟨rfl, b2⟩
  have bb2 := b1.trans (b2.mono b1.size)
  obtain ⟨s1, hs1⟩ : ∃ s, sum16 (List.replicate N 0) = s := ⟨_, rfl⟩
  obtain ⟨s2, hs2⟩ : ∃ s, sum32 (List.replicate N 0) = s := ⟨_, rfl⟩
  obtain ⟨s3, hs3⟩ : ∃ s, isSealed (List.replicate N 0) = s := ⟨_, rfl⟩
  rw [hs1, hs2, hs3]
  clear b2 b1 hH1 hs1 hs2 hs3
  go_wp2_with (at_make; refine wpList_make_full _ rfl _ _ 22 rfl w2.heap.size 5 i0 (.int .u8 0) 1 Try.underlying22 hi hz0 hz1 .i64 .i64 _ _ M rfl rfl rfl rfl (by rw [hz2]; omega) (by unfold maxLen; omega) (Nat.le_refl _) ?_; intro w3 hown3 hgrow3)
  have b3 : Below w2.heap.size w2 w3 := (Below.refl _ w2).grown hgrow3 (Nat.le_refl _) (fun k e => by cases e)
  have hH3 := holds_of_row (made_noughts hown3)
  have bb3 := bb2.trans (b3.mono bb2.size)
  clear hown3 hgrow3 b3
  refine (Seal_at _ M M (List.replicate M 0) (HR M).out lM (noughts_bd M) w3 hH3).mono ?_
  rintro e w4 ⟨r4, rfl, o4, b4⟩
  have bb4 := bb3.trans (b4.mono bb3.size)
  have HL4 : Hid ((sealL (List.replicate M 0)).length = M + 4) := by show (sealL (List.replicate M 0)).length = M + 4; rw [sealL_len, (HR M).out]
  have h4 := holds_of_row o4
  obtain ⟨a4, c4, hr4⟩ := h4.shape
  rw [HL4.out] at hr4
  subst hr4
  clear o4 h4 hH3 b4
  go_wp2_with fail
  refine (wakes_any _).mono ?_
  rintro e w5 ⟨rfl, hw⟩
  go_wp2
  go_ret
  exact ⟨rfl, bb4.trans (hw.mono bb4.size)⟩

set_option maxRecDepth 100000 in
set_option maxHeartbeats 4000000 in
theorem crcLong_over (w : World) :
    Calls Try.prog 8 #[.int .i64 1] w fun e w' => e = .returned (.bool true) ∧ Below w.heap.size w w' := by
  obtain ⟨i0, hi, hz0, hz1, hz2⟩ := info_parts infoU8
  go_enter Try.func8, Try.ntmps8
  go_wp2_with (at_make; refine wpList_make_full _ rfl _ _ 22 rfl w.heap.size 5 i0 (.int .u8 0) 1 Try.underlying22 hi hz0 hz1 .i64 .i64 _ _ 4097 rfl rfl rfl rfl (by rw [hz2]; omega) (by unfold maxLen; omega) (Nat.le_refl _) ?_; intro w1 hown1 hgrow1)
  have b1 : Below w.heap.size w w1 := (Below.refl _ w).grown hgrow1 (Nat.le_refl _) (fun k e => by cases e)
  clear hown1 hgrow1
  refine (Sum16_long _ 4097 4097 (by decide) w1).mono ?_
  rintro e w2 ⟨rfl, rfl⟩
  go_wp2_with fail
  refine (Sum32_long _ 4097 4097 (by decide) w1).mono ?_
  rintro e w2 ⟨rfl, rfl⟩
  go_wp2_with fail
  refine (Sealed_long _ 4097 4097 (by decide) w1).mono ?_
  rintro e w2 ⟨rfl, rfl⟩
  go_wp2_with (at_make; refine wpList_make_full _ rfl _ _ 22 rfl w1.heap.size 5 i0 (.int .u8 0) 1 Try.underlying22 hi hz0 hz1 .i64 .i64 _ _ 4093 rfl rfl rfl rfl (by rw [hz2]; omega) (by unfold maxLen; omega) (Nat.le_refl _) ?_; intro w3 hown3 hgrow3)
  have b3 : Below w1.heap.size w1 w3 := (Below.refl _ w1).grown hgrow3 (Nat.le_refl _) (fun k e => by cases e)
  have bb3 := b1.trans (b3.mono b1.size)
  clear hown3 hgrow3 b3
  refine (Seal_long _ 4093 4093 (by decide) w3).mono ?_
  rintro e w4 ⟨rfl, rfl⟩
  go_wp2_with fail
  refine (wakes_any _).mono ?_
  rintro e w5 ⟨rfl, hw⟩
  go_wp2
  go_ret
  exact ⟨rfl, bb3.trans (hw.mono bb3.size)⟩

set_option maxRecDepth 100000 in
set_option maxHeartbeats 2000000 in
theorem crcLong_none (over : Int) (h : over < -1 ∨ 1 < over) (w : World) :
    Calls Try.prog 8 #[.int .i64 over] w fun e w' => e = .returned (.bool true) ∧ Below w.heap.size w w' := by
  by_cases h1 : over < -1
  · clear h
    go_enter Try.func8, Try.ntmps8
    go_wp2
    go_ret
    exact ⟨rfl, Below.refl _ _⟩
  · have h2 : 1 < over := by omega
    clear h
    go_enter Try.func8, Try.ntmps8
    go_wp2
    go_ret
    exact ⟨rfl, Below.refl _ _⟩

/-- The law, of whatever number. -/
theorem crcLong_walk (over : Int) (w : World) : Calls Try.prog 8 #[.int .i64 over] w fun e w' => e = .returned (.bool true) ∧ Below w.heap.size w w' := by
  by_cases h : over < -1 ∨ 1 < over
  · exact crcLong_none over h w
  · by_cases h1 : over ≤ 0
    · exact crcLong_fits over (by omega) h1 w
    · obtain rfl : over = 1 := by omega
      exact crcLong_over w

end Go.Proofs.Ytplobmkfmflkaaa
