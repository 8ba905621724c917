/-
  What cmp.Compare, pile.find's comparison, slices.BinarySearchFunc and pile.find answer.
-/
import Derived.Test.YtddcloanbpkecaaDoorPileNums
import Derived.Test.YtddcloanbpkecaaDoorKeepPile
namespace Go.Proofs.YtddcloanbpkecaaDoor
open Go.RowKit

/-- What a comparison says. -/
def cmpI (x y : Int) : Int := if x < y then -1 else if y < x then 1 else 0
theorem cmpI_lt {x y : Int} (h : x < y) : cmpI x y = -1 := by unfold cmpI; rw [if_pos h]
theorem cmpI_gt {x y : Int} (h : y < x) : cmpI x y = 1 := by unfold cmpI; rw [if_neg (by omega), if_pos h]
theorem cmpI_eq (x : Int) : cmpI x x = 0 := by unfold cmpI; rw [if_neg (by omega), if_neg (by omega)]
theorem cmpI_neg {x y : Int} : cmpI x y < 0 ↔ x < y := by unfold cmpI; split <;> (try split) <;> omega
theorem cmpI_zero {x y : Int} : cmpI x y = 0 ↔ x = y := by unfold cmpI; split <;> (try split) <;> omega

set_option maxHeartbeats 1000000 in
theorem isNaN_no (x : Int) (w : World) : Calls Tryd.prog 94 #[.int .i64 x] w fun e w' => e = .returned (.bool false) ∧ w = w' := by
  have hb : (x != x) = false := by simp
  go_enter Tryd.func94, Tryd.ntmps94
  go_wp2
  go_ret
  exact ⟨rfl, rfl⟩

set_option maxHeartbeats 1000000 in
theorem compare_any (x y : Int) (w : World) : Calls Tryd.prog 82 #[.int .i64 x, .int .i64 y] w fun e w' => e = .returned (.int .i64 (cmpI x y)) ∧ w = w' := by
  by_cases h1 : x < y
  · rw [cmpI_lt h1]
    have d1 : decide (x < y) = true := decide_eq_true h1
    clear h1
    go_enter Tryd.func82, Tryd.ntmps82
    go_wp2_with fail
    refine (isNaN_no x w).mono ?_
    rintro e w1 ⟨rfl, rfl⟩
    go_wp2_with fail
    refine (isNaN_no y w).mono ?_
    rintro e w1 ⟨rfl, rfl⟩
    go_wp2
    go_ret
    exact ⟨rfl, rfl⟩
  · have d1 : decide (x < y) = false := decide_eq_false h1
    by_cases h2 : y < x
    · rw [cmpI_gt h2]
      have d2 : decide (y < x) = true := decide_eq_true h2
      clear h1 h2
      go_enter Tryd.func82, Tryd.ntmps82
      go_wp2_with fail
      refine (isNaN_no x w).mono ?_
      rintro e w1 ⟨rfl, rfl⟩
      go_wp2_with fail
      refine (isNaN_no y w).mono ?_
      rintro e w1 ⟨rfl, rfl⟩
      go_wp2
      go_ret
      exact ⟨rfl, rfl⟩
    · have d2 : decide (y < x) = false := decide_eq_false h2
      have HC : Hid (cmpI x y = 0) := by
        show cmpI x y = 0
        exact cmpI_zero.2 (by omega)
      rw [HC.out]
      clear h1 h2
      go_enter Tryd.func82, Tryd.ntmps82
      go_wp2_with fail
      refine (isNaN_no x w).mono ?_
      rintro e w1 ⟨rfl, rfl⟩
      go_wp2_with fail
      refine (isNaN_no y w).mono ?_
      rintro e w1 ⟨rfl, rfl⟩
      go_wp2
      go_ret
      exact ⟨rfl, rfl⟩

set_option maxHeartbeats 1000000 in
/-- How pile.find compares. -/
theorem find1_any (x u k : Int) (w : World) : Calls Tryd.prog 81 #[.agg #[.int .i64 x, .int .i64 u], .int .i64 k] w fun e w' => e = .returned (.int .i64 (cmpI x k)) ∧ Below w.heap.size w w' := by
  have b0 := (Below.refl w.heap.size w).alloc (Nat.le_refl _) (.cells #[.int .i64 x, .int .i64 u] 72)
  go_enter Tryd.func81, Tryd.ntmps81
  go_wp2_with fail
  refine (compare_any x k _).mono ?_
  rintro e w1 ⟨rfl, rfl⟩
  go_wp2
  go_ret
  exact ⟨rfl, b0⟩

set_option maxRecDepth 100000 in
set_option maxHeartbeats 4000000 in
theorem search_ok (k : Int) (a : Option Addr) (cap : Nat) (l : List (Int × Int)) (hl : l.length ≤ 4294967296) (hr : Rises l) (w : World) (ha : Syms w.heap.size w (.slice a l.length cap) l) :
    Calls Tryd.prog 80 #[.slice a l.length cap, .int .i64 k, .func (.func 81) #[] #[]] w fun e w' => e = .returned (.tuple #[.int .i64 (aheadOf l k : Nat), .bool (hasAt l k)]) ∧ Below w.heap.size w w' := by
  have HR : Hid (Rises l) := hr
  have HAL : Hid (aheadOf l k ≤ l.length) := aheadOf_le l k
  obtain ⟨q, hq⟩ : ∃ q, aheadOf l k = q := ⟨_, rfl⟩
  have HQ : Hid (aheadOf l k = q) := hq
  obtain ⟨t, ht⟩ : ∃ t, hasAt l k = t := ⟨_, rfl⟩
  have HT : Hid (hasAt l k = t) := ht
  rw [hq, ht]
  clear hq ht hr
  go_enter Tryd.func80, Tryd.ntmps80
  go_wp2
  go_loopw [9, 10] (fun s9 s10 wr => ∃ i j : Nat, s9 = .int .i64 i ∧ s10 = .int .i64 j ∧ i ≤ q ∧ q ≤ j ∧ j ≤ l.length ∧ Below w.heap.size w wr) (fun s9 s10 _ => (intOf s10).toNat - (intOf s9).toNat)
  case atStart => exact ⟨0, l.length, rfl, rfl, Nat.zero_le _, by rw [← HQ.out]; exact HAL.out, Nat.le_refl _, Below.refl _ _⟩
  case round =>
    obtain ⟨i, j, rfl, rfl, hiq, hqj, hjl, hbw⟩ := hrel
    by_cases hlt : i < j
    · obtain ⟨m, hm⟩ : ∃ m, (i + j) / 2 = m := ⟨_, rfl⟩
      have hml : m < l.length := by omega
      obtain ⟨⟨x, u⟩, hx⟩ : ∃ x, l[m]? = some x := ⟨l[m], by simp⟩
      obtain ⟨b, off, rfl, hb, hcs⟩ := syms_at (ha.below hbw) rfl (by omega)
      obtain ⟨c1, c2⟩ := hcs m _ hx
      have hmi : ((i : Int) + (j : Int)) / 2 = (m : Int) := by omega
      have hc := find1_any x u k wr
      clear hcs ha
      by_cases hxk : x < k
      · have d1 : decide (cmpI x k < 0) = true := decide_eq_true (cmpI_neg.2 hxk)
        have HMQ : Hid (m + 1 ≤ q) := by
          show m + 1 ≤ q
          rw [← HQ.out]
          rcases Nat.lt_or_ge m (aheadOf l k) with h | h
          · exact h
          · exact absurd hxk (aheadOf_all HR.out h hx)
        clear hxk hx
        go_wp2_with fail
        refine hc.mono ?_
        rintro e w1 ⟨rfl, bq⟩
        go_wp2
        go_round
        case rel => exact ⟨m + 1, j, by go_num, rfl, HMQ.out, hqj, hjl, hbw.trans (bq.mono hbw.size)⟩
        case measure => simp [intOf]; omega
      · have d1 : decide (cmpI x k < 0) = false := decide_eq_false (fun h => hxk (cmpI_neg.1 h))
        have HMQ : Hid (q ≤ m) := by
          show q ≤ m
          rw [← HQ.out]
          rcases Nat.lt_or_ge m (aheadOf l k) with h | h
          · exact absurd (aheadOf_lt h hx) hxk
          · exact h
        clear hxk hx
        go_wp2_with fail
        refine hc.mono ?_
        rintro e w1 ⟨rfl, bq⟩
        go_wp2
        go_round
        case rel => exact ⟨i, m, rfl, by go_num, hiq, HMQ.out, by omega, hbw.trans (bq.mono hbw.size)⟩
        case measure => simp [intOf]; omega
    · obtain rfl : j = i := by omega
      obtain rfl : q = j := by omega
      by_cases hn : q < l.length
      · obtain ⟨⟨x, u⟩, hx⟩ : ∃ x, l[q]? = some x := ⟨l[q], by simp⟩
        obtain ⟨b, off, rfl, hb, hcs⟩ := syms_at (ha.below hbw) rfl (by omega)
        obtain ⟨c1, c2⟩ := hcs q _ hx
        have hc := find1_any x u k wr
        have HTV : Hid ((cmpI x k == 0) = t) := by
          show (cmpI x k == 0) = t
          rw [← HT.out]
          unfold hasAt
          rw [HQ.out, hx]
          show (cmpI x k == 0) = (x == k)
          rw [Bool.eq_iff_iff, beq_iff_eq, beq_iff_eq]
          exact cmpI_zero
        clear hcs ha hx
        go_wp2_with fail
        refine hc.mono ?_
        rintro e w1 ⟨rfl, bq⟩
        go_wp2
        go_ret2
        exact ⟨by rw [← HTV.out]; rfl, hbw.trans (bq.mono hbw.size)⟩
      · have HTV : Hid (t = false) := by
          show t = false
          rw [← HT.out]
          unfold hasAt
          rw [HQ.out, List.getElem?_eq_none (by omega)]
        clear ha
        go_wp2
        go_ret2
        exact ⟨by rw [HTV.out]; rfl, hbw⟩

set_option maxRecDepth 100000 in
set_option maxHeartbeats 1000000 in
theorem find_ok (k : Int) (a : Option Addr) (cap : Nat) (l : List (Int × Int)) (hl : l.length ≤ 4294967296) (hr : Rises l) (w : World) (ha : Syms w.heap.size w (.slice a l.length cap) l) :
    Calls Tryd.prog 61 #[.slice a l.length cap, .int .i64 k] w fun e w' => e = .returned (.tuple #[.int .i64 (aheadOf l k : Nat), .bool (hasAt l k)]) ∧ Below w.heap.size w w' := by
  have HS := search_ok k a cap l hl hr w ha
  obtain ⟨q, hq⟩ : ∃ q, aheadOf l k = q := ⟨_, rfl⟩
  obtain ⟨t, ht⟩ : ∃ t, hasAt l k = t := ⟨_, rfl⟩
  rw [hq, ht] at HS ⊢
  clear hq ht hr ha
  go_enter Tryd.func61, Tryd.ntmps61
  go_wp2_with fail
  refine HS.mono ?_
  rintro e w1 ⟨rfl, b1⟩
  go_wp2
  go_ret2
  exact ⟨rfl, b1⟩

end Go.Proofs.YtddcloanbpkecaaDoor
