/-
  SchedExact: whatever the numbers, the law answers true, and nothing that lay has turned.
-/
import Derived.Test.YthmhlkgipidnoaaDoorSchedWakes
import Derived.Test.YthmhlkgipidnoaaDoorRefOrder
import Derived.Test.YthmhlkgipidnoaaDoorSpoilInts
namespace Go.Proofs.YthmhlkgipidnoaaDoor
open Go.RowKit

set_option maxRecDepth 100000 in
set_option maxHeartbeats 4000000 in
theorem schedExact_kLow_sLow (n : Nat) (h1 : 1 ≤ n) (hn : n < 65) (k : Int) (hk : k < 0) (s i : Int) (hs : s < 0) (w : World) (hF : Firsts w) : Calls Tryd.prog 3 #[.int .i64 n, .int .i64 k, .int .i64 s, .int .i64 i] w fun e w' => e = .returned (.bool true) ∧ Below w.heap.size w w' := by
  have kd : decide (k < 0) = true := decide_eq_true hk
  have sd : decide (s < 0) = true := decide_eq_true hs
  go_enter Tryd.func3, Tryd.ntmps3
  go_wp2_with fail
  refine (Order_ok n h1 hn w hF).mono ?_
  rintro e w1 ⟨r1, rfl, o1, b1⟩
  go_wp2_with fail
  refine (At_k n k h1 hn (.inl hk) w1).mono ?_
  rintro e w2 ⟨rfl, b2⟩
  have o2 := row_below o1 b2 (Nat.le_refl _)
  have bb2 := b1.trans (b2.mono b1.size)
  clear o1
  go_wp2_with fail
  refine (Place_arg n s i h1 hn (.inl hs) w2).mono ?_
  rintro e w3 ⟨rfl, b3⟩
  have o3 := row_below o2 b3 (Nat.le_refl _)
  have bb3 := bb2.trans (b3.mono bb2.size)
  clear o2 b1 b2 b3 bb2
  go_wp2_with fail
  refine (refN_yes n h1 hn w3).mono ?_
  rintro e w4 ⟨rfl, rfl⟩
  go_wp2_with fail
  refine (refOrder_any n h1 hn w3).mono ?_
  rintro e w4 ⟨r4, rfl, o4, b4⟩
  have o5 := row_below o3 b4 (Nat.le_refl _)
  have bb4 := bb3.trans (b4.mono bb3.size)
  have hl5 := holds_of_row o5
  have hl4 := holds_of_row o4
  have HLN : Hid ((orderL n).length = n) := orderL_len hn
  obtain ⟨g1, c1, rfl, hg1, hg1', _⟩ := order_cell h1 o3
  clear o3
  go_wp2_with fail
  refine (ints_any _ _ (orderL n) (orderL n) _ _ w4 (by rw [HLN.out]; omega) hl5 hl4).mono ?_
  rw [decide_eq_true rfl]
  rintro e w5 ⟨rfl, q5, rfl⟩
  obtain ⟨g4, c4, rfl, hg4, hg4', hc4⟩ := order_cell h1 o4
  have hne : g4 ≠ g1 := by omega
  clear hl5 hl4
  go_wp2_with fail
  refine (spoilInts_own _ n w.heap.size (orderL n) (by omega) (w4.drewN q5) o5).mono ?_
  rintro e w6 ⟨rfl, b6, _, h6⟩
  have HC6 : Hid (∀ k x : Nat, (orderN n)[k]? = some x → w6.cell? ⟨g4, k, none⟩ = some (.int .i64 (x : Int))) := by
    intro k x hkx
    have hb : w6.heap[g4]? = w4.heap[g4]? := h6 g4 (by simp [Value.ownBlock]; exact hne)
    have := hc4 k x hkx
    unfold World.cell? at this ⊢
    rw [hb]
    exact this
  have bb6 : Below w.heap.size w w6 := (below_drewN bb4 q5).trans b6
  clear o4 o5 hc4 h6 b6 bb4 bb3 b4
  go_wp2_with fail
  refine (schedWakes_any _ (hF.next bb6)).mono ?_
  rintro e w9 ⟨rfl, hw⟩
  go_wp2
  go_ret
  exact ⟨rfl, bb6.trans (hw.mono bb6.size)⟩

set_option maxRecDepth 100000 in
set_option maxHeartbeats 4000000 in
theorem schedExact_kLow_sHigh (n : Nat) (h1 : 1 ≤ n) (hn : n < 65) (k : Int) (hk : k < 0) (s i : Int) (hs0 : ¬ s < 0) (hs : (n : Int) ≤ s) (w : World) (hF : Firsts w) : Calls Tryd.prog 3 #[.int .i64 n, .int .i64 k, .int .i64 s, .int .i64 i] w fun e w' => e = .returned (.bool true) ∧ Below w.heap.size w w' := by
  have kd : decide (k < 0) = true := decide_eq_true hk
  have sd : decide (s < 0) = false := decide_eq_false hs0
  have sd1 : decide ((n : Int) ≤ s) = true := decide_eq_true hs
  go_enter Tryd.func3, Tryd.ntmps3
  go_wp2_with fail
  refine (Order_ok n h1 hn w hF).mono ?_
  rintro e w1 ⟨r1, rfl, o1, b1⟩
  go_wp2_with fail
  refine (At_k n k h1 hn (.inl hk) w1).mono ?_
  rintro e w2 ⟨rfl, b2⟩
  have o2 := row_below o1 b2 (Nat.le_refl _)
  have bb2 := b1.trans (b2.mono b1.size)
  clear o1
  go_wp2_with fail
  refine (Place_arg n s i h1 hn (.inr (.inl hs)) w2).mono ?_
  rintro e w3 ⟨rfl, b3⟩
  have o3 := row_below o2 b3 (Nat.le_refl _)
  have bb3 := bb2.trans (b3.mono bb2.size)
  clear o2 b1 b2 b3 bb2
  go_wp2_with fail
  refine (refN_yes n h1 hn w3).mono ?_
  rintro e w4 ⟨rfl, rfl⟩
  go_wp2_with fail
  refine (refOrder_any n h1 hn w3).mono ?_
  rintro e w4 ⟨r4, rfl, o4, b4⟩
  have o5 := row_below o3 b4 (Nat.le_refl _)
  have bb4 := bb3.trans (b4.mono bb3.size)
  have hl5 := holds_of_row o5
  have hl4 := holds_of_row o4
  have HLN : Hid ((orderL n).length = n) := orderL_len hn
  obtain ⟨g1, c1, rfl, hg1, hg1', _⟩ := order_cell h1 o3
  clear o3
  go_wp2_with fail
  refine (ints_any _ _ (orderL n) (orderL n) _ _ w4 (by rw [HLN.out]; omega) hl5 hl4).mono ?_
  rw [decide_eq_true rfl]
  rintro e w5 ⟨rfl, q5, rfl⟩
  obtain ⟨g4, c4, rfl, hg4, hg4', hc4⟩ := order_cell h1 o4
  have hne : g4 ≠ g1 := by omega
  clear hl5 hl4
  go_wp2_with fail
  refine (spoilInts_own _ n w.heap.size (orderL n) (by omega) (w4.drewN q5) o5).mono ?_
  rintro e w6 ⟨rfl, b6, _, h6⟩
  have HC6 : Hid (∀ k x : Nat, (orderN n)[k]? = some x → w6.cell? ⟨g4, k, none⟩ = some (.int .i64 (x : Int))) := by
    intro k x hkx
    have hb : w6.heap[g4]? = w4.heap[g4]? := h6 g4 (by simp [Value.ownBlock]; exact hne)
    have := hc4 k x hkx
    unfold World.cell? at this ⊢
    rw [hb]
    exact this
  have bb6 : Below w.heap.size w w6 := (below_drewN bb4 q5).trans b6
  clear o4 o5 hc4 h6 b6 bb4 bb3 b4
  go_wp2_with fail
  refine (schedWakes_any _ (hF.next bb6)).mono ?_
  rintro e w9 ⟨rfl, hw⟩
  go_wp2
  go_ret
  exact ⟨rfl, bb6.trans (hw.mono bb6.size)⟩

set_option maxRecDepth 100000 in
set_option maxHeartbeats 4000000 in
theorem schedExact_kLow_iLow (n : Nat) (h1 : 1 ≤ n) (hn : n < 65) (k : Int) (hk : k < 0) (s i : Int) (hs0 : ¬ s < 0) (hs1 : ¬ (n : Int) ≤ s) (hs : i < 0) (w : World) (hF : Firsts w) : Calls Tryd.prog 3 #[.int .i64 n, .int .i64 k, .int .i64 s, .int .i64 i] w fun e w' => e = .returned (.bool true) ∧ Below w.heap.size w w' := by
  have kd : decide (k < 0) = true := decide_eq_true hk
  have sd : decide (s < 0) = false := decide_eq_false hs0
  have sd1 : decide ((n : Int) ≤ s) = false := decide_eq_false hs1
  have sd2 : decide (i < 0) = true := decide_eq_true hs
  go_enter Tryd.func3, Tryd.ntmps3
  go_wp2_with fail
  refine (Order_ok n h1 hn w hF).mono ?_
  rintro e w1 ⟨r1, rfl, o1, b1⟩
  go_wp2_with fail
  refine (At_k n k h1 hn (.inl hk) w1).mono ?_
  rintro e w2 ⟨rfl, b2⟩
  have o2 := row_below o1 b2 (Nat.le_refl _)
  have bb2 := b1.trans (b2.mono b1.size)
  clear o1
  go_wp2_with fail
  refine (Place_arg n s i h1 hn (.inr (.inr (.inl hs))) w2).mono ?_
  rintro e w3 ⟨rfl, b3⟩
  have o3 := row_below o2 b3 (Nat.le_refl _)
  have bb3 := bb2.trans (b3.mono bb2.size)
  clear o2 b1 b2 b3 bb2
  go_wp2_with fail
  refine (refN_yes n h1 hn w3).mono ?_
  rintro e w4 ⟨rfl, rfl⟩
  go_wp2_with fail
  refine (refOrder_any n h1 hn w3).mono ?_
  rintro e w4 ⟨r4, rfl, o4, b4⟩
  have o5 := row_below o3 b4 (Nat.le_refl _)
  have bb4 := bb3.trans (b4.mono bb3.size)
  have hl5 := holds_of_row o5
  have hl4 := holds_of_row o4
  have HLN : Hid ((orderL n).length = n) := orderL_len hn
  obtain ⟨g1, c1, rfl, hg1, hg1', _⟩ := order_cell h1 o3
  clear o3
  go_wp2_with fail
  refine (ints_any _ _ (orderL n) (orderL n) _ _ w4 (by rw [HLN.out]; omega) hl5 hl4).mono ?_
  rw [decide_eq_true rfl]
  rintro e w5 ⟨rfl, q5, rfl⟩
  obtain ⟨g4, c4, rfl, hg4, hg4', hc4⟩ := order_cell h1 o4
  have hne : g4 ≠ g1 := by omega
  clear hl5 hl4
  go_wp2_with fail
  refine (spoilInts_own _ n w.heap.size (orderL n) (by omega) (w4.drewN q5) o5).mono ?_
  rintro e w6 ⟨rfl, b6, _, h6⟩
  have HC6 : Hid (∀ k x : Nat, (orderN n)[k]? = some x → w6.cell? ⟨g4, k, none⟩ = some (.int .i64 (x : Int))) := by
    intro k x hkx
    have hb : w6.heap[g4]? = w4.heap[g4]? := h6 g4 (by simp [Value.ownBlock]; exact hne)
    have := hc4 k x hkx
    unfold World.cell? at this ⊢
    rw [hb]
    exact this
  have bb6 : Below w.heap.size w w6 := (below_drewN bb4 q5).trans b6
  clear o4 o5 hc4 h6 b6 bb4 bb3 b4
  go_wp2_with fail
  refine (schedWakes_any _ (hF.next bb6)).mono ?_
  rintro e w9 ⟨rfl, hw⟩
  go_wp2
  go_ret
  exact ⟨rfl, bb6.trans (hw.mono bb6.size)⟩

set_option maxRecDepth 100000 in
set_option maxHeartbeats 4000000 in
theorem schedExact_kLow_iHigh (n : Nat) (h1 : 1 ≤ n) (hn : n < 65) (k : Int) (hk : k < 0) (s i : Int) (hs0 : ¬ s < 0) (hs1 : ¬ (n : Int) ≤ s) (hs2 : ¬ i < 0) (hs : 16 ≤ i) (w : World) (hF : Firsts w) : Calls Tryd.prog 3 #[.int .i64 n, .int .i64 k, .int .i64 s, .int .i64 i] w fun e w' => e = .returned (.bool true) ∧ Below w.heap.size w w' := by
  have kd : decide (k < 0) = true := decide_eq_true hk
  have sd : decide (s < 0) = false := decide_eq_false hs0
  have sd1 : decide ((n : Int) ≤ s) = false := decide_eq_false hs1
  have sd2 : decide (i < 0) = false := decide_eq_false hs2
  have sd3 : decide (16 ≤ i) = true := decide_eq_true hs
  go_enter Tryd.func3, Tryd.ntmps3
  go_wp2_with fail
  refine (Order_ok n h1 hn w hF).mono ?_
  rintro e w1 ⟨r1, rfl, o1, b1⟩
  go_wp2_with fail
  refine (At_k n k h1 hn (.inl hk) w1).mono ?_
  rintro e w2 ⟨rfl, b2⟩
  have o2 := row_below o1 b2 (Nat.le_refl _)
  have bb2 := b1.trans (b2.mono b1.size)
  clear o1
  go_wp2_with fail
  refine (Place_arg n s i h1 hn (.inr (.inr (.inr hs))) w2).mono ?_
  rintro e w3 ⟨rfl, b3⟩
  have o3 := row_below o2 b3 (Nat.le_refl _)
  have bb3 := bb2.trans (b3.mono bb2.size)
  clear o2 b1 b2 b3 bb2
  go_wp2_with fail
  refine (refN_yes n h1 hn w3).mono ?_
  rintro e w4 ⟨rfl, rfl⟩
  go_wp2_with fail
  refine (refOrder_any n h1 hn w3).mono ?_
  rintro e w4 ⟨r4, rfl, o4, b4⟩
  have o5 := row_below o3 b4 (Nat.le_refl _)
  have bb4 := bb3.trans (b4.mono bb3.size)
  have hl5 := holds_of_row o5
  have hl4 := holds_of_row o4
  have HLN : Hid ((orderL n).length = n) := orderL_len hn
  obtain ⟨g1, c1, rfl, hg1, hg1', _⟩ := order_cell h1 o3
  clear o3
  go_wp2_with fail
  refine (ints_any _ _ (orderL n) (orderL n) _ _ w4 (by rw [HLN.out]; omega) hl5 hl4).mono ?_
  rw [decide_eq_true rfl]
  rintro e w5 ⟨rfl, q5, rfl⟩
  obtain ⟨g4, c4, rfl, hg4, hg4', hc4⟩ := order_cell h1 o4
  have hne : g4 ≠ g1 := by omega
  clear hl5 hl4
  go_wp2_with fail
  refine (spoilInts_own _ n w.heap.size (orderL n) (by omega) (w4.drewN q5) o5).mono ?_
  rintro e w6 ⟨rfl, b6, _, h6⟩
  have HC6 : Hid (∀ k x : Nat, (orderN n)[k]? = some x → w6.cell? ⟨g4, k, none⟩ = some (.int .i64 (x : Int))) := by
    intro k x hkx
    have hb : w6.heap[g4]? = w4.heap[g4]? := h6 g4 (by simp [Value.ownBlock]; exact hne)
    have := hc4 k x hkx
    unfold World.cell? at this ⊢
    rw [hb]
    exact this
  have bb6 : Below w.heap.size w w6 := (below_drewN bb4 q5).trans b6
  clear o4 o5 hc4 h6 b6 bb4 bb3 b4
  go_wp2_with fail
  refine (schedWakes_any _ (hF.next bb6)).mono ?_
  rintro e w9 ⟨rfl, hw⟩
  go_wp2
  go_ret
  exact ⟨rfl, bb6.trans (hw.mono bb6.size)⟩

set_option maxRecDepth 100000 in
set_option maxHeartbeats 4000000 in
theorem schedExact_kLow_ok (n : Nat) (h1 : 1 ≤ n) (hn : n < 65) (k : Int) (hk : k < 0) (s i : Nat) (hs : s < n) (hi16 : i < 16) (w : World) (hF : Firsts w) : Calls Tryd.prog 3 #[.int .i64 n, .int .i64 k, .int .i64 s, .int .i64 i] w fun e w' => e = .returned (.bool true) ∧ Below w.heap.size w w' := by
  have kd : decide (k < 0) = true := decide_eq_true hk
  have sd : decide ((s : Int) < 0) = false := decide_eq_false (by omega)
  have sd1 : decide ((n : Int) ≤ (s : Int)) = false := decide_eq_false (by omega)
  have sd2 : decide ((i : Int) < 0) = false := decide_eq_false (by omega)
  have sd3 : decide (16 ≤ (i : Int)) = false := decide_eq_false (by omega)
  have hpl := posN_lt hn hs
  have HP : Hid _ := posN_get hn hs
  have hin : i * n ≤ 15 * 64 := Nat.mul_le_mul (by omega) (by omega)
  have em : (i : Int) * (n : Int) = ((i * n : Nat) : Int) := by simp
  have HPL : ∀ W : World, Firsts W → Hid (Calls Tryd.prog 9 #[.int .i64 n, .int .i64 s, .int .i64 i] W fun e w' => e = .returned (.tuple #[.int .i64 ((i * n + posN n s : Nat) : Int), .int .i64 0]) ∧ Below W.heap.size W w') := fun W hf => Place_ok n s i h1 hn hs hi16 W hf
  obtain ⟨p, hp⟩ : ∃ p, posN n s = p := ⟨_, rfl⟩
  obtain ⟨m, hme⟩ : ∃ m, i * n = m := ⟨_, rfl⟩
  rw [hp] at hpl HP HPL
  rw [hme] at hin em HPL
  obtain ⟨z, hz⟩ : ∃ z, m + p = z := ⟨_, rfl⟩
  rw [hz] at HPL
  have e0 : (m : Int) + (p : Int) = (z : Int) := by omega
  have q2 : ((z : Int) == (z : Int)) = true := by simp
  clear hp hme hz
  go_enter Tryd.func3, Tryd.ntmps3
  go_wp2_with fail
  refine (Order_ok n h1 hn w hF).mono ?_
  rintro e w1 ⟨r1, rfl, o1, b1⟩
  go_wp2_with fail
  refine (At_k n k h1 hn (.inl hk) w1).mono ?_
  rintro e w2 ⟨rfl, b2⟩
  have o2 := row_below o1 b2 (Nat.le_refl _)
  have bb2 := b1.trans (b2.mono b1.size)
  clear o1
  go_wp2_with fail
  refine (HPL w2 (hF.next bb2)).out.mono ?_
  rintro e w3 ⟨rfl, b3⟩
  have o3 := row_below o2 b3 (Nat.le_refl _)
  have bb3 := bb2.trans (b3.mono bb2.size)
  clear o2 b1 b2 b3 bb2
  go_wp2_with fail
  refine (refN_yes n h1 hn w3).mono ?_
  rintro e w4 ⟨rfl, rfl⟩
  go_wp2_with fail
  refine (refOrder_any n h1 hn w3).mono ?_
  rintro e w4 ⟨r4, rfl, o4, b4⟩
  have o5 := row_below o3 b4 (Nat.le_refl _)
  have bb4 := bb3.trans (b4.mono bb3.size)
  have hl5 := holds_of_row o5
  have hl4 := holds_of_row o4
  have HLN : Hid ((orderL n).length = n) := orderL_len hn
  obtain ⟨g1, c1, rfl, hg1, hg1', _⟩ := order_cell h1 o3
  clear o3
  go_wp2_with fail
  refine (ints_any _ _ (orderL n) (orderL n) _ _ w4 (by rw [HLN.out]; omega) hl5 hl4).mono ?_
  rw [decide_eq_true rfl]
  rintro e w5 ⟨rfl, q5, rfl⟩
  obtain ⟨g4, c4, rfl, hg4, hg4', hc4⟩ := order_cell h1 o4
  have hne : g4 ≠ g1 := by omega
  clear hl5 hl4
  go_wp2_with fail
  refine (spoilInts_own _ n w.heap.size (orderL n) (by omega) (w4.drewN q5) o5).mono ?_
  rintro e w6 ⟨rfl, b6, _, h6⟩
  have HC6 : Hid (∀ k x : Nat, (orderN n)[k]? = some x → w6.cell? ⟨g4, k, none⟩ = some (.int .i64 (x : Int))) := by
    intro k x hkx
    have hb : w6.heap[g4]? = w4.heap[g4]? := h6 g4 (by simp [Value.ownBlock]; exact hne)
    have := hc4 k x hkx
    unfold World.cell? at this ⊢
    rw [hb]
    exact this
  have bb6 : Below w.heap.size w w6 := (below_drewN bb4 q5).trans b6
  clear o4 o5 hc4 h6 b6 bb4 bb3 b4
  go_wp2
  go_loop [17] (fun v => ∃ j : Nat, j ≤ p ∧ v = .int .i64 j) (fun v => p - (intOf v).toNat)
  case atStart => exact ⟨0, Nat.zero_le _, rfl⟩
  case round =>
    obtain ⟨j, hj, rfl⟩ := hrel
    by_cases hlt : j < p
    · obtain ⟨y, hy, _⟩ := orderN_get hn (show j < n by omega)
      have c7 := HC6.out j y hy
      have hys : y ≠ s := fun e => by subst e; have := order_inj hn hy HP.out; omega
      have q : ((y : Int) == (s : Int)) = false := by rw [beq_eq_false_iff_ne]; omega
      clear hy hys
      go_wp2
      go_round
      case rel => exact ⟨j + 1, by omega, by go_num⟩
      case measure => simp [intOf]; omega
    · obtain rfl : j = p := by omega
      have c7 := HC6.out j s HP.out
      have q : ((s : Int) == (s : Int)) = true := by simp
      clear hlt hj
      go_wp2_with fail
      refine (schedWakes_any _ (hF.next bb6)).mono ?_
      rintro e w9 ⟨rfl, hw⟩
      go_wp2
      go_ret
      exact ⟨rfl, bb6.trans (hw.mono bb6.size)⟩

set_option maxRecDepth 100000 in
set_option maxHeartbeats 4000000 in
theorem schedExact_kHigh_sLow (n : Nat) (h1 : 1 ≤ n) (hn : n < 65) (k : Int) (hk0 : ¬ k < 0) (hk : (n : Int) * 16 ≤ k) (s i : Int) (hs : s < 0) (w : World) (hF : Firsts w) : Calls Tryd.prog 3 #[.int .i64 n, .int .i64 k, .int .i64 s, .int .i64 i] w fun e w' => e = .returned (.bool true) ∧ Below w.heap.size w w' := by
  have kd : decide (k < 0) = false := decide_eq_false hk0
  have kd1 : decide ((n : Int) * 16 ≤ k) = true := decide_eq_true hk
  have sd : decide (s < 0) = true := decide_eq_true hs
  go_enter Tryd.func3, Tryd.ntmps3
  go_wp2_with fail
  refine (Order_ok n h1 hn w hF).mono ?_
  rintro e w1 ⟨r1, rfl, o1, b1⟩
  go_wp2_with fail
  refine (At_k n k h1 hn (.inr hk) w1).mono ?_
  rintro e w2 ⟨rfl, b2⟩
  have o2 := row_below o1 b2 (Nat.le_refl _)
  have bb2 := b1.trans (b2.mono b1.size)
  clear o1
  go_wp2_with fail
  refine (Place_arg n s i h1 hn (.inl hs) w2).mono ?_
  rintro e w3 ⟨rfl, b3⟩
  have o3 := row_below o2 b3 (Nat.le_refl _)
  have bb3 := bb2.trans (b3.mono bb2.size)
  clear o2 b1 b2 b3 bb2
  go_wp2_with fail
  refine (refN_yes n h1 hn w3).mono ?_
  rintro e w4 ⟨rfl, rfl⟩
  go_wp2_with fail
  refine (refOrder_any n h1 hn w3).mono ?_
  rintro e w4 ⟨r4, rfl, o4, b4⟩
  have o5 := row_below o3 b4 (Nat.le_refl _)
  have bb4 := bb3.trans (b4.mono bb3.size)
  have hl5 := holds_of_row o5
  have hl4 := holds_of_row o4
  have HLN : Hid ((orderL n).length = n) := orderL_len hn
  obtain ⟨g1, c1, rfl, hg1, hg1', _⟩ := order_cell h1 o3
  clear o3
  go_wp2_with fail
  refine (ints_any _ _ (orderL n) (orderL n) _ _ w4 (by rw [HLN.out]; omega) hl5 hl4).mono ?_
  rw [decide_eq_true rfl]
  rintro e w5 ⟨rfl, q5, rfl⟩
  obtain ⟨g4, c4, rfl, hg4, hg4', hc4⟩ := order_cell h1 o4
  have hne : g4 ≠ g1 := by omega
  clear hl5 hl4
  go_wp2_with fail
  refine (spoilInts_own _ n w.heap.size (orderL n) (by omega) (w4.drewN q5) o5).mono ?_
  rintro e w6 ⟨rfl, b6, _, h6⟩
  have HC6 : Hid (∀ k x : Nat, (orderN n)[k]? = some x → w6.cell? ⟨g4, k, none⟩ = some (.int .i64 (x : Int))) := by
    intro k x hkx
    have hb : w6.heap[g4]? = w4.heap[g4]? := h6 g4 (by simp [Value.ownBlock]; exact hne)
    have := hc4 k x hkx
    unfold World.cell? at this ⊢
    rw [hb]
    exact this
  have bb6 : Below w.heap.size w w6 := (below_drewN bb4 q5).trans b6
  clear o4 o5 hc4 h6 b6 bb4 bb3 b4
  go_wp2_with fail
  refine (schedWakes_any _ (hF.next bb6)).mono ?_
  rintro e w9 ⟨rfl, hw⟩
  go_wp2
  go_ret
  exact ⟨rfl, bb6.trans (hw.mono bb6.size)⟩

set_option maxRecDepth 100000 in
set_option maxHeartbeats 4000000 in
theorem schedExact_kHigh_sHigh (n : Nat) (h1 : 1 ≤ n) (hn : n < 65) (k : Int) (hk0 : ¬ k < 0) (hk : (n : Int) * 16 ≤ k) (s i : Int) (hs0 : ¬ s < 0) (hs : (n : Int) ≤ s) (w : World) (hF : Firsts w) : Calls Tryd.prog 3 #[.int .i64 n, .int .i64 k, .int .i64 s, .int .i64 i] w fun e w' => e = .returned (.bool true) ∧ Below w.heap.size w w' := by
  have kd : decide (k < 0) = false := decide_eq_false hk0
  have kd1 : decide ((n : Int) * 16 ≤ k) = true := decide_eq_true hk
  have sd : decide (s < 0) = false := decide_eq_false hs0
  have sd1 : decide ((n : Int) ≤ s) = true := decide_eq_true hs
  go_enter Tryd.func3, Tryd.ntmps3
  go_wp2_with fail
  refine (Order_ok n h1 hn w hF).mono ?_
  rintro e w1 ⟨r1, rfl, o1, b1⟩
  go_wp2_with fail
  refine (At_k n k h1 hn (.inr hk) w1).mono ?_
  rintro e w2 ⟨rfl, b2⟩
  have o2 := row_below o1 b2 (Nat.le_refl _)
  have bb2 := b1.trans (b2.mono b1.size)
  clear o1
  go_wp2_with fail
  refine (Place_arg n s i h1 hn (.inr (.inl hs)) w2).mono ?_
  rintro e w3 ⟨rfl, b3⟩
  have o3 := row_below o2 b3 (Nat.le_refl _)
  have bb3 := bb2.trans (b3.mono bb2.size)
  clear o2 b1 b2 b3 bb2
  go_wp2_with fail
  refine (refN_yes n h1 hn w3).mono ?_
  rintro e w4 ⟨rfl, rfl⟩
  go_wp2_with fail
  refine (refOrder_any n h1 hn w3).mono ?_
  rintro e w4 ⟨r4, rfl, o4, b4⟩
  have o5 := row_below o3 b4 (Nat.le_refl _)
  have bb4 := bb3.trans (b4.mono bb3.size)
  have hl5 := holds_of_row o5
  have hl4 := holds_of_row o4
  have HLN : Hid ((orderL n).length = n) := orderL_len hn
  obtain ⟨g1, c1, rfl, hg1, hg1', _⟩ := order_cell h1 o3
  clear o3
  go_wp2_with fail
  refine (ints_any _ _ (orderL n) (orderL n) _ _ w4 (by rw [HLN.out]; omega) hl5 hl4).mono ?_
  rw [decide_eq_true rfl]
  rintro e w5 ⟨rfl, q5, rfl⟩
  obtain ⟨g4, c4, rfl, hg4, hg4', hc4⟩ := order_cell h1 o4
  have hne : g4 ≠ g1 := by omega
  clear hl5 hl4
  go_wp2_with fail
  refine (spoilInts_own _ n w.heap.size (orderL n) (by omega) (w4.drewN q5) o5).mono ?_
  rintro e w6 ⟨rfl, b6, _, h6⟩
  have HC6 : Hid (∀ k x : Nat, (orderN n)[k]? = some x → w6.cell? ⟨g4, k, none⟩ = some (.int .i64 (x : Int))) := by
    intro k x hkx
    have hb : w6.heap[g4]? = w4.heap[g4]? := h6 g4 (by simp [Value.ownBlock]; exact hne)
    have := hc4 k x hkx
    unfold World.cell? at this ⊢
    rw [hb]
    exact this
  have bb6 : Below w.heap.size w w6 := (below_drewN bb4 q5).trans b6
  clear o4 o5 hc4 h6 b6 bb4 bb3 b4
  go_wp2_with fail
  refine (schedWakes_any _ (hF.next bb6)).mono ?_
  rintro e w9 ⟨rfl, hw⟩
  go_wp2
  go_ret
  exact ⟨rfl, bb6.trans (hw.mono bb6.size)⟩

set_option maxRecDepth 100000 in
set_option maxHeartbeats 4000000 in
theorem schedExact_kHigh_iLow (n : Nat) (h1 : 1 ≤ n) (hn : n < 65) (k : Int) (hk0 : ¬ k < 0) (hk : (n : Int) * 16 ≤ k) (s i : Int) (hs0 : ¬ s < 0) (hs1 : ¬ (n : Int) ≤ s) (hs : i < 0) (w : World) (hF : Firsts w) : Calls Tryd.prog 3 #[.int .i64 n, .int .i64 k, .int .i64 s, .int .i64 i] w fun e w' => e = .returned (.bool true) ∧ Below w.heap.size w w' := by
  have kd : decide (k < 0) = false := decide_eq_false hk0
  have kd1 : decide ((n : Int) * 16 ≤ k) = true := decide_eq_true hk
  have sd : decide (s < 0) = false := decide_eq_false hs0
  have sd1 : decide ((n : Int) ≤ s) = false := decide_eq_false hs1
  have sd2 : decide (i < 0) = true := decide_eq_true hs
  go_enter Tryd.func3, Tryd.ntmps3
  go_wp2_with fail
  refine (Order_ok n h1 hn w hF).mono ?_
  rintro e w1 ⟨r1, rfl, o1, b1⟩
  go_wp2_with fail
  refine (At_k n k h1 hn (.inr hk) w1).mono ?_
  rintro e w2 ⟨rfl, b2⟩
  have o2 := row_below o1 b2 (Nat.le_refl _)
  have bb2 := b1.trans (b2.mono b1.size)
  clear o1
  go_wp2_with fail
  refine (Place_arg n s i h1 hn (.inr (.inr (.inl hs))) w2).mono ?_
  rintro e w3 ⟨rfl, b3⟩
  have o3 := row_below o2 b3 (Nat.le_refl _)
  have bb3 := bb2.trans (b3.mono bb2.size)
  clear o2 b1 b2 b3 bb2
  go_wp2_with fail
  refine (refN_yes n h1 hn w3).mono ?_
  rintro e w4 ⟨rfl, rfl⟩
  go_wp2_with fail
  refine (refOrder_any n h1 hn w3).mono ?_
  rintro e w4 ⟨r4, rfl, o4, b4⟩
  have o5 := row_below o3 b4 (Nat.le_refl _)
  have bb4 := bb3.trans (b4.mono bb3.size)
  have hl5 := holds_of_row o5
  have hl4 := holds_of_row o4
  have HLN : Hid ((orderL n).length = n) := orderL_len hn
  obtain ⟨g1, c1, rfl, hg1, hg1', _⟩ := order_cell h1 o3
  clear o3
  go_wp2_with fail
  refine (ints_any _ _ (orderL n) (orderL n) _ _ w4 (by rw [HLN.out]; omega) hl5 hl4).mono ?_
  rw [decide_eq_true rfl]
  rintro e w5 ⟨rfl, q5, rfl⟩
  obtain ⟨g4, c4, rfl, hg4, hg4', hc4⟩ := order_cell h1 o4
  have hne : g4 ≠ g1 := by omega
  clear hl5 hl4
  go_wp2_with fail
  refine (spoilInts_own _ n w.heap.size (orderL n) (by omega) (w4.drewN q5) o5).mono ?_
  rintro e w6 ⟨rfl, b6, _, h6⟩
  have HC6 : Hid (∀ k x : Nat, (orderN n)[k]? = some x → w6.cell? ⟨g4, k, none⟩ = some (.int .i64 (x : Int))) := by
    intro k x hkx
    have hb : w6.heap[g4]? = w4.heap[g4]? := h6 g4 (by simp [Value.ownBlock]; exact hne)
    have := hc4 k x hkx
    unfold World.cell? at this ⊢
    rw [hb]
    exact this
  have bb6 : Below w.heap.size w w6 := (below_drewN bb4 q5).trans b6
  clear o4 o5 hc4 h6 b6 bb4 bb3 b4
  go_wp2_with fail
  refine (schedWakes_any _ (hF.next bb6)).mono ?_
  rintro e w9 ⟨rfl, hw⟩
  go_wp2
  go_ret
  exact ⟨rfl, bb6.trans (hw.mono bb6.size)⟩

set_option maxRecDepth 100000 in
set_option maxHeartbeats 4000000 in
theorem schedExact_kHigh_iHigh (n : Nat) (h1 : 1 ≤ n) (hn : n < 65) (k : Int) (hk0 : ¬ k < 0) (hk : (n : Int) * 16 ≤ k) (s i : Int) (hs0 : ¬ s < 0) (hs1 : ¬ (n : Int) ≤ s) (hs2 : ¬ i < 0) (hs : 16 ≤ i) (w : World) (hF : Firsts w) : Calls Tryd.prog 3 #[.int .i64 n, .int .i64 k, .int .i64 s, .int .i64 i] w fun e w' => e = .returned (.bool true) ∧ Below w.heap.size w w' := by
  have kd : decide (k < 0) = false := decide_eq_false hk0
  have kd1 : decide ((n : Int) * 16 ≤ k) = true := decide_eq_true hk
  have sd : decide (s < 0) = false := decide_eq_false hs0
  have sd1 : decide ((n : Int) ≤ s) = false := decide_eq_false hs1
  have sd2 : decide (i < 0) = false := decide_eq_false hs2
  have sd3 : decide (16 ≤ i) = true := decide_eq_true hs
  go_enter Tryd.func3, Tryd.ntmps3
  go_wp2_with fail
  refine (Order_ok n h1 hn w hF).mono ?_
  rintro e w1 ⟨r1, rfl, o1, b1⟩
  go_wp2_with fail
  refine (At_k n k h1 hn (.inr hk) w1).mono ?_
  rintro e w2 ⟨rfl, b2⟩
  have o2 := row_below o1 b2 (Nat.le_refl _)
  have bb2 := b1.trans (b2.mono b1.size)
  clear o1
  go_wp2_with fail
  refine (Place_arg n s i h1 hn (.inr (.inr (.inr hs))) w2).mono ?_
  rintro e w3 ⟨rfl, b3⟩
  have o3 := row_below o2 b3 (Nat.le_refl _)
  have bb3 := bb2.trans (b3.mono bb2.size)
  clear o2 b1 b2 b3 bb2
  go_wp2_with fail
  refine (refN_yes n h1 hn w3).mono ?_
  rintro e w4 ⟨rfl, rfl⟩
  go_wp2_with fail
  refine (refOrder_any n h1 hn w3).mono ?_
  rintro e w4 ⟨r4, rfl, o4, b4⟩
  have o5 := row_below o3 b4 (Nat.le_refl _)
  have bb4 := bb3.trans (b4.mono bb3.size)
  have hl5 := holds_of_row o5
  have hl4 := holds_of_row o4
  have HLN : Hid ((orderL n).length = n) := orderL_len hn
  obtain ⟨g1, c1, rfl, hg1, hg1', _⟩ := order_cell h1 o3
  clear o3
  go_wp2_with fail
  refine (ints_any _ _ (orderL n) (orderL n) _ _ w4 (by rw [HLN.out]; omega) hl5 hl4).mono ?_
  rw [decide_eq_true rfl]
  rintro e w5 ⟨rfl, q5, rfl⟩
  obtain ⟨g4, c4, rfl, hg4, hg4', hc4⟩ := order_cell h1 o4
  have hne : g4 ≠ g1 := by omega
  clear hl5 hl4
  go_wp2_with fail
  refine (spoilInts_own _ n w.heap.size (orderL n) (by omega) (w4.drewN q5) o5).mono ?_
  rintro e w6 ⟨rfl, b6, _, h6⟩
  have HC6 : Hid (∀ k x : Nat, (orderN n)[k]? = some x → w6.cell? ⟨g4, k, none⟩ = some (.int .i64 (x : Int))) := by
    intro k x hkx
    have hb : w6.heap[g4]? = w4.heap[g4]? := h6 g4 (by simp [Value.ownBlock]; exact hne)
    have := hc4 k x hkx
    unfold World.cell? at this ⊢
    rw [hb]
    exact this
  have bb6 : Below w.heap.size w w6 := (below_drewN bb4 q5).trans b6
  clear o4 o5 hc4 h6 b6 bb4 bb3 b4
  go_wp2_with fail
  refine (schedWakes_any _ (hF.next bb6)).mono ?_
  rintro e w9 ⟨rfl, hw⟩
  go_wp2
  go_ret
  exact ⟨rfl, bb6.trans (hw.mono bb6.size)⟩

set_option maxRecDepth 100000 in
set_option maxHeartbeats 4000000 in
theorem schedExact_kHigh_ok (n : Nat) (h1 : 1 ≤ n) (hn : n < 65) (k : Int) (hk0 : ¬ k < 0) (hk : (n : Int) * 16 ≤ k) (s i : Nat) (hs : s < n) (hi16 : i < 16) (w : World) (hF : Firsts w) : Calls Tryd.prog 3 #[.int .i64 n, .int .i64 k, .int .i64 s, .int .i64 i] w fun e w' => e = .returned (.bool true) ∧ Below w.heap.size w w' := by
  have kd : decide (k < 0) = false := decide_eq_false hk0
  have kd1 : decide ((n : Int) * 16 ≤ k) = true := decide_eq_true hk
  have sd : decide ((s : Int) < 0) = false := decide_eq_false (by omega)
  have sd1 : decide ((n : Int) ≤ (s : Int)) = false := decide_eq_false (by omega)
  have sd2 : decide ((i : Int) < 0) = false := decide_eq_false (by omega)
  have sd3 : decide (16 ≤ (i : Int)) = false := decide_eq_false (by omega)
  have hpl := posN_lt hn hs
  have HP : Hid _ := posN_get hn hs
  have hin : i * n ≤ 15 * 64 := Nat.mul_le_mul (by omega) (by omega)
  have em : (i : Int) * (n : Int) = ((i * n : Nat) : Int) := by simp
  have HPL : ∀ W : World, Firsts W → Hid (Calls Tryd.prog 9 #[.int .i64 n, .int .i64 s, .int .i64 i] W fun e w' => e = .returned (.tuple #[.int .i64 ((i * n + posN n s : Nat) : Int), .int .i64 0]) ∧ Below W.heap.size W w') := fun W hf => Place_ok n s i h1 hn hs hi16 W hf
  obtain ⟨p, hp⟩ : ∃ p, posN n s = p := ⟨_, rfl⟩
  obtain ⟨m, hme⟩ : ∃ m, i * n = m := ⟨_, rfl⟩
  rw [hp] at hpl HP HPL
  rw [hme] at hin em HPL
  obtain ⟨z, hz⟩ : ∃ z, m + p = z := ⟨_, rfl⟩
  rw [hz] at HPL
  have e0 : (m : Int) + (p : Int) = (z : Int) := by omega
  have q2 : ((z : Int) == (z : Int)) = true := by simp
  clear hp hme hz
  go_enter Tryd.func3, Tryd.ntmps3
  go_wp2_with fail
  refine (Order_ok n h1 hn w hF).mono ?_
  rintro e w1 ⟨r1, rfl, o1, b1⟩
  go_wp2_with fail
  refine (At_k n k h1 hn (.inr hk) w1).mono ?_
  rintro e w2 ⟨rfl, b2⟩
  have o2 := row_below o1 b2 (Nat.le_refl _)
  have bb2 := b1.trans (b2.mono b1.size)
  clear o1
  go_wp2_with fail
  refine (HPL w2 (hF.next bb2)).out.mono ?_
  rintro e w3 ⟨rfl, b3⟩
  have o3 := row_below o2 b3 (Nat.le_refl _)
  have bb3 := bb2.trans (b3.mono bb2.size)
  clear o2 b1 b2 b3 bb2
  go_wp2_with fail
  refine (refN_yes n h1 hn w3).mono ?_
  rintro e w4 ⟨rfl, rfl⟩
  go_wp2_with fail
  refine (refOrder_any n h1 hn w3).mono ?_
  rintro e w4 ⟨r4, rfl, o4, b4⟩
  have o5 := row_below o3 b4 (Nat.le_refl _)
  have bb4 := bb3.trans (b4.mono bb3.size)
  have hl5 := holds_of_row o5
  have hl4 := holds_of_row o4
  have HLN : Hid ((orderL n).length = n) := orderL_len hn
  obtain ⟨g1, c1, rfl, hg1, hg1', _⟩ := order_cell h1 o3
  clear o3
  go_wp2_with fail
  refine (ints_any _ _ (orderL n) (orderL n) _ _ w4 (by rw [HLN.out]; omega) hl5 hl4).mono ?_
  rw [decide_eq_true rfl]
  rintro e w5 ⟨rfl, q5, rfl⟩
  obtain ⟨g4, c4, rfl, hg4, hg4', hc4⟩ := order_cell h1 o4
  have hne : g4 ≠ g1 := by omega
  clear hl5 hl4
  go_wp2_with fail
  refine (spoilInts_own _ n w.heap.size (orderL n) (by omega) (w4.drewN q5) o5).mono ?_
  rintro e w6 ⟨rfl, b6, _, h6⟩
  have HC6 : Hid (∀ k x : Nat, (orderN n)[k]? = some x → w6.cell? ⟨g4, k, none⟩ = some (.int .i64 (x : Int))) := by
    intro k x hkx
    have hb : w6.heap[g4]? = w4.heap[g4]? := h6 g4 (by simp [Value.ownBlock]; exact hne)
    have := hc4 k x hkx
    unfold World.cell? at this ⊢
    rw [hb]
    exact this
  have bb6 : Below w.heap.size w w6 := (below_drewN bb4 q5).trans b6
  clear o4 o5 hc4 h6 b6 bb4 bb3 b4
  go_wp2
  go_loop [17] (fun v => ∃ j : Nat, j ≤ p ∧ v = .int .i64 j) (fun v => p - (intOf v).toNat)
  case atStart => exact ⟨0, Nat.zero_le _, rfl⟩
  case round =>
    obtain ⟨j, hj, rfl⟩ := hrel
    by_cases hlt : j < p
    · obtain ⟨y, hy, _⟩ := orderN_get hn (show j < n by omega)
      have c7 := HC6.out j y hy
      have hys : y ≠ s := fun e => by subst e; have := order_inj hn hy HP.out; omega
      have q : ((y : Int) == (s : Int)) = false := by rw [beq_eq_false_iff_ne]; omega
      clear hy hys
      go_wp2
      go_round
      case rel => exact ⟨j + 1, by omega, by go_num⟩
      case measure => simp [intOf]; omega
    · obtain rfl : j = p := by omega
      have c7 := HC6.out j s HP.out
      have q : ((s : Int) == (s : Int)) = true := by simp
      clear hlt hj
      go_wp2_with fail
      refine (schedWakes_any _ (hF.next bb6)).mono ?_
      rintro e w9 ⟨rfl, hw⟩
      go_wp2
      go_ret
      exact ⟨rfl, bb6.trans (hw.mono bb6.size)⟩

set_option maxRecDepth 100000 in
set_option maxHeartbeats 4000000 in
theorem schedExact_kOk_sLow (n : Nat) (h1 : 1 ≤ n) (hn : n < 65) (k : Nat) (hk : k < n * 16) (s i : Int) (hs : s < 0) (w : World) (hF : Firsts w) : Calls Tryd.prog 3 #[.int .i64 n, .int .i64 k, .int .i64 s, .int .i64 i] w fun e w' => e = .returned (.bool true) ∧ Below w.heap.size w w' := by
  have sd : decide (s < 0) = true := decide_eq_true hs
  have hm : k % n < n := Nat.mod_lt _ (by omega)
  obtain ⟨x, hx, _⟩ := orderN_get hn hm
  have HX : Hid ((orderN n)[k % n]? = some x) := hx
  have ke1 : (k : Int).tmod (n : Int) = ((k % n : Nat) : Int) := by rw [Int.tmod_eq_emod_of_nonneg (by omega)]; simp
  have ke2 : (k : Int).tdiv (n : Int) = ((k / n : Nat) : Int) := by rw [Int.tdiv_eq_ediv_of_nonneg (by omega)]; simp
  have kle : k / n ≤ k := Nat.div_le_self _ _
  have kd : decide ((k : Int) < 0) = false := decide_eq_false (by omega)
  have kd1 : decide ((n : Int) * 16 ≤ (k : Int)) = false := decide_eq_false (by omega)
  have n0 : ¬ (n : Int) = 0 := by omega
  have HAT : ∀ W : World, Firsts W → Hid (Calls Tryd.prog 8 #[.int .i64 n, .int .i64 k] W fun e w' => e = .returned (.tuple #[.int .i64 (x : Int), .int .i64 ((k / n : Nat) : Int), .int .i64 0]) ∧ Below W.heap.size W w') := fun W hf => At_ok n k x h1 hn hk hx W hf
  obtain ⟨kj, hkj⟩ : ∃ j, k % n = j := ⟨_, rfl⟩
  obtain ⟨kd3, hkd3⟩ : ∃ d, k / n = d := ⟨_, rfl⟩
  rw [hkj] at hm ke1 HX
  rw [hkd3] at ke2 kle HAT
  have kx : ((x : Int) != (x : Int)) = false := by simp
  have kx2 : ((kd3 : Int) != (kd3 : Int)) = false := by simp
  clear hkj hkd3 hx
  go_enter Tryd.func3, Tryd.ntmps3
  go_wp2_with fail
  refine (Order_ok n h1 hn w hF).mono ?_
  rintro e w1 ⟨r1, rfl, o1, b1⟩
  go_wp2_with fail
  refine (HAT w1 (hF.next b1)).out.mono ?_
  rintro e w2 ⟨rfl, b2⟩
  have o2 := row_below o1 b2 (Nat.le_refl _)
  have bb2 := b1.trans (b2.mono b1.size)
  clear o1
  go_wp2_with fail
  refine (Place_arg n s i h1 hn (.inl hs) w2).mono ?_
  rintro e w3 ⟨rfl, b3⟩
  have o3 := row_below o2 b3 (Nat.le_refl _)
  have bb3 := bb2.trans (b3.mono bb2.size)
  clear o2 b1 b2 b3 bb2
  go_wp2_with fail
  refine (refN_yes n h1 hn w3).mono ?_
  rintro e w4 ⟨rfl, rfl⟩
  go_wp2_with fail
  refine (refOrder_any n h1 hn w3).mono ?_
  rintro e w4 ⟨r4, rfl, o4, b4⟩
  have o5 := row_below o3 b4 (Nat.le_refl _)
  have bb4 := bb3.trans (b4.mono bb3.size)
  have hl5 := holds_of_row o5
  have hl4 := holds_of_row o4
  have HLN : Hid ((orderL n).length = n) := orderL_len hn
  obtain ⟨g1, c1, rfl, hg1, hg1', _⟩ := order_cell h1 o3
  clear o3
  go_wp2_with fail
  refine (ints_any _ _ (orderL n) (orderL n) _ _ w4 (by rw [HLN.out]; omega) hl5 hl4).mono ?_
  rw [decide_eq_true rfl]
  rintro e w5 ⟨rfl, q5, rfl⟩
  obtain ⟨g4, c4, rfl, hg4, hg4', hc4⟩ := order_cell h1 o4
  have hne : g4 ≠ g1 := by omega
  clear hl5 hl4
  go_wp2_with fail
  refine (spoilInts_own _ n w.heap.size (orderL n) (by omega) (w4.drewN q5) o5).mono ?_
  rintro e w6 ⟨rfl, b6, _, h6⟩
  have HC6 : Hid (∀ k x : Nat, (orderN n)[k]? = some x → w6.cell? ⟨g4, k, none⟩ = some (.int .i64 (x : Int))) := by
    intro k x hkx
    have hb : w6.heap[g4]? = w4.heap[g4]? := h6 g4 (by simp [Value.ownBlock]; exact hne)
    have := hc4 k x hkx
    unfold World.cell? at this ⊢
    rw [hb]
    exact this
  have bb6 : Below w.heap.size w w6 := (below_drewN bb4 q5).trans b6
  clear o4 o5 hc4 h6 b6 bb4 bb3 b4
  have c6 := HC6.out kj x HX.out
  go_wp2_with fail
  refine (schedWakes_any _ (hF.next bb6)).mono ?_
  rintro e w9 ⟨rfl, hw⟩
  go_wp2
  go_ret
  exact ⟨rfl, bb6.trans (hw.mono bb6.size)⟩

set_option maxRecDepth 100000 in
set_option maxHeartbeats 4000000 in
theorem schedExact_kOk_sHigh (n : Nat) (h1 : 1 ≤ n) (hn : n < 65) (k : Nat) (hk : k < n * 16) (s i : Int) (hs0 : ¬ s < 0) (hs : (n : Int) ≤ s) (w : World) (hF : Firsts w) : Calls Tryd.prog 3 #[.int .i64 n, .int .i64 k, .int .i64 s, .int .i64 i] w fun e w' => e = .returned (.bool true) ∧ Below w.heap.size w w' := by
  have sd : decide (s < 0) = false := decide_eq_false hs0
  have sd1 : decide ((n : Int) ≤ s) = true := decide_eq_true hs
  have hm : k % n < n := Nat.mod_lt _ (by omega)
  obtain ⟨x, hx, _⟩ := orderN_get hn hm
  have HX : Hid ((orderN n)[k % n]? = some x) := hx
  have ke1 : (k : Int).tmod (n : Int) = ((k % n : Nat) : Int) := by rw [Int.tmod_eq_emod_of_nonneg (by omega)]; simp
  have ke2 : (k : Int).tdiv (n : Int) = ((k / n : Nat) : Int) := by rw [Int.tdiv_eq_ediv_of_nonneg (by omega)]; simp
  have kle : k / n ≤ k := Nat.div_le_self _ _
  have kd : decide ((k : Int) < 0) = false := decide_eq_false (by omega)
  have kd1 : decide ((n : Int) * 16 ≤ (k : Int)) = false := decide_eq_false (by omega)
  have n0 : ¬ (n : Int) = 0 := by omega
  have HAT : ∀ W : World, Firsts W → Hid (Calls Tryd.prog 8 #[.int .i64 n, .int .i64 k] W fun e w' => e = .returned (.tuple #[.int .i64 (x : Int), .int .i64 ((k / n : Nat) : Int), .int .i64 0]) ∧ Below W.heap.size W w') := fun W hf => At_ok n k x h1 hn hk hx W hf
  obtain ⟨kj, hkj⟩ : ∃ j, k % n = j := ⟨_, rfl⟩
  obtain ⟨kd3, hkd3⟩ : ∃ d, k / n = d := ⟨_, rfl⟩
  rw [hkj] at hm ke1 HX
  rw [hkd3] at ke2 kle HAT
  have kx : ((x : Int) != (x : Int)) = false := by simp
  have kx2 : ((kd3 : Int) != (kd3 : Int)) = false := by simp
  clear hkj hkd3 hx
  go_enter Tryd.func3, Tryd.ntmps3
  go_wp2_with fail
  refine (Order_ok n h1 hn w hF).mono ?_
  rintro e w1 ⟨r1, rfl, o1, b1⟩
  go_wp2_with fail
  refine (HAT w1 (hF.next b1)).out.mono ?_
  rintro e w2 ⟨rfl, b2⟩
  have o2 := row_below o1 b2 (Nat.le_refl _)
  have bb2 := b1.trans (b2.mono b1.size)
  clear o1
  go_wp2_with fail
  refine (Place_arg n s i h1 hn (.inr (.inl hs)) w2).mono ?_
  rintro e w3 ⟨rfl, b3⟩
  have o3 := row_below o2 b3 (Nat.le_refl _)
  have bb3 := bb2.trans (b3.mono bb2.size)
  clear o2 b1 b2 b3 bb2
  go_wp2_with fail
  refine (refN_yes n h1 hn w3).mono ?_
  rintro e w4 ⟨rfl, rfl⟩
  go_wp2_with fail
  refine (refOrder_any n h1 hn w3).mono ?_
  rintro e w4 ⟨r4, rfl, o4, b4⟩
  have o5 := row_below o3 b4 (Nat.le_refl _)
  have bb4 := bb3.trans (b4.mono bb3.size)
  have hl5 := holds_of_row o5
  have hl4 := holds_of_row o4
  have HLN : Hid ((orderL n).length = n) := orderL_len hn
  obtain ⟨g1, c1, rfl, hg1, hg1', _⟩ := order_cell h1 o3
  clear o3
  go_wp2_with fail
  refine (ints_any _ _ (orderL n) (orderL n) _ _ w4 (by rw [HLN.out]; omega) hl5 hl4).mono ?_
  rw [decide_eq_true rfl]
  rintro e w5 ⟨rfl, q5, rfl⟩
  obtain ⟨g4, c4, rfl, hg4, hg4', hc4⟩ := order_cell h1 o4
  have hne : g4 ≠ g1 := by omega
  clear hl5 hl4
  go_wp2_with fail
  refine (spoilInts_own _ n w.heap.size (orderL n) (by omega) (w4.drewN q5) o5).mono ?_
  rintro e w6 ⟨rfl, b6, _, h6⟩
  have HC6 : Hid (∀ k x : Nat, (orderN n)[k]? = some x → w6.cell? ⟨g4, k, none⟩ = some (.int .i64 (x : Int))) := by
    intro k x hkx
    have hb : w6.heap[g4]? = w4.heap[g4]? := h6 g4 (by simp [Value.ownBlock]; exact hne)
    have := hc4 k x hkx
    unfold World.cell? at this ⊢
    rw [hb]
    exact this
  have bb6 : Below w.heap.size w w6 := (below_drewN bb4 q5).trans b6
  clear o4 o5 hc4 h6 b6 bb4 bb3 b4
  have c6 := HC6.out kj x HX.out
  go_wp2_with fail
  refine (schedWakes_any _ (hF.next bb6)).mono ?_
  rintro e w9 ⟨rfl, hw⟩
  go_wp2
  go_ret
  exact ⟨rfl, bb6.trans (hw.mono bb6.size)⟩

set_option maxRecDepth 100000 in
set_option maxHeartbeats 4000000 in
theorem schedExact_kOk_iLow (n : Nat) (h1 : 1 ≤ n) (hn : n < 65) (k : Nat) (hk : k < n * 16) (s i : Int) (hs0 : ¬ s < 0) (hs1 : ¬ (n : Int) ≤ s) (hs : i < 0) (w : World) (hF : Firsts w) : Calls Tryd.prog 3 #[.int .i64 n, .int .i64 k, .int .i64 s, .int .i64 i] w fun e w' => e = .returned (.bool true) ∧ Below w.heap.size w w' := by
  have sd : decide (s < 0) = false := decide_eq_false hs0
  have sd1 : decide ((n : Int) ≤ s) = false := decide_eq_false hs1
  have sd2 : decide (i < 0) = true := decide_eq_true hs
  have hm : k % n < n := Nat.mod_lt _ (by omega)
  obtain ⟨x, hx, _⟩ := orderN_get hn hm
  have HX : Hid ((orderN n)[k % n]? = some x) := hx
  have ke1 : (k : Int).tmod (n : Int) = ((k % n : Nat) : Int) := by rw [Int.tmod_eq_emod_of_nonneg (by omega)]; simp
  have ke2 : (k : Int).tdiv (n : Int) = ((k / n : Nat) : Int) := by rw [Int.tdiv_eq_ediv_of_nonneg (by omega)]; simp
  have kle : k / n ≤ k := Nat.div_le_self _ _
  have kd : decide ((k : Int) < 0) = false := decide_eq_false (by omega)
  have kd1 : decide ((n : Int) * 16 ≤ (k : Int)) = false := decide_eq_false (by omega)
  have n0 : ¬ (n : Int) = 0 := by omega
  have HAT : ∀ W : World, Firsts W → Hid (Calls Tryd.prog 8 #[.int .i64 n, .int .i64 k] W fun e w' => e = .returned (.tuple #[.int .i64 (x : Int), .int .i64 ((k / n : Nat) : Int), .int .i64 0]) ∧ Below W.heap.size W w') := fun W hf => At_ok n k x h1 hn hk hx W hf
  obtain ⟨kj, hkj⟩ : ∃ j, k % n = j := ⟨_, rfl⟩
  obtain ⟨kd3, hkd3⟩ : ∃ d, k / n = d := ⟨_, rfl⟩
  rw [hkj] at hm ke1 HX
  rw [hkd3] at ke2 kle HAT
  have kx : ((x : Int) != (x : Int)) = false := by simp
  have kx2 : ((kd3 : Int) != (kd3 : Int)) = false := by simp
  clear hkj hkd3 hx
  go_enter Tryd.func3, Tryd.ntmps3
  go_wp2_with fail
  refine (Order_ok n h1 hn w hF).mono ?_
  rintro e w1 ⟨r1, rfl, o1, b1⟩
  go_wp2_with fail
  refine (HAT w1 (hF.next b1)).out.mono ?_
  rintro e w2 ⟨rfl, b2⟩
  have o2 := row_below o1 b2 (Nat.le_refl _)
  have bb2 := b1.trans (b2.mono b1.size)
  clear o1
  go_wp2_with fail
  refine (Place_arg n s i h1 hn (.inr (.inr (.inl hs))) w2).mono ?_
  rintro e w3 ⟨rfl, b3⟩
  have o3 := row_below o2 b3 (Nat.le_refl _)
  have bb3 := bb2.trans (b3.mono bb2.size)
  clear o2 b1 b2 b3 bb2
  go_wp2_with fail
  refine (refN_yes n h1 hn w3).mono ?_
  rintro e w4 ⟨rfl, rfl⟩
  go_wp2_with fail
  refine (refOrder_any n h1 hn w3).mono ?_
  rintro e w4 ⟨r4, rfl, o4, b4⟩
  have o5 := row_below o3 b4 (Nat.le_refl _)
  have bb4 := bb3.trans (b4.mono bb3.size)
  have hl5 := holds_of_row o5
  have hl4 := holds_of_row o4
  have HLN : Hid ((orderL n).length = n) := orderL_len hn
  obtain ⟨g1, c1, rfl, hg1, hg1', _⟩ := order_cell h1 o3
  clear o3
  go_wp2_with fail
  refine (ints_any _ _ (orderL n) (orderL n) _ _ w4 (by rw [HLN.out]; omega) hl5 hl4).mono ?_
  rw [decide_eq_true rfl]
  rintro e w5 ⟨rfl, q5, rfl⟩
  obtain ⟨g4, c4, rfl, hg4, hg4', hc4⟩ := order_cell h1 o4
  have hne : g4 ≠ g1 := by omega
  clear hl5 hl4
  go_wp2_with fail
  refine (spoilInts_own _ n w.heap.size (orderL n) (by omega) (w4.drewN q5) o5).mono ?_
  rintro e w6 ⟨rfl, b6, _, h6⟩
  have HC6 : Hid (∀ k x : Nat, (orderN n)[k]? = some x → w6.cell? ⟨g4, k, none⟩ = some (.int .i64 (x : Int))) := by
    intro k x hkx
    have hb : w6.heap[g4]? = w4.heap[g4]? := h6 g4 (by simp [Value.ownBlock]; exact hne)
    have := hc4 k x hkx
    unfold World.cell? at this ⊢
    rw [hb]
    exact this
  have bb6 : Below w.heap.size w w6 := (below_drewN bb4 q5).trans b6
  clear o4 o5 hc4 h6 b6 bb4 bb3 b4
  have c6 := HC6.out kj x HX.out
  go_wp2_with fail
  refine (schedWakes_any _ (hF.next bb6)).mono ?_
  rintro e w9 ⟨rfl, hw⟩
  go_wp2
  go_ret
  exact ⟨rfl, bb6.trans (hw.mono bb6.size)⟩

set_option maxRecDepth 100000 in
set_option maxHeartbeats 4000000 in
theorem schedExact_kOk_iHigh (n : Nat) (h1 : 1 ≤ n) (hn : n < 65) (k : Nat) (hk : k < n * 16) (s i : Int) (hs0 : ¬ s < 0) (hs1 : ¬ (n : Int) ≤ s) (hs2 : ¬ i < 0) (hs : 16 ≤ i) (w : World) (hF : Firsts w) : Calls Tryd.prog 3 #[.int .i64 n, .int .i64 k, .int .i64 s, .int .i64 i] w fun e w' => e = .returned (.bool true) ∧ Below w.heap.size w w' := by
  have sd : decide (s < 0) = false := decide_eq_false hs0
  have sd1 : decide ((n : Int) ≤ s) = false := decide_eq_false hs1
  have sd2 : decide (i < 0) = false := decide_eq_false hs2
  have sd3 : decide (16 ≤ i) = true := decide_eq_true hs
  have hm : k % n < n := Nat.mod_lt _ (by omega)
  obtain ⟨x, hx, _⟩ := orderN_get hn hm
  have HX : Hid ((orderN n)[k % n]? = some x) := hx
  have ke1 : (k : Int).tmod (n : Int) = ((k % n : Nat) : Int) := by rw [Int.tmod_eq_emod_of_nonneg (by omega)]; simp
  have ke2 : (k : Int).tdiv (n : Int) = ((k / n : Nat) : Int) := by rw [Int.tdiv_eq_ediv_of_nonneg (by omega)]; simp
  have kle : k / n ≤ k := Nat.div_le_self _ _
  have kd : decide ((k : Int) < 0) = false := decide_eq_false (by omega)
  have kd1 : decide ((n : Int) * 16 ≤ (k : Int)) = false := decide_eq_false (by omega)
  have n0 : ¬ (n : Int) = 0 := by omega
  have HAT : ∀ W : World, Firsts W → Hid (Calls Tryd.prog 8 #[.int .i64 n, .int .i64 k] W fun e w' => e = .returned (.tuple #[.int .i64 (x : Int), .int .i64 ((k / n : Nat) : Int), .int .i64 0]) ∧ Below W.heap.size W w') := fun W hf => At_ok n k x h1 hn hk hx W hf
  obtain ⟨kj, hkj⟩ : ∃ j, k % n = j := ⟨_, rfl⟩
  obtain ⟨kd3, hkd3⟩ : ∃ d, k / n = d := ⟨_, rfl⟩
  rw [hkj] at hm ke1 HX
  rw [hkd3] at ke2 kle HAT
  have kx : ((x : Int) != (x : Int)) = false := by simp
  have kx2 : ((kd3 : Int) != (kd3 : Int)) = false := by simp
  clear hkj hkd3 hx
  go_enter Tryd.func3, Tryd.ntmps3
  go_wp2_with fail
  refine (Order_ok n h1 hn w hF).mono ?_
  rintro e w1 ⟨r1, rfl, o1, b1⟩
  go_wp2_with fail
  refine (HAT w1 (hF.next b1)).out.mono ?_
  rintro e w2 ⟨rfl, b2⟩
  have o2 := row_below o1 b2 (Nat.le_refl _)
  have bb2 := b1.trans (b2.mono b1.size)
  clear o1
  go_wp2_with fail
  refine (Place_arg n s i h1 hn (.inr (.inr (.inr hs))) w2).mono ?_
  rintro e w3 ⟨rfl, b3⟩
  have o3 := row_below o2 b3 (Nat.le_refl _)
  have bb3 := bb2.trans (b3.mono bb2.size)
  clear o2 b1 b2 b3 bb2
  go_wp2_with fail
  refine (refN_yes n h1 hn w3).mono ?_
  rintro e w4 ⟨rfl, rfl⟩
  go_wp2_with fail
  refine (refOrder_any n h1 hn w3).mono ?_
  rintro e w4 ⟨r4, rfl, o4, b4⟩
  have o5 := row_below o3 b4 (Nat.le_refl _)
  have bb4 := bb3.trans (b4.mono bb3.size)
  have hl5 := holds_of_row o5
  have hl4 := holds_of_row o4
  have HLN : Hid ((orderL n).length = n) := orderL_len hn
  obtain ⟨g1, c1, rfl, hg1, hg1', _⟩ := order_cell h1 o3
  clear o3
  go_wp2_with fail
  refine (ints_any _ _ (orderL n) (orderL n) _ _ w4 (by rw [HLN.out]; omega) hl5 hl4).mono ?_
  rw [decide_eq_true rfl]
  rintro e w5 ⟨rfl, q5, rfl⟩
  obtain ⟨g4, c4, rfl, hg4, hg4', hc4⟩ := order_cell h1 o4
  have hne : g4 ≠ g1 := by omega
  clear hl5 hl4
  go_wp2_with fail
  refine (spoilInts_own _ n w.heap.size (orderL n) (by omega) (w4.drewN q5) o5).mono ?_
  rintro e w6 ⟨rfl, b6, _, h6⟩
  have HC6 : Hid (∀ k x : Nat, (orderN n)[k]? = some x → w6.cell? ⟨g4, k, none⟩ = some (.int .i64 (x : Int))) := by
    intro k x hkx
    have hb : w6.heap[g4]? = w4.heap[g4]? := h6 g4 (by simp [Value.ownBlock]; exact hne)
    have := hc4 k x hkx
    unfold World.cell? at this ⊢
    rw [hb]
    exact this
  have bb6 : Below w.heap.size w w6 := (below_drewN bb4 q5).trans b6
  clear o4 o5 hc4 h6 b6 bb4 bb3 b4
  have c6 := HC6.out kj x HX.out
  go_wp2_with fail
  refine (schedWakes_any _ (hF.next bb6)).mono ?_
  rintro e w9 ⟨rfl, hw⟩
  go_wp2
  go_ret
  exact ⟨rfl, bb6.trans (hw.mono bb6.size)⟩

set_option maxRecDepth 100000 in
set_option maxHeartbeats 4000000 in
theorem schedExact_kOk_ok (n : Nat) (h1 : 1 ≤ n) (hn : n < 65) (k : Nat) (hk : k < n * 16) (s i : Nat) (hs : s < n) (hi16 : i < 16) (w : World) (hF : Firsts w) : Calls Tryd.prog 3 #[.int .i64 n, .int .i64 k, .int .i64 s, .int .i64 i] w fun e w' => e = .returned (.bool true) ∧ Below w.heap.size w w' := by
  have hm : k % n < n := Nat.mod_lt _ (by omega)
  obtain ⟨x, hx, _⟩ := orderN_get hn hm
  have HX : Hid ((orderN n)[k % n]? = some x) := hx
  have ke1 : (k : Int).tmod (n : Int) = ((k % n : Nat) : Int) := by rw [Int.tmod_eq_emod_of_nonneg (by omega)]; simp
  have ke2 : (k : Int).tdiv (n : Int) = ((k / n : Nat) : Int) := by rw [Int.tdiv_eq_ediv_of_nonneg (by omega)]; simp
  have kle : k / n ≤ k := Nat.div_le_self _ _
  have kd : decide ((k : Int) < 0) = false := decide_eq_false (by omega)
  have kd1 : decide ((n : Int) * 16 ≤ (k : Int)) = false := decide_eq_false (by omega)
  have n0 : ¬ (n : Int) = 0 := by omega
  have HAT : ∀ W : World, Firsts W → Hid (Calls Tryd.prog 8 #[.int .i64 n, .int .i64 k] W fun e w' => e = .returned (.tuple #[.int .i64 (x : Int), .int .i64 ((k / n : Nat) : Int), .int .i64 0]) ∧ Below W.heap.size W w') := fun W hf => At_ok n k x h1 hn hk hx W hf
  obtain ⟨kj, hkj⟩ : ∃ j, k % n = j := ⟨_, rfl⟩
  obtain ⟨kd3, hkd3⟩ : ∃ d, k / n = d := ⟨_, rfl⟩
  rw [hkj] at hm ke1 HX
  rw [hkd3] at ke2 kle HAT
  have kx : ((x : Int) != (x : Int)) = false := by simp
  have kx2 : ((kd3 : Int) != (kd3 : Int)) = false := by simp
  clear hkj hkd3 hx
  have sd : decide ((s : Int) < 0) = false := decide_eq_false (by omega)
  have sd1 : decide ((n : Int) ≤ (s : Int)) = false := decide_eq_false (by omega)
  have sd2 : decide ((i : Int) < 0) = false := decide_eq_false (by omega)
  have sd3 : decide (16 ≤ (i : Int)) = false := decide_eq_false (by omega)
  have hpl := posN_lt hn hs
  have HP : Hid _ := posN_get hn hs
  have hin : i * n ≤ 15 * 64 := Nat.mul_le_mul (by omega) (by omega)
  have em : (i : Int) * (n : Int) = ((i * n : Nat) : Int) := by simp
  have HPL : ∀ W : World, Firsts W → Hid (Calls Tryd.prog 9 #[.int .i64 n, .int .i64 s, .int .i64 i] W fun e w' => e = .returned (.tuple #[.int .i64 ((i * n + posN n s : Nat) : Int), .int .i64 0]) ∧ Below W.heap.size W w') := fun W hf => Place_ok n s i h1 hn hs hi16 W hf
  obtain ⟨p, hp⟩ : ∃ p, posN n s = p := ⟨_, rfl⟩
  obtain ⟨m, hme⟩ : ∃ m, i * n = m := ⟨_, rfl⟩
  rw [hp] at hpl HP HPL
  rw [hme] at hin em HPL
  obtain ⟨z, hz⟩ : ∃ z, m + p = z := ⟨_, rfl⟩
  rw [hz] at HPL
  have e0 : (m : Int) + (p : Int) = (z : Int) := by omega
  have q2 : ((z : Int) == (z : Int)) = true := by simp
  clear hp hme hz
  go_enter Tryd.func3, Tryd.ntmps3
  go_wp2_with fail
  refine (Order_ok n h1 hn w hF).mono ?_
  rintro e w1 ⟨r1, rfl, o1, b1⟩
  go_wp2_with fail
  refine (HAT w1 (hF.next b1)).out.mono ?_
  rintro e w2 ⟨rfl, b2⟩
  have o2 := row_below o1 b2 (Nat.le_refl _)
  have bb2 := b1.trans (b2.mono b1.size)
  clear o1
  go_wp2_with fail
  refine (HPL w2 (hF.next bb2)).out.mono ?_
  rintro e w3 ⟨rfl, b3⟩
  have o3 := row_below o2 b3 (Nat.le_refl _)
  have bb3 := bb2.trans (b3.mono bb2.size)
  clear o2 b1 b2 b3 bb2
  go_wp2_with fail
  refine (refN_yes n h1 hn w3).mono ?_
  rintro e w4 ⟨rfl, rfl⟩
  go_wp2_with fail
  refine (refOrder_any n h1 hn w3).mono ?_
  rintro e w4 ⟨r4, rfl, o4, b4⟩
  have o5 := row_below o3 b4 (Nat.le_refl _)
  have bb4 := bb3.trans (b4.mono bb3.size)
  have hl5 := holds_of_row o5
  have hl4 := holds_of_row o4
  have HLN : Hid ((orderL n).length = n) := orderL_len hn
  obtain ⟨g1, c1, rfl, hg1, hg1', _⟩ := order_cell h1 o3
  clear o3
  go_wp2_with fail
  refine (ints_any _ _ (orderL n) (orderL n) _ _ w4 (by rw [HLN.out]; omega) hl5 hl4).mono ?_
  rw [decide_eq_true rfl]
  rintro e w5 ⟨rfl, q5, rfl⟩
  obtain ⟨g4, c4, rfl, hg4, hg4', hc4⟩ := order_cell h1 o4
  have hne : g4 ≠ g1 := by omega
  clear hl5 hl4
  go_wp2_with fail
  refine (spoilInts_own _ n w.heap.size (orderL n) (by omega) (w4.drewN q5) o5).mono ?_
  rintro e w6 ⟨rfl, b6, _, h6⟩
  have HC6 : Hid (∀ k x : Nat, (orderN n)[k]? = some x → w6.cell? ⟨g4, k, none⟩ = some (.int .i64 (x : Int))) := by
    intro k x hkx
    have hb : w6.heap[g4]? = w4.heap[g4]? := h6 g4 (by simp [Value.ownBlock]; exact hne)
    have := hc4 k x hkx
    unfold World.cell? at this ⊢
    rw [hb]
    exact this
  have bb6 : Below w.heap.size w w6 := (below_drewN bb4 q5).trans b6
  clear o4 o5 hc4 h6 b6 bb4 bb3 b4
  have c6 := HC6.out kj x HX.out
  go_wp2
  go_loop [17] (fun v => ∃ j : Nat, j ≤ p ∧ v = .int .i64 j) (fun v => p - (intOf v).toNat)
  case atStart => exact ⟨0, Nat.zero_le _, rfl⟩
  case round =>
    obtain ⟨j, hj, rfl⟩ := hrel
    by_cases hlt : j < p
    · obtain ⟨y, hy, _⟩ := orderN_get hn (show j < n by omega)
      have c7 := HC6.out j y hy
      have hys : y ≠ s := fun e => by subst e; have := order_inj hn hy HP.out; omega
      have q : ((y : Int) == (s : Int)) = false := by rw [beq_eq_false_iff_ne]; omega
      clear hy hys
      go_wp2
      go_round
      case rel => exact ⟨j + 1, by omega, by go_num⟩
      case measure => simp [intOf]; omega
    · obtain rfl : j = p := by omega
      have c7 := HC6.out j s HP.out
      have q : ((s : Int) == (s : Int)) = true := by simp
      clear hlt hj
      go_wp2_with fail
      refine (schedWakes_any _ (hF.next bb6)).mono ?_
      rintro e w9 ⟨rfl, hw⟩
      go_wp2
      go_ret
      exact ⟨rfl, bb6.trans (hw.mono bb6.size)⟩

set_option maxRecDepth 100000 in
set_option maxHeartbeats 4000000 in
theorem schedExact_n (n k s i : Int) (h : n < 1 ∨ 64 < n) (w : World) (hF : Firsts w) : Calls Tryd.prog 3 #[.int .i64 n, .int .i64 k, .int .i64 s, .int .i64 i] w fun e w' => e = .returned (.bool true) ∧ Below w.heap.size w w' := by
  have H : Hid (n < 1 ∨ 64 < n) := h
  clear h
  go_enter Tryd.func3, Tryd.ntmps3
  go_wp2_with fail
  refine (Order_arg n H.out w).mono ?_
  rintro e w1 ⟨rfl, b1⟩
  go_wp2_with fail
  refine (At_n n k H.out w1).mono ?_
  rintro e w2 ⟨rfl, b2⟩
  go_wp2_with fail
  refine (Place_n n s i H.out w2).mono ?_
  rintro e w3 ⟨rfl, b3⟩
  have bb2 := b1.trans (b2.mono b1.size)
  have bb3 := bb2.trans (b3.mono bb2.size)
  go_wp2_with fail
  refine (refN_no n H.out w3).mono ?_
  rintro e w4 ⟨rfl, rfl⟩
  go_wp2_with fail
  refine (schedWakes_any _ (hF.next bb3)).mono ?_
  rintro e w9 ⟨rfl, hw⟩
  go_wp2
  go_ret
  exact ⟨rfl, bb3.trans (hw.mono bb3.size)⟩

/-- The law, of whatever numbers. -/
theorem schedExact_walk (a0 a1 a2 a3 : Int) (w : World) (hF : Firsts w) : Calls Tryd.prog 3 #[.int .i64 a0, .int .i64 a1, .int .i64 a2, .int .i64 a3] w fun e w' => e = .returned (.bool true) ∧ Below w.heap.size w w' := by
  by_cases h : a0 < 1 ∨ 64 < a0
  · exact schedExact_n a0 a1 a2 a3 h w hF
  obtain ⟨n, rfl⟩ := Int.eq_ofNat_of_zero_le (a := a0) (by omega)
  have h1 : 1 ≤ n := by omega
  have hn : n < 65 := by omega
  by_cases k0 : a1 < 0
  · by_cases s0 : a2 < 0
    · exact schedExact_kLow_sLow n h1 hn a1 k0 a2 a3 s0 w hF
    by_cases s1 : (n : Int) ≤ a2
    · exact schedExact_kLow_sHigh n h1 hn a1 k0 a2 a3 s0 s1 w hF
    by_cases i0 : a3 < 0
    · exact schedExact_kLow_iLow n h1 hn a1 k0 a2 a3 s0 s1 i0 w hF
    by_cases i1 : 16 ≤ a3
    · exact schedExact_kLow_iHigh n h1 hn a1 k0 a2 a3 s0 s1 i0 i1 w hF
    obtain ⟨s, rfl⟩ := Int.eq_ofNat_of_zero_le (a := a2) (by omega)
    obtain ⟨i, rfl⟩ := Int.eq_ofNat_of_zero_le (a := a3) (by omega)
    exact schedExact_kLow_ok n h1 hn a1 k0 s i (by omega) (by omega) w hF
  by_cases k1 : (n : Int) * 16 ≤ a1
  · by_cases s0 : a2 < 0
    · exact schedExact_kHigh_sLow n h1 hn a1 k0 k1 a2 a3 s0 w hF
    by_cases s1 : (n : Int) ≤ a2
    · exact schedExact_kHigh_sHigh n h1 hn a1 k0 k1 a2 a3 s0 s1 w hF
    by_cases i0 : a3 < 0
    · exact schedExact_kHigh_iLow n h1 hn a1 k0 k1 a2 a3 s0 s1 i0 w hF
    by_cases i1 : 16 ≤ a3
    · exact schedExact_kHigh_iHigh n h1 hn a1 k0 k1 a2 a3 s0 s1 i0 i1 w hF
    obtain ⟨s, rfl⟩ := Int.eq_ofNat_of_zero_le (a := a2) (by omega)
    obtain ⟨i, rfl⟩ := Int.eq_ofNat_of_zero_le (a := a3) (by omega)
    exact schedExact_kHigh_ok n h1 hn a1 k0 k1 s i (by omega) (by omega) w hF
  obtain ⟨k, rfl⟩ := Int.eq_ofNat_of_zero_le (a := a1) (by omega)
  by_cases s0 : a2 < 0
  · exact schedExact_kOk_sLow n h1 hn k (by omega) a2 a3 s0 w hF
  by_cases s1 : (n : Int) ≤ a2
  · exact schedExact_kOk_sHigh n h1 hn k (by omega) a2 a3 s0 s1 w hF
  by_cases i0 : a3 < 0
  · exact schedExact_kOk_iLow n h1 hn k (by omega) a2 a3 s0 s1 i0 w hF
  by_cases i1 : 16 ≤ a3
  · exact schedExact_kOk_iHigh n h1 hn k (by omega) a2 a3 s0 s1 i0 i1 w hF
  obtain ⟨s, rfl⟩ := Int.eq_ofNat_of_zero_le (a := a2) (by omega)
  obtain ⟨i, rfl⟩ := Int.eq_ofNat_of_zero_le (a := a3) (by omega)
  exact schedExact_kOk_ok n h1 hn k (by omega) s i (by omega) (by omega) w hF

end Go.Proofs.YthmhlkgipidnoaaDoor
