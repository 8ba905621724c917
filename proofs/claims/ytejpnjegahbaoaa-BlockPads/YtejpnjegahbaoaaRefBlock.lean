/-
  What the page's Block (may it be?), be and num, and volutekeep.Block answer, whatever they are asked. (Written by tpl_refblock.py.)
-/
import Derived.Test.YtejpnjegahbaoaaBlockNums
import Derived.Test.YtejpnjegahbaoaaKeepBytes
import Derived.Test.YtejpnjegahbaoaaTwins
import Derived.Test.YtejpnjegahbaoaaBoxMem
namespace Go.Proofs.Ytejpnjegahbaoaa
open Go.RowKit

set_option maxRecDepth 100000 in
set_option maxHeartbeats 2000000 in
/-- voluteref13.Block. -/
theorem refBlock_any (z s m : Int) (a : Option Addr) (n cap : Nat) (w : World) :
    Calls Try.prog 9 #[.int .i64 z, .agg #[.int .i64 s, .int .i64 m, .slice a n cap]] w fun e w' => e = .returned (.int .i64 (errB z s m n)) ∧ Below w.heap.size w w' := by
  have b1 : Below w.heap.size w (w.alloc (.cells #[.int .i64 s, .int .i64 m, .slice a n cap] 24)) := (Below.refl w.heap.size w).alloc (Nat.le_refl _) _
  by_cases h0 : z < 1
  · have d0 : decide (z < 1) = true := decide_eq_true h0
    rw [errB_arg (by rw [← Bool.not_eq_true, bArg_iff]; omega)]
    clear h0
    go_enter Try.func9, Try.ntmps9
    go_wp2
    go_ret
    exact ⟨rfl, b1⟩
  have d0 : decide (z < 1) = false := decide_eq_false h0
  by_cases h1 : 16 < z
  · have d1 : decide (16 < z) = true := decide_eq_true h1
    rw [errB_arg (by rw [← Bool.not_eq_true, bArg_iff]; omega)]
    clear h0 h1
    go_enter Try.func9, Try.ntmps9
    go_wp2
    go_ret
    exact ⟨rfl, b1⟩
  have d1 : decide (16 < z) = false := decide_eq_false h1
  by_cases h2 : s < 0
  · have d2 : decide (s < 0) = true := decide_eq_true h2
    rw [errB_arg (by rw [← Bool.not_eq_true, bArg_iff]; omega)]
    clear h0 h1 h2
    go_enter Try.func9, Try.ntmps9
    go_wp2
    go_ret
    exact ⟨rfl, b1⟩
  have d2 : decide (s < 0) = false := decide_eq_false h2
  by_cases h3 : 1073741824 ≤ s
  · have d3 : decide (1073741824 ≤ s) = true := decide_eq_true h3
    rw [errB_arg (by rw [← Bool.not_eq_true, bArg_iff]; omega)]
    clear h0 h1 h2 h3
    go_enter Try.func9, Try.ntmps9
    go_wp2
    go_ret
    exact ⟨rfl, b1⟩
  have d3 : decide (1073741824 ≤ s) = false := decide_eq_false h3
  by_cases h4 : m < 0
  · have d4 : decide (m < 0) = true := decide_eq_true h4
    rw [errB_arg (by rw [← Bool.not_eq_true, bArg_iff]; omega)]
    clear h0 h1 h2 h3 h4
    go_enter Try.func9, Try.ntmps9
    go_wp2
    go_ret
    exact ⟨rfl, b1⟩
  have d4 : decide (m < 0) = false := decide_eq_false h4
  by_cases h5 : 3 < m
  · have d5 : decide (3 < m) = true := decide_eq_true h5
    rw [errB_arg (by rw [← Bool.not_eq_true, bArg_iff]; omega)]
    clear h0 h1 h2 h3 h4 h5
    go_enter Try.func9, Try.ntmps9
    go_wp2
    go_ret
    exact ⟨rfl, b1⟩
  have d5 : decide (3 < m) = false := decide_eq_false h5
  have hA : bArg z s m = true := (bArg_iff _ _ _).2 (by omega)
  by_cases h6 : z < (n : Int)
  · have d6 : decide (z < (n : Int)) = true := decide_eq_true h6
    rw [errB_len hA (by rw [← Bool.not_eq_true, bLen_iff]; omega)]
    clear hA h0 h1 h2 h3 h4 h5 h6
    go_enter Try.func9, Try.ntmps9
    go_wp2
    go_ret
    exact ⟨rfl, b1⟩
  have d6 : decide (z < (n : Int)) = false := decide_eq_false h6
  by_cases h7 : m < 2
  · have d7 : decide (m < 2) = true := decide_eq_true h7
    by_cases h8 : (n : Int) < z
    · have d8 : decide ((n : Int) < z) = true := decide_eq_true h8
      rw [errB_len hA (by rw [← Bool.not_eq_true, bLen_iff]; omega)]
      clear hA h0 h1 h2 h3 h4 h5 h6 h7 h8
      go_enter Try.func9, Try.ntmps9
      go_wp2
      go_ret
      exact ⟨rfl, b1⟩
    have d8 : decide ((n : Int) < z) = false := decide_eq_false h8
    rw [errB_zero.2 ⟨hA, (bLen_iff _ _ _).2 (by omega)⟩]
    clear hA h0 h1 h2 h3 h4 h5 h6 h7 h8
    go_enter Try.func9, Try.ntmps9
    go_wp2
    go_ret
    exact ⟨rfl, b1⟩
  have d7 : decide (m < 2) = false := decide_eq_false h7
  rw [errB_zero.2 ⟨hA, (bLen_iff _ _ _).2 (by omega)⟩]
  clear hA h0 h1 h2 h3 h4 h5 h6 h7
  go_enter Try.func9, Try.ntmps9
  go_wp2
  go_ret
  exact ⟨rfl, b1⟩

set_option maxRecDepth 100000 in
set_option maxHeartbeats 2000000 in
/-- voluteref13.be: a number in so many bytes, the highest first. -/
theorem refBe_any (n : Int) (s : Nat) (h2 : s ≤ 4) (w : World) :
    Calls Try.prog 23 #[.int .i64 n, .int .i64 s] w fun e W' => ∃ r, e = .returned r ∧ W'.ownsRow w.heap.size 5 1 r s ((beBytes s n).map (Value.int .u8)) ∧ Below w.heap.size w W' := by
  obtain ⟨i0, hi, hz0, hz1, hz2⟩ := info_parts infoU8
  go_enter Try.func23, Try.ntmps23
  go_wp2
  go_loopw [5, 6] (fun v i wr => ∃ l : Nat, l ≤ s ∧ i = .int .i64 ((l : Int) - 1) ∧ wr.ownsRow w.heap.size 5 1 v (s - l) (((beBytes s n).take (s - l)).map (Value.int .u8)) ∧ Below w.heap.size w wr) (fun _ i _ => (intOf i + 1).toNat)
  case atStart => exact ⟨s, Nat.le_refl _, rfl, by simpa using World.ownsRow_nil _ _ _ _, Below.refl _ _⟩
  case round =>
    obtain ⟨l, hl, rfl, ho, hbw⟩ := hrel
    cases l with
    | zero =>
      go_wp2
      go_ret
      refine ⟨_, rfl, ?_, hbw⟩
      simpa [List.take_of_length_le, beBytes_len] using ho
    | succ m =>
      have hm : ((m + 1 : Nat) : Int) - 1 = (m : Int) := by omega
      rw [hm]
      have HM : Hid _ := beBytes_next s m n (by omega)
      have hml : m ≤ 3 := by omega
      go_wp2_with (at_builtin; refine wpList_append_own _ rfl _ _ 22 rfl w.heap.size 5 i0 (.int .u8 0) 1 1 Try.underlying22 hi hz0 hz1 hz2 rfl (by decide) _ (s - (m + 1)) _ rfl (ho.alloc _) ⟨wr.heap.size, 0, none⟩ 1 1 [.int .u8 (n / 2 ^ (8 * m) % 256)] rfl rfl (cell_one_new _ _ _) (by simp [Value.oneCell']) (by unfold maxLen; omega) (by omega) (by have := hbw.size; simp; omega) ?_; intro v3 w3 hown3 hgrow3 _)
      have e1 : s - (m + 1) + 1 = s - m := by omega
      have b3 : Below w.heap.size w w3 := (hbw.alloc hbw.size _).trans ((Below.refl _ _).grown hgrow3 (by have := hbw.size; simp; omega) (fun k e => (ho.lt k e).1))
      refine ⟨⟨m, by omega, rfl, ?_, b3⟩, by simp [intOf]⟩
      rw [HM.out]
      rw [e1] at hown3
      simpa using hown3

set_option maxRecDepth 100000 in
set_option maxHeartbeats 2000000 in
/-- voluteref13.num: the number that four bytes make. -/
theorem refNum_any (b off cap : Nat) (zs : List Int) (h4 : zs.length ≤ 4) (bz : ∀ z ∈ zs, 0 ≤ z ∧ z ≤ 255) (w : World)
    (hc : ∀ j, j < zs.length → w.cell? ⟨b, off + j, none⟩ = some (.int .u8 (zs[j]?.getD 0))) :
    Calls Try.prog 28 #[.slice (some ⟨b, off, none⟩) zs.length cap] w fun e w' => e = .returned (.int .i64 (beNum zs)) ∧ w = w' := by
  go_enter Try.func28, Try.ntmps28
  go_wp2
  go_loop [3, 4] (fun v i => ∃ k : Nat, k ≤ zs.length ∧ i = .int .i64 k ∧ v = .int .i64 (beNum (zs.take k))) (fun _ i => zs.length - (intOf i).toNat)
  case atStart => exact ⟨0, Nat.zero_le _, rfl, rfl⟩
  case round =>
    obtain ⟨k, hk, rfl, rfl⟩ := hrel
    by_cases hlt : k < zs.length
    · obtain ⟨x, hx⟩ : ∃ x, zs[k]? = some x := ⟨zs[k]'hlt, by simp⟩
      have hcx : w.cell? ⟨b, off + k, none⟩ = some (.int .u8 x) := (hc k hlt).trans (by rw [hx]; rfl)
      have hx2 := bz x (List.mem_of_getElem? hx)
      have hb := take_bd zs bz 0 k 3 (by omega)
      rw [List.drop_zero] at hb
      have e3 : (256 : Int) ^ 3 = 16777216 := by decide
      rw [e3] at hb
      have HN : Hid (beNum (zs.take (k + 1)) = beNum (zs.take k) * 256 + x) := by
        show beNum (zs.take (k + 1)) = beNum (zs.take k) * 256 + x
        rw [List.take_add_one, hx]; exact beNum_snoc _ _
      obtain ⟨v, hv⟩ : ∃ v, beNum (zs.take k) = v := ⟨_, rfl⟩
      rw [hv] at hb HN ⊢
      have ej := or_join v x hb.1 (by omega) hx2.1 hx2.2
      have hwz : IntKind.i64.wrap x = x := by rw [IntKind.wrap_i64]; omega
      clear hv hx hc bz
      go_wp2
      exact ⟨⟨k + 1, by omega, by go_num, by rw [HN.out]⟩, by simp [intOf]; omega⟩
    · obtain rfl : k = zs.length := by omega
      rw [List.take_length]
      go_wp2
      go_ret
      exact ⟨rfl, rfl⟩

set_option maxRecDepth 100000 in
set_option maxHeartbeats 2000000 in
/-- volutekeep.Block. -/
theorem keepBlock_any (s m s' m' : Int) (v v' : Value) (xs ys : List Int) (w : World) (n₀ n₁ : Nat) (h0 : n₀ ≤ w.heap.size) (h1 : n₁ ≤ w.heap.size) (hy : ys.length ≤ 4611686018427387904) (ha : Holds .u8 n₀ w v xs) (hb : Holds .u8 n₁ w v' ys) :
    Calls Try.prog 12 #[.agg #[.int .i64 s, .int .i64 m, v], .agg #[.int .i64 s', .int .i64 m', v']] w fun e w' => e = .returned (.bool (decide (s = s' ∧ m = m' ∧ xs = ys))) ∧ Below w.heap.size w w' := by
  have b1 := ((Below.refl w.heap.size w).alloc (Nat.le_refl _) (.cells #[.int .i64 s, .int .i64 m, v] 24)).alloc (by simp) (.cells #[.int .i64 s', .int .i64 m', v'] 24)
  obtain ⟨a, ca, rfl⟩ := ha.shape
  obtain ⟨b, cb, rfl⟩ := hb.shape
  have HC := bytes_any (.slice a xs.length ca) (.slice b ys.length cb) xs ys n₀ n₁ _ hy (ha.below (b1.mono h0)) (hb.below (b1.mono h1))
  clear ha hb
  by_cases e1 : s = s'
  · subst e1
    by_cases e2 : m = m'
    · subst e2
      have HE : Hid (decide (s = s ∧ m = m ∧ xs = ys) = decide (xs = ys)) := by
        show decide (s = s ∧ m = m ∧ xs = ys) = decide (xs = ys)
        simp
      rw [HE.out]
      go_enter Try.func12, Try.ntmps12
      go_wp2_with fail
      refine HC.mono ?_
      rintro e w2 ⟨rfl, nd, rfl⟩
      go_wp2
      go_ret
      exact ⟨rfl, below_drewN b1 nd⟩
    · have d2 : (m == m') = false := by simp [e2]
      rw [decide_eq_false (fun h => e2 h.2.1)]
      clear e2 HC
      go_enter Try.func12, Try.ntmps12
      go_wp2
      go_ret
      exact ⟨rfl, b1⟩
  · have d1 : (s == s') = false := by simp [e1]
    rw [decide_eq_false (fun h => e1 h.1)]
    clear e1 HC
    go_enter Try.func12, Try.ntmps12
    go_wp2
    go_ret
    exact ⟨rfl, b1⟩

end Go.Proofs.Ytejpnjegahbaoaa
