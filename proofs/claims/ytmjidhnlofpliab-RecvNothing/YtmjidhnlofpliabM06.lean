/-
  What volutekeep.Bytes answers, for every two lists in memory: whether they are the same; the world is as it was but for draws.
-/
import Derived.Test.YtmjidhnlofpliabM01
import Derived.BigQuiet
import Derived.Deep.QuietTactic
import Derived.WalkLawsBesides
import Derived.WalkSpells
namespace Go.Proofs.Ytmjidhnlofpliab
open Go.RowKit

theorem take_eq_succbytes {xs ys : List Int} {k : Nat} {x y : Int} (hx : xs[k]? = some x) (hy : ys[k]? = some y) (h : xs.take k = ys.take k) (e : x = y) : xs.take (k + 1) = ys.take (k + 1) := by
  rw [List.take_add_one, List.take_add_one, hx, hy, h, e]

set_option maxHeartbeats 1000000 in
theorem bytes_differ (a b : Option Addr) (m n cap cap' : Nat) (w : World) (hne : m ≠ n) :
    Calls Try.prog 38 #[.slice a m cap, .slice b n cap'] w fun e w' => e = .returned (.bool false) ∧ w = w' := by
  have hb : ((m : Int) != (n : Int)) = true := by rw [bne_iff_ne]; omega
  go_enter Try.func38, Try.ntmps38
  go_wp2
  go_ret
  exact ⟨rfl, rfl⟩

set_option maxHeartbeats 1000000 in
theorem bytes_none (a b : Option Addr) (cap cap' : Nat) (w : World) :
    Calls Try.prog 38 #[.slice a 0 cap, .slice b 0 cap'] w fun e w' => e = .returned (.bool true) ∧ w = w' := by
  go_enter Try.func38, Try.ntmps38
  go_wp2
  go_loop [5] (fun i => i = .int .i64 0) (fun _ => 0)
  case atStart => rfl
  case round =>
    obtain rfl := hrel
    go_wp2
    go_ret
    exact ⟨rfl, rfl⟩

set_option maxRecDepth 100000 in
set_option maxHeartbeats 2000000 in
theorem bytes_some (b off cap b' off' cap' len : Nat) (xs ys : List Int) (hx : xs.length = len) (hy : ys.length = len) (hl : len ≤ 4611686018427387904) (w : World)
    (hcx : ∀ j, j < len → w.cell? ⟨b, off + j, none⟩ = some (.int .u8 (xs[j]?.getD 0))) (hcy : ∀ j, j < len → w.cell? ⟨b', off' + j, none⟩ = some (.int .u8 (ys[j]?.getD 0))) :
    Calls Try.prog 38 #[.slice (some ⟨b, off, none⟩) len cap, .slice (some ⟨b', off', none⟩) len cap'] w fun e w' => e = .returned (.bool (decide (xs = ys))) ∧ ∃ n, w' = w.drewN n := by
  have hb : ((len : Int) != (len : Int)) = false := by simp
  go_enter Try.func38, Try.ntmps38
  go_wp2
  go_loopw [5] (fun i wr => ∃ k nd : Nat, k ≤ len ∧ i = .int .i64 k ∧ xs.take k = ys.take k ∧ wr = w.drewN nd) (fun i _ => len - (intOf i).toNat)
  case atStart => exact ⟨0, 0, Nat.zero_le _, rfl, rfl, rfl⟩
  case round =>
    obtain ⟨k, nd, hk, rfl, heq, rfl⟩ := hrel
    by_cases hlt : k < len
    · obtain ⟨x, hxk⟩ : ∃ x, xs[k]? = some x := ⟨xs[k], by simp⟩
      obtain ⟨y, hyk⟩ : ∃ y, ys[k]? = some y := ⟨ys[k], by simp⟩
      have c1 : ∀ q, (w.drewN q).cell? ⟨b, off + k, none⟩ = some (.int .u8 x) := fun q => (hcx k hlt).trans (by rw [hxk]; rfl)
      have c2 : ∀ q, (w.drewN q).cell? ⟨b', off' + k, none⟩ = some (.int .u8 y) := fun q => (hcy k hlt).trans (by rw [hyk]; rfl)
      have HX : Hid (xs[k]? = some x) := hxk
      have HY : Hid (ys[k]? = some y) := hyk
      have HE : Hid (xs.take k = ys.take k) := heq
      clear hxk hyk hcx hcy heq
      by_cases hxy : x = y
      · have hq : (x != y) = false := by simp [hxy]
        have HQ : Hid (x = y) := hxy
        clear hxy
        go_wp2
        go_quiet (fail)
        go_wp2
        go_roundw
        case rel => exact ⟨k + 1, nd + nq, by omega, by go_num, take_eq_succbytes HX.out HY.out HE.out HQ.out, by simp⟩
        case measure => simp [intOf]; omega
      · have hq : (x != y) = true := by simp [hxy]
        have HQ : Hid (xs ≠ ys) := fun e => hxy (by have := HX.out; rw [e, HY.out] at this; cases this; rfl)
        clear hxy
        go_wp2
        go_quiet (fail)
        go_wp2
        go_ret
        exact ⟨by rw [decide_eq_false HQ.out]; rfl, nd + nq, by simp⟩
    · obtain rfl : k = len := by omega
      have HE : Hid (xs = ys) := by rw [List.take_of_length_le (by omega), List.take_of_length_le (by omega)] at heq; exact heq
      clear heq
      go_wp2
      go_ret
      exact ⟨by rw [decide_eq_true HE.out]; rfl, nd, rfl⟩

/-- volutekeep.Bytes. -/
theorem bytes_any (va vb : Value) (xs ys : List Int) (n₀ n₁ : Nat) (w : World) (hy : ys.length ≤ 4611686018427387904) (ha : Holds .u8 n₀ w va xs) (hb : Holds .u8 n₁ w vb ys) :
    Calls Try.prog 38 #[va, vb] w fun e w' => e = .returned (.bool (decide (xs = ys))) ∧ ∃ n, w' = w.drewN n := by
  obtain ⟨a, cap, rfl⟩ := ha.shape
  obtain ⟨b, cap', rfl⟩ := hb.shape
  by_cases hne : xs.length = ys.length
  · rcases ha with ⟨_, e2⟩ | ⟨b1, off, c1, e1, _, h1⟩
    · have z1 : xs.length = 0 := by rw [e2]; rfl
      have z2 : ys.length = 0 := by omega
      rw [z1, z2]
      refine (bytes_none a b cap cap' w).mono ?_
      rintro e w' ⟨rfl, rfl⟩
      exact ⟨by rw [decide_eq_true (by rw [e2, List.length_eq_zero_iff.1 z2])], 0, rfl⟩
    · rcases hb with ⟨_, e4⟩ | ⟨b2, off', c2, e3, _, h2⟩
      · have z2 : ys.length = 0 := by rw [e4]; rfl
        have z1 : xs.length = 0 := by omega
        rw [z1, z2]
        refine (bytes_none a b cap cap' w).mono ?_
        rintro e w' ⟨rfl, rfl⟩
        exact ⟨by rw [decide_eq_true (by rw [e4, List.length_eq_zero_iff.1 z1])], 0, rfl⟩
      · cases e1
        cases e3
        rw [hne]
        exact bytes_some b1 off cap b2 off' cap' ys.length xs ys hne rfl hy w (fun j hj => h1 j (by omega)) h2
  · refine (bytes_differ a b xs.length ys.length cap cap' w hne).mono ?_
    rintro e w' ⟨rfl, rfl⟩
    exact ⟨by rw [decide_eq_false (fun e => hne (by rw [e]))], 0, rfl⟩

end Go.Proofs.Ytmjidhnlofpliab
