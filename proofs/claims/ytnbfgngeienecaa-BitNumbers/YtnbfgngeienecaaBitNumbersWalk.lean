/-
  BitNumbers: the walk: whatever the text and the numbers, the law answers true, and nothing that lay has turned.
-/
import Derived.Test.YtnbfgngeienecaaWakes
import Derived.Test.YtnbfgngeienecaaGetNum
import Derived.Test.YtnbfgngeienecaaKeepBytes
import Derived.Test.YtnbfgngeienecaaSteps
namespace Go.Proofs.Ytnbfgngeienecaa
open Go.RowKit

/-- What both Puts do: one list, one word. -/
theorem put_both (zs : List Int) (n size : Int) :
    ∃ (out : List Int) (er : Int), out.length ≤ 4294967296 ∧ (∀ a cap w n₀, n₀ ≤ w.heap.size → Holds .u8 n₀ w (.slice a zs.length cap) zs →
        Calls Try.prog 24 #[.slice a zs.length cap, .int .i64 n, .int .i64 size] w fun e W' => ∃ r, e = .returned (.tuple #[r, .int .i64 er]) ∧ W'.ownsRow w.heap.size 5 1 r out.length (out.map (Value.int .u8)) ∧ Below w.heap.size w W') ∧
      (∀ a cap w n₀, n₀ ≤ w.heap.size → Holds .u8 n₀ w (.slice a zs.length cap) zs →
        Calls Try.prog 25 #[.slice a zs.length cap, .int .i64 n, .int .i64 size] w fun e W' => ∃ r, e = .returned (.tuple #[r, .int .i64 er]) ∧ W'.ownsRow w.heap.size 5 1 r out.length (out.map (Value.int .u8)) ∧ Below w.heap.size w W') := by
  by_cases hb : badPut n size
  · refine ⟨[], 1, by decide, fun a cap w n₀ _ _ => ?_, fun a cap w n₀ _ _ => ?_⟩
    · refine (put_arg a _ cap n size w hb).mono ?_
      rintro e W' ⟨rfl, rfl⟩
      exact ⟨_, rfl, World.ownsRow_nil _ _ _ _, Below.refl _ _⟩
    · refine (refPut_arg a _ cap n size w hb).mono ?_
      rintro e W' ⟨rfl, rfl⟩
      exact ⟨_, rfl, World.ownsRow_nil _ _ _ _, Below.refl _ _⟩
  · unfold badPut at hb
    have h1 : 1 ≤ size := by omega
    have h2 : size ≤ 4 := by omega
    have h3 : 0 ≤ n := by omega
    have h4 : n / 2 ^ (8 * size).toNat = 0 := by omega
    obtain ⟨s, rfl⟩ := Int.eq_ofNat_of_zero_le (show 0 ≤ size by omega)
    have h4' : n / 2 ^ (8 * s) = 0 := by
      have e : (8 * (s : Int)).toNat = 8 * s := by omega
      rw [e] at h4; exact h4
    by_cases hl : 4096 - (s : Int) < zs.length
    · refine ⟨[], 2, by decide, fun a cap w n₀ _ _ => ?_, fun a cap w n₀ _ _ => ?_⟩
      · refine (put_len a _ cap n s w h1 h2 h3 h4 hl).mono ?_
        rintro e W' ⟨rfl, rfl⟩
        exact ⟨_, rfl, World.ownsRow_nil _ _ _ _, Below.refl _ _⟩
      · refine (refPut_len a _ cap n s w (by omega) (by omega) h3 h4' hl).mono ?_
        rintro e W' ⟨rfl, rfl⟩
        exact ⟨_, rfl, World.ownsRow_nil _ _ _ _, Below.refl _ _⟩
    · have el : (zs ++ beBytes s n).length = zs.length + s := by rw [List.length_append, beBytes_len]
      refine ⟨zs ++ beBytes s n, 0, by rw [el]; omega, fun a cap w n₀ hn hH => ?_, fun a cap w n₀ hn hH => ?_⟩
      · rw [el]
        exact put_ok a cap zs n s w n₀ (by omega) (by omega) h3 h4' (by omega) hn hH
      · rw [el]
        exact refPut_ok a cap zs n s w n₀ (by omega) (by omega) h3 h4' (by omega) hH

/-- What both Gets do: one number, one word. -/
theorem get_both (zs : List Int) (p size : Int) (hl : zs.length ≤ 4294967296) (hz : ∀ z ∈ zs, 0 ≤ z ∧ z ≤ 255) :
    ∃ (val er : Int), (∀ a cap w n₀, zs.length ≤ cap → Holds .u8 n₀ w (.slice a zs.length cap) zs →
        Calls Try.prog 26 #[.slice a zs.length cap, .int .i64 p, .int .i64 size] w fun e w' => e = .returned (.tuple #[.int .i64 val, .int .i64 er]) ∧ w = w') ∧
      (∀ a cap w n₀, Holds .u8 n₀ w (.slice a zs.length cap) zs →
        Calls Try.prog 27 #[.slice a zs.length cap, .int .i64 p, .int .i64 size] w fun e w' => e = .returned (.tuple #[.int .i64 val, .int .i64 er]) ∧ w = w') := by
  by_cases hb : badGet zs.length p size
  · exact ⟨0, 1, fun a cap w n₀ _ _ => get_arg a _ cap p size w hb, fun a cap w n₀ _ => refGet_arg a _ cap p size w hb⟩
  · unfold badGet at hb
    by_cases hf : (zs.length : Int) - p < size
    · exact ⟨0, 3, fun a cap w n₀ _ _ => get_few a _ cap p size w (by omega) (by omega) (by omega) (by omega) hf, fun a cap w n₀ _ => refGet_few a _ cap p size w (by omega) (by omega) (by omega) (by omega) hf⟩
    · obtain ⟨t, rfl⟩ := Int.eq_ofNat_of_zero_le (show 0 ≤ p by omega)
      obtain ⟨s, rfl⟩ := Int.eq_ofNat_of_zero_le (show 0 ≤ size by omega)
      refine ⟨beNum ((zs.drop t).take s), 0, fun a cap w n₀ hcap hH => ?_, fun a cap w n₀ hH => ?_⟩
      · rcases hH with ⟨_, e⟩ | ⟨b, off, cap', e, _, hc⟩
        · exact absurd (show zs.length = 0 by rw [e]; rfl) (by omega)
        · cases e
          exact get_ok b off cap zs t s w (by omega) (by omega) (by omega) hcap hl hz hc
      · rcases hH with ⟨_, e⟩ | ⟨b, off, cap', e, _, hc⟩
        · exact absurd (show zs.length = 0 by rw [e]; rfl) (by omega)
        · cases e
          exact refGet_ok b off cap zs t s w (by omega) (by omega) (by omega) hl hz hc

set_option maxRecDepth 100000 in
set_option maxHeartbeats 2000000 in
theorem bitNumbers_long (a0 : Option Addr) (len0 cap0 : Nat) (n p size : Int) (w : World) (h : 300 < len0) :
    Calls Try.prog 4 #[.slice a0 len0 cap0, .int .i64 n, .int .i64 p, .int .i64 size] w fun e w' => e = .returned (.bool true) ∧ Below w.heap.size w w' := by
  go_enter Try.func4, Try.ntmps4
  go_wp2
  go_ret
  exact ⟨rfl, Below.refl _ _⟩

set_option maxRecDepth 100000 in
set_option maxHeartbeats 4000000 in
theorem bitNumbers_short (a0 : Option Addr) (cap0 : Nat) (xs : List Int) (n p size : Int) (hn : n ≤ 9223372036854775807) (hx : xs.length ≤ 300) (bx : ∀ z ∈ xs, 0 ≤ z ∧ z ≤ 255) (w : World)
    (ha : Holds .u8 w.heap.size w (.slice a0 xs.length cap0) xs) :
    Calls Try.prog 4 #[.slice a0 xs.length cap0, .int .i64 n, .int .i64 p, .int .i64 size] w fun e w' => e = .returned (.bool true) ∧ Below w.heap.size w w' := by
  obtain ⟨out, er, hout, P1, P2⟩ := put_both xs n size
  obtain ⟨val, er2, G1, G2⟩ := get_both xs p size (by omega) bx
  have HP1 : Hid _ := P1
  have HP2 : Hid _ := P2
  have HG1 : Hid _ := G1
  have HG2 : Hid _ := G2
  clear P1 P2 G1 G2
  have d0 : decide (300 < (xs.length : Int)) = false := by simp; omega
  have q1 : (er != er) = false := by simp
  have q2 : (val == val) = true := by simp
  have q3 : (er2 == er2) = true := by simp
  go_enter Try.func4, Try.ntmps4
  go_wp2_with fail
  refine (twin_any _ xs _ (by omega) _ ha).mono ?_
  rintro e W1 ⟨r1, rfl, o1, b1⟩
  have hin1 := holds_of_row o1
  have ha1 := ha.next b1
  obtain ⟨c1, d1, rfl⟩ := hin1.shape
  have hcap := row_cap o1
  clear o1 ha
  go_wp2_with fail
  refine (HP1.out _ _ _ _ (Nat.le_refl _) hin1).mono ?_
  rintro e W2 ⟨r2, rfl, o2, b2⟩
  go_wp2_with fail
  refine (HP2.out _ _ _ _ (Nat.le_refl _) (ha1.next b2)).mono ?_
  rintro e W3 ⟨r3, rfl, o3, b3⟩
  have o2' := row_below o2 b3 (Nat.le_refl _)
  have h2 := holds_of_row o2'
  have h3 := holds_of_row o3
  have b13 : Below W1.heap.size W1 W3 := b2.trans (b3.mono b2.size)
  clear o2 o3 b2 b3
  go_wp2_with fail
  refine (bytes_any _ _ out out _ _ _ (by omega) h2 h3).mono ?_
  rw [decide_eq_true rfl]
  rintro e W4 ⟨rfl, q4, rfl⟩
  clear h2 h3
  go_wp2_with fail
  refine (spoilBytes_any r2 out.length _ out hout _ (row_drewN o2' q4)).mono ?_
  rintro e W5 ⟨rfl, b5, _⟩
  have b15 : Below W1.heap.size W1 W5 := (below_drewN b13 q4).trans b5
  have hin5 := hin1.next b15
  have ha5 := ha1.next b15
  have bb5 : Below w.heap.size w W5 := b1.trans (b15.mono b1.size)
  clear o2' b13 b5 hin1 ha1 b1 b15
  go_wp2_with fail
  refine (HG1.out _ _ _ _ hcap hin5).mono ?_
  rintro e w' ⟨rfl, rfl⟩
  go_wp2_with fail
  refine (HG2.out _ _ _ _ ha5).mono ?_
  rintro e w' ⟨rfl, rfl⟩
  go_wp2_with fail
  refine (ones_any _ _).mono ?_
  rintro e w' ⟨rfl, q6, rfl⟩
  go_wp2_with fail
  refine (refOnes_any _ _ hn).mono ?_
  rintro e w' ⟨rfl, rfl⟩
  go_wp2_with fail
  refine (bytes_any _ _ xs xs _ _ _ (by omega) (hin5.below (below_drewN (Below.refl _ _) q6)) (ha5.below (below_drewN (Below.refl _ _) q6))).mono ?_
  rw [decide_eq_true rfl]
  rintro e w' ⟨rfl, q7, rfl⟩
  go_wp2_with fail
  refine (wakes_any _).mono ?_
  rintro e W8 ⟨rfl, b8⟩
  go_wp2
  go_ret
  exact ⟨rfl, (below_drewN bb5 _).trans (b8.mono bb5.size)⟩

/-- The law, of whatever text and numbers. -/
theorem bitNumbers_walk (a0 : Option Addr) (len0 cap0 : Nat) (z0 : List Int) (a1 a2 a3 : Int) (w : World) (w0 : IsRow .u8 w a0 len0 cap0 z0) (w1 : (Lit.int .i64 a1).wf = true) :
    Calls Try.prog 4 #[.slice a0 len0 cap0, .int .i64 a1, .int .i64 a2, .int .i64 a3] w fun e w' => e = .returned (.bool true) ∧ Below w.heap.size w w' := by
  obtain ⟨xs, rfl, hx, bx⟩ := holds_of_isRow w0
  by_cases h : 300 < xs.length
  · exact bitNumbers_long a0 _ cap0 a1 a2 a3 w h
  · exact bitNumbers_short a0 cap0 xs a1 a2 a3 (bounds_i64 w1).2 (by omega) (bytes_bd bx) w hx

end Go.Proofs.Ytnbfgngeienecaa
