/-
  BitExact: the walk: whatever the text and the row of numbers, the law answers true, and nothing that lay has turned.
-/
import Derived.Test.YtnbfgngeienecaaWakes
import Derived.Test.YtnbfgngeienecaaApartBits
import Derived.Test.YtnbfgngeienecaaTogetherBits
import Derived.Test.YtnbfgngeienecaaRefApart
import Derived.Test.YtnbfgngeienecaaRefPack
import Derived.Test.YtnbfgngeienecaaSpoils
import Derived.Test.YtnbfgngeienecaaKeepBytes
namespace Go.Proofs.Ytnbfgngeienecaa
open Go.RowKit

theorem pack_both (ls : List Int) (hl : ls.length ≤ 32768) :
    ∃ (out : List Int) (er : Int), out.length ≤ 32768 ∧ (∀ a cap w, ls.length ≤ cap → Holds .i64 w.heap.size w (.slice a ls.length cap) ls →
        Calls Try.prog 17 #[.slice a ls.length cap] w fun e W' => ∃ r, e = .returned (.tuple #[r, .int .i64 er]) ∧ W'.ownsRow w.heap.size 5 1 r out.length (out.map (Value.int .u8)) ∧ Below w.heap.size w W') ∧
      (∀ a cap w, Holds .i64 w.heap.size w (.slice a ls.length cap) ls →
        Calls Try.prog 18 #[.slice a ls.length cap] w fun e W' => ∃ r, e = .returned (.tuple #[r, .int .i64 er]) ∧ Holds .u8 W'.heap.size W' r out ∧ Below w.heap.size w W') := by
  by_cases hm : ls.length % 8 = 0
  · by_cases hb : ∀ z ∈ ls, 0 ≤ z ∧ z < 2
    · have hkk : ls.length = 8 * (ls.length / 8) := by omega
      refine ⟨wholesOf 1 8 ls (ls.length / 8), 0, by rw [wholesOf_len]; omega, fun a cap w hcap hH => ?_, fun a cap w hH => ?_⟩
      · rw [wholesOf_len]
        exact pack_ok a cap ls _ hkk hl hcap hb w hH
      · exact refPack_ok a cap ls _ hkk hl hb w hH
    · refine ⟨[], 1, by decide, fun a cap w _ hH => ?_, fun a cap w hH => ?_⟩
      · refine (pack_arg a cap ls hl hm _ w hH hb).mono ?_
        rintro e W' ⟨rfl, rfl⟩
        exact ⟨_, rfl, World.ownsRow_nil _ _ _ _, Below.refl _ _⟩
      · refine (refPack_arg a cap ls hl hm _ w hH hb).mono ?_
        rintro e W' ⟨rfl, rfl⟩
        exact ⟨_, rfl, .inl ⟨⟨_, _, rfl, fun _ => rfl⟩, rfl⟩, Below.refl _ _⟩
  · refine ⟨[], 2, by decide, fun a cap w _ hH => ?_, fun a cap w hH => ?_⟩
    · refine (pack_len a _ cap (.inr hm) w).mono ?_
      rintro e W' ⟨rfl, rfl⟩
      exact ⟨_, rfl, World.ownsRow_nil _ _ _ _, Below.refl _ _⟩
    · refine (refPack_len a _ cap (.inr hm) w).mono ?_
      rintro e W' ⟨rfl, rfl⟩
      exact ⟨_, rfl, .inl ⟨⟨_, _, rfl, fun _ => rfl⟩, rfl⟩, Below.refl _ _⟩

theorem join_both (ls : List Int) (hl : ls.length ≤ 32768) :
    ∃ (out : List Int) (er : Int), out.length ≤ 32768 ∧ (∀ a cap w, ls.length ≤ cap → Holds .i64 w.heap.size w (.slice a ls.length cap) ls →
        Calls Try.prog 21 #[.slice a ls.length cap] w fun e W' => ∃ r, e = .returned (.tuple #[r, .int .i64 er]) ∧ W'.ownsRow w.heap.size 5 1 r out.length (out.map (Value.int .u8)) ∧ Below w.heap.size w W') ∧
      (∀ a cap w, Holds .i64 w.heap.size w (.slice a ls.length cap) ls →
        Calls Try.prog 22 #[.slice a ls.length cap] w fun e W' => ∃ r, e = .returned (.tuple #[r, .int .i64 er]) ∧ Holds .u8 W'.heap.size W' r out ∧ Below w.heap.size w W') := by
  by_cases hm : ls.length % 2 = 0
  · by_cases hb : ∀ z ∈ ls, 0 ≤ z ∧ z < 16
    · have hkk : ls.length = 2 * (ls.length / 2) := by omega
      refine ⟨wholesOf 4 2 ls (ls.length / 2), 0, by rw [wholesOf_len]; omega, fun a cap w hcap hH => ?_, fun a cap w hH => ?_⟩
      · rw [wholesOf_len]
        exact join_ok a cap ls _ hkk hl hcap hb w hH
      · refine (refJoin_ok a cap ls _ hkk hl hb w hH).mono ?_
        rintro e W' ⟨r, rfl, ho, hbw⟩
        exact ⟨r, rfl, holds_of_row ho, hbw⟩
    · refine ⟨[], 1, by decide, fun a cap w _ hH => ?_, fun a cap w hH => ?_⟩
      · refine (join_arg a cap ls hl hm _ w hH hb).mono ?_
        rintro e W' ⟨rfl, rfl⟩
        exact ⟨_, rfl, World.ownsRow_nil _ _ _ _, Below.refl _ _⟩
      · refine (refJoin_arg a cap ls hl hm _ w hH hb).mono ?_
        rintro e W' ⟨rfl, rfl⟩
        exact ⟨_, rfl, .inl ⟨⟨_, _, rfl, fun _ => rfl⟩, rfl⟩, Below.refl _ _⟩
  · refine ⟨[], 2, by decide, fun a cap w _ hH => ?_, fun a cap w hH => ?_⟩
    · refine (join_len a _ cap (.inr hm) w).mono ?_
      rintro e W' ⟨rfl, rfl⟩
      exact ⟨_, rfl, World.ownsRow_nil _ _ _ _, Below.refl _ _⟩
    · refine (refJoin_len a _ cap (.inr hm) w).mono ?_
      rintro e W' ⟨rfl, rfl⟩
      exact ⟨_, rfl, .inl ⟨⟨_, _, rfl, fun _ => rfl⟩, rfl⟩, Below.refl _ _⟩

/-- A row of one's own stays while another block is written over. -/
theorem row_other {w W' : World} {base' e' n' : Nat} {v v' : Value} {xs' : List Value} (h' : w.ownsRow base' e' 1 v' n' xs') (hlt : ∀ q, v.ownBlock = some q → q < base') (hoth : ∀ q, some q ≠ v.ownBlock → W'.heap[q]? = w.heap[q]?) : W'.ownsRow base' e' 1 v' n' xs' := by
  refine ⟨h'.1, ?_⟩
  rcases h'.2 with h0 | ⟨g, cap, cur, hv, hbs, hg, hk, hm, hs, ht⟩
  · exact .inl h0
  · refine .inr ⟨g, cap, cur, hv, hbs, (hoth g (fun e => ?_)).trans hg, hk, hm, hs, ht⟩
    have := hlt g e.symm
    omega

set_option maxRecDepth 100000 in
set_option maxHeartbeats 2000000 in
theorem bitExact_long (a0 a1 : Option Addr) (len0 len1 cap0 cap1 : Nat) (w : World) (h : 300 < len0 ∨ 3000 < len1) :
    Calls Try.prog 3 #[.slice a0 len0 cap0, .slice a1 len1 cap1] w fun e w' => e = .returned (.bool true) ∧ Below w.heap.size w w' := by
  by_cases h0 : 300 < len0
  · go_enter Try.func3, Try.ntmps3
    go_wp2
    go_ret
    exact ⟨rfl, Below.refl _ _⟩
  · have h1 : 3000 < len1 := by omega
    clear h
    go_enter Try.func3, Try.ntmps3
    go_wp2
    go_ret
    exact ⟨rfl, Below.refl _ _⟩

set_option maxRecDepth 100000 in
set_option maxHeartbeats 4000000 in
theorem bitExact_short (a0 a1 : Option Addr) (cap0 cap1 : Nat) (xs ls : List Int) (hx : xs.length ≤ 300) (hl : ls.length ≤ 3000) (bx : ∀ z ∈ xs, 0 ≤ z ∧ z ≤ 255) (w : World)
    (ha : Holds .u8 w.heap.size w (.slice a0 xs.length cap0) xs) (hb : Holds .i64 w.heap.size w (.slice a1 ls.length cap1) ls) :
    Calls Try.prog 3 #[.slice a0 xs.length cap0, .slice a1 ls.length cap1] w fun e w' => e = .returned (.bool true) ∧ Below w.heap.size w w' := by
  have d0 : decide (300 < (xs.length : Int)) = false := by simp; omega
  have d1 : decide (3000 < (ls.length : Int)) = false := by simp; omega
  obtain ⟨X, hX⟩ : ∃ l, xs.flatMap bitsOf = l := ⟨_, rfl⟩
  obtain ⟨N, hN⟩ : ∃ l, xs.flatMap nibsOf = l := ⟨_, rfl⟩
  have lX : X.length = 8 * xs.length := by rw [← hX]; have := flat_len bitsOf 8 (fun _ => rfl) xs xs.length (Nat.le_refl _); rwa [List.take_length] at this
  have lN : N.length = 2 * xs.length := by rw [← hN]; have := flat_len nibsOf 2 (fun _ => rfl) xs xs.length (Nat.le_refl _); rwa [List.take_length] at this
  obtain ⟨op, ep, hop, P1, P2⟩ := pack_both ls (by omega)
  obtain ⟨oj, ej, hoj, J1, J2⟩ := join_both ls (by omega)
  have HX : Hid (xs.flatMap bitsOf = X) := hX
  have HN : Hid (xs.flatMap nibsOf = N) := hN
  have HLX : Hid (X.length = 8 * xs.length) := lX
  have HLN : Hid (N.length = 2 * xs.length) := lN
  have HP1 : Hid _ := P1
  have HP2 : Hid _ := P2
  have HJ1 : Hid _ := J1
  have HJ2 : Hid _ := J2
  have lX' : X.length ≤ 4294967296 := by omega
  have lN' : N.length ≤ 4294967296 := by omega
  have q1 : (ep != ep) = false := by simp
  have q2 : (ej == ej) = true := by simp
  clear hX hN lX lN P1 P2 J1 J2
  go_enter Try.func3, Try.ntmps3
  go_wp2_with fail
  refine (twin_any _ xs _ (by omega) _ ha).mono ?_
  rintro e W1 ⟨r1, rfl, o1, b1⟩
  have i1 := holds_of_row o1
  clear o1
  go_wp2_with fail
  refine (twinInts_any _ ls _ (by omega) _ (hb.next b1)).mono ?_
  rintro e W2 ⟨r2, rfl, o2, b2⟩
  have l2 := holds_of_row o2
  obtain ⟨c2, k2, rfl⟩ := l2.shape
  have capL := row_cap o2
  have i2 := i1.next b2
  have ha2 := (ha.next b1).next b2
  have hb2 := (hb.next b1).next b2
  have bb2 : Below w.heap.size w W2 := b1.trans (b2.mono b1.size)
  clear o2 i1 b1 b2 ha hb
  go_wp2_with fail
  refine (bits_any _ xs (by omega) bx _ i2).mono ?_
  rw [HX.out]
  rintro e W3 ⟨r3, rfl, o3, b3⟩
  rw [← HLX.out] at o3
  go_wp2_with fail
  refine (nibs_any _ xs (by omega) bx _ (i2.next b3)).mono ?_
  rw [HN.out]
  rintro e W4 ⟨r4, rfl, o4, b4⟩
  rw [← HLN.out] at o4
  have o3b := row_below o3 b4 (Nat.le_refl _)
  have hlt3 : ∀ q, r3.ownBlock = some q → q < W3.heap.size := fun q e => (o3.lt q e).2
  have b24 : Below W2.heap.size W2 W4 := b3.trans (b4.mono b3.size)
  have hs23 : W2.heap.size ≤ W3.heap.size := b3.size
  have hs34 : W3.heap.size ≤ W4.heap.size := b4.size
  clear o3 b3 b4
  go_wp2_with fail
  refine (refBits_any _ _ xs (by omega) bx _ (ha2.next b24)).mono ?_
  rw [HX.out]
  rintro e W5 ⟨r5, rfl, o5, b5⟩
  have h5 := holds_of_row o5
  have o3c := row_below o3b b5 (Nat.le_refl _)
  have o4c := row_below o4 b5 (Nat.le_refl _)
  have b25 : Below W2.heap.size W2 W5 := b24.trans (b5.mono b24.size)
  have hs35 : W3.heap.size ≤ W5.heap.size := Nat.le_trans hs34 b5.size
  clear o5 o3b o4 b24 b5 hs34
  go_wp2_with fail
  refine (ints_any _ _ X X _ _ _ (by omega) (holds_of_row o3c) h5).mono ?_
  rw [decide_eq_true rfl]
  rintro e w' ⟨rfl, q5, rfl⟩
  clear h5
  have b25' : Below W2.heap.size W2 (W5.drewN q5) := below_drewN b25 q5
  go_wp2_with fail
  refine (refNibs_any _ _ xs (by omega) bx _ (by exact ha2.next b25')).mono ?_
  rw [HN.out]
  rintro e W6 ⟨r6, rfl, o6, b6⟩
  have h6 := holds_of_row o6
  have o3d := row_below (row_drewN o3c q5) b6 (Nat.le_refl _)
  have o4d := row_below (row_drewN o4c q5) b6 (Nat.le_refl _)
  have b26 : Below W2.heap.size W2 W6 := b25'.trans (b6.mono b25'.size)
  have hs36 : W3.heap.size ≤ W6.heap.size := Nat.le_trans hs35 b6.size
  clear o6 o3c o4c b25 b25' b6 hs35
  go_wp2_with fail
  refine (ints_any _ _ N N _ _ _ (by omega) (holds_of_row o4d) h6).mono ?_
  rw [decide_eq_true rfl]
  rintro e w' ⟨rfl, q6, rfl⟩
  clear h6
  go_wp2_with fail
  refine (spoilInts_own r3 X.length _ X lX' _ (row_drewN o3d q6)).mono ?_
  rintro e W7 ⟨rfl, b7, hs7, hoth7⟩
  have o4e := row_other (row_drewN o4d q6) hlt3 hoth7
  have b27 : Below W2.heap.size W2 W7 := (below_drewN b26 q6).trans b7
  clear o3d o4d b26 b7 hoth7
  go_wp2_with fail
  refine (spoilInts_any r4 N.length _ N lN' _ o4e).mono ?_
  rintro e W8 ⟨rfl, b8, _⟩
  have b28 : Below W2.heap.size W2 W8 := b27.trans (b8.mono hs23)
  have i8 := i2.next b28
  have l8 := l2.next b28
  have ha8 := ha2.next b28
  have hb8 := hb2.next b28
  have bb8 : Below w.heap.size w W8 := bb2.trans (b28.mono bb2.size)
  clear o4e b27 b8 b28 i2 l2 ha2 hb2 bb2 hlt3 hs23 hs36 hs7 HX HN HLX HLN
  go_wp2_with fail
  refine (HP1.out _ _ _ capL l8).mono ?_
  rintro e W9 ⟨r9, rfl, o9, b9⟩
  go_wp2_with fail
  refine (HP2.out _ _ _ (hb8.next b9)).mono ?_
  rintro e W10 ⟨r10, rfl, h10, b10⟩
  have o9b := row_below o9 b10 (Nat.le_refl _)
  have b810 : Below W8.heap.size W8 W10 := b9.trans (b10.mono b9.size)
  clear o9 b9 b10
  go_wp2_with fail
  refine (bytes_any _ _ op op _ _ _ (by omega) (holds_of_row o9b) h10).mono ?_
  rw [decide_eq_true rfl]
  rintro e w' ⟨rfl, q10, rfl⟩
  clear h10
  go_wp2_with fail
  refine (spoilBytes_any r9 op.length _ op (by omega) _ (row_drewN o9b q10)).mono ?_
  rintro e W11 ⟨rfl, b11, _⟩
  have b811 : Below W8.heap.size W8 W11 := (below_drewN b810 q10).trans b11
  have i11 := i8.next b811
  have l11 := l8.next b811
  have ha11 := ha8.next b811
  have hb11 := hb8.next b811
  have bb11 : Below w.heap.size w W11 := bb8.trans (b811.mono bb8.size)
  clear o9b b810 b11 b811 i8 l8 ha8 hb8 bb8 HP1 HP2
  go_wp2_with fail
  refine (HJ1.out _ _ _ capL l11).mono ?_
  rintro e W12 ⟨r12, rfl, o12, b12⟩
  go_wp2_with fail
  refine (HJ2.out _ _ _ (hb11.next b12)).mono ?_
  rintro e W13 ⟨r13, rfl, h13, b13⟩
  have o12b := row_below o12 b13 (Nat.le_refl _)
  have b1113 : Below W11.heap.size W11 W13 := b12.trans (b13.mono b12.size)
  have i13 := i11.next b1113
  have l13 := l11.next b1113
  have ha13 := ha11.next b1113
  have hb13 := hb11.next b1113
  have bb13 : Below w.heap.size w W13 := bb11.trans (b1113.mono bb11.size)
  clear o12 b12 b13 b1113 i11 l11 ha11 hb11 bb11 HJ1 HJ2
  go_wp2_with fail
  refine (bytes_any _ _ oj oj _ _ _ (by omega) (holds_of_row o12b) h13).mono ?_
  rw [decide_eq_true rfl]
  rintro e w' ⟨rfl, q13, rfl⟩
  clear o12b h13
  go_wp2_with fail
  refine (bytes_any _ _ xs xs _ _ _ (by omega) (by exact i13.below (below_drewN (Below.refl _ _) _)) (by exact ha13.below (below_drewN (Below.refl _ _) _))).mono ?_
  rw [decide_eq_true rfl]
  rintro e w' ⟨rfl, q14, rfl⟩
  go_wp2_with fail
  refine (ints_any _ _ ls ls _ _ _ (by omega) (by exact l13.below (below_drewN (Below.refl _ _) _)) (by exact hb13.below (below_drewN (Below.refl _ _) _))).mono ?_
  rw [decide_eq_true rfl]
  rintro e w' ⟨rfl, q15, rfl⟩
  go_wp2_with fail
  refine (wakes_any _).mono ?_
  rintro e W16 ⟨rfl, b16⟩
  go_wp2
  go_ret
  exact ⟨rfl, (below_drewN bb13 _).trans (b16.mono bb13.size)⟩

/-- The law, of whatever text and row of numbers. -/
theorem bitExact_walk (a0 : Option Addr) (len0 cap0 : Nat) (z0 : List Int) (a1 : Option Addr) (len1 cap1 : Nat) (z1 : List Int) (w : World) (w0 : IsRow .u8 w a0 len0 cap0 z0) (w1 : IsRow .i64 w a1 len1 cap1 z1) :
    Calls Try.prog 3 #[.slice a0 len0 cap0, .slice a1 len1 cap1] w fun e w' => e = .returned (.bool true) ∧ Below w.heap.size w w' := by
  obtain ⟨xs, rfl, hx, bx⟩ := holds_of_isRow w0
  obtain ⟨ls, rfl, hl, _⟩ := holds_of_isRow w1
  by_cases h : 300 < xs.length ∨ 3000 < ls.length
  · exact bitExact_long a0 a1 _ _ cap0 cap1 w h
  · exact bitExact_short a0 a1 cap0 cap1 xs ls (by omega) (by omega) (bytes_bd bx) w hx hl

end Go.Proofs.Ytnbfgngeienecaa
