/-
  BitTurns: the walk: whatever the two texts, the law answers true, and nothing that lay has turned.
-/
import Derived.Test.YtnbfgngeienecaaWakes
import Derived.Test.YtnbfgngeienecaaTurns
import Derived.Test.YtnbfgngeienecaaKeepBytes
namespace Go.Proofs.Ytnbfgngeienecaa
open Go.RowKit

theorem xor_u8 (x m : Int) (h0 : 0 ≤ x) (h1 : x ≤ 255) (h2 : 0 ≤ m) (h3 : m ≤ 255) :
    0 ≤ bits .xor .u8 x m ∧ bits .xor .u8 x m ≤ 255 ∧ bits .xor .u8 (bits .xor .u8 x m) m = x ∧ bits .xor .u8 x (bits .xor .u8 x m) = m := by
  obtain ⟨a, rfl⟩ := Int.eq_ofNat_of_zero_le h0
  obtain ⟨b, rfl⟩ := Int.eq_ofNat_of_zero_le h2
  have hlt : a ^^^ b < 2 ^ 8 := Nat.xor_lt_two_pow (by omega) (by omega)
  rw [u8_xor_nat a b (by omega) (by omega), u8_xor_nat (a ^^^ b) b (by omega) (by omega), u8_xor_nat a (a ^^^ b) (by omega) (by omega)]
  refine ⟨by omega, by omega, ?_, ?_⟩
  · rw [Nat.xor_assoc, Nat.xor_self, Nat.xor_zero]
  · rw [← Nat.xor_assoc, Nat.xor_self, Nat.zero_xor]

theorem xor_self_u8 (x : Int) (h0 : 0 ≤ x) (h1 : x ≤ 255) : bits .xor .u8 x x = 0 := by
  obtain ⟨a, rfl⟩ := Int.eq_ofNat_of_zero_le h0
  rw [u8_xor_nat a a (by omega) (by omega), Nat.xor_self]; rfl

theorem get_bd {xs : List Int} (h : ∀ z ∈ xs, 0 ≤ z ∧ z ≤ 255) (q : Nat) : 0 ≤ xs[q]?.getD 0 ∧ xs[q]?.getD 0 ≤ 255 := by
  cases hq : xs[q]? with
  | none => simp
  | some z => exact h z (List.mem_of_getElem? hq)

theorem xorAt_bd {xs ms : List Int} (hx : ∀ z ∈ xs, 0 ≤ z ∧ z ≤ 255) (hm : ∀ z ∈ ms, 0 ≤ z ∧ z ≤ 255) (q : Nat) : 0 ≤ xorAt xs ms q ∧ xorAt xs ms q ≤ 255 := by
  unfold xorAt
  have h := get_bd hx q
  cases hq : ms[q]? with
  | none => exact h
  | some m =>
    have hm' := hm m (List.mem_of_getElem? hq)
    have := xor_u8 _ m h.1 h.2 hm'.1 hm'.2
    exact ⟨this.1, this.2.1⟩

theorem xorL_bd {xs ms : List Int} (hx : ∀ z ∈ xs, 0 ≤ z ∧ z ≤ 255) (hm : ∀ z ∈ ms, 0 ≤ z ∧ z ≤ 255) : ∀ z ∈ xorL xs ms, 0 ≤ z ∧ z ≤ 255 := by
  intro z hz
  obtain ⟨q, _, rfl⟩ := List.mem_map.1 hz
  exact xorAt_bd hx hm q

/-- Turned twice it is what it was. -/
theorem xorL_twice {xs ms : List Int} (hx : ∀ z ∈ xs, 0 ≤ z ∧ z ≤ 255) (hm : ∀ z ∈ ms, 0 ≤ z ∧ z ≤ 255) : xorL (xorL xs ms) ms = xs := by
  apply List.ext_getElem?
  intro q
  by_cases hq : q < xs.length
  · have e1 : (xorL (xorL xs ms) ms)[q]? = some (xorAt (xorL xs ms) ms q) := by
      simp [xorL, hq]
    rw [e1]
    have e2 : xorAt (xorL xs ms) ms q = xs[q]?.getD 0 := by
      unfold xorAt
      rw [xorL_get xs ms q hq]
      have h := get_bd hx q
      cases hm' : ms[q]? with
      | none => simp [xorAt, hm']
      | some m =>
        have hb := hm m (List.mem_of_getElem? hm')
        simp only [xorAt, hm']
        exact (xor_u8 _ m h.1 h.2 hb.1 hb.2).2.2.1
    rw [e2]
    simp [hq]
  · rw [List.getElem?_eq_none_iff.2 (by rw [xorL_len, xorL_len]; omega), List.getElem?_eq_none_iff.2 (by omega)]

/-- What a byte, held against itself turned, has. -/
theorem xor_back {xs ms : List Int} (hx : ∀ z ∈ xs, 0 ≤ z ∧ z ≤ 255) (hm : ∀ z ∈ ms, 0 ≤ z ∧ z ≤ 255) (q : Nat) : bits .xor .u8 (xs[q]?.getD 0) (xorAt xs ms q) = ms[q]?.getD 0 := by
  have h := get_bd hx q
  unfold xorAt
  cases hm' : ms[q]? with
  | none => exact xor_self_u8 _ h.1 h.2
  | some m =>
    have hb := hm m (List.mem_of_getElem? hm')
    exact (xor_u8 _ m h.1 h.2 hb.1 hb.2).2.2.2

theorem wrap_small (s : Int) (h0 : 0 ≤ s) (h1 : s ≤ 1000000) : wrap64 s = s := by unfold wrap64; omega

theorem onesZ_le' (n : Int) : onesZ n ≤ 32 := by
  unfold onesZ
  split
  · omega
  · exact pcTo_le _ _

set_option maxRecDepth 100000 in
set_option maxHeartbeats 2000000 in
theorem bitTurns_long (a0 a1 : Option Addr) (len0 len1 cap0 cap1 : Nat) (w : World) (h : 300 < len0 ∨ 300 < len1) :
    Calls Try.prog 6 #[.slice a0 len0 cap0, .slice a1 len1 cap1] w fun e w' => e = .returned (.bool true) ∧ Below w.heap.size w w' := by
  by_cases h0 : 300 < len0
  · go_enter Try.func6, Try.ntmps6
    go_wp2
    go_ret
    exact ⟨rfl, Below.refl _ _⟩
  · have h1 : 300 < len1 := by omega
    clear h
    go_enter Try.func6, Try.ntmps6
    go_wp2
    go_ret
    exact ⟨rfl, Below.refl _ _⟩

set_option maxRecDepth 100000 in
set_option maxHeartbeats 4000000 in
theorem bitTurns_short (a0 a1 : Option Addr) (cap0 cap1 : Nat) (xs ms : List Int) (hx : xs.length ≤ 300) (hm : ms.length ≤ 300) (bx : ∀ z ∈ xs, 0 ≤ z ∧ z ≤ 255) (bm : ∀ z ∈ ms, 0 ≤ z ∧ z ≤ 255) (w : World)
    (ha : Holds .u8 w.heap.size w (.slice a0 xs.length cap0) xs) (hb : Holds .u8 w.heap.size w (.slice a1 ms.length cap1) ms) :
    Calls Try.prog 6 #[.slice a0 xs.length cap0, .slice a1 ms.length cap1] w fun e w' => e = .returned (.bool true) ∧ Below w.heap.size w w' := by
  have d0 : decide (300 < (xs.length : Int)) = false := by simp; omega
  have d1 : decide (300 < (ms.length : Int)) = false := by simp; omega
  obtain ⟨X, hX⟩ : ∃ l, xorL xs ms = l := ⟨_, rfl⟩
  have lX : X.length = xs.length := by rw [← hX, xorL_len]
  have hX2 : xorL X ms = xs := by rw [← hX]; exact xorL_twice bx bm
  have bX : ∀ z ∈ X, 0 ≤ z ∧ z ≤ 255 := by rw [← hX]; exact xorL_bd bx bm
  have hback : ∀ q, q < xs.length → bits .xor .u8 (xs[q]?.getD 0) (X[q]?.getD 0) = ms[q]?.getD 0 := fun q hq => by rw [← hX, xorL_get xs ms q hq]; exact xor_back bx bm q
  have HX : Hid (xorL xs ms = X) := hX
  have HX2 : Hid (xorL X ms = xs) := hX2
  have HL : Hid (X.length = xs.length) := lX
  have HB : Hid (∀ q, q < xs.length → bits .xor .u8 (xs[q]?.getD 0) (X[q]?.getD 0) = ms[q]?.getD 0) := hback
  have t1 : ((X.length : Int) != (xs.length : Int)) = false := by rw [bne_eq_false_iff_eq]; omega
  have lX' : X.length ≤ 300 := by omega
  clear hX lX hX2 hback
  go_enter Try.func6, Try.ntmps6
  go_wp2_with fail
  refine (twin_any _ xs _ (by omega) _ ha).mono ?_
  rintro e W1 ⟨r1, rfl, o1, b1⟩
  have i1 := holds_of_row o1
  clear o1
  go_wp2_with fail
  refine (twin_any _ ms _ (by omega) _ (hb.next b1)).mono ?_
  rintro e W2 ⟨r2, rfl, o2, b2⟩
  have m2 := holds_of_row o2
  have i2 := i1.next b2
  have ha2 := (ha.next b1).next b2
  have hb2 := (hb.next b1).next b2
  have bb2 : Below w.heap.size w W2 := b1.trans (b2.mono b1.size)
  clear o2 i1 b1 b2 ha hb
  obtain ⟨c1, k1, rfl⟩ := i2.shape
  obtain ⟨c2, k2, rfl⟩ := m2.shape
  go_wp2_with fail
  refine (turn_ok _ _ _ _ xs ms (by omega) (by omega) _ i2 m2).mono ?_
  rw [HX.out]
  rintro e W3 ⟨r3, rfl, x3, b3⟩
  have i3 := i2.next b3
  have m3 := m2.next b3
  have ha3 := ha2.next b3
  have hb3 := hb2.next b3
  have bb3 : Below w.heap.size w W3 := bb2.trans (b3.mono bb2.size)
  clear i2 m2 ha2 hb2 b3 bb2
  obtain ⟨c3, k3, rfl⟩ := x3.shape
  go_wp2_with fail
  refine (refTurn_ok _ _ _ _ xs ms (by omega) (by omega) _ ha3 hb3).mono ?_
  rw [HX.out]
  rintro e W4 ⟨r4, rfl, y4, b4⟩
  have i4 := i3.next b4
  have m4 := m3.next b4
  have ha4 := ha3.next b4
  have hb4 := hb3.next b4
  have x4 := x3.next b4
  have bb4 : Below w.heap.size w W4 := bb3.trans (b4.mono bb3.size)
  clear i3 m3 ha3 hb3 x3 b4 bb3
  go_wp2_with fail
  refine (bytes_any _ _ X X _ _ _ (by omega) x4 y4).mono ?_
  rw [decide_eq_true rfl]
  rintro e W5 ⟨rfl, q5, rfl⟩
  go_wp2_with fail
  refine (bytes_any _ _ xs xs _ _ _ (by omega) (i4.below (below_drewN (Below.refl _ _) _)) (ha4.below (below_drewN (Below.refl _ _) _))).mono ?_
  rw [decide_eq_true rfl]
  rintro e W6 ⟨rfl, q6, rfl⟩
  go_wp2_with fail
  refine (bytes_any _ _ ms ms _ _ _ (by omega) (m4.below (below_drewN (Below.refl _ _) _)) (hb4.below (below_drewN (Below.refl _ _) _))).mono ?_
  rw [decide_eq_true rfl]
  rintro e W7 ⟨rfl, q7, rfl⟩
  go_wp2_with fail
  refine (turn_ok _ _ _ _ X ms (by omega) (by omega) _ (by exact x4.below (below_drewN (Below.refl _ _) _)) (by exact m4.below (below_drewN (Below.refl _ _) _))).mono ?_
  rw [HX2.out]
  rintro e W8 ⟨r8, rfl, z8, b8⟩
  have b48 : Below W4.heap.size W4 W8 := (below_drewN (Below.refl _ W4) _).trans b8
  have ha8 := ha4.next b48
  have hb8 := hb4.next b48
  have x8 := x4.next b48
  have bb8 : Below w.heap.size w W8 := bb4.trans (b48.mono bb4.size)
  clear ha4 hb4 x4 i4 m4 y4 bb4 b8 b48
  go_wp2_with fail
  refine (bytes_any _ _ xs xs _ _ _ (by omega) z8 ha8).mono ?_
  rw [decide_eq_true rfl]
  rintro e W9 ⟨rfl, q9, rfl⟩
  clear z8 HX HX2
  go_wp2_with fail
  go_loopw [12, 13, 14] (fun n k i wr => ∃ (j nd : Nat) (s : Int), j ≤ xs.length ∧ i = .int .i64 j ∧ n = .int .i64 s ∧ k = .int .i64 s ∧ 0 ≤ s ∧ s ≤ 32 * j ∧ wr = W8.drewN nd) (fun _ _ i _ => xs.length - (intOf i).toNat)
  case atStart => exact ⟨0, q9, 0, Nat.zero_le _, rfl, rfl, rfl, by omega, by omega, rfl⟩
  case round =>
    obtain ⟨j, nd, s, hj, rfl, rfl, rfl, hs0, hs1, hwr⟩ := hrel
    have HW : Hid (wr = W8.drewN nd) := hwr
    by_cases hlt : j < xs.length
    · have hXj : j < X.length := by have := HL.out; omega
      rcases ha8 with ⟨_, e⟩ | ⟨ba, oa, ka, e, _, hca⟩
      · rw [e] at hlt; exact absurd hlt (by simp)
      · rcases x8 with ⟨_, e'⟩ | ⟨bz, oz, kz, e', _, hcx⟩
        · rw [e'] at hXj; exact absurd hXj (by simp)
        · cases e
          cases e'
          have hback := HB.out j hlt
          have hmb := get_bd bm j
          have hmn : ¬ j < ms.length → ms[j]?.getD 0 = 0 := fun h => by rw [List.getElem?_eq_none_iff.2 (by omega)]; rfl
          have hmc : j < ms.length → ∃ bk ok, a1 = some ⟨bk, ok, none⟩ ∧ ∀ q, (wr.drewN q).cell? ⟨bk, ok + j, none⟩ = some (.int .u8 (ms[j]?.getD 0)) := fun h => by
            rcases hb8 with ⟨_, e⟩ | ⟨bk, ok, kk, e, _, hcm⟩
            · rw [e] at h; exact absurd h (by simp)
            · cases e
              exact ⟨bk, ok, rfl, fun q => by rw [hwr]; exact hcm j h⟩
          have ca : ∀ q, (wr.drewN q).cell? ⟨ba, oa + j, none⟩ = some (.int .u8 (xs[j]?.getD 0)) := fun q => by rw [hwr]; exact hca j hlt
          have cx : ∀ q, (wr.drewN q).cell? ⟨bz, oz + j, none⟩ = some (.int .u8 (X[j]?.getD 0)) := fun q => by rw [hwr]; exact hcx j hXj
          have HE : Hid (∀ q, wr.drewN q = W8.drewN (nd + q)) := fun q => by rw [hwr]; simp
          generalize xs[j]?.getD 0 = xv at hback ca
          generalize X[j]?.getD 0 = yv at hback cx
          generalize ms[j]?.getD 0 = mv at hback hmb hmn hmc
          obtain ⟨hm0, hm255⟩ := hmb
          have hwz : IntKind.i64.wrap mv = mv := by rw [IntKind.wrap_i64]; omega
          have ho := onesZ_le' mv
          obtain ⟨o, hmo⟩ : ∃ o, onesZ mv = o := ⟨_, rfl⟩
          rw [hmo] at ho
          clear hca hcx hb8 HB bx bm bX hwr HW
          by_cases hjm : j < ms.length
          · obtain ⟨bk, ok, rfl, cm⟩ := hmc hjm
            have HO : Hid (onesZ mv = o) := hmo
            clear hmc hmn hmo
            go_wp2
            go_quiet ((go_at_call 28; exact Calls.quiet_of (ones_any _ _)))
            rw [HO.out]
            go_wp2_with (go_at_call 29; refine (refOnes_any _ _ (by omega)).mono ?_; rw [HO.out]; rintro e w' ⟨rfl, rfl⟩)
            go_roundw
            case rel => exact ⟨j + 1, nd + nq, s + o, by omega, by go_num, by rw [wrap_small _ (by omega) (by omega)], rfl, by omega, by omega, HE.out _⟩
            case measure => simp [intOf]; omega
          · have hm0' := hmn hjm
            have ho0 : o = 0 := by rw [← hmo, hm0']; decide
            have HO : Hid (onesZ mv = o) := hmo
            have HO0 : Hid (o = 0) := ho0
            clear hmc hmn hmo hm0' ho0
            go_wp2
            go_quiet ((go_at_call 28; exact Calls.quiet_of (ones_any _ _)))
            rw [HO.out, HO0.out]
            go_wp2
            go_roundw
            case rel => exact ⟨j + 1, nd + nq, s, by omega, by go_num, by simp; exact wrap_small _ (by omega) (by omega), rfl, by omega, by omega, HE.out _⟩
            case measure => simp [intOf]; omega
    · clear ha8 hb8 x8 HB hwr
      go_wp2_with fail
      refine (wakes_any _).mono ?_
      rintro e w2 ⟨rfl, hw⟩
      go_wp2
      go_ret
      refine ⟨rfl, ?_⟩
      have e2 := HW.out
      subst e2
      exact (below_drewN bb8 nd).trans (hw.mono bb8.size)

/-- The law, of whatever two texts. -/
theorem bitTurns_walk (a0 : Option Addr) (len0 cap0 : Nat) (z0 : List Int) (a1 : Option Addr) (len1 cap1 : Nat) (z1 : List Int) (w : World) (w0 : IsRow .u8 w a0 len0 cap0 z0) (w1 : IsRow .u8 w a1 len1 cap1 z1) :
    Calls Try.prog 6 #[.slice a0 len0 cap0, .slice a1 len1 cap1] w fun e w' => e = .returned (.bool true) ∧ Below w.heap.size w w' := by
  obtain ⟨xs, rfl, hx, bx⟩ := holds_of_isRow w0
  obtain ⟨ys, rfl, hy, bY⟩ := holds_of_isRow w1
  by_cases h : 300 < xs.length ∨ 300 < ys.length
  · exact bitTurns_long a0 a1 _ _ cap0 cap1 w h
  · exact bitTurns_short a0 a1 cap0 cap1 xs ys (by omega) (by omega) (bytes_bd bx) (bytes_bd bY) w hx hy

end Go.Proofs.Ytnbfgngeienecaa
