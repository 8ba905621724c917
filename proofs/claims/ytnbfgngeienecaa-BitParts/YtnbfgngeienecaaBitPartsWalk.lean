/-
  BitParts: the walk: whatever the two texts, the law answers true, and nothing that lay has turned.
-/
import Derived.Test.YtnbfgngeienecaaWakes
import Derived.Test.YtnbfgngeienecaaApartBits
import Derived.Test.YtnbfgngeienecaaTwins
namespace Go.Proofs.Ytnbfgngeienecaa
open Go.RowKit

theorem Holds.next {kd : IntKind} {W W' : World} {v : Value} {zs : List Int} (h : Holds kd W.heap.size W v zs) (hb : Below W.heap.size W W') : Holds kd W'.heap.size W' v zs := (h.below hb).mono hb.size

theorem below_grown {w w' : World} {base e n : Nat} {v : Value} {xs : List Value} (hown : w.ownsRow base e 1 v n xs) (hg : w.grownBy w' v.ownBlock) (hb : base ≤ w.heap.size) : Below base w w' :=
  (Below.refl _ w).grown hg hb (fun k e => (hown.lt k e).1)

theorem flat_all_len (f : Int → List Int) (c : Nat) (hf : ∀ x, (f x).length = c) (zs : List Int) : (zs.flatMap f).length = c * zs.length := by
  have := flat_len f c hf zs zs.length (Nat.le_refl _); rwa [List.take_length] at this

/-- The j-th of the k-th part. -/
theorem flat_get (f : Int → List Int) (c : Nat) (hf : ∀ x, (f x).length = c) {zs : List Int} {k : Nat} {z : Int} (hk : zs[k]? = some z) (j : Nat) (hj : j < c) : (zs.flatMap f)[c * k + j]? = (f z)[j]? := by
  have hlt : k < zs.length := (List.getElem?_eq_some_iff.1 hk).1
  have e : zs.flatMap f = (zs.take k).flatMap f ++ (f z ++ (zs.drop (k + 1)).flatMap f) := by
    have e1 : zs = zs.take (k + 1) ++ zs.drop (k + 1) := (List.take_append_drop _ _).symm
    conv => lhs; rw [e1, List.flatMap_append, flat_succ f hk]
    rw [List.append_assoc]
  have hl := flat_len f c hf zs k (by omega)
  rw [e, List.getElem?_append_right (by omega), hl, show c * k + j - c * k = j from by omega, List.getElem?_append_left (by rw [hf]; exact hj)]

theorem nib_bits (zs : List Int) (hz : ∀ z ∈ zs, 0 ≤ z ∧ z ≤ 255) (i : Nat) (hi : i < 2 * zs.length) :
    ∃ p b0 b1 b2 b3 : Int, (zs.flatMap nibsOf)[i]?.getD 0 = p ∧ (zs.flatMap bitsOf)[4 * i]?.getD 0 = b0 ∧ (zs.flatMap bitsOf)[4 * i + 1]?.getD 0 = b1 ∧ (zs.flatMap bitsOf)[4 * i + 2]?.getD 0 = b2 ∧ (zs.flatMap bitsOf)[4 * i + 3]?.getD 0 = b3 ∧
      p = 8 * b0 + 4 * b1 + 2 * b2 + b3 ∧ 0 ≤ b0 ∧ b0 ≤ 1 ∧ 0 ≤ b1 ∧ b1 ≤ 1 ∧ 0 ≤ b2 ∧ b2 ≤ 1 ∧ 0 ≤ b3 ∧ b3 ≤ 1 := by
  obtain ⟨k, r, hr, rfl⟩ : ∃ k r, r < 2 ∧ i = 2 * k + r := ⟨i / 2, i % 2, by omega, by omega⟩
  have hk : zs[k]? = some zs[k] := by simp
  have hb := hz zs[k] (List.getElem_mem _)
  generalize zs[k] = z at hk hb
  have n0 := flat_get nibsOf 2 (fun _ => rfl) hk r hr
  have g := fun j hj => flat_get bitsOf 8 (fun _ => rfl) hk j hj
  have e0 : 4 * (2 * k + r) = 8 * k + 4 * r := by omega
  rw [e0, Nat.add_assoc, Nat.add_assoc, Nat.add_assoc, n0, g (4 * r) (by omega), g (4 * r + 1) (by omega), g (4 * r + 2) (by omega), g (4 * r + 3) (by omega)]
  match r, hr with
  | 0, _ => exact ⟨_, _, _, _, _, rfl, rfl, rfl, rfl, rfl, by simp [nibsOf, bitsOf]; omega, by simp [bitsOf]; omega, by simp [bitsOf]; omega, by simp [bitsOf]; omega, by simp [bitsOf]; omega, by simp [bitsOf]; omega, by simp [bitsOf]; omega, by simp [bitsOf]; omega, by simp [bitsOf]; omega⟩
  | 1, _ => exact ⟨_, _, _, _, _, rfl, rfl, rfl, rfl, rfl, by simp [nibsOf, bitsOf]; omega, by simp [bitsOf]; omega, by simp [bitsOf]; omega, by simp [bitsOf]; omega, by simp [bitsOf]; omega, by simp [bitsOf]; omega, by simp [bitsOf]; omega, by simp [bitsOf]; omega, by simp [bitsOf]; omega⟩

set_option maxRecDepth 100000 in
set_option maxHeartbeats 2000000 in
theorem bitParts_long (a0 a1 : Option Addr) (len0 len1 cap0 cap1 : Nat) (w : World) (h : 300 < len0 ∨ 300 < len1) :
    Calls Try.prog 8 #[.slice a0 len0 cap0, .slice a1 len1 cap1] w fun e w' => e = .returned (.bool true) ∧ Below w.heap.size w w' := by
  by_cases h0 : 300 < len0
  · go_enter Try.func8, Try.ntmps8
    go_wp2
    go_ret
    exact ⟨rfl, Below.refl _ _⟩
  · have h1 : 300 < len1 := by omega
    clear h
    go_enter Try.func8, Try.ntmps8
    go_wp2
    go_ret
    exact ⟨rfl, Below.refl _ _⟩

set_option maxRecDepth 100000 in
set_option maxHeartbeats 4000000 in
theorem bitParts_short (a0 a1 : Option Addr) (cap0 cap1 : Nat) (xs ys : List Int) (hx : xs.length ≤ 300) (hy : ys.length ≤ 300) (bx : ∀ z ∈ xs, 0 ≤ z ∧ z ≤ 255) (bY : ∀ z ∈ ys, 0 ≤ z ∧ z ≤ 255) (w : World)
    (ha : Holds .u8 w.heap.size w (.slice a0 xs.length cap0) xs) (hb : Holds .u8 w.heap.size w (.slice a1 ys.length cap1) ys) :
    Calls Try.prog 8 #[.slice a0 xs.length cap0, .slice a1 ys.length cap1] w fun e w' => e = .returned (.bool true) ∧ Below w.heap.size w w' := by
  obtain ⟨zs, hzs⟩ : ∃ zs, xs ++ ys = zs := ⟨_, rfl⟩
  have hall : zs.length ≤ 600 := by rw [← hzs, List.length_append]; omega
  have ball : ∀ z ∈ zs, 0 ≤ z ∧ z ≤ 255 := fun z hz => (List.mem_append.1 (by rw [hzs]; exact hz)).elim (bx z) (bY z)
  obtain ⟨X, hX⟩ : ∃ l, xs.flatMap bitsOf = l := ⟨_, rfl⟩
  obtain ⟨Y, hY⟩ : ∃ l, ys.flatMap bitsOf = l := ⟨_, rfl⟩
  obtain ⟨Z, hZ⟩ : ∃ l, zs.flatMap bitsOf = l := ⟨_, rfl⟩
  obtain ⟨N, hN⟩ : ∃ l, zs.flatMap nibsOf = l := ⟨_, rfl⟩
  have lX : X.length = 8 * xs.length := by rw [← hX]; exact flat_all_len bitsOf 8 (fun _ => rfl) xs
  have lY : Y.length = 8 * ys.length := by rw [← hY]; exact flat_all_len bitsOf 8 (fun _ => rfl) ys
  have lZ : Z.length = 8 * zs.length := by rw [← hZ]; exact flat_all_len bitsOf 8 (fun _ => rfl) zs
  have lN : N.length = 2 * zs.length := by rw [← hN]; exact flat_all_len nibsOf 2 (fun _ => rfl) zs
  have hXYZ : X ++ Y = Z := by rw [← hX, ← hY, ← hZ, ← hzs, List.flatMap_append]
  have hnb : ∀ i, i < N.length → ∃ p b0 b1 b2 b3 : Int, N[i]?.getD 0 = p ∧ Z[4 * i]?.getD 0 = b0 ∧ Z[4 * i + 1]?.getD 0 = b1 ∧ Z[4 * i + 2]?.getD 0 = b2 ∧ Z[4 * i + 3]?.getD 0 = b3 ∧
      p = 8 * b0 + 4 * b1 + 2 * b2 + b3 ∧ 0 ≤ b0 ∧ b0 ≤ 1 ∧ 0 ≤ b1 ∧ b1 ≤ 1 ∧ 0 ≤ b2 ∧ b2 ≤ 1 ∧ 0 ≤ b3 ∧ b3 ≤ 1 := by
    intro i hi
    rw [← hN, ← hZ]
    exact nib_bits zs ball i (by omega)
  have d0 : decide (300 < (xs.length : Int)) = false := by simp; omega
  have d1 : decide (300 < (ys.length : Int)) = false := by simp; omega
  have t1 : ((Z.length : Int) != 8 * (zs.length : Int)) = false := by rw [bne_eq_false_iff_eq]; omega
  have t2 : ((N.length : Int) != 2 * (zs.length : Int)) = false := by rw [bne_eq_false_iff_eq]; omega
  have lx := hX ▸ lX
  have HX : Hid (xs.flatMap bitsOf = X) := hX
  have HY : Hid (ys.flatMap bitsOf = Y) := hY
  have HZ : Hid (zs.flatMap bitsOf = Z) := hZ
  have HN : Hid (zs.flatMap nibsOf = N) := hN
  have HS : Hid (xs ++ ys = zs) := hzs
  have HXYZ : Hid (X ++ Y = Z) := hXYZ
  have HNB : Hid (∀ i, i < N.length → ∃ p b0 b1 b2 b3 : Int, N[i]?.getD 0 = p ∧ Z[4 * i]?.getD 0 = b0 ∧ Z[4 * i + 1]?.getD 0 = b1 ∧ Z[4 * i + 2]?.getD 0 = b2 ∧ Z[4 * i + 3]?.getD 0 = b3 ∧
      p = 8 * b0 + 4 * b1 + 2 * b2 + b3 ∧ 0 ≤ b0 ∧ b0 ≤ 1 ∧ 0 ≤ b1 ∧ b1 ≤ 1 ∧ 0 ≤ b2 ∧ b2 ≤ 1 ∧ 0 ≤ b3 ∧ b3 ≤ 1) := hnb
  have HLZ : Hid (Z.length = 8 * zs.length) := lZ
  have HLN : Hid (N.length = 2 * zs.length) := lN
  have lX' : X.length ≤ 4294967296 := by omega
  have lY' : Y.length ≤ 4294967296 := by omega
  have lZ' : Z.length ≤ 4294967296 := by omega
  have lN' : N.length ≤ 4294967296 := by omega
  clear hX hY hZ hN hzs hXYZ hnb lX lY lZ lN lx
  go_enter Try.func8, Try.ntmps8
  go_wp2_with fail
  refine (twin_any _ xs _ (by omega) _ ha).mono ?_
  rintro e W1 ⟨r1, rfl, o1, b1⟩
  obtain ⟨v2, W2, hrun2, o2, g2⟩ := run_append_u8 r1 (.slice a1 ys.length cap1) xs.length w.heap.size _ xs ys 22 W1 o1 (hb.next b1) b1.size (by omega) (by omega)
  rw [HS.out] at o2
  have b2 : Below w.heap.size w W2 := b1.trans (below_grown o1 g2 b1.size)
  have ha2 := (ha.below b2).mono b2.size
  have hb2 := (hb.below b2).mono b2.size
  have hv2 := holds_of_row o2
  clear o1 g2 o2
  obtain ⟨c2, d2, rfl⟩ := hv2.shape
  have HR2 : Hid _ := hrun2
  clear hrun2
  go_wp2_with (at_builtin; refine wpList_append_run rfl _ _ _ rfl _ _ rfl rfl _ _ HR2.out ?_)
  clear HR2
  refine (bits_any _ xs (by omega) bx _ ha2).mono ?_
  rw [HX.out]
  rintro e W3 ⟨r3, rfl, o3, b3⟩
  have hr3 := holds_of_row o3
  have hb3 := hb2.next b3
  have hv3 := hv2.next b3
  clear o3 ha2 hb2 hv2
  go_wp2_with fail
  refine (bits_any _ ys (by omega) bY _ hb3).mono ?_
  rw [HY.out]
  rintro e W4 ⟨r4, rfl, o4, b4⟩
  have hr4 := holds_of_row o4
  have hx4 := hr3.next b4
  have hv4 := hv3.next b4
  clear o4 hr3 hb3 hv3
  go_wp2_with fail
  refine (bits_any _ zs (by omega) ball _ hv4).mono ?_
  rw [HZ.out]
  rintro e W5 ⟨r5, rfl, o5, b5⟩
  have hr5 := holds_of_row o5
  have hx5 := hx4.next b5
  have hy5 := hr4.next b5
  have hv5 := hv4.next b5
  clear o5 hx4 hr4 hv4
  go_wp2_with fail
  refine (nibs_any _ zs (by omega) ball _ hv5).mono ?_
  rw [HN.out]
  rintro e W6 ⟨r6, rfl, o6, b6⟩
  have hr6 := holds_of_row o6
  have hx6 := hx5.next b6
  have hy6 := hy5.next b6
  have hz6 := hr5.next b6
  clear o6 hx5 hy5 hv5 hr5
  obtain ⟨c5, d5, rfl⟩ := hz6.shape
  obtain ⟨c6, d6, rfl⟩ := hr6.shape
  go_wp2_with fail
  refine (twinInts_any _ X _ lX' _ hx6).mono ?_
  rintro e W7 ⟨r7, rfl, o7, b7⟩
  obtain ⟨v8, W8, hrun8, o8, g8⟩ := run_append_i64 r7 r4 X.length W6.heap.size _ X Y 23 W7 o7 (hy6.next b7) b7.size lX' lY'
  rw [HXYZ.out] at o8
  have b8 : Below W6.heap.size W6 W8 := b7.trans (below_grown o7 g8 b7.size)
  have hz8 := (hz6.below b8).mono b8.size
  have hn8 := (hr6.below b8).mono b8.size
  have hv8 := holds_of_row o8
  clear o7 g8 o8 hx6 hy6 hz6 hr6
  have HR8 : Hid _ := hrun8
  clear hrun8
  go_wp2_with (at_builtin; refine wpList_append_run rfl _ _ _ rfl _ _ rfl rfl _ _ HR8.out ?_)
  clear HR8
  refine (ints_any _ _ Z Z _ _ _ (by omega) hv8 hz8).mono ?_
  rw [decide_eq_true rfl]
  rintro e W9 ⟨rfl, q9, rfl⟩
  have bb3 : Below w.heap.size w W3 := b2.trans (b3.mono b2.size)
  have bb4 : Below w.heap.size w W4 := bb3.trans (b4.mono bb3.size)
  have bb5 : Below w.heap.size w W5 := bb4.trans (b5.mono bb4.size)
  have bb6 : Below w.heap.size w W6 := bb5.trans (b6.mono bb5.size)
  have bb8 : Below w.heap.size w W8 := bb6.trans (b8.mono bb6.size)
  clear b1 b2 b3 b4 b5 b6 b7 b8 bb3 bb4 bb5 bb6 hv8 ha hb HX HY HZ HN HS HXYZ bx bY ball
  go_wp2_with fail
  go_loopw [14] (fun i wr => ∃ k nd : Nat, k ≤ N.length ∧ i = .int .i64 k ∧ wr = W8.drewN nd) (fun i _ => N.length - (intOf i).toNat)
  case atStart => exact ⟨0, q9, Nat.zero_le _, rfl, rfl⟩
  case round =>
    obtain ⟨k, nd, hk, rfl, rfl⟩ := hrel
    by_cases hlt : k < N.length
    · have hz4 : 4 * k + 3 < Z.length := by have := HLZ.out; have := HLN.out; omega
      obtain ⟨p, b0, b1, b2, b3, ep, e0, e1, e2, e3, hp, l0, u0, l1, u1, l2, u2, l3, u3⟩ := HNB.out k hlt
      rcases hn8 with ⟨_, e⟩ | ⟨bn, on, cn, e, _, hcn⟩
      · rw [e] at hlt; exact absurd hlt (by simp)
      · rcases hz8 with ⟨_, e'⟩ | ⟨bz, oz, cz, e', _, hcz⟩
        · rw [e'] at hz4; exact absurd hz4 (by simp)
        · cases e
          cases e'
          have c0 : ∀ q, (W8.drewN q).cell? ⟨bn, on + k, none⟩ = some (.int .i64 p) := fun q => (hcn k hlt).trans (by rw [ep])
          have c1 : ∀ q, (W8.drewN q).cell? ⟨bz, oz + 4 * k, none⟩ = some (.int .i64 b0) := fun q => (hcz (4 * k) (by omega)).trans (by rw [e0])
          have c2 : ∀ q, (W8.drewN q).cell? ⟨bz, oz + (4 * k + 1), none⟩ = some (.int .i64 b1) := fun q => (hcz (4 * k + 1) (by omega)).trans (by rw [e1])
          have c3 : ∀ q, (W8.drewN q).cell? ⟨bz, oz + (4 * k + 2), none⟩ = some (.int .i64 b2) := fun q => (hcz (4 * k + 2) (by omega)).trans (by rw [e2])
          have c4 : ∀ q, (W8.drewN q).cell? ⟨bz, oz + (4 * k + 3), none⟩ = some (.int .i64 b3) := fun q => (hcz (4 * k + 3) (by omega)).trans (by rw [e3])
          have ht : (p != 8 * b0 + 4 * b1 + 2 * b2 + b3) = false := by rw [bne_eq_false_iff_eq]; exact hp
          clear hcn hcz ep e0 e1 e2 e3 hp HNB
          go_wp2
          go_quiet (fail)
          go_wp2
          go_roundw
          case rel => exact ⟨k + 1, nd + nq, by omega, by go_num, by simp⟩
          case measure => simp [intOf]; omega
    · go_wp2_with fail
      refine (wakes_any _).mono ?_
      rintro e w2 ⟨rfl, hw⟩
      go_wp2
      go_ret
      exact ⟨rfl, (below_drewN bb8 nd).trans (hw.mono bb8.size)⟩
/-- The law, of whatever two texts. -/
theorem bitParts_walk (a0 : Option Addr) (len0 cap0 : Nat) (z0 : List Int) (a1 : Option Addr) (len1 cap1 : Nat) (z1 : List Int) (w : World) (w0 : IsRow .u8 w a0 len0 cap0 z0) (w1 : IsRow .u8 w a1 len1 cap1 z1) :
    Calls Try.prog 8 #[.slice a0 len0 cap0, .slice a1 len1 cap1] w fun e w' => e = .returned (.bool true) ∧ Below w.heap.size w w' := by
  obtain ⟨xs, rfl, hx, bx⟩ := holds_of_isRow w0
  obtain ⟨ys, rfl, hy, bY⟩ := holds_of_isRow w1
  by_cases h : 300 < xs.length ∨ 300 < ys.length
  · exact bitParts_long a0 a1 _ _ cap0 cap1 w h
  · exact bitParts_short a0 a1 cap0 cap1 xs ys (by omega) (by omega) (bytes_bd bx) (bytes_bd bY) w hx hy

end Go.Proofs.Ytnbfgngeienecaa
