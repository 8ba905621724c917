/-
  BitBack: the walk: whatever the text and the numbers, the law answers true, and nothing that lay has turned.
-/
import Derived.Test.YtnbfgngeienecaaWakes
import Derived.Test.YtnbfgngeienecaaApartBits
import Derived.Test.YtnbfgngeienecaaTogetherBits
import Derived.Test.YtnbfgngeienecaaBackFacts
import Derived.Test.YtnbfgngeienecaaKeepBytes
namespace Go.Proofs.Ytnbfgngeienecaa
open Go.RowKit

set_option maxRecDepth 100000 in
set_option maxHeartbeats 2000000 in
theorem bitBack_long (a0 : Option Addr) (len0 cap0 : Nat) (n size : Int) (w : World) (h : 300 < len0) :
    Calls Try.prog 5 #[.slice a0 len0 cap0, .int .i64 n, .int .i64 size] w fun e w' => e = .returned (.bool true) ∧ Below w.heap.size w w' := by
  go_enter Try.func5, Try.ntmps5
  go_wp2
  go_ret
  exact ⟨rfl, Below.refl _ _⟩

set_option maxRecDepth 100000 in
set_option maxHeartbeats 8000000 in
theorem bitBack_short (a0 : Option Addr) (cap0 : Nat) (xs : List Int) (n size : Int) (hx : xs.length ≤ 300) (bx : ∀ z ∈ xs, 0 ≤ z ∧ z ≤ 255) (w : World)
    (ha : Holds .u8 w.heap.size w (.slice a0 xs.length cap0) xs) :
    Calls Try.prog 5 #[.slice a0 xs.length cap0, .int .i64 n, .int .i64 size] w fun e w' => e = .returned (.bool true) ∧ Below w.heap.size w w' := by
  obtain ⟨r, hr, hr3⟩ := size_mod size
  have d0 : decide (300 < (xs.length : Int)) = false := by simp; omega
  obtain ⟨X, hX⟩ : ∃ l, xs.flatMap bitsOf = l := ⟨_, rfl⟩
  obtain ⟨N, hN⟩ : ∃ l, xs.flatMap nibsOf = l := ⟨_, rfl⟩
  have lX : X.length = 8 * xs.length := by rw [← hX]; exact flat_all_len' bitsOf 8 (fun _ => rfl) xs
  have lN : N.length = 2 * xs.length := by rw [← hN]; exact flat_all_len' nibsOf 2 (fun _ => rfl) xs
  have wX : wholesOf 1 8 X xs.length = xs := by rw [← hX]; exact wholes_back bitsOf 1 8 (fun _ => rfl) xs (fun z hz => join_bits z (bx z hz).1 (bx z hz).2)
  have wN : wholesOf 4 2 N xs.length = xs := by rw [← hN]; exact wholes_back nibsOf 4 2 (fun _ => rfl) xs (fun z hz => join_nibs z (bx z hz).1 (bx z hz).2)
  have bX : ∀ z ∈ X, 0 ≤ z ∧ z < 2 := by rw [← hX]; exact bits_bd xs
  have bN : ∀ z ∈ N, 0 ≤ z ∧ z < 16 := by rw [← hN]; exact nibs_bd xs
  have t1 : ((X.length : Int) != 8 * (xs.length : Int)) = false := by rw [bne_eq_false_iff_eq]; omega
  have t2 : ((N.length : Int) != 2 * (xs.length : Int)) = false := by rw [bne_eq_false_iff_eq]; omega
  have HX : Hid (xs.flatMap bitsOf = X) := hX
  have HN : Hid (xs.flatMap nibsOf = N) := hN
  have HLX : Hid (X.length = 8 * xs.length) := lX
  have HLN : Hid (N.length = 2 * xs.length) := lN
  have HWX : Hid (wholesOf 1 8 X xs.length = xs) := wX
  have HWN : Hid (wholesOf 4 2 N xs.length = xs) := wN
  have HBX : Hid (∀ z ∈ X, 0 ≤ z ∧ z < 2) := bX
  have HBN : Hid (∀ z ∈ N, 0 ≤ z ∧ z < 16) := bN
  have HR : Hid (wrap64 ((IntKind.u64.wrap size).tmod 4) = (r : Int)) := hr
  have lX' : X.length ≤ 32768 := by omega
  have lN' : N.length ≤ 32768 := by omega
  clear hX hN lX lN wX wN bX bN hr
  go_enter Try.func5, Try.ntmps5
  go_wp2_with fail
  refine (bits_any _ xs (by omega) bx _ ha).mono ?_
  rw [HX.out]
  rintro e W1 ⟨r1, rfl, o1, b1⟩
  have x1 := holds_of_row o1
  obtain ⟨c1, k1, rfl⟩ := x1.shape
  rw [← HLX.out] at o1
  have cap1 := row_cap o1
  have ha1 := ha.next b1
  clear o1 ha
  go_wp2_with fail
  refine (nibs_any _ xs (by omega) bx _ ha1).mono ?_
  rw [HN.out]
  rintro e W2 ⟨r2, rfl, o2, b2⟩
  have n2 := holds_of_row o2
  obtain ⟨c2, k2, rfl⟩ := n2.shape
  rw [← HLN.out] at o2
  have cap2 := row_cap o2
  have ha2 := ha1.next b2
  have x2 := x1.next b2
  have bb2 : Below w.heap.size w W2 := b1.trans (b2.mono b1.size)
  clear o2 ha1 x1 b1 b2
  go_wp2_with fail
  refine (pack_ok _ _ X xs.length HLX.out lX' cap1 HBX.out _ x2).mono ?_
  rw [HWX.out]
  rintro e W3 ⟨r3, rfl, o3, b3⟩
  have p3 := holds_of_row o3
  have ha3 := ha2.next b3
  have n3 := n2.next b3
  have bb3 : Below w.heap.size w W3 := bb2.trans (b3.mono bb2.size)
  clear o3 ha2 n2 x2 bb2 b3
  go_wp2_with fail
  refine (join_ok _ _ N xs.length HLN.out lN' cap2 HBN.out _ n3).mono ?_
  rw [HWN.out]
  rintro e W4 ⟨r4, rfl, o4, b4⟩
  have q4 := holds_of_row o4
  have ha4 := ha3.next b4
  have p4 := p3.next b4
  have bb4 : Below w.heap.size w W4 := bb3.trans (b4.mono bb3.size)
  clear o4 ha3 n3 p3 bb3 b4
  go_wp2_with fail
  refine (bytes_any _ _ xs xs _ _ _ (by omega) p4 ha4).mono ?_
  rw [decide_eq_true rfl]
  rintro e W5 ⟨rfl, q5, rfl⟩
  go_wp2_with fail
  refine (bytes_any _ _ xs xs _ _ _ (by omega) (by exact q4.below (below_drewN (Below.refl _ _) _)) (by exact ha4.below (below_drewN (Below.refl _ _) _))).mono ?_
  rw [decide_eq_true rfl]
  rintro e W6 ⟨rfl, q6, rfl⟩
  clear p4 q4 HX HN HLX HLN HWX HWN HBX HBN cap1 cap2 t1 t2
  have hr := HR.out
  clear HR
  obtain rfl | rfl | rfl | rfl : r = 0 ∨ r = 1 ∨ r = 2 ∨ r = 3 := by omega
  · have hr' : wrap64 ((IntKind.u64.wrap size).tmod 4) = 0 := hr
    clear hr
    obtain ⟨nn, hnn, h0, h1⟩ : ∃ nn : Int, bits .and .i64 n 255 = nn ∧ 0 ≤ nn ∧ nn < 256 := ⟨n % 256, i64_low8 n, by omega, by omega⟩
    have h4 : nn / 2 ^ (8 * 1) = 0 := by show nn / 256 = 0; omega
    obtain ⟨Z, hZ⟩ : ∃ l, xs ++ beBytes 1 nn = l := ⟨_, rfl⟩
    have lZ : Z.length = xs.length + 1 := by rw [← hZ, List.length_append, beBytes_len]
    have bZ : ∀ z ∈ Z, 0 ≤ z ∧ z ≤ 255 := fun z hz => (List.mem_append.1 (by rw [hZ]; exact hz)).elim (bx z) (be_bd 1 nn z)
    have gZ : beNum ((Z.drop xs.length).take 1) = nn := by
      rw [← hZ, List.drop_left, List.take_of_length_le (by rw [beBytes_len]; omega)]
      exact be_back 1 (by decide) (by decide) nn h0 (by show nn < 256; exact h1)
    have cZ : ∀ j, j < xs.length → Z[j]?.getD 0 = xs[j]?.getD 0 := fun j hj => by rw [← hZ, List.getElem?_append_left hj]
    have HZ : Hid (xs ++ beBytes 1 nn = Z) := hZ
    have HLZ : Hid (Z.length = xs.length + 1) := lZ
    have HGZ : Hid (beNum ((Z.drop xs.length).take 1) = nn) := gZ
    have HCZ : Hid (∀ j, j < xs.length → Z[j]?.getD 0 = xs[j]?.getD 0) := cZ
    have HBZ : Hid (∀ z ∈ Z, 0 ≤ z ∧ z ≤ 255) := bZ
    have H4 : Hid (nn / 2 ^ (8 * 1) = 0) := h4
    have t3 : ((Z.length : Int) == (xs.length : Int) + 1) = true := by rw [beq_iff_eq]; omega
    have lZ' : Z.length ≤ 304 := by omega
    have lZ'' : xs.length ≤ Z.length := by omega
    have lZ0 : 0 < Z.length := by omega
    clear hZ lZ gZ cZ bZ h4
    go_wp2_with fail
    refine (put_ok _ _ xs nn 1 _ _ (by decide) (by decide) h0 H4.out (by omega) (Nat.le_refl _) (by exact ha4.below (below_drewN (Below.refl _ _) _))).mono ?_
    rw [HZ.out, ← HLZ.out]
    rintro e W7 ⟨r7, rfl, o7, b7⟩
    have z7 := holds_of_row o7
    have b47 : Below W4.heap.size W4 W7 := (below_drewN (Below.refl _ W4) _).trans b7
    have ha7 := ha4.next b47
    have bb7 : Below w.heap.size w W7 := bb4.trans (b47.mono bb4.size)
    clear ha4 b47 b7 bb4
    rcases z7 with ⟨_, e⟩ | ⟨bz, oz, cz, rfl, hbz, hcz⟩
    · rw [e] at lZ0; exact absurd lZ0 (by simp)
    · have capZ := row_cap o7
      have hpre : Holds .u8 W7.heap.size W7 (.slice (some ⟨bz, oz, none⟩) xs.length cz) xs := .inr ⟨bz, oz, cz, rfl, hbz, fun j hj => by rw [hcz j (by omega), HCZ.out j hj]⟩
      have HCZ7 : Hid (∀ j, j < Z.length → W7.cell? ⟨bz, oz + j, none⟩ = some (.int .u8 (Z[j]?.getD 0))) := hcz
      have capX : xs.length ≤ cz := by omega
      clear o7 hcz
      go_wp2_with fail
      refine (get_ok bz oz cz Z xs.length 1 _ (by decide) (by decide) (by have := HLZ.out; omega) capZ (by omega) HBZ.out HCZ7.out).mono ?_
      rw [HGZ.out]
      rintro e w' ⟨rfl, rfl⟩
      clear HCZ7 HGZ HBZ
      go_wp2_with fail
      refine (bytes_any _ _ xs xs _ _ _ (by omega) hpre ha7).mono ?_
      rw [decide_eq_true rfl]
      rintro e w' ⟨rfl, q8, rfl⟩
      go_wp2_with fail
      refine (wakes_any _).mono ?_
      rintro e W8 ⟨rfl, b8⟩
      go_wp2
      go_ret
      exact ⟨rfl, (below_drewN bb7 _).trans (b8.mono bb7.size)⟩
  · have hr' : wrap64 ((IntKind.u64.wrap size).tmod 4) = 1 := hr
    clear hr
    obtain ⟨nn, hnn, h0, h1⟩ : ∃ nn : Int, bits .and .i64 n 65535 = nn ∧ 0 ≤ nn ∧ nn < 65536 := ⟨n % 65536, i64_low16 n, by omega, by omega⟩
    have h4 : nn / 2 ^ (8 * 2) = 0 := by show nn / 65536 = 0; omega
    obtain ⟨Z, hZ⟩ : ∃ l, xs ++ beBytes 2 nn = l := ⟨_, rfl⟩
    have lZ : Z.length = xs.length + 2 := by rw [← hZ, List.length_append, beBytes_len]
    have bZ : ∀ z ∈ Z, 0 ≤ z ∧ z ≤ 255 := fun z hz => (List.mem_append.1 (by rw [hZ]; exact hz)).elim (bx z) (be_bd 2 nn z)
    have gZ : beNum ((Z.drop xs.length).take 2) = nn := by
      rw [← hZ, List.drop_left, List.take_of_length_le (by rw [beBytes_len]; omega)]
      exact be_back 2 (by decide) (by decide) nn h0 (by show nn < 65536; exact h1)
    have cZ : ∀ j, j < xs.length → Z[j]?.getD 0 = xs[j]?.getD 0 := fun j hj => by rw [← hZ, List.getElem?_append_left hj]
    have HZ : Hid (xs ++ beBytes 2 nn = Z) := hZ
    have HLZ : Hid (Z.length = xs.length + 2) := lZ
    have HGZ : Hid (beNum ((Z.drop xs.length).take 2) = nn) := gZ
    have HCZ : Hid (∀ j, j < xs.length → Z[j]?.getD 0 = xs[j]?.getD 0) := cZ
    have HBZ : Hid (∀ z ∈ Z, 0 ≤ z ∧ z ≤ 255) := bZ
    have H4 : Hid (nn / 2 ^ (8 * 2) = 0) := h4
    have t3 : ((Z.length : Int) == (xs.length : Int) + 2) = true := by rw [beq_iff_eq]; omega
    have lZ' : Z.length ≤ 304 := by omega
    have lZ'' : xs.length ≤ Z.length := by omega
    have lZ0 : 0 < Z.length := by omega
    clear hZ lZ gZ cZ bZ h4
    go_wp2_with fail
    refine (put_ok _ _ xs nn 2 _ _ (by decide) (by decide) h0 H4.out (by omega) (Nat.le_refl _) (by exact ha4.below (below_drewN (Below.refl _ _) _))).mono ?_
    rw [HZ.out, ← HLZ.out]
    rintro e W7 ⟨r7, rfl, o7, b7⟩
    have z7 := holds_of_row o7
    have b47 : Below W4.heap.size W4 W7 := (below_drewN (Below.refl _ W4) _).trans b7
    have ha7 := ha4.next b47
    have bb7 : Below w.heap.size w W7 := bb4.trans (b47.mono bb4.size)
    clear ha4 b47 b7 bb4
    rcases z7 with ⟨_, e⟩ | ⟨bz, oz, cz, rfl, hbz, hcz⟩
    · rw [e] at lZ0; exact absurd lZ0 (by simp)
    · have capZ := row_cap o7
      have hpre : Holds .u8 W7.heap.size W7 (.slice (some ⟨bz, oz, none⟩) xs.length cz) xs := .inr ⟨bz, oz, cz, rfl, hbz, fun j hj => by rw [hcz j (by omega), HCZ.out j hj]⟩
      have HCZ7 : Hid (∀ j, j < Z.length → W7.cell? ⟨bz, oz + j, none⟩ = some (.int .u8 (Z[j]?.getD 0))) := hcz
      have capX : xs.length ≤ cz := by omega
      clear o7 hcz
      go_wp2_with fail
      refine (get_ok bz oz cz Z xs.length 2 _ (by decide) (by decide) (by have := HLZ.out; omega) capZ (by omega) HBZ.out HCZ7.out).mono ?_
      rw [HGZ.out]
      rintro e w' ⟨rfl, rfl⟩
      clear HCZ7 HGZ HBZ
      go_wp2_with fail
      refine (bytes_any _ _ xs xs _ _ _ (by omega) hpre ha7).mono ?_
      rw [decide_eq_true rfl]
      rintro e w' ⟨rfl, q8, rfl⟩
      go_wp2_with fail
      refine (wakes_any _).mono ?_
      rintro e W8 ⟨rfl, b8⟩
      go_wp2
      go_ret
      exact ⟨rfl, (below_drewN bb7 _).trans (b8.mono bb7.size)⟩
  · have hr' : wrap64 ((IntKind.u64.wrap size).tmod 4) = 2 := hr
    clear hr
    obtain ⟨nn, hnn, h0, h1⟩ : ∃ nn : Int, bits .and .i64 n 16777215 = nn ∧ 0 ≤ nn ∧ nn < 16777216 := ⟨n % 16777216, i64_low24 n, by omega, by omega⟩
    have h4 : nn / 2 ^ (8 * 3) = 0 := by show nn / 16777216 = 0; omega
    obtain ⟨Z, hZ⟩ : ∃ l, xs ++ beBytes 3 nn = l := ⟨_, rfl⟩
    have lZ : Z.length = xs.length + 3 := by rw [← hZ, List.length_append, beBytes_len]
    have bZ : ∀ z ∈ Z, 0 ≤ z ∧ z ≤ 255 := fun z hz => (List.mem_append.1 (by rw [hZ]; exact hz)).elim (bx z) (be_bd 3 nn z)
    have gZ : beNum ((Z.drop xs.length).take 3) = nn := by
      rw [← hZ, List.drop_left, List.take_of_length_le (by rw [beBytes_len]; omega)]
      exact be_back 3 (by decide) (by decide) nn h0 (by show nn < 16777216; exact h1)
    have cZ : ∀ j, j < xs.length → Z[j]?.getD 0 = xs[j]?.getD 0 := fun j hj => by rw [← hZ, List.getElem?_append_left hj]
    have HZ : Hid (xs ++ beBytes 3 nn = Z) := hZ
    have HLZ : Hid (Z.length = xs.length + 3) := lZ
    have HGZ : Hid (beNum ((Z.drop xs.length).take 3) = nn) := gZ
    have HCZ : Hid (∀ j, j < xs.length → Z[j]?.getD 0 = xs[j]?.getD 0) := cZ
    have HBZ : Hid (∀ z ∈ Z, 0 ≤ z ∧ z ≤ 255) := bZ
    have H4 : Hid (nn / 2 ^ (8 * 3) = 0) := h4
    have t3 : ((Z.length : Int) == (xs.length : Int) + 3) = true := by rw [beq_iff_eq]; omega
    have lZ' : Z.length ≤ 304 := by omega
    have lZ'' : xs.length ≤ Z.length := by omega
    have lZ0 : 0 < Z.length := by omega
    clear hZ lZ gZ cZ bZ h4
    go_wp2_with fail
    refine (put_ok _ _ xs nn 3 _ _ (by decide) (by decide) h0 H4.out (by omega) (Nat.le_refl _) (by exact ha4.below (below_drewN (Below.refl _ _) _))).mono ?_
    rw [HZ.out, ← HLZ.out]
    rintro e W7 ⟨r7, rfl, o7, b7⟩
    have z7 := holds_of_row o7
    have b47 : Below W4.heap.size W4 W7 := (below_drewN (Below.refl _ W4) _).trans b7
    have ha7 := ha4.next b47
    have bb7 : Below w.heap.size w W7 := bb4.trans (b47.mono bb4.size)
    clear ha4 b47 b7 bb4
    rcases z7 with ⟨_, e⟩ | ⟨bz, oz, cz, rfl, hbz, hcz⟩
    · rw [e] at lZ0; exact absurd lZ0 (by simp)
    · have capZ := row_cap o7
      have hpre : Holds .u8 W7.heap.size W7 (.slice (some ⟨bz, oz, none⟩) xs.length cz) xs := .inr ⟨bz, oz, cz, rfl, hbz, fun j hj => by rw [hcz j (by omega), HCZ.out j hj]⟩
      have HCZ7 : Hid (∀ j, j < Z.length → W7.cell? ⟨bz, oz + j, none⟩ = some (.int .u8 (Z[j]?.getD 0))) := hcz
      have capX : xs.length ≤ cz := by omega
      clear o7 hcz
      go_wp2_with fail
      refine (get_ok bz oz cz Z xs.length 3 _ (by decide) (by decide) (by have := HLZ.out; omega) capZ (by omega) HBZ.out HCZ7.out).mono ?_
      rw [HGZ.out]
      rintro e w' ⟨rfl, rfl⟩
      clear HCZ7 HGZ HBZ
      go_wp2_with fail
      refine (bytes_any _ _ xs xs _ _ _ (by omega) hpre ha7).mono ?_
      rw [decide_eq_true rfl]
      rintro e w' ⟨rfl, q8, rfl⟩
      go_wp2_with fail
      refine (wakes_any _).mono ?_
      rintro e W8 ⟨rfl, b8⟩
      go_wp2
      go_ret
      exact ⟨rfl, (below_drewN bb7 _).trans (b8.mono bb7.size)⟩
  · have hr' : wrap64 ((IntKind.u64.wrap size).tmod 4) = 3 := hr
    clear hr
    obtain ⟨nn, hnn, h0, h1⟩ : ∃ nn : Int, bits .and .i64 n 4294967295 = nn ∧ 0 ≤ nn ∧ nn < 4294967296 := ⟨n % 4294967296, i64_low32 n, by omega, by omega⟩
    have h4 : nn / 2 ^ (8 * 4) = 0 := by show nn / 4294967296 = 0; omega
    obtain ⟨Z, hZ⟩ : ∃ l, xs ++ beBytes 4 nn = l := ⟨_, rfl⟩
    have lZ : Z.length = xs.length + 4 := by rw [← hZ, List.length_append, beBytes_len]
    have bZ : ∀ z ∈ Z, 0 ≤ z ∧ z ≤ 255 := fun z hz => (List.mem_append.1 (by rw [hZ]; exact hz)).elim (bx z) (be_bd 4 nn z)
    have gZ : beNum ((Z.drop xs.length).take 4) = nn := by
      rw [← hZ, List.drop_left, List.take_of_length_le (by rw [beBytes_len]; omega)]
      exact be_back 4 (by decide) (by decide) nn h0 (by show nn < 4294967296; exact h1)
    have cZ : ∀ j, j < xs.length → Z[j]?.getD 0 = xs[j]?.getD 0 := fun j hj => by rw [← hZ, List.getElem?_append_left hj]
    have HZ : Hid (xs ++ beBytes 4 nn = Z) := hZ
    have HLZ : Hid (Z.length = xs.length + 4) := lZ
    have HGZ : Hid (beNum ((Z.drop xs.length).take 4) = nn) := gZ
    have HCZ : Hid (∀ j, j < xs.length → Z[j]?.getD 0 = xs[j]?.getD 0) := cZ
    have HBZ : Hid (∀ z ∈ Z, 0 ≤ z ∧ z ≤ 255) := bZ
    have H4 : Hid (nn / 2 ^ (8 * 4) = 0) := h4
    have t3 : ((Z.length : Int) == (xs.length : Int) + 4) = true := by rw [beq_iff_eq]; omega
    have lZ' : Z.length ≤ 304 := by omega
    have lZ'' : xs.length ≤ Z.length := by omega
    have lZ0 : 0 < Z.length := by omega
    clear hZ lZ gZ cZ bZ h4
    go_wp2_with fail
    refine (put_ok _ _ xs nn 4 _ _ (by decide) (by decide) h0 H4.out (by omega) (Nat.le_refl _) (by exact ha4.below (below_drewN (Below.refl _ _) _))).mono ?_
    rw [HZ.out, ← HLZ.out]
    rintro e W7 ⟨r7, rfl, o7, b7⟩
    have z7 := holds_of_row o7
    have b47 : Below W4.heap.size W4 W7 := (below_drewN (Below.refl _ W4) _).trans b7
    have ha7 := ha4.next b47
    have bb7 : Below w.heap.size w W7 := bb4.trans (b47.mono bb4.size)
    clear ha4 b47 b7 bb4
    rcases z7 with ⟨_, e⟩ | ⟨bz, oz, cz, rfl, hbz, hcz⟩
    · rw [e] at lZ0; exact absurd lZ0 (by simp)
    · have capZ := row_cap o7
      have hpre : Holds .u8 W7.heap.size W7 (.slice (some ⟨bz, oz, none⟩) xs.length cz) xs := .inr ⟨bz, oz, cz, rfl, hbz, fun j hj => by rw [hcz j (by omega), HCZ.out j hj]⟩
      have HCZ7 : Hid (∀ j, j < Z.length → W7.cell? ⟨bz, oz + j, none⟩ = some (.int .u8 (Z[j]?.getD 0))) := hcz
      have capX : xs.length ≤ cz := by omega
      clear o7 hcz
      go_wp2_with fail
      refine (get_ok bz oz cz Z xs.length 4 _ (by decide) (by decide) (by have := HLZ.out; omega) capZ (by omega) HBZ.out HCZ7.out).mono ?_
      rw [HGZ.out]
      rintro e w' ⟨rfl, rfl⟩
      clear HCZ7 HGZ HBZ
      go_wp2_with fail
      refine (bytes_any _ _ xs xs _ _ _ (by omega) hpre ha7).mono ?_
      rw [decide_eq_true rfl]
      rintro e w' ⟨rfl, q8, rfl⟩
      go_wp2_with fail
      refine (wakes_any _).mono ?_
      rintro e W8 ⟨rfl, b8⟩
      go_wp2
      go_ret
      exact ⟨rfl, (below_drewN bb7 _).trans (b8.mono bb7.size)⟩

/-- The law, of whatever text and numbers. -/
theorem bitBack_walk (a0 : Option Addr) (len0 cap0 : Nat) (z0 : List Int) (a1 a2 : Int) (w : World) (w0 : IsRow .u8 w a0 len0 cap0 z0) :
    Calls Try.prog 5 #[.slice a0 len0 cap0, .int .i64 a1, .int .i64 a2] w fun e w' => e = .returned (.bool true) ∧ Below w.heap.size w w' := by
  obtain ⟨xs, rfl, hx, bx⟩ := holds_of_isRow w0
  by_cases h : 300 < xs.length
  · exact bitBack_long a0 _ cap0 a1 a2 w h
  · exact bitBack_short a0 cap0 xs a1 a2 (by omega) (bytes_bd bx) w hx

end Go.Proofs.Ytnbfgngeienecaa
