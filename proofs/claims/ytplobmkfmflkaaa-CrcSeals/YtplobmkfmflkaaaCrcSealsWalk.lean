/-
  CrcSeals: the walk: whatever the text, the law answers true, and nothing that lay has turned.
-/
import Derived.Test.YtplobmkfmflkaaaCrcWakes
import Derived.Test.YtplobmkfmflkaaaCrcText
import Derived.Test.YtplobmkfmflkaaaCrcSealed
import Derived.Test.YtplobmkfmflkaaaRefSealed
namespace Go.Proofs.Ytplobmkfmflkaaa
open Go.RowKit

theorem isRow_cap {k : IntKind} {w : World} {a : Option Addr} {len cap : Nat} {zs : List Int} (h : IsRow k w a len cap zs) : len ≤ cap := by
  rcases h with ⟨_, rfl, _, _⟩ | ⟨_, _, h, _⟩
  · omega
  · exact h

theorem refSealed_at (a : Option Addr) (n cap : Nat) (xs : List Int) (hn : xs.length = n) (hl : n ≤ 1000000) (hc : n ≤ cap) (bx : ∀ z ∈ xs, 0 ≤ z ∧ z ≤ 255) (w : World) (ha : Holds .u8 w.heap.size w (.slice a n cap) xs) :
    Calls Try.prog 23 #[.slice a n cap] w fun e W' => e = .returned (.bool (isSealed xs)) ∧ Below w.heap.size w W' := by
  subst hn; exact refSealed_any a cap xs hl hc bx w ha

set_option maxRecDepth 100000 in
set_option maxHeartbeats 4000000 in
theorem crcSeals_short (a : Option Addr) (cap : Nat) (xs : List Int) (hl : xs.length ≤ 300) (hcap : xs.length ≤ cap) (bx : ∀ z ∈ xs, 0 ≤ z ∧ z ≤ 255) (w : World) (ha : Holds .u8 w.heap.size w (.slice a xs.length cap) xs) :
    Calls Try.prog 5 #[.slice a xs.length cap] w fun e w' => e = .returned (.bool true) ∧ Below w.heap.size w w' := by
  have HB : Hid (∀ z ∈ xs, 0 ≤ z ∧ z ≤ 255) := bx
  clear bx
  go_enter Try.func5, Try.ntmps5
  go_wp2_with fail
  refine (twin_any _ xs _ (by omega) w ha).mono ?_
  rintro e w1 ⟨r1, rfl, o1, b1⟩
  have h1 := holds_of_row o1
  obtain ⟨a1, c1, rfl⟩ := h1.shape
  have hc1 := row_cap o1
  have ha1 := ha.next b1
  clear o1 ha
  go_wp2_with fail
  refine (Seal_any a1 c1 xs (by omega) HB.out w1 h1).mono ?_
  rintro e w2 ⟨r2, rfl, o2, b2⟩
  have HLX : Hid ((sealL xs).length = xs.length + 4) := sealL_len xs
  have hx := holds_of_row o2
  obtain ⟨a2, c2, hr2⟩ := hx.shape
  rw [HLX.out] at hr2
  subst hr2
  have hc2 := row_cap o2
  have HBX : Hid (∀ z ∈ sealL xs, 0 ≤ z ∧ z ≤ 255) := sealL_bd HB.out
  have HSX : Hid (isSealed (sealL xs) = true) := isSealed_sealL xs
  have ha2 := ha1.next b2
  have h2 := h1.next b2
  clear o2 ha1 h1
  obtain ⟨X, hX⟩ : ∃ X, sealL xs = X := ⟨_, rfl⟩
  have HX : Hid (sealL xs = X) := hX
  rw [hX] at HLX HBX HSX hx
  clear hX
  obtain ⟨s0, hs0⟩ : ∃ s, isSealed xs = s := ⟨_, rfl⟩
  have HS0 : Hid (isSealed xs = s0) := hs0
  clear hs0
  have qq : (s0 != s0) = false := by simp
  go_wp2_with fail
  refine (Sealed_any a1 c1 xs (by omega) hc1 HB.out w2 h2).mono ?_
  rw [HS0.out]
  rintro e w3 ⟨rfl, b3⟩
  have ha3 := ha2.next b3
  have h3 := h2.next b3
  have hx3 := hx.next b3
  clear ha2 h2 hx
  go_wp2_with fail
  refine (refSeal_any a cap xs (by omega) HB.out w3 ha3).mono ?_
  rintro e w4 ⟨r4, rfl, o4, b4⟩
  have hy4 := holds_of_row o4
  rw [HX.out] at hy4
  have ha4 := ha3.next b4
  have h4 := h3.next b4
  have hx4 := hx3.next b4
  clear ha3 h3 hx3 o4
  go_wp2_with fail
  refine (bytes_any _ _ X X _ _ w4 (by have := HLX.out; omega) hx4 hy4).mono ?_
  rw [decide_eq_true rfl]
  rintro e w5 ⟨rfl, q5, rfl⟩
  clear hy4
  go_wp2_with fail
  refine (refSealed_any a cap xs (by omega) hcap HB.out (w4.drewN q5) ha4).mono ?_
  rw [HS0.out]
  rintro e w6 ⟨rfl, b6⟩
  have b46 : Below w4.heap.size w4 w6 := (below_drewN (Below.refl _ w4) q5).trans b6
  have ha6 := ha4.next b46
  have h6 := h4.next b46
  have hx6 := hx4.next b46
  clear ha4 h4 hx4 b6
  go_wp2_with fail
  refine (bytes_any _ _ xs xs _ _ w6 (by omega) h6 ha6).mono ?_
  rw [decide_eq_true rfl]
  rintro e w7 ⟨rfl, q7, rfl⟩
  have hx7 : Holds .u8 (w6.drewN q7).heap.size (w6.drewN q7) _ X := hx6
  clear h6 ha6
  have HT : Hid ((X.take (xs.length + 3)).length = xs.length + 3) := by
    show (X.take (xs.length + 3)).length = xs.length + 3
    rw [List.length_take, HLX.out]; omega
  have bb1 : Below w.heap.size w w2 := b1.trans (b2.mono b1.size)
  have bb2 : Below w.heap.size w w3 := bb1.trans (b3.mono bb1.size)
  have bb3 : Below w.heap.size w w4 := bb2.trans (b4.mono bb2.size)
  have bb4 : Below w.heap.size w (w6.drewN q7) := below_drewN (bb3.trans (b46.mono bb3.size)) q7
  clear b1 b2 b3 b4 bb1 bb2 bb3 b46
  obtain ⟨V, hV⟩ : ∃ V, w6.drewN q7 = V := ⟨_, rfl⟩
  rw [hV] at hx7 bb4 ⊢
  clear hV
  go_wp2_with fail
  refine (Sealed_at a2 (xs.length + 4) c2 X HLX.out (by omega) hc2 HBX.out V hx7).mono ?_
  rw [HSX.out]
  rintro e w8 ⟨rfl, b8⟩
  have hx8 := hx7.next b8
  have ht8 : Holds .u8 w8.heap.size w8 (.slice a2 (xs.length + 3) c2) (X.take (xs.length + 3)) := by
    have := holds_takeB (zs := X) (by rw [HLX.out]; exact hx8) (xs.length + 3) (by rw [HLX.out]; omega)
    rwa [HT.out] at this
  have HBT : Hid (∀ z ∈ X.take (xs.length + 3), 0 ≤ z ∧ z ≤ 255) := fun z hz => HBX.out z (List.mem_of_mem_take hz)
  obtain ⟨s1, hs1⟩ : ∃ s, isSealed (X.take (xs.length + 3)) = s := ⟨_, rfl⟩
  have HS1 : Hid (isSealed (X.take (xs.length + 3)) = s1) := hs1
  clear hs1 hx8 hx7 hx6
  have e3 : (xs.length : Int) + 4 - 1 = ((xs.length + 3 : Nat) : Int) := by omega
  have hc3 : xs.length + 3 ≤ c2 := by omega
  have q1 : (s1 == s1) = true := by simp
  go_wp2_with fail
  refine (Sealed_at a2 (xs.length + 3) c2 (X.take (xs.length + 3)) HT.out (by omega) hc3 HBT.out w8 ht8).mono ?_
  rw [HS1.out]
  rintro e w9 ⟨rfl, b9⟩
  have ht9 := ht8.next b9
  clear ht8
  go_wp2_with fail
  refine (refSealed_at a2 (xs.length + 3) c2 (X.take (xs.length + 3)) HT.out (by omega) hc3 HBT.out w9 ht9).mono ?_
  rw [HS1.out]
  rintro e w10 ⟨rfl, b10⟩
  clear ht9
  go_wp2_with fail
  refine (wakes_any _).mono ?_
  rintro e w11 ⟨rfl, hw⟩
  go_wp2
  go_ret
  have bb5 := bb4.trans (b8.mono bb4.size)
  have bb6 := bb5.trans (b9.mono bb5.size)
  have bb7 := bb6.trans (b10.mono bb6.size)
  exact ⟨rfl, bb7.trans (hw.mono bb7.size)⟩

set_option maxRecDepth 100000 in
set_option maxHeartbeats 2000000 in
theorem crcSeals_long (a : Option Addr) (n cap : Nat) (w : World) (h : 300 < n) :
    Calls Try.prog 5 #[.slice a n cap] w fun e w' => e = .returned (.bool true) ∧ Below w.heap.size w w' := by
  go_enter Try.func5, Try.ntmps5
  go_wp2
  go_ret
  exact ⟨rfl, Below.refl _ _⟩

/-- The law, of whatever text. -/
theorem crcSeals_walk (a0 : Option Addr) (len0 cap0 : Nat) (z0 : List Int) (w : World) (w0 : IsRow .u8 w a0 len0 cap0 z0) :
    Calls Try.prog 5 #[.slice a0 len0 cap0] w fun e w' => e = .returned (.bool true) ∧ Below w.heap.size w w' := by
  obtain ⟨xs, rfl, hx, bx⟩ := holds_of_isRow w0
  by_cases h : 300 < xs.length
  · exact crcSeals_long a0 _ cap0 w h
  · exact crcSeals_short a0 cap0 xs (by omega) (isRow_cap w0) (bytes_bd bx) w hx

end Go.Proofs.Ytplobmkfmflkaaa
