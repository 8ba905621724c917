/-
  What data's head and Make answer. (Written by tpl_datamake.py.)
-/
import Derived.Test.YtpfhnefgibiedaaDataBulk
namespace Go.Proofs.Ytpfhnefgibiedaa
open Go.RowKit

theorem put_atD (a : Option Addr) (n cap : Nat) (zs : List Int) (hn : zs.length = n) (x : Int) (s : Nat) (w : World) (n₀ : Nat) (h1 : 1 ≤ s) (h2 : s ≤ 4) (h3 : 0 ≤ x) (h4 : x / 2 ^ (8 * s) = 0) (h5 : n ≤ 4096 - s) (hn₀ : n₀ ≤ w.heap.size) (hH : Holds .u8 n₀ w (.slice a n cap) zs) :
    Calls Try.prog 23 #[.slice a n cap, .int .i64 x, .int .i64 s] w fun e W' => ∃ ra rc, e = .returned (.tuple #[.slice ra (n + s) rc, .int .i64 0]) ∧ W'.ownsRow w.heap.size 5 1 (.slice ra (n + s) rc) (n + s) ((zs ++ beBytes s x).map (Value.int .u8)) ∧ Below w.heap.size w W' := by
  subst hn
  refine (put_ok a cap zs x s w n₀ h1 h2 h3 h4 h5 hn₀ hH).mono ?_
  rintro e W' ⟨r, rfl, o, b⟩
  obtain ⟨ra, rc, rfl⟩ := row_shapeB o
  exact ⟨ra, rc, rfl, o, b⟩

theorem beBytes_one {r : Int} (h : 0 ≤ r ∧ r ≤ 255) : beBytes 1 r = [r] := by
  simp [beBytes, List.range, List.range.loop]
  omega

theorem headD_puts {s r f : Int} {n : Nat} (hr : 0 ≤ r ∧ r ≤ 255) (hn : n ≤ 255) : (((([68] ++ beBytes 4 s) ++ beBytes 1 r) ++ beBytes 2 f) ++ beBytes 1 (n : Int)) = headD s r f n := by
  rw [beBytes_one hr, beBytes_one (r := (n : Int)) (by omega)]
  simp [headD]

set_option maxRecDepth 100000 in
set_option maxHeartbeats 4000000 in
theorem head_ok (s r f : Int) (a : Option Addr) (n cap : Nat) (hs : 0 ≤ s ∧ s < 1073741824) (hr : 0 ≤ r ∧ r ≤ 255) (hf : 0 ≤ f ∧ f ≤ 65535) (hn : n ≤ 64) (w : World) :
    Calls Try.prog 22 #[.agg #[.int .i64 s, .int .i64 r, .int .i64 f, .slice a n cap]] w fun e W' => ∃ ra rc, e = .returned (.tuple #[.slice ra 9 rc, .int .i64 0]) ∧ Holds .u8 W'.heap.size W' (.slice ra 9 rc) (headD s r f n) ∧ Below w.heap.size w W' := by
  have HF : Hid _ := headD_puts (s := s) (f := f) hr (show n ≤ 255 by omega)
  have d1 : s / 2 ^ (8 * 4) = 0 := by rw [show (2 : Int) ^ (8 * 4) = 4294967296 from rfl]; omega
  have d2 : r / 2 ^ (8 * 1) = 0 := by rw [show (2 : Int) ^ (8 * 1) = 256 from rfl]; omega
  have d3 : f / 2 ^ (8 * 2) = 0 := by rw [show (2 : Int) ^ (8 * 2) = 65536 from rfl]; omega
  have d4 : (n : Int) / 2 ^ (8 * 1) = 0 := by rw [show (2 : Int) ^ (8 * 1) = 256 from rfl]; omega
  have D1 : Hid (0 ≤ s ∧ s / 2 ^ (8 * 4) = 0) := ⟨hs.1, d1⟩
  have D2 : Hid (0 ≤ r ∧ r / 2 ^ (8 * 1) = 0) := ⟨hr.1, d2⟩
  have D3 : Hid (0 ≤ f ∧ f / 2 ^ (8 * 2) = 0) := ⟨hf.1, d3⟩
  have D4 : Hid (0 ≤ (n : Int) ∧ (n : Int) / 2 ^ (8 * 1) = 0) := ⟨by omega, d4⟩
  clear d1 d2 d3 d4 hs hr hf
  obtain ⟨l0, hl0⟩ : ∃ l, ([68] : List Int) = l := ⟨_, rfl⟩
  have K0 : Hid (l0.length = 1) := by rw [← hl0]; rfl
  obtain ⟨l1, hl1⟩ : ∃ l, l0 ++ beBytes 4 s = l := ⟨_, rfl⟩
  have K1 : Hid (l1.length = 5) := by show l1.length = 5; rw [← hl1, List.length_append, beBytes_len, K0.out]
  obtain ⟨l2, hl2⟩ : ∃ l, l1 ++ beBytes 1 r = l := ⟨_, rfl⟩
  have K2 : Hid (l2.length = 6) := by show l2.length = 6; rw [← hl2, List.length_append, beBytes_len, K1.out]
  obtain ⟨l3, hl3⟩ : ∃ l, l2 ++ beBytes 2 f = l := ⟨_, rfl⟩
  have K3 : Hid (l3.length = 8) := by show l3.length = 8; rw [← hl3, List.length_append, beBytes_len, K2.out]
  obtain ⟨l4, hl4⟩ : ∃ l, l3 ++ beBytes 1 (n : Int) = l := ⟨_, rfl⟩
  have K4 : Hid (l4.length = 9) := by show l4.length = 9; rw [← hl4, List.length_append, beBytes_len, K3.out]
  rw [hl0, hl1, hl2, hl3, hl4] at HF
  have E0 : Hid ([68] = l0) := hl0
  have E1 : Hid (l0 ++ beBytes 4 s = l1) := hl1
  have E2 : Hid (l1 ++ beBytes 1 r = l2) := hl2
  have E3 : Hid (l2 ++ beBytes 2 f = l3) := hl3
  have E4 : Hid (l3 ++ beBytes 1 (n : Int) = l4) := hl4
  clear hl0 hl1 hl2 hl3 hl4
  have b1 : Below w.heap.size w (w.alloc (.cells #[.int .i64 s, .int .i64 r, .int .i64 f, .slice a n cap] 24)) := (Below.refl w.heap.size w).alloc (Nat.le_refl _) _
  go_enter Try.func22, Try.ntmps22
  go_wp2
  obtain ⟨W3, hW3⟩ : ∃ W, ((w.alloc (.cells #[.int .i64 s, .int .i64 r, .int .i64 f, .slice a n cap] 24)).alloc (.cells #[.int .u8 68] 5)).alloc (.cells #[.int .i64 s, .int .i64 4, .int .i64 r, .int .i64 1, .int .i64 f, .int .i64 2, .int .i64 (n : Int), .int .i64 1] 54) = W := ⟨_, rfl⟩
  have hz3 : W3.heap.size = w.heap.size + 3 := by rw [← hW3]; simp
  have bb3 : Below w.heap.size w W3 := by
    rw [← hW3]
    exact (b1.alloc (by simp) _).alloc (by simp; omega) _
  have x3 : Box W3 (w.heap.size + 1 + 1) 54 #[.int .i64 s, .int .i64 4, .int .i64 r, .int .i64 1, .int .i64 f, .int .i64 2, .int .i64 (n : Int), .int .i64 1] := by
    have := Box.new ((w.alloc (.cells #[.int .i64 s, .int .i64 r, .int .i64 f, .slice a n cap] 24)).alloc (.cells #[.int .u8 68] 5)) 54 #[.int .i64 s, .int .i64 4, .int .i64 r, .int .i64 1, .int .i64 f, .int .i64 2, .int .i64 (n : Int), .int .i64 1]
    rw [hW3] at this
    simpa using this
  have h3 : Holds .u8 W3.heap.size W3 (.slice (some ⟨w.heap.size + 1, 0, none⟩) 1 1) l0 := by
    have := (box_holds1 (Box.new (w.alloc (.cells #[.int .i64 s, .int .i64 r, .int .i64 f, .slice a n cap] 24)) 5 #[.int .u8 68])).next ((Below.refl _ _).alloc (Nat.le_refl _) (.cells #[.int .i64 s, .int .i64 4, .int .i64 r, .int .i64 1, .int .i64 f, .int .i64 2, .int .i64 (n : Int), .int .i64 1] 54))
    rw [hW3, E0.out] at this
    simpa using this
  have H3 : Hid (Holds .u8 W3.heap.size W3 (.slice (some ⟨w.heap.size + 1, 0, none⟩) 1 1) l0) := h3
  have X3 : Hid (Box W3 (w.heap.size + 1 + 1) 54 #[.int .i64 s, .int .i64 4, .int .i64 r, .int .i64 1, .int .i64 f, .int .i64 2, .int .i64 (n : Int), .int .i64 1]) := x3
  have BB3 : Hid (Below w.heap.size w W3) := bb3
  have HZ3 : Hid (W3.heap.size = w.heap.size + 3) := hz3
  rw [hW3]
  clear hW3 h3 x3 bb3 b1 hz3
  go_loopw [4, 25] (fun v i wr => ((i = .int .i64 0 ∧ ∃ a c, v = .slice a 1 c ∧ Holds .u8 wr.heap.size wr (.slice a 1 c) l0) ∨ (i = .int .i64 1 ∧ ∃ a c, v = .slice a 5 c ∧ Holds .u8 wr.heap.size wr (.slice a 5 c) l1) ∨ (i = .int .i64 2 ∧ ∃ a c, v = .slice a 6 c ∧ Holds .u8 wr.heap.size wr (.slice a 6 c) l2) ∨ (i = .int .i64 3 ∧ ∃ a c, v = .slice a 8 c ∧ Holds .u8 wr.heap.size wr (.slice a 8 c) l3) ∨ (i = .int .i64 4 ∧ ∃ a c, v = .slice a 9 c ∧ Holds .u8 wr.heap.size wr (.slice a 9 c) l4)) ∧ Below W3.heap.size W3 wr) (fun _ i _ => 4 - (intOf i).toNat)
  case atStart => exact ⟨.inl ⟨rfl, _, _, rfl, H3.out⟩, Below.refl _ _⟩
  case round =>
    obtain ⟨hc, hbw⟩ := hrel
    have X4 := X3.out.next hbw
    have x0 := X4.cell 0 _ rfl
    have x1 := X4.cell 1 _ rfl
    have x2 := X4.cell 2 _ rfl
    have x3 := X4.cell 3 _ rfl
    have x4 := X4.cell 4 _ rfl
    have x5 := X4.cell 5 _ rfl
    have x6 := X4.cell 6 _ rfl
    have x7 := X4.cell 7 _ rfl
    have hB : w.heap.size + 1 + 1 < wr.heap.size := X4.lt
    have HBW : Hid (Below W3.heap.size W3 wr) := hbw
    have HX4 : Hid _ := X4
    clear hbw X4
    rcases hc with ⟨rfl, a4, c4, rfl, h4⟩ | ⟨rfl, a4, c4, rfl, h4⟩ | ⟨rfl, a4, c4, rfl, h4⟩ | ⟨rfl, a4, c4, rfl, h4⟩ | ⟨rfl, a4, c4, rfl, h4⟩
    · have q4 : Below wr.heap.size wr (wr.alloc (.cells #[.int .i64 s, .int .i64 4] 54)) := (Below.refl _ _).alloc (Nat.le_refl _) _
      have HP := put_atD a4 1 c4 l0 K0.out s 4 (wr.alloc (.cells #[.int .i64 s, .int .i64 4] 54)) _ (by decide) (by decide) D1.out.1 D1.out.2 (by decide) (Nat.le_refl _) (h4.next q4)
      rw [E1.out] at HP
      clear h4
      go_wp2_with fail
      refine HP.mono ?_
      rintro e w5 ⟨ra, rc, rfl, o5, b5⟩
      have h5 : Holds .u8 w5.heap.size w5 (.slice ra 5 rc) l1 := holds_of_row o5
      have b6 := HBW.out.trans ((q4.trans (b5.mono (by simp))).mono HBW.out.size)
      clear HP o5 b5 q4
      go_wp2
      exact ⟨⟨.inr (.inl ⟨by go_num, ra, rc, rfl, h5⟩), b6⟩, by simp [intOf]⟩
    · have q4 : Below wr.heap.size wr (wr.alloc (.cells #[.int .i64 r, .int .i64 1] 54)) := (Below.refl _ _).alloc (Nat.le_refl _) _
      have HP := put_atD a4 5 c4 l1 K1.out r 1 (wr.alloc (.cells #[.int .i64 r, .int .i64 1] 54)) _ (by decide) (by decide) D2.out.1 D2.out.2 (by decide) (Nat.le_refl _) (h4.next q4)
      rw [E2.out] at HP
      clear h4
      go_wp2_with fail
      refine HP.mono ?_
      rintro e w5 ⟨ra, rc, rfl, o5, b5⟩
      have h5 : Holds .u8 w5.heap.size w5 (.slice ra 6 rc) l2 := holds_of_row o5
      have b6 := HBW.out.trans ((q4.trans (b5.mono (by simp))).mono HBW.out.size)
      clear HP o5 b5 q4
      go_wp2
      exact ⟨⟨.inr (.inr (.inl ⟨by go_num, ra, rc, rfl, h5⟩)), b6⟩, by simp [intOf]⟩
    · have q4 : Below wr.heap.size wr (wr.alloc (.cells #[.int .i64 f, .int .i64 2] 54)) := (Below.refl _ _).alloc (Nat.le_refl _) _
      have HP := put_atD a4 6 c4 l2 K2.out f 2 (wr.alloc (.cells #[.int .i64 f, .int .i64 2] 54)) _ (by decide) (by decide) D3.out.1 D3.out.2 (by decide) (Nat.le_refl _) (h4.next q4)
      rw [E3.out] at HP
      clear h4
      go_wp2_with fail
      refine HP.mono ?_
      rintro e w5 ⟨ra, rc, rfl, o5, b5⟩
      have h5 : Holds .u8 w5.heap.size w5 (.slice ra 8 rc) l3 := holds_of_row o5
      have b6 := HBW.out.trans ((q4.trans (b5.mono (by simp))).mono HBW.out.size)
      clear HP o5 b5 q4
      go_wp2
      exact ⟨⟨.inr (.inr (.inr (.inl ⟨by go_num, ra, rc, rfl, h5⟩))), b6⟩, by simp [intOf]⟩
    · have q4 : Below wr.heap.size wr (wr.alloc (.cells #[.int .i64 (n : Int), .int .i64 1] 54)) := (Below.refl _ _).alloc (Nat.le_refl _) _
      have HP := put_atD a4 8 c4 l3 K3.out (n : Int) 1 (wr.alloc (.cells #[.int .i64 (n : Int), .int .i64 1] 54)) _ (by decide) (by decide) D4.out.1 D4.out.2 (by decide) (Nat.le_refl _) (h4.next q4)
      rw [E4.out] at HP
      clear h4
      go_wp2_with fail
      refine HP.mono ?_
      rintro e w5 ⟨ra, rc, rfl, o5, b5⟩
      have h5 : Holds .u8 w5.heap.size w5 (.slice ra 9 rc) l4 := holds_of_row o5
      have b6 := HBW.out.trans ((q4.trans (b5.mono (by simp))).mono HBW.out.size)
      clear HP o5 b5 q4
      go_wp2
      exact ⟨⟨.inr (.inr (.inr (.inr ⟨by go_num, ra, rc, rfl, h5⟩))), b6⟩, by simp [intOf]⟩
    · have b6 := BB3.out.trans (HBW.out.mono BB3.out.size)
      have h6 := h4
      rw [HF.out] at h6
      go_wp2
      go_ret2
      exact ⟨a4, c4, rfl, h6, b6⟩

end Go.Proofs.Ytpfhnefgibiedaa
