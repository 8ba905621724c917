/-
  What data's Make answers. (Written by tpl_datamake2.py.)
-/
import Derived.Test.YtpfhnefgibiedaaDataHead
namespace Go.Proofs.Ytpfhnefgibiedaa
open Go.RowKit

set_option maxRecDepth 100000 in
set_option maxHeartbeats 2000000 in
theorem DataMake_no (s r f : Int) (a : Option Addr) (n cap : Nat) (h : errD s r f n ≠ 0) (w : World) :
    Calls Try.prog 10 #[.agg #[.int .i64 s, .int .i64 r, .int .i64 f, .slice a n cap]] w fun e w' => e = .returned (.tuple #[.slice none 0 0, .int .i64 (errD s r f n)]) ∧ Below w.heap.size w w' := by
  have b1 : Below w.heap.size w (w.alloc (.cells #[.int .i64 s, .int .i64 r, .int .i64 f, .slice a n cap] 24)) := (Below.refl w.heap.size w).alloc (Nat.le_refl _) _
  by_cases hs : ¬ (0 ≤ s ∧ s < 1073741824)
  · have HS := isSeq_no s hs (w.alloc (.cells #[.int .i64 s, .int .i64 r, .int .i64 f, .slice a n cap] 24))
    rw [errD_arg (by rw [← Bool.not_eq_true, dArg_iff]; omega)]
    clear hs h
    go_enter Try.func10, Try.ntmps10
    go_wp2_with (first | (go_at_call 20; refine HS.mono ?_; rintro e w' ⟨rfl, rfl⟩))
    go_ret2
    exact ⟨rfl, b1⟩
  have hs : 0 ≤ s ∧ s < 1073741824 := Classical.not_not.1 hs
  have HS := isSeq_yes s hs (w.alloc (.cells #[.int .i64 s, .int .i64 r, .int .i64 f, .slice a n cap] 24))
  by_cases h1 : r < 0
  · have d1 : decide (r < 0) = true := decide_eq_true h1
    rw [errD_arg (by rw [← Bool.not_eq_true, dArg_iff]; omega)]
    clear hs h h1
    go_enter Try.func10, Try.ntmps10
    go_wp2_with (first | (go_at_call 20; refine HS.mono ?_; rintro e w' ⟨rfl, rfl⟩))
    go_ret2
    exact ⟨rfl, b1⟩
  have d1 : decide (r < 0) = false := decide_eq_false h1
  by_cases h2 : 255 < r
  · have d2 : decide (255 < r) = true := decide_eq_true h2
    rw [errD_arg (by rw [← Bool.not_eq_true, dArg_iff]; omega)]
    clear hs h h1 h2
    go_enter Try.func10, Try.ntmps10
    go_wp2_with (first | (go_at_call 20; refine HS.mono ?_; rintro e w' ⟨rfl, rfl⟩))
    go_ret2
    exact ⟨rfl, b1⟩
  have d2 : decide (255 < r) = false := decide_eq_false h2
  by_cases h3 : f < 0
  · have d3 : decide (f < 0) = true := decide_eq_true h3
    rw [errD_arg (by rw [← Bool.not_eq_true, dArg_iff]; omega)]
    clear hs h h1 h2 h3
    go_enter Try.func10, Try.ntmps10
    go_wp2_with (first | (go_at_call 20; refine HS.mono ?_; rintro e w' ⟨rfl, rfl⟩))
    go_ret2
    exact ⟨rfl, b1⟩
  have d3 : decide (f < 0) = false := decide_eq_false h3
  by_cases h4 : 65535 < f
  · have d4 : decide (65535 < f) = true := decide_eq_true h4
    rw [errD_arg (by rw [← Bool.not_eq_true, dArg_iff]; omega)]
    clear hs h h1 h2 h3 h4
    go_enter Try.func10, Try.ntmps10
    go_wp2_with (first | (go_at_call 20; refine HS.mono ?_; rintro e w' ⟨rfl, rfl⟩))
    go_ret2
    exact ⟨rfl, b1⟩
  have d4 : decide (65535 < f) = false := decide_eq_false h4
  have hA : dArg s r f = true := (dArg_iff _ _ _).2 (by omega)
  by_cases h5 : 1 ≤ n ∧ n ≤ 64
  · exact absurd (errD_zero.2 ⟨hA, h5⟩) h
  have HC := isCount_no (n : Int) (by omega) (w.alloc (.cells #[.int .i64 s, .int .i64 r, .int .i64 f, .slice a n cap] 24))
  rw [errD_len hA h5]
  clear hs h h1 h2 h3 h4 h5 hA
  go_enter Try.func10, Try.ntmps10
  go_wp2_with (first | (go_at_call 20; refine HS.mono ?_; rintro e w' ⟨rfl, rfl⟩) | (go_at_call 21; refine HC.mono ?_; rintro e w' ⟨rfl, rfl⟩))
  go_ret2
  exact ⟨rfl, b1⟩

set_option maxRecDepth 100000 in
set_option maxHeartbeats 4000000 in
theorem DataMake_at (s r f : Int) (a : Option Addr) (n cap : Nat) (xs : List Int) (hn : xs.length = n) (h : RightD s r f xs) (w : World) (ha : Holds .u8 w.heap.size w (.slice a n cap) xs) :
    Calls Try.prog 10 #[.agg #[.int .i64 s, .int .i64 r, .int .i64 f, .slice a n cap]] w fun e W' => ∃ q, e = .returned (.tuple #[q, .int .i64 0]) ∧ W'.ownsRow w.heap.size 5 1 q (n + 11) ((packD s r f xs).map (Value.int .u8)) ∧ Below w.heap.size w W' := by
  obtain ⟨hs, hr, hf, hx1, hx2⟩ := h
  have HN : Hid (xs.length = n) := hn
  have HPK : Hid ((headD s r f n ++ beBytes 2 (sum16 (headD s r f n) : Int)) ++ xs = packD s r f xs) := by
    show _ = _
    unfold packD
    rw [hn, List.append_assoc]
  rw [hn] at hx1 hx2
  have HBD : Hid (∀ z ∈ headD s r f n, 0 ≤ z ∧ z ≤ 255) := headD_bd hr (by omega)
  have HHL : Hid ((headD s r f n).length = 9) := headD_len s r f n
  have hq := sum16_lt (headD s r f n)
  have HQ : Hid (0 ≤ (sum16 (headD s r f n) : Int) ∧ (sum16 (headD s r f n) : Int) / 2 ^ (8 * 2) = 0) := ⟨by omega, by rw [show (2 : Int) ^ (8 * 2) = 65536 from rfl]; omega⟩
  have b1 : Below w.heap.size w (w.alloc (.cells #[.int .i64 s, .int .i64 r, .int .i64 f, .slice a n cap] 24)) := (Below.refl w.heap.size w).alloc (Nat.le_refl _) _
  have x1 := Box.new w 24 #[.int .i64 s, .int .i64 r, .int .i64 f, .slice a n cap]
  have HA : Hid (Holds .u8 w.heap.size w (.slice a n cap) xs) := ha
  have HS := isSeq_yes s hs (w.alloc (.cells #[.int .i64 s, .int .i64 r, .int .i64 f, .slice a n cap] 24))
  have HC := isCount_yes (n : Int) (by omega) (w.alloc (.cells #[.int .i64 s, .int .i64 r, .int .i64 f, .slice a n cap] 24))
  have HH := head_ok s r f a n cap hs hr hf hx2 (w.alloc (.cells #[.int .i64 s, .int .i64 r, .int .i64 f, .slice a n cap] 24))
  have d1 : decide (r < 0) = false := decide_eq_false (by omega)
  have d2 : decide (255 < r) = false := decide_eq_false (by omega)
  have d3 : decide (f < 0) = false := decide_eq_false (by omega)
  have d4 : decide (65535 < f) = false := decide_eq_false (by omega)
  obtain ⟨H, hH⟩ : ∃ H, headD s r f n = H := ⟨_, rfl⟩
  obtain ⟨Q, hQ⟩ : ∃ Q, sum16 H = Q := ⟨_, rfl⟩
  rw [hH] at HPK HBD HHL HQ HH
  rw [hQ] at HPK HQ
  have HSQ : Hid (sum16 H = Q) := hQ
  clear hn hs hr hf ha hq hH hQ
  go_enter Try.func10, Try.ntmps10
  go_wp2_with (first | (go_at_call 20; refine HS.mono ?_; rintro e w' ⟨rfl, rfl⟩) | (go_at_call 21; refine HC.mono ?_; rintro e w' ⟨rfl, rfl⟩))
  refine HH.mono ?_
  rintro e w2 ⟨ra, rc, rfl, h2, b2⟩
  have bb2 := b1.trans (b2.mono (by simp))
  have x2 := x1.next b2
  have HSm := Sum16_at ra 9 rc H HHL.out (by decide) HBD.out w2 _ h2
  rw [HSQ.out] at HSm
  have HP := put_atD ra 9 rc H HHL.out (Q : Int) 2 w2 _ (by decide) (by decide) HQ.out.1 HQ.out.2 (by decide) (Nat.le_refl _) h2
  clear HS HC HH b1 b2 x1 h2
  go_wp2_with fail
  refine HSm.mono ?_
  rintro e w3 ⟨rfl, rfl⟩
  go_wp2_with fail
  refine HP.mono ?_
  rintro e w3 ⟨qa, qc, rfl, o3, b3⟩
  have bb3 := bb2.trans (b3.mono bb2.size)
  have x3 := x2.next b3
  have k3 := x3.cell 3 _ rfl
  have hB3 := x3.lt
  have X5 : Hid (Box (w3.alloc (.cells #[.slice qa (9 + 2) qc, .slice a n cap] 22)) w3.heap.size 22 #[.slice qa (9 + 2) qc, .slice a n cap]) := Box.new w3 _ _
  have B5 : Hid (Below w3.heap.size w3 (w3.alloc (.cells #[.slice qa (9 + 2) qc, .slice a n cap] 22))) := (Below.refl _ _).alloc (Nat.le_refl _) _
  have hHL2 : (H ++ beBytes 2 (Q : Int)).length = 9 + 2 := by rw [List.length_append, beBytes_len, HHL.out]
  have HCc := concat2_ok w3.heap.size qa a qc cap (9 + 2) n (H ++ beBytes 2 (Q : Int)) xs hHL2 HN.out (by decide) (by omega) (by decide) (w3.alloc (.cells #[.slice qa (9 + 2) qc, .slice a n cap] 22)) (X5.out.cell 0 _ rfl) (X5.out.cell 1 _ rfl) ((holds_of_row o3).next B5.out) (((HA.out.below bb3).mono bb3.size).next B5.out)
  rw [HPK.out] at HCc
  have HW : Hid (Below w.heap.size w w3) := bb3
  clear HP HSm x2 x3 b3 bb2 bb3 o3 hHL2
  go_wp2_with fail
  refine HCc.mono ?_
  rintro e w6 ⟨r6, rfl, o6, b6⟩
  have b7 := HW.out.trans ((B5.out.trans (b6.mono (by simp))).mono HW.out.size)
  have o7 : w6.ownsRow w.heap.size 5 1 r6 (n + 11) ((packD s r f xs).map (Value.int .u8)) := by
    have := row_base o6 (show w.heap.size ≤ (w3.alloc (.cells #[.slice qa (9 + 2) qc, .slice a n cap] 22)).heap.size by have := HW.out.size; simp; omega)
    rw [show 9 + 2 + n = n + 11 by omega] at this
    exact this
  clear HCc o6 b6
  go_wp2
  go_ret2
  exact ⟨_, rfl, o7, b7⟩

theorem DataMake_ok (s r f : Int) (a : Option Addr) (cap : Nat) (xs : List Int) (h : RightD s r f xs) (_bx : ∀ z ∈ xs, 0 ≤ z ∧ z ≤ 255) (w : World) (ha : Holds .u8 w.heap.size w (.slice a xs.length cap) xs) :
    Calls Try.prog 10 #[.agg #[.int .i64 s, .int .i64 r, .int .i64 f, .slice a xs.length cap]] w fun e W' => ∃ q, e = .returned (.tuple #[q, .int .i64 0]) ∧ W'.ownsRow w.heap.size 5 1 q (xs.length + 11) ((packD s r f xs).map (Value.int .u8)) ∧ Below w.heap.size w W' := DataMake_at s r f a xs.length cap xs rfl h w ha

end Go.Proofs.Ytpfhnefgibiedaa
