/-
  What package ack answers (isNext, Make, take, Read, Has).
-/
import Derived.Test.YtmjidhnlofpliabM14
import Derived.Test.YtmjidhnlofpliabM16
import Derived.Test.YtmjidhnlofpliabM17
namespace Go.Proofs.Ytmjidhnlofpliab
open Go.RowKit

set_option maxHeartbeats 400000 in
theorem isNext_any (z : Int) (w : World) : Calls Try.prog 40 #[.int .i64 z] w fun e w' => e = .returned (.bool (aArg z)) ∧ w = w' := by
  unfold aArg
  by_cases h1 : 0 ≤ z
  · have d1 : decide (0 ≤ z) = true := decide_eq_true h1
    rw [d1, Bool.true_and]
    go_enter Try.func40, Try.ntmps40
    go_wp2
    go_ret
    exact ⟨rfl, rfl⟩
  · have d1 : decide (0 ≤ z) = false := decide_eq_false h1
    rw [d1, Bool.false_and]
    go_enter Try.func40, Try.ntmps40
    go_wp2
    go_ret
    exact ⟨rfl, rfl⟩

theorem put_atA (a : Option Addr) (n cap : Nat) (zs : List Int) (hn : zs.length = n) (x : Int) (s : Nat) (w : World) (n₀ : Nat) (h1 : 1 ≤ s) (h2 : s ≤ 4) (h3 : 0 ≤ x) (h4 : x / 2 ^ (8 * s) = 0) (h5 : n ≤ 4096 - s) (hn₀ : n₀ ≤ w.heap.size) (hH : Holds .u8 n₀ w (.slice a n cap) zs) :
    Calls Try.prog 41 #[.slice a n cap, .int .i64 x, .int .i64 s] w fun e W' => ∃ ra rc, e = .returned (.tuple #[.slice ra (n + s) rc, .int .i64 0]) ∧ W'.ownsRow w.heap.size 5 1 (.slice ra (n + s) rc) (n + s) ((zs ++ beBytes s x).map (Value.int .u8)) ∧ Below w.heap.size w W' := by
  subst hn
  refine (put_ok a cap zs x s w n₀ h1 h2 h3 h4 h5 hn₀ hH).mono ?_
  rintro e W' ⟨r, rfl, o, b⟩
  obtain ⟨ra, rc, rfl⟩ := row_shapeA o
  exact ⟨ra, rc, rfl, o, b⟩
theorem seal_atA (a : Option Addr) (n cap : Nat) (xs : List Int) (hn : xs.length = n) (hl : n ≤ 4092) (bx : ∀ z ∈ xs, 0 ≤ z ∧ z ≤ 255) (w : World) (ha : Holds .u8 w.heap.size w (.slice a n cap) xs) :
    Calls Try.prog 42 #[.slice a n cap] w fun e W' => ∃ r, e = .returned (.tuple #[r, .int .i64 0]) ∧ W'.ownsRow w.heap.size 5 1 r (n + 4) ((sealL xs).map (Value.int .u8)) ∧ Below w.heap.size w W' := by
  subst hn
  exact Seal_any a cap xs hl bx w ha

set_option maxRecDepth 100000 in
set_option maxHeartbeats 2000000 in
theorem AckMake_ok (n b : Int) (h0 : 0 ≤ n) (h1 : n ≤ 1073741824) (hb0 : 0 ≤ b) (hb1 : b < 4294967296) (w : World) :
    Calls Try.prog 19 #[.agg #[.int .i64 n, .int .u32 b]] w fun e W' => ∃ q, e = .returned (.tuple #[q, .int .i64 0]) ∧ W'.ownsRow w.heap.size 5 1 q 13 ((packA n b).map (Value.int .u8)) ∧ Below w.heap.size w W' := by
  have b1 : Below w.heap.size w (w.alloc (.cells #[.int .i64 n, .int .u32 b] 61)) := (Below.refl w.heap.size w).alloc (Nat.le_refl _) _
  have x1 := Box.new w 61 #[.int .i64 n, .int .u32 b]
  have HN := isNext_any n (w.alloc (.cells #[.int .i64 n, .int .u32 b] 61))
  rw [(aArg_iff n).2 ⟨h0, h1⟩] at HN
  have d1 : n / 2 ^ (8 * 4) = 0 := by rw [show (2 : Int) ^ (8 * 4) = 4294967296 from rfl]; omega
  have d2 : b / 2 ^ (8 * 4) = 0 := by rw [show (2 : Int) ^ (8 * 4) = 4294967296 from rfl]; omega
  have D1 : Hid (0 ≤ n ∧ n / 2 ^ (8 * 4) = 0) := ⟨h0, d1⟩
  have D2 : Hid (0 ≤ b ∧ b / 2 ^ (8 * 4) = 0) := ⟨hb0, d2⟩
  have ewb : IntKind.i64.wrap b = b := by rw [IntKind.wrap_i64]; omega
  obtain ⟨l0, hl0⟩ : ∃ l : List Int, [65] = l := ⟨_, rfl⟩
  have K0 : Hid (l0.length = 1) := by show l0.length = 1; rw [← hl0]; rfl
  obtain ⟨l1, hl1⟩ : ∃ l, l0 ++ beBytes 4 n = l := ⟨_, rfl⟩
  have K1 : Hid (l1.length = 1 + 4) := by show l1.length = 5; rw [← hl1, List.length_append, beBytes_len, K0.out]
  obtain ⟨l2, hl2⟩ : ∃ l, l1 ++ beBytes 4 b = l := ⟨_, rfl⟩
  have K2 : Hid (l2.length = 1 + 4 + 4) := by show l2.length = 9; rw [← hl2, List.length_append, beBytes_len, K1.out]
  have E : l2 = bodyA n b := by rw [← hl2, ← hl1, ← hl0]; simp [bodyA]
  have HP : Hid (sealL l2 = packA n b) := by show sealL l2 = packA n b; rw [E]; rfl
  have HBD : Hid (∀ z ∈ l2, 0 ≤ z ∧ z ≤ 255) := by show ∀ z ∈ l2, 0 ≤ z ∧ z ≤ 255; rw [E]; exact bodyA_bd n b
  have E0 : Hid ([65] = l0) := hl0
  have E1 : Hid (l0 ++ beBytes 4 n = l1) := hl1
  have E2 : Hid (l1 ++ beBytes 4 b = l2) := hl2
  clear hl0 hl1 hl2 E h0 h1 hb0 hb1 d1 d2
  obtain ⟨w1, hw1⟩ : ∃ w1, w.alloc (.cells #[.int .i64 n, .int .u32 b] 61) = w1 := ⟨_, rfl⟩
  have HW : Hid (w.alloc (.cells #[.int .i64 n, .int .u32 b] 61) = w1) := hw1
  rw [hw1] at b1 x1
  clear hw1
  go_enter Try.func19, Try.ntmps19
  go_wp2_with fail
  refine HN.mono ?_
  rintro e w' ⟨rfl, rfl⟩
  clear HN
  rw [HW.out]
  clear HW
  have b2 : Below w1.heap.size w1 (w1.alloc (.cells #[.int .u8 65] 5)) := (Below.refl _ _).alloc (Nat.le_refl _) _
  have bb2 := b1.trans (b2.mono b1.size)
  have x2 := x1.next b2
  have h2 : Holds .u8 (w1.alloc (.cells #[.int .u8 65] 5)).heap.size (w1.alloc (.cells #[.int .u8 65] 5)) (.slice (some ⟨w1.heap.size, 0, none⟩) 1 1) l0 := by
    have := holds_of_row (row_boxA (base := 0) (Box.new w1 5 #[.int .u8 65]) (Nat.zero_le _))
    rw [E0.out] at this
    exact this
  have HP1 := put_atA (some ⟨w1.heap.size, 0, none⟩) 1 1 l0 K0.out n 4 (w1.alloc (.cells #[.int .u8 65] 5)) _ (by decide) (by decide) D1.out.1 D1.out.2 (by decide) (Nat.le_refl _) h2
  rw [E1.out] at HP1
  have c0 := x1.cell 0 _ rfl
  have c2 := x2.cell 0 _ rfl
  have hB := x1.lt
  clear h2
  go_wp2_with fail
  refine HP1.mono ?_
  rintro e w3 ⟨a3, c3, rfl, o3, b3⟩
  have bb3 := bb2.trans (b3.mono bb2.size)
  have x3 := x2.next b3
  have c1 := x3.cell 1 _ rfl
  have hB3 := x3.lt
  have HP2 := put_atA a3 (1 + 4) c3 l1 K1.out b 4 w3 _ (by decide) (by decide) D2.out.1 D2.out.2 (by decide) (Nat.le_refl _) (holds_of_row o3)
  rw [E2.out] at HP2
  clear HP1 b1 b2 x1 x2 b3 c0 c2 hB o3
  go_wp2_with fail
  refine HP2.mono ?_
  rintro e w4 ⟨a4, c4, rfl, o4, b4⟩
  have bb4 := bb3.trans (b4.mono bb3.size)
  have HS := seal_atA a4 (1 + 4 + 4) c4 l2 K2.out (by decide) HBD.out w4 (holds_of_row o4)
  rw [HP.out] at HS
  clear HP2 b4 bb3 x3 c1 hB3 o4
  go_wp2_with fail
  refine HS.mono ?_
  rintro e w5 ⟨q, rfl, o5, b5⟩
  have bb5 := bb4.trans (b5.mono bb4.size)
  have o6 := row_base o5 bb4.size
  clear HS o5 b5
  go_wp2
  go_ret2
  exact ⟨_, rfl, o6, bb5⟩

set_option maxRecDepth 100000 in
set_option maxHeartbeats 2000000 in
theorem atake_any (a : Option Addr) (cap : Nat) (zs : List Int) (hl : zs.length = 13) (hc : zs.length ≤ cap) (bz : ∀ z ∈ zs, 0 ≤ z ∧ z ≤ 255) (w : World) (ha : Holds .u8 w.heap.size w (.slice a 13 cap) zs) :
    Calls Try.prog 45 #[.slice a 13 cap] w fun e W' => e = .returned (.tuple #[.agg #[.int .i64 (aN zs), .int .u32 (aB zs)], .int .i64 0]) ∧ Below w.heap.size w W' := by
  have b0 := (Below.refl w.heap.size w).alloc (Nat.le_refl _) (.cells #[.int .i64 0, .int .u32 0] 61)
  have x0 := Box.new w 61 #[.int .i64 0, .int .u32 0]
  rw [← hl] at ha ⊢
  rcases id ha with ⟨_, e⟩ | ⟨b, off, cap', e, hb, hcs⟩
  · rw [e] at hl; simp at hl
  cases e
  have HG1 : Calls Try.prog 68 #[.slice (some ⟨b, off, none⟩) zs.length cap, .int .i64 1, .int .i64 4] (w.alloc (.cells #[.int .i64 0, .int .u32 0] 61)) fun e w' => e = .returned (.tuple #[.int .i64 (aN zs), .int .i64 0]) ∧ (w.alloc (.cells #[.int .i64 0, .int .u32 0] 61)) = w' := get_ok b off cap zs 1 4 _ (by decide) (by decide) (by omega) hc (by omega) bz (fun j hj => (b0.cell (p := ⟨b, off + j, none⟩) hb).trans (hcs j hj))
  have HG2 : Calls Try.prog 68 #[.slice (some ⟨b, off, none⟩) zs.length cap, .int .i64 5, .int .i64 4] (w.alloc (.cells #[.int .i64 0, .int .u32 0] 61)) fun e w' => e = .returned (.tuple #[.int .i64 (aB zs), .int .i64 0]) ∧ (w.alloc (.cells #[.int .i64 0, .int .u32 0] 61)) = w' := get_ok b off cap zs 5 4 _ (by decide) (by decide) (by omega) hc (by omega) bz (fun j hj => (b0.cell (p := ⟨b, off + j, none⟩) hb).trans (hcs j hj))
  have hB0 : 0 ≤ aB zs ∧ aB zs < 4294967296 := by
    have h := beNum_bd ((zs.drop 5).take 4) (fun z hz => bz z (List.mem_of_mem_drop (List.mem_of_mem_take hz)))
    have h4 : ((zs.drop 5).take 4).length = 4 := by rw [List.length_take, List.length_drop, hl]; rfl
    rw [h4] at h
    exact h
  obtain ⟨N, hN⟩ : ∃ N, aN zs = N := ⟨_, rfl⟩
  obtain ⟨B, hBe⟩ : ∃ B, aB zs = B := ⟨_, rfl⟩
  rw [hN] at HG1
  rw [hBe] at HG2 hB0
  rw [hN, hBe]
  have ewB : IntKind.u32.wrap B = B := by rw [IntKind.wrap_u32]; omega
  rw [hl] at HG1 HG2 ⊢
  have f0 := x0.free 0
  have f1 := x0.free 1
  have z0 := x0.cell 0 _ rfl
  have z1 := x0.cell 1 _ rfl
  clear bz hl hc hcs ha hN hBe
  go_enter Try.func45, Try.ntmps45
  go_wp2_with fail
  refine HG1.mono ?_
  rintro e w1 ⟨rfl, rfl⟩
  clear HG1
  go_wp2_with fail
  refine HG2.mono ?_
  rintro e w1 ⟨rfl, rfl⟩
  clear HG2
  go_wp2
  exact bodyPost_ret (v := .tuple #[.agg #[.int .i64 N, .int .u32 B], .int .i64 0]) (by simp [results, Try.results45, go_sem]) rfl ⟨rfl, (Below.refl w.heap.size w).alloc (Nat.le_refl _) _⟩

set_option maxRecDepth 100000 in
set_option maxHeartbeats 2000000 in
theorem aread_ok (a : Option Addr) (cap : Nat) (zs : List Int) (hl : zs.length = 13) (hc : zs.length ≤ cap) (bz : ∀ z ∈ zs, 0 ≤ z ∧ z ≤ 255) (h0 : zs[0]?.getD 0 = 65) (hS : isSealed zs = true) (hq : aN zs ≤ 1073741824) (w : World) (ha : Holds .u8 w.heap.size w (.slice a 13 cap) zs) :
    Calls Try.prog 22 #[.slice a 13 cap] w fun e w' => e = .returned (.tuple #[.agg #[.int .i64 (aN zs), .int .u32 (aB zs)], .int .i64 0]) ∧ Below w.heap.size w w' := by
  have b0 := (Below.refl w.heap.size w).alloc (Nat.le_refl _) (.cells #[.int .i64 0, .int .u32 0] 61)
  have x0 := Box.new w 61 #[.int .i64 0, .int .u32 0]
  have ha' : Holds .u8 w.heap.size w (.slice a zs.length cap) zs := by rw [hl]; exact ha
  rcases ha' with ⟨_, e⟩ | ⟨b, off, cap', e, hb, hcs⟩
  · rw [e] at hl; simp at hl
  cases e
  have e0 : (w.alloc (.cells #[.int .i64 0, .int .u32 0] 61)).cell? ⟨b, off, none⟩ = some (.int .u8 (zs[0]?.getD 0)) := (b0.cell (p := ⟨b, off, none⟩) hb).trans (hcs 0 (by omega))
  have HHA := ha.next b0
  have HS := Sealed_at (some ⟨b, off, none⟩) 13 cap zs hl (by decide) (by omega) bz _ HHA
  rw [hS] at HS
  rw [h0] at e0
  clear h0 hcs hS
  have HTT : Hid (∀ w2 : World, Holds .u8 w2.heap.size w2 (.slice (some ⟨b, off, none⟩) 13 cap) zs → Calls Try.prog 45 #[.slice (some ⟨b, off, none⟩) 13 cap] w2 fun e W' => e = .returned (.tuple #[.agg #[.int .i64 (aN zs), .int .u32 (aB zs)], .int .i64 0]) ∧ Below w2.heap.size w2 W') := fun w2 h => atake_any (some ⟨b, off, none⟩) cap zs hl hc bz w2 h
  have HA : Hid (Holds .u8 w.heap.size w (.slice (some ⟨b, off, none⟩) 13 cap) zs) := ha
  obtain ⟨N, hN⟩ : ∃ N, aN zs = N := ⟨_, rfl⟩
  obtain ⟨B, hBe⟩ : ∃ B, aB zs = B := ⟨_, rfl⟩
  rw [hN, hBe] at HTT
  rw [hN] at hq
  rw [hN, hBe]
  have hq0 : 0 ≤ N := by rw [← hN, aN]; exact (beNum_bd _ (fun z hz => bz z (List.mem_of_mem_drop (List.mem_of_mem_take hz)))).1
  have HAN : Hid (aArg N = true) := (aArg_iff N).2 ⟨hq0, hq⟩
  clear hq hN hBe bz hc hl ha HHA
  go_enter Try.func22, Try.ntmps22
  go_wp2_with fail
  refine HS.mono ?_
  rintro e w2 ⟨rfl, b2⟩
  clear HS
  have bb2 := b0.trans (b2.mono (by simp))
  have x2 := x0.next b2
  clear b2
  have HT := HTT.out w2 ((HA.out.below bb2).mono bb2.size)
  go_wp2_with fail
  refine HT.mono ?_
  rintro e w3 ⟨rfl, b3⟩
  clear HT
  have bb3 := bb2.trans (b3.mono bb2.size)
  have x3 := x2.next b3
  have b4 : Below w3.heap.size w3 (w3.alloc (.cells #[.int .i64 N, .int .u32 B] 61)) := (Below.refl _ _).alloc (Nat.le_refl _) _
  have bb4 := bb3.trans (b4.mono bb3.size)
  have x4 := x3.next b4
  have y4 := Box.new w3 61 #[.int .i64 N, .int .u32 B]
  have HN := isNext_any N (w3.alloc (.cells #[.int .i64 N, .int .u32 B] 61))
  rw [HAN.out] at HN
  have f0 := x4.free 0
  have f1 := x4.free 1
  have z0 := x4.cell 0 _ rfl
  have z1 := x4.cell 1 _ rfl
  have y0 := y4.cell 0 _ rfl
  have y1 := y4.cell 1 _ rfl
  clear b3 b4 x2 x3
  go_wp2_with fail
  refine HN.mono ?_
  rintro e w' ⟨rfl, rfl⟩
  clear HN
  go_wp2
  exact bodyPost_ret (v := .tuple #[.agg #[.int .i64 N, .int .u32 B], .int .i64 0]) (by simp [results, Try.results22, go_sem, z0, z1]) rfl ⟨rfl, below_set2 bb4 (Nat.le_refl _) _ _⟩

theorem AckRead_ok (a : Option Addr) (cap : Nat) (zs : List Int) (hc : zs.length ≤ cap) (bz : ∀ z ∈ zs, 0 ≤ z ∧ z ≤ 255) (h : okA zs) (w : World) (ha : Holds .u8 w.heap.size w (.slice a zs.length cap) zs) :
    Calls Try.prog 22 #[.slice a zs.length cap] w fun e W' => e = .returned (.tuple #[.agg #[.int .i64 (aN zs), .int .u32 (aB zs)], .int .i64 0]) ∧ Below w.heap.size w W' := by
  obtain ⟨h1, h2, h3, h4⟩ := h
  rw [h1] at ha ⊢
  exact aread_ok a cap zs h1 hc bz h2 h3 h4 w ha

end Go.Proofs.Ytmjidhnlofpliab
