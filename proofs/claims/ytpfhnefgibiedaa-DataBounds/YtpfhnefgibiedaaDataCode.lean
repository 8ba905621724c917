/-
  What package data answers (Read; Make: DataMake). (Written by tpl_datacode.py.)
-/
import Derived.Test.YtpfhnefgibiedaaDataTake
namespace Go.Proofs.Ytpfhnefgibiedaa
open Go.RowKit

set_option maxRecDepth 100000 in
set_option maxHeartbeats 4000000 in
theorem dread_len (a : Option Addr) (n cap : Nat) (hn : ¬ (12 ≤ n ∧ n ≤ 75)) (hl : n ≤ 4096) (w : World) :
    Calls Try.prog 16 #[.slice a n cap] w fun e w' => e = .returned (.tuple #[.agg #[.int .i64 0, .int .i64 0, .int .i64 0, .slice none 0 0], .int .i64 2]) ∧ Below w.heap.size w w' := by
  have b0 := (Below.refl w.heap.size w).alloc (Nat.le_refl _) (.cells #[.int .i64 0, .int .i64 0, .int .i64 0, .slice none 0 0] 24)
  have HC := isCount_no ((n : Int) - 11) (by omega) (w.alloc (.cells #[.int .i64 0, .int .i64 0, .int .i64 0, .slice none 0 0] 24))
  clear hn
  go_enter Try.func16, Try.ntmps16
  go_wp2_with (go_at_call 21; refine HC.mono ?_; rintro e w' ⟨rfl, rfl⟩)
  exact bodyPost_ret (v := .tuple #[.agg #[.int .i64 0, .int .i64 0, .int .i64 0, .slice none 0 0], .int .i64 2]) (by simp [results, Try.results16, go_sem]) rfl ⟨rfl, b0⟩

set_option maxRecDepth 100000 in
set_option maxHeartbeats 4000000 in
theorem dread_kind (a : Option Addr) (cap : Nat) (zs : List Int) (hl : dLen zs) (_hc : zs.length ≤ cap) (_bz : ∀ z ∈ zs, 0 ≤ z ∧ z ≤ 255) (h0 : zs[0]?.getD 0 ≠ 68) (w : World) (ha : Holds .u8 w.heap.size w (.slice a zs.length cap) zs) :
    Calls Try.prog 16 #[.slice a zs.length cap] w fun e w' => e = .returned (.tuple #[.agg #[.int .i64 0, .int .i64 0, .int .i64 0, .slice none 0 0], .int .i64 12]) ∧ Below w.heap.size w w' := by
  have b0 := (Below.refl w.heap.size w).alloc (Nat.le_refl _) (.cells #[.int .i64 0, .int .i64 0, .int .i64 0, .slice none 0 0] 24)
  have x0 := Box.new w 24 #[.int .i64 0, .int .i64 0, .int .i64 0, .slice none 0 0]
  obtain ⟨hl1, hl2⟩ := id hl
  rcases id ha with ⟨_, e⟩ | ⟨b, off, cap', e, hb, hcs⟩
  · rw [e] at hl1; simp at hl1
  cases e
  have HC := isCount_yes ((zs.length : Int) - 11) (by omega) (w.alloc (.cells #[.int .i64 0, .int .i64 0, .int .i64 0, .slice none 0 0] 24))
  have e0 : (w.alloc (.cells #[.int .i64 0, .int .i64 0, .int .i64 0, .slice none 0 0] 24)).cell? ⟨b, off, none⟩ = some (.int .u8 (zs[0]?.getD 0)) := (b0.cell (p := ⟨b, off, none⟩) hb).trans (hcs 0 (by omega))
  have hi0 : (0 : Int) < (zs.length : Int) := by omega
  have hi0' : 0 < zs.length := by omega
  have _HCS : Hid (∀ j, j < zs.length → w.cell? ⟨b, off + j, none⟩ = some (.int .u8 (zs[j]?.getD 0))) := hcs
  obtain ⟨K, hK⟩ : ∃ K, zs[0]?.getD 0 = K := ⟨_, rfl⟩
  rw [hK] at e0 h0
  have d0 : (K != 68) = true := by rw [bne_iff_ne]; exact h0
  clear hK h0 hcs ha hl
  go_enter Try.func16, Try.ntmps16
  go_wp2_with fail
  refine HC.mono ?_
  rintro e w' ⟨rfl, rfl⟩
  clear HC
  go_wp2
  exact bodyPost_ret (v := .tuple #[.agg #[.int .i64 0, .int .i64 0, .int .i64 0, .slice none 0 0], .int .i64 12]) (by simp [results, Try.results16, go_sem]) rfl ⟨rfl, b0⟩

set_option maxRecDepth 100000 in
set_option maxHeartbeats 4000000 in
theorem dread_sum (a : Option Addr) (cap : Nat) (zs : List Int) (hl : dLen zs) (hc : zs.length ≤ cap) (bz : ∀ z ∈ zs, 0 ≤ z ∧ z ≤ 255) (h0 : zs[0]?.getD 0 = 68) (hS : ¬ dSum zs) (w : World) (ha : Holds .u8 w.heap.size w (.slice a zs.length cap) zs) :
    Calls Try.prog 16 #[.slice a zs.length cap] w fun e w' => e = .returned (.tuple #[.agg #[.int .i64 0, .int .i64 0, .int .i64 0, .slice none 0 0], .int .i64 4]) ∧ Below w.heap.size w w' := by
  have b0 := (Below.refl w.heap.size w).alloc (Nat.le_refl _) (.cells #[.int .i64 0, .int .i64 0, .int .i64 0, .slice none 0 0] 24)
  have x0 := Box.new w 24 #[.int .i64 0, .int .i64 0, .int .i64 0, .slice none 0 0]
  obtain ⟨hl1, hl2⟩ := id hl
  rcases id ha with ⟨_, e⟩ | ⟨b, off, cap', e, hb, hcs⟩
  · rw [e] at hl1; simp at hl1
  cases e
  have HC := isCount_yes ((zs.length : Int) - 11) (by omega) (w.alloc (.cells #[.int .i64 0, .int .i64 0, .int .i64 0, .slice none 0 0] 24))
  have e0 : (w.alloc (.cells #[.int .i64 0, .int .i64 0, .int .i64 0, .slice none 0 0] 24)).cell? ⟨b, off, none⟩ = some (.int .u8 (zs[0]?.getD 0)) := (b0.cell (p := ⟨b, off, none⟩) hb).trans (hcs 0 (by omega))
  have hi0 : (0 : Int) < (zs.length : Int) := by omega
  have hi0' : 0 < zs.length := by omega
  have hHa := ha.next b0
  have _HCS : Hid (∀ j, j < zs.length → w.cell? ⟨b, off + j, none⟩ = some (.int .u8 (zs[j]?.getD 0))) := hcs
  rw [h0] at e0
  clear h0 hcs
  have HS := isSummed_no (some ⟨b, off, none⟩) cap zs hl hc bz hS _ hHa
  clear hS bz hHa ha hl
  go_enter Try.func16, Try.ntmps16
  go_wp2_with fail
  refine HC.mono ?_
  rintro e w' ⟨rfl, rfl⟩
  clear HC
  go_wp2_with fail
  refine HS.mono ?_
  rintro e w' ⟨rfl, rfl⟩
  clear HS
  go_wp2
  exact bodyPost_ret (v := .tuple #[.agg #[.int .i64 0, .int .i64 0, .int .i64 0, .slice none 0 0], .int .i64 4]) (by simp [results, Try.results16, go_sem]) rfl ⟨rfl, b0⟩

set_option maxRecDepth 100000 in
set_option maxHeartbeats 4000000 in
theorem dread_seq (a : Option Addr) (cap : Nat) (zs : List Int) (hl : dLen zs) (hc : zs.length ≤ cap) (bz : ∀ z ∈ zs, 0 ≤ z ∧ z ≤ 255) (h0 : zs[0]?.getD 0 = 68) (hS : dSum zs) (hq : ¬ dS zs < 1073741824) (w : World) (ha : Holds .u8 w.heap.size w (.slice a zs.length cap) zs) :
    Calls Try.prog 16 #[.slice a zs.length cap] w fun e w' => e = .returned (.tuple #[.agg #[.int .i64 0, .int .i64 0, .int .i64 0, .slice none 0 0], .int .i64 1]) ∧ Below w.heap.size w w' := by
  have b0 := (Below.refl w.heap.size w).alloc (Nat.le_refl _) (.cells #[.int .i64 0, .int .i64 0, .int .i64 0, .slice none 0 0] 24)
  have x0 := Box.new w 24 #[.int .i64 0, .int .i64 0, .int .i64 0, .slice none 0 0]
  obtain ⟨hl1, hl2⟩ := id hl
  rcases id ha with ⟨_, e⟩ | ⟨b, off, cap', e, hb, hcs⟩
  · rw [e] at hl1; simp at hl1
  cases e
  have HC := isCount_yes ((zs.length : Int) - 11) (by omega) (w.alloc (.cells #[.int .i64 0, .int .i64 0, .int .i64 0, .slice none 0 0] 24))
  have e0 : (w.alloc (.cells #[.int .i64 0, .int .i64 0, .int .i64 0, .slice none 0 0] 24)).cell? ⟨b, off, none⟩ = some (.int .u8 (zs[0]?.getD 0)) := (b0.cell (p := ⟨b, off, none⟩) hb).trans (hcs 0 (by omega))
  have hi0 : (0 : Int) < (zs.length : Int) := by omega
  have hi0' : 0 < zs.length := by omega
  have hHa := ha.next b0
  have _HCS : Hid (∀ j, j < zs.length → w.cell? ⟨b, off + j, none⟩ = some (.int .u8 (zs[j]?.getD 0))) := hcs
  rw [h0] at e0
  clear h0 hcs
  have HS := isSummed_yes (some ⟨b, off, none⟩) cap zs hl hc bz hS _ hHa
  obtain ⟨L, hL⟩ : ∃ L, zs.length = L + 11 := ⟨zs.length - 11, by omega⟩
  have HT := dtake_at (some ⟨b, off, none⟩) L cap zs hL hl hc bz _ hHa
  have hN := byte_at bz (k := 8) (by omega)
  have HXL : Hid ((dX zs).length = L) := by show (dX zs).length = L; unfold dX; rw [List.length_drop]; omega
  obtain ⟨S, hSe⟩ : ∃ S, dS zs = S := ⟨_, rfl⟩
  obtain ⟨R, hR⟩ : ∃ M, dR zs = M := ⟨_, rfl⟩
  obtain ⟨F, hF⟩ : ∃ n, dF zs = n := ⟨_, rfl⟩
  obtain ⟨X, hX⟩ : ∃ X, dX zs = X := ⟨_, rfl⟩
  have hS0 : 0 ≤ dS zs := by
    rw [dS]
    exact (beNum_bd _ (fun z hz => bz z (List.mem_of_mem_drop (List.mem_of_mem_take hz)))).1
  rw [hSe, hR, hF, hX] at HT
  rw [hX] at HXL
  rw [hSe] at hq hS0
  clear hN
  clear hS bz hHa ha hSe hR hF hX hL
  go_enter Try.func16, Try.ntmps16
  go_wp2_with fail
  refine HC.mono ?_
  rintro e w' ⟨rfl, rfl⟩
  clear HC
  go_wp2_with fail
  refine HS.mono ?_
  rintro e w' ⟨rfl, rfl⟩
  clear HS
  go_wp2_with fail
  refine HT.mono ?_
  rintro e w2 ⟨g, rfl, _, b2⟩
  clear HT
  have bb2 := b0.trans (b2.mono (by simp))
  have y2 := x0.next b2
  have X3 : Hid (Box (w2.alloc (.cells #[.int .i64 S, .int .i64 R, .int .i64 F, .slice (some ⟨g, 0, none⟩) L L] 24)) w2.heap.size 24 #[.int .i64 S, .int .i64 R, .int .i64 F, .slice (some ⟨g, 0, none⟩) L L]) := Box.new w2 _ _
  have b3 : Below w2.heap.size w2 (w2.alloc (.cells #[.int .i64 S, .int .i64 R, .int .i64 F, .slice (some ⟨g, 0, none⟩) L L] 24)) := (Below.refl _ _).alloc (Nat.le_refl _) _
  have HQ := isSeq_no S (by omega) (w2.alloc (.cells #[.int .i64 S, .int .i64 R, .int .i64 F, .slice (some ⟨g, 0, none⟩) L L] 24))
  have bb3 := bb2.trans (b3.mono bb2.size)
  have y3 := y2.next b3
  have v0 := X3.out.cell 0 _ rfl
  have v1 := X3.out.cell 1 _ rfl
  have v2 := X3.out.cell 2 _ rfl
  have v3 := X3.out.cell 3 _ rfl
  have z0 := y3.cell 0 _ rfl
  have z1 := y3.cell 1 _ rfl
  have z2 := y3.cell 2 _ rfl
  have z3 := y3.cell 3 _ rfl
  have f0 := y3.free 0
  have f1 := y3.free 1
  have f2 := y3.free 2
  have f3 := y3.free 3
  clear b2 b3 y2 hq hS0
  go_wp2_with fail
  refine HQ.mono ?_
  rintro e w' ⟨rfl, rfl⟩
  clear HQ
  go_wp2
  exact bodyPost_ret (v := .tuple #[.agg #[.int .i64 0, .int .i64 0, .int .i64 0, .slice none 0 0], .int .i64 1]) (by simp [results, Try.results16, go_sem, z0, z1, z2, z3]) rfl ⟨rfl, below_set4 bb3 (Nat.le_refl _) _ _ _ _⟩

set_option maxRecDepth 100000 in
set_option maxHeartbeats 4000000 in
theorem dread_few (a : Option Addr) (cap : Nat) (zs : List Int) (hl : dLen zs) (hc : zs.length ≤ cap) (bz : ∀ z ∈ zs, 0 ≤ z ∧ z ≤ 255) (h0 : zs[0]?.getD 0 = 68) (hS : dSum zs) (hq : dS zs < 1073741824) (hf : dN zs ≠ (zs.length : Int) - 11) (w : World) (ha : Holds .u8 w.heap.size w (.slice a zs.length cap) zs) :
    Calls Try.prog 16 #[.slice a zs.length cap] w fun e w' => e = .returned (.tuple #[.agg #[.int .i64 0, .int .i64 0, .int .i64 0, .slice none 0 0], .int .i64 2]) ∧ Below w.heap.size w w' := by
  have b0 := (Below.refl w.heap.size w).alloc (Nat.le_refl _) (.cells #[.int .i64 0, .int .i64 0, .int .i64 0, .slice none 0 0] 24)
  have x0 := Box.new w 24 #[.int .i64 0, .int .i64 0, .int .i64 0, .slice none 0 0]
  obtain ⟨hl1, hl2⟩ := id hl
  rcases id ha with ⟨_, e⟩ | ⟨b, off, cap', e, hb, hcs⟩
  · rw [e] at hl1; simp at hl1
  cases e
  have HC := isCount_yes ((zs.length : Int) - 11) (by omega) (w.alloc (.cells #[.int .i64 0, .int .i64 0, .int .i64 0, .slice none 0 0] 24))
  have e0 : (w.alloc (.cells #[.int .i64 0, .int .i64 0, .int .i64 0, .slice none 0 0] 24)).cell? ⟨b, off, none⟩ = some (.int .u8 (zs[0]?.getD 0)) := (b0.cell (p := ⟨b, off, none⟩) hb).trans (hcs 0 (by omega))
  have hi0 : (0 : Int) < (zs.length : Int) := by omega
  have hi0' : 0 < zs.length := by omega
  have hHa := ha.next b0
  have HCS : Hid (∀ j, j < zs.length → w.cell? ⟨b, off + j, none⟩ = some (.int .u8 (zs[j]?.getD 0))) := hcs
  rw [h0] at e0
  clear h0 hcs
  have HS := isSummed_yes (some ⟨b, off, none⟩) cap zs hl hc bz hS _ hHa
  obtain ⟨L, hL⟩ : ∃ L, zs.length = L + 11 := ⟨zs.length - 11, by omega⟩
  have HT := dtake_at (some ⟨b, off, none⟩) L cap zs hL hl hc bz _ hHa
  have hN := byte_at bz (k := 8) (by omega)
  have HXL : Hid ((dX zs).length = L) := by show (dX zs).length = L; unfold dX; rw [List.length_drop]; omega
  obtain ⟨S, hSe⟩ : ∃ S, dS zs = S := ⟨_, rfl⟩
  obtain ⟨R, hR⟩ : ∃ M, dR zs = M := ⟨_, rfl⟩
  obtain ⟨F, hF⟩ : ∃ n, dF zs = n := ⟨_, rfl⟩
  obtain ⟨X, hX⟩ : ∃ X, dX zs = X := ⟨_, rfl⟩
  have hS0 : 0 ≤ dS zs := by
    rw [dS]
    exact (beNum_bd _ (fun z hz => bz z (List.mem_of_mem_drop (List.mem_of_mem_take hz)))).1
  rw [hSe, hR, hF, hX] at HT
  rw [hX] at HXL
  rw [hSe] at hq hS0
  have e8 : w.cell? ⟨b, off + 8, none⟩ = some (.int .u8 (dN zs)) := HCS.out 8 (by omega)
  obtain ⟨M, hM⟩ : ∃ M, dN zs = M := ⟨_, rfl⟩
  have hN : 0 ≤ dN zs ∧ dN zs ≤ 255 := hN
  rw [hM] at hN e8 hf
  have ewM : IntKind.i64.wrap M = M := by rw [IntKind.wrap_i64]; omega
  have dM : ((L : Int) != M) = true := by rw [bne_iff_ne]; omega
  have hi8 : (8 : Int) < (zs.length : Int) := by omega
  have hi8' : 8 < zs.length := by omega
  clear hM hf hN
  clear hS bz hHa ha hSe hR hF hX hL
  go_enter Try.func16, Try.ntmps16
  go_wp2_with fail
  refine HC.mono ?_
  rintro e w' ⟨rfl, rfl⟩
  clear HC
  go_wp2_with fail
  refine HS.mono ?_
  rintro e w' ⟨rfl, rfl⟩
  clear HS
  go_wp2_with fail
  refine HT.mono ?_
  rintro e w2 ⟨g, rfl, _, b2⟩
  clear HT
  have bb2 := b0.trans (b2.mono (by simp))
  have y2 := x0.next b2
  have X3 : Hid (Box (w2.alloc (.cells #[.int .i64 S, .int .i64 R, .int .i64 F, .slice (some ⟨g, 0, none⟩) L L] 24)) w2.heap.size 24 #[.int .i64 S, .int .i64 R, .int .i64 F, .slice (some ⟨g, 0, none⟩) L L]) := Box.new w2 _ _
  have b3 : Below w2.heap.size w2 (w2.alloc (.cells #[.int .i64 S, .int .i64 R, .int .i64 F, .slice (some ⟨g, 0, none⟩) L L] 24)) := (Below.refl _ _).alloc (Nat.le_refl _) _
  have HQ := isSeq_yes S ⟨hS0, hq⟩ (w2.alloc (.cells #[.int .i64 S, .int .i64 R, .int .i64 F, .slice (some ⟨g, 0, none⟩) L L] 24))
  have bb3 := bb2.trans (b3.mono bb2.size)
  have y3 := y2.next b3
  have v0 := X3.out.cell 0 _ rfl
  have v1 := X3.out.cell 1 _ rfl
  have v2 := X3.out.cell 2 _ rfl
  have v3 := X3.out.cell 3 _ rfl
  have z0 := y3.cell 0 _ rfl
  have z1 := y3.cell 1 _ rfl
  have z2 := y3.cell 2 _ rfl
  have z3 := y3.cell 3 _ rfl
  have f0 := y3.free 0
  have f1 := y3.free 1
  have f2 := y3.free 2
  have f3 := y3.free 3
  have q8 : (w2.alloc (.cells #[.int .i64 S, .int .i64 R, .int .i64 F, .slice (some ⟨g, 0, none⟩) L L] 24)).cell? ⟨b, off + 8, none⟩ = some (.int .u8 M) := (bb3.cell (p := ⟨b, off + 8, none⟩) hb).trans e8
  have hb3 : b < (w2.alloc (.cells #[.int .i64 S, .int .i64 R, .int .i64 F, .slice (some ⟨g, 0, none⟩) L L] 24)).heap.size := Nat.lt_of_lt_of_le hb bb3.size
  clear b2 b3 y2 hq hS0 e8
  go_wp2_with fail
  refine HQ.mono ?_
  rintro e w' ⟨rfl, rfl⟩
  clear HQ
  go_wp2
  go_quiet (fail)
  go_wp2
  exact bodyPost_ret (v := .tuple #[.agg #[.int .i64 0, .int .i64 0, .int .i64 0, .slice none 0 0], .int .i64 2]) (by simp [results, Try.results16, go_sem, z0, z1, z2, z3]) rfl ⟨rfl, below_set4 (below_drewN bb3 nq) (Nat.le_refl _) _ _ _ _⟩

set_option maxRecDepth 100000 in
set_option maxHeartbeats 4000000 in
theorem DataRead_ok (a : Option Addr) (cap : Nat) (zs : List Int) (hc : zs.length ≤ cap) (bz : ∀ z ∈ zs, 0 ≤ z ∧ z ≤ 255) (h : okD zs) (w : World) (ha : Holds .u8 w.heap.size w (.slice a zs.length cap) zs) :
    Calls Try.prog 16 #[.slice a zs.length cap] w fun e W' => ∃ ra rc, e = .returned (.tuple #[.agg #[.int .i64 (dS zs), .int .i64 (dR zs), .int .i64 (dF zs), .slice ra (dX zs).length rc], .int .i64 0]) ∧ W'.ownsRow w.heap.size 5 1 (.slice ra (dX zs).length rc) (dX zs).length ((dX zs).map (Value.int .u8)) ∧ Below w.heap.size w W' := by
  obtain ⟨hl, h0, hS, hq, hf⟩ := h
  obtain ⟨SR, hSR⟩ : ∃ X, dS zs = X := ⟨_, rfl⟩
  obtain ⟨RR, hRR⟩ : ∃ X, dR zs = X := ⟨_, rfl⟩
  obtain ⟨FR, hFR⟩ : ∃ X, dF zs = X := ⟨_, rfl⟩
  obtain ⟨XR, hXR⟩ : ∃ X, dX zs = X := ⟨_, rfl⟩
  obtain ⟨LR, hLR⟩ : ∃ X, XR.length = X := ⟨_, rfl⟩
  rw [hSR, hRR, hFR, hXR, hLR]
  have b0 := (Below.refl w.heap.size w).alloc (Nat.le_refl _) (.cells #[.int .i64 0, .int .i64 0, .int .i64 0, .slice none 0 0] 24)
  have x0 := Box.new w 24 #[.int .i64 0, .int .i64 0, .int .i64 0, .slice none 0 0]
  obtain ⟨hl1, hl2⟩ := id hl
  rcases id ha with ⟨_, e⟩ | ⟨b, off, cap', e, hb, hcs⟩
  · rw [e] at hl1; simp at hl1
  cases e
  have HC := isCount_yes ((zs.length : Int) - 11) (by omega) (w.alloc (.cells #[.int .i64 0, .int .i64 0, .int .i64 0, .slice none 0 0] 24))
  have e0 : (w.alloc (.cells #[.int .i64 0, .int .i64 0, .int .i64 0, .slice none 0 0] 24)).cell? ⟨b, off, none⟩ = some (.int .u8 (zs[0]?.getD 0)) := (b0.cell (p := ⟨b, off, none⟩) hb).trans (hcs 0 (by omega))
  have hi0 : (0 : Int) < (zs.length : Int) := by omega
  have hi0' : 0 < zs.length := by omega
  have hHa := ha.next b0
  have HCS : Hid (∀ j, j < zs.length → w.cell? ⟨b, off + j, none⟩ = some (.int .u8 (zs[j]?.getD 0))) := hcs
  rw [h0] at e0
  clear h0 hcs
  have HS := isSummed_yes (some ⟨b, off, none⟩) cap zs hl hc bz hS _ hHa
  obtain ⟨L, hL⟩ : ∃ L, zs.length = L + 11 := ⟨zs.length - 11, by omega⟩
  have HT := dtake_at (some ⟨b, off, none⟩) L cap zs hL hl hc bz _ hHa
  have hN := byte_at bz (k := 8) (by omega)
  have HXL : Hid ((dX zs).length = L) := by show (dX zs).length = L; unfold dX; rw [List.length_drop]; omega
  obtain ⟨S, hSe⟩ : ∃ S, dS zs = S := ⟨_, rfl⟩
  obtain ⟨R, hR⟩ : ∃ M, dR zs = M := ⟨_, rfl⟩
  obtain ⟨F, hF⟩ : ∃ n, dF zs = n := ⟨_, rfl⟩
  obtain ⟨X, hX⟩ : ∃ X, dX zs = X := ⟨_, rfl⟩
  have hS0 : 0 ≤ dS zs := by
    rw [dS]
    exact (beNum_bd _ (fun z hz => bz z (List.mem_of_mem_drop (List.mem_of_mem_take hz)))).1
  rw [hSe, hR, hF, hX] at HT
  rw [hX] at HXL
  rw [hSe] at hq hS0
  have HE1 : Hid (SR = S) := hSR.symm.trans hSe
  have HE2 : Hid (RR = R) := hRR.symm.trans hR
  have HE3 : Hid (FR = F) := hFR.symm.trans hF
  have HE4 : Hid (XR = X) := hXR.symm.trans hX
  have HE5 : Hid (LR = L) := hLR.symm.trans ((congrArg List.length HE4.out).trans HXL.out)
  clear hSR hRR hFR hXR hLR
  have e8 : w.cell? ⟨b, off + 8, none⟩ = some (.int .u8 (dN zs)) := HCS.out 8 (by omega)
  obtain ⟨M, hM⟩ : ∃ M, dN zs = M := ⟨_, rfl⟩
  have hN : 0 ≤ dN zs ∧ dN zs ≤ 255 := hN
  rw [hM] at hN e8 hf
  have ewM : IntKind.i64.wrap M = M := by rw [IntKind.wrap_i64]; omega
  have dM : ((L : Int) != M) = false := by rw [bne_eq_false_iff_eq]; omega
  have hi8 : (8 : Int) < (zs.length : Int) := by omega
  have hi8' : 8 < zs.length := by omega
  clear hM hf hN
  clear hS bz hHa ha hSe hR hF hX hL
  go_enter Try.func16, Try.ntmps16
  go_wp2_with fail
  refine HC.mono ?_
  rintro e w' ⟨rfl, rfl⟩
  clear HC
  go_wp2_with fail
  refine HS.mono ?_
  rintro e w' ⟨rfl, rfl⟩
  clear HS
  go_wp2_with fail
  refine HT.mono ?_
  rintro e w2 ⟨g, rfl, o2, b2⟩
  clear HT
  have bb2 := b0.trans (b2.mono (by simp))
  have y2 := x0.next b2
  have X3 : Hid (Box (w2.alloc (.cells #[.int .i64 S, .int .i64 R, .int .i64 F, .slice (some ⟨g, 0, none⟩) L L] 24)) w2.heap.size 24 #[.int .i64 S, .int .i64 R, .int .i64 F, .slice (some ⟨g, 0, none⟩) L L]) := Box.new w2 _ _
  have b3 : Below w2.heap.size w2 (w2.alloc (.cells #[.int .i64 S, .int .i64 R, .int .i64 F, .slice (some ⟨g, 0, none⟩) L L] 24)) := (Below.refl _ _).alloc (Nat.le_refl _) _
  have HQ := isSeq_yes S ⟨hS0, hq⟩ (w2.alloc (.cells #[.int .i64 S, .int .i64 R, .int .i64 F, .slice (some ⟨g, 0, none⟩) L L] 24))
  have bb3 := bb2.trans (b3.mono bb2.size)
  have y3 := y2.next b3
  have v0 := X3.out.cell 0 _ rfl
  have v1 := X3.out.cell 1 _ rfl
  have v2 := X3.out.cell 2 _ rfl
  have v3 := X3.out.cell 3 _ rfl
  have z0 := y3.cell 0 _ rfl
  have z1 := y3.cell 1 _ rfl
  have z2 := y3.cell 2 _ rfl
  have z3 := y3.cell 3 _ rfl
  have f0 := y3.free 0
  have f1 := y3.free 1
  have f2 := y3.free 2
  have f3 := y3.free 3
  have q8 : (w2.alloc (.cells #[.int .i64 S, .int .i64 R, .int .i64 F, .slice (some ⟨g, 0, none⟩) L L] 24)).cell? ⟨b, off + 8, none⟩ = some (.int .u8 M) := (bb3.cell (p := ⟨b, off + 8, none⟩) hb).trans e8
  have hb3 : b < (w2.alloc (.cells #[.int .i64 S, .int .i64 R, .int .i64 F, .slice (some ⟨g, 0, none⟩) L L] 24)).heap.size := Nat.lt_of_lt_of_le hb bb3.size
  have HO : Hid ((w2.alloc (.cells #[.int .i64 S, .int .i64 R, .int .i64 F, .slice (some ⟨g, 0, none⟩) L L] 24)).ownsRow (w.heap.size + 1) 5 1 (.slice (some ⟨g, 0, none⟩) L L) L (X.map (Value.int .u8))) := row_base (row_below o2 b3 (Nat.le_refl _)) (by simp)
  have hD : w.heap.size < (w2.alloc (.cells #[.int .i64 S, .int .i64 R, .int .i64 F, .slice (some ⟨g, 0, none⟩) L L] 24)).heap.size := y3.lt
  clear b2 b3 y2 hq hS0 e8 o2
  go_wp2_with fail
  refine HQ.mono ?_
  rintro e w' ⟨rfl, rfl⟩
  clear HQ
  go_wp2
  go_quiet (fail)
  go_wp2
  refine bodyPost_ret (v := .tuple #[.agg #[.int .i64 S, .int .i64 R, .int .i64 F, .slice (some ⟨g, 0, none⟩) L L], .int .i64 0]) (by simp [results, Try.results16, go_sem, z0, z1, z2, z3]) rfl ⟨some ⟨g, 0, none⟩, L, ?_, ?_, below_set4 (below_drewN bb3 nq) (Nat.le_refl _) _ _ _ _⟩
  · rw [HE1.out, HE2.out, HE3.out, HE5.out]
  · rw [HE4.out, HE5.out]
    exact row_base (row_set4 (row_drewN HO.out nq) (Nat.lt_succ_self _) _ _ _ _) (Nat.le_succ _)

theorem DataRead_no (a : Option Addr) (cap : Nat) (zs : List Int) (hl : zs.length ≤ 4096) (hc : zs.length ≤ cap) (bz : ∀ z ∈ zs, 0 ≤ z ∧ z ≤ 255) (E : Int) (h : badD zs E) (w : World) (ha : Holds .u8 w.heap.size w (.slice a zs.length cap) zs) :
    Calls Try.prog 16 #[.slice a zs.length cap] w fun e w' => e = .returned (.tuple #[.agg #[.int .i64 0, .int .i64 0, .int .i64 0, .slice none 0 0], .int .i64 E]) ∧ Below w.heap.size w w' := by
  rcases h with ⟨h1, rfl⟩ | ⟨h1, h2, rfl⟩ | ⟨h1, h2, h3, rfl⟩ | ⟨h1, h2, h3, h4, rfl⟩ | ⟨h1, h2, h3, h4, h5, rfl⟩
  · exact dread_len a zs.length cap h1 hl w
  · exact dread_kind a cap zs h1 hc bz h2 w ha
  · exact dread_sum a cap zs h1 hc bz h2 h3 w ha
  · exact dread_seq a cap zs h1 hc bz h2 h3 h4 w ha
  · exact dread_few a cap zs h1 hc bz h2 h3 h4 h5 w ha

end Go.Proofs.Ytpfhnefgibiedaa
