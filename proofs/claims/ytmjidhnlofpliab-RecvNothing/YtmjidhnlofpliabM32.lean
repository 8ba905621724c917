/-
  What recv.New answers; the bits of what was had; Reply; Receive where nothing waits. (Written by tpl_recvcode.py.)
-/
import Derived.Test.YtmjidhnlofpliabM27
import Derived.Test.YtmjidhnlofpliabM30
import Derived.Test.YtmjidhnlofpliabM31
namespace Go.Proofs.Ytmjidhnlofpliab
open Go.RowKit

theorem newR_take (c : Cfg) (wn k : Nat) (hw : c.cWin = (wn : Int)) (hk : k ≤ wn) : (newR c).rH.take k = (List.range k).map fun i : Nat => newH c (i : Int) := by
  show ((List.range c.cWin.toNat).map fun i : Nat => newH c (i : Int)).take k = _
  rw [← List.map_take, List.take_range, show min k c.cWin.toNat = k by omega]
set_option maxRecDepth 100000 in
set_option maxHeartbeats 8000000 in
theorem recvNew_ok (c : Cfg) (hC : okC c = true) (wn : Nat) (hwn : c.cWin = (wn : Int)) (w : World) :
    Calls Try.prog 5 #[.agg #[.int .i64 c.cB, .int .i64 c.cBeam, .int .i64 c.cDepth, .int .i64 c.cWin, .int .i64 c.cQs, .int .i64 c.cQr, .int .i64 c.cBatch, .int .i64 c.cPass, .int .i64 c.cMsg, .int .i64 c.cSeqs]] w fun e w' => ∃ fa fc, e = .returned (.tuple #[.agg #[.int .i64 c.cB, .int .i64 c.cBeam, .int .i64 c.cDepth, .int .i64 c.cWin, .int .i64 c.cQs, .int .i64 c.cQr, .int .i64 c.cBatch, .int .i64 c.cPass, .int .i64 c.cMsg, .int .i64 c.cSeqs, .int .i64 0, .int .i64 0, .int .i64 0, .int .i64 0, .slice fa wn fc, .bool false, .slice none 0 0, .slice none 0 0], .int .i64 0]) ∧ RcTl w.heap.size w' (newR c) fa wn fc none 0 0 none 0 0 ∧ Below w.heap.size w w' := by
  have bb : Below w.heap.size w ((w.alloc (.cells #[.int .i64 c.cB, .int .i64 c.cBeam, .int .i64 c.cDepth, .int .i64 c.cWin, .int .i64 c.cQs, .int .i64 c.cQr, .int .i64 c.cBatch, .int .i64 c.cPass, .int .i64 c.cMsg, .int .i64 c.cSeqs] 23)).alloc (.cells #[.int .i64 0, .int .i64 0, .int .i64 0, .int .i64 0, .int .i64 0, .int .i64 0, .int .i64 0, .int .i64 0, .int .i64 0, .int .i64 0, .int .i64 0, .int .i64 0, .int .i64 0, .int .i64 0, .slice none 0 0, .bool false, .slice none 0 0, .slice none 0 0] 31)) := ((Below.refl _ _).alloc (Nat.le_refl _) _).alloc (by simp) _
  have x1 : Box ((w.alloc (.cells #[.int .i64 c.cB, .int .i64 c.cBeam, .int .i64 c.cDepth, .int .i64 c.cWin, .int .i64 c.cQs, .int .i64 c.cQr, .int .i64 c.cBatch, .int .i64 c.cPass, .int .i64 c.cMsg, .int .i64 c.cSeqs] 23)).alloc (.cells #[.int .i64 0, .int .i64 0, .int .i64 0, .int .i64 0, .int .i64 0, .int .i64 0, .int .i64 0, .int .i64 0, .int .i64 0, .int .i64 0, .int .i64 0, .int .i64 0, .int .i64 0, .int .i64 0, .slice none 0 0, .bool false, .slice none 0 0, .slice none 0 0] 31)) w.heap.size 23 #[.int .i64 c.cB, .int .i64 c.cBeam, .int .i64 c.cDepth, .int .i64 c.cWin, .int .i64 c.cQs, .int .i64 c.cQr, .int .i64 c.cBatch, .int .i64 c.cPass, .int .i64 c.cMsg, .int .i64 c.cSeqs] := (Box.new w 23 #[.int .i64 c.cB, .int .i64 c.cBeam, .int .i64 c.cDepth, .int .i64 c.cWin, .int .i64 c.cQs, .int .i64 c.cQr, .int .i64 c.cBatch, .int .i64 c.cPass, .int .i64 c.cMsg, .int .i64 c.cSeqs]).next ((Below.refl _ _).alloc (Nat.le_refl _) _)
  have x2 := Box.new (w.alloc (.cells #[.int .i64 c.cB, .int .i64 c.cBeam, .int .i64 c.cDepth, .int .i64 c.cWin, .int .i64 c.cQs, .int .i64 c.cQr, .int .i64 c.cBatch, .int .i64 c.cPass, .int .i64 c.cMsg, .int .i64 c.cSeqs] 23)) 31 #[.int .i64 0, .int .i64 0, .int .i64 0, .int .i64 0, .int .i64 0, .int .i64 0, .int .i64 0, .int .i64 0, .int .i64 0, .int .i64 0, .int .i64 0, .int .i64 0, .int .i64 0, .int .i64 0, .slice none 0 0, .bool false, .slice none 0 0, .slice none 0 0]
  have H1 := fun wx => ConfCheck_any c wx
  unfold checkA at H1
  rw [if_pos hC] at H1
  have HC : Hid (okC c = true) := hC
  have hw16 : wn ≤ 16 := by have := ((okC_iff _).1 hC).2.2.2.1; omega
  have HTK : Hid ((newR c).rH = (List.range wn).map fun i : Nat => newH c (i : Int)) := by
    have h := newR_take c wn wn hwn (Nat.le_refl _)
    rw [List.take_of_length_le (by show ((List.range c.cWin.toNat).map fun i : Nat => newH c (i : Int)).length ≤ wn; rw [List.length_map, List.length_range]; omega)] at h
    exact h
  have HWN : Hid (c.cWin = (wn : Int)) := hwn
  clear hC hwn
  go_enter Try.func5, Try.ntmps5
  go_wp2_with (first | (refine wpList_load_box x1 rfl 23 _ rfl rfl _ Try.underlying23 rfl (by kernel_rfl) ?_))
  refine (H1 _).mono ?_
  rintro e w1 ⟨rfl, b1⟩
  obtain ⟨n2, hn2⟩ : ∃ n, (w.alloc (.cells #[.int .i64 c.cB, .int .i64 c.cBeam, .int .i64 c.cDepth, .int .i64 c.cWin, .int .i64 c.cQs, .int .i64 c.cQr, .int .i64 c.cBatch, .int .i64 c.cPass, .int .i64 c.cMsg, .int .i64 c.cSeqs] 23)).heap.size = n := ⟨_, rfl⟩
  have hn2s : w.heap.size + 1 = n2 := by rw [← hn2]; simp
  replace x1 := x1.next b1
  replace x2 := x2.next b1
  replace bb := bb.trans (b1.mono bb.size)
  rw [hn2] at x2
  try rw [hn2s]
  have HN2 : Hid (w.heap.size + 1 = n2) := hn2s
  clear hn2 hn2s b1 H1
  have bA : Below w1.heap.size w1 (w1.alloc (.cells #[.int .i64 0, .int .i64 0, .int .i64 0, .int .i64 0, .int .i64 0, .int .i64 0, .int .i64 0, .int .i64 0, .int .i64 0, .int .i64 0, .int .i64 0, .int .i64 0, .int .i64 0, .int .i64 0, .slice none 0 0, .bool false, .slice none 0 0, .slice none 0 0] 31)) := (Below.refl _ _).alloc (Nat.le_refl _) _
  have x3 := Box.new w1 31 #[.int .i64 0, .int .i64 0, .int .i64 0, .int .i64 0, .int .i64 0, .int .i64 0, .int .i64 0, .int .i64 0, .int .i64 0, .int .i64 0, .int .i64 0, .int .i64 0, .int .i64 0, .int .i64 0, .slice none 0 0, .bool false, .slice none 0 0, .slice none 0 0]
  have HLx3 : Hid (w.heap.size < w1.heap.size ∧ n2 < w1.heap.size ∧ w.heap.size ≤ w1.heap.size) := ⟨x1.lt, x2.lt, bb.size⟩
  go_upto_region 5 with (first | (refine wpList_load_box x1 rfl 23 _ rfl rfl _ Try.underlying23 rfl (by kernel_rfl) ?_) | (refine wpList_store_box x3 rfl 31 _ _ rfl rfl rfl rfl (by kernel_rfl) (by simp [Value.oneCell']) ?_))
  have bB := below_setRow bA (Nat.le_refl _) #[.int .i64 c.cB, .int .i64 c.cBeam, .int .i64 c.cDepth, .int .i64 c.cWin, .int .i64 c.cQs, .int .i64 c.cQr, .int .i64 c.cBatch, .int .i64 c.cPass, .int .i64 c.cMsg, .int .i64 c.cSeqs, .int .i64 0, .int .i64 0, .int .i64 0, .int .i64 0, .slice none 0 0, .bool false, .slice none 0 0, .slice none 0 0]
  replace x3 := x3.setRow #[.int .i64 c.cB, .int .i64 c.cBeam, .int .i64 c.cDepth, .int .i64 c.cWin, .int .i64 c.cQs, .int .i64 c.cQr, .int .i64 c.cBatch, .int .i64 c.cPass, .int .i64 c.cMsg, .int .i64 c.cSeqs, .int .i64 0, .int .i64 0, .int .i64 0, .int .i64 0, .slice none 0 0, .bool false, .slice none 0 0, .slice none 0 0]
  replace x1 := x1.next bB
  replace x2 := x2.next bB
  replace bb := bb.trans (bB.mono bb.size)
  clear bA bB
  obtain ⟨B3, hB3⟩ : ∃ k, w1.heap.size = k := ⟨_, rfl⟩
  rw [hB3] at x3 HLx3 x1 x2 bb ⊢
  clear hB3
  generalize ((w1.alloc (.cells #[.int .i64 0, .int .i64 0, .int .i64 0, .int .i64 0, .int .i64 0, .int .i64 0, .int .i64 0, .int .i64 0, .int .i64 0, .int .i64 0, .int .i64 0, .int .i64 0, .int .i64 0, .int .i64 0, .slice none 0 0, .bool false, .slice none 0 0, .slice none 0 0] 31)).setRow B3 #[.int .i64 c.cB, .int .i64 c.cBeam, .int .i64 c.cDepth, .int .i64 c.cWin, .int .i64 c.cQs, .int .i64 c.cQr, .int .i64 c.cBatch, .int .i64 c.cPass, .int .i64 c.cMsg, .int .i64 c.cSeqs, .int .i64 0, .int .i64 0, .int .i64 0, .int .i64 0, .slice none 0 0, .bool false, .slice none 0 0, .slice none 0 0]) = w2 at *
  have c3 := x1.cell 3 _ rfl
  have l1 := x1.lt
  rw [HWN.out] at c3
  have HBB : Hid (Below w.heap.size w w2) := bb
  go_upto_region 6 with fail
  clear c3 l1 bb
  go_loopw [19] (fun i wr => ∃ (k : Nat) (va : Option Addr) (vc : Nat) (r : Lies Hr), k ≤ wn ∧ i = .int .i64 (k : Int) ∧ Box wr w.heap.size 23 #[.int .i64 c.cB, .int .i64 c.cBeam, .int .i64 c.cDepth, .int .i64 c.cWin, .int .i64 c.cQs, .int .i64 c.cQr, .int .i64 c.cBatch, .int .i64 c.cPass, .int .i64 c.cMsg, .int .i64 c.cSeqs] ∧ Box wr n2 31 #[.int .i64 0, .int .i64 0, .int .i64 0, .int .i64 0, .int .i64 0, .int .i64 0, .int .i64 0, .int .i64 0, .int .i64 0, .int .i64 0, .int .i64 0, .int .i64 0, .int .i64 0, .int .i64 0, .slice none 0 0, .bool false, .slice none 0 0, .slice none 0 0] ∧ Box wr B3 31 #[.int .i64 c.cB, .int .i64 c.cBeam, .int .i64 c.cDepth, .int .i64 c.cWin, .int .i64 c.cQs, .int .i64 c.cQr, .int .i64 c.cBatch, .int .i64 c.cPass, .int .i64 c.cMsg, .int .i64 c.cSeqs, .int .i64 0, .int .i64 0, .int .i64 0, .int .i64 0, .slice va k vc, .bool false, .slice none 0 0, .slice none 0 0] ∧ Hid (r.map Prod.fst = (List.range k).map fun i : Nat => newH c (i : Int)) ∧ TlRow w.heap.size wr 46 7 (.slice va k vc) k (cellsK hrK r) ∧ OwnL hrK w.heap.size wr r ∧ Below w.heap.size w wr) (fun i _ => wn - (intOf i).toNat)
  case atStart => exact ⟨0, none, 0, [], Nat.zero_le _, rfl, x1, x2, x3, rfl, tlRow_nil _ _ _ _, ownL_nil _ _ _, HBB.out⟩
  case round =>
    clear x1 x2 x3 HBB
    obtain ⟨k, va, vc, r, hk, rfl, x1, x2, x3, HR, o3, l3, bb⟩ := hrel
    generalize hwr : wr = w3 at *
    clear hwr
    by_cases hlt : k < wn
    · have H2 := fun wx => HearNew_ok c (k : Int) HC.out (by omega) wx
      have l1 := x1.lt
      go_wp2_with (first | (refine wpList_load_box x1 rfl 23 _ rfl rfl _ Try.underlying23 rfl (by kernel_rfl) ?_))
      refine (H2 _).mono ?_
      rintro e w4 ⟨pa, pc, qb, qd, rfl, oh, b4⟩
      have HLT : Hid (w.heap.size < w3.heap.size ∧ n2 < w3.heap.size ∧ B3 < w3.heap.size ∧ w.heap.size ≤ w3.heap.size) := ⟨l1, x2.lt, x3.lt, bb.size⟩
      have HLL : Hid (∀ u ∈ r, ∀ p ∈ u.2, ∀ g, p.ownBlock = some g → g < w3.heap.size) := fun u hu p hp g hg => (l3.lt u hu p hp g hg).2
      replace x1 := x1.next b4
      replace x2 := x2.next b4
      replace x3 := x3.next b4
      replace o3 := o3.next b4
      replace l3 := l3.next b4
      replace bb := bb.trans (b4.mono bb.size)
      clear b4 H2 l1
      have bA : Below w4.heap.size w4 (w4.alloc (.cells #[.int .i64 (k : Int), .int .i64 (-1), .int .i64 (segsC c), .int .i64 c.cPass, .slice pa 0 pc, .bool false, .slice qb 0 qd] 46)) := (Below.refl _ _).alloc (Nat.le_refl _) _
      have x5 := Box.new w4 46 #[.int .i64 (k : Int), .int .i64 (-1), .int .i64 (segsC c), .int .i64 c.cPass, .slice pa 0 pc, .bool false, .slice qb 0 qd]
      go_upto_region 11 with fail
      replace x1 := x1.next bA
      replace x2 := x2.next bA
      replace x3 := x3.next bA
      replace o3 := o3.next bA
      replace l3 := l3.next bA
      replace oh := oh.next bA (Nat.le_refl _)
      replace bb := bb.trans (bA.mono bb.size)
      obtain ⟨B5, hB5⟩ : ∃ k, w4.heap.size = k := ⟨_, rfl⟩
      rw [hB5] at x5 ⊢
      clear bA hB5
      generalize w4.alloc (.cells #[.int .i64 (k : Int), .int .i64 (-1), .int .i64 (segsC c), .int .i64 c.cPass, .slice pa 0 pc, .bool false, .slice qb 0 qd] 46) = w5 at *
      have hxs := subsO_hear oh
      have hxp := pair_hear oh
      obtain ⟨v8, w8, hr8, ho8, hl8, hg8⟩ := run_append_tls hrK 25 25 _ 88 Try.underlying25 infoHr rfl (by decide) (by decide) hrK_unlike (.slice va k vc) w.heap.size w3.heap.size k r (newH c (k : Int), [.slice pa 0 pc, .slice qb 0 qd]) #[.int .i64 (k : Int), .int .i64 (-1), .int .i64 (segsC c), .int .i64 c.cPass, .slice pa 0 pc, .bool false, .slice qb 0 qd] rfl w5 o3 l3 hxs hxp HLT.out.2.2.2 HLL.out bb.size (by omega)
      have x38 := o3.boxKept x3 (by decide) _ hg8
      have x18 := o3.boxKept x1 (by decide) _ hg8
      have x28 := o3.boxKept x2 (by decide) _ hg8
      have b8 := o3.grow bb (Nat.le_refl _) bb.size _ hg8
      obtain ⟨ya, yc, rfl⟩ := ho8.shape
      have HR8 : Hid _ := hr8
      have HRN : Hid ((r ++ [(newH c (k : Int), [Value.slice pa 0 pc, Value.slice qb 0 qd])]).map Prod.fst = (List.range (k + 1)).map fun i : Nat => newH c (i : Int)) := by
        show _ = _
        rw [List.map_append, HR.out, List.range_succ, List.map_append]
        rfl
      have c314 := x3.cell 14 _ rfl
      have l3' := x3.lt
      have d314 := x38.cell 14 _ rfl
      have g314 := x38.free 14
      have m3' := x38.lt
      have c50 := x5.cell 0 _ rfl
      have c51 := x5.cell 1 _ rfl
      have c52 := x5.cell 2 _ rfl
      have c53 := x5.cell 3 _ rfl
      have c54 := x5.cell 4 _ rfl
      have c55 := x5.cell 5 _ rfl
      have c56 := x5.cell 6 _ rfl
      have l5 := x5.lt
      clear hr8 hxs hxp o3 l3 oh hg8 x5 x1 x2 x3 bb
      go_upto_region 12 with (at_builtin; refine wpList_append_k rfl _ _ 25 rfl _ _ rfl rfl _ _ HR8.out ?_)
      clear c50 c51 c52 c53 c54 c55 c56 l5 c314 l3' d314 g314 m3' HR8
      have qz : ∀ g, g ≠ B3 → (w8.setCell ⟨B3, 14, none⟩ (.slice ya (k + 1) yc)).heap[g]? = w8.heap[g]? := fun g hg => Below.heap_setCell _ _ _ g hg
      have o9 := ho8.put x38 (by decide) qz
      have l9 := hl8.put x38 (hrK_subs (by decide) (by decide)) qz
      have x19 := x18.other (p := ⟨B3, 14, none⟩) (show w.heap.size ≠ B3 by have := HLx3.out; omega) (.slice ya (k + 1) yc)
      have x29 := x28.other (p := ⟨B3, 14, none⟩) (show n2 ≠ B3 by have := HLx3.out; omega) (.slice ya (k + 1) yc)
      have x39 : Box (w8.setCell ⟨B3, 14, none⟩ (.slice ya (k + 1) yc)) B3 31 #[.int .i64 c.cB, .int .i64 c.cBeam, .int .i64 c.cDepth, .int .i64 c.cWin, .int .i64 c.cQs, .int .i64 c.cQr, .int .i64 c.cBatch, .int .i64 c.cPass, .int .i64 c.cMsg, .int .i64 c.cSeqs, .int .i64 0, .int .i64 0, .int .i64 0, .int .i64 0, .slice ya (k + 1) yc, .bool false, .slice none 0 0, .slice none 0 0] := x38.set 14 _
      have b9 := b8.setCell (p := ⟨B3, 14, none⟩) (show w.heap.size ≤ B3 by have := HLx3.out; omega) (.slice ya (k + 1) yc)
      clear qz ho8 hl8 x18 x28 x38 b8
      generalize w8.setCell ⟨B3, 14, none⟩ (.slice ya (k + 1) yc) = w9 at *
      go_wp2
      exact ⟨⟨k + 1, ya, yc, _, hlt, by go_num, x19, x29, x39, HRN, o9, l9, b9⟩, by simp [intOf]; omega⟩
    · obtain rfl : k = wn := by omega
      have HO : Hid (RcTl w.heap.size w3 (newR c) va k vc none 0 0 none 0 0) := ⟨⟨r, by rw [HR.out, HTK.out], by rw [HTK.out, List.length_map, List.length_range]; exact o3, l3⟩, tlRow_nil _ _ _ _, stTl_nil _ _ _, fun h hh z hz => by
        rw [HTK.out] at hh
        obtain ⟨i, _, rfl⟩ := List.mem_map.1 hh
        cases hz⟩
      have x2e := x2.setRow #[.int .i64 c.cB, .int .i64 c.cBeam, .int .i64 c.cDepth, .int .i64 c.cWin, .int .i64 c.cQs, .int .i64 c.cQr, .int .i64 c.cBatch, .int .i64 c.cPass, .int .i64 c.cMsg, .int .i64 c.cSeqs, .int .i64 0, .int .i64 0, .int .i64 0, .int .i64 0, .slice va k vc, .bool false, .slice none 0 0, .slice none 0 0]
      have bE := below_setRow bb (show w.heap.size ≤ n2 by have := HN2.out; omega) #[.int .i64 c.cB, .int .i64 c.cBeam, .int .i64 c.cDepth, .int .i64 c.cWin, .int .i64 c.cQs, .int .i64 c.cQr, .int .i64 c.cBatch, .int .i64 c.cPass, .int .i64 c.cMsg, .int .i64 c.cSeqs, .int .i64 0, .int .i64 0, .int .i64 0, .int .i64 0, .slice va k vc, .bool false, .slice none 0 0, .slice none 0 0]
      have oE := HO.out.put x2 (by decide) (by decide) (by decide) (by decide) (fun g hg => setRow_other w3 n2 g #[.int .i64 c.cB, .int .i64 c.cBeam, .int .i64 c.cDepth, .int .i64 c.cWin, .int .i64 c.cQs, .int .i64 c.cQr, .int .i64 c.cBatch, .int .i64 c.cPass, .int .i64 c.cMsg, .int .i64 c.cSeqs, .int .i64 0, .int .i64 0, .int .i64 0, .int .i64 0, .slice va k vc, .bool false, .slice none 0 0, .slice none 0 0] hg)
      clear o3 l3 HO bb x1
      go_wp2_with (first | (refine wpList_load_box x3 rfl 31 _ rfl rfl _ Try.underlying31 rfl (by kernel_rfl) ?_) | (refine wpList_store_box x2 rfl 31 _ _ rfl rfl rfl rfl (by kernel_rfl) (by simp [Value.oneCell']) ?_))
      exact bodyPost_ret (results_boxR2 rfl _ _ rfl x2e Try.underlying31 rfl (by kernel_rfl)) rfl ⟨va, vc, rfl, oE, bE⟩

theorem bitsR_snoc : ∀ (l : List Hr) (h : Hr), bitsR (l ++ [h]) = bitsR l + (if h.hD = true then 2 ^ l.length else 0)
  | [], h => by cases hd : h.hD <;> simp [bitsR, hd]
  | g :: t, h => by
    rw [List.cons_append, bitsR, bitsR_snoc t h, bitsR, List.length_cons, Nat.pow_succ]
    cases h.hD <;> simp <;> omega
theorem bitsR_next {l : List Hr} {k : Nat} {h : Hr} (hk : l[k]? = some h) : bitsR (l.take (k + 1)) = bitsR (l.take k) + (if h.hD = true then 2 ^ k else 0) := by
  have hlt := (List.getElem?_eq_some_iff.1 hk).1
  rw [List.take_add_one, hk, Option.toList_some, bitsR_snoc, List.length_take, Nat.min_eq_left (by omega)]
theorem bitsR_full (l : List Hr) (k : Nat) (hk : l.length = k) : bitsR (l.take k) = bitsR l := by rw [List.take_of_length_le (by omega)]
set_option maxRecDepth 100000 in
set_option maxHeartbeats 4000000 in
theorem recvDone_any (a : Option Addr) (n cap : Nat) (l : List Hr) (hn : l.length = n) (hl : n ≤ 31) (w : World) (hh : Hrs w (.slice a n cap) l) :
    Calls Try.prog 20 #[.slice a n cap] w fun e w' => e = .returned (.int .u32 ((bitsR l : Nat) : Int)) ∧ Below w.heap.size w w' := by
  have HN : Hid (l.length = n) := hn
  have HH : Hid (Hrs w (.slice a n cap) l) := hh
  clear hn hh
  go_enter Try.func20, Try.ntmps20
  go_wp2
  go_loopw [3, 8] (fun b i wr => ∃ (k : Nat) (x : Nat), k ≤ n ∧ i = .int .i64 (k : Int) ∧ b = .int .u32 (x : Int) ∧ Hid (bitsR (l.take k) = x ∧ x < 2 ^ k) ∧ Below w.heap.size w wr) (fun _ i _ => n - (intOf i).toNat)
  case atStart => exact ⟨0, 0, Nat.zero_le _, rfl, rfl, ⟨by simp [bitsR], by decide⟩, Below.refl _ _⟩
  case round =>
    obtain ⟨k, x, hk, rfl, rfl, HX, bw⟩ := hrel
    generalize hwr : wr = w3 at *
    clear hwr
    by_cases hlt : k < n
    · obtain ⟨h, he⟩ : ∃ y, l[k]? = some y := ⟨l[k]'(by rw [HN.out]; exact hlt), by simp⟩
      obtain ⟨gb, off, pa, pc, qb, qd, rfl, y2⟩ := (HH.out.next bw).at he
      have hbn := bitsR_next he
      rw [HX.out.1] at hbn
      have HB : Hid (bitsR (l.take (k + 1)) = x + (if h.hD = true then 2 ^ k else 0)) := hbn
      have y20 := y2.1.2.1
      have y21 := y2.1.2.2.1
      have y22 := y2.1.2.2.2.1
      have y23 := y2.1.2.2.2.2.1
      have y24 := y2.1.2.2.2.2.2.1
      have y25 := y2.1.2.2.2.2.2.2.1
      have y26 := y2.1.2.2.2.2.2.2.2
      have yl := y2.lt
      have x5 := Box.new w3 46 #[.int .i64 h.hS, .int .i64 h.hR, .int .i64 h.hN, .int .i64 h.hP, .slice pa h.hL.length pc, .bool h.hD, .slice qb h.hB.length qd]
      have bA : Below w.heap.size w (w3.alloc (.cells #[.int .i64 h.hS, .int .i64 h.hR, .int .i64 h.hN, .int .i64 h.hP, .slice pa h.hL.length pc, .bool h.hD, .slice qb h.hB.length qd] 46)) := bw.alloc bw.size _
      clear y2 hbn
      go_upto_region 5 with fail
      clear y20 y21 y22 y23 y24 y25 y26 yl he bw
      obtain ⟨B5, hB5⟩ : ∃ k, w3.heap.size = k := ⟨_, rfl⟩
      rw [hB5] at x5 ⊢
      clear hB5
      generalize w3.alloc (.cells #[.int .i64 h.hS, .int .i64 h.hR, .int .i64 h.hN, .int .i64 h.hP, .slice pa h.hL.length pc, .bool h.hD, .slice qb h.hB.length qd] 46) = w5 at *
      have c5 := x5.cell 5 _ rfl
      have l5 := x5.lt
      obtain ⟨d, hd⟩ : ∃ d, h.hD = d := ⟨_, rfl⟩
      rw [hd] at c5 HB
      clear x5
      have hp : 2 ^ k ≤ 2 ^ 30 := Nat.pow_le_pow_right (by decide) (by omega)
      obtain ⟨P, hP⟩ : ∃ P, 2 ^ k = P := ⟨_, rfl⟩
      have hxP : x < P := by have := HX.out.2; omega
      have hP2 : 2 ^ (k + 1) = 2 * P := by rw [Nat.pow_succ, hP]; omega
      cases d with
      | true =>
        have HY : Hid (bitsR (l.take (k + 1)) = x + P ∧ x + P < 2 ^ (k + 1)) := ⟨by rw [HB.out, if_pos rfl, hP], by rw [hP2]; omega⟩
        have e1 : (2 : Int) ^ k = (P : Int) := by rw [← hP]; simp
        have e3 : bits .or .u32 (x : Int) (P : Int) = ((x + P : Nat) : Int) := by
          rw [zu32_or _ _ (by omega) (by omega)]
          have := or_shift x 1 k (by omega)
          rw [Nat.mul_one, hP] at this
          rw [this]
        have e4 : IntKind.u32.wrap (P : Int) = (P : Int) := by rw [IntKind.wrap_u32]; omega
        have e5 : (P : Int) % 4294967296 = (P : Int) := by omega
        obtain ⟨u, hu⟩ : ∃ u, x + P = u := ⟨_, rfl⟩
        rw [hu] at HY e3
        have nk : ¬ ((k : Int) < 0) := by omega
        have k32 : k < 32 := by omega
        have k31 : ((k : Int) < 32) := by omega
        clear hP hP2 hp hu hd hxP
        go_wp2
        exact ⟨⟨k + 1, u, hlt, by go_num, rfl, HY, bA⟩, by simp [intOf]; omega⟩
      | false =>
        have HY : Hid (bitsR (l.take (k + 1)) = x ∧ x < 2 ^ (k + 1)) := ⟨by rw [HB.out, if_neg (by decide), Nat.add_zero], by rw [hP2]; omega⟩
        clear hP hP2 hp hd hxP
        go_wp2
        exact ⟨⟨k + 1, x, hlt, by go_num, rfl, HY, bA⟩, by simp [intOf]; omega⟩
    · obtain rfl : k = n := by omega
      have HE : Hid (x = bitsR l) := HX.out.1.symm.trans (bitsR_full l k HN.out)
      go_wp2
      go_ret
      exact ⟨by rw [HE.out]; rfl, bw⟩

set_option maxRecDepth 100000 in
set_option maxHeartbeats 4000000 in
theorem recvReply_ok {r : Rc} {c : Cfg} {K B N T : Int} {M : Nat} {O : Bool} {J Q : Nat} (hs : RcIs r c K B N T M O J Q) (hM : M ≤ 1000000) (hJ : J ≤ 4096) (hQ : Q ≤ 1000000) (hm : ∀ h ∈ r.rH, h.hL.length ≤ 4294967296 ∧ h.hB.length ≤ 4096) (hq : ∀ m ∈ r.rQ, m.length ≤ 4096) (ha : Option Addr) (hc : Nat) (ja : Option Addr) (jc : Nat) (qa : Option Addr) (qc : Nat) (w : World) (hr : RcAt w r ha M hc ja J jc qa Q qc) (hOK : okR r) :
    Calls Try.prog 8 #[.agg #[.int .i64 c.cB, .int .i64 c.cBeam, .int .i64 c.cDepth, .int .i64 c.cWin, .int .i64 c.cQs, .int .i64 c.cQr, .int .i64 c.cBatch, .int .i64 c.cPass, .int .i64 c.cMsg, .int .i64 c.cSeqs, .int .i64 K, .int .i64 B, .int .i64 N, .int .i64 T, .slice ha M hc, .bool O, .slice ja J jc, .slice qa Q qc]] w fun e W' => ∃ fa fc ga gc va vc ya yc, e = .returned (.tuple #[.agg #[.int .i64 c.cB, .int .i64 c.cBeam, .int .i64 c.cDepth, .int .i64 c.cWin, .int .i64 c.cQs, .int .i64 c.cQr, .int .i64 c.cBatch, .int .i64 c.cPass, .int .i64 c.cMsg, .int .i64 c.cSeqs, .int .i64 (satN K 1), .int .i64 B, .int .i64 N, .int .i64 T, .slice fa M fc, .bool O, .slice ga J gc, .slice va Q vc], .slice ya 13 yc, .int .i64 0]) ∧ RcTl w.heap.size W' (replyR r) fa M fc ga J gc va Q vc ∧ W'.ownsRow w.heap.size 5 1 (.slice ya 13 yc) 13 ((packR r).map (Value.int .u8)) ∧ Below w.heap.size w W' := by
  have bb : Below w.heap.size w ((w.alloc (.cells #[.int .i64 c.cB, .int .i64 c.cBeam, .int .i64 c.cDepth, .int .i64 c.cWin, .int .i64 c.cQs, .int .i64 c.cQr, .int .i64 c.cBatch, .int .i64 c.cPass, .int .i64 c.cMsg, .int .i64 c.cSeqs, .int .i64 K, .int .i64 B, .int .i64 N, .int .i64 T, .slice ha M hc, .bool O, .slice ja J jc, .slice qa Q qc] 31)).alloc (.cells #[.int .i64 0, .int .i64 0, .int .i64 0, .int .i64 0, .int .i64 0, .int .i64 0, .int .i64 0, .int .i64 0, .int .i64 0, .int .i64 0, .int .i64 0, .int .i64 0, .int .i64 0, .int .i64 0, .slice none 0 0, .bool false, .slice none 0 0, .slice none 0 0] 31)) := ((Below.refl _ _).alloc (Nat.le_refl _) _).alloc (by simp) _
  have x1 : Box ((w.alloc (.cells #[.int .i64 c.cB, .int .i64 c.cBeam, .int .i64 c.cDepth, .int .i64 c.cWin, .int .i64 c.cQs, .int .i64 c.cQr, .int .i64 c.cBatch, .int .i64 c.cPass, .int .i64 c.cMsg, .int .i64 c.cSeqs, .int .i64 K, .int .i64 B, .int .i64 N, .int .i64 T, .slice ha M hc, .bool O, .slice ja J jc, .slice qa Q qc] 31)).alloc (.cells #[.int .i64 0, .int .i64 0, .int .i64 0, .int .i64 0, .int .i64 0, .int .i64 0, .int .i64 0, .int .i64 0, .int .i64 0, .int .i64 0, .int .i64 0, .int .i64 0, .int .i64 0, .int .i64 0, .slice none 0 0, .bool false, .slice none 0 0, .slice none 0 0] 31)) w.heap.size 31 #[.int .i64 c.cB, .int .i64 c.cBeam, .int .i64 c.cDepth, .int .i64 c.cWin, .int .i64 c.cQs, .int .i64 c.cQr, .int .i64 c.cBatch, .int .i64 c.cPass, .int .i64 c.cMsg, .int .i64 c.cSeqs, .int .i64 K, .int .i64 B, .int .i64 N, .int .i64 T, .slice ha M hc, .bool O, .slice ja J jc, .slice qa Q qc] := (Box.new w 31 #[.int .i64 c.cB, .int .i64 c.cBeam, .int .i64 c.cDepth, .int .i64 c.cWin, .int .i64 c.cQs, .int .i64 c.cQr, .int .i64 c.cBatch, .int .i64 c.cPass, .int .i64 c.cMsg, .int .i64 c.cSeqs, .int .i64 K, .int .i64 B, .int .i64 N, .int .i64 T, .slice ha M hc, .bool O, .slice ja J jc, .slice qa Q qc]).next ((Below.refl _ _).alloc (Nat.le_refl _) _)
  have x2 := Box.new (w.alloc (.cells #[.int .i64 c.cB, .int .i64 c.cBeam, .int .i64 c.cDepth, .int .i64 c.cWin, .int .i64 c.cQs, .int .i64 c.cQr, .int .i64 c.cBatch, .int .i64 c.cPass, .int .i64 c.cMsg, .int .i64 c.cSeqs, .int .i64 K, .int .i64 B, .int .i64 N, .int .i64 T, .slice ha M hc, .bool O, .slice ja J jc, .slice qa Q qc] 31)) 31 #[.int .i64 0, .int .i64 0, .int .i64 0, .int .i64 0, .int .i64 0, .int .i64 0, .int .i64 0, .int .i64 0, .int .i64 0, .int .i64 0, .int .i64 0, .int .i64 0, .int .i64 0, .int .i64 0, .slice none 0 0, .bool false, .slice none 0 0, .slice none 0 0]
  replace hr := hr.next bb
  have H1 := fun wx hx => recvCheck_any hs hM hQ hm ha hc ja jc qa qc wx hx
  have H2 := fun wx hx => recvApart_any hs hM hJ hQ hm hq ha hc ja jc qa qc wx hx
  have HOK : Hid (okR r) := hOK
  have HS : Hid (RcIs r c K B N T M O J Q) := hs
  clear hs hm hq hOK
  go_enter Try.func8, Try.ntmps8
  go_wp2_with (first | (refine wpList_load_box x1 rfl 31 _ rfl rfl _ Try.underlying31 rfl (by kernel_rfl) ?_))
  refine (H1 _ hr).mono ?_
  rintro e w1 ⟨⟨z, rfl, hz⟩, b1⟩
  obtain rfl : z = 0 := by
    rcases hz with ⟨h, _⟩ | ⟨_, h⟩
    · exact h
    · exact (h HOK.out).elim
  obtain ⟨n2, hn2⟩ : ∃ n, (w.alloc (.cells #[.int .i64 c.cB, .int .i64 c.cBeam, .int .i64 c.cDepth, .int .i64 c.cWin, .int .i64 c.cQs, .int .i64 c.cQr, .int .i64 c.cBatch, .int .i64 c.cPass, .int .i64 c.cMsg, .int .i64 c.cSeqs, .int .i64 K, .int .i64 B, .int .i64 N, .int .i64 T, .slice ha M hc, .bool O, .slice ja J jc, .slice qa Q qc] 31)).heap.size = n := ⟨_, rfl⟩
  have hn2s : w.heap.size + 1 = n2 := by rw [← hn2]; simp
  rw [hn2] at x2
  try rw [hn2s]
  have HN2 : Hid (w.heap.size + 1 = n2) := hn2s
  clear hn2 hn2s
  replace x1 := x1.next b1
  replace x2 := x2.next b1
  replace hr := hr.next b1
  replace bb := bb.trans (b1.mono bb.size)
  clear b1 H1 hz
  have hM16 : M ≤ 16 := by
    have h1 := HOK.out.long
    have h2 := ((okC_iff _).1 HOK.out.conf).2.2.2.1
    rw [HS.out.lH] at h1
    omega
  obtain ⟨X, hX⟩ : ∃ X, bitsR r.rH = X := ⟨_, rfl⟩
  have hX2 := bitsR_bd HOK.out
  have hN := HOK.out.next
  rw [hX] at hX2
  rw [HS.out.eN] at hN
  have HDB : Hid (∀ wx : World, Below w1.heap.size w1 wx → Calls Try.prog 20 #[.slice ha M hc] wx fun e w' => e = .returned (.int .u32 (X : Int)) ∧ Below w1.heap.size w1 w') := fun wx hx => by
    have h := recvDone_any ha M hc r.rH HS.out.lH (by omega) wx (hr.1.next hx)
    rw [hX] at h
    exact h.mono fun e w' ⟨h, b⟩ => ⟨h, hx.trans (b.mono hx.size)⟩
  have HMK : Hid (∀ wx : World, Below w1.heap.size w1 wx → Calls Try.prog 19 #[.agg #[.int .i64 N, .int .u32 (X : Int)]] wx fun e w' => ∃ ya yc, e = .returned (.tuple #[.slice ya 13 yc, .int .i64 0]) ∧ w'.ownsRow w1.heap.size 5 1 (.slice ya 13 yc) 13 ((packR r).map (Value.int .u8)) ∧ Below w1.heap.size w1 w') := fun wx hx => by
    have h := AckMake_ok N (X : Int) hN.1 (by have := hN.2; omega) (by omega) (by omega) wx
    rw [show packA N (X : Int) = packR r by unfold packR; rw [HS.out.eN, hX]] at h
    refine h.mono ?_
    rintro e w' ⟨q, rfl, o9, b9⟩
    obtain ⟨ya, yc, rfl⟩ := row_shapeS o9
    exact ⟨ya, yc, rfl, rowK_base o9 hx.size, hx.trans (b9.mono hx.size)⟩
  have HAR : Hid (RcAt w1 r ha M hc ja J jc qa Q qc) := hr
  have c12 := x1.cell 12 _ rfl
  have c14 := x1.cell 14 _ rfl
  have l1 := x1.lt
  have d12 : w1.drew.cell? ⟨w.heap.size, 12, none⟩ = some (.int .i64 N) := c12
  have d14 : w1.drew.cell? ⟨w.heap.size, 14, none⟩ = some (.slice ha M hc) := c14
  clear hX hX2 hN hr
  go_upto_region 4 with fail
  first | go_region_with (first | (go_at_call 20; refine (HDB.out _ (by exact (Below.refl _ _).drew)).mono ?_; rintro e9 w9 ⟨rfl, b9⟩; have m12 := (b9.cell (p := ⟨w.heap.size, 12, none⟩) l1).trans c12) | (go_at_call 19; refine (HMK.out _ (by exact b9)).mono ?_; rintro e10 w10 ⟨ya, yc, rfl, oq, b10⟩)) | fail
  all_goals (
    replace x1 := x1.next b10
    replace x2 := x2.next b10
    have hr := HAR.out.next b10
    replace bb := bb.trans (b10.mono bb.size)
    have HQ : Hid (w10.ownsRow w.heap.size 5 1 (.slice ya 13 yc) 13 ((packR r).map (Value.int .u8))) := rowK_base oq (by have := HN2.out; have := x2.lt; have := b10.size; omega)
    clear m12 b9 b10 oq c12 c14 d12 d14 l1 HDB HMK HAR
    go_wp2_with (first | (refine wpList_load_box x1 rfl 31 _ rfl rfl _ Try.underlying31 rfl (by kernel_rfl) ?_))
    refine (H2 _ hr).mono ?_
    rintro e w2 ⟨fa, fc, ga, gc, va, vc, rfl, o2, b1⟩
    have hbs := bb.size
    have HQ2 : Hid (w2.ownsRow w.heap.size 5 1 (.slice ya 13 yc) 13 ((packR r).map (Value.int .u8))) := rowK_below HQ.out b1 (Nat.le_refl _)
    replace x2 := x2.next b1
    replace bb := bb.trans (b1.mono bb.size)
    replace o2 := o2.lower (base' := w.heap.size) hbs
    clear b1 H2 hr hbs x1 HQ
    go_upto_region 8 with (first | (refine wpList_store_box x2 rfl 31 _ _ rfl rfl rfl rfl (by kernel_rfl) (by simp [Value.oneCell']) ?_))
    have HQ3 : Hid ((w2.setRow n2 #[.int .i64 c.cB, .int .i64 c.cBeam, .int .i64 c.cDepth, .int .i64 c.cWin, .int .i64 c.cQs, .int .i64 c.cQr, .int .i64 c.cBatch, .int .i64 c.cPass, .int .i64 c.cMsg, .int .i64 c.cSeqs, .int .i64 K, .int .i64 B, .int .i64 N, .int .i64 T, .slice fa M fc, .bool O, .slice ga J gc, .slice va Q vc]).ownsRow w.heap.size 5 1 (.slice ya 13 yc) 13 ((packR r).map (Value.int .u8))) := row_put1 HQ2.out x2 (by decide) (fun g hg => setRow_other w2 n2 g #[.int .i64 c.cB, .int .i64 c.cBeam, .int .i64 c.cDepth, .int .i64 c.cWin, .int .i64 c.cQs, .int .i64 c.cQr, .int .i64 c.cBatch, .int .i64 c.cPass, .int .i64 c.cMsg, .int .i64 c.cSeqs, .int .i64 K, .int .i64 B, .int .i64 N, .int .i64 T, .slice fa M fc, .bool O, .slice ga J gc, .slice va Q vc] hg)
    replace o2 := o2.put x2 (by decide) (by decide) (by decide) (by decide) (fun g hg => setRow_other w2 n2 g #[.int .i64 c.cB, .int .i64 c.cBeam, .int .i64 c.cDepth, .int .i64 c.cWin, .int .i64 c.cQs, .int .i64 c.cQr, .int .i64 c.cBatch, .int .i64 c.cPass, .int .i64 c.cMsg, .int .i64 c.cSeqs, .int .i64 K, .int .i64 B, .int .i64 N, .int .i64 T, .slice fa M fc, .bool O, .slice ga J gc, .slice va Q vc] hg)
    replace x2 := x2.setRow #[.int .i64 c.cB, .int .i64 c.cBeam, .int .i64 c.cDepth, .int .i64 c.cWin, .int .i64 c.cQs, .int .i64 c.cQr, .int .i64 c.cBatch, .int .i64 c.cPass, .int .i64 c.cMsg, .int .i64 c.cSeqs, .int .i64 K, .int .i64 B, .int .i64 N, .int .i64 T, .slice fa M fc, .bool O, .slice ga J gc, .slice va Q vc]
    replace bb := below_setRow bb (show w.heap.size ≤ n2 by have := HN2.out; omega) #[.int .i64 c.cB, .int .i64 c.cBeam, .int .i64 c.cDepth, .int .i64 c.cWin, .int .i64 c.cQs, .int .i64 c.cQr, .int .i64 c.cBatch, .int .i64 c.cPass, .int .i64 c.cMsg, .int .i64 c.cSeqs, .int .i64 K, .int .i64 B, .int .i64 N, .int .i64 T, .slice fa M fc, .bool O, .slice ga J gc, .slice va Q vc]
    clear HQ2
    generalize w2.setRow n2 #[.int .i64 c.cB, .int .i64 c.cBeam, .int .i64 c.cDepth, .int .i64 c.cWin, .int .i64 c.cQs, .int .i64 c.cQr, .int .i64 c.cBatch, .int .i64 c.cPass, .int .i64 c.cMsg, .int .i64 c.cSeqs, .int .i64 K, .int .i64 B, .int .i64 N, .int .i64 T, .slice fa M fc, .bool O, .slice ga J gc, .slice va Q vc] = w3 at *
    have c10 := x2.cell 10 _ rfl
    have l2 := x2.lt
    go_wp2_with fail
    refine (SatAdd_any K 1 _).mono ?_
    rintro e w4 ⟨rfl, rfl⟩
    clear c10 l2
    have cz := x2.cell 10 _ rfl
    have gz := x2.free 10
    have lz := x2.lt
    go_upto_region 9 with fail
    clear cz gz lz
    have qz : ∀ g, g ≠ n2 → (w3.setCell ⟨n2, 10, none⟩ (.int .i64 (satN K 1))).heap[g]? = w3.heap[g]? := fun g hg => Below.heap_setCell _ _ _ g hg
    replace o2 := o2.put x2 (by decide) (by decide) (by decide) (by decide) qz
    have HQ4 := row_put1 HQ3.out x2 (by decide) qz
    replace x2 : Box (w3.setCell ⟨n2, 10, none⟩ (.int .i64 (satN K 1))) n2 31 #[.int .i64 c.cB, .int .i64 c.cBeam, .int .i64 c.cDepth, .int .i64 c.cWin, .int .i64 c.cQs, .int .i64 c.cQr, .int .i64 c.cBatch, .int .i64 c.cPass, .int .i64 c.cMsg, .int .i64 c.cSeqs, .int .i64 (satN K 1), .int .i64 B, .int .i64 N, .int .i64 T, .slice fa M fc, .bool O, .slice ga J gc, .slice va Q vc] := x2.set 10 _
    replace bb := bb.setCell (p := ⟨n2, 10, none⟩) (show w.heap.size ≤ n2 by have := HN2.out; omega) (.int .i64 (satN K 1))
    clear qz
    generalize (w3.setCell ⟨n2, 10, none⟩ (.int .i64 (satN K 1))) = w5 at *
    have xE := x2.setRow #[.int .i64 c.cB, .int .i64 c.cBeam, .int .i64 c.cDepth, .int .i64 c.cWin, .int .i64 c.cQs, .int .i64 c.cQr, .int .i64 c.cBatch, .int .i64 c.cPass, .int .i64 c.cMsg, .int .i64 c.cSeqs, .int .i64 (satN K 1), .int .i64 B, .int .i64 N, .int .i64 T, .slice fa M fc, .bool O, .slice ga J gc, .slice va Q vc]
    have bE := below_setRow bb (show w.heap.size ≤ n2 by have := HN2.out; omega) #[.int .i64 c.cB, .int .i64 c.cBeam, .int .i64 c.cDepth, .int .i64 c.cWin, .int .i64 c.cQs, .int .i64 c.cQr, .int .i64 c.cBatch, .int .i64 c.cPass, .int .i64 c.cMsg, .int .i64 c.cSeqs, .int .i64 (satN K 1), .int .i64 B, .int .i64 N, .int .i64 T, .slice fa M fc, .bool O, .slice ga J gc, .slice va Q vc]
    have oE := o2.put x2 (by decide) (by decide) (by decide) (by decide) (fun g hg => setRow_other w5 n2 g #[.int .i64 c.cB, .int .i64 c.cBeam, .int .i64 c.cDepth, .int .i64 c.cWin, .int .i64 c.cQs, .int .i64 c.cQr, .int .i64 c.cBatch, .int .i64 c.cPass, .int .i64 c.cMsg, .int .i64 c.cSeqs, .int .i64 (satN K 1), .int .i64 B, .int .i64 N, .int .i64 T, .slice fa M fc, .bool O, .slice ga J gc, .slice va Q vc] hg)
    have qE := row_put1 HQ4 x2 (by decide) (fun g hg => setRow_other w5 n2 g #[.int .i64 c.cB, .int .i64 c.cBeam, .int .i64 c.cDepth, .int .i64 c.cWin, .int .i64 c.cQs, .int .i64 c.cQr, .int .i64 c.cBatch, .int .i64 c.cPass, .int .i64 c.cMsg, .int .i64 c.cSeqs, .int .i64 (satN K 1), .int .i64 B, .int .i64 N, .int .i64 T, .slice fa M fc, .bool O, .slice ga J gc, .slice va Q vc] hg)
    clear bb o2 HQ3 HQ4
    go_wp2_with (first | (refine wpList_load_box x2 rfl 31 _ rfl rfl _ Try.underlying31 rfl (by kernel_rfl) ?_) | (refine wpList_store_box x2 rfl 31 _ _ rfl rfl rfl rfl (by kernel_rfl) (by simp [Value.oneCell']) ?_))
    exact bodyPost_ret (results_boxV3 rfl _ _ rfl xE Try.underlying31 rfl (by kernel_rfl)) rfl ⟨fa, fc, ga, gc, va, vc, ya, yc, rfl, oE, qE, bE⟩)

set_option maxRecDepth 100000 in
set_option maxHeartbeats 4000000 in
theorem recvReceive_nil {r : Rc} {c : Cfg} {K B N T : Int} {M : Nat} {O : Bool} {J : Nat} (hs : RcIs r c K B N T M O J 0) (hM : M ≤ 1000000) (hJ : J ≤ 4096) (hm : ∀ h ∈ r.rH, h.hL.length ≤ 4294967296 ∧ h.hB.length ≤ 4096) (ha : Option Addr) (hc : Nat) (ja : Option Addr) (jc : Nat) (qa : Option Addr) (qc : Nat) (w : World) (hr : RcAt w r ha M hc ja J jc qa 0 qc) (hOK : okR r) :
    Calls Try.prog 6 #[.agg #[.int .i64 c.cB, .int .i64 c.cBeam, .int .i64 c.cDepth, .int .i64 c.cWin, .int .i64 c.cQs, .int .i64 c.cQr, .int .i64 c.cBatch, .int .i64 c.cPass, .int .i64 c.cMsg, .int .i64 c.cSeqs, .int .i64 K, .int .i64 B, .int .i64 N, .int .i64 T, .slice ha M hc, .bool O, .slice ja J jc, .slice qa 0 qc]] w fun e W' => ∃ fa fc ga gc va vc, e = .returned (.tuple #[.agg #[.int .i64 c.cB, .int .i64 c.cBeam, .int .i64 c.cDepth, .int .i64 c.cWin, .int .i64 c.cQs, .int .i64 c.cQr, .int .i64 c.cBatch, .int .i64 c.cPass, .int .i64 c.cMsg, .int .i64 c.cSeqs, .int .i64 K, .int .i64 B, .int .i64 N, .int .i64 T, .slice fa M fc, .bool O, .slice ga J gc, .slice va 0 vc], .slice none 0 0, .int .i64 10]) ∧ RcTl w.heap.size W' r fa M fc ga J gc va 0 vc ∧ Below w.heap.size w W' := by
  have hQ : (0 : Nat) ≤ 1000000 := by decide
  have hq : ∀ m ∈ r.rQ, m.length ≤ 4096 := fun m hm => by
    have := hs.lQ
    rw [List.length_eq_zero_iff.1 this] at hm
    cases hm
  have bb : Below w.heap.size w ((w.alloc (.cells #[.int .i64 c.cB, .int .i64 c.cBeam, .int .i64 c.cDepth, .int .i64 c.cWin, .int .i64 c.cQs, .int .i64 c.cQr, .int .i64 c.cBatch, .int .i64 c.cPass, .int .i64 c.cMsg, .int .i64 c.cSeqs, .int .i64 K, .int .i64 B, .int .i64 N, .int .i64 T, .slice ha M hc, .bool O, .slice ja J jc, .slice qa 0 qc] 31)).alloc (.cells #[.int .i64 0, .int .i64 0, .int .i64 0, .int .i64 0, .int .i64 0, .int .i64 0, .int .i64 0, .int .i64 0, .int .i64 0, .int .i64 0, .int .i64 0, .int .i64 0, .int .i64 0, .int .i64 0, .slice none 0 0, .bool false, .slice none 0 0, .slice none 0 0] 31)) := ((Below.refl _ _).alloc (Nat.le_refl _) _).alloc (by simp) _
  have x1 : Box ((w.alloc (.cells #[.int .i64 c.cB, .int .i64 c.cBeam, .int .i64 c.cDepth, .int .i64 c.cWin, .int .i64 c.cQs, .int .i64 c.cQr, .int .i64 c.cBatch, .int .i64 c.cPass, .int .i64 c.cMsg, .int .i64 c.cSeqs, .int .i64 K, .int .i64 B, .int .i64 N, .int .i64 T, .slice ha M hc, .bool O, .slice ja J jc, .slice qa 0 qc] 31)).alloc (.cells #[.int .i64 0, .int .i64 0, .int .i64 0, .int .i64 0, .int .i64 0, .int .i64 0, .int .i64 0, .int .i64 0, .int .i64 0, .int .i64 0, .int .i64 0, .int .i64 0, .int .i64 0, .int .i64 0, .slice none 0 0, .bool false, .slice none 0 0, .slice none 0 0] 31)) w.heap.size 31 #[.int .i64 c.cB, .int .i64 c.cBeam, .int .i64 c.cDepth, .int .i64 c.cWin, .int .i64 c.cQs, .int .i64 c.cQr, .int .i64 c.cBatch, .int .i64 c.cPass, .int .i64 c.cMsg, .int .i64 c.cSeqs, .int .i64 K, .int .i64 B, .int .i64 N, .int .i64 T, .slice ha M hc, .bool O, .slice ja J jc, .slice qa 0 qc] := (Box.new w 31 #[.int .i64 c.cB, .int .i64 c.cBeam, .int .i64 c.cDepth, .int .i64 c.cWin, .int .i64 c.cQs, .int .i64 c.cQr, .int .i64 c.cBatch, .int .i64 c.cPass, .int .i64 c.cMsg, .int .i64 c.cSeqs, .int .i64 K, .int .i64 B, .int .i64 N, .int .i64 T, .slice ha M hc, .bool O, .slice ja J jc, .slice qa 0 qc]).next ((Below.refl _ _).alloc (Nat.le_refl _) _)
  have x2 := Box.new (w.alloc (.cells #[.int .i64 c.cB, .int .i64 c.cBeam, .int .i64 c.cDepth, .int .i64 c.cWin, .int .i64 c.cQs, .int .i64 c.cQr, .int .i64 c.cBatch, .int .i64 c.cPass, .int .i64 c.cMsg, .int .i64 c.cSeqs, .int .i64 K, .int .i64 B, .int .i64 N, .int .i64 T, .slice ha M hc, .bool O, .slice ja J jc, .slice qa 0 qc] 31)) 31 #[.int .i64 0, .int .i64 0, .int .i64 0, .int .i64 0, .int .i64 0, .int .i64 0, .int .i64 0, .int .i64 0, .int .i64 0, .int .i64 0, .int .i64 0, .int .i64 0, .int .i64 0, .int .i64 0, .slice none 0 0, .bool false, .slice none 0 0, .slice none 0 0]
  replace hr := hr.next bb
  have H1 := fun wx hx => recvCheck_any hs hM hQ hm ha hc ja jc qa qc wx hx
  have H2 := fun wx hx => recvApart_any hs hM hJ hQ hm hq ha hc ja jc qa qc wx hx
  have HOK : Hid (okR r) := hOK
  have HS : Hid (RcIs r c K B N T M O J 0) := hs
  clear hs hm hq hOK
  go_enter Try.func6, Try.ntmps6
  go_wp2_with (first | (refine wpList_load_box x1 rfl 31 _ rfl rfl _ Try.underlying31 rfl (by kernel_rfl) ?_))
  refine (H1 _ hr).mono ?_
  rintro e w1 ⟨⟨z, rfl, hz⟩, b1⟩
  obtain rfl : z = 0 := by
    rcases hz with ⟨h, _⟩ | ⟨_, h⟩
    · exact h
    · exact (h HOK.out).elim
  obtain ⟨n2, hn2⟩ : ∃ n, (w.alloc (.cells #[.int .i64 c.cB, .int .i64 c.cBeam, .int .i64 c.cDepth, .int .i64 c.cWin, .int .i64 c.cQs, .int .i64 c.cQr, .int .i64 c.cBatch, .int .i64 c.cPass, .int .i64 c.cMsg, .int .i64 c.cSeqs, .int .i64 K, .int .i64 B, .int .i64 N, .int .i64 T, .slice ha M hc, .bool O, .slice ja J jc, .slice qa 0 qc] 31)).heap.size = n := ⟨_, rfl⟩
  have hn2s : w.heap.size + 1 = n2 := by rw [← hn2]; simp
  rw [hn2] at x2
  try rw [hn2s]
  have HN2 : Hid (w.heap.size + 1 = n2) := hn2s
  clear hn2 hn2s
  replace x1 := x1.next b1
  replace x2 := x2.next b1
  replace hr := hr.next b1
  replace bb := bb.trans (b1.mono bb.size)
  clear b1 H1 hz
  go_wp2_with (first | (refine wpList_load_box x1 rfl 31 _ rfl rfl _ Try.underlying31 rfl (by kernel_rfl) ?_))
  refine (H2 _ hr).mono ?_
  rintro e w2 ⟨fa, fc, ga, gc, va, vc, rfl, o2, b1⟩
  have hbs := bb.size
  replace x2 := x2.next b1
  replace bb := bb.trans (b1.mono bb.size)
  replace o2 := o2.lower (base' := w.heap.size) hbs
  clear b1 H2 hr hbs x1
  go_upto_region 5 with (first | (refine wpList_store_box x2 rfl 31 _ _ rfl rfl rfl rfl (by kernel_rfl) (by simp [Value.oneCell']) ?_))
  replace o2 := o2.put x2 (by decide) (by decide) (by decide) (by decide) (fun g hg => setRow_other w2 n2 g #[.int .i64 c.cB, .int .i64 c.cBeam, .int .i64 c.cDepth, .int .i64 c.cWin, .int .i64 c.cQs, .int .i64 c.cQr, .int .i64 c.cBatch, .int .i64 c.cPass, .int .i64 c.cMsg, .int .i64 c.cSeqs, .int .i64 K, .int .i64 B, .int .i64 N, .int .i64 T, .slice fa M fc, .bool O, .slice ga J gc, .slice va 0 vc] hg)
  replace x2 := x2.setRow #[.int .i64 c.cB, .int .i64 c.cBeam, .int .i64 c.cDepth, .int .i64 c.cWin, .int .i64 c.cQs, .int .i64 c.cQr, .int .i64 c.cBatch, .int .i64 c.cPass, .int .i64 c.cMsg, .int .i64 c.cSeqs, .int .i64 K, .int .i64 B, .int .i64 N, .int .i64 T, .slice fa M fc, .bool O, .slice ga J gc, .slice va 0 vc]
  replace bb := below_setRow bb (show w.heap.size ≤ n2 by have := HN2.out; omega) #[.int .i64 c.cB, .int .i64 c.cBeam, .int .i64 c.cDepth, .int .i64 c.cWin, .int .i64 c.cQs, .int .i64 c.cQr, .int .i64 c.cBatch, .int .i64 c.cPass, .int .i64 c.cMsg, .int .i64 c.cSeqs, .int .i64 K, .int .i64 B, .int .i64 N, .int .i64 T, .slice fa M fc, .bool O, .slice ga J gc, .slice va 0 vc]
  generalize w2.setRow n2 #[.int .i64 c.cB, .int .i64 c.cBeam, .int .i64 c.cDepth, .int .i64 c.cWin, .int .i64 c.cQs, .int .i64 c.cQr, .int .i64 c.cBatch, .int .i64 c.cPass, .int .i64 c.cMsg, .int .i64 c.cSeqs, .int .i64 K, .int .i64 B, .int .i64 N, .int .i64 T, .slice fa M fc, .bool O, .slice ga J gc, .slice va 0 vc] = w3 at *
  have c17 := x2.cell 17 _ rfl
  have l2 := x2.lt
  have xE := x2.setRow #[.int .i64 c.cB, .int .i64 c.cBeam, .int .i64 c.cDepth, .int .i64 c.cWin, .int .i64 c.cQs, .int .i64 c.cQr, .int .i64 c.cBatch, .int .i64 c.cPass, .int .i64 c.cMsg, .int .i64 c.cSeqs, .int .i64 K, .int .i64 B, .int .i64 N, .int .i64 T, .slice fa M fc, .bool O, .slice ga J gc, .slice va 0 vc]
  have bE := below_setRow bb (show w.heap.size ≤ n2 by have := HN2.out; omega) #[.int .i64 c.cB, .int .i64 c.cBeam, .int .i64 c.cDepth, .int .i64 c.cWin, .int .i64 c.cQs, .int .i64 c.cQr, .int .i64 c.cBatch, .int .i64 c.cPass, .int .i64 c.cMsg, .int .i64 c.cSeqs, .int .i64 K, .int .i64 B, .int .i64 N, .int .i64 T, .slice fa M fc, .bool O, .slice ga J gc, .slice va 0 vc]
  have oE := o2.put x2 (by decide) (by decide) (by decide) (by decide) (fun g hg => setRow_other w3 n2 g #[.int .i64 c.cB, .int .i64 c.cBeam, .int .i64 c.cDepth, .int .i64 c.cWin, .int .i64 c.cQs, .int .i64 c.cQr, .int .i64 c.cBatch, .int .i64 c.cPass, .int .i64 c.cMsg, .int .i64 c.cSeqs, .int .i64 K, .int .i64 B, .int .i64 N, .int .i64 T, .slice fa M fc, .bool O, .slice ga J gc, .slice va 0 vc] hg)
  clear bb o2
  go_wp2_with (first | (refine wpList_load_box x2 rfl 31 _ rfl rfl _ Try.underlying31 rfl (by kernel_rfl) ?_) | (refine wpList_store_box x2 rfl 31 _ _ rfl rfl rfl rfl (by kernel_rfl) (by simp [Value.oneCell']) ?_))
  exact bodyPost_ret (results_boxV3 rfl _ _ rfl xE Try.underlying31 rfl (by kernel_rfl)) rfl ⟨fa, fc, ga, gc, va, vc, rfl, oE, bE⟩

end Go.Proofs.Ytmjidhnlofpliab

/-
  What recv answers, of a right receiver, all of it said of the receiver as numbers: New, Reply, Receive where nothing waits. (Written by tpl_recvlaws.py.)
-/
namespace Go.Proofs.Ytmjidhnlofpliab
open Go.RowKit

/-- A right receiver whose lists lie in blocks made since base. -/
structure RcW (base : Nat) (W : World) (r : Rc) (c : Cfg) (K B N T : Int) (M : Nat) (O : Bool) (J Q : Nat) (ha : Option Addr) (hc : Nat) (ja : Option Addr) (jc : Nat) (qa : Option Addr) (qc : Nat) : Prop where
  is : RcIs r c K B N T M O J Q
  ok : okR r
  lies : RcTl base W r ha M hc ja J jc qa Q qc
section
variable {base : Nat} {W : World} {r : Rc} {c : Cfg} {K B N T : Int} {M : Nat} {O : Bool} {J Q : Nat} {ha : Option Addr} {hc : Nat} {ja : Option Addr} {jc : Nat} {qa : Option Addr} {qc : Nat}
theorem RcW.next {W' : World} (h : RcW base W r c K B N T M O J Q ha hc ja jc qa qc) (b : Below W.heap.size W W') : RcW base W' r c K B N T M O J Q ha hc ja jc qa qc := ⟨h.is, h.ok, h.lies.next b⟩
theorem RcW.old {W' : World} (h : RcW base W r c K B N T M O J Q ha hc ja jc qa qc) {D : Nat} (hD : D < base) (hq : ∀ g, g ≠ D → W'.heap[g]? = W.heap[g]?) : RcW base W' r c K B N T M O J Q ha hc ja jc qa qc := ⟨h.is, h.ok, h.lies.old hD hq⟩
theorem RcW.put {W' : World} (h : RcW base W r c K B N T M O J Q ha hc ja jc qa qc) {D : Nat} {cs : Array Value} (hb : Box W D 31 cs) (hq : ∀ g, g ≠ D → W'.heap[g]? = W.heap[g]?) : RcW base W' r c K B N T M O J Q ha hc ja jc qa qc := ⟨h.is, h.ok, h.lies.put hb (by decide) (by decide) (by decide) (by decide) hq⟩
theorem RcW.lower {base' : Nat} (h : RcW base W r c K B N T M O J Q ha hc ja jc qa qc) (hn : base' ≤ base) : RcW base' W r c K B N T M O J Q ha hc ja jc qa qc := ⟨h.is, h.ok, h.lies.lower hn⟩
theorem RcW.conf (h : RcW base W r c K B N T M O J Q ha hc ja jc qa qc) : okC c = true := by have := h.ok.conf; rw [h.is.eC] at this; exact this
theorem RcW.few (h : RcW base W r c K B N T M O J Q ha hc ja jc qa qc) : M ≤ 16 ∧ J ≤ 4096 ∧ Q ≤ 1000000 ∧ (M : Int) = c.cWin := by
  have h1 := h.ok.long
  have h2 := (okC_iff _).1 h.ok.conf
  have h3 := h.ok.join.1
  have h4 := h.ok.room
  rw [h.is.lH] at h1
  rw [h.is.lJ] at h3
  rw [h.is.lQ] at h4
  rw [h.is.eC] at h1 h2 h4
  omega
theorem RcW.syms (h : RcW base W r c K B N T M O J Q ha hc ja jc qa qc) : ∀ y ∈ r.rH, y.hL.length ≤ 4294967296 ∧ y.hB.length ≤ 4096 := fun y hy => by
  obtain ⟨i, hi⟩ := List.mem_iff_getElem?.1 hy
  exact okH_lens h.ok.conf (h.ok.all i y hi).2
theorem RcW.at (h : RcW base W r c K B N T M O J Q ha hc ja jc qa qc) : RcAt W r ha M hc ja J jc qa Q qc := h.lies.at
end
theorem recvNew_law (c : Cfg) (hC : okC c = true) (wn : Nat) (hwn : c.cWin = (wn : Int)) (w : World) :
    Calls Try.prog 5 #[.agg #[.int .i64 c.cB, .int .i64 c.cBeam, .int .i64 c.cDepth, .int .i64 c.cWin, .int .i64 c.cQs, .int .i64 c.cQr, .int .i64 c.cBatch, .int .i64 c.cPass, .int .i64 c.cMsg, .int .i64 c.cSeqs]] w fun e w' => ∃ fa fc, e = .returned (.tuple #[.agg #[.int .i64 c.cB, .int .i64 c.cBeam, .int .i64 c.cDepth, .int .i64 c.cWin, .int .i64 c.cQs, .int .i64 c.cQr, .int .i64 c.cBatch, .int .i64 c.cPass, .int .i64 c.cMsg, .int .i64 c.cSeqs, .int .i64 0, .int .i64 0, .int .i64 0, .int .i64 0, .slice fa wn fc, .bool false, .slice none 0 0, .slice none 0 0], .int .i64 0]) ∧ Hid (RcW w.heap.size w' (newR c) c 0 0 0 0 wn false 0 0 fa fc none 0 none 0) ∧ Below w.heap.size w w' := by
  refine (recvNew_ok c hC wn hwn w).mono ?_
  rintro e w' ⟨fa, fc, rfl, h, b⟩
  have hl := (newR_ok hC).long
  have hl2 : ((newR c).rH.length : Int) = c.cWin := hl
  exact ⟨fa, fc, rfl, ⟨⟨rfl, rfl, rfl, rfl, rfl, by omega, rfl, rfl, rfl⟩, newR_ok hC, h⟩, b⟩
theorem recvReply_law {base : Nat} {w : World} {r : Rc} {c : Cfg} {K B N T : Int} {M : Nat} {O : Bool} {J Q : Nat} {ha : Option Addr} {hc : Nat} {ja : Option Addr} {jc : Nat} {qa : Option Addr} {qc : Nat} (h : RcW base w r c K B N T M O J Q ha hc ja jc qa qc) :
    Calls Try.prog 8 #[.agg #[.int .i64 c.cB, .int .i64 c.cBeam, .int .i64 c.cDepth, .int .i64 c.cWin, .int .i64 c.cQs, .int .i64 c.cQr, .int .i64 c.cBatch, .int .i64 c.cPass, .int .i64 c.cMsg, .int .i64 c.cSeqs, .int .i64 K, .int .i64 B, .int .i64 N, .int .i64 T, .slice ha M hc, .bool O, .slice ja J jc, .slice qa Q qc]] w fun e W' => ∃ fa fc ga gc va vc ya yc, e = .returned (.tuple #[.agg #[.int .i64 c.cB, .int .i64 c.cBeam, .int .i64 c.cDepth, .int .i64 c.cWin, .int .i64 c.cQs, .int .i64 c.cQr, .int .i64 c.cBatch, .int .i64 c.cPass, .int .i64 c.cMsg, .int .i64 c.cSeqs, .int .i64 (satN K 1), .int .i64 B, .int .i64 N, .int .i64 T, .slice fa M fc, .bool O, .slice ga J gc, .slice va Q vc], .slice ya 13 yc, .int .i64 0]) ∧ Hid (RcW w.heap.size W' (replyR r) c (satN K 1) B N T M O J Q fa fc ga gc va vc) ∧ W'.ownsRow w.heap.size 5 1 (.slice ya 13 yc) 13 ((packR r).map (Value.int .u8)) ∧ Below w.heap.size w W' := by
  have hf := h.few
  refine (recvReply_ok h.is (by omega) hf.2.1 hf.2.2.1 h.syms h.ok.msgs ha hc ja jc qa qc w h.at h.ok).mono ?_
  rintro e W' ⟨fa, fc, ga, gc, va, vc, ya, yc, rfl, h1, h2, b⟩
  exact ⟨fa, fc, ga, gc, va, vc, ya, yc, rfl, ⟨⟨h.is.eC, by show satN r.rK 1 = _; rw [h.is.eK], h.is.eB, h.is.eN, h.is.eT, h.is.lH, h.is.eO, h.is.lJ, h.is.lQ⟩, replyR_ok h.ok, h1⟩, h2, b⟩
theorem recvNil_law {base : Nat} {w : World} {r : Rc} {c : Cfg} {K B N T : Int} {M : Nat} {O : Bool} {J : Nat} {ha : Option Addr} {hc : Nat} {ja : Option Addr} {jc : Nat} {qa : Option Addr} {qc : Nat} (h : RcW base w r c K B N T M O J 0 ha hc ja jc qa qc) :
    Calls Try.prog 6 #[.agg #[.int .i64 c.cB, .int .i64 c.cBeam, .int .i64 c.cDepth, .int .i64 c.cWin, .int .i64 c.cQs, .int .i64 c.cQr, .int .i64 c.cBatch, .int .i64 c.cPass, .int .i64 c.cMsg, .int .i64 c.cSeqs, .int .i64 K, .int .i64 B, .int .i64 N, .int .i64 T, .slice ha M hc, .bool O, .slice ja J jc, .slice qa 0 qc]] w fun e W' => ∃ fa fc ga gc va vc, e = .returned (.tuple #[.agg #[.int .i64 c.cB, .int .i64 c.cBeam, .int .i64 c.cDepth, .int .i64 c.cWin, .int .i64 c.cQs, .int .i64 c.cQr, .int .i64 c.cBatch, .int .i64 c.cPass, .int .i64 c.cMsg, .int .i64 c.cSeqs, .int .i64 K, .int .i64 B, .int .i64 N, .int .i64 T, .slice fa M fc, .bool O, .slice ga J gc, .slice va 0 vc], .slice none 0 0, .int .i64 10]) ∧ Hid (RcW w.heap.size W' r c K B N T M O J 0 fa fc ga gc va vc) ∧ Below w.heap.size w W' := by
  have hf := h.few
  refine (recvReceive_nil h.is (by omega) hf.2.1 h.syms ha hc ja jc qa qc w h.at h.ok).mono ?_
  rintro e W' ⟨fa, fc, ga, gc, va, vc, rfl, h1, b⟩
  exact ⟨fa, fc, ga, gc, va, vc, rfl, ⟨h.is, h.ok, h1⟩, b⟩

end Go.Proofs.Ytmjidhnlofpliab

/-
  The laws' own guard over recv (wakes) answers true; what lay lies as it lay. (Written by tpl_recvlaws.py.)
-/
namespace Go.Proofs.Ytmjidhnlofpliab
open Go.RowKit

def c1R : Cfg := ⟨1, 1, 1, 2, 1, 1, 1, 4, 5, 9⟩
theorem c1R_ok : okC c1R = true := by decide +kernel
theorem c1R_pack : packR (newR c1R) = packA 0 0 := by decide +kernel
set_option maxRecDepth 100000 in
set_option maxHeartbeats 4000000 in
theorem recvWakes_any (w : World) : Calls Try.prog 9 #[] w fun e w' => e = .returned (.bool true) ∧ Below w.heap.size w w' := by
  obtain ⟨c, hc⟩ : ∃ c, c1R = c := ⟨_, rfl⟩
  obtain ⟨e0, e1, e2, e3, e4, e5, e6, e7, e8, e9⟩ : c.cB = 1 ∧ c.cBeam = 1 ∧ c.cDepth = 1 ∧ c.cWin = 2 ∧ c.cQs = 1 ∧ c.cQr = 1 ∧ c.cBatch = 1 ∧ c.cPass = 4 ∧ c.cMsg = 5 ∧ c.cSeqs = 9 := by rw [← hc]; exact ⟨rfl, rfl, rfl, rfl, rfl, rfl, rfl, rfl, rfl, rfl⟩
  have hC : okC c = true := hc ▸ c1R_ok
  have HP : Hid (packR (newR c) = packA 0 0) := hc ▸ c1R_pack
  clear hc
  have EQ : Hid (c.cB = 1 ∧ c.cBeam = 1 ∧ c.cDepth = 1 ∧ c.cWin = 2 ∧ c.cQs = 1 ∧ c.cQr = 1 ∧ c.cBatch = 1 ∧ c.cPass = 4 ∧ c.cMsg = 5 ∧ c.cSeqs = 9) := ⟨e0, e1, e2, e3, e4, e5, e6, e7, e8, e9⟩
  have H1 := recvNew_law c hC 2 e3 w
  rw [show (#[.agg #[.int .i64 c.cB, .int .i64 c.cBeam, .int .i64 c.cDepth, .int .i64 c.cWin, .int .i64 c.cQs, .int .i64 c.cQr, .int .i64 c.cBatch, .int .i64 c.cPass, .int .i64 c.cMsg, .int .i64 c.cSeqs]] : Array Value) = #[.agg #[.int .i64 1, .int .i64 1, .int .i64 1, .int .i64 2, .int .i64 1, .int .i64 1, .int .i64 1, .int .i64 4, .int .i64 5, .int .i64 9]] by rw [e0, e1, e2, e3, e4, e5, e6, e7, e8, e9]] at H1
  rw [e0, e1, e2, e3, e4, e5, e6, e7, e8, e9] at H1
  clear hC e0 e1 e2 e3 e4 e5 e6 e7 e8 e9
  go_enter Try.func9, Try.ntmps9
  go_wp2_with fail
  refine H1.mono ?_
  rintro e w1 ⟨fa, fc, rfl, h1, bb⟩
  have HW := h1.out
  clear h1 H1
  have bA : Below w1.heap.size w1 (w1.alloc (.cells #[.int .i64 0, .int .i64 0, .int .i64 0, .int .i64 0, .int .i64 0, .int .i64 0, .int .i64 0, .int .i64 0, .int .i64 0, .int .i64 0, .int .i64 0, .int .i64 0, .int .i64 0, .int .i64 0, .slice none 0 0, .bool false, .slice none 0 0, .slice none 0 0] 31)) := (Below.refl _ _).alloc (Nat.le_refl _) _
  have x1 := Box.new w1 31 #[.int .i64 0, .int .i64 0, .int .i64 0, .int .i64 0, .int .i64 0, .int .i64 0, .int .i64 0, .int .i64 0, .int .i64 0, .int .i64 0, .int .i64 0, .int .i64 0, .int .i64 0, .int .i64 0, .slice none 0 0, .bool false, .slice none 0 0, .slice none 0 0]
  go_upto_region 2 with (first | (refine wpList_store_box x1 rfl 31 _ _ rfl rfl rfl rfl (by kernel_rfl) (by simp [Value.oneCell']) ?_))
  have bB := below_setRow bA (Nat.le_refl _) #[.int .i64 1, .int .i64 1, .int .i64 1, .int .i64 2, .int .i64 1, .int .i64 1, .int .i64 1, .int .i64 4, .int .i64 5, .int .i64 9, .int .i64 0, .int .i64 0, .int .i64 0, .int .i64 0, .slice fa 2 fc, .bool false, .slice none 0 0, .slice none 0 0]
  replace x1 := x1.setRow #[.int .i64 1, .int .i64 1, .int .i64 1, .int .i64 2, .int .i64 1, .int .i64 1, .int .i64 1, .int .i64 4, .int .i64 5, .int .i64 9, .int .i64 0, .int .i64 0, .int .i64 0, .int .i64 0, .slice fa 2 fc, .bool false, .slice none 0 0, .slice none 0 0]
  replace HW := HW.next bB
  replace bb := bb.trans (bB.mono bb.size)
  obtain ⟨B2, hB2⟩ : ∃ D, w1.heap.size = D := ⟨_, rfl⟩
  have HB2 : Hid (w1.heap.size = B2) := hB2
  rw [hB2] at x1 bb HW ⊢
  clear bA bB hB2
  generalize (w1.alloc (.cells #[.int .i64 0, .int .i64 0, .int .i64 0, .int .i64 0, .int .i64 0, .int .i64 0, .int .i64 0, .int .i64 0, .int .i64 0, .int .i64 0, .int .i64 0, .int .i64 0, .int .i64 0, .int .i64 0, .slice none 0 0, .bool false, .slice none 0 0, .slice none 0 0] 31)).setRow B2 #[.int .i64 1, .int .i64 1, .int .i64 1, .int .i64 2, .int .i64 1, .int .i64 1, .int .i64 1, .int .i64 4, .int .i64 5, .int .i64 9, .int .i64 0, .int .i64 0, .int .i64 0, .int .i64 0, .slice fa 2 fc, .bool false, .slice none 0 0, .slice none 0 0] = w2 at *
  have H2 := recvReply_law HW
  rw [EQ.out.1, EQ.out.2.1, EQ.out.2.2.1, EQ.out.2.2.2.1, EQ.out.2.2.2.2.1, EQ.out.2.2.2.2.2.1, EQ.out.2.2.2.2.2.2.1, EQ.out.2.2.2.2.2.2.2.1, EQ.out.2.2.2.2.2.2.2.2.1, EQ.out.2.2.2.2.2.2.2.2.2] at H2
  go_wp2_with (first | (refine wpList_load_box x1 rfl 31 _ rfl rfl _ Try.underlying31 rfl (by kernel_rfl) ?_))
  refine H2.mono ?_
  rintro e w3 ⟨fb, fd, gb, gd, vb, vd, ya, yc, rfl, _, hy, b3⟩
  rw [HP.out] at hy
  replace x1 := x1.next b3
  replace bb := bb.trans (b3.mono bb.size)
  clear b3 H2 HW
  have hcap := rowK_cap hy
  have hh := holds_of_row hy
  have H3 := fun wx hx => AckRead_ok ya yc (packA 0 0) (by rw [packA_len]; exact hcap) (packA_bd 0 0) (okA_pack (by omega) (by omega)) wx hx
  rw [packA_len, aN_pack (by omega) (by omega), aB_pack (by omega) (by omega)] at H3
  clear hy hcap
  have bA : Below w3.heap.size w3 (w3.alloc (.cells #[.int .i64 0, .int .i64 0, .int .i64 0, .int .i64 0, .int .i64 0, .int .i64 0, .int .i64 0, .int .i64 0, .int .i64 0, .int .i64 0, .int .i64 0, .int .i64 0, .int .i64 0, .int .i64 0, .slice none 0 0, .bool false, .slice none 0 0, .slice none 0 0] 31)) := (Below.refl _ _).alloc (Nat.le_refl _) _
  have x2 := Box.new w3 31 #[.int .i64 0, .int .i64 0, .int .i64 0, .int .i64 0, .int .i64 0, .int .i64 0, .int .i64 0, .int .i64 0, .int .i64 0, .int .i64 0, .int .i64 0, .int .i64 0, .int .i64 0, .int .i64 0, .slice none 0 0, .bool false, .slice none 0 0, .slice none 0 0]
  go_upto_region 3 with (first | (refine wpList_store_box x2 rfl 31 _ _ rfl rfl rfl rfl (by kernel_rfl) (by simp [Value.oneCell']) ?_))
  have bB := below_setRow bA (Nat.le_refl _) #[.int .i64 1, .int .i64 1, .int .i64 1, .int .i64 2, .int .i64 1, .int .i64 1, .int .i64 1, .int .i64 4, .int .i64 5, .int .i64 9, .int .i64 (satN 0 1), .int .i64 0, .int .i64 0, .int .i64 0, .slice fb 2 fd, .bool false, .slice gb 0 gd, .slice vb 0 vd]
  replace x2 := x2.setRow #[.int .i64 1, .int .i64 1, .int .i64 1, .int .i64 2, .int .i64 1, .int .i64 1, .int .i64 1, .int .i64 4, .int .i64 5, .int .i64 9, .int .i64 (satN 0 1), .int .i64 0, .int .i64 0, .int .i64 0, .slice fb 2 fd, .bool false, .slice gb 0 gd, .slice vb 0 vd]
  replace x1 := x1.next bB
  replace hh := hh.next bB
  replace bb := bb.trans (bB.mono bb.size)
  obtain ⟨B4, hB4⟩ : ∃ D, w3.heap.size = D := ⟨_, rfl⟩
  have HB4 : Hid (w3.heap.size = B4) := hB4
  rw [hB4] at x2 bb x1 hh ⊢
  clear bA bB hB4
  generalize (w3.alloc (.cells #[.int .i64 0, .int .i64 0, .int .i64 0, .int .i64 0, .int .i64 0, .int .i64 0, .int .i64 0, .int .i64 0, .int .i64 0, .int .i64 0, .int .i64 0, .int .i64 0, .int .i64 0, .int .i64 0, .slice none 0 0, .bool false, .slice none 0 0, .slice none 0 0] 31)).setRow B4 #[.int .i64 1, .int .i64 1, .int .i64 1, .int .i64 2, .int .i64 1, .int .i64 1, .int .i64 1, .int .i64 4, .int .i64 5, .int .i64 9, .int .i64 (satN 0 1), .int .i64 0, .int .i64 0, .int .i64 0, .slice fb 2 fd, .bool false, .slice gb 0 gd, .slice vb 0 vd] = w4 at *
  go_wp2_with fail
  refine (H3 _ hh).mono ?_
  rintro e w5 ⟨rfl, b5⟩
  replace x1 := x1.next b5
  replace bb := bb.trans (b5.mono bb.size)
  have x6 := Box.new w5 61 #[.int .i64 0, .int .u32 0]
  have b6 : Below w5.heap.size w5 (w5.alloc (.cells #[.int .i64 0, .int .u32 0] 61)) := (Below.refl _ _).alloc (Nat.le_refl _) _
  clear b5 H3 hh x2
  go_upto_region 4 with fail
  replace x1 := x1.next b6
  replace bb := bb.trans (b6.mono bb.size)
  clear b6
  have c14 := x1.cell 14 _ rfl
  have l1 := x1.lt
  have c60 := x6.cell 0 _ rfl
  have c61 := x6.cell 1 _ rfl
  have l6 := x6.lt
  generalize w5.alloc (.cells #[.int .i64 0, .int .u32 0] 61) = w7 at *
  clear x1 x6
  go_wp2
  go_ret
  exact ⟨rfl, bb⟩

end Go.Proofs.Ytmjidhnlofpliab
