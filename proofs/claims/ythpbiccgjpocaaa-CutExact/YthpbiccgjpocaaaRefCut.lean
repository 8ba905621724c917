/-
  What the page's Cut answers. (Written by tpl_refcut.py.)
-/
import Derived.Test.YthpbiccgjpocaaaRefConf
import Derived.Test.YthpbiccgjpocaaaCutCode
namespace Go.Proofs.Ythpbiccgjpocaaa
open Go.RowKit

/-- The part of a message that a block's text is. -/
theorem holds_text {n₀ n cap B k : Nat} {W : World} {a : Option Addr} {msg : List Int} (h : Holds .u8 n₀ W (.slice a n cap) msg) (hl : msg.length = n) (hT : n = 0 ∧ k = 0 ∨ k * B < n) :
    Holds .u8 n₀ W (.slice (if n = 0 then a else a.map (fun x => x.add (k * B))) (textK B msg k).length (if n = 0 then cap else cap - k * B)) (textK B msg k) := by
  rcases hT with ⟨h0, h1⟩ | hlt
  · subst h0
    obtain rfl : msg = [] := List.length_eq_zero_iff.1 hl
    rw [if_pos rfl, if_pos rfl, show textK B [] k = [] by simp [textK]]
    exact h
  · rw [if_neg (by omega), if_neg (by omega)]
    rcases h with ⟨_, e⟩ | ⟨b, off, c, e, h1, h2⟩
    · rw [e] at hl; simp at hl; omega
    · cases e
      refine .inr ⟨b, off + k * B, cap - k * B, by rw [Option.map_some, Go.WideShapes.add_plain], h1, fun j hj => ?_⟩
      have hj2 := hj
      rw [textK_len] at hj2
      rw [Nat.add_assoc, h2 (k * B + j) (by omega)]
      unfold textK
      rw [List.getElem?_take, if_pos (by omega), List.getElem?_drop]

set_option maxRecDepth 100000 in
set_option maxHeartbeats 2000000 in
theorem refCut_len (c : Cfg) (s : Int) (a : Option Addr) (n cap : Nat) (hn : c.cMsg < (n : Int)) (w : World) : Calls Try.prog 11 #[.agg #[.int .i64 c.cB, .int .i64 c.cBeam, .int .i64 c.cDepth, .int .i64 c.cWin, .int .i64 c.cQs, .int .i64 c.cQr, .int .i64 c.cBatch, .int .i64 c.cPass, .int .i64 c.cMsg, .int .i64 c.cSeqs], .int .i64 s, .slice a n cap] w fun e W' => e = .returned (.tuple #[.slice none 0 0, .int .i64 2]) ∧ Below w.heap.size w W' := by
  have bb := (Below.refl w.heap.size w).alloc (Nat.le_refl _) (.cells #[.int .i64 c.cB, .int .i64 c.cBeam, .int .i64 c.cDepth, .int .i64 c.cWin, .int .i64 c.cQs, .int .i64 c.cQr, .int .i64 c.cBatch, .int .i64 c.cPass, .int .i64 c.cMsg, .int .i64 c.cSeqs] 23)
  have yC := Box.new w 23 #[.int .i64 c.cB, .int .i64 c.cBeam, .int .i64 c.cDepth, .int .i64 c.cWin, .int .i64 c.cQs, .int .i64 c.cQr, .int .i64 c.cBatch, .int .i64 c.cPass, .int .i64 c.cMsg, .int .i64 c.cSeqs]
  have k0 := yC.cell 0 _ rfl
  have k1 := yC.cell 1 _ rfl
  have k2 := yC.cell 2 _ rfl
  have k3 := yC.cell 3 _ rfl
  have k4 := yC.cell 4 _ rfl
  have k5 := yC.cell 5 _ rfl
  have k6 := yC.cell 6 _ rfl
  have k7 := yC.cell 7 _ rfl
  have k8 := yC.cell 8 _ rfl
  have k9 := yC.cell 9 _ rfl
  have d1 : decide (c.cMsg < (n : Int)) = true := decide_eq_true hn
  clear hn
  go_enter Try.func11, Try.ntmps11
  go_wp2
  go_ret2
  exact ⟨rfl, bb⟩

set_option maxRecDepth 100000 in
set_option maxHeartbeats 2000000 in
theorem refCut_arg (c : Cfg) (s : Int) (a : Option Addr) (n cap : Nat) (hC : okC c = true) (hn : (n : Int) ≤ c.cMsg) (B M : Nat) (hCB : c.cB = (B : Int)) (hM : blocksN B n = M) (hs : ¬ (0 ≤ s ∧ s + M ≤ 1073741824)) (w : World) : Calls Try.prog 11 #[.agg #[.int .i64 c.cB, .int .i64 c.cBeam, .int .i64 c.cDepth, .int .i64 c.cWin, .int .i64 c.cQs, .int .i64 c.cQr, .int .i64 c.cBatch, .int .i64 c.cPass, .int .i64 c.cMsg, .int .i64 c.cSeqs], .int .i64 s, .slice a n cap] w fun e W' => e = .returned (.tuple #[.slice none 0 0, .int .i64 1]) ∧ Below w.heap.size w W' := by
  have HCB : Hid (c.cB = (B : Int)) := hCB
  have HM : Hid (blocksN B n = M) := hM
  clear hCB hM
  have bb := (Below.refl w.heap.size w).alloc (Nat.le_refl _) (.cells #[.int .i64 c.cB, .int .i64 c.cBeam, .int .i64 c.cDepth, .int .i64 c.cWin, .int .i64 c.cQs, .int .i64 c.cQr, .int .i64 c.cBatch, .int .i64 c.cPass, .int .i64 c.cMsg, .int .i64 c.cSeqs] 23)
  have yC := Box.new w 23 #[.int .i64 c.cB, .int .i64 c.cBeam, .int .i64 c.cDepth, .int .i64 c.cWin, .int .i64 c.cQs, .int .i64 c.cQr, .int .i64 c.cBatch, .int .i64 c.cPass, .int .i64 c.cMsg, .int .i64 c.cSeqs]
  have h9 : n ≤ 200 := by
    obtain ⟨h1, _, _, _, _, _, _, _, h9, _⟩ := (okC_iff c).1 hC
    omega
  have HB := refBlocks_any c hC n (by omega) (by omega) (w.alloc (.cells #[.int .i64 c.cB, .int .i64 c.cBeam, .int .i64 c.cDepth, .int .i64 c.cWin, .int .i64 c.cQs, .int .i64 c.cQr, .int .i64 c.cBatch, .int .i64 c.cPass, .int .i64 c.cMsg, .int .i64 c.cSeqs] 23))
  have hB1 : 1 ≤ B ∧ B ≤ 16 := by
    obtain ⟨h1, _⟩ := (okC_iff c).1 hC
    have h0 := HCB.out
    omega
  have hM2 : 1 ≤ M ∧ M ≤ 200 := by
    have := blocksC_bd hC (n := n) (by omega) (by omega)
    rw [blocks_nat HCB.out n M HM.out hB1.1] at this
    omega
  rw [blocks_nat HCB.out n M HM.out hB1.1] at HB
  have k0 := yC.cell 0 _ rfl
  have k1 := yC.cell 1 _ rfl
  have k2 := yC.cell 2 _ rfl
  have k3 := yC.cell 3 _ rfl
  have k4 := yC.cell 4 _ rfl
  have k5 := yC.cell 5 _ rfl
  have k6 := yC.cell 6 _ rfl
  have k7 := yC.cell 7 _ rfl
  have k8 := yC.cell 8 _ rfl
  have k9 := yC.cell 9 _ rfl
  have d1 : decide (c.cMsg < (n : Int)) = false := decide_eq_false (by omega)
  clear hn hC
  go_enter Try.func11, Try.ntmps11
  by_cases h0 : s < 0
  · have d2 : decide (s < 0) = true := decide_eq_true h0
    clear hs h0
    go_wp2_with fail
    refine HB.mono ?_
    rintro e W2 ⟨rfl, b2⟩
    go_wp2
    go_ret2
    exact ⟨rfl, bb.trans (b2.mono bb.size)⟩
  · have d2 : decide (s < 0) = false := decide_eq_false h0
    have d3 : decide (1073741824 - (M : Int) < s) = true := decide_eq_true (by omega)
    clear hs h0
    go_wp2_with fail
    refine HB.mono ?_
    rintro e W2 ⟨rfl, b2⟩
    go_wp2
    go_ret2
    exact ⟨rfl, bb.trans (b2.mono bb.size)⟩

set_option maxRecDepth 100000 in
set_option maxHeartbeats 4000000 in
theorem refCut_ok (c : Cfg) (s : Int) (a : Option Addr) (n cap : Nat) (hC : okC c = true) (hn : (n : Int) ≤ c.cMsg) (hc : n ≤ cap) (msg : List Int) (hl : msg.length = n) (B M : Nat) (hCB : c.cB = (B : Int)) (hM : blocksN B n = M) (hs0 : 0 ≤ s) (hs1 : s + M ≤ 1073741824) (w : World) (ha : Holds .u8 w.heap.size w (.slice a n cap) msg) :
    Calls Try.prog 11 #[.agg #[.int .i64 c.cB, .int .i64 c.cBeam, .int .i64 c.cDepth, .int .i64 c.cWin, .int .i64 c.cQs, .int .i64 c.cQr, .int .i64 c.cBatch, .int .i64 c.cPass, .int .i64 c.cMsg, .int .i64 c.cSeqs], .int .i64 s, .slice a n cap] w fun e W' => ∃ v, e = .returned (.tuple #[v, .int .i64 0]) ∧ OwnBlks w.heap.size W' v (cutL B s M msg) ∧ Below w.heap.size w W' := by
  have HCB : Hid (c.cB = (B : Int)) := hCB
  have HM : Hid (blocksN B n = M) := hM
  clear hCB hM
  have bb := (Below.refl w.heap.size w).alloc (Nat.le_refl _) (.cells #[.int .i64 c.cB, .int .i64 c.cBeam, .int .i64 c.cDepth, .int .i64 c.cWin, .int .i64 c.cQs, .int .i64 c.cQr, .int .i64 c.cBatch, .int .i64 c.cPass, .int .i64 c.cMsg, .int .i64 c.cSeqs] 23)
  have yC := Box.new w 23 #[.int .i64 c.cB, .int .i64 c.cBeam, .int .i64 c.cDepth, .int .i64 c.cWin, .int .i64 c.cQs, .int .i64 c.cQr, .int .i64 c.cBatch, .int .i64 c.cPass, .int .i64 c.cMsg, .int .i64 c.cSeqs]
  have h9 : n ≤ 200 := by
    obtain ⟨h1, _, _, _, _, _, _, _, h9, _⟩ := (okC_iff c).1 hC
    omega
  have HB := refBlocks_any c hC n (by omega) (by omega) (w.alloc (.cells #[.int .i64 c.cB, .int .i64 c.cBeam, .int .i64 c.cDepth, .int .i64 c.cWin, .int .i64 c.cQs, .int .i64 c.cQr, .int .i64 c.cBatch, .int .i64 c.cPass, .int .i64 c.cMsg, .int .i64 c.cSeqs] 23))
  have hB1 : 1 ≤ B ∧ B ≤ 16 := by
    obtain ⟨h1, _⟩ := (okC_iff c).1 hC
    have h0 := HCB.out
    omega
  have hM2 : 1 ≤ M ∧ M ≤ 200 := by
    have := blocksC_bd hC (n := n) (by omega) (by omega)
    rw [blocks_nat HCB.out n M HM.out hB1.1] at this
    omega
  rw [blocks_nat HCB.out n M HM.out hB1.1] at HB
  have k0 := yC.cell 0 _ rfl
  have k1 := yC.cell 1 _ rfl
  have k2 := yC.cell 2 _ rfl
  have k3 := yC.cell 3 _ rfl
  have k4 := yC.cell 4 _ rfl
  have k5 := yC.cell 5 _ rfl
  have k6 := yC.cell 6 _ rfl
  have k7 := yC.cell 7 _ rfl
  have k8 := yC.cell 8 _ rfl
  have k9 := yC.cell 9 _ rfl
  have d1 : decide (c.cMsg < (n : Int)) = false := decide_eq_false (by omega)
  have HL : Hid (msg.length = n) := hl
  have d2 : decide (s < 0) = false := decide_eq_false (by omega)
  have d3 : decide (1073741824 - (M : Int) < s) = false := decide_eq_false (by omega)
  clear hn hC hl
  go_enter Try.func11, Try.ntmps11
  go_wp2_with fail
  refine HB.mono ?_
  rintro e W2 ⟨rfl, b2⟩
  have zC := yC.next b2
  replace bb := bb.trans (b2.mono bb.size)
  clear b2 yC HB
  clear k0 k1 k2 k3 k4 k5 k6 k7 k8 k9
  rw [HCB.out] at zC
  obtain ⟨D, hD⟩ : ∃ D, w.heap.size = D := ⟨_, rfl⟩
  rw [hD] at zC bb ha ⊢
  go_wp2
  go_loopw [9, 10] (fun v i wr => ∃ (k : Nat) (r : Lies Bl), k ≤ M ∧ i = .int .i64 (k : Int) ∧ r.map Prod.fst = (cutL B s M msg).take k ∧ wr.ownsRow (D + 1) 36 3 v k (cellsK blkK r) ∧ OwnL blkK (D + 1) wr r ∧ Box wr D 23 #[.int .i64 (B : Int), .int .i64 c.cBeam, .int .i64 c.cDepth, .int .i64 c.cWin, .int .i64 c.cQs, .int .i64 c.cQr, .int .i64 c.cBatch, .int .i64 c.cPass, .int .i64 c.cMsg, .int .i64 c.cSeqs] ∧ Below D w wr) (fun _ i _ => M - (intOf i).toNat)
  case atStart => exact ⟨0, [], Nat.zero_le _, rfl, rfl, World.ownsRow_nil _ _ _ _, ownL_nil _ _ _, zC, bb⟩
  case round =>
    obtain ⟨k, r, hk, rfl, hrc, hrow, hown, xC, bw⟩ := hrel
    have HRC : Hid (r.map Prod.fst = (cutL B s M msg).take k) := hrc
    clear hrc
    have hD1 : D + 1 ≤ wr.heap.size := xC.lt
    have k0 := xC.cell 0 _ rfl
    by_cases hlt2 : k < M
    · have hTF := text_from hB1.1 (show k < blocksN B n by rw [HM.out]; exact hlt2)
      have hcs := hs1
      obtain ⟨SV, hSV⟩ : ∃ SV : Value, SV = .slice (if n = 0 then a else a.map (fun x => x.add (k * B))) (textK B msg k).length (if n = 0 then cap else cap - k * B) := ⟨_, rfl⟩
      have HT : Hid (Calls Try.prog 6 #[SV] wr fun e W' => ∃ qa qc, e = .returned (.slice qa (textK B msg k).length qc) ∧ W'.ownsRow wr.heap.size 5 1 (.slice qa (textK B msg k).length qc) (textK B msg k).length ((textK B msg k).map (Value.int .u8)) ∧ Below wr.heap.size wr W') := by
        have hh : Holds .u8 wr.heap.size wr SV (textK B msg k) := by
          rw [hSV]
          exact holds_text ((ha.below bw).mono (by omega)) HL.out hTF
        refine (twin_any SV (textK B msg k) _ (by have := textK_le B msg k; omega) wr hh).mono ?_
        rintro e w' ⟨r, rfl, o, b⟩
        obtain ⟨qa, qc, rfl, _⟩ := (kept_of_row o).2
        exact ⟨qa, qc, rfl, o, b⟩
      rcases hTF with ⟨hn0, hk0⟩ | hlt
      · rw [if_pos hn0, if_pos hn0, show (textK B msg k).length = 0 by rw [textK_len, HL.out, hn0]; omega] at hSV
        have hM1 : M = 1 := by rw [← HM.out, hn0]; unfold blocksN; rw [Nat.zero_add, Nat.div_eq_of_lt (by omega)]; rfl
        have HMV : Hid (markK M k = 3) := by show markK M k = 3; rw [hM1, hk0]; decide
        have d4 : ((k : Int) == 0) = true := by simp; omega
        have d5 : ((k : Int) == (M : Int) - 1) = true := by simp; omega
        have e1 : (k : Int) * (B : Int) = 0 := by rw [hk0]; simp
        have e2 : ((k : Int) + 1) * (B : Int) = (B : Int) := by rw [hk0]; simp
        have z1 : min (B : Int) (n : Int) = 0 := by omega
        subst hSV
        clear hn0 hk0 hM1 ha
        cases a with
        | none =>
          go_wp2_with fail
          refine HT.out.mono ?_
          rintro e w2 ⟨qa, qc, rfl, o2, b2⟩
          have b3 : Below wr.heap.size wr (w2.alloc (.cells #[.int .i64 (s + (k : Int)), .int .i64 3, .slice qa (textK B msg k).length qc] 36)) := b2.alloc b2.size _
          have hs3 := b3.size
          have hrow3 := rowK_below hrow b3 (Nat.le_refl _)
          obtain ⟨v4, w4, hr4, ho4, hg4⟩ := run_append_blk _ k (D + 1) r (s + (k : Int)) 3 (textK B msg k) (.slice qa (textK B msg k).length qc) ⟨_, _, _, rfl⟩ 26 _ hrow3 (by omega) (by omega)
          have own4 : OwnL blkK (D + 1) w4 (r ++ [((s + (k : Int), (3 : Int), (textK B msg k)), [Value.slice qa (textK B msg k).length qc])]) := by
            have z1 := (hown.next b3).snoc (x := ((s + (k : Int), (3 : Int), (textK B msg k)), [Value.slice qa (textK B msg k).length qc])) (subsO_one (o2.alloc _)) (List.pairwise_singleton _ _) hD1 (fun u hu p hq g hg => (hown.lt u hu p hq g hg).2)
            exact (z1.next ((Below.refl _ _).alloc (Nat.le_refl _) _)).kept blkK_unlike (hrow3.alloc _) hg4
          have b4 : Below (D + 1) wr w4 := ((b3.mono hD1).alloc (by omega) _).grown hg4 (by simp only [World.size_alloc] at hs3 ⊢; omega) (fun q e => (hrow.lt q e).1)
          rw [show (w2.alloc (.cells #[.int .i64 (s + (k : Int)), .int .i64 3, .slice qa (textK B msg k).length qc] 36)).heap.size = w2.heap.size + 1 by simp] at hr4
          have HR : Hid _ := hr4
          have xC4 := xC.below b4 (Nat.lt_succ_self _)
          have bw4 := bw.trans (b4.mono (Nat.le_succ _))
          have HRN : Hid ((r ++ [((s + (k : Int), (3 : Int), (textK B msg k)), [Value.slice qa (textK B msg k).length qc])]).map Prod.fst = (cutL B s M msg).take (k + 1)) := by
            show (r ++ [((s + (k : Int), (3 : Int), (textK B msg k)), [Value.slice qa (textK B msg k).length qc])]).map Prod.fst = (cutL B s M msg).take (k + 1)
            rw [List.map_append, HRC.out, List.take_add_one, cutL_get hlt2, HMV.out]
            rfl
          clear hr4 hrow3 hrow o2 b2 b3 b4 xC hown hg4 hs3 bw
          go_wp2_with (at_builtin; refine wpList_append_k rfl _ _ 26 rfl _ _ rfl rfl _ _ HR.out ?_)
          exact ⟨⟨k + 1, _, by omega, by go_num, HRN.out, ho4, own4, xC4, bw4⟩, by simp [intOf]; omega⟩
        | some ad =>
          go_wp2_with fail
          refine HT.out.mono ?_
          rintro e w2 ⟨qa, qc, rfl, o2, b2⟩
          have b3 : Below wr.heap.size wr (w2.alloc (.cells #[.int .i64 (s + (k : Int)), .int .i64 3, .slice qa (textK B msg k).length qc] 36)) := b2.alloc b2.size _
          have hs3 := b3.size
          have hrow3 := rowK_below hrow b3 (Nat.le_refl _)
          obtain ⟨v4, w4, hr4, ho4, hg4⟩ := run_append_blk _ k (D + 1) r (s + (k : Int)) 3 (textK B msg k) (.slice qa (textK B msg k).length qc) ⟨_, _, _, rfl⟩ 26 _ hrow3 (by omega) (by omega)
          have own4 : OwnL blkK (D + 1) w4 (r ++ [((s + (k : Int), (3 : Int), (textK B msg k)), [Value.slice qa (textK B msg k).length qc])]) := by
            have z1 := (hown.next b3).snoc (x := ((s + (k : Int), (3 : Int), (textK B msg k)), [Value.slice qa (textK B msg k).length qc])) (subsO_one (o2.alloc _)) (List.pairwise_singleton _ _) hD1 (fun u hu p hq g hg => (hown.lt u hu p hq g hg).2)
            exact (z1.next ((Below.refl _ _).alloc (Nat.le_refl _) _)).kept blkK_unlike (hrow3.alloc _) hg4
          have b4 : Below (D + 1) wr w4 := ((b3.mono hD1).alloc (by omega) _).grown hg4 (by simp only [World.size_alloc] at hs3 ⊢; omega) (fun q e => (hrow.lt q e).1)
          rw [show (w2.alloc (.cells #[.int .i64 (s + (k : Int)), .int .i64 3, .slice qa (textK B msg k).length qc] 36)).heap.size = w2.heap.size + 1 by simp] at hr4
          have HR : Hid _ := hr4
          have xC4 := xC.below b4 (Nat.lt_succ_self _)
          have bw4 := bw.trans (b4.mono (Nat.le_succ _))
          have HRN : Hid ((r ++ [((s + (k : Int), (3 : Int), (textK B msg k)), [Value.slice qa (textK B msg k).length qc])]).map Prod.fst = (cutL B s M msg).take (k + 1)) := by
            show (r ++ [((s + (k : Int), (3 : Int), (textK B msg k)), [Value.slice qa (textK B msg k).length qc])]).map Prod.fst = (cutL B s M msg).take (k + 1)
            rw [List.map_append, HRC.out, List.take_add_one, cutL_get hlt2, HMV.out]
            rfl
          clear hr4 hrow3 hrow o2 b2 b3 b4 xC hown hg4 hs3 bw
          go_wp2_with (at_builtin; refine wpList_append_k rfl _ _ 26 rfl _ _ rfl rfl _ _ HR.out ?_)
          exact ⟨⟨k + 1, _, by omega, by go_num, HRN.out, ho4, own4, xC4, bw4⟩, by simp [intOf]; omega⟩
      · rw [if_neg (by omega), if_neg (by omega)] at hSV
        obtain ⟨F, hF⟩ : ∃ F, k * B = F := ⟨_, rfl⟩
        rw [hF] at hlt hSV
        obtain ⟨E, hE⟩ : ∃ E, min (F + B) n = E := ⟨_, rfl⟩
        have hE1 : F ≤ E := by omega
        have hE2 : E ≤ cap := by omega
        have hE3 : E ≤ 200 := by omega
        have hE4 : E - F = (textK B msg k).length := by rw [textK_len, HL.out, hF]; omega
        rw [← hE4] at hSV
        subst hSV
        have e1 : (k : Int) * (B : Int) = (F : Int) := by rw [← hF]; push_cast; rfl
        have e2 : ((k : Int) + 1) * (B : Int) = (F : Int) + (B : Int) := by rw [Int.add_mul, e1, Int.one_mul]
        have z1 : min ((F : Int) + (B : Int)) (n : Int) = (E : Int) := by omega
        have n1 : ¬ cap = F := by omega
        clear hE hF hE4 ha
        by_cases h0 : k = 0
        · have d4 : ((k : Int) == 0) = true := by simp; omega
          by_cases h1 : M = 1
          · have HMV : Hid (markK M k = 3) := by show markK M k = 3; rw [h1, h0]; decide
            have d5 : ((k : Int) == (M : Int) - 1) = true := by simp; omega
            clear h1 h0
            go_wp2_with fail
            refine HT.out.mono ?_
            rintro e w2 ⟨qa, qc, rfl, o2, b2⟩
            have b3 : Below wr.heap.size wr (w2.alloc (.cells #[.int .i64 (s + (k : Int)), .int .i64 3, .slice qa (textK B msg k).length qc] 36)) := b2.alloc b2.size _
            have hs3 := b3.size
            have hrow3 := rowK_below hrow b3 (Nat.le_refl _)
            obtain ⟨v4, w4, hr4, ho4, hg4⟩ := run_append_blk _ k (D + 1) r (s + (k : Int)) 3 (textK B msg k) (.slice qa (textK B msg k).length qc) ⟨_, _, _, rfl⟩ 26 _ hrow3 (by omega) (by omega)
            have own4 : OwnL blkK (D + 1) w4 (r ++ [((s + (k : Int), (3 : Int), (textK B msg k)), [Value.slice qa (textK B msg k).length qc])]) := by
              have z1 := (hown.next b3).snoc (x := ((s + (k : Int), (3 : Int), (textK B msg k)), [Value.slice qa (textK B msg k).length qc])) (subsO_one (o2.alloc _)) (List.pairwise_singleton _ _) hD1 (fun u hu p hq g hg => (hown.lt u hu p hq g hg).2)
              exact (z1.next ((Below.refl _ _).alloc (Nat.le_refl _) _)).kept blkK_unlike (hrow3.alloc _) hg4
            have b4 : Below (D + 1) wr w4 := ((b3.mono hD1).alloc (by omega) _).grown hg4 (by simp only [World.size_alloc] at hs3 ⊢; omega) (fun q e => (hrow.lt q e).1)
            rw [show (w2.alloc (.cells #[.int .i64 (s + (k : Int)), .int .i64 3, .slice qa (textK B msg k).length qc] 36)).heap.size = w2.heap.size + 1 by simp] at hr4
            have HR : Hid _ := hr4
            have xC4 := xC.below b4 (Nat.lt_succ_self _)
            have bw4 := bw.trans (b4.mono (Nat.le_succ _))
            have HRN : Hid ((r ++ [((s + (k : Int), (3 : Int), (textK B msg k)), [Value.slice qa (textK B msg k).length qc])]).map Prod.fst = (cutL B s M msg).take (k + 1)) := by
              show (r ++ [((s + (k : Int), (3 : Int), (textK B msg k)), [Value.slice qa (textK B msg k).length qc])]).map Prod.fst = (cutL B s M msg).take (k + 1)
              rw [List.map_append, HRC.out, List.take_add_one, cutL_get hlt2, HMV.out]
              rfl
            clear hr4 hrow3 hrow o2 b2 b3 b4 xC hown hg4 hs3 bw
            go_wp2_with (at_builtin; refine wpList_append_k rfl _ _ 26 rfl _ _ rfl rfl _ _ HR.out ?_)
            exact ⟨⟨k + 1, _, by omega, by go_num, HRN.out, ho4, own4, xC4, bw4⟩, by simp [intOf]; omega⟩
          · have HMV : Hid (markK M k = 1) := by show markK M k = 1; unfold markK; rw [if_pos h0, if_neg (by omega)]; rfl
            have d5 : ((k : Int) == (M : Int) - 1) = false := by simp; omega
            clear h1 h0
            go_wp2_with fail
            refine HT.out.mono ?_
            rintro e w2 ⟨qa, qc, rfl, o2, b2⟩
            have b3 : Below wr.heap.size wr (w2.alloc (.cells #[.int .i64 (s + (k : Int)), .int .i64 1, .slice qa (textK B msg k).length qc] 36)) := b2.alloc b2.size _
            have hs3 := b3.size
            have hrow3 := rowK_below hrow b3 (Nat.le_refl _)
            obtain ⟨v4, w4, hr4, ho4, hg4⟩ := run_append_blk _ k (D + 1) r (s + (k : Int)) 1 (textK B msg k) (.slice qa (textK B msg k).length qc) ⟨_, _, _, rfl⟩ 26 _ hrow3 (by omega) (by omega)
            have own4 : OwnL blkK (D + 1) w4 (r ++ [((s + (k : Int), (1 : Int), (textK B msg k)), [Value.slice qa (textK B msg k).length qc])]) := by
              have z1 := (hown.next b3).snoc (x := ((s + (k : Int), (1 : Int), (textK B msg k)), [Value.slice qa (textK B msg k).length qc])) (subsO_one (o2.alloc _)) (List.pairwise_singleton _ _) hD1 (fun u hu p hq g hg => (hown.lt u hu p hq g hg).2)
              exact (z1.next ((Below.refl _ _).alloc (Nat.le_refl _) _)).kept blkK_unlike (hrow3.alloc _) hg4
            have b4 : Below (D + 1) wr w4 := ((b3.mono hD1).alloc (by omega) _).grown hg4 (by simp only [World.size_alloc] at hs3 ⊢; omega) (fun q e => (hrow.lt q e).1)
            rw [show (w2.alloc (.cells #[.int .i64 (s + (k : Int)), .int .i64 1, .slice qa (textK B msg k).length qc] 36)).heap.size = w2.heap.size + 1 by simp] at hr4
            have HR : Hid _ := hr4
            have xC4 := xC.below b4 (Nat.lt_succ_self _)
            have bw4 := bw.trans (b4.mono (Nat.le_succ _))
            have HRN : Hid ((r ++ [((s + (k : Int), (1 : Int), (textK B msg k)), [Value.slice qa (textK B msg k).length qc])]).map Prod.fst = (cutL B s M msg).take (k + 1)) := by
              show (r ++ [((s + (k : Int), (1 : Int), (textK B msg k)), [Value.slice qa (textK B msg k).length qc])]).map Prod.fst = (cutL B s M msg).take (k + 1)
              rw [List.map_append, HRC.out, List.take_add_one, cutL_get hlt2, HMV.out]
              rfl
            clear hr4 hrow3 hrow o2 b2 b3 b4 xC hown hg4 hs3 bw
            go_wp2_with (at_builtin; refine wpList_append_k rfl _ _ 26 rfl _ _ rfl rfl _ _ HR.out ?_)
            exact ⟨⟨k + 1, _, by omega, by go_num, HRN.out, ho4, own4, xC4, bw4⟩, by simp [intOf]; omega⟩
        · have d4 : ((k : Int) == 0) = false := by simp; omega
          by_cases h1 : k + 1 = M
          · have HMV : Hid (markK M k = 2) := by show markK M k = 2; unfold markK; rw [if_neg h0, if_pos h1]; rfl
            have d5 : ((k : Int) == (M : Int) - 1) = true := by simp; omega
            clear h1 h0
            go_wp2_with fail
            refine HT.out.mono ?_
            rintro e w2 ⟨qa, qc, rfl, o2, b2⟩
            have b3 : Below wr.heap.size wr (w2.alloc (.cells #[.int .i64 (s + (k : Int)), .int .i64 2, .slice qa (textK B msg k).length qc] 36)) := b2.alloc b2.size _
            have hs3 := b3.size
            have hrow3 := rowK_below hrow b3 (Nat.le_refl _)
            obtain ⟨v4, w4, hr4, ho4, hg4⟩ := run_append_blk _ k (D + 1) r (s + (k : Int)) 2 (textK B msg k) (.slice qa (textK B msg k).length qc) ⟨_, _, _, rfl⟩ 26 _ hrow3 (by omega) (by omega)
            have own4 : OwnL blkK (D + 1) w4 (r ++ [((s + (k : Int), (2 : Int), (textK B msg k)), [Value.slice qa (textK B msg k).length qc])]) := by
              have z1 := (hown.next b3).snoc (x := ((s + (k : Int), (2 : Int), (textK B msg k)), [Value.slice qa (textK B msg k).length qc])) (subsO_one (o2.alloc _)) (List.pairwise_singleton _ _) hD1 (fun u hu p hq g hg => (hown.lt u hu p hq g hg).2)
              exact (z1.next ((Below.refl _ _).alloc (Nat.le_refl _) _)).kept blkK_unlike (hrow3.alloc _) hg4
            have b4 : Below (D + 1) wr w4 := ((b3.mono hD1).alloc (by omega) _).grown hg4 (by simp only [World.size_alloc] at hs3 ⊢; omega) (fun q e => (hrow.lt q e).1)
            rw [show (w2.alloc (.cells #[.int .i64 (s + (k : Int)), .int .i64 2, .slice qa (textK B msg k).length qc] 36)).heap.size = w2.heap.size + 1 by simp] at hr4
            have HR : Hid _ := hr4
            have xC4 := xC.below b4 (Nat.lt_succ_self _)
            have bw4 := bw.trans (b4.mono (Nat.le_succ _))
            have HRN : Hid ((r ++ [((s + (k : Int), (2 : Int), (textK B msg k)), [Value.slice qa (textK B msg k).length qc])]).map Prod.fst = (cutL B s M msg).take (k + 1)) := by
              show (r ++ [((s + (k : Int), (2 : Int), (textK B msg k)), [Value.slice qa (textK B msg k).length qc])]).map Prod.fst = (cutL B s M msg).take (k + 1)
              rw [List.map_append, HRC.out, List.take_add_one, cutL_get hlt2, HMV.out]
              rfl
            clear hr4 hrow3 hrow o2 b2 b3 b4 xC hown hg4 hs3 bw
            go_wp2_with (at_builtin; refine wpList_append_k rfl _ _ 26 rfl _ _ rfl rfl _ _ HR.out ?_)
            exact ⟨⟨k + 1, _, by omega, by go_num, HRN.out, ho4, own4, xC4, bw4⟩, by simp [intOf]; omega⟩
          · have HMV : Hid (markK M k = 0) := by show markK M k = 0; unfold markK; rw [if_neg h0, if_neg h1]; rfl
            have d5 : ((k : Int) == (M : Int) - 1) = false := by simp; omega
            clear h1 h0
            go_wp2_with fail
            refine HT.out.mono ?_
            rintro e w2 ⟨qa, qc, rfl, o2, b2⟩
            have b3 : Below wr.heap.size wr (w2.alloc (.cells #[.int .i64 (s + (k : Int)), .int .i64 0, .slice qa (textK B msg k).length qc] 36)) := b2.alloc b2.size _
            have hs3 := b3.size
            have hrow3 := rowK_below hrow b3 (Nat.le_refl _)
            obtain ⟨v4, w4, hr4, ho4, hg4⟩ := run_append_blk _ k (D + 1) r (s + (k : Int)) 0 (textK B msg k) (.slice qa (textK B msg k).length qc) ⟨_, _, _, rfl⟩ 26 _ hrow3 (by omega) (by omega)
            have own4 : OwnL blkK (D + 1) w4 (r ++ [((s + (k : Int), (0 : Int), (textK B msg k)), [Value.slice qa (textK B msg k).length qc])]) := by
              have z1 := (hown.next b3).snoc (x := ((s + (k : Int), (0 : Int), (textK B msg k)), [Value.slice qa (textK B msg k).length qc])) (subsO_one (o2.alloc _)) (List.pairwise_singleton _ _) hD1 (fun u hu p hq g hg => (hown.lt u hu p hq g hg).2)
              exact (z1.next ((Below.refl _ _).alloc (Nat.le_refl _) _)).kept blkK_unlike (hrow3.alloc _) hg4
            have b4 : Below (D + 1) wr w4 := ((b3.mono hD1).alloc (by omega) _).grown hg4 (by simp only [World.size_alloc] at hs3 ⊢; omega) (fun q e => (hrow.lt q e).1)
            rw [show (w2.alloc (.cells #[.int .i64 (s + (k : Int)), .int .i64 0, .slice qa (textK B msg k).length qc] 36)).heap.size = w2.heap.size + 1 by simp] at hr4
            have HR : Hid _ := hr4
            have xC4 := xC.below b4 (Nat.lt_succ_self _)
            have bw4 := bw.trans (b4.mono (Nat.le_succ _))
            have HRN : Hid ((r ++ [((s + (k : Int), (0 : Int), (textK B msg k)), [Value.slice qa (textK B msg k).length qc])]).map Prod.fst = (cutL B s M msg).take (k + 1)) := by
              show (r ++ [((s + (k : Int), (0 : Int), (textK B msg k)), [Value.slice qa (textK B msg k).length qc])]).map Prod.fst = (cutL B s M msg).take (k + 1)
              rw [List.map_append, HRC.out, List.take_add_one, cutL_get hlt2, HMV.out]
              rfl
            clear hr4 hrow3 hrow o2 b2 b3 b4 xC hown hg4 hs3 bw
            go_wp2_with (at_builtin; refine wpList_append_k rfl _ _ 26 rfl _ _ rfl rfl _ _ HR.out ?_)
            exact ⟨⟨k + 1, _, by omega, by go_num, HRN.out, ho4, own4, xC4, bw4⟩, by simp [intOf]; omega⟩
    · obtain rfl : k = M := by omega
      go_wp2
      go_ret2
      have e2 : (cutL B s k msg).take k = cutL B s k msg := List.take_of_length_le (by rw [cutL_len]; exact Nat.le_refl _)
      have e3 := HRC.out
      rw [e2] at e3
      exact ⟨_, rfl, ⟨r, e3, by rw [cutL_len]; exact rowK_base (base' := w.heap.size) hrow (by omega), hown.lower (base' := w.heap.size) (by omega)⟩, by rw [hD]; exact bw⟩

end Go.Proofs.Ythpbiccgjpocaaa
