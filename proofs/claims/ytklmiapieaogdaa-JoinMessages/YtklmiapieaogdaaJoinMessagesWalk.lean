/-
  The walk of JoinMessages. (Written by tpl_joinlaws.py.)
-/
import Derived.Test.YtklmiapieaogdaaJoinAt
import Derived.Test.YtklmiapieaogdaaJoinMsgNums
import Derived.Test.YtklmiapieaogdaaJoinWakes
import Derived.Test.YtklmiapieaogdaaCutCode
import Derived.Test.YtklmiapieaogdaaRefConf
import Derived.Test.YtklmiapieaogdaaKeepBytes
import Derived.Test.YtklmiapieaogdaaRegionHand
import Derived.Deep.Cut
import Derived.Deep.CutRange
import Derived.Deep.DeepCutAuto
namespace Go.Proofs.Ytklmiapieaogdaa
open Go.RowKit

set_option maxRecDepth 100000 in
set_option maxHeartbeats 8000000 in
theorem joinMessages_walk (c : Cfg) (b : Option Addr) (m kc : Nat) (l : List (List Int)) (hl : l.length = m) (a : Option Addr) (len cap : Nat) (zs : List Int) (hz : zs.length = len) (w : World) (hb : Texts w.heap.size w b m l) (ha : Holds .u8 w.heap.size w (.slice a len cap) zs) :
    Calls Try.prog 4 #[.agg #[.int .i64 c.cB, .int .i64 c.cBeam, .int .i64 c.cDepth, .int .i64 c.cWin, .int .i64 c.cQs, .int .i64 c.cQr, .int .i64 c.cBatch, .int .i64 c.cPass, .int .i64 c.cMsg, .int .i64 c.cSeqs], .slice b m kc, .slice a len cap] w fun e w' => e = .returned (.bool true) ∧ Below w.heap.size w w' := by
  have bb : Below w.heap.size w (w.alloc (.cells #[.int .i64 c.cB, .int .i64 c.cBeam, .int .i64 c.cDepth, .int .i64 c.cWin, .int .i64 c.cQs, .int .i64 c.cQr, .int .i64 c.cBatch, .int .i64 c.cPass, .int .i64 c.cMsg, .int .i64 c.cSeqs] 40)) := (Below.refl _ _).alloc (Nat.le_refl _) _
  have xC := Box.new w 40 #[.int .i64 c.cB, .int .i64 c.cBeam, .int .i64 c.cDepth, .int .i64 c.cWin, .int .i64 c.cQs, .int .i64 c.cQr, .int .i64 c.cBatch, .int .i64 c.cPass, .int .i64 c.cMsg, .int .i64 c.cSeqs]
  replace ha := ha.next bb
  have HB0 : Hid (Texts w.heap.size w b m l) := hb
  have HLL : Hid (l.length = m) := hl
  have HZ : Hid (zs.length = len) := hz
  clear hb hl hz
  go_enter Try.func4, Try.ntmps4
  have k0 := xC.cell 0 _ rfl
  have k1 := xC.cell 1 _ rfl
  have k2 := xC.cell 2 _ rfl
  have k3 := xC.cell 3 _ rfl
  have k4 := xC.cell 4 _ rfl
  have k5 := xC.cell 5 _ rfl
  have k6 := xC.cell 6 _ rfl
  have k7 := xC.cell 7 _ rfl
  have k8 := xC.cell 8 _ rfl
  have k9 := xC.cell 9 _ rfl
  have H1 := refConfig_any c (w.alloc (.cells #[.int .i64 c.cB, .int .i64 c.cBeam, .int .i64 c.cDepth, .int .i64 c.cWin, .int .i64 c.cQs, .int .i64 c.cQr, .int .i64 c.cBatch, .int .i64 c.cPass, .int .i64 c.cMsg, .int .i64 c.cSeqs] 40))
  go_wp2_with fail
  refine H1.mono ?_
  rintro e w1 ⟨rfl, b9⟩
  clear H1 k0 k1 k2 k3 k4 k5 k6 k7 k8 k9
  replace xC := xC.next b9
  replace ha := ha.next b9
  replace bb := bb.trans (b9.mono bb.size)
  clear b9
  by_cases hC : okC c = true
  rotate_left
  · rw [show okC c = false by simpa using hC]
    clear xC ha
    go_wp2
    go_ret
    exact ⟨rfl, bb⟩
  rw [hC]
  by_cases hq : 10 < m
  · have d2 : decide (10 < m) = true := decide_eq_true hq
    have d2i : decide (10 < (m : Int)) = true := decide_eq_true (by omega)
    clear xC ha
    go_wp2
    go_ret
    exact ⟨rfl, bb⟩
  have dm : decide (10 < m) = false := decide_eq_false hq
  have dmi : decide (10 < (m : Int)) = false := decide_eq_false (by omega)
  have hm9 : ¬ 10 < m := hq
  clear hq
  by_cases hq : 100 < len
  · have d2 : decide (100 < len) = true := decide_eq_true hq
    have d2i : decide (100 < (len : Int)) = true := decide_eq_true (by omega)
    clear xC ha
    go_wp2
    go_ret
    exact ⟨rfl, bb⟩
  have dn : decide (100 < len) = false := decide_eq_false hq
  have dni : decide (100 < (len : Int)) = false := decide_eq_false (by omega)
  have hn9 : ¬ 100 < len := hq
  clear hq
  have hm10 : m ≤ 10 := by omega
  have hn100 : len ≤ 100 := by omega
  clear hm9 hn9
  obtain ⟨B, hCB⟩ : ∃ B : Nat, c.cB = (B : Int) := ⟨c.cB.toNat, by have := ((okC_iff c).1 hC).1; omega⟩
  obtain ⟨hB1, hB2, hMsg⟩ : 1 ≤ B ∧ B ≤ 16 ∧ c.cMsg ≤ 200 := by have := (okC_iff c).1 hC; omega
  have HC : Hid (okC c = true) := hC
  have HCB : Hid (c.cB = (B : Int)) := hCB
  clear hC hCB
  go_wp2_with fail
  refine (twin_any (.slice a len cap) zs _ (by rw [HZ.out]; omega) _ ha).mono ?_
  rintro e w2 ⟨r, rfl, o1, b9⟩
  rw [HZ.out] at o1
  obtain ⟨ja, jc, rfl⟩ := row_shapeJ o1
  have hJ := holds_of_row o1
  clear o1 ha dm dmi dn dni
  replace xC := xC.next b9
  replace bb := bb.trans (b9.mono bb.size)
  clear b9
  have HBJ0 : Hid (w.heap.size < w2.heap.size) := xC.lt
  have b9 : Below w2.heap.size w2 (w2.alloc (.cells #[.bool true, .slice ja len jc] 24)) := (Below.refl _ _).alloc (Nat.le_refl _) _
  have x7 := Box.new w2 24 #[.bool true, .slice ja len jc]
  replace xC := xC.next b9
  replace hJ := hJ.next b9
  replace bb := bb.trans (b9.mono bb.size)
  clear b9
  go_wp2_with fail
  obtain ⟨BJ, hBJ⟩ : ∃ B, w2.heap.size = B := ⟨_, rfl⟩
  have HBJ : Hid (w.heap.size < BJ) := by have := HBJ0.out; rw [hBJ] at this; exact this
  rw [hBJ] at x7 ⊢
  clear hBJ
  generalize w2.alloc (.cells #[.bool true, .slice ja len jc] 24) = w3 at *
  clear HBJ0
  go_loopw [8, 9] (fun sq i wr => ∃ (k s : Nat) (ob : Bool) (t : List Int) (n1 : Nat) (ta : Option Addr) (tc : Nat), k ≤ m ∧ sq = .int .i64 (s : Int) ∧ i = .int .i64 (k : Int) ∧ s ≤ 200 * k ∧ n1 ≤ 4096 ∧ Hid (t.length = n1) ∧ Hid (ob = false → n1 = 0) ∧ Box wr BJ 24 #[.bool ob, .slice ta n1 tc] ∧ Holds .u8 wr.heap.size wr (.slice ta n1 tc) t ∧ Box wr w.heap.size 40 #[.int .i64 c.cB, .int .i64 c.cBeam, .int .i64 c.cDepth, .int .i64 c.cWin, .int .i64 c.cQs, .int .i64 c.cQr, .int .i64 c.cBatch, .int .i64 c.cPass, .int .i64 c.cMsg, .int .i64 c.cSeqs] ∧ Below w.heap.size w wr) (fun _ i _ => m - (intOf i).toNat)
  case atStart => exact ⟨0, 0, true, zs, len, ja, jc, Nat.zero_le _, rfl, rfl, Nat.le_refl _, by omega, HZ, (fun h => by cases h), x7, hJ, xC, bb⟩
  case round =>
    have HBJ2 : Hid (w.heap.size < BJ) := HBJ
    clear x7 hJ xC bb HBJ
    obtain ⟨k, s, ob, t, n1, ta, tc, hk, rfl, rfl, hs, hn1, HT1, HOB, x7, hT, xC, bb⟩ := hrel
    generalize hwr : wr = w4 at *
    clear hwr
    by_cases hlt : k < m
    rotate_left
    · obtain rfl : m = k := by omega
      clear x7 hT xC
      go_wp2_with fail
      refine (joinWakes_any _).mono ?_
      rintro e w99 ⟨rfl, b99⟩
      go_wp2
      go_ret
      exact ⟨rfl, bb.trans (b99.mono bb.size)⟩
    · as_aux_lemma =>
        obtain ⟨x, hx⟩ : ∃ y, l[k]? = some y := ⟨l[k]'(by rw [HLL.out]; exact hlt), by simp⟩
        obtain ⟨gb, off, xa, xc, rfl, yT, hxc⟩ := atTx_of HB0.out hx (Below.refl _ _) (Nat.le_refl _)
        obtain ⟨n, hn⟩ : ∃ n, x.length = n := ⟨_, rfl⟩
        rw [hn] at yT hxc
        have HTX : Hid (AtTx w gb (off + k) xa n xc x) := yT
        clear yT
        have HN : Hid (x.length = n) := hn
        clear hn
        obtain ⟨dd, hdd⟩ : ∃ d, decide (c.cMsg < (n : Int)) = d := ⟨_, rfl⟩
        go_upto_region 8 with fail
        obtain ⟨nq1, hnq1⟩ : ∃ n, w4.heap.size = n := ⟨_, rfl⟩
        have hl_xC : w.heap.size < nq1 := hnq1 ▸ xC.lt
        have m_xC0 : Hid (w4.cell? ⟨w.heap.size, 0, none⟩ = some (.int .i64 c.cB)) := xC.cell 0 _ rfl
        have m_xC1 : Hid (w4.cell? ⟨w.heap.size, 1, none⟩ = some (.int .i64 c.cBeam)) := xC.cell 1 _ rfl
        have m_xC2 : Hid (w4.cell? ⟨w.heap.size, 2, none⟩ = some (.int .i64 c.cDepth)) := xC.cell 2 _ rfl
        have m_xC3 : Hid (w4.cell? ⟨w.heap.size, 3, none⟩ = some (.int .i64 c.cWin)) := xC.cell 3 _ rfl
        have m_xC4 : Hid (w4.cell? ⟨w.heap.size, 4, none⟩ = some (.int .i64 c.cQs)) := xC.cell 4 _ rfl
        have m_xC5 : Hid (w4.cell? ⟨w.heap.size, 5, none⟩ = some (.int .i64 c.cQr)) := xC.cell 5 _ rfl
        have m_xC6 : Hid (w4.cell? ⟨w.heap.size, 6, none⟩ = some (.int .i64 c.cBatch)) := xC.cell 6 _ rfl
        have m_xC7 : Hid (w4.cell? ⟨w.heap.size, 7, none⟩ = some (.int .i64 c.cPass)) := xC.cell 7 _ rfl
        have m_xC8 : Hid (w4.cell? ⟨w.heap.size, 8, none⟩ = some (.int .i64 c.cMsg)) := xC.cell 8 _ rfl
        have m_xC9 : Hid (w4.cell? ⟨w.heap.size, 9, none⟩ = some (.int .i64 c.cSeqs)) := xC.cell 9 _ rfl
        have yT := HTX.out.next bb
        have hl_tx : gb < nq1 := hnq1 ▸ yT.lt
        have m_tx : Hid (w4.cell? ⟨gb, off + k, none⟩ = some (.slice xa n xc)) := yT.cell
        go_cut [46] (fun v0 wx => v0 = .bool dd ∧ Below nq1 w4 wx)
        case first =>
          as_aux_lemma =>
            refine wp_region_held_drew (S := fun w' => Below nq1 w4 w') (by kernel_rfl) (below_drewJ hnq1) (fun hHeld => ?_)
            refine ht0 0 39 (v := ?v1) (fun _ => ?y1) hHeld ?_
            case y1 => go_simp; with_reducible rfl
            simp only [sn]
            refine ht0 1 40 (v := ?v2) (fun _ => ?y2) hHeld ?_
            case y2 => go_simp; with_reducible rfl
            simp only [sn]
            refine ht0 2 41 (v := ?v3) (fun _ => ?y3) hHeld ?_
            case y3 => go_simp; with_reducible rfl
            simp only [sn]
            refine ht 3 42 (v := ?v4) (fun _ hSw => ?y4) hHeld ?_
            case y4 => have q0 := hSw.at m_tx.out hl_tx; clear hSw; go_simp; with_reducible rfl
            simp only [sn]
            refine ht0 4 43 (v := ?v5) (fun _ => ?y5) hHeld ?_
            case y5 => go_simp; with_reducible rfl
            simp only [sn]
            refine ht0 5 44 (v := ?v6) (fun _ => ?y6) hHeld ?_
            case y6 => go_simp; with_reducible rfl
            simp only [sn]
            refine ht 6 45 (v := ?v7) (fun _ hSw => ?y7) hHeld ?_
            case y7 => have q0 := hSw.at m_xC8.out hl_xC; clear hSw; go_simp; with_reducible rfl
            simp only [sn]
            refine wpAnyH_ready (rs := [7]) (by kernel_rfl) (by simp) ?_
            refine AllReadyH.cons rfl (fun K hK => ?_) AllReadyH.nil
            go_simp
            refine hK.out _ _ hHeld (fun hHeld => ?_)
            clear hK K
            refine wpAnyH_done (by kernel_rfl) ?_ _
            go_wp2_with fail
            go_meet
            exact ⟨rfl, hHeld⟩
        case rest =>
          as_aux_lemma =>
            obtain ⟨rfl, b9⟩ := hcut
            replace b9 : Below w4.heap.size w4 wc := hnq1 ▸ b9
            generalize hwc : wc = w5 at *
            clear hwc hnq1 hl_xC m_xC0 m_xC1 m_xC2 m_xC3 m_xC4 m_xC5 m_xC6 m_xC7 m_xC8 m_xC9 hl_tx m_tx yT 
            replace x7 := x7.next b9
            replace hT := hT.next b9
            replace xC := xC.next b9
            replace bb := bb.trans (b9.mono bb.size)
            clear b9
            cases dd with
            | true =>
              clear x7 hT xC
              go_wp2
              go_ret
              exact ⟨rfl, bb⟩
            | false =>
              have hnM : (n : Int) ≤ c.cMsg := by have := of_decide_eq_false hdd; omega
              have hn200 : n ≤ 200 := by omega
              clear hdd
              obtain ⟨M, hM⟩ : ∃ M, blocksN B n = M := ⟨_, rfl⟩
              have hMb : 1 ≤ M ∧ M ≤ 200 := by
                have h1 := blocksC_bd HC.out (n := n) (by omega) (by omega)
                rw [blocks_nat HCB.out n M hM hB1] at h1
                omega
              have HM : Hid (blocksN B n = M) := hM
              clear hM
              go_upto_region 10 with fail
              obtain ⟨nq2, hnq2⟩ : ∃ n, w5.heap.size = n := ⟨_, rfl⟩
              have hl_xC : w.heap.size < nq2 := hnq2 ▸ xC.lt
              have m_xC0 : Hid (w5.cell? ⟨w.heap.size, 0, none⟩ = some (.int .i64 c.cB)) := xC.cell 0 _ rfl
              have m_xC1 : Hid (w5.cell? ⟨w.heap.size, 1, none⟩ = some (.int .i64 c.cBeam)) := xC.cell 1 _ rfl
              have m_xC2 : Hid (w5.cell? ⟨w.heap.size, 2, none⟩ = some (.int .i64 c.cDepth)) := xC.cell 2 _ rfl
              have m_xC3 : Hid (w5.cell? ⟨w.heap.size, 3, none⟩ = some (.int .i64 c.cWin)) := xC.cell 3 _ rfl
              have m_xC4 : Hid (w5.cell? ⟨w.heap.size, 4, none⟩ = some (.int .i64 c.cQs)) := xC.cell 4 _ rfl
              have m_xC5 : Hid (w5.cell? ⟨w.heap.size, 5, none⟩ = some (.int .i64 c.cQr)) := xC.cell 5 _ rfl
              have m_xC6 : Hid (w5.cell? ⟨w.heap.size, 6, none⟩ = some (.int .i64 c.cBatch)) := xC.cell 6 _ rfl
              have m_xC7 : Hid (w5.cell? ⟨w.heap.size, 7, none⟩ = some (.int .i64 c.cPass)) := xC.cell 7 _ rfl
              have m_xC8 : Hid (w5.cell? ⟨w.heap.size, 8, none⟩ = some (.int .i64 c.cMsg)) := xC.cell 8 _ rfl
              have m_xC9 : Hid (w5.cell? ⟨w.heap.size, 9, none⟩ = some (.int .i64 c.cSeqs)) := xC.cell 9 _ rfl
              have yT := HTX.out.next bb
              have hl_tx : gb < nq2 := hnq2 ▸ yT.lt
              have m_tx : Hid (w5.cell? ⟨gb, off + k, none⟩ = some (.slice xa n xc)) := yT.cell
              have HX : Hid (∀ wx : World, Below nq2 w5 wx → Calls Try.prog 18 #[.agg #[.int .i64 c.cB, .int .i64 c.cBeam, .int .i64 c.cDepth, .int .i64 c.cWin, .int .i64 c.cQs, .int .i64 c.cQr, .int .i64 c.cBatch, .int .i64 c.cPass, .int .i64 c.cMsg, .int .i64 c.cSeqs], .int .i64 (s : Int), .slice xa n xc] wx fun e w' => ∃ va vc, e = .returned (.tuple #[.slice va M vc, .int .i64 0]) ∧ OwnBlks nq2 w' (.slice va M vc) (cutL B (s : Int) M x) ∧ Below wx.heap.size wx w') := fun wx hx => by
                refine (Cut_ok c (s : Int) xa n xc HC.out hnM hxc x HN.out B M HCB.out HM.out (by omega) (by omega) wx (yT.held.next (hnq2 ▸ hx))).mono ?_
                rintro e w' ⟨v, rfl, h, b⟩
                obtain ⟨va, vc, hv⟩ := h.rows.shape
                rw [cutL_len] at hv
                subst hv
                exact ⟨va, vc, rfl, h.lower (by have := hx.size; omega), b⟩
              have HNQ : Hid (BJ < nq2) := hnq2 ▸ x7.lt
              go_cut [10, 11] (fun v0 v1 wx => ∃ ea ec, v0 = .slice ea M ec ∧ v1 = .int .i64 0 ∧ OwnBlks nq2 wx (.slice ea M ec) (cutL B (s : Int) M x) ∧ Below nq2 w5 wx)
              case first =>
                as_aux_lemma =>
                  have hS : Below nq2 w5 w5.drew := below_drewJ hnq2
                  refine wp_region_held_drew (S := fun w' => Below nq2 w5 w') (by kernel_rfl) (hS) (fun hHeld => ?_)
                  generalize w5.drew = wk0 at *
                  refine ht 0 48 (v := ?v8) (fun _ hSw => ?y8) hHeld ?_
                  case y8 => have q0 := hSw.at m_xC0.out hl_xC; have q1 := hSw.at m_xC1.out hl_xC; have q2 := hSw.at m_xC2.out hl_xC; have q3 := hSw.at m_xC3.out hl_xC; have q4 := hSw.at m_xC4.out hl_xC; have q5 := hSw.at m_xC5.out hl_xC; have q6 := hSw.at m_xC6.out hl_xC; have q7 := hSw.at m_xC7.out hl_xC; have q8 := hSw.at m_xC8.out hl_xC; have q9 := hSw.at m_xC9.out hl_xC; clear hSw; go_simp; with_reducible rfl
                  simp only [sn]
                  refine ht0 1 49 (v := ?v9) (fun _ => ?y9) hHeld ?_
                  case y9 => go_simp; with_reducible rfl
                  simp only [sn]
                  refine ht0 2 50 (v := ?v10) (fun _ => ?y10) hHeld ?_
                  case y10 => go_simp; with_reducible rfl
                  simp only [sn]
                  refine ht0 3 51 (v := ?v11) (fun _ => ?y11) hHeld ?_
                  case y11 => go_simp; with_reducible rfl
                  simp only [sn]
                  refine ht0 4 52 (v := ?v12) (fun _ => ?y12) hHeld ?_
                  case y12 => go_simp; with_reducible rfl
                  simp only [sn]
                  refine ht 5 53 (v := ?v13) (fun _ hSw => ?y13) hHeld ?_
                  case y13 => have q0 := hSw.at m_tx.out hl_tx; clear hSw; go_simp; with_reducible rfl
                  simp only [sn]
                  refine wpAnyH_ready (rs := [6]) (by kernel_rfl) (by simp) ?_
                  refine AllReadyH.cons rfl (fun K hK => ?_) AllReadyH.nil
                  go_simp
                  go_wp2_with (go_at_call 18; refine (HX.out _ (by exact hS)).mono ?_; rintro e wk1 ⟨ea, ec, rfl, hL, b8⟩)
                  replace hS := hS.trans (b8.mono (by have := hS.size; omega))
                  clear b8
                  refine hK.out _ _ (hS) (fun hHeld => ?_)
                  clear hK K
                  refine ht0 7 47 (v := ?v14) (fun _ => ?y14) hHeld ?_
                  case y14 => go_simp; with_reducible rfl
                  simp only [sn]
                  refine ht0 8 55 (v := ?v15) (fun _ => ?y15) hHeld ?_
                  case y15 => go_simp; with_reducible rfl
                  simp only [sn]
                  refine ht0 9 56 (v := ?v16) (fun _ => ?y16) hHeld ?_
                  case y16 => go_simp; with_reducible rfl
                  simp only [sn]
                  refine ht0 10 10 (v := ?v17) (fun _ => ?y17) hHeld ?_
                  case y17 => go_simp; with_reducible rfl
                  simp only [sn]
                  refine wpAnyH_ready (rs := [11]) (by kernel_rfl) (by simp) ?_
                  refine AllReadyH.cons rfl (fun K hK => ?_) AllReadyH.nil
                  go_simp
                  refine hK.out _ _ hHeld (fun hHeld => ?_)
                  clear hK K
                  refine wpAnyH_done (by kernel_rfl) ?_ _
                  go_wp2_with fail
                  go_meet
                  exact ⟨_, _, rfl, rfl, hL, hHeld⟩
              case rest =>
                as_aux_lemma =>
                  obtain ⟨ea, ec, rfl, rfl, hL, b9⟩ := hcut
                  replace b9 : Below w5.heap.size w5 wc := hnq2 ▸ b9
                  generalize hwc : wc = w6 at *
                  clear hwc hnq2 hl_xC m_xC0 m_xC1 m_xC2 m_xC3 m_xC4 m_xC5 m_xC6 m_xC7 m_xC8 m_xC9 hl_tx m_tx yT HX 
                  replace x7 := x7.next b9
                  replace hT := hT.next b9
                  replace xC := xC.next b9
                  replace bb := bb.trans (b9.mono bb.size)
                  clear b9
                  have dM0 : ((M : Int) == 0) = false := by simp; omega
                  have dM0n : decide (M = 0) = false := decide_eq_false (by omega)
                  obtain ⟨ob0, hob0⟩ : ∃ b, ob = b := ⟨_, rfl⟩
                  obtain ⟨t0, ht0⟩ : ∃ b, t = b := ⟨_, rfl⟩
                  have hj0 : (ob, t) = jAt B x (ob0, t0) M 0 := by rw [jAt_zero hMb.1, hob0, ht0]
                  have HJ0 : Hid ((ob, t) = jAt B x (ob0, t0) M 0) := hj0
                  have HO0 : Hid (t0.length ≤ 4096 ∧ (ob0 = false → t0.length = 0)) := by rw [← ht0, ← hob0, HT1.out]; exact ⟨hn1, HOB.out⟩
                  clear hob0 ht0 hj0
                  go_wp2_with fail
                  clear dM0 dM0n
                  go_loopw [12] (fun kk wr => ∃ (q : Nat) (ob : Bool) (t : List Int) (n1 : Nat) (ta : Option Addr) (tc : Nat), q ≤ M ∧ kk = .int .i64 (q : Int) ∧ Hid ((ob, t) = jAt B x (ob0, t0) M q) ∧ OwnBlks nq2 wr (.slice ea M ec) (cutL B (s : Int) M x) ∧ n1 ≤ 4096 ∧ Hid (t.length = n1) ∧ Hid (ob = false → n1 = 0) ∧ Box wr BJ 24 #[.bool ob, .slice ta n1 tc] ∧ Holds .u8 wr.heap.size wr (.slice ta n1 tc) t ∧ Box wr w.heap.size 40 #[.int .i64 c.cB, .int .i64 c.cBeam, .int .i64 c.cDepth, .int .i64 c.cWin, .int .i64 c.cQs, .int .i64 c.cQr, .int .i64 c.cBatch, .int .i64 c.cPass, .int .i64 c.cMsg, .int .i64 c.cSeqs] ∧ Below w.heap.size w wr) (fun kk _ => M - (intOf kk).toNat)
                  case atStart => exact ⟨0, ob, t, n1, ta, tc, Nat.zero_le _, rfl, HJ0, hL, hn1, HT1, HOB, x7, hT, xC, bb⟩
                  case round =>
                    clear x7 hT xC bb hL HT1 HOB HJ0 hn1
                    obtain ⟨q, ob, t, n1, ta, tc, hqM, rfl, HJ, hL, hn1, HT1, HOB, x7, hT, xC, bb⟩ := hrel
                    generalize hwr : wr = w9 at *
                    clear hwr
                    by_cases hq : q < M
                    rotate_left
                    · obtain rfl : M = q := by omega
                      have wsM : IntKind.i64.wrap ((s : Int) + (M : Int)) = (s : Int) + (M : Int) := wraps_i64 _ (by omega) (by omega)
                      clear hL
                      go_wp2
                      exact ⟨⟨k + 1, s + M, ob, t, n1, ta, tc, hlt, by go_num, by go_num, by omega, hn1, HT1, HOB, x7, hT, xC, bb⟩, by simp [intOf]; omega⟩
                    · as_aux_lemma =>
                        obtain ⟨X, hX0⟩ : ∃ X, textK B x q = X := ⟨_, rfl⟩
                        obtain ⟨z, hz⟩ : ∃ z, X.length = z := ⟨_, rfl⟩
                        obtain ⟨mk, hmk⟩ : ∃ mk, markK M q = mk := ⟨_, rfl⟩
                        obtain ⟨sq, hsq⟩ : ∃ sq : Int, (s : Int) + (q : Int) = sq := ⟨_, rfl⟩
                        obtain ⟨hEn, hEr, hTk⟩ := msgs_step (j0 := (ob0, t0)) hB1 hB2 (by rw [HN.out]; exact HM.out) (by rw [HN.out]; exact hn200) HO0.out.1 HO0.out.2 hq HJ.out
                        rw [hX0] at hEr hTk
                        rw [hmk] at hEn hEr hTk
                        obtain ⟨gl, gl0, pa, pc, hea, yB⟩ := atBlk_of hL.rows (cutL_get (B := B) (s := (s : Int)) (msg := x) hq) (Below.refl _ _) (Nat.le_refl _)
                        rw [hX0] at yB
                        rw [hz, hmk, hsq] at yB
                        have HEA : Hid (ea = some ⟨gl, gl0, none⟩) := hea
                        have hzl : z ≤ 16 := by rw [← hz, ← hX0]; exact Nat.le_trans (textK_le _ _ _) hB2
                        have HXL : Hid (X.length = z) := hz
                        clear hz hX0 hmk hsq hea
                        obtain ⟨eb, heb⟩ : ∃ e, decide (q + 1 = M) = e := ⟨_, rfl⟩
                        rw [heb] at hEn hTk
                        have HEN : Hid (endsA ob mk = eb) := hEn
                        have HER : Hid (errJ (ob, t) mk X = 0) := hEr
                        have HEB : Hid (decide (q + 1 = M) = eb) := heb
                        have d5 : ((q : Int) == (M : Int) - 1) = eb := by
                          rw [← HEB.out]
                          by_cases h : q + 1 = M
                          · rw [decide_eq_true h]; simp; omega
                          · rw [decide_eq_false h]; simp; omega
                        have dqM : decide (q < M) = true := decide_eq_true hq
                        have wM1 : IntKind.i64.wrap ((M : Int) - 1) = (M : Int) - 1 := wraps_i64 _ (by omega) (by omega)
                        have hee : (eb != eb) = false := by simp
                        clear hEn hEr heb
                        obtain ⟨⟨⟨O, T⟩, G, Dn⟩, hTJ⟩ : ∃ q, takeJ (ob, t) mk X = q := ⟨_, rfl⟩
                        rw [hTJ] at hTk
                        obtain ⟨nT, hnT⟩ : ∃ k, T.length = k := ⟨_, rfl⟩
                        obtain ⟨nG, hnG⟩ : ∃ k, G.length = k := ⟨_, rfl⟩
                        have HTJ : Hid (takeJ (ob, t) mk X = ((O, T), G, Dn)) := hTJ
                        have HnT : Hid (T.length = nT) := hnT
                        have HnG : Hid (G.length = nG) := hnG
                        have HLE : Hid (nT ≤ 4096 ∧ nG ≤ 4096) := by have := takeJ_le hTJ; rw [hnT, hnG] at this; exact this
                        obtain ⟨hO2, hTk2⟩ := Prod.mk.inj hTk
                        obtain ⟨hG2, hDn⟩ := Prod.mk.inj hTk2
                        subst hDn
                        have HO2 : Hid ((O, T) = jAt B x (ob0, t0) M (q + 1)) := hO2
                        have HG2 : Hid (G = if q + 1 = M then x else []) := hG2
                        clear hO2 hTk2 hG2
                        clear hTJ hnT hnG hTk
                        obtain rfl : ea = some ⟨gl, gl0, none⟩ := HEA.out
                        clear HEA
                        go_upto_region 16 with fail
                        obtain ⟨nq3, hnq3⟩ : ∃ n, w9.heap.size = n := ⟨_, rfl⟩
                        have hl_x7 : BJ < nq3 := hnq3 ▸ x7.lt
                        have m_x70 : Hid (w9.cell? ⟨BJ, 0, none⟩ = some (.bool ob)) := x7.cell 0 _ rfl
                        have m_x71 : Hid (w9.cell? ⟨BJ, 1, none⟩ = some (.slice ta n1 tc)) := x7.cell 1 _ rfl
                        have hl_yB : gl < nq3 := hnq3 ▸ yB.lt
                        have m_yB0 : Hid (w9.cell? ⟨gl, gl0 + q * 3, none⟩ = some (.int .i64 sq)) := yB.1.2.1
                        have m_yB1 : Hid (w9.cell? ⟨gl, gl0 + q * 3 + 1, none⟩ = some (.int .i64 mk)) := yB.1.2.2.1
                        have m_yB2 : Hid (w9.cell? ⟨gl, gl0 + q * 3 + 2, none⟩ = some (.slice pa z pc)) := yB.1.2.2.2
                        have HE1 : Hid (∀ wx : World, Below nq3 w9 wx → Calls Try.prog 8 #[.agg #[.bool ob, .slice ta n1 tc], .agg #[.int .i64 sq, .int .i64 mk, .slice pa z pc]] wx fun e w' => e = .returned (.bool Dn) ∧ Below nq3 w9 w') := fun wx hx => (HEN.out ▸ JoinEnds_any ob ta n1 tc sq mk pa z pc wx).mono fun e w' ⟨h, b⟩ => ⟨h, hx.trans (b.mono (hnq3 ▸ hx.size))⟩
                        go_cut [81] (fun v0 wx => v0 = .bool false ∧ Below nq3 w9 wx)
                        case first =>
                          as_aux_lemma =>
                            refine wp_region_held_drew (S := fun w' => Below nq3 w9 w') (by kernel_rfl) (below_drewJ hnq3) (fun hHeld => ?_)
                            refine ht 0 70 (v := ?v18) (fun _ hSw => ?y18) hHeld ?_
                            case y18 => have q0 := hSw.at m_x70.out hl_x7; have q1 := hSw.at m_x71.out hl_x7; clear hSw; go_simp; with_reducible rfl
                            simp only [sn]
                            refine ht0 1 71 (v := ?v19) (fun _ => ?y19) hHeld ?_
                            case y19 => go_simp; with_reducible rfl
                            simp only [sn]
                            refine ht0 2 72 (v := ?v20) (fun _ => ?y20) hHeld ?_
                            case y20 => go_simp; with_reducible rfl
                            simp only [sn]
                            refine ht0 3 73 (v := ?v21) (fun _ => ?y21) hHeld ?_
                            case y21 => go_simp; with_reducible rfl
                            simp only [sn]
                            refine ht 4 74 (v := ?v22) (fun _ hSw => ?y22) hHeld ?_
                            case y22 => have q0 := hSw.at m_yB0.out hl_yB; have q1 := hSw.at m_yB1.out hl_yB; have q2 := hSw.at m_yB2.out hl_yB; clear hSw; go_simp; with_reducible rfl
                            simp only [sn]
                            refine ht0 6 76 (v := ?v23) (fun _ => ?y23) hHeld ?_
                            case y23 => go_simp; with_reducible rfl
                            simp only [sn]
                            refine ht0 7 77 (v := ?v24) (fun _ => ?y24) hHeld ?_
                            case y24 => go_simp; with_reducible rfl
                            simp only [sn]
                            refine ht0 8 78 (v := ?v25) (fun _ => ?y25) hHeld ?_
                            case y25 => go_simp; with_reducible rfl
                            simp only [sn]
                            refine ht0 9 79 (v := ?v26) (fun _ => ?y26) hHeld ?_
                            case y26 => go_simp; with_reducible rfl
                            simp only [sn]
                            refine ht0 10 80 (v := ?v27) (fun _ => ?y27) hHeld ?_
                            case y27 => go_simp; with_reducible rfl
                            simp only [sn]
                            refine wpAnyH_ready (rs := [5]) (by kernel_rfl) (by simp) ?_
                            refine AllReadyH.cons rfl (fun K hK => ?_) AllReadyH.nil
                            go_simp
                            go_wp2_with (go_at_call 8; refine (HE1.out _ (by exact hHeld)).mono ?_; rintro e wb ⟨rfl, b8⟩)
                            refine hK.out _ _ (b8) (fun hHeld => ?_)
                            clear hK K
                            refine wpAnyH_ready (rs := [11]) (by kernel_rfl) (by simp) ?_
                            refine AllReadyH.cons rfl (fun K hK => ?_) AllReadyH.nil
                            go_simp
                            refine hK.out _ _ hHeld (fun hHeld => ?_)
                            clear hK K
                            refine wpAnyH_done (by kernel_rfl) ?_ _
                            go_wp2_with fail
                            go_meet
                            exact ⟨rfl, hHeld⟩
                        case rest =>
                          as_aux_lemma =>
                            obtain ⟨rfl, b9⟩ := hcut
                            replace b9 : Below w9.heap.size w9 wc := hnq3 ▸ b9
                            generalize hwc : wc = w10 at *
                            clear hwc hnq3 hl_x7 m_x70 m_x71 hl_yB m_yB0 m_yB1 m_yB2 HE1 
                            replace x7 := x7.next b9
                            replace hT := hT.next b9
                            replace xC := xC.next b9
                            replace hL := hL.next b9
                            replace yB := yB.next b9
                            replace bb := bb.trans (b9.mono bb.size)
                            clear b9
                            go_upto_region 18 with fail
                            obtain ⟨nq4, hnq4⟩ : ∃ n, w10.heap.size = n := ⟨_, rfl⟩
                            have hl_x7 : BJ < nq4 := hnq4 ▸ x7.lt
                            have m_x70 : Hid (w10.cell? ⟨BJ, 0, none⟩ = some (.bool ob)) := x7.cell 0 _ rfl
                            have m_x71 : Hid (w10.cell? ⟨BJ, 1, none⟩ = some (.slice ta n1 tc)) := x7.cell 1 _ rfl
                            have hl_yB : gl < nq4 := hnq4 ▸ yB.lt
                            have m_yB0 : Hid (w10.cell? ⟨gl, gl0 + q * 3, none⟩ = some (.int .i64 sq)) := yB.1.2.1
                            have m_yB1 : Hid (w10.cell? ⟨gl, gl0 + q * 3 + 1, none⟩ = some (.int .i64 mk)) := yB.1.2.2.1
                            have m_yB2 : Hid (w10.cell? ⟨gl, gl0 + q * 3 + 2, none⟩ = some (.slice pa z pc)) := yB.1.2.2.2
                            have HRJ : Hid (∀ wx : World, Below nq4 w10 wx → Calls Try.prog 10 #[.agg #[.bool ob, .slice ta n1 tc], .agg #[.int .i64 sq, .int .i64 mk, .slice pa z pc]] wx fun e W' => ∃ za zc va vc, e = .returned (.tuple #[.agg #[.bool O, .slice za nT zc], .slice va nG vc, .bool Dn, .int .i64 0]) ∧ W'.ownsRow wx.heap.size 5 1 (.slice za nT zc) nT (T.map (Value.int .u8)) ∧ W'.ownsRow wx.heap.size 5 1 (.slice va nG vc) nG (G.map (Value.int .u8)) ∧ nq4 ≤ wx.heap.size ∧ Below wx.heap.size wx W') := fun wx hx => (joinTake_at ob ta n1 tc sq mk pa z pc t X HT1.out HXL.out HTJ.out HER.out HnT.out HnG.out wx (hT.next (hnq4 ▸ hx)) (yB.held.next (hnq4 ▸ hx))).mono fun e W' ⟨za, zc, va, vc, he, h1, h2, _, h3⟩ => ⟨za, zc, va, vc, he, h1, h2, by have := hx.size; omega, h3⟩
                            have HNQ2 : Hid (BJ < nq4) := hnq4 ▸ x7.lt
                            go_cut [13, 14, 15, 16] (fun v0 v1 v2 v3 wx => ∃ B13 za zc va vc, v0 = .pointer (some ⟨B13, 0, none⟩) ∧ v1 = .slice va nG vc ∧ v2 = .bool Dn ∧ v3 = .int .i64 0 ∧ Box wx B13 24 #[.bool O, .slice za nT zc] ∧ wx.ownsRow nq4 5 1 (.slice za nT zc) nT (T.map (Value.int .u8)) ∧ Holds .u8 wx.heap.size wx (.slice va nG vc) G ∧ Below nq4 w10 wx)
                            case first =>
                              as_aux_lemma =>
                                have hS : Below nq4 w10 w10.drew := below_drewJ hnq4
                                refine wp_region_held_drew (S := fun w' => Below nq4 w10 w') (by kernel_rfl) (hS) (fun hHeld => ?_)
                                generalize w10.drew = wk0 at *
                                refine ht 0 83 (v := ?v28) (fun _ hSw => ?y28) hHeld ?_
                                case y28 => have q0 := hSw.at m_x70.out hl_x7; have q1 := hSw.at m_x71.out hl_x7; clear hSw; go_simp; with_reducible rfl
                                simp only [sn]
                                refine ht0 1 84 (v := ?v29) (fun _ => ?y29) hHeld ?_
                                case y29 => go_simp; with_reducible rfl
                                simp only [sn]
                                refine ht0 2 85 (v := ?v30) (fun _ => ?y30) hHeld ?_
                                case y30 => go_simp; with_reducible rfl
                                simp only [sn]
                                refine ht0 3 86 (v := ?v31) (fun _ => ?y31) hHeld ?_
                                case y31 => go_simp; with_reducible rfl
                                simp only [sn]
                                refine ht 4 87 (v := ?v32) (fun _ hSw => ?y32) hHeld ?_
                                case y32 => have q0 := hSw.at m_yB0.out hl_yB; have q1 := hSw.at m_yB1.out hl_yB; have q2 := hSw.at m_yB2.out hl_yB; clear hSw; go_simp; with_reducible rfl
                                simp only [sn]
                                refine wpAnyH_ready (rs := [5, 11]) (by kernel_rfl) (by simp) ?_
                                refine AllReadyH.cons rfl (fun K hK => ?_) ?_
                                · go_simp
                                  go_wp2_with (go_at_call 10; refine (HRJ.out _ (by exact hS)).mono ?_; rintro e wk1 ⟨za, zc, va, vc, rfl, oZ, oV, hqz, b8⟩)
                                  replace hS := hS.trans (b8.mono (by have := hS.size; omega))
                                  clear b8
                                  refine hK.out _ _ (hS) (fun hHeld => ?_)
                                  clear hK K
                                  refine ht0 6 82 (v := ?v33) (fun _ => ?y33) hHeld ?_
                                  case y33 => go_simp; with_reducible rfl
                                  simp only [sn]
                                  refine ht0 7 89 (v := ?v34) (fun _ => ?y34) hHeld ?_
                                  case y34 => go_simp; with_reducible rfl
                                  simp only [sn]
                                  refine ht0 8 90 (v := ?v35) (fun _ => ?y35) hHeld ?_
                                  case y35 => go_simp; with_reducible rfl
                                  simp only [sn]
                                  refine ht0 9 91 (v := ?v36) (fun _ => ?y36) hHeld ?_
                                  case y36 => go_simp; with_reducible rfl
                                  simp only [sn]
                                  refine ht0 10 92 (v := ?v37) (fun _ => ?y37) hHeld ?_
                                  case y37 => go_simp; with_reducible rfl
                                  simp only [sn]
                                  refine wpAnyH_ready (rs := [11]) (by kernel_rfl) (by simp) ?_
                                  refine AllReadyH.cons rfl (fun K hK => ?_) AllReadyH.nil
                                  go_simp
                                  have bA := (Below.refl _ wk1).alloc (Nat.le_refl _) (.cells #[.bool false, .slice none 0 0] 24)
                                  have hn_x13 : nq4 ≤ wk1.heap.size := by have := hS.size; omega
                                  have ne_oZ_x13 := row_neNew oZ
                                  have ne_oV_x13 := row_neNew oV
                                  replace oZ := rowK_below oZ bA (Nat.le_refl _)
                                  replace oV := rowK_below oV bA (Nat.le_refl _)
                                  have x13 := Box.new wk1 24 #[.bool false, .slice none 0 0]
                                  replace hS := hS.trans (bA.mono hn_x13)
                                  clear bA
                                  generalize wk1.alloc (.cells #[.bool false, .slice none 0 0] 24) = wk2 at *
                                  refine hK.out _ _ (hS) (fun hHeld => ?_)
                                  clear hK K
                                  refine wpAnyH_ready (rs := [12]) (by kernel_rfl) (by simp) ?_
                                  refine AllReadyH.cons rfl (fun K hK => ?_) AllReadyH.nil
                                  have y0 := x13.cell 0 _ rfl
                                  have y1 := x13.cell 1 _ rfl
                                  have u0 := x13.free 0
                                  have u1 := x13.free 1
                                  have hltq := x13.lt
                                  go_simp
                                  replace x13 := box_set2 x13 (.bool O) (.slice za nT zc)
                                  replace oZ := row_setNe2 oZ ne_oZ_x13 (.bool O) (.slice za nT zc)
                                  replace oV := row_setNe2 oV ne_oV_x13 (.bool O) (.slice za nT zc)
                                  replace hS := below_set2 hS hn_x13 (.bool O) (.slice za nT zc)
                                  clear hltq y0 u0 y1 u1
                                  refine hK.out _ _ (hS) (fun hHeld => ?_)
                                  clear hK K
                                  refine ht0 13 14 (v := ?v38) (fun _ => ?y38) hHeld ?_
                                  case y38 => go_simp; with_reducible rfl
                                  simp only [sn]
                                  refine ht0 14 15 (v := ?v39) (fun _ => ?y39) hHeld ?_
                                  case y39 => go_simp; with_reducible rfl
                                  simp only [sn]
                                  refine wpAnyH_ready (rs := [15]) (by kernel_rfl) (by simp) ?_
                                  refine AllReadyH.cons rfl (fun K hK => ?_) AllReadyH.nil
                                  go_simp
                                  refine hK.out _ _ hHeld (fun hHeld => ?_)
                                  clear hK K
                                  refine wpAnyH_done (by kernel_rfl) ?_ _
                                  go_wp2_with fail
                                  go_meet
                                  exact ⟨_, za, zc, va, vc, rfl, rfl, rfl, rfl, x13, rowK_base oZ hqz, holds_of_row oV, hHeld⟩
                                refine AllReadyH.cons rfl (fun K hK => ?_) ?_
                                · go_simp
                                  have bA := (Below.refl _ wk0).alloc (Nat.le_refl _) (.cells #[.bool false, .slice none 0 0] 24)
                                  have hn_x13 : nq4 ≤ wk0.heap.size := by have := hS.size; omega
                                  have x13 := Box.new wk0 24 #[.bool false, .slice none 0 0]
                                  replace hS := hS.trans (bA.mono hn_x13)
                                  clear bA
                                  generalize wk0.alloc (.cells #[.bool false, .slice none 0 0] 24) = wk1 at *
                                  refine hK.out _ _ (hS) (fun hHeld => ?_)
                                  clear hK K
                                  refine wpAnyH_ready (rs := [5]) (by kernel_rfl) (by simp) ?_
                                  refine AllReadyH.cons rfl (fun K hK => ?_) AllReadyH.nil
                                  go_simp
                                  go_wp2_with (go_at_call 10; refine (HRJ.out _ (by exact hS)).mono ?_; rintro e wk2 ⟨za, zc, va, vc, rfl, oZ, oV, hqz, b8⟩)
                                  have ne_oZ_x13 := row_neOld oZ x13.lt
                                  have ne_oV_x13 := row_neOld oV x13.lt
                                  replace x13 := x13.next b8
                                  replace hS := hS.trans (b8.mono (by have := hS.size; omega))
                                  clear b8
                                  refine hK.out _ _ (hS) (fun hHeld => ?_)
                                  clear hK K
                                  refine ht0 6 82 (v := ?v40) (fun _ => ?y40) hHeld ?_
                                  case y40 => go_simp; with_reducible rfl
                                  simp only [sn]
                                  refine ht0 7 89 (v := ?v41) (fun _ => ?y41) hHeld ?_
                                  case y41 => go_simp; with_reducible rfl
                                  simp only [sn]
                                  refine ht0 8 90 (v := ?v42) (fun _ => ?y42) hHeld ?_
                                  case y42 => go_simp; with_reducible rfl
                                  simp only [sn]
                                  refine ht0 9 91 (v := ?v43) (fun _ => ?y43) hHeld ?_
                                  case y43 => go_simp; with_reducible rfl
                                  simp only [sn]
                                  refine ht0 10 92 (v := ?v44) (fun _ => ?y44) hHeld ?_
                                  case y44 => go_simp; with_reducible rfl
                                  simp only [sn]
                                  refine wpAnyH_ready (rs := [12]) (by kernel_rfl) (by simp) ?_
                                  refine AllReadyH.cons rfl (fun K hK => ?_) AllReadyH.nil
                                  have y0 := x13.cell 0 _ rfl
                                  have y1 := x13.cell 1 _ rfl
                                  have u0 := x13.free 0
                                  have u1 := x13.free 1
                                  have hltq := x13.lt
                                  go_simp
                                  replace x13 := box_set2 x13 (.bool O) (.slice za nT zc)
                                  replace oZ := row_setNe2 oZ ne_oZ_x13 (.bool O) (.slice za nT zc)
                                  replace oV := row_setNe2 oV ne_oV_x13 (.bool O) (.slice za nT zc)
                                  replace hS := below_set2 hS hn_x13 (.bool O) (.slice za nT zc)
                                  clear hltq y0 u0 y1 u1
                                  refine hK.out _ _ (hS) (fun hHeld => ?_)
                                  clear hK K
                                  refine ht0 13 14 (v := ?v45) (fun _ => ?y45) hHeld ?_
                                  case y45 => go_simp; with_reducible rfl
                                  simp only [sn]
                                  refine ht0 14 15 (v := ?v46) (fun _ => ?y46) hHeld ?_
                                  case y46 => go_simp; with_reducible rfl
                                  simp only [sn]
                                  refine wpAnyH_ready (rs := [15]) (by kernel_rfl) (by simp) ?_
                                  refine AllReadyH.cons rfl (fun K hK => ?_) AllReadyH.nil
                                  go_simp
                                  refine hK.out _ _ hHeld (fun hHeld => ?_)
                                  clear hK K
                                  refine wpAnyH_done (by kernel_rfl) ?_ _
                                  go_wp2_with fail
                                  go_meet
                                  exact ⟨_, za, zc, va, vc, rfl, rfl, rfl, rfl, x13, rowK_base oZ hqz, holds_of_row oV, hHeld⟩
                                exact AllReadyH.nil
                            case rest =>
                              as_aux_lemma =>
                                obtain ⟨B13, za, zc, va, vc, rfl, rfl, rfl, rfl, x13, oZ, hV, b9⟩ := hcut
                                replace b9 : Below w10.heap.size w10 wc := hnq4 ▸ b9
                                generalize hwc : wc = w11 at *
                                clear hwc hnq4 hl_x7 m_x70 m_x71 hl_yB m_yB0 m_yB1 m_yB2 HRJ 
                                replace x7 := x7.next b9
                                replace hT := hT.next b9
                                replace xC := xC.next b9
                                replace hL := hL.next b9
                                replace yB := yB.next b9
                                replace bb := bb.trans (b9.mono bb.size)
                                clear b9
                                replace oZ : OwnB w11 nq4 (.slice za nT zc) nT T := oZ
                                clear yB hT
                                by_cases hlast : q + 1 = M
                                · as_aux_lemma =>
                                    obtain rfl : true = Dn := by rw [← HEB.out, decide_eq_true hlast]
                                    have hOT : (O, T) = (false, []) := by rw [HO2.out]; unfold jAt; rw [if_pos hlast]
                                    obtain ⟨rfl, rfl⟩ := Prod.mk.inj hOT
                                    have hG : G = x := by rw [HG2.out, if_pos hlast]
                                    have hnT : 0 = nT := HnT.out
                                    subst hnT
                                    have hnG : n = nG := by rw [← HnG.out, hG, HN.out]
                                    subst hnG
                                    rw [hG] at hV
                                    clear hG hOT
                                    have yT := HTX.out.next bb
                                    have hlx := yT.lt
                                    have ctx := yT.cell
                                    have dk : decide (k < m) = true := decide_eq_true hlt
                                    have lx13 := x13.lt
                                    have cx130 := x13.cell 0 _ rfl
                                    have cx131 := x13.cell 1 _ rfl
                                    go_wp2_with fail
                                    refine (bytes_eq (.slice va n vc) (.slice xa n xc) x _ (by rw [HN.out]; omega) hV yT.held).mono ?_
                                    rintro e w12 ⟨rfl, b9⟩
                                    replace x7 := x7.next b9
                                    replace xC := xC.next b9
                                    replace hL := hL.next b9
                                    replace x13 := x13.next b9
                                    replace oZ := oZ.next b9
                                    replace hV := hV.next b9
                                    replace bb := bb.trans (b9.mono bb.size)
                                    clear b9
                                    clear cx130 cx131
                                    clear lx13
                                    clear ctx hlx yT
                                    have c30 := x7.cell 0 _ rfl
                                    have c31 := x7.cell 1 _ rfl
                                    have g30 := x7.free 0
                                    have g31 := x7.free 1
                                    have c80 := x13.cell 0 _ rfl
                                    have c81 := x13.cell 1 _ rfl
                                    have l3 := x7.lt
                                    have l8 := x13.lt
                                    have x7n := box_set2 x7 (.bool false) (.slice za 0 zc)
                                    have bbn := below_set2 bb (show w.heap.size ≤ BJ by have := HBJ2.out; omega) (.bool false) (.slice za 0 zc)
                                    have oZn := row_setNe2 oZ.row (row_neOld oZ.row HNQ2.out) (.bool false) (.slice za 0 zc)
                                    have oLn := ownSts_setOld2 hL HNQ.out (.bool false) (.slice za 0 zc)
                                    have xCn := box_other2J xC (show w.heap.size ≠ BJ by have := HBJ2.out; omega) (.bool false) (.slice za 0 zc)
                                    clear x7 oZ hL xC bb
                                    go_wp2
                                    exact ⟨⟨q + 1, false, [], 0, za, zc, hq, by go_num, HO2, oLn, Nat.zero_le _, (rfl : ([] : List Int).length = 0), (fun _ => rfl), x7n, holds_of_row oZn, xCn, bbn⟩, by simp [intOf]; omega⟩
                                · as_aux_lemma =>
                                    obtain rfl : false = Dn := by rw [← HEB.out, decide_eq_false hlast]
                                    have hO : O = true := by
                                      have h := HO2.out
                                      unfold jAt along at h
                                      rw [if_neg hlast, if_neg (by omega)] at h
                                      exact (Prod.mk.inj h).1
                                    subst hO
                                    have hG : G = [] := by rw [HG2.out, if_neg hlast]
                                    have hnG : 0 = nG := by rw [← HnG.out, hG]; rfl
                                    subst hnG
                                    clear hG
                                    have c30 := x7.cell 0 _ rfl
                                    have c31 := x7.cell 1 _ rfl
                                    have g30 := x7.free 0
                                    have g31 := x7.free 1
                                    have c80 := x13.cell 0 _ rfl
                                    have c81 := x13.cell 1 _ rfl
                                    have l3 := x7.lt
                                    have l8 := x13.lt
                                    have x7n := box_set2 x7 (.bool true) (.slice za nT zc)
                                    have bbn := below_set2 bb (show w.heap.size ≤ BJ by have := HBJ2.out; omega) (.bool true) (.slice za nT zc)
                                    have oZn := row_setNe2 oZ.row (row_neOld oZ.row HNQ2.out) (.bool true) (.slice za nT zc)
                                    have oLn := ownSts_setOld2 hL HNQ.out (.bool true) (.slice za nT zc)
                                    have xCn := box_other2J xC (show w.heap.size ≠ BJ by have := HBJ2.out; omega) (.bool true) (.slice za nT zc)
                                    clear x7 oZ hL xC bb
                                    go_wp2
                                    exact ⟨⟨q + 1, true, T, nT, za, zc, hq, by go_num, HO2, oLn, HLE.out.1, HnT, (fun h => by cases h), x7n, holds_of_row oZn, xCn, bbn⟩, by simp [intOf]; omega⟩

end Go.Proofs.Ytklmiapieaogdaa
