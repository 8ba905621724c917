/-
  The walk of CutAll. (Written by tpl_cutlaws.py.)
-/
import Derived.Test.YthpbiccgjpocaaaCutCode
import Derived.Test.YthpbiccgjpocaaaCutWakes
import Derived.Test.YthpbiccgjpocaaaKeepBytes
import Derived.Test.YthpbiccgjpocaaaRefConf
import Derived.Test.YthpbiccgjpocaaaBlockMake
import Derived.Test.YthpbiccgjpocaaaRegionHand
import Derived.Deep.Cut
import Derived.Deep.CutRange
import Derived.Deep.DeepCutAuto
namespace Go.Proofs.Ythpbiccgjpocaaa
open Go.RowKit

set_option maxRecDepth 100000 in
set_option maxHeartbeats 4000000 in
theorem cutAll_walk (c : Cfg) (s : Int) (a : Option Addr) (n cap : Nat) (msg : List Int) (hl : msg.length = n) (hc : n ≤ cap) (hn : n ≤ 9223372036854775807) (w : World) (ha : Holds .u8 w.heap.size w (.slice a n cap) msg) :
    Calls Try.prog 4 #[.agg #[.int .i64 c.cB, .int .i64 c.cBeam, .int .i64 c.cDepth, .int .i64 c.cWin, .int .i64 c.cQs, .int .i64 c.cQr, .int .i64 c.cBatch, .int .i64 c.cPass, .int .i64 c.cMsg, .int .i64 c.cSeqs], .int .i64 s, .slice a n cap] w fun e w' => e = .returned (.bool true) ∧ Below w.heap.size w w' := by
  have bb : Below w.heap.size w (w.alloc (.cells #[.int .i64 c.cB, .int .i64 c.cBeam, .int .i64 c.cDepth, .int .i64 c.cWin, .int .i64 c.cQs, .int .i64 c.cQr, .int .i64 c.cBatch, .int .i64 c.cPass, .int .i64 c.cMsg, .int .i64 c.cSeqs] 23)) := (Below.refl _ _).alloc (Nat.le_refl _) _
  have xC := Box.new w 23 #[.int .i64 c.cB, .int .i64 c.cBeam, .int .i64 c.cDepth, .int .i64 c.cWin, .int .i64 c.cQs, .int .i64 c.cQr, .int .i64 c.cBatch, .int .i64 c.cPass, .int .i64 c.cMsg, .int .i64 c.cSeqs]
  have k0 := xC.cell 0 _ rfl
  have k1 := xC.cell 1 _ rfl
  have k2 := xC.cell 2 _ rfl
  have k3 := xC.cell 3 _ rfl
  have k4 := xC.cell 4 _ rfl
  have k5 := xC.cell 5 _ rfl
  have k6 := xC.cell 6 _ rfl
  have k7 := xC.cell 7 _ rfl
  have k8 := xC.cell 8 _ rfl
  have k9 := xC.cell 9 _ rfl
  have H1 := refConfig_any c (w.alloc (.cells #[.int .i64 c.cB, .int .i64 c.cBeam, .int .i64 c.cDepth, .int .i64 c.cWin, .int .i64 c.cQs, .int .i64 c.cQr, .int .i64 c.cBatch, .int .i64 c.cPass, .int .i64 c.cMsg, .int .i64 c.cSeqs] 23))
  go_enter Try.func4, Try.ntmps4
  have HL : Hid (msg.length = n) := hl
  clear hl
  by_cases hC : okC c = true
  · rw [hC] at H1
    by_cases h1 : c.cMsg < (n : Int)
    · have d1 : decide (c.cMsg < (n : Int)) = true := decide_eq_true h1
      clear h1 ha
      go_wp2_with fail
      refine H1.mono ?_
      rintro e w1 ⟨rfl, b9⟩
      have q8 := (xC.next b9).cell 8 _ rfl
      go_wp2
      go_ret
      exact ⟨rfl, bb.trans (b9.mono bb.size)⟩
    have d1 : decide (c.cMsg < (n : Int)) = false := decide_eq_false h1
    by_cases h2 : s < 0
    · have d2 : decide (s < 0) = true := decide_eq_true h2
      clear h1 h2 ha
      go_wp2_with fail
      refine H1.mono ?_
      rintro e w1 ⟨rfl, b9⟩
      have q8 := (xC.next b9).cell 8 _ rfl
      go_wp2
      go_ret
      exact ⟨rfl, bb.trans (b9.mono bb.size)⟩
    have d2 : decide (s < 0) = false := decide_eq_false h2
    by_cases h3 : 1073741524 < s
    · have d3 : decide (1073741524 < s) = true := decide_eq_true h3
      clear h1 h2 h3 ha
      go_wp2_with fail
      refine H1.mono ?_
      rintro e w1 ⟨rfl, b9⟩
      have q8 := (xC.next b9).cell 8 _ rfl
      go_wp2
      go_ret
      exact ⟨rfl, bb.trans (b9.mono bb.size)⟩
    have d3 : decide (1073741524 < s) = false := decide_eq_false h3
    obtain ⟨B, hB⟩ : ∃ B : Nat, c.cB = (B : Int) := ⟨c.cB.toNat, by have := (okC_iff c).1 hC; omega⟩
    obtain ⟨M, hM⟩ : ∃ M, blocksN B n = M := ⟨_, rfl⟩
    have HBM : Hid (1 ≤ B ∧ B ≤ 16 ∧ n ≤ 200 ∧ 1 ≤ M ∧ M ≤ 200) := by
      show 1 ≤ B ∧ B ≤ 16 ∧ n ≤ 200 ∧ 1 ≤ M ∧ M ≤ 200
      obtain ⟨g1, _, _, _, _, _, _, _, g9, _⟩ := (okC_iff c).1 hC
      have := blocksC_bd hC (n := n) (by omega) (by omega)
      rw [blocks_nat hB n M hM (by omega)] at this
      omega
    have HB : Hid (c.cB = (B : Int)) := hB
    have HM : Hid (blocksN B n = M) := hM
    have hs0 : 0 ≤ s := by omega
    have hs1 : s ≤ 1073741524 := by omega
    have HCM : Hid ((n : Int) ≤ c.cMsg) := (by omega : (n : Int) ≤ c.cMsg)
    clear hB hM h1 h2 h3
    go_wp2_with fail
    refine H1.mono ?_
    rintro e w1 ⟨rfl, b9⟩
    replace ha := ha.next bb
    clear H1 k0 k1 k2 k3 k4 k5 k6 k7 k8 k9
    replace xC := xC.next b9
    replace ha := ha.next b9
    replace bb := bb.trans (b9.mono bb.size)
    clear b9
    have cxC0 := xC.cell 0 _ rfl
    have cxC1 := xC.cell 1 _ rfl
    have cxC2 := xC.cell 2 _ rfl
    have cxC3 := xC.cell 3 _ rfl
    have cxC4 := xC.cell 4 _ rfl
    have cxC5 := xC.cell 5 _ rfl
    have cxC6 := xC.cell 6 _ rfl
    have cxC7 := xC.cell 7 _ rfl
    have cxC8 := xC.cell 8 _ rfl
    have cxC9 := xC.cell 9 _ rfl
    go_wp2_with fail
    refine (Cut_ok c s a n cap hC HCM.out hc msg HL.out B M HB.out HM.out hs0 (by have := HBM.out; omega) _ ha).mono ?_
    rintro e w2 ⟨v, rfl, hv, b9⟩
    clear cxC0 cxC1 cxC2 cxC3 cxC4 cxC5 cxC6 cxC7 cxC8 cxC9
    replace xC := xC.next b9
    replace ha := ha.next b9
    replace bb := bb.trans (b9.mono bb.size)
    clear b9
    obtain ⟨va, vc, hvs⟩ := hv.rows.shape
    rw [cutL_len] at hvs
    subst hvs
    replace hv := hv.rows
    have HCB := ConfBlocks_any c n w2
    have eB : blocksA c n = (M : Int) := by
      obtain ⟨g1, _, _, _, _, _, _, _, g9, _⟩ := (okC_iff c).1 hC
      have g0 := HBM.out
      unfold blocksA
      rw [if_pos ⟨hC, by omega, by omega⟩]
      exact blocks_nat HB.out n M HM.out g0.1
    rw [eB] at HCB
    clear eB
    have hbM : ((M : Int) != (M : Int)) = false := by simp
    have d4 : decide ((M : Int) < 1) = false := decide_eq_false (by have := HBM.out; omega)
    have d4n : decide (M < 1) = false := decide_eq_false (by have := HBM.out; omega)
    have cxC0 := xC.cell 0 _ rfl
    have cxC1 := xC.cell 1 _ rfl
    have cxC2 := xC.cell 2 _ rfl
    have cxC3 := xC.cell 3 _ rfl
    have cxC4 := xC.cell 4 _ rfl
    have cxC5 := xC.cell 5 _ rfl
    have cxC6 := xC.cell 6 _ rfl
    have cxC7 := xC.cell 7 _ rfl
    have cxC8 := xC.cell 8 _ rfl
    have cxC9 := xC.cell 9 _ rfl
    go_wp2_with fail
    refine (HCB).mono ?_
    rintro e w3 ⟨rfl, b9⟩
    clear cxC0 cxC1 cxC2 cxC3 cxC4 cxC5 cxC6 cxC7 cxC8 cxC9
    replace xC := xC.next b9
    replace ha := ha.next b9
    replace hv := hv.next b9
    replace bb := bb.trans (b9.mono bb.size)
    clear b9
    rw [HB.out] at xC
    have hM200 : M ≤ 200 := HBM.out.2.2.2.2
    go_wp2_with fail
    go_loopw [9, 10] (fun v i wr => ∃ (k m : Nat), k ≤ M ∧ i = .int .i64 (k : Int) ∧ Hid (m = (msg.take (k * B)).length) ∧ wr.ownsRow w3.heap.size 5 1 v m ((msg.take (k * B)).map (Value.int .u8)) ∧ Below w3.heap.size w3 wr) (fun _ i _ => M - (intOf i).toNat)
    case atStart => exact ⟨0, 0, Nat.zero_le _, rfl, (by show 0 = (msg.take (0 * B)).length; simp), (by simpa using World.ownsRow_nil _ _ _ _), Below.refl _ _⟩
    case round =>
      obtain ⟨k, m, hk, rfl, Hm, hrow, bw⟩ := hrel
      by_cases hlt : k < M
      ·
        have yC := xC.below bw xC.lt
        have hvw := hv.below bw
        obtain ⟨gb, off, rfl, hgb, hcs⟩ := blks_at hvw (by rw [cutL_len]; omega)
        obtain ⟨p, hp, c0, c1, c2⟩ := hcs k _ (cutL_get hlt)
        obtain ⟨pa, pc, rfl⟩ : ∃ pa pc, p = .slice pa (textK B msg k).length pc := hp.shape
        simp only at c0 c1 c2 hp
        obtain ⟨X, hX⟩ : ∃ X, textK B msg k = X := ⟨_, rfl⟩
        rw [hX] at c2 hp
        obtain ⟨x, hx⟩ : ∃ x, X.length = x := ⟨_, rfl⟩
        rw [hx] at c2 hp
        obtain ⟨mk, hmk⟩ : ∃ mk, markK M k = mk := ⟨_, rfl⟩
        rw [hmk] at c1
        have HX : Hid (textK B msg k = X ∧ X.length = x) := ⟨hX, hx⟩
        have HXB : Hid (x ≤ B ∧ (k + 1 < M → x = B)) := ⟨by rw [← hx, ← hX]; exact textK_le _ _ _, fun h => by rw [← hx, ← hX]; exact textK_whole HBM.out.1 (by rw [HL.out, HM.out]; exact h)⟩
        have HCK : Hid (errB (B : Int) (s + (k : Int)) mk x = 0) := by
          have h0 := HBM.out
          have := (right_iff B (s + (k : Int)) (markK M k) (textK B msg k)).2 (by
            have h1 := cut_right (B := B) h0.1 h0.2.1 (msg := msg) (s := s) hs0 (by rw [HL.out, HM.out]; omega) (i := k) (by rw [HL.out, HM.out]; exact hlt)
            rwa [HL.out, HM.out] at h1)
          rw [hX, hx, hmk] at this
          exact this
        have hmk2 : mk = (if k = 0 then 1 else 0) + (if k + 1 = M then 2 else 0) := hmk.symm
        have HMK : Hid (mk = (if k = 0 then 1 else 0) + (if k + 1 = M then 2 else 0)) := hmk2
        clear hX hx hmk hmk2 hcs hvw
        go_upto_if 60 with fail
        go_cut [11] (fun v wx => v = .int .i64 (if k = 0 then 1 else 0) ∧ wx = wr)
        case first =>
          by_cases h0 : k = 0
          · have d5 : ((k : Int) == 0) = true := by simp; omega
            have H0 : Hid (k = 0) := h0
            clear h0
            go_wp2_with fail
            go_meet
            exact ⟨by rw [if_pos H0.out], rfl⟩
          · have d5 : ((k : Int) == 0) = false := by simp; omega
            have H0 : Hid (¬ k = 0) := h0
            clear h0
            go_wp2_with fail
            go_meet
            exact ⟨by rw [if_neg H0.out], rfl⟩
        case rest =>
          obtain ⟨rfl, rfl⟩ := hcut
          obtain ⟨q1, hq1⟩ : ∃ q1 : Int, (if k = 0 then (1 : Int) else 0) = q1 := ⟨_, rfl⟩
          have hq1b : 0 ≤ q1 ∧ q1 ≤ 1 := by rw [← hq1]; split <;> omega
          have HQ1 : Hid ((if k = 0 then (1 : Int) else 0) = q1) := hq1
          rw [hq1]
          clear hq1
          go_upto_if 65 with fail
          go_cut [11] (fun v wx => v = .int .i64 mk ∧ wx = wc)
          case first =>
            by_cases h0 : k + 1 = M
            · have d5 : ((k : Int) == (M : Int) - 1) = true := by simp; omega
              have e5 : mk = q1 + 2 := by rw [HMK.out, HQ1.out, if_pos h0]
              subst e5
              clear h0
              go_wp2_with fail
              go_meet
              exact ⟨rfl, rfl⟩
            · have d5 : ((k : Int) == (M : Int) - 1) = false := by simp; omega
              have e5 : mk = q1 := by rw [HMK.out, HQ1.out, if_neg h0]; omega
              subst e5
              clear h0
              go_wp2_with fail
              go_meet
              exact ⟨rfl, rfl⟩
          case rest =>
            obtain ⟨rfl, rfl⟩ := hcut
            generalize wc = w4 at *
            have hwl : w.heap.size < w4.heap.size := yC.lt
            have hgl : gb < w4.heap.size := Nat.lt_of_lt_of_le hgb bw.size
            have y0 := yC.cell 0 _ rfl
            have wsk : IntKind.i64.wrap (s + (k : Int)) = s + (k : Int) := wraps_i64 _ (by omega) (by omega)
            have wM1 : IntKind.i64.wrap ((M : Int) - 1) = (M : Int) - 1 := wraps_i64 _ (by have := HBM.out; omega) (by omega)
            have dk : decide (k < M) = true := decide_eq_true hlt
            have e6 : ((s + (k : Int)) != (s + (k : Int))) = false := by simp
            have e7 : (mk != mk) = false := by simp
            have HC5 : Hid (∀ wx : World, Below w4.heap.size w4 wx → Calls Try.prog 15 #[.int .i64 (B : Int), .agg #[.int .i64 (s + (k : Int)), .int .i64 mk, .slice pa x pc]] wx fun e w' => e = .returned (.int .i64 0) ∧ Below w4.heap.size w4 w') := fun wx hx => by
              have := Check_any (B : Int) (s + (k : Int)) mk pa x pc wx
              rw [HCK.out] at this
              exact this.mono fun e w' ⟨h, b⟩ => ⟨h, hx.trans (b.mono hx.size)⟩
            go_upto_region 15 with fail
            go_cut [113] (fun v wx => v = .bool false ∧ Below w4.heap.size w4 wx)
            case first =>
              by_cases hkl : k + 1 < M
              · have dq : decide ((k : Int) < (M : Int) - 1) = true := decide_eq_true (by omega)
                have ex : ((x : Int) != (B : Int)) = false := by have := HXB.out.2 hkl; simp [this]
                clear hkl
                refine wp_region_held_drew (S := fun w' => Below w4.heap.size w4 w') (by kernel_rfl) ((Below.refl _ _).drew) (fun hHeld => ?_)
                refine ht0 0 68 (v := ?v1) (fun _ => ?y1) hHeld ?_
                case y1 => go_simp; with_reducible rfl
                simp only [sn]
                refine ht0 1 69 (v := ?v2) (fun _ => ?y2) hHeld ?_
                case y2 => go_simp; with_reducible rfl
                simp only [sn]
                refine ht0 2 70 (v := ?v3) (fun _ => ?y3) hHeld ?_
                case y3 => go_simp; with_reducible rfl
                simp only [sn]
                refine ht0 3 71 (v := ?v4) (fun _ => ?y4) hHeld ?_
                case y4 => go_simp; with_reducible rfl
                simp only [sn]
                refine ht 4 72 (v := ?v5) (fun _ hSw => ?y5) hHeld ?_
                case y5 => have q0 := hSw.at c0 hgl; clear hSw; go_simp; with_reducible rfl
                simp only [sn]
                refine ht0 5 73 (v := ?v6) (fun _ => ?y6) hHeld ?_
                case y6 => go_simp; with_reducible rfl
                simp only [sn]
                refine ht0 6 74 (v := ?v7) (fun _ => ?y7) hHeld ?_
                case y7 => go_simp; with_reducible rfl
                simp only [sn]
                refine ht0 7 75 (v := ?v8) (fun _ => ?y8) hHeld ?_
                case y8 => go_simp; with_reducible rfl
                simp only [sn]
                refine ht0 8 76 (v := ?v9) (fun _ => ?y9) hHeld ?_
                case y9 => go_simp; with_reducible rfl
                simp only [sn]
                refine ht0 9 77 (v := ?v10) (fun _ => ?y10) hHeld ?_
                case y10 => go_simp; with_reducible rfl
                simp only [sn]
                refine ht0 10 78 (v := ?v11) (fun _ => ?y11) hHeld ?_
                case y11 => go_simp; with_reducible rfl
                simp only [sn]
                refine ht0 11 79 (v := ?v12) (fun _ => ?y12) hHeld ?_
                case y12 => go_simp; with_reducible rfl
                simp only [sn]
                refine ht0 12 80 (v := ?v13) (fun _ => ?y13) hHeld ?_
                case y13 => go_simp; with_reducible rfl
                simp only [sn]
                refine ht0 13 81 (v := ?v14) (fun _ => ?y14) hHeld ?_
                case y14 => go_simp; with_reducible rfl
                simp only [sn]
                refine ht 14 82 (v := ?v15) (fun _ hSw => ?y15) hHeld ?_
                case y15 => have q0 := hSw.at c1 hgl; clear hSw; go_simp; with_reducible rfl
                simp only [sn]
                refine ht0 15 83 (v := ?v16) (fun _ => ?y16) hHeld ?_
                case y16 => go_simp; with_reducible rfl
                simp only [sn]
                refine ht0 16 84 (v := ?v17) (fun _ => ?y17) hHeld ?_
                case y17 => go_simp; with_reducible rfl
                simp only [sn]
                refine ht0 17 85 (v := ?v18) (fun _ => ?y18) hHeld ?_
                case y18 => go_simp; with_reducible rfl
                simp only [sn]
                refine ht0 18 86 (v := ?v19) (fun _ => ?y19) hHeld ?_
                case y19 => go_simp; with_reducible rfl
                simp only [sn]
                refine ht0 19 87 (v := ?v20) (fun _ => ?y20) hHeld ?_
                case y20 => go_simp; with_reducible rfl
                simp only [sn]
                refine ht 20 88 (v := ?v21) (fun _ hSw => ?y21) hHeld ?_
                case y21 => have q0 := hSw.at y0 hwl; clear hSw; go_simp; with_reducible rfl
                simp only [sn]
                refine ht0 21 89 (v := ?v22) (fun _ => ?y22) hHeld ?_
                case y22 => go_simp; with_reducible rfl
                simp only [sn]
                refine ht0 22 90 (v := ?v23) (fun _ => ?y23) hHeld ?_
                case y23 => go_simp; with_reducible rfl
                simp only [sn]
                refine ht0 23 91 (v := ?v24) (fun _ => ?y24) hHeld ?_
                case y24 => go_simp; with_reducible rfl
                simp only [sn]
                refine ht 24 92 (v := ?v25) (fun _ hSw => ?y25) hHeld ?_
                case y25 => have q0 := hSw.at c0 hgl; have q1 := hSw.at c1 hgl; have q2 := hSw.at c2 hgl; clear hSw; go_simp; with_reducible rfl
                simp only [sn]
                refine wpAnyH_ready (rs := [25]) (by kernel_rfl) (by simp) ?_
                refine AllReadyH.cons rfl (fun K hK => ?_) AllReadyH.nil
                go_simp
                go_wp2_with (go_at_call 15; refine (HC5.out _ (by exact hHeld)).mono ?_; rintro e wb ⟨rfl, b8⟩)
                refine hK.out _ _ (b8) (fun hHeld => ?_)
                clear hK K
                refine ht0 26 94 (v := ?v26) (fun _ => ?y26) hHeld ?_
                case y26 => go_simp; with_reducible rfl
                simp only [sn]
                refine ht0 27 95 (v := ?v27) (fun _ => ?y27) hHeld ?_
                case y27 => go_simp; with_reducible rfl
                simp only [sn]
                refine ht0 28 96 (v := ?v28) (fun _ => ?y28) hHeld ?_
                case y28 => go_simp; with_reducible rfl
                simp only [sn]
                refine ht0 29 97 (v := ?v29) (fun _ => ?y29) hHeld ?_
                case y29 => go_simp; with_reducible rfl
                simp only [sn]
                refine ht0 30 98 (v := ?v30) (fun _ => ?y30) hHeld ?_
                case y30 => go_simp; with_reducible rfl
                simp only [sn]
                refine ht0 31 99 (v := ?v31) (fun _ => ?y31) hHeld ?_
                case y31 => go_simp; with_reducible rfl
                simp only [sn]
                refine ht0 32 100 (v := ?v32) (fun _ => ?y32) hHeld ?_
                case y32 => go_simp; with_reducible rfl
                simp only [sn]
                refine ht0 33 101 (v := ?v33) (fun _ => ?y33) hHeld ?_
                case y33 => go_simp; with_reducible rfl
                simp only [sn]
                refine ht0 34 102 (v := ?v34) (fun _ => ?y34) hHeld ?_
                case y34 => go_simp; with_reducible rfl
                simp only [sn]
                refine ht0 35 103 (v := ?v35) (fun _ => ?y35) hHeld ?_
                case y35 => go_simp; with_reducible rfl
                simp only [sn]
                refine ht0 36 104 (v := ?v36) (fun _ => ?y36) hHeld ?_
                case y36 => go_simp; with_reducible rfl
                simp only [sn]
                refine ht0 37 105 (v := ?v37) (fun _ => ?y37) hHeld ?_
                case y37 => go_simp; with_reducible rfl
                simp only [sn]
                refine ht0 38 106 (v := ?v38) (fun _ => ?y38) hHeld ?_
                case y38 => go_simp; with_reducible rfl
                simp only [sn]
                refine ht 39 107 (v := ?v39) (fun _ hSw => ?y39) hHeld ?_
                case y39 => have q0 := hSw.at c2 hgl; clear hSw; go_simp; with_reducible rfl
                simp only [sn]
                refine ht0 40 108 (v := ?v40) (fun _ => ?y40) hHeld ?_
                case y40 => go_simp; with_reducible rfl
                simp only [sn]
                refine ht0 41 109 (v := ?v41) (fun _ => ?y41) hHeld ?_
                case y41 => go_simp; with_reducible rfl
                simp only [sn]
                refine ht 42 110 (v := ?v42) (fun _ hSw => ?y42) hHeld ?_
                case y42 => have q0 := hSw.at y0 hwl; clear hSw; go_simp; with_reducible rfl
                simp only [sn]
                refine ht0 43 111 (v := ?v43) (fun _ => ?y43) hHeld ?_
                case y43 => go_simp; with_reducible rfl
                simp only [sn]
                refine ht0 44 112 (v := ?v44) (fun _ => ?y44) hHeld ?_
                case y44 => go_simp; with_reducible rfl
                simp only [sn]
                refine wpAnyH_ready (rs := [45]) (by kernel_rfl) (by simp) ?_
                refine AllReadyH.cons rfl (fun K hK => ?_) AllReadyH.nil
                go_simp
                refine hK.out _ _ hHeld (fun hHeld => ?_)
                clear hK K
                refine wpAnyH_done (by kernel_rfl) ?_ _
                go_wp2_with fail
                go_meet
                exact ⟨rfl, hHeld⟩
              · have dq : decide ((k : Int) < (M : Int) - 1) = false := decide_eq_false (by omega)
                clear hkl
                refine wp_region_held_drew (S := fun w' => Below w4.heap.size w4 w') (by kernel_rfl) ((Below.refl _ _).drew) (fun hHeld => ?_)
                refine ht0 0 68 (v := ?v45) (fun _ => ?y45) hHeld ?_
                case y45 => go_simp; with_reducible rfl
                simp only [sn]
                refine ht0 1 69 (v := ?v46) (fun _ => ?y46) hHeld ?_
                case y46 => go_simp; with_reducible rfl
                simp only [sn]
                refine ht0 2 70 (v := ?v47) (fun _ => ?y47) hHeld ?_
                case y47 => go_simp; with_reducible rfl
                simp only [sn]
                refine ht0 3 71 (v := ?v48) (fun _ => ?y48) hHeld ?_
                case y48 => go_simp; with_reducible rfl
                simp only [sn]
                refine ht 4 72 (v := ?v49) (fun _ hSw => ?y49) hHeld ?_
                case y49 => have q0 := hSw.at c0 hgl; clear hSw; go_simp; with_reducible rfl
                simp only [sn]
                refine ht0 5 73 (v := ?v50) (fun _ => ?y50) hHeld ?_
                case y50 => go_simp; with_reducible rfl
                simp only [sn]
                refine ht0 6 74 (v := ?v51) (fun _ => ?y51) hHeld ?_
                case y51 => go_simp; with_reducible rfl
                simp only [sn]
                refine ht0 7 75 (v := ?v52) (fun _ => ?y52) hHeld ?_
                case y52 => go_simp; with_reducible rfl
                simp only [sn]
                refine ht0 8 76 (v := ?v53) (fun _ => ?y53) hHeld ?_
                case y53 => go_simp; with_reducible rfl
                simp only [sn]
                refine ht0 9 77 (v := ?v54) (fun _ => ?y54) hHeld ?_
                case y54 => go_simp; with_reducible rfl
                simp only [sn]
                refine ht0 10 78 (v := ?v55) (fun _ => ?y55) hHeld ?_
                case y55 => go_simp; with_reducible rfl
                simp only [sn]
                refine ht0 11 79 (v := ?v56) (fun _ => ?y56) hHeld ?_
                case y56 => go_simp; with_reducible rfl
                simp only [sn]
                refine ht0 12 80 (v := ?v57) (fun _ => ?y57) hHeld ?_
                case y57 => go_simp; with_reducible rfl
                simp only [sn]
                refine ht0 13 81 (v := ?v58) (fun _ => ?y58) hHeld ?_
                case y58 => go_simp; with_reducible rfl
                simp only [sn]
                refine ht 14 82 (v := ?v59) (fun _ hSw => ?y59) hHeld ?_
                case y59 => have q0 := hSw.at c1 hgl; clear hSw; go_simp; with_reducible rfl
                simp only [sn]
                refine ht0 15 83 (v := ?v60) (fun _ => ?y60) hHeld ?_
                case y60 => go_simp; with_reducible rfl
                simp only [sn]
                refine ht0 16 84 (v := ?v61) (fun _ => ?y61) hHeld ?_
                case y61 => go_simp; with_reducible rfl
                simp only [sn]
                refine ht0 17 85 (v := ?v62) (fun _ => ?y62) hHeld ?_
                case y62 => go_simp; with_reducible rfl
                simp only [sn]
                refine ht0 18 86 (v := ?v63) (fun _ => ?y63) hHeld ?_
                case y63 => go_simp; with_reducible rfl
                simp only [sn]
                refine ht0 19 87 (v := ?v64) (fun _ => ?y64) hHeld ?_
                case y64 => go_simp; with_reducible rfl
                simp only [sn]
                refine ht 20 88 (v := ?v65) (fun _ hSw => ?y65) hHeld ?_
                case y65 => have q0 := hSw.at y0 hwl; clear hSw; go_simp; with_reducible rfl
                simp only [sn]
                refine ht0 21 89 (v := ?v66) (fun _ => ?y66) hHeld ?_
                case y66 => go_simp; with_reducible rfl
                simp only [sn]
                refine ht0 22 90 (v := ?v67) (fun _ => ?y67) hHeld ?_
                case y67 => go_simp; with_reducible rfl
                simp only [sn]
                refine ht0 23 91 (v := ?v68) (fun _ => ?y68) hHeld ?_
                case y68 => go_simp; with_reducible rfl
                simp only [sn]
                refine ht 24 92 (v := ?v69) (fun _ hSw => ?y69) hHeld ?_
                case y69 => have q0 := hSw.at c0 hgl; have q1 := hSw.at c1 hgl; have q2 := hSw.at c2 hgl; clear hSw; go_simp; with_reducible rfl
                simp only [sn]
                refine wpAnyH_ready (rs := [25]) (by kernel_rfl) (by simp) ?_
                refine AllReadyH.cons rfl (fun K hK => ?_) AllReadyH.nil
                go_simp
                go_wp2_with (go_at_call 15; refine (HC5.out _ (by exact hHeld)).mono ?_; rintro e wb ⟨rfl, b8⟩)
                refine hK.out _ _ (b8) (fun hHeld => ?_)
                clear hK K
                refine ht0 26 94 (v := ?v70) (fun _ => ?y70) hHeld ?_
                case y70 => go_simp; with_reducible rfl
                simp only [sn]
                refine ht0 27 95 (v := ?v71) (fun _ => ?y71) hHeld ?_
                case y71 => go_simp; with_reducible rfl
                simp only [sn]
                refine ht0 28 96 (v := ?v72) (fun _ => ?y72) hHeld ?_
                case y72 => go_simp; with_reducible rfl
                simp only [sn]
                refine ht0 29 97 (v := ?v73) (fun _ => ?y73) hHeld ?_
                case y73 => go_simp; with_reducible rfl
                simp only [sn]
                refine ht0 30 98 (v := ?v74) (fun _ => ?y74) hHeld ?_
                case y74 => go_simp; with_reducible rfl
                simp only [sn]
                refine ht0 31 99 (v := ?v75) (fun _ => ?y75) hHeld ?_
                case y75 => go_simp; with_reducible rfl
                simp only [sn]
                refine ht0 32 100 (v := ?v76) (fun _ => ?y76) hHeld ?_
                case y76 => go_simp; with_reducible rfl
                simp only [sn]
                refine ht0 33 101 (v := ?v77) (fun _ => ?y77) hHeld ?_
                case y77 => go_simp; with_reducible rfl
                simp only [sn]
                refine ht0 34 102 (v := ?v78) (fun _ => ?y78) hHeld ?_
                case y78 => go_simp; with_reducible rfl
                simp only [sn]
                refine hu 35 103 hHeld ?_
                simp only [sn]
                refine hu 36 104 hHeld ?_
                simp only [sn]
                refine hu 37 105 hHeld ?_
                simp only [sn]
                refine hu 38 106 hHeld ?_
                simp only [sn]
                refine hu 39 107 hHeld ?_
                simp only [sn]
                refine hu 40 108 hHeld ?_
                simp only [sn]
                refine hu 41 109 hHeld ?_
                simp only [sn]
                refine hu 42 110 hHeld ?_
                simp only [sn]
                refine hu 43 111 hHeld ?_
                simp only [sn]
                refine ht0 44 112 (v := ?v79) (fun _ => ?y79) hHeld ?_
                case y79 => go_simp; with_reducible rfl
                simp only [sn]
                refine wpAnyH_ready (rs := [45]) (by kernel_rfl) (by simp) ?_
                refine AllReadyH.cons rfl (fun K hK => ?_) AllReadyH.nil
                go_simp
                refine hK.out _ _ hHeld (fun hHeld => ?_)
                clear hK K
                refine wpAnyH_done (by kernel_rfl) ?_ _
                go_wp2_with fail
                go_meet
                exact ⟨rfl, hHeld⟩
            case rest =>
              obtain ⟨rfl, hb5⟩ := hcut
              generalize wc = w5 at *
              have e2 := hb5.at c2 hgl
              have hr5 := row_below hrow hb5 (Nat.le_refl _)
              have hp5 := (hp.below (hb5.mono bw.size)).mono (show _ ≤ w5.heap.size from Nat.le_trans bw.size hb5.size)
              obtain ⟨v6, w6, hr6, ho6, hg6⟩ := run_append_u8 _ (.slice pa x pc) m w3.heap.size _ _ X 24 w5 hr5 hp5 (Nat.le_trans bw.size hb5.size) (by have h1 := Hm.out; have h2 := HBM.out; have h3 := HL.out; rw [List.length_take] at h1; omega) (by have h1 := HXB.out.1; have h2 := HBM.out; have h3 := HX.out.2; omega)
              have b6 : Below w3.heap.size w3 w6 := (bw.trans (hb5.mono bw.size)).grown hg6 (Nat.le_trans bw.size hb5.size) (fun q e => (hr5.lt q e).1)
              have HR : Hid _ := hr6
              have HE6 : Hid (msg.take (k * B) ++ X = msg.take ((k + 1) * B)) := by
                show msg.take (k * B) ++ X = msg.take ((k + 1) * B)
                rw [← HX.out.1, Nat.add_mul, Nat.one_mul, List.take_add]
                rfl
              rw [HE6.out, HX.out.2] at ho6
              have Hm6 : Hid (m + x = (msg.take ((k + 1) * B)).length) := by
                show m + x = (msg.take ((k + 1) * B)).length
                rw [← HE6.out, List.length_append, ← Hm.out, HX.out.2]
              clear hr6 hr5 hp5 hg6 hrow c0 c1 c2 hp y0 yC
              go_wp2_with (at_builtin; refine wpList_append_k rfl _ _ 24 rfl _ _ rfl rfl _ _ HR.out ?_)
              exact ⟨⟨k + 1, m + x, hlt, by go_num, Hm6, ho6, b6⟩, by simp [intOf]; omega⟩
      · obtain rfl : k = M := by omega
        have e1 : msg.take (k * B) = msg := List.take_of_length_le (by rw [HL.out, ← HM.out]; exact (blocksN_bd HBM.out.1).2.1)
        rw [e1] at hrow Hm
        have e2 : m = n := by rw [Hm.out, HL.out]
        subst e2
        have ho := holds_of_row hrow
        obtain ⟨oa, oc, rfl⟩ := row_shapeB hrow
        have ha9 := ha.below bw
        have hb9 := bb.trans (bw.mono bb.size)
        clear hrow hv xC
        go_wp2_with fail
        refine (bytes_any (.slice oa m oc) (.slice a m cap) msg msg _ _ _ (by have := HBM.out; rw [HL.out]; omega) ho ha9).mono ?_
        rintro e wx ⟨rfl, q, rfl⟩
        rw [decide_eq_true (rfl : msg = msg)]
        go_wp2_with fail
        refine (cutWakes_any _).mono ?_
        rintro e w99 ⟨rfl, b99⟩
        go_wp2
        go_ret
        exact ⟨rfl, (below_drewN hb9 q).trans (b99.mono (below_drewN hb9 q).size)⟩
  · rw [show okC c = false by simpa using hC] at H1
    clear ha
    go_wp2_with fail
    refine H1.mono ?_
    rintro e w1 ⟨rfl, b9⟩
    go_wp2
    go_ret
    exact ⟨rfl, bb.trans (b9.mono bb.size)⟩

end Go.Proofs.Ythpbiccgjpocaaa
