/-
  The walk of CutSides. (Written by tpl_cutlaws.py.)
-/
import Derived.Test.YthpbiccgjpocaaaCutCode
import Derived.Test.YthpbiccgjpocaaaCutWakes
import Derived.Test.YthpbiccgjpocaaaKeepBytes
import Derived.Test.YthpbiccgjpocaaaRefConf
import Derived.Test.YthpbiccgjpocaaaRegionHand
import Derived.Test.YthpbiccgjpocaaaModNums
import Derived.Deep.Cut
import Derived.Deep.CutRange
import Derived.Deep.DeepCutAuto
namespace Go.Proofs.Ythpbiccgjpocaaa
open Go.RowKit

/-- The first F bytes that are held; those from F on. -/
theorem holds_take_u8 {n₀ n cap F : Nat} {W : World} {a : Option Addr} {msg : List Int} (h : Holds .u8 n₀ W (.slice a n cap) msg) (hl : msg.length = n) (h0 : 0 < F) (hF : F ≤ n) : Holds .u8 n₀ W (.slice a F cap) (msg.take F) := by
  rcases h with ⟨_, e⟩ | ⟨b, off, c, e, h1, h2⟩
  · rw [e] at hl; simp at hl; omega
  · cases e
    refine .inr ⟨b, off, cap, by rw [List.length_take, hl, Nat.min_eq_left hF], h1, fun j hj => ?_⟩
    rw [List.length_take] at hj
    rw [h2 j (by omega), List.getElem?_take, if_pos (by omega)]
theorem holds_drop_u8 {n₀ n cap F : Nat} {W : World} {a : Option Addr} {msg : List Int} (h : Holds .u8 n₀ W (.slice a n cap) msg) (hl : msg.length = n) (hF : F < n) : Holds .u8 n₀ W (.slice (a.map fun x => x.add F) (n - F) (cap - F)) (msg.drop F) := by
  rcases h with ⟨_, e⟩ | ⟨b, off, c, e, h1, h2⟩
  · rw [e] at hl; simp at hl; omega
  · cases e
    refine .inr ⟨b, off + F, cap - F, by rw [Option.map_some, Go.WideShapes.add_plain, List.length_drop, hl], h1, fun j hj => ?_⟩
    rw [List.length_drop] at hj
    rw [Nat.add_assoc, h2 (F + j) (by omega), List.getElem?_drop]

set_option maxRecDepth 100000 in
set_option maxHeartbeats 8000000 in
theorem cutSides_walk (c : Cfg) (a : Option Addr) (n cap : Nat) (z s0 : Int) (msg : List Int) (hl : msg.length = n) (hc : n ≤ cap) (hn : n ≤ 9223372036854775807) (w : World) (ha : Holds .u8 w.heap.size w (.slice a n cap) msg) :
    Calls Try.prog 5 #[.agg #[.int .i64 c.cB, .int .i64 c.cBeam, .int .i64 c.cDepth, .int .i64 c.cWin, .int .i64 c.cQs, .int .i64 c.cQr, .int .i64 c.cBatch, .int .i64 c.cPass, .int .i64 c.cMsg, .int .i64 c.cSeqs], .slice a n cap, .int .i64 z, .int .i64 s0] w fun e w' => e = .returned (.bool true) ∧ Below w.heap.size w w' := by
  have bb : Below w.heap.size w (w.alloc (.cells #[.int .i64 c.cB, .int .i64 c.cBeam, .int .i64 c.cDepth, .int .i64 c.cWin, .int .i64 c.cQs, .int .i64 c.cQr, .int .i64 c.cBatch, .int .i64 c.cPass, .int .i64 c.cMsg, .int .i64 c.cSeqs] 23)) := (Below.refl _ _).alloc (Nat.le_refl _) _
  have xC := Box.new w 23 #[.int .i64 c.cB, .int .i64 c.cBeam, .int .i64 c.cDepth, .int .i64 c.cWin, .int .i64 c.cQs, .int .i64 c.cQr, .int .i64 c.cBatch, .int .i64 c.cPass, .int .i64 c.cMsg, .int .i64 c.cSeqs]
  have k0 := xC.cell 0 _ rfl
  have k1 := xC.cell 1 _ rfl
  have k2 := xC.cell 2 _ rfl
  have k3 := xC.cell 3 _ rfl
  have k4 := xC.cell 4 _ rfl
  have k5 := xC.cell 5 _ rfl
  have k6 := xC.cell 6 _ rfl
  have k7 := xC.cell 7 _ rfl
  have k8 := xC.cell 8 _ rfl
  have k9 := xC.cell 9 _ rfl
  have H1 := refConfig_any c (w.alloc (.cells #[.int .i64 c.cB, .int .i64 c.cBeam, .int .i64 c.cDepth, .int .i64 c.cWin, .int .i64 c.cQs, .int .i64 c.cQr, .int .i64 c.cBatch, .int .i64 c.cPass, .int .i64 c.cMsg, .int .i64 c.cSeqs] 23))
  go_enter Try.func5, Try.ntmps5
  have HL : Hid (msg.length = n) := hl
  clear hl
  by_cases hC : okC c = true
  · rw [hC] at H1
    by_cases h1 : c.cMsg < (n : Int)
    · have d1 : decide (c.cMsg < (n : Int)) = true := decide_eq_true h1
      clear h1 ha
      go_wp2_with fail
      refine H1.mono ?_
      rintro e w1 ⟨rfl, b9⟩
      have q8 := (xC.next b9).cell 8 _ rfl
      go_wp2
      go_ret
      exact ⟨rfl, bb.trans (b9.mono bb.size)⟩
    have d1 : decide (c.cMsg < (n : Int)) = false := decide_eq_false h1
    have hCB : 1 ≤ c.cB ∧ c.cB ≤ 16 := ((okC_iff c).1 hC).1
    by_cases h2 : (n : Int) < 2 * c.cB
    · have d2 : decide ((n : Int) < 2 * c.cB) = true := decide_eq_true h2
      clear h1 h2 ha
      go_wp2_with fail
      refine H1.mono ?_
      rintro e w1 ⟨rfl, b9⟩
      have q8 := (xC.next b9).cell 8 _ rfl
      have q0 := (xC.next b9).cell 0 _ rfl
      go_wp2
      go_ret
      exact ⟨rfl, bb.trans (b9.mono bb.size)⟩
    obtain ⟨B, hB⟩ : ∃ B : Nat, c.cB = (B : Int) := ⟨c.cB.toNat, by omega⟩
    obtain ⟨M, hM⟩ : ∃ M, blocksN B n = M := ⟨_, rfl⟩
    have hn2 : n ≤ 200 := by have := (okC_iff c).1 hC; omega
    have hBB : 1 ≤ B ∧ B ≤ 16 := by omega
    have hn3 : 2 * B ≤ n := by omega
    have hM2 : 1 ≤ M ∧ M ≤ 200 := by
      have := blocksC_bd hC (n := n) (by omega) (by omega)
      rw [blocks_nat hB n M hM (by omega)] at this
      omega
    have HB : Hid (c.cB = (B : Int)) := hB
    have HM : Hid (blocksN B n = M) := hM
    have HCM : Hid ((n : Int) ≤ c.cMsg) := (by omega : (n : Int) ≤ c.cMsg)
    have d2 : decide ((n : Int) < 2 * (B : Int)) = false := decide_eq_false (by omega)
    clear hB hM h1 h2 hCB
    go_wp2_with fail
    refine H1.mono ?_
    rintro e w1 ⟨rfl, b9⟩
    replace ha := ha.next bb
    clear H1 k0 k1 k2 k3 k4 k5 k6 k7 k8 k9
    replace xC := xC.next b9
    replace ha := ha.next b9
    replace bb := bb.trans (b9.mono bb.size)
    clear b9
    have hxl : w.heap.size < w1.heap.size := xC.lt
    rw [HB.out] at xC
    have y0 := xC.cell 0 _ rfl
    have y8 := xC.cell 8 _ rfl
    obtain ⟨P, hP⟩ : ∃ P, n / B = P := ⟨_, rfl⟩
    have hP1 : 2 ≤ P := by rw [← hP, Nat.le_div_iff_mul_le (by omega)]; omega
    have hP2 : P * B ≤ n := by rw [← hP]; exact Nat.div_mul_le_self _ _
    have hP3 : P ≤ 200 := by rw [← hP]; exact Nat.le_trans (Nat.div_le_self _ _) hn2
    have t1 : (n : Int).tdiv (B : Int) = (P : Int) := by rw [← hP]; exact (Int.ofNat_tdiv n B).symm
    have nB : ¬ (B : Int) = 0 := by omega
    have nBn : ¬ B = 0 := by omega
    have nP : ¬ (P : Int) = 0 := by omega
    have nPn : ¬ P = 0 := by omega
    obtain ⟨r1, hr1, r10, r11⟩ := mod_u64 z (P : Int) (by omega) (by omega)
    obtain ⟨s, hs, hs0, hs1⟩ := mod_u64 s0 1000 (by decide) (by decide)
    obtain ⟨k0, hk0⟩ : ∃ k0 : Nat, 1 + r1 = (k0 : Int) := ⟨(1 + r1).toNat, by omega⟩
    have hk1 : 1 ≤ k0 ∧ k0 ≤ P := by omega
    obtain ⟨F0, hF0⟩ : ∃ F0, k0 * B = F0 := ⟨_, rfl⟩
    have hF1 : F0 ≤ n := by rw [← hF0]; exact Nat.le_trans (Nat.mul_le_mul_right _ hk1.2) hP2
    have e0 : (k0 : Int) * (B : Int) = (F0 : Int) := by rw [← hF0]; push_cast; rfl
    have HF0 : Hid (k0 * B = F0) := hF0
    have HPP : Hid (n / B = P) := hP
    clear hP hF0
    go_upto_if 55 with fail
    obtain ⟨bq, hbq⟩ : ∃ b, decide (n ≤ F0) = b := ⟨_, rfl⟩
    rw [hbq]
    have HQ0 : Hid (decide (n ≤ F0) = bq) := hbq
    clear hbq
    go_cut [9] (fun v wx => ∃ q : Nat, v = .int .i64 (q : Int) ∧ (1 ≤ q ∧ q * B < n) ∧ wx = w1)
    case first =>
      cases bq with
      | false =>
        have HG : Hid (F0 < n) := by have := HQ0.out; exact (by simpa using this : F0 < n)
        go_wp2_with fail
        go_meet
        exact ⟨k0, rfl, ⟨hk1.1, by rw [HF0.out]; exact HG.out⟩, rfl⟩
      | true =>
        have hg : n ≤ F0 := by have := HQ0.out; simpa using this
        have HQ : Hid (1 ≤ k0 - 1 ∧ (k0 - 1) * B < n) := by
          have h1 : k0 = P := by
            refine Nat.le_antisymm hk1.2 (Nat.not_lt.1 fun h => ?_)
            have h2 : (k0 + 1) * B ≤ P * B := Nat.mul_le_mul_right _ h
            rw [Nat.add_mul, Nat.one_mul, HF0.out] at h2
            omega
          refine ⟨by omega, ?_⟩
          rw [Nat.sub_mul, Nat.one_mul, HF0.out]
          omega
        have hz : (k0 : Int) - 1 = ((k0 - 1 : Nat) : Int) := by omega
        clear hg
        go_wp2_with fail
        go_meet
        exact ⟨k0 - 1, by first | rfl | rw [hz] | omega, HQ.out, rfl⟩
    case rest =>
      as_aux_lemma =>
        obtain ⟨q, rfl, hq, rfl⟩ := hcut
        generalize wc = w2 at *
        have HQ : Hid (1 ≤ q ∧ q * B < n) := hq
        obtain ⟨F, hF⟩ : ∃ F, q * B = F := ⟨_, rfl⟩
        rw [hF] at hq
        have hF0 : 0 < F := by rw [← hF]; exact Nat.mul_pos (by omega) (by omega)
        have hFn : F < n := hq.2
        have e1 : (q : Int) * (B : Int) = (F : Int) := by rw [← hF]; push_cast; rfl
        have HF : Hid (q * B = F) := hF
        have n1 : ¬ cap = F := by omega
        have hFc : F ≤ cap := by omega
        have hFle : F ≤ n := by omega
        have w1F : IntKind.i64.wrap (F : Int) = (F : Int) := wraps_i64 _ (by omega) (by omega)
        obtain ⟨K2, hK2⟩ : ∃ K2, blocksN B (n - F) = K2 := ⟨_, rfl⟩
        have hK : q + K2 = M := by rw [← hK2, ← HM.out, ← hF]; exact blocksN_right hBB.1 (by rw [hF]; omega)
        have HK2 : Hid (blocksN B (n - F) = K2) := hK2
        have hq2 : q ≤ 200 := by omega
        have HQ1 : Hid (blocksN B F = q) := by have := blocksN_left (L := n) hBB.1 HQ.out.1 (by rw [hF]; omega); rw [hF, Nat.min_eq_left (by omega)] at this; exact this
        clear hF hK2 HQ0 HF0 HPP e0 hk0 hk1 hF1 hr1 r10 r11 t1 hP1 hP2 hP3 nB nBn nP nPn y0 y8 hxl
        have HCU : Hid (∀ (s : Int) (a : Option Addr) (m cap : Nat) (xs : List Int) (K : Nat) (wx : World), (m : Int) ≤ c.cMsg → m ≤ cap → xs.length = m → blocksN B m = K → 0 ≤ s → s + K ≤ 1073741824 → Holds .u8 wx.heap.size wx (.slice a m cap) xs → Calls Try.prog 7 #[.agg #[.int .i64 (B : Int), .int .i64 c.cBeam, .int .i64 c.cDepth, .int .i64 c.cWin, .int .i64 c.cQs, .int .i64 c.cQr, .int .i64 c.cBatch, .int .i64 c.cPass, .int .i64 c.cMsg, .int .i64 c.cSeqs], .int .i64 s, .slice a m cap] wx fun e W' => ∃ va vc, e = .returned (.tuple #[.slice va K vc, .int .i64 0]) ∧ Blks W'.heap.size W' (.slice va K vc) (cutL B s K xs) ∧ Below wx.heap.size wx W') := fun s a m cap xs K wx g1 g2 g3 g4 g5 g6 g7 => by
          have h := Cut_ok c s a m cap hC g1 g2 xs g3 B K HB.out g4 g5 g6 wx g7
          rw [HB.out] at h
          refine h.mono ?_
          rintro e W' ⟨v, rfl, hv, b⟩
          obtain ⟨va, vc, hvs⟩ := hv.rows.shape
          rw [cutL_len] at hvs
          subst hvs
          exact ⟨va, vc, rfl, hv.rows, b⟩
        clear hC
        have cxC0 := xC.cell 0 _ rfl
        have cxC1 := xC.cell 1 _ rfl
        have cxC2 := xC.cell 2 _ rfl
        have cxC3 := xC.cell 3 _ rfl
        have cxC4 := xC.cell 4 _ rfl
        have cxC5 := xC.cell 5 _ rfl
        have cxC6 := xC.cell 6 _ rfl
        have cxC7 := xC.cell 7 _ rfl
        have cxC8 := xC.cell 8 _ rfl
        have cxC9 := xC.cell 9 _ rfl
        go_wp2_with fail
        refine (HCU.out 0 a n cap msg M _ HCM.out hc HL.out HM.out (by decide) (by omega) ha).mono ?_
        rintro e w3 ⟨va, vc, rfl, hv, b9⟩
        clear cxC0 cxC1 cxC2 cxC3 cxC4 cxC5 cxC6 cxC7 cxC8 cxC9
        replace xC := xC.next b9
        replace ha := ha.next b9
        replace bb := bb.trans (b9.mono bb.size)
        clear b9
        have kk0 : Hid (w3.cell? ⟨w.heap.size, 0, none⟩ = some (.int .i64 (B : Int))) := xC.cell 0 _ rfl
        have kk1 : Hid (w3.cell? ⟨w.heap.size, 1, none⟩ = some (.int .i64 c.cBeam)) := xC.cell 1 _ rfl
        have kk2 : Hid (w3.cell? ⟨w.heap.size, 2, none⟩ = some (.int .i64 c.cDepth)) := xC.cell 2 _ rfl
        have kk3 : Hid (w3.cell? ⟨w.heap.size, 3, none⟩ = some (.int .i64 c.cWin)) := xC.cell 3 _ rfl
        have kk4 : Hid (w3.cell? ⟨w.heap.size, 4, none⟩ = some (.int .i64 c.cQs)) := xC.cell 4 _ rfl
        have kk5 : Hid (w3.cell? ⟨w.heap.size, 5, none⟩ = some (.int .i64 c.cQr)) := xC.cell 5 _ rfl
        have kk6 : Hid (w3.cell? ⟨w.heap.size, 6, none⟩ = some (.int .i64 c.cBatch)) := xC.cell 6 _ rfl
        have kk7 : Hid (w3.cell? ⟨w.heap.size, 7, none⟩ = some (.int .i64 c.cPass)) := xC.cell 7 _ rfl
        have kk8 : Hid (w3.cell? ⟨w.heap.size, 8, none⟩ = some (.int .i64 c.cMsg)) := xC.cell 8 _ rfl
        have kk9 : Hid (w3.cell? ⟨w.heap.size, 9, none⟩ = some (.int .i64 c.cSeqs)) := xC.cell 9 _ rfl
        have hlC : w.heap.size < w3.heap.size := xC.lt
        have HX : Hid (∀ wx : World, Below w3.heap.size w3 wx → Calls Try.prog 7 #[.agg #[.int .i64 (B : Int), .int .i64 c.cBeam, .int .i64 c.cDepth, .int .i64 c.cWin, .int .i64 c.cQs, .int .i64 c.cQr, .int .i64 c.cBatch, .int .i64 c.cPass, .int .i64 c.cMsg, .int .i64 c.cSeqs], .int .i64 0, .slice a F cap] wx fun e w' => ∃ va vc, e = .returned (.tuple #[.slice va q vc, .int .i64 0]) ∧ Blks w'.heap.size w' (.slice va q vc) (cutL B 0 q (msg.take F)) ∧ Below w3.heap.size w3 w') := fun wx hx => by
          refine (HCU.out 0 a F cap (msg.take F) q wx (by have := HCM.out; omega) (by omega) (by rw [List.length_take, HL.out]; omega) HQ1.out (by decide) (by omega) (holds_take_u8 (ha.next hx) HL.out hF0 (by omega))).mono ?_
          rintro e w' ⟨va, vc, rfl, h, b⟩
          exact ⟨va, vc, rfl, h, hx.trans (b.mono hx.size)⟩
        go_upto_region 8 with fail
        go_cut [12, 13] (fun u0 u1 wx => ∃ ea ec, u0 = .slice ea q ec ∧ u1 = .int .i64 0 ∧ Blks wx.heap.size wx (.slice ea q ec) (cutL B 0 q (msg.take F)) ∧ Below w3.heap.size w3 wx)
        case first =>
          as_aux_lemma =>
            refine wp_region_held_drew (S := fun w' => Below w3.heap.size w3 w') (by kernel_rfl) ((Below.refl _ _).drew) (fun hHeld => ?_)
            refine ht 0 69 (v := ?v80) (fun _ hSw => ?y80) hHeld ?_
            case y80 => have q0 := hSw.at kk0.out hlC; have q1 := hSw.at kk1.out hlC; have q2 := hSw.at kk2.out hlC; have q3 := hSw.at kk3.out hlC; have q4 := hSw.at kk4.out hlC; have q5 := hSw.at kk5.out hlC; have q6 := hSw.at kk6.out hlC; have q7 := hSw.at kk7.out hlC; have q8 := hSw.at kk8.out hlC; have q9 := hSw.at kk9.out hlC; clear hSw; go_simp; with_reducible rfl
            simp only [sn]
            refine ht0 1 70 (v := ?v81) (fun _ => ?y81) hHeld ?_
            case y81 => go_simp; with_reducible rfl
            simp only [sn]
            refine ht0 2 71 (v := ?v82) (fun _ => ?y82) hHeld ?_
            case y82 => go_simp; with_reducible rfl
            simp only [sn]
            refine ht0 3 72 (v := ?v83) (fun _ => ?y83) hHeld ?_
            case y83 => go_simp; with_reducible rfl
            simp only [sn]
            refine ht 4 73 (v := ?v84) (fun _ hSw => ?y84) hHeld ?_
            case y84 => have q0 := hSw.at kk0.out hlC; clear hSw; go_simp; with_reducible rfl
            simp only [sn]
            refine ht0 5 74 (v := ?v85) (fun _ => ?y85) hHeld ?_
            case y85 => go_simp; with_reducible rfl
            simp only [sn]
            refine ht0 6 75 (v := ?v86) (fun _ => ?y86) hHeld ?_
            case y86 => go_simp; with_reducible rfl
            simp only [sn]
            refine wpAnyH_ready (rs := [7]) (by kernel_rfl) (by simp) ?_
            refine AllReadyH.cons rfl (fun K hK => ?_) AllReadyH.nil
            go_simp
            go_wp2_with (go_at_call 7; refine (HX.out _ (by exact hHeld)).mono ?_; rintro e wb ⟨ea, ec, rfl, h8, b8⟩)
            refine hK.out _ _ (b8) (fun hHeld => ?_)
            clear hK K
            refine ht0 8 68 (v := ?v87) (fun _ => ?y87) hHeld ?_
            case y87 => go_simp; with_reducible rfl
            simp only [sn]
            refine ht0 9 77 (v := ?v88) (fun _ => ?y88) hHeld ?_
            case y88 => go_simp; with_reducible rfl
            simp only [sn]
            refine ht0 10 78 (v := ?v89) (fun _ => ?y89) hHeld ?_
            case y89 => go_simp; with_reducible rfl
            simp only [sn]
            refine ht0 11 12 (v := ?v90) (fun _ => ?y90) hHeld ?_
            case y90 => go_simp; with_reducible rfl
            simp only [sn]
            refine wpAnyH_ready (rs := [12]) (by kernel_rfl) (by simp) ?_
            refine AllReadyH.cons rfl (fun K hK => ?_) AllReadyH.nil
            go_simp
            refine hK.out _ _ hHeld (fun hHeld => ?_)
            clear hK K
            refine wpAnyH_done (by kernel_rfl) ?_ _
            go_wp2_with fail
            go_meet
            exact ⟨ea, ec, rfl, rfl, h8, hHeld⟩
        case rest =>
          as_aux_lemma =>
            obtain ⟨aa, ac, rfl, rfl, hvA, b9⟩ := hcut
            generalize wc = w4 at *
            clear HX hlC kk0 kk1 kk2 kk3 kk4 kk5 kk6 kk7 kk8 kk9
            replace xC := xC.next b9
            replace ha := ha.next b9
            replace hv := hv.next b9
            replace bb := bb.trans (b9.mono bb.size)
            clear b9
            have kk0 : Hid (w4.cell? ⟨w.heap.size, 0, none⟩ = some (.int .i64 (B : Int))) := xC.cell 0 _ rfl
            have kk1 : Hid (w4.cell? ⟨w.heap.size, 1, none⟩ = some (.int .i64 c.cBeam)) := xC.cell 1 _ rfl
            have kk2 : Hid (w4.cell? ⟨w.heap.size, 2, none⟩ = some (.int .i64 c.cDepth)) := xC.cell 2 _ rfl
            have kk3 : Hid (w4.cell? ⟨w.heap.size, 3, none⟩ = some (.int .i64 c.cWin)) := xC.cell 3 _ rfl
            have kk4 : Hid (w4.cell? ⟨w.heap.size, 4, none⟩ = some (.int .i64 c.cQs)) := xC.cell 4 _ rfl
            have kk5 : Hid (w4.cell? ⟨w.heap.size, 5, none⟩ = some (.int .i64 c.cQr)) := xC.cell 5 _ rfl
            have kk6 : Hid (w4.cell? ⟨w.heap.size, 6, none⟩ = some (.int .i64 c.cBatch)) := xC.cell 6 _ rfl
            have kk7 : Hid (w4.cell? ⟨w.heap.size, 7, none⟩ = some (.int .i64 c.cPass)) := xC.cell 7 _ rfl
            have kk8 : Hid (w4.cell? ⟨w.heap.size, 8, none⟩ = some (.int .i64 c.cMsg)) := xC.cell 8 _ rfl
            have kk9 : Hid (w4.cell? ⟨w.heap.size, 9, none⟩ = some (.int .i64 c.cSeqs)) := xC.cell 9 _ rfl
            have hlC : w.heap.size < w4.heap.size := xC.lt
            have HX : Hid (∀ wx : World, Below w4.heap.size w4 wx → Calls Try.prog 7 #[.agg #[.int .i64 (B : Int), .int .i64 c.cBeam, .int .i64 c.cDepth, .int .i64 c.cWin, .int .i64 c.cQs, .int .i64 c.cQr, .int .i64 c.cBatch, .int .i64 c.cPass, .int .i64 c.cMsg, .int .i64 c.cSeqs], .int .i64 (q : Int), .slice (a.map fun x => x.add F) (n - F) (cap - F)] wx fun e w' => ∃ va vc, e = .returned (.tuple #[.slice va K2 vc, .int .i64 0]) ∧ Blks w'.heap.size w' (.slice va K2 vc) (cutL B (q : Int) K2 (msg.drop F)) ∧ Below w4.heap.size w4 w') := fun wx hx => by
              refine (HCU.out (q : Int) (a.map fun x => x.add F) (n - F) (cap - F) (msg.drop F) K2 wx (by have := HCM.out; omega) (by omega) (by rw [List.length_drop, HL.out]) HK2.out (by omega) (by omega) (holds_drop_u8 (ha.next hx) HL.out (by omega))).mono ?_
              rintro e w' ⟨va, vc, rfl, h, b⟩
              exact ⟨va, vc, rfl, h, hx.trans (b.mono hx.size)⟩
            go_upto_region 9 with fail
            go_cut [14, 15] (fun u0 u1 wx => ∃ ea ec, u0 = .slice ea K2 ec ∧ u1 = .int .i64 0 ∧ Blks wx.heap.size wx (.slice ea K2 ec) (cutL B (q : Int) K2 (msg.drop F)) ∧ Below w4.heap.size w4 wx)
            case first =>
              as_aux_lemma =>
                refine wp_region_held_drew (S := fun w' => Below w4.heap.size w4 w') (by kernel_rfl) ((Below.refl _ _).drew) (fun hHeld => ?_)
                refine ht 0 80 (v := ?v91) (fun _ hSw => ?y91) hHeld ?_
                case y91 => have q0 := hSw.at kk0.out hlC; have q1 := hSw.at kk1.out hlC; have q2 := hSw.at kk2.out hlC; have q3 := hSw.at kk3.out hlC; have q4 := hSw.at kk4.out hlC; have q5 := hSw.at kk5.out hlC; have q6 := hSw.at kk6.out hlC; have q7 := hSw.at kk7.out hlC; have q8 := hSw.at kk8.out hlC; have q9 := hSw.at kk9.out hlC; clear hSw; go_simp; with_reducible rfl
                simp only [sn]
                refine ht0 1 81 (v := ?v92) (fun _ => ?y92) hHeld ?_
                case y92 => go_simp; with_reducible rfl
                simp only [sn]
                refine ht0 2 82 (v := ?v93) (fun _ => ?y93) hHeld ?_
                case y93 => go_simp; with_reducible rfl
                simp only [sn]
                refine ht0 3 83 (v := ?v94) (fun _ => ?y94) hHeld ?_
                case y94 => go_simp; with_reducible rfl
                simp only [sn]
                refine ht0 4 84 (v := ?v95) (fun _ => ?y95) hHeld ?_
                case y95 => go_simp; with_reducible rfl
                simp only [sn]
                refine ht 5 85 (v := ?v96) (fun _ hSw => ?y96) hHeld ?_
                case y96 => have q0 := hSw.at kk0.out hlC; clear hSw; go_simp; with_reducible rfl
                simp only [sn]
                refine ht0 6 86 (v := ?v97) (fun _ => ?y97) hHeld ?_
                case y97 => go_simp; with_reducible rfl
                simp only [sn]
                refine ht0 7 87 (v := ?v98) (fun _ => ?y98) hHeld ?_
                case y98 => go_simp; with_reducible rfl
                simp only [sn]
                refine wpAnyH_ready (rs := [8]) (by kernel_rfl) (by simp) ?_
                refine AllReadyH.cons rfl (fun K hK => ?_) AllReadyH.nil
                go_simp
                go_wp2_with (go_at_call 7; refine (HX.out _ (by exact hHeld)).mono ?_; rintro e wb ⟨ea, ec, rfl, h8, b8⟩)
                refine hK.out _ _ (b8) (fun hHeld => ?_)
                clear hK K
                refine ht0 9 79 (v := ?v99) (fun _ => ?y99) hHeld ?_
                case y99 => go_simp; with_reducible rfl
                simp only [sn]
                refine ht0 10 89 (v := ?v100) (fun _ => ?y100) hHeld ?_
                case y100 => go_simp; with_reducible rfl
                simp only [sn]
                refine ht0 11 90 (v := ?v101) (fun _ => ?y101) hHeld ?_
                case y101 => go_simp; with_reducible rfl
                simp only [sn]
                refine ht0 12 14 (v := ?v102) (fun _ => ?y102) hHeld ?_
                case y102 => go_simp; with_reducible rfl
                simp only [sn]
                refine wpAnyH_ready (rs := [13]) (by kernel_rfl) (by simp) ?_
                refine AllReadyH.cons rfl (fun K hK => ?_) AllReadyH.nil
                go_simp
                refine hK.out _ _ hHeld (fun hHeld => ?_)
                clear hK K
                refine wpAnyH_done (by kernel_rfl) ?_ _
                go_wp2_with fail
                go_meet
                exact ⟨ea, ec, rfl, rfl, h8, hHeld⟩
            case rest =>
              as_aux_lemma =>
                obtain ⟨ba, bc, rfl, rfl, hvB, b9⟩ := hcut
                generalize wc = w5 at *
                clear HX hlC kk0 kk1 kk2 kk3 kk4 kk5 kk6 kk7 kk8 kk9
                replace xC := xC.next b9
                replace ha := ha.next b9
                replace hv := hv.next b9
                replace hvA := hvA.next b9
                replace bb := bb.trans (b9.mono bb.size)
                clear b9
                have cxC0 := xC.cell 0 _ rfl
                have cxC1 := xC.cell 1 _ rfl
                have cxC2 := xC.cell 2 _ rfl
                have cxC3 := xC.cell 3 _ rfl
                have cxC4 := xC.cell 4 _ rfl
                have cxC5 := xC.cell 5 _ rfl
                have cxC6 := xC.cell 6 _ rfl
                have cxC7 := xC.cell 7 _ rfl
                have cxC8 := xC.cell 8 _ rfl
                have cxC9 := xC.cell 9 _ rfl
                go_wp2_with fail
                refine (HCU.out s a n cap msg M _ HCM.out hc HL.out HM.out hs0 (by omega) ha).mono ?_
                rintro e w6 ⟨da, dc, rfl, hvD, b9⟩
                clear cxC0 cxC1 cxC2 cxC3 cxC4 cxC5 cxC6 cxC7 cxC8 cxC9
                replace xC := xC.next b9
                replace ha := ha.next b9
                replace hv := hv.next b9
                replace hvA := hvA.next b9
                replace hvB := hvB.next b9
                replace bb := bb.trans (b9.mono bb.size)
                clear b9
                have f1 : ((q : Int) != (q : Int)) = false := by simp
                have f2 : ((q : Int) + (K2 : Int) != (M : Int)) = false := by simp; omega
                have f3 : ((M : Int) != (M : Int)) = false := by simp
                clear xC HCU ha
                go_wp2_with fail
                go_loopw [18] (fun i wr => ∃ k : Nat, k ≤ M ∧ i = .int .i64 (k : Int) ∧ Below w6.heap.size w6 wr) (fun i _ => M - (intOf i).toNat)
                case atStart => exact ⟨0, Nat.zero_le _, rfl, Below.refl _ _⟩
                case round =>
                  obtain ⟨k, hk, rfl, bw⟩ := hrel
                  by_cases hlt : k < M
                  ·
                    obtain ⟨X, hX⟩ : ∃ X, textK B msg k = X := ⟨_, rfl⟩
                    obtain ⟨x, hx⟩ : ∃ x, X.length = x := ⟨_, rfl⟩
                    obtain ⟨mk, hmk⟩ : ∃ mk, markK M k = mk := ⟨_, rfl⟩
                    obtain ⟨gl, ol, rfl, hgl, hcl⟩ := blks_at (hv.below bw) (by rw [cutL_len]; omega)
                    obtain ⟨pl, hpl, l0, l1, l2⟩ := hcl k _ (cutL_get hlt)
                    obtain ⟨pal, pcl, rfl⟩ : ∃ pa pc, pl = .slice pa (textK B msg k).length pc := hpl.shape
                    simp only [Int.zero_add] at l0 l1 l2 hpl
                    obtain ⟨gd, od, rfl, hgd, hcd⟩ := blks_at (hvD.below bw) (by rw [cutL_len]; omega)
                    obtain ⟨pd, hpd, d0, d1, d2⟩ := hcd k _ (cutL_get hlt)
                    obtain ⟨pad, pcd, rfl⟩ : ∃ pa pc, pd = .slice pa (textK B msg k).length pc := hpd.shape
                    simp only at d0 d1 d2 hpd
                    rw [hX] at hpl hpd l2 d2
                    rw [hx] at hpl hpd l2 d2
                    rw [hmk] at l1 d1
                    have hXl : x ≤ 16 := by rw [← hx, ← hX]; exact Nat.le_trans (textK_le _ _ _) hBB.2
                    have HXX : Hid (textK B msg k = X ∧ X.length = x) := ⟨hX, hx⟩
                    clear hX hx hmk hcl hcd
                    have xX := Box.new wr 36 #[.int .i64 (k : Int), .int .i64 mk, .slice pal x pcl]
                    have bX : Below wr.heap.size wr (wr.alloc (.cells #[.int .i64 (k : Int), .int .i64 mk, .slice pal x pcl] 36)) := (Below.refl _ _).alloc (Nat.le_refl _) _
                    go_upto_region 17 with fail
                    obtain ⟨w8, hw8⟩ : ∃ W, wr.alloc (.cells #[.int .i64 (k : Int), .int .i64 mk, .slice pal x pcl] 36) = W := ⟨_, rfl⟩
                    rw [hw8] at xX bX ⊢
                    clear hw8
                    have b8w := bw.trans (bX.mono bw.size)
                    have hXl8 := xX.lt
                    have hsz8 := b8w.size
                    have z0 := xX.cell 0 _ rfl
                    have z1 := xX.cell 1 _ rfl
                    have z2 := xX.cell 2 _ rfl
                    have hgd8 : gd < w8.heap.size := by omega
                    replace hpl := hpl.below (bX.mono bw.size)
                    replace hpd := hpd.below (bX.mono bw.size)
                    replace d0 := bX.at d0 (Nat.lt_of_lt_of_le hgd bw.size)
                    replace d1 := bX.at d1 (Nat.lt_of_lt_of_le hgd bw.size)
                    replace d2 := bX.at d2 (Nat.lt_of_lt_of_le hgd bw.size)
                    clear l0 l1 l2
                    have wsk : IntKind.i64.wrap (s + (k : Int)) = s + (k : Int) := wraps_i64 _ (by omega) (by omega)
                    have dk : decide (k < M) = true := decide_eq_true hlt
                    have e6 : ((s + (k : Int)) != (s + (k : Int))) = false := by simp
                    have e7 : (mk != mk) = false := by simp
                    have HBY : Hid (∀ (va vb : Value) (wx : World), Holds .u8 w6.heap.size w8 va X → Holds .u8 w6.heap.size w8 vb X → Below w8.heap.size w8 wx → Calls Try.prog 8 #[va, vb] wx fun e w' => e = .returned (.bool true) ∧ Below w8.heap.size w8 w') := fun va vb wx h1 h2 hx => by
                      refine (bytes_any va vb X X _ _ wx (by rw [HXX.out.2]; omega) (h1.below (hx.mono hsz8)) (h2.below (hx.mono hsz8))).mono ?_
                      rintro e w' ⟨rfl, q, rfl⟩
                      exact ⟨by rw [decide_eq_true rfl], below_drewN hx q⟩
                    have HPD : Hid (Holds .u8 w6.heap.size w8 (.slice pad x pcd) X) := hpd
                    have HPL : Hid (Holds .u8 w6.heap.size w8 (.slice pal x pcl) X) := hpl
                    clear hpd hpl
                    go_cut [174] (fun v wx => v = .bool false ∧ Below w8.heap.size w8 wx)
                    case first =>
                      as_aux_lemma =>
                        refine wp_region_held_drew (S := fun w' => Below w8.heap.size w8 w') (by kernel_rfl) ((Below.refl _ _).drew) (fun hHeld => ?_)
                        refine ht0 0 145 (v := ?v103) (fun _ => ?y103) hHeld ?_
                        case y103 => go_simp; with_reducible rfl
                        simp only [sn]
                        refine ht0 1 146 (v := ?v104) (fun _ => ?y104) hHeld ?_
                        case y104 => go_simp; with_reducible rfl
                        simp only [sn]
                        refine ht0 2 147 (v := ?v105) (fun _ => ?y105) hHeld ?_
                        case y105 => go_simp; with_reducible rfl
                        simp only [sn]
                        refine ht0 3 148 (v := ?v106) (fun _ => ?y106) hHeld ?_
                        case y106 => go_simp; with_reducible rfl
                        simp only [sn]
                        refine ht 4 149 (v := ?v107) (fun _ hSw => ?y107) hHeld ?_
                        case y107 => have q0 := hSw.at d0 hgd8; clear hSw; go_simp; with_reducible rfl
                        simp only [sn]
                        refine ht0 5 150 (v := ?v108) (fun _ => ?y108) hHeld ?_
                        case y108 => go_simp; with_reducible rfl
                        simp only [sn]
                        refine ht0 6 151 (v := ?v109) (fun _ => ?y109) hHeld ?_
                        case y109 => go_simp; with_reducible rfl
                        simp only [sn]
                        refine ht0 7 152 (v := ?v110) (fun _ => ?y110) hHeld ?_
                        case y110 => go_simp; with_reducible rfl
                        simp only [sn]
                        refine ht0 8 153 (v := ?v111) (fun _ => ?y111) hHeld ?_
                        case y111 => go_simp; with_reducible rfl
                        simp only [sn]
                        refine ht0 9 154 (v := ?v112) (fun _ => ?y112) hHeld ?_
                        case y112 => go_simp; with_reducible rfl
                        simp only [sn]
                        refine ht0 10 155 (v := ?v113) (fun _ => ?y113) hHeld ?_
                        case y113 => go_simp; with_reducible rfl
                        simp only [sn]
                        refine ht0 11 156 (v := ?v114) (fun _ => ?y114) hHeld ?_
                        case y114 => go_simp; with_reducible rfl
                        simp only [sn]
                        refine ht0 12 157 (v := ?v115) (fun _ => ?y115) hHeld ?_
                        case y115 => go_simp; with_reducible rfl
                        simp only [sn]
                        refine ht0 13 158 (v := ?v116) (fun _ => ?y116) hHeld ?_
                        case y116 => go_simp; with_reducible rfl
                        simp only [sn]
                        refine ht 14 159 (v := ?v117) (fun _ hSw => ?y117) hHeld ?_
                        case y117 => have q0 := hSw.at d1 hgd8; clear hSw; go_simp; with_reducible rfl
                        simp only [sn]
                        refine ht0 15 160 (v := ?v118) (fun _ => ?y118) hHeld ?_
                        case y118 => go_simp; with_reducible rfl
                        simp only [sn]
                        refine ht 16 161 (v := ?v119) (fun _ hSw => ?y119) hHeld ?_
                        case y119 => have q0 := hSw.at z1 hXl8; clear hSw; go_simp; with_reducible rfl
                        simp only [sn]
                        refine ht0 17 162 (v := ?v120) (fun _ => ?y120) hHeld ?_
                        case y120 => go_simp; with_reducible rfl
                        simp only [sn]
                        refine ht0 18 163 (v := ?v121) (fun _ => ?y121) hHeld ?_
                        case y121 => go_simp; with_reducible rfl
                        simp only [sn]
                        refine ht0 19 164 (v := ?v122) (fun _ => ?y122) hHeld ?_
                        case y122 => go_simp; with_reducible rfl
                        simp only [sn]
                        refine ht0 20 165 (v := ?v123) (fun _ => ?y123) hHeld ?_
                        case y123 => go_simp; with_reducible rfl
                        simp only [sn]
                        refine ht0 21 166 (v := ?v124) (fun _ => ?y124) hHeld ?_
                        case y124 => go_simp; with_reducible rfl
                        simp only [sn]
                        refine ht0 22 167 (v := ?v125) (fun _ => ?y125) hHeld ?_
                        case y125 => go_simp; with_reducible rfl
                        simp only [sn]
                        refine ht0 23 168 (v := ?v126) (fun _ => ?y126) hHeld ?_
                        case y126 => go_simp; with_reducible rfl
                        simp only [sn]
                        refine ht 24 169 (v := ?v127) (fun _ hSw => ?y127) hHeld ?_
                        case y127 => have q0 := hSw.at d2 hgd8; clear hSw; go_simp; with_reducible rfl
                        simp only [sn]
                        refine ht0 25 170 (v := ?v128) (fun _ => ?y128) hHeld ?_
                        case y128 => go_simp; with_reducible rfl
                        simp only [sn]
                        refine ht 26 171 (v := ?v129) (fun _ hSw => ?y129) hHeld ?_
                        case y129 => have q0 := hSw.at z2 hXl8; clear hSw; go_simp; with_reducible rfl
                        simp only [sn]
                        refine wpAnyH_ready (rs := [27]) (by kernel_rfl) (by simp) ?_
                        refine AllReadyH.cons rfl (fun K hK => ?_) AllReadyH.nil
                        go_simp
                        go_wp2_with (go_at_call 8; refine (HBY.out _ _ _ HPD.out HPL.out (by exact hHeld)).mono ?_; rintro e wb ⟨rfl, b8⟩)
                        refine hK.out _ _ (b8) (fun hHeld => ?_)
                        clear hK K
                        refine ht0 28 173 (v := ?v130) (fun _ => ?y130) hHeld ?_
                        case y130 => go_simp; with_reducible rfl
                        simp only [sn]
                        refine wpAnyH_ready (rs := [29]) (by kernel_rfl) (by simp) ?_
                        refine AllReadyH.cons rfl (fun K hK => ?_) AllReadyH.nil
                        go_simp
                        refine hK.out _ _ hHeld (fun hHeld => ?_)
                        clear hK K
                        refine wpAnyH_done (by kernel_rfl) ?_ _
                        go_wp2_with fail
                        go_meet
                        exact ⟨rfl, hHeld⟩
                    case rest =>
                      as_aux_lemma =>
                        obtain ⟨rfl, b10⟩ := hcut
                        generalize wc = w10 at *
                        have z0n := b10.at z0 hXl8
                        have z1n := b10.at z1 hXl8
                        have z2n := b10.at z2 hXl8
                        clear d0 d1 d2 z0 z1 z2 e6 e7 wsk
                        have hXl9 : wr.heap.size < w10.heap.size := Nat.lt_of_lt_of_le hXl8 b10.size
                        have b10w := b8w.trans (b10.mono hsz8)
                        go_upto_region 19 with fail
                        go_cut [228] (fun v wx => v = .bool false ∧ Below w10.heap.size w10 wx)
                        case first =>
                          have HBZ : Hid (∀ (va vb : Value) (wx : World), Holds .u8 w6.heap.size w8 va X → Holds .u8 w6.heap.size w8 vb X → Below w10.heap.size w10 wx → Calls Try.prog 8 #[va, vb] wx fun e w' => e = .returned (.bool true) ∧ Below w10.heap.size w10 w') := fun va vb wx h1 h2 hx => by
                            refine (bytes_any va vb X X _ _ wx (by rw [HXX.out.2]; omega) ((h1.below (b10.mono hsz8)).below (hx.mono b10w.size)) ((h2.below (b10.mono hsz8)).below (hx.mono b10w.size))).mono ?_
                            rintro e w' ⟨rfl, q, rfl⟩
                            exact ⟨by rw [decide_eq_true rfl], below_drewN hx q⟩
                          have e8 : ((k : Int) != (k : Int)) = false := by simp
                          by_cases hkq : k < q
                          · as_aux_lemma =>
                              obtain ⟨gf, of, rfl, hgf, hcf⟩ := blks_at (hvA.below b10w) (by rw [cutL_len]; omega)
                              obtain ⟨pf, hpf, f0, f1, f2⟩ := hcf k _ (cutL_get hkq)
                              obtain ⟨paf, pcf, rfl⟩ : ∃ pa pc, pf = .slice pa (textK B (msg.take F) k).length pc := hpf.shape
                              simp only [Int.zero_add] at f0 f1 f2 hpf
                              rw [show textK B (msg.take F) k = X from (by rw [← HF.out, textK_left hkq]; exact HXX.out.1)] at hpf f2
                              rw [HXX.out.2] at hpf f2
                              have hgf8 : gf < w10.heap.size := Nat.lt_of_lt_of_le hgf b10w.size
                              have HBQ : Hid (∀ wx : World, Below w10.heap.size w10 wx → Calls Try.prog 8 #[.slice paf x pcf, .slice pal x pcl] wx fun e w' => e = .returned (.bool true) ∧ Below w10.heap.size w10 w') := fun wx hx => by
                                refine (bytes_any _ _ X X _ _ wx (by rw [HXX.out.2]; omega) (hpf.below (hx.mono b10w.size)) ((HPL.out.below (b10.mono hsz8)).below (hx.mono b10w.size))).mono ?_
                                rintro e w' ⟨rfl, q, rfl⟩
                                exact ⟨by rw [decide_eq_true rfl], below_drewN hx q⟩
                              clear hcf hpf
                              have da : decide (k < q) = true := decide_eq_true hkq
                              have dai : decide ((k : Int) < (q : Int)) = true := decide_eq_true (by omega)
                              have db : decide (q ≤ k) = false := decide_eq_false (by omega)
                              have dbi : decide ((q : Int) ≤ (k : Int)) = false := decide_eq_false (by omega)
                              clear HBZ
                              refine wp_region_held_drew (S := fun w' => Below w10.heap.size w10 w') (by kernel_rfl) ((Below.refl _ _).drew) (fun hHeld => ?_)
                              refine ht0 0 175 (v := ?v131) (fun _ => ?y131) hHeld ?_
                              case y131 => go_simp; with_reducible rfl
                              simp only [sn]
                              refine ht0 1 176 (v := ?v132) (fun _ => ?y132) hHeld ?_
                              case y132 => go_simp; with_reducible rfl
                              simp only [sn]
                              refine ht0 2 177 (v := ?v133) (fun _ => ?y133) hHeld ?_
                              case y133 => go_simp; with_reducible rfl
                              simp only [sn]
                              refine ht0 3 178 (v := ?v134) (fun _ => ?y134) hHeld ?_
                              case y134 => go_simp; with_reducible rfl
                              simp only [sn]
                              refine ht0 4 179 (v := ?v135) (fun _ => ?y135) hHeld ?_
                              case y135 => go_simp; with_reducible rfl
                              simp only [sn]
                              refine ht0 5 180 (v := ?v136) (fun _ => ?y136) hHeld ?_
                              case y136 => go_simp; with_reducible rfl
                              simp only [sn]
                              refine ht0 6 181 (v := ?v137) (fun _ => ?y137) hHeld ?_
                              case y137 => go_simp; with_reducible rfl
                              simp only [sn]
                              refine ht0 7 182 (v := ?v138) (fun _ => ?y138) hHeld ?_
                              case y138 => go_simp; with_reducible rfl
                              simp only [sn]
                              refine ht 8 183 (v := ?v139) (fun _ hSw => ?y139) hHeld ?_
                              case y139 => have q0 := hSw.at f0 hgf8; clear hSw; go_simp; with_reducible rfl
                              simp only [sn]
                              refine ht0 9 184 (v := ?v140) (fun _ => ?y140) hHeld ?_
                              case y140 => go_simp; with_reducible rfl
                              simp only [sn]
                              refine ht 10 185 (v := ?v141) (fun _ hSw => ?y141) hHeld ?_
                              case y141 => have q0 := hSw.at z0n hXl9; clear hSw; go_simp; with_reducible rfl
                              simp only [sn]
                              refine ht0 11 186 (v := ?v142) (fun _ => ?y142) hHeld ?_
                              case y142 => go_simp; with_reducible rfl
                              simp only [sn]
                              refine ht0 12 187 (v := ?v143) (fun _ => ?y143) hHeld ?_
                              case y143 => go_simp; with_reducible rfl
                              simp only [sn]
                              refine ht0 13 188 (v := ?v144) (fun _ => ?y144) hHeld ?_
                              case y144 => go_simp; with_reducible rfl
                              simp only [sn]
                              refine ht0 14 189 (v := ?v145) (fun _ => ?y145) hHeld ?_
                              case y145 => go_simp; with_reducible rfl
                              simp only [sn]
                              refine ht0 15 190 (v := ?v146) (fun _ => ?y146) hHeld ?_
                              case y146 => go_simp; with_reducible rfl
                              simp only [sn]
                              refine ht0 16 191 (v := ?v147) (fun _ => ?y147) hHeld ?_
                              case y147 => go_simp; with_reducible rfl
                              simp only [sn]
                              refine ht 17 192 (v := ?v148) (fun _ hSw => ?y148) hHeld ?_
                              case y148 => have q0 := hSw.at f2 hgf8; clear hSw; go_simp; with_reducible rfl
                              simp only [sn]
                              refine ht0 18 193 (v := ?v149) (fun _ => ?y149) hHeld ?_
                              case y149 => go_simp; with_reducible rfl
                              simp only [sn]
                              refine ht 19 194 (v := ?v150) (fun _ hSw => ?y150) hHeld ?_
                              case y150 => have q0 := hSw.at z2n hXl9; clear hSw; go_simp; with_reducible rfl
                              simp only [sn]
                              refine wpAnyH_ready (rs := [20]) (by kernel_rfl) (by simp) ?_
                              refine AllReadyH.cons rfl (fun K hK => ?_) AllReadyH.nil
                              go_simp
                              go_wp2_with (go_at_call 8; refine (HBQ.out _ (by exact hHeld)).mono ?_; rintro e wb ⟨rfl, b8⟩)
                              refine hK.out _ _ (b8) (fun hHeld => ?_)
                              clear hK K
                              refine ht0 21 196 (v := ?v151) (fun _ => ?y151) hHeld ?_
                              case y151 => go_simp; with_reducible rfl
                              simp only [sn]
                              refine ht0 22 197 (v := ?v152) (fun _ => ?y152) hHeld ?_
                              case y152 => go_simp; with_reducible rfl
                              simp only [sn]
                              refine ht0 23 198 (v := ?v153) (fun _ => ?y153) hHeld ?_
                              case y153 => go_simp; with_reducible rfl
                              simp only [sn]
                              refine ht0 24 199 (v := ?v154) (fun _ => ?y154) hHeld ?_
                              case y154 => go_simp; with_reducible rfl
                              simp only [sn]
                              refine ht0 25 200 (v := ?v155) (fun _ => ?y155) hHeld ?_
                              case y155 => go_simp; with_reducible rfl
                              simp only [sn]
                              refine ht0 26 201 (v := ?v156) (fun _ => ?y156) hHeld ?_
                              case y156 => go_simp; with_reducible rfl
                              simp only [sn]
                              refine ht0 27 202 (v := ?v157) (fun _ => ?y157) hHeld ?_
                              case y157 => go_simp; with_reducible rfl
                              simp only [sn]
                              refine ht0 28 203 (v := ?v158) (fun _ => ?y158) hHeld ?_
                              case y158 => go_simp; with_reducible rfl
                              simp only [sn]
                              refine hu 29 204 hHeld ?_
                              simp only [sn]
                              refine hu 30 205 hHeld ?_
                              simp only [sn]
                              refine hu 31 206 hHeld ?_
                              simp only [sn]
                              refine hu 32 207 hHeld ?_
                              simp only [sn]
                              refine hu 33 208 hHeld ?_
                              simp only [sn]
                              refine hu 34 209 hHeld ?_
                              simp only [sn]
                              refine hu 35 210 hHeld ?_
                              simp only [sn]
                              refine hu 36 211 hHeld ?_
                              simp only [sn]
                              refine hu 37 212 hHeld ?_
                              simp only [sn]
                              refine hu 38 213 hHeld ?_
                              simp only [sn]
                              refine hu 39 214 hHeld ?_
                              simp only [sn]
                              refine hu 40 215 hHeld ?_
                              simp only [sn]
                              refine hu 41 216 hHeld ?_
                              simp only [sn]
                              refine hu 42 217 hHeld ?_
                              simp only [sn]
                              refine hu 43 218 hHeld ?_
                              simp only [sn]
                              refine hu 44 219 hHeld ?_
                              simp only [sn]
                              refine hu 45 220 hHeld ?_
                              simp only [sn]
                              refine hu 46 221 hHeld ?_
                              simp only [sn]
                              refine hu 47 222 hHeld ?_
                              simp only [sn]
                              refine hu 48 223 hHeld ?_
                              simp only [sn]
                              refine hu 49 224 hHeld ?_
                              simp only [sn]
                              refine hu 50 225 hHeld ?_
                              simp only [sn]
                              refine hu 51 226 hHeld ?_
                              simp only [sn]
                              refine ht0 52 227 (v := ?v159) (fun _ => ?y159) hHeld ?_
                              case y159 => go_simp; with_reducible rfl
                              simp only [sn]
                              refine wpAnyH_ready (rs := [53]) (by kernel_rfl) (by simp) ?_
                              refine AllReadyH.cons rfl (fun K hK => ?_) AllReadyH.nil
                              go_simp
                              refine hK.out _ _ hHeld (fun hHeld => ?_)
                              clear hK K
                              refine wpAnyH_done (by kernel_rfl) ?_ _
                              go_wp2_with fail
                              go_meet
                              exact ⟨rfl, hHeld⟩
                          · as_aux_lemma =>
                              obtain ⟨gh, oh, rfl, hgh, hch⟩ := blks_at (hvB.below b10w) (by rw [cutL_len]; omega)
                              obtain ⟨ph, hph, h0, h1, h2⟩ := hch (k - q) _ (cutL_get (show k - q < K2 by omega))
                              obtain ⟨pah, pch, rfl⟩ : ∃ pa pc, ph = .slice pa (textK B (msg.drop F) (k - q)).length pc := hph.shape
                              simp only at h0 h1 h2 hph
                              rw [show textK B (msg.drop F) (k - q) = X from (by rw [← HF.out, textK_right, show q + (k - q) = k by omega]; exact HXX.out.1)] at hph h2
                              rw [HXX.out.2] at hph h2
                              have hgh8 : gh < w10.heap.size := Nat.lt_of_lt_of_le hgh b10w.size
                              have HBQ : Hid (∀ wx : World, Below w10.heap.size w10 wx → Calls Try.prog 8 #[.slice pah x pch, .slice pal x pcl] wx fun e w' => e = .returned (.bool true) ∧ Below w10.heap.size w10 w') := fun wx hx => by
                                refine (bytes_any _ _ X X _ _ wx (by rw [HXX.out.2]; omega) (hph.below (hx.mono b10w.size)) ((HPL.out.below (b10.mono hsz8)).below (hx.mono b10w.size))).mono ?_
                                rintro e w' ⟨rfl, q, rfl⟩
                                exact ⟨by rw [decide_eq_true rfl], below_drewN hx q⟩
                              clear hch hph
                              obtain ⟨j, hj⟩ : ∃ j, k - q = j := ⟨_, rfl⟩
                              rw [hj] at h0 h1 h2
                              have hjq : q + j = k := by omega
                              rw [show (q : Int) + (j : Int) = (k : Int) by omega] at h0
                              have wj : IntKind.i64.wrap ((k : Int) - (q : Int)) = (j : Int) := by rw [show (k : Int) - (q : Int) = (j : Int) by omega]; exact wraps_i64 _ (by omega) (by omega)
                              have dj : decide (j < K2) = true := decide_eq_true (by omega)
                              have hjK : j < K2 := by omega
                              have da : decide (k < q) = false := decide_eq_false (by omega)
                              have dai : decide ((k : Int) < (q : Int)) = false := decide_eq_false (by omega)
                              have db : decide (q ≤ k) = true := decide_eq_true (by omega)
                              have dbi : decide ((q : Int) ≤ (k : Int)) = true := decide_eq_true (by omega)
                              clear hkq HBZ hj hjq
                              refine wp_region_held_drew (S := fun w' => Below w10.heap.size w10 w') (by kernel_rfl) ((Below.refl _ _).drew) (fun hHeld => ?_)
                              refine ht0 0 175 (v := ?v160) (fun _ => ?y160) hHeld ?_
                              case y160 => go_simp; with_reducible rfl
                              simp only [sn]
                              refine ht0 1 176 (v := ?v161) (fun _ => ?y161) hHeld ?_
                              case y161 => go_simp; with_reducible rfl
                              simp only [sn]
                              refine ht0 2 177 (v := ?v162) (fun _ => ?y162) hHeld ?_
                              case y162 => go_simp; with_reducible rfl
                              simp only [sn]
                              refine ht0 3 178 (v := ?v163) (fun _ => ?y163) hHeld ?_
                              case y163 => go_simp; with_reducible rfl
                              simp only [sn]
                              refine hu 4 179 hHeld ?_
                              simp only [sn]
                              refine hu 5 180 hHeld ?_
                              simp only [sn]
                              refine hu 6 181 hHeld ?_
                              simp only [sn]
                              refine hu 7 182 hHeld ?_
                              simp only [sn]
                              refine hu 8 183 hHeld ?_
                              simp only [sn]
                              refine hu 9 184 hHeld ?_
                              simp only [sn]
                              refine hu 10 185 hHeld ?_
                              simp only [sn]
                              refine hu 11 186 hHeld ?_
                              simp only [sn]
                              refine hu 12 187 hHeld ?_
                              simp only [sn]
                              refine hu 13 188 hHeld ?_
                              simp only [sn]
                              refine hu 14 189 hHeld ?_
                              simp only [sn]
                              refine hu 15 190 hHeld ?_
                              simp only [sn]
                              refine hu 16 191 hHeld ?_
                              simp only [sn]
                              refine hu 17 192 hHeld ?_
                              simp only [sn]
                              refine hu 18 193 hHeld ?_
                              simp only [sn]
                              refine hu 19 194 hHeld ?_
                              simp only [sn]
                              refine hu 20 195 hHeld ?_
                              simp only [sn]
                              refine hu 21 196 hHeld ?_
                              simp only [sn]
                              refine hu 22 197 hHeld ?_
                              simp only [sn]
                              refine ht0 23 198 (v := ?v164) (fun _ => ?y164) hHeld ?_
                              case y164 => go_simp; with_reducible rfl
                              simp only [sn]
                              refine ht0 24 199 (v := ?v165) (fun _ => ?y165) hHeld ?_
                              case y165 => go_simp; with_reducible rfl
                              simp only [sn]
                              refine ht0 25 200 (v := ?v166) (fun _ => ?y166) hHeld ?_
                              case y166 => go_simp; with_reducible rfl
                              simp only [sn]
                              refine ht0 26 201 (v := ?v167) (fun _ => ?y167) hHeld ?_
                              case y167 => go_simp; with_reducible rfl
                              simp only [sn]
                              refine ht0 27 202 (v := ?v168) (fun _ => ?y168) hHeld ?_
                              case y168 => go_simp; with_reducible rfl
                              simp only [sn]
                              refine ht0 28 203 (v := ?v169) (fun _ => ?y169) hHeld ?_
                              case y169 => go_simp; with_reducible rfl
                              simp only [sn]
                              refine ht0 29 204 (v := ?v170) (fun _ => ?y170) hHeld ?_
                              case y170 => go_simp; with_reducible rfl
                              simp only [sn]
                              refine ht0 30 205 (v := ?v171) (fun _ => ?y171) hHeld ?_
                              case y171 => go_simp; with_reducible rfl
                              simp only [sn]
                              refine ht0 31 206 (v := ?v172) (fun _ => ?y172) hHeld ?_
                              case y172 => go_simp; with_reducible rfl
                              simp only [sn]
                              refine ht0 32 207 (v := ?v173) (fun _ => ?y173) hHeld ?_
                              case y173 => go_simp; with_reducible rfl
                              simp only [sn]
                              refine ht0 33 208 (v := ?v174) (fun _ => ?y174) hHeld ?_
                              case y174 => go_simp; with_reducible rfl
                              simp only [sn]
                              refine ht0 34 209 (v := ?v175) (fun _ => ?y175) hHeld ?_
                              case y175 => go_simp; with_reducible rfl
                              simp only [sn]
                              refine ht 35 210 (v := ?v176) (fun _ hSw => ?y176) hHeld ?_
                              case y176 => have q0 := hSw.at h0 hgh8; clear hSw; go_simp; with_reducible rfl
                              simp only [sn]
                              refine ht0 36 211 (v := ?v177) (fun _ => ?y177) hHeld ?_
                              case y177 => go_simp; with_reducible rfl
                              simp only [sn]
                              refine ht 37 212 (v := ?v178) (fun _ hSw => ?y178) hHeld ?_
                              case y178 => have q0 := hSw.at z0n hXl9; clear hSw; go_simp; with_reducible rfl
                              simp only [sn]
                              refine ht0 38 213 (v := ?v179) (fun _ => ?y179) hHeld ?_
                              case y179 => go_simp; with_reducible rfl
                              simp only [sn]
                              refine ht0 39 214 (v := ?v180) (fun _ => ?y180) hHeld ?_
                              case y180 => go_simp; with_reducible rfl
                              simp only [sn]
                              refine ht0 40 215 (v := ?v181) (fun _ => ?y181) hHeld ?_
                              case y181 => go_simp; with_reducible rfl
                              simp only [sn]
                              refine ht0 41 216 (v := ?v182) (fun _ => ?y182) hHeld ?_
                              case y182 => go_simp; with_reducible rfl
                              simp only [sn]
                              refine ht0 42 217 (v := ?v183) (fun _ => ?y183) hHeld ?_
                              case y183 => go_simp; with_reducible rfl
                              simp only [sn]
                              refine ht0 43 218 (v := ?v184) (fun _ => ?y184) hHeld ?_
                              case y184 => go_simp; with_reducible rfl
                              simp only [sn]
                              refine ht0 44 219 (v := ?v185) (fun _ => ?y185) hHeld ?_
                              case y185 => go_simp; with_reducible rfl
                              simp only [sn]
                              refine ht0 45 220 (v := ?v186) (fun _ => ?y186) hHeld ?_
                              case y186 => go_simp; with_reducible rfl
                              simp only [sn]
                              refine ht 46 221 (v := ?v187) (fun _ hSw => ?y187) hHeld ?_
                              case y187 => have q0 := hSw.at h2 hgh8; clear hSw; go_simp; with_reducible rfl
                              simp only [sn]
                              refine ht0 47 222 (v := ?v188) (fun _ => ?y188) hHeld ?_
                              case y188 => go_simp; with_reducible rfl
                              simp only [sn]
                              refine ht 48 223 (v := ?v189) (fun _ hSw => ?y189) hHeld ?_
                              case y189 => have q0 := hSw.at z2n hXl9; clear hSw; go_simp; with_reducible rfl
                              simp only [sn]
                              refine wpAnyH_ready (rs := [49]) (by kernel_rfl) (by simp) ?_
                              refine AllReadyH.cons rfl (fun K hK => ?_) AllReadyH.nil
                              go_simp
                              go_wp2_with (go_at_call 8; refine (HBQ.out _ (by exact hHeld)).mono ?_; rintro e wb ⟨rfl, b8⟩)
                              refine hK.out _ _ (b8) (fun hHeld => ?_)
                              clear hK K
                              refine ht0 50 225 (v := ?v190) (fun _ => ?y190) hHeld ?_
                              case y190 => go_simp; with_reducible rfl
                              simp only [sn]
                              refine ht0 51 226 (v := ?v191) (fun _ => ?y191) hHeld ?_
                              case y191 => go_simp; with_reducible rfl
                              simp only [sn]
                              refine ht0 52 227 (v := ?v192) (fun _ => ?y192) hHeld ?_
                              case y192 => go_simp; with_reducible rfl
                              simp only [sn]
                              refine wpAnyH_ready (rs := [53]) (by kernel_rfl) (by simp) ?_
                              refine AllReadyH.cons rfl (fun K hK => ?_) AllReadyH.nil
                              go_simp
                              refine hK.out _ _ hHeld (fun hHeld => ?_)
                              clear hK K
                              refine wpAnyH_done (by kernel_rfl) ?_ _
                              go_wp2_with fail
                              go_meet
                              exact ⟨rfl, hHeld⟩
                        case rest =>
                          as_aux_lemma =>
                            obtain ⟨rfl, b11⟩ := hcut
                            generalize wc = w11 at *
                            have b11w := b10w.trans (b11.mono b10w.size)
                            go_wp2
                            exact ⟨⟨k + 1, hlt, by go_num, b11w⟩, by simp [intOf]; omega⟩
                  · obtain rfl : k = M := by omega
                    have hb9 := bb.trans (bw.mono bb.size)
                    go_wp2_with fail
                    refine (cutWakes_any _).mono ?_
                    rintro e w99 ⟨rfl, b99⟩
                    go_wp2
                    go_ret
                    exact ⟨rfl, hb9.trans (b99.mono hb9.size)⟩
  · rw [show okC c = false by simpa using hC] at H1
    clear ha
    go_wp2_with fail
    refine H1.mono ?_
    rintro e w1 ⟨rfl, b9⟩
    go_wp2
    go_ret
    exact ⟨rfl, bb.trans (b9.mono bb.size)⟩

end Go.Proofs.Ythpbiccgjpocaaa
