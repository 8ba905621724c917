/-
  HearBounds: the walk: whatever the configuration, the number, the round and the symbols, the law answers true, and nothing that lay has turned. (Written by tpl_hearbounds.py.)
-/
import Derived.Test.YtkigbanldiialaaGreatDoorM48
import Derived.Deep.Cut
import Derived.Deep.CutRange
import Derived.Deep.DeepCutAuto
namespace Go.Proofs.YtkigbanldiialaaGreatDoor
open Go.RowKit

set_option maxRecDepth 100000 in
set_option maxHeartbeats 16000000 in
theorem hearBounds_at (cq : Cfg) (seq round0 : Int) (la : Option Addr) (ln lc : Nat) (l : List (List Int)) (fa : Option Addr) (fn fc : Nat) (fs : List Int) (w : World) (hL : Texts w.heap.size w la ln l) (hfn : fs.length = fn) (hFS : Holds .i64 w.heap.size w (.slice fa fn fc) fs) (hF : Firsts w) :
    Calls Tryz.prog 5 #[.agg #[.int .i64 cq.cB, .int .i64 cq.cBeam, .int .i64 cq.cDepth, .int .i64 cq.cWin, .int .i64 cq.cQs, .int .i64 cq.cQr, .int .i64 cq.cBatch, .int .i64 cq.cPass, .int .i64 cq.cMsg, .int .i64 cq.cSeqs], .int .i64 seq, .int .i64 round0, .slice la ln lc, .slice fa fn fc] w fun e w' => e = .returned (.bool true) ∧ Below w.heap.size w w' := by
  have bb := ((Below.refl w.heap.size w).alloc (by first | exact Nat.le_refl _ | (simp; done) | (simp; omega)) (.cells #[.int .i64 cq.cB, .int .i64 cq.cBeam, .int .i64 cq.cDepth, .int .i64 cq.cWin, .int .i64 cq.cQs, .int .i64 cq.cQr, .int .i64 cq.cBatch, .int .i64 cq.cPass, .int .i64 cq.cMsg, .int .i64 cq.cSeqs] 23))
  have xC := (Box.new w 23 #[.int .i64 cq.cB, .int .i64 cq.cBeam, .int .i64 cq.cDepth, .int .i64 cq.cWin, .int .i64 cq.cQs, .int .i64 cq.cQr, .int .i64 cq.cBatch, .int .i64 cq.cPass, .int .i64 cq.cMsg, .int .i64 cq.cSeqs])
  go_enter Tryz.func5, Tryz.ntmps5
  have c0 := xC.cell 0 _ rfl
  have c1 := xC.cell 1 _ rfl
  have c2 := xC.cell 2 _ rfl
  have c3 := xC.cell 3 _ rfl
  have c4 := xC.cell 4 _ rfl
  have c5 := xC.cell 5 _ rfl
  have c6 := xC.cell 6 _ rfl
  have c7 := xC.cell 7 _ rfl
  have c8 := xC.cell 8 _ rfl
  have c9 := xC.cell 9 _ rfl
  have hltC := xC.lt
  go_wp2_with fail
  refine (small_any cq _).mono ?_
  rintro e w1 ⟨c, rfl, hSm, b9⟩
  replace xC := xC.next b9
  replace bb := bb.trans (b9.mono bb.size)
  clear b9 hltC c0 c1 c2 c3 c4 c5 c6 c7 c8 c9
  have c0 := xC.cell 0 _ rfl
  have c1 := xC.cell 1 _ rfl
  have c2 := xC.cell 2 _ rfl
  have c3 := xC.cell 3 _ rfl
  have c4 := xC.cell 4 _ rfl
  have c5 := xC.cell 5 _ rfl
  have c6 := xC.cell 6 _ rfl
  have c7 := xC.cell 7 _ rfl
  have c8 := xC.cell 8 _ rfl
  have c9 := xC.cell 9 _ rfl
  have u0 := xC.free 0
  have u1 := xC.free 1
  have u2 := xC.free 2
  have u3 := xC.free 3
  have u4 := xC.free 4
  have u5 := xC.free 5
  have u6 := xC.free 6
  have u7 := xC.free 7
  have u8 := xC.free 8
  have u9 := xC.free 9
  have hltC := xC.lt
  go_upto_region 2 with fail
  clear c0 u0 c1 u1 c2 u2 c3 u3 c4 u4 c5 u5 c6 u6 c7 u7 c8 u8 c9 u9 hltC
  have q9 := ((((((((((xC.set 0 (.int .i64 c.cB)).set 1 (.int .i64 c.cBeam)).set 2 (.int .i64 c.cDepth)).set 3 (.int .i64 c.cWin)).set 4 (.int .i64 c.cQs)).set 5 (.int .i64 c.cQr)).set 6 (.int .i64 c.cBatch)).set 7 (.int .i64 c.cPass)).set 8 (.int .i64 c.cMsg)).set 9 (.int .i64 c.cSeqs))
  simp only [sn] at q9
  replace bb := ((((((((((bb.setCell (p := ⟨w.heap.size, 0, none⟩) (Nat.le_refl _) (.int .i64 c.cB)).setCell (p := ⟨w.heap.size, 1, none⟩) (Nat.le_refl _) (.int .i64 c.cBeam)).setCell (p := ⟨w.heap.size, 2, none⟩) (Nat.le_refl _) (.int .i64 c.cDepth)).setCell (p := ⟨w.heap.size, 3, none⟩) (Nat.le_refl _) (.int .i64 c.cWin)).setCell (p := ⟨w.heap.size, 4, none⟩) (Nat.le_refl _) (.int .i64 c.cQs)).setCell (p := ⟨w.heap.size, 5, none⟩) (Nat.le_refl _) (.int .i64 c.cQr)).setCell (p := ⟨w.heap.size, 6, none⟩) (Nat.le_refl _) (.int .i64 c.cBatch)).setCell (p := ⟨w.heap.size, 7, none⟩) (Nat.le_refl _) (.int .i64 c.cPass)).setCell (p := ⟨w.heap.size, 8, none⟩) (Nat.le_refl _) (.int .i64 c.cMsg)).setCell (p := ⟨w.heap.size, 9, none⟩) (Nat.le_refl _) (.int .i64 c.cSeqs))
  generalize ((((((((((w1.setCell ⟨w.heap.size, 0, none⟩ (.int .i64 c.cB)).setCell ⟨w.heap.size, 1, none⟩ (.int .i64 c.cBeam)).setCell ⟨w.heap.size, 2, none⟩ (.int .i64 c.cDepth)).setCell ⟨w.heap.size, 3, none⟩ (.int .i64 c.cWin)).setCell ⟨w.heap.size, 4, none⟩ (.int .i64 c.cQs)).setCell ⟨w.heap.size, 5, none⟩ (.int .i64 c.cQr)).setCell ⟨w.heap.size, 6, none⟩ (.int .i64 c.cBatch)).setCell ⟨w.heap.size, 7, none⟩ (.int .i64 c.cPass)).setCell ⟨w.heap.size, 8, none⟩ (.int .i64 c.cMsg)).setCell ⟨w.heap.size, 9, none⟩ (.int .i64 c.cSeqs)) = W2 at *
  clear xC
  have hC := hSm.ok
  have HC : Hid (okC c = true) := hC
  obtain ⟨S, hS⟩ : ∃ S, segsC c = S := ⟨_, rfl⟩
  obtain ⟨n1, hn1⟩ : ∃ n, W2.heap.size = n := ⟨_, rfl⟩
  have hltC : w.heap.size < n1 := hn1 ▸ q9.lt
  have k0 : Hid (W2.cell? ⟨w.heap.size, 0, none⟩ = some (.int .i64 c.cB)) := q9.cell 0 _ rfl
  have k1 : Hid (W2.cell? ⟨w.heap.size, 1, none⟩ = some (.int .i64 c.cBeam)) := q9.cell 1 _ rfl
  have k2 : Hid (W2.cell? ⟨w.heap.size, 2, none⟩ = some (.int .i64 c.cDepth)) := q9.cell 2 _ rfl
  have k3 : Hid (W2.cell? ⟨w.heap.size, 3, none⟩ = some (.int .i64 c.cWin)) := q9.cell 3 _ rfl
  have k4 : Hid (W2.cell? ⟨w.heap.size, 4, none⟩ = some (.int .i64 c.cQs)) := q9.cell 4 _ rfl
  have k5 : Hid (W2.cell? ⟨w.heap.size, 5, none⟩ = some (.int .i64 c.cQr)) := q9.cell 5 _ rfl
  have k6 : Hid (W2.cell? ⟨w.heap.size, 6, none⟩ = some (.int .i64 c.cBatch)) := q9.cell 6 _ rfl
  have k7 : Hid (W2.cell? ⟨w.heap.size, 7, none⟩ = some (.int .i64 c.cPass)) := q9.cell 7 _ rfl
  have k8 : Hid (W2.cell? ⟨w.heap.size, 8, none⟩ = some (.int .i64 c.cMsg)) := q9.cell 8 _ rfl
  have k9 : Hid (W2.cell? ⟨w.heap.size, 9, none⟩ = some (.int .i64 c.cSeqs)) := q9.cell 9 _ rfl
  have HSG : Hid (∀ wx : World, Below n1 W2 wx → Calls Tryz.prog 8 #[.agg #[.int .i64 c.cB, .int .i64 c.cBeam, .int .i64 c.cDepth, .int .i64 c.cWin, .int .i64 c.cQs, .int .i64 c.cQr, .int .i64 c.cBatch, .int .i64 c.cPass, .int .i64 c.cMsg, .int .i64 c.cSeqs]] wx fun e w' => e = .returned (.int .i64 S) ∧ Below n1 W2 w') := fun wx hx => by
    have := refSegs_any c hC wx
    rw [hS] at this
    exact this.mono fun e w' ⟨h, b⟩ => ⟨h, hx.trans (b.mono (hn1 ▸ hx.size))⟩
  have HLI : Hid (∀ wx : World, Below n1 W2 wx → Calls Tryz.prog 7 #[.int .i64 S, .int .i64 c.cBeam, .int .i64 c.cDepth] wx fun e w' => ∃ G, e = .returned (.bool G) ∧ Below n1 W2 w') := fun wx hx => (light_any S c.cBeam c.cDepth wx).mono fun e w' ⟨h, b⟩ => h.elim (fun h => ⟨true, h, b ▸ hx⟩) (fun h => ⟨false, h, b ▸ hx⟩)
  clear hS
  go_cut [48] (fun v wx => ∃ G : Bool, v = .bool G ∧ (G = false → ln ≤ 12 ∧ 0 ≤ seq ∧ seq < 1073741824) ∧ Box wx w.heap.size 23 #[.int .i64 c.cB, .int .i64 c.cBeam, .int .i64 c.cDepth, .int .i64 c.cWin, .int .i64 c.cQs, .int .i64 c.cQr, .int .i64 c.cBatch, .int .i64 c.cPass, .int .i64 c.cMsg, .int .i64 c.cSeqs] ∧ Below w.heap.size w wx)
  case first =>
    by_cases hq0 : 12 < ln
    · have dz0 : decide ((12 : Int) < (ln : Int)) = true := decide_eq_true (by omega)
      have dn0 : decide (12 < ln) = true := decide_eq_true hq0
      as_aux_lemma =>
        refine wp_region_held_drew (S := fun w' => Below n1 W2 w') (by kernel_rfl) ((hn1 ▸ (Below.refl _ _).drew)) (fun hHeld => ?_)
        refine ht 0 23 (v := ?v1) (fun _ hSw => ?y1) hHeld ?_
        case y1 => have q0 := hSw.at k0.out hltC; have q1 := hSw.at k1.out hltC; have q2 := hSw.at k2.out hltC; have q3 := hSw.at k3.out hltC; have q4 := hSw.at k4.out hltC; have q5 := hSw.at k5.out hltC; have q6 := hSw.at k6.out hltC; have q7 := hSw.at k7.out hltC; have q8 := hSw.at k8.out hltC; have q9 := hSw.at k9.out hltC; clear hSw; go_simp; with_reducible rfl
        simp only [sn]
        refine ht0 2 25 (v := ?v2) (fun _ => ?y2) hHeld ?_
        case y2 => go_simp; with_reducible rfl
        simp only [sn]
        refine ht 3 26 (v := ?v3) (fun _ hSw => ?y3) hHeld ?_
        case y3 => have q0 := hSw.at k1.out hltC; clear hSw; go_simp; with_reducible rfl
        simp only [sn]
        refine ht0 4 27 (v := ?v4) (fun _ => ?y4) hHeld ?_
        case y4 => go_simp; with_reducible rfl
        simp only [sn]
        refine ht 5 28 (v := ?v5) (fun _ hSw => ?y5) hHeld ?_
        case y5 => have q0 := hSw.at k2.out hltC; clear hSw; go_simp; with_reducible rfl
        simp only [sn]
        refine wpAnyH_ready (rs := [1]) (by kernel_rfl) (by simp) ?_
        refine AllReadyH.cons rfl (fun K hK => ?_) AllReadyH.nil
        go_simp
        go_wp2_with (go_at_call 8; refine (HSG.out _ (by exact hHeld)).mono ?_; rintro e wb ⟨rfl, b8⟩)
        refine hK.out _ _ (b8) (fun hHeld => ?_)
        clear hK K
        refine wpAnyH_ready (rs := [6]) (by kernel_rfl) (by simp) ?_
        refine AllReadyH.cons rfl (fun K hK => ?_) AllReadyH.nil
        go_simp
        go_wp2_with (go_at_call 7; refine (HLI.out _ (by exact hHeld)).mono ?_; rintro e wb ⟨G, rfl, b8⟩)
        cases G
        · refine hK.out _ _ (b8) (fun hHeld => ?_)
          clear hK K
          refine ht0 7 30 (v := ?v6) (fun _ => ?y6) hHeld ?_
          case y6 => go_simp; with_reducible rfl
          simp only [sn]
          refine ht0 8 31 (v := ?v7) (fun _ => ?y7) hHeld ?_
          case y7 => go_simp; with_reducible rfl
          simp only [sn]
          refine hu 9 32 hHeld ?_
          simp only [sn]
          refine hu 10 33 hHeld ?_
          simp only [sn]
          refine hu 11 34 hHeld ?_
          simp only [sn]
          refine ht0 12 35 (v := ?v8) (fun _ => ?y8) hHeld ?_
          case y8 => go_simp; with_reducible rfl
          simp only [sn]
          refine ht0 13 36 (v := ?v9) (fun _ => ?y9) hHeld ?_
          case y9 => go_simp; with_reducible rfl
          simp only [sn]
          refine hu 14 37 hHeld ?_
          simp only [sn]
          refine hu 15 38 hHeld ?_
          simp only [sn]
          refine hu 16 39 hHeld ?_
          simp only [sn]
          refine ht0 17 40 (v := ?v10) (fun _ => ?y10) hHeld ?_
          case y10 => go_simp; with_reducible rfl
          simp only [sn]
          refine ht0 18 41 (v := ?v11) (fun _ => ?y11) hHeld ?_
          case y11 => go_simp; with_reducible rfl
          simp only [sn]
          refine hu 19 42 hHeld ?_
          simp only [sn]
          refine hu 20 43 hHeld ?_
          simp only [sn]
          refine ht0 21 44 (v := ?v12) (fun _ => ?y12) hHeld ?_
          case y12 => go_simp; with_reducible rfl
          simp only [sn]
          refine ht0 22 45 (v := ?v13) (fun _ => ?y13) hHeld ?_
          case y13 => go_simp; with_reducible rfl
          simp only [sn]
          refine hu 23 46 hHeld ?_
          simp only [sn]
          refine hu 24 47 hHeld ?_
          simp only [sn]
          refine wpAnyH_ready (rs := [25]) (by kernel_rfl) (by simp) ?_
          refine AllReadyH.cons rfl (fun K hK => ?_) AllReadyH.nil
          go_simp
          refine hK.out _ _ hHeld (fun hHeld => ?_)
          clear hK K
          refine wpAnyH_done (by kernel_rfl) ?_ _
          go_wp2_with fail
          go_meet
          exact ⟨true, rfl, (fun e => by cases e), q9.next (hn1 ▸ hHeld), bb.trans ((hn1 ▸ hHeld : Below W2.heap.size W2 _).mono bb.size)⟩
        · refine hK.out _ _ (b8) (fun hHeld => ?_)
          clear hK K
          refine ht0 7 30 (v := ?v14) (fun _ => ?y14) hHeld ?_
          case y14 => go_simp; with_reducible rfl
          simp only [sn]
          refine ht0 8 31 (v := ?v15) (fun _ => ?y15) hHeld ?_
          case y15 => go_simp; with_reducible rfl
          simp only [sn]
          refine ht0 9 32 (v := ?v16) (fun _ => ?y16) hHeld ?_
          case y16 => go_simp; with_reducible rfl
          simp only [sn]
          refine ht0 10 33 (v := ?v17) (fun _ => ?y17) hHeld ?_
          case y17 => go_simp; with_reducible rfl
          simp only [sn]
          refine ht0 11 34 (v := ?v18) (fun _ => ?y18) hHeld ?_
          case y18 => go_simp; with_reducible rfl
          simp only [sn]
          refine ht0 12 35 (v := ?v19) (fun _ => ?y19) hHeld ?_
          case y19 => go_simp; with_reducible rfl
          simp only [sn]
          refine ht0 13 36 (v := ?v20) (fun _ => ?y20) hHeld ?_
          case y20 => go_simp; with_reducible rfl
          simp only [sn]
          refine hu 14 37 hHeld ?_
          simp only [sn]
          refine hu 15 38 hHeld ?_
          simp only [sn]
          refine hu 16 39 hHeld ?_
          simp only [sn]
          refine ht0 17 40 (v := ?v21) (fun _ => ?y21) hHeld ?_
          case y21 => go_simp; with_reducible rfl
          simp only [sn]
          refine ht0 18 41 (v := ?v22) (fun _ => ?y22) hHeld ?_
          case y22 => go_simp; with_reducible rfl
          simp only [sn]
          refine hu 19 42 hHeld ?_
          simp only [sn]
          refine hu 20 43 hHeld ?_
          simp only [sn]
          refine ht0 21 44 (v := ?v23) (fun _ => ?y23) hHeld ?_
          case y23 => go_simp; with_reducible rfl
          simp only [sn]
          refine ht0 22 45 (v := ?v24) (fun _ => ?y24) hHeld ?_
          case y24 => go_simp; with_reducible rfl
          simp only [sn]
          refine hu 23 46 hHeld ?_
          simp only [sn]
          refine hu 24 47 hHeld ?_
          simp only [sn]
          refine wpAnyH_ready (rs := [25]) (by kernel_rfl) (by simp) ?_
          refine AllReadyH.cons rfl (fun K hK => ?_) AllReadyH.nil
          go_simp
          refine hK.out _ _ hHeld (fun hHeld => ?_)
          clear hK K
          refine wpAnyH_done (by kernel_rfl) ?_ _
          go_wp2_with fail
          go_meet
          exact ⟨true, rfl, (fun e => by cases e), q9.next (hn1 ▸ hHeld), bb.trans ((hn1 ▸ hHeld : Below W2.heap.size W2 _).mono bb.size)⟩
    have dz0 : decide ((12 : Int) < (ln : Int)) = false := decide_eq_false (by omega)
    have dn0 : decide (12 < ln) = false := decide_eq_false hq0
    by_cases hq1 : 100 < fn
    · have dz1 : decide ((100 : Int) < (fn : Int)) = true := decide_eq_true (by omega)
      have dn1 : decide (100 < fn) = true := decide_eq_true hq1
      as_aux_lemma =>
        refine wp_region_held_drew (S := fun w' => Below n1 W2 w') (by kernel_rfl) ((hn1 ▸ (Below.refl _ _).drew)) (fun hHeld => ?_)
        refine ht 0 23 (v := ?v25) (fun _ hSw => ?y25) hHeld ?_
        case y25 => have q0 := hSw.at k0.out hltC; have q1 := hSw.at k1.out hltC; have q2 := hSw.at k2.out hltC; have q3 := hSw.at k3.out hltC; have q4 := hSw.at k4.out hltC; have q5 := hSw.at k5.out hltC; have q6 := hSw.at k6.out hltC; have q7 := hSw.at k7.out hltC; have q8 := hSw.at k8.out hltC; have q9 := hSw.at k9.out hltC; clear hSw; go_simp; with_reducible rfl
        simp only [sn]
        refine ht0 2 25 (v := ?v26) (fun _ => ?y26) hHeld ?_
        case y26 => go_simp; with_reducible rfl
        simp only [sn]
        refine ht 3 26 (v := ?v27) (fun _ hSw => ?y27) hHeld ?_
        case y27 => have q0 := hSw.at k1.out hltC; clear hSw; go_simp; with_reducible rfl
        simp only [sn]
        refine ht0 4 27 (v := ?v28) (fun _ => ?y28) hHeld ?_
        case y28 => go_simp; with_reducible rfl
        simp only [sn]
        refine ht 5 28 (v := ?v29) (fun _ hSw => ?y29) hHeld ?_
        case y29 => have q0 := hSw.at k2.out hltC; clear hSw; go_simp; with_reducible rfl
        simp only [sn]
        refine wpAnyH_ready (rs := [1]) (by kernel_rfl) (by simp) ?_
        refine AllReadyH.cons rfl (fun K hK => ?_) AllReadyH.nil
        go_simp
        go_wp2_with (go_at_call 8; refine (HSG.out _ (by exact hHeld)).mono ?_; rintro e wb ⟨rfl, b8⟩)
        refine hK.out _ _ (b8) (fun hHeld => ?_)
        clear hK K
        refine wpAnyH_ready (rs := [6]) (by kernel_rfl) (by simp) ?_
        refine AllReadyH.cons rfl (fun K hK => ?_) AllReadyH.nil
        go_simp
        go_wp2_with (go_at_call 7; refine (HLI.out _ (by exact hHeld)).mono ?_; rintro e wb ⟨G, rfl, b8⟩)
        cases G
        · refine hK.out _ _ (b8) (fun hHeld => ?_)
          clear hK K
          refine ht0 7 30 (v := ?v30) (fun _ => ?y30) hHeld ?_
          case y30 => go_simp; with_reducible rfl
          simp only [sn]
          refine ht0 8 31 (v := ?v31) (fun _ => ?y31) hHeld ?_
          case y31 => go_simp; with_reducible rfl
          simp only [sn]
          refine hu 9 32 hHeld ?_
          simp only [sn]
          refine hu 10 33 hHeld ?_
          simp only [sn]
          refine hu 11 34 hHeld ?_
          simp only [sn]
          refine ht0 12 35 (v := ?v32) (fun _ => ?y32) hHeld ?_
          case y32 => go_simp; with_reducible rfl
          simp only [sn]
          refine ht0 13 36 (v := ?v33) (fun _ => ?y33) hHeld ?_
          case y33 => go_simp; with_reducible rfl
          simp only [sn]
          refine hu 14 37 hHeld ?_
          simp only [sn]
          refine hu 15 38 hHeld ?_
          simp only [sn]
          refine hu 16 39 hHeld ?_
          simp only [sn]
          refine ht0 17 40 (v := ?v34) (fun _ => ?y34) hHeld ?_
          case y34 => go_simp; with_reducible rfl
          simp only [sn]
          refine ht0 18 41 (v := ?v35) (fun _ => ?y35) hHeld ?_
          case y35 => go_simp; with_reducible rfl
          simp only [sn]
          refine hu 19 42 hHeld ?_
          simp only [sn]
          refine hu 20 43 hHeld ?_
          simp only [sn]
          refine ht0 21 44 (v := ?v36) (fun _ => ?y36) hHeld ?_
          case y36 => go_simp; with_reducible rfl
          simp only [sn]
          refine ht0 22 45 (v := ?v37) (fun _ => ?y37) hHeld ?_
          case y37 => go_simp; with_reducible rfl
          simp only [sn]
          refine hu 23 46 hHeld ?_
          simp only [sn]
          refine hu 24 47 hHeld ?_
          simp only [sn]
          refine wpAnyH_ready (rs := [25]) (by kernel_rfl) (by simp) ?_
          refine AllReadyH.cons rfl (fun K hK => ?_) AllReadyH.nil
          go_simp
          refine hK.out _ _ hHeld (fun hHeld => ?_)
          clear hK K
          refine wpAnyH_done (by kernel_rfl) ?_ _
          go_wp2_with fail
          go_meet
          exact ⟨true, rfl, (fun e => by cases e), q9.next (hn1 ▸ hHeld), bb.trans ((hn1 ▸ hHeld : Below W2.heap.size W2 _).mono bb.size)⟩
        · refine hK.out _ _ (b8) (fun hHeld => ?_)
          clear hK K
          refine ht0 7 30 (v := ?v38) (fun _ => ?y38) hHeld ?_
          case y38 => go_simp; with_reducible rfl
          simp only [sn]
          refine ht0 8 31 (v := ?v39) (fun _ => ?y39) hHeld ?_
          case y39 => go_simp; with_reducible rfl
          simp only [sn]
          refine ht0 9 32 (v := ?v40) (fun _ => ?y40) hHeld ?_
          case y40 => go_simp; with_reducible rfl
          simp only [sn]
          refine ht0 10 33 (v := ?v41) (fun _ => ?y41) hHeld ?_
          case y41 => go_simp; with_reducible rfl
          simp only [sn]
          refine ht0 11 34 (v := ?v42) (fun _ => ?y42) hHeld ?_
          case y42 => go_simp; with_reducible rfl
          simp only [sn]
          refine ht0 12 35 (v := ?v43) (fun _ => ?y43) hHeld ?_
          case y43 => go_simp; with_reducible rfl
          simp only [sn]
          refine ht0 13 36 (v := ?v44) (fun _ => ?y44) hHeld ?_
          case y44 => go_simp; with_reducible rfl
          simp only [sn]
          refine ht0 14 37 (v := ?v45) (fun _ => ?y45) hHeld ?_
          case y45 => go_simp; with_reducible rfl
          simp only [sn]
          refine ht0 15 38 (v := ?v46) (fun _ => ?y46) hHeld ?_
          case y46 => go_simp; with_reducible rfl
          simp only [sn]
          refine ht0 16 39 (v := ?v47) (fun _ => ?y47) hHeld ?_
          case y47 => go_simp; with_reducible rfl
          simp only [sn]
          refine ht0 17 40 (v := ?v48) (fun _ => ?y48) hHeld ?_
          case y48 => go_simp; with_reducible rfl
          simp only [sn]
          refine ht0 18 41 (v := ?v49) (fun _ => ?y49) hHeld ?_
          case y49 => go_simp; with_reducible rfl
          simp only [sn]
          refine hu 19 42 hHeld ?_
          simp only [sn]
          refine hu 20 43 hHeld ?_
          simp only [sn]
          refine ht0 21 44 (v := ?v50) (fun _ => ?y50) hHeld ?_
          case y50 => go_simp; with_reducible rfl
          simp only [sn]
          refine ht0 22 45 (v := ?v51) (fun _ => ?y51) hHeld ?_
          case y51 => go_simp; with_reducible rfl
          simp only [sn]
          refine hu 23 46 hHeld ?_
          simp only [sn]
          refine hu 24 47 hHeld ?_
          simp only [sn]
          refine wpAnyH_ready (rs := [25]) (by kernel_rfl) (by simp) ?_
          refine AllReadyH.cons rfl (fun K hK => ?_) AllReadyH.nil
          go_simp
          refine hK.out _ _ hHeld (fun hHeld => ?_)
          clear hK K
          refine wpAnyH_done (by kernel_rfl) ?_ _
          go_wp2_with fail
          go_meet
          exact ⟨true, rfl, (fun e => by cases e), q9.next (hn1 ▸ hHeld), bb.trans ((hn1 ▸ hHeld : Below W2.heap.size W2 _).mono bb.size)⟩
    have dz1 : decide ((100 : Int) < (fn : Int)) = false := decide_eq_false (by omega)
    have dn1 : decide (100 < fn) = false := decide_eq_false hq1
    by_cases hq2 : seq < 0
    · have dz2 : decide (seq < 0) = true := decide_eq_true (by omega)
      as_aux_lemma =>
        refine wp_region_held_drew (S := fun w' => Below n1 W2 w') (by kernel_rfl) ((hn1 ▸ (Below.refl _ _).drew)) (fun hHeld => ?_)
        refine ht 0 23 (v := ?v52) (fun _ hSw => ?y52) hHeld ?_
        case y52 => have q0 := hSw.at k0.out hltC; have q1 := hSw.at k1.out hltC; have q2 := hSw.at k2.out hltC; have q3 := hSw.at k3.out hltC; have q4 := hSw.at k4.out hltC; have q5 := hSw.at k5.out hltC; have q6 := hSw.at k6.out hltC; have q7 := hSw.at k7.out hltC; have q8 := hSw.at k8.out hltC; have q9 := hSw.at k9.out hltC; clear hSw; go_simp; with_reducible rfl
        simp only [sn]
        refine ht0 2 25 (v := ?v53) (fun _ => ?y53) hHeld ?_
        case y53 => go_simp; with_reducible rfl
        simp only [sn]
        refine ht 3 26 (v := ?v54) (fun _ hSw => ?y54) hHeld ?_
        case y54 => have q0 := hSw.at k1.out hltC; clear hSw; go_simp; with_reducible rfl
        simp only [sn]
        refine ht0 4 27 (v := ?v55) (fun _ => ?y55) hHeld ?_
        case y55 => go_simp; with_reducible rfl
        simp only [sn]
        refine ht 5 28 (v := ?v56) (fun _ hSw => ?y56) hHeld ?_
        case y56 => have q0 := hSw.at k2.out hltC; clear hSw; go_simp; with_reducible rfl
        simp only [sn]
        refine wpAnyH_ready (rs := [1]) (by kernel_rfl) (by simp) ?_
        refine AllReadyH.cons rfl (fun K hK => ?_) AllReadyH.nil
        go_simp
        go_wp2_with (go_at_call 8; refine (HSG.out _ (by exact hHeld)).mono ?_; rintro e wb ⟨rfl, b8⟩)
        refine hK.out _ _ (b8) (fun hHeld => ?_)
        clear hK K
        refine wpAnyH_ready (rs := [6]) (by kernel_rfl) (by simp) ?_
        refine AllReadyH.cons rfl (fun K hK => ?_) AllReadyH.nil
        go_simp
        go_wp2_with (go_at_call 7; refine (HLI.out _ (by exact hHeld)).mono ?_; rintro e wb ⟨G, rfl, b8⟩)
        cases G
        · refine hK.out _ _ (b8) (fun hHeld => ?_)
          clear hK K
          refine ht0 7 30 (v := ?v57) (fun _ => ?y57) hHeld ?_
          case y57 => go_simp; with_reducible rfl
          simp only [sn]
          refine ht0 8 31 (v := ?v58) (fun _ => ?y58) hHeld ?_
          case y58 => go_simp; with_reducible rfl
          simp only [sn]
          refine hu 9 32 hHeld ?_
          simp only [sn]
          refine hu 10 33 hHeld ?_
          simp only [sn]
          refine hu 11 34 hHeld ?_
          simp only [sn]
          refine ht0 12 35 (v := ?v59) (fun _ => ?y59) hHeld ?_
          case y59 => go_simp; with_reducible rfl
          simp only [sn]
          refine ht0 13 36 (v := ?v60) (fun _ => ?y60) hHeld ?_
          case y60 => go_simp; with_reducible rfl
          simp only [sn]
          refine hu 14 37 hHeld ?_
          simp only [sn]
          refine hu 15 38 hHeld ?_
          simp only [sn]
          refine hu 16 39 hHeld ?_
          simp only [sn]
          refine ht0 17 40 (v := ?v61) (fun _ => ?y61) hHeld ?_
          case y61 => go_simp; with_reducible rfl
          simp only [sn]
          refine ht0 18 41 (v := ?v62) (fun _ => ?y62) hHeld ?_
          case y62 => go_simp; with_reducible rfl
          simp only [sn]
          refine hu 19 42 hHeld ?_
          simp only [sn]
          refine hu 20 43 hHeld ?_
          simp only [sn]
          refine ht0 21 44 (v := ?v63) (fun _ => ?y63) hHeld ?_
          case y63 => go_simp; with_reducible rfl
          simp only [sn]
          refine ht0 22 45 (v := ?v64) (fun _ => ?y64) hHeld ?_
          case y64 => go_simp; with_reducible rfl
          simp only [sn]
          refine hu 23 46 hHeld ?_
          simp only [sn]
          refine hu 24 47 hHeld ?_
          simp only [sn]
          refine wpAnyH_ready (rs := [25]) (by kernel_rfl) (by simp) ?_
          refine AllReadyH.cons rfl (fun K hK => ?_) AllReadyH.nil
          go_simp
          refine hK.out _ _ hHeld (fun hHeld => ?_)
          clear hK K
          refine wpAnyH_done (by kernel_rfl) ?_ _
          go_wp2_with fail
          go_meet
          exact ⟨true, rfl, (fun e => by cases e), q9.next (hn1 ▸ hHeld), bb.trans ((hn1 ▸ hHeld : Below W2.heap.size W2 _).mono bb.size)⟩
        · refine hK.out _ _ (b8) (fun hHeld => ?_)
          clear hK K
          refine ht0 7 30 (v := ?v65) (fun _ => ?y65) hHeld ?_
          case y65 => go_simp; with_reducible rfl
          simp only [sn]
          refine ht0 8 31 (v := ?v66) (fun _ => ?y66) hHeld ?_
          case y66 => go_simp; with_reducible rfl
          simp only [sn]
          refine ht0 9 32 (v := ?v67) (fun _ => ?y67) hHeld ?_
          case y67 => go_simp; with_reducible rfl
          simp only [sn]
          refine ht0 10 33 (v := ?v68) (fun _ => ?y68) hHeld ?_
          case y68 => go_simp; with_reducible rfl
          simp only [sn]
          refine ht0 11 34 (v := ?v69) (fun _ => ?y69) hHeld ?_
          case y69 => go_simp; with_reducible rfl
          simp only [sn]
          refine ht0 12 35 (v := ?v70) (fun _ => ?y70) hHeld ?_
          case y70 => go_simp; with_reducible rfl
          simp only [sn]
          refine ht0 13 36 (v := ?v71) (fun _ => ?y71) hHeld ?_
          case y71 => go_simp; with_reducible rfl
          simp only [sn]
          refine ht0 14 37 (v := ?v72) (fun _ => ?y72) hHeld ?_
          case y72 => go_simp; with_reducible rfl
          simp only [sn]
          refine ht0 15 38 (v := ?v73) (fun _ => ?y73) hHeld ?_
          case y73 => go_simp; with_reducible rfl
          simp only [sn]
          refine ht0 16 39 (v := ?v74) (fun _ => ?y74) hHeld ?_
          case y74 => go_simp; with_reducible rfl
          simp only [sn]
          refine ht0 17 40 (v := ?v75) (fun _ => ?y75) hHeld ?_
          case y75 => go_simp; with_reducible rfl
          simp only [sn]
          refine ht0 18 41 (v := ?v76) (fun _ => ?y76) hHeld ?_
          case y76 => go_simp; with_reducible rfl
          simp only [sn]
          refine ht0 19 42 (v := ?v77) (fun _ => ?y77) hHeld ?_
          case y77 => go_simp; with_reducible rfl
          simp only [sn]
          refine ht0 20 43 (v := ?v78) (fun _ => ?y78) hHeld ?_
          case y78 => go_simp; with_reducible rfl
          simp only [sn]
          refine ht0 21 44 (v := ?v79) (fun _ => ?y79) hHeld ?_
          case y79 => go_simp; with_reducible rfl
          simp only [sn]
          refine ht0 22 45 (v := ?v80) (fun _ => ?y80) hHeld ?_
          case y80 => go_simp; with_reducible rfl
          simp only [sn]
          refine hu 23 46 hHeld ?_
          simp only [sn]
          refine hu 24 47 hHeld ?_
          simp only [sn]
          refine wpAnyH_ready (rs := [25]) (by kernel_rfl) (by simp) ?_
          refine AllReadyH.cons rfl (fun K hK => ?_) AllReadyH.nil
          go_simp
          refine hK.out _ _ hHeld (fun hHeld => ?_)
          clear hK K
          refine wpAnyH_done (by kernel_rfl) ?_ _
          go_wp2_with fail
          go_meet
          exact ⟨true, rfl, (fun e => by cases e), q9.next (hn1 ▸ hHeld), bb.trans ((hn1 ▸ hHeld : Below W2.heap.size W2 _).mono bb.size)⟩
    have dz2 : decide (seq < 0) = false := decide_eq_false (by omega)
    by_cases hq3 : 1073741824 ≤ seq
    · have dz3 : decide (1073741824 ≤ seq) = true := decide_eq_true (by omega)
      as_aux_lemma =>
        refine wp_region_held_drew (S := fun w' => Below n1 W2 w') (by kernel_rfl) ((hn1 ▸ (Below.refl _ _).drew)) (fun hHeld => ?_)
        refine ht 0 23 (v := ?v81) (fun _ hSw => ?y81) hHeld ?_
        case y81 => have q0 := hSw.at k0.out hltC; have q1 := hSw.at k1.out hltC; have q2 := hSw.at k2.out hltC; have q3 := hSw.at k3.out hltC; have q4 := hSw.at k4.out hltC; have q5 := hSw.at k5.out hltC; have q6 := hSw.at k6.out hltC; have q7 := hSw.at k7.out hltC; have q8 := hSw.at k8.out hltC; have q9 := hSw.at k9.out hltC; clear hSw; go_simp; with_reducible rfl
        simp only [sn]
        refine ht0 2 25 (v := ?v82) (fun _ => ?y82) hHeld ?_
        case y82 => go_simp; with_reducible rfl
        simp only [sn]
        refine ht 3 26 (v := ?v83) (fun _ hSw => ?y83) hHeld ?_
        case y83 => have q0 := hSw.at k1.out hltC; clear hSw; go_simp; with_reducible rfl
        simp only [sn]
        refine ht0 4 27 (v := ?v84) (fun _ => ?y84) hHeld ?_
        case y84 => go_simp; with_reducible rfl
        simp only [sn]
        refine ht 5 28 (v := ?v85) (fun _ hSw => ?y85) hHeld ?_
        case y85 => have q0 := hSw.at k2.out hltC; clear hSw; go_simp; with_reducible rfl
        simp only [sn]
        refine wpAnyH_ready (rs := [1]) (by kernel_rfl) (by simp) ?_
        refine AllReadyH.cons rfl (fun K hK => ?_) AllReadyH.nil
        go_simp
        go_wp2_with (go_at_call 8; refine (HSG.out _ (by exact hHeld)).mono ?_; rintro e wb ⟨rfl, b8⟩)
        refine hK.out _ _ (b8) (fun hHeld => ?_)
        clear hK K
        refine wpAnyH_ready (rs := [6]) (by kernel_rfl) (by simp) ?_
        refine AllReadyH.cons rfl (fun K hK => ?_) AllReadyH.nil
        go_simp
        go_wp2_with (go_at_call 7; refine (HLI.out _ (by exact hHeld)).mono ?_; rintro e wb ⟨G, rfl, b8⟩)
        cases G
        · refine hK.out _ _ (b8) (fun hHeld => ?_)
          clear hK K
          refine ht0 7 30 (v := ?v86) (fun _ => ?y86) hHeld ?_
          case y86 => go_simp; with_reducible rfl
          simp only [sn]
          refine ht0 8 31 (v := ?v87) (fun _ => ?y87) hHeld ?_
          case y87 => go_simp; with_reducible rfl
          simp only [sn]
          refine hu 9 32 hHeld ?_
          simp only [sn]
          refine hu 10 33 hHeld ?_
          simp only [sn]
          refine hu 11 34 hHeld ?_
          simp only [sn]
          refine ht0 12 35 (v := ?v88) (fun _ => ?y88) hHeld ?_
          case y88 => go_simp; with_reducible rfl
          simp only [sn]
          refine ht0 13 36 (v := ?v89) (fun _ => ?y89) hHeld ?_
          case y89 => go_simp; with_reducible rfl
          simp only [sn]
          refine hu 14 37 hHeld ?_
          simp only [sn]
          refine hu 15 38 hHeld ?_
          simp only [sn]
          refine hu 16 39 hHeld ?_
          simp only [sn]
          refine ht0 17 40 (v := ?v90) (fun _ => ?y90) hHeld ?_
          case y90 => go_simp; with_reducible rfl
          simp only [sn]
          refine ht0 18 41 (v := ?v91) (fun _ => ?y91) hHeld ?_
          case y91 => go_simp; with_reducible rfl
          simp only [sn]
          refine hu 19 42 hHeld ?_
          simp only [sn]
          refine hu 20 43 hHeld ?_
          simp only [sn]
          refine ht0 21 44 (v := ?v92) (fun _ => ?y92) hHeld ?_
          case y92 => go_simp; with_reducible rfl
          simp only [sn]
          refine ht0 22 45 (v := ?v93) (fun _ => ?y93) hHeld ?_
          case y93 => go_simp; with_reducible rfl
          simp only [sn]
          refine hu 23 46 hHeld ?_
          simp only [sn]
          refine hu 24 47 hHeld ?_
          simp only [sn]
          refine wpAnyH_ready (rs := [25]) (by kernel_rfl) (by simp) ?_
          refine AllReadyH.cons rfl (fun K hK => ?_) AllReadyH.nil
          go_simp
          refine hK.out _ _ hHeld (fun hHeld => ?_)
          clear hK K
          refine wpAnyH_done (by kernel_rfl) ?_ _
          go_wp2_with fail
          go_meet
          exact ⟨true, rfl, (fun e => by cases e), q9.next (hn1 ▸ hHeld), bb.trans ((hn1 ▸ hHeld : Below W2.heap.size W2 _).mono bb.size)⟩
        · refine hK.out _ _ (b8) (fun hHeld => ?_)
          clear hK K
          refine ht0 7 30 (v := ?v94) (fun _ => ?y94) hHeld ?_
          case y94 => go_simp; with_reducible rfl
          simp only [sn]
          refine ht0 8 31 (v := ?v95) (fun _ => ?y95) hHeld ?_
          case y95 => go_simp; with_reducible rfl
          simp only [sn]
          refine ht0 9 32 (v := ?v96) (fun _ => ?y96) hHeld ?_
          case y96 => go_simp; with_reducible rfl
          simp only [sn]
          refine ht0 10 33 (v := ?v97) (fun _ => ?y97) hHeld ?_
          case y97 => go_simp; with_reducible rfl
          simp only [sn]
          refine ht0 11 34 (v := ?v98) (fun _ => ?y98) hHeld ?_
          case y98 => go_simp; with_reducible rfl
          simp only [sn]
          refine ht0 12 35 (v := ?v99) (fun _ => ?y99) hHeld ?_
          case y99 => go_simp; with_reducible rfl
          simp only [sn]
          refine ht0 13 36 (v := ?v100) (fun _ => ?y100) hHeld ?_
          case y100 => go_simp; with_reducible rfl
          simp only [sn]
          refine ht0 14 37 (v := ?v101) (fun _ => ?y101) hHeld ?_
          case y101 => go_simp; with_reducible rfl
          simp only [sn]
          refine ht0 15 38 (v := ?v102) (fun _ => ?y102) hHeld ?_
          case y102 => go_simp; with_reducible rfl
          simp only [sn]
          refine ht0 16 39 (v := ?v103) (fun _ => ?y103) hHeld ?_
          case y103 => go_simp; with_reducible rfl
          simp only [sn]
          refine ht0 17 40 (v := ?v104) (fun _ => ?y104) hHeld ?_
          case y104 => go_simp; with_reducible rfl
          simp only [sn]
          refine ht0 18 41 (v := ?v105) (fun _ => ?y105) hHeld ?_
          case y105 => go_simp; with_reducible rfl
          simp only [sn]
          refine ht0 19 42 (v := ?v106) (fun _ => ?y106) hHeld ?_
          case y106 => go_simp; with_reducible rfl
          simp only [sn]
          refine ht0 20 43 (v := ?v107) (fun _ => ?y107) hHeld ?_
          case y107 => go_simp; with_reducible rfl
          simp only [sn]
          refine ht0 21 44 (v := ?v108) (fun _ => ?y108) hHeld ?_
          case y108 => go_simp; with_reducible rfl
          simp only [sn]
          refine ht0 22 45 (v := ?v109) (fun _ => ?y109) hHeld ?_
          case y109 => go_simp; with_reducible rfl
          simp only [sn]
          refine ht0 23 46 (v := ?v110) (fun _ => ?y110) hHeld ?_
          case y110 => go_simp; with_reducible rfl
          simp only [sn]
          refine ht0 24 47 (v := ?v111) (fun _ => ?y111) hHeld ?_
          case y111 => go_simp; with_reducible rfl
          simp only [sn]
          refine wpAnyH_ready (rs := [25]) (by kernel_rfl) (by simp) ?_
          refine AllReadyH.cons rfl (fun K hK => ?_) AllReadyH.nil
          go_simp
          refine hK.out _ _ hHeld (fun hHeld => ?_)
          clear hK K
          refine wpAnyH_done (by kernel_rfl) ?_ _
          go_wp2_with fail
          go_meet
          exact ⟨true, rfl, (fun e => by cases e), q9.next (hn1 ▸ hHeld), bb.trans ((hn1 ▸ hHeld : Below W2.heap.size W2 _).mono bb.size)⟩
    have dz3 : decide (1073741824 ≤ seq) = false := decide_eq_false (by omega)
    have hKP : ln ≤ 12 ∧ 0 ≤ seq ∧ seq < 1073741824 := by omega
    as_aux_lemma =>
      refine wp_region_held_drew (S := fun w' => Below n1 W2 w') (by kernel_rfl) ((hn1 ▸ (Below.refl _ _).drew)) (fun hHeld => ?_)
      refine ht 0 23 (v := ?v112) (fun _ hSw => ?y112) hHeld ?_
      case y112 => have q0 := hSw.at k0.out hltC; have q1 := hSw.at k1.out hltC; have q2 := hSw.at k2.out hltC; have q3 := hSw.at k3.out hltC; have q4 := hSw.at k4.out hltC; have q5 := hSw.at k5.out hltC; have q6 := hSw.at k6.out hltC; have q7 := hSw.at k7.out hltC; have q8 := hSw.at k8.out hltC; have q9 := hSw.at k9.out hltC; clear hSw; go_simp; with_reducible rfl
      simp only [sn]
      refine ht0 2 25 (v := ?v113) (fun _ => ?y113) hHeld ?_
      case y113 => go_simp; with_reducible rfl
      simp only [sn]
      refine ht 3 26 (v := ?v114) (fun _ hSw => ?y114) hHeld ?_
      case y114 => have q0 := hSw.at k1.out hltC; clear hSw; go_simp; with_reducible rfl
      simp only [sn]
      refine ht0 4 27 (v := ?v115) (fun _ => ?y115) hHeld ?_
      case y115 => go_simp; with_reducible rfl
      simp only [sn]
      refine ht 5 28 (v := ?v116) (fun _ hSw => ?y116) hHeld ?_
      case y116 => have q0 := hSw.at k2.out hltC; clear hSw; go_simp; with_reducible rfl
      simp only [sn]
      refine wpAnyH_ready (rs := [1]) (by kernel_rfl) (by simp) ?_
      refine AllReadyH.cons rfl (fun K hK => ?_) AllReadyH.nil
      go_simp
      go_wp2_with (go_at_call 8; refine (HSG.out _ (by exact hHeld)).mono ?_; rintro e wb ⟨rfl, b8⟩)
      refine hK.out _ _ (b8) (fun hHeld => ?_)
      clear hK K
      refine wpAnyH_ready (rs := [6]) (by kernel_rfl) (by simp) ?_
      refine AllReadyH.cons rfl (fun K hK => ?_) AllReadyH.nil
      go_simp
      go_wp2_with (go_at_call 7; refine (HLI.out _ (by exact hHeld)).mono ?_; rintro e wb ⟨G, rfl, b8⟩)
      cases G
      · refine hK.out _ _ (b8) (fun hHeld => ?_)
        clear hK K
        refine ht0 7 30 (v := ?v117) (fun _ => ?y117) hHeld ?_
        case y117 => go_simp; with_reducible rfl
        simp only [sn]
        refine ht0 8 31 (v := ?v118) (fun _ => ?y118) hHeld ?_
        case y118 => go_simp; with_reducible rfl
        simp only [sn]
        refine hu 9 32 hHeld ?_
        simp only [sn]
        refine hu 10 33 hHeld ?_
        simp only [sn]
        refine hu 11 34 hHeld ?_
        simp only [sn]
        refine ht0 12 35 (v := ?v119) (fun _ => ?y119) hHeld ?_
        case y119 => go_simp; with_reducible rfl
        simp only [sn]
        refine ht0 13 36 (v := ?v120) (fun _ => ?y120) hHeld ?_
        case y120 => go_simp; with_reducible rfl
        simp only [sn]
        refine hu 14 37 hHeld ?_
        simp only [sn]
        refine hu 15 38 hHeld ?_
        simp only [sn]
        refine hu 16 39 hHeld ?_
        simp only [sn]
        refine ht0 17 40 (v := ?v121) (fun _ => ?y121) hHeld ?_
        case y121 => go_simp; with_reducible rfl
        simp only [sn]
        refine ht0 18 41 (v := ?v122) (fun _ => ?y122) hHeld ?_
        case y122 => go_simp; with_reducible rfl
        simp only [sn]
        refine hu 19 42 hHeld ?_
        simp only [sn]
        refine hu 20 43 hHeld ?_
        simp only [sn]
        refine ht0 21 44 (v := ?v123) (fun _ => ?y123) hHeld ?_
        case y123 => go_simp; with_reducible rfl
        simp only [sn]
        refine ht0 22 45 (v := ?v124) (fun _ => ?y124) hHeld ?_
        case y124 => go_simp; with_reducible rfl
        simp only [sn]
        refine hu 23 46 hHeld ?_
        simp only [sn]
        refine hu 24 47 hHeld ?_
        simp only [sn]
        refine wpAnyH_ready (rs := [25]) (by kernel_rfl) (by simp) ?_
        refine AllReadyH.cons rfl (fun K hK => ?_) AllReadyH.nil
        go_simp
        refine hK.out _ _ hHeld (fun hHeld => ?_)
        clear hK K
        refine wpAnyH_done (by kernel_rfl) ?_ _
        go_wp2_with fail
        go_meet
        exact ⟨true, rfl, (fun e => by cases e), q9.next (hn1 ▸ hHeld), bb.trans ((hn1 ▸ hHeld : Below W2.heap.size W2 _).mono bb.size)⟩
      · refine hK.out _ _ (b8) (fun hHeld => ?_)
        clear hK K
        refine ht0 7 30 (v := ?v125) (fun _ => ?y125) hHeld ?_
        case y125 => go_simp; with_reducible rfl
        simp only [sn]
        refine ht0 8 31 (v := ?v126) (fun _ => ?y126) hHeld ?_
        case y126 => go_simp; with_reducible rfl
        simp only [sn]
        refine ht0 9 32 (v := ?v127) (fun _ => ?y127) hHeld ?_
        case y127 => go_simp; with_reducible rfl
        simp only [sn]
        refine ht0 10 33 (v := ?v128) (fun _ => ?y128) hHeld ?_
        case y128 => go_simp; with_reducible rfl
        simp only [sn]
        refine ht0 11 34 (v := ?v129) (fun _ => ?y129) hHeld ?_
        case y129 => go_simp; with_reducible rfl
        simp only [sn]
        refine ht0 12 35 (v := ?v130) (fun _ => ?y130) hHeld ?_
        case y130 => go_simp; with_reducible rfl
        simp only [sn]
        refine ht0 13 36 (v := ?v131) (fun _ => ?y131) hHeld ?_
        case y131 => go_simp; with_reducible rfl
        simp only [sn]
        refine ht0 14 37 (v := ?v132) (fun _ => ?y132) hHeld ?_
        case y132 => go_simp; with_reducible rfl
        simp only [sn]
        refine ht0 15 38 (v := ?v133) (fun _ => ?y133) hHeld ?_
        case y133 => go_simp; with_reducible rfl
        simp only [sn]
        refine ht0 16 39 (v := ?v134) (fun _ => ?y134) hHeld ?_
        case y134 => go_simp; with_reducible rfl
        simp only [sn]
        refine ht0 17 40 (v := ?v135) (fun _ => ?y135) hHeld ?_
        case y135 => go_simp; with_reducible rfl
        simp only [sn]
        refine ht0 18 41 (v := ?v136) (fun _ => ?y136) hHeld ?_
        case y136 => go_simp; with_reducible rfl
        simp only [sn]
        refine ht0 19 42 (v := ?v137) (fun _ => ?y137) hHeld ?_
        case y137 => go_simp; with_reducible rfl
        simp only [sn]
        refine ht0 20 43 (v := ?v138) (fun _ => ?y138) hHeld ?_
        case y138 => go_simp; with_reducible rfl
        simp only [sn]
        refine ht0 21 44 (v := ?v139) (fun _ => ?y139) hHeld ?_
        case y139 => go_simp; with_reducible rfl
        simp only [sn]
        refine ht0 22 45 (v := ?v140) (fun _ => ?y140) hHeld ?_
        case y140 => go_simp; with_reducible rfl
        simp only [sn]
        refine ht0 23 46 (v := ?v141) (fun _ => ?y141) hHeld ?_
        case y141 => go_simp; with_reducible rfl
        simp only [sn]
        refine ht0 24 47 (v := ?v142) (fun _ => ?y142) hHeld ?_
        case y142 => go_simp; with_reducible rfl
        simp only [sn]
        refine wpAnyH_ready (rs := [25]) (by kernel_rfl) (by simp) ?_
        refine AllReadyH.cons rfl (fun K hK => ?_) AllReadyH.nil
        go_simp
        refine hK.out _ _ hHeld (fun hHeld => ?_)
        clear hK K
        refine wpAnyH_done (by kernel_rfl) ?_ _
        go_wp2_with fail
        go_meet
        exact ⟨false, rfl, (fun _ => hKP), q9.next (hn1 ▸ hHeld), bb.trans ((hn1 ▸ hHeld : Below W2.heap.size W2 _).mono bb.size)⟩
  case rest =>
    clear q9 bb hn1 hltC HSG HLI  k0 k1 k2 k3 k4 k5 k6 k7 k8 k9
    obtain ⟨G, rfl, hG0, xC, bb⟩ := hcut
    generalize wc = w2 at *
    cases G with
    | true =>
      go_wp2
      go_ret
      exact ⟨rfl, bb⟩
    | false =>
      have hKP := hG0 rfl
      clear hG0 hC S
      have HSQ : Hid (0 ≤ seq ∧ seq < 1073741824) := hKP.2
      have HLN : Hid (ln ≤ 12) := hKP.1
      have HF0 : Hid (Firsts w) := hF
      have HL : Hid (Texts w.heap.size w la ln l) := hL
      have HFS : Hid (Holds .i64 w.heap.size w (.slice fa fn fc) fs) := hFS
      have HFN : Hid (fs.length = fn) := hfn
      have HMO : Hid (88 ≤ mostC c ∧ mostC c ≤ 182) := small_most hSm
      obtain ⟨ro, hro, ro0, ro1⟩ := mod_u64 round0 256 (by decide) (by decide)
      clear hL hF hFS hfn hKP hSm
      have lxC := xC.lt
      have cxC0 := xC.cell 0 _ rfl
      have cxC1 := xC.cell 1 _ rfl
      have cxC2 := xC.cell 2 _ rfl
      have cxC3 := xC.cell 3 _ rfl
      have cxC4 := xC.cell 4 _ rfl
      have cxC5 := xC.cell 5 _ rfl
      have cxC6 := xC.cell 6 _ rfl
      have cxC7 := xC.cell 7 _ rfl
      have cxC8 := xC.cell 8 _ rfl
      have cxC9 := xC.cell 9 _ rfl
      go_wp2_with fail
      refine (newV c HC.out seq HSQ.out.1 _).mono ?_
      rintro e w3 ⟨N0, P0, a0, cap0, b0, bc0, rfl, h7, b9⟩
      clear cxC0 cxC1 cxC2 cxC3 cxC4 cxC5 cxC6 cxC7 cxC8 cxC9
      replace xC := xC.next b9
      replace bb := bb.trans (b9.mono bb.size)
      clear b9
      clear lxC
      have HW3 : Hid (w.heap.size < w3.heap.size) := xC.lt
      have b9 : Below w3.heap.size w3 (w3.alloc (.cells #[.int .i64 seq, .int .i64 (-1), .int .i64 N0, .int .i64 P0, .slice a0 0 cap0, .bool false, .slice b0 0 bc0] 39)) := (Below.refl _ _).alloc (Nat.le_refl _) _
      have x7 := Box.new w3 39 #[.int .i64 seq, .int .i64 (-1), .int .i64 N0, .int .i64 P0, .slice a0 0 cap0, .bool false, .slice b0 0 bc0]
      replace xC := xC.next b9
      replace h7 := h7.next b9
      replace bb := bb.trans (b9.mono bb.size)
      clear b9
      go_wp2
      obtain ⟨B7, hB7⟩ : ∃ B, w3.heap.size = B := ⟨_, rfl⟩
      have HW7 : Hid (w.heap.size < B7) := by have := HW3.out; rw [hB7] at this; exact this
      rw [hB7] at x7 ⊢
      clear hB7
      generalize w3.alloc (.cells #[.int .i64 seq, .int .i64 (-1), .int .i64 N0, .int .i64 P0, .slice a0 0 cap0, .bool false, .slice b0 0 bc0] 39) = w4 at *
      try rw [hro]
      go_loopw [13] (fun v wr => ∃ (i : Nat) (h : Hr) (R N P : Int) (a : Option Addr) (n cap : Nat) (D : Bool) (b : Option Addr) (m bc : Nat), i ≤ ln ∧ v = .int .i64 (i : Int) ∧ Box wr B7 39 #[.int .i64 seq, .int .i64 R, .int .i64 N, .int .i64 P, .slice a n cap, .bool D, .slice b m bc] ∧ At7 0 wr h seq R N P a n cap D b m bc ∧ okH c h ∧ Box wr w.heap.size 23 #[.int .i64 c.cB, .int .i64 c.cBeam, .int .i64 c.cDepth, .int .i64 c.cWin, .int .i64 c.cQs, .int .i64 c.cQr, .int .i64 c.cBatch, .int .i64 c.cPass, .int .i64 c.cMsg, .int .i64 c.cSeqs] ∧ Below w.heap.size w wr) (fun v _ => ln - (intOf v).toNat)
      case atStart => exact ⟨0, newH c seq, -1, N0, P0, a0, 0, cap0, false, b0, 0, bc0, Nat.zero_le _, rfl, x7, h7.base (Nat.zero_le _), newH_ok HC.out HSQ.out.1, xC, bb⟩
      case round =>
        clear x7 h7 xC bb hro
        obtain ⟨i, h, R, N, P, a, n, cap, D, b, m, bc, hi, rfl, x7, h7, hk, xC, bb⟩ := hrel
        generalize wr = w20 at *
        by_cases hlt : i < ln
        · as_aux_lemma =>
            have dlt : decide ((i : Int) < (ln : Int)) = true := decide_eq_true (by omega)
            have dltn : decide (i < ln) = true := decide_eq_true hlt
            have q5 : IntKind.i64.wrap ((i : Int) + 1) = ((i + 1 : Nat) : Int) := by have h9 := HLN.out; rw [IntKind.wrap_i64]; omega
            skip
            obtain ⟨xs, hd⟩ : ∃ d, l[i]? = some d := ⟨_, List.getElem?_eq_getElem (by rw [HL.out.1]; exact hlt)⟩
            obtain ⟨lb, off, xa, xc, hla, hlb, e0, hX, hxc, bx⟩ := (HL.out.next bb).2 i _ hd
            subst hla
            have hltl : lb < w20.heap.size := by have := bb.size; omega
            replace hX := hX.mono (n₁ := w20.heap.size) bb.size
            clear hd
            obtain ⟨xn, hxn⟩ : ∃ n, xs.length = n := ⟨_, rfl⟩
            rw [hxn] at e0 hX hxc
            have HXN : Hid (xs.length = xn) := hxn
            have HBX : Hid (∀ z ∈ xs, 0 ≤ z ∧ z ≤ 255) := bx
            have HE0 : Hid (w20.cell? ⟨lb, off + i, none⟩ = some (.slice xa xn xc)) := e0
            clear hxn bx
            by_cases p1 : xn < 1
            · have dp1 : decide ((xn : Int) < 1) = true := decide_eq_true (by omega)
              have dnp1 : decide (xn < 1) = true := decide_eq_true p1
              go_wp2
              go_ret
              exact ⟨rfl, bb⟩
            have dp1 : decide ((xn : Int) < 1) = false := decide_eq_false (by omega)
            have dnp1 : decide (xn < 1) = false := decide_eq_false p1
            by_cases p2 : 64 < xn
            · have dp2 : decide ((64 : Int) < (xn : Int)) = true := decide_eq_true (by omega)
              have dnp2 : decide (64 < xn) = true := decide_eq_true p2
              go_wp2
              go_ret
              exact ⟨rfl, bb⟩
            have dp2 : decide ((64 : Int) < (xn : Int)) = false := decide_eq_false (by omega)
            have dnp2 : decide (64 < xn) = false := decide_eq_false p2
            have HXL : Hid (1 ≤ xn ∧ xn ≤ 64) := (by omega : 1 ≤ xn ∧ xn ≤ 64)
            clear p1 p2
            go_upto_if 84 with fail
            clear dp1 dnp1 dp2 dnp2 e0 dlt dltn
            obtain ⟨nq1, hnq1⟩ : ∃ n, w20.heap.size = n := ⟨_, rfl⟩
            have hl_xC : w.heap.size < nq1 := hnq1 ▸ xC.lt
            have m_xC0 : Hid (w20.cell? ⟨w.heap.size, 0, none⟩ = some (.int .i64 c.cB)) := xC.cell 0 _ rfl
            have m_xC1 : Hid (w20.cell? ⟨w.heap.size, 1, none⟩ = some (.int .i64 c.cBeam)) := xC.cell 1 _ rfl
            have m_xC2 : Hid (w20.cell? ⟨w.heap.size, 2, none⟩ = some (.int .i64 c.cDepth)) := xC.cell 2 _ rfl
            have m_xC3 : Hid (w20.cell? ⟨w.heap.size, 3, none⟩ = some (.int .i64 c.cWin)) := xC.cell 3 _ rfl
            have m_xC4 : Hid (w20.cell? ⟨w.heap.size, 4, none⟩ = some (.int .i64 c.cQs)) := xC.cell 4 _ rfl
            have m_xC5 : Hid (w20.cell? ⟨w.heap.size, 5, none⟩ = some (.int .i64 c.cQr)) := xC.cell 5 _ rfl
            have m_xC6 : Hid (w20.cell? ⟨w.heap.size, 6, none⟩ = some (.int .i64 c.cBatch)) := xC.cell 6 _ rfl
            have m_xC7 : Hid (w20.cell? ⟨w.heap.size, 7, none⟩ = some (.int .i64 c.cPass)) := xC.cell 7 _ rfl
            have m_xC8 : Hid (w20.cell? ⟨w.heap.size, 8, none⟩ = some (.int .i64 c.cMsg)) := xC.cell 8 _ rfl
            have m_xC9 : Hid (w20.cell? ⟨w.heap.size, 9, none⟩ = some (.int .i64 c.cSeqs)) := xC.cell 9 _ rfl
            have HMR : Hid (∀ wx : World, Below nq1 w20 wx → Calls Tryz.prog 13 #[.agg #[.int .i64 c.cB, .int .i64 c.cBeam, .int .i64 c.cDepth, .int .i64 c.cWin, .int .i64 c.cQs, .int .i64 c.cQr, .int .i64 c.cBatch, .int .i64 c.cPass, .int .i64 c.cMsg, .int .i64 c.cSeqs]] wx fun e w' => e = .returned (.int .i64 (mostC c)) ∧ Below nq1 w20 w') := fun wx hx => (refMost_any c HC.out wx).mono fun e w' ⟨h, b⟩ => ⟨h, hx.trans (b.mono (hnq1 ▸ hx.size))⟩
            go_cut [14] (fun v wx => ∃ f : Int, v = .int .i64 f ∧ (0 ≤ f ∧ f ≤ 65535) ∧ Below nq1 w20 wx)
            case first =>
              by_cases hif : i < fn
              · have dif : decide ((i : Int) < (fn : Int)) = true := decide_eq_true (by omega)
                have difn : decide (i < fn) = true := decide_eq_true hif
                obtain ⟨fb, fo, hfa, hfb, hfz⟩ : ∃ fb fo, fa = some ⟨fb, fo, none⟩ ∧ fb < nq1 ∧ w20.cell? ⟨fb, fo + i, none⟩ = some (.int .i64 (fs[i]?.getD 0)) := by
                  rcases HFS.out.next bb with ⟨_, e⟩ | ⟨fb, fo, c9, e, hlt9, hc9⟩
                  · exfalso; have h9 := HFN.out; rw [e] at h9; simp only [List.length_nil] at h9; omega
                  · simp only [Value.slice.injEq] at e
                    exact ⟨fb, fo, e.1, hnq1 ▸ hlt9, hc9 i (by have := HFN.out; omega)⟩
                subst hfa
                obtain ⟨z, hz⟩ : ∃ z, fs[i]?.getD 0 = z := ⟨_, rfl⟩
                rw [hz] at hfz
                clear hz
                obtain ⟨M, hM⟩ : ∃ M, mostC c = M := ⟨_, rfl⟩
                have hmo := HMO.out
                rw [hM] at hmo HMR
                obtain ⟨fr, hfr, fr0, fr1⟩ := mod_u64 z (M + 20) (by omega) (by omega)
                have wM : IntKind.i64.wrap (M + 20) = M + 20 := by rw [IntKind.wrap_i64]; omega
                have wU : IntKind.u64.wrap (M + 20) = M + 20 := by rw [IntKind.wrap_u64]; omega
                have nz : (M + 20 == 0) = false := by rw [beq_eq_false_iff_ne]; omega
                have nz2 : M + 20 ≠ 0 := by omega
                have HFR2 : Hid (0 ≤ fr ∧ fr ≤ 65535) := (by omega : 0 ≤ fr ∧ fr ≤ 65535)
                clear hM hmo fr0 fr1
                go_upto_region 15 with fail
                as_aux_lemma =>
                  refine wp_region_held_drew (S := fun w' => Below nq1 w20 w') (by kernel_rfl) (below_drew_of hnq1) (fun hHeld => ?_)
                  refine ht0 0 85 (v := ?v143) (fun _ => ?y143) hHeld ?_
                  case y143 => go_simp; with_reducible rfl
                  simp only [sn]
                  refine ht0 1 86 (v := ?v144) (fun _ => ?y144) hHeld ?_
                  case y144 => go_simp; with_reducible rfl
                  simp only [sn]
                  refine ht0 2 87 (v := ?v145) (fun _ => ?y145) hHeld ?_
                  case y145 => go_simp; with_reducible rfl
                  simp only [sn]
                  refine ht 3 88 (v := ?v146) (fun _ hSw => ?y146) hHeld ?_
                  case y146 => have q0 := hSw.at hfz hfb; clear hSw; go_simp; with_reducible rfl
                  simp only [sn]
                  refine ht0 4 89 (v := ?v147) (fun _ => ?y147) hHeld ?_
                  case y147 => go_simp; with_reducible rfl
                  simp only [sn]
                  refine ht 5 90 (v := ?v148) (fun _ hSw => ?y148) hHeld ?_
                  case y148 => have q0 := hSw.at m_xC0.out hl_xC; have q1 := hSw.at m_xC1.out hl_xC; have q2 := hSw.at m_xC2.out hl_xC; have q3 := hSw.at m_xC3.out hl_xC; have q4 := hSw.at m_xC4.out hl_xC; have q5 := hSw.at m_xC5.out hl_xC; have q6 := hSw.at m_xC6.out hl_xC; have q7 := hSw.at m_xC7.out hl_xC; have q8 := hSw.at m_xC8.out hl_xC; have q9 := hSw.at m_xC9.out hl_xC; clear hSw; go_simp; with_reducible rfl
                  simp only [sn]
                  refine wpAnyH_ready (rs := [6]) (by kernel_rfl) (by simp) ?_
                  refine AllReadyH.cons rfl (fun K hK => ?_) AllReadyH.nil
                  go_simp
                  go_wp2_with (go_at_call 13; refine (HMR.out _ (by exact hHeld)).mono ?_; rintro e wb ⟨rfl, b8⟩)
                  refine hK.out _ _ (b8) (fun hHeld => ?_)
                  clear hK K
                  refine ht0 7 92 (v := ?v149) (fun _ => ?y149) hHeld ?_
                  case y149 => go_simp; with_reducible rfl
                  simp only [sn]
                  refine ht0 8 93 (v := ?v150) (fun _ => ?y150) hHeld ?_
                  case y150 => go_simp; with_reducible rfl
                  simp only [sn]
                  refine ht0 9 94 (v := ?v151) (fun _ => ?y151) hHeld ?_
                  case y151 => go_simp; with_reducible rfl
                  simp only [sn]
                  refine ht0 10 95 (v := ?v152) (fun _ => ?y152) hHeld ?_
                  case y152 => go_simp; with_reducible rfl
                  simp only [sn]
                  refine wpAnyH_ready (rs := [11]) (by kernel_rfl) (by simp) ?_
                  refine AllReadyH.cons rfl (fun K hK => ?_) AllReadyH.nil
                  go_simp
                  refine hK.out _ _ hHeld (fun hHeld => ?_)
                  clear hK K
                  refine wpAnyH_done (by kernel_rfl) ?_ _
                  go_wp2_with fail
                  go_meet
                  exact ⟨fr, congrArg _ (by have h9 := hfr; unfold wrap64 at h9; rw [IntKind.wrap_i64]; exact h9), HFR2.out, hHeld⟩
              · have dif : decide ((i : Int) < (fn : Int)) = false := decide_eq_false (by omega)
                have difn : decide (i < fn) = false := decide_eq_false hif
                go_wp2_with fail
                go_meet
                exact ⟨0, rfl, by decide, below_same_of hnq1⟩
            case rest =>
              as_aux_lemma =>
                obtain ⟨f, rfl, hff, b9⟩ := hcut
                have HFF : Hid (0 ≤ f ∧ f ≤ 65535) := hff
                clear hff
                replace b9 : Below w20.heap.size w20 wc := hnq1 ▸ b9
                have HE2 : Hid (wc.cell? ⟨lb, off + i, none⟩ = some (.slice xa xn xc)) := (b9.cell (p := ⟨lb, off + i, none⟩) hltl).trans HE0.out
                replace hltl : lb < wc.heap.size := Nat.lt_of_lt_of_le hltl b9.size
                generalize hwc : wc = w21 at *
                clear hwc HE0 hnq1 hl_xC m_xC0 m_xC1 m_xC2 m_xC3 m_xC4 m_xC5 m_xC6 m_xC7 m_xC8 m_xC9 HMR
                replace x7 := x7.next b9
                replace h7 := h7.next b9
                replace xC := xC.next b9
                replace hX := hX.next b9
                replace bb := bb.trans (b9.mono bb.size)
                clear b9
                have e0 := HE2.out
                have dlt : decide (i < ln) = true := decide_eq_true hlt
                go_upto_region 17 with fail
                clear e0 dlt
                have HE3 : Hid (∀ wx : World, Below w21.heap.size w21 wx → wx.cell? ⟨lb, off + i, none⟩ = some (.slice xa xn xc)) := fun wx hx => (hx.cell (p := ⟨lb, off + i, none⟩) hltl).trans HE2.out
                obtain ⟨w21q, hw21q⟩ : ∃ W, w21 = W := ⟨_, rfl⟩
                have bk : Below w21.heap.size w21 w21 := Below.refl _ _
                have HLL : Hid (lb < w21.heap.size) := hltl
                clear hltl HE2 hw21q
                have b9 : Below w21.heap.size w21 (w21.alloc (.cells #[.int .i64 seq, .int .i64 ro, .int .i64 f, .slice xa xn xc] 48)) := (Below.refl _ _).alloc (Nat.le_refl _) _
                have x10 := Box.new w21 48 #[.int .i64 seq, .int .i64 ro, .int .i64 f, .slice xa xn xc]
                replace x7 := x7.next b9
                replace h7 := h7.next b9
                replace xC := xC.next b9
                replace hX := hX.next b9
                replace bb := bb.trans (b9.mono bb.size)
                replace bk := bk.trans (b9.mono bk.size)
                clear b9
                obtain ⟨B10, hB10⟩ : ∃ B, w21.heap.size = B := ⟨_, rfl⟩
                rw [hB10] at x10 ⊢
                clear hB10
                generalize w21.alloc (.cells #[.int .i64 seq, .int .i64 ro, .int .i64 f, .slice xa xn xc] 48) = w22 at *
                have HR1 : Hid (RightD seq ro f xs) := (⟨HSQ.out, by omega, HFF.out, by rw [HXN.out]; exact HXL.out.1, by rw [HXN.out]; exact HXL.out.2⟩ : RightD seq ro f xs)
                have HOX : Hid (okX ro f xs) := (⟨by omega, HFF.out.1, HBX.out⟩ : okX ro f xs)
                have HB7 : Hid (B7 < w22.heap.size) := x7.lt
                have lxC := xC.lt
                have lx7 := x7.lt
                have lx10 := x10.lt
                have cxC0 := xC.cell 0 _ rfl
                have cxC1 := xC.cell 1 _ rfl
                have cxC2 := xC.cell 2 _ rfl
                have cxC3 := xC.cell 3 _ rfl
                have cxC4 := xC.cell 4 _ rfl
                have cxC5 := xC.cell 5 _ rfl
                have cxC6 := xC.cell 6 _ rfl
                have cxC7 := xC.cell 7 _ rfl
                have cxC8 := xC.cell 8 _ rfl
                have cxC9 := xC.cell 9 _ rfl
                have cx70 := x7.cell 0 _ rfl
                have cx71 := x7.cell 1 _ rfl
                have cx72 := x7.cell 2 _ rfl
                have cx73 := x7.cell 3 _ rfl
                have cx74 := x7.cell 4 _ rfl
                have cx75 := x7.cell 5 _ rfl
                have cx76 := x7.cell 6 _ rfl
                have cx100 := x10.cell 0 _ rfl
                have cx101 := x10.cell 1 _ rfl
                have cx102 := x10.cell 2 _ rfl
                have cx103 := x10.cell 3 _ rfl
                go_wp2_with fail
                refine (takeV c HC.out h hk ro f xs xa xn xc HXN.out _ h7 HR1.out hX hxc HBX.out (HF0.out.next bb)).mono ?_
                rintro e w23 ⟨R2, N2, P2, a2, n2, cap2, D2, b2, m2, bc2, i2, g, rfl, hT2, hkg, h2, b9⟩
                clear cxC0 cxC1 cxC2 cxC3 cxC4 cxC5 cxC6 cxC7 cxC8 cxC9
                clear cx70 cx71 cx72 cx73 cx74 cx75 cx76
                clear cx100 cx101 cx102 cx103
                replace x7 := x7.next b9
                replace h7 := h7.next b9
                replace xC := xC.next b9
                replace hX := hX.next b9
                replace x10 := x10.next b9
                replace bb := bb.trans (b9.mono bb.size)
                replace bk := bk.trans (b9.mono bk.size)
                clear b9
                clear lxC lx7 lx10
                have b9 : Below w23.heap.size w23 (w23.alloc (.cells #[.int .i64 seq, .int .i64 R2, .int .i64 N2, .int .i64 P2, .slice a2 n2 cap2, .bool D2, .slice b2 m2 bc2] 39)) := (Below.refl _ _).alloc (Nat.le_refl _) _
                have x11 := Box.new w23 39 #[.int .i64 seq, .int .i64 R2, .int .i64 N2, .int .i64 P2, .slice a2 n2 cap2, .bool D2, .slice b2 m2 bc2]
                replace x7 := x7.next b9
                replace h7 := h7.next b9
                replace xC := xC.next b9
                replace hX := hX.next b9
                replace x10 := x10.next b9
                replace h2 := h2.next b9
                replace bb := bb.trans (b9.mono bb.size)
                replace bk := bk.trans (b9.mono bk.size)
                clear b9
                go_upto_region 18 with fail
                obtain ⟨B11, hB11⟩ : ∃ B, w23.heap.size = B := ⟨_, rfl⟩
                rw [hB11] at x11 ⊢
                clear hB11
                generalize w23.alloc (.cells #[.int .i64 seq, .int .i64 R2, .int .i64 N2, .int .i64 P2, .slice a2 n2 cap2, .bool D2, .slice b2 m2 bc2] 39) = w24 at *
                obtain ⟨nq2, hnq2⟩ : ∃ n, w24.heap.size = n := ⟨_, rfl⟩
                have hl_xC : w.heap.size < nq2 := hnq2 ▸ xC.lt
                have m_xC0 : Hid (w24.cell? ⟨w.heap.size, 0, none⟩ = some (.int .i64 c.cB)) := xC.cell 0 _ rfl
                have m_xC1 : Hid (w24.cell? ⟨w.heap.size, 1, none⟩ = some (.int .i64 c.cBeam)) := xC.cell 1 _ rfl
                have m_xC2 : Hid (w24.cell? ⟨w.heap.size, 2, none⟩ = some (.int .i64 c.cDepth)) := xC.cell 2 _ rfl
                have m_xC3 : Hid (w24.cell? ⟨w.heap.size, 3, none⟩ = some (.int .i64 c.cWin)) := xC.cell 3 _ rfl
                have m_xC4 : Hid (w24.cell? ⟨w.heap.size, 4, none⟩ = some (.int .i64 c.cQs)) := xC.cell 4 _ rfl
                have m_xC5 : Hid (w24.cell? ⟨w.heap.size, 5, none⟩ = some (.int .i64 c.cQr)) := xC.cell 5 _ rfl
                have m_xC6 : Hid (w24.cell? ⟨w.heap.size, 6, none⟩ = some (.int .i64 c.cBatch)) := xC.cell 6 _ rfl
                have m_xC7 : Hid (w24.cell? ⟨w.heap.size, 7, none⟩ = some (.int .i64 c.cPass)) := xC.cell 7 _ rfl
                have m_xC8 : Hid (w24.cell? ⟨w.heap.size, 8, none⟩ = some (.int .i64 c.cMsg)) := xC.cell 8 _ rfl
                have m_xC9 : Hid (w24.cell? ⟨w.heap.size, 9, none⟩ = some (.int .i64 c.cSeqs)) := xC.cell 9 _ rfl
                have hl_x11 : B11 < nq2 := hnq2 ▸ x11.lt
                have m_x110 : Hid (w24.cell? ⟨B11, 0, none⟩ = some (.int .i64 seq)) := x11.cell 0 _ rfl
                have m_x111 : Hid (w24.cell? ⟨B11, 1, none⟩ = some (.int .i64 R2)) := x11.cell 1 _ rfl
                have m_x112 : Hid (w24.cell? ⟨B11, 2, none⟩ = some (.int .i64 N2)) := x11.cell 2 _ rfl
                have m_x113 : Hid (w24.cell? ⟨B11, 3, none⟩ = some (.int .i64 P2)) := x11.cell 3 _ rfl
                have m_x114 : Hid (w24.cell? ⟨B11, 4, none⟩ = some (.slice a2 n2 cap2)) := x11.cell 4 _ rfl
                have m_x115 : Hid (w24.cell? ⟨B11, 5, none⟩ = some (.bool D2)) := x11.cell 5 _ rfl
                have m_x116 : Hid (w24.cell? ⟨B11, 6, none⟩ = some (.slice b2 m2 bc2)) := x11.cell 6 _ rfl
                have HMR : Hid (∀ wx : World, Below nq2 w24 wx → Calls Tryz.prog 13 #[.agg #[.int .i64 c.cB, .int .i64 c.cBeam, .int .i64 c.cDepth, .int .i64 c.cWin, .int .i64 c.cQs, .int .i64 c.cQr, .int .i64 c.cBatch, .int .i64 c.cPass, .int .i64 c.cMsg, .int .i64 c.cSeqs]] wx fun e w' => e = .returned (.int .i64 (mostC c)) ∧ Below nq2 w24 w') := fun wx hx => (refMost_any c HC.out wx).mono fun e w' ⟨h, b⟩ => ⟨h, hx.trans (b.mono (hnq2 ▸ hx.size))⟩
                have HCK : Hid (∀ wx : World, Below nq2 w24 wx → Calls Tryz.prog 16 #[.agg #[.int .i64 c.cB, .int .i64 c.cBeam, .int .i64 c.cDepth, .int .i64 c.cWin, .int .i64 c.cQs, .int .i64 c.cQr, .int .i64 c.cBatch, .int .i64 c.cPass, .int .i64 c.cMsg, .int .i64 c.cSeqs], .agg #[.int .i64 seq, .int .i64 R2, .int .i64 N2, .int .i64 P2, .slice a2 n2 cap2, .bool D2, .slice b2 m2 bc2]] wx fun e w' => e = .returned (.int .i64 0) ∧ Below nq2 w24 w') := fun wx hx => (checkV c HC.out g hkg wx (h2.next (hnq2 ▸ hx))).mono fun e w' ⟨h, b⟩ => ⟨h, hx.trans (b.mono (hnq2 ▸ hx.size))⟩
                have hn2 : (n2 : Int) ≤ mostC c := by have := takeH_len hk HOX.out; rw [hT2.out, h2.en] at this; exact this
                have dn2 : decide (mostC c < (n2 : Int)) = false := decide_eq_false (by omega)
                clear hn2
                go_cut [128] (fun v0 wx => v0 = .bool false ∧ Below nq2 w24 wx)
                case first =>
                  as_aux_lemma =>
                    refine wp_region_held_drew (S := fun w' => Below nq2 w24 w') (by kernel_rfl) (below_drew_of hnq2) (fun hHeld => ?_)
                    refine ht0 0 112 (v := ?v153) (fun _ => ?y153) hHeld ?_
                    case y153 => go_simp; with_reducible rfl
                    simp only [sn]
                    refine ht0 1 113 (v := ?v154) (fun _ => ?y154) hHeld ?_
                    case y154 => go_simp; with_reducible rfl
                    simp only [sn]
                    refine ht0 2 114 (v := ?v155) (fun _ => ?y155) hHeld ?_
                    case y155 => go_simp; with_reducible rfl
                    simp only [sn]
                    refine ht0 3 115 (v := ?v156) (fun _ => ?y156) hHeld ?_
                    case y156 => go_simp; with_reducible rfl
                    simp only [sn]
                    refine ht0 4 116 (v := ?v157) (fun _ => ?y157) hHeld ?_
                    case y157 => go_simp; with_reducible rfl
                    simp only [sn]
                    refine ht 5 117 (v := ?v158) (fun _ hSw => ?y158) hHeld ?_
                    case y158 => have q0 := hSw.at m_x114.out hl_x11; clear hSw; go_simp; with_reducible rfl
                    simp only [sn]
                    refine ht0 6 118 (v := ?v159) (fun _ => ?y159) hHeld ?_
                    case y159 => go_simp; with_reducible rfl
                    simp only [sn]
                    refine ht 7 119 (v := ?v160) (fun _ hSw => ?y160) hHeld ?_
                    case y160 => have q0 := hSw.at m_xC0.out hl_xC; have q1 := hSw.at m_xC1.out hl_xC; have q2 := hSw.at m_xC2.out hl_xC; have q3 := hSw.at m_xC3.out hl_xC; have q4 := hSw.at m_xC4.out hl_xC; have q5 := hSw.at m_xC5.out hl_xC; have q6 := hSw.at m_xC6.out hl_xC; have q7 := hSw.at m_xC7.out hl_xC; have q8 := hSw.at m_xC8.out hl_xC; have q9 := hSw.at m_xC9.out hl_xC; clear hSw; go_simp; with_reducible rfl
                    simp only [sn]
                    refine wpAnyH_ready (rs := [8]) (by kernel_rfl) (by simp) ?_
                    refine AllReadyH.cons rfl (fun K hK => ?_) AllReadyH.nil
                    go_simp
                    go_wp2_with (go_at_call 13; refine (HMR.out _ (by exact hHeld)).mono ?_; rintro e wb ⟨rfl, b8⟩)
                    refine hK.out _ _ (b8) (fun hHeld => ?_)
                    clear hK K
                    refine ht0 9 121 (v := ?v161) (fun _ => ?y161) hHeld ?_
                    case y161 => go_simp; with_reducible rfl
                    simp only [sn]
                    refine ht0 10 122 (v := ?v162) (fun _ => ?y162) hHeld ?_
                    case y162 => go_simp; with_reducible rfl
                    simp only [sn]
                    refine ht0 11 123 (v := ?v163) (fun _ => ?y163) hHeld ?_
                    case y163 => go_simp; with_reducible rfl
                    simp only [sn]
                    refine ht 12 124 (v := ?v164) (fun _ hSw => ?y164) hHeld ?_
                    case y164 => have q0 := hSw.at m_xC0.out hl_xC; have q1 := hSw.at m_xC1.out hl_xC; have q2 := hSw.at m_xC2.out hl_xC; have q3 := hSw.at m_xC3.out hl_xC; have q4 := hSw.at m_xC4.out hl_xC; have q5 := hSw.at m_xC5.out hl_xC; have q6 := hSw.at m_xC6.out hl_xC; have q7 := hSw.at m_xC7.out hl_xC; have q8 := hSw.at m_xC8.out hl_xC; have q9 := hSw.at m_xC9.out hl_xC; clear hSw; go_simp; with_reducible rfl
                    simp only [sn]
                    refine ht 13 125 (v := ?v165) (fun _ hSw => ?y165) hHeld ?_
                    case y165 => have q0 := hSw.at m_x110.out hl_x11; have q1 := hSw.at m_x111.out hl_x11; have q2 := hSw.at m_x112.out hl_x11; have q3 := hSw.at m_x113.out hl_x11; have q4 := hSw.at m_x114.out hl_x11; have q5 := hSw.at m_x115.out hl_x11; have q6 := hSw.at m_x116.out hl_x11; clear hSw; go_simp; with_reducible rfl
                    simp only [sn]
                    refine wpAnyH_ready (rs := [14]) (by kernel_rfl) (by simp) ?_
                    refine AllReadyH.cons rfl (fun K hK => ?_) AllReadyH.nil
                    go_simp
                    go_wp2_with (go_at_call 16; refine (HCK.out _ (by exact hHeld)).mono ?_; rintro e wb ⟨rfl, b8⟩)
                    refine hK.out _ _ (b8) (fun hHeld => ?_)
                    clear hK K
                    refine ht0 15 127 (v := ?v166) (fun _ => ?y166) hHeld ?_
                    case y166 => go_simp; with_reducible rfl
                    simp only [sn]
                    refine wpAnyH_ready (rs := [16]) (by kernel_rfl) (by simp) ?_
                    refine AllReadyH.cons rfl (fun K hK => ?_) AllReadyH.nil
                    go_simp
                    refine hK.out _ _ hHeld (fun hHeld => ?_)
                    clear hK K
                    refine wpAnyH_done (by kernel_rfl) ?_ _
                    go_wp2_with fail
                    go_meet
                    exact ⟨rfl, hHeld⟩
                case rest =>
                  as_aux_lemma =>
                    obtain ⟨rfl, b9⟩ := hcut
                    replace b9 : Below w24.heap.size w24 wc := hnq2 ▸ b9
                    generalize hwc : wc = w25 at *
                    clear hwc hnq2 hl_xC m_xC0 m_xC1 m_xC2 m_xC3 m_xC4 m_xC5 m_xC6 m_xC7 m_xC8 m_xC9 hl_x11 m_x110 m_x111 m_x112 m_x113 m_x114 m_x115 m_x116 HMR HCK dn2
                    replace x7 := x7.next b9
                    replace h7 := h7.next b9
                    replace xC := xC.next b9
                    replace hX := hX.next b9
                    replace x10 := x10.next b9
                    replace h2 := h2.next b9
                    replace x11 := x11.next b9
                    replace bb := bb.trans (b9.mono bb.size)
                    replace bk := bk.trans (b9.mono bk.size)
                    clear b9
                    have hT3 := takeH_twice hk HOX.out
                    rw [hT2.out] at hT3
                    have HTW : Hid (takeH c g ro f xs = (g, false)) := hT3
                    clear hT3
                    have lxC := xC.lt
                    have lx11 := x11.lt
                    have lx10 := x10.lt
                    have cxC0 := xC.cell 0 _ rfl
                    have cxC1 := xC.cell 1 _ rfl
                    have cxC2 := xC.cell 2 _ rfl
                    have cxC3 := xC.cell 3 _ rfl
                    have cxC4 := xC.cell 4 _ rfl
                    have cxC5 := xC.cell 5 _ rfl
                    have cxC6 := xC.cell 6 _ rfl
                    have cxC7 := xC.cell 7 _ rfl
                    have cxC8 := xC.cell 8 _ rfl
                    have cxC9 := xC.cell 9 _ rfl
                    have cx110 := x11.cell 0 _ rfl
                    have cx111 := x11.cell 1 _ rfl
                    have cx112 := x11.cell 2 _ rfl
                    have cx113 := x11.cell 3 _ rfl
                    have cx114 := x11.cell 4 _ rfl
                    have cx115 := x11.cell 5 _ rfl
                    have cx116 := x11.cell 6 _ rfl
                    have cx100 := x10.cell 0 _ rfl
                    have cx101 := x10.cell 1 _ rfl
                    have cx102 := x10.cell 2 _ rfl
                    have cx103 := x10.cell 3 _ rfl
                    go_wp2_with fail
                    refine (takeV c HC.out g hkg ro f xs xa xn xc HXN.out _ h2 HR1.out hX hxc HBX.out (HF0.out.next bb)).mono ?_
                    rintro e w26 ⟨R3, N3, P3, a3, n3, cap3, D3, b3, m3, bc3, i3, g3, rfl, hT3, hk3, h3, b9⟩
                    clear cxC0 cxC1 cxC2 cxC3 cxC4 cxC5 cxC6 cxC7 cxC8 cxC9
                    clear cx110 cx111 cx112 cx113 cx114 cx115 cx116
                    clear cx100 cx101 cx102 cx103
                    replace x7 := x7.next b9
                    replace h7 := h7.next b9
                    replace xC := xC.next b9
                    replace hX := hX.next b9
                    replace x10 := x10.next b9
                    replace h2 := h2.next b9
                    replace x11 := x11.next b9
                    replace bb := bb.trans (b9.mono bb.size)
                    replace bk := bk.trans (b9.mono bk.size)
                    clear b9
                    clear lxC lx11 lx10
                    have hq3 := HTW.out.symm.trans hT3.out
                    obtain ⟨hg3, hi3⟩ := Prod.mk.inj hq3
                    subst hg3
                    subst hi3
                    clear hq3 hT3 HTW hX
                    have b9 : Below w26.heap.size w26 (w26.alloc (.cells #[.int .i64 seq, .int .i64 R3, .int .i64 N3, .int .i64 P3, .slice a3 n3 cap3, .bool D3, .slice b3 m3 bc3] 39)) := (Below.refl _ _).alloc (Nat.le_refl _) _
                    have x19 := Box.new w26 39 #[.int .i64 seq, .int .i64 R3, .int .i64 N3, .int .i64 P3, .slice a3 n3 cap3, .bool D3, .slice b3 m3 bc3]
                    replace x7 := x7.next b9
                    replace h7 := h7.next b9
                    replace xC := xC.next b9
                    replace x10 := x10.next b9
                    replace h2 := h2.next b9
                    replace x11 := x11.next b9
                    replace h3 := h3.next b9
                    replace bb := bb.trans (b9.mono bb.size)
                    replace bk := bk.trans (b9.mono bk.size)
                    clear b9
                    go_upto_region 21 with fail
                    obtain ⟨B19, hB19⟩ : ∃ B, w26.heap.size = B := ⟨_, rfl⟩
                    rw [hB19] at x19 ⊢
                    clear hB19
                    generalize w26.alloc (.cells #[.int .i64 seq, .int .i64 R3, .int .i64 N3, .int .i64 P3, .slice a3 n3 cap3, .bool D3, .slice b3 m3 bc3] 39) = w27 at *
                    have lx19 := x19.lt
                    have lx11 := x11.lt
                    have cx190 := x19.cell 0 _ rfl
                    have cx191 := x19.cell 1 _ rfl
                    have cx192 := x19.cell 2 _ rfl
                    have cx193 := x19.cell 3 _ rfl
                    have cx194 := x19.cell 4 _ rfl
                    have cx195 := x19.cell 5 _ rfl
                    have cx196 := x19.cell 6 _ rfl
                    have cx110 := x11.cell 0 _ rfl
                    have cx111 := x11.cell 1 _ rfl
                    have cx112 := x11.cell 2 _ rfl
                    have cx113 := x11.cell 3 _ rfl
                    have cx114 := x11.cell 4 _ rfl
                    have cx115 := x11.cell 5 _ rfl
                    have cx116 := x11.cell 6 _ rfl
                    go_wp2_with fail
                    refine (keepV c HC.out g hkg _ h3 h2).mono ?_
                    rintro e w28 ⟨rfl, b9⟩
                    clear cx190 cx191 cx192 cx193 cx194 cx195 cx196
                    clear cx110 cx111 cx112 cx113 cx114 cx115 cx116
                    replace x7 := x7.next b9
                    replace h7 := h7.next b9
                    replace xC := xC.next b9
                    replace x10 := x10.next b9
                    replace h2 := h2.next b9
                    replace x11 := x11.next b9
                    replace h3 := h3.next b9
                    replace x19 := x19.next b9
                    replace bb := bb.trans (b9.mono bb.size)
                    replace bk := bk.trans (b9.mono bk.size)
                    clear b9
                    clear lx19 lx11
                    clear x19 h3 x10
                    go_upto_region 23 with fail
                    obtain ⟨nq3, hnq3⟩ : ∃ n, w28.heap.size = n := ⟨_, rfl⟩
                    have hl_x7 : B7 < nq3 := hnq3 ▸ x7.lt
                    have m_x70 : Hid (w28.cell? ⟨B7, 0, none⟩ = some (.int .i64 seq)) := x7.cell 0 _ rfl
                    have m_x71 : Hid (w28.cell? ⟨B7, 1, none⟩ = some (.int .i64 R)) := x7.cell 1 _ rfl
                    have m_x72 : Hid (w28.cell? ⟨B7, 2, none⟩ = some (.int .i64 N)) := x7.cell 2 _ rfl
                    have m_x73 : Hid (w28.cell? ⟨B7, 3, none⟩ = some (.int .i64 P)) := x7.cell 3 _ rfl
                    have m_x74 : Hid (w28.cell? ⟨B7, 4, none⟩ = some (.slice a n cap)) := x7.cell 4 _ rfl
                    have m_x75 : Hid (w28.cell? ⟨B7, 5, none⟩ = some (.bool D)) := x7.cell 5 _ rfl
                    have m_x76 : Hid (w28.cell? ⟨B7, 6, none⟩ = some (.slice b m bc)) := x7.cell 6 _ rfl
                    have hl_x11 : B11 < nq3 := hnq3 ▸ x11.lt
                    have m_x110 : Hid (w28.cell? ⟨B11, 0, none⟩ = some (.int .i64 seq)) := x11.cell 0 _ rfl
                    have m_x111 : Hid (w28.cell? ⟨B11, 1, none⟩ = some (.int .i64 R2)) := x11.cell 1 _ rfl
                    have m_x112 : Hid (w28.cell? ⟨B11, 2, none⟩ = some (.int .i64 N2)) := x11.cell 2 _ rfl
                    have m_x113 : Hid (w28.cell? ⟨B11, 3, none⟩ = some (.int .i64 P2)) := x11.cell 3 _ rfl
                    have m_x114 : Hid (w28.cell? ⟨B11, 4, none⟩ = some (.slice a2 n2 cap2)) := x11.cell 4 _ rfl
                    have m_x115 : Hid (w28.cell? ⟨B11, 5, none⟩ = some (.bool D2)) := x11.cell 5 _ rfl
                    have m_x116 : Hid (w28.cell? ⟨B11, 6, none⟩ = some (.slice b2 m2 bc2)) := x11.cell 6 _ rfl
                    have ex := HE3.out _ bk
                    have hlx : lb < nq3 := by have h1 := HLL.out; have h2 := bk.size; rw [hnq3] at h2; omega
                    have dltq : decide (i < ln) = true := decide_eq_true hlt
                    go_cut [181] (fun v0 wx => v0 = .bool false ∧ Below nq3 w28 wx)
                    case first =>
                      rcases takeH_cases hT2.out with ⟨q1, q2, q3⟩ | ⟨q1, q2, q3, _⟩ | ⟨q1, q3, bq, _, q2⟩
                      · subst q3
                        have eD : true = D := by rw [← h7.eD, q1]
                        subst eD
                        clear q1 q2 hT2 h7 h2 x7 x11
                        as_aux_lemma =>
                          refine wp_region_held_drew (S := fun w' => Below nq3 w28 w') (by kernel_rfl) (below_drew_of hnq3) (fun hHeld => ?_)
                          refine ht0 0 148 (v := ?v167) (fun _ => ?y167) hHeld ?_
                          case y167 => go_simp; with_reducible rfl
                          simp only [sn]
                          refine ht0 1 149 (v := ?v168) (fun _ => ?y168) hHeld ?_
                          case y168 => go_simp; with_reducible rfl
                          simp only [sn]
                          refine ht0 2 150 (v := ?v169) (fun _ => ?y169) hHeld ?_
                          case y169 => go_simp; with_reducible rfl
                          simp only [sn]
                          refine ht0 3 151 (v := ?v170) (fun _ => ?y170) hHeld ?_
                          case y170 => go_simp; with_reducible rfl
                          simp only [sn]
                          refine ht 4 152 (v := ?v171) (fun _ hSw => ?y171) hHeld ?_
                          case y171 => have q0 := hSw.at m_x75.out hl_x7; clear hSw; go_simp; with_reducible rfl
                          simp only [sn]
                          refine ht0 5 153 (v := ?v172) (fun _ => ?y172) hHeld ?_
                          case y172 => go_simp; with_reducible rfl
                          simp only [sn]
                          refine ht0 6 154 (v := ?v173) (fun _ => ?y173) hHeld ?_
                          case y173 => go_simp; with_reducible rfl
                          simp only [sn]
                          refine ht0 7 155 (v := ?v174) (fun _ => ?y174) hHeld ?_
                          case y174 => go_simp; with_reducible rfl
                          simp only [sn]
                          refine hu 8 156 hHeld ?_
                          simp only [sn]
                          refine hu 9 157 hHeld ?_
                          simp only [sn]
                          refine hu 10 158 hHeld ?_
                          simp only [sn]
                          refine hu 11 159 hHeld ?_
                          simp only [sn]
                          refine hu 12 160 hHeld ?_
                          simp only [sn]
                          refine hu 13 161 hHeld ?_
                          simp only [sn]
                          refine hu 14 162 hHeld ?_
                          simp only [sn]
                          refine hu 15 163 hHeld ?_
                          simp only [sn]
                          refine hu 16 164 hHeld ?_
                          simp only [sn]
                          refine hu 17 165 hHeld ?_
                          simp only [sn]
                          refine hu 18 166 hHeld ?_
                          simp only [sn]
                          refine hu 19 167 hHeld ?_
                          simp only [sn]
                          refine hu 20 168 hHeld ?_
                          simp only [sn]
                          refine hu 21 169 hHeld ?_
                          simp only [sn]
                          refine hu 22 170 hHeld ?_
                          simp only [sn]
                          refine ht0 23 171 (v := ?v175) (fun _ => ?y175) hHeld ?_
                          case y175 => go_simp; with_reducible rfl
                          simp only [sn]
                          refine ht0 24 172 (v := ?v176) (fun _ => ?y176) hHeld ?_
                          case y176 => go_simp; with_reducible rfl
                          simp only [sn]
                          refine ht0 25 173 (v := ?v177) (fun _ => ?y177) hHeld ?_
                          case y177 => go_simp; with_reducible rfl
                          simp only [sn]
                          refine ht0 26 174 (v := ?v178) (fun _ => ?y178) hHeld ?_
                          case y178 => go_simp; with_reducible rfl
                          simp only [sn]
                          refine hu 27 175 hHeld ?_
                          simp only [sn]
                          refine hu 28 176 hHeld ?_
                          simp only [sn]
                          refine hu 29 177 hHeld ?_
                          simp only [sn]
                          refine hu 30 178 hHeld ?_
                          simp only [sn]
                          refine hu 31 179 hHeld ?_
                          simp only [sn]
                          refine ht0 32 180 (v := ?v179) (fun _ => ?y179) hHeld ?_
                          case y179 => go_simp; with_reducible rfl
                          simp only [sn]
                          refine wpAnyH_ready (rs := [33]) (by kernel_rfl) (by simp) ?_
                          refine AllReadyH.cons rfl (fun K hK => ?_) AllReadyH.nil
                          go_simp
                          refine hK.out _ _ hHeld (fun hHeld => ?_)
                          clear hK K
                          refine wpAnyH_done (by kernel_rfl) ?_ _
                          go_wp2_with fail
                          go_meet
                          exact ⟨rfl, hHeld⟩
                      · subst q3
                        have eD : false = D := by rw [← h7.eD, q1]
                        subst eD
                        have hln : n2 ≤ n + xn := by have := stayH_len hk HOX.out; rw [← h2.en, ← h7.en, q2, ← HXN.out]; exact this
                        have hnb : n ≤ 182 := by have h8 := pile_len hk.2.2.1; have h9 := HMO.out; rw [hk.2.2.2.1, hk.2.2.2.2.1, h7.en] at h8; have h10 : segsC c * c.cPass = mostC c := rfl; omega
                        have hxl := HXL.out
                        have w9 : IntKind.i64.wrap ((n : Int) + (xn : Int)) = (n : Int) + (xn : Int) := by rw [IntKind.wrap_i64]; omega
                        have d9 : decide ((n : Int) + (xn : Int) < (n2 : Int)) = false := decide_eq_false (by omega)
                        have d9n : decide (n + xn < n2) = false := decide_eq_false (by omega)
                        clear q1 q2 hT2 h7 h2 x7 x11 hln hnb hxl
                        as_aux_lemma =>
                          refine wp_region_held_drew (S := fun w' => Below nq3 w28 w') (by kernel_rfl) (below_drew_of hnq3) (fun hHeld => ?_)
                          refine ht0 0 148 (v := ?v180) (fun _ => ?y180) hHeld ?_
                          case y180 => go_simp; with_reducible rfl
                          simp only [sn]
                          refine ht0 1 149 (v := ?v181) (fun _ => ?y181) hHeld ?_
                          case y181 => go_simp; with_reducible rfl
                          simp only [sn]
                          refine ht0 2 150 (v := ?v182) (fun _ => ?y182) hHeld ?_
                          case y182 => go_simp; with_reducible rfl
                          simp only [sn]
                          refine ht0 3 151 (v := ?v183) (fun _ => ?y183) hHeld ?_
                          case y183 => go_simp; with_reducible rfl
                          simp only [sn]
                          refine ht 4 152 (v := ?v184) (fun _ hSw => ?y184) hHeld ?_
                          case y184 => have q0 := hSw.at m_x75.out hl_x7; clear hSw; go_simp; with_reducible rfl
                          simp only [sn]
                          refine ht0 5 153 (v := ?v185) (fun _ => ?y185) hHeld ?_
                          case y185 => go_simp; with_reducible rfl
                          simp only [sn]
                          refine ht0 6 154 (v := ?v186) (fun _ => ?y186) hHeld ?_
                          case y186 => go_simp; with_reducible rfl
                          simp only [sn]
                          refine ht0 7 155 (v := ?v187) (fun _ => ?y187) hHeld ?_
                          case y187 => go_simp; with_reducible rfl
                          simp only [sn]
                          refine ht0 8 156 (v := ?v188) (fun _ => ?y188) hHeld ?_
                          case y188 => go_simp; with_reducible rfl
                          simp only [sn]
                          refine ht0 9 157 (v := ?v189) (fun _ => ?y189) hHeld ?_
                          case y189 => go_simp; with_reducible rfl
                          simp only [sn]
                          refine ht 10 158 (v := ?v190) (fun _ hSw => ?y190) hHeld ?_
                          case y190 => have q0 := hSw.at m_x114.out hl_x11; clear hSw; go_simp; with_reducible rfl
                          simp only [sn]
                          refine ht0 11 159 (v := ?v191) (fun _ => ?y191) hHeld ?_
                          case y191 => go_simp; with_reducible rfl
                          simp only [sn]
                          refine ht0 12 160 (v := ?v192) (fun _ => ?y192) hHeld ?_
                          case y192 => go_simp; with_reducible rfl
                          simp only [sn]
                          refine ht0 13 161 (v := ?v193) (fun _ => ?y193) hHeld ?_
                          case y193 => go_simp; with_reducible rfl
                          simp only [sn]
                          refine ht 14 162 (v := ?v194) (fun _ hSw => ?y194) hHeld ?_
                          case y194 => have q0 := hSw.at m_x74.out hl_x7; clear hSw; go_simp; with_reducible rfl
                          simp only [sn]
                          refine ht0 15 163 (v := ?v195) (fun _ => ?y195) hHeld ?_
                          case y195 => go_simp; with_reducible rfl
                          simp only [sn]
                          refine ht0 16 164 (v := ?v196) (fun _ => ?y196) hHeld ?_
                          case y196 => go_simp; with_reducible rfl
                          simp only [sn]
                          refine ht0 17 165 (v := ?v197) (fun _ => ?y197) hHeld ?_
                          case y197 => go_simp; with_reducible rfl
                          simp only [sn]
                          refine ht0 18 166 (v := ?v198) (fun _ => ?y198) hHeld ?_
                          case y198 => go_simp; with_reducible rfl
                          simp only [sn]
                          refine ht 19 167 (v := ?v199) (fun _ hSw => ?y199) hHeld ?_
                          case y199 => have q0 := hSw.at ex hlx; clear hSw; go_simp; with_reducible rfl
                          simp only [sn]
                          refine ht0 20 168 (v := ?v200) (fun _ => ?y200) hHeld ?_
                          case y200 => go_simp; with_reducible rfl
                          simp only [sn]
                          refine ht0 21 169 (v := ?v201) (fun _ => ?y201) hHeld ?_
                          case y201 => go_simp; with_reducible rfl
                          simp only [sn]
                          refine ht0 22 170 (v := ?v202) (fun _ => ?y202) hHeld ?_
                          case y202 => go_simp; with_reducible rfl
                          simp only [sn]
                          refine ht0 23 171 (v := ?v203) (fun _ => ?y203) hHeld ?_
                          case y203 => go_simp; with_reducible rfl
                          simp only [sn]
                          refine ht0 24 172 (v := ?v204) (fun _ => ?y204) hHeld ?_
                          case y204 => go_simp; with_reducible rfl
                          simp only [sn]
                          refine ht0 25 173 (v := ?v205) (fun _ => ?y205) hHeld ?_
                          case y205 => go_simp; with_reducible rfl
                          simp only [sn]
                          refine ht0 26 174 (v := ?v206) (fun _ => ?y206) hHeld ?_
                          case y206 => go_simp; with_reducible rfl
                          simp only [sn]
                          refine hu 27 175 hHeld ?_
                          simp only [sn]
                          refine hu 28 176 hHeld ?_
                          simp only [sn]
                          refine hu 29 177 hHeld ?_
                          simp only [sn]
                          refine hu 30 178 hHeld ?_
                          simp only [sn]
                          refine hu 31 179 hHeld ?_
                          simp only [sn]
                          refine ht0 32 180 (v := ?v207) (fun _ => ?y207) hHeld ?_
                          case y207 => go_simp; with_reducible rfl
                          simp only [sn]
                          refine wpAnyH_ready (rs := [33]) (by kernel_rfl) (by simp) ?_
                          refine AllReadyH.cons rfl (fun K hK => ?_) AllReadyH.nil
                          go_simp
                          refine hK.out _ _ hHeld (fun hHeld => ?_)
                          clear hK K
                          refine wpAnyH_done (by kernel_rfl) ?_ _
                          go_wp2_with fail
                          go_meet
                          exact ⟨rfl, hHeld⟩
                      · subst q3
                        have en2 : 0 = n2 := by rw [← h2.en, q2]; rfl
                        subst en2
                        clear q1 q2 hT2 h7 h2 x7 x11
                        as_aux_lemma =>
                          refine wp_region_held_drew (S := fun w' => Below nq3 w28 w') (by kernel_rfl) (below_drew_of hnq3) (fun hHeld => ?_)
                          refine ht0 0 148 (v := ?v208) (fun _ => ?y208) hHeld ?_
                          case y208 => go_simp; with_reducible rfl
                          simp only [sn]
                          refine ht0 1 149 (v := ?v209) (fun _ => ?y209) hHeld ?_
                          case y209 => go_simp; with_reducible rfl
                          simp only [sn]
                          refine ht0 2 150 (v := ?v210) (fun _ => ?y210) hHeld ?_
                          case y210 => go_simp; with_reducible rfl
                          simp only [sn]
                          refine hu 3 151 hHeld ?_
                          simp only [sn]
                          refine hu 4 152 hHeld ?_
                          simp only [sn]
                          refine hu 5 153 hHeld ?_
                          simp only [sn]
                          refine ht0 6 154 (v := ?v211) (fun _ => ?y211) hHeld ?_
                          case y211 => go_simp; with_reducible rfl
                          simp only [sn]
                          refine ht0 7 155 (v := ?v212) (fun _ => ?y212) hHeld ?_
                          case y212 => go_simp; with_reducible rfl
                          simp only [sn]
                          refine hu 8 156 hHeld ?_
                          simp only [sn]
                          refine hu 9 157 hHeld ?_
                          simp only [sn]
                          refine hu 10 158 hHeld ?_
                          simp only [sn]
                          refine hu 11 159 hHeld ?_
                          simp only [sn]
                          refine hu 12 160 hHeld ?_
                          simp only [sn]
                          refine hu 13 161 hHeld ?_
                          simp only [sn]
                          refine hu 14 162 hHeld ?_
                          simp only [sn]
                          refine hu 15 163 hHeld ?_
                          simp only [sn]
                          refine hu 16 164 hHeld ?_
                          simp only [sn]
                          refine hu 17 165 hHeld ?_
                          simp only [sn]
                          refine hu 18 166 hHeld ?_
                          simp only [sn]
                          refine hu 19 167 hHeld ?_
                          simp only [sn]
                          refine hu 20 168 hHeld ?_
                          simp only [sn]
                          refine hu 21 169 hHeld ?_
                          simp only [sn]
                          refine hu 22 170 hHeld ?_
                          simp only [sn]
                          refine ht0 23 171 (v := ?v213) (fun _ => ?y213) hHeld ?_
                          case y213 => go_simp; with_reducible rfl
                          simp only [sn]
                          refine ht0 24 172 (v := ?v214) (fun _ => ?y214) hHeld ?_
                          case y214 => go_simp; with_reducible rfl
                          simp only [sn]
                          refine ht0 25 173 (v := ?v215) (fun _ => ?y215) hHeld ?_
                          case y215 => go_simp; with_reducible rfl
                          simp only [sn]
                          refine ht0 26 174 (v := ?v216) (fun _ => ?y216) hHeld ?_
                          case y216 => go_simp; with_reducible rfl
                          simp only [sn]
                          refine ht0 27 175 (v := ?v217) (fun _ => ?y217) hHeld ?_
                          case y217 => go_simp; with_reducible rfl
                          simp only [sn]
                          refine ht0 28 176 (v := ?v218) (fun _ => ?y218) hHeld ?_
                          case y218 => go_simp; with_reducible rfl
                          simp only [sn]
                          refine ht 29 177 (v := ?v219) (fun _ hSw => ?y219) hHeld ?_
                          case y219 => have q0 := hSw.at m_x114.out hl_x11; clear hSw; go_simp; with_reducible rfl
                          simp only [sn]
                          refine ht0 30 178 (v := ?v220) (fun _ => ?y220) hHeld ?_
                          case y220 => go_simp; with_reducible rfl
                          simp only [sn]
                          refine ht0 31 179 (v := ?v221) (fun _ => ?y221) hHeld ?_
                          case y221 => go_simp; with_reducible rfl
                          simp only [sn]
                          refine ht0 32 180 (v := ?v222) (fun _ => ?y222) hHeld ?_
                          case y222 => go_simp; with_reducible rfl
                          simp only [sn]
                          refine wpAnyH_ready (rs := [33]) (by kernel_rfl) (by simp) ?_
                          refine AllReadyH.cons rfl (fun K hK => ?_) AllReadyH.nil
                          go_simp
                          refine hK.out _ _ hHeld (fun hHeld => ?_)
                          clear hK K
                          refine wpAnyH_done (by kernel_rfl) ?_ _
                          go_wp2_with fail
                          go_meet
                          exact ⟨rfl, hHeld⟩
                    case rest =>
                      as_aux_lemma =>
                        obtain ⟨rfl, b9⟩ := hcut
                        replace b9 : Below w28.heap.size w28 wc := hnq3 ▸ b9
                        generalize hwc : wc = w29 at *
                        clear hwc hnq3 hl_x7 m_x70 m_x71 m_x72 m_x73 m_x74 m_x75 m_x76 hl_x11 m_x110 m_x111 m_x112 m_x113 m_x114 m_x115 m_x116 ex hlx dltq 
                        replace x7 := x7.next b9
                        replace h7 := h7.next b9
                        replace xC := xC.next b9
                        replace h2 := h2.next b9
                        replace x11 := x11.next b9
                        replace bb := bb.trans (b9.mono bb.size)
                        replace bk := bk.trans (b9.mono bk.size)
                        clear b9
                        have HPC : ∀ (wx : World) (base : Nat), At7 base wx g seq R2 N2 P2 a2 n2 cap2 D2 b2 m2 bc2 → Calls Tryz.prog 20 #[.agg #[.int .i64 N2, .int .i64 P2, .slice a2 n2 cap2]] wx fun e w' => e = .returned (.int .i64 0) ∧ Below wx.heap.size wx w' := fun wx base H => by
                          have h1 := Check_ok N2 P2 a2 cap2 g.hL (okH_lens HC.out hkg).1 (by rw [← H.eN, ← H.eP]; exact hkg.2.2.1) wx H.own.at.syms
                          rw [H.en] at h1
                          exact h1
                        have lx11 := x11.lt
                        have cx110 := x11.cell 0 _ rfl
                        have cx111 := x11.cell 1 _ rfl
                        have cx112 := x11.cell 2 _ rfl
                        have cx113 := x11.cell 3 _ rfl
                        have cx114 := x11.cell 4 _ rfl
                        have cx115 := x11.cell 5 _ rfl
                        have cx116 := x11.cell 6 _ rfl
                        go_wp2_with fail
                        refine (HPC _ _ h2).mono ?_
                        rintro e w30 ⟨rfl, b9⟩
                        clear cx110 cx111 cx112 cx113 cx114 cx115 cx116
                        replace x7 := x7.next b9
                        replace h7 := h7.next b9
                        replace xC := xC.next b9
                        replace h2 := h2.next b9
                        replace x11 := x11.next b9
                        replace bb := bb.trans (b9.mono bb.size)
                        replace bk := bk.trans (b9.mono bk.size)
                        clear b9
                        clear lx11
                        clear HPC
                        have cx110 := x11.cell 0 _ rfl
                        have cx111 := x11.cell 1 _ rfl
                        have cx112 := x11.cell 2 _ rfl
                        have cx113 := x11.cell 3 _ rfl
                        have cx114 := x11.cell 4 _ rfl
                        have cx115 := x11.cell 5 _ rfl
                        have cx116 := x11.cell 6 _ rfl
                        have cx70 := x7.cell 0 _ rfl
                        have cx71 := x7.cell 1 _ rfl
                        have cx72 := x7.cell 2 _ rfl
                        have cx73 := x7.cell 3 _ rfl
                        have cx74 := x7.cell 4 _ rfl
                        have cx75 := x7.cell 5 _ rfl
                        have cx76 := x7.cell 6 _ rfl
                        have u70 := x7.free 0
                        have u71 := x7.free 1
                        have u72 := x7.free 2
                        have u73 := x7.free 3
                        have u74 := x7.free 4
                        have u75 := x7.free 5
                        have u76 := x7.free 6
                        have l11 := x11.lt
                        have l7 := x7.lt
                        go_wp2
                        exact ⟨⟨i + 1, g, R2, N2, P2, a2, n2, cap2, D2, b2, m2, bc2, by omega, rfl, x7.set7c (.int .i64 seq) (.int .i64 R2) (.int .i64 N2) (.int .i64 P2) (.slice a2 n2 cap2) (.bool D2) (.slice b2 m2 bc2), (h2.store HB7.out (.int .i64 seq) (.int .i64 R2) (.int .i64 N2) (.int .i64 P2) (.slice a2 n2 cap2) (.bool D2) (.slice b2 m2 bc2)).base (Nat.zero_le _), hkg, xC.other7c (by have := HW7.out; omega) (.int .i64 seq) (.int .i64 R2) (.int .i64 N2) (.int .i64 P2) (.slice a2 n2 cap2) (.bool D2) (.slice b2 m2 bc2), below_set7c bb (by have := HW7.out; omega) (.int .i64 seq) (.int .i64 R2) (.int .i64 N2) (.int .i64 P2) (.slice a2 n2 cap2) (.bool D2) (.slice b2 m2 bc2)⟩, by simp [intOf]; omega⟩
        · obtain rfl : i = ln := by omega
          have dlt : decide ((i : Int) < (i : Int)) = false := decide_eq_false (by omega)
          have dltn : decide (i < i) = false := decide_eq_false (by omega)
          go_wp2_with fail
          refine (hearWakes_any _ (HF0.out.next bb)).mono ?_
          rintro e w99 ⟨rfl, b99⟩
          go_wp2
          go_ret
          exact ⟨rfl, bb.trans (b99.mono bb.size)⟩

end Go.Proofs.YtkigbanldiialaaGreatDoor
