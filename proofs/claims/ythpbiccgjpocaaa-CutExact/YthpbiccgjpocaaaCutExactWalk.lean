/-
  The walk of CutExact. (Written by tpl_cutlaws.py.)
-/
import Derived.Test.YthpbiccgjpocaaaCutAny
import Derived.Test.YthpbiccgjpocaaaCutWakes
import Derived.Test.YthpbiccgjpocaaaKeepBytes
import Derived.Test.YthpbiccgjpocaaaSpoilBytes
import Derived.Test.YthpbiccgjpocaaaRefConf
namespace Go.Proofs.Ythpbiccgjpocaaa
open Go.RowKit

set_option maxRecDepth 100000 in
set_option maxHeartbeats 4000000 in
theorem cutExact_walk (c : Cfg) (s : Int) (a : Option Addr) (n cap : Nat) (msg : List Int) (hl : msg.length = n) (hc : n ≤ cap) (w : World) (ha : Holds .u8 w.heap.size w (.slice a n cap) msg) :
    Calls Try.prog 3 #[.agg #[.int .i64 c.cB, .int .i64 c.cBeam, .int .i64 c.cDepth, .int .i64 c.cWin, .int .i64 c.cQs, .int .i64 c.cQr, .int .i64 c.cBatch, .int .i64 c.cPass, .int .i64 c.cMsg, .int .i64 c.cSeqs], .int .i64 s, .slice a n cap] w fun e w' => e = .returned (.bool true) ∧ Below w.heap.size w w' := by
  have bb : Below w.heap.size w (w.alloc (.cells #[.int .i64 c.cB, .int .i64 c.cBeam, .int .i64 c.cDepth, .int .i64 c.cWin, .int .i64 c.cQs, .int .i64 c.cQr, .int .i64 c.cBatch, .int .i64 c.cPass, .int .i64 c.cMsg, .int .i64 c.cSeqs] 23)) := (Below.refl _ _).alloc (Nat.le_refl _) _
  have xC := Box.new w 23 #[.int .i64 c.cB, .int .i64 c.cBeam, .int .i64 c.cDepth, .int .i64 c.cWin, .int .i64 c.cQs, .int .i64 c.cQr, .int .i64 c.cBatch, .int .i64 c.cPass, .int .i64 c.cMsg, .int .i64 c.cSeqs]
  go_enter Try.func3, Try.ntmps3
  have HL : Hid (msg.length = n) := hl
  clear hl
  by_cases h4 : 400 < n
  · have d4 : decide (400 < n) = true := decide_eq_true h4
    have d4i : decide (400 < (n : Int)) = true := decide_eq_true (by omega)
    clear h4
    go_wp2
    go_ret
    exact ⟨rfl, bb⟩
  have d4 : decide (400 < n) = false := decide_eq_false h4
  have d4i : decide (400 < (n : Int)) = false := decide_eq_false (by omega)
  have h4n : n ≤ 400 := by omega
  clear h4
  replace ha := ha.next bb
  go_wp2_with fail
  obtain ⟨W0, hW0⟩ : ∃ W, w.alloc (.cells #[.int .i64 c.cB, .int .i64 c.cBeam, .int .i64 c.cDepth, .int .i64 c.cWin, .int .i64 c.cQs, .int .i64 c.cQr, .int .i64 c.cBatch, .int .i64 c.cPass, .int .i64 c.cMsg, .int .i64 c.cSeqs] 23) = W := ⟨_, rfl⟩
  rw [hW0] at ha bb xC ⊢
  clear hW0
  refine (twin_any (.slice a n cap) msg _ (by rw [HL.out]; omega) _ ha).mono ?_
  rintro e w1 ⟨v1, rfl, o1, b9⟩
  rw [HL.out] at o1
  obtain ⟨ia, ic, rfl, hic⟩ : ∃ ia ic, v1 = .slice ia n ic ∧ n ≤ ic := by
    obtain ⟨_, ia, ic, e, h⟩ := kept_of_row (kd := .u8) (zs := msg) o1
    rw [HL.out] at e h
    exact ⟨ia, ic, e, h⟩
  have hi := holds_of_row o1
  clear o1
  replace xC := xC.next b9
  replace ha := ha.next b9
  replace bb := bb.trans (b9.mono bb.size)
  clear b9
  have HI0 : Hid (Holds .u8 w1.heap.size w1 (.slice ia n ic) msg) := hi
  have HA0 : Hid (Holds .u8 w1.heap.size w1 (.slice a n cap) msg) := ha
  have HWS : Hid (w.heap.size ≤ w1.heap.size) := bb.size
  have hS0 : Since w1 w1 := Below.refl _ _
  by_cases hC : okC c = true
  ·
    have cxC0 := xC.cell 0 _ rfl
    have cxC1 := xC.cell 1 _ rfl
    have cxC2 := xC.cell 2 _ rfl
    have cxC3 := xC.cell 3 _ rfl
    have cxC4 := xC.cell 4 _ rfl
    have cxC5 := xC.cell 5 _ rfl
    have cxC6 := xC.cell 6 _ rfl
    have cxC7 := xC.cell 7 _ rfl
    have cxC8 := xC.cell 8 _ rfl
    have cxC9 := xC.cell 9 _ rfl
    go_wp2_with fail
    refine (Cut_any c s ia n ic hC hic msg HL.out _ hi).mono ?_
    rintro e w2 ⟨v, rfl, hv, b9⟩
    clear cxC0 cxC1 cxC2 cxC3 cxC4 cxC5 cxC6 cxC7 cxC8 cxC9
    replace xC := xC.next b9
    replace ha := ha.next b9
    replace hi := hi.next b9
    replace hS0 := hS0.next b9
    replace bb := bb.trans (b9.mono bb.size)
    clear b9
    replace hv : Hid (OwnBlks w1.heap.size w2 v (cutB c s msg)) := hv
    replace hv := hv.out
    obtain ⟨va, vc, hvs⟩ := hv.rows.shape
    obtain ⟨M, hM⟩ : ∃ M, (cutB c s msg).length = M := ⟨_, rfl⟩
    rw [hM] at hvs
    subst hvs
    have HM : Hid ((cutB c s msg).length = M) := hM
    obtain ⟨E, hE⟩ : ∃ E, cutE c s n = E := ⟨_, rfl⟩
    rw [hE]
    have HBD : Hid ((cutB c s msg).length ≤ 200 ∧ ∀ y ∈ cutB c s msg, y.2.2.length ≤ 16) := cutB_bd hC s msg
    have HM2 : M ≤ 200 := hM ▸ HBD.out.1
    clear hM
    go_wp2_with fail
    refine (bytes_any (.slice ia n ic) (.slice a n cap) msg msg _ _ _ (by rw [HL.out]; omega) hi ha).mono ?_
    rintro e wx ⟨rfl, q, rfl⟩
    rw [decide_eq_true (rfl : msg = msg)]
    have b9 : Below w2.heap.size w2 (w2.drewN q) := below_drewN (Below.refl _ _) q
    replace xC := xC.next b9
    replace ha := ha.next b9
    replace hi := hi.next b9
    replace hS0 := hS0.next b9
    replace hv := hv.next b9
    replace bb := bb.trans (b9.mono bb.size)
    clear b9
    generalize w2.drewN q = w3 at *
    have cxC0 := xC.cell 0 _ rfl
    have cxC1 := xC.cell 1 _ rfl
    have cxC2 := xC.cell 2 _ rfl
    have cxC3 := xC.cell 3 _ rfl
    have cxC4 := xC.cell 4 _ rfl
    have cxC5 := xC.cell 5 _ rfl
    have cxC6 := xC.cell 6 _ rfl
    have cxC7 := xC.cell 7 _ rfl
    have cxC8 := xC.cell 8 _ rfl
    have cxC9 := xC.cell 9 _ rfl
    go_wp2_with fail
    refine (refConfig_any c _).mono ?_
    rintro e w4 ⟨rfl, b9⟩
    clear cxC0 cxC1 cxC2 cxC3 cxC4 cxC5 cxC6 cxC7 cxC8 cxC9
    replace xC := xC.next b9
    replace ha := ha.next b9
    replace hi := hi.next b9
    replace hS0 := hS0.next b9
    replace hv := hv.next b9
    replace bb := bb.trans (b9.mono bb.size)
    clear b9
    rw [hC]
    have cxC0 := xC.cell 0 _ rfl
    have cxC1 := xC.cell 1 _ rfl
    have cxC2 := xC.cell 2 _ rfl
    have cxC3 := xC.cell 3 _ rfl
    have cxC4 := xC.cell 4 _ rfl
    have cxC5 := xC.cell 5 _ rfl
    have cxC6 := xC.cell 6 _ rfl
    have cxC7 := xC.cell 7 _ rfl
    have cxC8 := xC.cell 8 _ rfl
    have cxC9 := xC.cell 9 _ rfl
    go_wp2_with fail
    refine (refCut_any c s a n cap hC hc msg HL.out _ ha).mono ?_
    rintro e w5 ⟨u, rfl, hu, b9⟩
    clear cxC0 cxC1 cxC2 cxC3 cxC4 cxC5 cxC6 cxC7 cxC8 cxC9
    replace xC := xC.next b9
    replace ha := ha.next b9
    replace hi := hi.next b9
    replace hS0 := hS0.next b9
    replace hv := hv.next b9
    replace bb := bb.trans (b9.mono bb.size)
    clear b9
    rw [hE]
    obtain ⟨ua, uc, hus⟩ := hu.rows.shape
    rw [HM.out] at hus
    subst hus
    go_wp2_with fail
    refine (blks_any (.slice va M vc) (.slice ua M uc) _ _ _ (by rw [HM.out]; omega) (fun y hy => by have := HBD.out.2 y hy; omega) hv.rows hu.rows).mono ?_
    rintro e w6 ⟨rfl, b9⟩
    replace xC := xC.next b9
    replace ha := ha.next b9
    replace hi := hi.next b9
    replace hS0 := hS0.next b9
    replace hv := hv.next b9
    replace bb := bb.trans (b9.mono bb.size)
    clear b9
    rw [decide_eq_true (rfl : cutB c s msg = cutB c s msg)]
    clear hu xC
    obtain ⟨r, hr1, hr2, hr3⟩ := hv
    have HR1 : Hid (r.map Prod.fst = cutB c s msg) := hr1
    rw [HM.out] at hr2
    have HRL : r.length = M := by rw [← HM.out, ← hr1, List.length_map]
    replace HRL : Hid (r.length = M) := HRL
    clear hr1
    go_wp2_with fail
    go_loopw [12] (fun i wr => ∃ k : Nat, k ≤ M ∧ i = .int .i64 (k : Int) ∧ wr.ownsRow w1.heap.size 36 3 (.slice va M vc) M (cellsK blkK r) ∧ OwnL blkK w1.heap.size wr (r.drop k) ∧ Below w1.heap.size w6 wr) (fun i _ => M - (intOf i).toNat)
    case atStart => exact ⟨0, Nat.zero_le _, rfl, hr2, hr3, Below.refl _ _⟩
    case round =>
      obtain ⟨k, hk, rfl, hrow, hown, bw⟩ := hrel
      by_cases hlt : k < M
      · obtain ⟨x, hx⟩ : ∃ x, r[k]? = some x := ⟨r[k]'(by rw [HRL.out]; exact hlt), by simp⟩
        have hd : r.drop k = x :: r.drop (k + 1) := by rw [List.drop_eq_getElem_cons (by rw [HRL.out]; exact hlt)]; rw [List.getElem?_eq_getElem (by rw [HRL.out]; exact hlt)] at hx; rw [Option.some.inj hx]
        rw [hd] at hown
        obtain ⟨⟨xs, xm, xt⟩, ps⟩ := x
        obtain ⟨p, rfl, hp⟩ := (hown.subs _ List.mem_cons_self).held.one
        have hpo := (hown.subs _ List.mem_cons_self).2 0 p _ rfl rfl
        obtain ⟨pa, pc, rfl⟩ : ∃ pa pc, p = .slice pa xt.length pc := hp.shape
        have hxl : xt.length ≤ 16 := HBD.out.2 (xs, xm, xt) (by rw [← HR1.out]; exact List.mem_map.2 ⟨_, List.mem_of_getElem? hx, rfl⟩)
        have hcel := cellsK_get blkK hx 2 _ rfl
        obtain ⟨gb, gcap, hgv⟩ := row_form hrow (by omega)
        obtain ⟨rfl, _, rfl⟩ := Value.slice.inj hgv
        have hcl : wr.cell? ⟨gb, k * 3 + 2, none⟩ = some (.slice pa xt.length pc) := by
          have := hrow.cells (g := gb) rfl _ _ hcel
          rw [Addr.add_lit, Nat.zero_add] at this
          exact this
        have HS := spoilBytes_own (.slice pa xt.length pc) xt.length w1.heap.size xt (by omega) wr hpo
        have HHD : Hid (OwnL blkK w1.heap.size wr (((xs, xm, xt), [.slice pa xt.length pc]) :: r.drop (k + 1))) := hown
        clear hown hd hx hp hcel
        go_wp2_with fail
        refine HS.mono ?_
        rintro e w9 ⟨rfl, b9, hz9, hq9⟩
        go_wp2
        refine ⟨⟨k + 1, hlt, by go_num, ?_, ?_, bw.trans b9⟩, by simp [intOf]; omega⟩
        · exact rowK_same hrow fun g hg => hq9 g fun e => by
            rcases HHD.out.unlike blkK_unlike hrow _ List.mem_cons_self _ List.mem_cons_self with h | h
            · rw [h] at e; cases e
            · exact h (e.symm.trans hg.symm)
        · have hap := HHD.out.apart
          rw [List.flatMap_cons] at hap
          have hap2 := (List.pairwise_append.1 hap).2.2
          have ht : OwnL blkK w1.heap.size wr (r.drop (k + 1)) := ⟨fun x hx => HHD.out.subs x (List.mem_cons_of_mem _ hx), (List.pairwise_append.1 hap).2.1⟩
          exact ht.same fun x hx q hq g hg => hq9 g fun e => by
            rcases hap2 _ List.mem_cons_self q (List.mem_flatMap.2 ⟨x, hx, hq⟩) with h | h
            · rw [h] at e; cases e
            · exact h (e.symm.trans hg.symm)
      · obtain rfl : k = M := by omega
        have hi9 : Holds .u8 w1.heap.size wr (.slice ia n ic) msg := (HI0.out.below hS0.out).below bw
        have ha9 : Holds .u8 w1.heap.size wr (.slice a n cap) msg := (HA0.out.below hS0.out).below bw
        have hb9 := bb.trans (bw.mono HWS.out)
        clear hi ha hrow hown bw bb hS0
        go_wp2_with fail
        refine (bytes_any (.slice ia n ic) (.slice a n cap) msg msg _ _ _ (by rw [HL.out]; omega) hi9 ha9).mono ?_
        rintro e wx ⟨rfl, q, rfl⟩
        rw [decide_eq_true (rfl : msg = msg)]
        go_wp2_with fail
        refine (cutWakes_any _).mono ?_
        rintro e w99 ⟨rfl, b99⟩
        go_wp2
        go_ret
        exact ⟨rfl, (below_drewN hb9 q).trans (b99.mono (below_drewN hb9 q).size)⟩
  ·
    have hCf : okC c = false := by simpa using hC
    clear hC
    have cxC0 := xC.cell 0 _ rfl
    have cxC1 := xC.cell 1 _ rfl
    have cxC2 := xC.cell 2 _ rfl
    have cxC3 := xC.cell 3 _ rfl
    have cxC4 := xC.cell 4 _ rfl
    have cxC5 := xC.cell 5 _ rfl
    have cxC6 := xC.cell 6 _ rfl
    have cxC7 := xC.cell 7 _ rfl
    have cxC8 := xC.cell 8 _ rfl
    have cxC9 := xC.cell 9 _ rfl
    go_wp2_with fail
    refine (Cut_bad c s ia n ic hCf _).mono ?_
    rintro e w2 ⟨rfl, b9⟩
    clear cxC0 cxC1 cxC2 cxC3 cxC4 cxC5 cxC6 cxC7 cxC8 cxC9
    replace xC := xC.next b9
    replace ha := ha.next b9
    replace hi := hi.next b9
    replace hS0 := hS0.next b9
    replace bb := bb.trans (b9.mono bb.size)
    clear b9
    go_wp2_with fail
    refine (bytes_any (.slice ia n ic) (.slice a n cap) msg msg _ _ _ (by rw [HL.out]; omega) hi ha).mono ?_
    rintro e wx ⟨rfl, q, rfl⟩
    rw [decide_eq_true (rfl : msg = msg)]
    have b9 : Below w2.heap.size w2 (w2.drewN q) := below_drewN (Below.refl _ _) q
    replace xC := xC.next b9
    replace ha := ha.next b9
    replace hi := hi.next b9
    replace hS0 := hS0.next b9
    replace bb := bb.trans (b9.mono bb.size)
    clear b9
    generalize w2.drewN q = w3 at *
    have cxC0 := xC.cell 0 _ rfl
    have cxC1 := xC.cell 1 _ rfl
    have cxC2 := xC.cell 2 _ rfl
    have cxC3 := xC.cell 3 _ rfl
    have cxC4 := xC.cell 4 _ rfl
    have cxC5 := xC.cell 5 _ rfl
    have cxC6 := xC.cell 6 _ rfl
    have cxC7 := xC.cell 7 _ rfl
    have cxC8 := xC.cell 8 _ rfl
    have cxC9 := xC.cell 9 _ rfl
    go_wp2_with fail
    refine (refConfig_any c _).mono ?_
    rintro e w4 ⟨rfl, b9⟩
    clear cxC0 cxC1 cxC2 cxC3 cxC4 cxC5 cxC6 cxC7 cxC8 cxC9
    replace xC := xC.next b9
    replace ha := ha.next b9
    replace hi := hi.next b9
    replace hS0 := hS0.next b9
    replace bb := bb.trans (b9.mono bb.size)
    clear b9
    rw [hCf]
    go_wp2_with fail
    refine (cutWakes_any _).mono ?_
    rintro e w99 ⟨rfl, b99⟩
    go_wp2
    go_ret
    exact ⟨rfl, bb.trans (b99.mono bb.size)⟩

end Go.Proofs.Ythpbiccgjpocaaa
