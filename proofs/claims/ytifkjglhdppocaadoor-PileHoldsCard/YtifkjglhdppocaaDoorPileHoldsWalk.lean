/-
  PileHolds: the walk: whatever the numbers and puts, the law answers true, and nothing that lay has turned. (Written by tpl_pileholds.py.)
-/
import Derived.Test.YtifkjglhdppocaaDoorPileWakes
import Derived.Test.YtifkjglhdppocaaDoorPileOf
import Derived.Test.YtifkjglhdppocaaDoorPileHoldsNums
import Derived.Test.YtifkjglhdppocaaDoorIntRow
import Derived.Test.YtifkjglhdppocaaDoorPlaces
import Derived.OwnWalk
namespace Go.Proofs.YtifkjglhdppocaaDoor
open Go.RowKit

/-- Behind some puts: the pile, and what was put first. -/
def HeldP (N P M BP BF : Nat) (w : World) (l : List (Int × Int)) (wr : World) : Prop :=
  ∃ (a : Option Addr) (c : Nat), Box wr BP 24 #[.int .i64 N, .int .i64 P, .slice a l.length c] ∧ wr.ownsRow (BF + 1) 49 2 (.slice a l.length c) l.length (symCells l) ∧ IntsAt wr BF (firstOf M l) ∧ PileOk (N : Int) (P : Int) l ∧ Below w.heap.size w wr

set_option maxRecDepth 100000 in
set_option maxHeartbeats 8000000 in
theorem pileHolds_any (a0 a1 : Int) (a2 : Option Addr) (cap2 : Nat) (l2 : List (Int × Int)) (w : World) (hv : Syms w.heap.size w (.slice a2 l2.length cap2) l2) (hF : Firsts w) :
    Calls Tryd.prog 4 #[.int .i64 a0, .int .i64 a1, .slice a2 l2.length cap2] w fun e w' => e = .returned (.bool true) ∧ Below w.heap.size w w' := by
  obtain ⟨i0, hi, hz0, hz1, hz2⟩ := info_parts infoIntR
  obtain ⟨n', hn', en⟩ := at_place a0 20 (by decide)
  obtain ⟨p', hp', ep⟩ := at_place a1 6 (by decide)
  have ewn : IntKind.i64.wrap (n' : Int) = (n' : Int) := by rw [IntKind.wrap_i64]; omega
  have ewp : IntKind.i64.wrap (p' : Int) = (p' : Int) := by rw [IntKind.wrap_i64]; omega
  obtain ⟨N, hN⟩ : ∃ N, n' + 1 = N := ⟨_, rfl⟩
  obtain ⟨P, hP⟩ : ∃ P, p' + 1 = P := ⟨_, rfl⟩
  have e1n : 1 + (n' : Int) = (N : Int) := by omega
  have e1p : 1 + (p' : Int) = (P : Int) := by omega
  have HH : Hid (HeadOk (N : Int) (P : Int)) := ⟨by omega, by omega, by omega, by omega⟩
  have hpr := HH.out.prod
  obtain ⟨M, hM⟩ : ∃ M, N * P = M := ⟨_, rfl⟩
  have HNM : Hid (N * P = M) := hM
  have eM : (N : Int) * (P : Int) = (M : Int) := by rw [← hM]; simp
  have HM : Hid ((N : Int) * (P : Int) = (M : Int)) := eM
  rw [eM] at hpr
  have hNb : N ≤ 64 := by omega
  have hN1 : 1 ≤ N := by omega
  have hPb : P ≤ 16 := by omega
  have hM1 : 1 ≤ M := by omega
  have hMb : M ≤ 1024 := by omega
  clear hN hP hn' hp' hM
  by_cases hfar : 200 < l2.length
  · have dz : decide (200 < (l2.length : Int)) = true := decide_eq_true (by omega)
    clear hv
    go_enter Tryd.func4, Tryd.ntmps4
    go_wp2
    go_ret
    exact ⟨rfl, Below.refl _ _⟩
  have dz : decide (200 < (l2.length : Int)) = false := decide_eq_false (by omega)
  have HV : Hid (Syms w.heap.size w (.slice a2 l2.length cap2) l2) := hv
  have HF : Hid (Firsts w) := hF
  have hl2 : l2.length ≤ 200 := by omega
  clear hfar hv hF
  go_enter Tryd.func4, Tryd.ntmps4
  have bb := Below.refl w.heap.size w
  go_wp2_with fail
  refine (New_ok N P HH.out w).mono ?_
  rintro e w2 ⟨rfl, b1⟩
  replace bb := bb.trans (b1.mono bb.size)
  clear b1
  have s0 := bb.size
  have b3 : Below w2.heap.size w2 (w2.alloc (.cells #[.int .i64 N, .int .i64 P, .slice none 0 0] 24)) := (Below.refl _ _).alloc (Nat.le_refl _) _
  have xp := Box.new w2 24 #[.int .i64 N, .int .i64 P, .slice none 0 0]
  replace bb := bb.trans (b3.mono bb.size)
  clear b3
  have cxp0m3 := xp.cell 0 _ rfl
  have cxp1m3 := xp.cell 1 _ rfl
  have cxp2m3 := xp.cell 2 _ rfl
  have fxp0m3 := xp.free 0
  have fxp1m3 := xp.free 1
  have fxp2m3 := xp.free 2
  have lp0 := xp.lt
  have ewM : IntKind.i64.wrap (M : Int) = (M : Int) := by rw [IntKind.wrap_i64]; omega
  go_wp2_with (at_make; refine wpList_make_full _ rfl _ _ 44 rfl (w2.alloc (.cells #[.int .i64 N, .int .i64 P, .slice none 0 0] 24)).heap.size 3 i0 (.int .i64 0) 1 Tryd.underlying44 hi hz0 hz1 .i64 .i64 _ _ M rfl rfl rfl rfl (by rw [hz2]; omega) (by unfold maxLen; omega) (Nat.le_refl _) ?_; intro wm hownM hgrowM)
  have bm : Below (w2.alloc (.cells #[.int .i64 N, .int .i64 P, .slice none 0 0] 24)).heap.size (w2.alloc (.cells #[.int .i64 N, .int .i64 P, .slice none 0 0] 24)) wm := (Below.refl _ _).grown hgrowM (Nat.le_refl _) (fun q e => by cases e)
  replace xp := xp.next bm
  replace bb := bb.trans (bm.mono bb.size)
  have hsz1 : (w2.alloc (.cells #[.int .i64 N, .int .i64 P, .slice none 0 0] 24)).heap.size = w2.heap.size + 1 := by simp
  rw [hsz1] at hownM
  have hR1 : IntsAt wm (w2.heap.size + 1) (List.replicate 0 (-1) ++ List.replicate (M - 0) 0) := by
    rw [show (Value.int IntKind.i64 0).cells = #[.int .i64 0] from rfl, toList_madeCells_one, Nat.mul_one] at hownM
    rw [List.replicate_zero, List.nil_append, Nat.sub_zero]
    refine IntsAt.of_own (base := w2.heap.size + 1) (n := M) (cap := M) ?_
    rw [List.map_replicate]
    exact hownM
  clear hownM hgrowM bm
  clear cxp0m3 cxp1m3 cxp2m3 fxp0m3 fxp1m3 fxp2m3
  go_loopw [10] (fun i wr => ∃ j : Nat, j ≤ M ∧ i = .int .i64 j ∧ IntsAt wr (w2.heap.size + 1) (List.replicate j (-1) ++ List.replicate (M - j) 0) ∧ Box wr w2.heap.size 24 #[.int .i64 N, .int .i64 P, .slice none 0 0] ∧ Below w.heap.size w wr) (fun i _ => M - (intOf i).toNat)
  case atStart => exact ⟨0, Nat.zero_le _, rfl, hR1, xp, bb⟩
  case round =>
    clear hR1 xp bb
    obtain ⟨j, hj, rfl, hR, xp, bb⟩ := hrel
    by_cases hlt : j < M
    · have hln : (List.replicate j (-1 : Int) ++ List.replicate (M - j) 0).length = M := by simp; omega
      have HR : Hid (IntsAt (wr.setCell ⟨(w2.heap.size + 1), j, none⟩ (.int .i64 (-1))) (w2.heap.size + 1) (List.replicate (j + 1) (-1) ++ List.replicate (M - (j + 1)) 0)) := by
        have h := hR.set j (by rw [hln]; exact hlt) (-1)
        rw [fill_step hlt] at h
        exact h
      obtain ⟨u, hu⟩ : ∃ u, wr.cell? ⟨(w2.heap.size + 1), j, none⟩ = some u := ⟨_, hR.2.1 j (by rw [hln]; exact hlt)⟩
      have hfz := hR.2.2 j
      have hjM : (j : Int) < (M : Int) := by omega
      have lq := xp.lt
      have lw := bb.size
      clear hln hR
      go_wp2
      exact ⟨⟨j + 1, by omega, by go_num, HR.out, xp.other (p := ⟨(w2.heap.size + 1), j, none⟩) (by simp) _, bb.setCell (p := ⟨(w2.heap.size + 1), j, none⟩) (by simp; omega) _⟩, by simp [intOf]; omega⟩
    · obtain rfl : M = j := by omega
      rw [Nat.sub_self, List.replicate_zero, List.append_nil, ← firstOf_nil] at hR
      clear hlt hj
      go_wp2
      go_loopw [11, 12] (fun cnt i wr => ∃ (t : Nat) (l : List (Int × Int)), t ≤ l2.length ∧ i = .int .i64 t ∧ cnt = .int .i64 (l.length : Nat) ∧ HeldP N P M w2.heap.size (w2.heap.size + 1) w l wr) (fun _ i _ => l2.length - (intOf i).toNat)
      case atStart => exact ⟨0, [], Nat.zero_le _, rfl, rfl, none, 0, xp, World.ownsRow_nil _ _ _ _, hR, pileOk_nil HH.out, bb⟩
      case round =>
        clear hR xp bb
        obtain ⟨t, l, ht, rfl, rfl, a, c, xp, oA, iF, hok, bb⟩ := hrel
        have HOK : Hid (PileOk (N : Int) (P : Int) l) := hok
        have hlM : l.length ≤ M := by have h1 := pile_len hok; rw [HM.out] at h1; omega
        clear hok
        by_cases hlt : t < l2.length

        · obtain ⟨⟨x0, x1⟩, hx⟩ : ∃ x, l2[t]? = some x := ⟨l2[t], by simp⟩
          obtain ⟨b, off, rfl, hb, hcs⟩ := syms_at (HV.out.below bb) rfl (by omega)
          obtain ⟨cx0, cx1⟩ := hcs t _ hx
          have q0 : ∀ q, (wr.drewN q).cell? ⟨b, off + t * 2, none⟩ = some (.int .i64 x0) := fun q => cx0
          have q1 : ∀ q, (wr.drewN q).cell? ⟨b, off + t * 2 + 1, none⟩ = some (.int .i64 x1) := fun q => cx1
          obtain ⟨s, hs, es⟩ := at_place x0 ((M + 3 : Nat) : Int) (by omega)
          obtain ⟨T3, hT3⟩ : ∃ T3, M + 3 = T3 := ⟨_, rfl⟩
          have e3 : (M : Int) + 3 = (T3 : Int) := by omega
          rw [hT3] at es hs
          have eu3 : IntKind.u64.wrap (T3 : Int) = (T3 : Int) := by rw [IntKind.wrap_u64]; omega
          have n3 : ¬ (T3 : Int) = 0 := by omega
          have n4 : ¬ T3 = 0 := by omega
          have ew3 : IntKind.i64.wrap (T3 : Int) = (T3 : Int) := by rw [IntKind.wrap_i64]; omega
          have ews : IntKind.i64.wrap (s : Int) = (s : Int) := by rw [IntKind.wrap_i64]; omega
          have hs2 : s ≤ 2000 := by omega
          have hvb := vz_bd x1
          have ev : (IntKind.u64.wrap x1).tmod 256 = vz x1 := rfl
          obtain ⟨v, hvz⟩ : ∃ v, vz x1 = v := ⟨_, rfl⟩
          rw [hvz] at hvb ev
          have ewv : IntKind.i64.wrap v = v := by rw [IntKind.wrap_i64]; omega
          clear hcs cx0 cx1 hx hT3 hs hvz
          go_wp2
          go_quiet (fail)
          have xpV := xp.drewN nq
          have oAV : (wr.drewN nq).ownsRow ((w2.heap.size + 1) + 1) 49 2 (.slice a l.length c) l.length (symCells l) := oA
          have iFV := iF.drewN nq
          have bbV := below_drewN bb nq
          obtain ⟨V, hV⟩ : ∃ V, wr.drewN nq = V := ⟨_, rfl⟩
          rw [hV] at xpV oAV iFV bbV ⊢
          clear hV q0 q1 xp oA iF bb
          replace xp := xpV
          replace oA := oAV
          replace iF := iFV
          replace bb := bbV
          have hs1 : Syms V.heap.size V (.slice a l.length c) l := syms_of_row oA
          have hrc := rowCap_of oA
          by_cases hsM : s < M
          · cases hh : hasAt l (s : Int) with
            | true =>
              obtain ⟨h1, h2⟩ := made_stale (n := (N : Int)) (p := (P : Int)) v hh
              obtain ⟨u, hu, hu0⟩ := firstOf_old HOK.out hsM hh
              have HG : Hid ((firstOf M l)[s]? = some u) := hu
              have du : decide (u < 0) = false := decide_eq_false (by omega)
              obtain ⟨L, hL⟩ : ∃ L, l = L := ⟨_, rfl⟩
              have HLQ : Hid (L = l) := hL.symm
              have HLL : Hid (L.length = l.length) := by
                show L.length = l.length
                rw [hL]
              have HPU : Hid (putN (N : Int) (P : Int) l (s : Int) v = L) := h2.trans hL
              have HFR : Hid (freshN (N : Int) (P : Int) l (s : Int) = false) := h1
              have HOK2 : Hid (PileOk (N : Int) (P : Int) L) := by
                show PileOk (N : Int) (P : Int) L
                rw [← hL]; exact HOK.out
              have hLb : L.length ≤ 1024 := by rw [HLL.out]; omega
              have dsM : decide ((s : Int) < (M : Int)) = true := decide_eq_true (by omega)
              clear h1 h2 hL hh hu
              have cxp0m1 := xp.cell 0 _ rfl
              have cxp1m1 := xp.cell 1 _ rfl
              have cxp2m1 := xp.cell 2 _ rfl
              have fxp0m1 := xp.free 0
              have fxp1m1 := xp.free 1
              have fxp2m1 := xp.free 2
              go_wp2_with fail
              clear cxp0m1 cxp1m1 cxp2m1 fxp0m1 fxp1m1 fxp2m1
              have lp := xp.lt
              have lf := iF.1
              have lwV := bb.size
              refine (Put_in N P s v (by omega) (by omega) hvb.1 hvb.2 a c l HOK.out V hs1 hrc).mono ?_
              rw [HPU.out, HFR.out]
              rintro e w302 ⟨r2, rfl, o2, b301⟩
              replace xp := xp.next b301
              replace iF := iF.next b301
              replace oA := symRow_below oA b301 (Nat.le_refl _)
              replace bb := bb.trans (b301.mono bb.size)
              clear b301
              obtain ⟨a2r, c2r, rfl⟩ := (syms_of_row o2).shape
              clear oA hs1
              have lp2 := xp.lt
              have lf2 := iF.1
              have cxp0m2 := xp.cell 0 _ rfl
              have cxp1m2 := xp.cell 1 _ rfl
              have cxp2m2 := xp.cell 2 _ rfl
              have fxp0m2 := xp.free 0
              have fxp1m2 := xp.free 1
              have fxp2m2 := xp.free 2
              have b303 : Below w302.heap.size w302 (w302.alloc (.cells #[.int .i64 N, .int .i64 P, .slice a2r L.length c2r] 24)) := (Below.refl _ _).alloc (Nat.le_refl _) _
              have xq := Box.new w302 24 #[.int .i64 N, .int .i64 P, .slice a2r L.length c2r]
              replace xp := xp.next b303
              replace iF := iF.next b303
              replace o2 := symRow_below o2 b303 (Nat.le_refl _)
              replace bb := bb.trans (b303.mono bb.size)
              clear b303
              obtain ⟨w304, hw304⟩ : ∃ W, (w302.alloc (.cells #[.int .i64 N, .int .i64 P, .slice a2r L.length c2r] 24)) = W := ⟨_, rfl⟩
              rw [hw304] at xp iF xq o2 bb
              have cF := iF.cell HG.out
              have cxp0m3 := xp.cell 0 _ rfl
              have cxp1m3 := xp.cell 1 _ rfl
              have cxp2m3 := xp.cell 2 _ rfl
              have fxp0m3 := xp.free 0
              have fxp1m3 := xp.free 1
              have fxp2m3 := xp.free 2
              have cxq0m3 := xq.cell 0 _ rfl
              have cxq1m3 := xq.cell 1 _ rfl
              have cxq2m3 := xq.cell 2 _ rfl
              replace xp := xp.set3 (.int .i64 N) (.int .i64 P) (.slice a2r L.length c2r)
              replace iF := iF.other3 (D := w2.heap.size) (by omega) (.int .i64 N) (.int .i64 P) (.slice a2r L.length c2r)
              replace xq := xq.other3 (D := w2.heap.size) (by omega) (.int .i64 N) (.int .i64 P) (.slice a2r L.length c2r)
              replace o2 := row_set3 o2 (D := w2.heap.size) (by omega) (.int .i64 N) (.int .i64 P) (.slice a2r L.length c2r)
              replace bb := below_set3 bb (D := w2.heap.size) (by omega) (.int .i64 N) (.int .i64 P) (.slice a2r L.length c2r)
              have cxp0m4 := xp.cell 0 _ rfl
              have cxp1m4 := xp.cell 1 _ rfl
              have cxp2m4 := xp.cell 2 _ rfl
              have fxp0m4 := xp.free 0
              have fxp1m4 := xp.free 1
              have fxp2m4 := xp.free 2
              have cxq0m4 := xq.cell 0 _ rfl
              have cxq1m4 := xq.cell 1 _ rfl
              have cxq2m4 := xq.cell 2 _ rfl
              go_wp2_with fail
              clear cxp0m2 cxp1m2 cxp2m2 fxp0m2 fxp1m2 fxp2m2 cF cxp0m3 cxp1m3 cxp2m3 fxp0m3 fxp1m3 fxp2m3 cxq0m3 cxq1m3 cxq2m3 cxp0m4 cxp1m4 cxp2m4 fxp0m4 fxp1m4 fxp2m4 cxq0m4 cxq1m4 cxq2m4
              clear hw304
              obtain ⟨w305, hw305⟩ : ∃ W, (((w304.setCell ⟨w2.heap.size, 0, none⟩ (.int .i64 N)).setCell ⟨w2.heap.size, 1, none⟩ (.int .i64 P)).setCell ⟨w2.heap.size, 2, none⟩ (.slice a2r L.length c2r)) = W := ⟨_, rfl⟩
              rw [hw305] at xp iF xq o2 bb ⊢
              clear hw305
              refine (Check_ok N P a2r c2r L (by omega) HOK2.out w305 (syms_of_row o2)).mono ?_
              rintro e w307 ⟨rfl, b306⟩
              replace xp := xp.next b306
              replace iF := iF.next b306
              replace xq := xq.next b306
              replace o2 := symRow_below o2 b306 (Nat.le_refl _)
              replace bb := bb.trans (b306.mono bb.size)
              clear b306
              have enl : ((L.length : Int) != (l.length : Int)) = false := by rw [HLL.out]; simp
              have enl2 : (L.length != l.length) = false := by rw [HLL.out]; simp
              have cxp0m5 := xp.cell 0 _ rfl
              have cxp1m5 := xp.cell 1 _ rfl
              have cxp2m5 := xp.cell 2 _ rfl
              have fxp0m5 := xp.free 0
              have fxp1m5 := xp.free 1
              have fxp2m5 := xp.free 2
              have cxq0m5 := xq.cell 0 _ rfl
              have cxq1m5 := xq.cell 1 _ rfl
              have cxq2m5 := xq.cell 2 _ rfl
              go_wp2
              clear cxp0m5 cxp1m5 cxp2m5 fxp0m5 fxp1m5 fxp2m5 cxq0m5 cxq1m5 cxq2m5
              exact ⟨⟨t + 1, L, by omega, by go_num, by rw [HLL.out], a2r, c2r, xp, symRow_base o2 (by omega), by rw [HLQ.out]; exact iF, HOK2.out, bb⟩, by simp [intOf]; omega⟩
            | false =>
              have hc : ¬ ((N : Int) * (P : Int) ≤ (s : Int) ∨ hasAt l (s : Int) = true) := fun hc => by
                rcases hc with hc | hc
                · rw [HM.out] at hc; omega
                · rw [hh] at hc; cases hc
              have HG : Hid ((firstOf M l)[s]? = some (-1)) := firstOf_new hsM hh
              have h5 := firstOf_put HOK.out.2.2 hsM hh v
              have h4 := putN_ok (k := (s : Int)) (v := v) HOK.out (by omega) hvb.1 hvb.2
              have h2 : putN (N : Int) (P : Int) l (s : Int) v = putL l (s : Int) v := by unfold putN; rw [if_neg hc]
              have h6 := putL_len l (s : Int) v
              rw [h2] at h4
              obtain ⟨L, hL⟩ : ∃ L, putL l (s : Int) v = L := ⟨_, rfl⟩
              rw [hL] at h2 h4 h5 h6
              have HLL : Hid (L.length = l.length + 1) := h6
              have HPU : Hid (putN (N : Int) (P : Int) l (s : Int) v = L) := h2
              have HFR : Hid (freshN (N : Int) (P : Int) l (s : Int) = true) := by
                show freshN (N : Int) (P : Int) l (s : Int) = true
                unfold freshN; exact decide_eq_true hc
              have HOK2 : Hid (PileOk (N : Int) (P : Int) L) := h4
              have HFP : Hid (firstOf M L = (firstOf M l).set s v) := h5
              have hLb : L.length ≤ 1025 := by rw [HLL.out]; omega
              have dsM : decide ((s : Int) < (M : Int)) = true := decide_eq_true (by omega)
              clear h2 h4 h5 h6 hL hh hc
              have cxp0m1 := xp.cell 0 _ rfl
              have cxp1m1 := xp.cell 1 _ rfl
              have cxp2m1 := xp.cell 2 _ rfl
              have fxp0m1 := xp.free 0
              have fxp1m1 := xp.free 1
              have fxp2m1 := xp.free 2
              go_wp2_with fail
              clear cxp0m1 cxp1m1 cxp2m1 fxp0m1 fxp1m1 fxp2m1
              have lp := xp.lt
              have lf := iF.1
              have lwV := bb.size
              refine (Put_in N P s v (by omega) (by omega) hvb.1 hvb.2 a c l HOK.out V hs1 hrc).mono ?_
              rw [HPU.out, HFR.out]
              rintro e w302 ⟨r2, rfl, o2, b301⟩
              replace xp := xp.next b301
              replace iF := iF.next b301
              replace oA := symRow_below oA b301 (Nat.le_refl _)
              replace bb := bb.trans (b301.mono bb.size)
              clear b301
              obtain ⟨a2r, c2r, rfl⟩ := (syms_of_row o2).shape
              clear oA hs1
              have lp2 := xp.lt
              have lf2 := iF.1
              have cxp0m2 := xp.cell 0 _ rfl
              have cxp1m2 := xp.cell 1 _ rfl
              have cxp2m2 := xp.cell 2 _ rfl
              have fxp0m2 := xp.free 0
              have fxp1m2 := xp.free 1
              have fxp2m2 := xp.free 2
              have b303 : Below w302.heap.size w302 (w302.alloc (.cells #[.int .i64 N, .int .i64 P, .slice a2r L.length c2r] 24)) := (Below.refl _ _).alloc (Nat.le_refl _) _
              have xq := Box.new w302 24 #[.int .i64 N, .int .i64 P, .slice a2r L.length c2r]
              replace xp := xp.next b303
              replace iF := iF.next b303
              replace o2 := symRow_below o2 b303 (Nat.le_refl _)
              replace bb := bb.trans (b303.mono bb.size)
              clear b303
              obtain ⟨w304, hw304⟩ : ∃ W, (w302.alloc (.cells #[.int .i64 N, .int .i64 P, .slice a2r L.length c2r] 24)) = W := ⟨_, rfl⟩
              rw [hw304] at xp iF xq o2 bb
              have cF := iF.cell HG.out
              have fF := iF.2.2 s
              have cxp0m3 := xp.cell 0 _ rfl
              have cxp1m3 := xp.cell 1 _ rfl
              have cxp2m3 := xp.cell 2 _ rfl
              have fxp0m3 := xp.free 0
              have fxp1m3 := xp.free 1
              have fxp2m3 := xp.free 2
              have cxq0m3 := xq.cell 0 _ rfl
              have cxq1m3 := xq.cell 1 _ rfl
              have cxq2m3 := xq.cell 2 _ rfl
              replace xp := xp.other (p := ⟨(w2.heap.size + 1), s, none⟩) (by simp) (.int .i64 v)
              replace xq := xq.other (p := ⟨(w2.heap.size + 1), s, none⟩) (by simp; omega) (.int .i64 v)
              replace o2 := ownsRow_setCell_below o2 (a := ⟨(w2.heap.size + 1), s, none⟩) (by simp; omega) (.int .i64 v)
              replace iF := iF.set s (by rw [firstOf_len]; exact hsM) v
              replace bb := bb.setCell (p := ⟨(w2.heap.size + 1), s, none⟩) (by simp; omega) (.int .i64 v)
              rw [← HFP.out] at iF
              have cxp0m4 := xp.cell 0 _ rfl
              have cxp1m4 := xp.cell 1 _ rfl
              have cxp2m4 := xp.cell 2 _ rfl
              have fxp0m4 := xp.free 0
              have fxp1m4 := xp.free 1
              have fxp2m4 := xp.free 2
              have cxq0m4 := xq.cell 0 _ rfl
              have cxq1m4 := xq.cell 1 _ rfl
              have cxq2m4 := xq.cell 2 _ rfl
              replace xp := xp.set3 (.int .i64 N) (.int .i64 P) (.slice a2r L.length c2r)
              replace iF := iF.other3 (D := w2.heap.size) (by omega) (.int .i64 N) (.int .i64 P) (.slice a2r L.length c2r)
              replace xq := xq.other3 (D := w2.heap.size) (by omega) (.int .i64 N) (.int .i64 P) (.slice a2r L.length c2r)
              replace o2 := row_set3 o2 (D := w2.heap.size) (by omega) (.int .i64 N) (.int .i64 P) (.slice a2r L.length c2r)
              replace bb := below_set3 bb (D := w2.heap.size) (by omega) (.int .i64 N) (.int .i64 P) (.slice a2r L.length c2r)
              have cxp0m5 := xp.cell 0 _ rfl
              have cxp1m5 := xp.cell 1 _ rfl
              have cxp2m5 := xp.cell 2 _ rfl
              have fxp0m5 := xp.free 0
              have fxp1m5 := xp.free 1
              have fxp2m5 := xp.free 2
              have cxq0m5 := xq.cell 0 _ rfl
              have cxq1m5 := xq.cell 1 _ rfl
              have cxq2m5 := xq.cell 2 _ rfl
              go_wp2_with fail
              clear cxp0m2 cxp1m2 cxp2m2 fxp0m2 fxp1m2 fxp2m2 cF fF cxp0m3 cxp1m3 cxp2m3 fxp0m3 fxp1m3 fxp2m3 cxq0m3 cxq1m3 cxq2m3 cxp0m4 cxp1m4 cxp2m4 fxp0m4 fxp1m4 fxp2m4 cxq0m4 cxq1m4 cxq2m4 cxp0m5 cxp1m5 cxp2m5 fxp0m5 fxp1m5 fxp2m5 cxq0m5 cxq1m5 cxq2m5
              clear hw304
              obtain ⟨w305, hw305⟩ : ∃ W, ((((w304.setCell ⟨(w2.heap.size + 1), s, none⟩ (.int .i64 v)).setCell ⟨w2.heap.size, 0, none⟩ (.int .i64 N)).setCell ⟨w2.heap.size, 1, none⟩ (.int .i64 P)).setCell ⟨w2.heap.size, 2, none⟩ (.slice a2r L.length c2r)) = W := ⟨_, rfl⟩
              rw [hw305] at xp iF xq o2 bb ⊢
              clear hw305
              refine (Check_ok N P a2r c2r L (by omega) HOK2.out w305 (syms_of_row o2)).mono ?_
              rintro e w307 ⟨rfl, b306⟩
              replace xp := xp.next b306
              replace iF := iF.next b306
              replace xq := xq.next b306
              replace o2 := symRow_below o2 b306 (Nat.le_refl _)
              replace bb := bb.trans (b306.mono bb.size)
              clear b306
              have enl : ((L.length : Int) != (l.length : Int) + 1) = false := by rw [HLL.out]; simp
              have enl2 : (L.length != l.length + 1) = false := by rw [HLL.out]; simp
              have cxp0m6 := xp.cell 0 _ rfl
              have cxp1m6 := xp.cell 1 _ rfl
              have cxp2m6 := xp.cell 2 _ rfl
              have fxp0m6 := xp.free 0
              have fxp1m6 := xp.free 1
              have fxp2m6 := xp.free 2
              have cxq0m6 := xq.cell 0 _ rfl
              have cxq1m6 := xq.cell 1 _ rfl
              have cxq2m6 := xq.cell 2 _ rfl
              go_wp2
              clear cxp0m6 cxp1m6 cxp2m6 fxp0m6 fxp1m6 fxp2m6 cxq0m6 cxq1m6 cxq2m6
              exact ⟨⟨t + 1, L, by omega, by go_num, by rw [HLL.out]; go_num, a2r, c2r, xp, symRow_base o2 (by omega), iF, HOK2.out, bb⟩, by simp [intOf]; omega⟩
          · have h1 : freshN (N : Int) (P : Int) l (s : Int) = false := by unfold freshN; exact decide_eq_false (fun h => h (.inl (by rw [HM.out]; omega)))
            have h2 : putN (N : Int) (P : Int) l (s : Int) v = l := by unfold putN; rw [if_pos (.inl (by rw [HM.out]; omega))]
            obtain ⟨L, hL⟩ : ∃ L, l = L := ⟨_, rfl⟩
            have HLQ : Hid (L = l) := hL.symm
            have HLL : Hid (L.length = l.length) := by
              show L.length = l.length
              rw [hL]
            have HPU : Hid (putN (N : Int) (P : Int) l (s : Int) v = L) := h2.trans hL
            have HFR : Hid (freshN (N : Int) (P : Int) l (s : Int) = false) := h1
            have HOK2 : Hid (PileOk (N : Int) (P : Int) L) := by
              show PileOk (N : Int) (P : Int) L
              rw [← hL]; exact HOK.out
            have hLb : L.length ≤ 1024 := by rw [HLL.out]; omega
            have dsM : decide ((s : Int) < (M : Int)) = false := decide_eq_false (by omega)
            clear h1 h2 hL
            have cxp0m1 := xp.cell 0 _ rfl
            have cxp1m1 := xp.cell 1 _ rfl
            have cxp2m1 := xp.cell 2 _ rfl
            have fxp0m1 := xp.free 0
            have fxp1m1 := xp.free 1
            have fxp2m1 := xp.free 2
            go_wp2_with fail
            clear cxp0m1 cxp1m1 cxp2m1 fxp0m1 fxp1m1 fxp2m1
            have lp := xp.lt
            have lf := iF.1
            have lwV := bb.size
            refine (Put_in N P s v (by omega) (by omega) hvb.1 hvb.2 a c l HOK.out V hs1 hrc).mono ?_
            rw [HPU.out, HFR.out]
            rintro e w302 ⟨r2, rfl, o2, b301⟩
            replace xp := xp.next b301
            replace iF := iF.next b301
            replace oA := symRow_below oA b301 (Nat.le_refl _)
            replace bb := bb.trans (b301.mono bb.size)
            clear b301
            obtain ⟨a2r, c2r, rfl⟩ := (syms_of_row o2).shape
            clear oA hs1
            have lp2 := xp.lt
            have lf2 := iF.1
            have cxp0m2 := xp.cell 0 _ rfl
            have cxp1m2 := xp.cell 1 _ rfl
            have cxp2m2 := xp.cell 2 _ rfl
            have fxp0m2 := xp.free 0
            have fxp1m2 := xp.free 1
            have fxp2m2 := xp.free 2
            have b303 : Below w302.heap.size w302 (w302.alloc (.cells #[.int .i64 N, .int .i64 P, .slice a2r L.length c2r] 24)) := (Below.refl _ _).alloc (Nat.le_refl _) _
            have xq := Box.new w302 24 #[.int .i64 N, .int .i64 P, .slice a2r L.length c2r]
            replace xp := xp.next b303
            replace iF := iF.next b303
            replace o2 := symRow_below o2 b303 (Nat.le_refl _)
            replace bb := bb.trans (b303.mono bb.size)
            clear b303
            obtain ⟨w304, hw304⟩ : ∃ W, (w302.alloc (.cells #[.int .i64 N, .int .i64 P, .slice a2r L.length c2r] 24)) = W := ⟨_, rfl⟩
            rw [hw304] at xp iF xq o2 bb
            have cxp0m3 := xp.cell 0 _ rfl
            have cxp1m3 := xp.cell 1 _ rfl
            have cxp2m3 := xp.cell 2 _ rfl
            have fxp0m3 := xp.free 0
            have fxp1m3 := xp.free 1
            have fxp2m3 := xp.free 2
            have cxq0m3 := xq.cell 0 _ rfl
            have cxq1m3 := xq.cell 1 _ rfl
            have cxq2m3 := xq.cell 2 _ rfl
            replace xp := xp.set3 (.int .i64 N) (.int .i64 P) (.slice a2r L.length c2r)
            replace iF := iF.other3 (D := w2.heap.size) (by omega) (.int .i64 N) (.int .i64 P) (.slice a2r L.length c2r)
            replace xq := xq.other3 (D := w2.heap.size) (by omega) (.int .i64 N) (.int .i64 P) (.slice a2r L.length c2r)
            replace o2 := row_set3 o2 (D := w2.heap.size) (by omega) (.int .i64 N) (.int .i64 P) (.slice a2r L.length c2r)
            replace bb := below_set3 bb (D := w2.heap.size) (by omega) (.int .i64 N) (.int .i64 P) (.slice a2r L.length c2r)
            have cxp0m4 := xp.cell 0 _ rfl
            have cxp1m4 := xp.cell 1 _ rfl
            have cxp2m4 := xp.cell 2 _ rfl
            have fxp0m4 := xp.free 0
            have fxp1m4 := xp.free 1
            have fxp2m4 := xp.free 2
            have cxq0m4 := xq.cell 0 _ rfl
            have cxq1m4 := xq.cell 1 _ rfl
            have cxq2m4 := xq.cell 2 _ rfl
            go_wp2_with fail
            clear cxp0m2 cxp1m2 cxp2m2 fxp0m2 fxp1m2 fxp2m2 cxp0m3 cxp1m3 cxp2m3 fxp0m3 fxp1m3 fxp2m3 cxq0m3 cxq1m3 cxq2m3 cxp0m4 cxp1m4 cxp2m4 fxp0m4 fxp1m4 fxp2m4 cxq0m4 cxq1m4 cxq2m4
            clear hw304
            obtain ⟨w305, hw305⟩ : ∃ W, (((w304.setCell ⟨w2.heap.size, 0, none⟩ (.int .i64 N)).setCell ⟨w2.heap.size, 1, none⟩ (.int .i64 P)).setCell ⟨w2.heap.size, 2, none⟩ (.slice a2r L.length c2r)) = W := ⟨_, rfl⟩
            rw [hw305] at xp iF xq o2 bb ⊢
            clear hw305
            refine (Check_ok N P a2r c2r L (by omega) HOK2.out w305 (syms_of_row o2)).mono ?_
            rintro e w307 ⟨rfl, b306⟩
            replace xp := xp.next b306
            replace iF := iF.next b306
            replace xq := xq.next b306
            replace o2 := symRow_below o2 b306 (Nat.le_refl _)
            replace bb := bb.trans (b306.mono bb.size)
            clear b306
            have enl : ((L.length : Int) != (l.length : Int)) = false := by rw [HLL.out]; simp
            have enl2 : (L.length != l.length) = false := by rw [HLL.out]; simp
            have cxp0m5 := xp.cell 0 _ rfl
            have cxp1m5 := xp.cell 1 _ rfl
            have cxp2m5 := xp.cell 2 _ rfl
            have fxp0m5 := xp.free 0
            have fxp1m5 := xp.free 1
            have fxp2m5 := xp.free 2
            have cxq0m5 := xq.cell 0 _ rfl
            have cxq1m5 := xq.cell 1 _ rfl
            have cxq2m5 := xq.cell 2 _ rfl
            go_wp2
            clear cxp0m5 cxp1m5 cxp2m5 fxp0m5 fxp1m5 fxp2m5 cxq0m5 cxq1m5 cxq2m5
            exact ⟨⟨t + 1, L, by omega, by go_num, by rw [HLL.out], a2r, c2r, xp, symRow_base o2 (by omega), by rw [HLQ.out]; exact iF, HOK2.out, bb⟩, by simp [intOf]; omega⟩
        · obtain rfl : t = l2.length := by omega
          have HAL : Hid (allN N l N = l.length) := allN_all hN1 (by omega) l
          have hlb : l.length ≤ 1024 := by omega
          obtain ⟨wq, rfl⟩ : ∃ wq, wq = wr := ⟨_, rfl⟩
          clear hlt ht
          go_wp2
          go_loopw [18, 19] (fun al i wr => ∃ S : Nat, S ≤ N ∧ i = .int .i64 S ∧ al = .int .i64 ((allN N l S : Nat) : Int) ∧ Below wq.heap.size wq wr) (fun _ i _ => N - (intOf i).toNat)
          case atStart => exact ⟨0, Nat.zero_le _, rfl, rfl, Below.refl _ _⟩
          case round =>
            obtain ⟨S, hS, rfl, rfl, hbq⟩ := hrel
            have xs := xp.next hbq
            have os := symRow_below oA hbq (Nat.le_refl _)
            have is := iF.next hbq
            have bbs := bb.trans (hbq.mono bb.size)
            have hFs := HF.out.next bbs
            have y0 := xs.cell 0 _ rfl
            have y1 := xs.cell 1 _ rfl
            have y2 := xs.cell 2 _ rfl
            by_cases hlt : S < N
            · have HOF := PileOf_in N P S hlt a c l HOK.out wr (syms_of_row os) hFs
              obtain ⟨OL, hOL⟩ : ∃ OL, ofL N l S = OL := ⟨_, rfl⟩
              have HOL : Hid (ofL N l S = OL) := hOL
              have hol : OL.length ≤ 1024 := by have h1 := ofL_len_le N l S; rw [hOL] at h1; omega
              have HAN : Hid (allN N l (S + 1) = allN N l S + OL.length) := by
                show allN N l (S + 1) = allN N l S + OL.length
                rw [allN, hOL]
              have hA1 := allN_le N l S
              obtain ⟨A0, hA0⟩ : ∃ A0, allN N l S = A0 := ⟨_, rfl⟩
              rw [hA0] at HAN hA1
              rw [hOL] at HOF
              rw [hA0]
              clear hOL hA0
              go_wp2_with fail
              refine HOF.mono ?_
              rintro e w5 ⟨r5, rfl, o5, b5⟩
              obtain ⟨a5, c5, rfl⟩ := (syms_of_row o5).shape
              have i5 := is.next b5
              have bb5 := bbs.trans (b5.mono bbs.size)
              have hF5 := hFs.next b5
              have bq5 := hbq.trans (b5.mono hbq.size)
              clear HOF y0 y1 y2 xs os is hFs b5
              go_wp2
              go_loopw [18, 22] (fun al i wr => ∃ j : Nat, j ≤ OL.length ∧ i = .int .i64 j ∧ al = .int .i64 ((A0 + j : Nat) : Int) ∧ Below w5.heap.size w5 wr) (fun _ i _ => OL.length - (intOf i).toNat)
              case atStart => exact ⟨0, Nat.zero_le _, rfl, rfl, Below.refl _ _⟩
              case round =>
                obtain ⟨j, hj, rfl, rfl, hb6⟩ := hrel
                by_cases hli : j < OL.length
                · obtain ⟨⟨x0, x1⟩, hx⟩ : ∃ x, OL[j]? = some x := ⟨OL[j], by simp⟩
                  obtain ⟨ad, d, hmem, ed, hpl, hadM, hd⟩ := of_elem HOK.out hlt (by rw [HOL.out]; exact hx)
                  have hf1 := firstOf_mem (M := M) HOK.out.2.2 hmem (by rw [← HNM.out]; exact hadM)
                  rw [HNM.out] at hadM
                  obtain rfl : x0 = (d : Int) := ed
                  obtain ⟨g5, off5, rfl, hg5, hcs⟩ := syms_at ((syms_of_row o5).next hb6) rfl (by omega)
                  obtain ⟨c0, c1⟩ := hcs j _ hx
                  have HPL := Place_ok N S d hN1 (by omega) hlt (by omega) wr (hF5.next hb6)
                  rw [hpl] at HPL
                  have i6 := i5.next hb6
                  have d1 : decide ((ad : Int) < 0) = false := decide_eq_false (by omega)
                  have d2 : decide ((M : Int) ≤ (ad : Int)) = false := decide_eq_false (by omega)
                  have d2n : decide (M ≤ ad) = false := decide_eq_false (by omega)
                  have hadi : (ad : Int) < (M : Int) := by omega
                  have dv : (x1 != x1) = false := by simp
                  have hAb : A0 + j ≤ 2048 := by omega
                  rcases Nat.eq_zero_or_pos j with hj0 | hj0
                  · subst hj0
                    rw [Nat.zero_mul, Nat.add_zero] at c0 c1
                    clear hcs hx hmem hpl
                    go_wp2_with fail
                    refine HPL.mono ?_
                    rintro e w7 ⟨rfl, b7⟩
                    have q0 : ∀ q, (w7.drewN q).cell? ⟨(w2.heap.size + 1), ad, none⟩ = some (.int .i64 x1) := fun q => (i6.next b7).cell hf1
                    have q1 : ∀ q, (w7.drewN q).cell? ⟨g5, off5 + 1, none⟩ = some (.int .i64 x1) := fun q => (b7.cell (p := ⟨g5, off5 + 1, none⟩) hg5).trans c1
                    clear HPL c0 c1 i6
                    go_wp2
                    go_quiet (fail)
                    go_wp2
                    exact ⟨⟨0 + 1, by omega, by go_num, by go_num, below_drewN (hb6.trans (b7.mono hb6.size)) _⟩, by simp [intOf]; omega⟩
                  · obtain ⟨I, hI⟩ : ∃ I, j = I + 1 := ⟨j - 1, by omega⟩
                    obtain ⟨⟨y0, y1⟩, hy⟩ : ∃ y, OL[I]? = some y := ⟨OL[I]'(by omega), by simp⟩
                    have hrs := of_rise HOK.out hlt (by rw [HOL.out]; exact hy) (by rw [HOL.out, ← hI]; exact hx)
                    have eI : (j : Int) - 1 = (I : Int) := by omega
                    have ewI : IntKind.i64.wrap (I : Int) = (I : Int) := by rw [IntKind.wrap_i64]; omega
                    have hIl : I < OL.length := by omega
                    have hIi : (I : Int) < (OL.length : Int) := by omega
                    have hji : (j : Int) < (OL.length : Int) := by omega
                    have d0 : decide ((0 : Int) < (j : Int)) = true := decide_eq_true (by omega)
                    have d0n : decide (0 < j) = true := decide_eq_true (by omega)
                    have d4 : decide ((d : Int) ≤ y0) = false := decide_eq_false (by simp at hrs; omega)
                    have cy0 := (hcs I _ hy).1
                    clear hcs hx hmem hpl hy hrs hI
                    go_wp2_with fail
                    refine HPL.mono ?_
                    rintro e w7 ⟨rfl, b7⟩
                    have q0 : ∀ q, (w7.drewN q).cell? ⟨(w2.heap.size + 1), ad, none⟩ = some (.int .i64 x1) := fun q => (i6.next b7).cell hf1
                    have q1 : ∀ q, (w7.drewN q).cell? ⟨g5, off5 + j * 2 + 1, none⟩ = some (.int .i64 x1) := fun q => (b7.cell (p := ⟨g5, off5 + j * 2 + 1, none⟩) hg5).trans c1
                    have q2 : ∀ q, (w7.drewN q).cell? ⟨g5, off5 + j * 2, none⟩ = some (.int .i64 (d : Int)) := fun q => (b7.cell (p := ⟨g5, off5 + j * 2, none⟩) hg5).trans c0
                    have q3 : ∀ q, (w7.drewN q).cell? ⟨g5, off5 + I * 2, none⟩ = some (.int .i64 y0) := fun q => (b7.cell (p := ⟨g5, off5 + I * 2, none⟩) hg5).trans cy0
                    clear HPL c0 c1 cy0 i6
                    go_wp2
                    go_quiet (fail)
                    go_wp2
                    exact ⟨⟨j + 1, by omega, by go_num, by go_num, below_drewN (hb6.trans (b7.mono hb6.size)) _⟩, by simp [intOf]; omega⟩
                · obtain rfl : j = OL.length := by omega
                  clear hli hj
                  go_wp2
                  exact ⟨⟨S + 1, by omega, by go_num, by rw [HAN.out], bq5.trans (hb6.mono bq5.size)⟩, by simp [intOf]; omega⟩
            · obtain rfl : N = S := by omega
              rw [HAL.out]
              have dNN : decide ((N : Int) < (N : Int)) = false := decide_eq_false (by omega)
              clear hlt hS
              go_wp2_with fail
              refine (pileWakes_any _).mono ?_
              rintro e w9 ⟨rfl, b9⟩
              go_wp2
              go_ret
              exact ⟨rfl, bbs.trans (b9.mono bbs.size)⟩

/-- The law, of whatever numbers and puts. -/
theorem pileHolds_walk (a0 a1 : Int) (a2 : Option Addr) (len2 cap2 : Nat) (l2 : List (Int × Int)) (w : World) (w2 : IsSyms w a2 len2 cap2 l2) (hF : Firsts w) :
    Calls Tryd.prog 4 #[.int .i64 a0, .int .i64 a1, .slice a2 len2 cap2] w fun e w' => e = .returned (.bool true) ∧ Below w.heap.size w w' := by
  obtain ⟨rfl, _, _, ha, _⟩ := w2
  exact pileHolds_any a0 a1 a2 cap2 l2 w ha hF

end Go.Proofs.YtifkjglhdppocaaDoor
