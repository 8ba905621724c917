/-
  The walk of JoinExact. (Written by tpl_joinlaws.py.)
-/
import Derived.Test.YtklmiapieaogdaaJoinAt
import Derived.Test.YtklmiapieaogdaaJoinWakes
import Derived.Test.YtklmiapieaogdaaRefBlock
import Derived.Test.YtklmiapieaogdaaKeepBytes
import Derived.Test.YtklmiapieaogdaaRegionHand
import Derived.Deep.Cut
import Derived.Deep.CutRange
import Derived.Deep.DeepCutAuto
namespace Go.Proofs.Ytklmiapieaogdaa
open Go.RowKit

set_option maxRecDepth 100000 in
set_option maxHeartbeats 8000000 in
theorem joinExact_walk (o0 : Bool) (a : Option Addr) (n cap : Nat) (t0 : List Int) (hn : t0.length = n) (la : Option Addr) (len lcap : Nat) (l : List Bl) (hl : l.length = len) (w : World) (ha : Holds .u8 w.heap.size w (.slice a n cap) t0) (hL : Blks w.heap.size w (.slice la len lcap) l) :
    Calls Try.prog 3 #[.agg #[.bool o0, .slice a n cap], .slice la len lcap] w fun e w' => e = .returned (.bool true) ∧ Below w.heap.size w w' := by
  have bb : Below w.heap.size w (w.alloc (.cells #[.bool o0, .slice a n cap] 24)) := (Below.refl _ _).alloc (Nat.le_refl _) _
  have x2 := Box.new w 24 #[.bool o0, .slice a n cap]
  replace ha := ha.next bb
  have HL0 : Hid (Blks w.heap.size w (.slice la len lcap) l) := hL
  have HN : Hid (t0.length = n) := hn
  have HLL : Hid (l.length = len) := hl
  clear hn hl hL
  go_enter Try.func3, Try.ntmps3
  by_cases h1 : 5000 < n
  · have d1 : decide (5000 < n) = true := decide_eq_true h1
    have d1i : decide (5000 < (n : Int)) = true := decide_eq_true (by omega)
    clear h1
    go_wp2
    go_ret
    exact ⟨rfl, bb⟩
  have d1 : decide (5000 < n) = false := decide_eq_false h1
  have d1i : decide (5000 < (n : Int)) = false := decide_eq_false (by omega)
  by_cases h2 : 50 < len
  · have d2 : decide (50 < len) = true := decide_eq_true h2
    have d2i : decide (50 < (len : Int)) = true := decide_eq_true (by omega)
    clear h2
    go_wp2
    go_ret
    exact ⟨rfl, bb⟩
  have d2 : decide (50 < len) = false := decide_eq_false h2
  have d2i : decide (50 < (len : Int)) = false := decide_eq_false (by omega)
  have hn5 : n ≤ 5000 := by omega
  have hl5 : len ≤ 50 := by omega
  clear h1 h2
  go_wp2_with fail
  clear d1 d1i d2 d2i
  obtain ⟨w1, hw1⟩ : ∃ W, w.alloc (.cells #[.bool o0, .slice a n cap] 24) = W := ⟨_, rfl⟩
  rw [hw1] at bb x2 ha ⊢
  clear hw1
  go_loopw [5] (fun i wr => ∃ k : Nat, k ≤ len ∧ i = .int .i64 (k : Int) ∧ (∀ j, j < k → ∀ y, l[j]? = some y → y.2.2.length ≤ 300) ∧ wr = w1) (fun i _ => len - (intOf i).toNat)
  case atStart => exact ⟨0, Nat.zero_le _, rfl, (fun j hj => absurd hj (Nat.not_lt_zero _)), rfl⟩
  case round =>
    obtain ⟨k, hk, rfl, hall, rfl⟩ := hrel
    have HA : Hid (∀ j, j < k → ∀ y, l[j]? = some y → y.2.2.length ≤ 300) := hall
    clear hall
    by_cases hlt : k < len
    · obtain ⟨⟨s, m, xs⟩, hx⟩ : ∃ y, l[k]? = some y := ⟨l[k]'(by rw [HLL.out]; exact hlt), by simp⟩
      obtain ⟨gb, off, pa, pc, rfl, hy⟩ := atBlk_of HL0.out hx bb (Nat.le_refl _)
      obtain ⟨x, hxl⟩ : ∃ x, xs.length = x := ⟨_, rfl⟩
      rw [hxl] at hy
      have c2 := hy.1.2.2.2
      have HX : Hid (l[k]? = some (s, m, xs)) := hx
      have HXL : Hid (xs.length = x) := hxl
      clear hx hxl hy
      by_cases h3 : 300 < x
      · have d3 : decide (300 < x) = true := decide_eq_true h3
        have d3i : decide (300 < (x : Int)) = true := decide_eq_true (by omega)
        clear h3
        go_wp2
        go_ret
        exact ⟨rfl, bb⟩
      · have d3 : decide (300 < x) = false := decide_eq_false h3
        have d3i : decide (300 < (x : Int)) = false := decide_eq_false (by omega)
        have HX3 : Hid (x ≤ 300) := (by omega : x ≤ 300)
        clear h3
        go_wp2
        refine ⟨⟨k + 1, hlt, by go_num, fun j hj y hy => ?_, by trivial⟩, by simp [intOf]; omega⟩
        by_cases hjk : j = k
        · subst hjk
          rw [HX.out] at hy
          cases hy
          show xs.length ≤ 300
          rw [HXL.out]
          exact HX3.out
        · exact HA.out j (by omega) y hy
    · obtain rfl : len = k := by omega
      clear hlt hk
      have HX3 : Hid (∀ y ∈ l, y.2.2.length ≤ 300) := by
        intro y hy
        obtain ⟨j, hj⟩ := List.mem_iff_getElem?.1 hy
        exact HA.out j (by have := (List.getElem?_eq_some_iff.1 hj).1; have := HLL.out; omega) y hj
      clear HA
      go_upto_region 8 with fail
      generalize hwr : wr = w1 at *
      clear hwr
      obtain ⟨nq1, hnq1⟩ : ∃ n, w1.heap.size = n := ⟨_, rfl⟩
      have hl_x2 : w.heap.size < nq1 := hnq1 ▸ x2.lt
      have m_x20 : Hid (w1.cell? ⟨w.heap.size, 0, none⟩ = some (.bool o0)) := x2.cell 0 _ rfl
      have m_x21 : Hid (w1.cell? ⟨w.heap.size, 1, none⟩ = some (.slice a n cap)) := x2.cell 1 _ rfl
      have HT : Hid (∀ wx : World, Below nq1 w1 wx → Calls Try.prog 7 #[.slice a n cap] wx fun e W' => ∃ xa xc, e = .returned (.slice xa n xc) ∧ W'.ownsRow wx.heap.size 5 1 (.slice xa n xc) n (t0.map (Value.int .u8)) ∧ Below wx.heap.size wx W') := fun wx hx => by
        refine (twin_any (.slice a n cap) t0 _ (by rw [HN.out]; omega) wx ((ha).next (hnq1 ▸ hx))).mono ?_
        rintro e W' ⟨q, rfl, o9, b9⟩
        rw [HN.out] at o9
        obtain ⟨xa, xc, rfl⟩ := row_shapeJ o9
        exact ⟨xa, xc, rfl, o9, b9⟩
      go_cut [6] (fun v0 wx => ∃ B6 xa xc, v0 = .pointer (some ⟨B6, 0, none⟩) ∧ nq1 ≤ B6 ∧ Box wx B6 24 #[.bool o0, .slice xa n xc] ∧ Holds .u8 wx.heap.size wx (.slice xa n xc) t0 ∧ Below nq1 w1 wx)
      case first =>
        as_aux_lemma =>
          have hS : Below nq1 w1 w1.drew := below_drewJ hnq1
          refine wp_region_held_drew (S := fun w' => Below nq1 w1 w') (by kernel_rfl) (hS) (fun hHeld => ?_)
          generalize w1.drew = wk0 at *
          refine ht0 0 40 (v := ?v1) (fun _ => ?y1) hHeld ?_
          case y1 => go_simp; with_reducible rfl
          simp only [sn]
          refine ht 1 41 (v := ?v2) (fun _ hSw => ?y2) hHeld ?_
          case y2 => have q0 := hSw.at m_x20.out hl_x2; clear hSw; go_simp; with_reducible rfl
          simp only [sn]
          refine ht0 2 42 (v := ?v3) (fun _ => ?y3) hHeld ?_
          case y3 => go_simp; with_reducible rfl
          simp only [sn]
          refine ht 3 43 (v := ?v4) (fun _ hSw => ?y4) hHeld ?_
          case y4 => have q0 := hSw.at m_x21.out hl_x2; clear hSw; go_simp; with_reducible rfl
          simp only [sn]
          refine wpAnyH_ready (rs := [4, 6]) (by kernel_rfl) (by simp) ?_
          refine AllReadyH.cons rfl (fun K hK => ?_) ?_
          · go_simp
            go_wp2_with (go_at_call 7; refine (HT.out _ (by exact hS)).mono ?_; rintro e wk1 ⟨xa, xc, rfl, oX, b8⟩)
            replace hS := hS.trans (b8.mono (by have := hS.size; omega))
            clear b8
            refine hK.out _ _ (hS) (fun hHeld => ?_)
            clear hK K
            refine ht0 5 45 (v := ?v5) (fun _ => ?y5) hHeld ?_
            case y5 => go_simp; with_reducible rfl
            simp only [sn]
            refine wpAnyH_ready (rs := [6]) (by kernel_rfl) (by simp) ?_
            refine AllReadyH.cons rfl (fun K hK => ?_) AllReadyH.nil
            go_simp
            have bA := (Below.refl _ wk1).alloc (Nat.le_refl _) (.cells #[.bool false, .slice none 0 0] 24)
            have hn_x6 : nq1 ≤ wk1.heap.size := by have := hS.size; omega
            have ne_oX_x6 := row_neNew oX
            replace oX := rowK_below oX bA (Nat.le_refl _)
            have x6 := Box.new wk1 24 #[.bool false, .slice none 0 0]
            replace hS := hS.trans (bA.mono hn_x6)
            clear bA
            generalize wk1.alloc (.cells #[.bool false, .slice none 0 0] 24) = wk2 at *
            refine hK.out _ _ (hS) (fun hHeld => ?_)
            clear hK K
            refine wpAnyH_ready (rs := [7]) (by kernel_rfl) (by simp) ?_
            refine AllReadyH.cons rfl (fun K hK => ?_) AllReadyH.nil
            have y0 := x6.cell 0 _ rfl
            have y1 := x6.cell 1 _ rfl
            have u0 := x6.free 0
            have u1 := x6.free 1
            have hltq := x6.lt
            go_simp
            replace x6 := box_set2 x6 (.bool o0) (.slice xa n xc)
            replace oX := row_setNe2 oX ne_oX_x6 (.bool o0) (.slice xa n xc)
            replace hS := below_set2 hS hn_x6 (.bool o0) (.slice xa n xc)
            clear hltq y0 u0 y1 u1
            refine hK.out _ _ (hS) (fun hHeld => ?_)
            clear hK K
            refine wpAnyH_done (by kernel_rfl) ?_ _
            go_wp2_with fail
            go_meet
            exact ⟨_, xa, xc, rfl, hn_x6, x6, holds_of_row oX, hHeld⟩
          refine AllReadyH.cons rfl (fun K hK => ?_) ?_
          · go_simp
            have bA := (Below.refl _ wk0).alloc (Nat.le_refl _) (.cells #[.bool false, .slice none 0 0] 24)
            have hn_x6 : nq1 ≤ wk0.heap.size := by have := hS.size; omega
            have x6 := Box.new wk0 24 #[.bool false, .slice none 0 0]
            replace hS := hS.trans (bA.mono hn_x6)
            clear bA
            generalize wk0.alloc (.cells #[.bool false, .slice none 0 0] 24) = wk1 at *
            refine hK.out _ _ (hS) (fun hHeld => ?_)
            clear hK K
            refine wpAnyH_ready (rs := [4]) (by kernel_rfl) (by simp) ?_
            refine AllReadyH.cons rfl (fun K hK => ?_) AllReadyH.nil
            go_simp
            go_wp2_with (go_at_call 7; refine (HT.out _ (by exact hS)).mono ?_; rintro e wk2 ⟨xa, xc, rfl, oX, b8⟩)
            have ne_oX_x6 := row_neOld oX x6.lt
            replace x6 := x6.next b8
            replace hS := hS.trans (b8.mono (by have := hS.size; omega))
            clear b8
            refine hK.out _ _ (hS) (fun hHeld => ?_)
            clear hK K
            refine ht0 5 45 (v := ?v6) (fun _ => ?y6) hHeld ?_
            case y6 => go_simp; with_reducible rfl
            simp only [sn]
            refine wpAnyH_ready (rs := [7]) (by kernel_rfl) (by simp) ?_
            refine AllReadyH.cons rfl (fun K hK => ?_) AllReadyH.nil
            have y0 := x6.cell 0 _ rfl
            have y1 := x6.cell 1 _ rfl
            have u0 := x6.free 0
            have u1 := x6.free 1
            have hltq := x6.lt
            go_simp
            replace x6 := box_set2 x6 (.bool o0) (.slice xa n xc)
            replace oX := row_setNe2 oX ne_oX_x6 (.bool o0) (.slice xa n xc)
            replace hS := below_set2 hS hn_x6 (.bool o0) (.slice xa n xc)
            clear hltq y0 u0 y1 u1
            refine hK.out _ _ (hS) (fun hHeld => ?_)
            clear hK K
            refine wpAnyH_done (by kernel_rfl) ?_ _
            go_wp2_with fail
            go_meet
            exact ⟨_, xa, xc, rfl, hn_x6, x6, holds_of_row oX, hHeld⟩
          exact AllReadyH.nil
      case rest =>
        as_aux_lemma =>
          obtain ⟨B6, xa, xc, rfl, hB6, x6, hT6, b9⟩ := hcut
          generalize hwc : wc = w2 at *
          clear hwc HT m_x20 m_x21 hl_x2 x2 ha
          have HB1 : Hid (w.heap.size ≤ w1.heap.size) := bb.size
          go_wp2_with fail
          go_loopw [7] (fun i wr => ∃ (k : Nat) (o : Bool) (t : List Int) (n1 : Nat) (ta : Option Addr) (tc : Nat), k ≤ len ∧ i = .int .i64 (k : Int) ∧ n1 ≤ 5000 ∧ Hid (t.length = n1) ∧ Box wr B6 24 #[.bool o, .slice ta n1 tc] ∧ Holds .u8 wr.heap.size wr (.slice ta n1 tc) t ∧ Below nq1 w1 wr) (fun i _ => len - (intOf i).toNat)
          case atStart => exact ⟨0, o0, t0, n, xa, xc, Nat.zero_le _, rfl, hn5, HN.out, x6, hT6, b9⟩
          case round =>
            obtain ⟨k, o, t, n1, ta, tc, hk, rfl, hn1, HT1, y6, hT, b1w⟩ := hrel
            clear x6 hT6 b9
            generalize hwr : wr = w3 at *
            clear hwr
            by_cases hlt : k < len
            rotate_left
            · obtain rfl : len = k := by omega
              replace bb := bb.trans (b1w.mono (by have := HB1.out; omega))
              go_wp2_with fail
              refine (joinWakes_any _).mono ?_
              rintro e w99 ⟨rfl, b99⟩
              go_wp2
              go_ret
              exact ⟨rfl, bb.trans (b99.mono bb.size)⟩
            · as_aux_lemma =>
                obtain ⟨⟨s, m, xs⟩, hx⟩ : ∃ y, l[k]? = some y := ⟨l[k]'(by rw [HLL.out]; exact hlt), by simp⟩
                have HXM : Hid (xs.length ≤ 300) := HX3.out _ (List.mem_of_getElem? hx)
                have bW : Below w.heap.size w w3 := bb.trans (b1w.mono (by have := HB1.out; omega))
                obtain ⟨gb, off, pa, pc, rfl, hy⟩ := atBlk_of HL0.out hx bW (Nat.le_refl _)
                obtain ⟨x, hxl⟩ : ∃ x, xs.length = x := ⟨_, rfl⟩
                rw [hxl] at hy
                have HXL : Hid (xs.length = x) := hxl
                have hx3 : x ≤ 300 := hxl ▸ HXM.out
                clear hx hxl HXM bb HL0 HX3
                have hBB : Hid (w.heap.size ≤ w3.heap.size) := bW.size
                clear bW
                have bb : Since w3 w3 := Below.refl _ _
                replace bb : Below w3.heap.size w3 w3 := bb.out
                go_upto_region 12 with fail
                obtain ⟨nq2, hnq2⟩ : ∃ n, w3.heap.size = n := ⟨_, rfl⟩
                have hl_y6 : B6 < nq2 := hnq2 ▸ y6.lt
                have m_y60 : Hid (w3.cell? ⟨B6, 0, none⟩ = some (.bool o)) := y6.cell 0 _ rfl
                have m_y61 : Hid (w3.cell? ⟨B6, 1, none⟩ = some (.slice ta n1 tc)) := y6.cell 1 _ rfl
                have HT : Hid (∀ wx : World, Below nq2 w3 wx → Calls Try.prog 7 #[.slice ta n1 tc] wx fun e W' => ∃ xa xc, e = .returned (.slice xa n1 xc) ∧ W'.ownsRow wx.heap.size 5 1 (.slice xa n1 xc) n1 (t.map (Value.int .u8)) ∧ Below wx.heap.size wx W') := fun wx hx => by
                  refine (twin_any (.slice ta n1 tc) t _ (by rw [HT1.out]; omega) wx ((hT).next (hnq2 ▸ hx))).mono ?_
                  rintro e W' ⟨q, rfl, o9, b9⟩
                  rw [HT1.out] at o9
                  obtain ⟨xa, xc, rfl⟩ := row_shapeJ o9
                  exact ⟨xa, xc, rfl, o9, b9⟩
                go_cut [8] (fun v0 wx => ∃ B8 ia ic, v0 = .pointer (some ⟨B8, 0, none⟩) ∧ Box wx B8 24 #[.bool o, .slice ia n1 ic] ∧ Holds .u8 wx.heap.size wx (.slice ia n1 ic) t ∧ Below nq2 w3 wx)
                case first =>
                  as_aux_lemma =>
                    have hS : Below nq2 w3 w3.drew := below_drewJ hnq2
                    refine wp_region_held_drew (S := fun w' => Below nq2 w3 w') (by kernel_rfl) (hS) (fun hHeld => ?_)
                    generalize w3.drew = wk0 at *
                    refine ht0 0 52 (v := ?v7) (fun _ => ?y7) hHeld ?_
                    case y7 => go_simp; with_reducible rfl
                    simp only [sn]
                    refine ht 1 53 (v := ?v8) (fun _ hSw => ?y8) hHeld ?_
                    case y8 => have q0 := hSw.at m_y60.out hl_y6; clear hSw; go_simp; with_reducible rfl
                    simp only [sn]
                    refine ht0 2 54 (v := ?v9) (fun _ => ?y9) hHeld ?_
                    case y9 => go_simp; with_reducible rfl
                    simp only [sn]
                    refine ht 3 55 (v := ?v10) (fun _ hSw => ?y10) hHeld ?_
                    case y10 => have q0 := hSw.at m_y61.out hl_y6; clear hSw; go_simp; with_reducible rfl
                    simp only [sn]
                    refine wpAnyH_ready (rs := [4, 6]) (by kernel_rfl) (by simp) ?_
                    refine AllReadyH.cons rfl (fun K hK => ?_) ?_
                    · go_simp
                      go_wp2_with (go_at_call 7; refine (HT.out _ (by exact hS)).mono ?_; rintro e wk1 ⟨xa, xc, rfl, oX, b8⟩)
                      replace hS := hS.trans (b8.mono (by have := hS.size; omega))
                      clear b8
                      refine hK.out _ _ (hS) (fun hHeld => ?_)
                      clear hK K
                      refine ht0 5 57 (v := ?v11) (fun _ => ?y11) hHeld ?_
                      case y11 => go_simp; with_reducible rfl
                      simp only [sn]
                      refine wpAnyH_ready (rs := [6]) (by kernel_rfl) (by simp) ?_
                      refine AllReadyH.cons rfl (fun K hK => ?_) AllReadyH.nil
                      go_simp
                      have bA := (Below.refl _ wk1).alloc (Nat.le_refl _) (.cells #[.bool false, .slice none 0 0] 24)
                      have hn_x8 : nq2 ≤ wk1.heap.size := by have := hS.size; omega
                      have ne_oX_x8 := row_neNew oX
                      replace oX := rowK_below oX bA (Nat.le_refl _)
                      have x8 := Box.new wk1 24 #[.bool false, .slice none 0 0]
                      replace hS := hS.trans (bA.mono hn_x8)
                      clear bA
                      generalize wk1.alloc (.cells #[.bool false, .slice none 0 0] 24) = wk2 at *
                      refine hK.out _ _ (hS) (fun hHeld => ?_)
                      clear hK K
                      refine wpAnyH_ready (rs := [7]) (by kernel_rfl) (by simp) ?_
                      refine AllReadyH.cons rfl (fun K hK => ?_) AllReadyH.nil
                      have y0 := x8.cell 0 _ rfl
                      have y1 := x8.cell 1 _ rfl
                      have u0 := x8.free 0
                      have u1 := x8.free 1
                      have hltq := x8.lt
                      go_simp
                      replace x8 := box_set2 x8 (.bool o) (.slice xa n1 xc)
                      replace oX := row_setNe2 oX ne_oX_x8 (.bool o) (.slice xa n1 xc)
                      replace hS := below_set2 hS hn_x8 (.bool o) (.slice xa n1 xc)
                      clear hltq y0 u0 y1 u1
                      refine hK.out _ _ (hS) (fun hHeld => ?_)
                      clear hK K
                      refine wpAnyH_done (by kernel_rfl) ?_ _
                      go_wp2_with fail
                      go_meet
                      exact ⟨_, xa, xc, rfl, x8, holds_of_row oX, hHeld⟩
                    refine AllReadyH.cons rfl (fun K hK => ?_) ?_
                    · go_simp
                      have bA := (Below.refl _ wk0).alloc (Nat.le_refl _) (.cells #[.bool false, .slice none 0 0] 24)
                      have hn_x8 : nq2 ≤ wk0.heap.size := by have := hS.size; omega
                      have x8 := Box.new wk0 24 #[.bool false, .slice none 0 0]
                      replace hS := hS.trans (bA.mono hn_x8)
                      clear bA
                      generalize wk0.alloc (.cells #[.bool false, .slice none 0 0] 24) = wk1 at *
                      refine hK.out _ _ (hS) (fun hHeld => ?_)
                      clear hK K
                      refine wpAnyH_ready (rs := [4]) (by kernel_rfl) (by simp) ?_
                      refine AllReadyH.cons rfl (fun K hK => ?_) AllReadyH.nil
                      go_simp
                      go_wp2_with (go_at_call 7; refine (HT.out _ (by exact hS)).mono ?_; rintro e wk2 ⟨xa, xc, rfl, oX, b8⟩)
                      have ne_oX_x8 := row_neOld oX x8.lt
                      replace x8 := x8.next b8
                      replace hS := hS.trans (b8.mono (by have := hS.size; omega))
                      clear b8
                      refine hK.out _ _ (hS) (fun hHeld => ?_)
                      clear hK K
                      refine ht0 5 57 (v := ?v12) (fun _ => ?y12) hHeld ?_
                      case y12 => go_simp; with_reducible rfl
                      simp only [sn]
                      refine wpAnyH_ready (rs := [7]) (by kernel_rfl) (by simp) ?_
                      refine AllReadyH.cons rfl (fun K hK => ?_) AllReadyH.nil
                      have y0 := x8.cell 0 _ rfl
                      have y1 := x8.cell 1 _ rfl
                      have u0 := x8.free 0
                      have u1 := x8.free 1
                      have hltq := x8.lt
                      go_simp
                      replace x8 := box_set2 x8 (.bool o) (.slice xa n1 xc)
                      replace oX := row_setNe2 oX ne_oX_x8 (.bool o) (.slice xa n1 xc)
                      replace hS := below_set2 hS hn_x8 (.bool o) (.slice xa n1 xc)
                      clear hltq y0 u0 y1 u1
                      refine hK.out _ _ (hS) (fun hHeld => ?_)
                      clear hK K
                      refine wpAnyH_done (by kernel_rfl) ?_ _
                      go_wp2_with fail
                      go_meet
                      exact ⟨_, xa, xc, rfl, x8, holds_of_row oX, hHeld⟩
                    exact AllReadyH.nil
                case rest =>
                  as_aux_lemma =>
                    obtain ⟨B8, ia, ic, rfl, x8, hI, b9⟩ := hcut
                    replace b9 : Below w3.heap.size w3 wc := hnq2 ▸ b9
                    generalize hwc : wc = w4 at *
                    clear hwc hnq2 hl_y6 m_y60 m_y61 HT 
                    replace y6 := y6.next b9
                    replace hT := hT.next b9
                    replace hy := hy.next b9
                    replace bb := bb.trans (b9.mono bb.size)
                    clear b9
                    have dk : decide (k < len) = true := decide_eq_true hlt
                    go_upto_region 13 with fail
                    obtain ⟨nq3, hnq3⟩ : ∃ n, w4.heap.size = n := ⟨_, rfl⟩
                    have hl_hy : gb < nq3 := hnq3 ▸ hy.lt
                    have m_hy0 : Hid (w4.cell? ⟨gb, off + k * 3, none⟩ = some (.int .i64 s)) := hy.1.2.1
                    have m_hy1 : Hid (w4.cell? ⟨gb, off + k * 3 + 1, none⟩ = some (.int .i64 m)) := hy.1.2.2.1
                    have m_hy2 : Hid (w4.cell? ⟨gb, off + k * 3 + 2, none⟩ = some (.slice pa x pc)) := hy.1.2.2.2
                    have HT : Hid (∀ wx : World, Below nq3 w4 wx → Calls Try.prog 7 #[.slice pa x pc] wx fun e W' => ∃ xa xc, e = .returned (.slice xa x xc) ∧ W'.ownsRow wx.heap.size 5 1 (.slice xa x xc) x (xs.map (Value.int .u8)) ∧ Below wx.heap.size wx W') := fun wx hx => by
                      refine (twin_any (.slice pa x pc) xs _ (by rw [HXL.out]; omega) wx ((hy.held).next (hnq3 ▸ hx))).mono ?_
                      rintro e W' ⟨q, rfl, o9, b9⟩
                      rw [HXL.out] at o9
                      obtain ⟨xa, xc, rfl⟩ := row_shapeJ o9
                      exact ⟨xa, xc, rfl, o9, b9⟩
                    go_cut [9] (fun v0 wx => ∃ B9 ba bc, v0 = .pointer (some ⟨B9, 0, none⟩) ∧ Box wx B9 27 #[.int .i64 s, .int .i64 m, .slice ba x bc] ∧ Holds .u8 wx.heap.size wx (.slice ba x bc) xs ∧ Below nq3 w4 wx)
                    case first =>
                      as_aux_lemma =>
                        have hS : Below nq3 w4 w4.drew := below_drewJ hnq3
                        refine wp_region_held_drew (S := fun w' => Below nq3 w4 w') (by kernel_rfl) (hS) (fun hHeld => ?_)
                        generalize w4.drew = wk0 at *
                        refine ht0 0 58 (v := ?v13) (fun _ => ?y13) hHeld ?_
                        case y13 => go_simp; with_reducible rfl
                        simp only [sn]
                        refine ht0 1 59 (v := ?v14) (fun _ => ?y14) hHeld ?_
                        case y14 => go_simp; with_reducible rfl
                        simp only [sn]
                        refine ht0 2 60 (v := ?v15) (fun _ => ?y15) hHeld ?_
                        case y15 => go_simp; with_reducible rfl
                        simp only [sn]
                        refine ht0 3 61 (v := ?v16) (fun _ => ?y16) hHeld ?_
                        case y16 => go_simp; with_reducible rfl
                        simp only [sn]
                        refine ht 4 62 (v := ?v17) (fun _ hSw => ?y17) hHeld ?_
                        case y17 => have q0 := hSw.at m_hy0.out hl_hy; clear hSw; go_simp; with_reducible rfl
                        simp only [sn]
                        refine ht0 5 63 (v := ?v18) (fun _ => ?y18) hHeld ?_
                        case y18 => go_simp; with_reducible rfl
                        simp only [sn]
                        refine ht0 6 64 (v := ?v19) (fun _ => ?y19) hHeld ?_
                        case y19 => go_simp; with_reducible rfl
                        simp only [sn]
                        refine ht0 7 65 (v := ?v20) (fun _ => ?y20) hHeld ?_
                        case y20 => go_simp; with_reducible rfl
                        simp only [sn]
                        refine ht0 8 66 (v := ?v21) (fun _ => ?y21) hHeld ?_
                        case y21 => go_simp; with_reducible rfl
                        simp only [sn]
                        refine ht 9 67 (v := ?v22) (fun _ hSw => ?y22) hHeld ?_
                        case y22 => have q0 := hSw.at m_hy1.out hl_hy; clear hSw; go_simp; with_reducible rfl
                        simp only [sn]
                        refine ht0 10 68 (v := ?v23) (fun _ => ?y23) hHeld ?_
                        case y23 => go_simp; with_reducible rfl
                        simp only [sn]
                        refine ht0 11 69 (v := ?v24) (fun _ => ?y24) hHeld ?_
                        case y24 => go_simp; with_reducible rfl
                        simp only [sn]
                        refine ht0 12 70 (v := ?v25) (fun _ => ?y25) hHeld ?_
                        case y25 => go_simp; with_reducible rfl
                        simp only [sn]
                        refine ht0 13 71 (v := ?v26) (fun _ => ?y26) hHeld ?_
                        case y26 => go_simp; with_reducible rfl
                        simp only [sn]
                        refine ht 14 72 (v := ?v27) (fun _ hSw => ?y27) hHeld ?_
                        case y27 => have q0 := hSw.at m_hy2.out hl_hy; clear hSw; go_simp; with_reducible rfl
                        simp only [sn]
                        refine wpAnyH_ready (rs := [15, 17]) (by kernel_rfl) (by simp) ?_
                        refine AllReadyH.cons rfl (fun K hK => ?_) ?_
                        · go_simp
                          go_wp2_with (go_at_call 7; refine (HT.out _ (by exact hS)).mono ?_; rintro e wk1 ⟨xa, xc, rfl, oX, b8⟩)
                          replace hS := hS.trans (b8.mono (by have := hS.size; omega))
                          clear b8
                          refine hK.out _ _ (hS) (fun hHeld => ?_)
                          clear hK K
                          refine ht0 16 74 (v := ?v28) (fun _ => ?y28) hHeld ?_
                          case y28 => go_simp; with_reducible rfl
                          simp only [sn]
                          refine wpAnyH_ready (rs := [17]) (by kernel_rfl) (by simp) ?_
                          refine AllReadyH.cons rfl (fun K hK => ?_) AllReadyH.nil
                          go_simp
                          have bA := (Below.refl _ wk1).alloc (Nat.le_refl _) (.cells #[.int .i64 0, .int .i64 0, .slice none 0 0] 27)
                          have hn_x9 : nq3 ≤ wk1.heap.size := by have := hS.size; omega
                          have ne_oX_x9 := row_neNew oX
                          replace oX := rowK_below oX bA (Nat.le_refl _)
                          have x9 := Box.new wk1 27 #[.int .i64 0, .int .i64 0, .slice none 0 0]
                          replace hS := hS.trans (bA.mono hn_x9)
                          clear bA
                          generalize wk1.alloc (.cells #[.int .i64 0, .int .i64 0, .slice none 0 0] 27) = wk2 at *
                          refine hK.out _ _ (hS) (fun hHeld => ?_)
                          clear hK K
                          refine wpAnyH_ready (rs := [18]) (by kernel_rfl) (by simp) ?_
                          refine AllReadyH.cons rfl (fun K hK => ?_) AllReadyH.nil
                          have y0 := x9.cell 0 _ rfl
                          have y1 := x9.cell 1 _ rfl
                          have y2 := x9.cell 2 _ rfl
                          have u0 := x9.free 0
                          have u1 := x9.free 1
                          have u2 := x9.free 2
                          have hltq := x9.lt
                          go_simp
                          replace x9 := x9.set3 (.int .i64 s) (.int .i64 m) (.slice xa x xc)
                          replace oX := row_setNe3 oX ne_oX_x9 (.int .i64 s) (.int .i64 m) (.slice xa x xc)
                          replace hS := below_set3 hS hn_x9 (.int .i64 s) (.int .i64 m) (.slice xa x xc)
                          clear hltq y0 u0 y1 u1 y2 u2
                          refine hK.out _ _ (hS) (fun hHeld => ?_)
                          clear hK K
                          refine wpAnyH_done (by kernel_rfl) ?_ _
                          go_wp2_with fail
                          go_meet
                          exact ⟨_, xa, xc, rfl, x9, holds_of_row oX, hHeld⟩
                        refine AllReadyH.cons rfl (fun K hK => ?_) ?_
                        · go_simp
                          have bA := (Below.refl _ wk0).alloc (Nat.le_refl _) (.cells #[.int .i64 0, .int .i64 0, .slice none 0 0] 27)
                          have hn_x9 : nq3 ≤ wk0.heap.size := by have := hS.size; omega
                          have x9 := Box.new wk0 27 #[.int .i64 0, .int .i64 0, .slice none 0 0]
                          replace hS := hS.trans (bA.mono hn_x9)
                          clear bA
                          generalize wk0.alloc (.cells #[.int .i64 0, .int .i64 0, .slice none 0 0] 27) = wk1 at *
                          refine hK.out _ _ (hS) (fun hHeld => ?_)
                          clear hK K
                          refine wpAnyH_ready (rs := [15]) (by kernel_rfl) (by simp) ?_
                          refine AllReadyH.cons rfl (fun K hK => ?_) AllReadyH.nil
                          go_simp
                          go_wp2_with (go_at_call 7; refine (HT.out _ (by exact hS)).mono ?_; rintro e wk2 ⟨xa, xc, rfl, oX, b8⟩)
                          have ne_oX_x9 := row_neOld oX x9.lt
                          replace x9 := x9.next b8
                          replace hS := hS.trans (b8.mono (by have := hS.size; omega))
                          clear b8
                          refine hK.out _ _ (hS) (fun hHeld => ?_)
                          clear hK K
                          refine ht0 16 74 (v := ?v29) (fun _ => ?y29) hHeld ?_
                          case y29 => go_simp; with_reducible rfl
                          simp only [sn]
                          refine wpAnyH_ready (rs := [18]) (by kernel_rfl) (by simp) ?_
                          refine AllReadyH.cons rfl (fun K hK => ?_) AllReadyH.nil
                          have y0 := x9.cell 0 _ rfl
                          have y1 := x9.cell 1 _ rfl
                          have y2 := x9.cell 2 _ rfl
                          have u0 := x9.free 0
                          have u1 := x9.free 1
                          have u2 := x9.free 2
                          have hltq := x9.lt
                          go_simp
                          replace x9 := x9.set3 (.int .i64 s) (.int .i64 m) (.slice xa x xc)
                          replace oX := row_setNe3 oX ne_oX_x9 (.int .i64 s) (.int .i64 m) (.slice xa x xc)
                          replace hS := below_set3 hS hn_x9 (.int .i64 s) (.int .i64 m) (.slice xa x xc)
                          clear hltq y0 u0 y1 u1 y2 u2
                          refine hK.out _ _ (hS) (fun hHeld => ?_)
                          clear hK K
                          refine wpAnyH_done (by kernel_rfl) ?_ _
                          go_wp2_with fail
                          go_meet
                          exact ⟨_, xa, xc, rfl, x9, holds_of_row oX, hHeld⟩
                        exact AllReadyH.nil
                    case rest =>
                      as_aux_lemma =>
                        obtain ⟨B9, ba, bc, rfl, x9, hB9, b9⟩ := hcut
                        replace b9 : Below w4.heap.size w4 wc := hnq3 ▸ b9
                        generalize hwc : wc = w5 at *
                        clear hwc hnq3 hl_hy m_hy0 m_hy1 m_hy2 HT 
                        replace y6 := y6.next b9
                        replace hT := hT.next b9
                        replace hy := hy.next b9
                        replace x8 := x8.next b9
                        replace hI := hI.next b9
                        replace bb := bb.trans (b9.mono bb.size)
                        clear b9
                        go_upto_region 14 with fail
                        obtain ⟨eb, heb⟩ : ∃ eb, endsA o m = eb := ⟨_, rfl⟩
                        obtain ⟨nq4, hnq4⟩ : ∃ n, w5.heap.size = n := ⟨_, rfl⟩
                        have hl_y6 : B6 < nq4 := hnq4 ▸ y6.lt
                        have m_y60 : Hid (w5.cell? ⟨B6, 0, none⟩ = some (.bool o)) := y6.cell 0 _ rfl
                        have m_y61 : Hid (w5.cell? ⟨B6, 1, none⟩ = some (.slice ta n1 tc)) := y6.cell 1 _ rfl
                        have hl_x8 : B8 < nq4 := hnq4 ▸ x8.lt
                        have m_x80 : Hid (w5.cell? ⟨B8, 0, none⟩ = some (.bool o)) := x8.cell 0 _ rfl
                        have m_x81 : Hid (w5.cell? ⟨B8, 1, none⟩ = some (.slice ia n1 ic)) := x8.cell 1 _ rfl
                        have hl_x9 : B9 < nq4 := hnq4 ▸ x9.lt
                        have m_x90 : Hid (w5.cell? ⟨B9, 0, none⟩ = some (.int .i64 s)) := x9.cell 0 _ rfl
                        have m_x91 : Hid (w5.cell? ⟨B9, 1, none⟩ = some (.int .i64 m)) := x9.cell 1 _ rfl
                        have m_x92 : Hid (w5.cell? ⟨B9, 2, none⟩ = some (.slice ba x bc)) := x9.cell 2 _ rfl
                        have hl_hy : gb < nq4 := hnq4 ▸ hy.lt
                        have m_hy0 : Hid (w5.cell? ⟨gb, off + k * 3, none⟩ = some (.int .i64 s)) := hy.1.2.1
                        have m_hy1 : Hid (w5.cell? ⟨gb, off + k * 3 + 1, none⟩ = some (.int .i64 m)) := hy.1.2.2.1
                        have m_hy2 : Hid (w5.cell? ⟨gb, off + k * 3 + 2, none⟩ = some (.slice pa x pc)) := hy.1.2.2.2
                        have HE1 : Hid (∀ wx : World, Below nq4 w5 wx → Calls Try.prog 8 #[.agg #[.bool o, .slice ia n1 ic], .agg #[.int .i64 s, .int .i64 m, .slice ba x bc]] wx fun e w' => e = .returned (.bool eb) ∧ Below nq4 w5 w') := fun wx hx => (heb ▸ JoinEnds_any o ia n1 ic s m ba x bc wx).mono fun e w' ⟨h, b⟩ => ⟨h, hx.trans (b.mono (hnq4 ▸ hx.size))⟩
                        have HE2 : Hid (∀ wx : World, Below nq4 w5 wx → Calls Try.prog 9 #[.agg #[.bool o, .slice ta n1 tc], .agg #[.int .i64 s, .int .i64 m, .slice pa x pc]] wx fun e w' => e = .returned (.bool eb) ∧ Below nq4 w5 w') := fun wx hx => (heb ▸ refEnds_any o ta n1 tc s m pa x pc wx).mono fun e w' ⟨h, b⟩ => ⟨h, hx.trans (b.mono (hnq4 ▸ hx.size))⟩
                        go_cut [84] (fun v0 wx => v0 = .bool false ∧ Below nq4 w5 wx)
                        case first =>
                          cases eb with
                          | false =>
                            skip
                            as_aux_lemma =>
                              refine wp_region_held_drew (S := fun w' => Below nq4 w5 w') (by kernel_rfl) (below_drewJ hnq4) (fun hHeld => ?_)
                              refine ht 0 75 (v := ?v30) (fun _ hSw => ?y30) hHeld ?_
                              case y30 => have q0 := hSw.at m_x80.out hl_x8; have q1 := hSw.at m_x81.out hl_x8; clear hSw; go_simp; with_reducible rfl
                              simp only [sn]
                              refine ht 1 76 (v := ?v31) (fun _ hSw => ?y31) hHeld ?_
                              case y31 => have q0 := hSw.at m_x90.out hl_x9; have q1 := hSw.at m_x91.out hl_x9; have q2 := hSw.at m_x92.out hl_x9; clear hSw; go_simp; with_reducible rfl
                              simp only [sn]
                              refine ht 3 78 (v := ?v32) (fun _ hSw => ?y32) hHeld ?_
                              case y32 => have q0 := hSw.at m_y60.out hl_y6; have q1 := hSw.at m_y61.out hl_y6; clear hSw; go_simp; with_reducible rfl
                              simp only [sn]
                              refine ht0 4 79 (v := ?v33) (fun _ => ?y33) hHeld ?_
                              case y33 => go_simp; with_reducible rfl
                              simp only [sn]
                              refine ht0 5 80 (v := ?v34) (fun _ => ?y34) hHeld ?_
                              case y34 => go_simp; with_reducible rfl
                              simp only [sn]
                              refine ht0 6 81 (v := ?v35) (fun _ => ?y35) hHeld ?_
                              case y35 => go_simp; with_reducible rfl
                              simp only [sn]
                              refine ht 7 82 (v := ?v36) (fun _ hSw => ?y36) hHeld ?_
                              case y36 => have q0 := hSw.at m_hy0.out hl_hy; have q1 := hSw.at m_hy1.out hl_hy; have q2 := hSw.at m_hy2.out hl_hy; clear hSw; go_simp; with_reducible rfl
                              simp only [sn]
                              refine wpAnyH_ready (rs := [2]) (by kernel_rfl) (by simp) ?_
                              refine AllReadyH.cons rfl (fun K hK => ?_) AllReadyH.nil
                              go_simp
                              go_wp2_with (go_at_call 8; refine (HE1.out _ (by exact hHeld)).mono ?_; rintro e wb ⟨rfl, b8⟩)
                              refine hK.out _ _ (b8) (fun hHeld => ?_)
                              clear hK K
                              refine wpAnyH_ready (rs := [8]) (by kernel_rfl) (by simp) ?_
                              refine AllReadyH.cons rfl (fun K hK => ?_) AllReadyH.nil
                              go_simp
                              go_wp2_with (go_at_call 9; refine (HE2.out _ (by exact hHeld)).mono ?_; rintro e wb ⟨rfl, b8⟩)
                              refine hK.out _ _ (b8) (fun hHeld => ?_)
                              clear hK K
                              refine wpAnyH_ready (rs := [9]) (by kernel_rfl) (by simp) ?_
                              refine AllReadyH.cons rfl (fun K hK => ?_) AllReadyH.nil
                              go_simp
                              refine hK.out _ _ hHeld (fun hHeld => ?_)
                              clear hK K
                              refine wpAnyH_done (by kernel_rfl) ?_ _
                              go_wp2_with fail
                              go_meet
                              exact ⟨rfl, hHeld⟩
                          | true =>
                            skip
                            as_aux_lemma =>
                              refine wp_region_held_drew (S := fun w' => Below nq4 w5 w') (by kernel_rfl) (below_drewJ hnq4) (fun hHeld => ?_)
                              refine ht 0 75 (v := ?v37) (fun _ hSw => ?y37) hHeld ?_
                              case y37 => have q0 := hSw.at m_x80.out hl_x8; have q1 := hSw.at m_x81.out hl_x8; clear hSw; go_simp; with_reducible rfl
                              simp only [sn]
                              refine ht 1 76 (v := ?v38) (fun _ hSw => ?y38) hHeld ?_
                              case y38 => have q0 := hSw.at m_x90.out hl_x9; have q1 := hSw.at m_x91.out hl_x9; have q2 := hSw.at m_x92.out hl_x9; clear hSw; go_simp; with_reducible rfl
                              simp only [sn]
                              refine ht 3 78 (v := ?v39) (fun _ hSw => ?y39) hHeld ?_
                              case y39 => have q0 := hSw.at m_y60.out hl_y6; have q1 := hSw.at m_y61.out hl_y6; clear hSw; go_simp; with_reducible rfl
                              simp only [sn]
                              refine ht0 4 79 (v := ?v40) (fun _ => ?y40) hHeld ?_
                              case y40 => go_simp; with_reducible rfl
                              simp only [sn]
                              refine ht0 5 80 (v := ?v41) (fun _ => ?y41) hHeld ?_
                              case y41 => go_simp; with_reducible rfl
                              simp only [sn]
                              refine ht0 6 81 (v := ?v42) (fun _ => ?y42) hHeld ?_
                              case y42 => go_simp; with_reducible rfl
                              simp only [sn]
                              refine ht 7 82 (v := ?v43) (fun _ hSw => ?y43) hHeld ?_
                              case y43 => have q0 := hSw.at m_hy0.out hl_hy; have q1 := hSw.at m_hy1.out hl_hy; have q2 := hSw.at m_hy2.out hl_hy; clear hSw; go_simp; with_reducible rfl
                              simp only [sn]
                              refine wpAnyH_ready (rs := [2]) (by kernel_rfl) (by simp) ?_
                              refine AllReadyH.cons rfl (fun K hK => ?_) AllReadyH.nil
                              go_simp
                              go_wp2_with (go_at_call 8; refine (HE1.out _ (by exact hHeld)).mono ?_; rintro e wb ⟨rfl, b8⟩)
                              refine hK.out _ _ (b8) (fun hHeld => ?_)
                              clear hK K
                              refine wpAnyH_ready (rs := [8]) (by kernel_rfl) (by simp) ?_
                              refine AllReadyH.cons rfl (fun K hK => ?_) AllReadyH.nil
                              go_simp
                              go_wp2_with (go_at_call 9; refine (HE2.out _ (by exact hHeld)).mono ?_; rintro e wb ⟨rfl, b8⟩)
                              refine hK.out _ _ (b8) (fun hHeld => ?_)
                              clear hK K
                              refine wpAnyH_ready (rs := [9]) (by kernel_rfl) (by simp) ?_
                              refine AllReadyH.cons rfl (fun K hK => ?_) AllReadyH.nil
                              go_simp
                              refine hK.out _ _ hHeld (fun hHeld => ?_)
                              clear hK K
                              refine wpAnyH_done (by kernel_rfl) ?_ _
                              go_wp2_with fail
                              go_meet
                              exact ⟨rfl, hHeld⟩
                        case rest =>
                          as_aux_lemma =>
                            obtain ⟨rfl, b9⟩ := hcut
                            replace b9 : Below w5.heap.size w5 wc := hnq4 ▸ b9
                            generalize hwc : wc = w6 at *
                            clear hwc hnq4 hl_y6 m_y60 m_y61 hl_x8 m_x80 m_x81 hl_x9 m_x90 m_x91 m_x92 hl_hy m_hy0 m_hy1 m_hy2 HE1 HE2 heb
                            replace y6 := y6.next b9
                            replace hT := hT.next b9
                            replace hy := hy.next b9
                            replace x8 := x8.next b9
                            replace hI := hI.next b9
                            replace x9 := x9.next b9
                            replace hB9 := hB9.next b9
                            replace bb := bb.trans (b9.mono bb.size)
                            clear b9
                            obtain ⟨⟨⟨O, T⟩, G, Dn⟩, hTJ⟩ : ∃ q, takeJ (o, t) m xs = q := ⟨_, rfl⟩
                            obtain ⟨E, hE⟩ : ∃ E, errJ (o, t) m xs = E := ⟨_, rfl⟩
                            obtain ⟨nT, hnT⟩ : ∃ k, T.length = k := ⟨_, rfl⟩
                            obtain ⟨nG, hnG⟩ : ∃ k, G.length = k := ⟨_, rfl⟩
                            have HTJ : Hid (takeJ (o, t) m xs = ((O, T), G, Dn)) := hTJ
                            have HE : Hid (errJ (o, t) m xs = E) := hE
                            have HnT : Hid (T.length = nT) := hnT
                            have HnG : Hid (G.length = nG) := hnG
                            have HLE : Hid (nT ≤ 4096 ∧ nG ≤ 4096) := by have := takeJ_le hTJ; rw [hnT, hnG] at this; exact this
                            clear hTJ hE hnT hnG
                            have HB6 : Hid (Box w6 B6 24 #[.bool o, .slice ta n1 tc]) := y6
                            have HTt : Hid (Holds .u8 w6.heap.size w6 (.slice ta n1 tc) t) := hT
                            have HBW : Hid (Below nq1 w1 w6) := b1w.trans (bb.mono (by have := b1w.size; omega))
                            have hS0 : Since w6 w6 := Below.refl _ _
                            have h6lt : B6 < w6.heap.size := y6.lt
                            have H6L : Hid (B6 < w6.heap.size) := h6lt
                            clear h6lt b1w
                            have lx8 := x8.lt
                            have lx9 := x9.lt
                            have cx80 := x8.cell 0 _ rfl
                            have cx81 := x8.cell 1 _ rfl
                            have cx90 := x9.cell 0 _ rfl
                            have cx91 := x9.cell 1 _ rfl
                            have cx92 := x9.cell 2 _ rfl
                            go_wp2_with fail
                            refine (joinTake_at o ia n1 ic s m ba x bc t xs HT1.out HXL.out HTJ.out HE.out HnT.out HnG.out _ hI hB9).mono ?_
                            rintro e w7 ⟨na, nc, ua, uc, rfl, oN, oM, hAP, b9⟩
                            clear cx80 cx81
                            clear cx90 cx91 cx92
                            replace y6 := y6.next b9
                            replace hT := hT.next b9
                            replace hy := hy.next b9
                            replace x8 := x8.next b9
                            replace hI := hI.next b9
                            replace x9 := x9.next b9
                            replace hB9 := hB9.next b9
                            replace hS0 := hS0.next b9
                            replace bb := bb.trans (b9.mono bb.size)
                            clear b9
                            clear lx8 lx9
                            have HWN : Hid (w6.heap.size ≤ w7.heap.size) := hS0.out.size
                            replace oN : OwnB w7 w6.heap.size (.slice na nT nc) nT T := oN
                            replace oM : OwnB w7 w6.heap.size (.slice ua nG uc) nG G := oM
                            have HAP : Hid (Apart (.slice na nT nc) (.slice ua nG uc)) := hAP
                            have HNB : Hid (∀ g, (Value.slice na nT nc).ownBlock = some g → g < w7.heap.size) := fun g hg => (oN.row.lt g hg).2
                            have HMB : Hid (∀ g, (Value.slice ua nG uc).ownBlock = some g → g < w7.heap.size) := fun g hg => (oM.row.lt g hg).2
                            clear hAP
                            have b9 : Below w7.heap.size w7 (w7.alloc (.cells #[.bool O, .slice na nT nc] 24)) := (Below.refl _ _).alloc (Nat.le_refl _) _
                            have x10 := Box.new w7 24 #[.bool O, .slice na nT nc]
                            replace y6 := y6.next b9
                            replace hT := hT.next b9
                            replace hy := hy.next b9
                            replace x8 := x8.next b9
                            replace hI := hI.next b9
                            replace x9 := x9.next b9
                            replace hB9 := hB9.next b9
                            replace hS0 := hS0.next b9
                            replace oN := oN.next b9
                            replace oM := oM.next b9
                            replace bb := bb.trans (b9.mono bb.size)
                            clear b9
                            go_upto_region 17 with fail
                            obtain ⟨B10, hB10⟩ : ∃ B, w7.heap.size = B := ⟨_, rfl⟩
                            have HN2 : Hid (w7.heap.size = B10) := hB10
                            rw [hB10] at x10 ⊢
                            clear hB10
                            generalize w7.alloc (.cells #[.bool O, .slice na nT nc] 24) = w8 at *
                            obtain ⟨nq5, hnq5⟩ : ∃ n, w8.heap.size = n := ⟨_, rfl⟩
                            have hl_y6 : B6 < nq5 := hnq5 ▸ y6.lt
                            have m_y60 : Hid (w8.cell? ⟨B6, 0, none⟩ = some (.bool o)) := y6.cell 0 _ rfl
                            have m_y61 : Hid (w8.cell? ⟨B6, 1, none⟩ = some (.slice ta n1 tc)) := y6.cell 1 _ rfl
                            have hl_hy : gb < nq5 := hnq5 ▸ hy.lt
                            have m_hy0 : Hid (w8.cell? ⟨gb, off + k * 3, none⟩ = some (.int .i64 s)) := hy.1.2.1
                            have m_hy1 : Hid (w8.cell? ⟨gb, off + k * 3 + 1, none⟩ = some (.int .i64 m)) := hy.1.2.2.1
                            have m_hy2 : Hid (w8.cell? ⟨gb, off + k * 3 + 2, none⟩ = some (.slice pa x pc)) := hy.1.2.2.2
                            have HRJ : Hid (∀ wx : World, Below nq5 w8 wx → Calls Try.prog 11 #[.agg #[.bool o, .slice ta n1 tc], .agg #[.int .i64 s, .int .i64 m, .slice pa x pc]] wx fun e W' => ∃ za zc va vc, e = .returned (.tuple #[.agg #[.bool O, .slice za nT zc], .slice va nG vc, .bool Dn, .int .i64 E]) ∧ W'.ownsRow wx.heap.size 5 1 (.slice za nT zc) nT (T.map (Value.int .u8)) ∧ W'.ownsRow wx.heap.size 5 1 (.slice va nG vc) nG (G.map (Value.int .u8)) ∧ nq5 ≤ wx.heap.size ∧ Below wx.heap.size wx W') := fun wx hx => (refJoin_at o ta n1 tc s m pa x pc t xs HT1.out HXL.out HTJ.out HE.out HnT.out HnG.out wx (hT.next (hnq5 ▸ hx)) (hy.held.next (hnq5 ▸ hx))).mono fun e W' ⟨za, zc, va, vc, he, h1, h2, h3⟩ => ⟨za, zc, va, vc, he, h1, h2, by have := hx.size; omega, h3⟩
                            go_cut [14, 15, 16, 17] (fun v0 v1 v2 v3 wx => ∃ B14 za zc va vc, v0 = .pointer (some ⟨B14, 0, none⟩) ∧ v1 = .slice va nG vc ∧ v2 = .bool Dn ∧ v3 = .int .i64 E ∧ Box wx B14 24 #[.bool O, .slice za nT zc] ∧ wx.ownsRow nq5 5 1 (.slice za nT zc) nT (T.map (Value.int .u8)) ∧ Holds .u8 wx.heap.size wx (.slice va nG vc) G ∧ Below nq5 w8 wx)
                            case first =>
                              as_aux_lemma =>
                                have hS : Below nq5 w8 w8.drew := below_drewJ hnq5
                                refine wp_region_held_drew (S := fun w' => Below nq5 w8 w') (by kernel_rfl) (hS) (fun hHeld => ?_)
                                generalize w8.drew = wk0 at *
                                refine ht 0 94 (v := ?v44) (fun _ hSw => ?y44) hHeld ?_
                                case y44 => have q0 := hSw.at m_y60.out hl_y6; have q1 := hSw.at m_y61.out hl_y6; clear hSw; go_simp; with_reducible rfl
                                simp only [sn]
                                refine ht0 1 95 (v := ?v45) (fun _ => ?y45) hHeld ?_
                                case y45 => go_simp; with_reducible rfl
                                simp only [sn]
                                refine ht0 2 96 (v := ?v46) (fun _ => ?y46) hHeld ?_
                                case y46 => go_simp; with_reducible rfl
                                simp only [sn]
                                refine ht0 3 97 (v := ?v47) (fun _ => ?y47) hHeld ?_
                                case y47 => go_simp; with_reducible rfl
                                simp only [sn]
                                refine ht 4 98 (v := ?v48) (fun _ hSw => ?y48) hHeld ?_
                                case y48 => have q0 := hSw.at m_hy0.out hl_hy; have q1 := hSw.at m_hy1.out hl_hy; have q2 := hSw.at m_hy2.out hl_hy; clear hSw; go_simp; with_reducible rfl
                                simp only [sn]
                                refine wpAnyH_ready (rs := [5, 11]) (by kernel_rfl) (by simp) ?_
                                refine AllReadyH.cons rfl (fun K hK => ?_) ?_
                                · go_simp
                                  go_wp2_with (go_at_call 11; refine (HRJ.out _ (by exact hS)).mono ?_; rintro e wk1 ⟨za, zc, va, vc, rfl, oZ, oV, hqz, b8⟩)
                                  replace hS := hS.trans (b8.mono (by have := hS.size; omega))
                                  clear b8
                                  refine hK.out _ _ (hS) (fun hHeld => ?_)
                                  clear hK K
                                  refine ht0 6 93 (v := ?v49) (fun _ => ?y49) hHeld ?_
                                  case y49 => go_simp; with_reducible rfl
                                  simp only [sn]
                                  refine ht0 7 100 (v := ?v50) (fun _ => ?y50) hHeld ?_
                                  case y50 => go_simp; with_reducible rfl
                                  simp only [sn]
                                  refine ht0 8 101 (v := ?v51) (fun _ => ?y51) hHeld ?_
                                  case y51 => go_simp; with_reducible rfl
                                  simp only [sn]
                                  refine ht0 9 102 (v := ?v52) (fun _ => ?y52) hHeld ?_
                                  case y52 => go_simp; with_reducible rfl
                                  simp only [sn]
                                  refine ht0 10 103 (v := ?v53) (fun _ => ?y53) hHeld ?_
                                  case y53 => go_simp; with_reducible rfl
                                  simp only [sn]
                                  refine wpAnyH_ready (rs := [11]) (by kernel_rfl) (by simp) ?_
                                  refine AllReadyH.cons rfl (fun K hK => ?_) AllReadyH.nil
                                  go_simp
                                  have bA := (Below.refl _ wk1).alloc (Nat.le_refl _) (.cells #[.bool false, .slice none 0 0] 24)
                                  have hn_x14 : nq5 ≤ wk1.heap.size := by have := hS.size; omega
                                  have ne_oZ_x14 := row_neNew oZ
                                  have ne_oV_x14 := row_neNew oV
                                  replace oZ := rowK_below oZ bA (Nat.le_refl _)
                                  replace oV := rowK_below oV bA (Nat.le_refl _)
                                  have x14 := Box.new wk1 24 #[.bool false, .slice none 0 0]
                                  replace hS := hS.trans (bA.mono hn_x14)
                                  clear bA
                                  generalize wk1.alloc (.cells #[.bool false, .slice none 0 0] 24) = wk2 at *
                                  refine hK.out _ _ (hS) (fun hHeld => ?_)
                                  clear hK K
                                  refine wpAnyH_ready (rs := [12]) (by kernel_rfl) (by simp) ?_
                                  refine AllReadyH.cons rfl (fun K hK => ?_) AllReadyH.nil
                                  have y0 := x14.cell 0 _ rfl
                                  have y1 := x14.cell 1 _ rfl
                                  have u0 := x14.free 0
                                  have u1 := x14.free 1
                                  have hltq := x14.lt
                                  go_simp
                                  replace x14 := box_set2 x14 (.bool O) (.slice za nT zc)
                                  replace oZ := row_setNe2 oZ ne_oZ_x14 (.bool O) (.slice za nT zc)
                                  replace oV := row_setNe2 oV ne_oV_x14 (.bool O) (.slice za nT zc)
                                  replace hS := below_set2 hS hn_x14 (.bool O) (.slice za nT zc)
                                  clear hltq y0 u0 y1 u1
                                  refine hK.out _ _ (hS) (fun hHeld => ?_)
                                  clear hK K
                                  refine ht0 13 15 (v := ?v54) (fun _ => ?y54) hHeld ?_
                                  case y54 => go_simp; with_reducible rfl
                                  simp only [sn]
                                  refine ht0 14 16 (v := ?v55) (fun _ => ?y55) hHeld ?_
                                  case y55 => go_simp; with_reducible rfl
                                  simp only [sn]
                                  refine wpAnyH_ready (rs := [15]) (by kernel_rfl) (by simp) ?_
                                  refine AllReadyH.cons rfl (fun K hK => ?_) AllReadyH.nil
                                  go_simp
                                  refine hK.out _ _ hHeld (fun hHeld => ?_)
                                  clear hK K
                                  refine wpAnyH_done (by kernel_rfl) ?_ _
                                  go_wp2_with fail
                                  go_meet
                                  exact ⟨_, za, zc, va, vc, rfl, rfl, rfl, rfl, x14, rowK_base oZ hqz, holds_of_row oV, hHeld⟩
                                refine AllReadyH.cons rfl (fun K hK => ?_) ?_
                                · go_simp
                                  have bA := (Below.refl _ wk0).alloc (Nat.le_refl _) (.cells #[.bool false, .slice none 0 0] 24)
                                  have hn_x14 : nq5 ≤ wk0.heap.size := by have := hS.size; omega
                                  have x14 := Box.new wk0 24 #[.bool false, .slice none 0 0]
                                  replace hS := hS.trans (bA.mono hn_x14)
                                  clear bA
                                  generalize wk0.alloc (.cells #[.bool false, .slice none 0 0] 24) = wk1 at *
                                  refine hK.out _ _ (hS) (fun hHeld => ?_)
                                  clear hK K
                                  refine wpAnyH_ready (rs := [5]) (by kernel_rfl) (by simp) ?_
                                  refine AllReadyH.cons rfl (fun K hK => ?_) AllReadyH.nil
                                  go_simp
                                  go_wp2_with (go_at_call 11; refine (HRJ.out _ (by exact hS)).mono ?_; rintro e wk2 ⟨za, zc, va, vc, rfl, oZ, oV, hqz, b8⟩)
                                  have ne_oZ_x14 := row_neOld oZ x14.lt
                                  have ne_oV_x14 := row_neOld oV x14.lt
                                  replace x14 := x14.next b8
                                  replace hS := hS.trans (b8.mono (by have := hS.size; omega))
                                  clear b8
                                  refine hK.out _ _ (hS) (fun hHeld => ?_)
                                  clear hK K
                                  refine ht0 6 93 (v := ?v56) (fun _ => ?y56) hHeld ?_
                                  case y56 => go_simp; with_reducible rfl
                                  simp only [sn]
                                  refine ht0 7 100 (v := ?v57) (fun _ => ?y57) hHeld ?_
                                  case y57 => go_simp; with_reducible rfl
                                  simp only [sn]
                                  refine ht0 8 101 (v := ?v58) (fun _ => ?y58) hHeld ?_
                                  case y58 => go_simp; with_reducible rfl
                                  simp only [sn]
                                  refine ht0 9 102 (v := ?v59) (fun _ => ?y59) hHeld ?_
                                  case y59 => go_simp; with_reducible rfl
                                  simp only [sn]
                                  refine ht0 10 103 (v := ?v60) (fun _ => ?y60) hHeld ?_
                                  case y60 => go_simp; with_reducible rfl
                                  simp only [sn]
                                  refine wpAnyH_ready (rs := [12]) (by kernel_rfl) (by simp) ?_
                                  refine AllReadyH.cons rfl (fun K hK => ?_) AllReadyH.nil
                                  have y0 := x14.cell 0 _ rfl
                                  have y1 := x14.cell 1 _ rfl
                                  have u0 := x14.free 0
                                  have u1 := x14.free 1
                                  have hltq := x14.lt
                                  go_simp
                                  replace x14 := box_set2 x14 (.bool O) (.slice za nT zc)
                                  replace oZ := row_setNe2 oZ ne_oZ_x14 (.bool O) (.slice za nT zc)
                                  replace oV := row_setNe2 oV ne_oV_x14 (.bool O) (.slice za nT zc)
                                  replace hS := below_set2 hS hn_x14 (.bool O) (.slice za nT zc)
                                  clear hltq y0 u0 y1 u1
                                  refine hK.out _ _ (hS) (fun hHeld => ?_)
                                  clear hK K
                                  refine ht0 13 15 (v := ?v61) (fun _ => ?y61) hHeld ?_
                                  case y61 => go_simp; with_reducible rfl
                                  simp only [sn]
                                  refine ht0 14 16 (v := ?v62) (fun _ => ?y62) hHeld ?_
                                  case y62 => go_simp; with_reducible rfl
                                  simp only [sn]
                                  refine wpAnyH_ready (rs := [15]) (by kernel_rfl) (by simp) ?_
                                  refine AllReadyH.cons rfl (fun K hK => ?_) AllReadyH.nil
                                  go_simp
                                  refine hK.out _ _ hHeld (fun hHeld => ?_)
                                  clear hK K
                                  refine wpAnyH_done (by kernel_rfl) ?_ _
                                  go_wp2_with fail
                                  go_meet
                                  exact ⟨_, za, zc, va, vc, rfl, rfl, rfl, rfl, x14, rowK_base oZ hqz, holds_of_row oV, hHeld⟩
                                exact AllReadyH.nil
                            case rest =>
                              as_aux_lemma =>
                                have HNZ : Hid (B10 < nq5) := hnq5 ▸ x10.lt
                                obtain ⟨B14, za, zc, va, vc, rfl, rfl, rfl, rfl, x14, oZ, hV, b9⟩ := hcut
                                replace b9 : Below w8.heap.size w8 wc := hnq5 ▸ b9
                                generalize hwc : wc = w9 at *
                                clear hwc hnq5 hl_y6 m_y60 m_y61 hl_hy m_hy0 m_hy1 m_hy2 HRJ 
                                replace y6 := y6.next b9
                                replace hT := hT.next b9
                                replace hy := hy.next b9
                                replace x8 := x8.next b9
                                replace hI := hI.next b9
                                replace x9 := x9.next b9
                                replace hB9 := hB9.next b9
                                replace hS0 := hS0.next b9
                                replace oN := oN.next b9
                                replace oM := oM.next b9
                                replace x10 := x10.next b9
                                replace bb := bb.trans (b9.mono bb.size)
                                clear b9
                                replace oZ : OwnB w9 nq5 (.slice za nT zc) nT T := oZ
                                go_upto_region 18 with fail
                                have hEE : (E != E) = false := by simp
                                have hDD : (Dn != Dn) = false := by simp
                                obtain ⟨nq6, hnq6⟩ : ∃ n, w9.heap.size = n := ⟨_, rfl⟩
                                have hl_y6 : B6 < nq6 := hnq6 ▸ y6.lt
                                have m_y60 : Hid (w9.cell? ⟨B6, 0, none⟩ = some (.bool o)) := y6.cell 0 _ rfl
                                have m_y61 : Hid (w9.cell? ⟨B6, 1, none⟩ = some (.slice ta n1 tc)) := y6.cell 1 _ rfl
                                have hl_x8 : B8 < nq6 := hnq6 ▸ x8.lt
                                have m_x80 : Hid (w9.cell? ⟨B8, 0, none⟩ = some (.bool o)) := x8.cell 0 _ rfl
                                have m_x81 : Hid (w9.cell? ⟨B8, 1, none⟩ = some (.slice ia n1 ic)) := x8.cell 1 _ rfl
                                have hl_x9 : B9 < nq6 := hnq6 ▸ x9.lt
                                have m_x90 : Hid (w9.cell? ⟨B9, 0, none⟩ = some (.int .i64 s)) := x9.cell 0 _ rfl
                                have m_x91 : Hid (w9.cell? ⟨B9, 1, none⟩ = some (.int .i64 m)) := x9.cell 1 _ rfl
                                have m_x92 : Hid (w9.cell? ⟨B9, 2, none⟩ = some (.slice ba x bc)) := x9.cell 2 _ rfl
                                have hl_x10 : B10 < nq6 := hnq6 ▸ x10.lt
                                have m_x100 : Hid (w9.cell? ⟨B10, 0, none⟩ = some (.bool O)) := x10.cell 0 _ rfl
                                have m_x101 : Hid (w9.cell? ⟨B10, 1, none⟩ = some (.slice na nT nc)) := x10.cell 1 _ rfl
                                have hl_x14 : B14 < nq6 := hnq6 ▸ x14.lt
                                have m_x140 : Hid (w9.cell? ⟨B14, 0, none⟩ = some (.bool O)) := x14.cell 0 _ rfl
                                have m_x141 : Hid (w9.cell? ⟨B14, 1, none⟩ = some (.slice za nT zc)) := x14.cell 1 _ rfl
                                have hl_hy : gb < nq6 := hnq6 ▸ hy.lt
                                have m_hy0 : Hid (w9.cell? ⟨gb, off + k * 3, none⟩ = some (.int .i64 s)) := hy.1.2.1
                                have m_hy1 : Hid (w9.cell? ⟨gb, off + k * 3 + 1, none⟩ = some (.int .i64 m)) := hy.1.2.2.1
                                have m_hy2 : Hid (w9.cell? ⟨gb, off + k * 3 + 2, none⟩ = some (.slice pa x pc)) := hy.1.2.2.2
                                have HK1 : Hid (∀ wx : World, Below nq6 w9 wx → Calls Try.prog 12 #[.agg #[.bool o, .slice ia n1 ic], .agg #[.bool o, .slice ta n1 tc]] wx fun e w' => e = .returned (.bool true) ∧ Below nq6 w9 w') := fun wx hx => (keepJoin_eq o _ _ t wx (by rw [HT1.out]; omega) (hI.next (hnq6 ▸ hx)) (hT.next (hnq6 ▸ hx))).mono fun e w' ⟨h, b⟩ => ⟨h, hx.trans (b.mono (hnq6 ▸ hx.size))⟩
                                have HK2 : Hid (∀ wx : World, Below nq6 w9 wx → Calls Try.prog 13 #[.agg #[.int .i64 s, .int .i64 m, .slice ba x bc], .agg #[.int .i64 s, .int .i64 m, .slice pa x pc]] wx fun e w' => e = .returned (.bool true) ∧ Below nq6 w9 w') := fun wx hx => (keepBlock_eq s m _ _ xs wx (by rw [HXL.out]; omega) (hB9.next (hnq6 ▸ hx)) (hy.held.next (hnq6 ▸ hx))).mono fun e w' ⟨h, b⟩ => ⟨h, hx.trans (b.mono (hnq6 ▸ hx.size))⟩
                                have HK3 : Hid (∀ wx : World, Below nq6 w9 wx → Calls Try.prog 14 #[.slice ua nG uc, .slice va nG vc] wx fun e w' => e = .returned (.bool true) ∧ Below nq6 w9 w') := fun wx hx => (bytes_eq _ _ G wx (by rw [HnG.out]; have := HLE.out; omega) (holds_of_row (oM.next (hnq6 ▸ hx)).row) (hV.next (hnq6 ▸ hx))).mono fun e w' ⟨h, b⟩ => ⟨h, hx.trans (b.mono (hnq6 ▸ hx.size))⟩
                                have HK4 : Hid (∀ wx : World, Below nq6 w9 wx → Calls Try.prog 12 #[.agg #[.bool O, .slice na nT nc], .agg #[.bool O, .slice za nT zc]] wx fun e w' => e = .returned (.bool true) ∧ Below nq6 w9 w') := fun wx hx => (keepJoin_eq O _ _ T wx (by rw [HnT.out]; have := HLE.out; omega) (holds_of_row (oN.next (hnq6 ▸ hx)).row) (holds_of_row (oZ.next (hnq6 ▸ hx)).row)).mono fun e w' ⟨h, b⟩ => ⟨h, hx.trans (b.mono (hnq6 ▸ hx.size))⟩
                                go_cut [138] (fun v0 wx => v0 = .bool false ∧ Below nq6 w9 wx)
                                case first =>
                                  as_aux_lemma =>
                                    refine wp_region_held_drew (S := fun w' => Below nq6 w9 w') (by kernel_rfl) (below_drewJ hnq6) (fun hHeld => ?_)
                                    refine ht 0 104 (v := ?v63) (fun _ hSw => ?y63) hHeld ?_
                                    case y63 => have q0 := hSw.at m_x80.out hl_x8; have q1 := hSw.at m_x81.out hl_x8; clear hSw; go_simp; with_reducible rfl
                                    simp only [sn]
                                    refine ht 1 105 (v := ?v64) (fun _ hSw => ?y64) hHeld ?_
                                    case y64 => have q0 := hSw.at m_y60.out hl_y6; have q1 := hSw.at m_y61.out hl_y6; clear hSw; go_simp; with_reducible rfl
                                    simp only [sn]
                                    refine wpAnyH_ready (rs := [2]) (by kernel_rfl) (by simp) ?_
                                    refine AllReadyH.cons rfl (fun K hK => ?_) AllReadyH.nil
                                    go_simp
                                    go_wp2_with (go_at_call 12; refine (HK1.out _ (by exact hHeld)).mono ?_; rintro e wb ⟨rfl, b8⟩)
                                    refine hK.out _ _ (b8) (fun hHeld => ?_)
                                    clear hK K
                                    refine ht0 3 107 (v := ?v65) (fun _ => ?y65) hHeld ?_
                                    case y65 => go_simp; with_reducible rfl
                                    simp only [sn]
                                    refine ht0 4 108 (v := ?v66) (fun _ => ?y66) hHeld ?_
                                    case y66 => go_simp; with_reducible rfl
                                    simp only [sn]
                                    refine ht 5 109 (v := ?v67) (fun _ hSw => ?y67) hHeld ?_
                                    case y67 => have q0 := hSw.at m_x90.out hl_x9; have q1 := hSw.at m_x91.out hl_x9; have q2 := hSw.at m_x92.out hl_x9; clear hSw; go_simp; with_reducible rfl
                                    simp only [sn]
                                    refine ht0 6 110 (v := ?v68) (fun _ => ?y68) hHeld ?_
                                    case y68 => go_simp; with_reducible rfl
                                    simp only [sn]
                                    refine ht0 7 111 (v := ?v69) (fun _ => ?y69) hHeld ?_
                                    case y69 => go_simp; with_reducible rfl
                                    simp only [sn]
                                    refine ht0 8 112 (v := ?v70) (fun _ => ?y70) hHeld ?_
                                    case y70 => go_simp; with_reducible rfl
                                    simp only [sn]
                                    refine ht 9 113 (v := ?v71) (fun _ hSw => ?y71) hHeld ?_
                                    case y71 => have q0 := hSw.at m_hy0.out hl_hy; have q1 := hSw.at m_hy1.out hl_hy; have q2 := hSw.at m_hy2.out hl_hy; clear hSw; go_simp; with_reducible rfl
                                    simp only [sn]
                                    refine wpAnyH_ready (rs := [10]) (by kernel_rfl) (by simp) ?_
                                    refine AllReadyH.cons rfl (fun K hK => ?_) AllReadyH.nil
                                    go_simp
                                    go_wp2_with (go_at_call 13; refine (HK2.out _ (by exact hHeld)).mono ?_; rintro e wb ⟨rfl, b8⟩)
                                    refine hK.out _ _ (b8) (fun hHeld => ?_)
                                    clear hK K
                                    refine ht0 11 115 (v := ?v72) (fun _ => ?y72) hHeld ?_
                                    case y72 => go_simp; with_reducible rfl
                                    simp only [sn]
                                    refine ht0 12 116 (v := ?v73) (fun _ => ?y73) hHeld ?_
                                    case y73 => go_simp; with_reducible rfl
                                    simp only [sn]
                                    refine ht0 13 117 (v := ?v74) (fun _ => ?y74) hHeld ?_
                                    case y74 => go_simp; with_reducible rfl
                                    simp only [sn]
                                    refine ht0 14 118 (v := ?v75) (fun _ => ?y75) hHeld ?_
                                    case y75 => go_simp; with_reducible rfl
                                    simp only [sn]
                                    refine ht0 15 119 (v := ?v76) (fun _ => ?y76) hHeld ?_
                                    case y76 => go_simp; with_reducible rfl
                                    simp only [sn]
                                    refine ht0 16 120 (v := ?v77) (fun _ => ?y77) hHeld ?_
                                    case y77 => go_simp; with_reducible rfl
                                    simp only [sn]
                                    refine ht0 17 121 (v := ?v78) (fun _ => ?y78) hHeld ?_
                                    case y78 => go_simp; with_reducible rfl
                                    simp only [sn]
                                    refine ht0 18 122 (v := ?v79) (fun _ => ?y79) hHeld ?_
                                    case y79 => go_simp; with_reducible rfl
                                    simp only [sn]
                                    refine ht0 19 123 (v := ?v80) (fun _ => ?y80) hHeld ?_
                                    case y80 => go_simp; with_reducible rfl
                                    simp only [sn]
                                    refine ht0 20 124 (v := ?v81) (fun _ => ?y81) hHeld ?_
                                    case y81 => go_simp; with_reducible rfl
                                    simp only [sn]
                                    refine ht0 21 125 (v := ?v82) (fun _ => ?y82) hHeld ?_
                                    case y82 => go_simp; with_reducible rfl
                                    simp only [sn]
                                    refine ht0 22 126 (v := ?v83) (fun _ => ?y83) hHeld ?_
                                    case y83 => go_simp; with_reducible rfl
                                    simp only [sn]
                                    refine ht0 23 127 (v := ?v84) (fun _ => ?y84) hHeld ?_
                                    case y84 => go_simp; with_reducible rfl
                                    simp only [sn]
                                    refine ht0 24 128 (v := ?v85) (fun _ => ?y85) hHeld ?_
                                    case y85 => go_simp; with_reducible rfl
                                    simp only [sn]
                                    refine ht0 25 129 (v := ?v86) (fun _ => ?y86) hHeld ?_
                                    case y86 => go_simp; with_reducible rfl
                                    simp only [sn]
                                    refine wpAnyH_ready (rs := [26]) (by kernel_rfl) (by simp) ?_
                                    refine AllReadyH.cons rfl (fun K hK => ?_) AllReadyH.nil
                                    go_simp
                                    go_wp2_with (go_at_call 14; refine (HK3.out _ (by exact hHeld)).mono ?_; rintro e wb ⟨rfl, b8⟩)
                                    refine hK.out _ _ (b8) (fun hHeld => ?_)
                                    clear hK K
                                    refine ht0 27 131 (v := ?v87) (fun _ => ?y87) hHeld ?_
                                    case y87 => go_simp; with_reducible rfl
                                    simp only [sn]
                                    refine ht0 28 132 (v := ?v88) (fun _ => ?y88) hHeld ?_
                                    case y88 => go_simp; with_reducible rfl
                                    simp only [sn]
                                    refine ht0 29 133 (v := ?v89) (fun _ => ?y89) hHeld ?_
                                    case y89 => go_simp; with_reducible rfl
                                    simp only [sn]
                                    refine ht 30 134 (v := ?v90) (fun _ hSw => ?y90) hHeld ?_
                                    case y90 => have q0 := hSw.at m_x100.out hl_x10; have q1 := hSw.at m_x101.out hl_x10; clear hSw; go_simp; with_reducible rfl
                                    simp only [sn]
                                    refine ht 31 135 (v := ?v91) (fun _ hSw => ?y91) hHeld ?_
                                    case y91 => have q0 := hSw.at m_x140.out hl_x14; have q1 := hSw.at m_x141.out hl_x14; clear hSw; go_simp; with_reducible rfl
                                    simp only [sn]
                                    refine wpAnyH_ready (rs := [32]) (by kernel_rfl) (by simp) ?_
                                    refine AllReadyH.cons rfl (fun K hK => ?_) AllReadyH.nil
                                    go_simp
                                    go_wp2_with (go_at_call 12; refine (HK4.out _ (by exact hHeld)).mono ?_; rintro e wb ⟨rfl, b8⟩)
                                    refine hK.out _ _ (b8) (fun hHeld => ?_)
                                    clear hK K
                                    refine ht0 33 137 (v := ?v92) (fun _ => ?y92) hHeld ?_
                                    case y92 => go_simp; with_reducible rfl
                                    simp only [sn]
                                    refine wpAnyH_ready (rs := [34]) (by kernel_rfl) (by simp) ?_
                                    refine AllReadyH.cons rfl (fun K hK => ?_) AllReadyH.nil
                                    go_simp
                                    refine hK.out _ _ hHeld (fun hHeld => ?_)
                                    clear hK K
                                    refine wpAnyH_done (by kernel_rfl) ?_ _
                                    go_wp2_with fail
                                    go_meet
                                    exact ⟨rfl, hHeld⟩
                                case rest =>
                                  as_aux_lemma =>
                                    obtain ⟨rfl, b9⟩ := hcut
                                    replace b9 : Below w9.heap.size w9 wc := hnq6 ▸ b9
                                    generalize hwc : wc = w10 at *
                                    clear hwc hnq6 hl_y6 m_y60 m_y61 hl_x8 m_x80 m_x81 hl_x9 m_x90 m_x91 m_x92 hl_x10 m_x100 m_x101 hl_x14 m_x140 m_x141 hl_hy m_hy0 m_hy1 m_hy2 HK1 HK2 HK3 HK4 hEE hDD
                                    replace y6 := y6.next b9
                                    replace hT := hT.next b9
                                    replace hy := hy.next b9
                                    replace x8 := x8.next b9
                                    replace hI := hI.next b9
                                    replace x9 := x9.next b9
                                    replace hB9 := hB9.next b9
                                    replace hS0 := hS0.next b9
                                    replace oN := oN.next b9
                                    replace oM := oM.next b9
                                    replace x10 := x10.next b9
                                    replace x14 := x14.next b9
                                    replace oZ := oZ.next b9
                                    replace hV := hV.next b9
                                    replace bb := bb.trans (b9.mono bb.size)
                                    clear b9
                                    have c101 := x10.cell 1 _ rfl
                                    have l10 := x10.lt
                                    go_wp2_with fail
                                    refine (spoilBytes_own (.slice na nT nc) nT _ T (by have := HLE.out; omega) _ oN.row).mono ?_
                                    rintro e v1 ⟨rfl, s1, _, q1⟩
                                    clear c101 l10
                                    have x14b := box_same x14 q1 (row_neBox oN.row x14 (by decide))
                                    have oM1 := row_sameB oM.row q1 (fun g hg h => by
                                      rcases HAP.out with h9 | h9
                                      · rw [h9] at h; cases h
                                      · exact h9 (h.trans hg.symm))
                                    have oZ1 := row_sameB oZ.row q1 (fun g hg h => by
                                      have h8 := HNB.out g h
                                      have h7 := (oZ.row.lt g hg).1
                                      have h6 := HN2.out
                                      have h5 := HNZ.out
                                      omega)
                                    have sS := Below.trans hS0.out s1
                                    clear s1 q1 oN oM oZ hS0 x14 x10 x8 x9 y6 hT hy hI hB9 hV bb
                                    go_wp2_with fail
                                    refine (spoilBytes_own (.slice ua nG uc) nG _ G (by have := HLE.out; omega) _ oM1).mono ?_
                                    rintro e v2 ⟨rfl, s1, _, q1⟩
                                    have x14 := box_same x14b q1 (row_neBox oM1 x14b (by decide))
                                    have oZ := row_sameB oZ1 q1 (fun g hg h => by
                                      have h8 := HMB.out g h
                                      have h7 := (oZ1.lt g hg).1
                                      have h6 := HN2.out
                                      have h5 := HNZ.out
                                      omega)
                                    replace sS := Below.trans sS s1
                                    clear s1 q1 oM1 oZ1 x14b
                                    have y6 := HB6.out.below sS H6L.out
                                    have hT := (HTt.out.below sS).mono sS.size
                                    have b1w := HBW.out.trans (sS.mono (by have := HBW.out.size; omega))
                                    clear HB6 HTt HBW sS HAP HNB HMB HTJ HE
                                    have c60 := y6.cell 0 _ rfl
                                    have c61 := y6.cell 1 _ rfl
                                    have g60 := y6.free 0
                                    have g61 := y6.free 1
                                    have z0 := x14.cell 0 _ rfl
                                    have z1 := x14.cell 1 _ rfl
                                    have l6 := y6.lt
                                    have l14 := x14.lt
                                    by_cases hE0 : E = 0
                                    · subst hE0
                                      have oZ6 := row_setNe2 oZ (row_neOld oZ (show B6 < _ by have h1 := H6L.out; have h2 := HN2.out; have h3 := HNZ.out; have h4 := HWN.out; omega)) (.bool O) (.slice za nT zc)
                                      have y7 := box_set2 y6 (.bool O) (.slice za nT zc)
                                      have b7 := below_set2 b1w hB6 (.bool O) (.slice za nT zc)
                                      go_wp2
                                      exact ⟨⟨k + 1, O, T, nT, za, zc, hlt, by go_num, (by have := HLE.out; omega), HnT, y7, holds_of_row oZ6, b7⟩, by simp [intOf]; omega⟩
                                    · have dE : (E == 0) = false := by simp [hE0]
                                      go_wp2
                                      exact ⟨⟨k + 1, o, t, n1, ta, tc, hlt, by go_num, hn1, HT1, y6, hT, b1w⟩, by simp [intOf]; omega⟩

end Go.Proofs.Ytklmiapieaogdaa
