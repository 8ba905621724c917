/-
  The walk of JoinDrops. (Written by tpl_joinlaws.py.)
-/
import Derived.Test.YtklmiapieaogdaaJoinAt
import Derived.Test.YtklmiapieaogdaaJoinWakes
import Derived.Test.YtklmiapieaogdaaKeepBytes
import Derived.Test.YtklmiapieaogdaaRegionHand
import Derived.Deep.Cut
import Derived.Deep.CutRange
import Derived.Deep.DeepCutAuto
namespace Go.Proofs.Ytklmiapieaogdaa
open Go.RowKit

theorem drops_cases {ob : Bool} {t : List Int} {m : Int} {xs : List Int} (h0 : 0 ≤ m) (h3 : m ≤ 3) (hx : xs.length ≤ 16) (ht : t.length ≤ 640) (ho : ob = false → t.length = 0) : errJ (ob, t) m xs = 0 ∧
    ((firstM m = false ∧ ob = false ∧ takeJ (ob, t) m xs = ((false, []), [], false)) ∨
    (firstM m = true ∧ lastM m = true ∧ takeJ (ob, t) m xs = ((false, []), [] ++ xs, true)) ∨
    (firstM m = true ∧ lastM m = false ∧ takeJ (ob, t) m xs = ((true, [] ++ xs), [], false)) ∨
    (firstM m = false ∧ ob = true ∧ lastM m = true ∧ takeJ (ob, t) m xs = ((false, []), t ++ xs, true)) ∨
    (firstM m = false ∧ ob = true ∧ lastM m = false ∧ takeJ (ob, t) m xs = ((true, t ++ xs), [], false))) := by
  have ha : argJ (ob, t) m = true := (argJ_iff _ _).2 ⟨by show t.length ≤ 4096; omega, by cases ob with | false => exact .inr (ho rfl) | true => exact .inl rfl, h0, h3⟩
  have hO : openJ (ob, t) m = if firstM m then (true, []) else (ob, t) := rfl
  have hle : (openJ (ob, t) m).2.length ≤ 640 := by
    rw [hO]
    split
    · simp
    · exact ht
  rcases takeJ_cases (ob, t) m xs with h | h | h | h | h
  · rw [ha] at h; cases h.1
  · omega
  · obtain ⟨_, _, h1, h2, h4⟩ := h
    refine ⟨h2, .inl ?_⟩
    rw [hO] at h1
    cases hf : firstM m with
    | true => rw [hf] at h1; simp at h1
    | false => rw [hf] at h1; exact ⟨rfl, by simpa using h1, h4⟩
  · omega
  · obtain ⟨_, _, h1, _, h2, h4⟩ := h
    refine ⟨h2, .inr ?_⟩
    rw [hO] at h1 h4
    cases hf : firstM m with
    | true =>
      rw [hf] at h4
      cases hl : lastM m with
      | true => rw [hl] at h4; exact .inl ⟨rfl, rfl, h4⟩
      | false => rw [hl] at h4; exact .inr (.inl ⟨rfl, rfl, h4⟩)
    | false =>
      rw [hf] at h1 h4
      have h5 : ob = true := by simpa using h1
      cases hl : lastM m with
      | true => rw [hl] at h4; exact .inr (.inr (.inl ⟨rfl, h5, rfl, h4⟩))
      | false => rw [hl] at h4; exact .inr (.inr (.inr ⟨rfl, h5, rfl, h4⟩))
set_option maxRecDepth 100000 in
set_option maxHeartbeats 8000000 in
theorem joinDrops_walk (la : Option Addr) (len lcap : Nat) (l : List Bl) (hl : l.length = len) (w : World) (hL : Blks w.heap.size w (.slice la len lcap) l) :
    Calls Try.prog 5 #[.slice la len lcap] w fun e w' => e = .returned (.bool true) ∧ Below w.heap.size w w' := by
  have bb0 : Below w.heap.size w (w.alloc (.cells #[.bool false, .slice none 0 0] 24)) := (Below.refl _ _).alloc (Nat.le_refl _) _
  have x30 := Box.new w 24 #[.bool false, .slice none 0 0]
  have HL0 : Hid (Blks w.heap.size w (.slice la len lcap) l) := hL
  have HLL : Hid (l.length = len) := hl
  clear hl hL
  go_enter Try.func5, Try.ntmps5
  by_cases h1 : 40 < len
  · have d1 : decide (40 < len) = true := decide_eq_true h1
    have d1i : decide (40 < (len : Int)) = true := decide_eq_true (by omega)
    clear h1
    go_wp2
    go_ret
    exact ⟨rfl, Below.refl _ _⟩
  have d1 : decide (40 < len) = false := decide_eq_false h1
  have d1i : decide (40 < (len : Int)) = false := decide_eq_false (by omega)
  have hl5 : len ≤ 40 := by omega
  clear h1
  go_wp2_with fail
  clear d1 d1i
  obtain ⟨w1, hw1⟩ : ∃ W, w.alloc (.cells #[.bool false, .slice none 0 0] 24) = W := ⟨_, rfl⟩
  rw [hw1] at bb0 x30 ⊢
  clear hw1
  go_loopw [4, 5, 6] (fun o v i wr => ∃ (k : Nat) (ob : Bool) (t : List Int) (n1 : Nat) (ta : Option Addr) (tc : Nat) (va : Option Addr) (vc : Nat), k ≤ len ∧ o = .bool ob ∧ v = .slice va n1 vc ∧ i = .int .i64 (k : Int) ∧ n1 ≤ 16 * k ∧ Hid (t.length = n1) ∧ Hid (ob = false → n1 = 0) ∧ Box wr w.heap.size 24 #[.bool ob, .slice ta n1 tc] ∧ Holds .u8 wr.heap.size wr (.slice ta n1 tc) t ∧ Holds .u8 wr.heap.size wr (.slice va n1 vc) t ∧ Below w.heap.size w wr) (fun _ _ i _ => len - (intOf i).toNat)
  case atStart => exact ⟨0, false, [], 0, none, 0, none, 0, Nat.zero_le _, rfl, rfl, rfl, Nat.le_refl _, rfl, (fun _ => rfl), x30, (.inl ⟨⟨_, _, rfl, fun _ => rfl⟩, rfl⟩), (.inl ⟨⟨_, _, rfl, fun _ => rfl⟩, rfl⟩), bb0⟩
  case round =>
    obtain ⟨k, ob, t, n1, ta, tc, va, vc, hk, rfl, rfl, rfl, hn1, HT1, HOB, x3, hT, hV, bb⟩ := hrel
    clear x30 bb0
    generalize hwr : wr = w2 at *
    clear hwr
    by_cases hlt : k < len
    rotate_left
    · obtain rfl : len = k := by omega
      clear x3 hT hV
      go_wp2_with fail
      refine (joinWakes_any _).mono ?_
      rintro e w99 ⟨rfl, b99⟩
      go_wp2
      go_ret
      exact ⟨rfl, bb.trans (b99.mono bb.size)⟩
    · as_aux_lemma =>
        obtain ⟨⟨s, m, xs⟩, hx⟩ : ∃ y, l[k]? = some y := ⟨l[k]'(by rw [HLL.out]; exact hlt), by simp⟩
        obtain ⟨gb, off, pa, pc, rfl, hy⟩ := atBlk_of HL0.out hx bb (Nat.le_refl _)
        obtain ⟨x, hxl⟩ : ∃ x, xs.length = x := ⟨_, rfl⟩
        rw [hxl] at hy
        have HXL : Hid (xs.length = x) := hxl
        clear hx hxl HL0
        have hX := hy.held
        have c0 := hy.1.2.1
        have c1 := hy.1.2.2.1
        have c2 := hy.1.2.2.2
        clear hy
        have b9 : Below w2.heap.size w2 (w2.alloc (.cells #[.int .i64 s, .int .i64 m, .slice pa x pc] 27)) := (Below.refl _ _).alloc (Nat.le_refl _) _
        have x7 := Box.new w2 27 #[.int .i64 s, .int .i64 m, .slice pa x pc]
        replace x3 := x3.next b9
        replace hT := hT.next b9
        replace hV := hV.next b9
        replace hX := hX.next b9
        replace bb := bb.trans (b9.mono bb.size)
        clear b9
        go_upto_region 10 with fail
        clear c0 c1 c2
        obtain ⟨B7, hB7⟩ : ∃ B, w2.heap.size = B := ⟨_, rfl⟩
        rw [hB7] at x7 ⊢
        clear hB7
        generalize w2.alloc (.cells #[.int .i64 s, .int .i64 m, .slice pa x pc] 27) = w3 at *
        have c71 := x7.cell 1 _ rfl
        have c72 := x7.cell 2 _ rfl
        by_cases hq : m < 0
        · as_aux_lemma =>
            have d2 : decide (m < 0) = true := decide_eq_true hq
            clear x3 hT hV hX x7
            go_wp2
            go_ret
            exact ⟨rfl, bb⟩
        have da : decide (m < 0) = false := decide_eq_false hq
        have hqa : ¬ m < 0 := hq
        clear hq
        by_cases hq : 3 < m
        · as_aux_lemma =>
            have d2 : decide (3 < m) = true := decide_eq_true hq
            clear x3 hT hV hX x7
            go_wp2
            go_ret
            exact ⟨rfl, bb⟩
        have db : decide (3 < m) = false := decide_eq_false hq
        have hqb : ¬ 3 < m := hq
        clear hq
        by_cases hq : 16 < x
        · as_aux_lemma =>
            have d2 : decide (16 < x) = true := decide_eq_true hq
            have d2i : decide (16 < (x : Int)) = true := decide_eq_true (by omega)
            clear x3 hT hV hX x7
            go_wp2
            go_ret
            exact ⟨rfl, bb⟩
        have dc : decide (16 < x) = false := decide_eq_false hq
        have dci : decide (16 < (x : Int)) = false := decide_eq_false (by omega)
        have hqc : ¬ 16 < x := hq
        clear hq
        have hm0 : 0 ≤ m := by omega
        have hm3 : m ≤ 3 := by omega
        have hx16 : x ≤ 16 := by omega
        have hn640 : n1 ≤ 640 := by omega
        clear hqa hqb hqc
        obtain ⟨hE, hcs⟩ := drops_cases (ob := ob) (t := t) (m := m) (xs := xs) hm0 hm3 (by rw [HXL.out]; exact hx16) (by rw [HT1.out]; exact hn640) (fun h => by rw [HT1.out]; exact HOB.out h)
        have HE : Hid (errJ (ob, t) m xs = 0) := hE
        clear hE
        go_upto_region 12 with fail
        clear c71 c72 da db dc dci
        rcases hcs with ⟨hf, rfl, hTJ⟩ | ⟨hf, hl, hTJ⟩ | ⟨hf, hl, hTJ⟩ | ⟨hf, rfl, hl, hTJ⟩ | ⟨hf, rfl, hl, hTJ⟩
        · as_aux_lemma =>
            have f1 : (bits .and .i64 m 1 != 0) = false := (and1_first hm0 hm3).trans hf
            skip
            have hn0 : n1 = 0 := HOB.out rfl
            subst hn0
            have HTJ : Hid (takeJ (false, t) m xs = ((false, []), [], false)) := hTJ
            clear hTJ hf
            have H3L : Hid (w.heap.size < w3.heap.size) := x3.lt
            have lx3 := x3.lt
            have lx7 := x7.lt
            have cx30 := x3.cell 0 _ rfl
            have cx31 := x3.cell 1 _ rfl
            have cx70 := x7.cell 0 _ rfl
            have cx71 := x7.cell 1 _ rfl
            have cx72 := x7.cell 2 _ rfl
            go_wp2_with fail
            refine (joinTake_at false ta 0 tc s m pa x pc t xs HT1.out HXL.out HTJ.out HE.out rfl rfl _ hT hX).mono ?_
            rintro e w4 ⟨na, nc, ua, uc, rfl, oN, oM, hAP, b9⟩
            clear cx30 cx31
            clear cx70 cx71 cx72
            replace x3 := x3.next b9
            replace hT := hT.next b9
            replace hV := hV.next b9
            replace hX := hX.next b9
            replace x7 := x7.next b9
            replace bb := bb.trans (b9.mono bb.size)
            clear b9
            clear lx3 lx7
            replace oN : OwnB w4 w3.heap.size (.slice na 0 nc) 0 [] := oN
            replace oM : OwnB w4 w3.heap.size (.slice ua 0 uc) 0 [] := oM
            clear hAP
            have b9 : Below w4.heap.size w4 (w4.alloc (.cells #[.bool false, .slice na 0 nc] 24)) := (Below.refl _ _).alloc (Nat.le_refl _) _
            have x8 := Box.new w4 24 #[.bool false, .slice na 0 nc]
            replace x3 := x3.next b9
            replace hT := hT.next b9
            replace hV := hV.next b9
            replace hX := hX.next b9
            replace x7 := x7.next b9
            replace oN := oN.next b9
            replace oM := oM.next b9
            replace bb := bb.trans (b9.mono bb.size)
            clear b9
            go_upto_region 13 with fail
            obtain ⟨B8, hB8⟩ : ∃ B, w4.heap.size = B := ⟨_, rfl⟩
            rw [hB8] at x8 ⊢
            clear hB8
            generalize w4.alloc (.cells #[.bool false, .slice na 0 nc] 24) = w5 at *
            have c71 := x7.cell 1 _ rfl
            have c80 := x8.cell 0 _ rfl
            have c81 := x8.cell 1 _ rfl
            go_wp2
            exact ⟨⟨k + 1, false, t, 0, ta, tc, va, vc, hlt, rfl, rfl, by go_num, Nat.zero_le _, HT1, (fun _ => rfl), x3, hT, hV, bb⟩, by simp [intOf]; omega⟩
        · as_aux_lemma =>
            have f1 : (bits .and .i64 m 1 != 0) = true := (and1_first hm0 hm3).trans hf
            have f2 : (bits .and .i64 m 2 != 0) = true := (and2_last hm0 hm3).trans hl
            skip
            obtain ⟨Y, hY⟩ : ∃ Y, [] ++ xs = Y := ⟨_, rfl⟩
            obtain ⟨M, hM⟩ : ∃ M, Y.length = M := ⟨_, rfl⟩
            rw [hY] at hTJ
            have HY : Hid ([] ++ xs = Y) := hY
            have HMY : Hid (Y.length = M) := hM
            have hMx : M = 0 + x := by rw [← hM, ← hY, List.length_append, HXL.out]; rfl
            have HMX : Hid (M = 0 + x) := hMx
            have hM16 : M ≤ 16 * (k + 1) := by omega
            clear hMx hY hM
            have HTJ : Hid (takeJ (ob, t) m xs = ((false, []), Y, true)) := hTJ
            clear hTJ hf hl
            have H3L : Hid (w.heap.size < w3.heap.size) := x3.lt
            have lx3 := x3.lt
            have lx7 := x7.lt
            have cx30 := x3.cell 0 _ rfl
            have cx31 := x3.cell 1 _ rfl
            have cx70 := x7.cell 0 _ rfl
            have cx71 := x7.cell 1 _ rfl
            have cx72 := x7.cell 2 _ rfl
            go_wp2_with fail
            refine (joinTake_at ob ta n1 tc s m pa x pc t xs HT1.out HXL.out HTJ.out HE.out rfl HMY.out _ hT hX).mono ?_
            rintro e w4 ⟨na, nc, ua, uc, rfl, oN, oM, hAP, b9⟩
            clear cx30 cx31
            clear cx70 cx71 cx72
            replace x3 := x3.next b9
            replace hT := hT.next b9
            replace hV := hV.next b9
            replace hX := hX.next b9
            replace x7 := x7.next b9
            replace bb := bb.trans (b9.mono bb.size)
            clear b9
            clear lx3 lx7
            replace oN : OwnB w4 w3.heap.size (.slice na 0 nc) 0 [] := oN
            replace oM : OwnB w4 w3.heap.size (.slice ua M uc) M Y := oM
            clear hAP
            have b9 : Below w4.heap.size w4 (w4.alloc (.cells #[.bool false, .slice na 0 nc] 24)) := (Below.refl _ _).alloc (Nat.le_refl _) _
            have x8 := Box.new w4 24 #[.bool false, .slice na 0 nc]
            replace x3 := x3.next b9
            replace hT := hT.next b9
            replace hV := hV.next b9
            replace hX := hX.next b9
            replace x7 := x7.next b9
            replace oN := oN.next b9
            replace oM := oM.next b9
            replace bb := bb.trans (b9.mono bb.size)
            clear b9
            go_upto_region 13 with fail
            obtain ⟨B8, hB8⟩ : ∃ B, w4.heap.size = B := ⟨_, rfl⟩
            rw [hB8] at x8 ⊢
            clear hB8
            generalize w4.alloc (.cells #[.bool false, .slice na 0 nc] 24) = w5 at *
            have c71 := x7.cell 1 _ rfl
            go_upto_region 20 with fail
            clear c71
            obtain ⟨nq1, hnq1⟩ : ∃ n, w5.heap.size = n := ⟨_, rfl⟩
            have hl_x7 : B7 < nq1 := hnq1 ▸ x7.lt
            have m_x70 : Hid (w5.cell? ⟨B7, 0, none⟩ = some (.int .i64 s)) := x7.cell 0 _ rfl
            have m_x71 : Hid (w5.cell? ⟨B7, 1, none⟩ = some (.int .i64 m)) := x7.cell 1 _ rfl
            have m_x72 : Hid (w5.cell? ⟨B7, 2, none⟩ = some (.slice pa x pc)) := x7.cell 2 _ rfl
            have HNQ : Hid (w.heap.size < nq1) := hnq1 ▸ x3.lt
            have HT : Hid (∀ wx : World, Below nq1 w5 wx → Calls Try.prog 7 #[.slice none 0 0] wx fun e W' => ∃ xa xc, e = .returned (.slice xa 0 xc) ∧ W'.ownsRow wx.heap.size 5 1 (.slice xa 0 xc) 0 (([] : List Int).map (Value.int .u8)) ∧ nq1 ≤ wx.heap.size ∧ Below wx.heap.size wx W') := fun wx hx => by
              refine (twin_any (.slice none 0 0) [] wx.heap.size (by decide) wx (.inl ⟨⟨_, _, rfl, fun _ => rfl⟩, rfl⟩)).mono ?_
              rintro e W' ⟨q, rfl, o9, b9⟩
              obtain ⟨xa, xc, rfl⟩ := row_shapeJ o9
              exact ⟨xa, xc, rfl, o9, by have := hx.size; omega, b9⟩
            have HXX : Hid (Holds .u8 w5.heap.size w5 (.slice pa x pc) xs) := hX
            go_cut [5] (fun v0 wx => ∃ ua9 uc9, v0 = .slice ua9 M uc9 ∧ wx.ownsRow nq1 5 1 (.slice ua9 M uc9) M (Y.map (Value.int .u8)) ∧ Below nq1 w5 wx)
            case first =>
              as_aux_lemma =>
                have hS : Below nq1 w5 w5.drew := below_drewJ hnq1
                refine wp_region_held_drew (S := fun w' => Below nq1 w5 w') (by kernel_rfl) (hS) (fun hHeld => ?_)
                generalize w5.drew = wk0 at *
                refine ht0 0 71 (v := ?v1) (fun _ => ?y1) hHeld ?_
                case y1 => go_simp; with_reducible rfl
                simp only [sn]
                refine ht0 2 73 (v := ?v2) (fun _ => ?y2) hHeld ?_
                case y2 => go_simp; with_reducible rfl
                simp only [sn]
                refine ht 3 74 (v := ?v3) (fun _ hSw => ?y3) hHeld ?_
                case y3 => have q0 := hSw.at m_x72.out hl_x7; clear hSw; go_simp; with_reducible rfl
                simp only [sn]
                refine wpAnyH_ready (rs := [1]) (by kernel_rfl) (by simp) ?_
                refine AllReadyH.cons rfl (fun K hK => ?_) AllReadyH.nil
                go_simp
                go_wp2_with (go_at_call 7; refine (HT.out _ (by exact hS)).mono ?_; rintro e wk1 ⟨xa, xc, rfl, oX, hqz, b8⟩)
                replace oX := rowK_base oX hqz
                replace hS := hS.trans (b8.mono (by have := hS.size; omega))
                clear b8
                refine hK.out _ _ (hS) (fun hHeld => ?_)
                clear hK K
                refine wpAnyH_ready (rs := [4]) (by kernel_rfl) (by simp) ?_
                refine AllReadyH.cons rfl (fun K hK => ?_) AllReadyH.nil
                obtain ⟨v9, wk2, hr9, o9, g9⟩ := run_append_u8 _ _ 0 _ _ _ _ 22 wk1 oX ((HXX.out.next (hnq1 ▸ hS))) (by have := hS.size; omega) (by omega) (by rw [HXL.out]; omega)
                rw [HXL.out, HY.out, ← HMX.out] at o9
                replace hS := hS.trans ((Below.refl _ _).grown g9 (by have := hS.size; omega) (fun z e => (oX.lt z e).1))
                obtain ⟨va9, vc9, rfl⟩ := row_shapeJ o9
                refine step_append_known rfl _ _ 22 rfl _ _ rfl rfl _ _ hr9 ?_
                simp only [Act.put, List.setIfInBounds_toArray]
                replace oX := o9
                clear hr9 g9 o9
                refine hK.out _ _ (hS) (fun hHeld => ?_)
                clear hK K
                refine wpAnyH_ready (rs := [5]) (by kernel_rfl) (by simp) ?_
                refine AllReadyH.cons rfl (fun K hK => ?_) AllReadyH.nil
                go_simp
                refine hK.out _ _ hHeld (fun hHeld => ?_)
                clear hK K
                refine wpAnyH_done (by kernel_rfl) ?_ _
                go_wp2_with fail
                go_meet
                exact ⟨va9, vc9, rfl, oX, hHeld⟩
            case rest =>
              as_aux_lemma =>
                obtain ⟨va9, vc9, rfl, oW, b9⟩ := hcut
                replace b9 : Below w5.heap.size w5 wc := hnq1 ▸ b9
                generalize hwc : wc = w6 at *
                clear hwc hnq1 hl_x7 m_x70 m_x71 m_x72 HT HXX
                replace x3 := x3.next b9
                replace hT := hT.next b9
                replace hV := hV.next b9
                replace hX := hX.next b9
                replace x7 := x7.next b9
                replace oN := oN.next b9
                replace oM := oM.next b9
                replace x8 := x8.next b9
                replace bb := bb.trans (b9.mono bb.size)
                clear b9
                replace oW : OwnB w6 nq1 (.slice va9 M vc9) M Y := oW
                have c71 := x7.cell 1 _ rfl
                have lx8 := x8.lt
                have cx80 := x8.cell 0 _ rfl
                have cx81 := x8.cell 1 _ rfl
                go_wp2_with fail
                refine (bytes_eq (.slice ua M uc) (.slice va9 M vc9) Y _ (by rw [HMY.out]; omega) (holds_of_row oM.row) (holds_of_row oW.row)).mono ?_
                rintro e w7 ⟨rfl, b9⟩
                replace x3 := x3.next b9
                replace hT := hT.next b9
                replace hV := hV.next b9
                replace hX := hX.next b9
                replace x7 := x7.next b9
                replace oN := oN.next b9
                replace oM := oM.next b9
                replace x8 := x8.next b9
                replace oW := oW.next b9
                replace bb := bb.trans (b9.mono bb.size)
                clear b9
                clear cx80 cx81
                clear lx8
                have c30 := x3.cell 0 _ rfl
                have c31 := x3.cell 1 _ rfl
                have g30 := x3.free 0
                have g31 := x3.free 1
                have c80 := x8.cell 0 _ rfl
                have c81 := x8.cell 1 _ rfl
                have l3 := x3.lt
                have l8 := x8.lt
                have x3n := box_set2 x3 (.bool false) (.slice na 0 nc)
                have bbn := below_set2 bb (Nat.le_refl _) (.bool false) (.slice na 0 nc)
                have oNn := row_setNe2 oN.row (row_neOld oN.row H3L.out) (.bool false) (.slice na 0 nc)
                go_wp2
                exact ⟨⟨k + 1, false, [], 0, na, nc, none, 0, hlt, rfl, rfl, by go_num, Nat.zero_le _, (rfl : ([] : List Int).length = 0), (fun _ => rfl), x3n, holds_of_row oNn, (.inl ⟨⟨_, _, rfl, fun _ => rfl⟩, rfl⟩), bbn⟩, by simp [intOf]; omega⟩
        · as_aux_lemma =>
            have f1 : (bits .and .i64 m 1 != 0) = true := (and1_first hm0 hm3).trans hf
            have f2 : (bits .and .i64 m 2 != 0) = false := (and2_last hm0 hm3).trans hl
            skip
            obtain ⟨Y, hY⟩ : ∃ Y, [] ++ xs = Y := ⟨_, rfl⟩
            obtain ⟨M, hM⟩ : ∃ M, Y.length = M := ⟨_, rfl⟩
            rw [hY] at hTJ
            have HY : Hid ([] ++ xs = Y) := hY
            have HMY : Hid (Y.length = M) := hM
            have hMx : M = 0 + x := by rw [← hM, ← hY, List.length_append, HXL.out]; rfl
            have HMX : Hid (M = 0 + x) := hMx
            have hM16 : M ≤ 16 * (k + 1) := by omega
            clear hMx hY hM
            have HTJ : Hid (takeJ (ob, t) m xs = ((true, Y), [], false)) := hTJ
            clear hTJ hf hl
            have H3L : Hid (w.heap.size < w3.heap.size) := x3.lt
            have lx3 := x3.lt
            have lx7 := x7.lt
            have cx30 := x3.cell 0 _ rfl
            have cx31 := x3.cell 1 _ rfl
            have cx70 := x7.cell 0 _ rfl
            have cx71 := x7.cell 1 _ rfl
            have cx72 := x7.cell 2 _ rfl
            go_wp2_with fail
            refine (joinTake_at ob ta n1 tc s m pa x pc t xs HT1.out HXL.out HTJ.out HE.out HMY.out rfl _ hT hX).mono ?_
            rintro e w4 ⟨na, nc, ua, uc, rfl, oN, oM, hAP, b9⟩
            clear cx30 cx31
            clear cx70 cx71 cx72
            replace x3 := x3.next b9
            replace hT := hT.next b9
            replace hV := hV.next b9
            replace hX := hX.next b9
            replace x7 := x7.next b9
            replace bb := bb.trans (b9.mono bb.size)
            clear b9
            clear lx3 lx7
            replace oN : OwnB w4 w3.heap.size (.slice na M nc) M Y := oN
            replace oM : OwnB w4 w3.heap.size (.slice ua 0 uc) 0 [] := oM
            clear hAP
            have b9 : Below w4.heap.size w4 (w4.alloc (.cells #[.bool true, .slice na M nc] 24)) := (Below.refl _ _).alloc (Nat.le_refl _) _
            have x8 := Box.new w4 24 #[.bool true, .slice na M nc]
            replace x3 := x3.next b9
            replace hT := hT.next b9
            replace hV := hV.next b9
            replace hX := hX.next b9
            replace x7 := x7.next b9
            replace oN := oN.next b9
            replace oM := oM.next b9
            replace bb := bb.trans (b9.mono bb.size)
            clear b9
            go_upto_region 13 with fail
            obtain ⟨B8, hB8⟩ : ∃ B, w4.heap.size = B := ⟨_, rfl⟩
            rw [hB8] at x8 ⊢
            clear hB8
            generalize w4.alloc (.cells #[.bool true, .slice na M nc] 24) = w5 at *
            have c71 := x7.cell 1 _ rfl
            go_upto_region 20 with fail
            clear c71
            obtain ⟨nq2, hnq2⟩ : ∃ n, w5.heap.size = n := ⟨_, rfl⟩
            have hl_x7 : B7 < nq2 := hnq2 ▸ x7.lt
            have m_x70 : Hid (w5.cell? ⟨B7, 0, none⟩ = some (.int .i64 s)) := x7.cell 0 _ rfl
            have m_x71 : Hid (w5.cell? ⟨B7, 1, none⟩ = some (.int .i64 m)) := x7.cell 1 _ rfl
            have m_x72 : Hid (w5.cell? ⟨B7, 2, none⟩ = some (.slice pa x pc)) := x7.cell 2 _ rfl
            have HNQ : Hid (w.heap.size < nq2) := hnq2 ▸ x3.lt
            have HT : Hid (∀ wx : World, Below nq2 w5 wx → Calls Try.prog 7 #[.slice none 0 0] wx fun e W' => ∃ xa xc, e = .returned (.slice xa 0 xc) ∧ W'.ownsRow wx.heap.size 5 1 (.slice xa 0 xc) 0 (([] : List Int).map (Value.int .u8)) ∧ nq2 ≤ wx.heap.size ∧ Below wx.heap.size wx W') := fun wx hx => by
              refine (twin_any (.slice none 0 0) [] wx.heap.size (by decide) wx (.inl ⟨⟨_, _, rfl, fun _ => rfl⟩, rfl⟩)).mono ?_
              rintro e W' ⟨q, rfl, o9, b9⟩
              obtain ⟨xa, xc, rfl⟩ := row_shapeJ o9
              exact ⟨xa, xc, rfl, o9, by have := hx.size; omega, b9⟩
            have HXX : Hid (Holds .u8 w5.heap.size w5 (.slice pa x pc) xs) := hX
            go_cut [5] (fun v0 wx => ∃ ua9 uc9, v0 = .slice ua9 M uc9 ∧ wx.ownsRow nq2 5 1 (.slice ua9 M uc9) M (Y.map (Value.int .u8)) ∧ Below nq2 w5 wx)
            case first =>
              as_aux_lemma =>
                have hS : Below nq2 w5 w5.drew := below_drewJ hnq2
                refine wp_region_held_drew (S := fun w' => Below nq2 w5 w') (by kernel_rfl) (hS) (fun hHeld => ?_)
                generalize w5.drew = wk0 at *
                refine ht0 0 71 (v := ?v4) (fun _ => ?y4) hHeld ?_
                case y4 => go_simp; with_reducible rfl
                simp only [sn]
                refine ht0 2 73 (v := ?v5) (fun _ => ?y5) hHeld ?_
                case y5 => go_simp; with_reducible rfl
                simp only [sn]
                refine ht 3 74 (v := ?v6) (fun _ hSw => ?y6) hHeld ?_
                case y6 => have q0 := hSw.at m_x72.out hl_x7; clear hSw; go_simp; with_reducible rfl
                simp only [sn]
                refine wpAnyH_ready (rs := [1]) (by kernel_rfl) (by simp) ?_
                refine AllReadyH.cons rfl (fun K hK => ?_) AllReadyH.nil
                go_simp
                go_wp2_with (go_at_call 7; refine (HT.out _ (by exact hS)).mono ?_; rintro e wk1 ⟨xa, xc, rfl, oX, hqz, b8⟩)
                replace oX := rowK_base oX hqz
                replace hS := hS.trans (b8.mono (by have := hS.size; omega))
                clear b8
                refine hK.out _ _ (hS) (fun hHeld => ?_)
                clear hK K
                refine wpAnyH_ready (rs := [4]) (by kernel_rfl) (by simp) ?_
                refine AllReadyH.cons rfl (fun K hK => ?_) AllReadyH.nil
                obtain ⟨v9, wk2, hr9, o9, g9⟩ := run_append_u8 _ _ 0 _ _ _ _ 22 wk1 oX ((HXX.out.next (hnq2 ▸ hS))) (by have := hS.size; omega) (by omega) (by rw [HXL.out]; omega)
                rw [HXL.out, HY.out, ← HMX.out] at o9
                replace hS := hS.trans ((Below.refl _ _).grown g9 (by have := hS.size; omega) (fun z e => (oX.lt z e).1))
                obtain ⟨va9, vc9, rfl⟩ := row_shapeJ o9
                refine step_append_known rfl _ _ 22 rfl _ _ rfl rfl _ _ hr9 ?_
                simp only [Act.put, List.setIfInBounds_toArray]
                replace oX := o9
                clear hr9 g9 o9
                refine hK.out _ _ (hS) (fun hHeld => ?_)
                clear hK K
                refine wpAnyH_ready (rs := [5]) (by kernel_rfl) (by simp) ?_
                refine AllReadyH.cons rfl (fun K hK => ?_) AllReadyH.nil
                go_simp
                refine hK.out _ _ hHeld (fun hHeld => ?_)
                clear hK K
                refine wpAnyH_done (by kernel_rfl) ?_ _
                go_wp2_with fail
                go_meet
                exact ⟨va9, vc9, rfl, oX, hHeld⟩
            case rest =>
              as_aux_lemma =>
                obtain ⟨va9, vc9, rfl, oW, b9⟩ := hcut
                replace b9 : Below w5.heap.size w5 wc := hnq2 ▸ b9
                generalize hwc : wc = w6 at *
                clear hwc hnq2 hl_x7 m_x70 m_x71 m_x72 HT HXX
                replace x3 := x3.next b9
                replace hT := hT.next b9
                replace hV := hV.next b9
                replace hX := hX.next b9
                replace x7 := x7.next b9
                replace oN := oN.next b9
                replace oM := oM.next b9
                replace x8 := x8.next b9
                replace bb := bb.trans (b9.mono bb.size)
                clear b9
                replace oW : OwnB w6 nq2 (.slice va9 M vc9) M Y := oW
                have c71 := x7.cell 1 _ rfl
                have lx8 := x8.lt
                have cx80 := x8.cell 0 _ rfl
                have cx81 := x8.cell 1 _ rfl
                go_wp2_with fail
                refine (bytes_eq (.slice na M nc) (.slice va9 M vc9) Y _ (by rw [HMY.out]; omega) (holds_of_row oN.row) (holds_of_row oW.row)).mono ?_
                rintro e w7 ⟨rfl, b9⟩
                replace x3 := x3.next b9
                replace hT := hT.next b9
                replace hV := hV.next b9
                replace hX := hX.next b9
                replace x7 := x7.next b9
                replace oN := oN.next b9
                replace oM := oM.next b9
                replace x8 := x8.next b9
                replace oW := oW.next b9
                replace bb := bb.trans (b9.mono bb.size)
                clear b9
                clear cx80 cx81
                clear lx8
                have c30 := x3.cell 0 _ rfl
                have c31 := x3.cell 1 _ rfl
                have g30 := x3.free 0
                have g31 := x3.free 1
                have c80 := x8.cell 0 _ rfl
                have c81 := x8.cell 1 _ rfl
                have l3 := x3.lt
                have l8 := x8.lt
                have x3n := box_set2 x3 (.bool true) (.slice na M nc)
                have bbn := below_set2 bb (Nat.le_refl _) (.bool true) (.slice na M nc)
                have oNn := row_setNe2 oN.row (row_neOld oN.row H3L.out) (.bool true) (.slice na M nc)
                have oWn := row_setNe2 oW.row (row_neOld oW.row HNQ.out) (.bool true) (.slice na M nc)
                go_wp2
                exact ⟨⟨k + 1, true, Y, M, na, nc, va9, vc9, hlt, rfl, rfl, by go_num, hM16, HMY, (fun h => by cases h), x3n, holds_of_row oNn, holds_of_row oWn, bbn⟩, by simp [intOf]; omega⟩
        · as_aux_lemma =>
            have f1 : (bits .and .i64 m 1 != 0) = false := (and1_first hm0 hm3).trans hf
            have f2 : (bits .and .i64 m 2 != 0) = true := (and2_last hm0 hm3).trans hl
            skip
            obtain ⟨Y, hY⟩ : ∃ Y, t ++ xs = Y := ⟨_, rfl⟩
            obtain ⟨M, hM⟩ : ∃ M, Y.length = M := ⟨_, rfl⟩
            rw [hY] at hTJ
            have HY : Hid (t ++ xs = Y) := hY
            have HMY : Hid (Y.length = M) := hM
            have hMx : M = n1 + x := by rw [← hM, ← hY, List.length_append, HXL.out, HT1.out]
            have HMX : Hid (M = n1 + x) := hMx
            have hM16 : M ≤ 16 * (k + 1) := by omega
            clear hMx hY hM
            have HTJ : Hid (takeJ (true, t) m xs = ((false, []), Y, true)) := hTJ
            clear hTJ hf hl
            have H3L : Hid (w.heap.size < w3.heap.size) := x3.lt
            have lx3 := x3.lt
            have lx7 := x7.lt
            have cx30 := x3.cell 0 _ rfl
            have cx31 := x3.cell 1 _ rfl
            have cx70 := x7.cell 0 _ rfl
            have cx71 := x7.cell 1 _ rfl
            have cx72 := x7.cell 2 _ rfl
            go_wp2_with fail
            refine (joinTake_at true ta n1 tc s m pa x pc t xs HT1.out HXL.out HTJ.out HE.out rfl HMY.out _ hT hX).mono ?_
            rintro e w4 ⟨na, nc, ua, uc, rfl, oN, oM, hAP, b9⟩
            clear cx30 cx31
            clear cx70 cx71 cx72
            replace x3 := x3.next b9
            replace hT := hT.next b9
            replace hV := hV.next b9
            replace hX := hX.next b9
            replace x7 := x7.next b9
            replace bb := bb.trans (b9.mono bb.size)
            clear b9
            clear lx3 lx7
            replace oN : OwnB w4 w3.heap.size (.slice na 0 nc) 0 [] := oN
            replace oM : OwnB w4 w3.heap.size (.slice ua M uc) M Y := oM
            clear hAP
            have b9 : Below w4.heap.size w4 (w4.alloc (.cells #[.bool false, .slice na 0 nc] 24)) := (Below.refl _ _).alloc (Nat.le_refl _) _
            have x8 := Box.new w4 24 #[.bool false, .slice na 0 nc]
            replace x3 := x3.next b9
            replace hT := hT.next b9
            replace hV := hV.next b9
            replace hX := hX.next b9
            replace x7 := x7.next b9
            replace oN := oN.next b9
            replace oM := oM.next b9
            replace bb := bb.trans (b9.mono bb.size)
            clear b9
            go_upto_region 13 with fail
            obtain ⟨B8, hB8⟩ : ∃ B, w4.heap.size = B := ⟨_, rfl⟩
            rw [hB8] at x8 ⊢
            clear hB8
            generalize w4.alloc (.cells #[.bool false, .slice na 0 nc] 24) = w5 at *
            have c71 := x7.cell 1 _ rfl
            go_upto_region 20 with fail
            clear c71
            obtain ⟨nq3, hnq3⟩ : ∃ n, w5.heap.size = n := ⟨_, rfl⟩
            have hl_x7 : B7 < nq3 := hnq3 ▸ x7.lt
            have m_x70 : Hid (w5.cell? ⟨B7, 0, none⟩ = some (.int .i64 s)) := x7.cell 0 _ rfl
            have m_x71 : Hid (w5.cell? ⟨B7, 1, none⟩ = some (.int .i64 m)) := x7.cell 1 _ rfl
            have m_x72 : Hid (w5.cell? ⟨B7, 2, none⟩ = some (.slice pa x pc)) := x7.cell 2 _ rfl
            have HNQ : Hid (w.heap.size < nq3) := hnq3 ▸ x3.lt
            have HT : Hid (∀ wx : World, Below nq3 w5 wx → Calls Try.prog 7 #[.slice va n1 vc] wx fun e W' => ∃ xa xc, e = .returned (.slice xa n1 xc) ∧ W'.ownsRow wx.heap.size 5 1 (.slice xa n1 xc) n1 ((t : List Int).map (Value.int .u8)) ∧ nq3 ≤ wx.heap.size ∧ Below wx.heap.size wx W') := fun wx hx => by
              refine (twin_any (.slice va n1 vc) t wx.heap.size (by rw [HT1.out]; omega) wx (hV.next (hnq3 ▸ hx))).mono ?_
              rintro e W' ⟨q, rfl, o9, b9⟩
              rw [HT1.out] at o9
              obtain ⟨xa, xc, rfl⟩ := row_shapeJ o9
              exact ⟨xa, xc, rfl, o9, by have := hx.size; omega, b9⟩
            have HXX : Hid (Holds .u8 w5.heap.size w5 (.slice pa x pc) xs) := hX
            go_cut [5] (fun v0 wx => ∃ ua9 uc9, v0 = .slice ua9 M uc9 ∧ wx.ownsRow nq3 5 1 (.slice ua9 M uc9) M (Y.map (Value.int .u8)) ∧ Below nq3 w5 wx)
            case first =>
              as_aux_lemma =>
                have hS : Below nq3 w5 w5.drew := below_drewJ hnq3
                refine wp_region_held_drew (S := fun w' => Below nq3 w5 w') (by kernel_rfl) (hS) (fun hHeld => ?_)
                generalize w5.drew = wk0 at *
                refine ht0 0 71 (v := ?v7) (fun _ => ?y7) hHeld ?_
                case y7 => go_simp; with_reducible rfl
                simp only [sn]
                refine ht0 2 73 (v := ?v8) (fun _ => ?y8) hHeld ?_
                case y8 => go_simp; with_reducible rfl
                simp only [sn]
                refine ht 3 74 (v := ?v9) (fun _ hSw => ?y9) hHeld ?_
                case y9 => have q0 := hSw.at m_x72.out hl_x7; clear hSw; go_simp; with_reducible rfl
                simp only [sn]
                refine wpAnyH_ready (rs := [1]) (by kernel_rfl) (by simp) ?_
                refine AllReadyH.cons rfl (fun K hK => ?_) AllReadyH.nil
                go_simp
                go_wp2_with (go_at_call 7; refine (HT.out _ (by exact hS)).mono ?_; rintro e wk1 ⟨xa, xc, rfl, oX, hqz, b8⟩)
                replace oX := rowK_base oX hqz
                replace hS := hS.trans (b8.mono (by have := hS.size; omega))
                clear b8
                refine hK.out _ _ (hS) (fun hHeld => ?_)
                clear hK K
                refine wpAnyH_ready (rs := [4]) (by kernel_rfl) (by simp) ?_
                refine AllReadyH.cons rfl (fun K hK => ?_) AllReadyH.nil
                obtain ⟨v9, wk2, hr9, o9, g9⟩ := run_append_u8 _ _ n1 _ _ _ _ 22 wk1 oX ((HXX.out.next (hnq3 ▸ hS))) (by have := hS.size; omega) (by omega) (by rw [HXL.out]; omega)
                rw [HXL.out, HY.out, ← HMX.out] at o9
                replace hS := hS.trans ((Below.refl _ _).grown g9 (by have := hS.size; omega) (fun z e => (oX.lt z e).1))
                obtain ⟨va9, vc9, rfl⟩ := row_shapeJ o9
                refine step_append_known rfl _ _ 22 rfl _ _ rfl rfl _ _ hr9 ?_
                simp only [Act.put, List.setIfInBounds_toArray]
                replace oX := o9
                clear hr9 g9 o9
                refine hK.out _ _ (hS) (fun hHeld => ?_)
                clear hK K
                refine wpAnyH_ready (rs := [5]) (by kernel_rfl) (by simp) ?_
                refine AllReadyH.cons rfl (fun K hK => ?_) AllReadyH.nil
                go_simp
                refine hK.out _ _ hHeld (fun hHeld => ?_)
                clear hK K
                refine wpAnyH_done (by kernel_rfl) ?_ _
                go_wp2_with fail
                go_meet
                exact ⟨va9, vc9, rfl, oX, hHeld⟩
            case rest =>
              as_aux_lemma =>
                obtain ⟨va9, vc9, rfl, oW, b9⟩ := hcut
                replace b9 : Below w5.heap.size w5 wc := hnq3 ▸ b9
                generalize hwc : wc = w6 at *
                clear hwc hnq3 hl_x7 m_x70 m_x71 m_x72 HT HXX
                replace x3 := x3.next b9
                replace hT := hT.next b9
                replace hV := hV.next b9
                replace hX := hX.next b9
                replace x7 := x7.next b9
                replace oN := oN.next b9
                replace oM := oM.next b9
                replace x8 := x8.next b9
                replace bb := bb.trans (b9.mono bb.size)
                clear b9
                replace oW : OwnB w6 nq3 (.slice va9 M vc9) M Y := oW
                have c71 := x7.cell 1 _ rfl
                have lx8 := x8.lt
                have cx80 := x8.cell 0 _ rfl
                have cx81 := x8.cell 1 _ rfl
                go_wp2_with fail
                refine (bytes_eq (.slice ua M uc) (.slice va9 M vc9) Y _ (by rw [HMY.out]; omega) (holds_of_row oM.row) (holds_of_row oW.row)).mono ?_
                rintro e w7 ⟨rfl, b9⟩
                replace x3 := x3.next b9
                replace hT := hT.next b9
                replace hV := hV.next b9
                replace hX := hX.next b9
                replace x7 := x7.next b9
                replace oN := oN.next b9
                replace oM := oM.next b9
                replace x8 := x8.next b9
                replace oW := oW.next b9
                replace bb := bb.trans (b9.mono bb.size)
                clear b9
                clear cx80 cx81
                clear lx8
                have c30 := x3.cell 0 _ rfl
                have c31 := x3.cell 1 _ rfl
                have g30 := x3.free 0
                have g31 := x3.free 1
                have c80 := x8.cell 0 _ rfl
                have c81 := x8.cell 1 _ rfl
                have l3 := x3.lt
                have l8 := x8.lt
                have x3n := box_set2 x3 (.bool false) (.slice na 0 nc)
                have bbn := below_set2 bb (Nat.le_refl _) (.bool false) (.slice na 0 nc)
                have oNn := row_setNe2 oN.row (row_neOld oN.row H3L.out) (.bool false) (.slice na 0 nc)
                go_wp2
                exact ⟨⟨k + 1, false, [], 0, na, nc, none, 0, hlt, rfl, rfl, by go_num, Nat.zero_le _, (rfl : ([] : List Int).length = 0), (fun _ => rfl), x3n, holds_of_row oNn, (.inl ⟨⟨_, _, rfl, fun _ => rfl⟩, rfl⟩), bbn⟩, by simp [intOf]; omega⟩
        · as_aux_lemma =>
            have f1 : (bits .and .i64 m 1 != 0) = false := (and1_first hm0 hm3).trans hf
            have f2 : (bits .and .i64 m 2 != 0) = false := (and2_last hm0 hm3).trans hl
            skip
            obtain ⟨Y, hY⟩ : ∃ Y, t ++ xs = Y := ⟨_, rfl⟩
            obtain ⟨M, hM⟩ : ∃ M, Y.length = M := ⟨_, rfl⟩
            rw [hY] at hTJ
            have HY : Hid (t ++ xs = Y) := hY
            have HMY : Hid (Y.length = M) := hM
            have hMx : M = n1 + x := by rw [← hM, ← hY, List.length_append, HXL.out, HT1.out]
            have HMX : Hid (M = n1 + x) := hMx
            have hM16 : M ≤ 16 * (k + 1) := by omega
            clear hMx hY hM
            have HTJ : Hid (takeJ (true, t) m xs = ((true, Y), [], false)) := hTJ
            clear hTJ hf hl
            have H3L : Hid (w.heap.size < w3.heap.size) := x3.lt
            have lx3 := x3.lt
            have lx7 := x7.lt
            have cx30 := x3.cell 0 _ rfl
            have cx31 := x3.cell 1 _ rfl
            have cx70 := x7.cell 0 _ rfl
            have cx71 := x7.cell 1 _ rfl
            have cx72 := x7.cell 2 _ rfl
            go_wp2_with fail
            refine (joinTake_at true ta n1 tc s m pa x pc t xs HT1.out HXL.out HTJ.out HE.out HMY.out rfl _ hT hX).mono ?_
            rintro e w4 ⟨na, nc, ua, uc, rfl, oN, oM, hAP, b9⟩
            clear cx30 cx31
            clear cx70 cx71 cx72
            replace x3 := x3.next b9
            replace hT := hT.next b9
            replace hV := hV.next b9
            replace hX := hX.next b9
            replace x7 := x7.next b9
            replace bb := bb.trans (b9.mono bb.size)
            clear b9
            clear lx3 lx7
            replace oN : OwnB w4 w3.heap.size (.slice na M nc) M Y := oN
            replace oM : OwnB w4 w3.heap.size (.slice ua 0 uc) 0 [] := oM
            clear hAP
            have b9 : Below w4.heap.size w4 (w4.alloc (.cells #[.bool true, .slice na M nc] 24)) := (Below.refl _ _).alloc (Nat.le_refl _) _
            have x8 := Box.new w4 24 #[.bool true, .slice na M nc]
            replace x3 := x3.next b9
            replace hT := hT.next b9
            replace hV := hV.next b9
            replace hX := hX.next b9
            replace x7 := x7.next b9
            replace oN := oN.next b9
            replace oM := oM.next b9
            replace bb := bb.trans (b9.mono bb.size)
            clear b9
            go_upto_region 13 with fail
            obtain ⟨B8, hB8⟩ : ∃ B, w4.heap.size = B := ⟨_, rfl⟩
            rw [hB8] at x8 ⊢
            clear hB8
            generalize w4.alloc (.cells #[.bool true, .slice na M nc] 24) = w5 at *
            have c71 := x7.cell 1 _ rfl
            go_upto_region 20 with fail
            clear c71
            obtain ⟨nq4, hnq4⟩ : ∃ n, w5.heap.size = n := ⟨_, rfl⟩
            have hl_x7 : B7 < nq4 := hnq4 ▸ x7.lt
            have m_x70 : Hid (w5.cell? ⟨B7, 0, none⟩ = some (.int .i64 s)) := x7.cell 0 _ rfl
            have m_x71 : Hid (w5.cell? ⟨B7, 1, none⟩ = some (.int .i64 m)) := x7.cell 1 _ rfl
            have m_x72 : Hid (w5.cell? ⟨B7, 2, none⟩ = some (.slice pa x pc)) := x7.cell 2 _ rfl
            have HNQ : Hid (w.heap.size < nq4) := hnq4 ▸ x3.lt
            have HT : Hid (∀ wx : World, Below nq4 w5 wx → Calls Try.prog 7 #[.slice va n1 vc] wx fun e W' => ∃ xa xc, e = .returned (.slice xa n1 xc) ∧ W'.ownsRow wx.heap.size 5 1 (.slice xa n1 xc) n1 ((t : List Int).map (Value.int .u8)) ∧ nq4 ≤ wx.heap.size ∧ Below wx.heap.size wx W') := fun wx hx => by
              refine (twin_any (.slice va n1 vc) t wx.heap.size (by rw [HT1.out]; omega) wx (hV.next (hnq4 ▸ hx))).mono ?_
              rintro e W' ⟨q, rfl, o9, b9⟩
              rw [HT1.out] at o9
              obtain ⟨xa, xc, rfl⟩ := row_shapeJ o9
              exact ⟨xa, xc, rfl, o9, by have := hx.size; omega, b9⟩
            have HXX : Hid (Holds .u8 w5.heap.size w5 (.slice pa x pc) xs) := hX
            go_cut [5] (fun v0 wx => ∃ ua9 uc9, v0 = .slice ua9 M uc9 ∧ wx.ownsRow nq4 5 1 (.slice ua9 M uc9) M (Y.map (Value.int .u8)) ∧ Below nq4 w5 wx)
            case first =>
              as_aux_lemma =>
                have hS : Below nq4 w5 w5.drew := below_drewJ hnq4
                refine wp_region_held_drew (S := fun w' => Below nq4 w5 w') (by kernel_rfl) (hS) (fun hHeld => ?_)
                generalize w5.drew = wk0 at *
                refine ht0 0 71 (v := ?v10) (fun _ => ?y10) hHeld ?_
                case y10 => go_simp; with_reducible rfl
                simp only [sn]
                refine ht0 2 73 (v := ?v11) (fun _ => ?y11) hHeld ?_
                case y11 => go_simp; with_reducible rfl
                simp only [sn]
                refine ht 3 74 (v := ?v12) (fun _ hSw => ?y12) hHeld ?_
                case y12 => have q0 := hSw.at m_x72.out hl_x7; clear hSw; go_simp; with_reducible rfl
                simp only [sn]
                refine wpAnyH_ready (rs := [1]) (by kernel_rfl) (by simp) ?_
                refine AllReadyH.cons rfl (fun K hK => ?_) AllReadyH.nil
                go_simp
                go_wp2_with (go_at_call 7; refine (HT.out _ (by exact hS)).mono ?_; rintro e wk1 ⟨xa, xc, rfl, oX, hqz, b8⟩)
                replace oX := rowK_base oX hqz
                replace hS := hS.trans (b8.mono (by have := hS.size; omega))
                clear b8
                refine hK.out _ _ (hS) (fun hHeld => ?_)
                clear hK K
                refine wpAnyH_ready (rs := [4]) (by kernel_rfl) (by simp) ?_
                refine AllReadyH.cons rfl (fun K hK => ?_) AllReadyH.nil
                obtain ⟨v9, wk2, hr9, o9, g9⟩ := run_append_u8 _ _ n1 _ _ _ _ 22 wk1 oX ((HXX.out.next (hnq4 ▸ hS))) (by have := hS.size; omega) (by omega) (by rw [HXL.out]; omega)
                rw [HXL.out, HY.out, ← HMX.out] at o9
                replace hS := hS.trans ((Below.refl _ _).grown g9 (by have := hS.size; omega) (fun z e => (oX.lt z e).1))
                obtain ⟨va9, vc9, rfl⟩ := row_shapeJ o9
                refine step_append_known rfl _ _ 22 rfl _ _ rfl rfl _ _ hr9 ?_
                simp only [Act.put, List.setIfInBounds_toArray]
                replace oX := o9
                clear hr9 g9 o9
                refine hK.out _ _ (hS) (fun hHeld => ?_)
                clear hK K
                refine wpAnyH_ready (rs := [5]) (by kernel_rfl) (by simp) ?_
                refine AllReadyH.cons rfl (fun K hK => ?_) AllReadyH.nil
                go_simp
                refine hK.out _ _ hHeld (fun hHeld => ?_)
                clear hK K
                refine wpAnyH_done (by kernel_rfl) ?_ _
                go_wp2_with fail
                go_meet
                exact ⟨va9, vc9, rfl, oX, hHeld⟩
            case rest =>
              as_aux_lemma =>
                obtain ⟨va9, vc9, rfl, oW, b9⟩ := hcut
                replace b9 : Below w5.heap.size w5 wc := hnq4 ▸ b9
                generalize hwc : wc = w6 at *
                clear hwc hnq4 hl_x7 m_x70 m_x71 m_x72 HT HXX
                replace x3 := x3.next b9
                replace hT := hT.next b9
                replace hV := hV.next b9
                replace hX := hX.next b9
                replace x7 := x7.next b9
                replace oN := oN.next b9
                replace oM := oM.next b9
                replace x8 := x8.next b9
                replace bb := bb.trans (b9.mono bb.size)
                clear b9
                replace oW : OwnB w6 nq4 (.slice va9 M vc9) M Y := oW
                have c71 := x7.cell 1 _ rfl
                have lx8 := x8.lt
                have cx80 := x8.cell 0 _ rfl
                have cx81 := x8.cell 1 _ rfl
                go_wp2_with fail
                refine (bytes_eq (.slice na M nc) (.slice va9 M vc9) Y _ (by rw [HMY.out]; omega) (holds_of_row oN.row) (holds_of_row oW.row)).mono ?_
                rintro e w7 ⟨rfl, b9⟩
                replace x3 := x3.next b9
                replace hT := hT.next b9
                replace hV := hV.next b9
                replace hX := hX.next b9
                replace x7 := x7.next b9
                replace oN := oN.next b9
                replace oM := oM.next b9
                replace x8 := x8.next b9
                replace oW := oW.next b9
                replace bb := bb.trans (b9.mono bb.size)
                clear b9
                clear cx80 cx81
                clear lx8
                have c30 := x3.cell 0 _ rfl
                have c31 := x3.cell 1 _ rfl
                have g30 := x3.free 0
                have g31 := x3.free 1
                have c80 := x8.cell 0 _ rfl
                have c81 := x8.cell 1 _ rfl
                have l3 := x3.lt
                have l8 := x8.lt
                have x3n := box_set2 x3 (.bool true) (.slice na M nc)
                have bbn := below_set2 bb (Nat.le_refl _) (.bool true) (.slice na M nc)
                have oNn := row_setNe2 oN.row (row_neOld oN.row H3L.out) (.bool true) (.slice na M nc)
                have oWn := row_setNe2 oW.row (row_neOld oW.row HNQ.out) (.bool true) (.slice na M nc)
                go_wp2
                exact ⟨⟨k + 1, true, Y, M, na, nc, va9, vc9, hlt, rfl, rfl, by go_num, hM16, HMY, (fun h => by cases h), x3n, holds_of_row oNn, holds_of_row oWn, bbn⟩, by simp [intOf]; omega⟩

end Go.Proofs.Ytklmiapieaogdaa
