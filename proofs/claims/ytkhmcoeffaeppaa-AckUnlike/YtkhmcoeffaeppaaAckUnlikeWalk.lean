/-
  AckUnlike: the walk: whatever the two acks, the law answers true, and nothing that lay has turned. (Written by tpl_ackexact.py.)
-/
import Derived.Test.YtkhmcoeffaeppaaAckWakes
namespace Go.Proofs.Ytkhmcoeffaeppaa
open Go.RowKit

set_option maxRecDepth 100000 in
set_option maxHeartbeats 4000000 in
theorem ackUnlike_nn (n b n' b' : Int) (_hb0 : 0 ≤ b) (_hb1 : b < 4294967296) (_hb0' : 0 ≤ b') (_hb1' : b' < 4294967296) (hA : aArg n = false) (hB : aArg n' = false) (w : World) :
    Calls Try.prog 7 #[.agg #[.int .i64 n, .int .u32 b], .agg #[.int .i64 n', .int .u32 b']] w fun e w' => e = .returned (.bool true) ∧ Below w.heap.size w w' := by
  have bb : Below w.heap.size w ((w.alloc (.cells #[.int .i64 n, .int .u32 b] 24)).alloc (.cells #[.int .i64 n', .int .u32 b'] 24)) := ((Below.refl w.heap.size w).alloc (Nat.le_refl _) _).alloc (by simp) _
  have xa : Box ((w.alloc (.cells #[.int .i64 n, .int .u32 b] 24)).alloc (.cells #[.int .i64 n', .int .u32 b'] 24)) w.heap.size 24 #[.int .i64 n, .int .u32 b] := (Box.new w _ _).alloc _
  have xb : Box ((w.alloc (.cells #[.int .i64 n, .int .u32 b] 24)).alloc (.cells #[.int .i64 n', .int .u32 b'] 24)) (w.heap.size + 1) 24 #[.int .i64 n', .int .u32 b'] := by
    have := Box.new (w.alloc (.cells #[.int .i64 n, .int .u32 b] 24)) 24 #[.int .i64 n', .int .u32 b']
    simpa using this
  go_enter Try.func7, Try.ntmps7
  have cxa0 := xa.cell 0 _ rfl
  have cxa1 := xa.cell 1 _ rfl
  go_wp2_with fail
  refine (AckMake_no n b hA _).mono ?_
  rintro e w1 ⟨rfl, b9⟩
  clear cxa0 cxa1
  replace xa := xa.next b9
  replace xb := xb.next b9
  replace bb := bb.trans (b9.mono bb.size)
  clear b9
  have cxb0 := xb.cell 0 _ rfl
  have cxb1 := xb.cell 1 _ rfl
  go_wp2_with fail
  refine (AckMake_no n' b' hB _).mono ?_
  rintro e w2 ⟨rfl, b9⟩
  clear cxb0 cxb1
  replace xa := xa.next b9
  replace xb := xb.next b9
  replace bb := bb.trans (b9.mono bb.size)
  clear b9
  have HWK := ackWakes_any w2
  go_wp2_with (go_at_call 11; refine HWK.mono ?_; rintro e w99 ⟨rfl, b99⟩)
  go_ret
  exact ⟨rfl, bb.trans (b99.mono bb.size)⟩

set_option maxRecDepth 100000 in
set_option maxHeartbeats 4000000 in
theorem ackUnlike_ny (n b n' b' : Int) (_hb0 : 0 ≤ b) (_hb1 : b < 4294967296) (hb0' : 0 ≤ b') (hb1' : b' < 4294967296) (hA : aArg n = false) (h0' : 0 ≤ n') (h1' : n' ≤ 1073741824) (w : World) :
    Calls Try.prog 7 #[.agg #[.int .i64 n, .int .u32 b], .agg #[.int .i64 n', .int .u32 b']] w fun e w' => e = .returned (.bool true) ∧ Below w.heap.size w w' := by
  have bb : Below w.heap.size w ((w.alloc (.cells #[.int .i64 n, .int .u32 b] 24)).alloc (.cells #[.int .i64 n', .int .u32 b'] 24)) := ((Below.refl w.heap.size w).alloc (Nat.le_refl _) _).alloc (by simp) _
  have xa : Box ((w.alloc (.cells #[.int .i64 n, .int .u32 b] 24)).alloc (.cells #[.int .i64 n', .int .u32 b'] 24)) w.heap.size 24 #[.int .i64 n, .int .u32 b] := (Box.new w _ _).alloc _
  have xb : Box ((w.alloc (.cells #[.int .i64 n, .int .u32 b] 24)).alloc (.cells #[.int .i64 n', .int .u32 b'] 24)) (w.heap.size + 1) 24 #[.int .i64 n', .int .u32 b'] := by
    have := Box.new (w.alloc (.cells #[.int .i64 n, .int .u32 b] 24)) 24 #[.int .i64 n', .int .u32 b']
    simpa using this
  go_enter Try.func7, Try.ntmps7
  have cxa0 := xa.cell 0 _ rfl
  have cxa1 := xa.cell 1 _ rfl
  go_wp2_with fail
  refine (AckMake_no n b hA _).mono ?_
  rintro e w1 ⟨rfl, b9⟩
  clear cxa0 cxa1
  replace xa := xa.next b9
  replace xb := xb.next b9
  replace bb := bb.trans (b9.mono bb.size)
  clear b9
  have cxb0 := xb.cell 0 _ rfl
  have cxb1 := xb.cell 1 _ rfl
  go_wp2_with fail
  refine (AckMake_ok n' b' h0' h1' hb0' hb1' _).mono ?_
  rintro e w2 ⟨q, rfl, o9, b9⟩
  clear cxb0 cxb1
  replace xa := xa.next b9
  replace xb := xb.next b9
  replace bb := bb.trans (b9.mono bb.size)
  clear b9
  obtain ⟨qa, qc, rfl⟩ := row_shapeA o9
  clear o9
  have HWK := ackWakes_any w2
  go_wp2_with (go_at_call 11; refine HWK.mono ?_; rintro e w99 ⟨rfl, b99⟩)
  go_ret
  exact ⟨rfl, bb.trans (b99.mono bb.size)⟩

set_option maxRecDepth 100000 in
set_option maxHeartbeats 4000000 in
theorem ackUnlike_yn (n b n' b' : Int) (hb0 : 0 ≤ b) (hb1 : b < 4294967296) (_hb0' : 0 ≤ b') (_hb1' : b' < 4294967296) (h0 : 0 ≤ n) (h1 : n ≤ 1073741824) (hB : aArg n' = false) (w : World) :
    Calls Try.prog 7 #[.agg #[.int .i64 n, .int .u32 b], .agg #[.int .i64 n', .int .u32 b']] w fun e w' => e = .returned (.bool true) ∧ Below w.heap.size w w' := by
  have bb : Below w.heap.size w ((w.alloc (.cells #[.int .i64 n, .int .u32 b] 24)).alloc (.cells #[.int .i64 n', .int .u32 b'] 24)) := ((Below.refl w.heap.size w).alloc (Nat.le_refl _) _).alloc (by simp) _
  have xa : Box ((w.alloc (.cells #[.int .i64 n, .int .u32 b] 24)).alloc (.cells #[.int .i64 n', .int .u32 b'] 24)) w.heap.size 24 #[.int .i64 n, .int .u32 b] := (Box.new w _ _).alloc _
  have xb : Box ((w.alloc (.cells #[.int .i64 n, .int .u32 b] 24)).alloc (.cells #[.int .i64 n', .int .u32 b'] 24)) (w.heap.size + 1) 24 #[.int .i64 n', .int .u32 b'] := by
    have := Box.new (w.alloc (.cells #[.int .i64 n, .int .u32 b] 24)) 24 #[.int .i64 n', .int .u32 b']
    simpa using this
  go_enter Try.func7, Try.ntmps7
  have cxa0 := xa.cell 0 _ rfl
  have cxa1 := xa.cell 1 _ rfl
  go_wp2_with fail
  refine (AckMake_ok n b h0 h1 hb0 hb1 _).mono ?_
  rintro e w1 ⟨p, rfl, o9, b9⟩
  clear cxa0 cxa1
  replace xa := xa.next b9
  replace xb := xb.next b9
  replace bb := bb.trans (b9.mono bb.size)
  clear b9
  obtain ⟨pa, pc, rfl⟩ := row_shapeA o9
  clear o9
  have cxb0 := xb.cell 0 _ rfl
  have cxb1 := xb.cell 1 _ rfl
  go_wp2_with fail
  refine (AckMake_no n' b' hB _).mono ?_
  rintro e w2 ⟨rfl, b9⟩
  clear cxb0 cxb1
  replace xa := xa.next b9
  replace xb := xb.next b9
  replace bb := bb.trans (b9.mono bb.size)
  clear b9
  have HWK := ackWakes_any w2
  go_wp2_with (go_at_call 11; refine HWK.mono ?_; rintro e w99 ⟨rfl, b99⟩)
  go_ret
  exact ⟨rfl, bb.trans (b99.mono bb.size)⟩

set_option maxRecDepth 100000 in
set_option maxHeartbeats 4000000 in
theorem ackUnlike_ok (n b n' b' : Int) (hb0 : 0 ≤ b) (hb1 : b < 4294967296) (hb0' : 0 ≤ b') (hb1' : b' < 4294967296) (h0 : 0 ≤ n) (h1 : n ≤ 1073741824) (h0' : 0 ≤ n') (h1' : n' ≤ 1073741824) (w : World) :
    Calls Try.prog 7 #[.agg #[.int .i64 n, .int .u32 b], .agg #[.int .i64 n', .int .u32 b']] w fun e w' => e = .returned (.bool true) ∧ Below w.heap.size w w' := by
  have bb : Below w.heap.size w ((w.alloc (.cells #[.int .i64 n, .int .u32 b] 24)).alloc (.cells #[.int .i64 n', .int .u32 b'] 24)) := ((Below.refl w.heap.size w).alloc (Nat.le_refl _) _).alloc (by simp) _
  have xa : Box ((w.alloc (.cells #[.int .i64 n, .int .u32 b] 24)).alloc (.cells #[.int .i64 n', .int .u32 b'] 24)) w.heap.size 24 #[.int .i64 n, .int .u32 b] := (Box.new w _ _).alloc _
  have xb : Box ((w.alloc (.cells #[.int .i64 n, .int .u32 b] 24)).alloc (.cells #[.int .i64 n', .int .u32 b'] 24)) (w.heap.size + 1) 24 #[.int .i64 n', .int .u32 b'] := by
    have := Box.new (w.alloc (.cells #[.int .i64 n, .int .u32 b] 24)) 24 #[.int .i64 n', .int .u32 b']
    simpa using this
  go_enter Try.func7, Try.ntmps7
  have cxa0 := xa.cell 0 _ rfl
  have cxa1 := xa.cell 1 _ rfl
  go_wp2_with fail
  refine (AckMake_ok n b h0 h1 hb0 hb1 _).mono ?_
  rintro e w1 ⟨p, rfl, o9, b9⟩
  clear cxa0 cxa1
  replace xa := xa.next b9
  replace xb := xb.next b9
  replace bb := bb.trans (b9.mono bb.size)
  clear b9
  obtain ⟨pa, pc, rfl⟩ := row_shapeA o9
  have hx := holds_of_row o9
  clear o9
  have cxb0 := xb.cell 0 _ rfl
  have cxb1 := xb.cell 1 _ rfl
  go_wp2_with fail
  refine (AckMake_ok n' b' h0' h1' hb0' hb1' _).mono ?_
  rintro e w2 ⟨q, rfl, o9, b9⟩
  clear cxb0 cxb1
  replace xa := xa.next b9
  replace xb := xb.next b9
  replace hx := hx.next b9
  replace bb := bb.trans (b9.mono bb.size)
  clear b9
  obtain ⟨qa, qc, rfl⟩ := row_shapeA o9
  have hy := holds_of_row o9
  clear o9
  have HK : Hid (decide (packA n b = packA n' b') = decide (n = n' ∧ b = b')) := by
    show decide (packA n b = packA n' b') = decide (n = n' ∧ b = b')
    by_cases h : n = n' ∧ b = b'
    · obtain ⟨rfl, rfl⟩ := h
      simp
    · rw [decide_eq_false h, decide_eq_false (fun e => h (packA_inj h0 h1 hb0 hb1 h0' h1' hb0' hb1' e))]
  obtain ⟨D, hD⟩ : ∃ D, decide (n = n' ∧ b = b') = D := ⟨_, rfl⟩
  have HD : Hid (decide (n = n' ∧ b = b') = D) := hD
  have dD : (D == D) = true := by simp
  have HCY : Hid (∀ wx : World, Below w2.heap.size w2 wx → Calls Try.prog 12 #[.slice pa 13 pc, .slice qa 13 qc] wx fun e w' => e = .returned (.bool D) ∧ Below w2.heap.size w2 w') := fun wx hw => by
    have := bytes_any (.slice pa 13 pc) (.slice qa 13 qc) (packA n b) (packA n' b') _ _ wx (by rw [packA_len]; omega) (hx.below hw) (hy.below hw)
    rw [HK.out, HD.out] at this
    exact this.mono fun e w' ⟨h, q, hq⟩ => ⟨h, by rw [hq]; exact below_drewN hw q⟩
  have HCB : Hid (∀ wx : World, Below w2.heap.size w2 wx → Calls Try.prog 15 #[.agg #[.int .i64 n, .int .u32 b], .agg #[.int .i64 n', .int .u32 b']] wx fun e w' => e = .returned (.bool D) ∧ Below w2.heap.size w2 w') := fun wx hw => by
    have := keepAck_any n n' b b' wx
    rw [HD.out] at this
    exact this.mono fun e w' ⟨h, b⟩ => ⟨h, hw.trans (b.mono hw.size)⟩
  clear hD
  have HWK : Hid (∀ wx : World, Below w2.heap.size w2 wx → Calls Try.prog 11 #[] wx fun e w' => e = .returned (.bool true) ∧ Below w2.heap.size w2 w') := fun wx hw => (ackWakes_any wx).mono fun e w' ⟨h, b⟩ => ⟨h, hw.trans (b.mono hw.size)⟩
  have cxa0 := xa.cell 0 _ rfl
  have cxa1 := xa.cell 1 _ rfl
  have cxb0 := xb.cell 0 _ rfl
  have cxb1 := xb.cell 1 _ rfl
  have hlta := xa.lt
  have hltb := xb.lt
  go_wp2
  refine wp_region_held_drew (S := fun w' => Below w2.heap.size w2 w') (by kernel_rfl) ((Below.refl _ _).drew) (fun hHeld => ?_)
  refine held_take (i := 0) (d := 52) (v := ?v9) rfl rfl (by kernel_rfl) (by kernel_rfl) (by kernel_rfl) (fun _ _ _ h => h) (Or.inl ⟨by kernel_rfl, ?hy9⟩) hHeld ?rest9
  case hy9 =>
    intro wx hSw
    clear hSw
    go_simp
    with_reducible rfl
  simp only [List.setIfInBounds_toArray, List.set_cons_zero, List.set_cons_succ]
  refine held_take (i := 1) (d := 53) (v := ?v10) rfl rfl (by kernel_rfl) (by kernel_rfl) (by kernel_rfl) (fun _ _ _ h => h) (Or.inl ⟨by kernel_rfl, ?hy10⟩) hHeld ?rest10
  case hy10 =>
    intro wx hSw
    clear hSw
    go_simp
    with_reducible rfl
  simp only [List.setIfInBounds_toArray, List.set_cons_zero, List.set_cons_succ]
  refine held_take (i := 2) (d := 54) (v := ?v11) rfl rfl (by kernel_rfl) (by kernel_rfl) (by kernel_rfl) (fun _ _ _ h => h) (Or.inl ⟨by kernel_rfl, ?hy11⟩) hHeld ?rest11
  case hy11 =>
    intro wx hSw
    clear hSw
    go_simp
    with_reducible rfl
  simp only [List.setIfInBounds_toArray, List.set_cons_zero, List.set_cons_succ]
  refine held_take (i := 3) (d := 55) (v := ?v12) rfl rfl (by kernel_rfl) (by kernel_rfl) (by kernel_rfl) (fun _ _ _ h => h) (Or.inl ⟨by kernel_rfl, ?hy12⟩) hHeld ?rest12
  case hy12 =>
    intro wx hSw
    clear hSw
    go_simp
    with_reducible rfl
  simp only [List.setIfInBounds_toArray, List.set_cons_zero, List.set_cons_succ]
  refine held_take (i := 4) (d := 56) (v := ?v13) rfl rfl (by kernel_rfl) (by kernel_rfl) (by kernel_rfl) (fun _ _ _ h => h) (Or.inl ⟨by kernel_rfl, ?hy13⟩) hHeld ?rest13
  case hy13 =>
    intro wx hSw
    clear hSw
    go_simp
    with_reducible rfl
  simp only [List.setIfInBounds_toArray, List.set_cons_zero, List.set_cons_succ]
  refine held_take (i := 5) (d := 57) (v := ?v14) rfl rfl (by kernel_rfl) (by kernel_rfl) (by kernel_rfl) (fun _ _ _ h => h) (Or.inl ⟨by kernel_rfl, ?hy14⟩) hHeld ?rest14
  case hy14 =>
    intro wx hSw
    clear hSw
    go_simp
    with_reducible rfl
  simp only [List.setIfInBounds_toArray, List.set_cons_zero, List.set_cons_succ]
  refine held_take (i := 6) (d := 58) (v := ?v15) rfl rfl (by kernel_rfl) (by kernel_rfl) (by kernel_rfl) (fun _ _ _ h => h) (Or.inl ⟨by kernel_rfl, ?hy15⟩) hHeld ?rest15
  case hy15 =>
    intro wx hSw
    clear hSw
    go_simp
    with_reducible rfl
  simp only [List.setIfInBounds_toArray, List.set_cons_zero, List.set_cons_succ]
  refine held_take (i := 7) (d := 59) (v := ?v16) rfl rfl (by kernel_rfl) (by kernel_rfl) (by kernel_rfl) (fun _ _ _ h => h) (Or.inl ⟨by kernel_rfl, ?hy16⟩) hHeld ?rest16
  case hy16 =>
    intro wx hSw
    clear hSw
    go_simp
    with_reducible rfl
  simp only [List.setIfInBounds_toArray, List.set_cons_zero, List.set_cons_succ]
  refine held_take (i := 8) (d := 60) (v := ?v17) rfl rfl (by kernel_rfl) (by kernel_rfl) (by kernel_rfl) (fun _ _ _ h => h) (Or.inl ⟨by kernel_rfl, ?hy17⟩) hHeld ?rest17
  case hy17 =>
    intro wx hSw
    clear hSw
    go_simp
    with_reducible rfl
  simp only [List.setIfInBounds_toArray, List.set_cons_zero, List.set_cons_succ]
  refine held_take (i := 9) (d := 61) (v := ?v18) rfl rfl (by kernel_rfl) (by kernel_rfl) (by kernel_rfl) (fun _ _ _ h => h) (Or.inl ⟨by kernel_rfl, ?hy18⟩) hHeld ?rest18
  case hy18 =>
    intro wx hSw
    clear hSw
    go_simp
    with_reducible rfl
  simp only [List.setIfInBounds_toArray, List.set_cons_zero, List.set_cons_succ]
  refine held_take (i := 10) (d := 62) (v := ?v19) rfl rfl (by kernel_rfl) (by kernel_rfl) (by kernel_rfl) (fun _ _ _ h => h) (Or.inl ⟨by kernel_rfl, ?hy19⟩) hHeld ?rest19
  case hy19 =>
    intro wx hSw
    clear hSw
    go_simp
    with_reducible rfl
  simp only [List.setIfInBounds_toArray, List.set_cons_zero, List.set_cons_succ]
  refine held_take (i := 12) (d := 64) (v := ?v20) rfl rfl (by kernel_rfl) (by kernel_rfl) (by kernel_rfl) (fun _ _ _ h => h) (Or.inl ⟨by kernel_rfl, ?hy20⟩) hHeld ?rest20
  case hy20 =>
    intro wx hSw
    have q0 := (hSw.cell (p := ⟨w.heap.size, 0, none⟩) hlta).trans cxa0
    have q1 := (hSw.cell (p := ⟨w.heap.size, 1, none⟩) hlta).trans cxa1
    clear hSw
    go_simp
    with_reducible rfl
  simp only [List.setIfInBounds_toArray, List.set_cons_zero, List.set_cons_succ]
  refine held_take (i := 13) (d := 65) (v := ?v21) rfl rfl (by kernel_rfl) (by kernel_rfl) (by kernel_rfl) (fun _ _ _ h => h) (Or.inl ⟨by kernel_rfl, ?hy21⟩) hHeld ?rest21
  case hy21 =>
    intro wx hSw
    have q0 := (hSw.cell (p := ⟨w.heap.size + 1, 0, none⟩) hltb).trans cxb0
    have q1 := (hSw.cell (p := ⟨w.heap.size + 1, 1, none⟩) hltb).trans cxb1
    clear hSw
    go_simp
    with_reducible rfl
  simp only [List.setIfInBounds_toArray, List.set_cons_zero, List.set_cons_succ]
  refine wpAnyH_ready (rs := [11]) (by kernel_rfl) (by simp) ?_
  refine AllReadyH.cons rfl (fun K hK => ?_) AllReadyH.nil
  go_simp
  go_wp2_with (go_at_call 12; refine (HCY.out _ (by exact hHeld)).mono ?_; rintro e wb ⟨rfl, b8⟩)
  refine hK.out _ _ (b8) (fun hHeld => ?_)
  clear hK K
  refine wpAnyH_ready (rs := [14]) (by kernel_rfl) (by simp) ?_
  refine AllReadyH.cons rfl (fun K hK => ?_) AllReadyH.nil
  go_simp
  go_wp2_with (go_at_call 15; refine (HCB.out _ (by exact hHeld)).mono ?_; rintro e wb ⟨rfl, b8⟩)
  refine hK.out _ _ (b8) (fun hHeld => ?_)
  clear hK K
  refine held_take (i := 15) (d := 67) (v := ?v22) rfl rfl (by kernel_rfl) (by kernel_rfl) (by kernel_rfl) (fun _ _ _ h => h) (Or.inl ⟨by kernel_rfl, ?hy22⟩) hHeld ?rest22
  case hy22 =>
    intro wx hSw
    clear hSw
    go_simp
    with_reducible rfl
  simp only [List.setIfInBounds_toArray, List.set_cons_zero, List.set_cons_succ]
  refine held_take (i := 16) (d := 68) (v := ?v23) rfl rfl (by kernel_rfl) (by kernel_rfl) (by kernel_rfl) (fun _ _ _ h => h) (Or.inl ⟨by kernel_rfl, ?hy23⟩) hHeld ?rest23
  case hy23 =>
    intro wx hSw
    clear hSw
    go_simp
    with_reducible rfl
  simp only [List.setIfInBounds_toArray, List.set_cons_zero, List.set_cons_succ]
  refine held_take (i := 17) (d := 69) (v := ?v24) rfl rfl (by kernel_rfl) (by kernel_rfl) (by kernel_rfl) (fun _ _ _ h => h) (Or.inl ⟨by kernel_rfl, ?hy24⟩) hHeld ?rest24
  case hy24 =>
    intro wx hSw
    clear hSw
    go_simp
    with_reducible rfl
  simp only [List.setIfInBounds_toArray, List.set_cons_zero, List.set_cons_succ]
  refine wpAnyH_ready (rs := [18]) (by kernel_rfl) (by simp) ?_
  refine AllReadyH.cons rfl (fun K hK => ?_) AllReadyH.nil
  go_simp
  go_wp2_with (go_at_call 11; refine (HWK.out _ (by exact hHeld)).mono ?_; rintro e wb ⟨rfl, b8⟩)
  refine hK.out _ _ (b8) (fun hHeld => ?_)
  clear hK K
  refine held_take (i := 19) (d := 71) (v := ?v25) rfl rfl (by kernel_rfl) (by kernel_rfl) (by kernel_rfl) (fun _ _ _ h => h) (Or.inl ⟨by kernel_rfl, ?hy25⟩) hHeld ?rest25
  case hy25 =>
    intro wx hSw
    clear hSw
    go_simp
    with_reducible rfl
  simp only [List.setIfInBounds_toArray, List.set_cons_zero, List.set_cons_succ]
  refine wpAnyH_ready (rs := [20]) (by kernel_rfl) (by simp) ?_
  refine AllReadyH.cons rfl (fun K hK => ?_) AllReadyH.nil
  go_simp
  refine hK.out _ _ hHeld (fun hHeld => ?_)
  clear hK K
  refine wpAnyH_done (by kernel_rfl) ?_ _
  go_wp2
  go_ret
  exact ⟨rfl, bb.trans (hHeld.mono bb.size)⟩

/-- The law, of whatever acks. -/
theorem ackUnlike_walk (n b n' b' : Int) (w : World) (h2 : (Lit.int .u32 b).wf = true) (h4 : (Lit.int .u32 b').wf = true) :
    Calls Try.prog 7 #[.agg #[.int .i64 n, .int .u32 b], .agg #[.int .i64 n', .int .u32 b']] w fun e w' => e = .returned (.bool true) ∧ Below w.heap.size w w' := by
  have h2 := bounds_u32 h2
  have h4 := bounds_u32 h4
  cases hA : aArg n with
  | false =>
    cases hB : aArg n' with
    | false => exact ackUnlike_nn n b n' b' h2.1 (by omega) h4.1 (by omega) hA hB w
    | true =>
      have h := (aArg_iff n').1 hB
      exact ackUnlike_ny n b n' b' h2.1 (by omega) h4.1 (by omega) hA h.1 h.2 w
  | true =>
    have g := (aArg_iff n).1 hA
    cases hB : aArg n' with
    | false => exact ackUnlike_yn n b n' b' h2.1 (by omega) h4.1 (by omega) g.1 g.2 hB w
    | true =>
      have h := (aArg_iff n').1 hB
      exact ackUnlike_ok n b n' b' h2.1 (by omega) h4.1 (by omega) g.1 g.2 h.1 h.2 w

end Go.Proofs.Ytkhmcoeffaeppaa
