/-
  AckExact: the walk: whatever the ack and the number, the law answers true, and nothing that lay has turned. (Written by tpl_ackexact.py.)
-/
import Derived.Test.YtkhmcoeffaeppaaAckWakes
import Derived.Deep.Cut
import Derived.Deep.CutRange
import Derived.Deep.DeepCutAuto
namespace Go.Proofs.Ytkhmcoeffaeppaa
open Go.RowKit

set_option maxRecDepth 100000 in
set_option maxHeartbeats 4000000 in
theorem ackExact_no (n : Int) (b : Nat) (q : Int) (hn : -9223372036854775808 ≤ n ∧ n ≤ 9223372036854775807) (hq : -9223372036854775808 ≤ q ∧ q ≤ 9223372036854775807) (hb : b < 4294967296) (hA : aArg n = false) (w : World) :
    Calls Try.prog 3 #[.agg #[.int .i64 n, .int .u32 (b : Int)], .int .i64 q] w fun e w' => e = .returned (.bool true) ∧ Below w.heap.size w w' := by
  have bb : Below w.heap.size w (w.alloc (.cells #[.int .i64 n, .int .u32 (b : Int)] 24)) := (Below.refl w.heap.size w).alloc (Nat.le_refl _) _
  have xa := Box.new w 24 #[.int .i64 n, .int .u32 (b : Int)]
  go_enter Try.func3, Try.ntmps3
  have cxa0 := xa.cell 0 _ rfl
  have cxa1 := xa.cell 1 _ rfl
  go_wp2_with fail
  refine (AckMake_no n (b : Int) hA _).mono ?_
  rintro e w1 ⟨rfl, b9⟩
  clear cxa0 cxa1
  replace xa := xa.next b9
  replace bb := bb.trans (b9.mono bb.size)
  clear b9
  obtain ⟨D, hD⟩ : ∃ D, hasA n b q = D := ⟨_, rfl⟩
  have dD : (D != D) = false := by simp
  have HH : Hid (∀ wx : World, Below w1.heap.size w1 wx → Calls Try.prog 9 #[.agg #[.int .i64 n, .int .u32 (b : Int)], .int .i64 q] wx fun e w' => e = .returned (.bool D) ∧ Below w1.heap.size w1 w') := fun wx hw => by
    have := AckHas_any n b q hn hq hb wx
    rw [hD] at this
    exact this.mono fun e w' ⟨h, b⟩ => ⟨h, hw.trans (b.mono hw.size)⟩
  have HG : Hid (∀ wx : World, Below w1.heap.size w1 wx → Calls Try.prog 10 #[.agg #[.int .i64 n, .int .u32 (b : Int)], .int .i64 q] wx fun e w' => e = .returned (.bool D) ∧ Below w1.heap.size w1 w') := fun wx hw => by
    have := refHas_any n b q hq.2 hb wx
    rw [hD] at this
    exact this.mono fun e w' ⟨h, b⟩ => ⟨h, hw.trans (b.mono hw.size)⟩
  clear hD
  have cxa0 := xa.cell 0 _ rfl
  have cxa1 := xa.cell 1 _ rfl
  have hlta := xa.lt
  go_wp2
  go_cut [19] (fun v wx => v = .bool false ∧ Below w1.heap.size w1 wx)
  case first =>
    refine wp_region_held_drew (S := fun w' => Below w1.heap.size w1 w') (by kernel_rfl) ((Below.refl _ _).drew) (fun hHeld => ?_)
    refine held_take (i := 0) (d := 13) (v := ?v1) rfl rfl (by kernel_rfl) (by kernel_rfl) (by kernel_rfl) (fun _ _ _ h => h) (Or.inl ⟨by kernel_rfl, ?hy1⟩) hHeld ?rest1
    case hy1 =>
      intro wx hSw
      have q0 := (hSw.cell (p := ⟨w.heap.size, 0, none⟩) hlta).trans cxa0
      have q1 := (hSw.cell (p := ⟨w.heap.size, 1, none⟩) hlta).trans cxa1
      clear hSw
      go_simp
      with_reducible rfl
    simp only [List.setIfInBounds_toArray, List.set_cons_zero, List.set_cons_succ]
    refine held_take (i := 1) (d := 14) (v := ?v2) rfl rfl (by kernel_rfl) (by kernel_rfl) (by kernel_rfl) (fun _ _ _ h => h) (Or.inl ⟨by kernel_rfl, ?hy2⟩) hHeld ?rest2
    case hy2 =>
      intro wx hSw
      clear hSw
      go_simp
      with_reducible rfl
    simp only [List.setIfInBounds_toArray, List.set_cons_zero, List.set_cons_succ]
    refine held_take (i := 3) (d := 16) (v := ?v3) rfl rfl (by kernel_rfl) (by kernel_rfl) (by kernel_rfl) (fun _ _ _ h => h) (Or.inl ⟨by kernel_rfl, ?hy3⟩) hHeld ?rest3
    case hy3 =>
      intro wx hSw
      have q0 := (hSw.cell (p := ⟨w.heap.size, 0, none⟩) hlta).trans cxa0
      have q1 := (hSw.cell (p := ⟨w.heap.size, 1, none⟩) hlta).trans cxa1
      clear hSw
      go_simp
      with_reducible rfl
    simp only [List.setIfInBounds_toArray, List.set_cons_zero, List.set_cons_succ]
    refine held_take (i := 4) (d := 17) (v := ?v4) rfl rfl (by kernel_rfl) (by kernel_rfl) (by kernel_rfl) (fun _ _ _ h => h) (Or.inl ⟨by kernel_rfl, ?hy4⟩) hHeld ?rest4
    case hy4 =>
      intro wx hSw
      clear hSw
      go_simp
      with_reducible rfl
    simp only [List.setIfInBounds_toArray, List.set_cons_zero, List.set_cons_succ]
    refine wpAnyH_ready (rs := [2]) (by kernel_rfl) (by simp) ?_
    refine AllReadyH.cons rfl (fun K hK => ?_) AllReadyH.nil
    go_simp
    go_wp2_with (go_at_call 9; refine (HH.out _ (by exact hHeld)).mono ?_; rintro e wb ⟨rfl, b8⟩)
    refine hK.out _ _ (b8) (fun hHeld => ?_)
    clear hK K
    refine wpAnyH_ready (rs := [5]) (by kernel_rfl) (by simp) ?_
    refine AllReadyH.cons rfl (fun K hK => ?_) AllReadyH.nil
    go_simp
    go_wp2_with (go_at_call 10; refine (HG.out _ (by exact hHeld)).mono ?_; rintro e wb ⟨rfl, b8⟩)
    refine hK.out _ _ (b8) (fun hHeld => ?_)
    clear hK K
    refine wpAnyH_ready (rs := [6]) (by kernel_rfl) (by simp) ?_
    refine AllReadyH.cons rfl (fun K hK => ?_) AllReadyH.nil
    go_simp
    refine hK.out _ _ hHeld (fun hHeld => ?_)
    clear hK K
    refine wpAnyH_done (by kernel_rfl) ?_ _
    go_wp2_with fail
    go_meet
    exact ⟨rfl, hHeld⟩
  case rest =>
    obtain ⟨rfl, b9⟩ := hcut
    clear HH HG
    clear cxa0 cxa1
    replace xa := xa.next b9
    replace bb := bb.trans (b9.mono bb.size)
    clear b9 hlta
    generalize wc = w2 at *
    have cxa0 := xa.cell 0 _ rfl
    have cxa1 := xa.cell 1 _ rfl
    have HWK := ackWakes_any w2
    by_cases hn0 : n < 0
    · have d1 : decide (n < 0) = true := decide_eq_true hn0
      go_wp2_with (go_at_call 11; refine HWK.mono ?_; rintro e w99 ⟨rfl, b99⟩)
      go_ret
      exact ⟨rfl, bb.trans (b99.mono bb.size)⟩
    · have d1 : decide (n < 0) = false := decide_eq_false hn0
      have d2 : decide (1073741824 < n) = true := decide_eq_true (by have := aArg_iff n; rw [hA] at this; simp at this; omega)
      go_wp2_with (go_at_call 11; refine HWK.mono ?_; rintro e w99 ⟨rfl, b99⟩)
      go_ret
      exact ⟨rfl, bb.trans (b99.mono bb.size)⟩

set_option maxRecDepth 100000 in
set_option maxHeartbeats 4000000 in
theorem ackExact_ok (n : Int) (b : Nat) (q : Int) (hn : -9223372036854775808 ≤ n ∧ n ≤ 9223372036854775807) (hq : -9223372036854775808 ≤ q ∧ q ≤ 9223372036854775807) (hb : b < 4294967296) (h0 : 0 ≤ n) (h1 : n ≤ 1073741824) (w : World) :
    Calls Try.prog 3 #[.agg #[.int .i64 n, .int .u32 (b : Int)], .int .i64 q] w fun e w' => e = .returned (.bool true) ∧ Below w.heap.size w w' := by
  have bb : Below w.heap.size w (w.alloc (.cells #[.int .i64 n, .int .u32 (b : Int)] 24)) := (Below.refl w.heap.size w).alloc (Nat.le_refl _) _
  have xa := Box.new w 24 #[.int .i64 n, .int .u32 (b : Int)]
  have d1 : decide (n < 0) = false := decide_eq_false (by omega)
  have d2 : decide (1073741824 < n) = false := decide_eq_false (by omega)
  have hb' : (b : Int) < 4294967296 := by omega
  go_enter Try.func3, Try.ntmps3
  have cxa0 := xa.cell 0 _ rfl
  have cxa1 := xa.cell 1 _ rfl
  go_wp2_with fail
  refine (AckMake_ok n (b : Int) h0 h1 (by omega) hb' _).mono ?_
  rintro e w1 ⟨q1, rfl, o9, b9⟩
  clear cxa0 cxa1
  replace xa := xa.next b9
  replace bb := bb.trans (b9.mono bb.size)
  clear b9
  obtain ⟨qa, qc, rfl⟩ := row_shapeA o9
  have hqq := holds_of_row o9
  have hqc := row_cap o9
  clear o9
  obtain ⟨D, hD⟩ : ∃ D, hasA n b q = D := ⟨_, rfl⟩
  have dD : (D != D) = false := by simp
  have HH : Hid (∀ wx : World, Below w1.heap.size w1 wx → Calls Try.prog 9 #[.agg #[.int .i64 n, .int .u32 (b : Int)], .int .i64 q] wx fun e w' => e = .returned (.bool D) ∧ Below w1.heap.size w1 w') := fun wx hw => by
    have := AckHas_any n b q hn hq hb wx
    rw [hD] at this
    exact this.mono fun e w' ⟨h, b⟩ => ⟨h, hw.trans (b.mono hw.size)⟩
  have HG : Hid (∀ wx : World, Below w1.heap.size w1 wx → Calls Try.prog 10 #[.agg #[.int .i64 n, .int .u32 (b : Int)], .int .i64 q] wx fun e w' => e = .returned (.bool D) ∧ Below w1.heap.size w1 w') := fun wx hw => by
    have := refHas_any n b q hq.2 hb wx
    rw [hD] at this
    exact this.mono fun e w' ⟨h, b⟩ => ⟨h, hw.trans (b.mono hw.size)⟩
  clear hD
  have cxa0 := xa.cell 0 _ rfl
  have cxa1 := xa.cell 1 _ rfl
  have hlta := xa.lt
  go_wp2
  go_cut [19] (fun v wx => v = .bool false ∧ Below w1.heap.size w1 wx)
  case first =>
    refine wp_region_held_drew (S := fun w' => Below w1.heap.size w1 w') (by kernel_rfl) ((Below.refl _ _).drew) (fun hHeld => ?_)
    refine held_take (i := 0) (d := 13) (v := ?v5) rfl rfl (by kernel_rfl) (by kernel_rfl) (by kernel_rfl) (fun _ _ _ h => h) (Or.inl ⟨by kernel_rfl, ?hy5⟩) hHeld ?rest5
    case hy5 =>
      intro wx hSw
      have q0 := (hSw.cell (p := ⟨w.heap.size, 0, none⟩) hlta).trans cxa0
      have q1 := (hSw.cell (p := ⟨w.heap.size, 1, none⟩) hlta).trans cxa1
      clear hSw
      go_simp
      with_reducible rfl
    simp only [List.setIfInBounds_toArray, List.set_cons_zero, List.set_cons_succ]
    refine held_take (i := 1) (d := 14) (v := ?v6) rfl rfl (by kernel_rfl) (by kernel_rfl) (by kernel_rfl) (fun _ _ _ h => h) (Or.inl ⟨by kernel_rfl, ?hy6⟩) hHeld ?rest6
    case hy6 =>
      intro wx hSw
      clear hSw
      go_simp
      with_reducible rfl
    simp only [List.setIfInBounds_toArray, List.set_cons_zero, List.set_cons_succ]
    refine held_take (i := 3) (d := 16) (v := ?v7) rfl rfl (by kernel_rfl) (by kernel_rfl) (by kernel_rfl) (fun _ _ _ h => h) (Or.inl ⟨by kernel_rfl, ?hy7⟩) hHeld ?rest7
    case hy7 =>
      intro wx hSw
      have q0 := (hSw.cell (p := ⟨w.heap.size, 0, none⟩) hlta).trans cxa0
      have q1 := (hSw.cell (p := ⟨w.heap.size, 1, none⟩) hlta).trans cxa1
      clear hSw
      go_simp
      with_reducible rfl
    simp only [List.setIfInBounds_toArray, List.set_cons_zero, List.set_cons_succ]
    refine held_take (i := 4) (d := 17) (v := ?v8) rfl rfl (by kernel_rfl) (by kernel_rfl) (by kernel_rfl) (fun _ _ _ h => h) (Or.inl ⟨by kernel_rfl, ?hy8⟩) hHeld ?rest8
    case hy8 =>
      intro wx hSw
      clear hSw
      go_simp
      with_reducible rfl
    simp only [List.setIfInBounds_toArray, List.set_cons_zero, List.set_cons_succ]
    refine wpAnyH_ready (rs := [2]) (by kernel_rfl) (by simp) ?_
    refine AllReadyH.cons rfl (fun K hK => ?_) AllReadyH.nil
    go_simp
    go_wp2_with (go_at_call 9; refine (HH.out _ (by exact hHeld)).mono ?_; rintro e wb ⟨rfl, b8⟩)
    refine hK.out _ _ (b8) (fun hHeld => ?_)
    clear hK K
    refine wpAnyH_ready (rs := [5]) (by kernel_rfl) (by simp) ?_
    refine AllReadyH.cons rfl (fun K hK => ?_) AllReadyH.nil
    go_simp
    go_wp2_with (go_at_call 10; refine (HG.out _ (by exact hHeld)).mono ?_; rintro e wb ⟨rfl, b8⟩)
    refine hK.out _ _ (b8) (fun hHeld => ?_)
    clear hK K
    refine wpAnyH_ready (rs := [6]) (by kernel_rfl) (by simp) ?_
    refine AllReadyH.cons rfl (fun K hK => ?_) AllReadyH.nil
    go_simp
    refine hK.out _ _ hHeld (fun hHeld => ?_)
    clear hK K
    refine wpAnyH_done (by kernel_rfl) ?_ _
    go_wp2_with fail
    go_meet
    exact ⟨rfl, hHeld⟩
  case rest =>
    obtain ⟨rfl, b9⟩ := hcut
    clear HH HG
    clear cxa0 cxa1
    replace xa := xa.next b9
    replace hqq := hqq.next b9
    replace bb := bb.trans (b9.mono bb.size)
    clear b9 hlta
    generalize wc = w2 at *
    have cxa0 := xa.cell 0 _ rfl
    have cxa1 := xa.cell 1 _ rfl
    go_wp2_with fail
    refine (refAck_any n (b : Int) (by omega) hb' _).mono ?_
    rintro e w3 ⟨r5, rfl, o9, b9⟩
    clear cxa0 cxa1
    replace xa := xa.next b9
    replace hqq := hqq.next b9
    replace bb := bb.trans (b9.mono bb.size)
    clear b9
    have h5 := holds_of_row o9
    clear o9
    have HC := bytes_any (.slice qa 13 qc) r5 (packA n b) (packA n b) _ _ w3 (by rw [packA_len]; omega) hqq h5
    rw [decide_eq_true rfl] at HC
    go_wp2_with fail
    refine (HC).mono ?_
    rintro e wx ⟨rfl, q, rfl⟩
    have b9 : Below w3.heap.size w3 (w3.drewN q) := below_drewN (Below.refl _ _) q
    replace xa := xa.next b9
    replace hqq := hqq.next b9
    replace bb := bb.trans (b9.mono bb.size)
    clear b9
    generalize w3.drewN q = w4 at *
    clear HC
    have HC := AckRead_ok qa qc (packA n b) (by rw [packA_len]; exact hqc) (packA_bd n b) (okA_pack h0 h1) w4 (by rw [packA_len]; exact hqq)
    rw [packA_len, aN_pack h0 h1, aB_pack (by omega) hb'] at HC
    go_wp2_with fail
    refine (HC).mono ?_
    rintro e w5 ⟨rfl, b9⟩
    replace xa := xa.next b9
    replace hqq := hqq.next b9
    replace bb := bb.trans (b9.mono bb.size)
    clear b9
    clear HC
    have b9 : Below w5.heap.size w5 (w5.alloc (.cells #[.int .i64 n, .int .u32 (b : Int)] 24)) := (Below.refl _ _).alloc (Nat.le_refl _) _
    have xy := Box.new w5 24 #[.int .i64 n, .int .u32 (b : Int)]
    replace xa := xa.next b9
    replace hqq := hqq.next b9
    replace bb := bb.trans (b9.mono bb.size)
    clear b9
    have HC := keepAck_any n n (b : Int) (b : Int) (w5.alloc (.cells #[.int .i64 n, .int .u32 (b : Int)] 24))
    rw [decide_eq_true ⟨rfl, rfl⟩] at HC
    have cxy0 := xy.cell 0 _ rfl
    have cxy1 := xy.cell 1 _ rfl
    have cxa0 := xa.cell 0 _ rfl
    have cxa1 := xa.cell 1 _ rfl
    go_wp2_with fail
    refine (HC).mono ?_
    rintro e w6 ⟨rfl, b9⟩
    clear cxy0 cxy1
    clear cxa0 cxa1
    replace xa := xa.next b9
    replace hqq := hqq.next b9
    replace xy := xy.next b9
    replace bb := bb.trans (b9.mono bb.size)
    clear b9
    clear HC
    have HWK := ackWakes_any w6
    go_wp2_with (go_at_call 11; refine HWK.mono ?_; rintro e w99 ⟨rfl, b99⟩)
    go_ret
    exact ⟨rfl, bb.trans (b99.mono bb.size)⟩

/-- The law, of whatever ack and number. -/
theorem ackExact_walk (n b q : Int) (w : World) (h1 : (Lit.int .i64 n).wf = true) (h2 : (Lit.int .u32 b).wf = true) (h3 : (Lit.int .i64 q).wf = true) :
    Calls Try.prog 3 #[.agg #[.int .i64 n, .int .u32 b], .int .i64 q] w fun e w' => e = .returned (.bool true) ∧ Below w.heap.size w w' := by
  have h1 := bounds_i64 h1
  have h3 := bounds_i64 h3
  have h2 := bounds_u32 h2
  obtain ⟨b, rfl⟩ := Int.eq_ofNat_of_zero_le h2.1
  cases hA : aArg n with
  | false => exact ackExact_no n b q h1 h3 (by omega) hA w
  | true =>
    have h := (aArg_iff n).1 hA
    exact ackExact_ok n b q h1 h3 (by omega) h.1 h.2 w

end Go.Proofs.Ytkhmcoeffaeppaa
