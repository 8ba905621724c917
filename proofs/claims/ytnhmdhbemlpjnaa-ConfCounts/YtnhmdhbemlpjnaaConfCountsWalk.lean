/-
  ConfCounts: the walk: whatever the configuration and the two numbers, the law answers true, and nothing that lay has turned. (Written by tpl_conf.py.)
-/
import Derived.Test.YtnhmdhbemlpjnaaConfWakes
import Derived.Deep.Cut
import Derived.Deep.CutRange
import Derived.Deep.DeepCutAuto
namespace Go.Proofs.Ytnhmdhbemlpjnaa
open Go.RowKit

theorem at_placeC (at_ d : Int) (hd : 0 < d) : ∃ p : Nat, (p : Int) < d ∧ (IntKind.u64.wrap at_).tmod d = (p : Int) := by
  have h0 : 0 ≤ IntKind.u64.wrap at_ := by rw [IntKind.wrap_u64]; omega
  have h1 := Int.tmod_nonneg d h0
  have h2 := Int.tmod_lt_of_pos (IntKind.u64.wrap at_) hd
  exact ⟨((IntKind.u64.wrap at_).tmod d).toNat, by omega, by omega⟩
theorem wrap_in {x : Int} (h0 : -1000000000 ≤ x) (h1 : x ≤ 1000000000) : IntKind.i64.wrap x = x := by rw [IntKind.wrap_i64]; omega
theorem wrap64_small {x : Int} (h0 : -1000000000 ≤ x) (h1 : x ≤ 1000000000) : wrap64 x = x := by unfold wrap64; omega
theorem mul_in {a b A B : Int} (h0 : 0 ≤ a) (h1 : a ≤ A) (h2 : 0 ≤ b) (h3 : b ≤ B) : 0 ≤ a * b ∧ a * b ≤ A * B := ⟨Int.mul_nonneg h0 h2, Int.le_trans (Int.mul_le_mul_of_nonneg_right h1 h2) (Int.mul_le_mul_of_nonneg_left h3 (by omega))⟩

set_option maxRecDepth 100000 in
set_option maxHeartbeats 1000000 in
theorem confCounts_no (c : Cfg) (x y : Int) (hA : okC c = false) (w : World) :
    Calls Try.prog 4 #[.agg #[.int .i64 c.cB, .int .i64 c.cBeam, .int .i64 c.cDepth, .int .i64 c.cWin, .int .i64 c.cQs, .int .i64 c.cQr, .int .i64 c.cBatch, .int .i64 c.cPass, .int .i64 c.cMsg, .int .i64 c.cSeqs], .int .i64 x, .int .i64 y] w fun e w' => e = .returned (.bool true) ∧ Below w.heap.size w w' := by
  have bb : Below w.heap.size w (w.alloc (.cells #[.int .i64 c.cB, .int .i64 c.cBeam, .int .i64 c.cDepth, .int .i64 c.cWin, .int .i64 c.cQs, .int .i64 c.cQr, .int .i64 c.cBatch, .int .i64 c.cPass, .int .i64 c.cMsg, .int .i64 c.cSeqs] 23)) := (Below.refl w.heap.size w).alloc (Nat.le_refl _) _
  have HC := refConfig_any c (w.alloc (.cells #[.int .i64 c.cB, .int .i64 c.cBeam, .int .i64 c.cDepth, .int .i64 c.cWin, .int .i64 c.cQs, .int .i64 c.cQr, .int .i64 c.cBatch, .int .i64 c.cPass, .int .i64 c.cMsg, .int .i64 c.cSeqs] 23))
  rw [hA] at HC
  clear hA
  go_enter Try.func4, Try.ntmps4
  go_wp2_with fail
  refine HC.mono ?_
  rintro e w1 ⟨rfl, b1⟩
  go_wp2
  go_ret
  exact ⟨rfl, bb.trans (b1.mono (by simp))⟩

set_option maxRecDepth 100000 in
set_option maxHeartbeats 4000000 in
theorem confCounts_one (c : Cfg) (x y : Int) (hA : okC c = true) (p q : Nat) (hp : p ≤ 200) (hq : q < 2000) (ep : (IntKind.u64.wrap x).tmod 201 = (p : Int)) (eq_ : (IntKind.u64.wrap y).tmod 2000 = (q : Int)) (hn : blocksC c p = 1) (w : World) :
    Calls Try.prog 4 #[.agg #[.int .i64 c.cB, .int .i64 c.cBeam, .int .i64 c.cDepth, .int .i64 c.cWin, .int .i64 c.cQs, .int .i64 c.cQr, .int .i64 c.cBatch, .int .i64 c.cPass, .int .i64 c.cMsg, .int .i64 c.cSeqs], .int .i64 x, .int .i64 y] w fun e w' => e = .returned (.bool true) ∧ Below w.heap.size w w' := by
  have Hwe : Hid (wrap64 (p : Int) = (p : Int)) := wrap64_small (by omega) (by omega)
  have Hwf : Hid (wrap64 (q : Int) = (q : Int)) := wrap64_small (by omega) (by omega)
  have Hwg : Hid (wrap64 ((q : Int) + 1) = (q : Int) + 1) := wrap64_small (by omega) (by omega)
  have bb : Below w.heap.size w (w.alloc (.cells #[.int .i64 c.cB, .int .i64 c.cBeam, .int .i64 c.cDepth, .int .i64 c.cWin, .int .i64 c.cQs, .int .i64 c.cQr, .int .i64 c.cBatch, .int .i64 c.cPass, .int .i64 c.cMsg, .int .i64 c.cSeqs] 23)) := (Below.refl w.heap.size w).alloc (Nat.le_refl _) _
  have xa := Box.new w 23 #[.int .i64 c.cB, .int .i64 c.cBeam, .int .i64 c.cDepth, .int .i64 c.cWin, .int .i64 c.cQs, .int .i64 c.cQr, .int .i64 c.cBatch, .int .i64 c.cPass, .int .i64 c.cMsg, .int .i64 c.cSeqs]
  have HA : Hid (okC c = true) := hA
  have hI := (okC_iff c).1 hA
  have hB := hI.1
  have hBa := hI.2.2.2.2.2.2.1
  have hPa := hI.2.2.2.2.2.2.2.1
  have hbl := blocksC_bd hA (n := (p : Int)) (by omega) (by omega)
  have htk := ticksC_bd hA
  have hmo := mostC_bd hA
  have hse := segsC_bd hA
  have hc0 := cyclesC_zero c
  have hcn := cyclesC_next c (q : Int)
  have hcb := cyclesC_bd hA (n := (q : Int)) (by omega) (by omega)
  have hcb2 := cyclesC_bd hA (n := (q : Int) + 1) (by omega) (by omega)
  have eSe : segsC c = 2 * (c.cB + 10) := rfl
  have eMo : mostC c = segsC c * c.cPass := rfl
  obtain ⟨BN, hBN⟩ : ∃ v, blocksC c p = v := ⟨_, rfl⟩
  obtain ⟨TT, hTT⟩ : ∃ v, ticksC c = v := ⟨_, rfl⟩
  obtain ⟨M, hM⟩ : ∃ v, mostC c = v := ⟨_, rfl⟩
  obtain ⟨S, hS⟩ : ∃ v, segsC c = v := ⟨_, rfl⟩
  obtain ⟨C1, hC1⟩ : ∃ v, cyclesC c ((q : Int) + 1) = v := ⟨_, rfl⟩
  obtain ⟨C2, hC2⟩ : ∃ v, cyclesC c (q : Int) = v := ⟨_, rfl⟩
  obtain ⟨C0, hC0⟩ : ∃ v, cyclesC c 0 = v := ⟨_, rfl⟩
  rw [hBN] at hbl hn
  rw [hTT, hM] at htk
  rw [hM] at hmo
  rw [hS] at hse eSe
  rw [hM, hS] at eMo
  rw [hC0, hTT] at hc0
  rw [hC1, hC2, hTT] at hcn
  rw [hC2] at hcb
  rw [hC1] at hcb2
  have m1 := mul_in (a := BN) (b := c.cB) (A := 200) (B := 16) (by omega) (by omega) (by omega) (by omega)
  have m2 := mul_in (a := BN - 1) (b := c.cB) (A := 200) (B := 16) (by omega) (by omega) (by omega) (by omega)
  have m3 := mul_in (a := TT) (b := c.cBatch) (A := 832) (B := 64) (by omega) (by omega) (by omega) (by omega)
  have m4 := mul_in (a := TT - 1) (b := c.cBatch) (A := 832) (B := 64) (by omega) (by omega) (by omega) (by omega)
  have Hw1_ : Hid (IntKind.i64.wrap (BN * c.cB) = BN * c.cB) := wrap_in (by omega) (by omega)
  have Hw2_ : Hid (IntKind.i64.wrap ((BN - 1) * c.cB) = (BN - 1) * c.cB) := wrap_in (by omega) (by omega)
  have Hw3_ : Hid (IntKind.i64.wrap (BN - 1) = BN - 1) := wrap_in (by omega) (by omega)
  have Hw4_ : Hid (IntKind.i64.wrap (c.cB + 10) = c.cB + 10) := wrap_in (by omega) (by omega)
  have Hw5_ : Hid (IntKind.i64.wrap (2 * (c.cB + 10)) = 2 * (c.cB + 10)) := wrap_in (by omega) (by omega)
  have Hw6_ : Hid (IntKind.i64.wrap (S * c.cPass) = S * c.cPass) := wrap_in (by omega) (by omega)
  have Hw7_ : Hid (IntKind.i64.wrap (TT * c.cBatch) = TT * c.cBatch) := wrap_in (by omega) (by omega)
  have Hw8_ : Hid (IntKind.i64.wrap ((TT - 1) * c.cBatch) = (TT - 1) * c.cBatch) := wrap_in (by omega) (by omega)
  have Hw9_ : Hid (IntKind.i64.wrap (TT - 1) = TT - 1) := wrap_in (by omega) (by omega)
  have Hwa_ : Hid (IntKind.i64.wrap ((q : Int) + 1) = (q : Int) + 1) := wrap_in (by omega) (by omega)
  have Hwb_ : Hid (IntKind.i64.wrap (3 * TT) = 3 * TT) := wrap_in (by omega) (by omega)
  have Hwc_ : Hid (IntKind.i64.wrap (3 * TT + 2) = 3 * TT + 2) := wrap_in (by omega) (by omega)
  have Hwd_ : Hid (IntKind.i64.wrap (C1 - C2) = C1 - C2) := wrap_in (by omega) (by omega)
  have Hd1 : Hid (decide (BN < 1) = false) := decide_eq_false (by omega)
  have Hd2 : Hid (decide (BN * c.cB < (p : Int)) = false) := decide_eq_false (by omega)
  have Hd3 : Hid (decide (1 < BN) = false) := decide_eq_false (by omega)
  have Hd5 : Hid ((S != 2 * (c.cB + 10)) = false) := by rw [bne_eq_false_iff_eq]; exact eSe
  have Hd6 : Hid ((M != S * c.cPass) = false) := by rw [bne_eq_false_iff_eq]; exact eMo
  have Hd7 : Hid (decide (1 ≤ TT) = true) := decide_eq_true (by omega)
  have Hd8 : Hid (decide (M ≤ TT * c.cBatch) = true) := decide_eq_true (by omega)
  have Hd9 : Hid (decide ((TT - 1) * c.cBatch < M) = true) := decide_eq_true (by omega)
  have Hda : Hid ((C1 - C2 == 3 * TT + 2) = true) := beq_iff_eq.2 (by omega)
  have Hdb : Hid ((C0 == 3 * TT + 2) = true) := beq_iff_eq.2 (by omega)
  have HC := refConfig_any c (w.alloc (.cells #[.int .i64 c.cB, .int .i64 c.cBeam, .int .i64 c.cDepth, .int .i64 c.cWin, .int .i64 c.cQs, .int .i64 c.cQr, .int .i64 c.cBatch, .int .i64 c.cPass, .int .i64 c.cMsg, .int .i64 c.cSeqs] 23))
  rw [HA.out] at HC
  have HBN : Hid (blocksC c (p : Int) = BN) := hBN
  have HTT : Hid (ticksC c = TT) := hTT
  have HM : Hid (mostC c = M) := hM
  have HS : Hid (segsC c = S) := hS
  have HC1 : Hid (cyclesC c ((q : Int) + 1) = C1) := hC1
  have HC2 : Hid (cyclesC c (q : Int) = C2) := hC2
  have HC0 : Hid (cyclesC c 0 = C0) := hC0
  have HQ : Hid (q < 2000) := hq
  have HP : Hid (p ≤ 200) := hp
  clear hI hB hBa hPa hbl htk hmo hse hc0 hcn hcb hcb2 eSe eMo hBN hTT hM hS hC1 hC2 hC0 m1 m2 m3 m4 hA hn hp hq
  have we_ := Hwe.out
  have wf_ := Hwf.out
  have wg_ := Hwg.out
  go_enter Try.func4, Try.ntmps4
  have cxa0 := xa.cell 0 _ rfl
  have cxa1 := xa.cell 1 _ rfl
  have cxa2 := xa.cell 2 _ rfl
  have cxa3 := xa.cell 3 _ rfl
  have cxa4 := xa.cell 4 _ rfl
  have cxa5 := xa.cell 5 _ rfl
  have cxa6 := xa.cell 6 _ rfl
  have cxa7 := xa.cell 7 _ rfl
  have cxa8 := xa.cell 8 _ rfl
  have cxa9 := xa.cell 9 _ rfl
  go_wp2_with fail
  refine (HC).mono ?_
  rintro e w1 ⟨rfl, b9⟩
  clear cxa0 cxa1 cxa2 cxa3 cxa4 cxa5 cxa6 cxa7 cxa8 cxa9
  replace xa := xa.next b9
  replace bb := bb.trans (b9.mono bb.size)
  clear b9
  clear HC
  have G1 : Hid (∀ wx : World, Below w1.heap.size w1 wx → Calls Try.prog 8 #[.agg #[.int .i64 c.cB, .int .i64 c.cBeam, .int .i64 c.cDepth, .int .i64 c.cWin, .int .i64 c.cQs, .int .i64 c.cQr, .int .i64 c.cBatch, .int .i64 c.cPass, .int .i64 c.cMsg, .int .i64 c.cSeqs]] wx fun e w' => e = .returned (.int .i64 S) ∧ Below w1.heap.size w1 w') := fun wx hw => by
    have := ConfSegs_any c wx
    rw [show segsA c = S from (if_pos HA.out).trans HS.out] at this
    exact this.mono fun e w' ⟨h, b⟩ => ⟨h, hw.trans (b.mono hw.size)⟩
  have G2 : Hid (∀ wx : World, Below w1.heap.size w1 wx → Calls Try.prog 9 #[.agg #[.int .i64 c.cB, .int .i64 c.cBeam, .int .i64 c.cDepth, .int .i64 c.cWin, .int .i64 c.cQs, .int .i64 c.cQr, .int .i64 c.cBatch, .int .i64 c.cPass, .int .i64 c.cMsg, .int .i64 c.cSeqs]] wx fun e w' => e = .returned (.int .i64 M) ∧ Below w1.heap.size w1 w') := fun wx hw => by
    have := ConfMost_any c wx
    rw [show mostA c = M from (if_pos HA.out).trans HM.out] at this
    exact this.mono fun e w' ⟨h, b⟩ => ⟨h, hw.trans (b.mono hw.size)⟩
  have G3 : Hid (∀ wx : World, Below w1.heap.size w1 wx → Calls Try.prog 10 #[.agg #[.int .i64 c.cB, .int .i64 c.cBeam, .int .i64 c.cDepth, .int .i64 c.cWin, .int .i64 c.cQs, .int .i64 c.cQr, .int .i64 c.cBatch, .int .i64 c.cPass, .int .i64 c.cMsg, .int .i64 c.cSeqs], .int .i64 (p : Int)] wx fun e w' => e = .returned (.int .i64 BN) ∧ Below w1.heap.size w1 w') := fun wx hw => by
    have := ConfBlocks_any c (p : Int) wx
    rw [show blocksA c (p : Int) = BN from (if_pos (show okC c = true ∧ 0 ≤ (p : Int) ∧ (p : Int) ≤ 200 from ⟨HA.out, by omega, by have := HQ.out; have := HP.out; omega⟩)).trans HBN.out] at this
    exact this.mono fun e w' ⟨h, b⟩ => ⟨h, hw.trans (b.mono hw.size)⟩
  have G4 : Hid (∀ wx : World, Below w1.heap.size w1 wx → Calls Try.prog 11 #[.agg #[.int .i64 c.cB, .int .i64 c.cBeam, .int .i64 c.cDepth, .int .i64 c.cWin, .int .i64 c.cQs, .int .i64 c.cQr, .int .i64 c.cBatch, .int .i64 c.cPass, .int .i64 c.cMsg, .int .i64 c.cSeqs]] wx fun e w' => e = .returned (.int .i64 TT) ∧ Below w1.heap.size w1 w') := fun wx hw => by
    have := ConfTicks_any c wx
    rw [show ticksA c = TT from (if_pos HA.out).trans HTT.out] at this
    exact this.mono fun e w' ⟨h, b⟩ => ⟨h, hw.trans (b.mono hw.size)⟩
  have G5 : Hid (∀ wx : World, Below w1.heap.size w1 wx → Calls Try.prog 12 #[.agg #[.int .i64 c.cB, .int .i64 c.cBeam, .int .i64 c.cDepth, .int .i64 c.cWin, .int .i64 c.cQs, .int .i64 c.cQr, .int .i64 c.cBatch, .int .i64 c.cPass, .int .i64 c.cMsg, .int .i64 c.cSeqs], .int .i64 ((q : Int) + 1)] wx fun e w' => e = .returned (.int .i64 C1) ∧ Below w1.heap.size w1 w') := fun wx hw => by
    have := ConfCycles_any c ((q : Int) + 1) wx
    rw [show cyclesA c ((q : Int) + 1) = C1 from (if_pos (show okC c = true ∧ 0 ≤ ((q : Int) + 1) ∧ ((q : Int) + 1) ≤ 2000 from ⟨HA.out, by omega, by have := HQ.out; have := HP.out; omega⟩)).trans HC1.out] at this
    exact this.mono fun e w' ⟨h, b⟩ => ⟨h, hw.trans (b.mono hw.size)⟩
  have G6 : Hid (∀ wx : World, Below w1.heap.size w1 wx → Calls Try.prog 12 #[.agg #[.int .i64 c.cB, .int .i64 c.cBeam, .int .i64 c.cDepth, .int .i64 c.cWin, .int .i64 c.cQs, .int .i64 c.cQr, .int .i64 c.cBatch, .int .i64 c.cPass, .int .i64 c.cMsg, .int .i64 c.cSeqs], .int .i64 (q : Int)] wx fun e w' => e = .returned (.int .i64 C2) ∧ Below w1.heap.size w1 w') := fun wx hw => by
    have := ConfCycles_any c (q : Int) wx
    rw [show cyclesA c (q : Int) = C2 from (if_pos (show okC c = true ∧ 0 ≤ (q : Int) ∧ (q : Int) ≤ 2000 from ⟨HA.out, by omega, by have := HQ.out; have := HP.out; omega⟩)).trans HC2.out] at this
    exact this.mono fun e w' ⟨h, b⟩ => ⟨h, hw.trans (b.mono hw.size)⟩
  have G7 : Hid (∀ wx : World, Below w1.heap.size w1 wx → Calls Try.prog 12 #[.agg #[.int .i64 c.cB, .int .i64 c.cBeam, .int .i64 c.cDepth, .int .i64 c.cWin, .int .i64 c.cQs, .int .i64 c.cQr, .int .i64 c.cBatch, .int .i64 c.cPass, .int .i64 c.cMsg, .int .i64 c.cSeqs], .int .i64 0] wx fun e w' => e = .returned (.int .i64 C0) ∧ Below w1.heap.size w1 w') := fun wx hw => by
    have := ConfCycles_any c 0 wx
    rw [show cyclesA c 0 = C0 from (if_pos (show okC c = true ∧ 0 ≤ (0 : Int) ∧ (0 : Int) ≤ 2000 from ⟨HA.out, by omega, by have := HQ.out; have := HP.out; omega⟩)).trans HC0.out] at this
    exact this.mono fun e w' ⟨h, b⟩ => ⟨h, hw.trans (b.mono hw.size)⟩
  have Hxa0 : Hid _ := xa.cell 0 _ rfl
  have Hxa1 : Hid _ := xa.cell 1 _ rfl
  have Hxa2 : Hid _ := xa.cell 2 _ rfl
  have Hxa3 : Hid _ := xa.cell 3 _ rfl
  have Hxa4 : Hid _ := xa.cell 4 _ rfl
  have Hxa5 : Hid _ := xa.cell 5 _ rfl
  have Hxa6 : Hid _ := xa.cell 6 _ rfl
  have Hxa7 : Hid _ := xa.cell 7 _ rfl
  have Hxa8 : Hid _ := xa.cell 8 _ rfl
  have Hxa9 : Hid _ := xa.cell 9 _ rfl
  have hlta := xa.lt
  go_wp2
  simp only [we_, wf_]
  go_cut [7, 8] (fun v u wx => v = .int .i64 BN ∧ u = .int .i64 TT ∧ Below w1.heap.size w1 wx)
  case first =>
    refine wp_region_held_drew (S := fun w' => Below w1.heap.size w1 w') (by kernel_rfl) ((Below.refl _ _).drew) (fun hHeld => ?_)
    refine held_take (i := 0) (d := 20) (v := ?v135) rfl rfl (by kernel_rfl) (by kernel_rfl) (by kernel_rfl) (fun _ _ _ h => h) (Or.inl ⟨by kernel_rfl, ?hy135⟩) hHeld ?rest135
    case hy135 =>
      intro wx hSw
      have q0 := (hSw.cell (p := ⟨w.heap.size, 0, none⟩) hlta).trans Hxa0.out
      have q1 := (hSw.cell (p := ⟨w.heap.size, 1, none⟩) hlta).trans Hxa1.out
      have q2 := (hSw.cell (p := ⟨w.heap.size, 2, none⟩) hlta).trans Hxa2.out
      have q3 := (hSw.cell (p := ⟨w.heap.size, 3, none⟩) hlta).trans Hxa3.out
      have q4 := (hSw.cell (p := ⟨w.heap.size, 4, none⟩) hlta).trans Hxa4.out
      have q5 := (hSw.cell (p := ⟨w.heap.size, 5, none⟩) hlta).trans Hxa5.out
      have q6 := (hSw.cell (p := ⟨w.heap.size, 6, none⟩) hlta).trans Hxa6.out
      have q7 := (hSw.cell (p := ⟨w.heap.size, 7, none⟩) hlta).trans Hxa7.out
      have q8 := (hSw.cell (p := ⟨w.heap.size, 8, none⟩) hlta).trans Hxa8.out
      have q9 := (hSw.cell (p := ⟨w.heap.size, 9, none⟩) hlta).trans Hxa9.out
      clear hSw
      go_simp
      with_reducible rfl
    simp only [List.setIfInBounds_toArray, List.set_cons_zero, List.set_cons_succ]
    refine held_take (i := 1) (d := 21) (v := ?v136) rfl rfl (by kernel_rfl) (by kernel_rfl) (by kernel_rfl) (fun _ _ _ h => h) (Or.inl ⟨by kernel_rfl, ?hy136⟩) hHeld ?rest136
    case hy136 =>
      intro wx hSw
      clear hSw
      go_simp
      with_reducible rfl
    simp only [List.setIfInBounds_toArray, List.set_cons_zero, List.set_cons_succ]
    refine held_take (i := 3) (d := 23) (v := ?v137) rfl rfl (by kernel_rfl) (by kernel_rfl) (by kernel_rfl) (fun _ _ _ h => h) (Or.inl ⟨by kernel_rfl, ?hy137⟩) hHeld ?rest137
    case hy137 =>
      intro wx hSw
      have q0 := (hSw.cell (p := ⟨w.heap.size, 0, none⟩) hlta).trans Hxa0.out
      have q1 := (hSw.cell (p := ⟨w.heap.size, 1, none⟩) hlta).trans Hxa1.out
      have q2 := (hSw.cell (p := ⟨w.heap.size, 2, none⟩) hlta).trans Hxa2.out
      have q3 := (hSw.cell (p := ⟨w.heap.size, 3, none⟩) hlta).trans Hxa3.out
      have q4 := (hSw.cell (p := ⟨w.heap.size, 4, none⟩) hlta).trans Hxa4.out
      have q5 := (hSw.cell (p := ⟨w.heap.size, 5, none⟩) hlta).trans Hxa5.out
      have q6 := (hSw.cell (p := ⟨w.heap.size, 6, none⟩) hlta).trans Hxa6.out
      have q7 := (hSw.cell (p := ⟨w.heap.size, 7, none⟩) hlta).trans Hxa7.out
      have q8 := (hSw.cell (p := ⟨w.heap.size, 8, none⟩) hlta).trans Hxa8.out
      have q9 := (hSw.cell (p := ⟨w.heap.size, 9, none⟩) hlta).trans Hxa9.out
      clear hSw
      go_simp
      with_reducible rfl
    simp only [List.setIfInBounds_toArray, List.set_cons_zero, List.set_cons_succ]
    refine wpAnyH_ready (rs := [2]) (by kernel_rfl) (by simp) ?_
    refine AllReadyH.cons rfl (fun K hK => ?_) AllReadyH.nil
    go_simp
    go_wp2_with (go_at_call 10; refine (G3.out _ (by exact hHeld)).mono ?_; rintro e wb ⟨rfl, b8⟩)
    refine hK.out _ _ (b8) (fun hHeld => ?_)
    clear hK K
    refine wpAnyH_ready (rs := [4]) (by kernel_rfl) (by simp) ?_
    refine AllReadyH.cons rfl (fun K hK => ?_) AllReadyH.nil
    go_simp
    go_wp2_with (go_at_call 11; refine (G4.out _ (by exact hHeld)).mono ?_; rintro e wb ⟨rfl, b8⟩)
    refine hK.out _ _ (b8) (fun hHeld => ?_)
    clear hK K
    refine held_take (i := 5) (d := 7) (v := ?v138) rfl rfl (by kernel_rfl) (by kernel_rfl) (by kernel_rfl) (fun _ _ _ h => h) (Or.inl ⟨by kernel_rfl, ?hy138⟩) hHeld ?rest138
    case hy138 =>
      intro wx hSw
      clear hSw
      go_simp
      with_reducible rfl
    simp only [List.setIfInBounds_toArray, List.set_cons_zero, List.set_cons_succ]
    refine wpAnyH_ready (rs := [6]) (by kernel_rfl) (by simp) ?_
    refine AllReadyH.cons rfl (fun K hK => ?_) AllReadyH.nil
    go_simp
    refine hK.out _ _ hHeld (fun hHeld => ?_)
    clear hK K
    refine wpAnyH_done (by kernel_rfl) ?_ _
    go_wp2_with fail
    go_meet
    exact ⟨rfl, rfl, hHeld⟩
  case rest =>
    obtain ⟨rfl, rfl, b9⟩ := hcut
    clear G1 G2 G3 G4 G5 G6 G7 hlta
    clear Hxa0 Hxa1 Hxa2 Hxa3 Hxa4 Hxa5 Hxa6 Hxa7 Hxa8 Hxa9
    replace xa := xa.next b9
    replace bb := bb.trans (b9.mono bb.size)
    clear b9
    generalize wc = w2 at *
    have G1 : Hid (∀ wx : World, Below w2.heap.size w2 wx → Calls Try.prog 8 #[.agg #[.int .i64 c.cB, .int .i64 c.cBeam, .int .i64 c.cDepth, .int .i64 c.cWin, .int .i64 c.cQs, .int .i64 c.cQr, .int .i64 c.cBatch, .int .i64 c.cPass, .int .i64 c.cMsg, .int .i64 c.cSeqs]] wx fun e w' => e = .returned (.int .i64 S) ∧ Below w2.heap.size w2 w') := fun wx hw => by
      have := ConfSegs_any c wx
      rw [show segsA c = S from (if_pos HA.out).trans HS.out] at this
      exact this.mono fun e w' ⟨h, b⟩ => ⟨h, hw.trans (b.mono hw.size)⟩
    have G2 : Hid (∀ wx : World, Below w2.heap.size w2 wx → Calls Try.prog 9 #[.agg #[.int .i64 c.cB, .int .i64 c.cBeam, .int .i64 c.cDepth, .int .i64 c.cWin, .int .i64 c.cQs, .int .i64 c.cQr, .int .i64 c.cBatch, .int .i64 c.cPass, .int .i64 c.cMsg, .int .i64 c.cSeqs]] wx fun e w' => e = .returned (.int .i64 M) ∧ Below w2.heap.size w2 w') := fun wx hw => by
      have := ConfMost_any c wx
      rw [show mostA c = M from (if_pos HA.out).trans HM.out] at this
      exact this.mono fun e w' ⟨h, b⟩ => ⟨h, hw.trans (b.mono hw.size)⟩
    have G3 : Hid (∀ wx : World, Below w2.heap.size w2 wx → Calls Try.prog 10 #[.agg #[.int .i64 c.cB, .int .i64 c.cBeam, .int .i64 c.cDepth, .int .i64 c.cWin, .int .i64 c.cQs, .int .i64 c.cQr, .int .i64 c.cBatch, .int .i64 c.cPass, .int .i64 c.cMsg, .int .i64 c.cSeqs], .int .i64 (p : Int)] wx fun e w' => e = .returned (.int .i64 BN) ∧ Below w2.heap.size w2 w') := fun wx hw => by
      have := ConfBlocks_any c (p : Int) wx
      rw [show blocksA c (p : Int) = BN from (if_pos (show okC c = true ∧ 0 ≤ (p : Int) ∧ (p : Int) ≤ 200 from ⟨HA.out, by omega, by have := HQ.out; have := HP.out; omega⟩)).trans HBN.out] at this
      exact this.mono fun e w' ⟨h, b⟩ => ⟨h, hw.trans (b.mono hw.size)⟩
    have G4 : Hid (∀ wx : World, Below w2.heap.size w2 wx → Calls Try.prog 11 #[.agg #[.int .i64 c.cB, .int .i64 c.cBeam, .int .i64 c.cDepth, .int .i64 c.cWin, .int .i64 c.cQs, .int .i64 c.cQr, .int .i64 c.cBatch, .int .i64 c.cPass, .int .i64 c.cMsg, .int .i64 c.cSeqs]] wx fun e w' => e = .returned (.int .i64 TT) ∧ Below w2.heap.size w2 w') := fun wx hw => by
      have := ConfTicks_any c wx
      rw [show ticksA c = TT from (if_pos HA.out).trans HTT.out] at this
      exact this.mono fun e w' ⟨h, b⟩ => ⟨h, hw.trans (b.mono hw.size)⟩
    have G5 : Hid (∀ wx : World, Below w2.heap.size w2 wx → Calls Try.prog 12 #[.agg #[.int .i64 c.cB, .int .i64 c.cBeam, .int .i64 c.cDepth, .int .i64 c.cWin, .int .i64 c.cQs, .int .i64 c.cQr, .int .i64 c.cBatch, .int .i64 c.cPass, .int .i64 c.cMsg, .int .i64 c.cSeqs], .int .i64 ((q : Int) + 1)] wx fun e w' => e = .returned (.int .i64 C1) ∧ Below w2.heap.size w2 w') := fun wx hw => by
      have := ConfCycles_any c ((q : Int) + 1) wx
      rw [show cyclesA c ((q : Int) + 1) = C1 from (if_pos (show okC c = true ∧ 0 ≤ ((q : Int) + 1) ∧ ((q : Int) + 1) ≤ 2000 from ⟨HA.out, by omega, by have := HQ.out; have := HP.out; omega⟩)).trans HC1.out] at this
      exact this.mono fun e w' ⟨h, b⟩ => ⟨h, hw.trans (b.mono hw.size)⟩
    have G6 : Hid (∀ wx : World, Below w2.heap.size w2 wx → Calls Try.prog 12 #[.agg #[.int .i64 c.cB, .int .i64 c.cBeam, .int .i64 c.cDepth, .int .i64 c.cWin, .int .i64 c.cQs, .int .i64 c.cQr, .int .i64 c.cBatch, .int .i64 c.cPass, .int .i64 c.cMsg, .int .i64 c.cSeqs], .int .i64 (q : Int)] wx fun e w' => e = .returned (.int .i64 C2) ∧ Below w2.heap.size w2 w') := fun wx hw => by
      have := ConfCycles_any c (q : Int) wx
      rw [show cyclesA c (q : Int) = C2 from (if_pos (show okC c = true ∧ 0 ≤ (q : Int) ∧ (q : Int) ≤ 2000 from ⟨HA.out, by omega, by have := HQ.out; have := HP.out; omega⟩)).trans HC2.out] at this
      exact this.mono fun e w' ⟨h, b⟩ => ⟨h, hw.trans (b.mono hw.size)⟩
    have G7 : Hid (∀ wx : World, Below w2.heap.size w2 wx → Calls Try.prog 12 #[.agg #[.int .i64 c.cB, .int .i64 c.cBeam, .int .i64 c.cDepth, .int .i64 c.cWin, .int .i64 c.cQs, .int .i64 c.cQr, .int .i64 c.cBatch, .int .i64 c.cPass, .int .i64 c.cMsg, .int .i64 c.cSeqs], .int .i64 0] wx fun e w' => e = .returned (.int .i64 C0) ∧ Below w2.heap.size w2 w') := fun wx hw => by
      have := ConfCycles_any c 0 wx
      rw [show cyclesA c 0 = C0 from (if_pos (show okC c = true ∧ 0 ≤ (0 : Int) ∧ (0 : Int) ≤ 2000 from ⟨HA.out, by omega, by have := HQ.out; have := HP.out; omega⟩)).trans HC0.out] at this
      exact this.mono fun e w' ⟨h, b⟩ => ⟨h, hw.trans (b.mono hw.size)⟩
    have Hxa0 : Hid _ := xa.cell 0 _ rfl
    have Hxa1 : Hid _ := xa.cell 1 _ rfl
    have Hxa2 : Hid _ := xa.cell 2 _ rfl
    have Hxa3 : Hid _ := xa.cell 3 _ rfl
    have Hxa4 : Hid _ := xa.cell 4 _ rfl
    have Hxa5 : Hid _ := xa.cell 5 _ rfl
    have Hxa6 : Hid _ := xa.cell 6 _ rfl
    have Hxa7 : Hid _ := xa.cell 7 _ rfl
    have Hxa8 : Hid _ := xa.cell 8 _ rfl
    have Hxa9 : Hid _ := xa.cell 9 _ rfl
    have hlta := xa.lt
    have w1_ := Hw1_.out
    have w4_ := Hw4_.out
    have w5_ := Hw5_.out
    have w6_ := Hw6_.out
    have d1 := Hd1.out
    have d2 := Hd2.out
    have d3 := Hd3.out
    have d5 := Hd5.out
    have d6 := Hd6.out
    go_wp2
    go_cut [66] (fun v wx => v = .bool false ∧ Below w2.heap.size w2 wx)
    case first =>
      refine wp_region_held_drew (S := fun w' => Below w2.heap.size w2 w') (by kernel_rfl) ((Below.refl _ _).drew) (fun hHeld => ?_)
      refine held_take (i := 0) (d := 25) (v := ?v139) rfl rfl (by kernel_rfl) (by kernel_rfl) (by kernel_rfl) (fun _ _ _ h => h) (Or.inl ⟨by kernel_rfl, ?hy139⟩) hHeld ?rest139
      case hy139 =>
        intro wx hSw
        clear hSw
        go_simp
        with_reducible rfl
      simp only [List.setIfInBounds_toArray, List.set_cons_zero, List.set_cons_succ]
      refine held_take (i := 1) (d := 26) (v := ?v140) rfl rfl (by kernel_rfl) (by kernel_rfl) (by kernel_rfl) (fun _ _ _ h => h) (Or.inl ⟨by kernel_rfl, ?hy140⟩) hHeld ?rest140
      case hy140 =>
        intro wx hSw
        clear hSw
        go_simp
        with_reducible rfl
      simp only [List.setIfInBounds_toArray, List.set_cons_zero, List.set_cons_succ]
      refine held_take (i := 2) (d := 27) (v := ?v141) rfl rfl (by kernel_rfl) (by kernel_rfl) (by kernel_rfl) (fun _ _ _ h => h) (Or.inl ⟨by kernel_rfl, ?hy141⟩) hHeld ?rest141
      case hy141 =>
        intro wx hSw
        clear hSw
        go_simp
        with_reducible rfl
      simp only [List.setIfInBounds_toArray, List.set_cons_zero, List.set_cons_succ]
      refine held_take (i := 3) (d := 28) (v := ?v142) rfl rfl (by kernel_rfl) (by kernel_rfl) (by kernel_rfl) (fun _ _ _ h => h) (Or.inl ⟨by kernel_rfl, ?hy142⟩) hHeld ?rest142
      case hy142 =>
        intro wx hSw
        clear hSw
        go_simp
        with_reducible rfl
      simp only [List.setIfInBounds_toArray, List.set_cons_zero, List.set_cons_succ]
      refine held_take (i := 4) (d := 29) (v := ?v143) rfl rfl (by kernel_rfl) (by kernel_rfl) (by kernel_rfl) (fun _ _ _ h => h) (Or.inl ⟨by kernel_rfl, ?hy143⟩) hHeld ?rest143
      case hy143 =>
        intro wx hSw
        clear hSw
        go_simp
        with_reducible rfl
      simp only [List.setIfInBounds_toArray, List.set_cons_zero, List.set_cons_succ]
      refine held_take (i := 5) (d := 30) (v := ?v144) rfl rfl (by kernel_rfl) (by kernel_rfl) (by kernel_rfl) (fun _ _ _ h => h) (Or.inl ⟨by kernel_rfl, ?hy144⟩) hHeld ?rest144
      case hy144 =>
        intro wx hSw
        have q0 := (hSw.cell (p := ⟨w.heap.size, 0, none⟩) hlta).trans Hxa0.out
        clear hSw
        go_simp
        with_reducible rfl
      simp only [List.setIfInBounds_toArray, List.set_cons_zero, List.set_cons_succ]
      refine held_take (i := 6) (d := 31) (v := ?v145) rfl rfl (by kernel_rfl) (by kernel_rfl) (by kernel_rfl) (fun _ _ _ h => h) (Or.inl ⟨by kernel_rfl, ?hy145⟩) hHeld ?rest145
      case hy145 =>
        intro wx hSw
        clear hSw
        go_simp
        with_reducible rfl
      simp only [List.setIfInBounds_toArray, List.set_cons_zero, List.set_cons_succ]
      refine held_take (i := 7) (d := 32) (v := ?v146) rfl rfl (by kernel_rfl) (by kernel_rfl) (by kernel_rfl) (fun _ _ _ h => h) (Or.inl ⟨by kernel_rfl, ?hy146⟩) hHeld ?rest146
      case hy146 =>
        intro wx hSw
        clear hSw
        go_simp
        with_reducible rfl
      simp only [List.setIfInBounds_toArray, List.set_cons_zero, List.set_cons_succ]
      refine held_take (i := 8) (d := 33) (v := ?v147) rfl rfl (by kernel_rfl) (by kernel_rfl) (by kernel_rfl) (fun _ _ _ h => h) (Or.inl ⟨by kernel_rfl, ?hy147⟩) hHeld ?rest147
      case hy147 =>
        intro wx hSw
        clear hSw
        go_simp
        with_reducible rfl
      simp only [List.setIfInBounds_toArray, List.set_cons_zero, List.set_cons_succ]
      refine held_take (i := 9) (d := 34) (v := ?v148) rfl rfl (by kernel_rfl) (by kernel_rfl) (by kernel_rfl) (fun _ _ _ h => h) (Or.inl ⟨by kernel_rfl, ?hy148⟩) hHeld ?rest148
      case hy148 =>
        intro wx hSw
        clear hSw
        go_simp
        with_reducible rfl
      simp only [List.setIfInBounds_toArray, List.set_cons_zero, List.set_cons_succ]
      refine held_take (i := 10) (d := 35) (v := ?v149) rfl rfl (by kernel_rfl) (by kernel_rfl) (by kernel_rfl) (fun _ _ _ h => h) (Or.inl ⟨by kernel_rfl, ?hy149⟩) hHeld ?rest149
      case hy149 =>
        intro wx hSw
        clear hSw
        go_simp
        with_reducible rfl
      simp only [List.setIfInBounds_toArray, List.set_cons_zero, List.set_cons_succ]
      refine held_take (i := 11) (d := 36) (v := ?v150) rfl rfl (by kernel_rfl) (by kernel_rfl) (by kernel_rfl) (fun _ _ _ h => h) (Or.inl ⟨by kernel_rfl, ?hy150⟩) hHeld ?rest150
      case hy150 =>
        intro wx hSw
        clear hSw
        go_simp
        with_reducible rfl
      simp only [List.setIfInBounds_toArray, List.set_cons_zero, List.set_cons_succ]
      refine held_take (i := 12) (d := 37) (v := ?v151) rfl rfl (by kernel_rfl) (by kernel_rfl) (by kernel_rfl) (fun _ _ _ h => h) (Or.inl ⟨by kernel_rfl, ?hy151⟩) hHeld ?rest151
      case hy151 =>
        intro wx hSw
        clear hSw
        go_simp
        with_reducible rfl
      simp only [List.setIfInBounds_toArray, List.set_cons_zero, List.set_cons_succ]
      refine held_take (i := 13) (d := 38) (v := ?v152) rfl rfl (by kernel_rfl) (by kernel_rfl) (by kernel_rfl) (fun _ _ _ h => h) (Or.inl ⟨by kernel_rfl, ?hy152⟩) hHeld ?rest152
      case hy152 =>
        intro wx hSw
        clear hSw
        go_simp
        with_reducible rfl
      simp only [List.setIfInBounds_toArray, List.set_cons_zero, List.set_cons_succ]
      refine held_take (i := 14) (d := 39) (v := undef) rfl rfl (by kernel_rfl) (by kernel_rfl) (by kernel_rfl) (fun _ _ _ h => h) (Or.inr ⟨by kernel_rfl, rfl⟩) hHeld ?_
      simp only [List.setIfInBounds_toArray, List.set_cons_zero, List.set_cons_succ]
      refine held_take (i := 15) (d := 40) (v := undef) rfl rfl (by kernel_rfl) (by kernel_rfl) (by kernel_rfl) (fun _ _ _ h => h) (Or.inr ⟨by kernel_rfl, rfl⟩) hHeld ?_
      simp only [List.setIfInBounds_toArray, List.set_cons_zero, List.set_cons_succ]
      refine held_take (i := 16) (d := 41) (v := undef) rfl rfl (by kernel_rfl) (by kernel_rfl) (by kernel_rfl) (fun _ _ _ h => h) (Or.inr ⟨by kernel_rfl, rfl⟩) hHeld ?_
      simp only [List.setIfInBounds_toArray, List.set_cons_zero, List.set_cons_succ]
      refine held_take (i := 17) (d := 42) (v := undef) rfl rfl (by kernel_rfl) (by kernel_rfl) (by kernel_rfl) (fun _ _ _ h => h) (Or.inr ⟨by kernel_rfl, rfl⟩) hHeld ?_
      simp only [List.setIfInBounds_toArray, List.set_cons_zero, List.set_cons_succ]
      refine held_take (i := 18) (d := 43) (v := undef) rfl rfl (by kernel_rfl) (by kernel_rfl) (by kernel_rfl) (fun _ _ _ h => h) (Or.inr ⟨by kernel_rfl, rfl⟩) hHeld ?_
      simp only [List.setIfInBounds_toArray, List.set_cons_zero, List.set_cons_succ]
      refine held_take (i := 19) (d := 44) (v := undef) rfl rfl (by kernel_rfl) (by kernel_rfl) (by kernel_rfl) (fun _ _ _ h => h) (Or.inr ⟨by kernel_rfl, rfl⟩) hHeld ?_
      simp only [List.setIfInBounds_toArray, List.set_cons_zero, List.set_cons_succ]
      refine held_take (i := 20) (d := 45) (v := undef) rfl rfl (by kernel_rfl) (by kernel_rfl) (by kernel_rfl) (fun _ _ _ h => h) (Or.inr ⟨by kernel_rfl, rfl⟩) hHeld ?_
      simp only [List.setIfInBounds_toArray, List.set_cons_zero, List.set_cons_succ]
      refine held_take (i := 21) (d := 46) (v := ?v153) rfl rfl (by kernel_rfl) (by kernel_rfl) (by kernel_rfl) (fun _ _ _ h => h) (Or.inl ⟨by kernel_rfl, ?hy153⟩) hHeld ?rest153
      case hy153 =>
        intro wx hSw
        clear hSw
        go_simp
        with_reducible rfl
      simp only [List.setIfInBounds_toArray, List.set_cons_zero, List.set_cons_succ]
      refine held_take (i := 22) (d := 47) (v := ?v154) rfl rfl (by kernel_rfl) (by kernel_rfl) (by kernel_rfl) (fun _ _ _ h => h) (Or.inl ⟨by kernel_rfl, ?hy154⟩) hHeld ?rest154
      case hy154 =>
        intro wx hSw
        clear hSw
        go_simp
        with_reducible rfl
      simp only [List.setIfInBounds_toArray, List.set_cons_zero, List.set_cons_succ]
      refine held_take (i := 23) (d := 48) (v := ?v155) rfl rfl (by kernel_rfl) (by kernel_rfl) (by kernel_rfl) (fun _ _ _ h => h) (Or.inl ⟨by kernel_rfl, ?hy155⟩) hHeld ?rest155
      case hy155 =>
        intro wx hSw
        clear hSw
        go_simp
        with_reducible rfl
      simp only [List.setIfInBounds_toArray, List.set_cons_zero, List.set_cons_succ]
      refine held_take (i := 24) (d := 49) (v := ?v156) rfl rfl (by kernel_rfl) (by kernel_rfl) (by kernel_rfl) (fun _ _ _ h => h) (Or.inl ⟨by kernel_rfl, ?hy156⟩) hHeld ?rest156
      case hy156 =>
        intro wx hSw
        have q0 := (hSw.cell (p := ⟨w.heap.size, 0, none⟩) hlta).trans Hxa0.out
        have q1 := (hSw.cell (p := ⟨w.heap.size, 1, none⟩) hlta).trans Hxa1.out
        have q2 := (hSw.cell (p := ⟨w.heap.size, 2, none⟩) hlta).trans Hxa2.out
        have q3 := (hSw.cell (p := ⟨w.heap.size, 3, none⟩) hlta).trans Hxa3.out
        have q4 := (hSw.cell (p := ⟨w.heap.size, 4, none⟩) hlta).trans Hxa4.out
        have q5 := (hSw.cell (p := ⟨w.heap.size, 5, none⟩) hlta).trans Hxa5.out
        have q6 := (hSw.cell (p := ⟨w.heap.size, 6, none⟩) hlta).trans Hxa6.out
        have q7 := (hSw.cell (p := ⟨w.heap.size, 7, none⟩) hlta).trans Hxa7.out
        have q8 := (hSw.cell (p := ⟨w.heap.size, 8, none⟩) hlta).trans Hxa8.out
        have q9 := (hSw.cell (p := ⟨w.heap.size, 9, none⟩) hlta).trans Hxa9.out
        clear hSw
        go_simp
        with_reducible rfl
      simp only [List.setIfInBounds_toArray, List.set_cons_zero, List.set_cons_succ]
      refine held_take (i := 26) (d := 51) (v := ?v157) rfl rfl (by kernel_rfl) (by kernel_rfl) (by kernel_rfl) (fun _ _ _ h => h) (Or.inl ⟨by kernel_rfl, ?hy157⟩) hHeld ?rest157
      case hy157 =>
        intro wx hSw
        clear hSw
        go_simp
        with_reducible rfl
      simp only [List.setIfInBounds_toArray, List.set_cons_zero, List.set_cons_succ]
      refine held_take (i := 27) (d := 52) (v := ?v158) rfl rfl (by kernel_rfl) (by kernel_rfl) (by kernel_rfl) (fun _ _ _ h => h) (Or.inl ⟨by kernel_rfl, ?hy158⟩) hHeld ?rest158
      case hy158 =>
        intro wx hSw
        have q0 := (hSw.cell (p := ⟨w.heap.size, 0, none⟩) hlta).trans Hxa0.out
        clear hSw
        go_simp
        with_reducible rfl
      simp only [List.setIfInBounds_toArray, List.set_cons_zero, List.set_cons_succ]
      refine held_take (i := 28) (d := 53) (v := ?v159) rfl rfl (by kernel_rfl) (by kernel_rfl) (by kernel_rfl) (fun _ _ _ h => h) (Or.inl ⟨by kernel_rfl, ?hy159⟩) hHeld ?rest159
      case hy159 =>
        intro wx hSw
        clear hSw
        go_simp
        with_reducible rfl
      simp only [List.setIfInBounds_toArray, List.set_cons_zero, List.set_cons_succ]
      refine held_take (i := 29) (d := 54) (v := ?v160) rfl rfl (by kernel_rfl) (by kernel_rfl) (by kernel_rfl) (fun _ _ _ h => h) (Or.inl ⟨by kernel_rfl, ?hy160⟩) hHeld ?rest160
      case hy160 =>
        intro wx hSw
        clear hSw
        go_simp
        with_reducible rfl
      simp only [List.setIfInBounds_toArray, List.set_cons_zero, List.set_cons_succ]
      refine wpAnyH_ready (rs := [25]) (by kernel_rfl) (by simp) ?_
      refine AllReadyH.cons rfl (fun K hK => ?_) AllReadyH.nil
      go_simp
      go_wp2_with (go_at_call 8; refine (G1.out _ (by exact hHeld)).mono ?_; rintro e wb ⟨rfl, b8⟩)
      refine hK.out _ _ (b8) (fun hHeld => ?_)
      clear hK K
      refine held_take (i := 30) (d := 55) (v := ?v161) rfl rfl (by kernel_rfl) (by kernel_rfl) (by kernel_rfl) (fun _ _ _ h => h) (Or.inl ⟨by kernel_rfl, ?hy161⟩) hHeld ?rest161
      case hy161 =>
        intro wx hSw
        clear hSw
        go_simp
        with_reducible rfl
      simp only [List.setIfInBounds_toArray, List.set_cons_zero, List.set_cons_succ]
      refine held_take (i := 31) (d := 56) (v := ?v162) rfl rfl (by kernel_rfl) (by kernel_rfl) (by kernel_rfl) (fun _ _ _ h => h) (Or.inl ⟨by kernel_rfl, ?hy162⟩) hHeld ?rest162
      case hy162 =>
        intro wx hSw
        clear hSw
        go_simp
        with_reducible rfl
      simp only [List.setIfInBounds_toArray, List.set_cons_zero, List.set_cons_succ]
      refine held_take (i := 32) (d := 57) (v := ?v163) rfl rfl (by kernel_rfl) (by kernel_rfl) (by kernel_rfl) (fun _ _ _ h => h) (Or.inl ⟨by kernel_rfl, ?hy163⟩) hHeld ?rest163
      case hy163 =>
        intro wx hSw
        clear hSw
        go_simp
        with_reducible rfl
      simp only [List.setIfInBounds_toArray, List.set_cons_zero, List.set_cons_succ]
      refine held_take (i := 33) (d := 58) (v := ?v164) rfl rfl (by kernel_rfl) (by kernel_rfl) (by kernel_rfl) (fun _ _ _ h => h) (Or.inl ⟨by kernel_rfl, ?hy164⟩) hHeld ?rest164
      case hy164 =>
        intro wx hSw
        have q0 := (hSw.cell (p := ⟨w.heap.size, 0, none⟩) hlta).trans Hxa0.out
        have q1 := (hSw.cell (p := ⟨w.heap.size, 1, none⟩) hlta).trans Hxa1.out
        have q2 := (hSw.cell (p := ⟨w.heap.size, 2, none⟩) hlta).trans Hxa2.out
        have q3 := (hSw.cell (p := ⟨w.heap.size, 3, none⟩) hlta).trans Hxa3.out
        have q4 := (hSw.cell (p := ⟨w.heap.size, 4, none⟩) hlta).trans Hxa4.out
        have q5 := (hSw.cell (p := ⟨w.heap.size, 5, none⟩) hlta).trans Hxa5.out
        have q6 := (hSw.cell (p := ⟨w.heap.size, 6, none⟩) hlta).trans Hxa6.out
        have q7 := (hSw.cell (p := ⟨w.heap.size, 7, none⟩) hlta).trans Hxa7.out
        have q8 := (hSw.cell (p := ⟨w.heap.size, 8, none⟩) hlta).trans Hxa8.out
        have q9 := (hSw.cell (p := ⟨w.heap.size, 9, none⟩) hlta).trans Hxa9.out
        clear hSw
        go_simp
        with_reducible rfl
      simp only [List.setIfInBounds_toArray, List.set_cons_zero, List.set_cons_succ]
      refine held_take (i := 35) (d := 60) (v := ?v165) rfl rfl (by kernel_rfl) (by kernel_rfl) (by kernel_rfl) (fun _ _ _ h => h) (Or.inl ⟨by kernel_rfl, ?hy165⟩) hHeld ?rest165
      case hy165 =>
        intro wx hSw
        have q0 := (hSw.cell (p := ⟨w.heap.size, 0, none⟩) hlta).trans Hxa0.out
        have q1 := (hSw.cell (p := ⟨w.heap.size, 1, none⟩) hlta).trans Hxa1.out
        have q2 := (hSw.cell (p := ⟨w.heap.size, 2, none⟩) hlta).trans Hxa2.out
        have q3 := (hSw.cell (p := ⟨w.heap.size, 3, none⟩) hlta).trans Hxa3.out
        have q4 := (hSw.cell (p := ⟨w.heap.size, 4, none⟩) hlta).trans Hxa4.out
        have q5 := (hSw.cell (p := ⟨w.heap.size, 5, none⟩) hlta).trans Hxa5.out
        have q6 := (hSw.cell (p := ⟨w.heap.size, 6, none⟩) hlta).trans Hxa6.out
        have q7 := (hSw.cell (p := ⟨w.heap.size, 7, none⟩) hlta).trans Hxa7.out
        have q8 := (hSw.cell (p := ⟨w.heap.size, 8, none⟩) hlta).trans Hxa8.out
        have q9 := (hSw.cell (p := ⟨w.heap.size, 9, none⟩) hlta).trans Hxa9.out
        clear hSw
        go_simp
        with_reducible rfl
      simp only [List.setIfInBounds_toArray, List.set_cons_zero, List.set_cons_succ]
      refine held_take (i := 37) (d := 62) (v := ?v166) rfl rfl (by kernel_rfl) (by kernel_rfl) (by kernel_rfl) (fun _ _ _ h => h) (Or.inl ⟨by kernel_rfl, ?hy166⟩) hHeld ?rest166
      case hy166 =>
        intro wx hSw
        clear hSw
        go_simp
        with_reducible rfl
      simp only [List.setIfInBounds_toArray, List.set_cons_zero, List.set_cons_succ]
      refine held_take (i := 38) (d := 63) (v := ?v167) rfl rfl (by kernel_rfl) (by kernel_rfl) (by kernel_rfl) (fun _ _ _ h => h) (Or.inl ⟨by kernel_rfl, ?hy167⟩) hHeld ?rest167
      case hy167 =>
        intro wx hSw
        have q0 := (hSw.cell (p := ⟨w.heap.size, 7, none⟩) hlta).trans Hxa7.out
        clear hSw
        go_simp
        with_reducible rfl
      simp only [List.setIfInBounds_toArray, List.set_cons_zero, List.set_cons_succ]
      refine wpAnyH_ready (rs := [34]) (by kernel_rfl) (by simp) ?_
      refine AllReadyH.cons rfl (fun K hK => ?_) AllReadyH.nil
      go_simp
      go_wp2_with (go_at_call 9; refine (G2.out _ (by exact hHeld)).mono ?_; rintro e wb ⟨rfl, b8⟩)
      refine hK.out _ _ (b8) (fun hHeld => ?_)
      clear hK K
      refine wpAnyH_ready (rs := [36]) (by kernel_rfl) (by simp) ?_
      refine AllReadyH.cons rfl (fun K hK => ?_) AllReadyH.nil
      go_simp
      go_wp2_with (go_at_call 8; refine (G1.out _ (by exact hHeld)).mono ?_; rintro e wb ⟨rfl, b8⟩)
      refine hK.out _ _ (b8) (fun hHeld => ?_)
      clear hK K
      refine held_take (i := 39) (d := 64) (v := ?v168) rfl rfl (by kernel_rfl) (by kernel_rfl) (by kernel_rfl) (fun _ _ _ h => h) (Or.inl ⟨by kernel_rfl, ?hy168⟩) hHeld ?rest168
      case hy168 =>
        intro wx hSw
        clear hSw
        go_simp
        with_reducible rfl
      simp only [List.setIfInBounds_toArray, List.set_cons_zero, List.set_cons_succ]
      refine held_take (i := 40) (d := 65) (v := ?v169) rfl rfl (by kernel_rfl) (by kernel_rfl) (by kernel_rfl) (fun _ _ _ h => h) (Or.inl ⟨by kernel_rfl, ?hy169⟩) hHeld ?rest169
      case hy169 =>
        intro wx hSw
        clear hSw
        go_simp
        with_reducible rfl
      simp only [List.setIfInBounds_toArray, List.set_cons_zero, List.set_cons_succ]
      refine wpAnyH_ready (rs := [41]) (by kernel_rfl) (by simp) ?_
      refine AllReadyH.cons rfl (fun K hK => ?_) AllReadyH.nil
      go_simp
      refine hK.out _ _ hHeld (fun hHeld => ?_)
      clear hK K
      refine wpAnyH_done (by kernel_rfl) ?_ _
      go_wp2_with fail
      go_meet
      exact ⟨rfl, hHeld⟩
    case rest =>
      obtain ⟨rfl, b9⟩ := hcut
      clear G1 G2 G3 G4 G5 G6 G7 hlta
      clear Hxa0 Hxa1 Hxa2 Hxa3 Hxa4 Hxa5 Hxa6 Hxa7 Hxa8 Hxa9
      replace xa := xa.next b9
      replace bb := bb.trans (b9.mono bb.size)
      clear b9
      generalize wc = w3 at *
      have G1 : Hid (∀ wx : World, Below w3.heap.size w3 wx → Calls Try.prog 8 #[.agg #[.int .i64 c.cB, .int .i64 c.cBeam, .int .i64 c.cDepth, .int .i64 c.cWin, .int .i64 c.cQs, .int .i64 c.cQr, .int .i64 c.cBatch, .int .i64 c.cPass, .int .i64 c.cMsg, .int .i64 c.cSeqs]] wx fun e w' => e = .returned (.int .i64 S) ∧ Below w3.heap.size w3 w') := fun wx hw => by
        have := ConfSegs_any c wx
        rw [show segsA c = S from (if_pos HA.out).trans HS.out] at this
        exact this.mono fun e w' ⟨h, b⟩ => ⟨h, hw.trans (b.mono hw.size)⟩
      have G2 : Hid (∀ wx : World, Below w3.heap.size w3 wx → Calls Try.prog 9 #[.agg #[.int .i64 c.cB, .int .i64 c.cBeam, .int .i64 c.cDepth, .int .i64 c.cWin, .int .i64 c.cQs, .int .i64 c.cQr, .int .i64 c.cBatch, .int .i64 c.cPass, .int .i64 c.cMsg, .int .i64 c.cSeqs]] wx fun e w' => e = .returned (.int .i64 M) ∧ Below w3.heap.size w3 w') := fun wx hw => by
        have := ConfMost_any c wx
        rw [show mostA c = M from (if_pos HA.out).trans HM.out] at this
        exact this.mono fun e w' ⟨h, b⟩ => ⟨h, hw.trans (b.mono hw.size)⟩
      have G3 : Hid (∀ wx : World, Below w3.heap.size w3 wx → Calls Try.prog 10 #[.agg #[.int .i64 c.cB, .int .i64 c.cBeam, .int .i64 c.cDepth, .int .i64 c.cWin, .int .i64 c.cQs, .int .i64 c.cQr, .int .i64 c.cBatch, .int .i64 c.cPass, .int .i64 c.cMsg, .int .i64 c.cSeqs], .int .i64 (p : Int)] wx fun e w' => e = .returned (.int .i64 BN) ∧ Below w3.heap.size w3 w') := fun wx hw => by
        have := ConfBlocks_any c (p : Int) wx
        rw [show blocksA c (p : Int) = BN from (if_pos (show okC c = true ∧ 0 ≤ (p : Int) ∧ (p : Int) ≤ 200 from ⟨HA.out, by omega, by have := HQ.out; have := HP.out; omega⟩)).trans HBN.out] at this
        exact this.mono fun e w' ⟨h, b⟩ => ⟨h, hw.trans (b.mono hw.size)⟩
      have G4 : Hid (∀ wx : World, Below w3.heap.size w3 wx → Calls Try.prog 11 #[.agg #[.int .i64 c.cB, .int .i64 c.cBeam, .int .i64 c.cDepth, .int .i64 c.cWin, .int .i64 c.cQs, .int .i64 c.cQr, .int .i64 c.cBatch, .int .i64 c.cPass, .int .i64 c.cMsg, .int .i64 c.cSeqs]] wx fun e w' => e = .returned (.int .i64 TT) ∧ Below w3.heap.size w3 w') := fun wx hw => by
        have := ConfTicks_any c wx
        rw [show ticksA c = TT from (if_pos HA.out).trans HTT.out] at this
        exact this.mono fun e w' ⟨h, b⟩ => ⟨h, hw.trans (b.mono hw.size)⟩
      have G5 : Hid (∀ wx : World, Below w3.heap.size w3 wx → Calls Try.prog 12 #[.agg #[.int .i64 c.cB, .int .i64 c.cBeam, .int .i64 c.cDepth, .int .i64 c.cWin, .int .i64 c.cQs, .int .i64 c.cQr, .int .i64 c.cBatch, .int .i64 c.cPass, .int .i64 c.cMsg, .int .i64 c.cSeqs], .int .i64 ((q : Int) + 1)] wx fun e w' => e = .returned (.int .i64 C1) ∧ Below w3.heap.size w3 w') := fun wx hw => by
        have := ConfCycles_any c ((q : Int) + 1) wx
        rw [show cyclesA c ((q : Int) + 1) = C1 from (if_pos (show okC c = true ∧ 0 ≤ ((q : Int) + 1) ∧ ((q : Int) + 1) ≤ 2000 from ⟨HA.out, by omega, by have := HQ.out; have := HP.out; omega⟩)).trans HC1.out] at this
        exact this.mono fun e w' ⟨h, b⟩ => ⟨h, hw.trans (b.mono hw.size)⟩
      have G6 : Hid (∀ wx : World, Below w3.heap.size w3 wx → Calls Try.prog 12 #[.agg #[.int .i64 c.cB, .int .i64 c.cBeam, .int .i64 c.cDepth, .int .i64 c.cWin, .int .i64 c.cQs, .int .i64 c.cQr, .int .i64 c.cBatch, .int .i64 c.cPass, .int .i64 c.cMsg, .int .i64 c.cSeqs], .int .i64 (q : Int)] wx fun e w' => e = .returned (.int .i64 C2) ∧ Below w3.heap.size w3 w') := fun wx hw => by
        have := ConfCycles_any c (q : Int) wx
        rw [show cyclesA c (q : Int) = C2 from (if_pos (show okC c = true ∧ 0 ≤ (q : Int) ∧ (q : Int) ≤ 2000 from ⟨HA.out, by omega, by have := HQ.out; have := HP.out; omega⟩)).trans HC2.out] at this
        exact this.mono fun e w' ⟨h, b⟩ => ⟨h, hw.trans (b.mono hw.size)⟩
      have G7 : Hid (∀ wx : World, Below w3.heap.size w3 wx → Calls Try.prog 12 #[.agg #[.int .i64 c.cB, .int .i64 c.cBeam, .int .i64 c.cDepth, .int .i64 c.cWin, .int .i64 c.cQs, .int .i64 c.cQr, .int .i64 c.cBatch, .int .i64 c.cPass, .int .i64 c.cMsg, .int .i64 c.cSeqs], .int .i64 0] wx fun e w' => e = .returned (.int .i64 C0) ∧ Below w3.heap.size w3 w') := fun wx hw => by
        have := ConfCycles_any c 0 wx
        rw [show cyclesA c 0 = C0 from (if_pos (show okC c = true ∧ 0 ≤ (0 : Int) ∧ (0 : Int) ≤ 2000 from ⟨HA.out, by omega, by have := HQ.out; have := HP.out; omega⟩)).trans HC0.out] at this
        exact this.mono fun e w' ⟨h, b⟩ => ⟨h, hw.trans (b.mono hw.size)⟩
      have HWK : Hid (∀ wx : World, Below w3.heap.size w3 wx → Calls Try.prog 13 #[] wx fun e w' => e = .returned (.bool true) ∧ Below w3.heap.size w3 w') := fun wx hw => (confWakes_any wx).mono fun e w' ⟨h, b⟩ => ⟨h, hw.trans (b.mono hw.size)⟩
      have Hxa0 : Hid _ := xa.cell 0 _ rfl
      have Hxa1 : Hid _ := xa.cell 1 _ rfl
      have Hxa2 : Hid _ := xa.cell 2 _ rfl
      have Hxa3 : Hid _ := xa.cell 3 _ rfl
      have Hxa4 : Hid _ := xa.cell 4 _ rfl
      have Hxa5 : Hid _ := xa.cell 5 _ rfl
      have Hxa6 : Hid _ := xa.cell 6 _ rfl
      have Hxa7 : Hid _ := xa.cell 7 _ rfl
      have Hxa8 : Hid _ := xa.cell 8 _ rfl
      have Hxa9 : Hid _ := xa.cell 9 _ rfl
      have hlta := xa.lt
      clear w1_ w4_ w5_ w6_ d1 d2 d3 d5 d6
      have w7_ := Hw7_.out
      have w8_ := Hw8_.out
      have w9_ := Hw9_.out
      have wa_ := Hwa_.out
      have wb_ := Hwb_.out
      have wc_ := Hwc_.out
      have wd_ := Hwd_.out
      have d7 := Hd7.out
      have d8 := Hd8.out
      have d9 := Hd9.out
      have da := Hda.out
      have db := Hdb.out
      go_wp2
      refine wp_region_held_drew (S := fun w' => Below w3.heap.size w3 w') (by kernel_rfl) ((Below.refl _ _).drew) (fun hHeld => ?_)
      refine held_take (i := 0) (d := 67) (v := ?v170) rfl rfl (by kernel_rfl) (by kernel_rfl) (by kernel_rfl) (fun _ _ _ h => h) (Or.inl ⟨by kernel_rfl, ?hy170⟩) hHeld ?rest170
      case hy170 =>
        intro wx hSw
        clear hSw
        go_simp
        with_reducible rfl
      simp only [List.setIfInBounds_toArray, List.set_cons_zero, List.set_cons_succ]
      refine held_take (i := 1) (d := 68) (v := ?v171) rfl rfl (by kernel_rfl) (by kernel_rfl) (by kernel_rfl) (fun _ _ _ h => h) (Or.inl ⟨by kernel_rfl, ?hy171⟩) hHeld ?rest171
      case hy171 =>
        intro wx hSw
        clear hSw
        go_simp
        with_reducible rfl
      simp only [List.setIfInBounds_toArray, List.set_cons_zero, List.set_cons_succ]
      refine held_take (i := 2) (d := 69) (v := ?v172) rfl rfl (by kernel_rfl) (by kernel_rfl) (by kernel_rfl) (fun _ _ _ h => h) (Or.inl ⟨by kernel_rfl, ?hy172⟩) hHeld ?rest172
      case hy172 =>
        intro wx hSw
        clear hSw
        go_simp
        with_reducible rfl
      simp only [List.setIfInBounds_toArray, List.set_cons_zero, List.set_cons_succ]
      refine held_take (i := 3) (d := 70) (v := ?v173) rfl rfl (by kernel_rfl) (by kernel_rfl) (by kernel_rfl) (fun _ _ _ h => h) (Or.inl ⟨by kernel_rfl, ?hy173⟩) hHeld ?rest173
      case hy173 =>
        intro wx hSw
        clear hSw
        go_simp
        with_reducible rfl
      simp only [List.setIfInBounds_toArray, List.set_cons_zero, List.set_cons_succ]
      refine held_take (i := 4) (d := 71) (v := ?v174) rfl rfl (by kernel_rfl) (by kernel_rfl) (by kernel_rfl) (fun _ _ _ h => h) (Or.inl ⟨by kernel_rfl, ?hy174⟩) hHeld ?rest174
      case hy174 =>
        intro wx hSw
        clear hSw
        go_simp
        with_reducible rfl
      simp only [List.setIfInBounds_toArray, List.set_cons_zero, List.set_cons_succ]
      refine held_take (i := 5) (d := 72) (v := ?v175) rfl rfl (by kernel_rfl) (by kernel_rfl) (by kernel_rfl) (fun _ _ _ h => h) (Or.inl ⟨by kernel_rfl, ?hy175⟩) hHeld ?rest175
      case hy175 =>
        intro wx hSw
        have q0 := (hSw.cell (p := ⟨w.heap.size, 6, none⟩) hlta).trans Hxa6.out
        clear hSw
        go_simp
        with_reducible rfl
      simp only [List.setIfInBounds_toArray, List.set_cons_zero, List.set_cons_succ]
      refine held_take (i := 6) (d := 73) (v := ?v176) rfl rfl (by kernel_rfl) (by kernel_rfl) (by kernel_rfl) (fun _ _ _ h => h) (Or.inl ⟨by kernel_rfl, ?hy176⟩) hHeld ?rest176
      case hy176 =>
        intro wx hSw
        clear hSw
        go_simp
        with_reducible rfl
      simp only [List.setIfInBounds_toArray, List.set_cons_zero, List.set_cons_succ]
      refine held_take (i := 7) (d := 74) (v := ?v177) rfl rfl (by kernel_rfl) (by kernel_rfl) (by kernel_rfl) (fun _ _ _ h => h) (Or.inl ⟨by kernel_rfl, ?hy177⟩) hHeld ?rest177
      case hy177 =>
        intro wx hSw
        have q0 := (hSw.cell (p := ⟨w.heap.size, 0, none⟩) hlta).trans Hxa0.out
        have q1 := (hSw.cell (p := ⟨w.heap.size, 1, none⟩) hlta).trans Hxa1.out
        have q2 := (hSw.cell (p := ⟨w.heap.size, 2, none⟩) hlta).trans Hxa2.out
        have q3 := (hSw.cell (p := ⟨w.heap.size, 3, none⟩) hlta).trans Hxa3.out
        have q4 := (hSw.cell (p := ⟨w.heap.size, 4, none⟩) hlta).trans Hxa4.out
        have q5 := (hSw.cell (p := ⟨w.heap.size, 5, none⟩) hlta).trans Hxa5.out
        have q6 := (hSw.cell (p := ⟨w.heap.size, 6, none⟩) hlta).trans Hxa6.out
        have q7 := (hSw.cell (p := ⟨w.heap.size, 7, none⟩) hlta).trans Hxa7.out
        have q8 := (hSw.cell (p := ⟨w.heap.size, 8, none⟩) hlta).trans Hxa8.out
        have q9 := (hSw.cell (p := ⟨w.heap.size, 9, none⟩) hlta).trans Hxa9.out
        clear hSw
        go_simp
        with_reducible rfl
      simp only [List.setIfInBounds_toArray, List.set_cons_zero, List.set_cons_succ]
      refine wpAnyH_ready (rs := [8]) (by kernel_rfl) (by simp) ?_
      refine AllReadyH.cons rfl (fun K hK => ?_) AllReadyH.nil
      go_simp
      go_wp2_with (go_at_call 9; refine (G2.out _ (by exact hHeld)).mono ?_; rintro e wb ⟨rfl, b8⟩)
      refine hK.out _ _ (b8) (fun hHeld => ?_)
      clear hK K
      refine held_take (i := 9) (d := 76) (v := ?v178) rfl rfl (by kernel_rfl) (by kernel_rfl) (by kernel_rfl) (fun _ _ _ h => h) (Or.inl ⟨by kernel_rfl, ?hy178⟩) hHeld ?rest178
      case hy178 =>
        intro wx hSw
        clear hSw
        go_simp
        with_reducible rfl
      simp only [List.setIfInBounds_toArray, List.set_cons_zero, List.set_cons_succ]
      refine held_take (i := 10) (d := 77) (v := ?v179) rfl rfl (by kernel_rfl) (by kernel_rfl) (by kernel_rfl) (fun _ _ _ h => h) (Or.inl ⟨by kernel_rfl, ?hy179⟩) hHeld ?rest179
      case hy179 =>
        intro wx hSw
        clear hSw
        go_simp
        with_reducible rfl
      simp only [List.setIfInBounds_toArray, List.set_cons_zero, List.set_cons_succ]
      refine held_take (i := 11) (d := 78) (v := ?v180) rfl rfl (by kernel_rfl) (by kernel_rfl) (by kernel_rfl) (fun _ _ _ h => h) (Or.inl ⟨by kernel_rfl, ?hy180⟩) hHeld ?rest180
      case hy180 =>
        intro wx hSw
        clear hSw
        go_simp
        with_reducible rfl
      simp only [List.setIfInBounds_toArray, List.set_cons_zero, List.set_cons_succ]
      refine held_take (i := 12) (d := 79) (v := ?v181) rfl rfl (by kernel_rfl) (by kernel_rfl) (by kernel_rfl) (fun _ _ _ h => h) (Or.inl ⟨by kernel_rfl, ?hy181⟩) hHeld ?rest181
      case hy181 =>
        intro wx hSw
        clear hSw
        go_simp
        with_reducible rfl
      simp only [List.setIfInBounds_toArray, List.set_cons_zero, List.set_cons_succ]
      refine held_take (i := 13) (d := 80) (v := ?v182) rfl rfl (by kernel_rfl) (by kernel_rfl) (by kernel_rfl) (fun _ _ _ h => h) (Or.inl ⟨by kernel_rfl, ?hy182⟩) hHeld ?rest182
      case hy182 =>
        intro wx hSw
        clear hSw
        go_simp
        with_reducible rfl
      simp only [List.setIfInBounds_toArray, List.set_cons_zero, List.set_cons_succ]
      refine held_take (i := 14) (d := 81) (v := ?v183) rfl rfl (by kernel_rfl) (by kernel_rfl) (by kernel_rfl) (fun _ _ _ h => h) (Or.inl ⟨by kernel_rfl, ?hy183⟩) hHeld ?rest183
      case hy183 =>
        intro wx hSw
        clear hSw
        go_simp
        with_reducible rfl
      simp only [List.setIfInBounds_toArray, List.set_cons_zero, List.set_cons_succ]
      refine held_take (i := 15) (d := 82) (v := ?v184) rfl rfl (by kernel_rfl) (by kernel_rfl) (by kernel_rfl) (fun _ _ _ h => h) (Or.inl ⟨by kernel_rfl, ?hy184⟩) hHeld ?rest184
      case hy184 =>
        intro wx hSw
        have q0 := (hSw.cell (p := ⟨w.heap.size, 6, none⟩) hlta).trans Hxa6.out
        clear hSw
        go_simp
        with_reducible rfl
      simp only [List.setIfInBounds_toArray, List.set_cons_zero, List.set_cons_succ]
      refine held_take (i := 16) (d := 83) (v := ?v185) rfl rfl (by kernel_rfl) (by kernel_rfl) (by kernel_rfl) (fun _ _ _ h => h) (Or.inl ⟨by kernel_rfl, ?hy185⟩) hHeld ?rest185
      case hy185 =>
        intro wx hSw
        clear hSw
        go_simp
        with_reducible rfl
      simp only [List.setIfInBounds_toArray, List.set_cons_zero, List.set_cons_succ]
      refine held_take (i := 17) (d := 84) (v := ?v186) rfl rfl (by kernel_rfl) (by kernel_rfl) (by kernel_rfl) (fun _ _ _ h => h) (Or.inl ⟨by kernel_rfl, ?hy186⟩) hHeld ?rest186
      case hy186 =>
        intro wx hSw
        have q0 := (hSw.cell (p := ⟨w.heap.size, 0, none⟩) hlta).trans Hxa0.out
        have q1 := (hSw.cell (p := ⟨w.heap.size, 1, none⟩) hlta).trans Hxa1.out
        have q2 := (hSw.cell (p := ⟨w.heap.size, 2, none⟩) hlta).trans Hxa2.out
        have q3 := (hSw.cell (p := ⟨w.heap.size, 3, none⟩) hlta).trans Hxa3.out
        have q4 := (hSw.cell (p := ⟨w.heap.size, 4, none⟩) hlta).trans Hxa4.out
        have q5 := (hSw.cell (p := ⟨w.heap.size, 5, none⟩) hlta).trans Hxa5.out
        have q6 := (hSw.cell (p := ⟨w.heap.size, 6, none⟩) hlta).trans Hxa6.out
        have q7 := (hSw.cell (p := ⟨w.heap.size, 7, none⟩) hlta).trans Hxa7.out
        have q8 := (hSw.cell (p := ⟨w.heap.size, 8, none⟩) hlta).trans Hxa8.out
        have q9 := (hSw.cell (p := ⟨w.heap.size, 9, none⟩) hlta).trans Hxa9.out
        clear hSw
        go_simp
        with_reducible rfl
      simp only [List.setIfInBounds_toArray, List.set_cons_zero, List.set_cons_succ]
      refine wpAnyH_ready (rs := [18]) (by kernel_rfl) (by simp) ?_
      refine AllReadyH.cons rfl (fun K hK => ?_) AllReadyH.nil
      go_simp
      go_wp2_with (go_at_call 9; refine (G2.out _ (by exact hHeld)).mono ?_; rintro e wb ⟨rfl, b8⟩)
      refine hK.out _ _ (b8) (fun hHeld => ?_)
      clear hK K
      refine held_take (i := 19) (d := 86) (v := ?v187) rfl rfl (by kernel_rfl) (by kernel_rfl) (by kernel_rfl) (fun _ _ _ h => h) (Or.inl ⟨by kernel_rfl, ?hy187⟩) hHeld ?rest187
      case hy187 =>
        intro wx hSw
        clear hSw
        go_simp
        with_reducible rfl
      simp only [List.setIfInBounds_toArray, List.set_cons_zero, List.set_cons_succ]
      refine held_take (i := 20) (d := 87) (v := ?v188) rfl rfl (by kernel_rfl) (by kernel_rfl) (by kernel_rfl) (fun _ _ _ h => h) (Or.inl ⟨by kernel_rfl, ?hy188⟩) hHeld ?rest188
      case hy188 =>
        intro wx hSw
        clear hSw
        go_simp
        with_reducible rfl
      simp only [List.setIfInBounds_toArray, List.set_cons_zero, List.set_cons_succ]
      refine held_take (i := 21) (d := 88) (v := ?v189) rfl rfl (by kernel_rfl) (by kernel_rfl) (by kernel_rfl) (fun _ _ _ h => h) (Or.inl ⟨by kernel_rfl, ?hy189⟩) hHeld ?rest189
      case hy189 =>
        intro wx hSw
        clear hSw
        go_simp
        with_reducible rfl
      simp only [List.setIfInBounds_toArray, List.set_cons_zero, List.set_cons_succ]
      refine held_take (i := 22) (d := 89) (v := ?v190) rfl rfl (by kernel_rfl) (by kernel_rfl) (by kernel_rfl) (fun _ _ _ h => h) (Or.inl ⟨by kernel_rfl, ?hy190⟩) hHeld ?rest190
      case hy190 =>
        intro wx hSw
        have q0 := (hSw.cell (p := ⟨w.heap.size, 0, none⟩) hlta).trans Hxa0.out
        have q1 := (hSw.cell (p := ⟨w.heap.size, 1, none⟩) hlta).trans Hxa1.out
        have q2 := (hSw.cell (p := ⟨w.heap.size, 2, none⟩) hlta).trans Hxa2.out
        have q3 := (hSw.cell (p := ⟨w.heap.size, 3, none⟩) hlta).trans Hxa3.out
        have q4 := (hSw.cell (p := ⟨w.heap.size, 4, none⟩) hlta).trans Hxa4.out
        have q5 := (hSw.cell (p := ⟨w.heap.size, 5, none⟩) hlta).trans Hxa5.out
        have q6 := (hSw.cell (p := ⟨w.heap.size, 6, none⟩) hlta).trans Hxa6.out
        have q7 := (hSw.cell (p := ⟨w.heap.size, 7, none⟩) hlta).trans Hxa7.out
        have q8 := (hSw.cell (p := ⟨w.heap.size, 8, none⟩) hlta).trans Hxa8.out
        have q9 := (hSw.cell (p := ⟨w.heap.size, 9, none⟩) hlta).trans Hxa9.out
        clear hSw
        go_simp
        with_reducible rfl
      simp only [List.setIfInBounds_toArray, List.set_cons_zero, List.set_cons_succ]
      refine held_take (i := 23) (d := 90) (v := ?v191) rfl rfl (by kernel_rfl) (by kernel_rfl) (by kernel_rfl) (fun _ _ _ h => h) (Or.inl ⟨by kernel_rfl, ?hy191⟩) hHeld ?rest191
      case hy191 =>
        intro wx hSw
        clear hSw
        go_simp
        with_reducible rfl
      simp only [List.setIfInBounds_toArray, List.set_cons_zero, List.set_cons_succ]
      refine held_take (i := 24) (d := 91) (v := ?v192) rfl rfl (by kernel_rfl) (by kernel_rfl) (by kernel_rfl) (fun _ _ _ h => h) (Or.inl ⟨by kernel_rfl, ?hy192⟩) hHeld ?rest192
      case hy192 =>
        intro wx hSw
        clear hSw
        go_simp
        with_reducible rfl
      simp only [List.setIfInBounds_toArray, List.set_cons_zero, List.set_cons_succ]
      refine held_take (i := 26) (d := 93) (v := ?v193) rfl rfl (by kernel_rfl) (by kernel_rfl) (by kernel_rfl) (fun _ _ _ h => h) (Or.inl ⟨by kernel_rfl, ?hy193⟩) hHeld ?rest193
      case hy193 =>
        intro wx hSw
        have q0 := (hSw.cell (p := ⟨w.heap.size, 0, none⟩) hlta).trans Hxa0.out
        have q1 := (hSw.cell (p := ⟨w.heap.size, 1, none⟩) hlta).trans Hxa1.out
        have q2 := (hSw.cell (p := ⟨w.heap.size, 2, none⟩) hlta).trans Hxa2.out
        have q3 := (hSw.cell (p := ⟨w.heap.size, 3, none⟩) hlta).trans Hxa3.out
        have q4 := (hSw.cell (p := ⟨w.heap.size, 4, none⟩) hlta).trans Hxa4.out
        have q5 := (hSw.cell (p := ⟨w.heap.size, 5, none⟩) hlta).trans Hxa5.out
        have q6 := (hSw.cell (p := ⟨w.heap.size, 6, none⟩) hlta).trans Hxa6.out
        have q7 := (hSw.cell (p := ⟨w.heap.size, 7, none⟩) hlta).trans Hxa7.out
        have q8 := (hSw.cell (p := ⟨w.heap.size, 8, none⟩) hlta).trans Hxa8.out
        have q9 := (hSw.cell (p := ⟨w.heap.size, 9, none⟩) hlta).trans Hxa9.out
        clear hSw
        go_simp
        with_reducible rfl
      simp only [List.setIfInBounds_toArray, List.set_cons_zero, List.set_cons_succ]
      refine held_take (i := 27) (d := 94) (v := ?v194) rfl rfl (by kernel_rfl) (by kernel_rfl) (by kernel_rfl) (fun _ _ _ h => h) (Or.inl ⟨by kernel_rfl, ?hy194⟩) hHeld ?rest194
      case hy194 =>
        intro wx hSw
        clear hSw
        go_simp
        with_reducible rfl
      simp only [List.setIfInBounds_toArray, List.set_cons_zero, List.set_cons_succ]
      refine held_take (i := 30) (d := 97) (v := ?v195) rfl rfl (by kernel_rfl) (by kernel_rfl) (by kernel_rfl) (fun _ _ _ h => h) (Or.inl ⟨by kernel_rfl, ?hy195⟩) hHeld ?rest195
      case hy195 =>
        intro wx hSw
        clear hSw
        go_simp
        with_reducible rfl
      simp only [List.setIfInBounds_toArray, List.set_cons_zero, List.set_cons_succ]
      refine held_take (i := 31) (d := 98) (v := ?v196) rfl rfl (by kernel_rfl) (by kernel_rfl) (by kernel_rfl) (fun _ _ _ h => h) (Or.inl ⟨by kernel_rfl, ?hy196⟩) hHeld ?rest196
      case hy196 =>
        intro wx hSw
        clear hSw
        go_simp
        with_reducible rfl
      simp only [List.setIfInBounds_toArray, List.set_cons_zero, List.set_cons_succ]
      refine held_take (i := 32) (d := 99) (v := ?v197) rfl rfl (by kernel_rfl) (by kernel_rfl) (by kernel_rfl) (fun _ _ _ h => h) (Or.inl ⟨by kernel_rfl, ?hy197⟩) hHeld ?rest197
      case hy197 =>
        intro wx hSw
        clear hSw
        go_simp
        with_reducible rfl
      simp only [List.setIfInBounds_toArray, List.set_cons_zero, List.set_cons_succ]
      refine wpAnyH_ready (rs := [25]) (by kernel_rfl) (by simp) ?_
      refine AllReadyH.cons rfl (fun K hK => ?_) AllReadyH.nil
      go_simp
      go_wp2_with (go_at_call 12; refine (G5.out _ (by exact hHeld)).mono ?_; rintro e wb ⟨rfl, b8⟩)
      refine hK.out _ _ (b8) (fun hHeld => ?_)
      clear hK K
      refine wpAnyH_ready (rs := [28]) (by kernel_rfl) (by simp) ?_
      refine AllReadyH.cons rfl (fun K hK => ?_) AllReadyH.nil
      go_simp
      go_wp2_with (go_at_call 12; refine (G6.out _ (by exact hHeld)).mono ?_; rintro e wb ⟨rfl, b8⟩)
      refine hK.out _ _ (b8) (fun hHeld => ?_)
      clear hK K
      refine held_take (i := 29) (d := 96) (v := ?v198) rfl rfl (by kernel_rfl) (by kernel_rfl) (by kernel_rfl) (fun _ _ _ h => h) (Or.inl ⟨by kernel_rfl, ?hy198⟩) hHeld ?rest198
      case hy198 =>
        intro wx hSw
        clear hSw
        go_simp
        with_reducible rfl
      simp only [List.setIfInBounds_toArray, List.set_cons_zero, List.set_cons_succ]
      refine held_take (i := 33) (d := 100) (v := ?v199) rfl rfl (by kernel_rfl) (by kernel_rfl) (by kernel_rfl) (fun _ _ _ h => h) (Or.inl ⟨by kernel_rfl, ?hy199⟩) hHeld ?rest199
      case hy199 =>
        intro wx hSw
        clear hSw
        go_simp
        with_reducible rfl
      simp only [List.setIfInBounds_toArray, List.set_cons_zero, List.set_cons_succ]
      refine held_take (i := 34) (d := 101) (v := ?v200) rfl rfl (by kernel_rfl) (by kernel_rfl) (by kernel_rfl) (fun _ _ _ h => h) (Or.inl ⟨by kernel_rfl, ?hy200⟩) hHeld ?rest200
      case hy200 =>
        intro wx hSw
        clear hSw
        go_simp
        with_reducible rfl
      simp only [List.setIfInBounds_toArray, List.set_cons_zero, List.set_cons_succ]
      refine held_take (i := 35) (d := 102) (v := ?v201) rfl rfl (by kernel_rfl) (by kernel_rfl) (by kernel_rfl) (fun _ _ _ h => h) (Or.inl ⟨by kernel_rfl, ?hy201⟩) hHeld ?rest201
      case hy201 =>
        intro wx hSw
        clear hSw
        go_simp
        with_reducible rfl
      simp only [List.setIfInBounds_toArray, List.set_cons_zero, List.set_cons_succ]
      refine held_take (i := 36) (d := 103) (v := ?v202) rfl rfl (by kernel_rfl) (by kernel_rfl) (by kernel_rfl) (fun _ _ _ h => h) (Or.inl ⟨by kernel_rfl, ?hy202⟩) hHeld ?rest202
      case hy202 =>
        intro wx hSw
        have q0 := (hSw.cell (p := ⟨w.heap.size, 0, none⟩) hlta).trans Hxa0.out
        have q1 := (hSw.cell (p := ⟨w.heap.size, 1, none⟩) hlta).trans Hxa1.out
        have q2 := (hSw.cell (p := ⟨w.heap.size, 2, none⟩) hlta).trans Hxa2.out
        have q3 := (hSw.cell (p := ⟨w.heap.size, 3, none⟩) hlta).trans Hxa3.out
        have q4 := (hSw.cell (p := ⟨w.heap.size, 4, none⟩) hlta).trans Hxa4.out
        have q5 := (hSw.cell (p := ⟨w.heap.size, 5, none⟩) hlta).trans Hxa5.out
        have q6 := (hSw.cell (p := ⟨w.heap.size, 6, none⟩) hlta).trans Hxa6.out
        have q7 := (hSw.cell (p := ⟨w.heap.size, 7, none⟩) hlta).trans Hxa7.out
        have q8 := (hSw.cell (p := ⟨w.heap.size, 8, none⟩) hlta).trans Hxa8.out
        have q9 := (hSw.cell (p := ⟨w.heap.size, 9, none⟩) hlta).trans Hxa9.out
        clear hSw
        go_simp
        with_reducible rfl
      simp only [List.setIfInBounds_toArray, List.set_cons_zero, List.set_cons_succ]
      refine held_take (i := 38) (d := 105) (v := ?v203) rfl rfl (by kernel_rfl) (by kernel_rfl) (by kernel_rfl) (fun _ _ _ h => h) (Or.inl ⟨by kernel_rfl, ?hy203⟩) hHeld ?rest203
      case hy203 =>
        intro wx hSw
        clear hSw
        go_simp
        with_reducible rfl
      simp only [List.setIfInBounds_toArray, List.set_cons_zero, List.set_cons_succ]
      refine held_take (i := 39) (d := 106) (v := ?v204) rfl rfl (by kernel_rfl) (by kernel_rfl) (by kernel_rfl) (fun _ _ _ h => h) (Or.inl ⟨by kernel_rfl, ?hy204⟩) hHeld ?rest204
      case hy204 =>
        intro wx hSw
        clear hSw
        go_simp
        with_reducible rfl
      simp only [List.setIfInBounds_toArray, List.set_cons_zero, List.set_cons_succ]
      refine held_take (i := 40) (d := 107) (v := ?v205) rfl rfl (by kernel_rfl) (by kernel_rfl) (by kernel_rfl) (fun _ _ _ h => h) (Or.inl ⟨by kernel_rfl, ?hy205⟩) hHeld ?rest205
      case hy205 =>
        intro wx hSw
        clear hSw
        go_simp
        with_reducible rfl
      simp only [List.setIfInBounds_toArray, List.set_cons_zero, List.set_cons_succ]
      refine wpAnyH_ready (rs := [37]) (by kernel_rfl) (by simp) ?_
      refine AllReadyH.cons rfl (fun K hK => ?_) AllReadyH.nil
      go_simp
      go_wp2_with (go_at_call 12; refine (G7.out _ (by exact hHeld)).mono ?_; rintro e wb ⟨rfl, b8⟩)
      refine hK.out _ _ (b8) (fun hHeld => ?_)
      clear hK K
      refine held_take (i := 41) (d := 108) (v := ?v206) rfl rfl (by kernel_rfl) (by kernel_rfl) (by kernel_rfl) (fun _ _ _ h => h) (Or.inl ⟨by kernel_rfl, ?hy206⟩) hHeld ?rest206
      case hy206 =>
        intro wx hSw
        clear hSw
        go_simp
        with_reducible rfl
      simp only [List.setIfInBounds_toArray, List.set_cons_zero, List.set_cons_succ]
      refine held_take (i := 42) (d := 109) (v := ?v207) rfl rfl (by kernel_rfl) (by kernel_rfl) (by kernel_rfl) (fun _ _ _ h => h) (Or.inl ⟨by kernel_rfl, ?hy207⟩) hHeld ?rest207
      case hy207 =>
        intro wx hSw
        clear hSw
        go_simp
        with_reducible rfl
      simp only [List.setIfInBounds_toArray, List.set_cons_zero, List.set_cons_succ]
      refine held_take (i := 43) (d := 110) (v := ?v208) rfl rfl (by kernel_rfl) (by kernel_rfl) (by kernel_rfl) (fun _ _ _ h => h) (Or.inl ⟨by kernel_rfl, ?hy208⟩) hHeld ?rest208
      case hy208 =>
        intro wx hSw
        clear hSw
        go_simp
        with_reducible rfl
      simp only [List.setIfInBounds_toArray, List.set_cons_zero, List.set_cons_succ]
      refine wpAnyH_ready (rs := [44]) (by kernel_rfl) (by simp) ?_
      refine AllReadyH.cons rfl (fun K hK => ?_) AllReadyH.nil
      go_simp
      go_wp2_with (go_at_call 13; refine (HWK.out _ (by exact hHeld)).mono ?_; rintro e wb ⟨rfl, b8⟩)
      refine hK.out _ _ (b8) (fun hHeld => ?_)
      clear hK K
      refine held_take (i := 45) (d := 112) (v := ?v209) rfl rfl (by kernel_rfl) (by kernel_rfl) (by kernel_rfl) (fun _ _ _ h => h) (Or.inl ⟨by kernel_rfl, ?hy209⟩) hHeld ?rest209
      case hy209 =>
        intro wx hSw
        clear hSw
        go_simp
        with_reducible rfl
      simp only [List.setIfInBounds_toArray, List.set_cons_zero, List.set_cons_succ]
      refine wpAnyH_ready (rs := [46]) (by kernel_rfl) (by simp) ?_
      refine AllReadyH.cons rfl (fun K hK => ?_) AllReadyH.nil
      go_simp
      refine hK.out _ _ hHeld (fun hHeld => ?_)
      clear hK K
      refine wpAnyH_done (by kernel_rfl) ?_ _
      go_wp2
      go_ret
      exact ⟨rfl, bb.trans (hHeld.mono bb.size)⟩

set_option maxRecDepth 100000 in
set_option maxHeartbeats 4000000 in
theorem confCounts_many (c : Cfg) (x y : Int) (hA : okC c = true) (p q : Nat) (hp : p ≤ 200) (hq : q < 2000) (ep : (IntKind.u64.wrap x).tmod 201 = (p : Int)) (eq_ : (IntKind.u64.wrap y).tmod 2000 = (q : Int)) (hn : 1 < blocksC c p) (w : World) :
    Calls Try.prog 4 #[.agg #[.int .i64 c.cB, .int .i64 c.cBeam, .int .i64 c.cDepth, .int .i64 c.cWin, .int .i64 c.cQs, .int .i64 c.cQr, .int .i64 c.cBatch, .int .i64 c.cPass, .int .i64 c.cMsg, .int .i64 c.cSeqs], .int .i64 x, .int .i64 y] w fun e w' => e = .returned (.bool true) ∧ Below w.heap.size w w' := by
  have Hwe : Hid (wrap64 (p : Int) = (p : Int)) := wrap64_small (by omega) (by omega)
  have Hwf : Hid (wrap64 (q : Int) = (q : Int)) := wrap64_small (by omega) (by omega)
  have Hwg : Hid (wrap64 ((q : Int) + 1) = (q : Int) + 1) := wrap64_small (by omega) (by omega)
  have bb : Below w.heap.size w (w.alloc (.cells #[.int .i64 c.cB, .int .i64 c.cBeam, .int .i64 c.cDepth, .int .i64 c.cWin, .int .i64 c.cQs, .int .i64 c.cQr, .int .i64 c.cBatch, .int .i64 c.cPass, .int .i64 c.cMsg, .int .i64 c.cSeqs] 23)) := (Below.refl w.heap.size w).alloc (Nat.le_refl _) _
  have xa := Box.new w 23 #[.int .i64 c.cB, .int .i64 c.cBeam, .int .i64 c.cDepth, .int .i64 c.cWin, .int .i64 c.cQs, .int .i64 c.cQr, .int .i64 c.cBatch, .int .i64 c.cPass, .int .i64 c.cMsg, .int .i64 c.cSeqs]
  have HA : Hid (okC c = true) := hA
  have hI := (okC_iff c).1 hA
  have hB := hI.1
  have hBa := hI.2.2.2.2.2.2.1
  have hPa := hI.2.2.2.2.2.2.2.1
  have hbl := blocksC_bd hA (n := (p : Int)) (by omega) (by omega)
  have htk := ticksC_bd hA
  have hmo := mostC_bd hA
  have hse := segsC_bd hA
  have hc0 := cyclesC_zero c
  have hcn := cyclesC_next c (q : Int)
  have hcb := cyclesC_bd hA (n := (q : Int)) (by omega) (by omega)
  have hcb2 := cyclesC_bd hA (n := (q : Int) + 1) (by omega) (by omega)
  have eSe : segsC c = 2 * (c.cB + 10) := rfl
  have eMo : mostC c = segsC c * c.cPass := rfl
  obtain ⟨BN, hBN⟩ : ∃ v, blocksC c p = v := ⟨_, rfl⟩
  obtain ⟨TT, hTT⟩ : ∃ v, ticksC c = v := ⟨_, rfl⟩
  obtain ⟨M, hM⟩ : ∃ v, mostC c = v := ⟨_, rfl⟩
  obtain ⟨S, hS⟩ : ∃ v, segsC c = v := ⟨_, rfl⟩
  obtain ⟨C1, hC1⟩ : ∃ v, cyclesC c ((q : Int) + 1) = v := ⟨_, rfl⟩
  obtain ⟨C2, hC2⟩ : ∃ v, cyclesC c (q : Int) = v := ⟨_, rfl⟩
  obtain ⟨C0, hC0⟩ : ∃ v, cyclesC c 0 = v := ⟨_, rfl⟩
  rw [hBN] at hbl hn
  rw [hTT, hM] at htk
  rw [hM] at hmo
  rw [hS] at hse eSe
  rw [hM, hS] at eMo
  rw [hC0, hTT] at hc0
  rw [hC1, hC2, hTT] at hcn
  rw [hC2] at hcb
  rw [hC1] at hcb2
  have m1 := mul_in (a := BN) (b := c.cB) (A := 200) (B := 16) (by omega) (by omega) (by omega) (by omega)
  have m2 := mul_in (a := BN - 1) (b := c.cB) (A := 200) (B := 16) (by omega) (by omega) (by omega) (by omega)
  have m3 := mul_in (a := TT) (b := c.cBatch) (A := 832) (B := 64) (by omega) (by omega) (by omega) (by omega)
  have m4 := mul_in (a := TT - 1) (b := c.cBatch) (A := 832) (B := 64) (by omega) (by omega) (by omega) (by omega)
  have Hw1_ : Hid (IntKind.i64.wrap (BN * c.cB) = BN * c.cB) := wrap_in (by omega) (by omega)
  have Hw2_ : Hid (IntKind.i64.wrap ((BN - 1) * c.cB) = (BN - 1) * c.cB) := wrap_in (by omega) (by omega)
  have Hw3_ : Hid (IntKind.i64.wrap (BN - 1) = BN - 1) := wrap_in (by omega) (by omega)
  have Hw4_ : Hid (IntKind.i64.wrap (c.cB + 10) = c.cB + 10) := wrap_in (by omega) (by omega)
  have Hw5_ : Hid (IntKind.i64.wrap (2 * (c.cB + 10)) = 2 * (c.cB + 10)) := wrap_in (by omega) (by omega)
  have Hw6_ : Hid (IntKind.i64.wrap (S * c.cPass) = S * c.cPass) := wrap_in (by omega) (by omega)
  have Hw7_ : Hid (IntKind.i64.wrap (TT * c.cBatch) = TT * c.cBatch) := wrap_in (by omega) (by omega)
  have Hw8_ : Hid (IntKind.i64.wrap ((TT - 1) * c.cBatch) = (TT - 1) * c.cBatch) := wrap_in (by omega) (by omega)
  have Hw9_ : Hid (IntKind.i64.wrap (TT - 1) = TT - 1) := wrap_in (by omega) (by omega)
  have Hwa_ : Hid (IntKind.i64.wrap ((q : Int) + 1) = (q : Int) + 1) := wrap_in (by omega) (by omega)
  have Hwb_ : Hid (IntKind.i64.wrap (3 * TT) = 3 * TT) := wrap_in (by omega) (by omega)
  have Hwc_ : Hid (IntKind.i64.wrap (3 * TT + 2) = 3 * TT + 2) := wrap_in (by omega) (by omega)
  have Hwd_ : Hid (IntKind.i64.wrap (C1 - C2) = C1 - C2) := wrap_in (by omega) (by omega)
  have Hd1 : Hid (decide (BN < 1) = false) := decide_eq_false (by omega)
  have Hd2 : Hid (decide (BN * c.cB < (p : Int)) = false) := decide_eq_false (by omega)
  have Hd3 : Hid (decide (1 < BN) = true) := decide_eq_true (by omega)
  have Hd4 : Hid (decide ((p : Int) ≤ (BN - 1) * c.cB) = false) := decide_eq_false (by have := hbl.2.2.2 (by omega); omega)
  have Hd5 : Hid ((S != 2 * (c.cB + 10)) = false) := by rw [bne_eq_false_iff_eq]; exact eSe
  have Hd6 : Hid ((M != S * c.cPass) = false) := by rw [bne_eq_false_iff_eq]; exact eMo
  have Hd7 : Hid (decide (1 ≤ TT) = true) := decide_eq_true (by omega)
  have Hd8 : Hid (decide (M ≤ TT * c.cBatch) = true) := decide_eq_true (by omega)
  have Hd9 : Hid (decide ((TT - 1) * c.cBatch < M) = true) := decide_eq_true (by omega)
  have Hda : Hid ((C1 - C2 == 3 * TT + 2) = true) := beq_iff_eq.2 (by omega)
  have Hdb : Hid ((C0 == 3 * TT + 2) = true) := beq_iff_eq.2 (by omega)
  have HC := refConfig_any c (w.alloc (.cells #[.int .i64 c.cB, .int .i64 c.cBeam, .int .i64 c.cDepth, .int .i64 c.cWin, .int .i64 c.cQs, .int .i64 c.cQr, .int .i64 c.cBatch, .int .i64 c.cPass, .int .i64 c.cMsg, .int .i64 c.cSeqs] 23))
  rw [HA.out] at HC
  have HBN : Hid (blocksC c (p : Int) = BN) := hBN
  have HTT : Hid (ticksC c = TT) := hTT
  have HM : Hid (mostC c = M) := hM
  have HS : Hid (segsC c = S) := hS
  have HC1 : Hid (cyclesC c ((q : Int) + 1) = C1) := hC1
  have HC2 : Hid (cyclesC c (q : Int) = C2) := hC2
  have HC0 : Hid (cyclesC c 0 = C0) := hC0
  have HQ : Hid (q < 2000) := hq
  have HP : Hid (p ≤ 200) := hp
  clear hI hB hBa hPa hbl htk hmo hse hc0 hcn hcb hcb2 eSe eMo hBN hTT hM hS hC1 hC2 hC0 m1 m2 m3 m4 hA hn hp hq
  have we_ := Hwe.out
  have wf_ := Hwf.out
  have wg_ := Hwg.out
  go_enter Try.func4, Try.ntmps4
  have cxa0 := xa.cell 0 _ rfl
  have cxa1 := xa.cell 1 _ rfl
  have cxa2 := xa.cell 2 _ rfl
  have cxa3 := xa.cell 3 _ rfl
  have cxa4 := xa.cell 4 _ rfl
  have cxa5 := xa.cell 5 _ rfl
  have cxa6 := xa.cell 6 _ rfl
  have cxa7 := xa.cell 7 _ rfl
  have cxa8 := xa.cell 8 _ rfl
  have cxa9 := xa.cell 9 _ rfl
  go_wp2_with fail
  refine (HC).mono ?_
  rintro e w1 ⟨rfl, b9⟩
  clear cxa0 cxa1 cxa2 cxa3 cxa4 cxa5 cxa6 cxa7 cxa8 cxa9
  replace xa := xa.next b9
  replace bb := bb.trans (b9.mono bb.size)
  clear b9
  clear HC
  have G1 : Hid (∀ wx : World, Below w1.heap.size w1 wx → Calls Try.prog 8 #[.agg #[.int .i64 c.cB, .int .i64 c.cBeam, .int .i64 c.cDepth, .int .i64 c.cWin, .int .i64 c.cQs, .int .i64 c.cQr, .int .i64 c.cBatch, .int .i64 c.cPass, .int .i64 c.cMsg, .int .i64 c.cSeqs]] wx fun e w' => e = .returned (.int .i64 S) ∧ Below w1.heap.size w1 w') := fun wx hw => by
    have := ConfSegs_any c wx
    rw [show segsA c = S from (if_pos HA.out).trans HS.out] at this
    exact this.mono fun e w' ⟨h, b⟩ => ⟨h, hw.trans (b.mono hw.size)⟩
  have G2 : Hid (∀ wx : World, Below w1.heap.size w1 wx → Calls Try.prog 9 #[.agg #[.int .i64 c.cB, .int .i64 c.cBeam, .int .i64 c.cDepth, .int .i64 c.cWin, .int .i64 c.cQs, .int .i64 c.cQr, .int .i64 c.cBatch, .int .i64 c.cPass, .int .i64 c.cMsg, .int .i64 c.cSeqs]] wx fun e w' => e = .returned (.int .i64 M) ∧ Below w1.heap.size w1 w') := fun wx hw => by
    have := ConfMost_any c wx
    rw [show mostA c = M from (if_pos HA.out).trans HM.out] at this
    exact this.mono fun e w' ⟨h, b⟩ => ⟨h, hw.trans (b.mono hw.size)⟩
  have G3 : Hid (∀ wx : World, Below w1.heap.size w1 wx → Calls Try.prog 10 #[.agg #[.int .i64 c.cB, .int .i64 c.cBeam, .int .i64 c.cDepth, .int .i64 c.cWin, .int .i64 c.cQs, .int .i64 c.cQr, .int .i64 c.cBatch, .int .i64 c.cPass, .int .i64 c.cMsg, .int .i64 c.cSeqs], .int .i64 (p : Int)] wx fun e w' => e = .returned (.int .i64 BN) ∧ Below w1.heap.size w1 w') := fun wx hw => by
    have := ConfBlocks_any c (p : Int) wx
    rw [show blocksA c (p : Int) = BN from (if_pos (show okC c = true ∧ 0 ≤ (p : Int) ∧ (p : Int) ≤ 200 from ⟨HA.out, by omega, by have := HQ.out; have := HP.out; omega⟩)).trans HBN.out] at this
    exact this.mono fun e w' ⟨h, b⟩ => ⟨h, hw.trans (b.mono hw.size)⟩
  have G4 : Hid (∀ wx : World, Below w1.heap.size w1 wx → Calls Try.prog 11 #[.agg #[.int .i64 c.cB, .int .i64 c.cBeam, .int .i64 c.cDepth, .int .i64 c.cWin, .int .i64 c.cQs, .int .i64 c.cQr, .int .i64 c.cBatch, .int .i64 c.cPass, .int .i64 c.cMsg, .int .i64 c.cSeqs]] wx fun e w' => e = .returned (.int .i64 TT) ∧ Below w1.heap.size w1 w') := fun wx hw => by
    have := ConfTicks_any c wx
    rw [show ticksA c = TT from (if_pos HA.out).trans HTT.out] at this
    exact this.mono fun e w' ⟨h, b⟩ => ⟨h, hw.trans (b.mono hw.size)⟩
  have G5 : Hid (∀ wx : World, Below w1.heap.size w1 wx → Calls Try.prog 12 #[.agg #[.int .i64 c.cB, .int .i64 c.cBeam, .int .i64 c.cDepth, .int .i64 c.cWin, .int .i64 c.cQs, .int .i64 c.cQr, .int .i64 c.cBatch, .int .i64 c.cPass, .int .i64 c.cMsg, .int .i64 c.cSeqs], .int .i64 ((q : Int) + 1)] wx fun e w' => e = .returned (.int .i64 C1) ∧ Below w1.heap.size w1 w') := fun wx hw => by
    have := ConfCycles_any c ((q : Int) + 1) wx
    rw [show cyclesA c ((q : Int) + 1) = C1 from (if_pos (show okC c = true ∧ 0 ≤ ((q : Int) + 1) ∧ ((q : Int) + 1) ≤ 2000 from ⟨HA.out, by omega, by have := HQ.out; have := HP.out; omega⟩)).trans HC1.out] at this
    exact this.mono fun e w' ⟨h, b⟩ => ⟨h, hw.trans (b.mono hw.size)⟩
  have G6 : Hid (∀ wx : World, Below w1.heap.size w1 wx → Calls Try.prog 12 #[.agg #[.int .i64 c.cB, .int .i64 c.cBeam, .int .i64 c.cDepth, .int .i64 c.cWin, .int .i64 c.cQs, .int .i64 c.cQr, .int .i64 c.cBatch, .int .i64 c.cPass, .int .i64 c.cMsg, .int .i64 c.cSeqs], .int .i64 (q : Int)] wx fun e w' => e = .returned (.int .i64 C2) ∧ Below w1.heap.size w1 w') := fun wx hw => by
    have := ConfCycles_any c (q : Int) wx
    rw [show cyclesA c (q : Int) = C2 from (if_pos (show okC c = true ∧ 0 ≤ (q : Int) ∧ (q : Int) ≤ 2000 from ⟨HA.out, by omega, by have := HQ.out; have := HP.out; omega⟩)).trans HC2.out] at this
    exact this.mono fun e w' ⟨h, b⟩ => ⟨h, hw.trans (b.mono hw.size)⟩
  have G7 : Hid (∀ wx : World, Below w1.heap.size w1 wx → Calls Try.prog 12 #[.agg #[.int .i64 c.cB, .int .i64 c.cBeam, .int .i64 c.cDepth, .int .i64 c.cWin, .int .i64 c.cQs, .int .i64 c.cQr, .int .i64 c.cBatch, .int .i64 c.cPass, .int .i64 c.cMsg, .int .i64 c.cSeqs], .int .i64 0] wx fun e w' => e = .returned (.int .i64 C0) ∧ Below w1.heap.size w1 w') := fun wx hw => by
    have := ConfCycles_any c 0 wx
    rw [show cyclesA c 0 = C0 from (if_pos (show okC c = true ∧ 0 ≤ (0 : Int) ∧ (0 : Int) ≤ 2000 from ⟨HA.out, by omega, by have := HQ.out; have := HP.out; omega⟩)).trans HC0.out] at this
    exact this.mono fun e w' ⟨h, b⟩ => ⟨h, hw.trans (b.mono hw.size)⟩
  have Hxa0 : Hid _ := xa.cell 0 _ rfl
  have Hxa1 : Hid _ := xa.cell 1 _ rfl
  have Hxa2 : Hid _ := xa.cell 2 _ rfl
  have Hxa3 : Hid _ := xa.cell 3 _ rfl
  have Hxa4 : Hid _ := xa.cell 4 _ rfl
  have Hxa5 : Hid _ := xa.cell 5 _ rfl
  have Hxa6 : Hid _ := xa.cell 6 _ rfl
  have Hxa7 : Hid _ := xa.cell 7 _ rfl
  have Hxa8 : Hid _ := xa.cell 8 _ rfl
  have Hxa9 : Hid _ := xa.cell 9 _ rfl
  have hlta := xa.lt
  go_wp2
  simp only [we_, wf_]
  go_cut [7, 8] (fun v u wx => v = .int .i64 BN ∧ u = .int .i64 TT ∧ Below w1.heap.size w1 wx)
  case first =>
    refine wp_region_held_drew (S := fun w' => Below w1.heap.size w1 w') (by kernel_rfl) ((Below.refl _ _).drew) (fun hHeld => ?_)
    refine held_take (i := 0) (d := 20) (v := ?v210) rfl rfl (by kernel_rfl) (by kernel_rfl) (by kernel_rfl) (fun _ _ _ h => h) (Or.inl ⟨by kernel_rfl, ?hy210⟩) hHeld ?rest210
    case hy210 =>
      intro wx hSw
      have q0 := (hSw.cell (p := ⟨w.heap.size, 0, none⟩) hlta).trans Hxa0.out
      have q1 := (hSw.cell (p := ⟨w.heap.size, 1, none⟩) hlta).trans Hxa1.out
      have q2 := (hSw.cell (p := ⟨w.heap.size, 2, none⟩) hlta).trans Hxa2.out
      have q3 := (hSw.cell (p := ⟨w.heap.size, 3, none⟩) hlta).trans Hxa3.out
      have q4 := (hSw.cell (p := ⟨w.heap.size, 4, none⟩) hlta).trans Hxa4.out
      have q5 := (hSw.cell (p := ⟨w.heap.size, 5, none⟩) hlta).trans Hxa5.out
      have q6 := (hSw.cell (p := ⟨w.heap.size, 6, none⟩) hlta).trans Hxa6.out
      have q7 := (hSw.cell (p := ⟨w.heap.size, 7, none⟩) hlta).trans Hxa7.out
      have q8 := (hSw.cell (p := ⟨w.heap.size, 8, none⟩) hlta).trans Hxa8.out
      have q9 := (hSw.cell (p := ⟨w.heap.size, 9, none⟩) hlta).trans Hxa9.out
      clear hSw
      go_simp
      with_reducible rfl
    simp only [List.setIfInBounds_toArray, List.set_cons_zero, List.set_cons_succ]
    refine held_take (i := 1) (d := 21) (v := ?v211) rfl rfl (by kernel_rfl) (by kernel_rfl) (by kernel_rfl) (fun _ _ _ h => h) (Or.inl ⟨by kernel_rfl, ?hy211⟩) hHeld ?rest211
    case hy211 =>
      intro wx hSw
      clear hSw
      go_simp
      with_reducible rfl
    simp only [List.setIfInBounds_toArray, List.set_cons_zero, List.set_cons_succ]
    refine held_take (i := 3) (d := 23) (v := ?v212) rfl rfl (by kernel_rfl) (by kernel_rfl) (by kernel_rfl) (fun _ _ _ h => h) (Or.inl ⟨by kernel_rfl, ?hy212⟩) hHeld ?rest212
    case hy212 =>
      intro wx hSw
      have q0 := (hSw.cell (p := ⟨w.heap.size, 0, none⟩) hlta).trans Hxa0.out
      have q1 := (hSw.cell (p := ⟨w.heap.size, 1, none⟩) hlta).trans Hxa1.out
      have q2 := (hSw.cell (p := ⟨w.heap.size, 2, none⟩) hlta).trans Hxa2.out
      have q3 := (hSw.cell (p := ⟨w.heap.size, 3, none⟩) hlta).trans Hxa3.out
      have q4 := (hSw.cell (p := ⟨w.heap.size, 4, none⟩) hlta).trans Hxa4.out
      have q5 := (hSw.cell (p := ⟨w.heap.size, 5, none⟩) hlta).trans Hxa5.out
      have q6 := (hSw.cell (p := ⟨w.heap.size, 6, none⟩) hlta).trans Hxa6.out
      have q7 := (hSw.cell (p := ⟨w.heap.size, 7, none⟩) hlta).trans Hxa7.out
      have q8 := (hSw.cell (p := ⟨w.heap.size, 8, none⟩) hlta).trans Hxa8.out
      have q9 := (hSw.cell (p := ⟨w.heap.size, 9, none⟩) hlta).trans Hxa9.out
      clear hSw
      go_simp
      with_reducible rfl
    simp only [List.setIfInBounds_toArray, List.set_cons_zero, List.set_cons_succ]
    refine wpAnyH_ready (rs := [2]) (by kernel_rfl) (by simp) ?_
    refine AllReadyH.cons rfl (fun K hK => ?_) AllReadyH.nil
    go_simp
    go_wp2_with (go_at_call 10; refine (G3.out _ (by exact hHeld)).mono ?_; rintro e wb ⟨rfl, b8⟩)
    refine hK.out _ _ (b8) (fun hHeld => ?_)
    clear hK K
    refine wpAnyH_ready (rs := [4]) (by kernel_rfl) (by simp) ?_
    refine AllReadyH.cons rfl (fun K hK => ?_) AllReadyH.nil
    go_simp
    go_wp2_with (go_at_call 11; refine (G4.out _ (by exact hHeld)).mono ?_; rintro e wb ⟨rfl, b8⟩)
    refine hK.out _ _ (b8) (fun hHeld => ?_)
    clear hK K
    refine held_take (i := 5) (d := 7) (v := ?v213) rfl rfl (by kernel_rfl) (by kernel_rfl) (by kernel_rfl) (fun _ _ _ h => h) (Or.inl ⟨by kernel_rfl, ?hy213⟩) hHeld ?rest213
    case hy213 =>
      intro wx hSw
      clear hSw
      go_simp
      with_reducible rfl
    simp only [List.setIfInBounds_toArray, List.set_cons_zero, List.set_cons_succ]
    refine wpAnyH_ready (rs := [6]) (by kernel_rfl) (by simp) ?_
    refine AllReadyH.cons rfl (fun K hK => ?_) AllReadyH.nil
    go_simp
    refine hK.out _ _ hHeld (fun hHeld => ?_)
    clear hK K
    refine wpAnyH_done (by kernel_rfl) ?_ _
    go_wp2_with fail
    go_meet
    exact ⟨rfl, rfl, hHeld⟩
  case rest =>
    obtain ⟨rfl, rfl, b9⟩ := hcut
    clear G1 G2 G3 G4 G5 G6 G7 hlta
    clear Hxa0 Hxa1 Hxa2 Hxa3 Hxa4 Hxa5 Hxa6 Hxa7 Hxa8 Hxa9
    replace xa := xa.next b9
    replace bb := bb.trans (b9.mono bb.size)
    clear b9
    generalize wc = w2 at *
    have G1 : Hid (∀ wx : World, Below w2.heap.size w2 wx → Calls Try.prog 8 #[.agg #[.int .i64 c.cB, .int .i64 c.cBeam, .int .i64 c.cDepth, .int .i64 c.cWin, .int .i64 c.cQs, .int .i64 c.cQr, .int .i64 c.cBatch, .int .i64 c.cPass, .int .i64 c.cMsg, .int .i64 c.cSeqs]] wx fun e w' => e = .returned (.int .i64 S) ∧ Below w2.heap.size w2 w') := fun wx hw => by
      have := ConfSegs_any c wx
      rw [show segsA c = S from (if_pos HA.out).trans HS.out] at this
      exact this.mono fun e w' ⟨h, b⟩ => ⟨h, hw.trans (b.mono hw.size)⟩
    have G2 : Hid (∀ wx : World, Below w2.heap.size w2 wx → Calls Try.prog 9 #[.agg #[.int .i64 c.cB, .int .i64 c.cBeam, .int .i64 c.cDepth, .int .i64 c.cWin, .int .i64 c.cQs, .int .i64 c.cQr, .int .i64 c.cBatch, .int .i64 c.cPass, .int .i64 c.cMsg, .int .i64 c.cSeqs]] wx fun e w' => e = .returned (.int .i64 M) ∧ Below w2.heap.size w2 w') := fun wx hw => by
      have := ConfMost_any c wx
      rw [show mostA c = M from (if_pos HA.out).trans HM.out] at this
      exact this.mono fun e w' ⟨h, b⟩ => ⟨h, hw.trans (b.mono hw.size)⟩
    have G3 : Hid (∀ wx : World, Below w2.heap.size w2 wx → Calls Try.prog 10 #[.agg #[.int .i64 c.cB, .int .i64 c.cBeam, .int .i64 c.cDepth, .int .i64 c.cWin, .int .i64 c.cQs, .int .i64 c.cQr, .int .i64 c.cBatch, .int .i64 c.cPass, .int .i64 c.cMsg, .int .i64 c.cSeqs], .int .i64 (p : Int)] wx fun e w' => e = .returned (.int .i64 BN) ∧ Below w2.heap.size w2 w') := fun wx hw => by
      have := ConfBlocks_any c (p : Int) wx
      rw [show blocksA c (p : Int) = BN from (if_pos (show okC c = true ∧ 0 ≤ (p : Int) ∧ (p : Int) ≤ 200 from ⟨HA.out, by omega, by have := HQ.out; have := HP.out; omega⟩)).trans HBN.out] at this
      exact this.mono fun e w' ⟨h, b⟩ => ⟨h, hw.trans (b.mono hw.size)⟩
    have G4 : Hid (∀ wx : World, Below w2.heap.size w2 wx → Calls Try.prog 11 #[.agg #[.int .i64 c.cB, .int .i64 c.cBeam, .int .i64 c.cDepth, .int .i64 c.cWin, .int .i64 c.cQs, .int .i64 c.cQr, .int .i64 c.cBatch, .int .i64 c.cPass, .int .i64 c.cMsg, .int .i64 c.cSeqs]] wx fun e w' => e = .returned (.int .i64 TT) ∧ Below w2.heap.size w2 w') := fun wx hw => by
      have := ConfTicks_any c wx
      rw [show ticksA c = TT from (if_pos HA.out).trans HTT.out] at this
      exact this.mono fun e w' ⟨h, b⟩ => ⟨h, hw.trans (b.mono hw.size)⟩
    have G5 : Hid (∀ wx : World, Below w2.heap.size w2 wx → Calls Try.prog 12 #[.agg #[.int .i64 c.cB, .int .i64 c.cBeam, .int .i64 c.cDepth, .int .i64 c.cWin, .int .i64 c.cQs, .int .i64 c.cQr, .int .i64 c.cBatch, .int .i64 c.cPass, .int .i64 c.cMsg, .int .i64 c.cSeqs], .int .i64 ((q : Int) + 1)] wx fun e w' => e = .returned (.int .i64 C1) ∧ Below w2.heap.size w2 w') := fun wx hw => by
      have := ConfCycles_any c ((q : Int) + 1) wx
      rw [show cyclesA c ((q : Int) + 1) = C1 from (if_pos (show okC c = true ∧ 0 ≤ ((q : Int) + 1) ∧ ((q : Int) + 1) ≤ 2000 from ⟨HA.out, by omega, by have := HQ.out; have := HP.out; omega⟩)).trans HC1.out] at this
      exact this.mono fun e w' ⟨h, b⟩ => ⟨h, hw.trans (b.mono hw.size)⟩
    have G6 : Hid (∀ wx : World, Below w2.heap.size w2 wx → Calls Try.prog 12 #[.agg #[.int .i64 c.cB, .int .i64 c.cBeam, .int .i64 c.cDepth, .int .i64 c.cWin, .int .i64 c.cQs, .int .i64 c.cQr, .int .i64 c.cBatch, .int .i64 c.cPass, .int .i64 c.cMsg, .int .i64 c.cSeqs], .int .i64 (q : Int)] wx fun e w' => e = .returned (.int .i64 C2) ∧ Below w2.heap.size w2 w') := fun wx hw => by
      have := ConfCycles_any c (q : Int) wx
      rw [show cyclesA c (q : Int) = C2 from (if_pos (show okC c = true ∧ 0 ≤ (q : Int) ∧ (q : Int) ≤ 2000 from ⟨HA.out, by omega, by have := HQ.out; have := HP.out; omega⟩)).trans HC2.out] at this
      exact this.mono fun e w' ⟨h, b⟩ => ⟨h, hw.trans (b.mono hw.size)⟩
    have G7 : Hid (∀ wx : World, Below w2.heap.size w2 wx → Calls Try.prog 12 #[.agg #[.int .i64 c.cB, .int .i64 c.cBeam, .int .i64 c.cDepth, .int .i64 c.cWin, .int .i64 c.cQs, .int .i64 c.cQr, .int .i64 c.cBatch, .int .i64 c.cPass, .int .i64 c.cMsg, .int .i64 c.cSeqs], .int .i64 0] wx fun e w' => e = .returned (.int .i64 C0) ∧ Below w2.heap.size w2 w') := fun wx hw => by
      have := ConfCycles_any c 0 wx
      rw [show cyclesA c 0 = C0 from (if_pos (show okC c = true ∧ 0 ≤ (0 : Int) ∧ (0 : Int) ≤ 2000 from ⟨HA.out, by omega, by have := HQ.out; have := HP.out; omega⟩)).trans HC0.out] at this
      exact this.mono fun e w' ⟨h, b⟩ => ⟨h, hw.trans (b.mono hw.size)⟩
    have Hxa0 : Hid _ := xa.cell 0 _ rfl
    have Hxa1 : Hid _ := xa.cell 1 _ rfl
    have Hxa2 : Hid _ := xa.cell 2 _ rfl
    have Hxa3 : Hid _ := xa.cell 3 _ rfl
    have Hxa4 : Hid _ := xa.cell 4 _ rfl
    have Hxa5 : Hid _ := xa.cell 5 _ rfl
    have Hxa6 : Hid _ := xa.cell 6 _ rfl
    have Hxa7 : Hid _ := xa.cell 7 _ rfl
    have Hxa8 : Hid _ := xa.cell 8 _ rfl
    have Hxa9 : Hid _ := xa.cell 9 _ rfl
    have hlta := xa.lt
    have w1_ := Hw1_.out
    have w4_ := Hw4_.out
    have w5_ := Hw5_.out
    have w6_ := Hw6_.out
    have d1 := Hd1.out
    have d2 := Hd2.out
    have d3 := Hd3.out
    have d5 := Hd5.out
    have d6 := Hd6.out
    have w2_ := Hw2_.out
    have w3_ := Hw3_.out
    have d4 := Hd4.out
    go_wp2
    go_cut [66] (fun v wx => v = .bool false ∧ Below w2.heap.size w2 wx)
    case first =>
      refine wp_region_held_drew (S := fun w' => Below w2.heap.size w2 w') (by kernel_rfl) ((Below.refl _ _).drew) (fun hHeld => ?_)
      refine held_take (i := 0) (d := 25) (v := ?v214) rfl rfl (by kernel_rfl) (by kernel_rfl) (by kernel_rfl) (fun _ _ _ h => h) (Or.inl ⟨by kernel_rfl, ?hy214⟩) hHeld ?rest214
      case hy214 =>
        intro wx hSw
        clear hSw
        go_simp
        with_reducible rfl
      simp only [List.setIfInBounds_toArray, List.set_cons_zero, List.set_cons_succ]
      refine held_take (i := 1) (d := 26) (v := ?v215) rfl rfl (by kernel_rfl) (by kernel_rfl) (by kernel_rfl) (fun _ _ _ h => h) (Or.inl ⟨by kernel_rfl, ?hy215⟩) hHeld ?rest215
      case hy215 =>
        intro wx hSw
        clear hSw
        go_simp
        with_reducible rfl
      simp only [List.setIfInBounds_toArray, List.set_cons_zero, List.set_cons_succ]
      refine held_take (i := 2) (d := 27) (v := ?v216) rfl rfl (by kernel_rfl) (by kernel_rfl) (by kernel_rfl) (fun _ _ _ h => h) (Or.inl ⟨by kernel_rfl, ?hy216⟩) hHeld ?rest216
      case hy216 =>
        intro wx hSw
        clear hSw
        go_simp
        with_reducible rfl
      simp only [List.setIfInBounds_toArray, List.set_cons_zero, List.set_cons_succ]
      refine held_take (i := 3) (d := 28) (v := ?v217) rfl rfl (by kernel_rfl) (by kernel_rfl) (by kernel_rfl) (fun _ _ _ h => h) (Or.inl ⟨by kernel_rfl, ?hy217⟩) hHeld ?rest217
      case hy217 =>
        intro wx hSw
        clear hSw
        go_simp
        with_reducible rfl
      simp only [List.setIfInBounds_toArray, List.set_cons_zero, List.set_cons_succ]
      refine held_take (i := 4) (d := 29) (v := ?v218) rfl rfl (by kernel_rfl) (by kernel_rfl) (by kernel_rfl) (fun _ _ _ h => h) (Or.inl ⟨by kernel_rfl, ?hy218⟩) hHeld ?rest218
      case hy218 =>
        intro wx hSw
        clear hSw
        go_simp
        with_reducible rfl
      simp only [List.setIfInBounds_toArray, List.set_cons_zero, List.set_cons_succ]
      refine held_take (i := 5) (d := 30) (v := ?v219) rfl rfl (by kernel_rfl) (by kernel_rfl) (by kernel_rfl) (fun _ _ _ h => h) (Or.inl ⟨by kernel_rfl, ?hy219⟩) hHeld ?rest219
      case hy219 =>
        intro wx hSw
        have q0 := (hSw.cell (p := ⟨w.heap.size, 0, none⟩) hlta).trans Hxa0.out
        clear hSw
        go_simp
        with_reducible rfl
      simp only [List.setIfInBounds_toArray, List.set_cons_zero, List.set_cons_succ]
      refine held_take (i := 6) (d := 31) (v := ?v220) rfl rfl (by kernel_rfl) (by kernel_rfl) (by kernel_rfl) (fun _ _ _ h => h) (Or.inl ⟨by kernel_rfl, ?hy220⟩) hHeld ?rest220
      case hy220 =>
        intro wx hSw
        clear hSw
        go_simp
        with_reducible rfl
      simp only [List.setIfInBounds_toArray, List.set_cons_zero, List.set_cons_succ]
      refine held_take (i := 7) (d := 32) (v := ?v221) rfl rfl (by kernel_rfl) (by kernel_rfl) (by kernel_rfl) (fun _ _ _ h => h) (Or.inl ⟨by kernel_rfl, ?hy221⟩) hHeld ?rest221
      case hy221 =>
        intro wx hSw
        clear hSw
        go_simp
        with_reducible rfl
      simp only [List.setIfInBounds_toArray, List.set_cons_zero, List.set_cons_succ]
      refine held_take (i := 8) (d := 33) (v := ?v222) rfl rfl (by kernel_rfl) (by kernel_rfl) (by kernel_rfl) (fun _ _ _ h => h) (Or.inl ⟨by kernel_rfl, ?hy222⟩) hHeld ?rest222
      case hy222 =>
        intro wx hSw
        clear hSw
        go_simp
        with_reducible rfl
      simp only [List.setIfInBounds_toArray, List.set_cons_zero, List.set_cons_succ]
      refine held_take (i := 9) (d := 34) (v := ?v223) rfl rfl (by kernel_rfl) (by kernel_rfl) (by kernel_rfl) (fun _ _ _ h => h) (Or.inl ⟨by kernel_rfl, ?hy223⟩) hHeld ?rest223
      case hy223 =>
        intro wx hSw
        clear hSw
        go_simp
        with_reducible rfl
      simp only [List.setIfInBounds_toArray, List.set_cons_zero, List.set_cons_succ]
      refine held_take (i := 10) (d := 35) (v := ?v224) rfl rfl (by kernel_rfl) (by kernel_rfl) (by kernel_rfl) (fun _ _ _ h => h) (Or.inl ⟨by kernel_rfl, ?hy224⟩) hHeld ?rest224
      case hy224 =>
        intro wx hSw
        clear hSw
        go_simp
        with_reducible rfl
      simp only [List.setIfInBounds_toArray, List.set_cons_zero, List.set_cons_succ]
      refine held_take (i := 11) (d := 36) (v := ?v225) rfl rfl (by kernel_rfl) (by kernel_rfl) (by kernel_rfl) (fun _ _ _ h => h) (Or.inl ⟨by kernel_rfl, ?hy225⟩) hHeld ?rest225
      case hy225 =>
        intro wx hSw
        clear hSw
        go_simp
        with_reducible rfl
      simp only [List.setIfInBounds_toArray, List.set_cons_zero, List.set_cons_succ]
      refine held_take (i := 12) (d := 37) (v := ?v226) rfl rfl (by kernel_rfl) (by kernel_rfl) (by kernel_rfl) (fun _ _ _ h => h) (Or.inl ⟨by kernel_rfl, ?hy226⟩) hHeld ?rest226
      case hy226 =>
        intro wx hSw
        clear hSw
        go_simp
        with_reducible rfl
      simp only [List.setIfInBounds_toArray, List.set_cons_zero, List.set_cons_succ]
      refine held_take (i := 13) (d := 38) (v := ?v227) rfl rfl (by kernel_rfl) (by kernel_rfl) (by kernel_rfl) (fun _ _ _ h => h) (Or.inl ⟨by kernel_rfl, ?hy227⟩) hHeld ?rest227
      case hy227 =>
        intro wx hSw
        clear hSw
        go_simp
        with_reducible rfl
      simp only [List.setIfInBounds_toArray, List.set_cons_zero, List.set_cons_succ]
      refine held_take (i := 14) (d := 39) (v := ?v228) rfl rfl (by kernel_rfl) (by kernel_rfl) (by kernel_rfl) (fun _ _ _ h => h) (Or.inl ⟨by kernel_rfl, ?hy228⟩) hHeld ?rest228
      case hy228 =>
        intro wx hSw
        clear hSw
        go_simp
        with_reducible rfl
      simp only [List.setIfInBounds_toArray, List.set_cons_zero, List.set_cons_succ]
      refine held_take (i := 15) (d := 40) (v := ?v229) rfl rfl (by kernel_rfl) (by kernel_rfl) (by kernel_rfl) (fun _ _ _ h => h) (Or.inl ⟨by kernel_rfl, ?hy229⟩) hHeld ?rest229
      case hy229 =>
        intro wx hSw
        clear hSw
        go_simp
        with_reducible rfl
      simp only [List.setIfInBounds_toArray, List.set_cons_zero, List.set_cons_succ]
      refine held_take (i := 16) (d := 41) (v := ?v230) rfl rfl (by kernel_rfl) (by kernel_rfl) (by kernel_rfl) (fun _ _ _ h => h) (Or.inl ⟨by kernel_rfl, ?hy230⟩) hHeld ?rest230
      case hy230 =>
        intro wx hSw
        clear hSw
        go_simp
        with_reducible rfl
      simp only [List.setIfInBounds_toArray, List.set_cons_zero, List.set_cons_succ]
      refine held_take (i := 17) (d := 42) (v := ?v231) rfl rfl (by kernel_rfl) (by kernel_rfl) (by kernel_rfl) (fun _ _ _ h => h) (Or.inl ⟨by kernel_rfl, ?hy231⟩) hHeld ?rest231
      case hy231 =>
        intro wx hSw
        have q0 := (hSw.cell (p := ⟨w.heap.size, 0, none⟩) hlta).trans Hxa0.out
        clear hSw
        go_simp
        with_reducible rfl
      simp only [List.setIfInBounds_toArray, List.set_cons_zero, List.set_cons_succ]
      refine held_take (i := 18) (d := 43) (v := ?v232) rfl rfl (by kernel_rfl) (by kernel_rfl) (by kernel_rfl) (fun _ _ _ h => h) (Or.inl ⟨by kernel_rfl, ?hy232⟩) hHeld ?rest232
      case hy232 =>
        intro wx hSw
        clear hSw
        go_simp
        with_reducible rfl
      simp only [List.setIfInBounds_toArray, List.set_cons_zero, List.set_cons_succ]
      refine held_take (i := 19) (d := 44) (v := ?v233) rfl rfl (by kernel_rfl) (by kernel_rfl) (by kernel_rfl) (fun _ _ _ h => h) (Or.inl ⟨by kernel_rfl, ?hy233⟩) hHeld ?rest233
      case hy233 =>
        intro wx hSw
        clear hSw
        go_simp
        with_reducible rfl
      simp only [List.setIfInBounds_toArray, List.set_cons_zero, List.set_cons_succ]
      refine held_take (i := 20) (d := 45) (v := ?v234) rfl rfl (by kernel_rfl) (by kernel_rfl) (by kernel_rfl) (fun _ _ _ h => h) (Or.inl ⟨by kernel_rfl, ?hy234⟩) hHeld ?rest234
      case hy234 =>
        intro wx hSw
        clear hSw
        go_simp
        with_reducible rfl
      simp only [List.setIfInBounds_toArray, List.set_cons_zero, List.set_cons_succ]
      refine held_take (i := 21) (d := 46) (v := ?v235) rfl rfl (by kernel_rfl) (by kernel_rfl) (by kernel_rfl) (fun _ _ _ h => h) (Or.inl ⟨by kernel_rfl, ?hy235⟩) hHeld ?rest235
      case hy235 =>
        intro wx hSw
        clear hSw
        go_simp
        with_reducible rfl
      simp only [List.setIfInBounds_toArray, List.set_cons_zero, List.set_cons_succ]
      refine held_take (i := 22) (d := 47) (v := ?v236) rfl rfl (by kernel_rfl) (by kernel_rfl) (by kernel_rfl) (fun _ _ _ h => h) (Or.inl ⟨by kernel_rfl, ?hy236⟩) hHeld ?rest236
      case hy236 =>
        intro wx hSw
        clear hSw
        go_simp
        with_reducible rfl
      simp only [List.setIfInBounds_toArray, List.set_cons_zero, List.set_cons_succ]
      refine held_take (i := 23) (d := 48) (v := ?v237) rfl rfl (by kernel_rfl) (by kernel_rfl) (by kernel_rfl) (fun _ _ _ h => h) (Or.inl ⟨by kernel_rfl, ?hy237⟩) hHeld ?rest237
      case hy237 =>
        intro wx hSw
        clear hSw
        go_simp
        with_reducible rfl
      simp only [List.setIfInBounds_toArray, List.set_cons_zero, List.set_cons_succ]
      refine held_take (i := 24) (d := 49) (v := ?v238) rfl rfl (by kernel_rfl) (by kernel_rfl) (by kernel_rfl) (fun _ _ _ h => h) (Or.inl ⟨by kernel_rfl, ?hy238⟩) hHeld ?rest238
      case hy238 =>
        intro wx hSw
        have q0 := (hSw.cell (p := ⟨w.heap.size, 0, none⟩) hlta).trans Hxa0.out
        have q1 := (hSw.cell (p := ⟨w.heap.size, 1, none⟩) hlta).trans Hxa1.out
        have q2 := (hSw.cell (p := ⟨w.heap.size, 2, none⟩) hlta).trans Hxa2.out
        have q3 := (hSw.cell (p := ⟨w.heap.size, 3, none⟩) hlta).trans Hxa3.out
        have q4 := (hSw.cell (p := ⟨w.heap.size, 4, none⟩) hlta).trans Hxa4.out
        have q5 := (hSw.cell (p := ⟨w.heap.size, 5, none⟩) hlta).trans Hxa5.out
        have q6 := (hSw.cell (p := ⟨w.heap.size, 6, none⟩) hlta).trans Hxa6.out
        have q7 := (hSw.cell (p := ⟨w.heap.size, 7, none⟩) hlta).trans Hxa7.out
        have q8 := (hSw.cell (p := ⟨w.heap.size, 8, none⟩) hlta).trans Hxa8.out
        have q9 := (hSw.cell (p := ⟨w.heap.size, 9, none⟩) hlta).trans Hxa9.out
        clear hSw
        go_simp
        with_reducible rfl
      simp only [List.setIfInBounds_toArray, List.set_cons_zero, List.set_cons_succ]
      refine held_take (i := 26) (d := 51) (v := ?v239) rfl rfl (by kernel_rfl) (by kernel_rfl) (by kernel_rfl) (fun _ _ _ h => h) (Or.inl ⟨by kernel_rfl, ?hy239⟩) hHeld ?rest239
      case hy239 =>
        intro wx hSw
        clear hSw
        go_simp
        with_reducible rfl
      simp only [List.setIfInBounds_toArray, List.set_cons_zero, List.set_cons_succ]
      refine held_take (i := 27) (d := 52) (v := ?v240) rfl rfl (by kernel_rfl) (by kernel_rfl) (by kernel_rfl) (fun _ _ _ h => h) (Or.inl ⟨by kernel_rfl, ?hy240⟩) hHeld ?rest240
      case hy240 =>
        intro wx hSw
        have q0 := (hSw.cell (p := ⟨w.heap.size, 0, none⟩) hlta).trans Hxa0.out
        clear hSw
        go_simp
        with_reducible rfl
      simp only [List.setIfInBounds_toArray, List.set_cons_zero, List.set_cons_succ]
      refine held_take (i := 28) (d := 53) (v := ?v241) rfl rfl (by kernel_rfl) (by kernel_rfl) (by kernel_rfl) (fun _ _ _ h => h) (Or.inl ⟨by kernel_rfl, ?hy241⟩) hHeld ?rest241
      case hy241 =>
        intro wx hSw
        clear hSw
        go_simp
        with_reducible rfl
      simp only [List.setIfInBounds_toArray, List.set_cons_zero, List.set_cons_succ]
      refine held_take (i := 29) (d := 54) (v := ?v242) rfl rfl (by kernel_rfl) (by kernel_rfl) (by kernel_rfl) (fun _ _ _ h => h) (Or.inl ⟨by kernel_rfl, ?hy242⟩) hHeld ?rest242
      case hy242 =>
        intro wx hSw
        clear hSw
        go_simp
        with_reducible rfl
      simp only [List.setIfInBounds_toArray, List.set_cons_zero, List.set_cons_succ]
      refine wpAnyH_ready (rs := [25]) (by kernel_rfl) (by simp) ?_
      refine AllReadyH.cons rfl (fun K hK => ?_) AllReadyH.nil
      go_simp
      go_wp2_with (go_at_call 8; refine (G1.out _ (by exact hHeld)).mono ?_; rintro e wb ⟨rfl, b8⟩)
      refine hK.out _ _ (b8) (fun hHeld => ?_)
      clear hK K
      refine held_take (i := 30) (d := 55) (v := ?v243) rfl rfl (by kernel_rfl) (by kernel_rfl) (by kernel_rfl) (fun _ _ _ h => h) (Or.inl ⟨by kernel_rfl, ?hy243⟩) hHeld ?rest243
      case hy243 =>
        intro wx hSw
        clear hSw
        go_simp
        with_reducible rfl
      simp only [List.setIfInBounds_toArray, List.set_cons_zero, List.set_cons_succ]
      refine held_take (i := 31) (d := 56) (v := ?v244) rfl rfl (by kernel_rfl) (by kernel_rfl) (by kernel_rfl) (fun _ _ _ h => h) (Or.inl ⟨by kernel_rfl, ?hy244⟩) hHeld ?rest244
      case hy244 =>
        intro wx hSw
        clear hSw
        go_simp
        with_reducible rfl
      simp only [List.setIfInBounds_toArray, List.set_cons_zero, List.set_cons_succ]
      refine held_take (i := 32) (d := 57) (v := ?v245) rfl rfl (by kernel_rfl) (by kernel_rfl) (by kernel_rfl) (fun _ _ _ h => h) (Or.inl ⟨by kernel_rfl, ?hy245⟩) hHeld ?rest245
      case hy245 =>
        intro wx hSw
        clear hSw
        go_simp
        with_reducible rfl
      simp only [List.setIfInBounds_toArray, List.set_cons_zero, List.set_cons_succ]
      refine held_take (i := 33) (d := 58) (v := ?v246) rfl rfl (by kernel_rfl) (by kernel_rfl) (by kernel_rfl) (fun _ _ _ h => h) (Or.inl ⟨by kernel_rfl, ?hy246⟩) hHeld ?rest246
      case hy246 =>
        intro wx hSw
        have q0 := (hSw.cell (p := ⟨w.heap.size, 0, none⟩) hlta).trans Hxa0.out
        have q1 := (hSw.cell (p := ⟨w.heap.size, 1, none⟩) hlta).trans Hxa1.out
        have q2 := (hSw.cell (p := ⟨w.heap.size, 2, none⟩) hlta).trans Hxa2.out
        have q3 := (hSw.cell (p := ⟨w.heap.size, 3, none⟩) hlta).trans Hxa3.out
        have q4 := (hSw.cell (p := ⟨w.heap.size, 4, none⟩) hlta).trans Hxa4.out
        have q5 := (hSw.cell (p := ⟨w.heap.size, 5, none⟩) hlta).trans Hxa5.out
        have q6 := (hSw.cell (p := ⟨w.heap.size, 6, none⟩) hlta).trans Hxa6.out
        have q7 := (hSw.cell (p := ⟨w.heap.size, 7, none⟩) hlta).trans Hxa7.out
        have q8 := (hSw.cell (p := ⟨w.heap.size, 8, none⟩) hlta).trans Hxa8.out
        have q9 := (hSw.cell (p := ⟨w.heap.size, 9, none⟩) hlta).trans Hxa9.out
        clear hSw
        go_simp
        with_reducible rfl
      simp only [List.setIfInBounds_toArray, List.set_cons_zero, List.set_cons_succ]
      refine held_take (i := 35) (d := 60) (v := ?v247) rfl rfl (by kernel_rfl) (by kernel_rfl) (by kernel_rfl) (fun _ _ _ h => h) (Or.inl ⟨by kernel_rfl, ?hy247⟩) hHeld ?rest247
      case hy247 =>
        intro wx hSw
        have q0 := (hSw.cell (p := ⟨w.heap.size, 0, none⟩) hlta).trans Hxa0.out
        have q1 := (hSw.cell (p := ⟨w.heap.size, 1, none⟩) hlta).trans Hxa1.out
        have q2 := (hSw.cell (p := ⟨w.heap.size, 2, none⟩) hlta).trans Hxa2.out
        have q3 := (hSw.cell (p := ⟨w.heap.size, 3, none⟩) hlta).trans Hxa3.out
        have q4 := (hSw.cell (p := ⟨w.heap.size, 4, none⟩) hlta).trans Hxa4.out
        have q5 := (hSw.cell (p := ⟨w.heap.size, 5, none⟩) hlta).trans Hxa5.out
        have q6 := (hSw.cell (p := ⟨w.heap.size, 6, none⟩) hlta).trans Hxa6.out
        have q7 := (hSw.cell (p := ⟨w.heap.size, 7, none⟩) hlta).trans Hxa7.out
        have q8 := (hSw.cell (p := ⟨w.heap.size, 8, none⟩) hlta).trans Hxa8.out
        have q9 := (hSw.cell (p := ⟨w.heap.size, 9, none⟩) hlta).trans Hxa9.out
        clear hSw
        go_simp
        with_reducible rfl
      simp only [List.setIfInBounds_toArray, List.set_cons_zero, List.set_cons_succ]
      refine held_take (i := 37) (d := 62) (v := ?v248) rfl rfl (by kernel_rfl) (by kernel_rfl) (by kernel_rfl) (fun _ _ _ h => h) (Or.inl ⟨by kernel_rfl, ?hy248⟩) hHeld ?rest248
      case hy248 =>
        intro wx hSw
        clear hSw
        go_simp
        with_reducible rfl
      simp only [List.setIfInBounds_toArray, List.set_cons_zero, List.set_cons_succ]
      refine held_take (i := 38) (d := 63) (v := ?v249) rfl rfl (by kernel_rfl) (by kernel_rfl) (by kernel_rfl) (fun _ _ _ h => h) (Or.inl ⟨by kernel_rfl, ?hy249⟩) hHeld ?rest249
      case hy249 =>
        intro wx hSw
        have q0 := (hSw.cell (p := ⟨w.heap.size, 7, none⟩) hlta).trans Hxa7.out
        clear hSw
        go_simp
        with_reducible rfl
      simp only [List.setIfInBounds_toArray, List.set_cons_zero, List.set_cons_succ]
      refine wpAnyH_ready (rs := [34]) (by kernel_rfl) (by simp) ?_
      refine AllReadyH.cons rfl (fun K hK => ?_) AllReadyH.nil
      go_simp
      go_wp2_with (go_at_call 9; refine (G2.out _ (by exact hHeld)).mono ?_; rintro e wb ⟨rfl, b8⟩)
      refine hK.out _ _ (b8) (fun hHeld => ?_)
      clear hK K
      refine wpAnyH_ready (rs := [36]) (by kernel_rfl) (by simp) ?_
      refine AllReadyH.cons rfl (fun K hK => ?_) AllReadyH.nil
      go_simp
      go_wp2_with (go_at_call 8; refine (G1.out _ (by exact hHeld)).mono ?_; rintro e wb ⟨rfl, b8⟩)
      refine hK.out _ _ (b8) (fun hHeld => ?_)
      clear hK K
      refine held_take (i := 39) (d := 64) (v := ?v250) rfl rfl (by kernel_rfl) (by kernel_rfl) (by kernel_rfl) (fun _ _ _ h => h) (Or.inl ⟨by kernel_rfl, ?hy250⟩) hHeld ?rest250
      case hy250 =>
        intro wx hSw
        clear hSw
        go_simp
        with_reducible rfl
      simp only [List.setIfInBounds_toArray, List.set_cons_zero, List.set_cons_succ]
      refine held_take (i := 40) (d := 65) (v := ?v251) rfl rfl (by kernel_rfl) (by kernel_rfl) (by kernel_rfl) (fun _ _ _ h => h) (Or.inl ⟨by kernel_rfl, ?hy251⟩) hHeld ?rest251
      case hy251 =>
        intro wx hSw
        clear hSw
        go_simp
        with_reducible rfl
      simp only [List.setIfInBounds_toArray, List.set_cons_zero, List.set_cons_succ]
      refine wpAnyH_ready (rs := [41]) (by kernel_rfl) (by simp) ?_
      refine AllReadyH.cons rfl (fun K hK => ?_) AllReadyH.nil
      go_simp
      refine hK.out _ _ hHeld (fun hHeld => ?_)
      clear hK K
      refine wpAnyH_done (by kernel_rfl) ?_ _
      go_wp2_with fail
      go_meet
      exact ⟨rfl, hHeld⟩
    case rest =>
      obtain ⟨rfl, b9⟩ := hcut
      clear G1 G2 G3 G4 G5 G6 G7 hlta
      clear Hxa0 Hxa1 Hxa2 Hxa3 Hxa4 Hxa5 Hxa6 Hxa7 Hxa8 Hxa9
      replace xa := xa.next b9
      replace bb := bb.trans (b9.mono bb.size)
      clear b9
      generalize wc = w3 at *
      have G1 : Hid (∀ wx : World, Below w3.heap.size w3 wx → Calls Try.prog 8 #[.agg #[.int .i64 c.cB, .int .i64 c.cBeam, .int .i64 c.cDepth, .int .i64 c.cWin, .int .i64 c.cQs, .int .i64 c.cQr, .int .i64 c.cBatch, .int .i64 c.cPass, .int .i64 c.cMsg, .int .i64 c.cSeqs]] wx fun e w' => e = .returned (.int .i64 S) ∧ Below w3.heap.size w3 w') := fun wx hw => by
        have := ConfSegs_any c wx
        rw [show segsA c = S from (if_pos HA.out).trans HS.out] at this
        exact this.mono fun e w' ⟨h, b⟩ => ⟨h, hw.trans (b.mono hw.size)⟩
      have G2 : Hid (∀ wx : World, Below w3.heap.size w3 wx → Calls Try.prog 9 #[.agg #[.int .i64 c.cB, .int .i64 c.cBeam, .int .i64 c.cDepth, .int .i64 c.cWin, .int .i64 c.cQs, .int .i64 c.cQr, .int .i64 c.cBatch, .int .i64 c.cPass, .int .i64 c.cMsg, .int .i64 c.cSeqs]] wx fun e w' => e = .returned (.int .i64 M) ∧ Below w3.heap.size w3 w') := fun wx hw => by
        have := ConfMost_any c wx
        rw [show mostA c = M from (if_pos HA.out).trans HM.out] at this
        exact this.mono fun e w' ⟨h, b⟩ => ⟨h, hw.trans (b.mono hw.size)⟩
      have G3 : Hid (∀ wx : World, Below w3.heap.size w3 wx → Calls Try.prog 10 #[.agg #[.int .i64 c.cB, .int .i64 c.cBeam, .int .i64 c.cDepth, .int .i64 c.cWin, .int .i64 c.cQs, .int .i64 c.cQr, .int .i64 c.cBatch, .int .i64 c.cPass, .int .i64 c.cMsg, .int .i64 c.cSeqs], .int .i64 (p : Int)] wx fun e w' => e = .returned (.int .i64 BN) ∧ Below w3.heap.size w3 w') := fun wx hw => by
        have := ConfBlocks_any c (p : Int) wx
        rw [show blocksA c (p : Int) = BN from (if_pos (show okC c = true ∧ 0 ≤ (p : Int) ∧ (p : Int) ≤ 200 from ⟨HA.out, by omega, by have := HQ.out; have := HP.out; omega⟩)).trans HBN.out] at this
        exact this.mono fun e w' ⟨h, b⟩ => ⟨h, hw.trans (b.mono hw.size)⟩
      have G4 : Hid (∀ wx : World, Below w3.heap.size w3 wx → Calls Try.prog 11 #[.agg #[.int .i64 c.cB, .int .i64 c.cBeam, .int .i64 c.cDepth, .int .i64 c.cWin, .int .i64 c.cQs, .int .i64 c.cQr, .int .i64 c.cBatch, .int .i64 c.cPass, .int .i64 c.cMsg, .int .i64 c.cSeqs]] wx fun e w' => e = .returned (.int .i64 TT) ∧ Below w3.heap.size w3 w') := fun wx hw => by
        have := ConfTicks_any c wx
        rw [show ticksA c = TT from (if_pos HA.out).trans HTT.out] at this
        exact this.mono fun e w' ⟨h, b⟩ => ⟨h, hw.trans (b.mono hw.size)⟩
      have G5 : Hid (∀ wx : World, Below w3.heap.size w3 wx → Calls Try.prog 12 #[.agg #[.int .i64 c.cB, .int .i64 c.cBeam, .int .i64 c.cDepth, .int .i64 c.cWin, .int .i64 c.cQs, .int .i64 c.cQr, .int .i64 c.cBatch, .int .i64 c.cPass, .int .i64 c.cMsg, .int .i64 c.cSeqs], .int .i64 ((q : Int) + 1)] wx fun e w' => e = .returned (.int .i64 C1) ∧ Below w3.heap.size w3 w') := fun wx hw => by
        have := ConfCycles_any c ((q : Int) + 1) wx
        rw [show cyclesA c ((q : Int) + 1) = C1 from (if_pos (show okC c = true ∧ 0 ≤ ((q : Int) + 1) ∧ ((q : Int) + 1) ≤ 2000 from ⟨HA.out, by omega, by have := HQ.out; have := HP.out; omega⟩)).trans HC1.out] at this
        exact this.mono fun e w' ⟨h, b⟩ => ⟨h, hw.trans (b.mono hw.size)⟩
      have G6 : Hid (∀ wx : World, Below w3.heap.size w3 wx → Calls Try.prog 12 #[.agg #[.int .i64 c.cB, .int .i64 c.cBeam, .int .i64 c.cDepth, .int .i64 c.cWin, .int .i64 c.cQs, .int .i64 c.cQr, .int .i64 c.cBatch, .int .i64 c.cPass, .int .i64 c.cMsg, .int .i64 c.cSeqs], .int .i64 (q : Int)] wx fun e w' => e = .returned (.int .i64 C2) ∧ Below w3.heap.size w3 w') := fun wx hw => by
        have := ConfCycles_any c (q : Int) wx
        rw [show cyclesA c (q : Int) = C2 from (if_pos (show okC c = true ∧ 0 ≤ (q : Int) ∧ (q : Int) ≤ 2000 from ⟨HA.out, by omega, by have := HQ.out; have := HP.out; omega⟩)).trans HC2.out] at this
        exact this.mono fun e w' ⟨h, b⟩ => ⟨h, hw.trans (b.mono hw.size)⟩
      have G7 : Hid (∀ wx : World, Below w3.heap.size w3 wx → Calls Try.prog 12 #[.agg #[.int .i64 c.cB, .int .i64 c.cBeam, .int .i64 c.cDepth, .int .i64 c.cWin, .int .i64 c.cQs, .int .i64 c.cQr, .int .i64 c.cBatch, .int .i64 c.cPass, .int .i64 c.cMsg, .int .i64 c.cSeqs], .int .i64 0] wx fun e w' => e = .returned (.int .i64 C0) ∧ Below w3.heap.size w3 w') := fun wx hw => by
        have := ConfCycles_any c 0 wx
        rw [show cyclesA c 0 = C0 from (if_pos (show okC c = true ∧ 0 ≤ (0 : Int) ∧ (0 : Int) ≤ 2000 from ⟨HA.out, by omega, by have := HQ.out; have := HP.out; omega⟩)).trans HC0.out] at this
        exact this.mono fun e w' ⟨h, b⟩ => ⟨h, hw.trans (b.mono hw.size)⟩
      have HWK : Hid (∀ wx : World, Below w3.heap.size w3 wx → Calls Try.prog 13 #[] wx fun e w' => e = .returned (.bool true) ∧ Below w3.heap.size w3 w') := fun wx hw => (confWakes_any wx).mono fun e w' ⟨h, b⟩ => ⟨h, hw.trans (b.mono hw.size)⟩
      have Hxa0 : Hid _ := xa.cell 0 _ rfl
      have Hxa1 : Hid _ := xa.cell 1 _ rfl
      have Hxa2 : Hid _ := xa.cell 2 _ rfl
      have Hxa3 : Hid _ := xa.cell 3 _ rfl
      have Hxa4 : Hid _ := xa.cell 4 _ rfl
      have Hxa5 : Hid _ := xa.cell 5 _ rfl
      have Hxa6 : Hid _ := xa.cell 6 _ rfl
      have Hxa7 : Hid _ := xa.cell 7 _ rfl
      have Hxa8 : Hid _ := xa.cell 8 _ rfl
      have Hxa9 : Hid _ := xa.cell 9 _ rfl
      have hlta := xa.lt
      clear w1_ w4_ w5_ w6_ d1 d2 d3 d5 d6 w2_ w3_ d4
      have w7_ := Hw7_.out
      have w8_ := Hw8_.out
      have w9_ := Hw9_.out
      have wa_ := Hwa_.out
      have wb_ := Hwb_.out
      have wc_ := Hwc_.out
      have wd_ := Hwd_.out
      have d7 := Hd7.out
      have d8 := Hd8.out
      have d9 := Hd9.out
      have da := Hda.out
      have db := Hdb.out
      go_wp2
      refine wp_region_held_drew (S := fun w' => Below w3.heap.size w3 w') (by kernel_rfl) ((Below.refl _ _).drew) (fun hHeld => ?_)
      refine held_take (i := 0) (d := 67) (v := ?v252) rfl rfl (by kernel_rfl) (by kernel_rfl) (by kernel_rfl) (fun _ _ _ h => h) (Or.inl ⟨by kernel_rfl, ?hy252⟩) hHeld ?rest252
      case hy252 =>
        intro wx hSw
        clear hSw
        go_simp
        with_reducible rfl
      simp only [List.setIfInBounds_toArray, List.set_cons_zero, List.set_cons_succ]
      refine held_take (i := 1) (d := 68) (v := ?v253) rfl rfl (by kernel_rfl) (by kernel_rfl) (by kernel_rfl) (fun _ _ _ h => h) (Or.inl ⟨by kernel_rfl, ?hy253⟩) hHeld ?rest253
      case hy253 =>
        intro wx hSw
        clear hSw
        go_simp
        with_reducible rfl
      simp only [List.setIfInBounds_toArray, List.set_cons_zero, List.set_cons_succ]
      refine held_take (i := 2) (d := 69) (v := ?v254) rfl rfl (by kernel_rfl) (by kernel_rfl) (by kernel_rfl) (fun _ _ _ h => h) (Or.inl ⟨by kernel_rfl, ?hy254⟩) hHeld ?rest254
      case hy254 =>
        intro wx hSw
        clear hSw
        go_simp
        with_reducible rfl
      simp only [List.setIfInBounds_toArray, List.set_cons_zero, List.set_cons_succ]
      refine held_take (i := 3) (d := 70) (v := ?v255) rfl rfl (by kernel_rfl) (by kernel_rfl) (by kernel_rfl) (fun _ _ _ h => h) (Or.inl ⟨by kernel_rfl, ?hy255⟩) hHeld ?rest255
      case hy255 =>
        intro wx hSw
        clear hSw
        go_simp
        with_reducible rfl
      simp only [List.setIfInBounds_toArray, List.set_cons_zero, List.set_cons_succ]
      refine held_take (i := 4) (d := 71) (v := ?v256) rfl rfl (by kernel_rfl) (by kernel_rfl) (by kernel_rfl) (fun _ _ _ h => h) (Or.inl ⟨by kernel_rfl, ?hy256⟩) hHeld ?rest256
      case hy256 =>
        intro wx hSw
        clear hSw
        go_simp
        with_reducible rfl
      simp only [List.setIfInBounds_toArray, List.set_cons_zero, List.set_cons_succ]
      refine held_take (i := 5) (d := 72) (v := ?v257) rfl rfl (by kernel_rfl) (by kernel_rfl) (by kernel_rfl) (fun _ _ _ h => h) (Or.inl ⟨by kernel_rfl, ?hy257⟩) hHeld ?rest257
      case hy257 =>
        intro wx hSw
        have q0 := (hSw.cell (p := ⟨w.heap.size, 6, none⟩) hlta).trans Hxa6.out
        clear hSw
        go_simp
        with_reducible rfl
      simp only [List.setIfInBounds_toArray, List.set_cons_zero, List.set_cons_succ]
      refine held_take (i := 6) (d := 73) (v := ?v258) rfl rfl (by kernel_rfl) (by kernel_rfl) (by kernel_rfl) (fun _ _ _ h => h) (Or.inl ⟨by kernel_rfl, ?hy258⟩) hHeld ?rest258
      case hy258 =>
        intro wx hSw
        clear hSw
        go_simp
        with_reducible rfl
      simp only [List.setIfInBounds_toArray, List.set_cons_zero, List.set_cons_succ]
      refine held_take (i := 7) (d := 74) (v := ?v259) rfl rfl (by kernel_rfl) (by kernel_rfl) (by kernel_rfl) (fun _ _ _ h => h) (Or.inl ⟨by kernel_rfl, ?hy259⟩) hHeld ?rest259
      case hy259 =>
        intro wx hSw
        have q0 := (hSw.cell (p := ⟨w.heap.size, 0, none⟩) hlta).trans Hxa0.out
        have q1 := (hSw.cell (p := ⟨w.heap.size, 1, none⟩) hlta).trans Hxa1.out
        have q2 := (hSw.cell (p := ⟨w.heap.size, 2, none⟩) hlta).trans Hxa2.out
        have q3 := (hSw.cell (p := ⟨w.heap.size, 3, none⟩) hlta).trans Hxa3.out
        have q4 := (hSw.cell (p := ⟨w.heap.size, 4, none⟩) hlta).trans Hxa4.out
        have q5 := (hSw.cell (p := ⟨w.heap.size, 5, none⟩) hlta).trans Hxa5.out
        have q6 := (hSw.cell (p := ⟨w.heap.size, 6, none⟩) hlta).trans Hxa6.out
        have q7 := (hSw.cell (p := ⟨w.heap.size, 7, none⟩) hlta).trans Hxa7.out
        have q8 := (hSw.cell (p := ⟨w.heap.size, 8, none⟩) hlta).trans Hxa8.out
        have q9 := (hSw.cell (p := ⟨w.heap.size, 9, none⟩) hlta).trans Hxa9.out
        clear hSw
        go_simp
        with_reducible rfl
      simp only [List.setIfInBounds_toArray, List.set_cons_zero, List.set_cons_succ]
      refine wpAnyH_ready (rs := [8]) (by kernel_rfl) (by simp) ?_
      refine AllReadyH.cons rfl (fun K hK => ?_) AllReadyH.nil
      go_simp
      go_wp2_with (go_at_call 9; refine (G2.out _ (by exact hHeld)).mono ?_; rintro e wb ⟨rfl, b8⟩)
      refine hK.out _ _ (b8) (fun hHeld => ?_)
      clear hK K
      refine held_take (i := 9) (d := 76) (v := ?v260) rfl rfl (by kernel_rfl) (by kernel_rfl) (by kernel_rfl) (fun _ _ _ h => h) (Or.inl ⟨by kernel_rfl, ?hy260⟩) hHeld ?rest260
      case hy260 =>
        intro wx hSw
        clear hSw
        go_simp
        with_reducible rfl
      simp only [List.setIfInBounds_toArray, List.set_cons_zero, List.set_cons_succ]
      refine held_take (i := 10) (d := 77) (v := ?v261) rfl rfl (by kernel_rfl) (by kernel_rfl) (by kernel_rfl) (fun _ _ _ h => h) (Or.inl ⟨by kernel_rfl, ?hy261⟩) hHeld ?rest261
      case hy261 =>
        intro wx hSw
        clear hSw
        go_simp
        with_reducible rfl
      simp only [List.setIfInBounds_toArray, List.set_cons_zero, List.set_cons_succ]
      refine held_take (i := 11) (d := 78) (v := ?v262) rfl rfl (by kernel_rfl) (by kernel_rfl) (by kernel_rfl) (fun _ _ _ h => h) (Or.inl ⟨by kernel_rfl, ?hy262⟩) hHeld ?rest262
      case hy262 =>
        intro wx hSw
        clear hSw
        go_simp
        with_reducible rfl
      simp only [List.setIfInBounds_toArray, List.set_cons_zero, List.set_cons_succ]
      refine held_take (i := 12) (d := 79) (v := ?v263) rfl rfl (by kernel_rfl) (by kernel_rfl) (by kernel_rfl) (fun _ _ _ h => h) (Or.inl ⟨by kernel_rfl, ?hy263⟩) hHeld ?rest263
      case hy263 =>
        intro wx hSw
        clear hSw
        go_simp
        with_reducible rfl
      simp only [List.setIfInBounds_toArray, List.set_cons_zero, List.set_cons_succ]
      refine held_take (i := 13) (d := 80) (v := ?v264) rfl rfl (by kernel_rfl) (by kernel_rfl) (by kernel_rfl) (fun _ _ _ h => h) (Or.inl ⟨by kernel_rfl, ?hy264⟩) hHeld ?rest264
      case hy264 =>
        intro wx hSw
        clear hSw
        go_simp
        with_reducible rfl
      simp only [List.setIfInBounds_toArray, List.set_cons_zero, List.set_cons_succ]
      refine held_take (i := 14) (d := 81) (v := ?v265) rfl rfl (by kernel_rfl) (by kernel_rfl) (by kernel_rfl) (fun _ _ _ h => h) (Or.inl ⟨by kernel_rfl, ?hy265⟩) hHeld ?rest265
      case hy265 =>
        intro wx hSw
        clear hSw
        go_simp
        with_reducible rfl
      simp only [List.setIfInBounds_toArray, List.set_cons_zero, List.set_cons_succ]
      refine held_take (i := 15) (d := 82) (v := ?v266) rfl rfl (by kernel_rfl) (by kernel_rfl) (by kernel_rfl) (fun _ _ _ h => h) (Or.inl ⟨by kernel_rfl, ?hy266⟩) hHeld ?rest266
      case hy266 =>
        intro wx hSw
        have q0 := (hSw.cell (p := ⟨w.heap.size, 6, none⟩) hlta).trans Hxa6.out
        clear hSw
        go_simp
        with_reducible rfl
      simp only [List.setIfInBounds_toArray, List.set_cons_zero, List.set_cons_succ]
      refine held_take (i := 16) (d := 83) (v := ?v267) rfl rfl (by kernel_rfl) (by kernel_rfl) (by kernel_rfl) (fun _ _ _ h => h) (Or.inl ⟨by kernel_rfl, ?hy267⟩) hHeld ?rest267
      case hy267 =>
        intro wx hSw
        clear hSw
        go_simp
        with_reducible rfl
      simp only [List.setIfInBounds_toArray, List.set_cons_zero, List.set_cons_succ]
      refine held_take (i := 17) (d := 84) (v := ?v268) rfl rfl (by kernel_rfl) (by kernel_rfl) (by kernel_rfl) (fun _ _ _ h => h) (Or.inl ⟨by kernel_rfl, ?hy268⟩) hHeld ?rest268
      case hy268 =>
        intro wx hSw
        have q0 := (hSw.cell (p := ⟨w.heap.size, 0, none⟩) hlta).trans Hxa0.out
        have q1 := (hSw.cell (p := ⟨w.heap.size, 1, none⟩) hlta).trans Hxa1.out
        have q2 := (hSw.cell (p := ⟨w.heap.size, 2, none⟩) hlta).trans Hxa2.out
        have q3 := (hSw.cell (p := ⟨w.heap.size, 3, none⟩) hlta).trans Hxa3.out
        have q4 := (hSw.cell (p := ⟨w.heap.size, 4, none⟩) hlta).trans Hxa4.out
        have q5 := (hSw.cell (p := ⟨w.heap.size, 5, none⟩) hlta).trans Hxa5.out
        have q6 := (hSw.cell (p := ⟨w.heap.size, 6, none⟩) hlta).trans Hxa6.out
        have q7 := (hSw.cell (p := ⟨w.heap.size, 7, none⟩) hlta).trans Hxa7.out
        have q8 := (hSw.cell (p := ⟨w.heap.size, 8, none⟩) hlta).trans Hxa8.out
        have q9 := (hSw.cell (p := ⟨w.heap.size, 9, none⟩) hlta).trans Hxa9.out
        clear hSw
        go_simp
        with_reducible rfl
      simp only [List.setIfInBounds_toArray, List.set_cons_zero, List.set_cons_succ]
      refine wpAnyH_ready (rs := [18]) (by kernel_rfl) (by simp) ?_
      refine AllReadyH.cons rfl (fun K hK => ?_) AllReadyH.nil
      go_simp
      go_wp2_with (go_at_call 9; refine (G2.out _ (by exact hHeld)).mono ?_; rintro e wb ⟨rfl, b8⟩)
      refine hK.out _ _ (b8) (fun hHeld => ?_)
      clear hK K
      refine held_take (i := 19) (d := 86) (v := ?v269) rfl rfl (by kernel_rfl) (by kernel_rfl) (by kernel_rfl) (fun _ _ _ h => h) (Or.inl ⟨by kernel_rfl, ?hy269⟩) hHeld ?rest269
      case hy269 =>
        intro wx hSw
        clear hSw
        go_simp
        with_reducible rfl
      simp only [List.setIfInBounds_toArray, List.set_cons_zero, List.set_cons_succ]
      refine held_take (i := 20) (d := 87) (v := ?v270) rfl rfl (by kernel_rfl) (by kernel_rfl) (by kernel_rfl) (fun _ _ _ h => h) (Or.inl ⟨by kernel_rfl, ?hy270⟩) hHeld ?rest270
      case hy270 =>
        intro wx hSw
        clear hSw
        go_simp
        with_reducible rfl
      simp only [List.setIfInBounds_toArray, List.set_cons_zero, List.set_cons_succ]
      refine held_take (i := 21) (d := 88) (v := ?v271) rfl rfl (by kernel_rfl) (by kernel_rfl) (by kernel_rfl) (fun _ _ _ h => h) (Or.inl ⟨by kernel_rfl, ?hy271⟩) hHeld ?rest271
      case hy271 =>
        intro wx hSw
        clear hSw
        go_simp
        with_reducible rfl
      simp only [List.setIfInBounds_toArray, List.set_cons_zero, List.set_cons_succ]
      refine held_take (i := 22) (d := 89) (v := ?v272) rfl rfl (by kernel_rfl) (by kernel_rfl) (by kernel_rfl) (fun _ _ _ h => h) (Or.inl ⟨by kernel_rfl, ?hy272⟩) hHeld ?rest272
      case hy272 =>
        intro wx hSw
        have q0 := (hSw.cell (p := ⟨w.heap.size, 0, none⟩) hlta).trans Hxa0.out
        have q1 := (hSw.cell (p := ⟨w.heap.size, 1, none⟩) hlta).trans Hxa1.out
        have q2 := (hSw.cell (p := ⟨w.heap.size, 2, none⟩) hlta).trans Hxa2.out
        have q3 := (hSw.cell (p := ⟨w.heap.size, 3, none⟩) hlta).trans Hxa3.out
        have q4 := (hSw.cell (p := ⟨w.heap.size, 4, none⟩) hlta).trans Hxa4.out
        have q5 := (hSw.cell (p := ⟨w.heap.size, 5, none⟩) hlta).trans Hxa5.out
        have q6 := (hSw.cell (p := ⟨w.heap.size, 6, none⟩) hlta).trans Hxa6.out
        have q7 := (hSw.cell (p := ⟨w.heap.size, 7, none⟩) hlta).trans Hxa7.out
        have q8 := (hSw.cell (p := ⟨w.heap.size, 8, none⟩) hlta).trans Hxa8.out
        have q9 := (hSw.cell (p := ⟨w.heap.size, 9, none⟩) hlta).trans Hxa9.out
        clear hSw
        go_simp
        with_reducible rfl
      simp only [List.setIfInBounds_toArray, List.set_cons_zero, List.set_cons_succ]
      refine held_take (i := 23) (d := 90) (v := ?v273) rfl rfl (by kernel_rfl) (by kernel_rfl) (by kernel_rfl) (fun _ _ _ h => h) (Or.inl ⟨by kernel_rfl, ?hy273⟩) hHeld ?rest273
      case hy273 =>
        intro wx hSw
        clear hSw
        go_simp
        with_reducible rfl
      simp only [List.setIfInBounds_toArray, List.set_cons_zero, List.set_cons_succ]
      refine held_take (i := 24) (d := 91) (v := ?v274) rfl rfl (by kernel_rfl) (by kernel_rfl) (by kernel_rfl) (fun _ _ _ h => h) (Or.inl ⟨by kernel_rfl, ?hy274⟩) hHeld ?rest274
      case hy274 =>
        intro wx hSw
        clear hSw
        go_simp
        with_reducible rfl
      simp only [List.setIfInBounds_toArray, List.set_cons_zero, List.set_cons_succ]
      refine held_take (i := 26) (d := 93) (v := ?v275) rfl rfl (by kernel_rfl) (by kernel_rfl) (by kernel_rfl) (fun _ _ _ h => h) (Or.inl ⟨by kernel_rfl, ?hy275⟩) hHeld ?rest275
      case hy275 =>
        intro wx hSw
        have q0 := (hSw.cell (p := ⟨w.heap.size, 0, none⟩) hlta).trans Hxa0.out
        have q1 := (hSw.cell (p := ⟨w.heap.size, 1, none⟩) hlta).trans Hxa1.out
        have q2 := (hSw.cell (p := ⟨w.heap.size, 2, none⟩) hlta).trans Hxa2.out
        have q3 := (hSw.cell (p := ⟨w.heap.size, 3, none⟩) hlta).trans Hxa3.out
        have q4 := (hSw.cell (p := ⟨w.heap.size, 4, none⟩) hlta).trans Hxa4.out
        have q5 := (hSw.cell (p := ⟨w.heap.size, 5, none⟩) hlta).trans Hxa5.out
        have q6 := (hSw.cell (p := ⟨w.heap.size, 6, none⟩) hlta).trans Hxa6.out
        have q7 := (hSw.cell (p := ⟨w.heap.size, 7, none⟩) hlta).trans Hxa7.out
        have q8 := (hSw.cell (p := ⟨w.heap.size, 8, none⟩) hlta).trans Hxa8.out
        have q9 := (hSw.cell (p := ⟨w.heap.size, 9, none⟩) hlta).trans Hxa9.out
        clear hSw
        go_simp
        with_reducible rfl
      simp only [List.setIfInBounds_toArray, List.set_cons_zero, List.set_cons_succ]
      refine held_take (i := 27) (d := 94) (v := ?v276) rfl rfl (by kernel_rfl) (by kernel_rfl) (by kernel_rfl) (fun _ _ _ h => h) (Or.inl ⟨by kernel_rfl, ?hy276⟩) hHeld ?rest276
      case hy276 =>
        intro wx hSw
        clear hSw
        go_simp
        with_reducible rfl
      simp only [List.setIfInBounds_toArray, List.set_cons_zero, List.set_cons_succ]
      refine held_take (i := 30) (d := 97) (v := ?v277) rfl rfl (by kernel_rfl) (by kernel_rfl) (by kernel_rfl) (fun _ _ _ h => h) (Or.inl ⟨by kernel_rfl, ?hy277⟩) hHeld ?rest277
      case hy277 =>
        intro wx hSw
        clear hSw
        go_simp
        with_reducible rfl
      simp only [List.setIfInBounds_toArray, List.set_cons_zero, List.set_cons_succ]
      refine held_take (i := 31) (d := 98) (v := ?v278) rfl rfl (by kernel_rfl) (by kernel_rfl) (by kernel_rfl) (fun _ _ _ h => h) (Or.inl ⟨by kernel_rfl, ?hy278⟩) hHeld ?rest278
      case hy278 =>
        intro wx hSw
        clear hSw
        go_simp
        with_reducible rfl
      simp only [List.setIfInBounds_toArray, List.set_cons_zero, List.set_cons_succ]
      refine held_take (i := 32) (d := 99) (v := ?v279) rfl rfl (by kernel_rfl) (by kernel_rfl) (by kernel_rfl) (fun _ _ _ h => h) (Or.inl ⟨by kernel_rfl, ?hy279⟩) hHeld ?rest279
      case hy279 =>
        intro wx hSw
        clear hSw
        go_simp
        with_reducible rfl
      simp only [List.setIfInBounds_toArray, List.set_cons_zero, List.set_cons_succ]
      refine wpAnyH_ready (rs := [25]) (by kernel_rfl) (by simp) ?_
      refine AllReadyH.cons rfl (fun K hK => ?_) AllReadyH.nil
      go_simp
      go_wp2_with (go_at_call 12; refine (G5.out _ (by exact hHeld)).mono ?_; rintro e wb ⟨rfl, b8⟩)
      refine hK.out _ _ (b8) (fun hHeld => ?_)
      clear hK K
      refine wpAnyH_ready (rs := [28]) (by kernel_rfl) (by simp) ?_
      refine AllReadyH.cons rfl (fun K hK => ?_) AllReadyH.nil
      go_simp
      go_wp2_with (go_at_call 12; refine (G6.out _ (by exact hHeld)).mono ?_; rintro e wb ⟨rfl, b8⟩)
      refine hK.out _ _ (b8) (fun hHeld => ?_)
      clear hK K
      refine held_take (i := 29) (d := 96) (v := ?v280) rfl rfl (by kernel_rfl) (by kernel_rfl) (by kernel_rfl) (fun _ _ _ h => h) (Or.inl ⟨by kernel_rfl, ?hy280⟩) hHeld ?rest280
      case hy280 =>
        intro wx hSw
        clear hSw
        go_simp
        with_reducible rfl
      simp only [List.setIfInBounds_toArray, List.set_cons_zero, List.set_cons_succ]
      refine held_take (i := 33) (d := 100) (v := ?v281) rfl rfl (by kernel_rfl) (by kernel_rfl) (by kernel_rfl) (fun _ _ _ h => h) (Or.inl ⟨by kernel_rfl, ?hy281⟩) hHeld ?rest281
      case hy281 =>
        intro wx hSw
        clear hSw
        go_simp
        with_reducible rfl
      simp only [List.setIfInBounds_toArray, List.set_cons_zero, List.set_cons_succ]
      refine held_take (i := 34) (d := 101) (v := ?v282) rfl rfl (by kernel_rfl) (by kernel_rfl) (by kernel_rfl) (fun _ _ _ h => h) (Or.inl ⟨by kernel_rfl, ?hy282⟩) hHeld ?rest282
      case hy282 =>
        intro wx hSw
        clear hSw
        go_simp
        with_reducible rfl
      simp only [List.setIfInBounds_toArray, List.set_cons_zero, List.set_cons_succ]
      refine held_take (i := 35) (d := 102) (v := ?v283) rfl rfl (by kernel_rfl) (by kernel_rfl) (by kernel_rfl) (fun _ _ _ h => h) (Or.inl ⟨by kernel_rfl, ?hy283⟩) hHeld ?rest283
      case hy283 =>
        intro wx hSw
        clear hSw
        go_simp
        with_reducible rfl
      simp only [List.setIfInBounds_toArray, List.set_cons_zero, List.set_cons_succ]
      refine held_take (i := 36) (d := 103) (v := ?v284) rfl rfl (by kernel_rfl) (by kernel_rfl) (by kernel_rfl) (fun _ _ _ h => h) (Or.inl ⟨by kernel_rfl, ?hy284⟩) hHeld ?rest284
      case hy284 =>
        intro wx hSw
        have q0 := (hSw.cell (p := ⟨w.heap.size, 0, none⟩) hlta).trans Hxa0.out
        have q1 := (hSw.cell (p := ⟨w.heap.size, 1, none⟩) hlta).trans Hxa1.out
        have q2 := (hSw.cell (p := ⟨w.heap.size, 2, none⟩) hlta).trans Hxa2.out
        have q3 := (hSw.cell (p := ⟨w.heap.size, 3, none⟩) hlta).trans Hxa3.out
        have q4 := (hSw.cell (p := ⟨w.heap.size, 4, none⟩) hlta).trans Hxa4.out
        have q5 := (hSw.cell (p := ⟨w.heap.size, 5, none⟩) hlta).trans Hxa5.out
        have q6 := (hSw.cell (p := ⟨w.heap.size, 6, none⟩) hlta).trans Hxa6.out
        have q7 := (hSw.cell (p := ⟨w.heap.size, 7, none⟩) hlta).trans Hxa7.out
        have q8 := (hSw.cell (p := ⟨w.heap.size, 8, none⟩) hlta).trans Hxa8.out
        have q9 := (hSw.cell (p := ⟨w.heap.size, 9, none⟩) hlta).trans Hxa9.out
        clear hSw
        go_simp
        with_reducible rfl
      simp only [List.setIfInBounds_toArray, List.set_cons_zero, List.set_cons_succ]
      refine held_take (i := 38) (d := 105) (v := ?v285) rfl rfl (by kernel_rfl) (by kernel_rfl) (by kernel_rfl) (fun _ _ _ h => h) (Or.inl ⟨by kernel_rfl, ?hy285⟩) hHeld ?rest285
      case hy285 =>
        intro wx hSw
        clear hSw
        go_simp
        with_reducible rfl
      simp only [List.setIfInBounds_toArray, List.set_cons_zero, List.set_cons_succ]
      refine held_take (i := 39) (d := 106) (v := ?v286) rfl rfl (by kernel_rfl) (by kernel_rfl) (by kernel_rfl) (fun _ _ _ h => h) (Or.inl ⟨by kernel_rfl, ?hy286⟩) hHeld ?rest286
      case hy286 =>
        intro wx hSw
        clear hSw
        go_simp
        with_reducible rfl
      simp only [List.setIfInBounds_toArray, List.set_cons_zero, List.set_cons_succ]
      refine held_take (i := 40) (d := 107) (v := ?v287) rfl rfl (by kernel_rfl) (by kernel_rfl) (by kernel_rfl) (fun _ _ _ h => h) (Or.inl ⟨by kernel_rfl, ?hy287⟩) hHeld ?rest287
      case hy287 =>
        intro wx hSw
        clear hSw
        go_simp
        with_reducible rfl
      simp only [List.setIfInBounds_toArray, List.set_cons_zero, List.set_cons_succ]
      refine wpAnyH_ready (rs := [37]) (by kernel_rfl) (by simp) ?_
      refine AllReadyH.cons rfl (fun K hK => ?_) AllReadyH.nil
      go_simp
      go_wp2_with (go_at_call 12; refine (G7.out _ (by exact hHeld)).mono ?_; rintro e wb ⟨rfl, b8⟩)
      refine hK.out _ _ (b8) (fun hHeld => ?_)
      clear hK K
      refine held_take (i := 41) (d := 108) (v := ?v288) rfl rfl (by kernel_rfl) (by kernel_rfl) (by kernel_rfl) (fun _ _ _ h => h) (Or.inl ⟨by kernel_rfl, ?hy288⟩) hHeld ?rest288
      case hy288 =>
        intro wx hSw
        clear hSw
        go_simp
        with_reducible rfl
      simp only [List.setIfInBounds_toArray, List.set_cons_zero, List.set_cons_succ]
      refine held_take (i := 42) (d := 109) (v := ?v289) rfl rfl (by kernel_rfl) (by kernel_rfl) (by kernel_rfl) (fun _ _ _ h => h) (Or.inl ⟨by kernel_rfl, ?hy289⟩) hHeld ?rest289
      case hy289 =>
        intro wx hSw
        clear hSw
        go_simp
        with_reducible rfl
      simp only [List.setIfInBounds_toArray, List.set_cons_zero, List.set_cons_succ]
      refine held_take (i := 43) (d := 110) (v := ?v290) rfl rfl (by kernel_rfl) (by kernel_rfl) (by kernel_rfl) (fun _ _ _ h => h) (Or.inl ⟨by kernel_rfl, ?hy290⟩) hHeld ?rest290
      case hy290 =>
        intro wx hSw
        clear hSw
        go_simp
        with_reducible rfl
      simp only [List.setIfInBounds_toArray, List.set_cons_zero, List.set_cons_succ]
      refine wpAnyH_ready (rs := [44]) (by kernel_rfl) (by simp) ?_
      refine AllReadyH.cons rfl (fun K hK => ?_) AllReadyH.nil
      go_simp
      go_wp2_with (go_at_call 13; refine (HWK.out _ (by exact hHeld)).mono ?_; rintro e wb ⟨rfl, b8⟩)
      refine hK.out _ _ (b8) (fun hHeld => ?_)
      clear hK K
      refine held_take (i := 45) (d := 112) (v := ?v291) rfl rfl (by kernel_rfl) (by kernel_rfl) (by kernel_rfl) (fun _ _ _ h => h) (Or.inl ⟨by kernel_rfl, ?hy291⟩) hHeld ?rest291
      case hy291 =>
        intro wx hSw
        clear hSw
        go_simp
        with_reducible rfl
      simp only [List.setIfInBounds_toArray, List.set_cons_zero, List.set_cons_succ]
      refine wpAnyH_ready (rs := [46]) (by kernel_rfl) (by simp) ?_
      refine AllReadyH.cons rfl (fun K hK => ?_) AllReadyH.nil
      go_simp
      refine hK.out _ _ hHeld (fun hHeld => ?_)
      clear hK K
      refine wpAnyH_done (by kernel_rfl) ?_ _
      go_wp2
      go_ret
      exact ⟨rfl, bb.trans (hHeld.mono bb.size)⟩

/-- The law, of whatever configuration and numbers. -/
theorem confCounts_walk (c : Cfg) (x y : Int) (w : World) :
    Calls Try.prog 4 #[.agg #[.int .i64 c.cB, .int .i64 c.cBeam, .int .i64 c.cDepth, .int .i64 c.cWin, .int .i64 c.cQs, .int .i64 c.cQr, .int .i64 c.cBatch, .int .i64 c.cPass, .int .i64 c.cMsg, .int .i64 c.cSeqs], .int .i64 x, .int .i64 y] w fun e w' => e = .returned (.bool true) ∧ Below w.heap.size w w' := by
  cases hA : okC c with
  | false => exact confCounts_no c x y hA w
  | true =>
    obtain ⟨p, hp, ep⟩ := at_placeC x 201 (by decide)
    obtain ⟨q, hq, eq_⟩ := at_placeC y 2000 (by decide)
    have hb := (blocksC_bd hA (n := (p : Int)) (by omega) (by omega)).1
    by_cases hn : 1 < blocksC c p
    · exact confCounts_many c x y hA p q (by omega) (by omega) ep eq_ hn w
    · exact confCounts_one c x y hA p q (by omega) (by omega) ep eq_ (by omega) w

end Go.Proofs.Ytnhmdhbemlpjnaa
