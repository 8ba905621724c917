/-
  The laws' own guard over send (wakes) answers true; what lay lies as it lay. (Written by tpl_sendlaws.py.)
-/
import Derived.Test.YtmjidhnlofpliaaDoorM24
import Derived.Test.YtmjidhnlofpliaaDoorM31
import Derived.Test.YtmjidhnlofpliaaDoorM32
import Derived.Test.YtmjidhnlofpliaaDoorM33
import Derived.Lib.SlBytesConst
namespace Go.Proofs.YtmjidhnlofpliaaDoor
open Go.RowKit

def c1W : Cfg := ⟨1, 1, 1, 1, 1, 1, 1, 4, 5, 9⟩
theorem c1W_ok : okC c1W = true := by decide +kernel
theorem s1W_err : errS (newS c1W) [120] = 0 := by decide +kernel
theorem s1W_nums : (sendS (newS c1W) [120]).sN = 1 ∧ (sendS (newS c1W) [120]).sT = 1 ∧ (sendS (newS c1W) [120]).sF = 0 := by decide +kernel
theorem s1W_waits : ∃ b, (sendS (newS c1W) [120]).sW = [newM 0 b] := by
  have hl : (blocksB c1W 0 [120]).length = 1 := by rw [blocksB_len]; decide +kernel
  obtain ⟨b, hb⟩ : ∃ b, blocksB c1W 0 [120] = [b] := by
    match h : blocksB c1W 0 [120], hl with
    | [b], _ => exact ⟨b, rfl⟩
  refine ⟨b, ?_⟩
  unfold sendS
  rw [if_pos s1W_err]
  show [] ++ waitsB 0 (blocksB c1W 0 [120]) = _
  rw [hb]
  rfl
theorem s1W_packs : (packS (sendS (newS c1W) [120])).length = 1 := by
  obtain ⟨b, hb⟩ := s1W_waits
  unfold packS
  rw [hb, show winS (sendS (newS c1W) [120]) = 1 by decide +kernel]
  rfl
theorem holds_newS (w : World) (fr : Nat × Nat := (0, 0)) : Holds .u8 (w.alloc (.cells #[.int .u8 120] 5 fr)).heap.size (w.alloc (.cells #[.int .u8 120] 5 fr)) (.slice (some ⟨w.heap.size, 0, none⟩) 1 1) [120] := held_new .u8 w [120] 1 5 fr
set_option maxRecDepth 100000 in
set_option maxHeartbeats 4000000 in
theorem sendWakes_any (w : World) (hF : Firsts w) : Calls Tryd.prog 15 #[] w fun e w' => e = .returned (.bool true) ∧ Below w.heap.size w w' := by
  have kc := fun (w : World) (C : Array Value) (n c : Nat) => Lib.run_convert_bytes_const (P := Tryd.prog) w 35 5 C n c Tryd.underlying35 Tryd.underlying5
  obtain ⟨c, hc⟩ : ∃ c, c1W = c := ⟨_, rfl⟩
  obtain ⟨e0, e1, e2, e3, e4, e5, e6, e7, e8, e9⟩ : c.cB = 1 ∧ c.cBeam = 1 ∧ c.cDepth = 1 ∧ c.cWin = 1 ∧ c.cQs = 1 ∧ c.cQr = 1 ∧ c.cBatch = 1 ∧ c.cPass = 4 ∧ c.cMsg = 5 ∧ c.cSeqs = 9 := by rw [← hc]; exact ⟨rfl, rfl, rfl, rfl, rfl, rfl, rfl, rfl, rfl, rfl⟩
  have hC : okC c = true := hc ▸ c1W_ok
  obtain ⟨S1, hS1⟩ : ∃ S, sendS (newS c) [120] = S := ⟨_, rfl⟩
  have HER : Hid (errS (newS c) [120] = 0) := hc ▸ s1W_err
  obtain ⟨h1N, h1T, h1F⟩ : S1.sN = 1 ∧ S1.sT = 1 ∧ S1.sF = 0 := by rw [← hS1, ← hc]; exact s1W_nums
  have HPK : Hid ((packS S1).length = 1) := by
    show (packS S1).length = 1
    rw [← hS1, ← hc]
    exact s1W_packs
  clear hc
  have EQ : Hid (c.cB = 1 ∧ c.cBeam = 1 ∧ c.cDepth = 1 ∧ c.cWin = 1 ∧ c.cQs = 1 ∧ c.cQr = 1 ∧ c.cBatch = 1 ∧ c.cPass = 4 ∧ c.cMsg = 5 ∧ c.cSeqs = 9) := ⟨e0, e1, e2, e3, e4, e5, e6, e7, e8, e9⟩
  have HS1 : Hid (sendS (newS c) [120] = S1 ∧ S1.sN = 1 ∧ S1.sT = 1 ∧ S1.sF = 0) := ⟨hS1, h1N, h1T, h1F⟩
  have H1 := sendNew_law c hC w
  rw [show (#[.agg #[.int .i64 c.cB, .int .i64 c.cBeam, .int .i64 c.cDepth, .int .i64 c.cWin, .int .i64 c.cQs, .int .i64 c.cQr, .int .i64 c.cBatch, .int .i64 c.cPass, .int .i64 c.cMsg, .int .i64 c.cSeqs]] : Array Value) = #[.agg #[.int .i64 1, .int .i64 1, .int .i64 1, .int .i64 1, .int .i64 1, .int .i64 1, .int .i64 1, .int .i64 4, .int .i64 5, .int .i64 9]] by rw [e0, e1, e2, e3, e4, e5, e6, e7, e8, e9]] at H1
  clear hS1 h1N h1T h1F hC e0 e1 e2 e3 e4 e5 e6 e7 e8 e9
  go_enter Tryd.func15, Tryd.ntmps15
  go_wp2_with fail
  refine H1.mono ?_
  rintro e w1 ⟨rfl, h1, b1⟩
  have bb : Below w.heap.size w w1 := b1
  have HW : Hid (SnW (w1.heap.size + 1) w1 (newS c) c false 0 0 0 0 0 0 0 0 none 0 none 0 0) := (h1 _).out
  have bA : Below w1.heap.size w1 (w1.alloc (.cells #[.int .i64 0, .int .i64 0, .int .i64 0, .int .i64 0, .int .i64 0, .int .i64 0, .int .i64 0, .int .i64 0, .int .i64 0, .int .i64 0, .bool false, .int .i64 0, .int .i64 0, .int .i64 0, .int .i64 0, .int .i64 0, .int .i64 0, .slice none 0 0, .slice none 0 0] 30)) := (Below.refl _ _).alloc (Nat.le_refl _) _
  have x1 := Box.new w1 30 #[.int .i64 0, .int .i64 0, .int .i64 0, .int .i64 0, .int .i64 0, .int .i64 0, .int .i64 0, .int .i64 0, .int .i64 0, .int .i64 0, .bool false, .int .i64 0, .int .i64 0, .int .i64 0, .int .i64 0, .int .i64 0, .int .i64 0, .slice none 0 0, .slice none 0 0]
  go_upto_region 2 with (first | (refine wpList_store_box x1 rfl 30 _ _ rfl rfl rfl rfl (by kernel_rfl) (by simp [Value.oneCell']) ?_))
  replace x1 := x1.setRow #[.int .i64 c.cB, .int .i64 c.cBeam, .int .i64 c.cDepth, .int .i64 c.cWin, .int .i64 c.cQs, .int .i64 c.cQr, .int .i64 c.cBatch, .int .i64 c.cPass, .int .i64 c.cMsg, .int .i64 c.cSeqs, .bool false, .int .i64 0, .int .i64 0, .int .i64 0, .int .i64 0, .int .i64 0, .int .i64 0, .slice none 0 0, .slice none 0 0]
  have HW2 := HW.out.next (below_setRow bA (Nat.le_refl _) #[.int .i64 c.cB, .int .i64 c.cBeam, .int .i64 c.cDepth, .int .i64 c.cWin, .int .i64 c.cQs, .int .i64 c.cQr, .int .i64 c.cBatch, .int .i64 c.cPass, .int .i64 c.cMsg, .int .i64 c.cSeqs, .bool false, .int .i64 0, .int .i64 0, .int .i64 0, .int .i64 0, .int .i64 0, .int .i64 0, .slice none 0 0, .slice none 0 0])
  replace bb := bb.trans ((below_setRow bA (Nat.le_refl _) #[.int .i64 c.cB, .int .i64 c.cBeam, .int .i64 c.cDepth, .int .i64 c.cWin, .int .i64 c.cQs, .int .i64 c.cQr, .int .i64 c.cBatch, .int .i64 c.cPass, .int .i64 c.cMsg, .int .i64 c.cSeqs, .bool false, .int .i64 0, .int .i64 0, .int .i64 0, .int .i64 0, .int .i64 0, .int .i64 0, .slice none 0 0, .slice none 0 0]).mono bb.size)
  obtain ⟨D, hD⟩ : ∃ D, w1.heap.size = D := ⟨_, rfl⟩
  have HD : Hid (w.heap.size ≤ D) := by have := b1.size; show w.heap.size ≤ D; omega
  rw [hD] at x1 HW2 bb ⊢
  clear H1 h1 b1 bA hD HW
  generalize (w1.alloc (.cells #[.int .i64 0, .int .i64 0, .int .i64 0, .int .i64 0, .int .i64 0, .int .i64 0, .int .i64 0, .int .i64 0, .int .i64 0, .int .i64 0, .bool false, .int .i64 0, .int .i64 0, .int .i64 0, .int .i64 0, .int .i64 0, .int .i64 0, .slice none 0 0, .slice none 0 0] 30)).setRow D #[.int .i64 c.cB, .int .i64 c.cBeam, .int .i64 c.cDepth, .int .i64 c.cWin, .int .i64 c.cQs, .int .i64 c.cQr, .int .i64 c.cBatch, .int .i64 c.cPass, .int .i64 c.cMsg, .int .i64 c.cSeqs, .bool false, .int .i64 0, .int .i64 0, .int .i64 0, .int .i64 0, .int .i64 0, .int .i64 0, .slice none 0 0, .slice none 0 0] = w2 at *
  -- the message is sent
  have bA : Below w2.heap.size w2 (w2.alloc (.cells #[.int .u8 120] 5 (1, 2))) := (Below.refl _ _).alloc (Nat.le_refl _) _
  have HQ2 := HW2.next bA
  have H2 := fun hx => sendSend_law HQ2 (by omega) (some ⟨w2.heap.size, 0, none⟩) 1 1 [120] rfl (by omega) (by decide) hx
  go_wp2_with (first | (refine wpList_load_box x1 rfl 30 _ rfl rfl _ Tryd.underlying30 rfl (by kernel_rfl) ?_))
  refine (H2 (holds_newS w2 _)).mono ?_
  rintro e w3 ⟨R9, B9, N9, T9, F9, E9, M9, fa, fc, va, vc, rfl, hS, b3⟩
  rw [HER.out]
  rw [HS1.out.1] at hS
  obtain rfl : N9 = 1 := by rw [← hS.out.is.eN]; exact HS1.out.2.1
  obtain rfl : T9 = 1 := by rw [← hS.out.is.eT]; exact HS1.out.2.2.1
  obtain rfl : F9 = 0 := by rw [← hS.out.is.eF]; exact HS1.out.2.2.2
  have hDb : D < (w2.alloc (.cells #[.int .u8 120] 5 (1, 2))).heap.size := by have := x1.lt; simp; omega
  replace x1 := (x1.next bA).next b3
  replace bb := bb.trans ((bA.trans (b3.mono (by simp))).mono bb.size)
  clear bA HQ2 H2 b3 kc HW2
  go_upto_region 3 with (first | (refine wpList_store_box x1 rfl 30 _ _ rfl rfl rfl rfl (by kernel_rfl) (by simp [Value.oneCell']) ?_))
  have HS3 : Hid (SnW (D + 1) (w3.setRow D #[.int .i64 c.cB, .int .i64 c.cBeam, .int .i64 c.cDepth, .int .i64 c.cWin, .int .i64 c.cQs, .int .i64 c.cQr, .int .i64 c.cBatch, .int .i64 c.cPass, .int .i64 c.cMsg, .int .i64 c.cSeqs, .bool false, .int .i64 0, .int .i64 R9, .int .i64 B9, .int .i64 1, .int .i64 1, .int .i64 0, .slice fa E9 fc, .slice va M9 vc]) S1 c false 0 R9 B9 1 1 0 E9 M9 fa fc va vc 200) := (hS.out.old hDb (fun g hg => setRow_other w3 D g #[.int .i64 c.cB, .int .i64 c.cBeam, .int .i64 c.cDepth, .int .i64 c.cWin, .int .i64 c.cQs, .int .i64 c.cQr, .int .i64 c.cBatch, .int .i64 c.cPass, .int .i64 c.cMsg, .int .i64 c.cSeqs, .bool false, .int .i64 0, .int .i64 R9, .int .i64 B9, .int .i64 1, .int .i64 1, .int .i64 0, .slice fa E9 fc, .slice va M9 vc] hg)).lower (by omega)
  replace x1 := x1.setRow #[.int .i64 c.cB, .int .i64 c.cBeam, .int .i64 c.cDepth, .int .i64 c.cWin, .int .i64 c.cQs, .int .i64 c.cQr, .int .i64 c.cBatch, .int .i64 c.cPass, .int .i64 c.cMsg, .int .i64 c.cSeqs, .bool false, .int .i64 0, .int .i64 R9, .int .i64 B9, .int .i64 1, .int .i64 1, .int .i64 0, .slice fa E9 fc, .slice va M9 vc]
  replace bb := below_setRow bb HD.out #[.int .i64 c.cB, .int .i64 c.cBeam, .int .i64 c.cDepth, .int .i64 c.cWin, .int .i64 c.cQs, .int .i64 c.cQr, .int .i64 c.cBatch, .int .i64 c.cPass, .int .i64 c.cMsg, .int .i64 c.cSeqs, .bool false, .int .i64 0, .int .i64 R9, .int .i64 B9, .int .i64 1, .int .i64 1, .int .i64 0, .slice fa E9 fc, .slice va M9 vc]
  clear hS hDb
  generalize w3.setRow D #[.int .i64 c.cB, .int .i64 c.cBeam, .int .i64 c.cDepth, .int .i64 c.cWin, .int .i64 c.cQs, .int .i64 c.cQr, .int .i64 c.cBatch, .int .i64 c.cPass, .int .i64 c.cMsg, .int .i64 c.cSeqs, .bool false, .int .i64 0, .int .i64 R9, .int .i64 B9, .int .i64 1, .int .i64 1, .int .i64 0, .slice fa E9 fc, .slice va M9 vc] = w4 at *
  -- a tick
  have H3 := sendTick_law HS3.out (by omega) (hF.next bb)
  go_wp2_with (first | (refine wpList_load_box x1 rfl 30 _ rfl rfl _ Tryd.underlying30 rfl (by kernel_rfl) ?_))
  refine H3.mono ?_
  rintro e w5 ⟨ga, gc, ha, hc, pa, pn, pc, r, q, rfl, hE, hS, b3⟩
  obtain rfl : pn = 1 := by rw [← hE.out.packs.2]; exact HPK.out
  have hDb : D < w4.heap.size := x1.lt
  replace x1 := x1.next b3
  replace bb := bb.trans (b3.mono bb.size)
  clear b3 H3 HS3 hE
  go_upto_region 4 with (first | (refine wpList_store_box x1 rfl 30 _ _ rfl rfl rfl rfl (by kernel_rfl) (by simp [Value.oneCell']) ?_))
  have HS4 : Hid (SnW (D + 1) (w5.setRow D #[.int .i64 c.cB, .int .i64 c.cBeam, .int .i64 c.cDepth, .int .i64 c.cWin, .int .i64 c.cQs, .int .i64 c.cQr, .int .i64 c.cBatch, .int .i64 c.cPass, .int .i64 c.cMsg, .int .i64 c.cSeqs, .bool false, .int .i64 (satN 0 1), .int .i64 R9, .int .i64 B9, .int .i64 1, .int .i64 1, .int .i64 0, .slice ga E9 gc, .slice ha M9 hc]) (tickS S1) c false (satN 0 1) R9 B9 1 1 0 E9 M9 ga gc ha hc 200) := (hS.out.old hDb (fun g hg => setRow_other w5 D g #[.int .i64 c.cB, .int .i64 c.cBeam, .int .i64 c.cDepth, .int .i64 c.cWin, .int .i64 c.cQs, .int .i64 c.cQr, .int .i64 c.cBatch, .int .i64 c.cPass, .int .i64 c.cMsg, .int .i64 c.cSeqs, .bool false, .int .i64 (satN 0 1), .int .i64 R9, .int .i64 B9, .int .i64 1, .int .i64 1, .int .i64 0, .slice ga E9 gc, .slice ha M9 hc] hg)).lower (by omega)
  replace x1 := x1.setRow #[.int .i64 c.cB, .int .i64 c.cBeam, .int .i64 c.cDepth, .int .i64 c.cWin, .int .i64 c.cQs, .int .i64 c.cQr, .int .i64 c.cBatch, .int .i64 c.cPass, .int .i64 c.cMsg, .int .i64 c.cSeqs, .bool false, .int .i64 (satN 0 1), .int .i64 R9, .int .i64 B9, .int .i64 1, .int .i64 1, .int .i64 0, .slice ga E9 gc, .slice ha M9 hc]
  replace bb := below_setRow bb HD.out #[.int .i64 c.cB, .int .i64 c.cBeam, .int .i64 c.cDepth, .int .i64 c.cWin, .int .i64 c.cQs, .int .i64 c.cQr, .int .i64 c.cBatch, .int .i64 c.cPass, .int .i64 c.cMsg, .int .i64 c.cSeqs, .bool false, .int .i64 (satN 0 1), .int .i64 R9, .int .i64 B9, .int .i64 1, .int .i64 1, .int .i64 0, .slice ga E9 gc, .slice ha M9 hc]
  clear hS hDb
  generalize w5.setRow D #[.int .i64 c.cB, .int .i64 c.cBeam, .int .i64 c.cDepth, .int .i64 c.cWin, .int .i64 c.cQs, .int .i64 c.cQr, .int .i64 c.cBatch, .int .i64 c.cPass, .int .i64 c.cMsg, .int .i64 c.cSeqs, .bool false, .int .i64 (satN 0 1), .int .i64 R9, .int .i64 B9, .int .i64 1, .int .i64 1, .int .i64 0, .slice ga E9 gc, .slice ha M9 hc] = w6 at *
  -- all is told to be had
  have H4 := AckMake_ok 1 0 (by omega) (by omega) (by omega) (by omega) w6
  go_wp2_with fail
  refine H4.mono ?_
  rintro e w7 ⟨q9, rfl, o7, b3⟩
  obtain ⟨qa, qc, rfl⟩ := row_shapeS o7
  have HS5 := HS4.out.next b3
  replace x1 := x1.next b3
  replace bb := bb.trans (b3.mono bb.size)
  have hla := learn_all HS4.out.ok (b := 0) (by omega) (by omega)
  rw [show (tickS S1).sT = 1 from HS1.out.2.2.1] at hla
  have H5 := sendLearn_law HS5 (by omega) qa 13 qc (packA 1 0) (packA_len 1 0) (by omega) (rowK_cap o7) (packA_bd 1 0) (holds_of_row o7)
  clear b3 H4 HS4 o7
  go_wp2_with (first | (refine wpList_load_box x1 rfl 30 _ rfl rfl _ Tryd.underlying30 rfl (by kernel_rfl) ?_))
  refine H5.mono ?_
  rintro e w8 ⟨R8, B8, N8, T8, F8, E8, M8, ia, ic, ja, jc, rfl, hS, b3⟩
  rw [hla.1]
  rw [hla.2] at hS
  obtain rfl : N8 = 1 := by rw [← hS.out.is.eN]; exact HS1.out.2.1
  obtain rfl : F8 = 1 := by rw [← hS.out.is.eF]
  obtain rfl : E8 = 0 := by rw [← hS.out.is.lE]; rfl
  have hDb : D < w7.heap.size := x1.lt
  replace x1 := x1.next b3
  replace bb := bb.trans (b3.mono bb.size)
  clear b3 H5 HS5
  go_upto_region 6 with (first | (refine wpList_store_box x1 rfl 30 _ _ rfl rfl rfl rfl (by kernel_rfl) (by simp [Value.oneCell']) ?_))
  have HS6 := hS.out.old hDb (fun g hg => setRow_other w8 D g #[.int .i64 c.cB, .int .i64 c.cBeam, .int .i64 c.cDepth, .int .i64 c.cWin, .int .i64 c.cQs, .int .i64 c.cQr, .int .i64 c.cBatch, .int .i64 c.cPass, .int .i64 c.cMsg, .int .i64 c.cSeqs, .bool false, .int .i64 (satN 0 1), .int .i64 R8, .int .i64 B8, .int .i64 1, .int .i64 T8, .int .i64 1, .slice ia 0 ic, .slice ja M8 jc] hg)
  replace x1 := x1.setRow #[.int .i64 c.cB, .int .i64 c.cBeam, .int .i64 c.cDepth, .int .i64 c.cWin, .int .i64 c.cQs, .int .i64 c.cQr, .int .i64 c.cBatch, .int .i64 c.cPass, .int .i64 c.cMsg, .int .i64 c.cSeqs, .bool false, .int .i64 (satN 0 1), .int .i64 R8, .int .i64 B8, .int .i64 1, .int .i64 T8, .int .i64 1, .slice ia 0 ic, .slice ja M8 jc]
  replace bb := below_setRow bb HD.out #[.int .i64 c.cB, .int .i64 c.cBeam, .int .i64 c.cDepth, .int .i64 c.cWin, .int .i64 c.cQs, .int .i64 c.cQr, .int .i64 c.cBatch, .int .i64 c.cPass, .int .i64 c.cMsg, .int .i64 c.cSeqs, .bool false, .int .i64 (satN 0 1), .int .i64 R8, .int .i64 B8, .int .i64 1, .int .i64 T8, .int .i64 1, .slice ia 0 ic, .slice ja M8 jc]
  clear hS hDb hla
  generalize w8.setRow D #[.int .i64 c.cB, .int .i64 c.cBeam, .int .i64 c.cDepth, .int .i64 c.cWin, .int .i64 c.cQs, .int .i64 c.cQr, .int .i64 c.cBatch, .int .i64 c.cPass, .int .i64 c.cMsg, .int .i64 c.cSeqs, .bool false, .int .i64 (satN 0 1), .int .i64 R8, .int .i64 B8, .int .i64 1, .int .i64 T8, .int .i64 1, .slice ia 0 ic, .slice ja M8 jc] = w9 at *
  have H6 := sendConfirmed_law HS6 (by omega)
  rw [show (1 : Int) - ((0 : Nat) : Int) = 1 from rfl] at H6
  clear HS6
  go_wp2_with (first | (refine wpList_load_boxg x1 rfl 30 _ rfl rfl _ Tryd.underlying30 rfl (by kernel_rfl) ?_))
  refine H6.mono ?_
  rintro e w10 ⟨rfl, b3⟩
  replace x1 := x1.next b3
  replace bb := bb.trans (b3.mono bb.size)
  have c16 := x1.cell 16 _ rfl
  have l1 := x1.lt
  clear b3 H6 x1
  go_wp2
  go_ret
  exact ⟨rfl, bb⟩

end Go.Proofs.YtmjidhnlofpliaaDoor
