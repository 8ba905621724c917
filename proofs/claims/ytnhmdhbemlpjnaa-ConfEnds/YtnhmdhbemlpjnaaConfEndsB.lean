/-
  ConfEnds: the walk: whatever the configuration and the number, the law answers true, and nothing that lay has turned. (Written by tpl_confends.py.)
-/
import Derived.Test.YtnhmdhbemlpjnaaConfWakes
import Derived.Deep.Cut
import Derived.Deep.CutRange
import Derived.Deep.DeepCutAuto
namespace Go.Proofs.Ytnhmdhbemlpjnaa
open Go.RowKit

set_option maxRecDepth 100000 in
set_option maxHeartbeats 4000000 in
theorem confEnds_3 (c : Cfg) (x : Int) (hA : okC c = true) (ek : (IntKind.u64.wrap x).tmod 10 = 3) (w : World) :
    Calls Try.prog 5 #[.agg #[.int .i64 c.cB, .int .i64 c.cBeam, .int .i64 c.cDepth, .int .i64 c.cWin, .int .i64 c.cQs, .int .i64 c.cQr, .int .i64 c.cBatch, .int .i64 c.cPass, .int .i64 c.cMsg, .int .i64 c.cSeqs], .int .i64 x] w fun e w' => e = .returned (.bool true) ∧ Below w.heap.size w w' := by
  have bb : Below w.heap.size w (w.alloc (.cells #[.int .i64 c.cB, .int .i64 c.cBeam, .int .i64 c.cDepth, .int .i64 c.cWin, .int .i64 c.cQs, .int .i64 c.cQr, .int .i64 c.cBatch, .int .i64 c.cPass, .int .i64 c.cMsg, .int .i64 c.cSeqs] 23)) := (Below.refl w.heap.size w).alloc (Nat.le_refl _) _
  have xa := Box.new w 23 #[.int .i64 c.cB, .int .i64 c.cBeam, .int .i64 c.cDepth, .int .i64 c.cWin, .int .i64 c.cQs, .int .i64 c.cQr, .int .i64 c.cBatch, .int .i64 c.cPass, .int .i64 c.cMsg, .int .i64 c.cSeqs]
  have hI := (okC_iff c).1 hA
  have o0 : okC (Cfg.mk c.cB c.cBeam c.cDepth 1 c.cQs c.cQr c.cBatch c.cPass c.cMsg c.cSeqs) = true := (okC_iff _).2 (by dsimp only; omega)
  obtain ⟨S0, hS0⟩ : ∃ v, segsC (Cfg.mk c.cB c.cBeam c.cDepth 1 c.cQs c.cQr c.cBatch c.cPass c.cMsg c.cSeqs) = v := ⟨_, rfl⟩
  have b0_ := (segsC_bd o0).1
  rw [hS0] at b0_
  have dS0 : decide (S0 < 22) = false := decide_eq_false (by omega)
  have K0 : Hid (∀ wx : World, Calls Try.prog 7 #[.agg #[.int .i64 c.cB, .int .i64 c.cBeam, .int .i64 c.cDepth, .int .i64 1, .int .i64 c.cQs, .int .i64 c.cQr, .int .i64 c.cBatch, .int .i64 c.cPass, .int .i64 c.cMsg, .int .i64 c.cSeqs]] wx fun e w' => e = .returned (.int .i64 0) ∧ Below wx.heap.size wx w') := fun wx => by
    have := ConfCheck_any (Cfg.mk c.cB c.cBeam c.cDepth 1 c.cQs c.cQr c.cBatch c.cPass c.cMsg c.cSeqs) wx
    rw [show checkA (Cfg.mk c.cB c.cBeam c.cDepth 1 c.cQs c.cQr c.cBatch c.cPass c.cMsg c.cSeqs) = 0 from (if_pos o0)] at this
    exact this
  have G0 : Hid (∀ wx : World, Calls Try.prog 8 #[.agg #[.int .i64 c.cB, .int .i64 c.cBeam, .int .i64 c.cDepth, .int .i64 1, .int .i64 c.cQs, .int .i64 c.cQr, .int .i64 c.cBatch, .int .i64 c.cPass, .int .i64 c.cMsg, .int .i64 c.cSeqs]] wx fun e w' => e = .returned (.int .i64 S0) ∧ Below wx.heap.size wx w') := fun wx => by
    have := ConfSegs_any (Cfg.mk c.cB c.cBeam c.cDepth 1 c.cQs c.cQr c.cBatch c.cPass c.cMsg c.cSeqs) wx
    rw [show segsA (Cfg.mk c.cB c.cBeam c.cDepth 1 c.cQs c.cQr c.cBatch c.cPass c.cMsg c.cSeqs) = S0 from (if_pos o0).trans hS0] at this
    exact this
  have o1 : okC (Cfg.mk c.cB c.cBeam c.cDepth 16 c.cQs c.cQr c.cBatch c.cPass c.cMsg c.cSeqs) = true := (okC_iff _).2 (by dsimp only; omega)
  obtain ⟨S1, hS1⟩ : ∃ v, segsC (Cfg.mk c.cB c.cBeam c.cDepth 16 c.cQs c.cQr c.cBatch c.cPass c.cMsg c.cSeqs) = v := ⟨_, rfl⟩
  have b1_ := (segsC_bd o1).1
  rw [hS1] at b1_
  have dS1 : decide (S1 < 22) = false := decide_eq_false (by omega)
  have K1 : Hid (∀ wx : World, Calls Try.prog 7 #[.agg #[.int .i64 c.cB, .int .i64 c.cBeam, .int .i64 c.cDepth, .int .i64 16, .int .i64 c.cQs, .int .i64 c.cQr, .int .i64 c.cBatch, .int .i64 c.cPass, .int .i64 c.cMsg, .int .i64 c.cSeqs]] wx fun e w' => e = .returned (.int .i64 0) ∧ Below wx.heap.size wx w') := fun wx => by
    have := ConfCheck_any (Cfg.mk c.cB c.cBeam c.cDepth 16 c.cQs c.cQr c.cBatch c.cPass c.cMsg c.cSeqs) wx
    rw [show checkA (Cfg.mk c.cB c.cBeam c.cDepth 16 c.cQs c.cQr c.cBatch c.cPass c.cMsg c.cSeqs) = 0 from (if_pos o1)] at this
    exact this
  have G1 : Hid (∀ wx : World, Calls Try.prog 8 #[.agg #[.int .i64 c.cB, .int .i64 c.cBeam, .int .i64 c.cDepth, .int .i64 16, .int .i64 c.cQs, .int .i64 c.cQr, .int .i64 c.cBatch, .int .i64 c.cPass, .int .i64 c.cMsg, .int .i64 c.cSeqs]] wx fun e w' => e = .returned (.int .i64 S1) ∧ Below wx.heap.size wx w') := fun wx => by
    have := ConfSegs_any (Cfg.mk c.cB c.cBeam c.cDepth 16 c.cQs c.cQr c.cBatch c.cPass c.cMsg c.cSeqs) wx
    rw [show segsA (Cfg.mk c.cB c.cBeam c.cDepth 16 c.cQs c.cQr c.cBatch c.cPass c.cMsg c.cSeqs) = S1 from (if_pos o1).trans hS1] at this
    exact this
  have o2 : okC (Cfg.mk c.cB c.cBeam c.cDepth 0 c.cQs c.cQr c.cBatch c.cPass c.cMsg c.cSeqs) = false := by
    rw [← Bool.not_eq_true, okC_iff]
    dsimp only
    omega
  have K2 : Hid (∀ wx : World, Calls Try.prog 7 #[.agg #[.int .i64 c.cB, .int .i64 c.cBeam, .int .i64 c.cDepth, .int .i64 0, .int .i64 c.cQs, .int .i64 c.cQr, .int .i64 c.cBatch, .int .i64 c.cPass, .int .i64 c.cMsg, .int .i64 c.cSeqs]] wx fun e w' => e = .returned (.int .i64 1) ∧ Below wx.heap.size wx w') := fun wx => by
    have := ConfCheck_any (Cfg.mk c.cB c.cBeam c.cDepth 0 c.cQs c.cQr c.cBatch c.cPass c.cMsg c.cSeqs) wx
    rw [show checkA (Cfg.mk c.cB c.cBeam c.cDepth 0 c.cQs c.cQr c.cBatch c.cPass c.cMsg c.cSeqs) = 1 from (if_neg (by rw [o2]; decide))] at this
    exact this
  have G2 : Hid (∀ wx : World, Calls Try.prog 8 #[.agg #[.int .i64 c.cB, .int .i64 c.cBeam, .int .i64 c.cDepth, .int .i64 0, .int .i64 c.cQs, .int .i64 c.cQr, .int .i64 c.cBatch, .int .i64 c.cPass, .int .i64 c.cMsg, .int .i64 c.cSeqs]] wx fun e w' => e = .returned (.int .i64 0) ∧ Below wx.heap.size wx w') := fun wx => by
    have := ConfSegs_any (Cfg.mk c.cB c.cBeam c.cDepth 0 c.cQs c.cQr c.cBatch c.cPass c.cMsg c.cSeqs) wx
    rw [show segsA (Cfg.mk c.cB c.cBeam c.cDepth 0 c.cQs c.cQr c.cBatch c.cPass c.cMsg c.cSeqs) = 0 from (if_neg (by rw [o2]; decide))] at this
    exact this
  have T2 : Hid (∀ wx : World, Calls Try.prog 11 #[.agg #[.int .i64 c.cB, .int .i64 c.cBeam, .int .i64 c.cDepth, .int .i64 0, .int .i64 c.cQs, .int .i64 c.cQr, .int .i64 c.cBatch, .int .i64 c.cPass, .int .i64 c.cMsg, .int .i64 c.cSeqs]] wx fun e w' => e = .returned (.int .i64 0) ∧ Below wx.heap.size wx w') := fun wx => by
    have := ConfTicks_any (Cfg.mk c.cB c.cBeam c.cDepth 0 c.cQs c.cQr c.cBatch c.cPass c.cMsg c.cSeqs) wx
    rw [show ticksA (Cfg.mk c.cB c.cBeam c.cDepth 0 c.cQs c.cQr c.cBatch c.cPass c.cMsg c.cSeqs) = 0 from (if_neg (by rw [o2]; decide))] at this
    exact this
  have o3 : okC (Cfg.mk c.cB c.cBeam c.cDepth 17 c.cQs c.cQr c.cBatch c.cPass c.cMsg c.cSeqs) = false := by
    rw [← Bool.not_eq_true, okC_iff]
    dsimp only
    omega
  have K3 : Hid (∀ wx : World, Calls Try.prog 7 #[.agg #[.int .i64 c.cB, .int .i64 c.cBeam, .int .i64 c.cDepth, .int .i64 17, .int .i64 c.cQs, .int .i64 c.cQr, .int .i64 c.cBatch, .int .i64 c.cPass, .int .i64 c.cMsg, .int .i64 c.cSeqs]] wx fun e w' => e = .returned (.int .i64 1) ∧ Below wx.heap.size wx w') := fun wx => by
    have := ConfCheck_any (Cfg.mk c.cB c.cBeam c.cDepth 17 c.cQs c.cQr c.cBatch c.cPass c.cMsg c.cSeqs) wx
    rw [show checkA (Cfg.mk c.cB c.cBeam c.cDepth 17 c.cQs c.cQr c.cBatch c.cPass c.cMsg c.cSeqs) = 1 from (if_neg (by rw [o3]; decide))] at this
    exact this
  have G3 : Hid (∀ wx : World, Calls Try.prog 8 #[.agg #[.int .i64 c.cB, .int .i64 c.cBeam, .int .i64 c.cDepth, .int .i64 17, .int .i64 c.cQs, .int .i64 c.cQr, .int .i64 c.cBatch, .int .i64 c.cPass, .int .i64 c.cMsg, .int .i64 c.cSeqs]] wx fun e w' => e = .returned (.int .i64 0) ∧ Below wx.heap.size wx w') := fun wx => by
    have := ConfSegs_any (Cfg.mk c.cB c.cBeam c.cDepth 17 c.cQs c.cQr c.cBatch c.cPass c.cMsg c.cSeqs) wx
    rw [show segsA (Cfg.mk c.cB c.cBeam c.cDepth 17 c.cQs c.cQr c.cBatch c.cPass c.cMsg c.cSeqs) = 0 from (if_neg (by rw [o3]; decide))] at this
    exact this
  have T3 : Hid (∀ wx : World, Calls Try.prog 11 #[.agg #[.int .i64 c.cB, .int .i64 c.cBeam, .int .i64 c.cDepth, .int .i64 17, .int .i64 c.cQs, .int .i64 c.cQr, .int .i64 c.cBatch, .int .i64 c.cPass, .int .i64 c.cMsg, .int .i64 c.cSeqs]] wx fun e w' => e = .returned (.int .i64 0) ∧ Below wx.heap.size wx w') := fun wx => by
    have := ConfTicks_any (Cfg.mk c.cB c.cBeam c.cDepth 17 c.cQs c.cQr c.cBatch c.cPass c.cMsg c.cSeqs) wx
    rw [show ticksA (Cfg.mk c.cB c.cBeam c.cDepth 17 c.cQs c.cQr c.cBatch c.cPass c.cMsg c.cSeqs) = 0 from (if_neg (by rw [o3]; decide))] at this
    exact this
  have KC : Hid (∀ wx : World, Calls Try.prog 7 #[.agg #[.int .i64 c.cB, .int .i64 c.cBeam, .int .i64 c.cDepth, .int .i64 c.cWin, .int .i64 c.cQs, .int .i64 c.cQr, .int .i64 c.cBatch, .int .i64 c.cPass, .int .i64 c.cMsg, .int .i64 c.cSeqs]] wx fun e w' => e = .returned (.int .i64 0) ∧ Below wx.heap.size wx w') := fun wx => by
    have := ConfCheck_any c wx
    rw [show checkA c = 0 from (if_pos hA)] at this
    exact this
  have HC := refConfig_any c (w.alloc (.cells #[.int .i64 c.cB, .int .i64 c.cBeam, .int .i64 c.cDepth, .int .i64 c.cWin, .int .i64 c.cQs, .int .i64 c.cQr, .int .i64 c.cBatch, .int .i64 c.cPass, .int .i64 c.cMsg, .int .i64 c.cSeqs] 23))
  rw [hA] at HC
  clear hI hA o0 o1 o2 o3 hS0 b0_ hS1 b1_
  go_enter Try.func5, Try.ntmps5
  have cxa0 := xa.cell 0 _ rfl
  have cxa1 := xa.cell 1 _ rfl
  have cxa2 := xa.cell 2 _ rfl
  have cxa3 := xa.cell 3 _ rfl
  have cxa4 := xa.cell 4 _ rfl
  have cxa5 := xa.cell 5 _ rfl
  have cxa6 := xa.cell 6 _ rfl
  have cxa7 := xa.cell 7 _ rfl
  have cxa8 := xa.cell 8 _ rfl
  have cxa9 := xa.cell 9 _ rfl
  go_wp2_with fail
  refine (HC).mono ?_
  rintro e w1 ⟨rfl, b9⟩
  clear cxa0 cxa1 cxa2 cxa3 cxa4 cxa5 cxa6 cxa7 cxa8 cxa9
  replace xa := xa.next b9
  replace bb := bb.trans (b9.mono bb.size)
  clear b9
  clear HC
  have b9 : Below w1.heap.size w1 ((w1.alloc (.cells #[.int .i64 1, .int .i64 1, .int .i64 1, .int .i64 1, .int .i64 1, .int .i64 1, .int .i64 1, .int .i64 4, .int .i64 0, .int .i64 0] 3)).alloc (.cells #[.int .i64 16, .int .i64 16, .int .i64 3, .int .i64 16, .int .i64 16, .int .i64 16, .int .i64 64, .int .i64 16, .int .i64 200, .int .i64 1073741824] 3)) := ((Below.refl _ _).alloc (Nat.le_refl _) _).alloc (by simp) _
  have xl : Box ((w1.alloc (.cells #[.int .i64 1, .int .i64 1, .int .i64 1, .int .i64 1, .int .i64 1, .int .i64 1, .int .i64 1, .int .i64 4, .int .i64 0, .int .i64 0] 3)).alloc (.cells #[.int .i64 16, .int .i64 16, .int .i64 3, .int .i64 16, .int .i64 16, .int .i64 16, .int .i64 64, .int .i64 16, .int .i64 200, .int .i64 1073741824] 3)) w1.heap.size 3 #[.int .i64 1, .int .i64 1, .int .i64 1, .int .i64 1, .int .i64 1, .int .i64 1, .int .i64 1, .int .i64 4, .int .i64 0, .int .i64 0] := (Box.new w1 _ _).alloc _
  have xm : Box ((w1.alloc (.cells #[.int .i64 1, .int .i64 1, .int .i64 1, .int .i64 1, .int .i64 1, .int .i64 1, .int .i64 1, .int .i64 4, .int .i64 0, .int .i64 0] 3)).alloc (.cells #[.int .i64 16, .int .i64 16, .int .i64 3, .int .i64 16, .int .i64 16, .int .i64 16, .int .i64 64, .int .i64 16, .int .i64 200, .int .i64 1073741824] 3)) (w1.heap.size + 1) 3 #[.int .i64 16, .int .i64 16, .int .i64 3, .int .i64 16, .int .i64 16, .int .i64 16, .int .i64 64, .int .i64 16, .int .i64 200, .int .i64 1073741824] := by
    have := Box.new (w1.alloc (.cells #[.int .i64 1, .int .i64 1, .int .i64 1, .int .i64 1, .int .i64 1, .int .i64 1, .int .i64 1, .int .i64 4, .int .i64 0, .int .i64 0] 3)) 3 #[.int .i64 16, .int .i64 16, .int .i64 3, .int .i64 16, .int .i64 16, .int .i64 16, .int .i64 64, .int .i64 16, .int .i64 200, .int .i64 1073741824]
    simpa using this
  replace xa := xa.next b9
  replace bb := bb.trans (b9.mono bb.size)
  clear b9
  go_wp2
  generalize ((w1.alloc (.cells #[.int .i64 1, .int .i64 1, .int .i64 1, .int .i64 1, .int .i64 1, .int .i64 1, .int .i64 1, .int .i64 4, .int .i64 0, .int .i64 0] 3)).alloc (.cells #[.int .i64 16, .int .i64 16, .int .i64 3, .int .i64 16, .int .i64 16, .int .i64 16, .int .i64 64, .int .i64 16, .int .i64 200, .int .i64 1073741824] 3)) = w2 at *
  have wv2 : IntKind.i64.wrap (0) = 0 := by rw [IntKind.wrap_i64]; decide
  have wv3 : IntKind.i64.wrap (17) = 17 := by rw [IntKind.wrap_i64]; decide
  have hltl := xl.lt
  have hltm := xm.lt
  have cl := xl.cell 3 _ rfl
  have cm := xm.cell 3 _ rfl
  skip
  go_cut [38, 39, 40] (fun s l i wx => ∃ B4, s = .slice (some ⟨B4, 0, none⟩) 4 4 ∧ l = .int .i64 4 ∧ i = .int .i64 0 ∧ Box wx B4 3 #[.int .i64 1, .int .i64 16, .int .i64 0, .int .i64 17] ∧ Below w2.heap.size w2 wx)
  case first =>
    refine wp_region_held_drew (S := fun w' => Below w2.heap.size w2 w') (by kernel_rfl) ((Below.refl _ _).drew) (fun hHeld => ?_)
    generalize w2.drew = wk0 at *
    refine held_take (i := 0) (d := 20) (v := ?v58) rfl rfl (by kernel_rfl) (by kernel_rfl) (by kernel_rfl) (fun _ _ _ h => h) (Or.inl ⟨by kernel_rfl, ?hy58⟩) hHeld ?rest58
    case hy58 =>
      intro wx hSw
      clear hSw
      go_simp
      with_reducible rfl
    simp only [List.setIfInBounds_toArray, List.set_cons_zero, List.set_cons_succ]
    refine held_take (i := 1) (d := 21) (v := ?v59) rfl rfl (by kernel_rfl) (by kernel_rfl) (by kernel_rfl) (fun _ _ _ h => h) (Or.inl ⟨by kernel_rfl, ?hy59⟩) hHeld ?rest59
    case hy59 =>
      intro wx hSw
      clear hSw
      go_simp
      with_reducible rfl
    simp only [List.setIfInBounds_toArray, List.set_cons_zero, List.set_cons_succ]
    refine held_take (i := 2) (d := 22) (v := ?v60) rfl rfl (by kernel_rfl) (by kernel_rfl) (by kernel_rfl) (fun _ _ _ h => h) (Or.inl ⟨by kernel_rfl, ?hy60⟩) hHeld ?rest60
    case hy60 =>
      intro wx hSw
      clear hSw
      go_simp
      with_reducible rfl
    simp only [List.setIfInBounds_toArray, List.set_cons_zero, List.set_cons_succ]
    refine held_take (i := 3) (d := 23) (v := ?v61) rfl rfl (by kernel_rfl) (by kernel_rfl) (by kernel_rfl) (fun _ _ _ h => h) (Or.inl ⟨by kernel_rfl, ?hy61⟩) hHeld ?rest61
    case hy61 =>
      intro wx hSw
      have q0 := (hSw.cell (p := ⟨w1.heap.size, 3, none⟩) hltl).trans cl
      clear hSw
      go_simp
      with_reducible rfl
    simp only [List.setIfInBounds_toArray, List.set_cons_zero, List.set_cons_succ]
    refine held_take (i := 4) (d := 24) (v := ?v62) rfl rfl (by kernel_rfl) (by kernel_rfl) (by kernel_rfl) (fun _ _ _ h => h) (Or.inl ⟨by kernel_rfl, ?hy62⟩) hHeld ?rest62
    case hy62 =>
      intro wx hSw
      clear hSw
      go_simp
      with_reducible rfl
    simp only [List.setIfInBounds_toArray, List.set_cons_zero, List.set_cons_succ]
    refine held_take (i := 5) (d := 25) (v := ?v63) rfl rfl (by kernel_rfl) (by kernel_rfl) (by kernel_rfl) (fun _ _ _ h => h) (Or.inl ⟨by kernel_rfl, ?hy63⟩) hHeld ?rest63
    case hy63 =>
      intro wx hSw
      clear hSw
      go_simp
      with_reducible rfl
    simp only [List.setIfInBounds_toArray, List.set_cons_zero, List.set_cons_succ]
    refine held_take (i := 6) (d := 26) (v := ?v64) rfl rfl (by kernel_rfl) (by kernel_rfl) (by kernel_rfl) (fun _ _ _ h => h) (Or.inl ⟨by kernel_rfl, ?hy64⟩) hHeld ?rest64
    case hy64 =>
      intro wx hSw
      clear hSw
      go_simp
      with_reducible rfl
    simp only [List.setIfInBounds_toArray, List.set_cons_zero, List.set_cons_succ]
    refine held_take (i := 7) (d := 27) (v := ?v65) rfl rfl (by kernel_rfl) (by kernel_rfl) (by kernel_rfl) (fun _ _ _ h => h) (Or.inl ⟨by kernel_rfl, ?hy65⟩) hHeld ?rest65
    case hy65 =>
      intro wx hSw
      have q0 := (hSw.cell (p := ⟨w1.heap.size + 1, 3, none⟩) hltm).trans cm
      clear hSw
      go_simp
      with_reducible rfl
    simp only [List.setIfInBounds_toArray, List.set_cons_zero, List.set_cons_succ]
    refine held_take (i := 8) (d := 28) (v := ?v66) rfl rfl (by kernel_rfl) (by kernel_rfl) (by kernel_rfl) (fun _ _ _ h => h) (Or.inl ⟨by kernel_rfl, ?hy66⟩) hHeld ?rest66
    case hy66 =>
      intro wx hSw
      clear hSw
      go_simp
      with_reducible rfl
    simp only [List.setIfInBounds_toArray, List.set_cons_zero, List.set_cons_succ]
    refine held_take (i := 9) (d := 29) (v := ?v67) rfl rfl (by kernel_rfl) (by kernel_rfl) (by kernel_rfl) (fun _ _ _ h => h) (Or.inl ⟨by kernel_rfl, ?hy67⟩) hHeld ?rest67
    case hy67 =>
      intro wx hSw
      clear hSw
      go_simp
      with_reducible rfl
    simp only [List.setIfInBounds_toArray, List.set_cons_zero, List.set_cons_succ]
    refine held_take (i := 10) (d := 30) (v := ?v68) rfl rfl (by kernel_rfl) (by kernel_rfl) (by kernel_rfl) (fun _ _ _ h => h) (Or.inl ⟨by kernel_rfl, ?hy68⟩) hHeld ?rest68
    case hy68 =>
      intro wx hSw
      clear hSw
      go_simp
      with_reducible rfl
    simp only [List.setIfInBounds_toArray, List.set_cons_zero, List.set_cons_succ]
    refine held_take (i := 11) (d := 31) (v := ?v69) rfl rfl (by kernel_rfl) (by kernel_rfl) (by kernel_rfl) (fun _ _ _ h => h) (Or.inl ⟨by kernel_rfl, ?hy69⟩) hHeld ?rest69
    case hy69 =>
      intro wx hSw
      have q0 := (hSw.cell (p := ⟨w1.heap.size, 3, none⟩) hltl).trans cl
      clear hSw
      go_simp
      with_reducible rfl
    simp only [List.setIfInBounds_toArray, List.set_cons_zero, List.set_cons_succ]
    refine held_take (i := 12) (d := 32) (v := ?v70) rfl rfl (by kernel_rfl) (by kernel_rfl) (by kernel_rfl) (fun _ _ _ h => h) (Or.inl ⟨by kernel_rfl, ?hy70⟩) hHeld ?rest70
    case hy70 =>
      intro wx hSw
      clear hSw
      go_simp
      with_reducible rfl
    simp only [List.setIfInBounds_toArray, List.set_cons_zero, List.set_cons_succ]
    refine held_take (i := 13) (d := 33) (v := ?v71) rfl rfl (by kernel_rfl) (by kernel_rfl) (by kernel_rfl) (fun _ _ _ h => h) (Or.inl ⟨by kernel_rfl, ?hy71⟩) hHeld ?rest71
    case hy71 =>
      intro wx hSw
      clear hSw
      go_simp
      with_reducible rfl
    simp only [List.setIfInBounds_toArray, List.set_cons_zero, List.set_cons_succ]
    refine held_take (i := 14) (d := 34) (v := ?v72) rfl rfl (by kernel_rfl) (by kernel_rfl) (by kernel_rfl) (fun _ _ _ h => h) (Or.inl ⟨by kernel_rfl, ?hy72⟩) hHeld ?rest72
    case hy72 =>
      intro wx hSw
      clear hSw
      go_simp
      with_reducible rfl
    simp only [List.setIfInBounds_toArray, List.set_cons_zero, List.set_cons_succ]
    refine held_take (i := 15) (d := 35) (v := ?v73) rfl rfl (by kernel_rfl) (by kernel_rfl) (by kernel_rfl) (fun _ _ _ h => h) (Or.inl ⟨by kernel_rfl, ?hy73⟩) hHeld ?rest73
    case hy73 =>
      intro wx hSw
      clear hSw
      go_simp
      with_reducible rfl
    simp only [List.setIfInBounds_toArray, List.set_cons_zero, List.set_cons_succ]
    refine held_take (i := 16) (d := 36) (v := ?v74) rfl rfl (by kernel_rfl) (by kernel_rfl) (by kernel_rfl) (fun _ _ _ h => h) (Or.inl ⟨by kernel_rfl, ?hy74⟩) hHeld ?rest74
    case hy74 =>
      intro wx hSw
      have q0 := (hSw.cell (p := ⟨w1.heap.size + 1, 3, none⟩) hltm).trans cm
      clear hSw
      go_simp
      with_reducible rfl
    simp only [List.setIfInBounds_toArray, List.set_cons_zero, List.set_cons_succ]
    refine held_take (i := 17) (d := 37) (v := ?v75) rfl rfl (by kernel_rfl) (by kernel_rfl) (by kernel_rfl) (fun _ _ _ h => h) (Or.inl ⟨by kernel_rfl, ?hy75⟩) hHeld ?rest75
    case hy75 =>
      intro wx hSw
      clear hSw
      go_simp
      with_reducible rfl
    simp only [List.setIfInBounds_toArray, List.set_cons_zero, List.set_cons_succ]
    refine held_take (i := 20) (d := 40) (v := ?v76) rfl rfl (by kernel_rfl) (by kernel_rfl) (by kernel_rfl) (fun _ _ _ h => h) (Or.inl ⟨by kernel_rfl, ?hy76⟩) hHeld ?rest76
    case hy76 =>
      intro wx hSw
      clear hSw
      go_simp
      with_reducible rfl
    simp only [List.setIfInBounds_toArray, List.set_cons_zero, List.set_cons_succ]
    refine wpAnyH_ready (rs := [18]) (by kernel_rfl) (by simp) ?_
    refine AllReadyH.cons rfl (fun K hK => ?_) AllReadyH.nil
    go_simp
    obtain ⟨B4, hB4⟩ : ∃ n, wk0.heap.size = n := ⟨_, rfl⟩
    have x4 := Box.new wk0 3 #[.int .i64 1, .int .i64 16, .int .i64 0, .int .i64 17]
    rw [hB4] at x4 ⊢
    have hS4 := hHeld.alloc hHeld.size (.cells #[.int .i64 1, .int .i64 16, .int .i64 0, .int .i64 17] 3)
    generalize wk0.alloc (.cells #[.int .i64 1, .int .i64 16, .int .i64 0, .int .i64 17] 3) = wk1 at *
    refine hK.out _ _ (hS4) (fun hHeld => ?_)
    clear hK K
    refine wpAnyH_ready (rs := [19]) (by kernel_rfl) (by simp) ?_
    refine AllReadyH.cons rfl (fun K hK => ?_) AllReadyH.nil
    go_simp
    refine hK.out _ _ hHeld (fun hHeld => ?_)
    clear hK K
    refine wpAnyH_done (by kernel_rfl) ?_ _
    go_wp2_with fail
    go_meet
    exact ⟨B4, rfl, rfl, rfl, x4, hHeld⟩
  case rest =>
    obtain ⟨B4, rfl, rfl, rfl, x4, b9⟩ := hcut
    clear cl cm hltl hltm
    replace xa := xa.next b9
    replace xl := xl.next b9
    replace xm := xm.next b9
    replace bb := bb.trans (b9.mono bb.size)
    clear b9 xl xm
    go_wp2_with fail
    go_loopw [40] (fun i wr => ∃ j : Nat, j ≤ 4 ∧ i = .int .i64 j ∧ Box wr w.heap.size 23 #[.int .i64 c.cB, .int .i64 c.cBeam, .int .i64 c.cDepth, .int .i64 c.cWin, .int .i64 c.cQs, .int .i64 c.cQr, .int .i64 c.cBatch, .int .i64 c.cPass, .int .i64 c.cMsg, .int .i64 c.cSeqs] ∧ Box wr B4 3 #[.int .i64 1, .int .i64 16, .int .i64 0, .int .i64 17] ∧ Below w.heap.size w wr) (fun i _ => 4 - (intOf i).toNat)
    case atStart => exact ⟨0, by omega, rfl, xa, x4, bb⟩
    case round =>
      clear xa x4 bb
      obtain ⟨j, hj, rfl, xa, x4, bb⟩ := hrel
      have hj5 : j = 0 ∨ j = 1 ∨ j = 2 ∨ j = 3 ∨ j = 4 := by omega
      clear hj
      rcases hj5 with rfl | rfl | rfl | rfl | rfl
      · have cxa0 := xa.cell 0 _ rfl
        have cxa1 := xa.cell 1 _ rfl
        have cxa2 := xa.cell 2 _ rfl
        have cxa3 := xa.cell 3 _ rfl
        have cxa4 := xa.cell 4 _ rfl
        have cxa5 := xa.cell 5 _ rfl
        have cxa6 := xa.cell 6 _ rfl
        have cxa7 := xa.cell 7 _ rfl
        have cxa8 := xa.cell 8 _ rfl
        have cxa9 := xa.cell 9 _ rfl
        have c4 := x4.cell 0 _ rfl
        have hlt4 := x4.lt
        have hlta := xa.lt
        have b9 : Below wr.heap.size wr (wr.alloc (.cells #[.int .i64 c.cB, .int .i64 c.cBeam, .int .i64 c.cDepth, .int .i64 1, .int .i64 c.cQs, .int .i64 c.cQr, .int .i64 c.cBatch, .int .i64 c.cPass, .int .i64 c.cMsg, .int .i64 c.cSeqs] 23)) := (Below.refl _ _).alloc (Nat.le_refl _) _
        have xd := Box.new wr 23 #[.int .i64 c.cB, .int .i64 c.cBeam, .int .i64 c.cDepth, .int .i64 1, .int .i64 c.cQs, .int .i64 c.cQr, .int .i64 c.cBatch, .int .i64 c.cPass, .int .i64 c.cMsg, .int .i64 c.cSeqs]
        go_wp2_with fail
        replace xa := xa.next b9
        replace x4 := x4.next b9
        replace bb := bb.trans (b9.mono bb.size)
        clear b9 c4 hlt4 hlta cxa0 cxa1 cxa2 cxa3 cxa4 cxa5 cxa6 cxa7 cxa8 cxa9
        refine (K0.out _).mono ?_
        rintro e w21 ⟨rfl, b9⟩
        replace xa := xa.next b9
        replace x4 := x4.next b9
        replace xd := xd.next b9
        replace bb := bb.trans (b9.mono bb.size)
        clear b9
        have cxd0 := xd.cell 0 _ rfl
        have cxd1 := xd.cell 1 _ rfl
        have cxd2 := xd.cell 2 _ rfl
        have cxd3 := xd.cell 3 _ rfl
        have cxd4 := xd.cell 4 _ rfl
        have cxd5 := xd.cell 5 _ rfl
        have cxd6 := xd.cell 6 _ rfl
        have cxd7 := xd.cell 7 _ rfl
        have cxd8 := xd.cell 8 _ rfl
        have cxd9 := xd.cell 9 _ rfl
        go_wp2_with fail
        refine (G0.out _).mono ?_
        rintro e w22 ⟨rfl, b9⟩
        clear cxd0 cxd1 cxd2 cxd3 cxd4 cxd5 cxd6 cxd7 cxd8 cxd9
        replace xa := xa.next b9
        replace x4 := x4.next b9
        replace xd := xd.next b9
        replace bb := bb.trans (b9.mono bb.size)
        clear b9
        go_wp2
        go_roundw
        case rel => exact ⟨1, by omega, by go_num, xa, x4, bb⟩
        case measure => simp [intOf]
      · have cxa0 := xa.cell 0 _ rfl
        have cxa1 := xa.cell 1 _ rfl
        have cxa2 := xa.cell 2 _ rfl
        have cxa3 := xa.cell 3 _ rfl
        have cxa4 := xa.cell 4 _ rfl
        have cxa5 := xa.cell 5 _ rfl
        have cxa6 := xa.cell 6 _ rfl
        have cxa7 := xa.cell 7 _ rfl
        have cxa8 := xa.cell 8 _ rfl
        have cxa9 := xa.cell 9 _ rfl
        have c4 := x4.cell 1 _ rfl
        have hlt4 := x4.lt
        have hlta := xa.lt
        have b9 : Below wr.heap.size wr (wr.alloc (.cells #[.int .i64 c.cB, .int .i64 c.cBeam, .int .i64 c.cDepth, .int .i64 16, .int .i64 c.cQs, .int .i64 c.cQr, .int .i64 c.cBatch, .int .i64 c.cPass, .int .i64 c.cMsg, .int .i64 c.cSeqs] 23)) := (Below.refl _ _).alloc (Nat.le_refl _) _
        have xd := Box.new wr 23 #[.int .i64 c.cB, .int .i64 c.cBeam, .int .i64 c.cDepth, .int .i64 16, .int .i64 c.cQs, .int .i64 c.cQr, .int .i64 c.cBatch, .int .i64 c.cPass, .int .i64 c.cMsg, .int .i64 c.cSeqs]
        go_wp2_with fail
        replace xa := xa.next b9
        replace x4 := x4.next b9
        replace bb := bb.trans (b9.mono bb.size)
        clear b9 c4 hlt4 hlta cxa0 cxa1 cxa2 cxa3 cxa4 cxa5 cxa6 cxa7 cxa8 cxa9
        refine (K1.out _).mono ?_
        rintro e w21 ⟨rfl, b9⟩
        replace xa := xa.next b9
        replace x4 := x4.next b9
        replace xd := xd.next b9
        replace bb := bb.trans (b9.mono bb.size)
        clear b9
        have cxd0 := xd.cell 0 _ rfl
        have cxd1 := xd.cell 1 _ rfl
        have cxd2 := xd.cell 2 _ rfl
        have cxd3 := xd.cell 3 _ rfl
        have cxd4 := xd.cell 4 _ rfl
        have cxd5 := xd.cell 5 _ rfl
        have cxd6 := xd.cell 6 _ rfl
        have cxd7 := xd.cell 7 _ rfl
        have cxd8 := xd.cell 8 _ rfl
        have cxd9 := xd.cell 9 _ rfl
        go_wp2_with fail
        refine (G1.out _).mono ?_
        rintro e w22 ⟨rfl, b9⟩
        clear cxd0 cxd1 cxd2 cxd3 cxd4 cxd5 cxd6 cxd7 cxd8 cxd9
        replace xa := xa.next b9
        replace x4 := x4.next b9
        replace xd := xd.next b9
        replace bb := bb.trans (b9.mono bb.size)
        clear b9
        go_wp2
        go_roundw
        case rel => exact ⟨2, by omega, by go_num, xa, x4, bb⟩
        case measure => simp [intOf]
      · have cxa0 := xa.cell 0 _ rfl
        have cxa1 := xa.cell 1 _ rfl
        have cxa2 := xa.cell 2 _ rfl
        have cxa3 := xa.cell 3 _ rfl
        have cxa4 := xa.cell 4 _ rfl
        have cxa5 := xa.cell 5 _ rfl
        have cxa6 := xa.cell 6 _ rfl
        have cxa7 := xa.cell 7 _ rfl
        have cxa8 := xa.cell 8 _ rfl
        have cxa9 := xa.cell 9 _ rfl
        have c4 := x4.cell 2 _ rfl
        have hlt4 := x4.lt
        have hlta := xa.lt
        have b9 : Below wr.heap.size wr (wr.alloc (.cells #[.int .i64 c.cB, .int .i64 c.cBeam, .int .i64 c.cDepth, .int .i64 0, .int .i64 c.cQs, .int .i64 c.cQr, .int .i64 c.cBatch, .int .i64 c.cPass, .int .i64 c.cMsg, .int .i64 c.cSeqs] 23)) := (Below.refl _ _).alloc (Nat.le_refl _) _
        have xd := Box.new wr 23 #[.int .i64 c.cB, .int .i64 c.cBeam, .int .i64 c.cDepth, .int .i64 0, .int .i64 c.cQs, .int .i64 c.cQr, .int .i64 c.cBatch, .int .i64 c.cPass, .int .i64 c.cMsg, .int .i64 c.cSeqs]
        go_wp2_with fail
        replace xa := xa.next b9
        replace x4 := x4.next b9
        replace bb := bb.trans (b9.mono bb.size)
        clear b9 c4 hlt4 hlta cxa0 cxa1 cxa2 cxa3 cxa4 cxa5 cxa6 cxa7 cxa8 cxa9
        refine (K2.out _).mono ?_
        rintro e w21 ⟨rfl, b9⟩
        replace xa := xa.next b9
        replace x4 := x4.next b9
        replace xd := xd.next b9
        replace bb := bb.trans (b9.mono bb.size)
        clear b9
        have cxd0 := xd.cell 0 _ rfl
        have cxd1 := xd.cell 1 _ rfl
        have cxd2 := xd.cell 2 _ rfl
        have cxd3 := xd.cell 3 _ rfl
        have cxd4 := xd.cell 4 _ rfl
        have cxd5 := xd.cell 5 _ rfl
        have cxd6 := xd.cell 6 _ rfl
        have cxd7 := xd.cell 7 _ rfl
        have cxd8 := xd.cell 8 _ rfl
        have cxd9 := xd.cell 9 _ rfl
        go_wp2_with fail
        refine (K2.out _).mono ?_
        rintro e w22 ⟨rfl, b9⟩
        clear cxd0 cxd1 cxd2 cxd3 cxd4 cxd5 cxd6 cxd7 cxd8 cxd9
        replace xa := xa.next b9
        replace x4 := x4.next b9
        replace xd := xd.next b9
        replace bb := bb.trans (b9.mono bb.size)
        clear b9
        have cxd0 := xd.cell 0 _ rfl
        have cxd1 := xd.cell 1 _ rfl
        have cxd2 := xd.cell 2 _ rfl
        have cxd3 := xd.cell 3 _ rfl
        have cxd4 := xd.cell 4 _ rfl
        have cxd5 := xd.cell 5 _ rfl
        have cxd6 := xd.cell 6 _ rfl
        have cxd7 := xd.cell 7 _ rfl
        have cxd8 := xd.cell 8 _ rfl
        have cxd9 := xd.cell 9 _ rfl
        go_wp2_with fail
        refine (G2.out _).mono ?_
        rintro e w23 ⟨rfl, b9⟩
        clear cxd0 cxd1 cxd2 cxd3 cxd4 cxd5 cxd6 cxd7 cxd8 cxd9
        replace xa := xa.next b9
        replace x4 := x4.next b9
        replace xd := xd.next b9
        replace bb := bb.trans (b9.mono bb.size)
        clear b9
        have cxd0 := xd.cell 0 _ rfl
        have cxd1 := xd.cell 1 _ rfl
        have cxd2 := xd.cell 2 _ rfl
        have cxd3 := xd.cell 3 _ rfl
        have cxd4 := xd.cell 4 _ rfl
        have cxd5 := xd.cell 5 _ rfl
        have cxd6 := xd.cell 6 _ rfl
        have cxd7 := xd.cell 7 _ rfl
        have cxd8 := xd.cell 8 _ rfl
        have cxd9 := xd.cell 9 _ rfl
        go_wp2_with fail
        refine (T2.out _).mono ?_
        rintro e w24 ⟨rfl, b9⟩
        clear cxd0 cxd1 cxd2 cxd3 cxd4 cxd5 cxd6 cxd7 cxd8 cxd9
        replace xa := xa.next b9
        replace x4 := x4.next b9
        replace xd := xd.next b9
        replace bb := bb.trans (b9.mono bb.size)
        clear b9
        go_wp2
        go_roundw
        case rel => exact ⟨3, by omega, by go_num, xa, x4, bb⟩
        case measure => simp [intOf]
      · have cxa0 := xa.cell 0 _ rfl
        have cxa1 := xa.cell 1 _ rfl
        have cxa2 := xa.cell 2 _ rfl
        have cxa3 := xa.cell 3 _ rfl
        have cxa4 := xa.cell 4 _ rfl
        have cxa5 := xa.cell 5 _ rfl
        have cxa6 := xa.cell 6 _ rfl
        have cxa7 := xa.cell 7 _ rfl
        have cxa8 := xa.cell 8 _ rfl
        have cxa9 := xa.cell 9 _ rfl
        have c4 := x4.cell 3 _ rfl
        have hlt4 := x4.lt
        have hlta := xa.lt
        have b9 : Below wr.heap.size wr (wr.alloc (.cells #[.int .i64 c.cB, .int .i64 c.cBeam, .int .i64 c.cDepth, .int .i64 17, .int .i64 c.cQs, .int .i64 c.cQr, .int .i64 c.cBatch, .int .i64 c.cPass, .int .i64 c.cMsg, .int .i64 c.cSeqs] 23)) := (Below.refl _ _).alloc (Nat.le_refl _) _
        have xd := Box.new wr 23 #[.int .i64 c.cB, .int .i64 c.cBeam, .int .i64 c.cDepth, .int .i64 17, .int .i64 c.cQs, .int .i64 c.cQr, .int .i64 c.cBatch, .int .i64 c.cPass, .int .i64 c.cMsg, .int .i64 c.cSeqs]
        go_wp2_with fail
        replace xa := xa.next b9
        replace x4 := x4.next b9
        replace bb := bb.trans (b9.mono bb.size)
        clear b9 c4 hlt4 hlta cxa0 cxa1 cxa2 cxa3 cxa4 cxa5 cxa6 cxa7 cxa8 cxa9
        refine (K3.out _).mono ?_
        rintro e w21 ⟨rfl, b9⟩
        replace xa := xa.next b9
        replace x4 := x4.next b9
        replace xd := xd.next b9
        replace bb := bb.trans (b9.mono bb.size)
        clear b9
        have cxd0 := xd.cell 0 _ rfl
        have cxd1 := xd.cell 1 _ rfl
        have cxd2 := xd.cell 2 _ rfl
        have cxd3 := xd.cell 3 _ rfl
        have cxd4 := xd.cell 4 _ rfl
        have cxd5 := xd.cell 5 _ rfl
        have cxd6 := xd.cell 6 _ rfl
        have cxd7 := xd.cell 7 _ rfl
        have cxd8 := xd.cell 8 _ rfl
        have cxd9 := xd.cell 9 _ rfl
        go_wp2_with fail
        refine (K3.out _).mono ?_
        rintro e w22 ⟨rfl, b9⟩
        clear cxd0 cxd1 cxd2 cxd3 cxd4 cxd5 cxd6 cxd7 cxd8 cxd9
        replace xa := xa.next b9
        replace x4 := x4.next b9
        replace xd := xd.next b9
        replace bb := bb.trans (b9.mono bb.size)
        clear b9
        have cxd0 := xd.cell 0 _ rfl
        have cxd1 := xd.cell 1 _ rfl
        have cxd2 := xd.cell 2 _ rfl
        have cxd3 := xd.cell 3 _ rfl
        have cxd4 := xd.cell 4 _ rfl
        have cxd5 := xd.cell 5 _ rfl
        have cxd6 := xd.cell 6 _ rfl
        have cxd7 := xd.cell 7 _ rfl
        have cxd8 := xd.cell 8 _ rfl
        have cxd9 := xd.cell 9 _ rfl
        go_wp2_with fail
        refine (G3.out _).mono ?_
        rintro e w23 ⟨rfl, b9⟩
        clear cxd0 cxd1 cxd2 cxd3 cxd4 cxd5 cxd6 cxd7 cxd8 cxd9
        replace xa := xa.next b9
        replace x4 := x4.next b9
        replace xd := xd.next b9
        replace bb := bb.trans (b9.mono bb.size)
        clear b9
        have cxd0 := xd.cell 0 _ rfl
        have cxd1 := xd.cell 1 _ rfl
        have cxd2 := xd.cell 2 _ rfl
        have cxd3 := xd.cell 3 _ rfl
        have cxd4 := xd.cell 4 _ rfl
        have cxd5 := xd.cell 5 _ rfl
        have cxd6 := xd.cell 6 _ rfl
        have cxd7 := xd.cell 7 _ rfl
        have cxd8 := xd.cell 8 _ rfl
        have cxd9 := xd.cell 9 _ rfl
        go_wp2_with fail
        refine (T3.out _).mono ?_
        rintro e w24 ⟨rfl, b9⟩
        clear cxd0 cxd1 cxd2 cxd3 cxd4 cxd5 cxd6 cxd7 cxd8 cxd9
        replace xa := xa.next b9
        replace x4 := x4.next b9
        replace xd := xd.next b9
        replace bb := bb.trans (b9.mono bb.size)
        clear b9
        go_wp2
        go_roundw
        case rel => exact ⟨4, by omega, by go_num, xa, x4, bb⟩
        case measure => simp [intOf]
      · have cxa0 := xa.cell 0 _ rfl
        have cxa1 := xa.cell 1 _ rfl
        have cxa2 := xa.cell 2 _ rfl
        have cxa3 := xa.cell 3 _ rfl
        have cxa4 := xa.cell 4 _ rfl
        have cxa5 := xa.cell 5 _ rfl
        have cxa6 := xa.cell 6 _ rfl
        have cxa7 := xa.cell 7 _ rfl
        have cxa8 := xa.cell 8 _ rfl
        have cxa9 := xa.cell 9 _ rfl
        go_wp2_with fail
        refine (KC.out _).mono ?_
        rintro e w21 ⟨rfl, b9⟩
        clear cxa0 cxa1 cxa2 cxa3 cxa4 cxa5 cxa6 cxa7 cxa8 cxa9
        replace xa := xa.next b9
        replace bb := bb.trans (b9.mono bb.size)
        clear b9
        have HWK := confWakes_any w21
        go_wp2_with (go_at_call 13; refine HWK.mono ?_; rintro e w99 ⟨rfl, b99⟩)
        go_ret
        exact ⟨rfl, bb.trans (b99.mono bb.size)⟩

set_option maxRecDepth 100000 in
set_option maxHeartbeats 4000000 in
theorem confEnds_4 (c : Cfg) (x : Int) (hA : okC c = true) (ek : (IntKind.u64.wrap x).tmod 10 = 4) (w : World) :
    Calls Try.prog 5 #[.agg #[.int .i64 c.cB, .int .i64 c.cBeam, .int .i64 c.cDepth, .int .i64 c.cWin, .int .i64 c.cQs, .int .i64 c.cQr, .int .i64 c.cBatch, .int .i64 c.cPass, .int .i64 c.cMsg, .int .i64 c.cSeqs], .int .i64 x] w fun e w' => e = .returned (.bool true) ∧ Below w.heap.size w w' := by
  have bb : Below w.heap.size w (w.alloc (.cells #[.int .i64 c.cB, .int .i64 c.cBeam, .int .i64 c.cDepth, .int .i64 c.cWin, .int .i64 c.cQs, .int .i64 c.cQr, .int .i64 c.cBatch, .int .i64 c.cPass, .int .i64 c.cMsg, .int .i64 c.cSeqs] 23)) := (Below.refl w.heap.size w).alloc (Nat.le_refl _) _
  have xa := Box.new w 23 #[.int .i64 c.cB, .int .i64 c.cBeam, .int .i64 c.cDepth, .int .i64 c.cWin, .int .i64 c.cQs, .int .i64 c.cQr, .int .i64 c.cBatch, .int .i64 c.cPass, .int .i64 c.cMsg, .int .i64 c.cSeqs]
  have hI := (okC_iff c).1 hA
  have o0 : okC (Cfg.mk c.cB c.cBeam c.cDepth c.cWin 1 c.cQr c.cBatch c.cPass c.cMsg c.cSeqs) = true := (okC_iff _).2 (by dsimp only; omega)
  obtain ⟨S0, hS0⟩ : ∃ v, segsC (Cfg.mk c.cB c.cBeam c.cDepth c.cWin 1 c.cQr c.cBatch c.cPass c.cMsg c.cSeqs) = v := ⟨_, rfl⟩
  have b0_ := (segsC_bd o0).1
  rw [hS0] at b0_
  have dS0 : decide (S0 < 22) = false := decide_eq_false (by omega)
  have K0 : Hid (∀ wx : World, Calls Try.prog 7 #[.agg #[.int .i64 c.cB, .int .i64 c.cBeam, .int .i64 c.cDepth, .int .i64 c.cWin, .int .i64 1, .int .i64 c.cQr, .int .i64 c.cBatch, .int .i64 c.cPass, .int .i64 c.cMsg, .int .i64 c.cSeqs]] wx fun e w' => e = .returned (.int .i64 0) ∧ Below wx.heap.size wx w') := fun wx => by
    have := ConfCheck_any (Cfg.mk c.cB c.cBeam c.cDepth c.cWin 1 c.cQr c.cBatch c.cPass c.cMsg c.cSeqs) wx
    rw [show checkA (Cfg.mk c.cB c.cBeam c.cDepth c.cWin 1 c.cQr c.cBatch c.cPass c.cMsg c.cSeqs) = 0 from (if_pos o0)] at this
    exact this
  have G0 : Hid (∀ wx : World, Calls Try.prog 8 #[.agg #[.int .i64 c.cB, .int .i64 c.cBeam, .int .i64 c.cDepth, .int .i64 c.cWin, .int .i64 1, .int .i64 c.cQr, .int .i64 c.cBatch, .int .i64 c.cPass, .int .i64 c.cMsg, .int .i64 c.cSeqs]] wx fun e w' => e = .returned (.int .i64 S0) ∧ Below wx.heap.size wx w') := fun wx => by
    have := ConfSegs_any (Cfg.mk c.cB c.cBeam c.cDepth c.cWin 1 c.cQr c.cBatch c.cPass c.cMsg c.cSeqs) wx
    rw [show segsA (Cfg.mk c.cB c.cBeam c.cDepth c.cWin 1 c.cQr c.cBatch c.cPass c.cMsg c.cSeqs) = S0 from (if_pos o0).trans hS0] at this
    exact this
  have o1 : okC (Cfg.mk c.cB c.cBeam c.cDepth c.cWin 16 c.cQr c.cBatch c.cPass c.cMsg c.cSeqs) = true := (okC_iff _).2 (by dsimp only; omega)
  obtain ⟨S1, hS1⟩ : ∃ v, segsC (Cfg.mk c.cB c.cBeam c.cDepth c.cWin 16 c.cQr c.cBatch c.cPass c.cMsg c.cSeqs) = v := ⟨_, rfl⟩
  have b1_ := (segsC_bd o1).1
  rw [hS1] at b1_
  have dS1 : decide (S1 < 22) = false := decide_eq_false (by omega)
  have K1 : Hid (∀ wx : World, Calls Try.prog 7 #[.agg #[.int .i64 c.cB, .int .i64 c.cBeam, .int .i64 c.cDepth, .int .i64 c.cWin, .int .i64 16, .int .i64 c.cQr, .int .i64 c.cBatch, .int .i64 c.cPass, .int .i64 c.cMsg, .int .i64 c.cSeqs]] wx fun e w' => e = .returned (.int .i64 0) ∧ Below wx.heap.size wx w') := fun wx => by
    have := ConfCheck_any (Cfg.mk c.cB c.cBeam c.cDepth c.cWin 16 c.cQr c.cBatch c.cPass c.cMsg c.cSeqs) wx
    rw [show checkA (Cfg.mk c.cB c.cBeam c.cDepth c.cWin 16 c.cQr c.cBatch c.cPass c.cMsg c.cSeqs) = 0 from (if_pos o1)] at this
    exact this
  have G1 : Hid (∀ wx : World, Calls Try.prog 8 #[.agg #[.int .i64 c.cB, .int .i64 c.cBeam, .int .i64 c.cDepth, .int .i64 c.cWin, .int .i64 16, .int .i64 c.cQr, .int .i64 c.cBatch, .int .i64 c.cPass, .int .i64 c.cMsg, .int .i64 c.cSeqs]] wx fun e w' => e = .returned (.int .i64 S1) ∧ Below wx.heap.size wx w') := fun wx => by
    have := ConfSegs_any (Cfg.mk c.cB c.cBeam c.cDepth c.cWin 16 c.cQr c.cBatch c.cPass c.cMsg c.cSeqs) wx
    rw [show segsA (Cfg.mk c.cB c.cBeam c.cDepth c.cWin 16 c.cQr c.cBatch c.cPass c.cMsg c.cSeqs) = S1 from (if_pos o1).trans hS1] at this
    exact this
  have o2 : okC (Cfg.mk c.cB c.cBeam c.cDepth c.cWin 0 c.cQr c.cBatch c.cPass c.cMsg c.cSeqs) = false := by
    rw [← Bool.not_eq_true, okC_iff]
    dsimp only
    omega
  have K2 : Hid (∀ wx : World, Calls Try.prog 7 #[.agg #[.int .i64 c.cB, .int .i64 c.cBeam, .int .i64 c.cDepth, .int .i64 c.cWin, .int .i64 0, .int .i64 c.cQr, .int .i64 c.cBatch, .int .i64 c.cPass, .int .i64 c.cMsg, .int .i64 c.cSeqs]] wx fun e w' => e = .returned (.int .i64 1) ∧ Below wx.heap.size wx w') := fun wx => by
    have := ConfCheck_any (Cfg.mk c.cB c.cBeam c.cDepth c.cWin 0 c.cQr c.cBatch c.cPass c.cMsg c.cSeqs) wx
    rw [show checkA (Cfg.mk c.cB c.cBeam c.cDepth c.cWin 0 c.cQr c.cBatch c.cPass c.cMsg c.cSeqs) = 1 from (if_neg (by rw [o2]; decide))] at this
    exact this
  have G2 : Hid (∀ wx : World, Calls Try.prog 8 #[.agg #[.int .i64 c.cB, .int .i64 c.cBeam, .int .i64 c.cDepth, .int .i64 c.cWin, .int .i64 0, .int .i64 c.cQr, .int .i64 c.cBatch, .int .i64 c.cPass, .int .i64 c.cMsg, .int .i64 c.cSeqs]] wx fun e w' => e = .returned (.int .i64 0) ∧ Below wx.heap.size wx w') := fun wx => by
    have := ConfSegs_any (Cfg.mk c.cB c.cBeam c.cDepth c.cWin 0 c.cQr c.cBatch c.cPass c.cMsg c.cSeqs) wx
    rw [show segsA (Cfg.mk c.cB c.cBeam c.cDepth c.cWin 0 c.cQr c.cBatch c.cPass c.cMsg c.cSeqs) = 0 from (if_neg (by rw [o2]; decide))] at this
    exact this
  have T2 : Hid (∀ wx : World, Calls Try.prog 11 #[.agg #[.int .i64 c.cB, .int .i64 c.cBeam, .int .i64 c.cDepth, .int .i64 c.cWin, .int .i64 0, .int .i64 c.cQr, .int .i64 c.cBatch, .int .i64 c.cPass, .int .i64 c.cMsg, .int .i64 c.cSeqs]] wx fun e w' => e = .returned (.int .i64 0) ∧ Below wx.heap.size wx w') := fun wx => by
    have := ConfTicks_any (Cfg.mk c.cB c.cBeam c.cDepth c.cWin 0 c.cQr c.cBatch c.cPass c.cMsg c.cSeqs) wx
    rw [show ticksA (Cfg.mk c.cB c.cBeam c.cDepth c.cWin 0 c.cQr c.cBatch c.cPass c.cMsg c.cSeqs) = 0 from (if_neg (by rw [o2]; decide))] at this
    exact this
  have o3 : okC (Cfg.mk c.cB c.cBeam c.cDepth c.cWin 17 c.cQr c.cBatch c.cPass c.cMsg c.cSeqs) = false := by
    rw [← Bool.not_eq_true, okC_iff]
    dsimp only
    omega
  have K3 : Hid (∀ wx : World, Calls Try.prog 7 #[.agg #[.int .i64 c.cB, .int .i64 c.cBeam, .int .i64 c.cDepth, .int .i64 c.cWin, .int .i64 17, .int .i64 c.cQr, .int .i64 c.cBatch, .int .i64 c.cPass, .int .i64 c.cMsg, .int .i64 c.cSeqs]] wx fun e w' => e = .returned (.int .i64 1) ∧ Below wx.heap.size wx w') := fun wx => by
    have := ConfCheck_any (Cfg.mk c.cB c.cBeam c.cDepth c.cWin 17 c.cQr c.cBatch c.cPass c.cMsg c.cSeqs) wx
    rw [show checkA (Cfg.mk c.cB c.cBeam c.cDepth c.cWin 17 c.cQr c.cBatch c.cPass c.cMsg c.cSeqs) = 1 from (if_neg (by rw [o3]; decide))] at this
    exact this
  have G3 : Hid (∀ wx : World, Calls Try.prog 8 #[.agg #[.int .i64 c.cB, .int .i64 c.cBeam, .int .i64 c.cDepth, .int .i64 c.cWin, .int .i64 17, .int .i64 c.cQr, .int .i64 c.cBatch, .int .i64 c.cPass, .int .i64 c.cMsg, .int .i64 c.cSeqs]] wx fun e w' => e = .returned (.int .i64 0) ∧ Below wx.heap.size wx w') := fun wx => by
    have := ConfSegs_any (Cfg.mk c.cB c.cBeam c.cDepth c.cWin 17 c.cQr c.cBatch c.cPass c.cMsg c.cSeqs) wx
    rw [show segsA (Cfg.mk c.cB c.cBeam c.cDepth c.cWin 17 c.cQr c.cBatch c.cPass c.cMsg c.cSeqs) = 0 from (if_neg (by rw [o3]; decide))] at this
    exact this
  have T3 : Hid (∀ wx : World, Calls Try.prog 11 #[.agg #[.int .i64 c.cB, .int .i64 c.cBeam, .int .i64 c.cDepth, .int .i64 c.cWin, .int .i64 17, .int .i64 c.cQr, .int .i64 c.cBatch, .int .i64 c.cPass, .int .i64 c.cMsg, .int .i64 c.cSeqs]] wx fun e w' => e = .returned (.int .i64 0) ∧ Below wx.heap.size wx w') := fun wx => by
    have := ConfTicks_any (Cfg.mk c.cB c.cBeam c.cDepth c.cWin 17 c.cQr c.cBatch c.cPass c.cMsg c.cSeqs) wx
    rw [show ticksA (Cfg.mk c.cB c.cBeam c.cDepth c.cWin 17 c.cQr c.cBatch c.cPass c.cMsg c.cSeqs) = 0 from (if_neg (by rw [o3]; decide))] at this
    exact this
  have KC : Hid (∀ wx : World, Calls Try.prog 7 #[.agg #[.int .i64 c.cB, .int .i64 c.cBeam, .int .i64 c.cDepth, .int .i64 c.cWin, .int .i64 c.cQs, .int .i64 c.cQr, .int .i64 c.cBatch, .int .i64 c.cPass, .int .i64 c.cMsg, .int .i64 c.cSeqs]] wx fun e w' => e = .returned (.int .i64 0) ∧ Below wx.heap.size wx w') := fun wx => by
    have := ConfCheck_any c wx
    rw [show checkA c = 0 from (if_pos hA)] at this
    exact this
  have HC := refConfig_any c (w.alloc (.cells #[.int .i64 c.cB, .int .i64 c.cBeam, .int .i64 c.cDepth, .int .i64 c.cWin, .int .i64 c.cQs, .int .i64 c.cQr, .int .i64 c.cBatch, .int .i64 c.cPass, .int .i64 c.cMsg, .int .i64 c.cSeqs] 23))
  rw [hA] at HC
  clear hI hA o0 o1 o2 o3 hS0 b0_ hS1 b1_
  go_enter Try.func5, Try.ntmps5
  have cxa0 := xa.cell 0 _ rfl
  have cxa1 := xa.cell 1 _ rfl
  have cxa2 := xa.cell 2 _ rfl
  have cxa3 := xa.cell 3 _ rfl
  have cxa4 := xa.cell 4 _ rfl
  have cxa5 := xa.cell 5 _ rfl
  have cxa6 := xa.cell 6 _ rfl
  have cxa7 := xa.cell 7 _ rfl
  have cxa8 := xa.cell 8 _ rfl
  have cxa9 := xa.cell 9 _ rfl
  go_wp2_with fail
  refine (HC).mono ?_
  rintro e w1 ⟨rfl, b9⟩
  clear cxa0 cxa1 cxa2 cxa3 cxa4 cxa5 cxa6 cxa7 cxa8 cxa9
  replace xa := xa.next b9
  replace bb := bb.trans (b9.mono bb.size)
  clear b9
  clear HC
  have b9 : Below w1.heap.size w1 ((w1.alloc (.cells #[.int .i64 1, .int .i64 1, .int .i64 1, .int .i64 1, .int .i64 1, .int .i64 1, .int .i64 1, .int .i64 4, .int .i64 0, .int .i64 0] 3)).alloc (.cells #[.int .i64 16, .int .i64 16, .int .i64 3, .int .i64 16, .int .i64 16, .int .i64 16, .int .i64 64, .int .i64 16, .int .i64 200, .int .i64 1073741824] 3)) := ((Below.refl _ _).alloc (Nat.le_refl _) _).alloc (by simp) _
  have xl : Box ((w1.alloc (.cells #[.int .i64 1, .int .i64 1, .int .i64 1, .int .i64 1, .int .i64 1, .int .i64 1, .int .i64 1, .int .i64 4, .int .i64 0, .int .i64 0] 3)).alloc (.cells #[.int .i64 16, .int .i64 16, .int .i64 3, .int .i64 16, .int .i64 16, .int .i64 16, .int .i64 64, .int .i64 16, .int .i64 200, .int .i64 1073741824] 3)) w1.heap.size 3 #[.int .i64 1, .int .i64 1, .int .i64 1, .int .i64 1, .int .i64 1, .int .i64 1, .int .i64 1, .int .i64 4, .int .i64 0, .int .i64 0] := (Box.new w1 _ _).alloc _
  have xm : Box ((w1.alloc (.cells #[.int .i64 1, .int .i64 1, .int .i64 1, .int .i64 1, .int .i64 1, .int .i64 1, .int .i64 1, .int .i64 4, .int .i64 0, .int .i64 0] 3)).alloc (.cells #[.int .i64 16, .int .i64 16, .int .i64 3, .int .i64 16, .int .i64 16, .int .i64 16, .int .i64 64, .int .i64 16, .int .i64 200, .int .i64 1073741824] 3)) (w1.heap.size + 1) 3 #[.int .i64 16, .int .i64 16, .int .i64 3, .int .i64 16, .int .i64 16, .int .i64 16, .int .i64 64, .int .i64 16, .int .i64 200, .int .i64 1073741824] := by
    have := Box.new (w1.alloc (.cells #[.int .i64 1, .int .i64 1, .int .i64 1, .int .i64 1, .int .i64 1, .int .i64 1, .int .i64 1, .int .i64 4, .int .i64 0, .int .i64 0] 3)) 3 #[.int .i64 16, .int .i64 16, .int .i64 3, .int .i64 16, .int .i64 16, .int .i64 16, .int .i64 64, .int .i64 16, .int .i64 200, .int .i64 1073741824]
    simpa using this
  replace xa := xa.next b9
  replace bb := bb.trans (b9.mono bb.size)
  clear b9
  go_wp2
  generalize ((w1.alloc (.cells #[.int .i64 1, .int .i64 1, .int .i64 1, .int .i64 1, .int .i64 1, .int .i64 1, .int .i64 1, .int .i64 4, .int .i64 0, .int .i64 0] 3)).alloc (.cells #[.int .i64 16, .int .i64 16, .int .i64 3, .int .i64 16, .int .i64 16, .int .i64 16, .int .i64 64, .int .i64 16, .int .i64 200, .int .i64 1073741824] 3)) = w2 at *
  have wv2 : IntKind.i64.wrap (0) = 0 := by rw [IntKind.wrap_i64]; decide
  have wv3 : IntKind.i64.wrap (17) = 17 := by rw [IntKind.wrap_i64]; decide
  have hltl := xl.lt
  have hltm := xm.lt
  have cl := xl.cell 4 _ rfl
  have cm := xm.cell 4 _ rfl
  skip
  go_cut [38, 39, 40] (fun s l i wx => ∃ B4, s = .slice (some ⟨B4, 0, none⟩) 4 4 ∧ l = .int .i64 4 ∧ i = .int .i64 0 ∧ Box wx B4 3 #[.int .i64 1, .int .i64 16, .int .i64 0, .int .i64 17] ∧ Below w2.heap.size w2 wx)
  case first =>
    refine wp_region_held_drew (S := fun w' => Below w2.heap.size w2 w') (by kernel_rfl) ((Below.refl _ _).drew) (fun hHeld => ?_)
    generalize w2.drew = wk0 at *
    refine held_take (i := 0) (d := 20) (v := ?v77) rfl rfl (by kernel_rfl) (by kernel_rfl) (by kernel_rfl) (fun _ _ _ h => h) (Or.inl ⟨by kernel_rfl, ?hy77⟩) hHeld ?rest77
    case hy77 =>
      intro wx hSw
      clear hSw
      go_simp
      with_reducible rfl
    simp only [List.setIfInBounds_toArray, List.set_cons_zero, List.set_cons_succ]
    refine held_take (i := 1) (d := 21) (v := ?v78) rfl rfl (by kernel_rfl) (by kernel_rfl) (by kernel_rfl) (fun _ _ _ h => h) (Or.inl ⟨by kernel_rfl, ?hy78⟩) hHeld ?rest78
    case hy78 =>
      intro wx hSw
      clear hSw
      go_simp
      with_reducible rfl
    simp only [List.setIfInBounds_toArray, List.set_cons_zero, List.set_cons_succ]
    refine held_take (i := 2) (d := 22) (v := ?v79) rfl rfl (by kernel_rfl) (by kernel_rfl) (by kernel_rfl) (fun _ _ _ h => h) (Or.inl ⟨by kernel_rfl, ?hy79⟩) hHeld ?rest79
    case hy79 =>
      intro wx hSw
      clear hSw
      go_simp
      with_reducible rfl
    simp only [List.setIfInBounds_toArray, List.set_cons_zero, List.set_cons_succ]
    refine held_take (i := 3) (d := 23) (v := ?v80) rfl rfl (by kernel_rfl) (by kernel_rfl) (by kernel_rfl) (fun _ _ _ h => h) (Or.inl ⟨by kernel_rfl, ?hy80⟩) hHeld ?rest80
    case hy80 =>
      intro wx hSw
      have q0 := (hSw.cell (p := ⟨w1.heap.size, 4, none⟩) hltl).trans cl
      clear hSw
      go_simp
      with_reducible rfl
    simp only [List.setIfInBounds_toArray, List.set_cons_zero, List.set_cons_succ]
    refine held_take (i := 4) (d := 24) (v := ?v81) rfl rfl (by kernel_rfl) (by kernel_rfl) (by kernel_rfl) (fun _ _ _ h => h) (Or.inl ⟨by kernel_rfl, ?hy81⟩) hHeld ?rest81
    case hy81 =>
      intro wx hSw
      clear hSw
      go_simp
      with_reducible rfl
    simp only [List.setIfInBounds_toArray, List.set_cons_zero, List.set_cons_succ]
    refine held_take (i := 5) (d := 25) (v := ?v82) rfl rfl (by kernel_rfl) (by kernel_rfl) (by kernel_rfl) (fun _ _ _ h => h) (Or.inl ⟨by kernel_rfl, ?hy82⟩) hHeld ?rest82
    case hy82 =>
      intro wx hSw
      clear hSw
      go_simp
      with_reducible rfl
    simp only [List.setIfInBounds_toArray, List.set_cons_zero, List.set_cons_succ]
    refine held_take (i := 6) (d := 26) (v := ?v83) rfl rfl (by kernel_rfl) (by kernel_rfl) (by kernel_rfl) (fun _ _ _ h => h) (Or.inl ⟨by kernel_rfl, ?hy83⟩) hHeld ?rest83
    case hy83 =>
      intro wx hSw
      clear hSw
      go_simp
      with_reducible rfl
    simp only [List.setIfInBounds_toArray, List.set_cons_zero, List.set_cons_succ]
    refine held_take (i := 7) (d := 27) (v := ?v84) rfl rfl (by kernel_rfl) (by kernel_rfl) (by kernel_rfl) (fun _ _ _ h => h) (Or.inl ⟨by kernel_rfl, ?hy84⟩) hHeld ?rest84
    case hy84 =>
      intro wx hSw
      have q0 := (hSw.cell (p := ⟨w1.heap.size + 1, 4, none⟩) hltm).trans cm
      clear hSw
      go_simp
      with_reducible rfl
    simp only [List.setIfInBounds_toArray, List.set_cons_zero, List.set_cons_succ]
    refine held_take (i := 8) (d := 28) (v := ?v85) rfl rfl (by kernel_rfl) (by kernel_rfl) (by kernel_rfl) (fun _ _ _ h => h) (Or.inl ⟨by kernel_rfl, ?hy85⟩) hHeld ?rest85
    case hy85 =>
      intro wx hSw
      clear hSw
      go_simp
      with_reducible rfl
    simp only [List.setIfInBounds_toArray, List.set_cons_zero, List.set_cons_succ]
    refine held_take (i := 9) (d := 29) (v := ?v86) rfl rfl (by kernel_rfl) (by kernel_rfl) (by kernel_rfl) (fun _ _ _ h => h) (Or.inl ⟨by kernel_rfl, ?hy86⟩) hHeld ?rest86
    case hy86 =>
      intro wx hSw
      clear hSw
      go_simp
      with_reducible rfl
    simp only [List.setIfInBounds_toArray, List.set_cons_zero, List.set_cons_succ]
    refine held_take (i := 10) (d := 30) (v := ?v87) rfl rfl (by kernel_rfl) (by kernel_rfl) (by kernel_rfl) (fun _ _ _ h => h) (Or.inl ⟨by kernel_rfl, ?hy87⟩) hHeld ?rest87
    case hy87 =>
      intro wx hSw
      clear hSw
      go_simp
      with_reducible rfl
    simp only [List.setIfInBounds_toArray, List.set_cons_zero, List.set_cons_succ]
    refine held_take (i := 11) (d := 31) (v := ?v88) rfl rfl (by kernel_rfl) (by kernel_rfl) (by kernel_rfl) (fun _ _ _ h => h) (Or.inl ⟨by kernel_rfl, ?hy88⟩) hHeld ?rest88
    case hy88 =>
      intro wx hSw
      have q0 := (hSw.cell (p := ⟨w1.heap.size, 4, none⟩) hltl).trans cl
      clear hSw
      go_simp
      with_reducible rfl
    simp only [List.setIfInBounds_toArray, List.set_cons_zero, List.set_cons_succ]
    refine held_take (i := 12) (d := 32) (v := ?v89) rfl rfl (by kernel_rfl) (by kernel_rfl) (by kernel_rfl) (fun _ _ _ h => h) (Or.inl ⟨by kernel_rfl, ?hy89⟩) hHeld ?rest89
    case hy89 =>
      intro wx hSw
      clear hSw
      go_simp
      with_reducible rfl
    simp only [List.setIfInBounds_toArray, List.set_cons_zero, List.set_cons_succ]
    refine held_take (i := 13) (d := 33) (v := ?v90) rfl rfl (by kernel_rfl) (by kernel_rfl) (by kernel_rfl) (fun _ _ _ h => h) (Or.inl ⟨by kernel_rfl, ?hy90⟩) hHeld ?rest90
    case hy90 =>
      intro wx hSw
      clear hSw
      go_simp
      with_reducible rfl
    simp only [List.setIfInBounds_toArray, List.set_cons_zero, List.set_cons_succ]
    refine held_take (i := 14) (d := 34) (v := ?v91) rfl rfl (by kernel_rfl) (by kernel_rfl) (by kernel_rfl) (fun _ _ _ h => h) (Or.inl ⟨by kernel_rfl, ?hy91⟩) hHeld ?rest91
    case hy91 =>
      intro wx hSw
      clear hSw
      go_simp
      with_reducible rfl
    simp only [List.setIfInBounds_toArray, List.set_cons_zero, List.set_cons_succ]
    refine held_take (i := 15) (d := 35) (v := ?v92) rfl rfl (by kernel_rfl) (by kernel_rfl) (by kernel_rfl) (fun _ _ _ h => h) (Or.inl ⟨by kernel_rfl, ?hy92⟩) hHeld ?rest92
    case hy92 =>
      intro wx hSw
      clear hSw
      go_simp
      with_reducible rfl
    simp only [List.setIfInBounds_toArray, List.set_cons_zero, List.set_cons_succ]
    refine held_take (i := 16) (d := 36) (v := ?v93) rfl rfl (by kernel_rfl) (by kernel_rfl) (by kernel_rfl) (fun _ _ _ h => h) (Or.inl ⟨by kernel_rfl, ?hy93⟩) hHeld ?rest93
    case hy93 =>
      intro wx hSw
      have q0 := (hSw.cell (p := ⟨w1.heap.size + 1, 4, none⟩) hltm).trans cm
      clear hSw
      go_simp
      with_reducible rfl
    simp only [List.setIfInBounds_toArray, List.set_cons_zero, List.set_cons_succ]
    refine held_take (i := 17) (d := 37) (v := ?v94) rfl rfl (by kernel_rfl) (by kernel_rfl) (by kernel_rfl) (fun _ _ _ h => h) (Or.inl ⟨by kernel_rfl, ?hy94⟩) hHeld ?rest94
    case hy94 =>
      intro wx hSw
      clear hSw
      go_simp
      with_reducible rfl
    simp only [List.setIfInBounds_toArray, List.set_cons_zero, List.set_cons_succ]
    refine held_take (i := 20) (d := 40) (v := ?v95) rfl rfl (by kernel_rfl) (by kernel_rfl) (by kernel_rfl) (fun _ _ _ h => h) (Or.inl ⟨by kernel_rfl, ?hy95⟩) hHeld ?rest95
    case hy95 =>
      intro wx hSw
      clear hSw
      go_simp
      with_reducible rfl
    simp only [List.setIfInBounds_toArray, List.set_cons_zero, List.set_cons_succ]
    refine wpAnyH_ready (rs := [18]) (by kernel_rfl) (by simp) ?_
    refine AllReadyH.cons rfl (fun K hK => ?_) AllReadyH.nil
    go_simp
    obtain ⟨B4, hB4⟩ : ∃ n, wk0.heap.size = n := ⟨_, rfl⟩
    have x4 := Box.new wk0 3 #[.int .i64 1, .int .i64 16, .int .i64 0, .int .i64 17]
    rw [hB4] at x4 ⊢
    have hS4 := hHeld.alloc hHeld.size (.cells #[.int .i64 1, .int .i64 16, .int .i64 0, .int .i64 17] 3)
    generalize wk0.alloc (.cells #[.int .i64 1, .int .i64 16, .int .i64 0, .int .i64 17] 3) = wk1 at *
    refine hK.out _ _ (hS4) (fun hHeld => ?_)
    clear hK K
    refine wpAnyH_ready (rs := [19]) (by kernel_rfl) (by simp) ?_
    refine AllReadyH.cons rfl (fun K hK => ?_) AllReadyH.nil
    go_simp
    refine hK.out _ _ hHeld (fun hHeld => ?_)
    clear hK K
    refine wpAnyH_done (by kernel_rfl) ?_ _
    go_wp2_with fail
    go_meet
    exact ⟨B4, rfl, rfl, rfl, x4, hHeld⟩
  case rest =>
    obtain ⟨B4, rfl, rfl, rfl, x4, b9⟩ := hcut
    clear cl cm hltl hltm
    replace xa := xa.next b9
    replace xl := xl.next b9
    replace xm := xm.next b9
    replace bb := bb.trans (b9.mono bb.size)
    clear b9 xl xm
    go_wp2_with fail
    go_loopw [40] (fun i wr => ∃ j : Nat, j ≤ 4 ∧ i = .int .i64 j ∧ Box wr w.heap.size 23 #[.int .i64 c.cB, .int .i64 c.cBeam, .int .i64 c.cDepth, .int .i64 c.cWin, .int .i64 c.cQs, .int .i64 c.cQr, .int .i64 c.cBatch, .int .i64 c.cPass, .int .i64 c.cMsg, .int .i64 c.cSeqs] ∧ Box wr B4 3 #[.int .i64 1, .int .i64 16, .int .i64 0, .int .i64 17] ∧ Below w.heap.size w wr) (fun i _ => 4 - (intOf i).toNat)
    case atStart => exact ⟨0, by omega, rfl, xa, x4, bb⟩
    case round =>
      clear xa x4 bb
      obtain ⟨j, hj, rfl, xa, x4, bb⟩ := hrel
      have hj5 : j = 0 ∨ j = 1 ∨ j = 2 ∨ j = 3 ∨ j = 4 := by omega
      clear hj
      rcases hj5 with rfl | rfl | rfl | rfl | rfl
      · have cxa0 := xa.cell 0 _ rfl
        have cxa1 := xa.cell 1 _ rfl
        have cxa2 := xa.cell 2 _ rfl
        have cxa3 := xa.cell 3 _ rfl
        have cxa4 := xa.cell 4 _ rfl
        have cxa5 := xa.cell 5 _ rfl
        have cxa6 := xa.cell 6 _ rfl
        have cxa7 := xa.cell 7 _ rfl
        have cxa8 := xa.cell 8 _ rfl
        have cxa9 := xa.cell 9 _ rfl
        have c4 := x4.cell 0 _ rfl
        have hlt4 := x4.lt
        have hlta := xa.lt
        have b9 : Below wr.heap.size wr (wr.alloc (.cells #[.int .i64 c.cB, .int .i64 c.cBeam, .int .i64 c.cDepth, .int .i64 c.cWin, .int .i64 1, .int .i64 c.cQr, .int .i64 c.cBatch, .int .i64 c.cPass, .int .i64 c.cMsg, .int .i64 c.cSeqs] 23)) := (Below.refl _ _).alloc (Nat.le_refl _) _
        have xd := Box.new wr 23 #[.int .i64 c.cB, .int .i64 c.cBeam, .int .i64 c.cDepth, .int .i64 c.cWin, .int .i64 1, .int .i64 c.cQr, .int .i64 c.cBatch, .int .i64 c.cPass, .int .i64 c.cMsg, .int .i64 c.cSeqs]
        go_wp2_with fail
        replace xa := xa.next b9
        replace x4 := x4.next b9
        replace bb := bb.trans (b9.mono bb.size)
        clear b9 c4 hlt4 hlta cxa0 cxa1 cxa2 cxa3 cxa4 cxa5 cxa6 cxa7 cxa8 cxa9
        refine (K0.out _).mono ?_
        rintro e w21 ⟨rfl, b9⟩
        replace xa := xa.next b9
        replace x4 := x4.next b9
        replace xd := xd.next b9
        replace bb := bb.trans (b9.mono bb.size)
        clear b9
        have cxd0 := xd.cell 0 _ rfl
        have cxd1 := xd.cell 1 _ rfl
        have cxd2 := xd.cell 2 _ rfl
        have cxd3 := xd.cell 3 _ rfl
        have cxd4 := xd.cell 4 _ rfl
        have cxd5 := xd.cell 5 _ rfl
        have cxd6 := xd.cell 6 _ rfl
        have cxd7 := xd.cell 7 _ rfl
        have cxd8 := xd.cell 8 _ rfl
        have cxd9 := xd.cell 9 _ rfl
        go_wp2_with fail
        refine (G0.out _).mono ?_
        rintro e w22 ⟨rfl, b9⟩
        clear cxd0 cxd1 cxd2 cxd3 cxd4 cxd5 cxd6 cxd7 cxd8 cxd9
        replace xa := xa.next b9
        replace x4 := x4.next b9
        replace xd := xd.next b9
        replace bb := bb.trans (b9.mono bb.size)
        clear b9
        go_wp2
        go_roundw
        case rel => exact ⟨1, by omega, by go_num, xa, x4, bb⟩
        case measure => simp [intOf]
      · have cxa0 := xa.cell 0 _ rfl
        have cxa1 := xa.cell 1 _ rfl
        have cxa2 := xa.cell 2 _ rfl
        have cxa3 := xa.cell 3 _ rfl
        have cxa4 := xa.cell 4 _ rfl
        have cxa5 := xa.cell 5 _ rfl
        have cxa6 := xa.cell 6 _ rfl
        have cxa7 := xa.cell 7 _ rfl
        have cxa8 := xa.cell 8 _ rfl
        have cxa9 := xa.cell 9 _ rfl
        have c4 := x4.cell 1 _ rfl
        have hlt4 := x4.lt
        have hlta := xa.lt
        have b9 : Below wr.heap.size wr (wr.alloc (.cells #[.int .i64 c.cB, .int .i64 c.cBeam, .int .i64 c.cDepth, .int .i64 c.cWin, .int .i64 16, .int .i64 c.cQr, .int .i64 c.cBatch, .int .i64 c.cPass, .int .i64 c.cMsg, .int .i64 c.cSeqs] 23)) := (Below.refl _ _).alloc (Nat.le_refl _) _
        have xd := Box.new wr 23 #[.int .i64 c.cB, .int .i64 c.cBeam, .int .i64 c.cDepth, .int .i64 c.cWin, .int .i64 16, .int .i64 c.cQr, .int .i64 c.cBatch, .int .i64 c.cPass, .int .i64 c.cMsg, .int .i64 c.cSeqs]
        go_wp2_with fail
        replace xa := xa.next b9
        replace x4 := x4.next b9
        replace bb := bb.trans (b9.mono bb.size)
        clear b9 c4 hlt4 hlta cxa0 cxa1 cxa2 cxa3 cxa4 cxa5 cxa6 cxa7 cxa8 cxa9
        refine (K1.out _).mono ?_
        rintro e w21 ⟨rfl, b9⟩
        replace xa := xa.next b9
        replace x4 := x4.next b9
        replace xd := xd.next b9
        replace bb := bb.trans (b9.mono bb.size)
        clear b9
        have cxd0 := xd.cell 0 _ rfl
        have cxd1 := xd.cell 1 _ rfl
        have cxd2 := xd.cell 2 _ rfl
        have cxd3 := xd.cell 3 _ rfl
        have cxd4 := xd.cell 4 _ rfl
        have cxd5 := xd.cell 5 _ rfl
        have cxd6 := xd.cell 6 _ rfl
        have cxd7 := xd.cell 7 _ rfl
        have cxd8 := xd.cell 8 _ rfl
        have cxd9 := xd.cell 9 _ rfl
        go_wp2_with fail
        refine (G1.out _).mono ?_
        rintro e w22 ⟨rfl, b9⟩
        clear cxd0 cxd1 cxd2 cxd3 cxd4 cxd5 cxd6 cxd7 cxd8 cxd9
        replace xa := xa.next b9
        replace x4 := x4.next b9
        replace xd := xd.next b9
        replace bb := bb.trans (b9.mono bb.size)
        clear b9
        go_wp2
        go_roundw
        case rel => exact ⟨2, by omega, by go_num, xa, x4, bb⟩
        case measure => simp [intOf]
      · have cxa0 := xa.cell 0 _ rfl
        have cxa1 := xa.cell 1 _ rfl
        have cxa2 := xa.cell 2 _ rfl
        have cxa3 := xa.cell 3 _ rfl
        have cxa4 := xa.cell 4 _ rfl
        have cxa5 := xa.cell 5 _ rfl
        have cxa6 := xa.cell 6 _ rfl
        have cxa7 := xa.cell 7 _ rfl
        have cxa8 := xa.cell 8 _ rfl
        have cxa9 := xa.cell 9 _ rfl
        have c4 := x4.cell 2 _ rfl
        have hlt4 := x4.lt
        have hlta := xa.lt
        have b9 : Below wr.heap.size wr (wr.alloc (.cells #[.int .i64 c.cB, .int .i64 c.cBeam, .int .i64 c.cDepth, .int .i64 c.cWin, .int .i64 0, .int .i64 c.cQr, .int .i64 c.cBatch, .int .i64 c.cPass, .int .i64 c.cMsg, .int .i64 c.cSeqs] 23)) := (Below.refl _ _).alloc (Nat.le_refl _) _
        have xd := Box.new wr 23 #[.int .i64 c.cB, .int .i64 c.cBeam, .int .i64 c.cDepth, .int .i64 c.cWin, .int .i64 0, .int .i64 c.cQr, .int .i64 c.cBatch, .int .i64 c.cPass, .int .i64 c.cMsg, .int .i64 c.cSeqs]
        go_wp2_with fail
        replace xa := xa.next b9
        replace x4 := x4.next b9
        replace bb := bb.trans (b9.mono bb.size)
        clear b9 c4 hlt4 hlta cxa0 cxa1 cxa2 cxa3 cxa4 cxa5 cxa6 cxa7 cxa8 cxa9
        refine (K2.out _).mono ?_
        rintro e w21 ⟨rfl, b9⟩
        replace xa := xa.next b9
        replace x4 := x4.next b9
        replace xd := xd.next b9
        replace bb := bb.trans (b9.mono bb.size)
        clear b9
        have cxd0 := xd.cell 0 _ rfl
        have cxd1 := xd.cell 1 _ rfl
        have cxd2 := xd.cell 2 _ rfl
        have cxd3 := xd.cell 3 _ rfl
        have cxd4 := xd.cell 4 _ rfl
        have cxd5 := xd.cell 5 _ rfl
        have cxd6 := xd.cell 6 _ rfl
        have cxd7 := xd.cell 7 _ rfl
        have cxd8 := xd.cell 8 _ rfl
        have cxd9 := xd.cell 9 _ rfl
        go_wp2_with fail
        refine (K2.out _).mono ?_
        rintro e w22 ⟨rfl, b9⟩
        clear cxd0 cxd1 cxd2 cxd3 cxd4 cxd5 cxd6 cxd7 cxd8 cxd9
        replace xa := xa.next b9
        replace x4 := x4.next b9
        replace xd := xd.next b9
        replace bb := bb.trans (b9.mono bb.size)
        clear b9
        have cxd0 := xd.cell 0 _ rfl
        have cxd1 := xd.cell 1 _ rfl
        have cxd2 := xd.cell 2 _ rfl
        have cxd3 := xd.cell 3 _ rfl
        have cxd4 := xd.cell 4 _ rfl
        have cxd5 := xd.cell 5 _ rfl
        have cxd6 := xd.cell 6 _ rfl
        have cxd7 := xd.cell 7 _ rfl
        have cxd8 := xd.cell 8 _ rfl
        have cxd9 := xd.cell 9 _ rfl
        go_wp2_with fail
        refine (G2.out _).mono ?_
        rintro e w23 ⟨rfl, b9⟩
        clear cxd0 cxd1 cxd2 cxd3 cxd4 cxd5 cxd6 cxd7 cxd8 cxd9
        replace xa := xa.next b9
        replace x4 := x4.next b9
        replace xd := xd.next b9
        replace bb := bb.trans (b9.mono bb.size)
        clear b9
        have cxd0 := xd.cell 0 _ rfl
        have cxd1 := xd.cell 1 _ rfl
        have cxd2 := xd.cell 2 _ rfl
        have cxd3 := xd.cell 3 _ rfl
        have cxd4 := xd.cell 4 _ rfl
        have cxd5 := xd.cell 5 _ rfl
        have cxd6 := xd.cell 6 _ rfl
        have cxd7 := xd.cell 7 _ rfl
        have cxd8 := xd.cell 8 _ rfl
        have cxd9 := xd.cell 9 _ rfl
        go_wp2_with fail
        refine (T2.out _).mono ?_
        rintro e w24 ⟨rfl, b9⟩
        clear cxd0 cxd1 cxd2 cxd3 cxd4 cxd5 cxd6 cxd7 cxd8 cxd9
        replace xa := xa.next b9
        replace x4 := x4.next b9
        replace xd := xd.next b9
        replace bb := bb.trans (b9.mono bb.size)
        clear b9
        go_wp2
        go_roundw
        case rel => exact ⟨3, by omega, by go_num, xa, x4, bb⟩
        case measure => simp [intOf]
      · have cxa0 := xa.cell 0 _ rfl
        have cxa1 := xa.cell 1 _ rfl
        have cxa2 := xa.cell 2 _ rfl
        have cxa3 := xa.cell 3 _ rfl
        have cxa4 := xa.cell 4 _ rfl
        have cxa5 := xa.cell 5 _ rfl
        have cxa6 := xa.cell 6 _ rfl
        have cxa7 := xa.cell 7 _ rfl
        have cxa8 := xa.cell 8 _ rfl
        have cxa9 := xa.cell 9 _ rfl
        have c4 := x4.cell 3 _ rfl
        have hlt4 := x4.lt
        have hlta := xa.lt
        have b9 : Below wr.heap.size wr (wr.alloc (.cells #[.int .i64 c.cB, .int .i64 c.cBeam, .int .i64 c.cDepth, .int .i64 c.cWin, .int .i64 17, .int .i64 c.cQr, .int .i64 c.cBatch, .int .i64 c.cPass, .int .i64 c.cMsg, .int .i64 c.cSeqs] 23)) := (Below.refl _ _).alloc (Nat.le_refl _) _
        have xd := Box.new wr 23 #[.int .i64 c.cB, .int .i64 c.cBeam, .int .i64 c.cDepth, .int .i64 c.cWin, .int .i64 17, .int .i64 c.cQr, .int .i64 c.cBatch, .int .i64 c.cPass, .int .i64 c.cMsg, .int .i64 c.cSeqs]
        go_wp2_with fail
        replace xa := xa.next b9
        replace x4 := x4.next b9
        replace bb := bb.trans (b9.mono bb.size)
        clear b9 c4 hlt4 hlta cxa0 cxa1 cxa2 cxa3 cxa4 cxa5 cxa6 cxa7 cxa8 cxa9
        refine (K3.out _).mono ?_
        rintro e w21 ⟨rfl, b9⟩
        replace xa := xa.next b9
        replace x4 := x4.next b9
        replace xd := xd.next b9
        replace bb := bb.trans (b9.mono bb.size)
        clear b9
        have cxd0 := xd.cell 0 _ rfl
        have cxd1 := xd.cell 1 _ rfl
        have cxd2 := xd.cell 2 _ rfl
        have cxd3 := xd.cell 3 _ rfl
        have cxd4 := xd.cell 4 _ rfl
        have cxd5 := xd.cell 5 _ rfl
        have cxd6 := xd.cell 6 _ rfl
        have cxd7 := xd.cell 7 _ rfl
        have cxd8 := xd.cell 8 _ rfl
        have cxd9 := xd.cell 9 _ rfl
        go_wp2_with fail
        refine (K3.out _).mono ?_
        rintro e w22 ⟨rfl, b9⟩
        clear cxd0 cxd1 cxd2 cxd3 cxd4 cxd5 cxd6 cxd7 cxd8 cxd9
        replace xa := xa.next b9
        replace x4 := x4.next b9
        replace xd := xd.next b9
        replace bb := bb.trans (b9.mono bb.size)
        clear b9
        have cxd0 := xd.cell 0 _ rfl
        have cxd1 := xd.cell 1 _ rfl
        have cxd2 := xd.cell 2 _ rfl
        have cxd3 := xd.cell 3 _ rfl
        have cxd4 := xd.cell 4 _ rfl
        have cxd5 := xd.cell 5 _ rfl
        have cxd6 := xd.cell 6 _ rfl
        have cxd7 := xd.cell 7 _ rfl
        have cxd8 := xd.cell 8 _ rfl
        have cxd9 := xd.cell 9 _ rfl
        go_wp2_with fail
        refine (G3.out _).mono ?_
        rintro e w23 ⟨rfl, b9⟩
        clear cxd0 cxd1 cxd2 cxd3 cxd4 cxd5 cxd6 cxd7 cxd8 cxd9
        replace xa := xa.next b9
        replace x4 := x4.next b9
        replace xd := xd.next b9
        replace bb := bb.trans (b9.mono bb.size)
        clear b9
        have cxd0 := xd.cell 0 _ rfl
        have cxd1 := xd.cell 1 _ rfl
        have cxd2 := xd.cell 2 _ rfl
        have cxd3 := xd.cell 3 _ rfl
        have cxd4 := xd.cell 4 _ rfl
        have cxd5 := xd.cell 5 _ rfl
        have cxd6 := xd.cell 6 _ rfl
        have cxd7 := xd.cell 7 _ rfl
        have cxd8 := xd.cell 8 _ rfl
        have cxd9 := xd.cell 9 _ rfl
        go_wp2_with fail
        refine (T3.out _).mono ?_
        rintro e w24 ⟨rfl, b9⟩
        clear cxd0 cxd1 cxd2 cxd3 cxd4 cxd5 cxd6 cxd7 cxd8 cxd9
        replace xa := xa.next b9
        replace x4 := x4.next b9
        replace xd := xd.next b9
        replace bb := bb.trans (b9.mono bb.size)
        clear b9
        go_wp2
        go_roundw
        case rel => exact ⟨4, by omega, by go_num, xa, x4, bb⟩
        case measure => simp [intOf]
      · have cxa0 := xa.cell 0 _ rfl
        have cxa1 := xa.cell 1 _ rfl
        have cxa2 := xa.cell 2 _ rfl
        have cxa3 := xa.cell 3 _ rfl
        have cxa4 := xa.cell 4 _ rfl
        have cxa5 := xa.cell 5 _ rfl
        have cxa6 := xa.cell 6 _ rfl
        have cxa7 := xa.cell 7 _ rfl
        have cxa8 := xa.cell 8 _ rfl
        have cxa9 := xa.cell 9 _ rfl
        go_wp2_with fail
        refine (KC.out _).mono ?_
        rintro e w21 ⟨rfl, b9⟩
        clear cxa0 cxa1 cxa2 cxa3 cxa4 cxa5 cxa6 cxa7 cxa8 cxa9
        replace xa := xa.next b9
        replace bb := bb.trans (b9.mono bb.size)
        clear b9
        have HWK := confWakes_any w21
        go_wp2_with (go_at_call 13; refine HWK.mono ?_; rintro e w99 ⟨rfl, b99⟩)
        go_ret
        exact ⟨rfl, bb.trans (b99.mono bb.size)⟩

set_option maxRecDepth 100000 in
set_option maxHeartbeats 4000000 in
theorem confEnds_5 (c : Cfg) (x : Int) (hA : okC c = true) (ek : (IntKind.u64.wrap x).tmod 10 = 5) (w : World) :
    Calls Try.prog 5 #[.agg #[.int .i64 c.cB, .int .i64 c.cBeam, .int .i64 c.cDepth, .int .i64 c.cWin, .int .i64 c.cQs, .int .i64 c.cQr, .int .i64 c.cBatch, .int .i64 c.cPass, .int .i64 c.cMsg, .int .i64 c.cSeqs], .int .i64 x] w fun e w' => e = .returned (.bool true) ∧ Below w.heap.size w w' := by
  have bb : Below w.heap.size w (w.alloc (.cells #[.int .i64 c.cB, .int .i64 c.cBeam, .int .i64 c.cDepth, .int .i64 c.cWin, .int .i64 c.cQs, .int .i64 c.cQr, .int .i64 c.cBatch, .int .i64 c.cPass, .int .i64 c.cMsg, .int .i64 c.cSeqs] 23)) := (Below.refl w.heap.size w).alloc (Nat.le_refl _) _
  have xa := Box.new w 23 #[.int .i64 c.cB, .int .i64 c.cBeam, .int .i64 c.cDepth, .int .i64 c.cWin, .int .i64 c.cQs, .int .i64 c.cQr, .int .i64 c.cBatch, .int .i64 c.cPass, .int .i64 c.cMsg, .int .i64 c.cSeqs]
  have hI := (okC_iff c).1 hA
  have o0 : okC (Cfg.mk c.cB c.cBeam c.cDepth c.cWin c.cQs 1 c.cBatch c.cPass c.cMsg c.cSeqs) = true := (okC_iff _).2 (by dsimp only; omega)
  obtain ⟨S0, hS0⟩ : ∃ v, segsC (Cfg.mk c.cB c.cBeam c.cDepth c.cWin c.cQs 1 c.cBatch c.cPass c.cMsg c.cSeqs) = v := ⟨_, rfl⟩
  have b0_ := (segsC_bd o0).1
  rw [hS0] at b0_
  have dS0 : decide (S0 < 22) = false := decide_eq_false (by omega)
  have K0 : Hid (∀ wx : World, Calls Try.prog 7 #[.agg #[.int .i64 c.cB, .int .i64 c.cBeam, .int .i64 c.cDepth, .int .i64 c.cWin, .int .i64 c.cQs, .int .i64 1, .int .i64 c.cBatch, .int .i64 c.cPass, .int .i64 c.cMsg, .int .i64 c.cSeqs]] wx fun e w' => e = .returned (.int .i64 0) ∧ Below wx.heap.size wx w') := fun wx => by
    have := ConfCheck_any (Cfg.mk c.cB c.cBeam c.cDepth c.cWin c.cQs 1 c.cBatch c.cPass c.cMsg c.cSeqs) wx
    rw [show checkA (Cfg.mk c.cB c.cBeam c.cDepth c.cWin c.cQs 1 c.cBatch c.cPass c.cMsg c.cSeqs) = 0 from (if_pos o0)] at this
    exact this
  have G0 : Hid (∀ wx : World, Calls Try.prog 8 #[.agg #[.int .i64 c.cB, .int .i64 c.cBeam, .int .i64 c.cDepth, .int .i64 c.cWin, .int .i64 c.cQs, .int .i64 1, .int .i64 c.cBatch, .int .i64 c.cPass, .int .i64 c.cMsg, .int .i64 c.cSeqs]] wx fun e w' => e = .returned (.int .i64 S0) ∧ Below wx.heap.size wx w') := fun wx => by
    have := ConfSegs_any (Cfg.mk c.cB c.cBeam c.cDepth c.cWin c.cQs 1 c.cBatch c.cPass c.cMsg c.cSeqs) wx
    rw [show segsA (Cfg.mk c.cB c.cBeam c.cDepth c.cWin c.cQs 1 c.cBatch c.cPass c.cMsg c.cSeqs) = S0 from (if_pos o0).trans hS0] at this
    exact this
  have o1 : okC (Cfg.mk c.cB c.cBeam c.cDepth c.cWin c.cQs 16 c.cBatch c.cPass c.cMsg c.cSeqs) = true := (okC_iff _).2 (by dsimp only; omega)
  obtain ⟨S1, hS1⟩ : ∃ v, segsC (Cfg.mk c.cB c.cBeam c.cDepth c.cWin c.cQs 16 c.cBatch c.cPass c.cMsg c.cSeqs) = v := ⟨_, rfl⟩
  have b1_ := (segsC_bd o1).1
  rw [hS1] at b1_
  have dS1 : decide (S1 < 22) = false := decide_eq_false (by omega)
  have K1 : Hid (∀ wx : World, Calls Try.prog 7 #[.agg #[.int .i64 c.cB, .int .i64 c.cBeam, .int .i64 c.cDepth, .int .i64 c.cWin, .int .i64 c.cQs, .int .i64 16, .int .i64 c.cBatch, .int .i64 c.cPass, .int .i64 c.cMsg, .int .i64 c.cSeqs]] wx fun e w' => e = .returned (.int .i64 0) ∧ Below wx.heap.size wx w') := fun wx => by
    have := ConfCheck_any (Cfg.mk c.cB c.cBeam c.cDepth c.cWin c.cQs 16 c.cBatch c.cPass c.cMsg c.cSeqs) wx
    rw [show checkA (Cfg.mk c.cB c.cBeam c.cDepth c.cWin c.cQs 16 c.cBatch c.cPass c.cMsg c.cSeqs) = 0 from (if_pos o1)] at this
    exact this
  have G1 : Hid (∀ wx : World, Calls Try.prog 8 #[.agg #[.int .i64 c.cB, .int .i64 c.cBeam, .int .i64 c.cDepth, .int .i64 c.cWin, .int .i64 c.cQs, .int .i64 16, .int .i64 c.cBatch, .int .i64 c.cPass, .int .i64 c.cMsg, .int .i64 c.cSeqs]] wx fun e w' => e = .returned (.int .i64 S1) ∧ Below wx.heap.size wx w') := fun wx => by
    have := ConfSegs_any (Cfg.mk c.cB c.cBeam c.cDepth c.cWin c.cQs 16 c.cBatch c.cPass c.cMsg c.cSeqs) wx
    rw [show segsA (Cfg.mk c.cB c.cBeam c.cDepth c.cWin c.cQs 16 c.cBatch c.cPass c.cMsg c.cSeqs) = S1 from (if_pos o1).trans hS1] at this
    exact this
  have o2 : okC (Cfg.mk c.cB c.cBeam c.cDepth c.cWin c.cQs 0 c.cBatch c.cPass c.cMsg c.cSeqs) = false := by
    rw [← Bool.not_eq_true, okC_iff]
    dsimp only
    omega
  have K2 : Hid (∀ wx : World, Calls Try.prog 7 #[.agg #[.int .i64 c.cB, .int .i64 c.cBeam, .int .i64 c.cDepth, .int .i64 c.cWin, .int .i64 c.cQs, .int .i64 0, .int .i64 c.cBatch, .int .i64 c.cPass, .int .i64 c.cMsg, .int .i64 c.cSeqs]] wx fun e w' => e = .returned (.int .i64 1) ∧ Below wx.heap.size wx w') := fun wx => by
    have := ConfCheck_any (Cfg.mk c.cB c.cBeam c.cDepth c.cWin c.cQs 0 c.cBatch c.cPass c.cMsg c.cSeqs) wx
    rw [show checkA (Cfg.mk c.cB c.cBeam c.cDepth c.cWin c.cQs 0 c.cBatch c.cPass c.cMsg c.cSeqs) = 1 from (if_neg (by rw [o2]; decide))] at this
    exact this
  have G2 : Hid (∀ wx : World, Calls Try.prog 8 #[.agg #[.int .i64 c.cB, .int .i64 c.cBeam, .int .i64 c.cDepth, .int .i64 c.cWin, .int .i64 c.cQs, .int .i64 0, .int .i64 c.cBatch, .int .i64 c.cPass, .int .i64 c.cMsg, .int .i64 c.cSeqs]] wx fun e w' => e = .returned (.int .i64 0) ∧ Below wx.heap.size wx w') := fun wx => by
    have := ConfSegs_any (Cfg.mk c.cB c.cBeam c.cDepth c.cWin c.cQs 0 c.cBatch c.cPass c.cMsg c.cSeqs) wx
    rw [show segsA (Cfg.mk c.cB c.cBeam c.cDepth c.cWin c.cQs 0 c.cBatch c.cPass c.cMsg c.cSeqs) = 0 from (if_neg (by rw [o2]; decide))] at this
    exact this
  have T2 : Hid (∀ wx : World, Calls Try.prog 11 #[.agg #[.int .i64 c.cB, .int .i64 c.cBeam, .int .i64 c.cDepth, .int .i64 c.cWin, .int .i64 c.cQs, .int .i64 0, .int .i64 c.cBatch, .int .i64 c.cPass, .int .i64 c.cMsg, .int .i64 c.cSeqs]] wx fun e w' => e = .returned (.int .i64 0) ∧ Below wx.heap.size wx w') := fun wx => by
    have := ConfTicks_any (Cfg.mk c.cB c.cBeam c.cDepth c.cWin c.cQs 0 c.cBatch c.cPass c.cMsg c.cSeqs) wx
    rw [show ticksA (Cfg.mk c.cB c.cBeam c.cDepth c.cWin c.cQs 0 c.cBatch c.cPass c.cMsg c.cSeqs) = 0 from (if_neg (by rw [o2]; decide))] at this
    exact this
  have o3 : okC (Cfg.mk c.cB c.cBeam c.cDepth c.cWin c.cQs 17 c.cBatch c.cPass c.cMsg c.cSeqs) = false := by
    rw [← Bool.not_eq_true, okC_iff]
    dsimp only
    omega
  have K3 : Hid (∀ wx : World, Calls Try.prog 7 #[.agg #[.int .i64 c.cB, .int .i64 c.cBeam, .int .i64 c.cDepth, .int .i64 c.cWin, .int .i64 c.cQs, .int .i64 17, .int .i64 c.cBatch, .int .i64 c.cPass, .int .i64 c.cMsg, .int .i64 c.cSeqs]] wx fun e w' => e = .returned (.int .i64 1) ∧ Below wx.heap.size wx w') := fun wx => by
    have := ConfCheck_any (Cfg.mk c.cB c.cBeam c.cDepth c.cWin c.cQs 17 c.cBatch c.cPass c.cMsg c.cSeqs) wx
    rw [show checkA (Cfg.mk c.cB c.cBeam c.cDepth c.cWin c.cQs 17 c.cBatch c.cPass c.cMsg c.cSeqs) = 1 from (if_neg (by rw [o3]; decide))] at this
    exact this
  have G3 : Hid (∀ wx : World, Calls Try.prog 8 #[.agg #[.int .i64 c.cB, .int .i64 c.cBeam, .int .i64 c.cDepth, .int .i64 c.cWin, .int .i64 c.cQs, .int .i64 17, .int .i64 c.cBatch, .int .i64 c.cPass, .int .i64 c.cMsg, .int .i64 c.cSeqs]] wx fun e w' => e = .returned (.int .i64 0) ∧ Below wx.heap.size wx w') := fun wx => by
    have := ConfSegs_any (Cfg.mk c.cB c.cBeam c.cDepth c.cWin c.cQs 17 c.cBatch c.cPass c.cMsg c.cSeqs) wx
    rw [show segsA (Cfg.mk c.cB c.cBeam c.cDepth c.cWin c.cQs 17 c.cBatch c.cPass c.cMsg c.cSeqs) = 0 from (if_neg (by rw [o3]; decide))] at this
    exact this
  have T3 : Hid (∀ wx : World, Calls Try.prog 11 #[.agg #[.int .i64 c.cB, .int .i64 c.cBeam, .int .i64 c.cDepth, .int .i64 c.cWin, .int .i64 c.cQs, .int .i64 17, .int .i64 c.cBatch, .int .i64 c.cPass, .int .i64 c.cMsg, .int .i64 c.cSeqs]] wx fun e w' => e = .returned (.int .i64 0) ∧ Below wx.heap.size wx w') := fun wx => by
    have := ConfTicks_any (Cfg.mk c.cB c.cBeam c.cDepth c.cWin c.cQs 17 c.cBatch c.cPass c.cMsg c.cSeqs) wx
    rw [show ticksA (Cfg.mk c.cB c.cBeam c.cDepth c.cWin c.cQs 17 c.cBatch c.cPass c.cMsg c.cSeqs) = 0 from (if_neg (by rw [o3]; decide))] at this
    exact this
  have KC : Hid (∀ wx : World, Calls Try.prog 7 #[.agg #[.int .i64 c.cB, .int .i64 c.cBeam, .int .i64 c.cDepth, .int .i64 c.cWin, .int .i64 c.cQs, .int .i64 c.cQr, .int .i64 c.cBatch, .int .i64 c.cPass, .int .i64 c.cMsg, .int .i64 c.cSeqs]] wx fun e w' => e = .returned (.int .i64 0) ∧ Below wx.heap.size wx w') := fun wx => by
    have := ConfCheck_any c wx
    rw [show checkA c = 0 from (if_pos hA)] at this
    exact this
  have HC := refConfig_any c (w.alloc (.cells #[.int .i64 c.cB, .int .i64 c.cBeam, .int .i64 c.cDepth, .int .i64 c.cWin, .int .i64 c.cQs, .int .i64 c.cQr, .int .i64 c.cBatch, .int .i64 c.cPass, .int .i64 c.cMsg, .int .i64 c.cSeqs] 23))
  rw [hA] at HC
  clear hI hA o0 o1 o2 o3 hS0 b0_ hS1 b1_
  go_enter Try.func5, Try.ntmps5
  have cxa0 := xa.cell 0 _ rfl
  have cxa1 := xa.cell 1 _ rfl
  have cxa2 := xa.cell 2 _ rfl
  have cxa3 := xa.cell 3 _ rfl
  have cxa4 := xa.cell 4 _ rfl
  have cxa5 := xa.cell 5 _ rfl
  have cxa6 := xa.cell 6 _ rfl
  have cxa7 := xa.cell 7 _ rfl
  have cxa8 := xa.cell 8 _ rfl
  have cxa9 := xa.cell 9 _ rfl
  go_wp2_with fail
  refine (HC).mono ?_
  rintro e w1 ⟨rfl, b9⟩
  clear cxa0 cxa1 cxa2 cxa3 cxa4 cxa5 cxa6 cxa7 cxa8 cxa9
  replace xa := xa.next b9
  replace bb := bb.trans (b9.mono bb.size)
  clear b9
  clear HC
  have b9 : Below w1.heap.size w1 ((w1.alloc (.cells #[.int .i64 1, .int .i64 1, .int .i64 1, .int .i64 1, .int .i64 1, .int .i64 1, .int .i64 1, .int .i64 4, .int .i64 0, .int .i64 0] 3)).alloc (.cells #[.int .i64 16, .int .i64 16, .int .i64 3, .int .i64 16, .int .i64 16, .int .i64 16, .int .i64 64, .int .i64 16, .int .i64 200, .int .i64 1073741824] 3)) := ((Below.refl _ _).alloc (Nat.le_refl _) _).alloc (by simp) _
  have xl : Box ((w1.alloc (.cells #[.int .i64 1, .int .i64 1, .int .i64 1, .int .i64 1, .int .i64 1, .int .i64 1, .int .i64 1, .int .i64 4, .int .i64 0, .int .i64 0] 3)).alloc (.cells #[.int .i64 16, .int .i64 16, .int .i64 3, .int .i64 16, .int .i64 16, .int .i64 16, .int .i64 64, .int .i64 16, .int .i64 200, .int .i64 1073741824] 3)) w1.heap.size 3 #[.int .i64 1, .int .i64 1, .int .i64 1, .int .i64 1, .int .i64 1, .int .i64 1, .int .i64 1, .int .i64 4, .int .i64 0, .int .i64 0] := (Box.new w1 _ _).alloc _
  have xm : Box ((w1.alloc (.cells #[.int .i64 1, .int .i64 1, .int .i64 1, .int .i64 1, .int .i64 1, .int .i64 1, .int .i64 1, .int .i64 4, .int .i64 0, .int .i64 0] 3)).alloc (.cells #[.int .i64 16, .int .i64 16, .int .i64 3, .int .i64 16, .int .i64 16, .int .i64 16, .int .i64 64, .int .i64 16, .int .i64 200, .int .i64 1073741824] 3)) (w1.heap.size + 1) 3 #[.int .i64 16, .int .i64 16, .int .i64 3, .int .i64 16, .int .i64 16, .int .i64 16, .int .i64 64, .int .i64 16, .int .i64 200, .int .i64 1073741824] := by
    have := Box.new (w1.alloc (.cells #[.int .i64 1, .int .i64 1, .int .i64 1, .int .i64 1, .int .i64 1, .int .i64 1, .int .i64 1, .int .i64 4, .int .i64 0, .int .i64 0] 3)) 3 #[.int .i64 16, .int .i64 16, .int .i64 3, .int .i64 16, .int .i64 16, .int .i64 16, .int .i64 64, .int .i64 16, .int .i64 200, .int .i64 1073741824]
    simpa using this
  replace xa := xa.next b9
  replace bb := bb.trans (b9.mono bb.size)
  clear b9
  go_wp2
  generalize ((w1.alloc (.cells #[.int .i64 1, .int .i64 1, .int .i64 1, .int .i64 1, .int .i64 1, .int .i64 1, .int .i64 1, .int .i64 4, .int .i64 0, .int .i64 0] 3)).alloc (.cells #[.int .i64 16, .int .i64 16, .int .i64 3, .int .i64 16, .int .i64 16, .int .i64 16, .int .i64 64, .int .i64 16, .int .i64 200, .int .i64 1073741824] 3)) = w2 at *
  have wv2 : IntKind.i64.wrap (0) = 0 := by rw [IntKind.wrap_i64]; decide
  have wv3 : IntKind.i64.wrap (17) = 17 := by rw [IntKind.wrap_i64]; decide
  have hltl := xl.lt
  have hltm := xm.lt
  have cl := xl.cell 5 _ rfl
  have cm := xm.cell 5 _ rfl
  skip
  go_cut [38, 39, 40] (fun s l i wx => ∃ B4, s = .slice (some ⟨B4, 0, none⟩) 4 4 ∧ l = .int .i64 4 ∧ i = .int .i64 0 ∧ Box wx B4 3 #[.int .i64 1, .int .i64 16, .int .i64 0, .int .i64 17] ∧ Below w2.heap.size w2 wx)
  case first =>
    refine wp_region_held_drew (S := fun w' => Below w2.heap.size w2 w') (by kernel_rfl) ((Below.refl _ _).drew) (fun hHeld => ?_)
    generalize w2.drew = wk0 at *
    refine held_take (i := 0) (d := 20) (v := ?v96) rfl rfl (by kernel_rfl) (by kernel_rfl) (by kernel_rfl) (fun _ _ _ h => h) (Or.inl ⟨by kernel_rfl, ?hy96⟩) hHeld ?rest96
    case hy96 =>
      intro wx hSw
      clear hSw
      go_simp
      with_reducible rfl
    simp only [List.setIfInBounds_toArray, List.set_cons_zero, List.set_cons_succ]
    refine held_take (i := 1) (d := 21) (v := ?v97) rfl rfl (by kernel_rfl) (by kernel_rfl) (by kernel_rfl) (fun _ _ _ h => h) (Or.inl ⟨by kernel_rfl, ?hy97⟩) hHeld ?rest97
    case hy97 =>
      intro wx hSw
      clear hSw
      go_simp
      with_reducible rfl
    simp only [List.setIfInBounds_toArray, List.set_cons_zero, List.set_cons_succ]
    refine held_take (i := 2) (d := 22) (v := ?v98) rfl rfl (by kernel_rfl) (by kernel_rfl) (by kernel_rfl) (fun _ _ _ h => h) (Or.inl ⟨by kernel_rfl, ?hy98⟩) hHeld ?rest98
    case hy98 =>
      intro wx hSw
      clear hSw
      go_simp
      with_reducible rfl
    simp only [List.setIfInBounds_toArray, List.set_cons_zero, List.set_cons_succ]
    refine held_take (i := 3) (d := 23) (v := ?v99) rfl rfl (by kernel_rfl) (by kernel_rfl) (by kernel_rfl) (fun _ _ _ h => h) (Or.inl ⟨by kernel_rfl, ?hy99⟩) hHeld ?rest99
    case hy99 =>
      intro wx hSw
      have q0 := (hSw.cell (p := ⟨w1.heap.size, 5, none⟩) hltl).trans cl
      clear hSw
      go_simp
      with_reducible rfl
    simp only [List.setIfInBounds_toArray, List.set_cons_zero, List.set_cons_succ]
    refine held_take (i := 4) (d := 24) (v := ?v100) rfl rfl (by kernel_rfl) (by kernel_rfl) (by kernel_rfl) (fun _ _ _ h => h) (Or.inl ⟨by kernel_rfl, ?hy100⟩) hHeld ?rest100
    case hy100 =>
      intro wx hSw
      clear hSw
      go_simp
      with_reducible rfl
    simp only [List.setIfInBounds_toArray, List.set_cons_zero, List.set_cons_succ]
    refine held_take (i := 5) (d := 25) (v := ?v101) rfl rfl (by kernel_rfl) (by kernel_rfl) (by kernel_rfl) (fun _ _ _ h => h) (Or.inl ⟨by kernel_rfl, ?hy101⟩) hHeld ?rest101
    case hy101 =>
      intro wx hSw
      clear hSw
      go_simp
      with_reducible rfl
    simp only [List.setIfInBounds_toArray, List.set_cons_zero, List.set_cons_succ]
    refine held_take (i := 6) (d := 26) (v := ?v102) rfl rfl (by kernel_rfl) (by kernel_rfl) (by kernel_rfl) (fun _ _ _ h => h) (Or.inl ⟨by kernel_rfl, ?hy102⟩) hHeld ?rest102
    case hy102 =>
      intro wx hSw
      clear hSw
      go_simp
      with_reducible rfl
    simp only [List.setIfInBounds_toArray, List.set_cons_zero, List.set_cons_succ]
    refine held_take (i := 7) (d := 27) (v := ?v103) rfl rfl (by kernel_rfl) (by kernel_rfl) (by kernel_rfl) (fun _ _ _ h => h) (Or.inl ⟨by kernel_rfl, ?hy103⟩) hHeld ?rest103
    case hy103 =>
      intro wx hSw
      have q0 := (hSw.cell (p := ⟨w1.heap.size + 1, 5, none⟩) hltm).trans cm
      clear hSw
      go_simp
      with_reducible rfl
    simp only [List.setIfInBounds_toArray, List.set_cons_zero, List.set_cons_succ]
    refine held_take (i := 8) (d := 28) (v := ?v104) rfl rfl (by kernel_rfl) (by kernel_rfl) (by kernel_rfl) (fun _ _ _ h => h) (Or.inl ⟨by kernel_rfl, ?hy104⟩) hHeld ?rest104
    case hy104 =>
      intro wx hSw
      clear hSw
      go_simp
      with_reducible rfl
    simp only [List.setIfInBounds_toArray, List.set_cons_zero, List.set_cons_succ]
    refine held_take (i := 9) (d := 29) (v := ?v105) rfl rfl (by kernel_rfl) (by kernel_rfl) (by kernel_rfl) (fun _ _ _ h => h) (Or.inl ⟨by kernel_rfl, ?hy105⟩) hHeld ?rest105
    case hy105 =>
      intro wx hSw
      clear hSw
      go_simp
      with_reducible rfl
    simp only [List.setIfInBounds_toArray, List.set_cons_zero, List.set_cons_succ]
    refine held_take (i := 10) (d := 30) (v := ?v106) rfl rfl (by kernel_rfl) (by kernel_rfl) (by kernel_rfl) (fun _ _ _ h => h) (Or.inl ⟨by kernel_rfl, ?hy106⟩) hHeld ?rest106
    case hy106 =>
      intro wx hSw
      clear hSw
      go_simp
      with_reducible rfl
    simp only [List.setIfInBounds_toArray, List.set_cons_zero, List.set_cons_succ]
    refine held_take (i := 11) (d := 31) (v := ?v107) rfl rfl (by kernel_rfl) (by kernel_rfl) (by kernel_rfl) (fun _ _ _ h => h) (Or.inl ⟨by kernel_rfl, ?hy107⟩) hHeld ?rest107
    case hy107 =>
      intro wx hSw
      have q0 := (hSw.cell (p := ⟨w1.heap.size, 5, none⟩) hltl).trans cl
      clear hSw
      go_simp
      with_reducible rfl
    simp only [List.setIfInBounds_toArray, List.set_cons_zero, List.set_cons_succ]
    refine held_take (i := 12) (d := 32) (v := ?v108) rfl rfl (by kernel_rfl) (by kernel_rfl) (by kernel_rfl) (fun _ _ _ h => h) (Or.inl ⟨by kernel_rfl, ?hy108⟩) hHeld ?rest108
    case hy108 =>
      intro wx hSw
      clear hSw
      go_simp
      with_reducible rfl
    simp only [List.setIfInBounds_toArray, List.set_cons_zero, List.set_cons_succ]
    refine held_take (i := 13) (d := 33) (v := ?v109) rfl rfl (by kernel_rfl) (by kernel_rfl) (by kernel_rfl) (fun _ _ _ h => h) (Or.inl ⟨by kernel_rfl, ?hy109⟩) hHeld ?rest109
    case hy109 =>
      intro wx hSw
      clear hSw
      go_simp
      with_reducible rfl
    simp only [List.setIfInBounds_toArray, List.set_cons_zero, List.set_cons_succ]
    refine held_take (i := 14) (d := 34) (v := ?v110) rfl rfl (by kernel_rfl) (by kernel_rfl) (by kernel_rfl) (fun _ _ _ h => h) (Or.inl ⟨by kernel_rfl, ?hy110⟩) hHeld ?rest110
    case hy110 =>
      intro wx hSw
      clear hSw
      go_simp
      with_reducible rfl
    simp only [List.setIfInBounds_toArray, List.set_cons_zero, List.set_cons_succ]
    refine held_take (i := 15) (d := 35) (v := ?v111) rfl rfl (by kernel_rfl) (by kernel_rfl) (by kernel_rfl) (fun _ _ _ h => h) (Or.inl ⟨by kernel_rfl, ?hy111⟩) hHeld ?rest111
    case hy111 =>
      intro wx hSw
      clear hSw
      go_simp
      with_reducible rfl
    simp only [List.setIfInBounds_toArray, List.set_cons_zero, List.set_cons_succ]
    refine held_take (i := 16) (d := 36) (v := ?v112) rfl rfl (by kernel_rfl) (by kernel_rfl) (by kernel_rfl) (fun _ _ _ h => h) (Or.inl ⟨by kernel_rfl, ?hy112⟩) hHeld ?rest112
    case hy112 =>
      intro wx hSw
      have q0 := (hSw.cell (p := ⟨w1.heap.size + 1, 5, none⟩) hltm).trans cm
      clear hSw
      go_simp
      with_reducible rfl
    simp only [List.setIfInBounds_toArray, List.set_cons_zero, List.set_cons_succ]
    refine held_take (i := 17) (d := 37) (v := ?v113) rfl rfl (by kernel_rfl) (by kernel_rfl) (by kernel_rfl) (fun _ _ _ h => h) (Or.inl ⟨by kernel_rfl, ?hy113⟩) hHeld ?rest113
    case hy113 =>
      intro wx hSw
      clear hSw
      go_simp
      with_reducible rfl
    simp only [List.setIfInBounds_toArray, List.set_cons_zero, List.set_cons_succ]
    refine held_take (i := 20) (d := 40) (v := ?v114) rfl rfl (by kernel_rfl) (by kernel_rfl) (by kernel_rfl) (fun _ _ _ h => h) (Or.inl ⟨by kernel_rfl, ?hy114⟩) hHeld ?rest114
    case hy114 =>
      intro wx hSw
      clear hSw
      go_simp
      with_reducible rfl
    simp only [List.setIfInBounds_toArray, List.set_cons_zero, List.set_cons_succ]
    refine wpAnyH_ready (rs := [18]) (by kernel_rfl) (by simp) ?_
    refine AllReadyH.cons rfl (fun K hK => ?_) AllReadyH.nil
    go_simp
    obtain ⟨B4, hB4⟩ : ∃ n, wk0.heap.size = n := ⟨_, rfl⟩
    have x4 := Box.new wk0 3 #[.int .i64 1, .int .i64 16, .int .i64 0, .int .i64 17]
    rw [hB4] at x4 ⊢
    have hS4 := hHeld.alloc hHeld.size (.cells #[.int .i64 1, .int .i64 16, .int .i64 0, .int .i64 17] 3)
    generalize wk0.alloc (.cells #[.int .i64 1, .int .i64 16, .int .i64 0, .int .i64 17] 3) = wk1 at *
    refine hK.out _ _ (hS4) (fun hHeld => ?_)
    clear hK K
    refine wpAnyH_ready (rs := [19]) (by kernel_rfl) (by simp) ?_
    refine AllReadyH.cons rfl (fun K hK => ?_) AllReadyH.nil
    go_simp
    refine hK.out _ _ hHeld (fun hHeld => ?_)
    clear hK K
    refine wpAnyH_done (by kernel_rfl) ?_ _
    go_wp2_with fail
    go_meet
    exact ⟨B4, rfl, rfl, rfl, x4, hHeld⟩
  case rest =>
    obtain ⟨B4, rfl, rfl, rfl, x4, b9⟩ := hcut
    clear cl cm hltl hltm
    replace xa := xa.next b9
    replace xl := xl.next b9
    replace xm := xm.next b9
    replace bb := bb.trans (b9.mono bb.size)
    clear b9 xl xm
    go_wp2_with fail
    go_loopw [40] (fun i wr => ∃ j : Nat, j ≤ 4 ∧ i = .int .i64 j ∧ Box wr w.heap.size 23 #[.int .i64 c.cB, .int .i64 c.cBeam, .int .i64 c.cDepth, .int .i64 c.cWin, .int .i64 c.cQs, .int .i64 c.cQr, .int .i64 c.cBatch, .int .i64 c.cPass, .int .i64 c.cMsg, .int .i64 c.cSeqs] ∧ Box wr B4 3 #[.int .i64 1, .int .i64 16, .int .i64 0, .int .i64 17] ∧ Below w.heap.size w wr) (fun i _ => 4 - (intOf i).toNat)
    case atStart => exact ⟨0, by omega, rfl, xa, x4, bb⟩
    case round =>
      clear xa x4 bb
      obtain ⟨j, hj, rfl, xa, x4, bb⟩ := hrel
      have hj5 : j = 0 ∨ j = 1 ∨ j = 2 ∨ j = 3 ∨ j = 4 := by omega
      clear hj
      rcases hj5 with rfl | rfl | rfl | rfl | rfl
      · have cxa0 := xa.cell 0 _ rfl
        have cxa1 := xa.cell 1 _ rfl
        have cxa2 := xa.cell 2 _ rfl
        have cxa3 := xa.cell 3 _ rfl
        have cxa4 := xa.cell 4 _ rfl
        have cxa5 := xa.cell 5 _ rfl
        have cxa6 := xa.cell 6 _ rfl
        have cxa7 := xa.cell 7 _ rfl
        have cxa8 := xa.cell 8 _ rfl
        have cxa9 := xa.cell 9 _ rfl
        have c4 := x4.cell 0 _ rfl
        have hlt4 := x4.lt
        have hlta := xa.lt
        have b9 : Below wr.heap.size wr (wr.alloc (.cells #[.int .i64 c.cB, .int .i64 c.cBeam, .int .i64 c.cDepth, .int .i64 c.cWin, .int .i64 c.cQs, .int .i64 1, .int .i64 c.cBatch, .int .i64 c.cPass, .int .i64 c.cMsg, .int .i64 c.cSeqs] 23)) := (Below.refl _ _).alloc (Nat.le_refl _) _
        have xd := Box.new wr 23 #[.int .i64 c.cB, .int .i64 c.cBeam, .int .i64 c.cDepth, .int .i64 c.cWin, .int .i64 c.cQs, .int .i64 1, .int .i64 c.cBatch, .int .i64 c.cPass, .int .i64 c.cMsg, .int .i64 c.cSeqs]
        go_wp2_with fail
        replace xa := xa.next b9
        replace x4 := x4.next b9
        replace bb := bb.trans (b9.mono bb.size)
        clear b9 c4 hlt4 hlta cxa0 cxa1 cxa2 cxa3 cxa4 cxa5 cxa6 cxa7 cxa8 cxa9
        refine (K0.out _).mono ?_
        rintro e w21 ⟨rfl, b9⟩
        replace xa := xa.next b9
        replace x4 := x4.next b9
        replace xd := xd.next b9
        replace bb := bb.trans (b9.mono bb.size)
        clear b9
        have cxd0 := xd.cell 0 _ rfl
        have cxd1 := xd.cell 1 _ rfl
        have cxd2 := xd.cell 2 _ rfl
        have cxd3 := xd.cell 3 _ rfl
        have cxd4 := xd.cell 4 _ rfl
        have cxd5 := xd.cell 5 _ rfl
        have cxd6 := xd.cell 6 _ rfl
        have cxd7 := xd.cell 7 _ rfl
        have cxd8 := xd.cell 8 _ rfl
        have cxd9 := xd.cell 9 _ rfl
        go_wp2_with fail
        refine (G0.out _).mono ?_
        rintro e w22 ⟨rfl, b9⟩
        clear cxd0 cxd1 cxd2 cxd3 cxd4 cxd5 cxd6 cxd7 cxd8 cxd9
        replace xa := xa.next b9
        replace x4 := x4.next b9
        replace xd := xd.next b9
        replace bb := bb.trans (b9.mono bb.size)
        clear b9
        go_wp2
        go_roundw
        case rel => exact ⟨1, by omega, by go_num, xa, x4, bb⟩
        case measure => simp [intOf]
      · have cxa0 := xa.cell 0 _ rfl
        have cxa1 := xa.cell 1 _ rfl
        have cxa2 := xa.cell 2 _ rfl
        have cxa3 := xa.cell 3 _ rfl
        have cxa4 := xa.cell 4 _ rfl
        have cxa5 := xa.cell 5 _ rfl
        have cxa6 := xa.cell 6 _ rfl
        have cxa7 := xa.cell 7 _ rfl
        have cxa8 := xa.cell 8 _ rfl
        have cxa9 := xa.cell 9 _ rfl
        have c4 := x4.cell 1 _ rfl
        have hlt4 := x4.lt
        have hlta := xa.lt
        have b9 : Below wr.heap.size wr (wr.alloc (.cells #[.int .i64 c.cB, .int .i64 c.cBeam, .int .i64 c.cDepth, .int .i64 c.cWin, .int .i64 c.cQs, .int .i64 16, .int .i64 c.cBatch, .int .i64 c.cPass, .int .i64 c.cMsg, .int .i64 c.cSeqs] 23)) := (Below.refl _ _).alloc (Nat.le_refl _) _
        have xd := Box.new wr 23 #[.int .i64 c.cB, .int .i64 c.cBeam, .int .i64 c.cDepth, .int .i64 c.cWin, .int .i64 c.cQs, .int .i64 16, .int .i64 c.cBatch, .int .i64 c.cPass, .int .i64 c.cMsg, .int .i64 c.cSeqs]
        go_wp2_with fail
        replace xa := xa.next b9
        replace x4 := x4.next b9
        replace bb := bb.trans (b9.mono bb.size)
        clear b9 c4 hlt4 hlta cxa0 cxa1 cxa2 cxa3 cxa4 cxa5 cxa6 cxa7 cxa8 cxa9
        refine (K1.out _).mono ?_
        rintro e w21 ⟨rfl, b9⟩
        replace xa := xa.next b9
        replace x4 := x4.next b9
        replace xd := xd.next b9
        replace bb := bb.trans (b9.mono bb.size)
        clear b9
        have cxd0 := xd.cell 0 _ rfl
        have cxd1 := xd.cell 1 _ rfl
        have cxd2 := xd.cell 2 _ rfl
        have cxd3 := xd.cell 3 _ rfl
        have cxd4 := xd.cell 4 _ rfl
        have cxd5 := xd.cell 5 _ rfl
        have cxd6 := xd.cell 6 _ rfl
        have cxd7 := xd.cell 7 _ rfl
        have cxd8 := xd.cell 8 _ rfl
        have cxd9 := xd.cell 9 _ rfl
        go_wp2_with fail
        refine (G1.out _).mono ?_
        rintro e w22 ⟨rfl, b9⟩
        clear cxd0 cxd1 cxd2 cxd3 cxd4 cxd5 cxd6 cxd7 cxd8 cxd9
        replace xa := xa.next b9
        replace x4 := x4.next b9
        replace xd := xd.next b9
        replace bb := bb.trans (b9.mono bb.size)
        clear b9
        go_wp2
        go_roundw
        case rel => exact ⟨2, by omega, by go_num, xa, x4, bb⟩
        case measure => simp [intOf]
      · have cxa0 := xa.cell 0 _ rfl
        have cxa1 := xa.cell 1 _ rfl
        have cxa2 := xa.cell 2 _ rfl
        have cxa3 := xa.cell 3 _ rfl
        have cxa4 := xa.cell 4 _ rfl
        have cxa5 := xa.cell 5 _ rfl
        have cxa6 := xa.cell 6 _ rfl
        have cxa7 := xa.cell 7 _ rfl
        have cxa8 := xa.cell 8 _ rfl
        have cxa9 := xa.cell 9 _ rfl
        have c4 := x4.cell 2 _ rfl
        have hlt4 := x4.lt
        have hlta := xa.lt
        have b9 : Below wr.heap.size wr (wr.alloc (.cells #[.int .i64 c.cB, .int .i64 c.cBeam, .int .i64 c.cDepth, .int .i64 c.cWin, .int .i64 c.cQs, .int .i64 0, .int .i64 c.cBatch, .int .i64 c.cPass, .int .i64 c.cMsg, .int .i64 c.cSeqs] 23)) := (Below.refl _ _).alloc (Nat.le_refl _) _
        have xd := Box.new wr 23 #[.int .i64 c.cB, .int .i64 c.cBeam, .int .i64 c.cDepth, .int .i64 c.cWin, .int .i64 c.cQs, .int .i64 0, .int .i64 c.cBatch, .int .i64 c.cPass, .int .i64 c.cMsg, .int .i64 c.cSeqs]
        go_wp2_with fail
        replace xa := xa.next b9
        replace x4 := x4.next b9
        replace bb := bb.trans (b9.mono bb.size)
        clear b9 c4 hlt4 hlta cxa0 cxa1 cxa2 cxa3 cxa4 cxa5 cxa6 cxa7 cxa8 cxa9
        refine (K2.out _).mono ?_
        rintro e w21 ⟨rfl, b9⟩
        replace xa := xa.next b9
        replace x4 := x4.next b9
        replace xd := xd.next b9
        replace bb := bb.trans (b9.mono bb.size)
        clear b9
        have cxd0 := xd.cell 0 _ rfl
        have cxd1 := xd.cell 1 _ rfl
        have cxd2 := xd.cell 2 _ rfl
        have cxd3 := xd.cell 3 _ rfl
        have cxd4 := xd.cell 4 _ rfl
        have cxd5 := xd.cell 5 _ rfl
        have cxd6 := xd.cell 6 _ rfl
        have cxd7 := xd.cell 7 _ rfl
        have cxd8 := xd.cell 8 _ rfl
        have cxd9 := xd.cell 9 _ rfl
        go_wp2_with fail
        refine (K2.out _).mono ?_
        rintro e w22 ⟨rfl, b9⟩
        clear cxd0 cxd1 cxd2 cxd3 cxd4 cxd5 cxd6 cxd7 cxd8 cxd9
        replace xa := xa.next b9
        replace x4 := x4.next b9
        replace xd := xd.next b9
        replace bb := bb.trans (b9.mono bb.size)
        clear b9
        have cxd0 := xd.cell 0 _ rfl
        have cxd1 := xd.cell 1 _ rfl
        have cxd2 := xd.cell 2 _ rfl
        have cxd3 := xd.cell 3 _ rfl
        have cxd4 := xd.cell 4 _ rfl
        have cxd5 := xd.cell 5 _ rfl
        have cxd6 := xd.cell 6 _ rfl
        have cxd7 := xd.cell 7 _ rfl
        have cxd8 := xd.cell 8 _ rfl
        have cxd9 := xd.cell 9 _ rfl
        go_wp2_with fail
        refine (G2.out _).mono ?_
        rintro e w23 ⟨rfl, b9⟩
        clear cxd0 cxd1 cxd2 cxd3 cxd4 cxd5 cxd6 cxd7 cxd8 cxd9
        replace xa := xa.next b9
        replace x4 := x4.next b9
        replace xd := xd.next b9
        replace bb := bb.trans (b9.mono bb.size)
        clear b9
        have cxd0 := xd.cell 0 _ rfl
        have cxd1 := xd.cell 1 _ rfl
        have cxd2 := xd.cell 2 _ rfl
        have cxd3 := xd.cell 3 _ rfl
        have cxd4 := xd.cell 4 _ rfl
        have cxd5 := xd.cell 5 _ rfl
        have cxd6 := xd.cell 6 _ rfl
        have cxd7 := xd.cell 7 _ rfl
        have cxd8 := xd.cell 8 _ rfl
        have cxd9 := xd.cell 9 _ rfl
        go_wp2_with fail
        refine (T2.out _).mono ?_
        rintro e w24 ⟨rfl, b9⟩
        clear cxd0 cxd1 cxd2 cxd3 cxd4 cxd5 cxd6 cxd7 cxd8 cxd9
        replace xa := xa.next b9
        replace x4 := x4.next b9
        replace xd := xd.next b9
        replace bb := bb.trans (b9.mono bb.size)
        clear b9
        go_wp2
        go_roundw
        case rel => exact ⟨3, by omega, by go_num, xa, x4, bb⟩
        case measure => simp [intOf]
      · have cxa0 := xa.cell 0 _ rfl
        have cxa1 := xa.cell 1 _ rfl
        have cxa2 := xa.cell 2 _ rfl
        have cxa3 := xa.cell 3 _ rfl
        have cxa4 := xa.cell 4 _ rfl
        have cxa5 := xa.cell 5 _ rfl
        have cxa6 := xa.cell 6 _ rfl
        have cxa7 := xa.cell 7 _ rfl
        have cxa8 := xa.cell 8 _ rfl
        have cxa9 := xa.cell 9 _ rfl
        have c4 := x4.cell 3 _ rfl
        have hlt4 := x4.lt
        have hlta := xa.lt
        have b9 : Below wr.heap.size wr (wr.alloc (.cells #[.int .i64 c.cB, .int .i64 c.cBeam, .int .i64 c.cDepth, .int .i64 c.cWin, .int .i64 c.cQs, .int .i64 17, .int .i64 c.cBatch, .int .i64 c.cPass, .int .i64 c.cMsg, .int .i64 c.cSeqs] 23)) := (Below.refl _ _).alloc (Nat.le_refl _) _
        have xd := Box.new wr 23 #[.int .i64 c.cB, .int .i64 c.cBeam, .int .i64 c.cDepth, .int .i64 c.cWin, .int .i64 c.cQs, .int .i64 17, .int .i64 c.cBatch, .int .i64 c.cPass, .int .i64 c.cMsg, .int .i64 c.cSeqs]
        go_wp2_with fail
        replace xa := xa.next b9
        replace x4 := x4.next b9
        replace bb := bb.trans (b9.mono bb.size)
        clear b9 c4 hlt4 hlta cxa0 cxa1 cxa2 cxa3 cxa4 cxa5 cxa6 cxa7 cxa8 cxa9
        refine (K3.out _).mono ?_
        rintro e w21 ⟨rfl, b9⟩
        replace xa := xa.next b9
        replace x4 := x4.next b9
        replace xd := xd.next b9
        replace bb := bb.trans (b9.mono bb.size)
        clear b9
        have cxd0 := xd.cell 0 _ rfl
        have cxd1 := xd.cell 1 _ rfl
        have cxd2 := xd.cell 2 _ rfl
        have cxd3 := xd.cell 3 _ rfl
        have cxd4 := xd.cell 4 _ rfl
        have cxd5 := xd.cell 5 _ rfl
        have cxd6 := xd.cell 6 _ rfl
        have cxd7 := xd.cell 7 _ rfl
        have cxd8 := xd.cell 8 _ rfl
        have cxd9 := xd.cell 9 _ rfl
        go_wp2_with fail
        refine (K3.out _).mono ?_
        rintro e w22 ⟨rfl, b9⟩
        clear cxd0 cxd1 cxd2 cxd3 cxd4 cxd5 cxd6 cxd7 cxd8 cxd9
        replace xa := xa.next b9
        replace x4 := x4.next b9
        replace xd := xd.next b9
        replace bb := bb.trans (b9.mono bb.size)
        clear b9
        have cxd0 := xd.cell 0 _ rfl
        have cxd1 := xd.cell 1 _ rfl
        have cxd2 := xd.cell 2 _ rfl
        have cxd3 := xd.cell 3 _ rfl
        have cxd4 := xd.cell 4 _ rfl
        have cxd5 := xd.cell 5 _ rfl
        have cxd6 := xd.cell 6 _ rfl
        have cxd7 := xd.cell 7 _ rfl
        have cxd8 := xd.cell 8 _ rfl
        have cxd9 := xd.cell 9 _ rfl
        go_wp2_with fail
        refine (G3.out _).mono ?_
        rintro e w23 ⟨rfl, b9⟩
        clear cxd0 cxd1 cxd2 cxd3 cxd4 cxd5 cxd6 cxd7 cxd8 cxd9
        replace xa := xa.next b9
        replace x4 := x4.next b9
        replace xd := xd.next b9
        replace bb := bb.trans (b9.mono bb.size)
        clear b9
        have cxd0 := xd.cell 0 _ rfl
        have cxd1 := xd.cell 1 _ rfl
        have cxd2 := xd.cell 2 _ rfl
        have cxd3 := xd.cell 3 _ rfl
        have cxd4 := xd.cell 4 _ rfl
        have cxd5 := xd.cell 5 _ rfl
        have cxd6 := xd.cell 6 _ rfl
        have cxd7 := xd.cell 7 _ rfl
        have cxd8 := xd.cell 8 _ rfl
        have cxd9 := xd.cell 9 _ rfl
        go_wp2_with fail
        refine (T3.out _).mono ?_
        rintro e w24 ⟨rfl, b9⟩
        clear cxd0 cxd1 cxd2 cxd3 cxd4 cxd5 cxd6 cxd7 cxd8 cxd9
        replace xa := xa.next b9
        replace x4 := x4.next b9
        replace xd := xd.next b9
        replace bb := bb.trans (b9.mono bb.size)
        clear b9
        go_wp2
        go_roundw
        case rel => exact ⟨4, by omega, by go_num, xa, x4, bb⟩
        case measure => simp [intOf]
      · have cxa0 := xa.cell 0 _ rfl
        have cxa1 := xa.cell 1 _ rfl
        have cxa2 := xa.cell 2 _ rfl
        have cxa3 := xa.cell 3 _ rfl
        have cxa4 := xa.cell 4 _ rfl
        have cxa5 := xa.cell 5 _ rfl
        have cxa6 := xa.cell 6 _ rfl
        have cxa7 := xa.cell 7 _ rfl
        have cxa8 := xa.cell 8 _ rfl
        have cxa9 := xa.cell 9 _ rfl
        go_wp2_with fail
        refine (KC.out _).mono ?_
        rintro e w21 ⟨rfl, b9⟩
        clear cxa0 cxa1 cxa2 cxa3 cxa4 cxa5 cxa6 cxa7 cxa8 cxa9
        replace xa := xa.next b9
        replace bb := bb.trans (b9.mono bb.size)
        clear b9
        have HWK := confWakes_any w21
        go_wp2_with (go_at_call 13; refine HWK.mono ?_; rintro e w99 ⟨rfl, b99⟩)
        go_ret
        exact ⟨rfl, bb.trans (b99.mono bb.size)⟩

end Go.Proofs.Ytnhmdhbemlpjnaa
