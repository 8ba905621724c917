/-
  ConfEnds: the walk: whatever the configuration and the number, the law answers true, and nothing that lay has turned. (Written by tpl_confends.py.)
-/
import Derived.Test.YtnhmdhbemlpjnaaConfWakes
import Derived.Deep.Cut
import Derived.Deep.CutRange
import Derived.Deep.DeepCutAuto
namespace Go.Proofs.Ytnhmdhbemlpjnaa
open Go.RowKit

set_option maxRecDepth 100000 in
set_option maxHeartbeats 4000000 in
theorem confEnds_6 (c : Cfg) (x : Int) (hA : okC c = true) (ek : (IntKind.u64.wrap x).tmod 10 = 6) (w : World) :
    Calls Try.prog 5 #[.agg #[.int .i64 c.cB, .int .i64 c.cBeam, .int .i64 c.cDepth, .int .i64 c.cWin, .int .i64 c.cQs, .int .i64 c.cQr, .int .i64 c.cBatch, .int .i64 c.cPass, .int .i64 c.cMsg, .int .i64 c.cSeqs], .int .i64 x] w fun e w' => e = .returned (.bool true) ∧ Below w.heap.size w w' := by
  have bb : Below w.heap.size w (w.alloc (.cells #[.int .i64 c.cB, .int .i64 c.cBeam, .int .i64 c.cDepth, .int .i64 c.cWin, .int .i64 c.cQs, .int .i64 c.cQr, .int .i64 c.cBatch, .int .i64 c.cPass, .int .i64 c.cMsg, .int .i64 c.cSeqs] 23)) := (Below.refl w.heap.size w).alloc (Nat.le_refl _) _
  have xa := Box.new w 23 #[.int .i64 c.cB, .int .i64 c.cBeam, .int .i64 c.cDepth, .int .i64 c.cWin, .int .i64 c.cQs, .int .i64 c.cQr, .int .i64 c.cBatch, .int .i64 c.cPass, .int .i64 c.cMsg, .int .i64 c.cSeqs]
  have hI := (okC_iff c).1 hA
  have o0 : okC (Cfg.mk c.cB c.cBeam c.cDepth c.cWin c.cQs c.cQr 1 c.cPass c.cMsg c.cSeqs) = true := (okC_iff _).2 (by dsimp only; omega)
  obtain ⟨S0, hS0⟩ : ∃ v, segsC (Cfg.mk c.cB c.cBeam c.cDepth c.cWin c.cQs c.cQr 1 c.cPass c.cMsg c.cSeqs) = v := ⟨_, rfl⟩
  have b0_ := (segsC_bd o0).1
  rw [hS0] at b0_
  have dS0 : decide (S0 < 22) = false := decide_eq_false (by omega)
  have K0 : Hid (∀ wx : World, Calls Try.prog 7 #[.agg #[.int .i64 c.cB, .int .i64 c.cBeam, .int .i64 c.cDepth, .int .i64 c.cWin, .int .i64 c.cQs, .int .i64 c.cQr, .int .i64 1, .int .i64 c.cPass, .int .i64 c.cMsg, .int .i64 c.cSeqs]] wx fun e w' => e = .returned (.int .i64 0) ∧ Below wx.heap.size wx w') := fun wx => by
    have := ConfCheck_any (Cfg.mk c.cB c.cBeam c.cDepth c.cWin c.cQs c.cQr 1 c.cPass c.cMsg c.cSeqs) wx
    rw [show checkA (Cfg.mk c.cB c.cBeam c.cDepth c.cWin c.cQs c.cQr 1 c.cPass c.cMsg c.cSeqs) = 0 from (if_pos o0)] at this
    exact this
  have G0 : Hid (∀ wx : World, Calls Try.prog 8 #[.agg #[.int .i64 c.cB, .int .i64 c.cBeam, .int .i64 c.cDepth, .int .i64 c.cWin, .int .i64 c.cQs, .int .i64 c.cQr, .int .i64 1, .int .i64 c.cPass, .int .i64 c.cMsg, .int .i64 c.cSeqs]] wx fun e w' => e = .returned (.int .i64 S0) ∧ Below wx.heap.size wx w') := fun wx => by
    have := ConfSegs_any (Cfg.mk c.cB c.cBeam c.cDepth c.cWin c.cQs c.cQr 1 c.cPass c.cMsg c.cSeqs) wx
    rw [show segsA (Cfg.mk c.cB c.cBeam c.cDepth c.cWin c.cQs c.cQr 1 c.cPass c.cMsg c.cSeqs) = S0 from (if_pos o0).trans hS0] at this
    exact this
  have o1 : okC (Cfg.mk c.cB c.cBeam c.cDepth c.cWin c.cQs c.cQr 64 c.cPass c.cMsg c.cSeqs) = true := (okC_iff _).2 (by dsimp only; omega)
  obtain ⟨S1, hS1⟩ : ∃ v, segsC (Cfg.mk c.cB c.cBeam c.cDepth c.cWin c.cQs c.cQr 64 c.cPass c.cMsg c.cSeqs) = v := ⟨_, rfl⟩
  have b1_ := (segsC_bd o1).1
  rw [hS1] at b1_
  have dS1 : decide (S1 < 22) = false := decide_eq_false (by omega)
  have K1 : Hid (∀ wx : World, Calls Try.prog 7 #[.agg #[.int .i64 c.cB, .int .i64 c.cBeam, .int .i64 c.cDepth, .int .i64 c.cWin, .int .i64 c.cQs, .int .i64 c.cQr, .int .i64 64, .int .i64 c.cPass, .int .i64 c.cMsg, .int .i64 c.cSeqs]] wx fun e w' => e = .returned (.int .i64 0) ∧ Below wx.heap.size wx w') := fun wx => by
    have := ConfCheck_any (Cfg.mk c.cB c.cBeam c.cDepth c.cWin c.cQs c.cQr 64 c.cPass c.cMsg c.cSeqs) wx
    rw [show checkA (Cfg.mk c.cB c.cBeam c.cDepth c.cWin c.cQs c.cQr 64 c.cPass c.cMsg c.cSeqs) = 0 from (if_pos o1)] at this
    exact this
  have G1 : Hid (∀ wx : World, Calls Try.prog 8 #[.agg #[.int .i64 c.cB, .int .i64 c.cBeam, .int .i64 c.cDepth, .int .i64 c.cWin, .int .i64 c.cQs, .int .i64 c.cQr, .int .i64 64, .int .i64 c.cPass, .int .i64 c.cMsg, .int .i64 c.cSeqs]] wx fun e w' => e = .returned (.int .i64 S1) ∧ Below wx.heap.size wx w') := fun wx => by
    have := ConfSegs_any (Cfg.mk c.cB c.cBeam c.cDepth c.cWin c.cQs c.cQr 64 c.cPass c.cMsg c.cSeqs) wx
    rw [show segsA (Cfg.mk c.cB c.cBeam c.cDepth c.cWin c.cQs c.cQr 64 c.cPass c.cMsg c.cSeqs) = S1 from (if_pos o1).trans hS1] at this
    exact this
  have o2 : okC (Cfg.mk c.cB c.cBeam c.cDepth c.cWin c.cQs c.cQr 0 c.cPass c.cMsg c.cSeqs) = false := by
    rw [← Bool.not_eq_true, okC_iff]
    dsimp only
    omega
  have K2 : Hid (∀ wx : World, Calls Try.prog 7 #[.agg #[.int .i64 c.cB, .int .i64 c.cBeam, .int .i64 c.cDepth, .int .i64 c.cWin, .int .i64 c.cQs, .int .i64 c.cQr, .int .i64 0, .int .i64 c.cPass, .int .i64 c.cMsg, .int .i64 c.cSeqs]] wx fun e w' => e = .returned (.int .i64 1) ∧ Below wx.heap.size wx w') := fun wx => by
    have := ConfCheck_any (Cfg.mk c.cB c.cBeam c.cDepth c.cWin c.cQs c.cQr 0 c.cPass c.cMsg c.cSeqs) wx
    rw [show checkA (Cfg.mk c.cB c.cBeam c.cDepth c.cWin c.cQs c.cQr 0 c.cPass c.cMsg c.cSeqs) = 1 from (if_neg (by rw [o2]; decide))] at this
    exact this
  have G2 : Hid (∀ wx : World, Calls Try.prog 8 #[.agg #[.int .i64 c.cB, .int .i64 c.cBeam, .int .i64 c.cDepth, .int .i64 c.cWin, .int .i64 c.cQs, .int .i64 c.cQr, .int .i64 0, .int .i64 c.cPass, .int .i64 c.cMsg, .int .i64 c.cSeqs]] wx fun e w' => e = .returned (.int .i64 0) ∧ Below wx.heap.size wx w') := fun wx => by
    have := ConfSegs_any (Cfg.mk c.cB c.cBeam c.cDepth c.cWin c.cQs c.cQr 0 c.cPass c.cMsg c.cSeqs) wx
    rw [show segsA (Cfg.mk c.cB c.cBeam c.cDepth c.cWin c.cQs c.cQr 0 c.cPass c.cMsg c.cSeqs) = 0 from (if_neg (by rw [o2]; decide))] at this
    exact this
  have T2 : Hid (∀ wx : World, Calls Try.prog 11 #[.agg #[.int .i64 c.cB, .int .i64 c.cBeam, .int .i64 c.cDepth, .int .i64 c.cWin, .int .i64 c.cQs, .int .i64 c.cQr, .int .i64 0, .int .i64 c.cPass, .int .i64 c.cMsg, .int .i64 c.cSeqs]] wx fun e w' => e = .returned (.int .i64 0) ∧ Below wx.heap.size wx w') := fun wx => by
    have := ConfTicks_any (Cfg.mk c.cB c.cBeam c.cDepth c.cWin c.cQs c.cQr 0 c.cPass c.cMsg c.cSeqs) wx
    rw [show ticksA (Cfg.mk c.cB c.cBeam c.cDepth c.cWin c.cQs c.cQr 0 c.cPass c.cMsg c.cSeqs) = 0 from (if_neg (by rw [o2]; decide))] at this
    exact this
  have o3 : okC (Cfg.mk c.cB c.cBeam c.cDepth c.cWin c.cQs c.cQr 65 c.cPass c.cMsg c.cSeqs) = false := by
    rw [← Bool.not_eq_true, okC_iff]
    dsimp only
    omega
  have K3 : Hid (∀ wx : World, Calls Try.prog 7 #[.agg #[.int .i64 c.cB, .int .i64 c.cBeam, .int .i64 c.cDepth, .int .i64 c.cWin, .int .i64 c.cQs, .int .i64 c.cQr, .int .i64 65, .int .i64 c.cPass, .int .i64 c.cMsg, .int .i64 c.cSeqs]] wx fun e w' => e = .returned (.int .i64 1) ∧ Below wx.heap.size wx w') := fun wx => by
    have := ConfCheck_any (Cfg.mk c.cB c.cBeam c.cDepth c.cWin c.cQs c.cQr 65 c.cPass c.cMsg c.cSeqs) wx
    rw [show checkA (Cfg.mk c.cB c.cBeam c.cDepth c.cWin c.cQs c.cQr 65 c.cPass c.cMsg c.cSeqs) = 1 from (if_neg (by rw [o3]; decide))] at this
    exact this
  have G3 : Hid (∀ wx : World, Calls Try.prog 8 #[.agg #[.int .i64 c.cB, .int .i64 c.cBeam, .int .i64 c.cDepth, .int .i64 c.cWin, .int .i64 c.cQs, .int .i64 c.cQr, .int .i64 65, .int .i64 c.cPass, .int .i64 c.cMsg, .int .i64 c.cSeqs]] wx fun e w' => e = .returned (.int .i64 0) ∧ Below wx.heap.size wx w') := fun wx => by
    have := ConfSegs_any (Cfg.mk c.cB c.cBeam c.cDepth c.cWin c.cQs c.cQr 65 c.cPass c.cMsg c.cSeqs) wx
    rw [show segsA (Cfg.mk c.cB c.cBeam c.cDepth c.cWin c.cQs c.cQr 65 c.cPass c.cMsg c.cSeqs) = 0 from (if_neg (by rw [o3]; decide))] at this
    exact this
  have T3 : Hid (∀ wx : World, Calls Try.prog 11 #[.agg #[.int .i64 c.cB, .int .i64 c.cBeam, .int .i64 c.cDepth, .int .i64 c.cWin, .int .i64 c.cQs, .int .i64 c.cQr, .int .i64 65, .int .i64 c.cPass, .int .i64 c.cMsg, .int .i64 c.cSeqs]] wx fun e w' => e = .returned (.int .i64 0) ∧ Below wx.heap.size wx w') := fun wx => by
    have := ConfTicks_any (Cfg.mk c.cB c.cBeam c.cDepth c.cWin c.cQs c.cQr 65 c.cPass c.cMsg c.cSeqs) wx
    rw [show ticksA (Cfg.mk c.cB c.cBeam c.cDepth c.cWin c.cQs c.cQr 65 c.cPass c.cMsg c.cSeqs) = 0 from (if_neg (by rw [o3]; decide))] at this
    exact this
  have KC : Hid (∀ wx : World, Calls Try.prog 7 #[.agg #[.int .i64 c.cB, .int .i64 c.cBeam, .int .i64 c.cDepth, .int .i64 c.cWin, .int .i64 c.cQs, .int .i64 c.cQr, .int .i64 c.cBatch, .int .i64 c.cPass, .int .i64 c.cMsg, .int .i64 c.cSeqs]] wx fun e w' => e = .returned (.int .i64 0) ∧ Below wx.heap.size wx w') := fun wx => by
    have := ConfCheck_any c wx
    rw [show checkA c = 0 from (if_pos hA)] at this
    exact this
  have HC := refConfig_any c (w.alloc (.cells #[.int .i64 c.cB, .int .i64 c.cBeam, .int .i64 c.cDepth, .int .i64 c.cWin, .int .i64 c.cQs, .int .i64 c.cQr, .int .i64 c.cBatch, .int .i64 c.cPass, .int .i64 c.cMsg, .int .i64 c.cSeqs] 23))
  rw [hA] at HC
  clear hI hA o0 o1 o2 o3 hS0 b0_ hS1 b1_
  go_enter Try.func5, Try.ntmps5
  have cxa0 := xa.cell 0 _ rfl
  have cxa1 := xa.cell 1 _ rfl
  have cxa2 := xa.cell 2 _ rfl
  have cxa3 := xa.cell 3 _ rfl
  have cxa4 := xa.cell 4 _ rfl
  have cxa5 := xa.cell 5 _ rfl
  have cxa6 := xa.cell 6 _ rfl
  have cxa7 := xa.cell 7 _ rfl
  have cxa8 := xa.cell 8 _ rfl
  have cxa9 := xa.cell 9 _ rfl
  go_wp2_with fail
  refine (HC).mono ?_
  rintro e w1 ⟨rfl, b9⟩
  clear cxa0 cxa1 cxa2 cxa3 cxa4 cxa5 cxa6 cxa7 cxa8 cxa9
  replace xa := xa.next b9
  replace bb := bb.trans (b9.mono bb.size)
  clear b9
  clear HC
  have b9 : Below w1.heap.size w1 ((w1.alloc (.cells #[.int .i64 1, .int .i64 1, .int .i64 1, .int .i64 1, .int .i64 1, .int .i64 1, .int .i64 1, .int .i64 4, .int .i64 0, .int .i64 0] 3)).alloc (.cells #[.int .i64 16, .int .i64 16, .int .i64 3, .int .i64 16, .int .i64 16, .int .i64 16, .int .i64 64, .int .i64 16, .int .i64 200, .int .i64 1073741824] 3)) := ((Below.refl _ _).alloc (Nat.le_refl _) _).alloc (by simp) _
  have xl : Box ((w1.alloc (.cells #[.int .i64 1, .int .i64 1, .int .i64 1, .int .i64 1, .int .i64 1, .int .i64 1, .int .i64 1, .int .i64 4, .int .i64 0, .int .i64 0] 3)).alloc (.cells #[.int .i64 16, .int .i64 16, .int .i64 3, .int .i64 16, .int .i64 16, .int .i64 16, .int .i64 64, .int .i64 16, .int .i64 200, .int .i64 1073741824] 3)) w1.heap.size 3 #[.int .i64 1, .int .i64 1, .int .i64 1, .int .i64 1, .int .i64 1, .int .i64 1, .int .i64 1, .int .i64 4, .int .i64 0, .int .i64 0] := (Box.new w1 _ _).alloc _
  have xm : Box ((w1.alloc (.cells #[.int .i64 1, .int .i64 1, .int .i64 1, .int .i64 1, .int .i64 1, .int .i64 1, .int .i64 1, .int .i64 4, .int .i64 0, .int .i64 0] 3)).alloc (.cells #[.int .i64 16, .int .i64 16, .int .i64 3, .int .i64 16, .int .i64 16, .int .i64 16, .int .i64 64, .int .i64 16, .int .i64 200, .int .i64 1073741824] 3)) (w1.heap.size + 1) 3 #[.int .i64 16, .int .i64 16, .int .i64 3, .int .i64 16, .int .i64 16, .int .i64 16, .int .i64 64, .int .i64 16, .int .i64 200, .int .i64 1073741824] := by
    have := Box.new (w1.alloc (.cells #[.int .i64 1, .int .i64 1, .int .i64 1, .int .i64 1, .int .i64 1, .int .i64 1, .int .i64 1, .int .i64 4, .int .i64 0, .int .i64 0] 3)) 3 #[.int .i64 16, .int .i64 16, .int .i64 3, .int .i64 16, .int .i64 16, .int .i64 16, .int .i64 64, .int .i64 16, .int .i64 200, .int .i64 1073741824]
    simpa using this
  replace xa := xa.next b9
  replace bb := bb.trans (b9.mono bb.size)
  clear b9
  go_wp2
  generalize ((w1.alloc (.cells #[.int .i64 1, .int .i64 1, .int .i64 1, .int .i64 1, .int .i64 1, .int .i64 1, .int .i64 1, .int .i64 4, .int .i64 0, .int .i64 0] 3)).alloc (.cells #[.int .i64 16, .int .i64 16, .int .i64 3, .int .i64 16, .int .i64 16, .int .i64 16, .int .i64 64, .int .i64 16, .int .i64 200, .int .i64 1073741824] 3)) = w2 at *
  have wv2 : IntKind.i64.wrap (0) = 0 := by rw [IntKind.wrap_i64]; decide
  have wv3 : IntKind.i64.wrap (65) = 65 := by rw [IntKind.wrap_i64]; decide
  have hltl := xl.lt
  have hltm := xm.lt
  have cl := xl.cell 6 _ rfl
  have cm := xm.cell 6 _ rfl
  skip
  go_cut [38, 39, 40] (fun s l i wx => ∃ B4, s = .slice (some ⟨B4, 0, none⟩) 4 4 ∧ l = .int .i64 4 ∧ i = .int .i64 0 ∧ Box wx B4 3 #[.int .i64 1, .int .i64 64, .int .i64 0, .int .i64 65] ∧ Below w2.heap.size w2 wx)
  case first =>
    refine wp_region_held_drew (S := fun w' => Below w2.heap.size w2 w') (by kernel_rfl) ((Below.refl _ _).drew) (fun hHeld => ?_)
    generalize w2.drew = wk0 at *
    refine held_take (i := 0) (d := 20) (v := ?v115) rfl rfl (by kernel_rfl) (by kernel_rfl) (by kernel_rfl) (fun _ _ _ h => h) (Or.inl ⟨by kernel_rfl, ?hy115⟩) hHeld ?rest115
    case hy115 =>
      intro wx hSw
      clear hSw
      go_simp
      with_reducible rfl
    simp only [List.setIfInBounds_toArray, List.set_cons_zero, List.set_cons_succ]
    refine held_take (i := 1) (d := 21) (v := ?v116) rfl rfl (by kernel_rfl) (by kernel_rfl) (by kernel_rfl) (fun _ _ _ h => h) (Or.inl ⟨by kernel_rfl, ?hy116⟩) hHeld ?rest116
    case hy116 =>
      intro wx hSw
      clear hSw
      go_simp
      with_reducible rfl
    simp only [List.setIfInBounds_toArray, List.set_cons_zero, List.set_cons_succ]
    refine held_take (i := 2) (d := 22) (v := ?v117) rfl rfl (by kernel_rfl) (by kernel_rfl) (by kernel_rfl) (fun _ _ _ h => h) (Or.inl ⟨by kernel_rfl, ?hy117⟩) hHeld ?rest117
    case hy117 =>
      intro wx hSw
      clear hSw
      go_simp
      with_reducible rfl
    simp only [List.setIfInBounds_toArray, List.set_cons_zero, List.set_cons_succ]
    refine held_take (i := 3) (d := 23) (v := ?v118) rfl rfl (by kernel_rfl) (by kernel_rfl) (by kernel_rfl) (fun _ _ _ h => h) (Or.inl ⟨by kernel_rfl, ?hy118⟩) hHeld ?rest118
    case hy118 =>
      intro wx hSw
      have q0 := (hSw.cell (p := ⟨w1.heap.size, 6, none⟩) hltl).trans cl
      clear hSw
      go_simp
      with_reducible rfl
    simp only [List.setIfInBounds_toArray, List.set_cons_zero, List.set_cons_succ]
    refine held_take (i := 4) (d := 24) (v := ?v119) rfl rfl (by kernel_rfl) (by kernel_rfl) (by kernel_rfl) (fun _ _ _ h => h) (Or.inl ⟨by kernel_rfl, ?hy119⟩) hHeld ?rest119
    case hy119 =>
      intro wx hSw
      clear hSw
      go_simp
      with_reducible rfl
    simp only [List.setIfInBounds_toArray, List.set_cons_zero, List.set_cons_succ]
    refine held_take (i := 5) (d := 25) (v := ?v120) rfl rfl (by kernel_rfl) (by kernel_rfl) (by kernel_rfl) (fun _ _ _ h => h) (Or.inl ⟨by kernel_rfl, ?hy120⟩) hHeld ?rest120
    case hy120 =>
      intro wx hSw
      clear hSw
      go_simp
      with_reducible rfl
    simp only [List.setIfInBounds_toArray, List.set_cons_zero, List.set_cons_succ]
    refine held_take (i := 6) (d := 26) (v := ?v121) rfl rfl (by kernel_rfl) (by kernel_rfl) (by kernel_rfl) (fun _ _ _ h => h) (Or.inl ⟨by kernel_rfl, ?hy121⟩) hHeld ?rest121
    case hy121 =>
      intro wx hSw
      clear hSw
      go_simp
      with_reducible rfl
    simp only [List.setIfInBounds_toArray, List.set_cons_zero, List.set_cons_succ]
    refine held_take (i := 7) (d := 27) (v := ?v122) rfl rfl (by kernel_rfl) (by kernel_rfl) (by kernel_rfl) (fun _ _ _ h => h) (Or.inl ⟨by kernel_rfl, ?hy122⟩) hHeld ?rest122
    case hy122 =>
      intro wx hSw
      have q0 := (hSw.cell (p := ⟨w1.heap.size + 1, 6, none⟩) hltm).trans cm
      clear hSw
      go_simp
      with_reducible rfl
    simp only [List.setIfInBounds_toArray, List.set_cons_zero, List.set_cons_succ]
    refine held_take (i := 8) (d := 28) (v := ?v123) rfl rfl (by kernel_rfl) (by kernel_rfl) (by kernel_rfl) (fun _ _ _ h => h) (Or.inl ⟨by kernel_rfl, ?hy123⟩) hHeld ?rest123
    case hy123 =>
      intro wx hSw
      clear hSw
      go_simp
      with_reducible rfl
    simp only [List.setIfInBounds_toArray, List.set_cons_zero, List.set_cons_succ]
    refine held_take (i := 9) (d := 29) (v := ?v124) rfl rfl (by kernel_rfl) (by kernel_rfl) (by kernel_rfl) (fun _ _ _ h => h) (Or.inl ⟨by kernel_rfl, ?hy124⟩) hHeld ?rest124
    case hy124 =>
      intro wx hSw
      clear hSw
      go_simp
      with_reducible rfl
    simp only [List.setIfInBounds_toArray, List.set_cons_zero, List.set_cons_succ]
    refine held_take (i := 10) (d := 30) (v := ?v125) rfl rfl (by kernel_rfl) (by kernel_rfl) (by kernel_rfl) (fun _ _ _ h => h) (Or.inl ⟨by kernel_rfl, ?hy125⟩) hHeld ?rest125
    case hy125 =>
      intro wx hSw
      clear hSw
      go_simp
      with_reducible rfl
    simp only [List.setIfInBounds_toArray, List.set_cons_zero, List.set_cons_succ]
    refine held_take (i := 11) (d := 31) (v := ?v126) rfl rfl (by kernel_rfl) (by kernel_rfl) (by kernel_rfl) (fun _ _ _ h => h) (Or.inl ⟨by kernel_rfl, ?hy126⟩) hHeld ?rest126
    case hy126 =>
      intro wx hSw
      have q0 := (hSw.cell (p := ⟨w1.heap.size, 6, none⟩) hltl).trans cl
      clear hSw
      go_simp
      with_reducible rfl
    simp only [List.setIfInBounds_toArray, List.set_cons_zero, List.set_cons_succ]
    refine held_take (i := 12) (d := 32) (v := ?v127) rfl rfl (by kernel_rfl) (by kernel_rfl) (by kernel_rfl) (fun _ _ _ h => h) (Or.inl ⟨by kernel_rfl, ?hy127⟩) hHeld ?rest127
    case hy127 =>
      intro wx hSw
      clear hSw
      go_simp
      with_reducible rfl
    simp only [List.setIfInBounds_toArray, List.set_cons_zero, List.set_cons_succ]
    refine held_take (i := 13) (d := 33) (v := ?v128) rfl rfl (by kernel_rfl) (by kernel_rfl) (by kernel_rfl) (fun _ _ _ h => h) (Or.inl ⟨by kernel_rfl, ?hy128⟩) hHeld ?rest128
    case hy128 =>
      intro wx hSw
      clear hSw
      go_simp
      with_reducible rfl
    simp only [List.setIfInBounds_toArray, List.set_cons_zero, List.set_cons_succ]
    refine held_take (i := 14) (d := 34) (v := ?v129) rfl rfl (by kernel_rfl) (by kernel_rfl) (by kernel_rfl) (fun _ _ _ h => h) (Or.inl ⟨by kernel_rfl, ?hy129⟩) hHeld ?rest129
    case hy129 =>
      intro wx hSw
      clear hSw
      go_simp
      with_reducible rfl
    simp only [List.setIfInBounds_toArray, List.set_cons_zero, List.set_cons_succ]
    refine held_take (i := 15) (d := 35) (v := ?v130) rfl rfl (by kernel_rfl) (by kernel_rfl) (by kernel_rfl) (fun _ _ _ h => h) (Or.inl ⟨by kernel_rfl, ?hy130⟩) hHeld ?rest130
    case hy130 =>
      intro wx hSw
      clear hSw
      go_simp
      with_reducible rfl
    simp only [List.setIfInBounds_toArray, List.set_cons_zero, List.set_cons_succ]
    refine held_take (i := 16) (d := 36) (v := ?v131) rfl rfl (by kernel_rfl) (by kernel_rfl) (by kernel_rfl) (fun _ _ _ h => h) (Or.inl ⟨by kernel_rfl, ?hy131⟩) hHeld ?rest131
    case hy131 =>
      intro wx hSw
      have q0 := (hSw.cell (p := ⟨w1.heap.size + 1, 6, none⟩) hltm).trans cm
      clear hSw
      go_simp
      with_reducible rfl
    simp only [List.setIfInBounds_toArray, List.set_cons_zero, List.set_cons_succ]
    refine held_take (i := 17) (d := 37) (v := ?v132) rfl rfl (by kernel_rfl) (by kernel_rfl) (by kernel_rfl) (fun _ _ _ h => h) (Or.inl ⟨by kernel_rfl, ?hy132⟩) hHeld ?rest132
    case hy132 =>
      intro wx hSw
      clear hSw
      go_simp
      with_reducible rfl
    simp only [List.setIfInBounds_toArray, List.set_cons_zero, List.set_cons_succ]
    refine held_take (i := 20) (d := 40) (v := ?v133) rfl rfl (by kernel_rfl) (by kernel_rfl) (by kernel_rfl) (fun _ _ _ h => h) (Or.inl ⟨by kernel_rfl, ?hy133⟩) hHeld ?rest133
    case hy133 =>
      intro wx hSw
      clear hSw
      go_simp
      with_reducible rfl
    simp only [List.setIfInBounds_toArray, List.set_cons_zero, List.set_cons_succ]
    refine wpAnyH_ready (rs := [18]) (by kernel_rfl) (by simp) ?_
    refine AllReadyH.cons rfl (fun K hK => ?_) AllReadyH.nil
    go_simp
    obtain ⟨B4, hB4⟩ : ∃ n, wk0.heap.size = n := ⟨_, rfl⟩
    have x4 := Box.new wk0 3 #[.int .i64 1, .int .i64 64, .int .i64 0, .int .i64 65]
    rw [hB4] at x4 ⊢
    have hS4 := hHeld.alloc hHeld.size (.cells #[.int .i64 1, .int .i64 64, .int .i64 0, .int .i64 65] 3)
    generalize wk0.alloc (.cells #[.int .i64 1, .int .i64 64, .int .i64 0, .int .i64 65] 3) = wk1 at *
    refine hK.out _ _ (hS4) (fun hHeld => ?_)
    clear hK K
    refine wpAnyH_ready (rs := [19]) (by kernel_rfl) (by simp) ?_
    refine AllReadyH.cons rfl (fun K hK => ?_) AllReadyH.nil
    go_simp
    refine hK.out _ _ hHeld (fun hHeld => ?_)
    clear hK K
    refine wpAnyH_done (by kernel_rfl) ?_ _
    go_wp2_with fail
    go_meet
    exact ⟨B4, rfl, rfl, rfl, x4, hHeld⟩
  case rest =>
    obtain ⟨B4, rfl, rfl, rfl, x4, b9⟩ := hcut
    clear cl cm hltl hltm
    replace xa := xa.next b9
    replace xl := xl.next b9
    replace xm := xm.next b9
    replace bb := bb.trans (b9.mono bb.size)
    clear b9 xl xm
    go_wp2_with fail
    go_loopw [40] (fun i wr => ∃ j : Nat, j ≤ 4 ∧ i = .int .i64 j ∧ Box wr w.heap.size 23 #[.int .i64 c.cB, .int .i64 c.cBeam, .int .i64 c.cDepth, .int .i64 c.cWin, .int .i64 c.cQs, .int .i64 c.cQr, .int .i64 c.cBatch, .int .i64 c.cPass, .int .i64 c.cMsg, .int .i64 c.cSeqs] ∧ Box wr B4 3 #[.int .i64 1, .int .i64 64, .int .i64 0, .int .i64 65] ∧ Below w.heap.size w wr) (fun i _ => 4 - (intOf i).toNat)
    case atStart => exact ⟨0, by omega, rfl, xa, x4, bb⟩
    case round =>
      clear xa x4 bb
      obtain ⟨j, hj, rfl, xa, x4, bb⟩ := hrel
      have hj5 : j = 0 ∨ j = 1 ∨ j = 2 ∨ j = 3 ∨ j = 4 := by omega
      clear hj
      rcases hj5 with rfl | rfl | rfl | rfl | rfl
      · have cxa0 := xa.cell 0 _ rfl
        have cxa1 := xa.cell 1 _ rfl
        have cxa2 := xa.cell 2 _ rfl
        have cxa3 := xa.cell 3 _ rfl
        have cxa4 := xa.cell 4 _ rfl
        have cxa5 := xa.cell 5 _ rfl
        have cxa6 := xa.cell 6 _ rfl
        have cxa7 := xa.cell 7 _ rfl
        have cxa8 := xa.cell 8 _ rfl
        have cxa9 := xa.cell 9 _ rfl
        have c4 := x4.cell 0 _ rfl
        have hlt4 := x4.lt
        have hlta := xa.lt
        have b9 : Below wr.heap.size wr (wr.alloc (.cells #[.int .i64 c.cB, .int .i64 c.cBeam, .int .i64 c.cDepth, .int .i64 c.cWin, .int .i64 c.cQs, .int .i64 c.cQr, .int .i64 1, .int .i64 c.cPass, .int .i64 c.cMsg, .int .i64 c.cSeqs] 23)) := (Below.refl _ _).alloc (Nat.le_refl _) _
        have xd := Box.new wr 23 #[.int .i64 c.cB, .int .i64 c.cBeam, .int .i64 c.cDepth, .int .i64 c.cWin, .int .i64 c.cQs, .int .i64 c.cQr, .int .i64 1, .int .i64 c.cPass, .int .i64 c.cMsg, .int .i64 c.cSeqs]
        go_wp2_with fail
        replace xa := xa.next b9
        replace x4 := x4.next b9
        replace bb := bb.trans (b9.mono bb.size)
        clear b9 c4 hlt4 hlta cxa0 cxa1 cxa2 cxa3 cxa4 cxa5 cxa6 cxa7 cxa8 cxa9
        refine (K0.out _).mono ?_
        rintro e w21 ⟨rfl, b9⟩
        replace xa := xa.next b9
        replace x4 := x4.next b9
        replace xd := xd.next b9
        replace bb := bb.trans (b9.mono bb.size)
        clear b9
        have cxd0 := xd.cell 0 _ rfl
        have cxd1 := xd.cell 1 _ rfl
        have cxd2 := xd.cell 2 _ rfl
        have cxd3 := xd.cell 3 _ rfl
        have cxd4 := xd.cell 4 _ rfl
        have cxd5 := xd.cell 5 _ rfl
        have cxd6 := xd.cell 6 _ rfl
        have cxd7 := xd.cell 7 _ rfl
        have cxd8 := xd.cell 8 _ rfl
        have cxd9 := xd.cell 9 _ rfl
        go_wp2_with fail
        refine (G0.out _).mono ?_
        rintro e w22 ⟨rfl, b9⟩
        clear cxd0 cxd1 cxd2 cxd3 cxd4 cxd5 cxd6 cxd7 cxd8 cxd9
        replace xa := xa.next b9
        replace x4 := x4.next b9
        replace xd := xd.next b9
        replace bb := bb.trans (b9.mono bb.size)
        clear b9
        go_wp2
        go_roundw
        case rel => exact ⟨1, by omega, by go_num, xa, x4, bb⟩
        case measure => simp [intOf]
      · have cxa0 := xa.cell 0 _ rfl
        have cxa1 := xa.cell 1 _ rfl
        have cxa2 := xa.cell 2 _ rfl
        have cxa3 := xa.cell 3 _ rfl
        have cxa4 := xa.cell 4 _ rfl
        have cxa5 := xa.cell 5 _ rfl
        have cxa6 := xa.cell 6 _ rfl
        have cxa7 := xa.cell 7 _ rfl
        have cxa8 := xa.cell 8 _ rfl
        have cxa9 := xa.cell 9 _ rfl
        have c4 := x4.cell 1 _ rfl
        have hlt4 := x4.lt
        have hlta := xa.lt
        have b9 : Below wr.heap.size wr (wr.alloc (.cells #[.int .i64 c.cB, .int .i64 c.cBeam, .int .i64 c.cDepth, .int .i64 c.cWin, .int .i64 c.cQs, .int .i64 c.cQr, .int .i64 64, .int .i64 c.cPass, .int .i64 c.cMsg, .int .i64 c.cSeqs] 23)) := (Below.refl _ _).alloc (Nat.le_refl _) _
        have xd := Box.new wr 23 #[.int .i64 c.cB, .int .i64 c.cBeam, .int .i64 c.cDepth, .int .i64 c.cWin, .int .i64 c.cQs, .int .i64 c.cQr, .int .i64 64, .int .i64 c.cPass, .int .i64 c.cMsg, .int .i64 c.cSeqs]
        go_wp2_with fail
        replace xa := xa.next b9
        replace x4 := x4.next b9
        replace bb := bb.trans (b9.mono bb.size)
        clear b9 c4 hlt4 hlta cxa0 cxa1 cxa2 cxa3 cxa4 cxa5 cxa6 cxa7 cxa8 cxa9
        refine (K1.out _).mono ?_
        rintro e w21 ⟨rfl, b9⟩
        replace xa := xa.next b9
        replace x4 := x4.next b9
        replace xd := xd.next b9
        replace bb := bb.trans (b9.mono bb.size)
        clear b9
        have cxd0 := xd.cell 0 _ rfl
        have cxd1 := xd.cell 1 _ rfl
        have cxd2 := xd.cell 2 _ rfl
        have cxd3 := xd.cell 3 _ rfl
        have cxd4 := xd.cell 4 _ rfl
        have cxd5 := xd.cell 5 _ rfl
        have cxd6 := xd.cell 6 _ rfl
        have cxd7 := xd.cell 7 _ rfl
        have cxd8 := xd.cell 8 _ rfl
        have cxd9 := xd.cell 9 _ rfl
        go_wp2_with fail
        refine (G1.out _).mono ?_
        rintro e w22 ⟨rfl, b9⟩
        clear cxd0 cxd1 cxd2 cxd3 cxd4 cxd5 cxd6 cxd7 cxd8 cxd9
        replace xa := xa.next b9
        replace x4 := x4.next b9
        replace xd := xd.next b9
        replace bb := bb.trans (b9.mono bb.size)
        clear b9
        go_wp2
        go_roundw
        case rel => exact ⟨2, by omega, by go_num, xa, x4, bb⟩
        case measure => simp [intOf]
      · have cxa0 := xa.cell 0 _ rfl
        have cxa1 := xa.cell 1 _ rfl
        have cxa2 := xa.cell 2 _ rfl
        have cxa3 := xa.cell 3 _ rfl
        have cxa4 := xa.cell 4 _ rfl
        have cxa5 := xa.cell 5 _ rfl
        have cxa6 := xa.cell 6 _ rfl
        have cxa7 := xa.cell 7 _ rfl
        have cxa8 := xa.cell 8 _ rfl
        have cxa9 := xa.cell 9 _ rfl
        have c4 := x4.cell 2 _ rfl
        have hlt4 := x4.lt
        have hlta := xa.lt
        have b9 : Below wr.heap.size wr (wr.alloc (.cells #[.int .i64 c.cB, .int .i64 c.cBeam, .int .i64 c.cDepth, .int .i64 c.cWin, .int .i64 c.cQs, .int .i64 c.cQr, .int .i64 0, .int .i64 c.cPass, .int .i64 c.cMsg, .int .i64 c.cSeqs] 23)) := (Below.refl _ _).alloc (Nat.le_refl _) _
        have xd := Box.new wr 23 #[.int .i64 c.cB, .int .i64 c.cBeam, .int .i64 c.cDepth, .int .i64 c.cWin, .int .i64 c.cQs, .int .i64 c.cQr, .int .i64 0, .int .i64 c.cPass, .int .i64 c.cMsg, .int .i64 c.cSeqs]
        go_wp2_with fail
        replace xa := xa.next b9
        replace x4 := x4.next b9
        replace bb := bb.trans (b9.mono bb.size)
        clear b9 c4 hlt4 hlta cxa0 cxa1 cxa2 cxa3 cxa4 cxa5 cxa6 cxa7 cxa8 cxa9
        refine (K2.out _).mono ?_
        rintro e w21 ⟨rfl, b9⟩
        replace xa := xa.next b9
        replace x4 := x4.next b9
        replace xd := xd.next b9
        replace bb := bb.trans (b9.mono bb.size)
        clear b9
        have cxd0 := xd.cell 0 _ rfl
        have cxd1 := xd.cell 1 _ rfl
        have cxd2 := xd.cell 2 _ rfl
        have cxd3 := xd.cell 3 _ rfl
        have cxd4 := xd.cell 4 _ rfl
        have cxd5 := xd.cell 5 _ rfl
        have cxd6 := xd.cell 6 _ rfl
        have cxd7 := xd.cell 7 _ rfl
        have cxd8 := xd.cell 8 _ rfl
        have cxd9 := xd.cell 9 _ rfl
        go_wp2_with fail
        refine (K2.out _).mono ?_
        rintro e w22 ⟨rfl, b9⟩
        clear cxd0 cxd1 cxd2 cxd3 cxd4 cxd5 cxd6 cxd7 cxd8 cxd9
        replace xa := xa.next b9
        replace x4 := x4.next b9
        replace xd := xd.next b9
        replace bb := bb.trans (b9.mono bb.size)
        clear b9
        have cxd0 := xd.cell 0 _ rfl
        have cxd1 := xd.cell 1 _ rfl
        have cxd2 := xd.cell 2 _ rfl
        have cxd3 := xd.cell 3 _ rfl
        have cxd4 := xd.cell 4 _ rfl
        have cxd5 := xd.cell 5 _ rfl
        have cxd6 := xd.cell 6 _ rfl
        have cxd7 := xd.cell 7 _ rfl
        have cxd8 := xd.cell 8 _ rfl
        have cxd9 := xd.cell 9 _ rfl
        go_wp2_with fail
        refine (G2.out _).mono ?_
        rintro e w23 ⟨rfl, b9⟩
        clear cxd0 cxd1 cxd2 cxd3 cxd4 cxd5 cxd6 cxd7 cxd8 cxd9
        replace xa := xa.next b9
        replace x4 := x4.next b9
        replace xd := xd.next b9
        replace bb := bb.trans (b9.mono bb.size)
        clear b9
        have cxd0 := xd.cell 0 _ rfl
        have cxd1 := xd.cell 1 _ rfl
        have cxd2 := xd.cell 2 _ rfl
        have cxd3 := xd.cell 3 _ rfl
        have cxd4 := xd.cell 4 _ rfl
        have cxd5 := xd.cell 5 _ rfl
        have cxd6 := xd.cell 6 _ rfl
        have cxd7 := xd.cell 7 _ rfl
        have cxd8 := xd.cell 8 _ rfl
        have cxd9 := xd.cell 9 _ rfl
        go_wp2_with fail
        refine (T2.out _).mono ?_
        rintro e w24 ⟨rfl, b9⟩
        clear cxd0 cxd1 cxd2 cxd3 cxd4 cxd5 cxd6 cxd7 cxd8 cxd9
        replace xa := xa.next b9
        replace x4 := x4.next b9
        replace xd := xd.next b9
        replace bb := bb.trans (b9.mono bb.size)
        clear b9
        go_wp2
        go_roundw
        case rel => exact ⟨3, by omega, by go_num, xa, x4, bb⟩
        case measure => simp [intOf]
      · have cxa0 := xa.cell 0 _ rfl
        have cxa1 := xa.cell 1 _ rfl
        have cxa2 := xa.cell 2 _ rfl
        have cxa3 := xa.cell 3 _ rfl
        have cxa4 := xa.cell 4 _ rfl
        have cxa5 := xa.cell 5 _ rfl
        have cxa6 := xa.cell 6 _ rfl
        have cxa7 := xa.cell 7 _ rfl
        have cxa8 := xa.cell 8 _ rfl
        have cxa9 := xa.cell 9 _ rfl
        have c4 := x4.cell 3 _ rfl
        have hlt4 := x4.lt
        have hlta := xa.lt
        have b9 : Below wr.heap.size wr (wr.alloc (.cells #[.int .i64 c.cB, .int .i64 c.cBeam, .int .i64 c.cDepth, .int .i64 c.cWin, .int .i64 c.cQs, .int .i64 c.cQr, .int .i64 65, .int .i64 c.cPass, .int .i64 c.cMsg, .int .i64 c.cSeqs] 23)) := (Below.refl _ _).alloc (Nat.le_refl _) _
        have xd := Box.new wr 23 #[.int .i64 c.cB, .int .i64 c.cBeam, .int .i64 c.cDepth, .int .i64 c.cWin, .int .i64 c.cQs, .int .i64 c.cQr, .int .i64 65, .int .i64 c.cPass, .int .i64 c.cMsg, .int .i64 c.cSeqs]
        go_wp2_with fail
        replace xa := xa.next b9
        replace x4 := x4.next b9
        replace bb := bb.trans (b9.mono bb.size)
        clear b9 c4 hlt4 hlta cxa0 cxa1 cxa2 cxa3 cxa4 cxa5 cxa6 cxa7 cxa8 cxa9
        refine (K3.out _).mono ?_
        rintro e w21 ⟨rfl, b9⟩
        replace xa := xa.next b9
        replace x4 := x4.next b9
        replace xd := xd.next b9
        replace bb := bb.trans (b9.mono bb.size)
        clear b9
        have cxd0 := xd.cell 0 _ rfl
        have cxd1 := xd.cell 1 _ rfl
        have cxd2 := xd.cell 2 _ rfl
        have cxd3 := xd.cell 3 _ rfl
        have cxd4 := xd.cell 4 _ rfl
        have cxd5 := xd.cell 5 _ rfl
        have cxd6 := xd.cell 6 _ rfl
        have cxd7 := xd.cell 7 _ rfl
        have cxd8 := xd.cell 8 _ rfl
        have cxd9 := xd.cell 9 _ rfl
        go_wp2_with fail
        refine (K3.out _).mono ?_
        rintro e w22 ⟨rfl, b9⟩
        clear cxd0 cxd1 cxd2 cxd3 cxd4 cxd5 cxd6 cxd7 cxd8 cxd9
        replace xa := xa.next b9
        replace x4 := x4.next b9
        replace xd := xd.next b9
        replace bb := bb.trans (b9.mono bb.size)
        clear b9
        have cxd0 := xd.cell 0 _ rfl
        have cxd1 := xd.cell 1 _ rfl
        have cxd2 := xd.cell 2 _ rfl
        have cxd3 := xd.cell 3 _ rfl
        have cxd4 := xd.cell 4 _ rfl
        have cxd5 := xd.cell 5 _ rfl
        have cxd6 := xd.cell 6 _ rfl
        have cxd7 := xd.cell 7 _ rfl
        have cxd8 := xd.cell 8 _ rfl
        have cxd9 := xd.cell 9 _ rfl
        go_wp2_with fail
        refine (G3.out _).mono ?_
        rintro e w23 ⟨rfl, b9⟩
        clear cxd0 cxd1 cxd2 cxd3 cxd4 cxd5 cxd6 cxd7 cxd8 cxd9
        replace xa := xa.next b9
        replace x4 := x4.next b9
        replace xd := xd.next b9
        replace bb := bb.trans (b9.mono bb.size)
        clear b9
        have cxd0 := xd.cell 0 _ rfl
        have cxd1 := xd.cell 1 _ rfl
        have cxd2 := xd.cell 2 _ rfl
        have cxd3 := xd.cell 3 _ rfl
        have cxd4 := xd.cell 4 _ rfl
        have cxd5 := xd.cell 5 _ rfl
        have cxd6 := xd.cell 6 _ rfl
        have cxd7 := xd.cell 7 _ rfl
        have cxd8 := xd.cell 8 _ rfl
        have cxd9 := xd.cell 9 _ rfl
        go_wp2_with fail
        refine (T3.out _).mono ?_
        rintro e w24 ⟨rfl, b9⟩
        clear cxd0 cxd1 cxd2 cxd3 cxd4 cxd5 cxd6 cxd7 cxd8 cxd9
        replace xa := xa.next b9
        replace x4 := x4.next b9
        replace xd := xd.next b9
        replace bb := bb.trans (b9.mono bb.size)
        clear b9
        go_wp2
        go_roundw
        case rel => exact ⟨4, by omega, by go_num, xa, x4, bb⟩
        case measure => simp [intOf]
      · have cxa0 := xa.cell 0 _ rfl
        have cxa1 := xa.cell 1 _ rfl
        have cxa2 := xa.cell 2 _ rfl
        have cxa3 := xa.cell 3 _ rfl
        have cxa4 := xa.cell 4 _ rfl
        have cxa5 := xa.cell 5 _ rfl
        have cxa6 := xa.cell 6 _ rfl
        have cxa7 := xa.cell 7 _ rfl
        have cxa8 := xa.cell 8 _ rfl
        have cxa9 := xa.cell 9 _ rfl
        go_wp2_with fail
        refine (KC.out _).mono ?_
        rintro e w21 ⟨rfl, b9⟩
        clear cxa0 cxa1 cxa2 cxa3 cxa4 cxa5 cxa6 cxa7 cxa8 cxa9
        replace xa := xa.next b9
        replace bb := bb.trans (b9.mono bb.size)
        clear b9
        have HWK := confWakes_any w21
        go_wp2_with (go_at_call 13; refine HWK.mono ?_; rintro e w99 ⟨rfl, b99⟩)
        go_ret
        exact ⟨rfl, bb.trans (b99.mono bb.size)⟩

set_option maxRecDepth 100000 in
set_option maxHeartbeats 4000000 in
theorem confEnds_7 (c : Cfg) (x : Int) (hA : okC c = true) (ek : (IntKind.u64.wrap x).tmod 10 = 7) (w : World) :
    Calls Try.prog 5 #[.agg #[.int .i64 c.cB, .int .i64 c.cBeam, .int .i64 c.cDepth, .int .i64 c.cWin, .int .i64 c.cQs, .int .i64 c.cQr, .int .i64 c.cBatch, .int .i64 c.cPass, .int .i64 c.cMsg, .int .i64 c.cSeqs], .int .i64 x] w fun e w' => e = .returned (.bool true) ∧ Below w.heap.size w w' := by
  have bb : Below w.heap.size w (w.alloc (.cells #[.int .i64 c.cB, .int .i64 c.cBeam, .int .i64 c.cDepth, .int .i64 c.cWin, .int .i64 c.cQs, .int .i64 c.cQr, .int .i64 c.cBatch, .int .i64 c.cPass, .int .i64 c.cMsg, .int .i64 c.cSeqs] 23)) := (Below.refl w.heap.size w).alloc (Nat.le_refl _) _
  have xa := Box.new w 23 #[.int .i64 c.cB, .int .i64 c.cBeam, .int .i64 c.cDepth, .int .i64 c.cWin, .int .i64 c.cQs, .int .i64 c.cQr, .int .i64 c.cBatch, .int .i64 c.cPass, .int .i64 c.cMsg, .int .i64 c.cSeqs]
  have hI := (okC_iff c).1 hA
  have o0 : okC (Cfg.mk c.cB c.cBeam c.cDepth c.cWin c.cQs c.cQr c.cBatch 4 c.cMsg c.cSeqs) = true := (okC_iff _).2 (by dsimp only; omega)
  obtain ⟨S0, hS0⟩ : ∃ v, segsC (Cfg.mk c.cB c.cBeam c.cDepth c.cWin c.cQs c.cQr c.cBatch 4 c.cMsg c.cSeqs) = v := ⟨_, rfl⟩
  have b0_ := (segsC_bd o0).1
  rw [hS0] at b0_
  have dS0 : decide (S0 < 22) = false := decide_eq_false (by omega)
  have K0 : Hid (∀ wx : World, Calls Try.prog 7 #[.agg #[.int .i64 c.cB, .int .i64 c.cBeam, .int .i64 c.cDepth, .int .i64 c.cWin, .int .i64 c.cQs, .int .i64 c.cQr, .int .i64 c.cBatch, .int .i64 4, .int .i64 c.cMsg, .int .i64 c.cSeqs]] wx fun e w' => e = .returned (.int .i64 0) ∧ Below wx.heap.size wx w') := fun wx => by
    have := ConfCheck_any (Cfg.mk c.cB c.cBeam c.cDepth c.cWin c.cQs c.cQr c.cBatch 4 c.cMsg c.cSeqs) wx
    rw [show checkA (Cfg.mk c.cB c.cBeam c.cDepth c.cWin c.cQs c.cQr c.cBatch 4 c.cMsg c.cSeqs) = 0 from (if_pos o0)] at this
    exact this
  have G0 : Hid (∀ wx : World, Calls Try.prog 8 #[.agg #[.int .i64 c.cB, .int .i64 c.cBeam, .int .i64 c.cDepth, .int .i64 c.cWin, .int .i64 c.cQs, .int .i64 c.cQr, .int .i64 c.cBatch, .int .i64 4, .int .i64 c.cMsg, .int .i64 c.cSeqs]] wx fun e w' => e = .returned (.int .i64 S0) ∧ Below wx.heap.size wx w') := fun wx => by
    have := ConfSegs_any (Cfg.mk c.cB c.cBeam c.cDepth c.cWin c.cQs c.cQr c.cBatch 4 c.cMsg c.cSeqs) wx
    rw [show segsA (Cfg.mk c.cB c.cBeam c.cDepth c.cWin c.cQs c.cQr c.cBatch 4 c.cMsg c.cSeqs) = S0 from (if_pos o0).trans hS0] at this
    exact this
  have o1 : okC (Cfg.mk c.cB c.cBeam c.cDepth c.cWin c.cQs c.cQr c.cBatch 16 c.cMsg c.cSeqs) = true := (okC_iff _).2 (by dsimp only; omega)
  obtain ⟨S1, hS1⟩ : ∃ v, segsC (Cfg.mk c.cB c.cBeam c.cDepth c.cWin c.cQs c.cQr c.cBatch 16 c.cMsg c.cSeqs) = v := ⟨_, rfl⟩
  have b1_ := (segsC_bd o1).1
  rw [hS1] at b1_
  have dS1 : decide (S1 < 22) = false := decide_eq_false (by omega)
  have K1 : Hid (∀ wx : World, Calls Try.prog 7 #[.agg #[.int .i64 c.cB, .int .i64 c.cBeam, .int .i64 c.cDepth, .int .i64 c.cWin, .int .i64 c.cQs, .int .i64 c.cQr, .int .i64 c.cBatch, .int .i64 16, .int .i64 c.cMsg, .int .i64 c.cSeqs]] wx fun e w' => e = .returned (.int .i64 0) ∧ Below wx.heap.size wx w') := fun wx => by
    have := ConfCheck_any (Cfg.mk c.cB c.cBeam c.cDepth c.cWin c.cQs c.cQr c.cBatch 16 c.cMsg c.cSeqs) wx
    rw [show checkA (Cfg.mk c.cB c.cBeam c.cDepth c.cWin c.cQs c.cQr c.cBatch 16 c.cMsg c.cSeqs) = 0 from (if_pos o1)] at this
    exact this
  have G1 : Hid (∀ wx : World, Calls Try.prog 8 #[.agg #[.int .i64 c.cB, .int .i64 c.cBeam, .int .i64 c.cDepth, .int .i64 c.cWin, .int .i64 c.cQs, .int .i64 c.cQr, .int .i64 c.cBatch, .int .i64 16, .int .i64 c.cMsg, .int .i64 c.cSeqs]] wx fun e w' => e = .returned (.int .i64 S1) ∧ Below wx.heap.size wx w') := fun wx => by
    have := ConfSegs_any (Cfg.mk c.cB c.cBeam c.cDepth c.cWin c.cQs c.cQr c.cBatch 16 c.cMsg c.cSeqs) wx
    rw [show segsA (Cfg.mk c.cB c.cBeam c.cDepth c.cWin c.cQs c.cQr c.cBatch 16 c.cMsg c.cSeqs) = S1 from (if_pos o1).trans hS1] at this
    exact this
  have o2 : okC (Cfg.mk c.cB c.cBeam c.cDepth c.cWin c.cQs c.cQr c.cBatch 3 c.cMsg c.cSeqs) = false := by
    rw [← Bool.not_eq_true, okC_iff]
    dsimp only
    omega
  have K2 : Hid (∀ wx : World, Calls Try.prog 7 #[.agg #[.int .i64 c.cB, .int .i64 c.cBeam, .int .i64 c.cDepth, .int .i64 c.cWin, .int .i64 c.cQs, .int .i64 c.cQr, .int .i64 c.cBatch, .int .i64 3, .int .i64 c.cMsg, .int .i64 c.cSeqs]] wx fun e w' => e = .returned (.int .i64 1) ∧ Below wx.heap.size wx w') := fun wx => by
    have := ConfCheck_any (Cfg.mk c.cB c.cBeam c.cDepth c.cWin c.cQs c.cQr c.cBatch 3 c.cMsg c.cSeqs) wx
    rw [show checkA (Cfg.mk c.cB c.cBeam c.cDepth c.cWin c.cQs c.cQr c.cBatch 3 c.cMsg c.cSeqs) = 1 from (if_neg (by rw [o2]; decide))] at this
    exact this
  have G2 : Hid (∀ wx : World, Calls Try.prog 8 #[.agg #[.int .i64 c.cB, .int .i64 c.cBeam, .int .i64 c.cDepth, .int .i64 c.cWin, .int .i64 c.cQs, .int .i64 c.cQr, .int .i64 c.cBatch, .int .i64 3, .int .i64 c.cMsg, .int .i64 c.cSeqs]] wx fun e w' => e = .returned (.int .i64 0) ∧ Below wx.heap.size wx w') := fun wx => by
    have := ConfSegs_any (Cfg.mk c.cB c.cBeam c.cDepth c.cWin c.cQs c.cQr c.cBatch 3 c.cMsg c.cSeqs) wx
    rw [show segsA (Cfg.mk c.cB c.cBeam c.cDepth c.cWin c.cQs c.cQr c.cBatch 3 c.cMsg c.cSeqs) = 0 from (if_neg (by rw [o2]; decide))] at this
    exact this
  have T2 : Hid (∀ wx : World, Calls Try.prog 11 #[.agg #[.int .i64 c.cB, .int .i64 c.cBeam, .int .i64 c.cDepth, .int .i64 c.cWin, .int .i64 c.cQs, .int .i64 c.cQr, .int .i64 c.cBatch, .int .i64 3, .int .i64 c.cMsg, .int .i64 c.cSeqs]] wx fun e w' => e = .returned (.int .i64 0) ∧ Below wx.heap.size wx w') := fun wx => by
    have := ConfTicks_any (Cfg.mk c.cB c.cBeam c.cDepth c.cWin c.cQs c.cQr c.cBatch 3 c.cMsg c.cSeqs) wx
    rw [show ticksA (Cfg.mk c.cB c.cBeam c.cDepth c.cWin c.cQs c.cQr c.cBatch 3 c.cMsg c.cSeqs) = 0 from (if_neg (by rw [o2]; decide))] at this
    exact this
  have o3 : okC (Cfg.mk c.cB c.cBeam c.cDepth c.cWin c.cQs c.cQr c.cBatch 17 c.cMsg c.cSeqs) = false := by
    rw [← Bool.not_eq_true, okC_iff]
    dsimp only
    omega
  have K3 : Hid (∀ wx : World, Calls Try.prog 7 #[.agg #[.int .i64 c.cB, .int .i64 c.cBeam, .int .i64 c.cDepth, .int .i64 c.cWin, .int .i64 c.cQs, .int .i64 c.cQr, .int .i64 c.cBatch, .int .i64 17, .int .i64 c.cMsg, .int .i64 c.cSeqs]] wx fun e w' => e = .returned (.int .i64 1) ∧ Below wx.heap.size wx w') := fun wx => by
    have := ConfCheck_any (Cfg.mk c.cB c.cBeam c.cDepth c.cWin c.cQs c.cQr c.cBatch 17 c.cMsg c.cSeqs) wx
    rw [show checkA (Cfg.mk c.cB c.cBeam c.cDepth c.cWin c.cQs c.cQr c.cBatch 17 c.cMsg c.cSeqs) = 1 from (if_neg (by rw [o3]; decide))] at this
    exact this
  have G3 : Hid (∀ wx : World, Calls Try.prog 8 #[.agg #[.int .i64 c.cB, .int .i64 c.cBeam, .int .i64 c.cDepth, .int .i64 c.cWin, .int .i64 c.cQs, .int .i64 c.cQr, .int .i64 c.cBatch, .int .i64 17, .int .i64 c.cMsg, .int .i64 c.cSeqs]] wx fun e w' => e = .returned (.int .i64 0) ∧ Below wx.heap.size wx w') := fun wx => by
    have := ConfSegs_any (Cfg.mk c.cB c.cBeam c.cDepth c.cWin c.cQs c.cQr c.cBatch 17 c.cMsg c.cSeqs) wx
    rw [show segsA (Cfg.mk c.cB c.cBeam c.cDepth c.cWin c.cQs c.cQr c.cBatch 17 c.cMsg c.cSeqs) = 0 from (if_neg (by rw [o3]; decide))] at this
    exact this
  have T3 : Hid (∀ wx : World, Calls Try.prog 11 #[.agg #[.int .i64 c.cB, .int .i64 c.cBeam, .int .i64 c.cDepth, .int .i64 c.cWin, .int .i64 c.cQs, .int .i64 c.cQr, .int .i64 c.cBatch, .int .i64 17, .int .i64 c.cMsg, .int .i64 c.cSeqs]] wx fun e w' => e = .returned (.int .i64 0) ∧ Below wx.heap.size wx w') := fun wx => by
    have := ConfTicks_any (Cfg.mk c.cB c.cBeam c.cDepth c.cWin c.cQs c.cQr c.cBatch 17 c.cMsg c.cSeqs) wx
    rw [show ticksA (Cfg.mk c.cB c.cBeam c.cDepth c.cWin c.cQs c.cQr c.cBatch 17 c.cMsg c.cSeqs) = 0 from (if_neg (by rw [o3]; decide))] at this
    exact this
  have KC : Hid (∀ wx : World, Calls Try.prog 7 #[.agg #[.int .i64 c.cB, .int .i64 c.cBeam, .int .i64 c.cDepth, .int .i64 c.cWin, .int .i64 c.cQs, .int .i64 c.cQr, .int .i64 c.cBatch, .int .i64 c.cPass, .int .i64 c.cMsg, .int .i64 c.cSeqs]] wx fun e w' => e = .returned (.int .i64 0) ∧ Below wx.heap.size wx w') := fun wx => by
    have := ConfCheck_any c wx
    rw [show checkA c = 0 from (if_pos hA)] at this
    exact this
  have HC := refConfig_any c (w.alloc (.cells #[.int .i64 c.cB, .int .i64 c.cBeam, .int .i64 c.cDepth, .int .i64 c.cWin, .int .i64 c.cQs, .int .i64 c.cQr, .int .i64 c.cBatch, .int .i64 c.cPass, .int .i64 c.cMsg, .int .i64 c.cSeqs] 23))
  rw [hA] at HC
  clear hI hA o0 o1 o2 o3 hS0 b0_ hS1 b1_
  go_enter Try.func5, Try.ntmps5
  have cxa0 := xa.cell 0 _ rfl
  have cxa1 := xa.cell 1 _ rfl
  have cxa2 := xa.cell 2 _ rfl
  have cxa3 := xa.cell 3 _ rfl
  have cxa4 := xa.cell 4 _ rfl
  have cxa5 := xa.cell 5 _ rfl
  have cxa6 := xa.cell 6 _ rfl
  have cxa7 := xa.cell 7 _ rfl
  have cxa8 := xa.cell 8 _ rfl
  have cxa9 := xa.cell 9 _ rfl
  go_wp2_with fail
  refine (HC).mono ?_
  rintro e w1 ⟨rfl, b9⟩
  clear cxa0 cxa1 cxa2 cxa3 cxa4 cxa5 cxa6 cxa7 cxa8 cxa9
  replace xa := xa.next b9
  replace bb := bb.trans (b9.mono bb.size)
  clear b9
  clear HC
  have b9 : Below w1.heap.size w1 ((w1.alloc (.cells #[.int .i64 1, .int .i64 1, .int .i64 1, .int .i64 1, .int .i64 1, .int .i64 1, .int .i64 1, .int .i64 4, .int .i64 0, .int .i64 0] 3)).alloc (.cells #[.int .i64 16, .int .i64 16, .int .i64 3, .int .i64 16, .int .i64 16, .int .i64 16, .int .i64 64, .int .i64 16, .int .i64 200, .int .i64 1073741824] 3)) := ((Below.refl _ _).alloc (Nat.le_refl _) _).alloc (by simp) _
  have xl : Box ((w1.alloc (.cells #[.int .i64 1, .int .i64 1, .int .i64 1, .int .i64 1, .int .i64 1, .int .i64 1, .int .i64 1, .int .i64 4, .int .i64 0, .int .i64 0] 3)).alloc (.cells #[.int .i64 16, .int .i64 16, .int .i64 3, .int .i64 16, .int .i64 16, .int .i64 16, .int .i64 64, .int .i64 16, .int .i64 200, .int .i64 1073741824] 3)) w1.heap.size 3 #[.int .i64 1, .int .i64 1, .int .i64 1, .int .i64 1, .int .i64 1, .int .i64 1, .int .i64 1, .int .i64 4, .int .i64 0, .int .i64 0] := (Box.new w1 _ _).alloc _
  have xm : Box ((w1.alloc (.cells #[.int .i64 1, .int .i64 1, .int .i64 1, .int .i64 1, .int .i64 1, .int .i64 1, .int .i64 1, .int .i64 4, .int .i64 0, .int .i64 0] 3)).alloc (.cells #[.int .i64 16, .int .i64 16, .int .i64 3, .int .i64 16, .int .i64 16, .int .i64 16, .int .i64 64, .int .i64 16, .int .i64 200, .int .i64 1073741824] 3)) (w1.heap.size + 1) 3 #[.int .i64 16, .int .i64 16, .int .i64 3, .int .i64 16, .int .i64 16, .int .i64 16, .int .i64 64, .int .i64 16, .int .i64 200, .int .i64 1073741824] := by
    have := Box.new (w1.alloc (.cells #[.int .i64 1, .int .i64 1, .int .i64 1, .int .i64 1, .int .i64 1, .int .i64 1, .int .i64 1, .int .i64 4, .int .i64 0, .int .i64 0] 3)) 3 #[.int .i64 16, .int .i64 16, .int .i64 3, .int .i64 16, .int .i64 16, .int .i64 16, .int .i64 64, .int .i64 16, .int .i64 200, .int .i64 1073741824]
    simpa using this
  replace xa := xa.next b9
  replace bb := bb.trans (b9.mono bb.size)
  clear b9
  go_wp2
  generalize ((w1.alloc (.cells #[.int .i64 1, .int .i64 1, .int .i64 1, .int .i64 1, .int .i64 1, .int .i64 1, .int .i64 1, .int .i64 4, .int .i64 0, .int .i64 0] 3)).alloc (.cells #[.int .i64 16, .int .i64 16, .int .i64 3, .int .i64 16, .int .i64 16, .int .i64 16, .int .i64 64, .int .i64 16, .int .i64 200, .int .i64 1073741824] 3)) = w2 at *
  have wv2 : IntKind.i64.wrap (3) = 3 := by rw [IntKind.wrap_i64]; decide
  have wv3 : IntKind.i64.wrap (17) = 17 := by rw [IntKind.wrap_i64]; decide
  have hltl := xl.lt
  have hltm := xm.lt
  have cl := xl.cell 7 _ rfl
  have cm := xm.cell 7 _ rfl
  skip
  go_cut [38, 39, 40] (fun s l i wx => ∃ B4, s = .slice (some ⟨B4, 0, none⟩) 4 4 ∧ l = .int .i64 4 ∧ i = .int .i64 0 ∧ Box wx B4 3 #[.int .i64 4, .int .i64 16, .int .i64 3, .int .i64 17] ∧ Below w2.heap.size w2 wx)
  case first =>
    refine wp_region_held_drew (S := fun w' => Below w2.heap.size w2 w') (by kernel_rfl) ((Below.refl _ _).drew) (fun hHeld => ?_)
    generalize w2.drew = wk0 at *
    refine held_take (i := 0) (d := 20) (v := ?v134) rfl rfl (by kernel_rfl) (by kernel_rfl) (by kernel_rfl) (fun _ _ _ h => h) (Or.inl ⟨by kernel_rfl, ?hy134⟩) hHeld ?rest134
    case hy134 =>
      intro wx hSw
      clear hSw
      go_simp
      with_reducible rfl
    simp only [List.setIfInBounds_toArray, List.set_cons_zero, List.set_cons_succ]
    refine held_take (i := 1) (d := 21) (v := ?v135) rfl rfl (by kernel_rfl) (by kernel_rfl) (by kernel_rfl) (fun _ _ _ h => h) (Or.inl ⟨by kernel_rfl, ?hy135⟩) hHeld ?rest135
    case hy135 =>
      intro wx hSw
      clear hSw
      go_simp
      with_reducible rfl
    simp only [List.setIfInBounds_toArray, List.set_cons_zero, List.set_cons_succ]
    refine held_take (i := 2) (d := 22) (v := ?v136) rfl rfl (by kernel_rfl) (by kernel_rfl) (by kernel_rfl) (fun _ _ _ h => h) (Or.inl ⟨by kernel_rfl, ?hy136⟩) hHeld ?rest136
    case hy136 =>
      intro wx hSw
      clear hSw
      go_simp
      with_reducible rfl
    simp only [List.setIfInBounds_toArray, List.set_cons_zero, List.set_cons_succ]
    refine held_take (i := 3) (d := 23) (v := ?v137) rfl rfl (by kernel_rfl) (by kernel_rfl) (by kernel_rfl) (fun _ _ _ h => h) (Or.inl ⟨by kernel_rfl, ?hy137⟩) hHeld ?rest137
    case hy137 =>
      intro wx hSw
      have q0 := (hSw.cell (p := ⟨w1.heap.size, 7, none⟩) hltl).trans cl
      clear hSw
      go_simp
      with_reducible rfl
    simp only [List.setIfInBounds_toArray, List.set_cons_zero, List.set_cons_succ]
    refine held_take (i := 4) (d := 24) (v := ?v138) rfl rfl (by kernel_rfl) (by kernel_rfl) (by kernel_rfl) (fun _ _ _ h => h) (Or.inl ⟨by kernel_rfl, ?hy138⟩) hHeld ?rest138
    case hy138 =>
      intro wx hSw
      clear hSw
      go_simp
      with_reducible rfl
    simp only [List.setIfInBounds_toArray, List.set_cons_zero, List.set_cons_succ]
    refine held_take (i := 5) (d := 25) (v := ?v139) rfl rfl (by kernel_rfl) (by kernel_rfl) (by kernel_rfl) (fun _ _ _ h => h) (Or.inl ⟨by kernel_rfl, ?hy139⟩) hHeld ?rest139
    case hy139 =>
      intro wx hSw
      clear hSw
      go_simp
      with_reducible rfl
    simp only [List.setIfInBounds_toArray, List.set_cons_zero, List.set_cons_succ]
    refine held_take (i := 6) (d := 26) (v := ?v140) rfl rfl (by kernel_rfl) (by kernel_rfl) (by kernel_rfl) (fun _ _ _ h => h) (Or.inl ⟨by kernel_rfl, ?hy140⟩) hHeld ?rest140
    case hy140 =>
      intro wx hSw
      clear hSw
      go_simp
      with_reducible rfl
    simp only [List.setIfInBounds_toArray, List.set_cons_zero, List.set_cons_succ]
    refine held_take (i := 7) (d := 27) (v := ?v141) rfl rfl (by kernel_rfl) (by kernel_rfl) (by kernel_rfl) (fun _ _ _ h => h) (Or.inl ⟨by kernel_rfl, ?hy141⟩) hHeld ?rest141
    case hy141 =>
      intro wx hSw
      have q0 := (hSw.cell (p := ⟨w1.heap.size + 1, 7, none⟩) hltm).trans cm
      clear hSw
      go_simp
      with_reducible rfl
    simp only [List.setIfInBounds_toArray, List.set_cons_zero, List.set_cons_succ]
    refine held_take (i := 8) (d := 28) (v := ?v142) rfl rfl (by kernel_rfl) (by kernel_rfl) (by kernel_rfl) (fun _ _ _ h => h) (Or.inl ⟨by kernel_rfl, ?hy142⟩) hHeld ?rest142
    case hy142 =>
      intro wx hSw
      clear hSw
      go_simp
      with_reducible rfl
    simp only [List.setIfInBounds_toArray, List.set_cons_zero, List.set_cons_succ]
    refine held_take (i := 9) (d := 29) (v := ?v143) rfl rfl (by kernel_rfl) (by kernel_rfl) (by kernel_rfl) (fun _ _ _ h => h) (Or.inl ⟨by kernel_rfl, ?hy143⟩) hHeld ?rest143
    case hy143 =>
      intro wx hSw
      clear hSw
      go_simp
      with_reducible rfl
    simp only [List.setIfInBounds_toArray, List.set_cons_zero, List.set_cons_succ]
    refine held_take (i := 10) (d := 30) (v := ?v144) rfl rfl (by kernel_rfl) (by kernel_rfl) (by kernel_rfl) (fun _ _ _ h => h) (Or.inl ⟨by kernel_rfl, ?hy144⟩) hHeld ?rest144
    case hy144 =>
      intro wx hSw
      clear hSw
      go_simp
      with_reducible rfl
    simp only [List.setIfInBounds_toArray, List.set_cons_zero, List.set_cons_succ]
    refine held_take (i := 11) (d := 31) (v := ?v145) rfl rfl (by kernel_rfl) (by kernel_rfl) (by kernel_rfl) (fun _ _ _ h => h) (Or.inl ⟨by kernel_rfl, ?hy145⟩) hHeld ?rest145
    case hy145 =>
      intro wx hSw
      have q0 := (hSw.cell (p := ⟨w1.heap.size, 7, none⟩) hltl).trans cl
      clear hSw
      go_simp
      with_reducible rfl
    simp only [List.setIfInBounds_toArray, List.set_cons_zero, List.set_cons_succ]
    refine held_take (i := 12) (d := 32) (v := ?v146) rfl rfl (by kernel_rfl) (by kernel_rfl) (by kernel_rfl) (fun _ _ _ h => h) (Or.inl ⟨by kernel_rfl, ?hy146⟩) hHeld ?rest146
    case hy146 =>
      intro wx hSw
      clear hSw
      go_simp
      with_reducible rfl
    simp only [List.setIfInBounds_toArray, List.set_cons_zero, List.set_cons_succ]
    refine held_take (i := 13) (d := 33) (v := ?v147) rfl rfl (by kernel_rfl) (by kernel_rfl) (by kernel_rfl) (fun _ _ _ h => h) (Or.inl ⟨by kernel_rfl, ?hy147⟩) hHeld ?rest147
    case hy147 =>
      intro wx hSw
      clear hSw
      go_simp
      with_reducible rfl
    simp only [List.setIfInBounds_toArray, List.set_cons_zero, List.set_cons_succ]
    refine held_take (i := 14) (d := 34) (v := ?v148) rfl rfl (by kernel_rfl) (by kernel_rfl) (by kernel_rfl) (fun _ _ _ h => h) (Or.inl ⟨by kernel_rfl, ?hy148⟩) hHeld ?rest148
    case hy148 =>
      intro wx hSw
      clear hSw
      go_simp
      with_reducible rfl
    simp only [List.setIfInBounds_toArray, List.set_cons_zero, List.set_cons_succ]
    refine held_take (i := 15) (d := 35) (v := ?v149) rfl rfl (by kernel_rfl) (by kernel_rfl) (by kernel_rfl) (fun _ _ _ h => h) (Or.inl ⟨by kernel_rfl, ?hy149⟩) hHeld ?rest149
    case hy149 =>
      intro wx hSw
      clear hSw
      go_simp
      with_reducible rfl
    simp only [List.setIfInBounds_toArray, List.set_cons_zero, List.set_cons_succ]
    refine held_take (i := 16) (d := 36) (v := ?v150) rfl rfl (by kernel_rfl) (by kernel_rfl) (by kernel_rfl) (fun _ _ _ h => h) (Or.inl ⟨by kernel_rfl, ?hy150⟩) hHeld ?rest150
    case hy150 =>
      intro wx hSw
      have q0 := (hSw.cell (p := ⟨w1.heap.size + 1, 7, none⟩) hltm).trans cm
      clear hSw
      go_simp
      with_reducible rfl
    simp only [List.setIfInBounds_toArray, List.set_cons_zero, List.set_cons_succ]
    refine held_take (i := 17) (d := 37) (v := ?v151) rfl rfl (by kernel_rfl) (by kernel_rfl) (by kernel_rfl) (fun _ _ _ h => h) (Or.inl ⟨by kernel_rfl, ?hy151⟩) hHeld ?rest151
    case hy151 =>
      intro wx hSw
      clear hSw
      go_simp
      with_reducible rfl
    simp only [List.setIfInBounds_toArray, List.set_cons_zero, List.set_cons_succ]
    refine held_take (i := 20) (d := 40) (v := ?v152) rfl rfl (by kernel_rfl) (by kernel_rfl) (by kernel_rfl) (fun _ _ _ h => h) (Or.inl ⟨by kernel_rfl, ?hy152⟩) hHeld ?rest152
    case hy152 =>
      intro wx hSw
      clear hSw
      go_simp
      with_reducible rfl
    simp only [List.setIfInBounds_toArray, List.set_cons_zero, List.set_cons_succ]
    refine wpAnyH_ready (rs := [18]) (by kernel_rfl) (by simp) ?_
    refine AllReadyH.cons rfl (fun K hK => ?_) AllReadyH.nil
    go_simp
    obtain ⟨B4, hB4⟩ : ∃ n, wk0.heap.size = n := ⟨_, rfl⟩
    have x4 := Box.new wk0 3 #[.int .i64 4, .int .i64 16, .int .i64 3, .int .i64 17]
    rw [hB4] at x4 ⊢
    have hS4 := hHeld.alloc hHeld.size (.cells #[.int .i64 4, .int .i64 16, .int .i64 3, .int .i64 17] 3)
    generalize wk0.alloc (.cells #[.int .i64 4, .int .i64 16, .int .i64 3, .int .i64 17] 3) = wk1 at *
    refine hK.out _ _ (hS4) (fun hHeld => ?_)
    clear hK K
    refine wpAnyH_ready (rs := [19]) (by kernel_rfl) (by simp) ?_
    refine AllReadyH.cons rfl (fun K hK => ?_) AllReadyH.nil
    go_simp
    refine hK.out _ _ hHeld (fun hHeld => ?_)
    clear hK K
    refine wpAnyH_done (by kernel_rfl) ?_ _
    go_wp2_with fail
    go_meet
    exact ⟨B4, rfl, rfl, rfl, x4, hHeld⟩
  case rest =>
    obtain ⟨B4, rfl, rfl, rfl, x4, b9⟩ := hcut
    clear cl cm hltl hltm
    replace xa := xa.next b9
    replace xl := xl.next b9
    replace xm := xm.next b9
    replace bb := bb.trans (b9.mono bb.size)
    clear b9 xl xm
    go_wp2_with fail
    go_loopw [40] (fun i wr => ∃ j : Nat, j ≤ 4 ∧ i = .int .i64 j ∧ Box wr w.heap.size 23 #[.int .i64 c.cB, .int .i64 c.cBeam, .int .i64 c.cDepth, .int .i64 c.cWin, .int .i64 c.cQs, .int .i64 c.cQr, .int .i64 c.cBatch, .int .i64 c.cPass, .int .i64 c.cMsg, .int .i64 c.cSeqs] ∧ Box wr B4 3 #[.int .i64 4, .int .i64 16, .int .i64 3, .int .i64 17] ∧ Below w.heap.size w wr) (fun i _ => 4 - (intOf i).toNat)
    case atStart => exact ⟨0, by omega, rfl, xa, x4, bb⟩
    case round =>
      clear xa x4 bb
      obtain ⟨j, hj, rfl, xa, x4, bb⟩ := hrel
      have hj5 : j = 0 ∨ j = 1 ∨ j = 2 ∨ j = 3 ∨ j = 4 := by omega
      clear hj
      rcases hj5 with rfl | rfl | rfl | rfl | rfl
      · have cxa0 := xa.cell 0 _ rfl
        have cxa1 := xa.cell 1 _ rfl
        have cxa2 := xa.cell 2 _ rfl
        have cxa3 := xa.cell 3 _ rfl
        have cxa4 := xa.cell 4 _ rfl
        have cxa5 := xa.cell 5 _ rfl
        have cxa6 := xa.cell 6 _ rfl
        have cxa7 := xa.cell 7 _ rfl
        have cxa8 := xa.cell 8 _ rfl
        have cxa9 := xa.cell 9 _ rfl
        have c4 := x4.cell 0 _ rfl
        have hlt4 := x4.lt
        have hlta := xa.lt
        have b9 : Below wr.heap.size wr (wr.alloc (.cells #[.int .i64 c.cB, .int .i64 c.cBeam, .int .i64 c.cDepth, .int .i64 c.cWin, .int .i64 c.cQs, .int .i64 c.cQr, .int .i64 c.cBatch, .int .i64 4, .int .i64 c.cMsg, .int .i64 c.cSeqs] 23)) := (Below.refl _ _).alloc (Nat.le_refl _) _
        have xd := Box.new wr 23 #[.int .i64 c.cB, .int .i64 c.cBeam, .int .i64 c.cDepth, .int .i64 c.cWin, .int .i64 c.cQs, .int .i64 c.cQr, .int .i64 c.cBatch, .int .i64 4, .int .i64 c.cMsg, .int .i64 c.cSeqs]
        go_wp2_with fail
        replace xa := xa.next b9
        replace x4 := x4.next b9
        replace bb := bb.trans (b9.mono bb.size)
        clear b9 c4 hlt4 hlta cxa0 cxa1 cxa2 cxa3 cxa4 cxa5 cxa6 cxa7 cxa8 cxa9
        refine (K0.out _).mono ?_
        rintro e w21 ⟨rfl, b9⟩
        replace xa := xa.next b9
        replace x4 := x4.next b9
        replace xd := xd.next b9
        replace bb := bb.trans (b9.mono bb.size)
        clear b9
        have cxd0 := xd.cell 0 _ rfl
        have cxd1 := xd.cell 1 _ rfl
        have cxd2 := xd.cell 2 _ rfl
        have cxd3 := xd.cell 3 _ rfl
        have cxd4 := xd.cell 4 _ rfl
        have cxd5 := xd.cell 5 _ rfl
        have cxd6 := xd.cell 6 _ rfl
        have cxd7 := xd.cell 7 _ rfl
        have cxd8 := xd.cell 8 _ rfl
        have cxd9 := xd.cell 9 _ rfl
        go_wp2_with fail
        refine (G0.out _).mono ?_
        rintro e w22 ⟨rfl, b9⟩
        clear cxd0 cxd1 cxd2 cxd3 cxd4 cxd5 cxd6 cxd7 cxd8 cxd9
        replace xa := xa.next b9
        replace x4 := x4.next b9
        replace xd := xd.next b9
        replace bb := bb.trans (b9.mono bb.size)
        clear b9
        go_wp2
        go_roundw
        case rel => exact ⟨1, by omega, by go_num, xa, x4, bb⟩
        case measure => simp [intOf]
      · have cxa0 := xa.cell 0 _ rfl
        have cxa1 := xa.cell 1 _ rfl
        have cxa2 := xa.cell 2 _ rfl
        have cxa3 := xa.cell 3 _ rfl
        have cxa4 := xa.cell 4 _ rfl
        have cxa5 := xa.cell 5 _ rfl
        have cxa6 := xa.cell 6 _ rfl
        have cxa7 := xa.cell 7 _ rfl
        have cxa8 := xa.cell 8 _ rfl
        have cxa9 := xa.cell 9 _ rfl
        have c4 := x4.cell 1 _ rfl
        have hlt4 := x4.lt
        have hlta := xa.lt
        have b9 : Below wr.heap.size wr (wr.alloc (.cells #[.int .i64 c.cB, .int .i64 c.cBeam, .int .i64 c.cDepth, .int .i64 c.cWin, .int .i64 c.cQs, .int .i64 c.cQr, .int .i64 c.cBatch, .int .i64 16, .int .i64 c.cMsg, .int .i64 c.cSeqs] 23)) := (Below.refl _ _).alloc (Nat.le_refl _) _
        have xd := Box.new wr 23 #[.int .i64 c.cB, .int .i64 c.cBeam, .int .i64 c.cDepth, .int .i64 c.cWin, .int .i64 c.cQs, .int .i64 c.cQr, .int .i64 c.cBatch, .int .i64 16, .int .i64 c.cMsg, .int .i64 c.cSeqs]
        go_wp2_with fail
        replace xa := xa.next b9
        replace x4 := x4.next b9
        replace bb := bb.trans (b9.mono bb.size)
        clear b9 c4 hlt4 hlta cxa0 cxa1 cxa2 cxa3 cxa4 cxa5 cxa6 cxa7 cxa8 cxa9
        refine (K1.out _).mono ?_
        rintro e w21 ⟨rfl, b9⟩
        replace xa := xa.next b9
        replace x4 := x4.next b9
        replace xd := xd.next b9
        replace bb := bb.trans (b9.mono bb.size)
        clear b9
        have cxd0 := xd.cell 0 _ rfl
        have cxd1 := xd.cell 1 _ rfl
        have cxd2 := xd.cell 2 _ rfl
        have cxd3 := xd.cell 3 _ rfl
        have cxd4 := xd.cell 4 _ rfl
        have cxd5 := xd.cell 5 _ rfl
        have cxd6 := xd.cell 6 _ rfl
        have cxd7 := xd.cell 7 _ rfl
        have cxd8 := xd.cell 8 _ rfl
        have cxd9 := xd.cell 9 _ rfl
        go_wp2_with fail
        refine (G1.out _).mono ?_
        rintro e w22 ⟨rfl, b9⟩
        clear cxd0 cxd1 cxd2 cxd3 cxd4 cxd5 cxd6 cxd7 cxd8 cxd9
        replace xa := xa.next b9
        replace x4 := x4.next b9
        replace xd := xd.next b9
        replace bb := bb.trans (b9.mono bb.size)
        clear b9
        go_wp2
        go_roundw
        case rel => exact ⟨2, by omega, by go_num, xa, x4, bb⟩
        case measure => simp [intOf]
      · have cxa0 := xa.cell 0 _ rfl
        have cxa1 := xa.cell 1 _ rfl
        have cxa2 := xa.cell 2 _ rfl
        have cxa3 := xa.cell 3 _ rfl
        have cxa4 := xa.cell 4 _ rfl
        have cxa5 := xa.cell 5 _ rfl
        have cxa6 := xa.cell 6 _ rfl
        have cxa7 := xa.cell 7 _ rfl
        have cxa8 := xa.cell 8 _ rfl
        have cxa9 := xa.cell 9 _ rfl
        have c4 := x4.cell 2 _ rfl
        have hlt4 := x4.lt
        have hlta := xa.lt
        have b9 : Below wr.heap.size wr (wr.alloc (.cells #[.int .i64 c.cB, .int .i64 c.cBeam, .int .i64 c.cDepth, .int .i64 c.cWin, .int .i64 c.cQs, .int .i64 c.cQr, .int .i64 c.cBatch, .int .i64 3, .int .i64 c.cMsg, .int .i64 c.cSeqs] 23)) := (Below.refl _ _).alloc (Nat.le_refl _) _
        have xd := Box.new wr 23 #[.int .i64 c.cB, .int .i64 c.cBeam, .int .i64 c.cDepth, .int .i64 c.cWin, .int .i64 c.cQs, .int .i64 c.cQr, .int .i64 c.cBatch, .int .i64 3, .int .i64 c.cMsg, .int .i64 c.cSeqs]
        go_wp2_with fail
        replace xa := xa.next b9
        replace x4 := x4.next b9
        replace bb := bb.trans (b9.mono bb.size)
        clear b9 c4 hlt4 hlta cxa0 cxa1 cxa2 cxa3 cxa4 cxa5 cxa6 cxa7 cxa8 cxa9
        refine (K2.out _).mono ?_
        rintro e w21 ⟨rfl, b9⟩
        replace xa := xa.next b9
        replace x4 := x4.next b9
        replace xd := xd.next b9
        replace bb := bb.trans (b9.mono bb.size)
        clear b9
        have cxd0 := xd.cell 0 _ rfl
        have cxd1 := xd.cell 1 _ rfl
        have cxd2 := xd.cell 2 _ rfl
        have cxd3 := xd.cell 3 _ rfl
        have cxd4 := xd.cell 4 _ rfl
        have cxd5 := xd.cell 5 _ rfl
        have cxd6 := xd.cell 6 _ rfl
        have cxd7 := xd.cell 7 _ rfl
        have cxd8 := xd.cell 8 _ rfl
        have cxd9 := xd.cell 9 _ rfl
        go_wp2_with fail
        refine (K2.out _).mono ?_
        rintro e w22 ⟨rfl, b9⟩
        clear cxd0 cxd1 cxd2 cxd3 cxd4 cxd5 cxd6 cxd7 cxd8 cxd9
        replace xa := xa.next b9
        replace x4 := x4.next b9
        replace xd := xd.next b9
        replace bb := bb.trans (b9.mono bb.size)
        clear b9
        have cxd0 := xd.cell 0 _ rfl
        have cxd1 := xd.cell 1 _ rfl
        have cxd2 := xd.cell 2 _ rfl
        have cxd3 := xd.cell 3 _ rfl
        have cxd4 := xd.cell 4 _ rfl
        have cxd5 := xd.cell 5 _ rfl
        have cxd6 := xd.cell 6 _ rfl
        have cxd7 := xd.cell 7 _ rfl
        have cxd8 := xd.cell 8 _ rfl
        have cxd9 := xd.cell 9 _ rfl
        go_wp2_with fail
        refine (G2.out _).mono ?_
        rintro e w23 ⟨rfl, b9⟩
        clear cxd0 cxd1 cxd2 cxd3 cxd4 cxd5 cxd6 cxd7 cxd8 cxd9
        replace xa := xa.next b9
        replace x4 := x4.next b9
        replace xd := xd.next b9
        replace bb := bb.trans (b9.mono bb.size)
        clear b9
        have cxd0 := xd.cell 0 _ rfl
        have cxd1 := xd.cell 1 _ rfl
        have cxd2 := xd.cell 2 _ rfl
        have cxd3 := xd.cell 3 _ rfl
        have cxd4 := xd.cell 4 _ rfl
        have cxd5 := xd.cell 5 _ rfl
        have cxd6 := xd.cell 6 _ rfl
        have cxd7 := xd.cell 7 _ rfl
        have cxd8 := xd.cell 8 _ rfl
        have cxd9 := xd.cell 9 _ rfl
        go_wp2_with fail
        refine (T2.out _).mono ?_
        rintro e w24 ⟨rfl, b9⟩
        clear cxd0 cxd1 cxd2 cxd3 cxd4 cxd5 cxd6 cxd7 cxd8 cxd9
        replace xa := xa.next b9
        replace x4 := x4.next b9
        replace xd := xd.next b9
        replace bb := bb.trans (b9.mono bb.size)
        clear b9
        go_wp2
        go_roundw
        case rel => exact ⟨3, by omega, by go_num, xa, x4, bb⟩
        case measure => simp [intOf]
      · have cxa0 := xa.cell 0 _ rfl
        have cxa1 := xa.cell 1 _ rfl
        have cxa2 := xa.cell 2 _ rfl
        have cxa3 := xa.cell 3 _ rfl
        have cxa4 := xa.cell 4 _ rfl
        have cxa5 := xa.cell 5 _ rfl
        have cxa6 := xa.cell 6 _ rfl
        have cxa7 := xa.cell 7 _ rfl
        have cxa8 := xa.cell 8 _ rfl
        have cxa9 := xa.cell 9 _ rfl
        have c4 := x4.cell 3 _ rfl
        have hlt4 := x4.lt
        have hlta := xa.lt
        have b9 : Below wr.heap.size wr (wr.alloc (.cells #[.int .i64 c.cB, .int .i64 c.cBeam, .int .i64 c.cDepth, .int .i64 c.cWin, .int .i64 c.cQs, .int .i64 c.cQr, .int .i64 c.cBatch, .int .i64 17, .int .i64 c.cMsg, .int .i64 c.cSeqs] 23)) := (Below.refl _ _).alloc (Nat.le_refl _) _
        have xd := Box.new wr 23 #[.int .i64 c.cB, .int .i64 c.cBeam, .int .i64 c.cDepth, .int .i64 c.cWin, .int .i64 c.cQs, .int .i64 c.cQr, .int .i64 c.cBatch, .int .i64 17, .int .i64 c.cMsg, .int .i64 c.cSeqs]
        go_wp2_with fail
        replace xa := xa.next b9
        replace x4 := x4.next b9
        replace bb := bb.trans (b9.mono bb.size)
        clear b9 c4 hlt4 hlta cxa0 cxa1 cxa2 cxa3 cxa4 cxa5 cxa6 cxa7 cxa8 cxa9
        refine (K3.out _).mono ?_
        rintro e w21 ⟨rfl, b9⟩
        replace xa := xa.next b9
        replace x4 := x4.next b9
        replace xd := xd.next b9
        replace bb := bb.trans (b9.mono bb.size)
        clear b9
        have cxd0 := xd.cell 0 _ rfl
        have cxd1 := xd.cell 1 _ rfl
        have cxd2 := xd.cell 2 _ rfl
        have cxd3 := xd.cell 3 _ rfl
        have cxd4 := xd.cell 4 _ rfl
        have cxd5 := xd.cell 5 _ rfl
        have cxd6 := xd.cell 6 _ rfl
        have cxd7 := xd.cell 7 _ rfl
        have cxd8 := xd.cell 8 _ rfl
        have cxd9 := xd.cell 9 _ rfl
        go_wp2_with fail
        refine (K3.out _).mono ?_
        rintro e w22 ⟨rfl, b9⟩
        clear cxd0 cxd1 cxd2 cxd3 cxd4 cxd5 cxd6 cxd7 cxd8 cxd9
        replace xa := xa.next b9
        replace x4 := x4.next b9
        replace xd := xd.next b9
        replace bb := bb.trans (b9.mono bb.size)
        clear b9
        have cxd0 := xd.cell 0 _ rfl
        have cxd1 := xd.cell 1 _ rfl
        have cxd2 := xd.cell 2 _ rfl
        have cxd3 := xd.cell 3 _ rfl
        have cxd4 := xd.cell 4 _ rfl
        have cxd5 := xd.cell 5 _ rfl
        have cxd6 := xd.cell 6 _ rfl
        have cxd7 := xd.cell 7 _ rfl
        have cxd8 := xd.cell 8 _ rfl
        have cxd9 := xd.cell 9 _ rfl
        go_wp2_with fail
        refine (G3.out _).mono ?_
        rintro e w23 ⟨rfl, b9⟩
        clear cxd0 cxd1 cxd2 cxd3 cxd4 cxd5 cxd6 cxd7 cxd8 cxd9
        replace xa := xa.next b9
        replace x4 := x4.next b9
        replace xd := xd.next b9
        replace bb := bb.trans (b9.mono bb.size)
        clear b9
        have cxd0 := xd.cell 0 _ rfl
        have cxd1 := xd.cell 1 _ rfl
        have cxd2 := xd.cell 2 _ rfl
        have cxd3 := xd.cell 3 _ rfl
        have cxd4 := xd.cell 4 _ rfl
        have cxd5 := xd.cell 5 _ rfl
        have cxd6 := xd.cell 6 _ rfl
        have cxd7 := xd.cell 7 _ rfl
        have cxd8 := xd.cell 8 _ rfl
        have cxd9 := xd.cell 9 _ rfl
        go_wp2_with fail
        refine (T3.out _).mono ?_
        rintro e w24 ⟨rfl, b9⟩
        clear cxd0 cxd1 cxd2 cxd3 cxd4 cxd5 cxd6 cxd7 cxd8 cxd9
        replace xa := xa.next b9
        replace x4 := x4.next b9
        replace xd := xd.next b9
        replace bb := bb.trans (b9.mono bb.size)
        clear b9
        go_wp2
        go_roundw
        case rel => exact ⟨4, by omega, by go_num, xa, x4, bb⟩
        case measure => simp [intOf]
      · have cxa0 := xa.cell 0 _ rfl
        have cxa1 := xa.cell 1 _ rfl
        have cxa2 := xa.cell 2 _ rfl
        have cxa3 := xa.cell 3 _ rfl
        have cxa4 := xa.cell 4 _ rfl
        have cxa5 := xa.cell 5 _ rfl
        have cxa6 := xa.cell 6 _ rfl
        have cxa7 := xa.cell 7 _ rfl
        have cxa8 := xa.cell 8 _ rfl
        have cxa9 := xa.cell 9 _ rfl
        go_wp2_with fail
        refine (KC.out _).mono ?_
        rintro e w21 ⟨rfl, b9⟩
        clear cxa0 cxa1 cxa2 cxa3 cxa4 cxa5 cxa6 cxa7 cxa8 cxa9
        replace xa := xa.next b9
        replace bb := bb.trans (b9.mono bb.size)
        clear b9
        have HWK := confWakes_any w21
        go_wp2_with (go_at_call 13; refine HWK.mono ?_; rintro e w99 ⟨rfl, b99⟩)
        go_ret
        exact ⟨rfl, bb.trans (b99.mono bb.size)⟩

set_option maxRecDepth 100000 in
set_option maxHeartbeats 4000000 in
theorem confEnds_8 (c : Cfg) (x : Int) (hA : okC c = true) (ek : (IntKind.u64.wrap x).tmod 10 = 8) (w : World) :
    Calls Try.prog 5 #[.agg #[.int .i64 c.cB, .int .i64 c.cBeam, .int .i64 c.cDepth, .int .i64 c.cWin, .int .i64 c.cQs, .int .i64 c.cQr, .int .i64 c.cBatch, .int .i64 c.cPass, .int .i64 c.cMsg, .int .i64 c.cSeqs], .int .i64 x] w fun e w' => e = .returned (.bool true) ∧ Below w.heap.size w w' := by
  have bb : Below w.heap.size w (w.alloc (.cells #[.int .i64 c.cB, .int .i64 c.cBeam, .int .i64 c.cDepth, .int .i64 c.cWin, .int .i64 c.cQs, .int .i64 c.cQr, .int .i64 c.cBatch, .int .i64 c.cPass, .int .i64 c.cMsg, .int .i64 c.cSeqs] 23)) := (Below.refl w.heap.size w).alloc (Nat.le_refl _) _
  have xa := Box.new w 23 #[.int .i64 c.cB, .int .i64 c.cBeam, .int .i64 c.cDepth, .int .i64 c.cWin, .int .i64 c.cQs, .int .i64 c.cQr, .int .i64 c.cBatch, .int .i64 c.cPass, .int .i64 c.cMsg, .int .i64 c.cSeqs]
  have hI := (okC_iff c).1 hA
  have o0 : okC (Cfg.mk c.cB c.cBeam c.cDepth c.cWin c.cQs c.cQr c.cBatch c.cPass 0 c.cSeqs) = true := (okC_iff _).2 (by dsimp only; omega)
  obtain ⟨S0, hS0⟩ : ∃ v, segsC (Cfg.mk c.cB c.cBeam c.cDepth c.cWin c.cQs c.cQr c.cBatch c.cPass 0 c.cSeqs) = v := ⟨_, rfl⟩
  have b0_ := (segsC_bd o0).1
  rw [hS0] at b0_
  have dS0 : decide (S0 < 22) = false := decide_eq_false (by omega)
  have K0 : Hid (∀ wx : World, Calls Try.prog 7 #[.agg #[.int .i64 c.cB, .int .i64 c.cBeam, .int .i64 c.cDepth, .int .i64 c.cWin, .int .i64 c.cQs, .int .i64 c.cQr, .int .i64 c.cBatch, .int .i64 c.cPass, .int .i64 0, .int .i64 c.cSeqs]] wx fun e w' => e = .returned (.int .i64 0) ∧ Below wx.heap.size wx w') := fun wx => by
    have := ConfCheck_any (Cfg.mk c.cB c.cBeam c.cDepth c.cWin c.cQs c.cQr c.cBatch c.cPass 0 c.cSeqs) wx
    rw [show checkA (Cfg.mk c.cB c.cBeam c.cDepth c.cWin c.cQs c.cQr c.cBatch c.cPass 0 c.cSeqs) = 0 from (if_pos o0)] at this
    exact this
  have G0 : Hid (∀ wx : World, Calls Try.prog 8 #[.agg #[.int .i64 c.cB, .int .i64 c.cBeam, .int .i64 c.cDepth, .int .i64 c.cWin, .int .i64 c.cQs, .int .i64 c.cQr, .int .i64 c.cBatch, .int .i64 c.cPass, .int .i64 0, .int .i64 c.cSeqs]] wx fun e w' => e = .returned (.int .i64 S0) ∧ Below wx.heap.size wx w') := fun wx => by
    have := ConfSegs_any (Cfg.mk c.cB c.cBeam c.cDepth c.cWin c.cQs c.cQr c.cBatch c.cPass 0 c.cSeqs) wx
    rw [show segsA (Cfg.mk c.cB c.cBeam c.cDepth c.cWin c.cQs c.cQr c.cBatch c.cPass 0 c.cSeqs) = S0 from (if_pos o0).trans hS0] at this
    exact this
  have o1 : okC (Cfg.mk c.cB c.cBeam c.cDepth c.cWin c.cQs c.cQr c.cBatch c.cPass 200 c.cSeqs) = true := (okC_iff _).2 (by dsimp only; omega)
  obtain ⟨S1, hS1⟩ : ∃ v, segsC (Cfg.mk c.cB c.cBeam c.cDepth c.cWin c.cQs c.cQr c.cBatch c.cPass 200 c.cSeqs) = v := ⟨_, rfl⟩
  have b1_ := (segsC_bd o1).1
  rw [hS1] at b1_
  have dS1 : decide (S1 < 22) = false := decide_eq_false (by omega)
  have K1 : Hid (∀ wx : World, Calls Try.prog 7 #[.agg #[.int .i64 c.cB, .int .i64 c.cBeam, .int .i64 c.cDepth, .int .i64 c.cWin, .int .i64 c.cQs, .int .i64 c.cQr, .int .i64 c.cBatch, .int .i64 c.cPass, .int .i64 200, .int .i64 c.cSeqs]] wx fun e w' => e = .returned (.int .i64 0) ∧ Below wx.heap.size wx w') := fun wx => by
    have := ConfCheck_any (Cfg.mk c.cB c.cBeam c.cDepth c.cWin c.cQs c.cQr c.cBatch c.cPass 200 c.cSeqs) wx
    rw [show checkA (Cfg.mk c.cB c.cBeam c.cDepth c.cWin c.cQs c.cQr c.cBatch c.cPass 200 c.cSeqs) = 0 from (if_pos o1)] at this
    exact this
  have G1 : Hid (∀ wx : World, Calls Try.prog 8 #[.agg #[.int .i64 c.cB, .int .i64 c.cBeam, .int .i64 c.cDepth, .int .i64 c.cWin, .int .i64 c.cQs, .int .i64 c.cQr, .int .i64 c.cBatch, .int .i64 c.cPass, .int .i64 200, .int .i64 c.cSeqs]] wx fun e w' => e = .returned (.int .i64 S1) ∧ Below wx.heap.size wx w') := fun wx => by
    have := ConfSegs_any (Cfg.mk c.cB c.cBeam c.cDepth c.cWin c.cQs c.cQr c.cBatch c.cPass 200 c.cSeqs) wx
    rw [show segsA (Cfg.mk c.cB c.cBeam c.cDepth c.cWin c.cQs c.cQr c.cBatch c.cPass 200 c.cSeqs) = S1 from (if_pos o1).trans hS1] at this
    exact this
  have o2 : okC (Cfg.mk c.cB c.cBeam c.cDepth c.cWin c.cQs c.cQr c.cBatch c.cPass (-1) c.cSeqs) = false := by
    rw [← Bool.not_eq_true, okC_iff]
    dsimp only
    omega
  have K2 : Hid (∀ wx : World, Calls Try.prog 7 #[.agg #[.int .i64 c.cB, .int .i64 c.cBeam, .int .i64 c.cDepth, .int .i64 c.cWin, .int .i64 c.cQs, .int .i64 c.cQr, .int .i64 c.cBatch, .int .i64 c.cPass, .int .i64 (-1), .int .i64 c.cSeqs]] wx fun e w' => e = .returned (.int .i64 1) ∧ Below wx.heap.size wx w') := fun wx => by
    have := ConfCheck_any (Cfg.mk c.cB c.cBeam c.cDepth c.cWin c.cQs c.cQr c.cBatch c.cPass (-1) c.cSeqs) wx
    rw [show checkA (Cfg.mk c.cB c.cBeam c.cDepth c.cWin c.cQs c.cQr c.cBatch c.cPass (-1) c.cSeqs) = 1 from (if_neg (by rw [o2]; decide))] at this
    exact this
  have G2 : Hid (∀ wx : World, Calls Try.prog 8 #[.agg #[.int .i64 c.cB, .int .i64 c.cBeam, .int .i64 c.cDepth, .int .i64 c.cWin, .int .i64 c.cQs, .int .i64 c.cQr, .int .i64 c.cBatch, .int .i64 c.cPass, .int .i64 (-1), .int .i64 c.cSeqs]] wx fun e w' => e = .returned (.int .i64 0) ∧ Below wx.heap.size wx w') := fun wx => by
    have := ConfSegs_any (Cfg.mk c.cB c.cBeam c.cDepth c.cWin c.cQs c.cQr c.cBatch c.cPass (-1) c.cSeqs) wx
    rw [show segsA (Cfg.mk c.cB c.cBeam c.cDepth c.cWin c.cQs c.cQr c.cBatch c.cPass (-1) c.cSeqs) = 0 from (if_neg (by rw [o2]; decide))] at this
    exact this
  have T2 : Hid (∀ wx : World, Calls Try.prog 11 #[.agg #[.int .i64 c.cB, .int .i64 c.cBeam, .int .i64 c.cDepth, .int .i64 c.cWin, .int .i64 c.cQs, .int .i64 c.cQr, .int .i64 c.cBatch, .int .i64 c.cPass, .int .i64 (-1), .int .i64 c.cSeqs]] wx fun e w' => e = .returned (.int .i64 0) ∧ Below wx.heap.size wx w') := fun wx => by
    have := ConfTicks_any (Cfg.mk c.cB c.cBeam c.cDepth c.cWin c.cQs c.cQr c.cBatch c.cPass (-1) c.cSeqs) wx
    rw [show ticksA (Cfg.mk c.cB c.cBeam c.cDepth c.cWin c.cQs c.cQr c.cBatch c.cPass (-1) c.cSeqs) = 0 from (if_neg (by rw [o2]; decide))] at this
    exact this
  have o3 : okC (Cfg.mk c.cB c.cBeam c.cDepth c.cWin c.cQs c.cQr c.cBatch c.cPass 201 c.cSeqs) = false := by
    rw [← Bool.not_eq_true, okC_iff]
    dsimp only
    omega
  have K3 : Hid (∀ wx : World, Calls Try.prog 7 #[.agg #[.int .i64 c.cB, .int .i64 c.cBeam, .int .i64 c.cDepth, .int .i64 c.cWin, .int .i64 c.cQs, .int .i64 c.cQr, .int .i64 c.cBatch, .int .i64 c.cPass, .int .i64 201, .int .i64 c.cSeqs]] wx fun e w' => e = .returned (.int .i64 1) ∧ Below wx.heap.size wx w') := fun wx => by
    have := ConfCheck_any (Cfg.mk c.cB c.cBeam c.cDepth c.cWin c.cQs c.cQr c.cBatch c.cPass 201 c.cSeqs) wx
    rw [show checkA (Cfg.mk c.cB c.cBeam c.cDepth c.cWin c.cQs c.cQr c.cBatch c.cPass 201 c.cSeqs) = 1 from (if_neg (by rw [o3]; decide))] at this
    exact this
  have G3 : Hid (∀ wx : World, Calls Try.prog 8 #[.agg #[.int .i64 c.cB, .int .i64 c.cBeam, .int .i64 c.cDepth, .int .i64 c.cWin, .int .i64 c.cQs, .int .i64 c.cQr, .int .i64 c.cBatch, .int .i64 c.cPass, .int .i64 201, .int .i64 c.cSeqs]] wx fun e w' => e = .returned (.int .i64 0) ∧ Below wx.heap.size wx w') := fun wx => by
    have := ConfSegs_any (Cfg.mk c.cB c.cBeam c.cDepth c.cWin c.cQs c.cQr c.cBatch c.cPass 201 c.cSeqs) wx
    rw [show segsA (Cfg.mk c.cB c.cBeam c.cDepth c.cWin c.cQs c.cQr c.cBatch c.cPass 201 c.cSeqs) = 0 from (if_neg (by rw [o3]; decide))] at this
    exact this
  have T3 : Hid (∀ wx : World, Calls Try.prog 11 #[.agg #[.int .i64 c.cB, .int .i64 c.cBeam, .int .i64 c.cDepth, .int .i64 c.cWin, .int .i64 c.cQs, .int .i64 c.cQr, .int .i64 c.cBatch, .int .i64 c.cPass, .int .i64 201, .int .i64 c.cSeqs]] wx fun e w' => e = .returned (.int .i64 0) ∧ Below wx.heap.size wx w') := fun wx => by
    have := ConfTicks_any (Cfg.mk c.cB c.cBeam c.cDepth c.cWin c.cQs c.cQr c.cBatch c.cPass 201 c.cSeqs) wx
    rw [show ticksA (Cfg.mk c.cB c.cBeam c.cDepth c.cWin c.cQs c.cQr c.cBatch c.cPass 201 c.cSeqs) = 0 from (if_neg (by rw [o3]; decide))] at this
    exact this
  have KC : Hid (∀ wx : World, Calls Try.prog 7 #[.agg #[.int .i64 c.cB, .int .i64 c.cBeam, .int .i64 c.cDepth, .int .i64 c.cWin, .int .i64 c.cQs, .int .i64 c.cQr, .int .i64 c.cBatch, .int .i64 c.cPass, .int .i64 c.cMsg, .int .i64 c.cSeqs]] wx fun e w' => e = .returned (.int .i64 0) ∧ Below wx.heap.size wx w') := fun wx => by
    have := ConfCheck_any c wx
    rw [show checkA c = 0 from (if_pos hA)] at this
    exact this
  have HC := refConfig_any c (w.alloc (.cells #[.int .i64 c.cB, .int .i64 c.cBeam, .int .i64 c.cDepth, .int .i64 c.cWin, .int .i64 c.cQs, .int .i64 c.cQr, .int .i64 c.cBatch, .int .i64 c.cPass, .int .i64 c.cMsg, .int .i64 c.cSeqs] 23))
  rw [hA] at HC
  clear hI hA o0 o1 o2 o3 hS0 b0_ hS1 b1_
  go_enter Try.func5, Try.ntmps5
  have cxa0 := xa.cell 0 _ rfl
  have cxa1 := xa.cell 1 _ rfl
  have cxa2 := xa.cell 2 _ rfl
  have cxa3 := xa.cell 3 _ rfl
  have cxa4 := xa.cell 4 _ rfl
  have cxa5 := xa.cell 5 _ rfl
  have cxa6 := xa.cell 6 _ rfl
  have cxa7 := xa.cell 7 _ rfl
  have cxa8 := xa.cell 8 _ rfl
  have cxa9 := xa.cell 9 _ rfl
  go_wp2_with fail
  refine (HC).mono ?_
  rintro e w1 ⟨rfl, b9⟩
  clear cxa0 cxa1 cxa2 cxa3 cxa4 cxa5 cxa6 cxa7 cxa8 cxa9
  replace xa := xa.next b9
  replace bb := bb.trans (b9.mono bb.size)
  clear b9
  clear HC
  have b9 : Below w1.heap.size w1 ((w1.alloc (.cells #[.int .i64 1, .int .i64 1, .int .i64 1, .int .i64 1, .int .i64 1, .int .i64 1, .int .i64 1, .int .i64 4, .int .i64 0, .int .i64 0] 3)).alloc (.cells #[.int .i64 16, .int .i64 16, .int .i64 3, .int .i64 16, .int .i64 16, .int .i64 16, .int .i64 64, .int .i64 16, .int .i64 200, .int .i64 1073741824] 3)) := ((Below.refl _ _).alloc (Nat.le_refl _) _).alloc (by simp) _
  have xl : Box ((w1.alloc (.cells #[.int .i64 1, .int .i64 1, .int .i64 1, .int .i64 1, .int .i64 1, .int .i64 1, .int .i64 1, .int .i64 4, .int .i64 0, .int .i64 0] 3)).alloc (.cells #[.int .i64 16, .int .i64 16, .int .i64 3, .int .i64 16, .int .i64 16, .int .i64 16, .int .i64 64, .int .i64 16, .int .i64 200, .int .i64 1073741824] 3)) w1.heap.size 3 #[.int .i64 1, .int .i64 1, .int .i64 1, .int .i64 1, .int .i64 1, .int .i64 1, .int .i64 1, .int .i64 4, .int .i64 0, .int .i64 0] := (Box.new w1 _ _).alloc _
  have xm : Box ((w1.alloc (.cells #[.int .i64 1, .int .i64 1, .int .i64 1, .int .i64 1, .int .i64 1, .int .i64 1, .int .i64 1, .int .i64 4, .int .i64 0, .int .i64 0] 3)).alloc (.cells #[.int .i64 16, .int .i64 16, .int .i64 3, .int .i64 16, .int .i64 16, .int .i64 16, .int .i64 64, .int .i64 16, .int .i64 200, .int .i64 1073741824] 3)) (w1.heap.size + 1) 3 #[.int .i64 16, .int .i64 16, .int .i64 3, .int .i64 16, .int .i64 16, .int .i64 16, .int .i64 64, .int .i64 16, .int .i64 200, .int .i64 1073741824] := by
    have := Box.new (w1.alloc (.cells #[.int .i64 1, .int .i64 1, .int .i64 1, .int .i64 1, .int .i64 1, .int .i64 1, .int .i64 1, .int .i64 4, .int .i64 0, .int .i64 0] 3)) 3 #[.int .i64 16, .int .i64 16, .int .i64 3, .int .i64 16, .int .i64 16, .int .i64 16, .int .i64 64, .int .i64 16, .int .i64 200, .int .i64 1073741824]
    simpa using this
  replace xa := xa.next b9
  replace bb := bb.trans (b9.mono bb.size)
  clear b9
  go_wp2
  generalize ((w1.alloc (.cells #[.int .i64 1, .int .i64 1, .int .i64 1, .int .i64 1, .int .i64 1, .int .i64 1, .int .i64 1, .int .i64 4, .int .i64 0, .int .i64 0] 3)).alloc (.cells #[.int .i64 16, .int .i64 16, .int .i64 3, .int .i64 16, .int .i64 16, .int .i64 16, .int .i64 64, .int .i64 16, .int .i64 200, .int .i64 1073741824] 3)) = w2 at *
  have wv2 : IntKind.i64.wrap (-1) = -1 := by rw [IntKind.wrap_i64]; decide
  have wv3 : IntKind.i64.wrap (201) = 201 := by rw [IntKind.wrap_i64]; decide
  have hltl := xl.lt
  have hltm := xm.lt
  have cl := xl.cell 8 _ rfl
  have cm := xm.cell 8 _ rfl
  skip
  go_cut [38, 39, 40] (fun s l i wx => ∃ B4, s = .slice (some ⟨B4, 0, none⟩) 4 4 ∧ l = .int .i64 4 ∧ i = .int .i64 0 ∧ Box wx B4 3 #[.int .i64 0, .int .i64 200, .int .i64 (-1), .int .i64 201] ∧ Below w2.heap.size w2 wx)
  case first =>
    refine wp_region_held_drew (S := fun w' => Below w2.heap.size w2 w') (by kernel_rfl) ((Below.refl _ _).drew) (fun hHeld => ?_)
    generalize w2.drew = wk0 at *
    refine held_take (i := 0) (d := 20) (v := ?v153) rfl rfl (by kernel_rfl) (by kernel_rfl) (by kernel_rfl) (fun _ _ _ h => h) (Or.inl ⟨by kernel_rfl, ?hy153⟩) hHeld ?rest153
    case hy153 =>
      intro wx hSw
      clear hSw
      go_simp
      with_reducible rfl
    simp only [List.setIfInBounds_toArray, List.set_cons_zero, List.set_cons_succ]
    refine held_take (i := 1) (d := 21) (v := ?v154) rfl rfl (by kernel_rfl) (by kernel_rfl) (by kernel_rfl) (fun _ _ _ h => h) (Or.inl ⟨by kernel_rfl, ?hy154⟩) hHeld ?rest154
    case hy154 =>
      intro wx hSw
      clear hSw
      go_simp
      with_reducible rfl
    simp only [List.setIfInBounds_toArray, List.set_cons_zero, List.set_cons_succ]
    refine held_take (i := 2) (d := 22) (v := ?v155) rfl rfl (by kernel_rfl) (by kernel_rfl) (by kernel_rfl) (fun _ _ _ h => h) (Or.inl ⟨by kernel_rfl, ?hy155⟩) hHeld ?rest155
    case hy155 =>
      intro wx hSw
      clear hSw
      go_simp
      with_reducible rfl
    simp only [List.setIfInBounds_toArray, List.set_cons_zero, List.set_cons_succ]
    refine held_take (i := 3) (d := 23) (v := ?v156) rfl rfl (by kernel_rfl) (by kernel_rfl) (by kernel_rfl) (fun _ _ _ h => h) (Or.inl ⟨by kernel_rfl, ?hy156⟩) hHeld ?rest156
    case hy156 =>
      intro wx hSw
      have q0 := (hSw.cell (p := ⟨w1.heap.size, 8, none⟩) hltl).trans cl
      clear hSw
      go_simp
      with_reducible rfl
    simp only [List.setIfInBounds_toArray, List.set_cons_zero, List.set_cons_succ]
    refine held_take (i := 4) (d := 24) (v := ?v157) rfl rfl (by kernel_rfl) (by kernel_rfl) (by kernel_rfl) (fun _ _ _ h => h) (Or.inl ⟨by kernel_rfl, ?hy157⟩) hHeld ?rest157
    case hy157 =>
      intro wx hSw
      clear hSw
      go_simp
      with_reducible rfl
    simp only [List.setIfInBounds_toArray, List.set_cons_zero, List.set_cons_succ]
    refine held_take (i := 5) (d := 25) (v := ?v158) rfl rfl (by kernel_rfl) (by kernel_rfl) (by kernel_rfl) (fun _ _ _ h => h) (Or.inl ⟨by kernel_rfl, ?hy158⟩) hHeld ?rest158
    case hy158 =>
      intro wx hSw
      clear hSw
      go_simp
      with_reducible rfl
    simp only [List.setIfInBounds_toArray, List.set_cons_zero, List.set_cons_succ]
    refine held_take (i := 6) (d := 26) (v := ?v159) rfl rfl (by kernel_rfl) (by kernel_rfl) (by kernel_rfl) (fun _ _ _ h => h) (Or.inl ⟨by kernel_rfl, ?hy159⟩) hHeld ?rest159
    case hy159 =>
      intro wx hSw
      clear hSw
      go_simp
      with_reducible rfl
    simp only [List.setIfInBounds_toArray, List.set_cons_zero, List.set_cons_succ]
    refine held_take (i := 7) (d := 27) (v := ?v160) rfl rfl (by kernel_rfl) (by kernel_rfl) (by kernel_rfl) (fun _ _ _ h => h) (Or.inl ⟨by kernel_rfl, ?hy160⟩) hHeld ?rest160
    case hy160 =>
      intro wx hSw
      have q0 := (hSw.cell (p := ⟨w1.heap.size + 1, 8, none⟩) hltm).trans cm
      clear hSw
      go_simp
      with_reducible rfl
    simp only [List.setIfInBounds_toArray, List.set_cons_zero, List.set_cons_succ]
    refine held_take (i := 8) (d := 28) (v := ?v161) rfl rfl (by kernel_rfl) (by kernel_rfl) (by kernel_rfl) (fun _ _ _ h => h) (Or.inl ⟨by kernel_rfl, ?hy161⟩) hHeld ?rest161
    case hy161 =>
      intro wx hSw
      clear hSw
      go_simp
      with_reducible rfl
    simp only [List.setIfInBounds_toArray, List.set_cons_zero, List.set_cons_succ]
    refine held_take (i := 9) (d := 29) (v := ?v162) rfl rfl (by kernel_rfl) (by kernel_rfl) (by kernel_rfl) (fun _ _ _ h => h) (Or.inl ⟨by kernel_rfl, ?hy162⟩) hHeld ?rest162
    case hy162 =>
      intro wx hSw
      clear hSw
      go_simp
      with_reducible rfl
    simp only [List.setIfInBounds_toArray, List.set_cons_zero, List.set_cons_succ]
    refine held_take (i := 10) (d := 30) (v := ?v163) rfl rfl (by kernel_rfl) (by kernel_rfl) (by kernel_rfl) (fun _ _ _ h => h) (Or.inl ⟨by kernel_rfl, ?hy163⟩) hHeld ?rest163
    case hy163 =>
      intro wx hSw
      clear hSw
      go_simp
      with_reducible rfl
    simp only [List.setIfInBounds_toArray, List.set_cons_zero, List.set_cons_succ]
    refine held_take (i := 11) (d := 31) (v := ?v164) rfl rfl (by kernel_rfl) (by kernel_rfl) (by kernel_rfl) (fun _ _ _ h => h) (Or.inl ⟨by kernel_rfl, ?hy164⟩) hHeld ?rest164
    case hy164 =>
      intro wx hSw
      have q0 := (hSw.cell (p := ⟨w1.heap.size, 8, none⟩) hltl).trans cl
      clear hSw
      go_simp
      with_reducible rfl
    simp only [List.setIfInBounds_toArray, List.set_cons_zero, List.set_cons_succ]
    refine held_take (i := 12) (d := 32) (v := ?v165) rfl rfl (by kernel_rfl) (by kernel_rfl) (by kernel_rfl) (fun _ _ _ h => h) (Or.inl ⟨by kernel_rfl, ?hy165⟩) hHeld ?rest165
    case hy165 =>
      intro wx hSw
      clear hSw
      go_simp
      with_reducible rfl
    simp only [List.setIfInBounds_toArray, List.set_cons_zero, List.set_cons_succ]
    refine held_take (i := 13) (d := 33) (v := ?v166) rfl rfl (by kernel_rfl) (by kernel_rfl) (by kernel_rfl) (fun _ _ _ h => h) (Or.inl ⟨by kernel_rfl, ?hy166⟩) hHeld ?rest166
    case hy166 =>
      intro wx hSw
      clear hSw
      go_simp
      with_reducible rfl
    simp only [List.setIfInBounds_toArray, List.set_cons_zero, List.set_cons_succ]
    refine held_take (i := 14) (d := 34) (v := ?v167) rfl rfl (by kernel_rfl) (by kernel_rfl) (by kernel_rfl) (fun _ _ _ h => h) (Or.inl ⟨by kernel_rfl, ?hy167⟩) hHeld ?rest167
    case hy167 =>
      intro wx hSw
      clear hSw
      go_simp
      with_reducible rfl
    simp only [List.setIfInBounds_toArray, List.set_cons_zero, List.set_cons_succ]
    refine held_take (i := 15) (d := 35) (v := ?v168) rfl rfl (by kernel_rfl) (by kernel_rfl) (by kernel_rfl) (fun _ _ _ h => h) (Or.inl ⟨by kernel_rfl, ?hy168⟩) hHeld ?rest168
    case hy168 =>
      intro wx hSw
      clear hSw
      go_simp
      with_reducible rfl
    simp only [List.setIfInBounds_toArray, List.set_cons_zero, List.set_cons_succ]
    refine held_take (i := 16) (d := 36) (v := ?v169) rfl rfl (by kernel_rfl) (by kernel_rfl) (by kernel_rfl) (fun _ _ _ h => h) (Or.inl ⟨by kernel_rfl, ?hy169⟩) hHeld ?rest169
    case hy169 =>
      intro wx hSw
      have q0 := (hSw.cell (p := ⟨w1.heap.size + 1, 8, none⟩) hltm).trans cm
      clear hSw
      go_simp
      with_reducible rfl
    simp only [List.setIfInBounds_toArray, List.set_cons_zero, List.set_cons_succ]
    refine held_take (i := 17) (d := 37) (v := ?v170) rfl rfl (by kernel_rfl) (by kernel_rfl) (by kernel_rfl) (fun _ _ _ h => h) (Or.inl ⟨by kernel_rfl, ?hy170⟩) hHeld ?rest170
    case hy170 =>
      intro wx hSw
      clear hSw
      go_simp
      with_reducible rfl
    simp only [List.setIfInBounds_toArray, List.set_cons_zero, List.set_cons_succ]
    refine held_take (i := 20) (d := 40) (v := ?v171) rfl rfl (by kernel_rfl) (by kernel_rfl) (by kernel_rfl) (fun _ _ _ h => h) (Or.inl ⟨by kernel_rfl, ?hy171⟩) hHeld ?rest171
    case hy171 =>
      intro wx hSw
      clear hSw
      go_simp
      with_reducible rfl
    simp only [List.setIfInBounds_toArray, List.set_cons_zero, List.set_cons_succ]
    refine wpAnyH_ready (rs := [18]) (by kernel_rfl) (by simp) ?_
    refine AllReadyH.cons rfl (fun K hK => ?_) AllReadyH.nil
    go_simp
    obtain ⟨B4, hB4⟩ : ∃ n, wk0.heap.size = n := ⟨_, rfl⟩
    have x4 := Box.new wk0 3 #[.int .i64 0, .int .i64 200, .int .i64 (-1), .int .i64 201]
    rw [hB4] at x4 ⊢
    have hS4 := hHeld.alloc hHeld.size (.cells #[.int .i64 0, .int .i64 200, .int .i64 (-1), .int .i64 201] 3)
    generalize wk0.alloc (.cells #[.int .i64 0, .int .i64 200, .int .i64 (-1), .int .i64 201] 3) = wk1 at *
    refine hK.out _ _ (hS4) (fun hHeld => ?_)
    clear hK K
    refine wpAnyH_ready (rs := [19]) (by kernel_rfl) (by simp) ?_
    refine AllReadyH.cons rfl (fun K hK => ?_) AllReadyH.nil
    go_simp
    refine hK.out _ _ hHeld (fun hHeld => ?_)
    clear hK K
    refine wpAnyH_done (by kernel_rfl) ?_ _
    go_wp2_with fail
    go_meet
    exact ⟨B4, rfl, rfl, rfl, x4, hHeld⟩
  case rest =>
    obtain ⟨B4, rfl, rfl, rfl, x4, b9⟩ := hcut
    clear cl cm hltl hltm
    replace xa := xa.next b9
    replace xl := xl.next b9
    replace xm := xm.next b9
    replace bb := bb.trans (b9.mono bb.size)
    clear b9 xl xm
    go_wp2_with fail
    go_loopw [40] (fun i wr => ∃ j : Nat, j ≤ 4 ∧ i = .int .i64 j ∧ Box wr w.heap.size 23 #[.int .i64 c.cB, .int .i64 c.cBeam, .int .i64 c.cDepth, .int .i64 c.cWin, .int .i64 c.cQs, .int .i64 c.cQr, .int .i64 c.cBatch, .int .i64 c.cPass, .int .i64 c.cMsg, .int .i64 c.cSeqs] ∧ Box wr B4 3 #[.int .i64 0, .int .i64 200, .int .i64 (-1), .int .i64 201] ∧ Below w.heap.size w wr) (fun i _ => 4 - (intOf i).toNat)
    case atStart => exact ⟨0, by omega, rfl, xa, x4, bb⟩
    case round =>
      clear xa x4 bb
      obtain ⟨j, hj, rfl, xa, x4, bb⟩ := hrel
      have hj5 : j = 0 ∨ j = 1 ∨ j = 2 ∨ j = 3 ∨ j = 4 := by omega
      clear hj
      rcases hj5 with rfl | rfl | rfl | rfl | rfl
      · have cxa0 := xa.cell 0 _ rfl
        have cxa1 := xa.cell 1 _ rfl
        have cxa2 := xa.cell 2 _ rfl
        have cxa3 := xa.cell 3 _ rfl
        have cxa4 := xa.cell 4 _ rfl
        have cxa5 := xa.cell 5 _ rfl
        have cxa6 := xa.cell 6 _ rfl
        have cxa7 := xa.cell 7 _ rfl
        have cxa8 := xa.cell 8 _ rfl
        have cxa9 := xa.cell 9 _ rfl
        have c4 := x4.cell 0 _ rfl
        have hlt4 := x4.lt
        have hlta := xa.lt
        have b9 : Below wr.heap.size wr (wr.alloc (.cells #[.int .i64 c.cB, .int .i64 c.cBeam, .int .i64 c.cDepth, .int .i64 c.cWin, .int .i64 c.cQs, .int .i64 c.cQr, .int .i64 c.cBatch, .int .i64 c.cPass, .int .i64 0, .int .i64 c.cSeqs] 23)) := (Below.refl _ _).alloc (Nat.le_refl _) _
        have xd := Box.new wr 23 #[.int .i64 c.cB, .int .i64 c.cBeam, .int .i64 c.cDepth, .int .i64 c.cWin, .int .i64 c.cQs, .int .i64 c.cQr, .int .i64 c.cBatch, .int .i64 c.cPass, .int .i64 0, .int .i64 c.cSeqs]
        go_wp2_with fail
        replace xa := xa.next b9
        replace x4 := x4.next b9
        replace bb := bb.trans (b9.mono bb.size)
        clear b9 c4 hlt4 hlta cxa0 cxa1 cxa2 cxa3 cxa4 cxa5 cxa6 cxa7 cxa8 cxa9
        refine (K0.out _).mono ?_
        rintro e w21 ⟨rfl, b9⟩
        replace xa := xa.next b9
        replace x4 := x4.next b9
        replace xd := xd.next b9
        replace bb := bb.trans (b9.mono bb.size)
        clear b9
        have cxd0 := xd.cell 0 _ rfl
        have cxd1 := xd.cell 1 _ rfl
        have cxd2 := xd.cell 2 _ rfl
        have cxd3 := xd.cell 3 _ rfl
        have cxd4 := xd.cell 4 _ rfl
        have cxd5 := xd.cell 5 _ rfl
        have cxd6 := xd.cell 6 _ rfl
        have cxd7 := xd.cell 7 _ rfl
        have cxd8 := xd.cell 8 _ rfl
        have cxd9 := xd.cell 9 _ rfl
        go_wp2_with fail
        refine (G0.out _).mono ?_
        rintro e w22 ⟨rfl, b9⟩
        clear cxd0 cxd1 cxd2 cxd3 cxd4 cxd5 cxd6 cxd7 cxd8 cxd9
        replace xa := xa.next b9
        replace x4 := x4.next b9
        replace xd := xd.next b9
        replace bb := bb.trans (b9.mono bb.size)
        clear b9
        go_wp2
        go_roundw
        case rel => exact ⟨1, by omega, by go_num, xa, x4, bb⟩
        case measure => simp [intOf]
      · have cxa0 := xa.cell 0 _ rfl
        have cxa1 := xa.cell 1 _ rfl
        have cxa2 := xa.cell 2 _ rfl
        have cxa3 := xa.cell 3 _ rfl
        have cxa4 := xa.cell 4 _ rfl
        have cxa5 := xa.cell 5 _ rfl
        have cxa6 := xa.cell 6 _ rfl
        have cxa7 := xa.cell 7 _ rfl
        have cxa8 := xa.cell 8 _ rfl
        have cxa9 := xa.cell 9 _ rfl
        have c4 := x4.cell 1 _ rfl
        have hlt4 := x4.lt
        have hlta := xa.lt
        have b9 : Below wr.heap.size wr (wr.alloc (.cells #[.int .i64 c.cB, .int .i64 c.cBeam, .int .i64 c.cDepth, .int .i64 c.cWin, .int .i64 c.cQs, .int .i64 c.cQr, .int .i64 c.cBatch, .int .i64 c.cPass, .int .i64 200, .int .i64 c.cSeqs] 23)) := (Below.refl _ _).alloc (Nat.le_refl _) _
        have xd := Box.new wr 23 #[.int .i64 c.cB, .int .i64 c.cBeam, .int .i64 c.cDepth, .int .i64 c.cWin, .int .i64 c.cQs, .int .i64 c.cQr, .int .i64 c.cBatch, .int .i64 c.cPass, .int .i64 200, .int .i64 c.cSeqs]
        go_wp2_with fail
        replace xa := xa.next b9
        replace x4 := x4.next b9
        replace bb := bb.trans (b9.mono bb.size)
        clear b9 c4 hlt4 hlta cxa0 cxa1 cxa2 cxa3 cxa4 cxa5 cxa6 cxa7 cxa8 cxa9
        refine (K1.out _).mono ?_
        rintro e w21 ⟨rfl, b9⟩
        replace xa := xa.next b9
        replace x4 := x4.next b9
        replace xd := xd.next b9
        replace bb := bb.trans (b9.mono bb.size)
        clear b9
        have cxd0 := xd.cell 0 _ rfl
        have cxd1 := xd.cell 1 _ rfl
        have cxd2 := xd.cell 2 _ rfl
        have cxd3 := xd.cell 3 _ rfl
        have cxd4 := xd.cell 4 _ rfl
        have cxd5 := xd.cell 5 _ rfl
        have cxd6 := xd.cell 6 _ rfl
        have cxd7 := xd.cell 7 _ rfl
        have cxd8 := xd.cell 8 _ rfl
        have cxd9 := xd.cell 9 _ rfl
        go_wp2_with fail
        refine (G1.out _).mono ?_
        rintro e w22 ⟨rfl, b9⟩
        clear cxd0 cxd1 cxd2 cxd3 cxd4 cxd5 cxd6 cxd7 cxd8 cxd9
        replace xa := xa.next b9
        replace x4 := x4.next b9
        replace xd := xd.next b9
        replace bb := bb.trans (b9.mono bb.size)
        clear b9
        go_wp2
        go_roundw
        case rel => exact ⟨2, by omega, by go_num, xa, x4, bb⟩
        case measure => simp [intOf]
      · have cxa0 := xa.cell 0 _ rfl
        have cxa1 := xa.cell 1 _ rfl
        have cxa2 := xa.cell 2 _ rfl
        have cxa3 := xa.cell 3 _ rfl
        have cxa4 := xa.cell 4 _ rfl
        have cxa5 := xa.cell 5 _ rfl
        have cxa6 := xa.cell 6 _ rfl
        have cxa7 := xa.cell 7 _ rfl
        have cxa8 := xa.cell 8 _ rfl
        have cxa9 := xa.cell 9 _ rfl
        have c4 := x4.cell 2 _ rfl
        have hlt4 := x4.lt
        have hlta := xa.lt
        have b9 : Below wr.heap.size wr (wr.alloc (.cells #[.int .i64 c.cB, .int .i64 c.cBeam, .int .i64 c.cDepth, .int .i64 c.cWin, .int .i64 c.cQs, .int .i64 c.cQr, .int .i64 c.cBatch, .int .i64 c.cPass, .int .i64 (-1), .int .i64 c.cSeqs] 23)) := (Below.refl _ _).alloc (Nat.le_refl _) _
        have xd := Box.new wr 23 #[.int .i64 c.cB, .int .i64 c.cBeam, .int .i64 c.cDepth, .int .i64 c.cWin, .int .i64 c.cQs, .int .i64 c.cQr, .int .i64 c.cBatch, .int .i64 c.cPass, .int .i64 (-1), .int .i64 c.cSeqs]
        go_wp2_with fail
        replace xa := xa.next b9
        replace x4 := x4.next b9
        replace bb := bb.trans (b9.mono bb.size)
        clear b9 c4 hlt4 hlta cxa0 cxa1 cxa2 cxa3 cxa4 cxa5 cxa6 cxa7 cxa8 cxa9
        refine (K2.out _).mono ?_
        rintro e w21 ⟨rfl, b9⟩
        replace xa := xa.next b9
        replace x4 := x4.next b9
        replace xd := xd.next b9
        replace bb := bb.trans (b9.mono bb.size)
        clear b9
        have cxd0 := xd.cell 0 _ rfl
        have cxd1 := xd.cell 1 _ rfl
        have cxd2 := xd.cell 2 _ rfl
        have cxd3 := xd.cell 3 _ rfl
        have cxd4 := xd.cell 4 _ rfl
        have cxd5 := xd.cell 5 _ rfl
        have cxd6 := xd.cell 6 _ rfl
        have cxd7 := xd.cell 7 _ rfl
        have cxd8 := xd.cell 8 _ rfl
        have cxd9 := xd.cell 9 _ rfl
        go_wp2_with fail
        refine (K2.out _).mono ?_
        rintro e w22 ⟨rfl, b9⟩
        clear cxd0 cxd1 cxd2 cxd3 cxd4 cxd5 cxd6 cxd7 cxd8 cxd9
        replace xa := xa.next b9
        replace x4 := x4.next b9
        replace xd := xd.next b9
        replace bb := bb.trans (b9.mono bb.size)
        clear b9
        have cxd0 := xd.cell 0 _ rfl
        have cxd1 := xd.cell 1 _ rfl
        have cxd2 := xd.cell 2 _ rfl
        have cxd3 := xd.cell 3 _ rfl
        have cxd4 := xd.cell 4 _ rfl
        have cxd5 := xd.cell 5 _ rfl
        have cxd6 := xd.cell 6 _ rfl
        have cxd7 := xd.cell 7 _ rfl
        have cxd8 := xd.cell 8 _ rfl
        have cxd9 := xd.cell 9 _ rfl
        go_wp2_with fail
        refine (G2.out _).mono ?_
        rintro e w23 ⟨rfl, b9⟩
        clear cxd0 cxd1 cxd2 cxd3 cxd4 cxd5 cxd6 cxd7 cxd8 cxd9
        replace xa := xa.next b9
        replace x4 := x4.next b9
        replace xd := xd.next b9
        replace bb := bb.trans (b9.mono bb.size)
        clear b9
        have cxd0 := xd.cell 0 _ rfl
        have cxd1 := xd.cell 1 _ rfl
        have cxd2 := xd.cell 2 _ rfl
        have cxd3 := xd.cell 3 _ rfl
        have cxd4 := xd.cell 4 _ rfl
        have cxd5 := xd.cell 5 _ rfl
        have cxd6 := xd.cell 6 _ rfl
        have cxd7 := xd.cell 7 _ rfl
        have cxd8 := xd.cell 8 _ rfl
        have cxd9 := xd.cell 9 _ rfl
        go_wp2_with fail
        refine (T2.out _).mono ?_
        rintro e w24 ⟨rfl, b9⟩
        clear cxd0 cxd1 cxd2 cxd3 cxd4 cxd5 cxd6 cxd7 cxd8 cxd9
        replace xa := xa.next b9
        replace x4 := x4.next b9
        replace xd := xd.next b9
        replace bb := bb.trans (b9.mono bb.size)
        clear b9
        go_wp2
        go_roundw
        case rel => exact ⟨3, by omega, by go_num, xa, x4, bb⟩
        case measure => simp [intOf]
      · have cxa0 := xa.cell 0 _ rfl
        have cxa1 := xa.cell 1 _ rfl
        have cxa2 := xa.cell 2 _ rfl
        have cxa3 := xa.cell 3 _ rfl
        have cxa4 := xa.cell 4 _ rfl
        have cxa5 := xa.cell 5 _ rfl
        have cxa6 := xa.cell 6 _ rfl
        have cxa7 := xa.cell 7 _ rfl
        have cxa8 := xa.cell 8 _ rfl
        have cxa9 := xa.cell 9 _ rfl
        have c4 := x4.cell 3 _ rfl
        have hlt4 := x4.lt
        have hlta := xa.lt
        have b9 : Below wr.heap.size wr (wr.alloc (.cells #[.int .i64 c.cB, .int .i64 c.cBeam, .int .i64 c.cDepth, .int .i64 c.cWin, .int .i64 c.cQs, .int .i64 c.cQr, .int .i64 c.cBatch, .int .i64 c.cPass, .int .i64 201, .int .i64 c.cSeqs] 23)) := (Below.refl _ _).alloc (Nat.le_refl _) _
        have xd := Box.new wr 23 #[.int .i64 c.cB, .int .i64 c.cBeam, .int .i64 c.cDepth, .int .i64 c.cWin, .int .i64 c.cQs, .int .i64 c.cQr, .int .i64 c.cBatch, .int .i64 c.cPass, .int .i64 201, .int .i64 c.cSeqs]
        go_wp2_with fail
        replace xa := xa.next b9
        replace x4 := x4.next b9
        replace bb := bb.trans (b9.mono bb.size)
        clear b9 c4 hlt4 hlta cxa0 cxa1 cxa2 cxa3 cxa4 cxa5 cxa6 cxa7 cxa8 cxa9
        refine (K3.out _).mono ?_
        rintro e w21 ⟨rfl, b9⟩
        replace xa := xa.next b9
        replace x4 := x4.next b9
        replace xd := xd.next b9
        replace bb := bb.trans (b9.mono bb.size)
        clear b9
        have cxd0 := xd.cell 0 _ rfl
        have cxd1 := xd.cell 1 _ rfl
        have cxd2 := xd.cell 2 _ rfl
        have cxd3 := xd.cell 3 _ rfl
        have cxd4 := xd.cell 4 _ rfl
        have cxd5 := xd.cell 5 _ rfl
        have cxd6 := xd.cell 6 _ rfl
        have cxd7 := xd.cell 7 _ rfl
        have cxd8 := xd.cell 8 _ rfl
        have cxd9 := xd.cell 9 _ rfl
        go_wp2_with fail
        refine (K3.out _).mono ?_
        rintro e w22 ⟨rfl, b9⟩
        clear cxd0 cxd1 cxd2 cxd3 cxd4 cxd5 cxd6 cxd7 cxd8 cxd9
        replace xa := xa.next b9
        replace x4 := x4.next b9
        replace xd := xd.next b9
        replace bb := bb.trans (b9.mono bb.size)
        clear b9
        have cxd0 := xd.cell 0 _ rfl
        have cxd1 := xd.cell 1 _ rfl
        have cxd2 := xd.cell 2 _ rfl
        have cxd3 := xd.cell 3 _ rfl
        have cxd4 := xd.cell 4 _ rfl
        have cxd5 := xd.cell 5 _ rfl
        have cxd6 := xd.cell 6 _ rfl
        have cxd7 := xd.cell 7 _ rfl
        have cxd8 := xd.cell 8 _ rfl
        have cxd9 := xd.cell 9 _ rfl
        go_wp2_with fail
        refine (G3.out _).mono ?_
        rintro e w23 ⟨rfl, b9⟩
        clear cxd0 cxd1 cxd2 cxd3 cxd4 cxd5 cxd6 cxd7 cxd8 cxd9
        replace xa := xa.next b9
        replace x4 := x4.next b9
        replace xd := xd.next b9
        replace bb := bb.trans (b9.mono bb.size)
        clear b9
        have cxd0 := xd.cell 0 _ rfl
        have cxd1 := xd.cell 1 _ rfl
        have cxd2 := xd.cell 2 _ rfl
        have cxd3 := xd.cell 3 _ rfl
        have cxd4 := xd.cell 4 _ rfl
        have cxd5 := xd.cell 5 _ rfl
        have cxd6 := xd.cell 6 _ rfl
        have cxd7 := xd.cell 7 _ rfl
        have cxd8 := xd.cell 8 _ rfl
        have cxd9 := xd.cell 9 _ rfl
        go_wp2_with fail
        refine (T3.out _).mono ?_
        rintro e w24 ⟨rfl, b9⟩
        clear cxd0 cxd1 cxd2 cxd3 cxd4 cxd5 cxd6 cxd7 cxd8 cxd9
        replace xa := xa.next b9
        replace x4 := x4.next b9
        replace xd := xd.next b9
        replace bb := bb.trans (b9.mono bb.size)
        clear b9
        go_wp2
        go_roundw
        case rel => exact ⟨4, by omega, by go_num, xa, x4, bb⟩
        case measure => simp [intOf]
      · have cxa0 := xa.cell 0 _ rfl
        have cxa1 := xa.cell 1 _ rfl
        have cxa2 := xa.cell 2 _ rfl
        have cxa3 := xa.cell 3 _ rfl
        have cxa4 := xa.cell 4 _ rfl
        have cxa5 := xa.cell 5 _ rfl
        have cxa6 := xa.cell 6 _ rfl
        have cxa7 := xa.cell 7 _ rfl
        have cxa8 := xa.cell 8 _ rfl
        have cxa9 := xa.cell 9 _ rfl
        go_wp2_with fail
        refine (KC.out _).mono ?_
        rintro e w21 ⟨rfl, b9⟩
        clear cxa0 cxa1 cxa2 cxa3 cxa4 cxa5 cxa6 cxa7 cxa8 cxa9
        replace xa := xa.next b9
        replace bb := bb.trans (b9.mono bb.size)
        clear b9
        have HWK := confWakes_any w21
        go_wp2_with (go_at_call 13; refine HWK.mono ?_; rintro e w99 ⟨rfl, b99⟩)
        go_ret
        exact ⟨rfl, bb.trans (b99.mono bb.size)⟩

end Go.Proofs.Ytnhmdhbemlpjnaa
