/-
  ConfEnds: the walk: whatever the configuration and the number, the law answers true, and nothing that lay has turned. (Written by tpl_confends.py.)
-/
import Derived.Test.YtnhmdhbemlpjnaaConfEndsA
import Derived.Test.YtnhmdhbemlpjnaaConfEndsB
import Derived.Test.YtnhmdhbemlpjnaaConfEndsC
import Derived.Deep.Cut
import Derived.Deep.CutRange
import Derived.Deep.DeepCutAuto
namespace Go.Proofs.Ytnhmdhbemlpjnaa
open Go.RowKit

set_option maxRecDepth 100000 in
set_option maxHeartbeats 4000000 in
theorem confEnds_9 (c : Cfg) (x : Int) (hA : okC c = true) (ek : (IntKind.u64.wrap x).tmod 10 = 9) (w : World) :
    Calls Try.prog 5 #[.agg #[.int .i64 c.cB, .int .i64 c.cBeam, .int .i64 c.cDepth, .int .i64 c.cWin, .int .i64 c.cQs, .int .i64 c.cQr, .int .i64 c.cBatch, .int .i64 c.cPass, .int .i64 c.cMsg, .int .i64 c.cSeqs], .int .i64 x] w fun e w' => e = .returned (.bool true) ∧ Below w.heap.size w w' := by
  have bb : Below w.heap.size w (w.alloc (.cells #[.int .i64 c.cB, .int .i64 c.cBeam, .int .i64 c.cDepth, .int .i64 c.cWin, .int .i64 c.cQs, .int .i64 c.cQr, .int .i64 c.cBatch, .int .i64 c.cPass, .int .i64 c.cMsg, .int .i64 c.cSeqs] 23)) := (Below.refl w.heap.size w).alloc (Nat.le_refl _) _
  have xa := Box.new w 23 #[.int .i64 c.cB, .int .i64 c.cBeam, .int .i64 c.cDepth, .int .i64 c.cWin, .int .i64 c.cQs, .int .i64 c.cQr, .int .i64 c.cBatch, .int .i64 c.cPass, .int .i64 c.cMsg, .int .i64 c.cSeqs]
  have hI := (okC_iff c).1 hA
  have o0 : okC (Cfg.mk c.cB c.cBeam c.cDepth c.cWin c.cQs c.cQr c.cBatch c.cPass c.cMsg 0) = true := (okC_iff _).2 (by dsimp only; omega)
  obtain ⟨S0, hS0⟩ : ∃ v, segsC (Cfg.mk c.cB c.cBeam c.cDepth c.cWin c.cQs c.cQr c.cBatch c.cPass c.cMsg 0) = v := ⟨_, rfl⟩
  have b0_ := (segsC_bd o0).1
  rw [hS0] at b0_
  have dS0 : decide (S0 < 22) = false := decide_eq_false (by omega)
  have K0 : Hid (∀ wx : World, Calls Try.prog 7 #[.agg #[.int .i64 c.cB, .int .i64 c.cBeam, .int .i64 c.cDepth, .int .i64 c.cWin, .int .i64 c.cQs, .int .i64 c.cQr, .int .i64 c.cBatch, .int .i64 c.cPass, .int .i64 c.cMsg, .int .i64 0]] wx fun e w' => e = .returned (.int .i64 0) ∧ Below wx.heap.size wx w') := fun wx => by
    have := ConfCheck_any (Cfg.mk c.cB c.cBeam c.cDepth c.cWin c.cQs c.cQr c.cBatch c.cPass c.cMsg 0) wx
    rw [show checkA (Cfg.mk c.cB c.cBeam c.cDepth c.cWin c.cQs c.cQr c.cBatch c.cPass c.cMsg 0) = 0 from (if_pos o0)] at this
    exact this
  have G0 : Hid (∀ wx : World, Calls Try.prog 8 #[.agg #[.int .i64 c.cB, .int .i64 c.cBeam, .int .i64 c.cDepth, .int .i64 c.cWin, .int .i64 c.cQs, .int .i64 c.cQr, .int .i64 c.cBatch, .int .i64 c.cPass, .int .i64 c.cMsg, .int .i64 0]] wx fun e w' => e = .returned (.int .i64 S0) ∧ Below wx.heap.size wx w') := fun wx => by
    have := ConfSegs_any (Cfg.mk c.cB c.cBeam c.cDepth c.cWin c.cQs c.cQr c.cBatch c.cPass c.cMsg 0) wx
    rw [show segsA (Cfg.mk c.cB c.cBeam c.cDepth c.cWin c.cQs c.cQr c.cBatch c.cPass c.cMsg 0) = S0 from (if_pos o0).trans hS0] at this
    exact this
  have o1 : okC (Cfg.mk c.cB c.cBeam c.cDepth c.cWin c.cQs c.cQr c.cBatch c.cPass c.cMsg 1073741824) = true := (okC_iff _).2 (by dsimp only; omega)
  obtain ⟨S1, hS1⟩ : ∃ v, segsC (Cfg.mk c.cB c.cBeam c.cDepth c.cWin c.cQs c.cQr c.cBatch c.cPass c.cMsg 1073741824) = v := ⟨_, rfl⟩
  have b1_ := (segsC_bd o1).1
  rw [hS1] at b1_
  have dS1 : decide (S1 < 22) = false := decide_eq_false (by omega)
  have K1 : Hid (∀ wx : World, Calls Try.prog 7 #[.agg #[.int .i64 c.cB, .int .i64 c.cBeam, .int .i64 c.cDepth, .int .i64 c.cWin, .int .i64 c.cQs, .int .i64 c.cQr, .int .i64 c.cBatch, .int .i64 c.cPass, .int .i64 c.cMsg, .int .i64 1073741824]] wx fun e w' => e = .returned (.int .i64 0) ∧ Below wx.heap.size wx w') := fun wx => by
    have := ConfCheck_any (Cfg.mk c.cB c.cBeam c.cDepth c.cWin c.cQs c.cQr c.cBatch c.cPass c.cMsg 1073741824) wx
    rw [show checkA (Cfg.mk c.cB c.cBeam c.cDepth c.cWin c.cQs c.cQr c.cBatch c.cPass c.cMsg 1073741824) = 0 from (if_pos o1)] at this
    exact this
  have G1 : Hid (∀ wx : World, Calls Try.prog 8 #[.agg #[.int .i64 c.cB, .int .i64 c.cBeam, .int .i64 c.cDepth, .int .i64 c.cWin, .int .i64 c.cQs, .int .i64 c.cQr, .int .i64 c.cBatch, .int .i64 c.cPass, .int .i64 c.cMsg, .int .i64 1073741824]] wx fun e w' => e = .returned (.int .i64 S1) ∧ Below wx.heap.size wx w') := fun wx => by
    have := ConfSegs_any (Cfg.mk c.cB c.cBeam c.cDepth c.cWin c.cQs c.cQr c.cBatch c.cPass c.cMsg 1073741824) wx
    rw [show segsA (Cfg.mk c.cB c.cBeam c.cDepth c.cWin c.cQs c.cQr c.cBatch c.cPass c.cMsg 1073741824) = S1 from (if_pos o1).trans hS1] at this
    exact this
  have o2 : okC (Cfg.mk c.cB c.cBeam c.cDepth c.cWin c.cQs c.cQr c.cBatch c.cPass c.cMsg (-1)) = false := by
    rw [← Bool.not_eq_true, okC_iff]
    dsimp only
    omega
  have K2 : Hid (∀ wx : World, Calls Try.prog 7 #[.agg #[.int .i64 c.cB, .int .i64 c.cBeam, .int .i64 c.cDepth, .int .i64 c.cWin, .int .i64 c.cQs, .int .i64 c.cQr, .int .i64 c.cBatch, .int .i64 c.cPass, .int .i64 c.cMsg, .int .i64 (-1)]] wx fun e w' => e = .returned (.int .i64 1) ∧ Below wx.heap.size wx w') := fun wx => by
    have := ConfCheck_any (Cfg.mk c.cB c.cBeam c.cDepth c.cWin c.cQs c.cQr c.cBatch c.cPass c.cMsg (-1)) wx
    rw [show checkA (Cfg.mk c.cB c.cBeam c.cDepth c.cWin c.cQs c.cQr c.cBatch c.cPass c.cMsg (-1)) = 1 from (if_neg (by rw [o2]; decide))] at this
    exact this
  have G2 : Hid (∀ wx : World, Calls Try.prog 8 #[.agg #[.int .i64 c.cB, .int .i64 c.cBeam, .int .i64 c.cDepth, .int .i64 c.cWin, .int .i64 c.cQs, .int .i64 c.cQr, .int .i64 c.cBatch, .int .i64 c.cPass, .int .i64 c.cMsg, .int .i64 (-1)]] wx fun e w' => e = .returned (.int .i64 0) ∧ Below wx.heap.size wx w') := fun wx => by
    have := ConfSegs_any (Cfg.mk c.cB c.cBeam c.cDepth c.cWin c.cQs c.cQr c.cBatch c.cPass c.cMsg (-1)) wx
    rw [show segsA (Cfg.mk c.cB c.cBeam c.cDepth c.cWin c.cQs c.cQr c.cBatch c.cPass c.cMsg (-1)) = 0 from (if_neg (by rw [o2]; decide))] at this
    exact this
  have T2 : Hid (∀ wx : World, Calls Try.prog 11 #[.agg #[.int .i64 c.cB, .int .i64 c.cBeam, .int .i64 c.cDepth, .int .i64 c.cWin, .int .i64 c.cQs, .int .i64 c.cQr, .int .i64 c.cBatch, .int .i64 c.cPass, .int .i64 c.cMsg, .int .i64 (-1)]] wx fun e w' => e = .returned (.int .i64 0) ∧ Below wx.heap.size wx w') := fun wx => by
    have := ConfTicks_any (Cfg.mk c.cB c.cBeam c.cDepth c.cWin c.cQs c.cQr c.cBatch c.cPass c.cMsg (-1)) wx
    rw [show ticksA (Cfg.mk c.cB c.cBeam c.cDepth c.cWin c.cQs c.cQr c.cBatch c.cPass c.cMsg (-1)) = 0 from (if_neg (by rw [o2]; decide))] at this
    exact this
  have o3 : okC (Cfg.mk c.cB c.cBeam c.cDepth c.cWin c.cQs c.cQr c.cBatch c.cPass c.cMsg 1073741825) = false := by
    rw [← Bool.not_eq_true, okC_iff]
    dsimp only
    omega
  have K3 : Hid (∀ wx : World, Calls Try.prog 7 #[.agg #[.int .i64 c.cB, .int .i64 c.cBeam, .int .i64 c.cDepth, .int .i64 c.cWin, .int .i64 c.cQs, .int .i64 c.cQr, .int .i64 c.cBatch, .int .i64 c.cPass, .int .i64 c.cMsg, .int .i64 1073741825]] wx fun e w' => e = .returned (.int .i64 1) ∧ Below wx.heap.size wx w') := fun wx => by
    have := ConfCheck_any (Cfg.mk c.cB c.cBeam c.cDepth c.cWin c.cQs c.cQr c.cBatch c.cPass c.cMsg 1073741825) wx
    rw [show checkA (Cfg.mk c.cB c.cBeam c.cDepth c.cWin c.cQs c.cQr c.cBatch c.cPass c.cMsg 1073741825) = 1 from (if_neg (by rw [o3]; decide))] at this
    exact this
  have G3 : Hid (∀ wx : World, Calls Try.prog 8 #[.agg #[.int .i64 c.cB, .int .i64 c.cBeam, .int .i64 c.cDepth, .int .i64 c.cWin, .int .i64 c.cQs, .int .i64 c.cQr, .int .i64 c.cBatch, .int .i64 c.cPass, .int .i64 c.cMsg, .int .i64 1073741825]] wx fun e w' => e = .returned (.int .i64 0) ∧ Below wx.heap.size wx w') := fun wx => by
    have := ConfSegs_any (Cfg.mk c.cB c.cBeam c.cDepth c.cWin c.cQs c.cQr c.cBatch c.cPass c.cMsg 1073741825) wx
    rw [show segsA (Cfg.mk c.cB c.cBeam c.cDepth c.cWin c.cQs c.cQr c.cBatch c.cPass c.cMsg 1073741825) = 0 from (if_neg (by rw [o3]; decide))] at this
    exact this
  have T3 : Hid (∀ wx : World, Calls Try.prog 11 #[.agg #[.int .i64 c.cB, .int .i64 c.cBeam, .int .i64 c.cDepth, .int .i64 c.cWin, .int .i64 c.cQs, .int .i64 c.cQr, .int .i64 c.cBatch, .int .i64 c.cPass, .int .i64 c.cMsg, .int .i64 1073741825]] wx fun e w' => e = .returned (.int .i64 0) ∧ Below wx.heap.size wx w') := fun wx => by
    have := ConfTicks_any (Cfg.mk c.cB c.cBeam c.cDepth c.cWin c.cQs c.cQr c.cBatch c.cPass c.cMsg 1073741825) wx
    rw [show ticksA (Cfg.mk c.cB c.cBeam c.cDepth c.cWin c.cQs c.cQr c.cBatch c.cPass c.cMsg 1073741825) = 0 from (if_neg (by rw [o3]; decide))] at this
    exact this
  have KC : Hid (∀ wx : World, Calls Try.prog 7 #[.agg #[.int .i64 c.cB, .int .i64 c.cBeam, .int .i64 c.cDepth, .int .i64 c.cWin, .int .i64 c.cQs, .int .i64 c.cQr, .int .i64 c.cBatch, .int .i64 c.cPass, .int .i64 c.cMsg, .int .i64 c.cSeqs]] wx fun e w' => e = .returned (.int .i64 0) ∧ Below wx.heap.size wx w') := fun wx => by
    have := ConfCheck_any c wx
    rw [show checkA c = 0 from (if_pos hA)] at this
    exact this
  have HC := refConfig_any c (w.alloc (.cells #[.int .i64 c.cB, .int .i64 c.cBeam, .int .i64 c.cDepth, .int .i64 c.cWin, .int .i64 c.cQs, .int .i64 c.cQr, .int .i64 c.cBatch, .int .i64 c.cPass, .int .i64 c.cMsg, .int .i64 c.cSeqs] 23))
  rw [hA] at HC
  clear hI hA o0 o1 o2 o3 hS0 b0_ hS1 b1_
  go_enter Try.func5, Try.ntmps5
  have cxa0 := xa.cell 0 _ rfl
  have cxa1 := xa.cell 1 _ rfl
  have cxa2 := xa.cell 2 _ rfl
  have cxa3 := xa.cell 3 _ rfl
  have cxa4 := xa.cell 4 _ rfl
  have cxa5 := xa.cell 5 _ rfl
  have cxa6 := xa.cell 6 _ rfl
  have cxa7 := xa.cell 7 _ rfl
  have cxa8 := xa.cell 8 _ rfl
  have cxa9 := xa.cell 9 _ rfl
  go_wp2_with fail
  refine (HC).mono ?_
  rintro e w1 ⟨rfl, b9⟩
  clear cxa0 cxa1 cxa2 cxa3 cxa4 cxa5 cxa6 cxa7 cxa8 cxa9
  replace xa := xa.next b9
  replace bb := bb.trans (b9.mono bb.size)
  clear b9
  clear HC
  have b9 : Below w1.heap.size w1 ((w1.alloc (.cells #[.int .i64 1, .int .i64 1, .int .i64 1, .int .i64 1, .int .i64 1, .int .i64 1, .int .i64 1, .int .i64 4, .int .i64 0, .int .i64 0] 3)).alloc (.cells #[.int .i64 16, .int .i64 16, .int .i64 3, .int .i64 16, .int .i64 16, .int .i64 16, .int .i64 64, .int .i64 16, .int .i64 200, .int .i64 1073741824] 3)) := ((Below.refl _ _).alloc (Nat.le_refl _) _).alloc (by simp) _
  have xl : Box ((w1.alloc (.cells #[.int .i64 1, .int .i64 1, .int .i64 1, .int .i64 1, .int .i64 1, .int .i64 1, .int .i64 1, .int .i64 4, .int .i64 0, .int .i64 0] 3)).alloc (.cells #[.int .i64 16, .int .i64 16, .int .i64 3, .int .i64 16, .int .i64 16, .int .i64 16, .int .i64 64, .int .i64 16, .int .i64 200, .int .i64 1073741824] 3)) w1.heap.size 3 #[.int .i64 1, .int .i64 1, .int .i64 1, .int .i64 1, .int .i64 1, .int .i64 1, .int .i64 1, .int .i64 4, .int .i64 0, .int .i64 0] := (Box.new w1 _ _).alloc _
  have xm : Box ((w1.alloc (.cells #[.int .i64 1, .int .i64 1, .int .i64 1, .int .i64 1, .int .i64 1, .int .i64 1, .int .i64 1, .int .i64 4, .int .i64 0, .int .i64 0] 3)).alloc (.cells #[.int .i64 16, .int .i64 16, .int .i64 3, .int .i64 16, .int .i64 16, .int .i64 16, .int .i64 64, .int .i64 16, .int .i64 200, .int .i64 1073741824] 3)) (w1.heap.size + 1) 3 #[.int .i64 16, .int .i64 16, .int .i64 3, .int .i64 16, .int .i64 16, .int .i64 16, .int .i64 64, .int .i64 16, .int .i64 200, .int .i64 1073741824] := by
    have := Box.new (w1.alloc (.cells #[.int .i64 1, .int .i64 1, .int .i64 1, .int .i64 1, .int .i64 1, .int .i64 1, .int .i64 1, .int .i64 4, .int .i64 0, .int .i64 0] 3)) 3 #[.int .i64 16, .int .i64 16, .int .i64 3, .int .i64 16, .int .i64 16, .int .i64 16, .int .i64 64, .int .i64 16, .int .i64 200, .int .i64 1073741824]
    simpa using this
  replace xa := xa.next b9
  replace bb := bb.trans (b9.mono bb.size)
  clear b9
  go_wp2
  generalize ((w1.alloc (.cells #[.int .i64 1, .int .i64 1, .int .i64 1, .int .i64 1, .int .i64 1, .int .i64 1, .int .i64 1, .int .i64 4, .int .i64 0, .int .i64 0] 3)).alloc (.cells #[.int .i64 16, .int .i64 16, .int .i64 3, .int .i64 16, .int .i64 16, .int .i64 16, .int .i64 64, .int .i64 16, .int .i64 200, .int .i64 1073741824] 3)) = w2 at *
  have wv2 : IntKind.i64.wrap (-1) = -1 := by rw [IntKind.wrap_i64]; decide
  have wv3 : IntKind.i64.wrap (1073741825) = 1073741825 := by rw [IntKind.wrap_i64]; decide
  have hltl := xl.lt
  have hltm := xm.lt
  have cl := xl.cell 9 _ rfl
  have cm := xm.cell 9 _ rfl
  skip
  go_cut [38, 39, 40] (fun s l i wx => ∃ B4, s = .slice (some ⟨B4, 0, none⟩) 4 4 ∧ l = .int .i64 4 ∧ i = .int .i64 0 ∧ Box wx B4 3 #[.int .i64 0, .int .i64 1073741824, .int .i64 (-1), .int .i64 1073741825] ∧ Below w2.heap.size w2 wx)
  case first =>
    refine wp_region_held_drew (S := fun w' => Below w2.heap.size w2 w') (by kernel_rfl) ((Below.refl _ _).drew) (fun hHeld => ?_)
    generalize w2.drew = wk0 at *
    refine held_take (i := 0) (d := 20) (v := ?v172) rfl rfl (by kernel_rfl) (by kernel_rfl) (by kernel_rfl) (fun _ _ _ h => h) (Or.inl ⟨by kernel_rfl, ?hy172⟩) hHeld ?rest172
    case hy172 =>
      intro wx hSw
      clear hSw
      go_simp
      with_reducible rfl
    simp only [List.setIfInBounds_toArray, List.set_cons_zero, List.set_cons_succ]
    refine held_take (i := 1) (d := 21) (v := ?v173) rfl rfl (by kernel_rfl) (by kernel_rfl) (by kernel_rfl) (fun _ _ _ h => h) (Or.inl ⟨by kernel_rfl, ?hy173⟩) hHeld ?rest173
    case hy173 =>
      intro wx hSw
      clear hSw
      go_simp
      with_reducible rfl
    simp only [List.setIfInBounds_toArray, List.set_cons_zero, List.set_cons_succ]
    refine held_take (i := 2) (d := 22) (v := ?v174) rfl rfl (by kernel_rfl) (by kernel_rfl) (by kernel_rfl) (fun _ _ _ h => h) (Or.inl ⟨by kernel_rfl, ?hy174⟩) hHeld ?rest174
    case hy174 =>
      intro wx hSw
      clear hSw
      go_simp
      with_reducible rfl
    simp only [List.setIfInBounds_toArray, List.set_cons_zero, List.set_cons_succ]
    refine held_take (i := 3) (d := 23) (v := ?v175) rfl rfl (by kernel_rfl) (by kernel_rfl) (by kernel_rfl) (fun _ _ _ h => h) (Or.inl ⟨by kernel_rfl, ?hy175⟩) hHeld ?rest175
    case hy175 =>
      intro wx hSw
      have q0 := (hSw.cell (p := ⟨w1.heap.size, 9, none⟩) hltl).trans cl
      clear hSw
      go_simp
      with_reducible rfl
    simp only [List.setIfInBounds_toArray, List.set_cons_zero, List.set_cons_succ]
    refine held_take (i := 4) (d := 24) (v := ?v176) rfl rfl (by kernel_rfl) (by kernel_rfl) (by kernel_rfl) (fun _ _ _ h => h) (Or.inl ⟨by kernel_rfl, ?hy176⟩) hHeld ?rest176
    case hy176 =>
      intro wx hSw
      clear hSw
      go_simp
      with_reducible rfl
    simp only [List.setIfInBounds_toArray, List.set_cons_zero, List.set_cons_succ]
    refine held_take (i := 5) (d := 25) (v := ?v177) rfl rfl (by kernel_rfl) (by kernel_rfl) (by kernel_rfl) (fun _ _ _ h => h) (Or.inl ⟨by kernel_rfl, ?hy177⟩) hHeld ?rest177
    case hy177 =>
      intro wx hSw
      clear hSw
      go_simp
      with_reducible rfl
    simp only [List.setIfInBounds_toArray, List.set_cons_zero, List.set_cons_succ]
    refine held_take (i := 6) (d := 26) (v := ?v178) rfl rfl (by kernel_rfl) (by kernel_rfl) (by kernel_rfl) (fun _ _ _ h => h) (Or.inl ⟨by kernel_rfl, ?hy178⟩) hHeld ?rest178
    case hy178 =>
      intro wx hSw
      clear hSw
      go_simp
      with_reducible rfl
    simp only [List.setIfInBounds_toArray, List.set_cons_zero, List.set_cons_succ]
    refine held_take (i := 7) (d := 27) (v := ?v179) rfl rfl (by kernel_rfl) (by kernel_rfl) (by kernel_rfl) (fun _ _ _ h => h) (Or.inl ⟨by kernel_rfl, ?hy179⟩) hHeld ?rest179
    case hy179 =>
      intro wx hSw
      have q0 := (hSw.cell (p := ⟨w1.heap.size + 1, 9, none⟩) hltm).trans cm
      clear hSw
      go_simp
      with_reducible rfl
    simp only [List.setIfInBounds_toArray, List.set_cons_zero, List.set_cons_succ]
    refine held_take (i := 8) (d := 28) (v := ?v180) rfl rfl (by kernel_rfl) (by kernel_rfl) (by kernel_rfl) (fun _ _ _ h => h) (Or.inl ⟨by kernel_rfl, ?hy180⟩) hHeld ?rest180
    case hy180 =>
      intro wx hSw
      clear hSw
      go_simp
      with_reducible rfl
    simp only [List.setIfInBounds_toArray, List.set_cons_zero, List.set_cons_succ]
    refine held_take (i := 9) (d := 29) (v := ?v181) rfl rfl (by kernel_rfl) (by kernel_rfl) (by kernel_rfl) (fun _ _ _ h => h) (Or.inl ⟨by kernel_rfl, ?hy181⟩) hHeld ?rest181
    case hy181 =>
      intro wx hSw
      clear hSw
      go_simp
      with_reducible rfl
    simp only [List.setIfInBounds_toArray, List.set_cons_zero, List.set_cons_succ]
    refine held_take (i := 10) (d := 30) (v := ?v182) rfl rfl (by kernel_rfl) (by kernel_rfl) (by kernel_rfl) (fun _ _ _ h => h) (Or.inl ⟨by kernel_rfl, ?hy182⟩) hHeld ?rest182
    case hy182 =>
      intro wx hSw
      clear hSw
      go_simp
      with_reducible rfl
    simp only [List.setIfInBounds_toArray, List.set_cons_zero, List.set_cons_succ]
    refine held_take (i := 11) (d := 31) (v := ?v183) rfl rfl (by kernel_rfl) (by kernel_rfl) (by kernel_rfl) (fun _ _ _ h => h) (Or.inl ⟨by kernel_rfl, ?hy183⟩) hHeld ?rest183
    case hy183 =>
      intro wx hSw
      have q0 := (hSw.cell (p := ⟨w1.heap.size, 9, none⟩) hltl).trans cl
      clear hSw
      go_simp
      with_reducible rfl
    simp only [List.setIfInBounds_toArray, List.set_cons_zero, List.set_cons_succ]
    refine held_take (i := 12) (d := 32) (v := ?v184) rfl rfl (by kernel_rfl) (by kernel_rfl) (by kernel_rfl) (fun _ _ _ h => h) (Or.inl ⟨by kernel_rfl, ?hy184⟩) hHeld ?rest184
    case hy184 =>
      intro wx hSw
      clear hSw
      go_simp
      with_reducible rfl
    simp only [List.setIfInBounds_toArray, List.set_cons_zero, List.set_cons_succ]
    refine held_take (i := 13) (d := 33) (v := ?v185) rfl rfl (by kernel_rfl) (by kernel_rfl) (by kernel_rfl) (fun _ _ _ h => h) (Or.inl ⟨by kernel_rfl, ?hy185⟩) hHeld ?rest185
    case hy185 =>
      intro wx hSw
      clear hSw
      go_simp
      with_reducible rfl
    simp only [List.setIfInBounds_toArray, List.set_cons_zero, List.set_cons_succ]
    refine held_take (i := 14) (d := 34) (v := ?v186) rfl rfl (by kernel_rfl) (by kernel_rfl) (by kernel_rfl) (fun _ _ _ h => h) (Or.inl ⟨by kernel_rfl, ?hy186⟩) hHeld ?rest186
    case hy186 =>
      intro wx hSw
      clear hSw
      go_simp
      with_reducible rfl
    simp only [List.setIfInBounds_toArray, List.set_cons_zero, List.set_cons_succ]
    refine held_take (i := 15) (d := 35) (v := ?v187) rfl rfl (by kernel_rfl) (by kernel_rfl) (by kernel_rfl) (fun _ _ _ h => h) (Or.inl ⟨by kernel_rfl, ?hy187⟩) hHeld ?rest187
    case hy187 =>
      intro wx hSw
      clear hSw
      go_simp
      with_reducible rfl
    simp only [List.setIfInBounds_toArray, List.set_cons_zero, List.set_cons_succ]
    refine held_take (i := 16) (d := 36) (v := ?v188) rfl rfl (by kernel_rfl) (by kernel_rfl) (by kernel_rfl) (fun _ _ _ h => h) (Or.inl ⟨by kernel_rfl, ?hy188⟩) hHeld ?rest188
    case hy188 =>
      intro wx hSw
      have q0 := (hSw.cell (p := ⟨w1.heap.size + 1, 9, none⟩) hltm).trans cm
      clear hSw
      go_simp
      with_reducible rfl
    simp only [List.setIfInBounds_toArray, List.set_cons_zero, List.set_cons_succ]
    refine held_take (i := 17) (d := 37) (v := ?v189) rfl rfl (by kernel_rfl) (by kernel_rfl) (by kernel_rfl) (fun _ _ _ h => h) (Or.inl ⟨by kernel_rfl, ?hy189⟩) hHeld ?rest189
    case hy189 =>
      intro wx hSw
      clear hSw
      go_simp
      with_reducible rfl
    simp only [List.setIfInBounds_toArray, List.set_cons_zero, List.set_cons_succ]
    refine held_take (i := 20) (d := 40) (v := ?v190) rfl rfl (by kernel_rfl) (by kernel_rfl) (by kernel_rfl) (fun _ _ _ h => h) (Or.inl ⟨by kernel_rfl, ?hy190⟩) hHeld ?rest190
    case hy190 =>
      intro wx hSw
      clear hSw
      go_simp
      with_reducible rfl
    simp only [List.setIfInBounds_toArray, List.set_cons_zero, List.set_cons_succ]
    refine wpAnyH_ready (rs := [18]) (by kernel_rfl) (by simp) ?_
    refine AllReadyH.cons rfl (fun K hK => ?_) AllReadyH.nil
    go_simp
    obtain ⟨B4, hB4⟩ : ∃ n, wk0.heap.size = n := ⟨_, rfl⟩
    have x4 := Box.new wk0 3 #[.int .i64 0, .int .i64 1073741824, .int .i64 (-1), .int .i64 1073741825]
    rw [hB4] at x4 ⊢
    have hS4 := hHeld.alloc hHeld.size (.cells #[.int .i64 0, .int .i64 1073741824, .int .i64 (-1), .int .i64 1073741825] 3)
    generalize wk0.alloc (.cells #[.int .i64 0, .int .i64 1073741824, .int .i64 (-1), .int .i64 1073741825] 3) = wk1 at *
    refine hK.out _ _ (hS4) (fun hHeld => ?_)
    clear hK K
    refine wpAnyH_ready (rs := [19]) (by kernel_rfl) (by simp) ?_
    refine AllReadyH.cons rfl (fun K hK => ?_) AllReadyH.nil
    go_simp
    refine hK.out _ _ hHeld (fun hHeld => ?_)
    clear hK K
    refine wpAnyH_done (by kernel_rfl) ?_ _
    go_wp2_with fail
    go_meet
    exact ⟨B4, rfl, rfl, rfl, x4, hHeld⟩
  case rest =>
    obtain ⟨B4, rfl, rfl, rfl, x4, b9⟩ := hcut
    clear cl cm hltl hltm
    replace xa := xa.next b9
    replace xl := xl.next b9
    replace xm := xm.next b9
    replace bb := bb.trans (b9.mono bb.size)
    clear b9 xl xm
    go_wp2_with fail
    go_loopw [40] (fun i wr => ∃ j : Nat, j ≤ 4 ∧ i = .int .i64 j ∧ Box wr w.heap.size 23 #[.int .i64 c.cB, .int .i64 c.cBeam, .int .i64 c.cDepth, .int .i64 c.cWin, .int .i64 c.cQs, .int .i64 c.cQr, .int .i64 c.cBatch, .int .i64 c.cPass, .int .i64 c.cMsg, .int .i64 c.cSeqs] ∧ Box wr B4 3 #[.int .i64 0, .int .i64 1073741824, .int .i64 (-1), .int .i64 1073741825] ∧ Below w.heap.size w wr) (fun i _ => 4 - (intOf i).toNat)
    case atStart => exact ⟨0, by omega, rfl, xa, x4, bb⟩
    case round =>
      clear xa x4 bb
      obtain ⟨j, hj, rfl, xa, x4, bb⟩ := hrel
      have hj5 : j = 0 ∨ j = 1 ∨ j = 2 ∨ j = 3 ∨ j = 4 := by omega
      clear hj
      rcases hj5 with rfl | rfl | rfl | rfl | rfl
      · have cxa0 := xa.cell 0 _ rfl
        have cxa1 := xa.cell 1 _ rfl
        have cxa2 := xa.cell 2 _ rfl
        have cxa3 := xa.cell 3 _ rfl
        have cxa4 := xa.cell 4 _ rfl
        have cxa5 := xa.cell 5 _ rfl
        have cxa6 := xa.cell 6 _ rfl
        have cxa7 := xa.cell 7 _ rfl
        have cxa8 := xa.cell 8 _ rfl
        have cxa9 := xa.cell 9 _ rfl
        have c4 := x4.cell 0 _ rfl
        have hlt4 := x4.lt
        have hlta := xa.lt
        have b9 : Below wr.heap.size wr (wr.alloc (.cells #[.int .i64 c.cB, .int .i64 c.cBeam, .int .i64 c.cDepth, .int .i64 c.cWin, .int .i64 c.cQs, .int .i64 c.cQr, .int .i64 c.cBatch, .int .i64 c.cPass, .int .i64 c.cMsg, .int .i64 0] 23)) := (Below.refl _ _).alloc (Nat.le_refl _) _
        have xd := Box.new wr 23 #[.int .i64 c.cB, .int .i64 c.cBeam, .int .i64 c.cDepth, .int .i64 c.cWin, .int .i64 c.cQs, .int .i64 c.cQr, .int .i64 c.cBatch, .int .i64 c.cPass, .int .i64 c.cMsg, .int .i64 0]
        go_wp2_with fail
        replace xa := xa.next b9
        replace x4 := x4.next b9
        replace bb := bb.trans (b9.mono bb.size)
        clear b9 c4 hlt4 hlta cxa0 cxa1 cxa2 cxa3 cxa4 cxa5 cxa6 cxa7 cxa8 cxa9
        refine (K0.out _).mono ?_
        rintro e w21 ⟨rfl, b9⟩
        replace xa := xa.next b9
        replace x4 := x4.next b9
        replace xd := xd.next b9
        replace bb := bb.trans (b9.mono bb.size)
        clear b9
        have cxd0 := xd.cell 0 _ rfl
        have cxd1 := xd.cell 1 _ rfl
        have cxd2 := xd.cell 2 _ rfl
        have cxd3 := xd.cell 3 _ rfl
        have cxd4 := xd.cell 4 _ rfl
        have cxd5 := xd.cell 5 _ rfl
        have cxd6 := xd.cell 6 _ rfl
        have cxd7 := xd.cell 7 _ rfl
        have cxd8 := xd.cell 8 _ rfl
        have cxd9 := xd.cell 9 _ rfl
        go_wp2_with fail
        refine (G0.out _).mono ?_
        rintro e w22 ⟨rfl, b9⟩
        clear cxd0 cxd1 cxd2 cxd3 cxd4 cxd5 cxd6 cxd7 cxd8 cxd9
        replace xa := xa.next b9
        replace x4 := x4.next b9
        replace xd := xd.next b9
        replace bb := bb.trans (b9.mono bb.size)
        clear b9
        go_wp2
        go_roundw
        case rel => exact ⟨1, by omega, by go_num, xa, x4, bb⟩
        case measure => simp [intOf]
      · have cxa0 := xa.cell 0 _ rfl
        have cxa1 := xa.cell 1 _ rfl
        have cxa2 := xa.cell 2 _ rfl
        have cxa3 := xa.cell 3 _ rfl
        have cxa4 := xa.cell 4 _ rfl
        have cxa5 := xa.cell 5 _ rfl
        have cxa6 := xa.cell 6 _ rfl
        have cxa7 := xa.cell 7 _ rfl
        have cxa8 := xa.cell 8 _ rfl
        have cxa9 := xa.cell 9 _ rfl
        have c4 := x4.cell 1 _ rfl
        have hlt4 := x4.lt
        have hlta := xa.lt
        have b9 : Below wr.heap.size wr (wr.alloc (.cells #[.int .i64 c.cB, .int .i64 c.cBeam, .int .i64 c.cDepth, .int .i64 c.cWin, .int .i64 c.cQs, .int .i64 c.cQr, .int .i64 c.cBatch, .int .i64 c.cPass, .int .i64 c.cMsg, .int .i64 1073741824] 23)) := (Below.refl _ _).alloc (Nat.le_refl _) _
        have xd := Box.new wr 23 #[.int .i64 c.cB, .int .i64 c.cBeam, .int .i64 c.cDepth, .int .i64 c.cWin, .int .i64 c.cQs, .int .i64 c.cQr, .int .i64 c.cBatch, .int .i64 c.cPass, .int .i64 c.cMsg, .int .i64 1073741824]
        go_wp2_with fail
        replace xa := xa.next b9
        replace x4 := x4.next b9
        replace bb := bb.trans (b9.mono bb.size)
        clear b9 c4 hlt4 hlta cxa0 cxa1 cxa2 cxa3 cxa4 cxa5 cxa6 cxa7 cxa8 cxa9
        refine (K1.out _).mono ?_
        rintro e w21 ⟨rfl, b9⟩
        replace xa := xa.next b9
        replace x4 := x4.next b9
        replace xd := xd.next b9
        replace bb := bb.trans (b9.mono bb.size)
        clear b9
        have cxd0 := xd.cell 0 _ rfl
        have cxd1 := xd.cell 1 _ rfl
        have cxd2 := xd.cell 2 _ rfl
        have cxd3 := xd.cell 3 _ rfl
        have cxd4 := xd.cell 4 _ rfl
        have cxd5 := xd.cell 5 _ rfl
        have cxd6 := xd.cell 6 _ rfl
        have cxd7 := xd.cell 7 _ rfl
        have cxd8 := xd.cell 8 _ rfl
        have cxd9 := xd.cell 9 _ rfl
        go_wp2_with fail
        refine (G1.out _).mono ?_
        rintro e w22 ⟨rfl, b9⟩
        clear cxd0 cxd1 cxd2 cxd3 cxd4 cxd5 cxd6 cxd7 cxd8 cxd9
        replace xa := xa.next b9
        replace x4 := x4.next b9
        replace xd := xd.next b9
        replace bb := bb.trans (b9.mono bb.size)
        clear b9
        go_wp2
        go_roundw
        case rel => exact ⟨2, by omega, by go_num, xa, x4, bb⟩
        case measure => simp [intOf]
      · have cxa0 := xa.cell 0 _ rfl
        have cxa1 := xa.cell 1 _ rfl
        have cxa2 := xa.cell 2 _ rfl
        have cxa3 := xa.cell 3 _ rfl
        have cxa4 := xa.cell 4 _ rfl
        have cxa5 := xa.cell 5 _ rfl
        have cxa6 := xa.cell 6 _ rfl
        have cxa7 := xa.cell 7 _ rfl
        have cxa8 := xa.cell 8 _ rfl
        have cxa9 := xa.cell 9 _ rfl
        have c4 := x4.cell 2 _ rfl
        have hlt4 := x4.lt
        have hlta := xa.lt
        have b9 : Below wr.heap.size wr (wr.alloc (.cells #[.int .i64 c.cB, .int .i64 c.cBeam, .int .i64 c.cDepth, .int .i64 c.cWin, .int .i64 c.cQs, .int .i64 c.cQr, .int .i64 c.cBatch, .int .i64 c.cPass, .int .i64 c.cMsg, .int .i64 (-1)] 23)) := (Below.refl _ _).alloc (Nat.le_refl _) _
        have xd := Box.new wr 23 #[.int .i64 c.cB, .int .i64 c.cBeam, .int .i64 c.cDepth, .int .i64 c.cWin, .int .i64 c.cQs, .int .i64 c.cQr, .int .i64 c.cBatch, .int .i64 c.cPass, .int .i64 c.cMsg, .int .i64 (-1)]
        go_wp2_with fail
        replace xa := xa.next b9
        replace x4 := x4.next b9
        replace bb := bb.trans (b9.mono bb.size)
        clear b9 c4 hlt4 hlta cxa0 cxa1 cxa2 cxa3 cxa4 cxa5 cxa6 cxa7 cxa8 cxa9
        refine (K2.out _).mono ?_
        rintro e w21 ⟨rfl, b9⟩
        replace xa := xa.next b9
        replace x4 := x4.next b9
        replace xd := xd.next b9
        replace bb := bb.trans (b9.mono bb.size)
        clear b9
        have cxd0 := xd.cell 0 _ rfl
        have cxd1 := xd.cell 1 _ rfl
        have cxd2 := xd.cell 2 _ rfl
        have cxd3 := xd.cell 3 _ rfl
        have cxd4 := xd.cell 4 _ rfl
        have cxd5 := xd.cell 5 _ rfl
        have cxd6 := xd.cell 6 _ rfl
        have cxd7 := xd.cell 7 _ rfl
        have cxd8 := xd.cell 8 _ rfl
        have cxd9 := xd.cell 9 _ rfl
        go_wp2_with fail
        refine (K2.out _).mono ?_
        rintro e w22 ⟨rfl, b9⟩
        clear cxd0 cxd1 cxd2 cxd3 cxd4 cxd5 cxd6 cxd7 cxd8 cxd9
        replace xa := xa.next b9
        replace x4 := x4.next b9
        replace xd := xd.next b9
        replace bb := bb.trans (b9.mono bb.size)
        clear b9
        have cxd0 := xd.cell 0 _ rfl
        have cxd1 := xd.cell 1 _ rfl
        have cxd2 := xd.cell 2 _ rfl
        have cxd3 := xd.cell 3 _ rfl
        have cxd4 := xd.cell 4 _ rfl
        have cxd5 := xd.cell 5 _ rfl
        have cxd6 := xd.cell 6 _ rfl
        have cxd7 := xd.cell 7 _ rfl
        have cxd8 := xd.cell 8 _ rfl
        have cxd9 := xd.cell 9 _ rfl
        go_wp2_with fail
        refine (G2.out _).mono ?_
        rintro e w23 ⟨rfl, b9⟩
        clear cxd0 cxd1 cxd2 cxd3 cxd4 cxd5 cxd6 cxd7 cxd8 cxd9
        replace xa := xa.next b9
        replace x4 := x4.next b9
        replace xd := xd.next b9
        replace bb := bb.trans (b9.mono bb.size)
        clear b9
        have cxd0 := xd.cell 0 _ rfl
        have cxd1 := xd.cell 1 _ rfl
        have cxd2 := xd.cell 2 _ rfl
        have cxd3 := xd.cell 3 _ rfl
        have cxd4 := xd.cell 4 _ rfl
        have cxd5 := xd.cell 5 _ rfl
        have cxd6 := xd.cell 6 _ rfl
        have cxd7 := xd.cell 7 _ rfl
        have cxd8 := xd.cell 8 _ rfl
        have cxd9 := xd.cell 9 _ rfl
        go_wp2_with fail
        refine (T2.out _).mono ?_
        rintro e w24 ⟨rfl, b9⟩
        clear cxd0 cxd1 cxd2 cxd3 cxd4 cxd5 cxd6 cxd7 cxd8 cxd9
        replace xa := xa.next b9
        replace x4 := x4.next b9
        replace xd := xd.next b9
        replace bb := bb.trans (b9.mono bb.size)
        clear b9
        go_wp2
        go_roundw
        case rel => exact ⟨3, by omega, by go_num, xa, x4, bb⟩
        case measure => simp [intOf]
      · have cxa0 := xa.cell 0 _ rfl
        have cxa1 := xa.cell 1 _ rfl
        have cxa2 := xa.cell 2 _ rfl
        have cxa3 := xa.cell 3 _ rfl
        have cxa4 := xa.cell 4 _ rfl
        have cxa5 := xa.cell 5 _ rfl
        have cxa6 := xa.cell 6 _ rfl
        have cxa7 := xa.cell 7 _ rfl
        have cxa8 := xa.cell 8 _ rfl
        have cxa9 := xa.cell 9 _ rfl
        have c4 := x4.cell 3 _ rfl
        have hlt4 := x4.lt
        have hlta := xa.lt
        have b9 : Below wr.heap.size wr (wr.alloc (.cells #[.int .i64 c.cB, .int .i64 c.cBeam, .int .i64 c.cDepth, .int .i64 c.cWin, .int .i64 c.cQs, .int .i64 c.cQr, .int .i64 c.cBatch, .int .i64 c.cPass, .int .i64 c.cMsg, .int .i64 1073741825] 23)) := (Below.refl _ _).alloc (Nat.le_refl _) _
        have xd := Box.new wr 23 #[.int .i64 c.cB, .int .i64 c.cBeam, .int .i64 c.cDepth, .int .i64 c.cWin, .int .i64 c.cQs, .int .i64 c.cQr, .int .i64 c.cBatch, .int .i64 c.cPass, .int .i64 c.cMsg, .int .i64 1073741825]
        go_wp2_with fail
        replace xa := xa.next b9
        replace x4 := x4.next b9
        replace bb := bb.trans (b9.mono bb.size)
        clear b9 c4 hlt4 hlta cxa0 cxa1 cxa2 cxa3 cxa4 cxa5 cxa6 cxa7 cxa8 cxa9
        refine (K3.out _).mono ?_
        rintro e w21 ⟨rfl, b9⟩
        replace xa := xa.next b9
        replace x4 := x4.next b9
        replace xd := xd.next b9
        replace bb := bb.trans (b9.mono bb.size)
        clear b9
        have cxd0 := xd.cell 0 _ rfl
        have cxd1 := xd.cell 1 _ rfl
        have cxd2 := xd.cell 2 _ rfl
        have cxd3 := xd.cell 3 _ rfl
        have cxd4 := xd.cell 4 _ rfl
        have cxd5 := xd.cell 5 _ rfl
        have cxd6 := xd.cell 6 _ rfl
        have cxd7 := xd.cell 7 _ rfl
        have cxd8 := xd.cell 8 _ rfl
        have cxd9 := xd.cell 9 _ rfl
        go_wp2_with fail
        refine (K3.out _).mono ?_
        rintro e w22 ⟨rfl, b9⟩
        clear cxd0 cxd1 cxd2 cxd3 cxd4 cxd5 cxd6 cxd7 cxd8 cxd9
        replace xa := xa.next b9
        replace x4 := x4.next b9
        replace xd := xd.next b9
        replace bb := bb.trans (b9.mono bb.size)
        clear b9
        have cxd0 := xd.cell 0 _ rfl
        have cxd1 := xd.cell 1 _ rfl
        have cxd2 := xd.cell 2 _ rfl
        have cxd3 := xd.cell 3 _ rfl
        have cxd4 := xd.cell 4 _ rfl
        have cxd5 := xd.cell 5 _ rfl
        have cxd6 := xd.cell 6 _ rfl
        have cxd7 := xd.cell 7 _ rfl
        have cxd8 := xd.cell 8 _ rfl
        have cxd9 := xd.cell 9 _ rfl
        go_wp2_with fail
        refine (G3.out _).mono ?_
        rintro e w23 ⟨rfl, b9⟩
        clear cxd0 cxd1 cxd2 cxd3 cxd4 cxd5 cxd6 cxd7 cxd8 cxd9
        replace xa := xa.next b9
        replace x4 := x4.next b9
        replace xd := xd.next b9
        replace bb := bb.trans (b9.mono bb.size)
        clear b9
        have cxd0 := xd.cell 0 _ rfl
        have cxd1 := xd.cell 1 _ rfl
        have cxd2 := xd.cell 2 _ rfl
        have cxd3 := xd.cell 3 _ rfl
        have cxd4 := xd.cell 4 _ rfl
        have cxd5 := xd.cell 5 _ rfl
        have cxd6 := xd.cell 6 _ rfl
        have cxd7 := xd.cell 7 _ rfl
        have cxd8 := xd.cell 8 _ rfl
        have cxd9 := xd.cell 9 _ rfl
        go_wp2_with fail
        refine (T3.out _).mono ?_
        rintro e w24 ⟨rfl, b9⟩
        clear cxd0 cxd1 cxd2 cxd3 cxd4 cxd5 cxd6 cxd7 cxd8 cxd9
        replace xa := xa.next b9
        replace x4 := x4.next b9
        replace xd := xd.next b9
        replace bb := bb.trans (b9.mono bb.size)
        clear b9
        go_wp2
        go_roundw
        case rel => exact ⟨4, by omega, by go_num, xa, x4, bb⟩
        case measure => simp [intOf]
      · have cxa0 := xa.cell 0 _ rfl
        have cxa1 := xa.cell 1 _ rfl
        have cxa2 := xa.cell 2 _ rfl
        have cxa3 := xa.cell 3 _ rfl
        have cxa4 := xa.cell 4 _ rfl
        have cxa5 := xa.cell 5 _ rfl
        have cxa6 := xa.cell 6 _ rfl
        have cxa7 := xa.cell 7 _ rfl
        have cxa8 := xa.cell 8 _ rfl
        have cxa9 := xa.cell 9 _ rfl
        go_wp2_with fail
        refine (KC.out _).mono ?_
        rintro e w21 ⟨rfl, b9⟩
        clear cxa0 cxa1 cxa2 cxa3 cxa4 cxa5 cxa6 cxa7 cxa8 cxa9
        replace xa := xa.next b9
        replace bb := bb.trans (b9.mono bb.size)
        clear b9
        have HWK := confWakes_any w21
        go_wp2_with (go_at_call 13; refine HWK.mono ?_; rintro e w99 ⟨rfl, b99⟩)
        go_ret
        exact ⟨rfl, bb.trans (b99.mono bb.size)⟩

/-- The law, of whatever configuration and number. -/
theorem confEnds_walk (c : Cfg) (x : Int) (w : World) :
    Calls Try.prog 5 #[.agg #[.int .i64 c.cB, .int .i64 c.cBeam, .int .i64 c.cDepth, .int .i64 c.cWin, .int .i64 c.cQs, .int .i64 c.cQr, .int .i64 c.cBatch, .int .i64 c.cPass, .int .i64 c.cMsg, .int .i64 c.cSeqs], .int .i64 x] w fun e w' => e = .returned (.bool true) ∧ Below w.heap.size w w' := by
  cases hA : okC c with
  | false => exact confEnds_no c x hA w
  | true =>
    obtain ⟨p, hp, ep⟩ := at_placeE x 10 (by decide)
    have h1 : p = 0 ∨ p = 1 ∨ p = 2 ∨ p = 3 ∨ p = 4 ∨ p = 5 ∨ p = 6 ∨ p = 7 ∨ p = 8 ∨ p = 9 := by omega
    rcases h1 with rfl | rfl | rfl | rfl | rfl | rfl | rfl | rfl | rfl | rfl
    · exact confEnds_0 c x hA ep w
    · exact confEnds_1 c x hA ep w
    · exact confEnds_2 c x hA ep w
    · exact confEnds_3 c x hA ep w
    · exact confEnds_4 c x hA ep w
    · exact confEnds_5 c x hA ep w
    · exact confEnds_6 c x hA ep w
    · exact confEnds_7 c x hA ep w
    · exact confEnds_8 c x hA ep w
    · exact confEnds_9 c x hA ep w

end Go.Proofs.Ytnhmdhbemlpjnaa
