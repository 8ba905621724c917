/-
  ConfEnds: the walk: whatever the configuration and the number, the law answers true, and nothing that lay has turned. (Written by tpl_confends.py.)
-/
import Derived.Test.YtnhmdhbemlpjnaaConfWakes
import Derived.Deep.Cut
import Derived.Deep.CutRange
import Derived.Deep.DeepCutAuto
namespace Go.Proofs.Ytnhmdhbemlpjnaa
open Go.RowKit

theorem at_placeE (at_ d : Int) (hd : 0 < d) : ∃ p : Nat, (p : Int) < d ∧ (IntKind.u64.wrap at_).tmod d = (p : Int) := by
  have h0 : 0 ≤ IntKind.u64.wrap at_ := by rw [IntKind.wrap_u64]; omega
  have h1 := Int.tmod_nonneg d h0
  have h2 := Int.tmod_lt_of_pos (IntKind.u64.wrap at_) hd
  exact ⟨((IntKind.u64.wrap at_).tmod d).toNat, by omega, by omega⟩

set_option maxRecDepth 100000 in
set_option maxHeartbeats 1000000 in
theorem confEnds_no (c : Cfg) (x : Int) (hA : okC c = false) (w : World) :
    Calls Try.prog 5 #[.agg #[.int .i64 c.cB, .int .i64 c.cBeam, .int .i64 c.cDepth, .int .i64 c.cWin, .int .i64 c.cQs, .int .i64 c.cQr, .int .i64 c.cBatch, .int .i64 c.cPass, .int .i64 c.cMsg, .int .i64 c.cSeqs], .int .i64 x] w fun e w' => e = .returned (.bool true) ∧ Below w.heap.size w w' := by
  have bb : Below w.heap.size w (w.alloc (.cells #[.int .i64 c.cB, .int .i64 c.cBeam, .int .i64 c.cDepth, .int .i64 c.cWin, .int .i64 c.cQs, .int .i64 c.cQr, .int .i64 c.cBatch, .int .i64 c.cPass, .int .i64 c.cMsg, .int .i64 c.cSeqs] 23)) := (Below.refl w.heap.size w).alloc (Nat.le_refl _) _
  have HC := refConfig_any c (w.alloc (.cells #[.int .i64 c.cB, .int .i64 c.cBeam, .int .i64 c.cDepth, .int .i64 c.cWin, .int .i64 c.cQs, .int .i64 c.cQr, .int .i64 c.cBatch, .int .i64 c.cPass, .int .i64 c.cMsg, .int .i64 c.cSeqs] 23))
  rw [hA] at HC
  clear hA
  go_enter Try.func5, Try.ntmps5
  go_wp2_with fail
  refine HC.mono ?_
  rintro e w1 ⟨rfl, b1⟩
  go_wp2
  go_ret
  exact ⟨rfl, bb.trans (b1.mono (by simp))⟩

set_option maxRecDepth 100000 in
set_option maxHeartbeats 4000000 in
theorem confEnds_0 (c : Cfg) (x : Int) (hA : okC c = true) (ek : (IntKind.u64.wrap x).tmod 10 = 0) (w : World) :
    Calls Try.prog 5 #[.agg #[.int .i64 c.cB, .int .i64 c.cBeam, .int .i64 c.cDepth, .int .i64 c.cWin, .int .i64 c.cQs, .int .i64 c.cQr, .int .i64 c.cBatch, .int .i64 c.cPass, .int .i64 c.cMsg, .int .i64 c.cSeqs], .int .i64 x] w fun e w' => e = .returned (.bool true) ∧ Below w.heap.size w w' := by
  have bb : Below w.heap.size w (w.alloc (.cells #[.int .i64 c.cB, .int .i64 c.cBeam, .int .i64 c.cDepth, .int .i64 c.cWin, .int .i64 c.cQs, .int .i64 c.cQr, .int .i64 c.cBatch, .int .i64 c.cPass, .int .i64 c.cMsg, .int .i64 c.cSeqs] 23)) := (Below.refl w.heap.size w).alloc (Nat.le_refl _) _
  have xa := Box.new w 23 #[.int .i64 c.cB, .int .i64 c.cBeam, .int .i64 c.cDepth, .int .i64 c.cWin, .int .i64 c.cQs, .int .i64 c.cQr, .int .i64 c.cBatch, .int .i64 c.cPass, .int .i64 c.cMsg, .int .i64 c.cSeqs]
  have hI := (okC_iff c).1 hA
  have o0 : okC (Cfg.mk 1 c.cBeam c.cDepth c.cWin c.cQs c.cQr c.cBatch c.cPass c.cMsg c.cSeqs) = true := (okC_iff _).2 (by dsimp only; omega)
  obtain ⟨S0, hS0⟩ : ∃ v, segsC (Cfg.mk 1 c.cBeam c.cDepth c.cWin c.cQs c.cQr c.cBatch c.cPass c.cMsg c.cSeqs) = v := ⟨_, rfl⟩
  have b0_ := (segsC_bd o0).1
  rw [hS0] at b0_
  have dS0 : decide (S0 < 22) = false := decide_eq_false (by omega)
  have K0 : Hid (∀ wx : World, Calls Try.prog 7 #[.agg #[.int .i64 1, .int .i64 c.cBeam, .int .i64 c.cDepth, .int .i64 c.cWin, .int .i64 c.cQs, .int .i64 c.cQr, .int .i64 c.cBatch, .int .i64 c.cPass, .int .i64 c.cMsg, .int .i64 c.cSeqs]] wx fun e w' => e = .returned (.int .i64 0) ∧ Below wx.heap.size wx w') := fun wx => by
    have := ConfCheck_any (Cfg.mk 1 c.cBeam c.cDepth c.cWin c.cQs c.cQr c.cBatch c.cPass c.cMsg c.cSeqs) wx
    rw [show checkA (Cfg.mk 1 c.cBeam c.cDepth c.cWin c.cQs c.cQr c.cBatch c.cPass c.cMsg c.cSeqs) = 0 from (if_pos o0)] at this
    exact this
  have G0 : Hid (∀ wx : World, Calls Try.prog 8 #[.agg #[.int .i64 1, .int .i64 c.cBeam, .int .i64 c.cDepth, .int .i64 c.cWin, .int .i64 c.cQs, .int .i64 c.cQr, .int .i64 c.cBatch, .int .i64 c.cPass, .int .i64 c.cMsg, .int .i64 c.cSeqs]] wx fun e w' => e = .returned (.int .i64 S0) ∧ Below wx.heap.size wx w') := fun wx => by
    have := ConfSegs_any (Cfg.mk 1 c.cBeam c.cDepth c.cWin c.cQs c.cQr c.cBatch c.cPass c.cMsg c.cSeqs) wx
    rw [show segsA (Cfg.mk 1 c.cBeam c.cDepth c.cWin c.cQs c.cQr c.cBatch c.cPass c.cMsg c.cSeqs) = S0 from (if_pos o0).trans hS0] at this
    exact this
  have o1 : okC (Cfg.mk 16 c.cBeam c.cDepth c.cWin c.cQs c.cQr c.cBatch c.cPass c.cMsg c.cSeqs) = true := (okC_iff _).2 (by dsimp only; omega)
  obtain ⟨S1, hS1⟩ : ∃ v, segsC (Cfg.mk 16 c.cBeam c.cDepth c.cWin c.cQs c.cQr c.cBatch c.cPass c.cMsg c.cSeqs) = v := ⟨_, rfl⟩
  have b1_ := (segsC_bd o1).1
  rw [hS1] at b1_
  have dS1 : decide (S1 < 22) = false := decide_eq_false (by omega)
  have K1 : Hid (∀ wx : World, Calls Try.prog 7 #[.agg #[.int .i64 16, .int .i64 c.cBeam, .int .i64 c.cDepth, .int .i64 c.cWin, .int .i64 c.cQs, .int .i64 c.cQr, .int .i64 c.cBatch, .int .i64 c.cPass, .int .i64 c.cMsg, .int .i64 c.cSeqs]] wx fun e w' => e = .returned (.int .i64 0) ∧ Below wx.heap.size wx w') := fun wx => by
    have := ConfCheck_any (Cfg.mk 16 c.cBeam c.cDepth c.cWin c.cQs c.cQr c.cBatch c.cPass c.cMsg c.cSeqs) wx
    rw [show checkA (Cfg.mk 16 c.cBeam c.cDepth c.cWin c.cQs c.cQr c.cBatch c.cPass c.cMsg c.cSeqs) = 0 from (if_pos o1)] at this
    exact this
  have G1 : Hid (∀ wx : World, Calls Try.prog 8 #[.agg #[.int .i64 16, .int .i64 c.cBeam, .int .i64 c.cDepth, .int .i64 c.cWin, .int .i64 c.cQs, .int .i64 c.cQr, .int .i64 c.cBatch, .int .i64 c.cPass, .int .i64 c.cMsg, .int .i64 c.cSeqs]] wx fun e w' => e = .returned (.int .i64 S1) ∧ Below wx.heap.size wx w') := fun wx => by
    have := ConfSegs_any (Cfg.mk 16 c.cBeam c.cDepth c.cWin c.cQs c.cQr c.cBatch c.cPass c.cMsg c.cSeqs) wx
    rw [show segsA (Cfg.mk 16 c.cBeam c.cDepth c.cWin c.cQs c.cQr c.cBatch c.cPass c.cMsg c.cSeqs) = S1 from (if_pos o1).trans hS1] at this
    exact this
  have o2 : okC (Cfg.mk 0 c.cBeam c.cDepth c.cWin c.cQs c.cQr c.cBatch c.cPass c.cMsg c.cSeqs) = false := by
    rw [← Bool.not_eq_true, okC_iff]
    dsimp only
    omega
  have K2 : Hid (∀ wx : World, Calls Try.prog 7 #[.agg #[.int .i64 0, .int .i64 c.cBeam, .int .i64 c.cDepth, .int .i64 c.cWin, .int .i64 c.cQs, .int .i64 c.cQr, .int .i64 c.cBatch, .int .i64 c.cPass, .int .i64 c.cMsg, .int .i64 c.cSeqs]] wx fun e w' => e = .returned (.int .i64 1) ∧ Below wx.heap.size wx w') := fun wx => by
    have := ConfCheck_any (Cfg.mk 0 c.cBeam c.cDepth c.cWin c.cQs c.cQr c.cBatch c.cPass c.cMsg c.cSeqs) wx
    rw [show checkA (Cfg.mk 0 c.cBeam c.cDepth c.cWin c.cQs c.cQr c.cBatch c.cPass c.cMsg c.cSeqs) = 1 from (if_neg (by rw [o2]; decide))] at this
    exact this
  have G2 : Hid (∀ wx : World, Calls Try.prog 8 #[.agg #[.int .i64 0, .int .i64 c.cBeam, .int .i64 c.cDepth, .int .i64 c.cWin, .int .i64 c.cQs, .int .i64 c.cQr, .int .i64 c.cBatch, .int .i64 c.cPass, .int .i64 c.cMsg, .int .i64 c.cSeqs]] wx fun e w' => e = .returned (.int .i64 0) ∧ Below wx.heap.size wx w') := fun wx => by
    have := ConfSegs_any (Cfg.mk 0 c.cBeam c.cDepth c.cWin c.cQs c.cQr c.cBatch c.cPass c.cMsg c.cSeqs) wx
    rw [show segsA (Cfg.mk 0 c.cBeam c.cDepth c.cWin c.cQs c.cQr c.cBatch c.cPass c.cMsg c.cSeqs) = 0 from (if_neg (by rw [o2]; decide))] at this
    exact this
  have T2 : Hid (∀ wx : World, Calls Try.prog 11 #[.agg #[.int .i64 0, .int .i64 c.cBeam, .int .i64 c.cDepth, .int .i64 c.cWin, .int .i64 c.cQs, .int .i64 c.cQr, .int .i64 c.cBatch, .int .i64 c.cPass, .int .i64 c.cMsg, .int .i64 c.cSeqs]] wx fun e w' => e = .returned (.int .i64 0) ∧ Below wx.heap.size wx w') := fun wx => by
    have := ConfTicks_any (Cfg.mk 0 c.cBeam c.cDepth c.cWin c.cQs c.cQr c.cBatch c.cPass c.cMsg c.cSeqs) wx
    rw [show ticksA (Cfg.mk 0 c.cBeam c.cDepth c.cWin c.cQs c.cQr c.cBatch c.cPass c.cMsg c.cSeqs) = 0 from (if_neg (by rw [o2]; decide))] at this
    exact this
  have o3 : okC (Cfg.mk 17 c.cBeam c.cDepth c.cWin c.cQs c.cQr c.cBatch c.cPass c.cMsg c.cSeqs) = false := by
    rw [← Bool.not_eq_true, okC_iff]
    dsimp only
    omega
  have K3 : Hid (∀ wx : World, Calls Try.prog 7 #[.agg #[.int .i64 17, .int .i64 c.cBeam, .int .i64 c.cDepth, .int .i64 c.cWin, .int .i64 c.cQs, .int .i64 c.cQr, .int .i64 c.cBatch, .int .i64 c.cPass, .int .i64 c.cMsg, .int .i64 c.cSeqs]] wx fun e w' => e = .returned (.int .i64 1) ∧ Below wx.heap.size wx w') := fun wx => by
    have := ConfCheck_any (Cfg.mk 17 c.cBeam c.cDepth c.cWin c.cQs c.cQr c.cBatch c.cPass c.cMsg c.cSeqs) wx
    rw [show checkA (Cfg.mk 17 c.cBeam c.cDepth c.cWin c.cQs c.cQr c.cBatch c.cPass c.cMsg c.cSeqs) = 1 from (if_neg (by rw [o3]; decide))] at this
    exact this
  have G3 : Hid (∀ wx : World, Calls Try.prog 8 #[.agg #[.int .i64 17, .int .i64 c.cBeam, .int .i64 c.cDepth, .int .i64 c.cWin, .int .i64 c.cQs, .int .i64 c.cQr, .int .i64 c.cBatch, .int .i64 c.cPass, .int .i64 c.cMsg, .int .i64 c.cSeqs]] wx fun e w' => e = .returned (.int .i64 0) ∧ Below wx.heap.size wx w') := fun wx => by
    have := ConfSegs_any (Cfg.mk 17 c.cBeam c.cDepth c.cWin c.cQs c.cQr c.cBatch c.cPass c.cMsg c.cSeqs) wx
    rw [show segsA (Cfg.mk 17 c.cBeam c.cDepth c.cWin c.cQs c.cQr c.cBatch c.cPass c.cMsg c.cSeqs) = 0 from (if_neg (by rw [o3]; decide))] at this
    exact this
  have T3 : Hid (∀ wx : World, Calls Try.prog 11 #[.agg #[.int .i64 17, .int .i64 c.cBeam, .int .i64 c.cDepth, .int .i64 c.cWin, .int .i64 c.cQs, .int .i64 c.cQr, .int .i64 c.cBatch, .int .i64 c.cPass, .int .i64 c.cMsg, .int .i64 c.cSeqs]] wx fun e w' => e = .returned (.int .i64 0) ∧ Below wx.heap.size wx w') := fun wx => by
    have := ConfTicks_any (Cfg.mk 17 c.cBeam c.cDepth c.cWin c.cQs c.cQr c.cBatch c.cPass c.cMsg c.cSeqs) wx
    rw [show ticksA (Cfg.mk 17 c.cBeam c.cDepth c.cWin c.cQs c.cQr c.cBatch c.cPass c.cMsg c.cSeqs) = 0 from (if_neg (by rw [o3]; decide))] at this
    exact this
  have KC : Hid (∀ wx : World, Calls Try.prog 7 #[.agg #[.int .i64 c.cB, .int .i64 c.cBeam, .int .i64 c.cDepth, .int .i64 c.cWin, .int .i64 c.cQs, .int .i64 c.cQr, .int .i64 c.cBatch, .int .i64 c.cPass, .int .i64 c.cMsg, .int .i64 c.cSeqs]] wx fun e w' => e = .returned (.int .i64 0) ∧ Below wx.heap.size wx w') := fun wx => by
    have := ConfCheck_any c wx
    rw [show checkA c = 0 from (if_pos hA)] at this
    exact this
  have HC := refConfig_any c (w.alloc (.cells #[.int .i64 c.cB, .int .i64 c.cBeam, .int .i64 c.cDepth, .int .i64 c.cWin, .int .i64 c.cQs, .int .i64 c.cQr, .int .i64 c.cBatch, .int .i64 c.cPass, .int .i64 c.cMsg, .int .i64 c.cSeqs] 23))
  rw [hA] at HC
  clear hI hA o0 o1 o2 o3 hS0 b0_ hS1 b1_
  go_enter Try.func5, Try.ntmps5
  have cxa0 := xa.cell 0 _ rfl
  have cxa1 := xa.cell 1 _ rfl
  have cxa2 := xa.cell 2 _ rfl
  have cxa3 := xa.cell 3 _ rfl
  have cxa4 := xa.cell 4 _ rfl
  have cxa5 := xa.cell 5 _ rfl
  have cxa6 := xa.cell 6 _ rfl
  have cxa7 := xa.cell 7 _ rfl
  have cxa8 := xa.cell 8 _ rfl
  have cxa9 := xa.cell 9 _ rfl
  go_wp2_with fail
  refine (HC).mono ?_
  rintro e w1 ⟨rfl, b9⟩
  clear cxa0 cxa1 cxa2 cxa3 cxa4 cxa5 cxa6 cxa7 cxa8 cxa9
  replace xa := xa.next b9
  replace bb := bb.trans (b9.mono bb.size)
  clear b9
  clear HC
  have b9 : Below w1.heap.size w1 ((w1.alloc (.cells #[.int .i64 1, .int .i64 1, .int .i64 1, .int .i64 1, .int .i64 1, .int .i64 1, .int .i64 1, .int .i64 4, .int .i64 0, .int .i64 0] 3)).alloc (.cells #[.int .i64 16, .int .i64 16, .int .i64 3, .int .i64 16, .int .i64 16, .int .i64 16, .int .i64 64, .int .i64 16, .int .i64 200, .int .i64 1073741824] 3)) := ((Below.refl _ _).alloc (Nat.le_refl _) _).alloc (by simp) _
  have xl : Box ((w1.alloc (.cells #[.int .i64 1, .int .i64 1, .int .i64 1, .int .i64 1, .int .i64 1, .int .i64 1, .int .i64 1, .int .i64 4, .int .i64 0, .int .i64 0] 3)).alloc (.cells #[.int .i64 16, .int .i64 16, .int .i64 3, .int .i64 16, .int .i64 16, .int .i64 16, .int .i64 64, .int .i64 16, .int .i64 200, .int .i64 1073741824] 3)) w1.heap.size 3 #[.int .i64 1, .int .i64 1, .int .i64 1, .int .i64 1, .int .i64 1, .int .i64 1, .int .i64 1, .int .i64 4, .int .i64 0, .int .i64 0] := (Box.new w1 _ _).alloc _
  have xm : Box ((w1.alloc (.cells #[.int .i64 1, .int .i64 1, .int .i64 1, .int .i64 1, .int .i64 1, .int .i64 1, .int .i64 1, .int .i64 4, .int .i64 0, .int .i64 0] 3)).alloc (.cells #[.int .i64 16, .int .i64 16, .int .i64 3, .int .i64 16, .int .i64 16, .int .i64 16, .int .i64 64, .int .i64 16, .int .i64 200, .int .i64 1073741824] 3)) (w1.heap.size + 1) 3 #[.int .i64 16, .int .i64 16, .int .i64 3, .int .i64 16, .int .i64 16, .int .i64 16, .int .i64 64, .int .i64 16, .int .i64 200, .int .i64 1073741824] := by
    have := Box.new (w1.alloc (.cells #[.int .i64 1, .int .i64 1, .int .i64 1, .int .i64 1, .int .i64 1, .int .i64 1, .int .i64 1, .int .i64 4, .int .i64 0, .int .i64 0] 3)) 3 #[.int .i64 16, .int .i64 16, .int .i64 3, .int .i64 16, .int .i64 16, .int .i64 16, .int .i64 64, .int .i64 16, .int .i64 200, .int .i64 1073741824]
    simpa using this
  replace xa := xa.next b9
  replace bb := bb.trans (b9.mono bb.size)
  clear b9
  go_wp2
  generalize ((w1.alloc (.cells #[.int .i64 1, .int .i64 1, .int .i64 1, .int .i64 1, .int .i64 1, .int .i64 1, .int .i64 1, .int .i64 4, .int .i64 0, .int .i64 0] 3)).alloc (.cells #[.int .i64 16, .int .i64 16, .int .i64 3, .int .i64 16, .int .i64 16, .int .i64 16, .int .i64 64, .int .i64 16, .int .i64 200, .int .i64 1073741824] 3)) = w2 at *
  have wv2 : IntKind.i64.wrap (0) = 0 := by rw [IntKind.wrap_i64]; decide
  have wv3 : IntKind.i64.wrap (17) = 17 := by rw [IntKind.wrap_i64]; decide
  have hltl := xl.lt
  have hltm := xm.lt
  have cl := xl.cell 0 _ rfl
  have cm := xm.cell 0 _ rfl
  skip
  go_cut [38, 39, 40] (fun s l i wx => ∃ B4, s = .slice (some ⟨B4, 0, none⟩) 4 4 ∧ l = .int .i64 4 ∧ i = .int .i64 0 ∧ Box wx B4 3 #[.int .i64 1, .int .i64 16, .int .i64 0, .int .i64 17] ∧ Below w2.heap.size w2 wx)
  case first =>
    refine wp_region_held_drew (S := fun w' => Below w2.heap.size w2 w') (by kernel_rfl) ((Below.refl _ _).drew) (fun hHeld => ?_)
    generalize w2.drew = wk0 at *
    refine held_take (i := 0) (d := 20) (v := ?v1) rfl rfl (by kernel_rfl) (by kernel_rfl) (by kernel_rfl) (fun _ _ _ h => h) (Or.inl ⟨by kernel_rfl, ?hy1⟩) hHeld ?rest1
    case hy1 =>
      intro wx hSw
      clear hSw
      go_simp
      with_reducible rfl
    simp only [List.setIfInBounds_toArray, List.set_cons_zero, List.set_cons_succ]
    refine held_take (i := 1) (d := 21) (v := ?v2) rfl rfl (by kernel_rfl) (by kernel_rfl) (by kernel_rfl) (fun _ _ _ h => h) (Or.inl ⟨by kernel_rfl, ?hy2⟩) hHeld ?rest2
    case hy2 =>
      intro wx hSw
      clear hSw
      go_simp
      with_reducible rfl
    simp only [List.setIfInBounds_toArray, List.set_cons_zero, List.set_cons_succ]
    refine held_take (i := 2) (d := 22) (v := ?v3) rfl rfl (by kernel_rfl) (by kernel_rfl) (by kernel_rfl) (fun _ _ _ h => h) (Or.inl ⟨by kernel_rfl, ?hy3⟩) hHeld ?rest3
    case hy3 =>
      intro wx hSw
      clear hSw
      go_simp
      with_reducible rfl
    simp only [List.setIfInBounds_toArray, List.set_cons_zero, List.set_cons_succ]
    refine held_take (i := 3) (d := 23) (v := ?v4) rfl rfl (by kernel_rfl) (by kernel_rfl) (by kernel_rfl) (fun _ _ _ h => h) (Or.inl ⟨by kernel_rfl, ?hy4⟩) hHeld ?rest4
    case hy4 =>
      intro wx hSw
      have q0 := (hSw.cell (p := ⟨w1.heap.size, 0, none⟩) hltl).trans cl
      clear hSw
      go_simp
      with_reducible rfl
    simp only [List.setIfInBounds_toArray, List.set_cons_zero, List.set_cons_succ]
    refine held_take (i := 4) (d := 24) (v := ?v5) rfl rfl (by kernel_rfl) (by kernel_rfl) (by kernel_rfl) (fun _ _ _ h => h) (Or.inl ⟨by kernel_rfl, ?hy5⟩) hHeld ?rest5
    case hy5 =>
      intro wx hSw
      clear hSw
      go_simp
      with_reducible rfl
    simp only [List.setIfInBounds_toArray, List.set_cons_zero, List.set_cons_succ]
    refine held_take (i := 5) (d := 25) (v := ?v6) rfl rfl (by kernel_rfl) (by kernel_rfl) (by kernel_rfl) (fun _ _ _ h => h) (Or.inl ⟨by kernel_rfl, ?hy6⟩) hHeld ?rest6
    case hy6 =>
      intro wx hSw
      clear hSw
      go_simp
      with_reducible rfl
    simp only [List.setIfInBounds_toArray, List.set_cons_zero, List.set_cons_succ]
    refine held_take (i := 6) (d := 26) (v := ?v7) rfl rfl (by kernel_rfl) (by kernel_rfl) (by kernel_rfl) (fun _ _ _ h => h) (Or.inl ⟨by kernel_rfl, ?hy7⟩) hHeld ?rest7
    case hy7 =>
      intro wx hSw
      clear hSw
      go_simp
      with_reducible rfl
    simp only [List.setIfInBounds_toArray, List.set_cons_zero, List.set_cons_succ]
    refine held_take (i := 7) (d := 27) (v := ?v8) rfl rfl (by kernel_rfl) (by kernel_rfl) (by kernel_rfl) (fun _ _ _ h => h) (Or.inl ⟨by kernel_rfl, ?hy8⟩) hHeld ?rest8
    case hy8 =>
      intro wx hSw
      have q0 := (hSw.cell (p := ⟨w1.heap.size + 1, 0, none⟩) hltm).trans cm
      clear hSw
      go_simp
      with_reducible rfl
    simp only [List.setIfInBounds_toArray, List.set_cons_zero, List.set_cons_succ]
    refine held_take (i := 8) (d := 28) (v := ?v9) rfl rfl (by kernel_rfl) (by kernel_rfl) (by kernel_rfl) (fun _ _ _ h => h) (Or.inl ⟨by kernel_rfl, ?hy9⟩) hHeld ?rest9
    case hy9 =>
      intro wx hSw
      clear hSw
      go_simp
      with_reducible rfl
    simp only [List.setIfInBounds_toArray, List.set_cons_zero, List.set_cons_succ]
    refine held_take (i := 9) (d := 29) (v := ?v10) rfl rfl (by kernel_rfl) (by kernel_rfl) (by kernel_rfl) (fun _ _ _ h => h) (Or.inl ⟨by kernel_rfl, ?hy10⟩) hHeld ?rest10
    case hy10 =>
      intro wx hSw
      clear hSw
      go_simp
      with_reducible rfl
    simp only [List.setIfInBounds_toArray, List.set_cons_zero, List.set_cons_succ]
    refine held_take (i := 10) (d := 30) (v := ?v11) rfl rfl (by kernel_rfl) (by kernel_rfl) (by kernel_rfl) (fun _ _ _ h => h) (Or.inl ⟨by kernel_rfl, ?hy11⟩) hHeld ?rest11
    case hy11 =>
      intro wx hSw
      clear hSw
      go_simp
      with_reducible rfl
    simp only [List.setIfInBounds_toArray, List.set_cons_zero, List.set_cons_succ]
    refine held_take (i := 11) (d := 31) (v := ?v12) rfl rfl (by kernel_rfl) (by kernel_rfl) (by kernel_rfl) (fun _ _ _ h => h) (Or.inl ⟨by kernel_rfl, ?hy12⟩) hHeld ?rest12
    case hy12 =>
      intro wx hSw
      have q0 := (hSw.cell (p := ⟨w1.heap.size, 0, none⟩) hltl).trans cl
      clear hSw
      go_simp
      with_reducible rfl
    simp only [List.setIfInBounds_toArray, List.set_cons_zero, List.set_cons_succ]
    refine held_take (i := 12) (d := 32) (v := ?v13) rfl rfl (by kernel_rfl) (by kernel_rfl) (by kernel_rfl) (fun _ _ _ h => h) (Or.inl ⟨by kernel_rfl, ?hy13⟩) hHeld ?rest13
    case hy13 =>
      intro wx hSw
      clear hSw
      go_simp
      with_reducible rfl
    simp only [List.setIfInBounds_toArray, List.set_cons_zero, List.set_cons_succ]
    refine held_take (i := 13) (d := 33) (v := ?v14) rfl rfl (by kernel_rfl) (by kernel_rfl) (by kernel_rfl) (fun _ _ _ h => h) (Or.inl ⟨by kernel_rfl, ?hy14⟩) hHeld ?rest14
    case hy14 =>
      intro wx hSw
      clear hSw
      go_simp
      with_reducible rfl
    simp only [List.setIfInBounds_toArray, List.set_cons_zero, List.set_cons_succ]
    refine held_take (i := 14) (d := 34) (v := ?v15) rfl rfl (by kernel_rfl) (by kernel_rfl) (by kernel_rfl) (fun _ _ _ h => h) (Or.inl ⟨by kernel_rfl, ?hy15⟩) hHeld ?rest15
    case hy15 =>
      intro wx hSw
      clear hSw
      go_simp
      with_reducible rfl
    simp only [List.setIfInBounds_toArray, List.set_cons_zero, List.set_cons_succ]
    refine held_take (i := 15) (d := 35) (v := ?v16) rfl rfl (by kernel_rfl) (by kernel_rfl) (by kernel_rfl) (fun _ _ _ h => h) (Or.inl ⟨by kernel_rfl, ?hy16⟩) hHeld ?rest16
    case hy16 =>
      intro wx hSw
      clear hSw
      go_simp
      with_reducible rfl
    simp only [List.setIfInBounds_toArray, List.set_cons_zero, List.set_cons_succ]
    refine held_take (i := 16) (d := 36) (v := ?v17) rfl rfl (by kernel_rfl) (by kernel_rfl) (by kernel_rfl) (fun _ _ _ h => h) (Or.inl ⟨by kernel_rfl, ?hy17⟩) hHeld ?rest17
    case hy17 =>
      intro wx hSw
      have q0 := (hSw.cell (p := ⟨w1.heap.size + 1, 0, none⟩) hltm).trans cm
      clear hSw
      go_simp
      with_reducible rfl
    simp only [List.setIfInBounds_toArray, List.set_cons_zero, List.set_cons_succ]
    refine held_take (i := 17) (d := 37) (v := ?v18) rfl rfl (by kernel_rfl) (by kernel_rfl) (by kernel_rfl) (fun _ _ _ h => h) (Or.inl ⟨by kernel_rfl, ?hy18⟩) hHeld ?rest18
    case hy18 =>
      intro wx hSw
      clear hSw
      go_simp
      with_reducible rfl
    simp only [List.setIfInBounds_toArray, List.set_cons_zero, List.set_cons_succ]
    refine held_take (i := 20) (d := 40) (v := ?v19) rfl rfl (by kernel_rfl) (by kernel_rfl) (by kernel_rfl) (fun _ _ _ h => h) (Or.inl ⟨by kernel_rfl, ?hy19⟩) hHeld ?rest19
    case hy19 =>
      intro wx hSw
      clear hSw
      go_simp
      with_reducible rfl
    simp only [List.setIfInBounds_toArray, List.set_cons_zero, List.set_cons_succ]
    refine wpAnyH_ready (rs := [18]) (by kernel_rfl) (by simp) ?_
    refine AllReadyH.cons rfl (fun K hK => ?_) AllReadyH.nil
    go_simp
    obtain ⟨B4, hB4⟩ : ∃ n, wk0.heap.size = n := ⟨_, rfl⟩
    have x4 := Box.new wk0 3 #[.int .i64 1, .int .i64 16, .int .i64 0, .int .i64 17]
    rw [hB4] at x4 ⊢
    have hS4 := hHeld.alloc hHeld.size (.cells #[.int .i64 1, .int .i64 16, .int .i64 0, .int .i64 17] 3)
    generalize wk0.alloc (.cells #[.int .i64 1, .int .i64 16, .int .i64 0, .int .i64 17] 3) = wk1 at *
    refine hK.out _ _ (hS4) (fun hHeld => ?_)
    clear hK K
    refine wpAnyH_ready (rs := [19]) (by kernel_rfl) (by simp) ?_
    refine AllReadyH.cons rfl (fun K hK => ?_) AllReadyH.nil
    go_simp
    refine hK.out _ _ hHeld (fun hHeld => ?_)
    clear hK K
    refine wpAnyH_done (by kernel_rfl) ?_ _
    go_wp2_with fail
    go_meet
    exact ⟨B4, rfl, rfl, rfl, x4, hHeld⟩
  case rest =>
    obtain ⟨B4, rfl, rfl, rfl, x4, b9⟩ := hcut
    clear cl cm hltl hltm
    replace xa := xa.next b9
    replace xl := xl.next b9
    replace xm := xm.next b9
    replace bb := bb.trans (b9.mono bb.size)
    clear b9 xl xm
    go_wp2_with fail
    go_loopw [40] (fun i wr => ∃ j : Nat, j ≤ 4 ∧ i = .int .i64 j ∧ Box wr w.heap.size 23 #[.int .i64 c.cB, .int .i64 c.cBeam, .int .i64 c.cDepth, .int .i64 c.cWin, .int .i64 c.cQs, .int .i64 c.cQr, .int .i64 c.cBatch, .int .i64 c.cPass, .int .i64 c.cMsg, .int .i64 c.cSeqs] ∧ Box wr B4 3 #[.int .i64 1, .int .i64 16, .int .i64 0, .int .i64 17] ∧ Below w.heap.size w wr) (fun i _ => 4 - (intOf i).toNat)
    case atStart => exact ⟨0, by omega, rfl, xa, x4, bb⟩
    case round =>
      clear xa x4 bb
      obtain ⟨j, hj, rfl, xa, x4, bb⟩ := hrel
      have hj5 : j = 0 ∨ j = 1 ∨ j = 2 ∨ j = 3 ∨ j = 4 := by omega
      clear hj
      rcases hj5 with rfl | rfl | rfl | rfl | rfl
      · have cxa0 := xa.cell 0 _ rfl
        have cxa1 := xa.cell 1 _ rfl
        have cxa2 := xa.cell 2 _ rfl
        have cxa3 := xa.cell 3 _ rfl
        have cxa4 := xa.cell 4 _ rfl
        have cxa5 := xa.cell 5 _ rfl
        have cxa6 := xa.cell 6 _ rfl
        have cxa7 := xa.cell 7 _ rfl
        have cxa8 := xa.cell 8 _ rfl
        have cxa9 := xa.cell 9 _ rfl
        have c4 := x4.cell 0 _ rfl
        have hlt4 := x4.lt
        have hlta := xa.lt
        have b9 : Below wr.heap.size wr (wr.alloc (.cells #[.int .i64 1, .int .i64 c.cBeam, .int .i64 c.cDepth, .int .i64 c.cWin, .int .i64 c.cQs, .int .i64 c.cQr, .int .i64 c.cBatch, .int .i64 c.cPass, .int .i64 c.cMsg, .int .i64 c.cSeqs] 23)) := (Below.refl _ _).alloc (Nat.le_refl _) _
        have xd := Box.new wr 23 #[.int .i64 1, .int .i64 c.cBeam, .int .i64 c.cDepth, .int .i64 c.cWin, .int .i64 c.cQs, .int .i64 c.cQr, .int .i64 c.cBatch, .int .i64 c.cPass, .int .i64 c.cMsg, .int .i64 c.cSeqs]
        go_wp2_with fail
        replace xa := xa.next b9
        replace x4 := x4.next b9
        replace bb := bb.trans (b9.mono bb.size)
        clear b9 c4 hlt4 hlta cxa0 cxa1 cxa2 cxa3 cxa4 cxa5 cxa6 cxa7 cxa8 cxa9
        refine (K0.out _).mono ?_
        rintro e w21 ⟨rfl, b9⟩
        replace xa := xa.next b9
        replace x4 := x4.next b9
        replace xd := xd.next b9
        replace bb := bb.trans (b9.mono bb.size)
        clear b9
        have cxd0 := xd.cell 0 _ rfl
        have cxd1 := xd.cell 1 _ rfl
        have cxd2 := xd.cell 2 _ rfl
        have cxd3 := xd.cell 3 _ rfl
        have cxd4 := xd.cell 4 _ rfl
        have cxd5 := xd.cell 5 _ rfl
        have cxd6 := xd.cell 6 _ rfl
        have cxd7 := xd.cell 7 _ rfl
        have cxd8 := xd.cell 8 _ rfl
        have cxd9 := xd.cell 9 _ rfl
        go_wp2_with fail
        refine (G0.out _).mono ?_
        rintro e w22 ⟨rfl, b9⟩
        clear cxd0 cxd1 cxd2 cxd3 cxd4 cxd5 cxd6 cxd7 cxd8 cxd9
        replace xa := xa.next b9
        replace x4 := x4.next b9
        replace xd := xd.next b9
        replace bb := bb.trans (b9.mono bb.size)
        clear b9
        go_wp2
        go_roundw
        case rel => exact ⟨1, by omega, by go_num, xa, x4, bb⟩
        case measure => simp [intOf]
      · have cxa0 := xa.cell 0 _ rfl
        have cxa1 := xa.cell 1 _ rfl
        have cxa2 := xa.cell 2 _ rfl
        have cxa3 := xa.cell 3 _ rfl
        have cxa4 := xa.cell 4 _ rfl
        have cxa5 := xa.cell 5 _ rfl
        have cxa6 := xa.cell 6 _ rfl
        have cxa7 := xa.cell 7 _ rfl
        have cxa8 := xa.cell 8 _ rfl
        have cxa9 := xa.cell 9 _ rfl
        have c4 := x4.cell 1 _ rfl
        have hlt4 := x4.lt
        have hlta := xa.lt
        have b9 : Below wr.heap.size wr (wr.alloc (.cells #[.int .i64 16, .int .i64 c.cBeam, .int .i64 c.cDepth, .int .i64 c.cWin, .int .i64 c.cQs, .int .i64 c.cQr, .int .i64 c.cBatch, .int .i64 c.cPass, .int .i64 c.cMsg, .int .i64 c.cSeqs] 23)) := (Below.refl _ _).alloc (Nat.le_refl _) _
        have xd := Box.new wr 23 #[.int .i64 16, .int .i64 c.cBeam, .int .i64 c.cDepth, .int .i64 c.cWin, .int .i64 c.cQs, .int .i64 c.cQr, .int .i64 c.cBatch, .int .i64 c.cPass, .int .i64 c.cMsg, .int .i64 c.cSeqs]
        go_wp2_with fail
        replace xa := xa.next b9
        replace x4 := x4.next b9
        replace bb := bb.trans (b9.mono bb.size)
        clear b9 c4 hlt4 hlta cxa0 cxa1 cxa2 cxa3 cxa4 cxa5 cxa6 cxa7 cxa8 cxa9
        refine (K1.out _).mono ?_
        rintro e w21 ⟨rfl, b9⟩
        replace xa := xa.next b9
        replace x4 := x4.next b9
        replace xd := xd.next b9
        replace bb := bb.trans (b9.mono bb.size)
        clear b9
        have cxd0 := xd.cell 0 _ rfl
        have cxd1 := xd.cell 1 _ rfl
        have cxd2 := xd.cell 2 _ rfl
        have cxd3 := xd.cell 3 _ rfl
        have cxd4 := xd.cell 4 _ rfl
        have cxd5 := xd.cell 5 _ rfl
        have cxd6 := xd.cell 6 _ rfl
        have cxd7 := xd.cell 7 _ rfl
        have cxd8 := xd.cell 8 _ rfl
        have cxd9 := xd.cell 9 _ rfl
        go_wp2_with fail
        refine (G1.out _).mono ?_
        rintro e w22 ⟨rfl, b9⟩
        clear cxd0 cxd1 cxd2 cxd3 cxd4 cxd5 cxd6 cxd7 cxd8 cxd9
        replace xa := xa.next b9
        replace x4 := x4.next b9
        replace xd := xd.next b9
        replace bb := bb.trans (b9.mono bb.size)
        clear b9
        go_wp2
        go_roundw
        case rel => exact ⟨2, by omega, by go_num, xa, x4, bb⟩
        case measure => simp [intOf]
      · have cxa0 := xa.cell 0 _ rfl
        have cxa1 := xa.cell 1 _ rfl
        have cxa2 := xa.cell 2 _ rfl
        have cxa3 := xa.cell 3 _ rfl
        have cxa4 := xa.cell 4 _ rfl
        have cxa5 := xa.cell 5 _ rfl
        have cxa6 := xa.cell 6 _ rfl
        have cxa7 := xa.cell 7 _ rfl
        have cxa8 := xa.cell 8 _ rfl
        have cxa9 := xa.cell 9 _ rfl
        have c4 := x4.cell 2 _ rfl
        have hlt4 := x4.lt
        have hlta := xa.lt
        have b9 : Below wr.heap.size wr (wr.alloc (.cells #[.int .i64 0, .int .i64 c.cBeam, .int .i64 c.cDepth, .int .i64 c.cWin, .int .i64 c.cQs, .int .i64 c.cQr, .int .i64 c.cBatch, .int .i64 c.cPass, .int .i64 c.cMsg, .int .i64 c.cSeqs] 23)) := (Below.refl _ _).alloc (Nat.le_refl _) _
        have xd := Box.new wr 23 #[.int .i64 0, .int .i64 c.cBeam, .int .i64 c.cDepth, .int .i64 c.cWin, .int .i64 c.cQs, .int .i64 c.cQr, .int .i64 c.cBatch, .int .i64 c.cPass, .int .i64 c.cMsg, .int .i64 c.cSeqs]
        go_wp2_with fail
        replace xa := xa.next b9
        replace x4 := x4.next b9
        replace bb := bb.trans (b9.mono bb.size)
        clear b9 c4 hlt4 hlta cxa0 cxa1 cxa2 cxa3 cxa4 cxa5 cxa6 cxa7 cxa8 cxa9
        refine (K2.out _).mono ?_
        rintro e w21 ⟨rfl, b9⟩
        replace xa := xa.next b9
        replace x4 := x4.next b9
        replace xd := xd.next b9
        replace bb := bb.trans (b9.mono bb.size)
        clear b9
        have cxd0 := xd.cell 0 _ rfl
        have cxd1 := xd.cell 1 _ rfl
        have cxd2 := xd.cell 2 _ rfl
        have cxd3 := xd.cell 3 _ rfl
        have cxd4 := xd.cell 4 _ rfl
        have cxd5 := xd.cell 5 _ rfl
        have cxd6 := xd.cell 6 _ rfl
        have cxd7 := xd.cell 7 _ rfl
        have cxd8 := xd.cell 8 _ rfl
        have cxd9 := xd.cell 9 _ rfl
        go_wp2_with fail
        refine (K2.out _).mono ?_
        rintro e w22 ⟨rfl, b9⟩
        clear cxd0 cxd1 cxd2 cxd3 cxd4 cxd5 cxd6 cxd7 cxd8 cxd9
        replace xa := xa.next b9
        replace x4 := x4.next b9
        replace xd := xd.next b9
        replace bb := bb.trans (b9.mono bb.size)
        clear b9
        have cxd0 := xd.cell 0 _ rfl
        have cxd1 := xd.cell 1 _ rfl
        have cxd2 := xd.cell 2 _ rfl
        have cxd3 := xd.cell 3 _ rfl
        have cxd4 := xd.cell 4 _ rfl
        have cxd5 := xd.cell 5 _ rfl
        have cxd6 := xd.cell 6 _ rfl
        have cxd7 := xd.cell 7 _ rfl
        have cxd8 := xd.cell 8 _ rfl
        have cxd9 := xd.cell 9 _ rfl
        go_wp2_with fail
        refine (G2.out _).mono ?_
        rintro e w23 ⟨rfl, b9⟩
        clear cxd0 cxd1 cxd2 cxd3 cxd4 cxd5 cxd6 cxd7 cxd8 cxd9
        replace xa := xa.next b9
        replace x4 := x4.next b9
        replace xd := xd.next b9
        replace bb := bb.trans (b9.mono bb.size)
        clear b9
        have cxd0 := xd.cell 0 _ rfl
        have cxd1 := xd.cell 1 _ rfl
        have cxd2 := xd.cell 2 _ rfl
        have cxd3 := xd.cell 3 _ rfl
        have cxd4 := xd.cell 4 _ rfl
        have cxd5 := xd.cell 5 _ rfl
        have cxd6 := xd.cell 6 _ rfl
        have cxd7 := xd.cell 7 _ rfl
        have cxd8 := xd.cell 8 _ rfl
        have cxd9 := xd.cell 9 _ rfl
        go_wp2_with fail
        refine (T2.out _).mono ?_
        rintro e w24 ⟨rfl, b9⟩
        clear cxd0 cxd1 cxd2 cxd3 cxd4 cxd5 cxd6 cxd7 cxd8 cxd9
        replace xa := xa.next b9
        replace x4 := x4.next b9
        replace xd := xd.next b9
        replace bb := bb.trans (b9.mono bb.size)
        clear b9
        go_wp2
        go_roundw
        case rel => exact ⟨3, by omega, by go_num, xa, x4, bb⟩
        case measure => simp [intOf]
      · have cxa0 := xa.cell 0 _ rfl
        have cxa1 := xa.cell 1 _ rfl
        have cxa2 := xa.cell 2 _ rfl
        have cxa3 := xa.cell 3 _ rfl
        have cxa4 := xa.cell 4 _ rfl
        have cxa5 := xa.cell 5 _ rfl
        have cxa6 := xa.cell 6 _ rfl
        have cxa7 := xa.cell 7 _ rfl
        have cxa8 := xa.cell 8 _ rfl
        have cxa9 := xa.cell 9 _ rfl
        have c4 := x4.cell 3 _ rfl
        have hlt4 := x4.lt
        have hlta := xa.lt
        have b9 : Below wr.heap.size wr (wr.alloc (.cells #[.int .i64 17, .int .i64 c.cBeam, .int .i64 c.cDepth, .int .i64 c.cWin, .int .i64 c.cQs, .int .i64 c.cQr, .int .i64 c.cBatch, .int .i64 c.cPass, .int .i64 c.cMsg, .int .i64 c.cSeqs] 23)) := (Below.refl _ _).alloc (Nat.le_refl _) _
        have xd := Box.new wr 23 #[.int .i64 17, .int .i64 c.cBeam, .int .i64 c.cDepth, .int .i64 c.cWin, .int .i64 c.cQs, .int .i64 c.cQr, .int .i64 c.cBatch, .int .i64 c.cPass, .int .i64 c.cMsg, .int .i64 c.cSeqs]
        go_wp2_with fail
        replace xa := xa.next b9
        replace x4 := x4.next b9
        replace bb := bb.trans (b9.mono bb.size)
        clear b9 c4 hlt4 hlta cxa0 cxa1 cxa2 cxa3 cxa4 cxa5 cxa6 cxa7 cxa8 cxa9
        refine (K3.out _).mono ?_
        rintro e w21 ⟨rfl, b9⟩
        replace xa := xa.next b9
        replace x4 := x4.next b9
        replace xd := xd.next b9
        replace bb := bb.trans (b9.mono bb.size)
        clear b9
        have cxd0 := xd.cell 0 _ rfl
        have cxd1 := xd.cell 1 _ rfl
        have cxd2 := xd.cell 2 _ rfl
        have cxd3 := xd.cell 3 _ rfl
        have cxd4 := xd.cell 4 _ rfl
        have cxd5 := xd.cell 5 _ rfl
        have cxd6 := xd.cell 6 _ rfl
        have cxd7 := xd.cell 7 _ rfl
        have cxd8 := xd.cell 8 _ rfl
        have cxd9 := xd.cell 9 _ rfl
        go_wp2_with fail
        refine (K3.out _).mono ?_
        rintro e w22 ⟨rfl, b9⟩
        clear cxd0 cxd1 cxd2 cxd3 cxd4 cxd5 cxd6 cxd7 cxd8 cxd9
        replace xa := xa.next b9
        replace x4 := x4.next b9
        replace xd := xd.next b9
        replace bb := bb.trans (b9.mono bb.size)
        clear b9
        have cxd0 := xd.cell 0 _ rfl
        have cxd1 := xd.cell 1 _ rfl
        have cxd2 := xd.cell 2 _ rfl
        have cxd3 := xd.cell 3 _ rfl
        have cxd4 := xd.cell 4 _ rfl
        have cxd5 := xd.cell 5 _ rfl
        have cxd6 := xd.cell 6 _ rfl
        have cxd7 := xd.cell 7 _ rfl
        have cxd8 := xd.cell 8 _ rfl
        have cxd9 := xd.cell 9 _ rfl
        go_wp2_with fail
        refine (G3.out _).mono ?_
        rintro e w23 ⟨rfl, b9⟩
        clear cxd0 cxd1 cxd2 cxd3 cxd4 cxd5 cxd6 cxd7 cxd8 cxd9
        replace xa := xa.next b9
        replace x4 := x4.next b9
        replace xd := xd.next b9
        replace bb := bb.trans (b9.mono bb.size)
        clear b9
        have cxd0 := xd.cell 0 _ rfl
        have cxd1 := xd.cell 1 _ rfl
        have cxd2 := xd.cell 2 _ rfl
        have cxd3 := xd.cell 3 _ rfl
        have cxd4 := xd.cell 4 _ rfl
        have cxd5 := xd.cell 5 _ rfl
        have cxd6 := xd.cell 6 _ rfl
        have cxd7 := xd.cell 7 _ rfl
        have cxd8 := xd.cell 8 _ rfl
        have cxd9 := xd.cell 9 _ rfl
        go_wp2_with fail
        refine (T3.out _).mono ?_
        rintro e w24 ⟨rfl, b9⟩
        clear cxd0 cxd1 cxd2 cxd3 cxd4 cxd5 cxd6 cxd7 cxd8 cxd9
        replace xa := xa.next b9
        replace x4 := x4.next b9
        replace xd := xd.next b9
        replace bb := bb.trans (b9.mono bb.size)
        clear b9
        go_wp2
        go_roundw
        case rel => exact ⟨4, by omega, by go_num, xa, x4, bb⟩
        case measure => simp [intOf]
      · have cxa0 := xa.cell 0 _ rfl
        have cxa1 := xa.cell 1 _ rfl
        have cxa2 := xa.cell 2 _ rfl
        have cxa3 := xa.cell 3 _ rfl
        have cxa4 := xa.cell 4 _ rfl
        have cxa5 := xa.cell 5 _ rfl
        have cxa6 := xa.cell 6 _ rfl
        have cxa7 := xa.cell 7 _ rfl
        have cxa8 := xa.cell 8 _ rfl
        have cxa9 := xa.cell 9 _ rfl
        go_wp2_with fail
        refine (KC.out _).mono ?_
        rintro e w21 ⟨rfl, b9⟩
        clear cxa0 cxa1 cxa2 cxa3 cxa4 cxa5 cxa6 cxa7 cxa8 cxa9
        replace xa := xa.next b9
        replace bb := bb.trans (b9.mono bb.size)
        clear b9
        have HWK := confWakes_any w21
        go_wp2_with (go_at_call 13; refine HWK.mono ?_; rintro e w99 ⟨rfl, b99⟩)
        go_ret
        exact ⟨rfl, bb.trans (b99.mono bb.size)⟩

set_option maxRecDepth 100000 in
set_option maxHeartbeats 4000000 in
theorem confEnds_1 (c : Cfg) (x : Int) (hA : okC c = true) (ek : (IntKind.u64.wrap x).tmod 10 = 1) (w : World) :
    Calls Try.prog 5 #[.agg #[.int .i64 c.cB, .int .i64 c.cBeam, .int .i64 c.cDepth, .int .i64 c.cWin, .int .i64 c.cQs, .int .i64 c.cQr, .int .i64 c.cBatch, .int .i64 c.cPass, .int .i64 c.cMsg, .int .i64 c.cSeqs], .int .i64 x] w fun e w' => e = .returned (.bool true) ∧ Below w.heap.size w w' := by
  have bb : Below w.heap.size w (w.alloc (.cells #[.int .i64 c.cB, .int .i64 c.cBeam, .int .i64 c.cDepth, .int .i64 c.cWin, .int .i64 c.cQs, .int .i64 c.cQr, .int .i64 c.cBatch, .int .i64 c.cPass, .int .i64 c.cMsg, .int .i64 c.cSeqs] 23)) := (Below.refl w.heap.size w).alloc (Nat.le_refl _) _
  have xa := Box.new w 23 #[.int .i64 c.cB, .int .i64 c.cBeam, .int .i64 c.cDepth, .int .i64 c.cWin, .int .i64 c.cQs, .int .i64 c.cQr, .int .i64 c.cBatch, .int .i64 c.cPass, .int .i64 c.cMsg, .int .i64 c.cSeqs]
  have hI := (okC_iff c).1 hA
  have o0 : okC (Cfg.mk c.cB 1 c.cDepth c.cWin c.cQs c.cQr c.cBatch c.cPass c.cMsg c.cSeqs) = true := (okC_iff _).2 (by dsimp only; omega)
  obtain ⟨S0, hS0⟩ : ∃ v, segsC (Cfg.mk c.cB 1 c.cDepth c.cWin c.cQs c.cQr c.cBatch c.cPass c.cMsg c.cSeqs) = v := ⟨_, rfl⟩
  have b0_ := (segsC_bd o0).1
  rw [hS0] at b0_
  have dS0 : decide (S0 < 22) = false := decide_eq_false (by omega)
  have K0 : Hid (∀ wx : World, Calls Try.prog 7 #[.agg #[.int .i64 c.cB, .int .i64 1, .int .i64 c.cDepth, .int .i64 c.cWin, .int .i64 c.cQs, .int .i64 c.cQr, .int .i64 c.cBatch, .int .i64 c.cPass, .int .i64 c.cMsg, .int .i64 c.cSeqs]] wx fun e w' => e = .returned (.int .i64 0) ∧ Below wx.heap.size wx w') := fun wx => by
    have := ConfCheck_any (Cfg.mk c.cB 1 c.cDepth c.cWin c.cQs c.cQr c.cBatch c.cPass c.cMsg c.cSeqs) wx
    rw [show checkA (Cfg.mk c.cB 1 c.cDepth c.cWin c.cQs c.cQr c.cBatch c.cPass c.cMsg c.cSeqs) = 0 from (if_pos o0)] at this
    exact this
  have G0 : Hid (∀ wx : World, Calls Try.prog 8 #[.agg #[.int .i64 c.cB, .int .i64 1, .int .i64 c.cDepth, .int .i64 c.cWin, .int .i64 c.cQs, .int .i64 c.cQr, .int .i64 c.cBatch, .int .i64 c.cPass, .int .i64 c.cMsg, .int .i64 c.cSeqs]] wx fun e w' => e = .returned (.int .i64 S0) ∧ Below wx.heap.size wx w') := fun wx => by
    have := ConfSegs_any (Cfg.mk c.cB 1 c.cDepth c.cWin c.cQs c.cQr c.cBatch c.cPass c.cMsg c.cSeqs) wx
    rw [show segsA (Cfg.mk c.cB 1 c.cDepth c.cWin c.cQs c.cQr c.cBatch c.cPass c.cMsg c.cSeqs) = S0 from (if_pos o0).trans hS0] at this
    exact this
  have o1 : okC (Cfg.mk c.cB 16 c.cDepth c.cWin c.cQs c.cQr c.cBatch c.cPass c.cMsg c.cSeqs) = true := (okC_iff _).2 (by dsimp only; omega)
  obtain ⟨S1, hS1⟩ : ∃ v, segsC (Cfg.mk c.cB 16 c.cDepth c.cWin c.cQs c.cQr c.cBatch c.cPass c.cMsg c.cSeqs) = v := ⟨_, rfl⟩
  have b1_ := (segsC_bd o1).1
  rw [hS1] at b1_
  have dS1 : decide (S1 < 22) = false := decide_eq_false (by omega)
  have K1 : Hid (∀ wx : World, Calls Try.prog 7 #[.agg #[.int .i64 c.cB, .int .i64 16, .int .i64 c.cDepth, .int .i64 c.cWin, .int .i64 c.cQs, .int .i64 c.cQr, .int .i64 c.cBatch, .int .i64 c.cPass, .int .i64 c.cMsg, .int .i64 c.cSeqs]] wx fun e w' => e = .returned (.int .i64 0) ∧ Below wx.heap.size wx w') := fun wx => by
    have := ConfCheck_any (Cfg.mk c.cB 16 c.cDepth c.cWin c.cQs c.cQr c.cBatch c.cPass c.cMsg c.cSeqs) wx
    rw [show checkA (Cfg.mk c.cB 16 c.cDepth c.cWin c.cQs c.cQr c.cBatch c.cPass c.cMsg c.cSeqs) = 0 from (if_pos o1)] at this
    exact this
  have G1 : Hid (∀ wx : World, Calls Try.prog 8 #[.agg #[.int .i64 c.cB, .int .i64 16, .int .i64 c.cDepth, .int .i64 c.cWin, .int .i64 c.cQs, .int .i64 c.cQr, .int .i64 c.cBatch, .int .i64 c.cPass, .int .i64 c.cMsg, .int .i64 c.cSeqs]] wx fun e w' => e = .returned (.int .i64 S1) ∧ Below wx.heap.size wx w') := fun wx => by
    have := ConfSegs_any (Cfg.mk c.cB 16 c.cDepth c.cWin c.cQs c.cQr c.cBatch c.cPass c.cMsg c.cSeqs) wx
    rw [show segsA (Cfg.mk c.cB 16 c.cDepth c.cWin c.cQs c.cQr c.cBatch c.cPass c.cMsg c.cSeqs) = S1 from (if_pos o1).trans hS1] at this
    exact this
  have o2 : okC (Cfg.mk c.cB 0 c.cDepth c.cWin c.cQs c.cQr c.cBatch c.cPass c.cMsg c.cSeqs) = false := by
    rw [← Bool.not_eq_true, okC_iff]
    dsimp only
    omega
  have K2 : Hid (∀ wx : World, Calls Try.prog 7 #[.agg #[.int .i64 c.cB, .int .i64 0, .int .i64 c.cDepth, .int .i64 c.cWin, .int .i64 c.cQs, .int .i64 c.cQr, .int .i64 c.cBatch, .int .i64 c.cPass, .int .i64 c.cMsg, .int .i64 c.cSeqs]] wx fun e w' => e = .returned (.int .i64 1) ∧ Below wx.heap.size wx w') := fun wx => by
    have := ConfCheck_any (Cfg.mk c.cB 0 c.cDepth c.cWin c.cQs c.cQr c.cBatch c.cPass c.cMsg c.cSeqs) wx
    rw [show checkA (Cfg.mk c.cB 0 c.cDepth c.cWin c.cQs c.cQr c.cBatch c.cPass c.cMsg c.cSeqs) = 1 from (if_neg (by rw [o2]; decide))] at this
    exact this
  have G2 : Hid (∀ wx : World, Calls Try.prog 8 #[.agg #[.int .i64 c.cB, .int .i64 0, .int .i64 c.cDepth, .int .i64 c.cWin, .int .i64 c.cQs, .int .i64 c.cQr, .int .i64 c.cBatch, .int .i64 c.cPass, .int .i64 c.cMsg, .int .i64 c.cSeqs]] wx fun e w' => e = .returned (.int .i64 0) ∧ Below wx.heap.size wx w') := fun wx => by
    have := ConfSegs_any (Cfg.mk c.cB 0 c.cDepth c.cWin c.cQs c.cQr c.cBatch c.cPass c.cMsg c.cSeqs) wx
    rw [show segsA (Cfg.mk c.cB 0 c.cDepth c.cWin c.cQs c.cQr c.cBatch c.cPass c.cMsg c.cSeqs) = 0 from (if_neg (by rw [o2]; decide))] at this
    exact this
  have T2 : Hid (∀ wx : World, Calls Try.prog 11 #[.agg #[.int .i64 c.cB, .int .i64 0, .int .i64 c.cDepth, .int .i64 c.cWin, .int .i64 c.cQs, .int .i64 c.cQr, .int .i64 c.cBatch, .int .i64 c.cPass, .int .i64 c.cMsg, .int .i64 c.cSeqs]] wx fun e w' => e = .returned (.int .i64 0) ∧ Below wx.heap.size wx w') := fun wx => by
    have := ConfTicks_any (Cfg.mk c.cB 0 c.cDepth c.cWin c.cQs c.cQr c.cBatch c.cPass c.cMsg c.cSeqs) wx
    rw [show ticksA (Cfg.mk c.cB 0 c.cDepth c.cWin c.cQs c.cQr c.cBatch c.cPass c.cMsg c.cSeqs) = 0 from (if_neg (by rw [o2]; decide))] at this
    exact this
  have o3 : okC (Cfg.mk c.cB 17 c.cDepth c.cWin c.cQs c.cQr c.cBatch c.cPass c.cMsg c.cSeqs) = false := by
    rw [← Bool.not_eq_true, okC_iff]
    dsimp only
    omega
  have K3 : Hid (∀ wx : World, Calls Try.prog 7 #[.agg #[.int .i64 c.cB, .int .i64 17, .int .i64 c.cDepth, .int .i64 c.cWin, .int .i64 c.cQs, .int .i64 c.cQr, .int .i64 c.cBatch, .int .i64 c.cPass, .int .i64 c.cMsg, .int .i64 c.cSeqs]] wx fun e w' => e = .returned (.int .i64 1) ∧ Below wx.heap.size wx w') := fun wx => by
    have := ConfCheck_any (Cfg.mk c.cB 17 c.cDepth c.cWin c.cQs c.cQr c.cBatch c.cPass c.cMsg c.cSeqs) wx
    rw [show checkA (Cfg.mk c.cB 17 c.cDepth c.cWin c.cQs c.cQr c.cBatch c.cPass c.cMsg c.cSeqs) = 1 from (if_neg (by rw [o3]; decide))] at this
    exact this
  have G3 : Hid (∀ wx : World, Calls Try.prog 8 #[.agg #[.int .i64 c.cB, .int .i64 17, .int .i64 c.cDepth, .int .i64 c.cWin, .int .i64 c.cQs, .int .i64 c.cQr, .int .i64 c.cBatch, .int .i64 c.cPass, .int .i64 c.cMsg, .int .i64 c.cSeqs]] wx fun e w' => e = .returned (.int .i64 0) ∧ Below wx.heap.size wx w') := fun wx => by
    have := ConfSegs_any (Cfg.mk c.cB 17 c.cDepth c.cWin c.cQs c.cQr c.cBatch c.cPass c.cMsg c.cSeqs) wx
    rw [show segsA (Cfg.mk c.cB 17 c.cDepth c.cWin c.cQs c.cQr c.cBatch c.cPass c.cMsg c.cSeqs) = 0 from (if_neg (by rw [o3]; decide))] at this
    exact this
  have T3 : Hid (∀ wx : World, Calls Try.prog 11 #[.agg #[.int .i64 c.cB, .int .i64 17, .int .i64 c.cDepth, .int .i64 c.cWin, .int .i64 c.cQs, .int .i64 c.cQr, .int .i64 c.cBatch, .int .i64 c.cPass, .int .i64 c.cMsg, .int .i64 c.cSeqs]] wx fun e w' => e = .returned (.int .i64 0) ∧ Below wx.heap.size wx w') := fun wx => by
    have := ConfTicks_any (Cfg.mk c.cB 17 c.cDepth c.cWin c.cQs c.cQr c.cBatch c.cPass c.cMsg c.cSeqs) wx
    rw [show ticksA (Cfg.mk c.cB 17 c.cDepth c.cWin c.cQs c.cQr c.cBatch c.cPass c.cMsg c.cSeqs) = 0 from (if_neg (by rw [o3]; decide))] at this
    exact this
  have KC : Hid (∀ wx : World, Calls Try.prog 7 #[.agg #[.int .i64 c.cB, .int .i64 c.cBeam, .int .i64 c.cDepth, .int .i64 c.cWin, .int .i64 c.cQs, .int .i64 c.cQr, .int .i64 c.cBatch, .int .i64 c.cPass, .int .i64 c.cMsg, .int .i64 c.cSeqs]] wx fun e w' => e = .returned (.int .i64 0) ∧ Below wx.heap.size wx w') := fun wx => by
    have := ConfCheck_any c wx
    rw [show checkA c = 0 from (if_pos hA)] at this
    exact this
  have HC := refConfig_any c (w.alloc (.cells #[.int .i64 c.cB, .int .i64 c.cBeam, .int .i64 c.cDepth, .int .i64 c.cWin, .int .i64 c.cQs, .int .i64 c.cQr, .int .i64 c.cBatch, .int .i64 c.cPass, .int .i64 c.cMsg, .int .i64 c.cSeqs] 23))
  rw [hA] at HC
  clear hI hA o0 o1 o2 o3 hS0 b0_ hS1 b1_
  go_enter Try.func5, Try.ntmps5
  have cxa0 := xa.cell 0 _ rfl
  have cxa1 := xa.cell 1 _ rfl
  have cxa2 := xa.cell 2 _ rfl
  have cxa3 := xa.cell 3 _ rfl
  have cxa4 := xa.cell 4 _ rfl
  have cxa5 := xa.cell 5 _ rfl
  have cxa6 := xa.cell 6 _ rfl
  have cxa7 := xa.cell 7 _ rfl
  have cxa8 := xa.cell 8 _ rfl
  have cxa9 := xa.cell 9 _ rfl
  go_wp2_with fail
  refine (HC).mono ?_
  rintro e w1 ⟨rfl, b9⟩
  clear cxa0 cxa1 cxa2 cxa3 cxa4 cxa5 cxa6 cxa7 cxa8 cxa9
  replace xa := xa.next b9
  replace bb := bb.trans (b9.mono bb.size)
  clear b9
  clear HC
  have b9 : Below w1.heap.size w1 ((w1.alloc (.cells #[.int .i64 1, .int .i64 1, .int .i64 1, .int .i64 1, .int .i64 1, .int .i64 1, .int .i64 1, .int .i64 4, .int .i64 0, .int .i64 0] 3)).alloc (.cells #[.int .i64 16, .int .i64 16, .int .i64 3, .int .i64 16, .int .i64 16, .int .i64 16, .int .i64 64, .int .i64 16, .int .i64 200, .int .i64 1073741824] 3)) := ((Below.refl _ _).alloc (Nat.le_refl _) _).alloc (by simp) _
  have xl : Box ((w1.alloc (.cells #[.int .i64 1, .int .i64 1, .int .i64 1, .int .i64 1, .int .i64 1, .int .i64 1, .int .i64 1, .int .i64 4, .int .i64 0, .int .i64 0] 3)).alloc (.cells #[.int .i64 16, .int .i64 16, .int .i64 3, .int .i64 16, .int .i64 16, .int .i64 16, .int .i64 64, .int .i64 16, .int .i64 200, .int .i64 1073741824] 3)) w1.heap.size 3 #[.int .i64 1, .int .i64 1, .int .i64 1, .int .i64 1, .int .i64 1, .int .i64 1, .int .i64 1, .int .i64 4, .int .i64 0, .int .i64 0] := (Box.new w1 _ _).alloc _
  have xm : Box ((w1.alloc (.cells #[.int .i64 1, .int .i64 1, .int .i64 1, .int .i64 1, .int .i64 1, .int .i64 1, .int .i64 1, .int .i64 4, .int .i64 0, .int .i64 0] 3)).alloc (.cells #[.int .i64 16, .int .i64 16, .int .i64 3, .int .i64 16, .int .i64 16, .int .i64 16, .int .i64 64, .int .i64 16, .int .i64 200, .int .i64 1073741824] 3)) (w1.heap.size + 1) 3 #[.int .i64 16, .int .i64 16, .int .i64 3, .int .i64 16, .int .i64 16, .int .i64 16, .int .i64 64, .int .i64 16, .int .i64 200, .int .i64 1073741824] := by
    have := Box.new (w1.alloc (.cells #[.int .i64 1, .int .i64 1, .int .i64 1, .int .i64 1, .int .i64 1, .int .i64 1, .int .i64 1, .int .i64 4, .int .i64 0, .int .i64 0] 3)) 3 #[.int .i64 16, .int .i64 16, .int .i64 3, .int .i64 16, .int .i64 16, .int .i64 16, .int .i64 64, .int .i64 16, .int .i64 200, .int .i64 1073741824]
    simpa using this
  replace xa := xa.next b9
  replace bb := bb.trans (b9.mono bb.size)
  clear b9
  go_wp2
  generalize ((w1.alloc (.cells #[.int .i64 1, .int .i64 1, .int .i64 1, .int .i64 1, .int .i64 1, .int .i64 1, .int .i64 1, .int .i64 4, .int .i64 0, .int .i64 0] 3)).alloc (.cells #[.int .i64 16, .int .i64 16, .int .i64 3, .int .i64 16, .int .i64 16, .int .i64 16, .int .i64 64, .int .i64 16, .int .i64 200, .int .i64 1073741824] 3)) = w2 at *
  have wv2 : IntKind.i64.wrap (0) = 0 := by rw [IntKind.wrap_i64]; decide
  have wv3 : IntKind.i64.wrap (17) = 17 := by rw [IntKind.wrap_i64]; decide
  have hltl := xl.lt
  have hltm := xm.lt
  have cl := xl.cell 1 _ rfl
  have cm := xm.cell 1 _ rfl
  skip
  go_cut [38, 39, 40] (fun s l i wx => ∃ B4, s = .slice (some ⟨B4, 0, none⟩) 4 4 ∧ l = .int .i64 4 ∧ i = .int .i64 0 ∧ Box wx B4 3 #[.int .i64 1, .int .i64 16, .int .i64 0, .int .i64 17] ∧ Below w2.heap.size w2 wx)
  case first =>
    refine wp_region_held_drew (S := fun w' => Below w2.heap.size w2 w') (by kernel_rfl) ((Below.refl _ _).drew) (fun hHeld => ?_)
    generalize w2.drew = wk0 at *
    refine held_take (i := 0) (d := 20) (v := ?v20) rfl rfl (by kernel_rfl) (by kernel_rfl) (by kernel_rfl) (fun _ _ _ h => h) (Or.inl ⟨by kernel_rfl, ?hy20⟩) hHeld ?rest20
    case hy20 =>
      intro wx hSw
      clear hSw
      go_simp
      with_reducible rfl
    simp only [List.setIfInBounds_toArray, List.set_cons_zero, List.set_cons_succ]
    refine held_take (i := 1) (d := 21) (v := ?v21) rfl rfl (by kernel_rfl) (by kernel_rfl) (by kernel_rfl) (fun _ _ _ h => h) (Or.inl ⟨by kernel_rfl, ?hy21⟩) hHeld ?rest21
    case hy21 =>
      intro wx hSw
      clear hSw
      go_simp
      with_reducible rfl
    simp only [List.setIfInBounds_toArray, List.set_cons_zero, List.set_cons_succ]
    refine held_take (i := 2) (d := 22) (v := ?v22) rfl rfl (by kernel_rfl) (by kernel_rfl) (by kernel_rfl) (fun _ _ _ h => h) (Or.inl ⟨by kernel_rfl, ?hy22⟩) hHeld ?rest22
    case hy22 =>
      intro wx hSw
      clear hSw
      go_simp
      with_reducible rfl
    simp only [List.setIfInBounds_toArray, List.set_cons_zero, List.set_cons_succ]
    refine held_take (i := 3) (d := 23) (v := ?v23) rfl rfl (by kernel_rfl) (by kernel_rfl) (by kernel_rfl) (fun _ _ _ h => h) (Or.inl ⟨by kernel_rfl, ?hy23⟩) hHeld ?rest23
    case hy23 =>
      intro wx hSw
      have q0 := (hSw.cell (p := ⟨w1.heap.size, 1, none⟩) hltl).trans cl
      clear hSw
      go_simp
      with_reducible rfl
    simp only [List.setIfInBounds_toArray, List.set_cons_zero, List.set_cons_succ]
    refine held_take (i := 4) (d := 24) (v := ?v24) rfl rfl (by kernel_rfl) (by kernel_rfl) (by kernel_rfl) (fun _ _ _ h => h) (Or.inl ⟨by kernel_rfl, ?hy24⟩) hHeld ?rest24
    case hy24 =>
      intro wx hSw
      clear hSw
      go_simp
      with_reducible rfl
    simp only [List.setIfInBounds_toArray, List.set_cons_zero, List.set_cons_succ]
    refine held_take (i := 5) (d := 25) (v := ?v25) rfl rfl (by kernel_rfl) (by kernel_rfl) (by kernel_rfl) (fun _ _ _ h => h) (Or.inl ⟨by kernel_rfl, ?hy25⟩) hHeld ?rest25
    case hy25 =>
      intro wx hSw
      clear hSw
      go_simp
      with_reducible rfl
    simp only [List.setIfInBounds_toArray, List.set_cons_zero, List.set_cons_succ]
    refine held_take (i := 6) (d := 26) (v := ?v26) rfl rfl (by kernel_rfl) (by kernel_rfl) (by kernel_rfl) (fun _ _ _ h => h) (Or.inl ⟨by kernel_rfl, ?hy26⟩) hHeld ?rest26
    case hy26 =>
      intro wx hSw
      clear hSw
      go_simp
      with_reducible rfl
    simp only [List.setIfInBounds_toArray, List.set_cons_zero, List.set_cons_succ]
    refine held_take (i := 7) (d := 27) (v := ?v27) rfl rfl (by kernel_rfl) (by kernel_rfl) (by kernel_rfl) (fun _ _ _ h => h) (Or.inl ⟨by kernel_rfl, ?hy27⟩) hHeld ?rest27
    case hy27 =>
      intro wx hSw
      have q0 := (hSw.cell (p := ⟨w1.heap.size + 1, 1, none⟩) hltm).trans cm
      clear hSw
      go_simp
      with_reducible rfl
    simp only [List.setIfInBounds_toArray, List.set_cons_zero, List.set_cons_succ]
    refine held_take (i := 8) (d := 28) (v := ?v28) rfl rfl (by kernel_rfl) (by kernel_rfl) (by kernel_rfl) (fun _ _ _ h => h) (Or.inl ⟨by kernel_rfl, ?hy28⟩) hHeld ?rest28
    case hy28 =>
      intro wx hSw
      clear hSw
      go_simp
      with_reducible rfl
    simp only [List.setIfInBounds_toArray, List.set_cons_zero, List.set_cons_succ]
    refine held_take (i := 9) (d := 29) (v := ?v29) rfl rfl (by kernel_rfl) (by kernel_rfl) (by kernel_rfl) (fun _ _ _ h => h) (Or.inl ⟨by kernel_rfl, ?hy29⟩) hHeld ?rest29
    case hy29 =>
      intro wx hSw
      clear hSw
      go_simp
      with_reducible rfl
    simp only [List.setIfInBounds_toArray, List.set_cons_zero, List.set_cons_succ]
    refine held_take (i := 10) (d := 30) (v := ?v30) rfl rfl (by kernel_rfl) (by kernel_rfl) (by kernel_rfl) (fun _ _ _ h => h) (Or.inl ⟨by kernel_rfl, ?hy30⟩) hHeld ?rest30
    case hy30 =>
      intro wx hSw
      clear hSw
      go_simp
      with_reducible rfl
    simp only [List.setIfInBounds_toArray, List.set_cons_zero, List.set_cons_succ]
    refine held_take (i := 11) (d := 31) (v := ?v31) rfl rfl (by kernel_rfl) (by kernel_rfl) (by kernel_rfl) (fun _ _ _ h => h) (Or.inl ⟨by kernel_rfl, ?hy31⟩) hHeld ?rest31
    case hy31 =>
      intro wx hSw
      have q0 := (hSw.cell (p := ⟨w1.heap.size, 1, none⟩) hltl).trans cl
      clear hSw
      go_simp
      with_reducible rfl
    simp only [List.setIfInBounds_toArray, List.set_cons_zero, List.set_cons_succ]
    refine held_take (i := 12) (d := 32) (v := ?v32) rfl rfl (by kernel_rfl) (by kernel_rfl) (by kernel_rfl) (fun _ _ _ h => h) (Or.inl ⟨by kernel_rfl, ?hy32⟩) hHeld ?rest32
    case hy32 =>
      intro wx hSw
      clear hSw
      go_simp
      with_reducible rfl
    simp only [List.setIfInBounds_toArray, List.set_cons_zero, List.set_cons_succ]
    refine held_take (i := 13) (d := 33) (v := ?v33) rfl rfl (by kernel_rfl) (by kernel_rfl) (by kernel_rfl) (fun _ _ _ h => h) (Or.inl ⟨by kernel_rfl, ?hy33⟩) hHeld ?rest33
    case hy33 =>
      intro wx hSw
      clear hSw
      go_simp
      with_reducible rfl
    simp only [List.setIfInBounds_toArray, List.set_cons_zero, List.set_cons_succ]
    refine held_take (i := 14) (d := 34) (v := ?v34) rfl rfl (by kernel_rfl) (by kernel_rfl) (by kernel_rfl) (fun _ _ _ h => h) (Or.inl ⟨by kernel_rfl, ?hy34⟩) hHeld ?rest34
    case hy34 =>
      intro wx hSw
      clear hSw
      go_simp
      with_reducible rfl
    simp only [List.setIfInBounds_toArray, List.set_cons_zero, List.set_cons_succ]
    refine held_take (i := 15) (d := 35) (v := ?v35) rfl rfl (by kernel_rfl) (by kernel_rfl) (by kernel_rfl) (fun _ _ _ h => h) (Or.inl ⟨by kernel_rfl, ?hy35⟩) hHeld ?rest35
    case hy35 =>
      intro wx hSw
      clear hSw
      go_simp
      with_reducible rfl
    simp only [List.setIfInBounds_toArray, List.set_cons_zero, List.set_cons_succ]
    refine held_take (i := 16) (d := 36) (v := ?v36) rfl rfl (by kernel_rfl) (by kernel_rfl) (by kernel_rfl) (fun _ _ _ h => h) (Or.inl ⟨by kernel_rfl, ?hy36⟩) hHeld ?rest36
    case hy36 =>
      intro wx hSw
      have q0 := (hSw.cell (p := ⟨w1.heap.size + 1, 1, none⟩) hltm).trans cm
      clear hSw
      go_simp
      with_reducible rfl
    simp only [List.setIfInBounds_toArray, List.set_cons_zero, List.set_cons_succ]
    refine held_take (i := 17) (d := 37) (v := ?v37) rfl rfl (by kernel_rfl) (by kernel_rfl) (by kernel_rfl) (fun _ _ _ h => h) (Or.inl ⟨by kernel_rfl, ?hy37⟩) hHeld ?rest37
    case hy37 =>
      intro wx hSw
      clear hSw
      go_simp
      with_reducible rfl
    simp only [List.setIfInBounds_toArray, List.set_cons_zero, List.set_cons_succ]
    refine held_take (i := 20) (d := 40) (v := ?v38) rfl rfl (by kernel_rfl) (by kernel_rfl) (by kernel_rfl) (fun _ _ _ h => h) (Or.inl ⟨by kernel_rfl, ?hy38⟩) hHeld ?rest38
    case hy38 =>
      intro wx hSw
      clear hSw
      go_simp
      with_reducible rfl
    simp only [List.setIfInBounds_toArray, List.set_cons_zero, List.set_cons_succ]
    refine wpAnyH_ready (rs := [18]) (by kernel_rfl) (by simp) ?_
    refine AllReadyH.cons rfl (fun K hK => ?_) AllReadyH.nil
    go_simp
    obtain ⟨B4, hB4⟩ : ∃ n, wk0.heap.size = n := ⟨_, rfl⟩
    have x4 := Box.new wk0 3 #[.int .i64 1, .int .i64 16, .int .i64 0, .int .i64 17]
    rw [hB4] at x4 ⊢
    have hS4 := hHeld.alloc hHeld.size (.cells #[.int .i64 1, .int .i64 16, .int .i64 0, .int .i64 17] 3)
    generalize wk0.alloc (.cells #[.int .i64 1, .int .i64 16, .int .i64 0, .int .i64 17] 3) = wk1 at *
    refine hK.out _ _ (hS4) (fun hHeld => ?_)
    clear hK K
    refine wpAnyH_ready (rs := [19]) (by kernel_rfl) (by simp) ?_
    refine AllReadyH.cons rfl (fun K hK => ?_) AllReadyH.nil
    go_simp
    refine hK.out _ _ hHeld (fun hHeld => ?_)
    clear hK K
    refine wpAnyH_done (by kernel_rfl) ?_ _
    go_wp2_with fail
    go_meet
    exact ⟨B4, rfl, rfl, rfl, x4, hHeld⟩
  case rest =>
    obtain ⟨B4, rfl, rfl, rfl, x4, b9⟩ := hcut
    clear cl cm hltl hltm
    replace xa := xa.next b9
    replace xl := xl.next b9
    replace xm := xm.next b9
    replace bb := bb.trans (b9.mono bb.size)
    clear b9 xl xm
    go_wp2_with fail
    go_loopw [40] (fun i wr => ∃ j : Nat, j ≤ 4 ∧ i = .int .i64 j ∧ Box wr w.heap.size 23 #[.int .i64 c.cB, .int .i64 c.cBeam, .int .i64 c.cDepth, .int .i64 c.cWin, .int .i64 c.cQs, .int .i64 c.cQr, .int .i64 c.cBatch, .int .i64 c.cPass, .int .i64 c.cMsg, .int .i64 c.cSeqs] ∧ Box wr B4 3 #[.int .i64 1, .int .i64 16, .int .i64 0, .int .i64 17] ∧ Below w.heap.size w wr) (fun i _ => 4 - (intOf i).toNat)
    case atStart => exact ⟨0, by omega, rfl, xa, x4, bb⟩
    case round =>
      clear xa x4 bb
      obtain ⟨j, hj, rfl, xa, x4, bb⟩ := hrel
      have hj5 : j = 0 ∨ j = 1 ∨ j = 2 ∨ j = 3 ∨ j = 4 := by omega
      clear hj
      rcases hj5 with rfl | rfl | rfl | rfl | rfl
      · have cxa0 := xa.cell 0 _ rfl
        have cxa1 := xa.cell 1 _ rfl
        have cxa2 := xa.cell 2 _ rfl
        have cxa3 := xa.cell 3 _ rfl
        have cxa4 := xa.cell 4 _ rfl
        have cxa5 := xa.cell 5 _ rfl
        have cxa6 := xa.cell 6 _ rfl
        have cxa7 := xa.cell 7 _ rfl
        have cxa8 := xa.cell 8 _ rfl
        have cxa9 := xa.cell 9 _ rfl
        have c4 := x4.cell 0 _ rfl
        have hlt4 := x4.lt
        have hlta := xa.lt
        have b9 : Below wr.heap.size wr (wr.alloc (.cells #[.int .i64 c.cB, .int .i64 1, .int .i64 c.cDepth, .int .i64 c.cWin, .int .i64 c.cQs, .int .i64 c.cQr, .int .i64 c.cBatch, .int .i64 c.cPass, .int .i64 c.cMsg, .int .i64 c.cSeqs] 23)) := (Below.refl _ _).alloc (Nat.le_refl _) _
        have xd := Box.new wr 23 #[.int .i64 c.cB, .int .i64 1, .int .i64 c.cDepth, .int .i64 c.cWin, .int .i64 c.cQs, .int .i64 c.cQr, .int .i64 c.cBatch, .int .i64 c.cPass, .int .i64 c.cMsg, .int .i64 c.cSeqs]
        go_wp2_with fail
        replace xa := xa.next b9
        replace x4 := x4.next b9
        replace bb := bb.trans (b9.mono bb.size)
        clear b9 c4 hlt4 hlta cxa0 cxa1 cxa2 cxa3 cxa4 cxa5 cxa6 cxa7 cxa8 cxa9
        refine (K0.out _).mono ?_
        rintro e w21 ⟨rfl, b9⟩
        replace xa := xa.next b9
        replace x4 := x4.next b9
        replace xd := xd.next b9
        replace bb := bb.trans (b9.mono bb.size)
        clear b9
        have cxd0 := xd.cell 0 _ rfl
        have cxd1 := xd.cell 1 _ rfl
        have cxd2 := xd.cell 2 _ rfl
        have cxd3 := xd.cell 3 _ rfl
        have cxd4 := xd.cell 4 _ rfl
        have cxd5 := xd.cell 5 _ rfl
        have cxd6 := xd.cell 6 _ rfl
        have cxd7 := xd.cell 7 _ rfl
        have cxd8 := xd.cell 8 _ rfl
        have cxd9 := xd.cell 9 _ rfl
        go_wp2_with fail
        refine (G0.out _).mono ?_
        rintro e w22 ⟨rfl, b9⟩
        clear cxd0 cxd1 cxd2 cxd3 cxd4 cxd5 cxd6 cxd7 cxd8 cxd9
        replace xa := xa.next b9
        replace x4 := x4.next b9
        replace xd := xd.next b9
        replace bb := bb.trans (b9.mono bb.size)
        clear b9
        go_wp2
        go_roundw
        case rel => exact ⟨1, by omega, by go_num, xa, x4, bb⟩
        case measure => simp [intOf]
      · have cxa0 := xa.cell 0 _ rfl
        have cxa1 := xa.cell 1 _ rfl
        have cxa2 := xa.cell 2 _ rfl
        have cxa3 := xa.cell 3 _ rfl
        have cxa4 := xa.cell 4 _ rfl
        have cxa5 := xa.cell 5 _ rfl
        have cxa6 := xa.cell 6 _ rfl
        have cxa7 := xa.cell 7 _ rfl
        have cxa8 := xa.cell 8 _ rfl
        have cxa9 := xa.cell 9 _ rfl
        have c4 := x4.cell 1 _ rfl
        have hlt4 := x4.lt
        have hlta := xa.lt
        have b9 : Below wr.heap.size wr (wr.alloc (.cells #[.int .i64 c.cB, .int .i64 16, .int .i64 c.cDepth, .int .i64 c.cWin, .int .i64 c.cQs, .int .i64 c.cQr, .int .i64 c.cBatch, .int .i64 c.cPass, .int .i64 c.cMsg, .int .i64 c.cSeqs] 23)) := (Below.refl _ _).alloc (Nat.le_refl _) _
        have xd := Box.new wr 23 #[.int .i64 c.cB, .int .i64 16, .int .i64 c.cDepth, .int .i64 c.cWin, .int .i64 c.cQs, .int .i64 c.cQr, .int .i64 c.cBatch, .int .i64 c.cPass, .int .i64 c.cMsg, .int .i64 c.cSeqs]
        go_wp2_with fail
        replace xa := xa.next b9
        replace x4 := x4.next b9
        replace bb := bb.trans (b9.mono bb.size)
        clear b9 c4 hlt4 hlta cxa0 cxa1 cxa2 cxa3 cxa4 cxa5 cxa6 cxa7 cxa8 cxa9
        refine (K1.out _).mono ?_
        rintro e w21 ⟨rfl, b9⟩
        replace xa := xa.next b9
        replace x4 := x4.next b9
        replace xd := xd.next b9
        replace bb := bb.trans (b9.mono bb.size)
        clear b9
        have cxd0 := xd.cell 0 _ rfl
        have cxd1 := xd.cell 1 _ rfl
        have cxd2 := xd.cell 2 _ rfl
        have cxd3 := xd.cell 3 _ rfl
        have cxd4 := xd.cell 4 _ rfl
        have cxd5 := xd.cell 5 _ rfl
        have cxd6 := xd.cell 6 _ rfl
        have cxd7 := xd.cell 7 _ rfl
        have cxd8 := xd.cell 8 _ rfl
        have cxd9 := xd.cell 9 _ rfl
        go_wp2_with fail
        refine (G1.out _).mono ?_
        rintro e w22 ⟨rfl, b9⟩
        clear cxd0 cxd1 cxd2 cxd3 cxd4 cxd5 cxd6 cxd7 cxd8 cxd9
        replace xa := xa.next b9
        replace x4 := x4.next b9
        replace xd := xd.next b9
        replace bb := bb.trans (b9.mono bb.size)
        clear b9
        go_wp2
        go_roundw
        case rel => exact ⟨2, by omega, by go_num, xa, x4, bb⟩
        case measure => simp [intOf]
      · have cxa0 := xa.cell 0 _ rfl
        have cxa1 := xa.cell 1 _ rfl
        have cxa2 := xa.cell 2 _ rfl
        have cxa3 := xa.cell 3 _ rfl
        have cxa4 := xa.cell 4 _ rfl
        have cxa5 := xa.cell 5 _ rfl
        have cxa6 := xa.cell 6 _ rfl
        have cxa7 := xa.cell 7 _ rfl
        have cxa8 := xa.cell 8 _ rfl
        have cxa9 := xa.cell 9 _ rfl
        have c4 := x4.cell 2 _ rfl
        have hlt4 := x4.lt
        have hlta := xa.lt
        have b9 : Below wr.heap.size wr (wr.alloc (.cells #[.int .i64 c.cB, .int .i64 0, .int .i64 c.cDepth, .int .i64 c.cWin, .int .i64 c.cQs, .int .i64 c.cQr, .int .i64 c.cBatch, .int .i64 c.cPass, .int .i64 c.cMsg, .int .i64 c.cSeqs] 23)) := (Below.refl _ _).alloc (Nat.le_refl _) _
        have xd := Box.new wr 23 #[.int .i64 c.cB, .int .i64 0, .int .i64 c.cDepth, .int .i64 c.cWin, .int .i64 c.cQs, .int .i64 c.cQr, .int .i64 c.cBatch, .int .i64 c.cPass, .int .i64 c.cMsg, .int .i64 c.cSeqs]
        go_wp2_with fail
        replace xa := xa.next b9
        replace x4 := x4.next b9
        replace bb := bb.trans (b9.mono bb.size)
        clear b9 c4 hlt4 hlta cxa0 cxa1 cxa2 cxa3 cxa4 cxa5 cxa6 cxa7 cxa8 cxa9
        refine (K2.out _).mono ?_
        rintro e w21 ⟨rfl, b9⟩
        replace xa := xa.next b9
        replace x4 := x4.next b9
        replace xd := xd.next b9
        replace bb := bb.trans (b9.mono bb.size)
        clear b9
        have cxd0 := xd.cell 0 _ rfl
        have cxd1 := xd.cell 1 _ rfl
        have cxd2 := xd.cell 2 _ rfl
        have cxd3 := xd.cell 3 _ rfl
        have cxd4 := xd.cell 4 _ rfl
        have cxd5 := xd.cell 5 _ rfl
        have cxd6 := xd.cell 6 _ rfl
        have cxd7 := xd.cell 7 _ rfl
        have cxd8 := xd.cell 8 _ rfl
        have cxd9 := xd.cell 9 _ rfl
        go_wp2_with fail
        refine (K2.out _).mono ?_
        rintro e w22 ⟨rfl, b9⟩
        clear cxd0 cxd1 cxd2 cxd3 cxd4 cxd5 cxd6 cxd7 cxd8 cxd9
        replace xa := xa.next b9
        replace x4 := x4.next b9
        replace xd := xd.next b9
        replace bb := bb.trans (b9.mono bb.size)
        clear b9
        have cxd0 := xd.cell 0 _ rfl
        have cxd1 := xd.cell 1 _ rfl
        have cxd2 := xd.cell 2 _ rfl
        have cxd3 := xd.cell 3 _ rfl
        have cxd4 := xd.cell 4 _ rfl
        have cxd5 := xd.cell 5 _ rfl
        have cxd6 := xd.cell 6 _ rfl
        have cxd7 := xd.cell 7 _ rfl
        have cxd8 := xd.cell 8 _ rfl
        have cxd9 := xd.cell 9 _ rfl
        go_wp2_with fail
        refine (G2.out _).mono ?_
        rintro e w23 ⟨rfl, b9⟩
        clear cxd0 cxd1 cxd2 cxd3 cxd4 cxd5 cxd6 cxd7 cxd8 cxd9
        replace xa := xa.next b9
        replace x4 := x4.next b9
        replace xd := xd.next b9
        replace bb := bb.trans (b9.mono bb.size)
        clear b9
        have cxd0 := xd.cell 0 _ rfl
        have cxd1 := xd.cell 1 _ rfl
        have cxd2 := xd.cell 2 _ rfl
        have cxd3 := xd.cell 3 _ rfl
        have cxd4 := xd.cell 4 _ rfl
        have cxd5 := xd.cell 5 _ rfl
        have cxd6 := xd.cell 6 _ rfl
        have cxd7 := xd.cell 7 _ rfl
        have cxd8 := xd.cell 8 _ rfl
        have cxd9 := xd.cell 9 _ rfl
        go_wp2_with fail
        refine (T2.out _).mono ?_
        rintro e w24 ⟨rfl, b9⟩
        clear cxd0 cxd1 cxd2 cxd3 cxd4 cxd5 cxd6 cxd7 cxd8 cxd9
        replace xa := xa.next b9
        replace x4 := x4.next b9
        replace xd := xd.next b9
        replace bb := bb.trans (b9.mono bb.size)
        clear b9
        go_wp2
        go_roundw
        case rel => exact ⟨3, by omega, by go_num, xa, x4, bb⟩
        case measure => simp [intOf]
      · have cxa0 := xa.cell 0 _ rfl
        have cxa1 := xa.cell 1 _ rfl
        have cxa2 := xa.cell 2 _ rfl
        have cxa3 := xa.cell 3 _ rfl
        have cxa4 := xa.cell 4 _ rfl
        have cxa5 := xa.cell 5 _ rfl
        have cxa6 := xa.cell 6 _ rfl
        have cxa7 := xa.cell 7 _ rfl
        have cxa8 := xa.cell 8 _ rfl
        have cxa9 := xa.cell 9 _ rfl
        have c4 := x4.cell 3 _ rfl
        have hlt4 := x4.lt
        have hlta := xa.lt
        have b9 : Below wr.heap.size wr (wr.alloc (.cells #[.int .i64 c.cB, .int .i64 17, .int .i64 c.cDepth, .int .i64 c.cWin, .int .i64 c.cQs, .int .i64 c.cQr, .int .i64 c.cBatch, .int .i64 c.cPass, .int .i64 c.cMsg, .int .i64 c.cSeqs] 23)) := (Below.refl _ _).alloc (Nat.le_refl _) _
        have xd := Box.new wr 23 #[.int .i64 c.cB, .int .i64 17, .int .i64 c.cDepth, .int .i64 c.cWin, .int .i64 c.cQs, .int .i64 c.cQr, .int .i64 c.cBatch, .int .i64 c.cPass, .int .i64 c.cMsg, .int .i64 c.cSeqs]
        go_wp2_with fail
        replace xa := xa.next b9
        replace x4 := x4.next b9
        replace bb := bb.trans (b9.mono bb.size)
        clear b9 c4 hlt4 hlta cxa0 cxa1 cxa2 cxa3 cxa4 cxa5 cxa6 cxa7 cxa8 cxa9
        refine (K3.out _).mono ?_
        rintro e w21 ⟨rfl, b9⟩
        replace xa := xa.next b9
        replace x4 := x4.next b9
        replace xd := xd.next b9
        replace bb := bb.trans (b9.mono bb.size)
        clear b9
        have cxd0 := xd.cell 0 _ rfl
        have cxd1 := xd.cell 1 _ rfl
        have cxd2 := xd.cell 2 _ rfl
        have cxd3 := xd.cell 3 _ rfl
        have cxd4 := xd.cell 4 _ rfl
        have cxd5 := xd.cell 5 _ rfl
        have cxd6 := xd.cell 6 _ rfl
        have cxd7 := xd.cell 7 _ rfl
        have cxd8 := xd.cell 8 _ rfl
        have cxd9 := xd.cell 9 _ rfl
        go_wp2_with fail
        refine (K3.out _).mono ?_
        rintro e w22 ⟨rfl, b9⟩
        clear cxd0 cxd1 cxd2 cxd3 cxd4 cxd5 cxd6 cxd7 cxd8 cxd9
        replace xa := xa.next b9
        replace x4 := x4.next b9
        replace xd := xd.next b9
        replace bb := bb.trans (b9.mono bb.size)
        clear b9
        have cxd0 := xd.cell 0 _ rfl
        have cxd1 := xd.cell 1 _ rfl
        have cxd2 := xd.cell 2 _ rfl
        have cxd3 := xd.cell 3 _ rfl
        have cxd4 := xd.cell 4 _ rfl
        have cxd5 := xd.cell 5 _ rfl
        have cxd6 := xd.cell 6 _ rfl
        have cxd7 := xd.cell 7 _ rfl
        have cxd8 := xd.cell 8 _ rfl
        have cxd9 := xd.cell 9 _ rfl
        go_wp2_with fail
        refine (G3.out _).mono ?_
        rintro e w23 ⟨rfl, b9⟩
        clear cxd0 cxd1 cxd2 cxd3 cxd4 cxd5 cxd6 cxd7 cxd8 cxd9
        replace xa := xa.next b9
        replace x4 := x4.next b9
        replace xd := xd.next b9
        replace bb := bb.trans (b9.mono bb.size)
        clear b9
        have cxd0 := xd.cell 0 _ rfl
        have cxd1 := xd.cell 1 _ rfl
        have cxd2 := xd.cell 2 _ rfl
        have cxd3 := xd.cell 3 _ rfl
        have cxd4 := xd.cell 4 _ rfl
        have cxd5 := xd.cell 5 _ rfl
        have cxd6 := xd.cell 6 _ rfl
        have cxd7 := xd.cell 7 _ rfl
        have cxd8 := xd.cell 8 _ rfl
        have cxd9 := xd.cell 9 _ rfl
        go_wp2_with fail
        refine (T3.out _).mono ?_
        rintro e w24 ⟨rfl, b9⟩
        clear cxd0 cxd1 cxd2 cxd3 cxd4 cxd5 cxd6 cxd7 cxd8 cxd9
        replace xa := xa.next b9
        replace x4 := x4.next b9
        replace xd := xd.next b9
        replace bb := bb.trans (b9.mono bb.size)
        clear b9
        go_wp2
        go_roundw
        case rel => exact ⟨4, by omega, by go_num, xa, x4, bb⟩
        case measure => simp [intOf]
      · have cxa0 := xa.cell 0 _ rfl
        have cxa1 := xa.cell 1 _ rfl
        have cxa2 := xa.cell 2 _ rfl
        have cxa3 := xa.cell 3 _ rfl
        have cxa4 := xa.cell 4 _ rfl
        have cxa5 := xa.cell 5 _ rfl
        have cxa6 := xa.cell 6 _ rfl
        have cxa7 := xa.cell 7 _ rfl
        have cxa8 := xa.cell 8 _ rfl
        have cxa9 := xa.cell 9 _ rfl
        go_wp2_with fail
        refine (KC.out _).mono ?_
        rintro e w21 ⟨rfl, b9⟩
        clear cxa0 cxa1 cxa2 cxa3 cxa4 cxa5 cxa6 cxa7 cxa8 cxa9
        replace xa := xa.next b9
        replace bb := bb.trans (b9.mono bb.size)
        clear b9
        have HWK := confWakes_any w21
        go_wp2_with (go_at_call 13; refine HWK.mono ?_; rintro e w99 ⟨rfl, b99⟩)
        go_ret
        exact ⟨rfl, bb.trans (b99.mono bb.size)⟩

set_option maxRecDepth 100000 in
set_option maxHeartbeats 4000000 in
theorem confEnds_2 (c : Cfg) (x : Int) (hA : okC c = true) (ek : (IntKind.u64.wrap x).tmod 10 = 2) (w : World) :
    Calls Try.prog 5 #[.agg #[.int .i64 c.cB, .int .i64 c.cBeam, .int .i64 c.cDepth, .int .i64 c.cWin, .int .i64 c.cQs, .int .i64 c.cQr, .int .i64 c.cBatch, .int .i64 c.cPass, .int .i64 c.cMsg, .int .i64 c.cSeqs], .int .i64 x] w fun e w' => e = .returned (.bool true) ∧ Below w.heap.size w w' := by
  have bb : Below w.heap.size w (w.alloc (.cells #[.int .i64 c.cB, .int .i64 c.cBeam, .int .i64 c.cDepth, .int .i64 c.cWin, .int .i64 c.cQs, .int .i64 c.cQr, .int .i64 c.cBatch, .int .i64 c.cPass, .int .i64 c.cMsg, .int .i64 c.cSeqs] 23)) := (Below.refl w.heap.size w).alloc (Nat.le_refl _) _
  have xa := Box.new w 23 #[.int .i64 c.cB, .int .i64 c.cBeam, .int .i64 c.cDepth, .int .i64 c.cWin, .int .i64 c.cQs, .int .i64 c.cQr, .int .i64 c.cBatch, .int .i64 c.cPass, .int .i64 c.cMsg, .int .i64 c.cSeqs]
  have hI := (okC_iff c).1 hA
  have o0 : okC (Cfg.mk c.cB c.cBeam 1 c.cWin c.cQs c.cQr c.cBatch c.cPass c.cMsg c.cSeqs) = true := (okC_iff _).2 (by dsimp only; omega)
  obtain ⟨S0, hS0⟩ : ∃ v, segsC (Cfg.mk c.cB c.cBeam 1 c.cWin c.cQs c.cQr c.cBatch c.cPass c.cMsg c.cSeqs) = v := ⟨_, rfl⟩
  have b0_ := (segsC_bd o0).1
  rw [hS0] at b0_
  have dS0 : decide (S0 < 22) = false := decide_eq_false (by omega)
  have K0 : Hid (∀ wx : World, Calls Try.prog 7 #[.agg #[.int .i64 c.cB, .int .i64 c.cBeam, .int .i64 1, .int .i64 c.cWin, .int .i64 c.cQs, .int .i64 c.cQr, .int .i64 c.cBatch, .int .i64 c.cPass, .int .i64 c.cMsg, .int .i64 c.cSeqs]] wx fun e w' => e = .returned (.int .i64 0) ∧ Below wx.heap.size wx w') := fun wx => by
    have := ConfCheck_any (Cfg.mk c.cB c.cBeam 1 c.cWin c.cQs c.cQr c.cBatch c.cPass c.cMsg c.cSeqs) wx
    rw [show checkA (Cfg.mk c.cB c.cBeam 1 c.cWin c.cQs c.cQr c.cBatch c.cPass c.cMsg c.cSeqs) = 0 from (if_pos o0)] at this
    exact this
  have G0 : Hid (∀ wx : World, Calls Try.prog 8 #[.agg #[.int .i64 c.cB, .int .i64 c.cBeam, .int .i64 1, .int .i64 c.cWin, .int .i64 c.cQs, .int .i64 c.cQr, .int .i64 c.cBatch, .int .i64 c.cPass, .int .i64 c.cMsg, .int .i64 c.cSeqs]] wx fun e w' => e = .returned (.int .i64 S0) ∧ Below wx.heap.size wx w') := fun wx => by
    have := ConfSegs_any (Cfg.mk c.cB c.cBeam 1 c.cWin c.cQs c.cQr c.cBatch c.cPass c.cMsg c.cSeqs) wx
    rw [show segsA (Cfg.mk c.cB c.cBeam 1 c.cWin c.cQs c.cQr c.cBatch c.cPass c.cMsg c.cSeqs) = S0 from (if_pos o0).trans hS0] at this
    exact this
  have o1 : okC (Cfg.mk c.cB c.cBeam 3 c.cWin c.cQs c.cQr c.cBatch c.cPass c.cMsg c.cSeqs) = true := (okC_iff _).2 (by dsimp only; omega)
  obtain ⟨S1, hS1⟩ : ∃ v, segsC (Cfg.mk c.cB c.cBeam 3 c.cWin c.cQs c.cQr c.cBatch c.cPass c.cMsg c.cSeqs) = v := ⟨_, rfl⟩
  have b1_ := (segsC_bd o1).1
  rw [hS1] at b1_
  have dS1 : decide (S1 < 22) = false := decide_eq_false (by omega)
  have K1 : Hid (∀ wx : World, Calls Try.prog 7 #[.agg #[.int .i64 c.cB, .int .i64 c.cBeam, .int .i64 3, .int .i64 c.cWin, .int .i64 c.cQs, .int .i64 c.cQr, .int .i64 c.cBatch, .int .i64 c.cPass, .int .i64 c.cMsg, .int .i64 c.cSeqs]] wx fun e w' => e = .returned (.int .i64 0) ∧ Below wx.heap.size wx w') := fun wx => by
    have := ConfCheck_any (Cfg.mk c.cB c.cBeam 3 c.cWin c.cQs c.cQr c.cBatch c.cPass c.cMsg c.cSeqs) wx
    rw [show checkA (Cfg.mk c.cB c.cBeam 3 c.cWin c.cQs c.cQr c.cBatch c.cPass c.cMsg c.cSeqs) = 0 from (if_pos o1)] at this
    exact this
  have G1 : Hid (∀ wx : World, Calls Try.prog 8 #[.agg #[.int .i64 c.cB, .int .i64 c.cBeam, .int .i64 3, .int .i64 c.cWin, .int .i64 c.cQs, .int .i64 c.cQr, .int .i64 c.cBatch, .int .i64 c.cPass, .int .i64 c.cMsg, .int .i64 c.cSeqs]] wx fun e w' => e = .returned (.int .i64 S1) ∧ Below wx.heap.size wx w') := fun wx => by
    have := ConfSegs_any (Cfg.mk c.cB c.cBeam 3 c.cWin c.cQs c.cQr c.cBatch c.cPass c.cMsg c.cSeqs) wx
    rw [show segsA (Cfg.mk c.cB c.cBeam 3 c.cWin c.cQs c.cQr c.cBatch c.cPass c.cMsg c.cSeqs) = S1 from (if_pos o1).trans hS1] at this
    exact this
  have o2 : okC (Cfg.mk c.cB c.cBeam 0 c.cWin c.cQs c.cQr c.cBatch c.cPass c.cMsg c.cSeqs) = false := by
    rw [← Bool.not_eq_true, okC_iff]
    dsimp only
    omega
  have K2 : Hid (∀ wx : World, Calls Try.prog 7 #[.agg #[.int .i64 c.cB, .int .i64 c.cBeam, .int .i64 0, .int .i64 c.cWin, .int .i64 c.cQs, .int .i64 c.cQr, .int .i64 c.cBatch, .int .i64 c.cPass, .int .i64 c.cMsg, .int .i64 c.cSeqs]] wx fun e w' => e = .returned (.int .i64 1) ∧ Below wx.heap.size wx w') := fun wx => by
    have := ConfCheck_any (Cfg.mk c.cB c.cBeam 0 c.cWin c.cQs c.cQr c.cBatch c.cPass c.cMsg c.cSeqs) wx
    rw [show checkA (Cfg.mk c.cB c.cBeam 0 c.cWin c.cQs c.cQr c.cBatch c.cPass c.cMsg c.cSeqs) = 1 from (if_neg (by rw [o2]; decide))] at this
    exact this
  have G2 : Hid (∀ wx : World, Calls Try.prog 8 #[.agg #[.int .i64 c.cB, .int .i64 c.cBeam, .int .i64 0, .int .i64 c.cWin, .int .i64 c.cQs, .int .i64 c.cQr, .int .i64 c.cBatch, .int .i64 c.cPass, .int .i64 c.cMsg, .int .i64 c.cSeqs]] wx fun e w' => e = .returned (.int .i64 0) ∧ Below wx.heap.size wx w') := fun wx => by
    have := ConfSegs_any (Cfg.mk c.cB c.cBeam 0 c.cWin c.cQs c.cQr c.cBatch c.cPass c.cMsg c.cSeqs) wx
    rw [show segsA (Cfg.mk c.cB c.cBeam 0 c.cWin c.cQs c.cQr c.cBatch c.cPass c.cMsg c.cSeqs) = 0 from (if_neg (by rw [o2]; decide))] at this
    exact this
  have T2 : Hid (∀ wx : World, Calls Try.prog 11 #[.agg #[.int .i64 c.cB, .int .i64 c.cBeam, .int .i64 0, .int .i64 c.cWin, .int .i64 c.cQs, .int .i64 c.cQr, .int .i64 c.cBatch, .int .i64 c.cPass, .int .i64 c.cMsg, .int .i64 c.cSeqs]] wx fun e w' => e = .returned (.int .i64 0) ∧ Below wx.heap.size wx w') := fun wx => by
    have := ConfTicks_any (Cfg.mk c.cB c.cBeam 0 c.cWin c.cQs c.cQr c.cBatch c.cPass c.cMsg c.cSeqs) wx
    rw [show ticksA (Cfg.mk c.cB c.cBeam 0 c.cWin c.cQs c.cQr c.cBatch c.cPass c.cMsg c.cSeqs) = 0 from (if_neg (by rw [o2]; decide))] at this
    exact this
  have o3 : okC (Cfg.mk c.cB c.cBeam 4 c.cWin c.cQs c.cQr c.cBatch c.cPass c.cMsg c.cSeqs) = false := by
    rw [← Bool.not_eq_true, okC_iff]
    dsimp only
    omega
  have K3 : Hid (∀ wx : World, Calls Try.prog 7 #[.agg #[.int .i64 c.cB, .int .i64 c.cBeam, .int .i64 4, .int .i64 c.cWin, .int .i64 c.cQs, .int .i64 c.cQr, .int .i64 c.cBatch, .int .i64 c.cPass, .int .i64 c.cMsg, .int .i64 c.cSeqs]] wx fun e w' => e = .returned (.int .i64 1) ∧ Below wx.heap.size wx w') := fun wx => by
    have := ConfCheck_any (Cfg.mk c.cB c.cBeam 4 c.cWin c.cQs c.cQr c.cBatch c.cPass c.cMsg c.cSeqs) wx
    rw [show checkA (Cfg.mk c.cB c.cBeam 4 c.cWin c.cQs c.cQr c.cBatch c.cPass c.cMsg c.cSeqs) = 1 from (if_neg (by rw [o3]; decide))] at this
    exact this
  have G3 : Hid (∀ wx : World, Calls Try.prog 8 #[.agg #[.int .i64 c.cB, .int .i64 c.cBeam, .int .i64 4, .int .i64 c.cWin, .int .i64 c.cQs, .int .i64 c.cQr, .int .i64 c.cBatch, .int .i64 c.cPass, .int .i64 c.cMsg, .int .i64 c.cSeqs]] wx fun e w' => e = .returned (.int .i64 0) ∧ Below wx.heap.size wx w') := fun wx => by
    have := ConfSegs_any (Cfg.mk c.cB c.cBeam 4 c.cWin c.cQs c.cQr c.cBatch c.cPass c.cMsg c.cSeqs) wx
    rw [show segsA (Cfg.mk c.cB c.cBeam 4 c.cWin c.cQs c.cQr c.cBatch c.cPass c.cMsg c.cSeqs) = 0 from (if_neg (by rw [o3]; decide))] at this
    exact this
  have T3 : Hid (∀ wx : World, Calls Try.prog 11 #[.agg #[.int .i64 c.cB, .int .i64 c.cBeam, .int .i64 4, .int .i64 c.cWin, .int .i64 c.cQs, .int .i64 c.cQr, .int .i64 c.cBatch, .int .i64 c.cPass, .int .i64 c.cMsg, .int .i64 c.cSeqs]] wx fun e w' => e = .returned (.int .i64 0) ∧ Below wx.heap.size wx w') := fun wx => by
    have := ConfTicks_any (Cfg.mk c.cB c.cBeam 4 c.cWin c.cQs c.cQr c.cBatch c.cPass c.cMsg c.cSeqs) wx
    rw [show ticksA (Cfg.mk c.cB c.cBeam 4 c.cWin c.cQs c.cQr c.cBatch c.cPass c.cMsg c.cSeqs) = 0 from (if_neg (by rw [o3]; decide))] at this
    exact this
  have KC : Hid (∀ wx : World, Calls Try.prog 7 #[.agg #[.int .i64 c.cB, .int .i64 c.cBeam, .int .i64 c.cDepth, .int .i64 c.cWin, .int .i64 c.cQs, .int .i64 c.cQr, .int .i64 c.cBatch, .int .i64 c.cPass, .int .i64 c.cMsg, .int .i64 c.cSeqs]] wx fun e w' => e = .returned (.int .i64 0) ∧ Below wx.heap.size wx w') := fun wx => by
    have := ConfCheck_any c wx
    rw [show checkA c = 0 from (if_pos hA)] at this
    exact this
  have HC := refConfig_any c (w.alloc (.cells #[.int .i64 c.cB, .int .i64 c.cBeam, .int .i64 c.cDepth, .int .i64 c.cWin, .int .i64 c.cQs, .int .i64 c.cQr, .int .i64 c.cBatch, .int .i64 c.cPass, .int .i64 c.cMsg, .int .i64 c.cSeqs] 23))
  rw [hA] at HC
  clear hI hA o0 o1 o2 o3 hS0 b0_ hS1 b1_
  go_enter Try.func5, Try.ntmps5
  have cxa0 := xa.cell 0 _ rfl
  have cxa1 := xa.cell 1 _ rfl
  have cxa2 := xa.cell 2 _ rfl
  have cxa3 := xa.cell 3 _ rfl
  have cxa4 := xa.cell 4 _ rfl
  have cxa5 := xa.cell 5 _ rfl
  have cxa6 := xa.cell 6 _ rfl
  have cxa7 := xa.cell 7 _ rfl
  have cxa8 := xa.cell 8 _ rfl
  have cxa9 := xa.cell 9 _ rfl
  go_wp2_with fail
  refine (HC).mono ?_
  rintro e w1 ⟨rfl, b9⟩
  clear cxa0 cxa1 cxa2 cxa3 cxa4 cxa5 cxa6 cxa7 cxa8 cxa9
  replace xa := xa.next b9
  replace bb := bb.trans (b9.mono bb.size)
  clear b9
  clear HC
  have b9 : Below w1.heap.size w1 ((w1.alloc (.cells #[.int .i64 1, .int .i64 1, .int .i64 1, .int .i64 1, .int .i64 1, .int .i64 1, .int .i64 1, .int .i64 4, .int .i64 0, .int .i64 0] 3)).alloc (.cells #[.int .i64 16, .int .i64 16, .int .i64 3, .int .i64 16, .int .i64 16, .int .i64 16, .int .i64 64, .int .i64 16, .int .i64 200, .int .i64 1073741824] 3)) := ((Below.refl _ _).alloc (Nat.le_refl _) _).alloc (by simp) _
  have xl : Box ((w1.alloc (.cells #[.int .i64 1, .int .i64 1, .int .i64 1, .int .i64 1, .int .i64 1, .int .i64 1, .int .i64 1, .int .i64 4, .int .i64 0, .int .i64 0] 3)).alloc (.cells #[.int .i64 16, .int .i64 16, .int .i64 3, .int .i64 16, .int .i64 16, .int .i64 16, .int .i64 64, .int .i64 16, .int .i64 200, .int .i64 1073741824] 3)) w1.heap.size 3 #[.int .i64 1, .int .i64 1, .int .i64 1, .int .i64 1, .int .i64 1, .int .i64 1, .int .i64 1, .int .i64 4, .int .i64 0, .int .i64 0] := (Box.new w1 _ _).alloc _
  have xm : Box ((w1.alloc (.cells #[.int .i64 1, .int .i64 1, .int .i64 1, .int .i64 1, .int .i64 1, .int .i64 1, .int .i64 1, .int .i64 4, .int .i64 0, .int .i64 0] 3)).alloc (.cells #[.int .i64 16, .int .i64 16, .int .i64 3, .int .i64 16, .int .i64 16, .int .i64 16, .int .i64 64, .int .i64 16, .int .i64 200, .int .i64 1073741824] 3)) (w1.heap.size + 1) 3 #[.int .i64 16, .int .i64 16, .int .i64 3, .int .i64 16, .int .i64 16, .int .i64 16, .int .i64 64, .int .i64 16, .int .i64 200, .int .i64 1073741824] := by
    have := Box.new (w1.alloc (.cells #[.int .i64 1, .int .i64 1, .int .i64 1, .int .i64 1, .int .i64 1, .int .i64 1, .int .i64 1, .int .i64 4, .int .i64 0, .int .i64 0] 3)) 3 #[.int .i64 16, .int .i64 16, .int .i64 3, .int .i64 16, .int .i64 16, .int .i64 16, .int .i64 64, .int .i64 16, .int .i64 200, .int .i64 1073741824]
    simpa using this
  replace xa := xa.next b9
  replace bb := bb.trans (b9.mono bb.size)
  clear b9
  go_wp2
  generalize ((w1.alloc (.cells #[.int .i64 1, .int .i64 1, .int .i64 1, .int .i64 1, .int .i64 1, .int .i64 1, .int .i64 1, .int .i64 4, .int .i64 0, .int .i64 0] 3)).alloc (.cells #[.int .i64 16, .int .i64 16, .int .i64 3, .int .i64 16, .int .i64 16, .int .i64 16, .int .i64 64, .int .i64 16, .int .i64 200, .int .i64 1073741824] 3)) = w2 at *
  have wv2 : IntKind.i64.wrap (0) = 0 := by rw [IntKind.wrap_i64]; decide
  have wv3 : IntKind.i64.wrap (4) = 4 := by rw [IntKind.wrap_i64]; decide
  have hltl := xl.lt
  have hltm := xm.lt
  have cl := xl.cell 2 _ rfl
  have cm := xm.cell 2 _ rfl
  skip
  go_cut [38, 39, 40] (fun s l i wx => ∃ B4, s = .slice (some ⟨B4, 0, none⟩) 4 4 ∧ l = .int .i64 4 ∧ i = .int .i64 0 ∧ Box wx B4 3 #[.int .i64 1, .int .i64 3, .int .i64 0, .int .i64 4] ∧ Below w2.heap.size w2 wx)
  case first =>
    refine wp_region_held_drew (S := fun w' => Below w2.heap.size w2 w') (by kernel_rfl) ((Below.refl _ _).drew) (fun hHeld => ?_)
    generalize w2.drew = wk0 at *
    refine held_take (i := 0) (d := 20) (v := ?v39) rfl rfl (by kernel_rfl) (by kernel_rfl) (by kernel_rfl) (fun _ _ _ h => h) (Or.inl ⟨by kernel_rfl, ?hy39⟩) hHeld ?rest39
    case hy39 =>
      intro wx hSw
      clear hSw
      go_simp
      with_reducible rfl
    simp only [List.setIfInBounds_toArray, List.set_cons_zero, List.set_cons_succ]
    refine held_take (i := 1) (d := 21) (v := ?v40) rfl rfl (by kernel_rfl) (by kernel_rfl) (by kernel_rfl) (fun _ _ _ h => h) (Or.inl ⟨by kernel_rfl, ?hy40⟩) hHeld ?rest40
    case hy40 =>
      intro wx hSw
      clear hSw
      go_simp
      with_reducible rfl
    simp only [List.setIfInBounds_toArray, List.set_cons_zero, List.set_cons_succ]
    refine held_take (i := 2) (d := 22) (v := ?v41) rfl rfl (by kernel_rfl) (by kernel_rfl) (by kernel_rfl) (fun _ _ _ h => h) (Or.inl ⟨by kernel_rfl, ?hy41⟩) hHeld ?rest41
    case hy41 =>
      intro wx hSw
      clear hSw
      go_simp
      with_reducible rfl
    simp only [List.setIfInBounds_toArray, List.set_cons_zero, List.set_cons_succ]
    refine held_take (i := 3) (d := 23) (v := ?v42) rfl rfl (by kernel_rfl) (by kernel_rfl) (by kernel_rfl) (fun _ _ _ h => h) (Or.inl ⟨by kernel_rfl, ?hy42⟩) hHeld ?rest42
    case hy42 =>
      intro wx hSw
      have q0 := (hSw.cell (p := ⟨w1.heap.size, 2, none⟩) hltl).trans cl
      clear hSw
      go_simp
      with_reducible rfl
    simp only [List.setIfInBounds_toArray, List.set_cons_zero, List.set_cons_succ]
    refine held_take (i := 4) (d := 24) (v := ?v43) rfl rfl (by kernel_rfl) (by kernel_rfl) (by kernel_rfl) (fun _ _ _ h => h) (Or.inl ⟨by kernel_rfl, ?hy43⟩) hHeld ?rest43
    case hy43 =>
      intro wx hSw
      clear hSw
      go_simp
      with_reducible rfl
    simp only [List.setIfInBounds_toArray, List.set_cons_zero, List.set_cons_succ]
    refine held_take (i := 5) (d := 25) (v := ?v44) rfl rfl (by kernel_rfl) (by kernel_rfl) (by kernel_rfl) (fun _ _ _ h => h) (Or.inl ⟨by kernel_rfl, ?hy44⟩) hHeld ?rest44
    case hy44 =>
      intro wx hSw
      clear hSw
      go_simp
      with_reducible rfl
    simp only [List.setIfInBounds_toArray, List.set_cons_zero, List.set_cons_succ]
    refine held_take (i := 6) (d := 26) (v := ?v45) rfl rfl (by kernel_rfl) (by kernel_rfl) (by kernel_rfl) (fun _ _ _ h => h) (Or.inl ⟨by kernel_rfl, ?hy45⟩) hHeld ?rest45
    case hy45 =>
      intro wx hSw
      clear hSw
      go_simp
      with_reducible rfl
    simp only [List.setIfInBounds_toArray, List.set_cons_zero, List.set_cons_succ]
    refine held_take (i := 7) (d := 27) (v := ?v46) rfl rfl (by kernel_rfl) (by kernel_rfl) (by kernel_rfl) (fun _ _ _ h => h) (Or.inl ⟨by kernel_rfl, ?hy46⟩) hHeld ?rest46
    case hy46 =>
      intro wx hSw
      have q0 := (hSw.cell (p := ⟨w1.heap.size + 1, 2, none⟩) hltm).trans cm
      clear hSw
      go_simp
      with_reducible rfl
    simp only [List.setIfInBounds_toArray, List.set_cons_zero, List.set_cons_succ]
    refine held_take (i := 8) (d := 28) (v := ?v47) rfl rfl (by kernel_rfl) (by kernel_rfl) (by kernel_rfl) (fun _ _ _ h => h) (Or.inl ⟨by kernel_rfl, ?hy47⟩) hHeld ?rest47
    case hy47 =>
      intro wx hSw
      clear hSw
      go_simp
      with_reducible rfl
    simp only [List.setIfInBounds_toArray, List.set_cons_zero, List.set_cons_succ]
    refine held_take (i := 9) (d := 29) (v := ?v48) rfl rfl (by kernel_rfl) (by kernel_rfl) (by kernel_rfl) (fun _ _ _ h => h) (Or.inl ⟨by kernel_rfl, ?hy48⟩) hHeld ?rest48
    case hy48 =>
      intro wx hSw
      clear hSw
      go_simp
      with_reducible rfl
    simp only [List.setIfInBounds_toArray, List.set_cons_zero, List.set_cons_succ]
    refine held_take (i := 10) (d := 30) (v := ?v49) rfl rfl (by kernel_rfl) (by kernel_rfl) (by kernel_rfl) (fun _ _ _ h => h) (Or.inl ⟨by kernel_rfl, ?hy49⟩) hHeld ?rest49
    case hy49 =>
      intro wx hSw
      clear hSw
      go_simp
      with_reducible rfl
    simp only [List.setIfInBounds_toArray, List.set_cons_zero, List.set_cons_succ]
    refine held_take (i := 11) (d := 31) (v := ?v50) rfl rfl (by kernel_rfl) (by kernel_rfl) (by kernel_rfl) (fun _ _ _ h => h) (Or.inl ⟨by kernel_rfl, ?hy50⟩) hHeld ?rest50
    case hy50 =>
      intro wx hSw
      have q0 := (hSw.cell (p := ⟨w1.heap.size, 2, none⟩) hltl).trans cl
      clear hSw
      go_simp
      with_reducible rfl
    simp only [List.setIfInBounds_toArray, List.set_cons_zero, List.set_cons_succ]
    refine held_take (i := 12) (d := 32) (v := ?v51) rfl rfl (by kernel_rfl) (by kernel_rfl) (by kernel_rfl) (fun _ _ _ h => h) (Or.inl ⟨by kernel_rfl, ?hy51⟩) hHeld ?rest51
    case hy51 =>
      intro wx hSw
      clear hSw
      go_simp
      with_reducible rfl
    simp only [List.setIfInBounds_toArray, List.set_cons_zero, List.set_cons_succ]
    refine held_take (i := 13) (d := 33) (v := ?v52) rfl rfl (by kernel_rfl) (by kernel_rfl) (by kernel_rfl) (fun _ _ _ h => h) (Or.inl ⟨by kernel_rfl, ?hy52⟩) hHeld ?rest52
    case hy52 =>
      intro wx hSw
      clear hSw
      go_simp
      with_reducible rfl
    simp only [List.setIfInBounds_toArray, List.set_cons_zero, List.set_cons_succ]
    refine held_take (i := 14) (d := 34) (v := ?v53) rfl rfl (by kernel_rfl) (by kernel_rfl) (by kernel_rfl) (fun _ _ _ h => h) (Or.inl ⟨by kernel_rfl, ?hy53⟩) hHeld ?rest53
    case hy53 =>
      intro wx hSw
      clear hSw
      go_simp
      with_reducible rfl
    simp only [List.setIfInBounds_toArray, List.set_cons_zero, List.set_cons_succ]
    refine held_take (i := 15) (d := 35) (v := ?v54) rfl rfl (by kernel_rfl) (by kernel_rfl) (by kernel_rfl) (fun _ _ _ h => h) (Or.inl ⟨by kernel_rfl, ?hy54⟩) hHeld ?rest54
    case hy54 =>
      intro wx hSw
      clear hSw
      go_simp
      with_reducible rfl
    simp only [List.setIfInBounds_toArray, List.set_cons_zero, List.set_cons_succ]
    refine held_take (i := 16) (d := 36) (v := ?v55) rfl rfl (by kernel_rfl) (by kernel_rfl) (by kernel_rfl) (fun _ _ _ h => h) (Or.inl ⟨by kernel_rfl, ?hy55⟩) hHeld ?rest55
    case hy55 =>
      intro wx hSw
      have q0 := (hSw.cell (p := ⟨w1.heap.size + 1, 2, none⟩) hltm).trans cm
      clear hSw
      go_simp
      with_reducible rfl
    simp only [List.setIfInBounds_toArray, List.set_cons_zero, List.set_cons_succ]
    refine held_take (i := 17) (d := 37) (v := ?v56) rfl rfl (by kernel_rfl) (by kernel_rfl) (by kernel_rfl) (fun _ _ _ h => h) (Or.inl ⟨by kernel_rfl, ?hy56⟩) hHeld ?rest56
    case hy56 =>
      intro wx hSw
      clear hSw
      go_simp
      with_reducible rfl
    simp only [List.setIfInBounds_toArray, List.set_cons_zero, List.set_cons_succ]
    refine held_take (i := 20) (d := 40) (v := ?v57) rfl rfl (by kernel_rfl) (by kernel_rfl) (by kernel_rfl) (fun _ _ _ h => h) (Or.inl ⟨by kernel_rfl, ?hy57⟩) hHeld ?rest57
    case hy57 =>
      intro wx hSw
      clear hSw
      go_simp
      with_reducible rfl
    simp only [List.setIfInBounds_toArray, List.set_cons_zero, List.set_cons_succ]
    refine wpAnyH_ready (rs := [18]) (by kernel_rfl) (by simp) ?_
    refine AllReadyH.cons rfl (fun K hK => ?_) AllReadyH.nil
    go_simp
    obtain ⟨B4, hB4⟩ : ∃ n, wk0.heap.size = n := ⟨_, rfl⟩
    have x4 := Box.new wk0 3 #[.int .i64 1, .int .i64 3, .int .i64 0, .int .i64 4]
    rw [hB4] at x4 ⊢
    have hS4 := hHeld.alloc hHeld.size (.cells #[.int .i64 1, .int .i64 3, .int .i64 0, .int .i64 4] 3)
    generalize wk0.alloc (.cells #[.int .i64 1, .int .i64 3, .int .i64 0, .int .i64 4] 3) = wk1 at *
    refine hK.out _ _ (hS4) (fun hHeld => ?_)
    clear hK K
    refine wpAnyH_ready (rs := [19]) (by kernel_rfl) (by simp) ?_
    refine AllReadyH.cons rfl (fun K hK => ?_) AllReadyH.nil
    go_simp
    refine hK.out _ _ hHeld (fun hHeld => ?_)
    clear hK K
    refine wpAnyH_done (by kernel_rfl) ?_ _
    go_wp2_with fail
    go_meet
    exact ⟨B4, rfl, rfl, rfl, x4, hHeld⟩
  case rest =>
    obtain ⟨B4, rfl, rfl, rfl, x4, b9⟩ := hcut
    clear cl cm hltl hltm
    replace xa := xa.next b9
    replace xl := xl.next b9
    replace xm := xm.next b9
    replace bb := bb.trans (b9.mono bb.size)
    clear b9 xl xm
    go_wp2_with fail
    go_loopw [40] (fun i wr => ∃ j : Nat, j ≤ 4 ∧ i = .int .i64 j ∧ Box wr w.heap.size 23 #[.int .i64 c.cB, .int .i64 c.cBeam, .int .i64 c.cDepth, .int .i64 c.cWin, .int .i64 c.cQs, .int .i64 c.cQr, .int .i64 c.cBatch, .int .i64 c.cPass, .int .i64 c.cMsg, .int .i64 c.cSeqs] ∧ Box wr B4 3 #[.int .i64 1, .int .i64 3, .int .i64 0, .int .i64 4] ∧ Below w.heap.size w wr) (fun i _ => 4 - (intOf i).toNat)
    case atStart => exact ⟨0, by omega, rfl, xa, x4, bb⟩
    case round =>
      clear xa x4 bb
      obtain ⟨j, hj, rfl, xa, x4, bb⟩ := hrel
      have hj5 : j = 0 ∨ j = 1 ∨ j = 2 ∨ j = 3 ∨ j = 4 := by omega
      clear hj
      rcases hj5 with rfl | rfl | rfl | rfl | rfl
      · have cxa0 := xa.cell 0 _ rfl
        have cxa1 := xa.cell 1 _ rfl
        have cxa2 := xa.cell 2 _ rfl
        have cxa3 := xa.cell 3 _ rfl
        have cxa4 := xa.cell 4 _ rfl
        have cxa5 := xa.cell 5 _ rfl
        have cxa6 := xa.cell 6 _ rfl
        have cxa7 := xa.cell 7 _ rfl
        have cxa8 := xa.cell 8 _ rfl
        have cxa9 := xa.cell 9 _ rfl
        have c4 := x4.cell 0 _ rfl
        have hlt4 := x4.lt
        have hlta := xa.lt
        have b9 : Below wr.heap.size wr (wr.alloc (.cells #[.int .i64 c.cB, .int .i64 c.cBeam, .int .i64 1, .int .i64 c.cWin, .int .i64 c.cQs, .int .i64 c.cQr, .int .i64 c.cBatch, .int .i64 c.cPass, .int .i64 c.cMsg, .int .i64 c.cSeqs] 23)) := (Below.refl _ _).alloc (Nat.le_refl _) _
        have xd := Box.new wr 23 #[.int .i64 c.cB, .int .i64 c.cBeam, .int .i64 1, .int .i64 c.cWin, .int .i64 c.cQs, .int .i64 c.cQr, .int .i64 c.cBatch, .int .i64 c.cPass, .int .i64 c.cMsg, .int .i64 c.cSeqs]
        go_wp2_with fail
        replace xa := xa.next b9
        replace x4 := x4.next b9
        replace bb := bb.trans (b9.mono bb.size)
        clear b9 c4 hlt4 hlta cxa0 cxa1 cxa2 cxa3 cxa4 cxa5 cxa6 cxa7 cxa8 cxa9
        refine (K0.out _).mono ?_
        rintro e w21 ⟨rfl, b9⟩
        replace xa := xa.next b9
        replace x4 := x4.next b9
        replace xd := xd.next b9
        replace bb := bb.trans (b9.mono bb.size)
        clear b9
        have cxd0 := xd.cell 0 _ rfl
        have cxd1 := xd.cell 1 _ rfl
        have cxd2 := xd.cell 2 _ rfl
        have cxd3 := xd.cell 3 _ rfl
        have cxd4 := xd.cell 4 _ rfl
        have cxd5 := xd.cell 5 _ rfl
        have cxd6 := xd.cell 6 _ rfl
        have cxd7 := xd.cell 7 _ rfl
        have cxd8 := xd.cell 8 _ rfl
        have cxd9 := xd.cell 9 _ rfl
        go_wp2_with fail
        refine (G0.out _).mono ?_
        rintro e w22 ⟨rfl, b9⟩
        clear cxd0 cxd1 cxd2 cxd3 cxd4 cxd5 cxd6 cxd7 cxd8 cxd9
        replace xa := xa.next b9
        replace x4 := x4.next b9
        replace xd := xd.next b9
        replace bb := bb.trans (b9.mono bb.size)
        clear b9
        go_wp2
        go_roundw
        case rel => exact ⟨1, by omega, by go_num, xa, x4, bb⟩
        case measure => simp [intOf]
      · have cxa0 := xa.cell 0 _ rfl
        have cxa1 := xa.cell 1 _ rfl
        have cxa2 := xa.cell 2 _ rfl
        have cxa3 := xa.cell 3 _ rfl
        have cxa4 := xa.cell 4 _ rfl
        have cxa5 := xa.cell 5 _ rfl
        have cxa6 := xa.cell 6 _ rfl
        have cxa7 := xa.cell 7 _ rfl
        have cxa8 := xa.cell 8 _ rfl
        have cxa9 := xa.cell 9 _ rfl
        have c4 := x4.cell 1 _ rfl
        have hlt4 := x4.lt
        have hlta := xa.lt
        have b9 : Below wr.heap.size wr (wr.alloc (.cells #[.int .i64 c.cB, .int .i64 c.cBeam, .int .i64 3, .int .i64 c.cWin, .int .i64 c.cQs, .int .i64 c.cQr, .int .i64 c.cBatch, .int .i64 c.cPass, .int .i64 c.cMsg, .int .i64 c.cSeqs] 23)) := (Below.refl _ _).alloc (Nat.le_refl _) _
        have xd := Box.new wr 23 #[.int .i64 c.cB, .int .i64 c.cBeam, .int .i64 3, .int .i64 c.cWin, .int .i64 c.cQs, .int .i64 c.cQr, .int .i64 c.cBatch, .int .i64 c.cPass, .int .i64 c.cMsg, .int .i64 c.cSeqs]
        go_wp2_with fail
        replace xa := xa.next b9
        replace x4 := x4.next b9
        replace bb := bb.trans (b9.mono bb.size)
        clear b9 c4 hlt4 hlta cxa0 cxa1 cxa2 cxa3 cxa4 cxa5 cxa6 cxa7 cxa8 cxa9
        refine (K1.out _).mono ?_
        rintro e w21 ⟨rfl, b9⟩
        replace xa := xa.next b9
        replace x4 := x4.next b9
        replace xd := xd.next b9
        replace bb := bb.trans (b9.mono bb.size)
        clear b9
        have cxd0 := xd.cell 0 _ rfl
        have cxd1 := xd.cell 1 _ rfl
        have cxd2 := xd.cell 2 _ rfl
        have cxd3 := xd.cell 3 _ rfl
        have cxd4 := xd.cell 4 _ rfl
        have cxd5 := xd.cell 5 _ rfl
        have cxd6 := xd.cell 6 _ rfl
        have cxd7 := xd.cell 7 _ rfl
        have cxd8 := xd.cell 8 _ rfl
        have cxd9 := xd.cell 9 _ rfl
        go_wp2_with fail
        refine (G1.out _).mono ?_
        rintro e w22 ⟨rfl, b9⟩
        clear cxd0 cxd1 cxd2 cxd3 cxd4 cxd5 cxd6 cxd7 cxd8 cxd9
        replace xa := xa.next b9
        replace x4 := x4.next b9
        replace xd := xd.next b9
        replace bb := bb.trans (b9.mono bb.size)
        clear b9
        go_wp2
        go_roundw
        case rel => exact ⟨2, by omega, by go_num, xa, x4, bb⟩
        case measure => simp [intOf]
      · have cxa0 := xa.cell 0 _ rfl
        have cxa1 := xa.cell 1 _ rfl
        have cxa2 := xa.cell 2 _ rfl
        have cxa3 := xa.cell 3 _ rfl
        have cxa4 := xa.cell 4 _ rfl
        have cxa5 := xa.cell 5 _ rfl
        have cxa6 := xa.cell 6 _ rfl
        have cxa7 := xa.cell 7 _ rfl
        have cxa8 := xa.cell 8 _ rfl
        have cxa9 := xa.cell 9 _ rfl
        have c4 := x4.cell 2 _ rfl
        have hlt4 := x4.lt
        have hlta := xa.lt
        have b9 : Below wr.heap.size wr (wr.alloc (.cells #[.int .i64 c.cB, .int .i64 c.cBeam, .int .i64 0, .int .i64 c.cWin, .int .i64 c.cQs, .int .i64 c.cQr, .int .i64 c.cBatch, .int .i64 c.cPass, .int .i64 c.cMsg, .int .i64 c.cSeqs] 23)) := (Below.refl _ _).alloc (Nat.le_refl _) _
        have xd := Box.new wr 23 #[.int .i64 c.cB, .int .i64 c.cBeam, .int .i64 0, .int .i64 c.cWin, .int .i64 c.cQs, .int .i64 c.cQr, .int .i64 c.cBatch, .int .i64 c.cPass, .int .i64 c.cMsg, .int .i64 c.cSeqs]
        go_wp2_with fail
        replace xa := xa.next b9
        replace x4 := x4.next b9
        replace bb := bb.trans (b9.mono bb.size)
        clear b9 c4 hlt4 hlta cxa0 cxa1 cxa2 cxa3 cxa4 cxa5 cxa6 cxa7 cxa8 cxa9
        refine (K2.out _).mono ?_
        rintro e w21 ⟨rfl, b9⟩
        replace xa := xa.next b9
        replace x4 := x4.next b9
        replace xd := xd.next b9
        replace bb := bb.trans (b9.mono bb.size)
        clear b9
        have cxd0 := xd.cell 0 _ rfl
        have cxd1 := xd.cell 1 _ rfl
        have cxd2 := xd.cell 2 _ rfl
        have cxd3 := xd.cell 3 _ rfl
        have cxd4 := xd.cell 4 _ rfl
        have cxd5 := xd.cell 5 _ rfl
        have cxd6 := xd.cell 6 _ rfl
        have cxd7 := xd.cell 7 _ rfl
        have cxd8 := xd.cell 8 _ rfl
        have cxd9 := xd.cell 9 _ rfl
        go_wp2_with fail
        refine (K2.out _).mono ?_
        rintro e w22 ⟨rfl, b9⟩
        clear cxd0 cxd1 cxd2 cxd3 cxd4 cxd5 cxd6 cxd7 cxd8 cxd9
        replace xa := xa.next b9
        replace x4 := x4.next b9
        replace xd := xd.next b9
        replace bb := bb.trans (b9.mono bb.size)
        clear b9
        have cxd0 := xd.cell 0 _ rfl
        have cxd1 := xd.cell 1 _ rfl
        have cxd2 := xd.cell 2 _ rfl
        have cxd3 := xd.cell 3 _ rfl
        have cxd4 := xd.cell 4 _ rfl
        have cxd5 := xd.cell 5 _ rfl
        have cxd6 := xd.cell 6 _ rfl
        have cxd7 := xd.cell 7 _ rfl
        have cxd8 := xd.cell 8 _ rfl
        have cxd9 := xd.cell 9 _ rfl
        go_wp2_with fail
        refine (G2.out _).mono ?_
        rintro e w23 ⟨rfl, b9⟩
        clear cxd0 cxd1 cxd2 cxd3 cxd4 cxd5 cxd6 cxd7 cxd8 cxd9
        replace xa := xa.next b9
        replace x4 := x4.next b9
        replace xd := xd.next b9
        replace bb := bb.trans (b9.mono bb.size)
        clear b9
        have cxd0 := xd.cell 0 _ rfl
        have cxd1 := xd.cell 1 _ rfl
        have cxd2 := xd.cell 2 _ rfl
        have cxd3 := xd.cell 3 _ rfl
        have cxd4 := xd.cell 4 _ rfl
        have cxd5 := xd.cell 5 _ rfl
        have cxd6 := xd.cell 6 _ rfl
        have cxd7 := xd.cell 7 _ rfl
        have cxd8 := xd.cell 8 _ rfl
        have cxd9 := xd.cell 9 _ rfl
        go_wp2_with fail
        refine (T2.out _).mono ?_
        rintro e w24 ⟨rfl, b9⟩
        clear cxd0 cxd1 cxd2 cxd3 cxd4 cxd5 cxd6 cxd7 cxd8 cxd9
        replace xa := xa.next b9
        replace x4 := x4.next b9
        replace xd := xd.next b9
        replace bb := bb.trans (b9.mono bb.size)
        clear b9
        go_wp2
        go_roundw
        case rel => exact ⟨3, by omega, by go_num, xa, x4, bb⟩
        case measure => simp [intOf]
      · have cxa0 := xa.cell 0 _ rfl
        have cxa1 := xa.cell 1 _ rfl
        have cxa2 := xa.cell 2 _ rfl
        have cxa3 := xa.cell 3 _ rfl
        have cxa4 := xa.cell 4 _ rfl
        have cxa5 := xa.cell 5 _ rfl
        have cxa6 := xa.cell 6 _ rfl
        have cxa7 := xa.cell 7 _ rfl
        have cxa8 := xa.cell 8 _ rfl
        have cxa9 := xa.cell 9 _ rfl
        have c4 := x4.cell 3 _ rfl
        have hlt4 := x4.lt
        have hlta := xa.lt
        have b9 : Below wr.heap.size wr (wr.alloc (.cells #[.int .i64 c.cB, .int .i64 c.cBeam, .int .i64 4, .int .i64 c.cWin, .int .i64 c.cQs, .int .i64 c.cQr, .int .i64 c.cBatch, .int .i64 c.cPass, .int .i64 c.cMsg, .int .i64 c.cSeqs] 23)) := (Below.refl _ _).alloc (Nat.le_refl _) _
        have xd := Box.new wr 23 #[.int .i64 c.cB, .int .i64 c.cBeam, .int .i64 4, .int .i64 c.cWin, .int .i64 c.cQs, .int .i64 c.cQr, .int .i64 c.cBatch, .int .i64 c.cPass, .int .i64 c.cMsg, .int .i64 c.cSeqs]
        go_wp2_with fail
        replace xa := xa.next b9
        replace x4 := x4.next b9
        replace bb := bb.trans (b9.mono bb.size)
        clear b9 c4 hlt4 hlta cxa0 cxa1 cxa2 cxa3 cxa4 cxa5 cxa6 cxa7 cxa8 cxa9
        refine (K3.out _).mono ?_
        rintro e w21 ⟨rfl, b9⟩
        replace xa := xa.next b9
        replace x4 := x4.next b9
        replace xd := xd.next b9
        replace bb := bb.trans (b9.mono bb.size)
        clear b9
        have cxd0 := xd.cell 0 _ rfl
        have cxd1 := xd.cell 1 _ rfl
        have cxd2 := xd.cell 2 _ rfl
        have cxd3 := xd.cell 3 _ rfl
        have cxd4 := xd.cell 4 _ rfl
        have cxd5 := xd.cell 5 _ rfl
        have cxd6 := xd.cell 6 _ rfl
        have cxd7 := xd.cell 7 _ rfl
        have cxd8 := xd.cell 8 _ rfl
        have cxd9 := xd.cell 9 _ rfl
        go_wp2_with fail
        refine (K3.out _).mono ?_
        rintro e w22 ⟨rfl, b9⟩
        clear cxd0 cxd1 cxd2 cxd3 cxd4 cxd5 cxd6 cxd7 cxd8 cxd9
        replace xa := xa.next b9
        replace x4 := x4.next b9
        replace xd := xd.next b9
        replace bb := bb.trans (b9.mono bb.size)
        clear b9
        have cxd0 := xd.cell 0 _ rfl
        have cxd1 := xd.cell 1 _ rfl
        have cxd2 := xd.cell 2 _ rfl
        have cxd3 := xd.cell 3 _ rfl
        have cxd4 := xd.cell 4 _ rfl
        have cxd5 := xd.cell 5 _ rfl
        have cxd6 := xd.cell 6 _ rfl
        have cxd7 := xd.cell 7 _ rfl
        have cxd8 := xd.cell 8 _ rfl
        have cxd9 := xd.cell 9 _ rfl
        go_wp2_with fail
        refine (G3.out _).mono ?_
        rintro e w23 ⟨rfl, b9⟩
        clear cxd0 cxd1 cxd2 cxd3 cxd4 cxd5 cxd6 cxd7 cxd8 cxd9
        replace xa := xa.next b9
        replace x4 := x4.next b9
        replace xd := xd.next b9
        replace bb := bb.trans (b9.mono bb.size)
        clear b9
        have cxd0 := xd.cell 0 _ rfl
        have cxd1 := xd.cell 1 _ rfl
        have cxd2 := xd.cell 2 _ rfl
        have cxd3 := xd.cell 3 _ rfl
        have cxd4 := xd.cell 4 _ rfl
        have cxd5 := xd.cell 5 _ rfl
        have cxd6 := xd.cell 6 _ rfl
        have cxd7 := xd.cell 7 _ rfl
        have cxd8 := xd.cell 8 _ rfl
        have cxd9 := xd.cell 9 _ rfl
        go_wp2_with fail
        refine (T3.out _).mono ?_
        rintro e w24 ⟨rfl, b9⟩
        clear cxd0 cxd1 cxd2 cxd3 cxd4 cxd5 cxd6 cxd7 cxd8 cxd9
        replace xa := xa.next b9
        replace x4 := x4.next b9
        replace xd := xd.next b9
        replace bb := bb.trans (b9.mono bb.size)
        clear b9
        go_wp2
        go_roundw
        case rel => exact ⟨4, by omega, by go_num, xa, x4, bb⟩
        case measure => simp [intOf]
      · have cxa0 := xa.cell 0 _ rfl
        have cxa1 := xa.cell 1 _ rfl
        have cxa2 := xa.cell 2 _ rfl
        have cxa3 := xa.cell 3 _ rfl
        have cxa4 := xa.cell 4 _ rfl
        have cxa5 := xa.cell 5 _ rfl
        have cxa6 := xa.cell 6 _ rfl
        have cxa7 := xa.cell 7 _ rfl
        have cxa8 := xa.cell 8 _ rfl
        have cxa9 := xa.cell 9 _ rfl
        go_wp2_with fail
        refine (KC.out _).mono ?_
        rintro e w21 ⟨rfl, b9⟩
        clear cxa0 cxa1 cxa2 cxa3 cxa4 cxa5 cxa6 cxa7 cxa8 cxa9
        replace xa := xa.next b9
        replace bb := bb.trans (b9.mono bb.size)
        clear b9
        have HWK := confWakes_any w21
        go_wp2_with (go_at_call 13; refine HWK.mono ?_; rintro e w99 ⟨rfl, b99⟩)
        go_ret
        exact ⟨rfl, bb.trans (b99.mono bb.size)⟩

end Go.Proofs.Ytnhmdhbemlpjnaa
