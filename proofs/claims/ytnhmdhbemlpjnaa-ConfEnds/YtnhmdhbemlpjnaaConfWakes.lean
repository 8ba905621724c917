/-
  The laws' own guard over conf (wakes) answers true; what lay lies as it lay. (Written by tpl_conf.py.)
-/
import Derived.Test.YtnhmdhbemlpjnaaConfCode
namespace Go.Proofs.Ytnhmdhbemlpjnaa
open Go.RowKit

set_option maxRecDepth 100000 in
set_option maxHeartbeats 1000000 in
theorem confWakes_any (w : World) : Calls Try.prog 13 #[] w fun e w' => e = .returned (.bool true) ∧ Below w.heap.size w w' := by
  have H1 : Hid (∀ wx : World, Calls Try.prog 7 #[.agg #[.int .i64 4, .int .i64 1, .int .i64 1, .int .i64 1, .int .i64 1, .int .i64 1, .int .i64 1, .int .i64 4, .int .i64 0, .int .i64 0]] wx fun e w' => e = .returned (.int .i64 0) ∧ Below wx.heap.size wx w') := fun wx => by
    have := ConfCheck_any (Cfg.mk 4 1 1 1 1 1 1 4 0 0) wx
    rw [show checkA (Cfg.mk 4 1 1 1 1 1 1 4 0 0) = 0 by decide] at this
    exact this
  have H2 : Hid (∀ wx : World, Calls Try.prog 8 #[.agg #[.int .i64 4, .int .i64 1, .int .i64 1, .int .i64 1, .int .i64 1, .int .i64 1, .int .i64 1, .int .i64 4, .int .i64 0, .int .i64 0]] wx fun e w' => e = .returned (.int .i64 28) ∧ Below wx.heap.size wx w') := fun wx => by
    have := ConfSegs_any (Cfg.mk 4 1 1 1 1 1 1 4 0 0) wx
    rw [show segsA (Cfg.mk 4 1 1 1 1 1 1 4 0 0) = 28 by decide] at this
    exact this
  have H3 : Hid (∀ wx : World, Calls Try.prog 9 #[.agg #[.int .i64 4, .int .i64 1, .int .i64 1, .int .i64 1, .int .i64 1, .int .i64 1, .int .i64 1, .int .i64 4, .int .i64 0, .int .i64 0]] wx fun e w' => e = .returned (.int .i64 112) ∧ Below wx.heap.size wx w') := fun wx => by
    have := ConfMost_any (Cfg.mk 4 1 1 1 1 1 1 4 0 0) wx
    rw [show mostA (Cfg.mk 4 1 1 1 1 1 1 4 0 0) = 112 by decide] at this
    exact this
  have bb := (Below.refl w.heap.size w).alloc (Nat.le_refl _) (.cells #[.int .i64 4, .int .i64 1, .int .i64 1, .int .i64 1, .int .i64 1, .int .i64 1, .int .i64 1, .int .i64 4, .int .i64 0, .int .i64 0] 23)
  have xa := Box.new w 23 #[.int .i64 4, .int .i64 1, .int .i64 1, .int .i64 1, .int .i64 1, .int .i64 1, .int .i64 1, .int .i64 4, .int .i64 0, .int .i64 0]
  go_enter Try.func13, Try.ntmps13
  have cxa0 := xa.cell 0 _ rfl
  have cxa1 := xa.cell 1 _ rfl
  have cxa2 := xa.cell 2 _ rfl
  have cxa3 := xa.cell 3 _ rfl
  have cxa4 := xa.cell 4 _ rfl
  have cxa5 := xa.cell 5 _ rfl
  have cxa6 := xa.cell 6 _ rfl
  have cxa7 := xa.cell 7 _ rfl
  have cxa8 := xa.cell 8 _ rfl
  have cxa9 := xa.cell 9 _ rfl
  go_wp2_with fail
  refine (H1.out _).mono ?_
  rintro e w1 ⟨rfl, b9⟩
  clear cxa0 cxa1 cxa2 cxa3 cxa4 cxa5 cxa6 cxa7 cxa8 cxa9
  replace xa := xa.next b9
  replace bb := bb.trans (b9.mono bb.size)
  clear b9
  have cxa0 := xa.cell 0 _ rfl
  have cxa1 := xa.cell 1 _ rfl
  have cxa2 := xa.cell 2 _ rfl
  have cxa3 := xa.cell 3 _ rfl
  have cxa4 := xa.cell 4 _ rfl
  have cxa5 := xa.cell 5 _ rfl
  have cxa6 := xa.cell 6 _ rfl
  have cxa7 := xa.cell 7 _ rfl
  have cxa8 := xa.cell 8 _ rfl
  have cxa9 := xa.cell 9 _ rfl
  go_wp2_with fail
  refine (H2.out _).mono ?_
  rintro e w2 ⟨rfl, b9⟩
  clear cxa0 cxa1 cxa2 cxa3 cxa4 cxa5 cxa6 cxa7 cxa8 cxa9
  replace xa := xa.next b9
  replace bb := bb.trans (b9.mono bb.size)
  clear b9
  have cxa0 := xa.cell 0 _ rfl
  have cxa1 := xa.cell 1 _ rfl
  have cxa2 := xa.cell 2 _ rfl
  have cxa3 := xa.cell 3 _ rfl
  have cxa4 := xa.cell 4 _ rfl
  have cxa5 := xa.cell 5 _ rfl
  have cxa6 := xa.cell 6 _ rfl
  have cxa7 := xa.cell 7 _ rfl
  have cxa8 := xa.cell 8 _ rfl
  have cxa9 := xa.cell 9 _ rfl
  go_wp2_with fail
  refine (H3.out _).mono ?_
  rintro e w3 ⟨rfl, b9⟩
  clear cxa0 cxa1 cxa2 cxa3 cxa4 cxa5 cxa6 cxa7 cxa8 cxa9
  replace xa := xa.next b9
  replace bb := bb.trans (b9.mono bb.size)
  clear b9
  go_wp2
  go_ret
  exact ⟨rfl, bb⟩

end Go.Proofs.Ytnhmdhbemlpjnaa
