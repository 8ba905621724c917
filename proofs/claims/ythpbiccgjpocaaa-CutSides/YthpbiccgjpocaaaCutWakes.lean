/-
  The laws' own guard over cut (wakes) answers true; what lay lies as it lay. (Written by tpl_cutlaws.py.)
-/
import Derived.Test.YthpbiccgjpocaaaCutCode
namespace Go.Proofs.Ythpbiccgjpocaaa
open Go.RowKit

set_option maxRecDepth 100000 in
set_option maxHeartbeats 1000000 in
theorem cutWakes_any (w : World) : Calls Try.prog 10 #[] w fun e w' => e = .returned (.bool true) ∧ Below w.heap.size w w' := by
  have H1 : Hid (∀ wx : World, Calls Try.prog 7 #[.agg #[.int .i64 2, .int .i64 1, .int .i64 1, .int .i64 1, .int .i64 1, .int .i64 1, .int .i64 1, .int .i64 4, .int .i64 9, .int .i64 0], .int .i64 5, .slice none 0 0] wx fun e W' => ∃ ba bc, e = .returned (.tuple #[.slice ba 1 bc, .int .i64 0]) ∧ Blks W'.heap.size W' (.slice ba 1 bc) [(5, 3, [])] ∧ Below wx.heap.size wx W') := fun wx => by
    refine (Cut_ok (Cfg.mk 2 1 1 1 1 1 1 4 9 0) 5 none 0 0 (by decide) (by decide) (Nat.le_refl _) [] rfl 2 1 rfl (by decide) (by decide) (by decide) wx (.inl ⟨⟨_, _, rfl, fun _ => rfl⟩, rfl⟩)).mono ?_
    rintro e W' ⟨v, rfl, h, b⟩
    rw [show cutL 2 5 1 [] = [(5, 3, [])] by decide] at h
    obtain ⟨ba, bc, rfl⟩ := h.rows.shape
    exact ⟨ba, bc, rfl, h.rows, b⟩
  have bb := (Below.refl w.heap.size w).alloc (Nat.le_refl _) (.cells #[.int .i64 2, .int .i64 1, .int .i64 1, .int .i64 1, .int .i64 1, .int .i64 1, .int .i64 1, .int .i64 4, .int .i64 9, .int .i64 0] 23)
  have xa := Box.new w 23 #[.int .i64 2, .int .i64 1, .int .i64 1, .int .i64 1, .int .i64 1, .int .i64 1, .int .i64 1, .int .i64 4, .int .i64 9, .int .i64 0]
  have k0 := xa.cell 0 _ rfl
  have k1 := xa.cell 1 _ rfl
  have k2 := xa.cell 2 _ rfl
  have k3 := xa.cell 3 _ rfl
  have k4 := xa.cell 4 _ rfl
  have k5 := xa.cell 5 _ rfl
  have k6 := xa.cell 6 _ rfl
  have k7 := xa.cell 7 _ rfl
  have k8 := xa.cell 8 _ rfl
  have k9 := xa.cell 9 _ rfl
  go_enter Try.func10, Try.ntmps10
  go_wp2_with fail
  refine (H1.out _).mono ?_
  rintro e w1 ⟨ba, bc, rfl, h, b⟩
  obtain ⟨g, off, rfl, hg, hc⟩ := blks_at h (by decide)
  obtain ⟨p, _, c0, c1, _⟩ := hc 0 _ rfl
  simp only [Nat.zero_mul, Nat.add_zero] at c0 c1
  go_wp2
  go_ret
  exact ⟨rfl, bb.trans (b.mono bb.size)⟩

end Go.Proofs.Ythpbiccgjpocaaa
