/-
  The laws' own guard over join (wakes) answers true; what lay lies as it lay.
-/
import Derived.Test.YtklmiapieaogdaaJoinCode
import Derived.Lib.SlBytesConst
import Derived.Laws.BytesArg
import Derived.Test.YtklmiapieaogdaaRegionHand
namespace Go.Proofs.Ytklmiapieaogdaa
open Go.RowKit

theorem holds_newJ (w : World) (fr : Nat × Nat := (0, 0)) : Holds .u8 (w.alloc (.cells #[.int .u8 120] 5 fr)).heap.size (w.alloc (.cells #[.int .u8 120] 5 fr)) (.slice (some ⟨w.heap.size, 0, none⟩) 1 1) [120] := held_new .u8 w [120] 1 5 fr

set_option maxRecDepth 100000 in
set_option maxHeartbeats 2000000 in
theorem joinWakes_any (w : World) : Calls Try.prog 16 #[] w fun e w' => e = .returned (.bool true) ∧ Below w.heap.size w w' := by
  have kc := fun (w : World) (C : Array Value) (n c : Nat) => Lib.run_convert_bytes_const (P := Try.prog) w 22 5 C n c Try.underlying22 Try.underlying5
  have H1 : Hid (∀ wx : World, Holds .u8 wx.heap.size wx (.slice (some ⟨w.heap.size, 0, none⟩) 1 1) [120] → Calls Try.prog 10 #[.agg #[.bool false, .slice none 0 0], .agg #[.int .i64 0, .int .i64 3, .slice (some ⟨w.heap.size, 0, none⟩) 1 1]] wx fun e W' => ∃ ta tc g uc, e = .returned (.tuple #[.agg #[.bool false, .slice ta 0 tc], .slice (some ⟨g, 0, none⟩) 1 uc, .bool true, .int .i64 0]) ∧ W'.cell? ⟨g, 0, none⟩ = some (.int .u8 120) ∧ Below wx.heap.size wx W') := fun wx hx => by
    refine (JoinTake_any false none 0 0 0 3 (some ⟨w.heap.size, 0, none⟩) 1 1 [] [120] rfl rfl wx (.inl ⟨⟨_, _, rfl, fun _ => rfl⟩, rfl⟩) hx).mono ?_
    rw [show takeJ (false, []) 3 [120] = ((false, []), [120], true) by decide, show errJ (false, []) 3 [120] = 0 by decide]
    rintro e W' ⟨ta, tc, ua, uc, rfl, _, ou, _, b⟩
    obtain ⟨g, cp, e⟩ := row_form ou (by decide)
    obtain ⟨rfl, _, rfl⟩ := Value.slice.inj e
    refine ⟨ta, tc, g, uc, rfl, ?_, b⟩
    have := ou.cells (g := g) rfl 0 _ rfl
    rw [Addr.add_lit] at this
    exact this
  go_enter Try.func16, Try.ntmps16
  go_wp2_with fail
  refine (H1.out _ (holds_newJ w _)).mono ?_
  rintro e w1 ⟨ta, tc, g, uc, rfl, hc, b1⟩
  have bb : Below w.heap.size w w1 := ((Below.refl _ w).alloc (Nat.le_refl _) _).trans (b1.mono (by simp))
  have bA : Below w1.heap.size w1 (w1.alloc (.cells #[.bool false, .slice ta 0 tc] 24)) := (Below.refl _ _).alloc (Nat.le_refl _) _
  have hc2 := bA.at hc (cell_block_lt hc)
  have k1 := run_convert_bytes_arg (P := Try.prog) (w1.alloc (.cells #[.bool false, .slice ta 0 tc] 24)) 22 5 Try.underlying22 Try.underlying5 g 0 1 uc [120] rfl (fun i hi => by
    obtain rfl : i = 0 := by omega
    exact hc2) 9 Try.underlying9
  rw [show strOfNums [120] = (⟨#[120]⟩ : ByteArray) by decide] at k1
  have bE := bb.trans (bA.mono bb.size)
  clear hc hc2 b1 bA kc H1
  go_wp2
  go_ret
  exact ⟨rfl, bE⟩

end Go.Proofs.Ytklmiapieaogdaa
