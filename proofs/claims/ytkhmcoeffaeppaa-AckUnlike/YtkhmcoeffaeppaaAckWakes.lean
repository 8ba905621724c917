/-
  The laws' own guard over ack (wakes) answers true; what lay lies as it lay.
-/
import Derived.Test.YtkhmcoeffaeppaaAckCode
import Derived.Test.YtkhmcoeffaeppaaCrcSeal
namespace Go.Proofs.Ytkhmcoeffaeppaa
open Go.RowKit

set_option maxRecDepth 100000 in
set_option maxHeartbeats 1000000 in
theorem ackWakes_any (w : World) : Calls Try.prog 11 #[] w fun e w' => e = .returned (.bool true) ∧ Below w.heap.size w w' := by
  have HM := AckMake_ok 5 2 (by decide) (by decide) (by decide) (by decide) w
  have eN : aN (packA 5 2) = 5 := aN_pack (by decide) (by decide)
  have eB : aB (packA 5 2) = 2 := aB_pack (by decide) (by decide)
  have HB := packA_bd 5 2
  have HO : okA (packA 5 2) := okA_pack (by decide) (by decide)
  have HL := packA_len 5 2
  obtain ⟨zs, hzs⟩ : ∃ zs, packA 5 2 = zs := ⟨_, rfl⟩
  rw [hzs] at HM eN eB HB HO HL
  clear hzs
  have HH := fun (a : Option Addr) (cap : Nat) (hc : 13 ≤ cap) (wx : World) (hx : Holds .u8 wx.heap.size wx (.slice a 13 cap) zs) => AckRead_ok a cap zs (by omega) HB HO wx (by rw [HL]; exact hx)
  rw [eN, eB, HL] at HH
  have HHH : Hid (∀ (a : Option Addr) (cap : Nat) (hc : 13 ≤ cap) (wx : World) (hx : Holds .u8 wx.heap.size wx (.slice a 13 cap) zs), _) := HH
  have H4 : Hid (∀ wx : World, _) := fun wx => AckHas_any 5 2 4 (by decide) (by decide) (by decide) wx
  have H5 : Hid (∀ wx : World, _) := fun wx => AckHas_any 5 2 5 (by decide) (by decide) (by decide) wx
  have H6 : Hid (∀ wx : World, _) := fun wx => AckHas_any 5 2 6 (by decide) (by decide) (by decide) wx
  clear HH eN eB HB HO HL
  go_enter Try.func11, Try.ntmps11
  go_wp2_with fail
  refine HM.mono ?_
  rintro e w1 ⟨r, rfl, o1, b1⟩
  obtain ⟨ra, rc, rfl⟩ := row_shapeA o1
  have hc := row_cap o1
  have HR := HHH.out ra rc hc w1 (holds_of_row o1)
  clear HM HHH o1
  go_wp2_with fail
  refine HR.mono ?_
  rintro e w2 ⟨rfl, b2⟩
  have bb2 := b1.trans (b2.mono b1.size)
  have x2 := Box.new w2 24 #[.int .i64 5, .int .u32 2]
  have bb3 := (bb2.alloc bb2.size (.cells #[.int .i64 5, .int .u32 2] 24))
  clear HR
  have c0 := x2.cell 0 _ rfl
  have c1 := x2.cell 1 _ rfl
  go_wp2_with fail
  refine (H4.out _).mono ?_
  rintro e w4 ⟨rfl, b4⟩
  rw [show hasA 5 2 4 = true by decide]
  clear c0 c1
  replace x2 := x2.next b4
  replace bb3 := bb3.trans (b4.mono bb3.size)
  have c0 := x2.cell 0 _ rfl
  have c1 := x2.cell 1 _ rfl
  go_wp2_with fail
  refine (H5.out _).mono ?_
  rintro e w5 ⟨rfl, b5⟩
  rw [show hasA 5 2 5 = false by decide]
  clear c0 c1
  replace x2 := x2.next b5
  replace bb3 := bb3.trans (b5.mono bb3.size)
  have c0 := x2.cell 0 _ rfl
  have c1 := x2.cell 1 _ rfl
  go_wp2_with fail
  refine (H6.out _).mono ?_
  rintro e w6 ⟨rfl, b6⟩
  rw [show hasA 5 2 6 = true by decide]
  go_wp2
  go_ret
  exact ⟨rfl, bb3.trans (b6.mono bb3.size)⟩

end Go.Proofs.Ytkhmcoeffaeppaa
