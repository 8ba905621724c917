/-
  The laws' own guard over data (wakes) answers true; what lay lies as it lay.
-/
import Derived.Test.YtpfhnefgibiedaaDataCode
import Derived.Test.YtpfhnefgibiedaaCrcSeal
namespace Go.Proofs.Ytpfhnefgibiedaa
open Go.RowKit

set_option maxRecDepth 100000 in
set_option maxHeartbeats 1000000 in
theorem dataWakes_any (w : World) : Calls Try.prog 13 #[] w fun e w' => e = .returned (.bool true) ∧ Below w.heap.size w w' := by
  have hR : RightD 3 2 5 [9] := ⟨by decide, by decide, by decide, by decide, by decide⟩
  have bX : ∀ z ∈ ([9] : List Int), 0 ≤ z ∧ z ≤ 255 := by decide
  have b0 := (Below.refl w.heap.size w).alloc (Nat.le_refl _) (.cells #[.int .u8 9] 5)
  have HM := DataMake_ok 3 2 5 (some ⟨w.heap.size, 0, none⟩) 1 [9] hR bX _ (holds_new .u8 w [9] 1 5 (0, 0))
  have eS := dS_pack hR
  have eR := dR_pack 3 2 5 [9]
  have eF := dF_pack hR
  have eX := dX_pack 3 2 5 [9]
  have HB := packD_bd hR bX
  have HO := okD_pack hR
  have HL : (packD 3 2 5 [9]).length = 12 := packD_len 3 2 5 [9]
  obtain ⟨zs, hzs⟩ : ∃ zs, packD 3 2 5 [9] = zs := ⟨_, rfl⟩
  rw [hzs] at HM eS eR eF eX HB HO HL
  clear hzs hR bX
  have HH := fun (a : Option Addr) (cap : Nat) (hc : 12 ≤ cap) (wx : World) (hx : Holds .u8 wx.heap.size wx (.slice a 12 cap) zs) => DataRead_ok a cap zs (by omega) HB HO wx (by rw [HL]; exact hx)
  rw [eS, eR, eF, eX, HL] at HH
  have HHH : Hid (∀ (a : Option Addr) (cap : Nat) (hc : 12 ≤ cap) (wx : World) (hx : Holds .u8 wx.heap.size wx (.slice a 12 cap) zs), _) := HH
  clear HH eS eR eF eX HB HO HL
  go_enter Try.func13, Try.ntmps13
  go_wp2_with fail
  refine HM.mono ?_
  rintro e w1 ⟨r, rfl, o1, b1⟩
  obtain ⟨ra, rc, rfl⟩ := row_shapeP o1
  have hc := row_cap o1
  have HR := HHH.out ra rc hc w1 (holds_of_row o1)
  clear HM HHH o1
  go_wp2_with fail
  refine HR.mono ?_
  rintro e w2 ⟨xa, xc, rfl, _, b2⟩
  have bb2 := (b0.trans (b1.mono (by simp))).trans (b2.mono (by have := b1.size; simp at this; omega))
  have b3 := (bb2.alloc bb2.size (.cells #[.int .i64 3, .int .i64 2, .int .i64 5, .slice xa 1 xc] 24))
  clear HR
  go_wp2
  go_ret
  exact ⟨rfl, b3⟩

end Go.Proofs.Ytpfhnefgibiedaa
