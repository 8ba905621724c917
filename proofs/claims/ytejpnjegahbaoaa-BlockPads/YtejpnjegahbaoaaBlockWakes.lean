/-
  The laws' own guard over block (wakes) answers true; what lay lies as it lay.
-/
import Derived.Test.YtejpnjegahbaoaaBlockCode
import Derived.Test.YtejpnjegahbaoaaCrcSeal
import Derived.Lib.SlBytesConst
import Derived.Laws.BytesArg
namespace Go.Proofs.Ytejpnjegahbaoaa
open Go.RowKit

set_option maxRecDepth 100000 in
set_option maxHeartbeats 1000000 in
theorem blockWakes_any (w : World) : Calls Try.prog 13 #[] w fun e w' => e = .returned (.bool true) ∧ Below w.heap.size w w' := by
  have kc := fun (w : World) (C : Array Value) (n c : Nat) => Lib.run_convert_bytes_const (P := Try.prog) w 22 5 C n c Try.underlying22 Try.underlying5
  have hR : Right 1 7 3 [120] := ⟨by decide, by decide, by decide, by decide, by decide⟩
  have bX : ∀ z ∈ ([120] : List Int), 0 ≤ z ∧ z ≤ 255 := by decide
  have b0 := (Below.refl w.heap.size w).alloc (Nat.le_refl _) (.cells #[.int .u8 120] 5 (1, 2))
  have HM := Make_ok 1 7 3 (some ⟨w.heap.size, 0, none⟩) 1 [120] hR bX _ (holds_new .u8 w [120] 1 5 (1, 2))
  have eS := rdS_bytes hR
  have eM := rdM_bytes 1 7 3 [120]
  have eX := rdX_bytes 1 7 3 [120]
  have HB := bytesB_bd hR bX
  have HO := readOk_bytes hR
  have HS := isSealed_sealB (bodyB 1 7 3 [120])
  have HL : (bytesB 1 7 3 [120]).length = 1 + 10 := bytesB_len (by decide)
  change isSealed (bytesB 1 7 3 [120]) = true at HS
  obtain ⟨zs, hzs⟩ : ∃ zs, bytesB 1 7 3 [120] = zs := ⟨_, rfl⟩
  rw [hzs] at HM eS eM eX HB HO HS HL
  clear hzs hR bX
  have HH := fun (a : Option Addr) (cap : Nat) (hc : 11 ≤ cap) (wx : World) (hx : Holds .u8 wx.heap.size wx (.slice a 11 cap) zs) => Read_ok 1 (by decide) (by decide) a cap zs HL (by omega) HB HS HO wx (by rw [HL]; exact hx)
  rw [eS, eM, eX, HL] at HH
  have HHH : Hid (∀ (a : Option Addr) (cap : Nat) (hc : 11 ≤ cap) (wx : World) (hx : Holds .u8 wx.heap.size wx (.slice a 11 cap) zs), _) := HH
  clear HH eS eM eX HB HO HS HL
  go_enter Try.func13, Try.ntmps13
  go_wp2_with fail
  refine HM.mono ?_
  rintro e w1 ⟨r, rfl, o1, b1⟩
  obtain ⟨ra, rc, rfl⟩ := row_shape1 o1
  have hc := row_cap o1
  have HR := HHH.out ra rc hc w1 (holds_of_row o1)
  clear HM HHH o1
  go_wp2_with fail
  refine HR.mono ?_
  rintro e w2 ⟨xa, xc, rfl, hx, b2⟩
  have bb2 := (b0.trans (b1.mono (by simp))).trans (b2.mono (by have := b1.size; simp at this; omega))
  obtain ⟨b, off, rfl, hb, hcs⟩ := holds_at hx rfl (by decide)
  have c0 := hcs 0 120 rfl
  have b3 := (bb2.alloc bb2.size (.cells #[.int .i64 7, .int .i64 3, .slice (some ⟨b, off, none⟩) 1 xc] 24))
  have c0' := (((Below.refl w2.heap.size w2).alloc (Nat.le_refl _) (.cells #[.int .i64 7, .int .i64 3, .slice (some ⟨b, off, none⟩) 1 xc] 24)).cell (p := ⟨b, off + 0, none⟩) hb).trans c0
  have ks : strOfNums [120] = ⟨#[120]⟩ := by decide
  have hci : ∀ i, i < 1 → (w2.alloc (.cells #[.int .i64 7, .int .i64 3, .slice (some ⟨b, off, none⟩) 1 xc] 24)).cell? ⟨b, off + i, none⟩ = some (.int .u8 (([120] : List Int).getD i 0)) := fun i hi => by
    obtain rfl : i = 0 := by omega
    exact c0'
  have k1 := run_convert_bytes_arg (P := Try.prog) (w2.alloc (.cells #[.int .i64 7, .int .i64 3, .slice (some ⟨b, off, none⟩) 1 xc] 24)) 22 5 Try.underlying22 Try.underlying5 b off 1 xc [120] rfl (fun i hi => hci i hi) 9 Try.underlying9
  rw [ks] at k1
  clear HR kc hci
  go_wp2
  go_ret
  exact ⟨rfl, b3⟩

end Go.Proofs.Ytejpnjegahbaoaa
