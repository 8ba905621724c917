/-
  A configuration as an argument: its ten numbers. No function of the program is spoken of.
-/
import Derived.Test.YtklmiapieaogdaaConfNums
import Derived.Lib.SmallJoins
namespace Go.Proofs.Ytklmiapieaogdaa
open Go.ChangeShapes Go.WideShapes Go.ChangeAt Go.RowKit

set_option maxRecDepth 100000 in
theorem array10 {α : Type} {cs : Array α} (h : cs.size = 10) : ∃ c0 c1 c2 c3 c4 c5 c6 c7 c8 c9, cs = #[c0, c1, c2, c3, c4, c5, c6, c7, c8, c9] := by
  obtain ⟨l⟩ := cs
  match l, h with
  | [c0, c1, c2, c3, c4, c5, c6, c7, c8, c9], _ => exact ⟨c0, c1, c2, c3, c4, c5, c6, c7, c8, c9, rfl⟩

set_option maxHeartbeats 1000000 in
set_option maxRecDepth 100000 in
theorem cfg_of_trod {H : Type} {enc : TypeId × Value → H} {W : World} {base : Nat} {spare : Nat → Bool} {held : Bool} {r : Reach} {b0 : Nat} {v : Value} {d : DataW H} {p : List MemPlace} (hv : Value.okWide Try.prog W r b0 40 v) (h : DataW.Trod enc Try.prog W base spare held 40 v d p) : ∃ c : Cfg, v = .agg #[.int .i64 c.cB, .int .i64 c.cBeam, .int .i64 c.cDepth, .int .i64 c.cWin, .int .i64 c.cQs, .int .i64 c.cQr, .int .i64 c.cBatch, .int .i64 c.cPass, .int .i64 c.cMsg, .int .i64 c.cSeqs] := by
  have hC : Try.prog.cellsOf 40 = 10 := by kernel_rfl
  have hI : Try.prog.cellsOf 3 = 1 := by kernel_rfl
  obtain ⟨cs, rfl, hsz⟩ := okWide_struct Try.underlying40 hv
  obtain ⟨c0, c1, c2, c3, c4, c5, c6, c7, c8, c9, rfl⟩ := array10 (hsz.trans hC)
  obtain ⟨fuel, hf⟩ := h
  obtain ⟨xs, n, _, _, _, hlen, hg⟩ := DataW.trod_struct Try.underlying40 hf
  have hl : xs.length = 10 := hlen
  have k0 : DataW.trod enc Try.prog W base spare held n 3 (((Value.agg #[c0, c1, c2, c3, c4, c5, c6, c7, c8, c9]).cells.toList.drop 0).take (Try.prog.cellsOf 3)) = xs[0]? := hg 0 _ rfl
  rw [List.getElem?_eq_getElem (show 0 < xs.length by omega), show ((Value.agg #[c0, c1, c2, c3, c4, c5, c6, c7, c8, c9]).cells.toList.drop 0).take (Try.prog.cellsOf 3) = [c0] by rw [hI]; rfl] at k0
  obtain ⟨n0, e0, _, _⟩ := DataW.trod_int Try.underlying3 k0
  have k1 : DataW.trod enc Try.prog W base spare held n 3 (((Value.agg #[c0, c1, c2, c3, c4, c5, c6, c7, c8, c9]).cells.toList.drop 1).take (Try.prog.cellsOf 3)) = xs[1]? := hg 1 _ rfl
  rw [List.getElem?_eq_getElem (show 1 < xs.length by omega), show ((Value.agg #[c0, c1, c2, c3, c4, c5, c6, c7, c8, c9]).cells.toList.drop 1).take (Try.prog.cellsOf 3) = [c1] by rw [hI]; rfl] at k1
  obtain ⟨n1, e1, _, _⟩ := DataW.trod_int Try.underlying3 k1
  have k2 : DataW.trod enc Try.prog W base spare held n 3 (((Value.agg #[c0, c1, c2, c3, c4, c5, c6, c7, c8, c9]).cells.toList.drop 2).take (Try.prog.cellsOf 3)) = xs[2]? := hg 2 _ rfl
  rw [List.getElem?_eq_getElem (show 2 < xs.length by omega), show ((Value.agg #[c0, c1, c2, c3, c4, c5, c6, c7, c8, c9]).cells.toList.drop 2).take (Try.prog.cellsOf 3) = [c2] by rw [hI]; rfl] at k2
  obtain ⟨n2, e2, _, _⟩ := DataW.trod_int Try.underlying3 k2
  have k3 : DataW.trod enc Try.prog W base spare held n 3 (((Value.agg #[c0, c1, c2, c3, c4, c5, c6, c7, c8, c9]).cells.toList.drop 3).take (Try.prog.cellsOf 3)) = xs[3]? := hg 3 _ rfl
  rw [List.getElem?_eq_getElem (show 3 < xs.length by omega), show ((Value.agg #[c0, c1, c2, c3, c4, c5, c6, c7, c8, c9]).cells.toList.drop 3).take (Try.prog.cellsOf 3) = [c3] by rw [hI]; rfl] at k3
  obtain ⟨n3, e3, _, _⟩ := DataW.trod_int Try.underlying3 k3
  have k4 : DataW.trod enc Try.prog W base spare held n 3 (((Value.agg #[c0, c1, c2, c3, c4, c5, c6, c7, c8, c9]).cells.toList.drop 4).take (Try.prog.cellsOf 3)) = xs[4]? := hg 4 _ rfl
  rw [List.getElem?_eq_getElem (show 4 < xs.length by omega), show ((Value.agg #[c0, c1, c2, c3, c4, c5, c6, c7, c8, c9]).cells.toList.drop 4).take (Try.prog.cellsOf 3) = [c4] by rw [hI]; rfl] at k4
  obtain ⟨n4, e4, _, _⟩ := DataW.trod_int Try.underlying3 k4
  have k5 : DataW.trod enc Try.prog W base spare held n 3 (((Value.agg #[c0, c1, c2, c3, c4, c5, c6, c7, c8, c9]).cells.toList.drop 5).take (Try.prog.cellsOf 3)) = xs[5]? := hg 5 _ rfl
  rw [List.getElem?_eq_getElem (show 5 < xs.length by omega), show ((Value.agg #[c0, c1, c2, c3, c4, c5, c6, c7, c8, c9]).cells.toList.drop 5).take (Try.prog.cellsOf 3) = [c5] by rw [hI]; rfl] at k5
  obtain ⟨n5, e5, _, _⟩ := DataW.trod_int Try.underlying3 k5
  have k6 : DataW.trod enc Try.prog W base spare held n 3 (((Value.agg #[c0, c1, c2, c3, c4, c5, c6, c7, c8, c9]).cells.toList.drop 6).take (Try.prog.cellsOf 3)) = xs[6]? := hg 6 _ rfl
  rw [List.getElem?_eq_getElem (show 6 < xs.length by omega), show ((Value.agg #[c0, c1, c2, c3, c4, c5, c6, c7, c8, c9]).cells.toList.drop 6).take (Try.prog.cellsOf 3) = [c6] by rw [hI]; rfl] at k6
  obtain ⟨n6, e6, _, _⟩ := DataW.trod_int Try.underlying3 k6
  have k7 : DataW.trod enc Try.prog W base spare held n 3 (((Value.agg #[c0, c1, c2, c3, c4, c5, c6, c7, c8, c9]).cells.toList.drop 7).take (Try.prog.cellsOf 3)) = xs[7]? := hg 7 _ rfl
  rw [List.getElem?_eq_getElem (show 7 < xs.length by omega), show ((Value.agg #[c0, c1, c2, c3, c4, c5, c6, c7, c8, c9]).cells.toList.drop 7).take (Try.prog.cellsOf 3) = [c7] by rw [hI]; rfl] at k7
  obtain ⟨n7, e7, _, _⟩ := DataW.trod_int Try.underlying3 k7
  have k8 : DataW.trod enc Try.prog W base spare held n 3 (((Value.agg #[c0, c1, c2, c3, c4, c5, c6, c7, c8, c9]).cells.toList.drop 8).take (Try.prog.cellsOf 3)) = xs[8]? := hg 8 _ rfl
  rw [List.getElem?_eq_getElem (show 8 < xs.length by omega), show ((Value.agg #[c0, c1, c2, c3, c4, c5, c6, c7, c8, c9]).cells.toList.drop 8).take (Try.prog.cellsOf 3) = [c8] by rw [hI]; rfl] at k8
  obtain ⟨n8, e8, _, _⟩ := DataW.trod_int Try.underlying3 k8
  have k9 : DataW.trod enc Try.prog W base spare held n 3 (((Value.agg #[c0, c1, c2, c3, c4, c5, c6, c7, c8, c9]).cells.toList.drop 9).take (Try.prog.cellsOf 3)) = xs[9]? := hg 9 _ rfl
  rw [List.getElem?_eq_getElem (show 9 < xs.length by omega), show ((Value.agg #[c0, c1, c2, c3, c4, c5, c6, c7, c8, c9]).cells.toList.drop 9).take (Try.prog.cellsOf 3) = [c9] by rw [hI]; rfl] at k9
  obtain ⟨n9, e9, _, _⟩ := DataW.trod_int Try.underlying3 k9
  simp only [List.cons.injEq, and_true] at e0 e1 e2 e3 e4 e5 e6 e7 e8 e9
  subst e0 e1 e2 e3 e4 e5 e6 e7 e8 e9
  exact ⟨⟨n0, n1, n2, n3, n4, n5, n6, n7, n8, n9⟩, rfl⟩

end Go.Proofs.Ytklmiapieaogdaa
