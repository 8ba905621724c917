/-
  Tables at package level, as the condition of a law that lists them tells them. No function of the program is spoken of.
-/
import Derived.Test.YtmjidhnlofpliaaDoorM11
import Derived.Test.YtmjidhnlofpliaaDoorM19
import Derived.Test.YtmjidhnlofpliaaDoorM38
import Derived.LaidMore
import Derived.Lib.SmallJoins
import Derived.OpenShut
import Derived.ProofKit
import Derived.Stop.Joined
import Derived.Test.YtmjidhnlofpliaaDoorRows
namespace Go.Proofs.YtmjidhnlofpliaaDoor
open Go.ChangeShapes Go.WideShapes Go.ChangeAt Go.RowKit

/-- An array of integers that reads as these: its cells, one by one. -/
theorem array_ints {H : Type} {enc : TypeId × Value → H} {P : Program} {W : World} {base fuel n : Nat} {spare : Nat → Bool} {held : Bool} {t e : TypeId} {kd : IntKind} {cs : List Value} {zs : List Int} {p : List MemPlace}
    (ht : P.underlying t = some (.array n e)) (he : P.underlying e = some (.int kd)) (hc : P.cellsOf e = 1)
    (h : DataW.trod enc P W base spare held fuel t cs = some (.agg (zs.map fun z => .lit (.int kd z)), p)) : ∀ (i : Nat) (z : Int), zs[i]? = some z → cs[i]? = some (.int kd z) := by
  intro i z hz
  obtain ⟨xs, m, rfl, hx, hlen, hxl, hel⟩ := DataW.trod_array ht h
  simp only [Prod.mk.injEq, DataW.agg.injEq] at hx
  have hxi : (xs.map (·.1))[i]? = some (.lit (.int kd z)) := by rw [← hx.1, List.getElem?_map, hz]; rfl
  rw [List.getElem?_map, Option.map_eq_some_iff] at hxi
  obtain ⟨x, hx1, hx2⟩ := hxi
  have hi : i < n := by rw [← hxl]; exact (List.getElem?_eq_some_iff.1 hx1).1
  have h1 := hel i hi
  rw [hx1, hc, Nat.mul_one] at h1
  obtain ⟨k, e1, e2, _⟩ := DataW.trod_int he h1
  have hk : k = z := by rw [e2] at hx2; simpa using hx2
  subst hk
  have h2 : ((cs.drop i).take 1)[0]? = some (.int kd k) := by rw [e1]; rfl
  rwa [List.getElem?_take, if_pos (by decide), List.getElem?_drop, Nat.add_zero] at h2

/-- A variable of the list: where it stands, and what it reads as. -/
theorem laidVars_mem {P : Program} {w : World} {n : String} {d : DataW Unit} : ∀ {l : List (String × DataW Unit)} {ps : List MemPlace}, DataW.LaidVars P w l ps → (n, d) ∈ l →
    ∃ g t cs fuel p, P.globalNamed n = some g ∧ (P.globals[g]?).map (·.type) = some t ∧ w.var? P n = some cs ∧ DataW.trod (fun _ => ()) P w 0 (fun _ => true) false fuel t cs.toList = some (d, p)
  | [], _, _, hm => by cases hm
  | (n', d') :: r, ps, h, hm => by
    obtain ⟨g, t, cs, fuel, p, q, hg, ht, hv, hd, hr, _⟩ := h
    rcases List.mem_cons.1 hm with e | hm'
    · cases e
      exact ⟨g, t, cs, fuel, p, hg, ht, hv, hd⟩
    · exact laidVars_mem hr hm'

/-- A table of integers on the list: its cells. -/
theorem laid_ints {P : Program} {W : World} {l : List (String × DataW Unit)} {n : String} {g m : Nat} {t e : TypeId} {kd : IntKind} {zs : List Int}
    (hp : (l.filter fun x => x.2.handleName?.isSome) = []) (hm : (n, .agg (zs.map fun z => .lit (.int kd z))) ∈ l) (hg : P.globalNamed n = some g) (htt : (P.globals[g]?).map (·.type) = some t)
    (ht : P.underlying t = some (.array m e)) (he : P.underlying e = some (.int kd)) (hc : P.cellsOf e = 1) (h : laidMetH P l W) : ∀ (i : Nat) (z : Int), zs[i]? = some z → W.cell? ⟨g, i, none⟩ = some (.int kd z) := by
  unfold laidMetH at h
  rw [hp] at h
  obtain ⟨ps, hL, _, _⟩ := h
  obtain ⟨g', t', cs, fuel, p, hg', ht', hv, hd⟩ := laidVars_mem hL hm
  obtain rfl := Option.some.inj (hg.symm.trans hg')
  obtain rfl := Option.some.inj (htt.symm.trans ht')
  intro i z hz
  have h1 := array_ints ht he hc hd i z hz
  rw [World.var?_cell hg hv i]
  simpa using h1

end Go.Proofs.YtmjidhnlofpliaaDoor

/-
  The package's table of layer 7, as the condition of a law tells it.
-/
namespace Go.Proofs.YtmjidhnlofpliaaDoor
open Go.RowKit

theorem firsts_of_laid {W : World} {l : List (String × DataW Unit)} (hp : (l.filter fun x => x.2.handleName?.isSome) = []) (hm : ("volute/sched.firsts", Rows.laid_volute_sched_firsts) ∈ l) (h : laidMetH Tryd.prog l W) : Firsts W := by
  intro c f hc
  have hz : [(0 : Int), 4, 2, 6, 1, 5, 3, 7][c]? = some (f : Int) := by
    have h1 : (ints firsts)[c]? = some (f : Int) := by unfold ints; rw [List.getElem?_map, hc]; rfl
    exact h1
  exact laid_ints (zs := [0, 4, 2, 6, 1, 5, 3, 7]) hp hm (show Tryd.prog.globalNamed "volute/sched.firsts" = some 0 by kernel_rfl) (show (Tryd.prog.globals[0]?).map (·.type) = some 137 by kernel_rfl) Tryd.underlying137 Tryd.underlying3 (by kernel_rfl) h c f hz

end Go.Proofs.YtmjidhnlofpliaaDoor

/-
  SendLearns: the walk, for arguments as they come in. (Written by tpl_sendends.py.)
-/
namespace Go.Proofs.YtmjidhnlofpliaaDoor
open Go.RowKit

theorem sendLearns_end (c : Cfg) (b : Option Addr) (m k : Nat) (l : List Ac) (w : World) (hb : Acts w.heap.size w b m l) (hF : Firsts w) : Calls Tryd.prog 3 #[.agg #[.int .i64 c.cB, .int .i64 c.cBeam, .int .i64 c.cDepth, .int .i64 c.cWin, .int .i64 c.cQs, .int .i64 c.cQr, .int .i64 c.cBatch, .int .i64 c.cPass, .int .i64 c.cMsg, .int .i64 c.cSeqs], .slice b m k] w fun e w' => e = .returned (.bool true) ∧ Below w.heap.size w w' := by
  exact sendLearns_walk c b m k l w hF hb

end Go.Proofs.YtmjidhnlofpliaaDoor

/-
  A configuration as an argument: its ten numbers. No function of the program is spoken of.
-/
namespace Go.Proofs.YtmjidhnlofpliaaDoor
open Go.ChangeShapes Go.WideShapes Go.ChangeAt Go.RowKit

set_option maxRecDepth 100000 in
theorem array10 {α : Type} {cs : Array α} (h : cs.size = 10) : ∃ c0 c1 c2 c3 c4 c5 c6 c7 c8 c9, cs = #[c0, c1, c2, c3, c4, c5, c6, c7, c8, c9] := by
  obtain ⟨l⟩ := cs
  match l, h with
  | [c0, c1, c2, c3, c4, c5, c6, c7, c8, c9], _ => exact ⟨c0, c1, c2, c3, c4, c5, c6, c7, c8, c9, rfl⟩

set_option maxHeartbeats 1000000 in
set_option maxRecDepth 100000 in
theorem cfg_of_trod {H : Type} {enc : TypeId × Value → H} {W : World} {base : Nat} {spare : Nat → Bool} {held : Bool} {r : Reach} {b0 : Nat} {v : Value} {d : DataW H} {p : List MemPlace} (hv : Value.okWide Tryd.prog W r b0 23 v) (h : DataW.Trod enc Tryd.prog W base spare held 23 v d p) : ∃ c : Cfg, v = .agg #[.int .i64 c.cB, .int .i64 c.cBeam, .int .i64 c.cDepth, .int .i64 c.cWin, .int .i64 c.cQs, .int .i64 c.cQr, .int .i64 c.cBatch, .int .i64 c.cPass, .int .i64 c.cMsg, .int .i64 c.cSeqs] := by
  have hC : Tryd.prog.cellsOf 23 = 10 := by kernel_rfl
  have hI : Tryd.prog.cellsOf 3 = 1 := by kernel_rfl
  obtain ⟨cs, rfl, hsz⟩ := okWide_struct Tryd.underlying23 hv
  obtain ⟨c0, c1, c2, c3, c4, c5, c6, c7, c8, c9, rfl⟩ := array10 (hsz.trans hC)
  obtain ⟨fuel, hf⟩ := h
  obtain ⟨xs, n, _, _, _, hlen, hg⟩ := DataW.trod_struct Tryd.underlying23 hf
  have hl : xs.length = 10 := hlen
  have k0 : DataW.trod enc Tryd.prog W base spare held n 3 (((Value.agg #[c0, c1, c2, c3, c4, c5, c6, c7, c8, c9]).cells.toList.drop 0).take (Tryd.prog.cellsOf 3)) = xs[0]? := hg 0 _ rfl
  rw [List.getElem?_eq_getElem (show 0 < xs.length by omega), show ((Value.agg #[c0, c1, c2, c3, c4, c5, c6, c7, c8, c9]).cells.toList.drop 0).take (Tryd.prog.cellsOf 3) = [c0] by rw [hI]; rfl] at k0
  obtain ⟨n0, e0, _, _⟩ := DataW.trod_int Tryd.underlying3 k0
  have k1 : DataW.trod enc Tryd.prog W base spare held n 3 (((Value.agg #[c0, c1, c2, c3, c4, c5, c6, c7, c8, c9]).cells.toList.drop 1).take (Tryd.prog.cellsOf 3)) = xs[1]? := hg 1 _ rfl
  rw [List.getElem?_eq_getElem (show 1 < xs.length by omega), show ((Value.agg #[c0, c1, c2, c3, c4, c5, c6, c7, c8, c9]).cells.toList.drop 1).take (Tryd.prog.cellsOf 3) = [c1] by rw [hI]; rfl] at k1
  obtain ⟨n1, e1, _, _⟩ := DataW.trod_int Tryd.underlying3 k1
  have k2 : DataW.trod enc Tryd.prog W base spare held n 3 (((Value.agg #[c0, c1, c2, c3, c4, c5, c6, c7, c8, c9]).cells.toList.drop 2).take (Tryd.prog.cellsOf 3)) = xs[2]? := hg 2 _ rfl
  rw [List.getElem?_eq_getElem (show 2 < xs.length by omega), show ((Value.agg #[c0, c1, c2, c3, c4, c5, c6, c7, c8, c9]).cells.toList.drop 2).take (Tryd.prog.cellsOf 3) = [c2] by rw [hI]; rfl] at k2
  obtain ⟨n2, e2, _, _⟩ := DataW.trod_int Tryd.underlying3 k2
  have k3 : DataW.trod enc Tryd.prog W base spare held n 3 (((Value.agg #[c0, c1, c2, c3, c4, c5, c6, c7, c8, c9]).cells.toList.drop 3).take (Tryd.prog.cellsOf 3)) = xs[3]? := hg 3 _ rfl
  rw [List.getElem?_eq_getElem (show 3 < xs.length by omega), show ((Value.agg #[c0, c1, c2, c3, c4, c5, c6, c7, c8, c9]).cells.toList.drop 3).take (Tryd.prog.cellsOf 3) = [c3] by rw [hI]; rfl] at k3
  obtain ⟨n3, e3, _, _⟩ := DataW.trod_int Tryd.underlying3 k3
  have k4 : DataW.trod enc Tryd.prog W base spare held n 3 (((Value.agg #[c0, c1, c2, c3, c4, c5, c6, c7, c8, c9]).cells.toList.drop 4).take (Tryd.prog.cellsOf 3)) = xs[4]? := hg 4 _ rfl
  rw [List.getElem?_eq_getElem (show 4 < xs.length by omega), show ((Value.agg #[c0, c1, c2, c3, c4, c5, c6, c7, c8, c9]).cells.toList.drop 4).take (Tryd.prog.cellsOf 3) = [c4] by rw [hI]; rfl] at k4
  obtain ⟨n4, e4, _, _⟩ := DataW.trod_int Tryd.underlying3 k4
  have k5 : DataW.trod enc Tryd.prog W base spare held n 3 (((Value.agg #[c0, c1, c2, c3, c4, c5, c6, c7, c8, c9]).cells.toList.drop 5).take (Tryd.prog.cellsOf 3)) = xs[5]? := hg 5 _ rfl
  rw [List.getElem?_eq_getElem (show 5 < xs.length by omega), show ((Value.agg #[c0, c1, c2, c3, c4, c5, c6, c7, c8, c9]).cells.toList.drop 5).take (Tryd.prog.cellsOf 3) = [c5] by rw [hI]; rfl] at k5
  obtain ⟨n5, e5, _, _⟩ := DataW.trod_int Tryd.underlying3 k5
  have k6 : DataW.trod enc Tryd.prog W base spare held n 3 (((Value.agg #[c0, c1, c2, c3, c4, c5, c6, c7, c8, c9]).cells.toList.drop 6).take (Tryd.prog.cellsOf 3)) = xs[6]? := hg 6 _ rfl
  rw [List.getElem?_eq_getElem (show 6 < xs.length by omega), show ((Value.agg #[c0, c1, c2, c3, c4, c5, c6, c7, c8, c9]).cells.toList.drop 6).take (Tryd.prog.cellsOf 3) = [c6] by rw [hI]; rfl] at k6
  obtain ⟨n6, e6, _, _⟩ := DataW.trod_int Tryd.underlying3 k6
  have k7 : DataW.trod enc Tryd.prog W base spare held n 3 (((Value.agg #[c0, c1, c2, c3, c4, c5, c6, c7, c8, c9]).cells.toList.drop 7).take (Tryd.prog.cellsOf 3)) = xs[7]? := hg 7 _ rfl
  rw [List.getElem?_eq_getElem (show 7 < xs.length by omega), show ((Value.agg #[c0, c1, c2, c3, c4, c5, c6, c7, c8, c9]).cells.toList.drop 7).take (Tryd.prog.cellsOf 3) = [c7] by rw [hI]; rfl] at k7
  obtain ⟨n7, e7, _, _⟩ := DataW.trod_int Tryd.underlying3 k7
  have k8 : DataW.trod enc Tryd.prog W base spare held n 3 (((Value.agg #[c0, c1, c2, c3, c4, c5, c6, c7, c8, c9]).cells.toList.drop 8).take (Tryd.prog.cellsOf 3)) = xs[8]? := hg 8 _ rfl
  rw [List.getElem?_eq_getElem (show 8 < xs.length by omega), show ((Value.agg #[c0, c1, c2, c3, c4, c5, c6, c7, c8, c9]).cells.toList.drop 8).take (Tryd.prog.cellsOf 3) = [c8] by rw [hI]; rfl] at k8
  obtain ⟨n8, e8, _, _⟩ := DataW.trod_int Tryd.underlying3 k8
  have k9 : DataW.trod enc Tryd.prog W base spare held n 3 (((Value.agg #[c0, c1, c2, c3, c4, c5, c6, c7, c8, c9]).cells.toList.drop 9).take (Tryd.prog.cellsOf 3)) = xs[9]? := hg 9 _ rfl
  rw [List.getElem?_eq_getElem (show 9 < xs.length by omega), show ((Value.agg #[c0, c1, c2, c3, c4, c5, c6, c7, c8, c9]).cells.toList.drop 9).take (Tryd.prog.cellsOf 3) = [c9] by rw [hI]; rfl] at k9
  obtain ⟨n9, e9, _, _⟩ := DataW.trod_int Tryd.underlying3 k9
  simp only [List.cons.injEq, and_true] at e0 e1 e2 e3 e4 e5 e6 e7 e8 e9
  subst e0 e1 e2 e3 e4 e5 e6 e7 e8 e9
  exact ⟨⟨n0, n1, n2, n3, n4, n5, n6, n7, n8, n9⟩, rfl⟩

end Go.Proofs.YtmjidhnlofpliaaDoor
