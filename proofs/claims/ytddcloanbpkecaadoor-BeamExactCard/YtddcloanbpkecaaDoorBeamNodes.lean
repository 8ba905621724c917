/-
  What the iterator of all children of a list tells: each of them, in order, with its Score and a Path of its own.
-/
import Derived.Test.YtddcloanbpkecaaDoorBeamScore
import Derived.Test.YtddcloanbpkecaaDoorBeamHeld
import Derived.Test.YtddcloanbpkecaaDoorRefWalk
namespace Go.Proofs.YtddcloanbpkecaaDoor
open Go.RowKit Go.Shelf
attribute [local go_sem] Oper.semAt_some

/-- A node as it is told: its last part a slice. -/
abbrev Rs := Int × Int × Int × Option Addr × Nat × Nat
def toRn (x : Rs) : Rn := (x.1, x.2.1, x.2.2.1, .slice x.2.2.2.1 x.2.2.2.2.1 x.2.2.2.2.2)
def rsEnc (x : Rs) : Array Value := #[.agg #[.int .u32 x.1, .int .i64 x.2.1, .int .i64 x.2.2.1, .slice x.2.2.2.1 x.2.2.2.2.1 x.2.2.2.2.2]]

theorem ownFrom_spared {β : Type} {X : Nat → Prop} {B : Nat} {w₀ : World} (hB : w₀.heap.size ≤ B) : OwnFrom B (fun (_ : β) W => Spared X w₀ W) := fun _ A C row hs hg hr =>
  ⟨hg.os.trans hs.os, hg.tape.trans hs.tape, hg.output.trans hs.output, Nat.le_trans hs.size hg.size, fun k hk hx => (hg.block k (Nat.lt_of_lt_of_le hk hs.size) (fun e => by have := (hr k e.symm).1; omega)).trans (hs.block k hk hx)⟩

/-- Marks of loops that are over. -/
def markOf (D : Nat) : Deferred := { target := .collected D, args := #[] }
def Marked (n₁ : Nat) (Ds : List Nat) (W : World) : Prop := Ds.Nodup ∧ ∀ D ∈ Ds, n₁ ≤ D ∧ W.heap[D]? = some (.deferred (some []))
theorem Marked.next {n₁ : Nat} {Ds : List Nat} {W W' : World} (h : Marked n₁ Ds W) (hh : ∀ D ∈ Ds, W'.heap[D]? = W.heap[D]?) : Marked n₁ Ds W' := ⟨h.1, fun D hD => ⟨(h.2 D hD).1, (hh D hD).trans (h.2 D hD).2⟩⟩
theorem Marked.lt {n₁ : Nat} {Ds : List Nat} {W : World} (h : Marked n₁ Ds W) : ∀ D ∈ Ds, D < W.heap.size := fun D hD => (Array.getElem?_eq_some_iff.1 (h.2 D hD).2).1
theorem Marked.cons {n₁ D : Nat} {Ds : List Nat} {W : World} (h : Marked n₁ Ds W) (hD : W.heap[D]? = some (.deferred (some []))) (hn : n₁ ≤ D) (hne : D ∉ Ds) : Marked n₁ (D :: Ds) W :=
  ⟨List.nodup_cons.2 ⟨hne, h.1⟩, fun E hE => by
    rcases List.mem_cons.1 hE with rfl | hE
    · exact ⟨hn, hD⟩
    · exact h.2 E hE⟩
theorem leaves_marks {n n₁ : Nat} {P : Program} {fn : Func} {tmps : Array Value} {R : Ending → World → Prop} {v : Value} (hv : ∀ W, (results fn tmps).run P W = .ok v W) (T : World → Prop) (hT : ∀ W D o, T W → n₁ ≤ D → W.heap[D]? = some (.deferred (some [])) → T (W.putObj D o)) (hR : ∀ W, T W → R (.returned v) W) :
    ∀ (Ds : List Nat) (W : World), Marked n₁ Ds W → T W → LeavesInM Fence.wide n P fn tmps R (Ds.map markOf) .returning W
  | [], W, _, h => ⟨_, hv W, hR W h⟩
  | D :: Ds, W, hm, h => by
    obtain ⟨h1, h2⟩ := hm.2 D (by simp)
    refine ⟨by simp, .inl ⟨D, _, rfl, run_takeDeferred h2, ?_⟩⟩
    refine leaves_marks hv T hT hR Ds _ ⟨(List.nodup_cons.1 hm.1).2, fun E hE => ?_⟩ (hT _ _ _ h h1 h2)
    have hne : E ≠ D := fun e => (List.nodup_cons.1 hm.1).1 (e ▸ hE)
    exact ⟨(hm.2 E (by simp [hE])).1, (World.putObj_heap_other hne).trans (hm.2 E (by simp [hE])).2⟩

/-- At the wide fence no depth is asked, in a round or not. -/
theorem round_wide {m m' lp : Nat} {P : Program} {l : Nat} {f : FuncId} {tmps : Array Value} {assign body : Code} {w : World} {R : Ending → World → Prop} (h : RoundIn Fence.wide m P l f tmps assign body w R) : RoundIn (Fence.wide.inRound lp) m' P l f tmps assign body w R := ⟨h.1, fun c cs _ => h.2 c cs (room_wide _)⟩

/-- No defer statement among them. -/
def notDefer : Op → Bool
  | .defer _ => false
  | _ => true
theorem plainOps_of {ops : Array Oper} {l : Nat} (h : ops.toList.all (fun o => notDefer o.op) = true) : PlainOps (Fence.wide.inRound l) ops := by
  intro j o hj ρ
  refine Oper.semAt_some _ _ _ (fun c hc => ?_)
  have := List.all_eq_true.1 h o (List.mem_of_getElem? (by simpa using hj))
  rw [hc] at this
  cases this

theorem ownRns_own {base : Nat} {W W' : World} {row : Option Nat} {r : List Rn} {l : List Nd} (h : OwnRns base W r l) (hg : W.grownBy W' row) (hr : ∀ g, row = some g → ∃ o : Obj, W.heap[g]? = some o ∧ o.isCells = false) : OwnRns base W' r l := by
  refine ⟨h.1, fun j x y hx hy => ?_, h.2.2⟩
  obtain ⟨h1, h2, h3, h4⟩ := h.2.1 j x y hx hy
  refine ⟨h1, h2, h3, h4.kept hg ?_⟩
  rcases h4.2 with ⟨e, _⟩ | ⟨g, cap, cur, e, _, hgb, _⟩
  · rw [e]; exact .inl rfl
  · rw [e]
    refine .inr fun e' => ?_
    obtain ⟨o, ho, hc⟩ := hr g e'.symm
    rw [hgb] at ho
    cases ho
    cases hc
theorem ownRns_spared {X : Nat → Prop} {base : Nat} {W W' : World} {r : List Rn} {l : List Nd} (h : OwnRns base W r l) (hs : Spared X W W') (hX : ∀ j, base ≤ j → ¬ X j) : OwnRns base W' r l :=
  ⟨h.1, fun j x y hx hy => by obtain ⟨h1, h2, h3, h4⟩ := h.2.1 j x y hx hy; exact ⟨h1, h2, h3, hs.row h4 hX⟩, h.2.2⟩

end Go.Proofs.YtddcloanbpkecaaDoor
