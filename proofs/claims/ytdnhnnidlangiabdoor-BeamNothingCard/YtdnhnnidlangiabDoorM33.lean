/-
  A region that draws its order, in a round of a loop over an iterator: what reads a cell that nobody of the region writes may be taken first. No program is spoken of.
-/
import Derived.Test.YtdnhnnidlangiabDoorM09
import Derived.Test.YtdnhnnidlangiabDoorM11
import Derived.Test.YtdnhnnidlangiabDoorM20
import Derived.Test.YtdnhnnidlangiabDoorM21
import Derived.Test.YtdnhnnidlangiabDoorM27
import Derived.Test.YtdnhnnidlangiabDoorM28
import Derived.Test.YtdnhnnidlangiabDoorM29
import Derived.Test.YtdnhnnidlangiabDoorM30
import Derived.Test.YtdnhnnidlangiabDoorM31
import Derived.BigQuiet
import Derived.Deep.QuietTactic
import Derived.Deep.RegionHeldLaw
import Derived.OrdersHeld
import Derived.OrdersIn
import Derived.RangeFuncIn
namespace Go.Proofs.YtdnhnnidlangiabDoor
open Go

section
variable {F : Fence} {n : Nat} {P : Program} {ops : Array Oper} {Q : Exit → Act → World → Prop} {md : Region.Mode} {S : World → Prop}

/-- No operation of the region is a defer statement: each is carried out as everywhere. -/
def PlainOps (F : Fence) (ops : Array Oper) : Prop := ∀ (j : Nat) (o : Oper), ops[j]? = some o → ∀ ρ : Operand → Value, o.semAt F.round ρ = execOp ρ o

def YieldsHeld (P : Program) (ops : Array Oper) (S : World → Prop) (o : Oper) (v : Value) (a : Act) : Prop := YieldsIf P ops S o v a ∧ ∀ w, o.about P w a.eval = none

theorem YieldsHeld.wpOpIn {i : Nat} {o : Oper} {v : Value} {a : Act} (hpl : PlainOps F ops) (hi : ops[i]? = some o) (hy : YieldsHeld P ops S o v a)
    {K : Act → World → Prop} {w : World} (hS : S w) (h : K (a.put o.dst v) w) : wpOpIn F n P ops Q i K a w := by
  unfold Go.wpOpIn
  simp only [hi]
  have hab : ∀ f, o.about P w a.eval = some f → F.fn f := fun f hf => by rw [hy.2 w] at hf; cases hf
  rcases hy.1 with ⟨hw, hv⟩ | ⟨hw, rfl⟩
  · simp only [hw, if_true, Oper.wpIn, hpl i o hi, hv w hS, Oper.uponIn]; exact ⟨hab, h⟩
  · simp only [hw, Bool.false_eq_true, if_false]; exact ⟨hab, h⟩

theorem YieldsHeld.of_same {o : Oper} {v : Value} {a a' : Act} (hy : YieldsHeld P ops S o v a) (he : execOp a'.eval o = execOp a.eval o)
    (hw : Region.wanted o (yielded ops a'.tmps) = Region.wanted o (yielded ops a.tmps)) (hb : ∀ w, o.about P w a'.eval = o.about P w a.eval) : YieldsHeld P ops S o v a' :=
  ⟨hy.1.of_same he hw, fun w => by rw [hb w]; exact hy.2 w⟩

theorem wpOpIn_putHeld {j : Nat} {oi oj : Oper} {v : Value} (hpl : PlainOps F ops) (hj : ops[j]? = some oj) (hap : oi.apart ops oj = true)
    (hsi : ∀ cs b, oi.op ≠ .select cs b) (hsj : ∀ cs b, oj.op ≠ .select cs b)
    (hQ : ∀ c a w, Q (.panic c) (a.put oi.dst v) w → Q (.panic c) a w) {K : Act → World → Prop} {a : Act} {w : World}
    (hy : YieldsHeld P ops S oi v a) (h : wpOpIn F n P ops Q j K (a.put oi.dst v) w) :
    wpOpIn F n P ops Q j (fun a' w' => YieldsHeld P ops S oi v a' ∧ K (a'.put oi.dst v) w') a w := by
  obtain ⟨h1, h2, h3⟩ := Oper.apart_spec hap
  have keep : ∀ (a : Act), YieldsHeld P ops S oi v a → ∀ u, YieldsHeld P ops S oi v (a.put oj.dst u) := fun a hy u =>
    hy.of_same (execOp_put oi hsi a oj.dst u h3) (wanted_put oi a oj.dst u h3) (fun w => about_put oi w a oj.dst u h3)
  have keepD : ∀ d, YieldsHeld P ops S oi v { a with defers := d :: a.defers } := fun d => hy.of_same rfl rfl (fun _ => rfl)
  have hplj := hpl j oj hj
  unfold wpOpIn at *
  simp only [hj] at h ⊢
  rw [wanted_put oj a oi.dst v h1, about_put oj w a oi.dst v h1] at h
  split
  · rename_i hw
    simp only [hw, if_true] at h
    unfold Oper.wpIn at *
    rw [about_put oj w a oi.dst v h1] at h
    refine ⟨h.1, ?_⟩
    have h := h.2
    rw [hplj, execOp_put oj hsj a oi.dst v h1] at h
    rw [hplj]
    generalize (execOp a.eval oj).run P w = r at *
    cases r with
    | ok x w' =>
      cases x <;> simp only [Oper.uponIn] at h ⊢
      case value u => exact ⟨keep a hy u, by rw [← Act.put_comm a v u h2]; exact h⟩
      case skip => exact ⟨keep a hy _, by rw [← Act.put_comm a v undef h2]; exact h⟩
      case defer d =>
        refine ⟨keep _ (keepD d) _, ?_⟩
        rw [← Act.put_comm _ v undef h2, ← Act.put_defers]
        exact h
      case enter f args =>
        refine ⟨h.1, CallsIn.mono h.2 fun e w'' he => ?_⟩
        cases e with
        | returned u => exact ⟨keep a hy u, by rw [← Act.put_comm a v u h2]; exact he⟩
        | panicked c => exact hQ _ _ _ he
        | outgrown => exact he
      case row row args => exact ⟨h.1, RowsIn.mono h.2 fun u w'' he => ⟨keep a hy u, by rw [← Act.put_comm a v u h2]; exact he⟩⟩
      case round l f tmps assign body =>
        refine ⟨h.1, RoundIn.mono h.2 fun e w'' he => ?_⟩
        cases e with
        | returned u => exact ⟨keep a hy u, by rw [← Act.put_comm a v u h2]; exact he⟩
        | panicked c => exact hQ _ _ _ he
        | outgrown => exact he
    | halt x w' =>
      cases x <;> simp only [Oper.uponIn] at h ⊢
      case panic u => exact hQ _ _ _ h
  · rename_i hw
    simp only [hw] at h
    exact ⟨h.1, keep a hy _, by rw [← Act.put_comm a v undef h2]; exact h.2⟩

/-- Whatever order is picked from here on, and S holds behind every operation that is carried out. -/
def wpAnyHeld (F : Fence) (n : Nat) (P : Program) (md : Region.Mode) (ops : Array Oper) (Q : Exit → Act → World → Prop) (S : World → Prop) : Nat → Array Bool → Act → World → Prop
  | 0, listed, a, w => Region.ready md ops listed = [] ∧ Q .normal a w
  | fuel + 1, listed, a, w =>
    (Region.ready md ops listed = [] → Q .normal a w) ∧
    ∀ i ∈ Region.ready md ops listed, wpOpIn F n P ops Q i (fun a' w' => S w' ∧ wpAnyHeld F n P md ops Q S fuel (listed.setIfInBounds i true) a' w') a w

theorem wpAnyIn_of_held : ∀ (fuel : Nat) (listed : Array Bool) (a : Act) (w : World), wpAnyHeld F n P md ops Q S fuel listed a w → wpAnyIn F n P md ops Q fuel listed a w
  | 0, _, _, _, h => h
  | fuel + 1, _, _, _, h => ⟨h.1, fun i hi => wpOpIn_mono (fun a' w' h' => wpAnyIn_of_held fuel _ a' w' h'.2) (h.2 i hi)⟩

theorem wpAnyHeld_first {i : Nat} {oi : Oper} {v : Value} (hpl : PlainOps F ops) (hi : ops[i]? = some oi) (hsel : ∀ (j : Nat) (o : Oper) cs b, ops[j]? = some o → o.op ≠ .select cs b)
    (hQ : ∀ c a w, Q (.panic c) (a.put oi.dst v) w → Q (.panic c) a w) :
    ∀ (fuel : Nat) (listed : Array Bool) (a : Act) (w : World),
      (∀ j oj, ops[j]? = some oj → j ≠ i → listed.getD j true = false → (∀ e ∈ oj.after, Region.binds md e = true → e.on ≠ i) → oi.apart ops oj = true) →
      i ∈ Region.ready md ops listed → YieldsHeld P ops S oi v a → S w →
      wpAnyHeld F n P md ops Q S fuel (listed.setIfInBounds i true) (a.put oi.dst v) w → wpAnyHeld F n P md ops Q S (fuel + 1) listed a w := by
  intro fuel
  induction fuel with
  | zero =>
    intro listed a w _ hr hy hS H
    refine ⟨fun h => (by rw [h] at hr; cases hr), fun j hj => ?_⟩
    by_cases hji : j = i
    · subst hji; exact hy.wpOpIn hpl hi hS ⟨hS, H⟩
    · have := ready_mono hj hji
      rw [H.1] at this
      cases this
  | succ fuel ih =>
    intro listed a w hfree hr hy hS H
    refine ⟨fun h => (by rw [h] at hr; cases hr), fun j hj => ?_⟩
    by_cases hji : j = i
    · subst hji; exact hy.wpOpIn hpl hi hS ⟨hS, H⟩
    · have h1 := H.2 j (ready_mono hj hji)
      obtain ⟨hjun, oj, hoj, hall⟩ := mem_ready.1 hj
      have hnot : ∀ e ∈ oj.after, Region.binds md e = true → e.on ≠ i := fun e he hb heq => by
        have h1 := hall e he hb
        have h0 := (mem_ready.1 hr).1
        rw [heq] at h1
        rcases Nat.lt_or_ge i listed.size with h' | h'
        · simp [h'] at h0 h1; rw [h0] at h1; cases h1
        · simp [Array.getElem?_eq_none h'] at h1
      have h2 := wpOpIn_putHeld hpl hoj (hfree j oj hoj hji hjun hnot) (fun cs b => hsel i oi cs b hi) (fun cs b => hsel j oj cs b hoj) hQ hy h1
      have hfree' : ∀ k ok, ops[k]? = some ok → k ≠ i → (listed.setIfInBounds j true).getD k true = false →
          (∀ e ∈ ok.after, Region.binds md e = true → e.on ≠ i) → oi.apart ops ok = true := fun k ok hk hki hun hno => by
        refine hfree k ok hk hki ?_ hno
        by_cases hjk : j = k
        · subst hjk; exact hjun
        · rw [getD_set_ne true hjk] at hun; exact hun
      refine wpOpIn_mono (fun a' w' h3 => ⟨h3.2.1, ih (listed.setIfInBounds j true) a' w' hfree' (ready_mono hr (Ne.symm hji)) h3.1 h3.2.1 ?_⟩) h2
      rw [Array.setIfInBounds_comm _ _ hji]
      exact h3.2.2

theorem wpAnyHeld_take {i : Nat} {oi : Oper} {v : Value} {fuel : Nat} {listed : Array Bool} {a : Act} {w : World} (hpl : PlainOps F ops) (hi : ops[i]? = some oi)
    (hs : Region.noSelect ops = true) (hf : Region.free md ops listed i = true) (hr : (Region.ready md ops listed).contains i = true)
    (hQ : ∀ c a w, Q (.panic c) (a.put oi.dst v) w → Q (.panic c) a w) (hy : YieldsHeld P ops S oi v a) (hS : S w)
    (h : wpAnyHeld F n P md ops Q S fuel (listed.setIfInBounds i true) (a.put oi.dst v) w) : wpAnyHeld F n P md ops Q S (fuel + 1) listed a w :=
  wpAnyHeld_first hpl hi (Region.noSelect_spec hs) hQ fuel listed a w (Region.free_spec hi hf) (by simpa using hr) hy hS h

/-- Just one may come up: behind it S is to be shown anew. -/
theorem wpAnyHeld_one {i : Nat} {o : Oper} {fuel : Nat} {listed : Array Bool} {a : Act} {w : World} (hr : Region.ready md ops listed = [i]) (ho : ops[i]? = some o) (hw : Region.wanted o (yielded ops a.tmps) = true)
    (h : ∀ K : Act → World → Prop, (∀ a' w', S w' → wpAnyHeld F n P md ops Q S fuel (listed.setIfInBounds i true) a' w' → K a' w') → o.wpIn F n P a w K Q) : wpAnyHeld F n P md ops Q S (fuel + 1) listed a w := by
  refine ⟨(fun h0 => by rw [hr] at h0; cases h0), fun j hj => ?_⟩
  rw [hr] at hj
  simp at hj
  subst hj
  unfold wpOpIn
  simp only [ho, hw, if_true]
  exact h _ fun a' w' h1 h2 => ⟨h1, h2⟩

theorem wpAnyHeld_done {listed : Array Bool} {a : Act} {w : World} (hr : Region.ready md ops listed = []) (h : Q .normal a w) :
    ∀ fuel, wpAnyHeld F n P md ops Q S fuel listed a w
  | 0 => ⟨hr, h⟩
  | _ + 1 => ⟨fun _ => h, by rw [hr]; simp⟩

theorem wpIn_region_held {id : Nat} {a : Act} {w : World} (S : World → Prop) (hm : P.follows .mixedOrders = true)
    (h : wpAnyHeld F n P .any ops Q S ops.size (Array.replicate ops.size false) a { w with drawn := w.drawn + 1 }) : (Code.region id ops true).wpIn F n P Q a w :=
  wpIn_region_any hm (wpAnyIn_of_held _ _ _ _ h)

end

end Go.Proofs.YtdnhnnidlangiabDoor

/-
  What the iterator of all children of a list tells: each of them, in order, with its Score and a Path of its own.
-/
namespace Go.Proofs.YtdnhnnidlangiabDoor
open Go.RowKit Go.Shelf
attribute [local go_sem] Oper.semAt_some

/-- A node as it is told: its last part a slice. -/
abbrev Rs := Int × Int × Int × Option Addr × Nat × Nat
def toRn (x : Rs) : Rn := (x.1, x.2.1, x.2.2.1, .slice x.2.2.2.1 x.2.2.2.2.1 x.2.2.2.2.2)
def rsEnc (x : Rs) : Array Value := #[.agg #[.int .u32 x.1, .int .i64 x.2.1, .int .i64 x.2.2.1, .slice x.2.2.2.1 x.2.2.2.2.1 x.2.2.2.2.2]]

theorem ownFrom_spared {β : Type} {X : Nat → Prop} {B : Nat} {w₀ : World} (hB : w₀.heap.size ≤ B) : OwnFrom B (fun (_ : β) W => Spared X w₀ W) := fun _ A C row hs hg hr =>
  ⟨hg.os.trans hs.os, hg.tape.trans hs.tape, hg.output.trans hs.output, Nat.le_trans hs.size hg.size, fun k hk hx => (hg.block k (Nat.lt_of_lt_of_le hk hs.size) (fun e => by have := (hr k e.symm).1; omega)).trans (hs.block k hk hx)⟩

/-- Marks of loops that are over. -/
def markOf (D : Nat) : Deferred := { target := .collected D, args := #[] }
def Marked (n₁ : Nat) (Ds : List Nat) (W : World) : Prop := Ds.Nodup ∧ ∀ D ∈ Ds, n₁ ≤ D ∧ W.heap[D]? = some (.deferred (some []))
theorem Marked.next {n₁ : Nat} {Ds : List Nat} {W W' : World} (h : Marked n₁ Ds W) (hh : ∀ D ∈ Ds, W'.heap[D]? = W.heap[D]?) : Marked n₁ Ds W' := ⟨h.1, fun D hD => ⟨(h.2 D hD).1, (hh D hD).trans (h.2 D hD).2⟩⟩
theorem Marked.lt {n₁ : Nat} {Ds : List Nat} {W : World} (h : Marked n₁ Ds W) : ∀ D ∈ Ds, D < W.heap.size := fun D hD => (Array.getElem?_eq_some_iff.1 (h.2 D hD).2).1
theorem Marked.cons {n₁ D : Nat} {Ds : List Nat} {W : World} (h : Marked n₁ Ds W) (hD : W.heap[D]? = some (.deferred (some []))) (hn : n₁ ≤ D) (hne : D ∉ Ds) : Marked n₁ (D :: Ds) W :=
  ⟨List.nodup_cons.2 ⟨hne, h.1⟩, fun E hE => by
    rcases List.mem_cons.1 hE with rfl | hE
    · exact ⟨hn, hD⟩
    · exact h.2 E hE⟩
theorem leaves_marks {n n₁ : Nat} {P : Program} {fn : Func} {tmps : Array Value} {R : Ending → World → Prop} {v : Value} (hv : ∀ W, (results fn tmps).run P W = .ok v W) (T : World → Prop) (hT : ∀ W D o, T W → n₁ ≤ D → W.heap[D]? = some (.deferred (some [])) → T (W.putObj D o)) (hR : ∀ W, T W → R (.returned v) W) :
    ∀ (Ds : List Nat) (W : World), Marked n₁ Ds W → T W → LeavesInM Fence.wide n P fn tmps R (Ds.map markOf) .returning W
  | [], W, _, h => ⟨_, hv W, hR W h⟩
  | D :: Ds, W, hm, h => by
    obtain ⟨h1, h2⟩ := hm.2 D (by simp)
    refine ⟨by simp, .inl ⟨D, _, rfl, run_takeDeferred h2, ?_⟩⟩
    refine leaves_marks hv T hT hR Ds _ ⟨(List.nodup_cons.1 hm.1).2, fun E hE => ?_⟩ (hT _ _ _ h h1 h2)
    have hne : E ≠ D := fun e => (List.nodup_cons.1 hm.1).1 (e ▸ hE)
    exact ⟨(hm.2 E (by simp [hE])).1, (World.putObj_heap_other hne).trans (hm.2 E (by simp [hE])).2⟩

/-- At the wide fence no depth is asked, in a round or not. -/
theorem round_wide {m m' lp : Nat} {P : Program} {l : Nat} {f : FuncId} {tmps : Array Value} {assign body : Code} {w : World} {R : Ending → World → Prop} (h : RoundIn Fence.wide m P l f tmps assign body w R) : RoundIn (Fence.wide.inRound lp) m' P l f tmps assign body w R := ⟨h.1, fun c cs _ => h.2 c cs (room_wide _)⟩

/-- No defer statement among them. -/
def notDefer : Op → Bool
  | .defer _ => false
  | _ => true
theorem plainOps_of {ops : Array Oper} {l : Nat} (h : ops.toList.all (fun o => notDefer o.op) = true) : PlainOps (Fence.wide.inRound l) ops := by
  intro j o hj ρ
  refine Oper.semAt_some _ _ _ (fun c hc => ?_)
  have := List.all_eq_true.1 h o (List.mem_of_getElem? (by simpa using hj))
  rw [hc] at this
  cases this

theorem ownRns_own {base : Nat} {W W' : World} {row : Option Nat} {r : List Rn} {l : List Nd} (h : OwnRns base W r l) (hg : W.grownBy W' row) (hr : ∀ g, row = some g → ∃ o : Obj, W.heap[g]? = some o ∧ o.isCells = false) : OwnRns base W' r l := by
  refine ⟨h.1, fun j x y hx hy => ?_, h.2.2⟩
  obtain ⟨h1, h2, h3, h4⟩ := h.2.1 j x y hx hy
  refine ⟨h1, h2, h3, h4.kept hg ?_⟩
  rcases h4.2 with ⟨e, _⟩ | ⟨g, cap, cur, e, _, hgb, _⟩
  · rw [e]; exact .inl rfl
  · rw [e]
    refine .inr fun e' => ?_
    obtain ⟨o, ho, hc⟩ := hr g e'.symm
    rw [hgb] at ho
    cases ho
    cases hc
theorem ownRns_spared {X : Nat → Prop} {base : Nat} {W W' : World} {r : List Rn} {l : List Nd} (h : OwnRns base W r l) (hs : Spared X W W') (hX : ∀ j, base ≤ j → ¬ X j) : OwnRns base W' r l :=
  ⟨h.1, fun j x y hx hy => by obtain ⟨h1, h2, h3, h4⟩ := h.2.1 j x y hx hy; exact ⟨h1, h2, h3, hs.row h4 hX⟩, h.2.2⟩

end Go.Proofs.YtdnhnnidlangiabDoor

/-
  What the iterator of all children of a list tells, walked. (Written by tpl_beamnodes.py.)
-/
namespace Go.Proofs.YtdnhnnidlangiabDoor
open Go.RowKit Go.Shelf
attribute [local go_sem] Oper.semAt_some

set_option maxRecDepth 100000 in
set_option maxHeartbeats 8000000 in
theorem nodes1_in (n q lo Bl Bh Bd b off N cap : Nat) (l : List (Int × Int)) (p : Int) (hp : PileOk (N : Int) p l) (D : Nat) (hD : D ≤ 2) (i : Nat) (hi : i < N) (L : List Nd) (m : Nat) (hm : L.length = m) (hm16 : m ≤ 16) (la : Option Addr) (lc : Nat) (n₀ n₁ : Nat) (X : Nat → Prop)
    (hLn : ∀ n ∈ L, (∃ s : Nat, s < 4294967296 ∧ n.1 = (s : Int)) ∧ 0 ≤ n.2.1 ∧ n.2.1 ≤ 8192 * (i : Int) ∧ n.2.2.2.length = i)
    (J : List Rs → World → Prop) (hJ : ∀ s A B, J s A → Below n₁ A B → J s B)
    (hY : ∀ pre x W, J pre W → pre.length < m * 16 → YieldAt Fence.wide q Tryd.prog lo (rsEnc x) W fun e W' => e = .returned (.bool true) ∧ J (pre ++ [x]) W' ∧ Spared X W W')
    (hX1 : ∀ k, X k → k < n₁) (hX0 : ∀ k, X k → n₀ ≤ k) (hXh : ¬ X Bh) (hXd : ¬ X Bd)
    (W : World) (hn₁ : W.heap.size = n₁) (hn₀ : n₀ ≤ n₁)
    (xl : Box W Bl 41 #[.slice la m lc]) (xh : Box W Bh 62 #[.slice (some ⟨b, off, none⟩) N cap]) (xd : Box W Bd 3 #[.int .i64 ((D + 1 : Nat) : Int)])
    (hS : Segs n₀ W (.slice (some ⟨b, off, none⟩) N cap) (segsL N l)) (hLN : Nodes n₀ W (.slice la m lc) L) (h0 : J [] W) :
    CallsIn Fence.wide n Tryd.prog 60 #[.func (.yield lo) #[] #[], .pointer (some ⟨Bl, 0, none⟩), .pointer (some ⟨Bh, 0, none⟩), .pointer (some ⟨Bd, 0, none⟩)] W fun e W' => (∃ v, e = .returned v) ∧ ∃ xs, OwnRns n₁ W' (xs.map toRn) (kidsB N l D i L) ∧ J xs W' := by
  refine callsIn_wide.2 ((callsIn_wide (n := 9)).1 ?_)
  have hN2 : N < 65 := by have := hp.1.2.1; omega
  have HP : Hid (PileOk (N : Int) p l) := hp
  have HS : Hid (Segs n₀ W (.slice (some ⟨b, off, none⟩) N cap) (segsL N l)) := hS
  have HLN : Hid (Nodes n₀ W (.slice la m lc) L) := hLN
  have HML : Hid (L.length = m) := hm
  have HLn : Hid (∀ n ∈ L, (∃ s : Nat, s < 4294967296 ∧ n.1 = (s : Int)) ∧ 0 ≤ n.2.1 ∧ n.2.1 ≤ 8192 * (i : Int) ∧ n.2.2.2.length = i) := hLn
  have HJ : Hid (∀ s A B, J s A → Below n₁ A B → J s B) := hJ
  have HY : Hid (∀ pre x W, J pre W → pre.length < m * 16 → YieldAt Fence.wide q Tryd.prog lo (rsEnc x) W fun e W' => e = .returned (.bool true) ∧ J (pre ++ [x]) W' ∧ Spared X W W') := hY
  have HN1 : Hid (W.heap.size = n₁) := hn₁
  obtain ⟨D1, hD1⟩ : ∃ D1, D + 1 = D1 := ⟨_, rfl⟩
  rw [hD1] at xd
  have HD1 : Hid (D + 1 = D1) := hD1
  have hll := xl.lt
  have hlh := xh.lt
  have hld := xd.lt
  have cl := xl.cell 0 _ rfl
  have ch := xh.cell 0 _ rfl
  have cd := xd.cell 0 _ rfl
  have xy : Box (W.alloc (.cells #[.func (.yield lo) #[] #[]] 89)) n₁ 89 #[.func (.yield lo) #[] #[]] := by
    have := Box.new W 89 #[.func (.yield lo) #[] #[]]
    rw [HN1.out] at this
    exact this
  have b1 : Below W.heap.size W (W.alloc (.cells #[.func (.yield lo) #[] #[]] 89)) := (Below.refl W.heap.size W).alloc (Nat.le_refl _) _
  have hs1 : (W.alloc (.cells #[.func (.yield lo) #[] #[]] 89)).heap.size = n₁ + 1 := by simp [HN1.out]
  clear hp hS hLN hm hLn hJ hY hD1
  rw [HN1.out] at hll hlh hld
  refine callsIn_of_wp_marks Tryd.func60 rfl trivial ?_ rfl
  simp only [Tryd.ntmps60, List.size_toArray, List.length_cons, List.length_nil, Nat.reduceAdd, Nat.reduceSub, Array.replicate_succ, Array.replicate_zero, List.push_toArray, List.append_toArray, List.nil_append, List.cons_append]
  clear hn₁
  have cl' := (b1.cell (p := ⟨Bl, 0, none⟩) (by rw [HN1.out]; exact hll)).trans cl
  gi_wp2
  obtain ⟨W1, hW1⟩ : ∃ W1, W.alloc (.cells #[.func (.yield lo) #[] #[]] 89) = W1 := ⟨_, rfl⟩
  rw [hW1] at xy b1 hs1 ⊢
  rw [HN1.out] at b1 ⊢
  clear cl cl' ch cd hW1
  have xh1 := xh.below b1 hlh
  have xd1 := xd.below b1 hld
  have h01 := HJ.out _ _ _ h0 b1
  have HS1 : Hid (Segs n₀ W1 (.slice (some ⟨b, off, none⟩) N cap) (segsL N l)) := HS.out.below (b1.mono hn₀)
  have HL1 : Hid (Nodes n₀ W1 (.slice la m lc) L) := HLN.out.below (b1.mono hn₀)
  clear xh xd xl h0 HS HLN
  refine wpIn_loop (fun a' w' => ∃ u6 u7 u8 u9 u13 u14 u15 u16 u17 u18 u19 u20 u21 u22 u23 u24 u25 u26 u27 u28 u29 u30 u31 u32 u33 u34 u35 u36 u37 u38 u39 u40 u41 u42 u43 u44 u45 u46 u47, ∃ (k : Nat) (xs : List Rs) (Ds : List Nat), k ≤ m ∧ J xs w' ∧ OwnRns n₁ w' (xs.map toRn) (kidsB N l D i (L.take k)) ∧ Spared X W1 w' ∧ Marked (n₁ + 1) Ds w' ∧ a' = { tmps := #[.func (.yield lo) #[] #[], .pointer (some ⟨Bl, 0, none⟩), .pointer (some ⟨Bh, 0, none⟩), .pointer (some ⟨Bd, 0, none⟩), .pointer (some ⟨n₁, 0, none⟩), undef, u6, u7, u8, u9, .slice la m lc, .int .i64 (m : Int), .int .i64 (k : Int), u13, u14, u15, u16, u17, u18, u19, u20, u21, u22, u23, u24, u25, u26, u27, u28, u29, u30, u31, u32, u33, u34, u35, u36, u37, u38, u39, u40, u41, u42, u43, u44, u45, u46, u47], defers := Ds.map markOf }) (fun a' _ => m - (intOf (a'.tmps.getD 12 undef)).toNat) ?_ ?_
  · exact ⟨_, _, _, _, _, _, _, _, _, _, _, _, _, _, _, _, _, _, _, _, _, _, _, _, _, _, _, _, _, _, _, _, _, _, _, _, _, _, _, 0, [], [], Nat.zero_le _, h01, by rw [List.take_zero]; exact ownRns_nil _ _, Spared.refl _ _, ⟨List.nodup_nil, fun D hD => by simp at hD⟩, rfl⟩
  · rintro a' wr ⟨u6, u7, u8, u9, u13, u14, u15, u16, u17, u18, u19, u20, u21, u22, u23, u24, u25, u26, u27, u28, u29, u30, u31, u32, u33, u34, u35, u36, u37, u38, u39, u40, u41, u42, u43, u44, u45, u46, u47, k, xs, Ds, hk, hJs, hO, hSp, hMk, rfl⟩
    have hsz : n₁ + 1 ≤ wr.heap.size := by have := hSp.size; omega
    have hXn : ∀ j, n₁ ≤ j → ¬ X j := fun j hj hx => by have := hX1 j hx; omega
    have yy : Box wr n₁ 89 #[.func (.yield lo) #[] #[]] := hSp.heap (hXn _ (Nat.le_refl _)) xy
    have yh : Box wr Bh 62 #[.slice (some ⟨b, off, none⟩) N cap] := hSp.heap hXh xh1
    have yd : Box wr Bd 3 #[.int .i64 (D1 : Int)] := hSp.heap hXd xd1
    have bn : Below n₀ W1 wr := hSp.below (fun j hj hx => by have := hX0 j hx; omega) (by omega)
    by_cases hlt : k < m
    · obtain ⟨nd, hn⟩ : ∃ nd, L[k]? = some nd := ⟨L[k]'(by rw [HML.out]; exact hlt), by simp⟩
      obtain ⟨⟨s, hs, es⟩, hM0, hM1, hpl⟩ := HLn.out nd (List.mem_of_getElem? hn)
      obtain ⟨ns, M, nsc, ps⟩ := nd
      have es' : ns = (s : Int) := es
      subst es'
      have hpl' : ps.length = i := hpl
      have HTK : Hid (L.take (k + 1) = L.take k ++ [((s : Int), M, nsc, ps)]) := by
        show L.take (k + 1) = L.take k ++ [((s : Int), M, nsc, ps)]
        rw [List.take_add_one, hn]; rfl
      have HPL : Hid (ps.length = i) := hpl'
      have hM0' : 0 ≤ M := hM0
      have hM1' : M ≤ 8192 * (i : Int) := hM1
      obtain ⟨lb, lof, rfl, hlb, hcl⟩ := nodes_at (HL1.out.below bn) HML.out (by omega)
      obtain ⟨pv, hpv, c0, c1, c2, c3⟩ := hcl k _ hn
      obtain ⟨pa, pc, e8⟩ := hpv.shape
      have e8' : pv = .slice pa i pc := by rw [e8]; show Value.slice pa ps.length pc = _; rw [hpl']
      subst e8'
      have HPV : Hid (Holds .i64 n₀ wr (.slice pa i pc) ps) := hpv
      have ch := (yh.alloc (.cells #[.int .u32 (s : Int), .int .i64 M, .int .i64 nsc, .slice pa i pc] 34)).cell 0 _ rfl
      have d0 : decide ((k : Int) < (m : Int)) = true := decide_eq_true (by omega)
      have d0' : decide (k < m) = true := decide_eq_true hlt
      have f1 : Fence.wide.fn 58 := trivial
      have hn1 : (1 : Nat) ≤ 9 := by omega
      have HN : Hid (L[k]? = some ((s : Int), M, nsc, ps)) := hn
      clear hcl hpv e8 hpl hpl' es hM0 hM1 hn
      gi_wp2_with (gi_at_call 58; refine (children_in (9 - 1) _ ⟨_, _, _, rfl⟩ i s M _).mono ?_; rintro e w2 ⟨rfl, rfl⟩)
      have yn : Box (((wr.alloc (.cells #[.int .u32 (s : Int), .int .i64 M, .int .i64 nsc, .slice pa i pc] 34)).alloc (.cells #[.slice (some ⟨b, off, none⟩) N cap] 62)).alloc (.cells #[.int .i64 (i : Int), .int .u32 (s : Int), .int .i64 M] 66)) wr.heap.size 34 #[.int .u32 (s : Int), .int .i64 M, .int .i64 nsc, .slice pa i pc] := ((Box.new wr 34 _).alloc _).alloc _
      have yq : Box (((wr.alloc (.cells #[.int .u32 (s : Int), .int .i64 M, .int .i64 nsc, .slice pa i pc] 34)).alloc (.cells #[.slice (some ⟨b, off, none⟩) N cap] 62)).alloc (.cells #[.int .i64 (i : Int), .int .u32 (s : Int), .int .i64 M] 66)) (wr.heap.size + 1) 62 #[.slice (some ⟨b, off, none⟩) N cap] := by
        have := (Box.new (wr.alloc (.cells #[.int .u32 (s : Int), .int .i64 M, .int .i64 nsc, .slice pa i pc] 34)) 62 #[.slice (some ⟨b, off, none⟩) N cap]).alloc (.cells #[.int .i64 (i : Int), .int .u32 (s : Int), .int .i64 M] 66)
        simpa using this
      have yp : Box (((wr.alloc (.cells #[.int .u32 (s : Int), .int .i64 M, .int .i64 nsc, .slice pa i pc] 34)).alloc (.cells #[.slice (some ⟨b, off, none⟩) N cap] 62)).alloc (.cells #[.int .i64 (i : Int), .int .u32 (s : Int), .int .i64 M] 66)) (wr.heap.size + 1 + 1) 66 #[.int .i64 (i : Int), .int .u32 (s : Int), .int .i64 M] := by
        have := Box.new ((wr.alloc (.cells #[.int .u32 (s : Int), .int .i64 M, .int .i64 nsc, .slice pa i pc] 34)).alloc (.cells #[.slice (some ⟨b, off, none⟩) N cap] 62)) 66 #[.int .i64 (i : Int), .int .u32 (s : Int), .int .i64 M]
        simpa using this
      have bS : Below wr.heap.size wr (((wr.alloc (.cells #[.int .u32 (s : Int), .int .i64 M, .int .i64 nsc, .slice pa i pc] 34)).alloc (.cells #[.slice (some ⟨b, off, none⟩) N cap] 62)).alloc (.cells #[.int .i64 (i : Int), .int .u32 (s : Int), .int .i64 M] 66)) := (((Below.refl wr.heap.size wr).alloc (Nat.le_refl _) _).alloc (by simp) _).alloc (by simp; omega) _
      have hsS : (((wr.alloc (.cells #[.int .u32 (s : Int), .int .i64 M, .int .i64 nsc, .slice pa i pc] 34)).alloc (.cells #[.slice (some ⟨b, off, none⟩) N cap] 62)).alloc (.cells #[.int .i64 (i : Int), .int .u32 (s : Int), .int .i64 M] 66)).heap.size = wr.heap.size + 3 := by simp
      obtain ⟨Ws, hWs⟩ : ∃ Ws, ((wr.alloc (.cells #[.int .u32 (s : Int), .int .i64 M, .int .i64 nsc, .slice pa i pc] 34)).alloc (.cells #[.slice (some ⟨b, off, none⟩) N cap] 62)).alloc (.cells #[.int .i64 (i : Int), .int .u32 (s : Int), .int .i64 M] 66) = Ws := ⟨_, rfl⟩
      rw [hWs] at yn yq yp bS hsS ⊢
      clear hWs ch c0 c1 c2 c3 d0 d0'
      have HJS := HJ.out _ _ _ hJs (bS.mono (by omega))
      have HOS := hO.below bS (Nat.le_refl _)
      have zy := yy.next bS
      have zh := yh.next bS
      have zd := yd.next bS
      have HMk : Hid (Marked (n₁ + 1) Ds Ws) := hMk.next fun E hE => bS.block E (hMk.lt E hE)
      have HSpS : Hid (Spared X W1 Ws) := hSp.trans (Spared.of_below bS)
      have bnS : Below n₀ W1 Ws := bn.trans (bS.mono (by omega))
      have hkl : (kidsB N l D i (L.take k)).length = k * 16 := by
        unfold kidsB
        rw [kidsOf_len, List.length_take, HML.out, Nat.min_eq_left (by omega)]
      have HKL : Hid ((kidsB N l D i (L.take k)).length = k * 16) := hkl
      clear hkl hJs hO hSp hMk yy yh yd bn
      refine wpIn_rangeFunc_ownH rfl hn1 (gf := 72) (lb := #[.pointer (some ⟨wr.heap.size + 1, 0, none⟩), .pointer (some ⟨wr.heap.size + 1 + 1, 0, none⟩)]) rfl trivial (enters_of Tryd.func72 (by kernel_rfl) rfl)
        (children_stops (9 - 1) (by omega) (wr.heap.size + 1) (wr.heap.size + 1 + 1) b off N cap l p HP.out i s hi hs M hM0' (by omega) n₀ Ws (by omega) yq yp (HS1.out.below bnS))
        KpB.trans (KpB.turn (by omega) (by omega) (by omega)) (Below.refl _ _) (fun _ => rfl)
        (fun pre W' => (∃ xs' : List Rs, J xs' W' ∧ OwnRns n₁ W' (xs'.map toRn) (kidsB N l D i (L.take k) ++ pre.map fun j : Nat => kidB N l D i ((s : Int), M, nsc, ps) (j : Int))) ∧ Spared X Ws W')
        (fun _ _ _ => False)
        (fun pre A C row hs hg hr => ⟨by
            obtain ⟨⟨xs', h1, h2⟩, h3⟩ := hs
            refine ⟨xs', HJ.out _ _ _ h1 ⟨hg.os, hg.tape, hg.output, hg.size, fun j hj => hg.block j (by have := h3.size; omega) (fun e => by have := (hr j e.symm).1; omega)⟩, ownRns_own h2 hg (fun g e => (hr g e).2)⟩, ownFrom_spared (Nat.le_refl _) pre A C row hs.2 hg hr⟩)
        (fun _ _ _ _ _ hs _ _ => hs)
        ⟨⟨xs, HJS, by rw [List.map_nil, List.append_nil]; exact HOS⟩, Spared.refl _ _⟩
        (fun j a' W' => ∃ Bc, n₁ ≤ Bc ∧ Box W' Bc 66 #[.int .i64 ((i + 1 : Nat) : Int), .int .u32 ((stepN s j : Nat) : Int), .int .i64 (M + ((costN (stepN s j) (ofL N l i) : Nat) : Int))] ∧ a' = { tmps := #[.func (.yield lo) #[] #[], .pointer (some ⟨Bl, 0, none⟩), .pointer (some ⟨Bh, 0, none⟩), .pointer (some ⟨Bd, 0, none⟩), .pointer (some ⟨n₁, 0, none⟩), undef, .pointer (some ⟨wr.heap.size, 0, none⟩), .int .i64 (j : Int), .pointer (some ⟨Bc, 0, none⟩), u9, .slice (some ⟨lb, lof, none⟩) m lc, .int .i64 (m : Int), .int .i64 (k : Int), .bool true, .pointer (some ⟨lb, lof + k * 4, none⟩), .agg #[.int .u32 (s : Int), .int .i64 M, .int .i64 nsc, .slice pa i pc], .slice (some ⟨b, off, none⟩) N cap, .pointer (some ⟨wr.heap.size, 3, none⟩), .slice pa i pc, .int .i64 (i : Int), .pointer (some ⟨wr.heap.size, 0, none⟩), .int .u32 (s : Int), .pointer (some ⟨wr.heap.size, 1, none⟩), .int .i64 M, .agg #[.int .i64 (i : Int), .int .u32 (s : Int), .int .i64 M], .func (.func 72) #[] #[.pointer (some ⟨wr.heap.size + 1, 0, none⟩), .pointer (some ⟨wr.heap.size + 1 + 1, 0, none⟩)], .int .i64 (j : Int), kidPt N l i s M j, u28, u29, u30, u31, u32, u33, u34, u35, u36, u37, u38, u39, u40, u41, u42, u43, u44, u45, u46, u47], defers := [] })
        ?hAx ?assign ?body ?done ?stop
      case hAx =>
        rintro j a' u Y Z row ⟨Bc, h1, h2, h3⟩ hg hr
        exact ⟨Bc, h1, box_own Bc _ (fun _ : Unit => _) u Y Z row h2 hg (fun r e => (hr r e).2), h3⟩
      case assign =>
        rintro lp pre j W' K ⟨⟨xs', h1, h2⟩, h3⟩ hK
        have hsW := h3.size
        have bA := (Below.refl W'.heap.size W').alloc (Nat.le_refl _) (.cells #[.int .i64 ((i + 1 : Nat) : Int), .int .u32 ((stepN s j : Nat) : Int), .int .i64 (M + ((costN (stepN s j) (ofL N l i) : Nat) : Int))] 66)
        simp only [kidEnc, kidPt]
        gi_wp2
        exact hK _ _ ((KeepsOthers.alloc _ _).from _) (KpB.of_below bA (by omega) (by omega) (by omega)) ⟨⟨xs', HJ.out _ _ _ h1 (bA.mono (by omega)), h2.below bA (Nat.le_refl _)⟩, h3.trans (Spared.of_below bA)⟩ ⟨W'.heap.size, by omega, Box.new W' _ _, rfl⟩
      case body =>
        rintro lp pre j a' W' hlo ⟨r, hr⟩ ⟨⟨xs', h1, h2⟩, h3⟩ ⟨Bc, hBc, yx, rfl⟩ hlt16
        have hsW := h3.size
        have vn : Box W' wr.heap.size 34 #[.int .u32 (s : Int), .int .i64 M, .int .i64 nsc, .slice pa i pc] := h3.heap (hXn _ (by omega)) yn
        have vy : Box W' n₁ 89 #[.func (.yield lo) #[] #[]] := h3.heap (hXn _ (Nat.le_refl _)) zy
        have vh : Box W' Bh 62 #[.slice (some ⟨b, off, none⟩) N cap] := h3.heap hXh zh
        have vd : Box W' Bd 3 #[.int .i64 (D1 : Int)] := h3.heap hXd zd
        have bnW : Below n₀ W1 W' := bnS.trans (h3.below (fun j hj hx => by have := hX0 j hx; omega) (by omega))
        have cn3 := vn.cell 3 _ rfl
        have bA : Below W'.heap.size W' ((W'.alloc (.cells #[.int .i64 (j : Int)] 3)).alloc (.cells #[.slice pa i pc, .slice (some ⟨W'.heap.size, 0, none⟩) 1 1] 25)) := ((Below.refl W'.heap.size W').alloc (Nat.le_refl _) _).alloc (by simp) _
        have xg : Box ((W'.alloc (.cells #[.int .i64 (j : Int)] 3)).alloc (.cells #[.slice pa i pc, .slice (some ⟨W'.heap.size, 0, none⟩) 1 1] 25)) (W'.heap.size + 1) 25 #[.slice pa i pc, .slice (some ⟨W'.heap.size, 0, none⟩) 1 1] := by
          have := Box.new (W'.alloc (.cells #[.int .i64 (j : Int)] 3)) 25 #[.slice pa i pc, .slice (some ⟨W'.heap.size, 0, none⟩) 1 1]
          simpa using this
        have xo : Box ((W'.alloc (.cells #[.int .i64 (j : Int)] 3)).alloc (.cells #[.slice pa i pc, .slice (some ⟨W'.heap.size, 0, none⟩) 1 1] 25)) W'.heap.size 3 #[.int .i64 (j : Int)] := (Box.new W' 3 _).alloc _
        have hsA : ((W'.alloc (.cells #[.int .i64 (j : Int)] 3)).alloc (.cells #[.slice pa i pc, .slice (some ⟨W'.heap.size, 0, none⟩) 1 1] 25)).heap.size = W'.heap.size + 2 := by simp
        have hps : Holds .i64 n₀ W' (.slice pa i pc) ps := HPV.out.below ((bS.mono (by omega)).trans (h3.below (fun j hj hx => by have := hX0 j hx; omega) (by omega)))
        have HCC : Hid (∀ WA : World, WA = ((W'.alloc (.cells #[.int .i64 (j : Int)] 3)).alloc (.cells #[.slice pa i pc, .slice (some ⟨W'.heap.size, 0, none⟩) 1 1] 25)) → CallsIn Fence.wide (9 - 1 - 1 - 1) Tryd.prog 61 #[.slice (some ⟨W'.heap.size + 1, 0, none⟩) 2 2] WA fun e V => ∃ ra rc, e = .returned (.slice ra (i + 1) rc) ∧ V.ownsRow WA.heap.size 3 1 (.slice ra (i + 1) rc) (i + 1) ((ps ++ [(j : Int)]).map (Value.int .i64)) ∧ Below WA.heap.size WA V) := by
          rintro WA rfl
          refine callsIn_wide.2 ?_
          have := concatInts_ok (W'.heap.size + 1) pa (some ⟨W'.heap.size, 0, none⟩) pc 1 ps [(j : Int)] (by have := HPL.out; omega) (by simp) (by simp) ((W'.alloc (.cells #[.int .i64 (j : Int)] 3)).alloc (.cells #[.slice pa i pc, .slice (some ⟨W'.heap.size, 0, none⟩) 1 1] 25)) (by rw [HPL.out]; exact xg.cell 0 _ rfl) (xg.cell 1 _ rfl) (by rw [HPL.out]; exact (hps.below (bA.mono (by omega))).mono (by rw [hsA]; omega)) (.inr ⟨W'.heap.size, 0, 1, rfl, by rw [hsA]; omega, fun t ht => by
            have ht0 : t = 0 := by simpa using ht
            subst ht0
            exact xo.cell 0 _ rfl⟩)
          refine this.mono ?_
          rintro e V ⟨rr, rfl, ho, hb⟩
          rw [HPL.out] at ho
          obtain ⟨ra, rc, rfl⟩ := rowN_shape ho
          exact ⟨ra, rc, rfl, ho, hb⟩
        have HC := CallsIn.inRound lp (HCC.out _ rfl)
        have f2 : Fence.wide.fn 61 := trivial
        have h12 : 1 ≤ 9 - 1 - 1 := by omega
        clear HCC hps
        gi_wp2_with (gi_at_call 61; refine HC.mono ?_; rintro e w2 ⟨ra, rc, rfl, o2, b2⟩)
        have bA2 : Below W'.heap.size W' w2 := bA.trans (b2.mono (by omega))
        have hst := stepN_lt s j
        have hcb := costB_le HP.out i (stepN s j)
        have HKE := kidB_eq (N := N) (l := l) (D := D) (i := i) (s := s) (k := j) (n := ((s : Int), M, nsc, ps)) rfl HPL.out
        obtain ⟨ct, hct⟩ : ∃ ct, costN (stepN s j) (ofL N l i) = ct := ⟨_, rfl⟩
        rw [hct] at HKE hcb yx
        obtain ⟨tt, htt⟩ : ∃ tt, stepN s j = tt := ⟨_, rfl⟩
        rw [htt] at HKE hst yx
        obtain ⟨I, hI⟩ : ∃ I, i + 1 = I := ⟨_, rfl⟩
        rw [hI] at HKE yx o2
        rw [hI]
        obtain ⟨V, hV⟩ : ∃ V, lst stB (coB N l) N D (tt : Int) I (M + (ct : Int)) = V := ⟨_, rfl⟩
        rw [hV] at HKE
        have HSC := (callsIn_wide (n := 9 - 1 - 1 - 1)).2 (score_ok b off N cap l p HP.out D hD I tt (by omega) hst (M + (ct : Int)) (by omega) (by omega) w2.drew ((HS1.out.below (bnW.trans (bA2.mono (by omega)))).mono (by have := bA2.size; show n₀ ≤ w2.heap.size; omega)))
        rw [hV, HD1.out] at HSC
        have HSC' := CallsIn.inRound lp HSC
        have hSS : Box w2.drew n₁ 89 #[.func (.yield lo) #[] #[]] ∧ Box w2.drew Bc 66 #[.int .i64 (I : Int), .int .u32 (tt : Int), .int .i64 (M + (ct : Int))] ∧ Box w2.drew Bh 62 #[.slice (some ⟨b, off, none⟩) N cap] ∧ Box w2.drew Bd 3 #[.int .i64 (D1 : Int)] := ⟨vy.next bA2.drew, yx.next bA2.drew, vh.next bA2.drew, vd.next bA2.drew⟩
        refine wpIn_region_held (fun u => Box u n₁ 89 #[.func (.yield lo) #[] #[]] ∧ Box u Bc 66 #[.int .i64 (I : Int), .int .u32 (tt : Int), .int .i64 (M + (ct : Int))] ∧ Box u Bh 62 #[.slice (some ⟨b, off, none⟩) N cap] ∧ Box u Bd 3 #[.int .i64 (D1 : Int)]) (by kernel_rfl) ?_
        change wpAnyHeld _ _ _ _ _ _ _ _ _ _ (World.drew _)
        refine wpAnyHeld_take (i := 0) (v := .func (.yield lo) #[] #[]) (plainOps_of (by kernel_rfl)) rfl (by kernel_rfl) (by kernel_rfl) (by kernel_rfl) (fun _ _ _ h => h) ⟨.inl ⟨by rfl, fun u hu => ?_⟩, fun _ => rfl⟩ hSS ?_
        · have g := hu.1.cell 0 _ rfl; go_simp
        refine wpAnyHeld_take (i := 1) (v := .pointer (some ⟨Bc, 1, none⟩)) (plainOps_of (by kernel_rfl)) rfl (by kernel_rfl) (by kernel_rfl) (by kernel_rfl) (fun _ _ _ h => h) ⟨.inl ⟨by rfl, fun u hu => ?_⟩, fun _ => rfl⟩ hSS ?_
        · go_simp
        refine wpAnyHeld_take (i := 2) (v := .int .u32 (tt : Int)) (plainOps_of (by kernel_rfl)) rfl (by kernel_rfl) (by kernel_rfl) (by kernel_rfl) (fun _ _ _ h => h) ⟨.inl ⟨by rfl, fun u hu => ?_⟩, fun _ => rfl⟩ hSS ?_
        · have g := hu.2.1.cell 1 _ rfl; go_simp
        refine wpAnyHeld_take (i := 3) (v := .pointer (some ⟨Bc, 2, none⟩)) (plainOps_of (by kernel_rfl)) rfl (by kernel_rfl) (by kernel_rfl) (by kernel_rfl) (fun _ _ _ h => h) ⟨.inl ⟨by rfl, fun u hu => ?_⟩, fun _ => rfl⟩ hSS ?_
        · go_simp
        refine wpAnyHeld_take (i := 4) (v := .int .i64 (M + (ct : Int))) (plainOps_of (by kernel_rfl)) rfl (by kernel_rfl) (by kernel_rfl) (by kernel_rfl) (fun _ _ _ h => h) ⟨.inl ⟨by rfl, fun u hu => ?_⟩, fun _ => rfl⟩ hSS ?_
        · have g := hu.2.1.cell 2 _ rfl; go_simp
        refine wpAnyHeld_take (i := 5) (v := .slice (some ⟨b, off, none⟩) N cap) (plainOps_of (by kernel_rfl)) rfl (by kernel_rfl) (by kernel_rfl) (by kernel_rfl) (fun _ _ _ h => h) ⟨.inl ⟨by rfl, fun u hu => ?_⟩, fun _ => rfl⟩ hSS ?_
        · have g := hu.2.2.1.cell 0 _ rfl; go_simp
        refine wpAnyHeld_take (i := 6) (v := .agg #[.int .i64 (I : Int), .int .u32 (tt : Int), .int .i64 (M + (ct : Int))]) (plainOps_of (by kernel_rfl)) rfl (by kernel_rfl) (by kernel_rfl) (by kernel_rfl) (fun _ _ _ h => h) ⟨.inl ⟨by rfl, fun u hu => ?_⟩, fun _ => rfl⟩ hSS ?_
        · have g := hu.2.1.cell 0 _ rfl; have g1 := hu.2.1.cell 1 _ rfl; have g2 := hu.2.1.cell 2 _ rfl; go_simp
        refine wpAnyHeld_take (i := 7) (v := .int .i64 (D1 : Int)) (plainOps_of (by kernel_rfl)) rfl (by kernel_rfl) (by kernel_rfl) (by kernel_rfl) (fun _ _ _ h => h) ⟨.inl ⟨by rfl, fun u hu => ?_⟩, fun _ => rfl⟩ hSS ?_
        · have g := hu.2.2.2.cell 0 _ rfl; go_simp
        refine wpAnyHeld_take (i := 9) (v := .slice ra I rc) (plainOps_of (by kernel_rfl)) rfl (by kernel_rfl) (by kernel_rfl) (by kernel_rfl) (fun _ _ _ h => h) ⟨.inl ⟨by rfl, fun u hu => ?_⟩, fun _ => rfl⟩ hSS ?_
        · go_simp
        refine wpAnyHeld_one (i := 8) (by kernel_rfl) rfl (by rfl) fun K hK => ?_
        have f3 : Fence.wide.fn 25 := trivial
        go_simp
        refine HSC'.mono ?_
        rintro e w3 ⟨rfl, b3⟩
        have b3' : Below W'.heap.size W' w3 := bA2.drew.trans (b3.mono (by have := bA2.size; show W'.heap.size ≤ w2.heap.size; omega))
        replace hSS : Box w3 n₁ 89 #[.func (.yield lo) #[] #[]] ∧ Box w3 Bc 66 #[.int .i64 (I : Int), .int .u32 (tt : Int), .int .i64 (M + (ct : Int))] ∧ Box w3 Bh 62 #[.slice (some ⟨b, off, none⟩) N cap] ∧ Box w3 Bd 3 #[.int .i64 (D1 : Int)] := ⟨hSS.1.next b3, hSS.2.1.next b3, hSS.2.2.1.next b3, hSS.2.2.2.next b3⟩
        refine hK _ _ hSS ?_
        clear hK
        obtain ⟨fn, tmps, assign, body, hy, hR⟩ := HY.out xs' ((tt : Int), M + (ct : Int), V, ra, I, rc) w3 (HJ.out _ _ _ h1 (b3'.mono (by omega))) (by
          have e1 := h2.1
          rw [List.length_map, List.length_append, HKL.out, List.length_map] at e1
          omega)
        simp only [rsEnc] at hy
        refine wpAnyHeld_take (i := 10) (v := .agg #[.int .u32 (tt : Int), .int .i64 (M + (ct : Int)), .int .i64 V, .slice ra I rc]) (plainOps_of (by kernel_rfl)) rfl (by kernel_rfl) (by kernel_rfl) (by kernel_rfl) (fun _ _ _ h => h) ⟨.inl ⟨by rfl, fun u hu => ?_⟩, fun _ => rfl⟩ hSS ?_
        · go_simp
        refine wpAnyHeld_one (i := 11) (by kernel_rfl) rfl (by rfl) fun K hK => ?_
        go_simp
        try rw [hy]
        try go_simp
        refine (round_wide hR).mono ?_
        rintro e W4 ⟨rfl, hJ4, hS4⟩
        have b3s := b3'.size
        replace hSS : Box W4 n₁ 89 #[.func (.yield lo) #[] #[]] ∧ Box W4 Bc 66 #[.int .i64 (I : Int), .int .u32 (tt : Int), .int .i64 (M + (ct : Int))] ∧ Box W4 Bh 62 #[.slice (some ⟨b, off, none⟩) N cap] ∧ Box W4 Bd 3 #[.int .i64 (D1 : Int)] := ⟨hS4.heap (hXn _ (Nat.le_refl _)) hSS.1, hS4.heap (hXn _ hBc) hSS.2.1, hS4.heap hXh hSS.2.2.1, hS4.heap hXd hSS.2.2.2⟩
        refine hK _ _ hSS ?_
        clear hK
        refine wpAnyHeld_take (i := 12) (v := .bool false) (plainOps_of (by kernel_rfl)) rfl (by kernel_rfl) (by kernel_rfl) (by kernel_rfl) (fun _ _ _ h => h) ⟨.inl ⟨by rfl, fun u hu => ?_⟩, fun _ => rfl⟩ hSS ?_
        · go_simp
        refine wpAnyHeld_done (by kernel_rfl) ?_ _
        have o3 := rowN_below o2 (show Below w2.heap.size w2 w3 from (Below.refl w2.heap.size w2).drew.trans b3) (Nat.le_refl _)
        have h2' := (h2.below b3' (Nat.le_refl _)).snoc (x := toRn ((tt : Int), M + (ct : Int), V, ra, I, rc)) (y := kidB N l D i ((s : Int), M, nsc, ps) (j : Int)) (by rw [HKE]; rfl) (by rw [HKE]; rfl) (by rw [HKE]; rfl) (by
          rw [HKE]
          show World.ownsRow _ _ _ _ _ (ps ++ [(j : Int)]).length _
          rw [show (ps ++ [(j : Int)]).length = I by rw [List.length_append, HPL.out, ← hI]; rfl]
          exact o3) (by omega) (fun u hu g hg => by have := h2.lt u hu g hg; omega)
        have h2'' : OwnRns n₁ W4 ((xs' ++ [((tt : Int), M + (ct : Int), V, ra, I, rc)]).map toRn) (kidsB N l D i (L.take k) ++ (pre ++ [j]).map fun j : Nat => kidB N l D i ((s : Int), M, nsc, ps) (j : Int)) := by
          rw [List.map_append, List.map_append, ← List.append_assoc]
          exact ownRns_spared h2' hS4 hXn
        have hSW : Spared X W' W4 := (Spared.of_below b3').trans hS4
        gi_wp2
        exact ⟨hSW.keeps (fun j hj => hXn j (by omega)), ⟨hSW.below (fun j hj hx => by have := hX0 j hx; omega) (by omega), hSW.block _ (by omega) (hXn _ (by omega)), hSW.block _ (by omega) (hXn _ (by omega))⟩, ⟨_, hJ4, h2''⟩, h3.trans hSW⟩
      case done =>
        rintro E ys W' hE rfl ⟨⟨xs', h1, h2⟩, h3⟩ hK
        have hrg : (List.range 16).map (fun j : Nat => kidB N l D i ((s : Int), M, nsc, ps) (j : Int)) = nib16.map (kidB N l D i ((s : Int), M, nsc, ps)) := by unfold nib16; rw [List.map_map]; rfl
        rw [hrg, ← kidsB_snoc, ← HTK.out] at h2
        have hMk' : Marked (n₁ + 1) (E :: Ds) W' := (HMk.out.next fun F hF => h3.block F (HMk.out.lt F hF) (hXn F (by have := (HMk.out.2 F hF).1; omega))).cons hK (by omega) (fun hF => by have := HMk.out.lt E hF; omega)
        have hSp' := HSpS.out.trans h3
        clear hrg
        gi_wp2
        exact ⟨⟨_, _, _, _, _, _, _, _, _, _, _, _, _, _, _, _, _, _, _, _, _, _, _, _, _, _, _, _, _, _, _, _, _, _, _, _, _, _, _, k + 1, xs', E :: Ds, hlt, h1, h2, hSp', hMk', rfl⟩, by simp [intOf]; omega⟩
      case stop =>
        rintro E c pre W' _ _ h _
        exact h.elim
    · obtain rfl : k = m := by omega
      rw [List.take_of_length_le (by rw [HML.out]; exact Nat.le_refl _)] at hO
      gi_wp2
      exact leaves_marks (n₁ := n₁ + 1) (fun W => results_none rfl _ _ _) (fun W' => OwnRns n₁ W' (xs.map toRn) (kidsB N l D i L) ∧ J xs W') (fun W' E o h hn hE => ⟨ownRns_own h.1 (grownBy_putObj' W' E o) (fun g e => by cases e; exact ⟨_, hE, rfl⟩), HJ.out _ _ _ h.2 (below_putObj o (by omega))⟩) (fun W' h => ⟨⟨_, rfl⟩, xs, h⟩) Ds wr hMk ⟨hO, hJs⟩

end Go.Proofs.YtdnhnnidlangiabDoor

/-
  What beam's allChildren answers: all children of a list, with their Scores.
-/
namespace Go.Proofs.YtdnhnnidlangiabDoor
open Go.RowKit Go.Shelf
attribute [local go_sem] Oper.semAt_some

theorem infoNodeB : (Tryd.prog.info? 34).map (fun i => (i.zero, i.size, i.bytes)) = some (some (.agg #[.int .u32 0, .int .i64 0, .int .i64 0, .slice none 0 0]), 4, 48) := by kernel_rfl

theorem spared_append {X : Nat → Prop} {W w5 : World} {tmp : Obj} {g B : Nat} {v' : Value} (hgrow : (W.alloc tmp).grownBy w5 (some g)) (hg : X g) (hB : X B) : Spared X W (w5.setCell ⟨B, 0, none⟩ v') := by
  refine ⟨hgrow.os, hgrow.tape, hgrow.output, ?_, fun k hk hx => ?_⟩
  · have h1 := hgrow.size
    have h2 : (w5.setCell ⟨B, 0, none⟩ v').heap.size = w5.heap.size := by simp [World.setCell]
    rw [h2]
    simp at h1
    omega
  · rw [Below.heap_setCell _ _ _ _ (fun e => hx (by rw [show k = B from e]; exact hB))]
    exact (hgrow.block k (by simp; omega) (fun e => hx (by cases e; exact hg))).trans (Below.heap_alloc W tmp k hk)
theorem row_at {A B : World} {base e size n cap k g : Nat} {xs : List Value} (h : A.ownsRow base e size (.slice (some ⟨g, 0, none⟩) n cap) k xs) (hb : B.heap[g]? = A.heap[g]?) : B.ownsRow base e size (.slice (some ⟨g, 0, none⟩) n cap) k xs := by
  refine ⟨h.1, ?_⟩
  rcases h.2 with h0 | ⟨g', cap', cur, hv, hbs, hg, hk, hm, hs, ht⟩
  · exact .inl h0
  · cases hv
    exact .inr ⟨g, cap, cur, rfl, hbs, hb.trans hg, hk, hm, hs, ht⟩
theorem OwnRns.base {b b' : Nat} {W : World} {r : List Rn} {l : List Nd} (h : OwnRns b W r l) (hb : b' ≤ b) : OwnRns b' W r l := ⟨h.1, fun j x y hx hy => by obtain ⟨h1, h2, h3, h4⟩ := h.2.1 j x y hx hy; exact ⟨h1, h2, h3, rowN_base h4 hb⟩, h.2.2⟩
theorem rnCells_snoc' (xs : List Rs) (x : Rs) : rnCells ((xs ++ [x]).map toRn) = rnCells (xs.map toRn) ++ [.int .u32 x.1, .int .i64 x.2.1, .int .i64 x.2.2.1, .slice x.2.2.2.1 x.2.2.2.2.1 x.2.2.2.2.2] := by
  rw [List.map_append, List.map_cons, List.map_nil, rnCells_snoc]
  rfl

set_option maxHeartbeats 400000 in
theorem nodes_in (n : Nat) (v u : Value) (hv : SliceV v) (hu : SliceV u) (d : Int) (w : World) : CallsIn Fence.wide n Tryd.prog 46 #[v, u, .int .i64 d] w fun e w' => e = .returned (.func (.func 60) #[] #[.pointer (some ⟨w.heap.size + 1, 0, none⟩), .pointer (some ⟨w.heap.size, 0, none⟩), .pointer (some ⟨w.heap.size + 1 + 1, 0, none⟩)]) ∧ w' = ((w.alloc (.cells #[v] 62)).alloc (.cells #[u] 41)).alloc (.cells #[.int .i64 d] 3) := by
  obtain ⟨a, k, c, rfl⟩ := hv
  obtain ⟨a', k', c', rfl⟩ := hu
  refine callsIn_of_wp Tryd.func46 rfl trivial ?_ rfl
  simp only [Tryd.ntmps46, List.size_toArray, List.length_cons, List.length_nil, Nat.reduceAdd, Nat.reduceSub, Array.replicate_succ, Array.replicate_zero, List.push_toArray, List.append_toArray, List.nil_append, List.cons_append]
  gi_wp2
  go_ret
  exact ⟨rfl, rfl⟩

set_option maxRecDepth 100000 in
set_option maxHeartbeats 4000000 in
theorem allChildren_ok (b off N cap : Nat) (l : List (Int × Int)) (p : Int) (hp : PileOk (N : Int) p l) (D : Nat) (hD : D ≤ 2) (i : Nat) (hi : i < N) (L : List Nd) (m : Nat) (hm : L.length = m) (hm1 : 1 ≤ m) (hm16 : m ≤ 16) (la : Option Addr) (lc : Nat)
    (hLn : ∀ n ∈ L, (∃ s : Nat, s < 4294967296 ∧ n.1 = (s : Int)) ∧ 0 ≤ n.2.1 ∧ n.2.1 ≤ 8192 * (i : Int) ∧ n.2.2.2.length = i) (w : World)
    (hS : Segs w.heap.size w (.slice (some ⟨b, off, none⟩) N cap) (segsL N l)) (hLN : Nodes w.heap.size w (.slice la m lc) L) :
    Calls Tryd.prog 29 #[.slice (some ⟨b, off, none⟩) N cap, .slice la m lc, .int .i64 ((D + 1 : Nat) : Int)] w fun e W' => ∃ r, e = .returned r ∧ Nodes W'.heap.size W' r (kidsB N l D i L) ∧ Below w.heap.size w W' := by
  refine (callsIn_wide (n := 9)).1 ?_
  obtain ⟨i0, hi0, hz0, hz1, hz2⟩ := info_parts infoNodeB
  obtain ⟨M, hM⟩ : ∃ M, m * 16 = M := ⟨_, rfl⟩
  have e16 : (16 : Int) * (m : Int) = (M : Int) := by omega
  have hM2 : M ≤ 256 := by omega
  have hM1 : 1 ≤ M := by omega
  have hn1 : (1 : Nat) ≤ 9 := by omega
  obtain ⟨D1, hD1⟩ : ∃ D1, D + 1 = D1 := ⟨_, rfl⟩
  rw [hD1]
  have HD1 : Hid (D + 1 = D1) := hD1
  have f1 : Fence.wide.fn 46 := trivial
  have HP : Hid (PileOk (N : Int) p l) := hp
  have HM : Hid (m * 16 = M) := hM
  have HML : Hid (L.length = m) := hm
  have HLn : Hid (∀ n ∈ L, (∃ s : Nat, s < 4294967296 ∧ n.1 = (s : Int)) ∧ 0 ≤ n.2.1 ∧ n.2.1 ≤ 8192 * (i : Int) ∧ n.2.2.2.length = i) := hLn
  have HS : Hid (Segs w.heap.size w (.slice (some ⟨b, off, none⟩) N cap) (segsL N l)) := hS
  have HLN : Hid (Nodes w.heap.size w (.slice la m lc) L) := hLN
  clear hp hM hm hLn hS hLN hD1
  refine callsIn_of_wp_marks Tryd.func29 rfl trivial ?_ rfl
  simp only [Tryd.ntmps29, List.size_toArray, List.length_cons, List.length_nil, Nat.reduceAdd, Nat.reduceSub, Array.replicate_succ, Array.replicate_zero, List.push_toArray, List.append_toArray, List.nil_append, List.cons_append]
  gi_wp2_with (first | (gi_at_make; refine wpListIn_make_own _ rfl _ _ 41 rfl w.heap.size 34 i0 (.agg #[.int .u32 0, .int .i64 0, .int .i64 0, .slice none 0 0]) 4 Tryd.underlying41 hi0 hz0 hz1 .i64 .i64 _ M rfl rfl (by omega) (by rw [hz2]; omega) (by unfold maxLen; omega) (Nat.le_refl _) ?_; intro w1 hown1 hgrow1) | (gi_at_call 46; refine (nodes_in (9 - 1) _ _ ⟨_, _, _, rfl⟩ ⟨_, _, _, rfl⟩ _ _).mono ?_; rintro e w2 ⟨rfl, rfl⟩))
  have hg0 : w.heap.size < w1.heap.size := (hown1.lt w.heap.size rfl).2
  have hB01 : Below w.heap.size w w1 := (Below.refl _ w).grown hgrow1 (Nat.le_refl _) (fun k e => by cases e)
  have bO : Box ((((w1.alloc (.cells #[.slice (some ⟨w.heap.size, 0, none⟩) 0 M] 41)).alloc (.cells #[.slice (some ⟨b, off, none⟩) N cap] 62)).alloc (.cells #[.slice la m lc] 41)).alloc (.cells #[.int .i64 (D1 : Int)] 3)) w1.heap.size 41 #[.slice (some ⟨w.heap.size, 0, none⟩) 0 M] := (((Box.new w1 41 _).alloc _).alloc _).alloc _
  have bH := ((Box.new (w1.alloc (.cells #[.slice (some ⟨w.heap.size, 0, none⟩) 0 M] 41)) 62 #[.slice (some ⟨b, off, none⟩) N cap]).alloc (.cells #[.slice la m lc] 41)).alloc (.cells #[.int .i64 (D1 : Int)] 3)
  have bL := (Box.new ((w1.alloc (.cells #[.slice (some ⟨w.heap.size, 0, none⟩) 0 M] 41)).alloc (.cells #[.slice (some ⟨b, off, none⟩) N cap] 62)) 41 #[.slice la m lc]).alloc (.cells #[.int .i64 (D1 : Int)] 3)
  have bD := Box.new (((w1.alloc (.cells #[.slice (some ⟨w.heap.size, 0, none⟩) 0 M] 41)).alloc (.cells #[.slice (some ⟨b, off, none⟩) N cap] 62)).alloc (.cells #[.slice la m lc] 41)) 3 #[.int .i64 (D1 : Int)]
  simp only [World.size_alloc] at bH bL bD
  have b10 : Below w1.heap.size w1 ((((w1.alloc (.cells #[.slice (some ⟨w.heap.size, 0, none⟩) 0 M] 41)).alloc (.cells #[.slice (some ⟨b, off, none⟩) N cap] 62)).alloc (.cells #[.slice la m lc] 41)).alloc (.cells #[.int .i64 (D1 : Int)] 3)) := ((((Below.refl w1.heap.size w1).alloc (Nat.le_refl _) _).alloc (by simp) _).alloc (by simp; omega) _).alloc (by simp; omega) _
  have hsz : ((((w1.alloc (.cells #[.slice (some ⟨w.heap.size, 0, none⟩) 0 M] 41)).alloc (.cells #[.slice (some ⟨b, off, none⟩) N cap] 62)).alloc (.cells #[.slice la m lc] 41)).alloc (.cells #[.int .i64 (D1 : Int)] 3)).heap.size = w1.heap.size + 4 := by simp
  obtain ⟨W0, hW0⟩ : ∃ W0, (((w1.alloc (.cells #[.slice (some ⟨w.heap.size, 0, none⟩) 0 M] 41)).alloc (.cells #[.slice (some ⟨b, off, none⟩) N cap] 62)).alloc (.cells #[.slice la m lc] 41)).alloc (.cells #[.int .i64 (D1 : Int)] 3) = W0 := ⟨_, rfl⟩
  rw [hW0] at bO bH bL bD b10 hsz ⊢
  clear hW0
  have hB00 : Below w.heap.size w W0 := hB01.trans (b10.mono (by omega))
  have hrow0 : W0.ownsRow w.heap.size 34 4 (.slice (some ⟨w.heap.size, 0, none⟩) 0 M) 0 [] := rowN_below hown1 b10 (Nat.le_refl _)
  clear hown1 hgrow1 hB01
  refine wpIn_rangeFunc_all (α := Rs) (encs := rsEnc) (N := M) (X := fun k => k = w.heap.size ∨ k = w1.heap.size) rfl hn1 (gf := 60) (lb := #[.pointer (some ⟨w1.heap.size + 1 + 1, 0, none⟩), .pointer (some ⟨w1.heap.size + 1, 0, none⟩), .pointer (some ⟨w1.heap.size + 1 + 1 + 1, 0, none⟩)]) rfl trivial (enters_of Tryd.func60 (by kernel_rfl) rfl)
    (fun k hk => by rcases hk with rfl | rfl <;> omega) (fun _ => rfl)
    (fun pre W => Box W w1.heap.size 41 #[.slice (some ⟨w.heap.size, 0, none⟩) pre.length M] ∧ W.ownsRow w.heap.size 34 4 (.slice (some ⟨w.heap.size, 0, none⟩) pre.length M) pre.length (rnCells (pre.map toRn)) ∧ Below w.heap.size W0 W)
    (fun s A B h hb => ⟨h.1.below hb (by omega), row_at h.2.1 (hb.block _ (by omega)), h.2.2.trans (hb.mono (by omega))⟩)
    ⟨bO, hrow0, Below.refl _ _⟩
    (fun xs W => OwnRns W0.heap.size W (xs.map toRn) (kidsB N l D i L))
    (fun xs W lo o o' h hl ho => ownRns_own h (grownBy_putObj' W lo o') (fun g e => by cases e; exact ⟨_, hl, ho⟩))
    ?seq
    (fun x a' W => ∃ Bx, w1.heap.size < Bx ∧ Box W Bx 34 #[.int .u32 x.1, .int .i64 x.2.1, .int .i64 x.2.2.1, .slice x.2.2.2.1 x.2.2.2.2.1 x.2.2.2.2.2] ∧ a' = { tmps := #[.slice (some ⟨b, off, none⟩) N cap, .slice la m lc, .int .i64 (D1 : Int), undef, undef, undef, .slice none 0 0, .pointer (some ⟨w1.heap.size, 0, none⟩), .pointer (some ⟨Bx, 0, none⟩), .slice la m lc, .int .i64 (m : Int), .int .i64 (M : Int), .slice (some ⟨w.heap.size, 0, none⟩) 0 M, .slice (some ⟨b, off, none⟩) N cap, .slice la m lc, .int .i64 (D1 : Int), .func (.func 60) #[] #[.pointer (some ⟨w1.heap.size + 1 + 1, 0, none⟩), .pointer (some ⟨w1.heap.size + 1, 0, none⟩), .pointer (some ⟨w1.heap.size + 1 + 1 + 1, 0, none⟩)], .agg #[.int .u32 x.1, .int .i64 x.2.1, .int .i64 x.2.2.1, .slice x.2.2.2.1 x.2.2.2.2.1 x.2.2.2.2.2], undef, undef, undef, undef, undef], defers := [] })
    (fun x a' W lo o o' h hl ho => by
      obtain ⟨Bx, h1, h2, h3⟩ := h
      exact ⟨Bx, h1, box_own Bx _ (fun _ : Unit => _) () W _ (some lo) h2 (grownBy_putObj' W lo o') (fun r e => by cases e; exact ⟨_, hl, ho⟩), h3⟩)
    ?assign ?body ?done
  case seq =>
    intro W1 J hb hs1 hJ hY h0
    refine (nodes1_in (9 - 1) _ (W0.heap.size + 1) (w1.heap.size + 1 + 1) (w1.heap.size + 1) (w1.heap.size + 1 + 1 + 1) b off N cap l p HP.out D hD i hi L m HML.out hm16 la lc w.heap.size W1.heap.size (fun k => (k = w.heap.size ∨ k = w1.heap.size) ∨ k = W0.heap.size + 1) HLn.out J hJ (fun pre x W h hl => hY pre x W h (by rw [← HM.out]; exact hl)) (fun k hk => by rcases hk with (rfl | rfl) | rfl <;> omega) (fun k hk => by rcases hk with (rfl | rfl) | rfl <;> omega) (by omega) (by omega) W1 rfl (by omega) (bL.below hb (by omega)) (bH.below hb (by omega)) (by rw [HD1.out]; exact bD.below hb (by omega)) ((HS.out.below hB00).below (hb.mono (by omega))) ((HLN.out.below hB00).below (hb.mono (by omega))) h0).mono ?_
    rintro e W' ⟨hv, xs, h1, h2⟩
    exact ⟨hv, xs, h1.base (by omega), h2⟩
  case assign =>
    rintro lo pre x W K ⟨h1, h2, h3⟩ hK
    have hsW := h3.size
    have bA := (Below.refl W.heap.size W).alloc (Nat.le_refl _) (.cells #[.int .u32 x.1, .int .i64 x.2.1, .int .i64 x.2.2.1, .slice x.2.2.2.1 x.2.2.2.2.1 x.2.2.2.2.2] 34)
    simp only [rsEnc]
    gi_wp2
    exact hK _ _ (Spared.of_below bA) ⟨h1.alloc _, row_at h2 (bA.block _ (by omega)), h3.trans (bA.mono (by omega))⟩ ⟨W.heap.size, by omega, Box.new W _ _, rfl⟩
  case body =>
    rintro lo pre x a' W hsW ⟨h1, h2, h3⟩ ⟨Bx, hBx, yx, rfl⟩ hlt
    have hsz3 := h3.size
    have hc := h1.cell 0 _ rfl
    have k0 := yx.cell 0 _ rfl
    have k1 := yx.cell 1 _ rfl
    have k2 := yx.cell 2 _ rfl
    have k3 := yx.cell 3 _ rfl
    have HXC : Hid (rnCells ((pre ++ [x]).map toRn) = rnCells (pre.map toRn) ++ [.int .u32 x.1, .int .i64 x.2.1, .int .i64 x.2.2.1, .slice x.2.2.2.1 x.2.2.2.2.1 x.2.2.2.2.2]) := rnCells_snoc' pre x
    have hvb : Boxed W w1.heap.size 41 (.slice (some ⟨w.heap.size, 0, none⟩) pre.length M) := h1
    gi_wp2_with (gi_at_builtin; refine wpListIn_append_fits _ rfl _ _ 41 rfl w.heap.size 34 i0 4 Tryd.underlying41 hi0 hz1 w.heap.size pre.length M (rnCells (pre.map toRn)) rfl (h2.alloc _) ⟨W.heap.size, 0, none⟩ 1 1 [.int .u32 x.1, .int .i64 x.2.1, .int .i64 x.2.2.1, .slice x.2.2.2.1 x.2.2.2.2.1 x.2.2.2.2.2] rfl rfl (World.news_of_block (World.alloc_heap_new _ _)) (by simp [Value.oneCell']) (by omega) ?_; intro w5 hown' hgrow; obtain ⟨hv1, hv2, hr2, hk2, hb2⟩ := hvb.appended (by decide) h2 (by omega) (by omega) hown' hgrow; have hc1 := hv1.cell; have hf1 := hv1.frozen)
    refine ⟨spared_append hgrow (.inl rfl) (.inr rfl), ?_, ?_, h3.trans hb2⟩
    · rw [List.length_append]
      exact hv2
    · rw [List.length_append, HXC.out]
      exact hr2
  case done =>
    rintro E xs W hE hO ⟨h1, h2, h3⟩ hK
    have hc := h1.cell 0 _ rfl
    have hO' := ownRns_own hO (grownBy_putObj' W E (.deferred none)) (fun g e => by cases e; exact ⟨_, hK, rfl⟩)
    have h2' := ownsRow_putObj h2 (.deferred none) hK rfl
    have hB' := (hB00.trans h3).trans (below_putObj (l := E) (W := W) (.deferred none) (by omega))
    gi_wp2
    refine ⟨by simp, .inl ⟨_, _, rfl, run_takeDeferred hK, ?_⟩⟩
    exact ⟨_, results_tmp rfl _ _ _, _, rfl, ⟨xs.map toRn, raw_of_row h2', hO'.rns⟩, hB'⟩

end Go.Proofs.YtdnhnnidlangiabDoor

/-
  What beam.Walk answers: the list at the end of the walk, and the cut.
-/
namespace Go.Proofs.YtdnhnnidlangiabDoor
open Go.RowKit

/-- The slice v holds these nodes; no path is longer than its room. -/
def NodesC (n₀ : Nat) (W : World) (v : Value) (l : List Nd) : Prop := ∃ r, Raw n₀ W v r ∧ RnsOf n₀ W r l ∧ ∀ x ∈ r, ∃ a n c, x.2.2.2 = Value.slice a n c ∧ n ≤ c
theorem NodesC.nodes {n₀ : Nat} {W : World} {v : Value} {l : List Nd} (h : NodesC n₀ W v l) : Nodes n₀ W v l := by obtain ⟨r, h1, h2, _⟩ := h; exact ⟨r, h1, h2⟩
theorem NodesC.next {W W' : World} {v : Value} {l : List Nd} (h : NodesC W.heap.size W v l) (hb : Below W.heap.size W W') : NodesC W'.heap.size W' v l := by obtain ⟨r, h1, h2, h3⟩ := h; exact ⟨r, (h1.below hb).mono hb.size, (h2.below hb).mono hb.size, h3⟩
theorem OwnNodes.nodesC {base : Nat} {W : World} {v : Value} {l : List Nd} (h : OwnNodes base W v l) : NodesC W.heap.size W v l := by
  obtain ⟨r, h1, h2⟩ := h
  refine ⟨r, raw_of_row h1, h2.rns, fun x hx => ?_⟩
  obtain ⟨j, hj, e⟩ := List.getElem_of_mem hx
  have hjl : j < l.length := by rw [← h2.1]; exact hj
  obtain ⟨_, _, _, h4⟩ := h2.2.1 j x (l[j]) (by rw [← e]; simp) (by simp)
  obtain ⟨a, c, e4⟩ := rowN_shape h4
  rw [e4] at h4
  exact ⟨_, _, _, e4, rowN_cap h4⟩
theorem NodesC.cap {n₀ : Nat} {W : World} {v : Value} {l : List Nd} (h : NodesC n₀ W v l) {n cap : Nat} {a : Option Addr} (hv : v = .slice a n cap) (hl : l.length = n) (h0 : 0 < n) : ∃ b off, a = some ⟨b, off, none⟩ ∧ ∀ (j : Nat) (y : Nd), l[j]? = some y →
      ∃ pa pc, y.2.2.2.length ≤ pc ∧ Holds .i64 n₀ W (.slice pa y.2.2.2.length pc) y.2.2.2 ∧ W.cell? ⟨b, off + j * 4 + 1, none⟩ = some (.int .i64 y.2.1) ∧ W.cell? ⟨b, off + j * 4 + 3, none⟩ = some (.slice pa y.2.2.2.length pc) := by
  obtain ⟨r, h1, h2, h3⟩ := h
  subst hv
  obtain ⟨b, off, rfl, _, hc⟩ := raw_at h1 (h2.1.trans hl) h0
  refine ⟨b, off, rfl, fun j y hy => ?_⟩
  obtain ⟨p, hp, hh⟩ := h2.get hy
  obtain ⟨pa, pn, pc, e, hle⟩ := h3 _ (List.mem_of_getElem? hp)
  obtain ⟨pa', pc', e'⟩ := hh.shape
  have e'' : p = .slice pa pn pc := e
  have hcc := hc j _ hp
  rw [e'] at hh hcc
  rw [e'] at e''
  cases e''
  exact ⟨_, _, hle, hh, hcc.2.1, hcc.2.2.2⟩

set_option maxRecDepth 100000 in
set_option maxHeartbeats 4000000 in
theorem Walk_ok (N : Nat) (p : Int) (a : Option Addr) (cap : Nat) (l : List (Int × Int)) (hp : PileOk (N : Int) p l) (b : Nat) (hb1 : 1 ≤ b) (hb2 : b ≤ 16) (D : Nat) (hD : D ≤ 2) (w : World) (ha : Syms w.heap.size w (.slice a l.length cap) l) (hF : Firsts w) :
    Calls Tryd.prog 14 #[.agg #[.int .i64 N, .int .i64 p, .slice a l.length cap], .int .i64 (b : Int), .int .i64 ((D + 1 : Nat) : Int)] w fun e W' => ∃ r, e = .returned (.tuple #[r, .int .i64 (walkB N l b D N).2, .int .i64 0]) ∧ NodesC W'.heap.size W' r (walkB N l b D N).1 ∧ Below w.heap.size w W' := by
  have hN1 : 1 ≤ N := by have := hp.1.1; omega
  have hN2 : N < 65 := by have := hp.1.2.1; omega
  have b1 : Below w.heap.size w (w.alloc (.cells #[.int .i64 N, .int .i64 p, .slice a l.length cap] 24)) := (Below.refl w.heap.size w).alloc (Nat.le_refl _) _
  have HP : Hid (PileOk (N : Int) p l) := hp
  have HBS := bySegment_ok N p a cap l hp _ (ha.next b1) (hF.next b1)
  have HAC : Hid (∀ (sb so scap i : Nat) (L : List Nd) (m : Nat) (la : Option Addr) (lc : Nat) (wx : World), i < N → L.length = m → 1 ≤ m → m ≤ 16 → (∀ n ∈ L, (∃ s : Nat, s < 4294967296 ∧ n.1 = (s : Int)) ∧ 0 ≤ n.2.1 ∧ n.2.1 ≤ 8192 * (i : Int) ∧ n.2.2.2.length = i) → Segs wx.heap.size wx (.slice (some ⟨sb, so, none⟩) N scap) (segsL N l) → Nodes wx.heap.size wx (.slice la m lc) L → Calls Tryd.prog 29 #[.slice (some ⟨sb, so, none⟩) N scap, .slice la m lc, .int .i64 ((D + 1 : Nat) : Int)] wx fun e W' => ∃ r, e = .returned r ∧ Nodes W'.heap.size W' r (kidsB N l D i L) ∧ Below wx.heap.size wx W') := fun sb so scap i L m la lc wx h1 h2 h3 h4 h5 h6 h7 => allChildren_ok sb so N scap l p hp D hD i h1 L m h2 h3 h4 la lc h5 wx h6 h7
  obtain ⟨D1, hD1⟩ : ∃ D1, D + 1 = D1 := ⟨_, rfl⟩
  rw [hD1] at HAC ⊢
  have g1 : decide ((b : Int) < 1) = false := decide_eq_false (by omega)
  have g2 : decide ((16 : Int) < (b : Int)) = false := decide_eq_false (by omega)
  have g2' : decide (16 < b) = false := decide_eq_false (by omega)
  have g1' : decide (b < 1) = false := decide_eq_false (by omega)
  have HID := isDepth_yes (D1 : Int) (by omega) (by omega)
  clear hp ha hF hD1
  go_enter Tryd.func14, Tryd.ntmps14
  go_wp2
  go_step3
  go_wp2_with fail
  refine HBS.mono ?_
  rintro e w2 ⟨r, rfl, hSg, b2⟩
  clear HBS
  obtain ⟨sb, so, scap, e3, hsb⟩ := hSg.shape
  rw [segsL_len] at e3
  subst e3
  have bb2 := b1.trans (b2.mono b1.size)
  clear b1 b2
  go_wp2_with fail
  refine (HID w2).mono ?_
  rintro e wz ⟨rfl, rfl⟩
  go_wp2_with fail
  refine (root_any w2).mono ?_
  rintro e w3 ⟨rfl, b3⟩
  have bb3 := bb2.trans (b3.mono bb2.size)
  have b4 : Below w3.heap.size w3 (w3.alloc (.cells #[.int .u32 (beginN : Int), .int .i64 0, .int .i64 0, .slice none 0 0] 34)) := (Below.refl _ _).alloc (Nat.le_refl _) _
  have hR : NodesC (w3.alloc (.cells #[.int .u32 (beginN : Int), .int .i64 0, .int .i64 0, .slice none 0 0] 34)).heap.size (w3.alloc (.cells #[.int .u32 (beginN : Int), .int .i64 0, .int .i64 0, .slice none 0 0] 34)) (.slice (some ⟨w3.heap.size, 0, none⟩) 1 1) [((beginN : Int), 0, 0, [])] := by
    refine ⟨[((beginN : Int), 0, 0, .slice none 0 0)], raw_of_row (base := 0) (k := 1) (e := 34) ⟨rfl, .inr ⟨w3.heap.size, 1, #[.int .u32 (beginN : Int), .int .i64 0, .int .i64 0, .slice none 0 0], rfl, Nat.zero_le _, World.alloc_heap_new _ _, Nat.le_refl _, by unfold maxLen; omega, rfl, rfl⟩⟩, (rnsOf_nil _ _).snoc (x := ((beginN : Int), 0, 0, .slice none 0 0)) (y := ((beginN : Int), 0, 0, [])) ⟨rfl, rfl, rfl, .inl ⟨⟨_, _, rfl, fun _ => rfl⟩, rfl⟩⟩, fun x hx => ⟨none, 0, 0, by simp at hx; rw [hx], Nat.le_refl _⟩⟩
  have HS4 : Hid (Segs (w3.alloc (.cells #[.int .u32 (beginN : Int), .int .i64 0, .int .i64 0, .slice none 0 0] 34)).heap.size (w3.alloc (.cells #[.int .u32 (beginN : Int), .int .i64 0, .int .i64 0, .slice none 0 0] 34)) (.slice (some ⟨sb, so, none⟩) N scap) (segsL N l)) := (hSg.next b3).next b4
  have bb4 := bb3.trans (b4.mono bb3.size)
  have hfd : Sem.run Tryd.prog (Instr.field 66 (.agg #[.int .i64 0, .int .u32 (beginN : Int), .int .i64 0]) 1) w3 = .ok (.int .u32 (beginN : Int)) w3 := rfl
  clear hSg b3 b4 bb2 bb3
  go_wp2
  clear hfd
  go_step3
  go_wp2
  obtain ⟨W4, hW4⟩ : ∃ W, w3.alloc (.cells #[.int .u32 (beginN : Int), .int .i64 0, .int .i64 0, .slice none 0 0] 34) = W := ⟨_, rfl⟩
  rw [hW4] at bb4 hR HS4 ⊢
  clear hW4
  go_loopw [6, 7, 38] (fun s9 s10 s11 wr => ∃ i : Nat, i ≤ N ∧ s11 = .int .i64 i ∧ s10 = .int .i64 (walkB N l b D i).2 ∧ NodesC wr.heap.size wr s9 (walkB N l b D i).1 ∧ Below W4.heap.size W4 wr) (fun _ _ i _ => N - (intOf i).toNat)
  case atStart => exact ⟨0, Nat.zero_le _, rfl, rfl, hR, Below.refl _ _⟩
  case round =>
    obtain ⟨i, hi, rfl, rfl, hL, bw⟩ := hrel
    clear hR
    by_cases hlt : i < N
    · have dN : decide ((i : Int) < (N : Int)) = true := decide_eq_true (by omega)
      have dN' : decide (i < N) = true := decide_eq_true hlt
      have hwl := walkB_len N l (D := D) (i := i) hb1 hb2
      have hwi := walkTo_inv stB (coB N l) N (beginN : Int) D b hb1 i
      have hws : 0 < (walkB N l b D i).1.length := hwi.some
      have hwc : -1 ≤ (walkB N l b D i).2 := hwi.cut1
      have HNB : Hid (∀ n ∈ (walkB N l b D i).1, (∃ s : Nat, s < 4294967296 ∧ n.1 = (s : Int)) ∧ 0 ≤ n.2.1 ∧ n.2.1 ≤ 8192 * (i : Int) ∧ n.2.2.2.length = i) := fun n hn => walkB_node HP.out hb1 hn
      have HKO : Hid (∀ x ∈ kidsB N l D i (walkB N l b D i).1, 0 ≤ sc x ∧ x.2.2.2.length = i + 1) := kidsB_ok HP.out hb1
      have HNX : Hid (walkB N l b D (i + 1) = (keptN b (kidsB N l D i (walkB N l b D i).1), lmin (walkB N l b D i).2 (cutK sc b (kidsB N l D i (walkB N l b D i).1)))) := walkB_next N l b D i
      obtain ⟨L, hLe⟩ : ∃ L, (walkB N l b D i).1 = L := ⟨_, rfl⟩
      obtain ⟨cu, hcu⟩ : ∃ cu, (walkB N l b D i).2 = cu := ⟨_, rfl⟩
      rw [hLe] at hwl hws HNB HKO HNX hL
      rw [hcu] at HNX hwc ⊢
      obtain ⟨la, lc, e9⟩ := hL.nodes.shape
      obtain ⟨m, hm⟩ : ∃ m, L.length = m := ⟨_, rfl⟩
      rw [hm] at e9 hwl hws
      subst e9
      have HCC := HAC.out sb so scap i L m la lc wr hlt hm hws hwl HNB.out (HS4.out.next bw) hL.nodes
      have hkl : (kidsB N l D i L).length = m * 16 := by
        unfold kidsB
        rw [kidsOf_len, hm]
      have HKL : Hid ((kidsB N l D i L).length = m * 16) := hkl
      have hcut : cutK sc b (kidsB N l D i L) = -1 ∨ 0 ≤ cutK sc b (kidsB N l D i L) := by
        rcases cutK_least sc b (kidsB N l D i L) with ⟨e, _⟩ | ⟨⟨y, hy, ey⟩, _⟩
        · exact .inl e
        · refine .inr ?_
          rw [← ey]
          exact (HKO.out y ((sortK_perm sc _).mem_iff.1 (List.mem_of_mem_drop hy))).1
      obtain ⟨c, hc⟩ : ∃ c, cutK sc b (kidsB N l D i L) = c := ⟨_, rfl⟩
      rw [hc] at hcut HNX
      have HC : Hid (cutK sc b (kidsB N l D i L) = c) := hc
      clear hLe hcu hm hL hkl hc hwi
      by_cases hc0 : c = -1
      · have d0 : (c == -1) = true := by simp [hc0]
        have HLM : Hid (lmin cu c = cu) := by
          show lmin cu c = cu
          unfold lmin
          rw [if_neg (by omega)]
        clear hc0 hcut
        go_wp2_with (first | (go_at_call 29; refine HCC.mono ?_; rintro e w5 ⟨r5, rfl, hk5, b5⟩; have HPK := Pick_ok r5 (kidsB N l D i L) (by rw [HKL.out]; omega) (fun x hx => by rw [(HKO.out x hx).2]; omega) b hb1 hb2 (fun x hx => (HKO.out x hx).1) w5 hk5; rw [HC.out] at HPK) | (go_at_call 28; refine HPK.mono ?_; rintro e w6 ⟨r6, rfl, o6, b6⟩; clear HPK; have HNW : Hid (NodesC w6.heap.size w6 r6 (keptN b (kidsB N l D i L))) := o6.nodesC; clear o6; have hb6 : Below W4.heap.size W4 w6 := (bw.trans (b5.mono bw.size)).trans (b6.mono (Nat.le_trans bw.size b5.size))))
        go_roundw
        case rel => exact ⟨i + 1, by omega, by go_num, by rw [HNX.out, HLM.out], by rw [HNX.out]; exact HNW.out, hb6⟩
        case measure => simp [intOf]; omega
      · have d0 : (c == -1) = false := by rw [beq_eq_false_iff_ne]; exact hc0
        have hc1 : 0 ≤ c := hcut.resolve_left hc0
        clear hcut hc0
        by_cases hu0 : cu = -1
        · have d1 : (cu == -1) = true := by simp [hu0]
          have HLM : Hid (lmin cu c = c) := by
            show lmin cu c = c
            unfold lmin
            rw [if_pos ⟨hc1, .inl (by omega)⟩]
          clear hu0 hc1 hwc
          go_wp2_with (first | (go_at_call 29; refine HCC.mono ?_; rintro e w5 ⟨r5, rfl, hk5, b5⟩; have HPK := Pick_ok r5 (kidsB N l D i L) (by rw [HKL.out]; omega) (fun x hx => by rw [(HKO.out x hx).2]; omega) b hb1 hb2 (fun x hx => (HKO.out x hx).1) w5 hk5; rw [HC.out] at HPK) | (go_at_call 28; refine HPK.mono ?_; rintro e w6 ⟨r6, rfl, o6, b6⟩; clear HPK; have HNW : Hid (NodesC w6.heap.size w6 r6 (keptN b (kidsB N l D i L))) := o6.nodesC; clear o6; have hb6 : Below W4.heap.size W4 w6 := (bw.trans (b5.mono bw.size)).trans (b6.mono (Nat.le_trans bw.size b5.size))))
          go_roundw
          case rel => exact ⟨i + 1, by omega, by go_num, by rw [HNX.out, HLM.out], by rw [HNX.out]; exact HNW.out, hb6⟩
          case measure => simp [intOf]; omega
        · have d1 : (cu == -1) = false := by rw [beq_eq_false_iff_ne]; exact hu0
          by_cases hcc : c < cu
          · have d2 : decide (c < cu) = true := decide_eq_true hcc
            have HLM : Hid (lmin cu c = c) := by
              show lmin cu c = c
              unfold lmin
              rw [if_pos ⟨hc1, .inr hcc⟩]
            clear hu0 hc1 hwc hcc
            go_wp2_with (first | (go_at_call 29; refine HCC.mono ?_; rintro e w5 ⟨r5, rfl, hk5, b5⟩; have HPK := Pick_ok r5 (kidsB N l D i L) (by rw [HKL.out]; omega) (fun x hx => by rw [(HKO.out x hx).2]; omega) b hb1 hb2 (fun x hx => (HKO.out x hx).1) w5 hk5; rw [HC.out] at HPK) | (go_at_call 28; refine HPK.mono ?_; rintro e w6 ⟨r6, rfl, o6, b6⟩; clear HPK; have HNW : Hid (NodesC w6.heap.size w6 r6 (keptN b (kidsB N l D i L))) := o6.nodesC; clear o6; have hb6 : Below W4.heap.size W4 w6 := (bw.trans (b5.mono bw.size)).trans (b6.mono (Nat.le_trans bw.size b5.size))))
            go_roundw
            case rel => exact ⟨i + 1, by omega, by go_num, by rw [HNX.out, HLM.out], by rw [HNX.out]; exact HNW.out, hb6⟩
            case measure => simp [intOf]; omega
          · have d2 : decide (c < cu) = false := decide_eq_false hcc
            have HLM : Hid (lmin cu c = cu) := by
              show lmin cu c = cu
              unfold lmin
              rw [if_neg (by omega)]
            clear hu0 hc1 hwc hcc
            go_wp2_with (first | (go_at_call 29; refine HCC.mono ?_; rintro e w5 ⟨r5, rfl, hk5, b5⟩; have HPK := Pick_ok r5 (kidsB N l D i L) (by rw [HKL.out]; omega) (fun x hx => by rw [(HKO.out x hx).2]; omega) b hb1 hb2 (fun x hx => (HKO.out x hx).1) w5 hk5; rw [HC.out] at HPK) | (go_at_call 28; refine HPK.mono ?_; rintro e w6 ⟨r6, rfl, o6, b6⟩; clear HPK; have HNW : Hid (NodesC w6.heap.size w6 r6 (keptN b (kidsB N l D i L))) := o6.nodesC; clear o6; have hb6 : Below W4.heap.size W4 w6 := (bw.trans (b5.mono bw.size)).trans (b6.mono (Nat.le_trans bw.size b5.size))))
            go_roundw
            case rel => exact ⟨i + 1, by omega, by go_num, by rw [HNX.out, HLM.out], by rw [HNX.out]; exact HNW.out, hb6⟩
            case measure => simp [intOf]; omega
    · obtain rfl : i = N := by omega
      go_wp2
      rw [Exit.noGoto_ret]
      refine bodyPost_ret (v := .tuple #[u6, .int .i64 (walkB i l b D i).2, .int .i64 0]) (by simp [results, Tryd.results14]) rfl ⟨_, rfl, hL, bb4.trans (bw.mono bb4.size)⟩

set_option maxRecDepth 100000 in
set_option maxHeartbeats 2000000 in
theorem Walk_no (n p : Int) (a : Option Addr) (cap : Nat) (l : List (Int × Int)) (hl : l.length ≤ 4294967296) (hp : ¬ PileOk n p l) (b d : Int) (w : World) (ha : Syms w.heap.size w (.slice a l.length cap) l) :
    Calls Tryd.prog 14 #[.agg #[.int .i64 n, .int .i64 p, .slice a l.length cap], .int .i64 b, .int .i64 d] w fun e W' => e = .returned (.tuple #[.slice none 0 0, .int .i64 0, .int .i64 1]) ∧ Below w.heap.size w W' := by
  have b1 : Below w.heap.size w (w.alloc (.cells #[.int .i64 n, .int .i64 p, .slice a l.length cap] 24)) := (Below.refl w.heap.size w).alloc (Nat.le_refl _) _
  have HBS := bySegment_no n p a cap l hl hp _ (ha.next b1)
  clear hp ha
  go_enter Tryd.func14, Tryd.ntmps14
  go_wp2
  go_step3
  go_wp2_with fail
  refine HBS.mono ?_
  rintro e w2 ⟨rfl, b2⟩
  go_wp2
  rw [Exit.noGoto_ret]
  refine bodyPost_ret (v := .tuple #[.slice none 0 0, .int .i64 0, .int .i64 1]) (by simp [results, Tryd.results14]) rfl ⟨rfl, b1.trans (b2.mono b1.size)⟩

set_option maxRecDepth 100000 in
set_option maxHeartbeats 2000000 in
theorem Walk_arg (N : Nat) (p : Int) (a : Option Addr) (cap : Nat) (l : List (Int × Int)) (hp : PileOk (N : Int) p l) (b d : Int) (h : ¬ ((1 ≤ b ∧ b ≤ 16) ∧ 1 ≤ d ∧ d ≤ 3)) (w : World) (ha : Syms w.heap.size w (.slice a l.length cap) l) (hF : Firsts w) :
    Calls Tryd.prog 14 #[.agg #[.int .i64 N, .int .i64 p, .slice a l.length cap], .int .i64 b, .int .i64 d] w fun e W' => e = .returned (.tuple #[.slice none 0 0, .int .i64 0, .int .i64 1]) ∧ Below w.heap.size w W' := by
  have b1 : Below w.heap.size w (w.alloc (.cells #[.int .i64 N, .int .i64 p, .slice a l.length cap] 24)) := (Below.refl w.heap.size w).alloc (Nat.le_refl _) _
  have HBS := bySegment_ok N p a cap l hp _ (ha.next b1) (hF.next b1)
  clear hp ha hF
  go_enter Tryd.func14, Tryd.ntmps14
  go_wp2
  go_step3
  go_wp2_with fail
  refine HBS.mono ?_
  rintro e w2 ⟨r, rfl, hSg, b2⟩
  clear HBS
  obtain ⟨sb, so, scap, e3, hsb⟩ := hSg.shape
  rw [segsL_len] at e3
  subst e3
  have bb2 := b1.trans (b2.mono b1.size)
  clear b1 b2 hSg
  by_cases h1 : b < 1
  · have g1 : decide (b < 1) = true := decide_eq_true h1
    clear h h1
    go_wp2
    rw [Exit.noGoto_ret]
    refine bodyPost_ret (v := .tuple #[.slice none 0 0, .int .i64 0, .int .i64 1]) (by simp [results, Tryd.results14]) rfl ⟨rfl, bb2⟩
  · have g1 : decide (b < 1) = false := decide_eq_false h1
    by_cases h2 : 16 < b
    · have g2 : decide (16 < b) = true := decide_eq_true h2
      clear h h1 h2
      go_wp2
      rw [Exit.noGoto_ret]
      refine bodyPost_ret (v := .tuple #[.slice none 0 0, .int .i64 0, .int .i64 1]) (by simp [results, Tryd.results14]) rfl ⟨rfl, bb2⟩
    · have g2 : decide (16 < b) = false := decide_eq_false h2
      have HID := isDepth_no d (by omega) w2
      clear h h1 h2
      go_wp2_with (go_at_call 24; refine HID.mono ?_; rintro e wz ⟨rfl, rfl⟩)
      rw [Exit.noGoto_ret]
      refine bodyPost_ret (v := .tuple #[.slice none 0 0, .int .i64 0, .int .i64 1]) (by simp [results, Tryd.results14]) rfl ⟨rfl, bb2⟩

end Go.Proofs.YtdnhnnidlangiabDoor

/-
  What beam.isTie and beam.Decode answer. (Written by tpl_beamdecode.py.)
-/
namespace Go.Proofs.YtdnhnnidlangiabDoor
open Go.RowKit

set_option maxRecDepth 100000 in
set_option maxHeartbeats 2000000 in
theorem isTie_ok (la : Option Addr) (m lc : Nat) (L : List Nd) (hm : L.length = m) (h0 : 0 < m) (hm2 : m ≤ 1048576) (cu : Int) (hcu : -1 ≤ cu) (w : World) (hL : Nodes w.heap.size w (.slice la m lc) L) :
    Calls Tryd.prog 30 #[.slice la m lc, .int .i64 cu] w fun e w' => e = .returned (.bool (decB L cu).isNone) ∧ w = w' := by
  obtain ⟨rb, ro, rfl, _, hc4⟩ := nodes_at hL hm h0
  obtain ⟨⟨s0, M, c0, ps⟩, hn0⟩ : ∃ n, L[0]? = some n := ⟨L[0]'(by omega), by simp⟩
  have HN0 : Hid (L[0]? = some (s0, M, c0, ps)) := hn0
  obtain ⟨_, _, _, k1, _, _⟩ := hc4 0 _ hn0
  rw [Nat.zero_mul, Nat.add_zero] at k1
  have HM : Hid (L.length = m) := hm
  have dm0 : (0 : Int) < (m : Int) := by omega
  clear hn0 hL hm
  by_cases hm1 : 1 < m
  · have dm : decide (1 < (m : Int)) = true := decide_eq_true (by omega)
    have dmN : decide (1 < m) = true := decide_eq_true hm1
    obtain ⟨⟨s1, M1, c1, ps1⟩, hn1⟩ : ∃ n, L[1]? = some n := ⟨L[1]'(by rw [HM.out]; exact hm1), by simp⟩
    have HN1 : Hid (L[1]? = some (s1, M1, c1, ps1)) := hn1
    obtain ⟨_, _, _, q1, _, _⟩ := hc4 1 _ hn1
    rw [Nat.one_mul] at q1
    clear hc4 hn1
    by_cases hmm : M1 = M
    · have de : (M1 == M) = true := by simp [hmm]
      have HDE : decB L cu = none := decB_same HN0.out HN1.out hmm
      clear hmm
      have HV : Hid ((decB L cu).isNone = true) := by
        show (decB L cu).isNone = true
        rw [HDE]
        rfl
      rw [HV.out]
      go_enter Tryd.func30, Tryd.ntmps30
      go_wp2
      go_ret
      exact ⟨rfl, rfl⟩
    · have de : (M1 == M) = false := by simp [hmm]
      have HS : Hid (L[1]? = none ∨ ∃ u, L[1]? = some u ∧ u.2.1 ≠ M) := .inr ⟨_, HN1.out, hmm⟩
      clear hmm
      by_cases hc0 : cu = -1
      · have d0 : (cu != -1) = false := by simp [hc0]
        have HDE : decB L cu = some (ps, M) := decB_told (n := (s0, M, c0, ps)) HN0.out (h1 := HS.out) (fun h => by omega)
        clear hc0
        have HV : Hid ((decB L cu).isNone = false) := by
          show (decB L cu).isNone = false
          rw [HDE]
          rfl
        rw [HV.out]
        go_enter Tryd.func30, Tryd.ntmps30
        go_wp2
        go_ret
        exact ⟨rfl, rfl⟩
      · have d0 : (cu != -1) = true := by rw [bne_iff_ne]; exact hc0
        by_cases hcm : cu ≤ M
        · have d1 : decide (cu ≤ M) = true := decide_eq_true hcm
          have HDE : decB L cu = none := decB_cut (n := (s0, M, c0, ps)) HN0.out (h1 := HS.out) (by omega) hcm
          clear hc0 hcm
          have HV : Hid ((decB L cu).isNone = true) := by
            show (decB L cu).isNone = true
            rw [HDE]
            rfl
          rw [HV.out]
          go_enter Tryd.func30, Tryd.ntmps30
          go_wp2
          go_ret
          exact ⟨rfl, rfl⟩
        · have d1 : decide (cu ≤ M) = false := decide_eq_false hcm
          have HDE : decB L cu = some (ps, M) := decB_told (n := (s0, M, c0, ps)) HN0.out (h1 := HS.out) (fun h => hcm h.2)
          clear hc0 hcm
          have HV : Hid ((decB L cu).isNone = false) := by
            show (decB L cu).isNone = false
            rw [HDE]
            rfl
          rw [HV.out]
          go_enter Tryd.func30, Tryd.ntmps30
          go_wp2
          go_ret
          exact ⟨rfl, rfl⟩
  · have dm : decide (1 < (m : Int)) = false := decide_eq_false (by omega)
    have dmN : decide (1 < m) = false := decide_eq_false hm1
    have HS : Hid (L[1]? = none ∨ ∃ u, L[1]? = some u ∧ u.2.1 ≠ M) := .inl (List.getElem?_eq_none (by rw [HM.out]; omega))
    clear hc4
    by_cases hc0 : cu = -1
    · have d0 : (cu != -1) = false := by simp [hc0]
      have HDE : decB L cu = some (ps, M) := decB_told (n := (s0, M, c0, ps)) HN0.out (h1 := HS.out) (fun h => by omega)
      clear hc0
      have HV : Hid ((decB L cu).isNone = false) := by
        show (decB L cu).isNone = false
        rw [HDE]
        rfl
      rw [HV.out]
      go_enter Tryd.func30, Tryd.ntmps30
      go_wp2
      go_ret
      exact ⟨rfl, rfl⟩
    · have d0 : (cu != -1) = true := by rw [bne_iff_ne]; exact hc0
      by_cases hcm : cu ≤ M
      · have d1 : decide (cu ≤ M) = true := decide_eq_true hcm
        have HDE : decB L cu = none := decB_cut (n := (s0, M, c0, ps)) HN0.out (h1 := HS.out) (by omega) hcm
        clear hc0 hcm
        have HV : Hid ((decB L cu).isNone = true) := by
          show (decB L cu).isNone = true
          rw [HDE]
          rfl
        rw [HV.out]
        go_enter Tryd.func30, Tryd.ntmps30
        go_wp2
        go_ret
        exact ⟨rfl, rfl⟩
      · have d1 : decide (cu ≤ M) = false := decide_eq_false hcm
        have HDE : decB L cu = some (ps, M) := decB_told (n := (s0, M, c0, ps)) HN0.out (h1 := HS.out) (fun h => hcm h.2)
        clear hc0 hcm
        have HV : Hid ((decB L cu).isNone = false) := by
          show (decB L cu).isNone = false
          rw [HDE]
          rfl
        rw [HV.out]
        go_enter Tryd.func30, Tryd.ntmps30
        go_wp2
        go_ret
        exact ⟨rfl, rfl⟩

theorem decB_some {L : List Nd} {cut : Int} {ps : List Int} {M : Int} (h : decB L cut = some (ps, M)) : ∃ s c, L[0]? = some (s, M, c, ps) := by
  match L with
  | [] => cases h
  | ⟨s, M', c, ps'⟩ :: t =>
    simp only [decB] at h
    split at h
    · cases h
    · cases h
      exact ⟨s, c, rfl⟩

set_option maxRecDepth 100000 in
set_option maxHeartbeats 4000000 in
theorem Decode_ok (N : Nat) (p : Int) (a : Option Addr) (cap : Nat) (l : List (Int × Int)) (hp : PileOk (N : Int) p l) (b : Nat) (hb1 : 1 ≤ b) (hb2 : b ≤ 16) (D : Nat) (hD : D ≤ 2) (w : World) (ha : Syms w.heap.size w (.slice a l.length cap) l) (hF : Firsts w) :
    Calls Tryd.prog 16 #[.agg #[.int .i64 N, .int .i64 p, .slice a l.length cap], .int .i64 (b : Int), .int .i64 ((D + 1 : Nat) : Int)] w fun e W' => ((decB (walkB N l b D N).1 (walkB N l b D N).2 = none ∧ e = .returned (.tuple #[.slice none 0 0, .int .i64 0, .int .i64 5])) ∨ ∃ ps M, decB (walkB N l b D N).1 (walkB N l b D N).2 = some (ps, M) ∧ ∃ qa qc, e = .returned (.tuple #[.slice qa ps.length qc, .int .i64 M, .int .i64 0]) ∧ ps.length ≤ qc ∧ Holds .i64 W'.heap.size W' (.slice qa ps.length qc) ps) ∧ Below w.heap.size w W' := by
  have b1 : Below w.heap.size w (w.alloc (.cells #[.int .i64 N, .int .i64 p, .slice a l.length cap] 24)) := (Below.refl w.heap.size w).alloc (Nat.le_refl _) _
  have HWK := Walk_ok N p a cap l hp b hb1 hb2 D hD _ (ha.next b1) (hF.next b1)
  have hwi := walkTo_inv stB (coB N l) N (beginN : Int) D b hb1 N
  have hsome : 0 < (walkB N l b D N).1.length := hwi.some
  have hwc : -1 ≤ (walkB N l b D N).2 := hwi.cut1
  have hwl := walkB_len N l (D := D) (i := N) hb1 hb2
  obtain ⟨L, hL⟩ : ∃ L, (walkB N l b D N).1 = L := ⟨_, rfl⟩
  obtain ⟨cu, hcu⟩ : ∃ cu, (walkB N l b D N).2 = cu := ⟨_, rfl⟩
  rw [hL] at HWK hwl hsome ⊢
  rw [hcu] at HWK hwc ⊢
  obtain ⟨D1, hD1⟩ : ∃ D1, D + 1 = D1 := ⟨_, rfl⟩
  rw [hD1] at HWK ⊢
  obtain ⟨m, hm⟩ : ∃ m, L.length = m := ⟨_, rfl⟩
  have HM : Hid (L.length = m) := hm
  rw [hm] at hwl hsome
  obtain ⟨oz, hoz⟩ : ∃ oz, decB L cu = oz := ⟨_, rfl⟩
  have HOZ : Hid (decB L cu = oz) := hoz
  rw [hoz]
  clear hwi hL hcu hD1 hm hp ha hF hoz
  go_enter Tryd.func16, Tryd.ntmps16
  go_wp2_with fail
  refine HWK.mono ?_
  rintro e w4 ⟨r4, rfl, hN4, b4⟩
  clear HWK
  have bb4 := b1.trans (b4.mono b1.size)
  obtain ⟨ra, rc, e4⟩ := hN4.nodes.shape
  rw [HM.out] at e4
  subst e4
  have HT := isTie_ok ra m rc L HM.out hsome (by omega) cu hwc w4 hN4.nodes
  rw [HOZ.out] at HT
  obtain ⟨rb, ro, rfl, hc4⟩ := hN4.cap rfl HM.out hsome
  cases oz with
  | none =>
    clear hc4 hN4 b1 b4
    go_wp2_with (go_at_call 30; refine HT.mono ?_; rintro e wz ⟨rfl, rfl⟩)
    go_ret3
    first | exact ⟨.inl ⟨rfl, rfl⟩, bb4⟩ | exact ⟨rfl, bb4⟩
  | some z =>
    obtain ⟨ps, M⟩ := z
    obtain ⟨s0, c0, hn0⟩ := decB_some HOZ.out
    obtain ⟨pa, pc, hpc, hpv, k1, k3⟩ := hc4 0 _ hn0
    rw [Nat.zero_mul, Nat.add_zero] at k1 k3
    have HPC : Hid (ps.length ≤ pc) := hpc
    have HPH : Hid (Holds .i64 w4.heap.size w4 (.slice pa ps.length pc) ps) := hpv
    have dm0 : (0 : Int) < (m : Int) := by omega
    clear hpv b1 b4 hN4 hc4 hn0 hpc
    go_wp2_with (go_at_call 30; refine HT.mono ?_; rintro e wz ⟨rfl, rfl⟩)
    go_quiet (fail)
    go_wp2
    go_ret3
    exact ⟨.inr ⟨ps, M, rfl, _, _, rfl, HPC.out, HPH.out⟩, below_drewN bb4 _⟩

set_option maxRecDepth 100000 in
set_option maxHeartbeats 2000000 in
theorem Decode_ref (v : Value) (hv : ∃ n p a k c, v = .agg #[.int .i64 n, .int .i64 p, .slice a k c]) (b d : Int) (w : World)
    (h : ∀ w' : World, Below w.heap.size w w' → Calls Tryd.prog 14 #[v, .int .i64 b, .int .i64 d] w' fun e W' => e = .returned (.tuple #[.slice none 0 0, .int .i64 0, .int .i64 1]) ∧ Below w'.heap.size w' W') :
    Calls Tryd.prog 16 #[v, .int .i64 b, .int .i64 d] w fun e W' => e = .returned (.tuple #[.slice none 0 0, .int .i64 0, .int .i64 1]) ∧ Below w.heap.size w W' := by
  obtain ⟨n, p, a, k, c, rfl⟩ := hv
  have b1 : Below w.heap.size w (w.alloc (.cells #[.int .i64 n, .int .i64 p, .slice a k c] 24)) := (Below.refl w.heap.size w).alloc (Nat.le_refl _) _
  have HWK := h _ b1
  clear h
  go_enter Tryd.func16, Tryd.ntmps16
  go_wp2_with fail
  refine HWK.mono ?_
  rintro e w4 ⟨rfl, b4⟩
  go_wp2
  go_ret3
  exact ⟨rfl, b1.trans (b4.mono b1.size)⟩
theorem Decode_no (n p : Int) (a : Option Addr) (cap : Nat) (l : List (Int × Int)) (hl : l.length ≤ 4294967296) (hp : ¬ PileOk n p l) (b d : Int) (w : World) (ha : Syms w.heap.size w (.slice a l.length cap) l) :
    Calls Tryd.prog 16 #[.agg #[.int .i64 n, .int .i64 p, .slice a l.length cap], .int .i64 b, .int .i64 d] w fun e W' => e = .returned (.tuple #[.slice none 0 0, .int .i64 0, .int .i64 1]) ∧ Below w.heap.size w W' :=
  Decode_ref _ ⟨_, _, _, _, _, rfl⟩ b d w fun w' hb => Walk_no n p a cap l hl hp b d w' (ha.next hb)
theorem Decode_arg (N : Nat) (p : Int) (a : Option Addr) (cap : Nat) (l : List (Int × Int)) (hp : PileOk (N : Int) p l) (b d : Int) (h : ¬ ((1 ≤ b ∧ b ≤ 16) ∧ 1 ≤ d ∧ d ≤ 3)) (w : World) (ha : Syms w.heap.size w (.slice a l.length cap) l) (hF : Firsts w) :
    Calls Tryd.prog 16 #[.agg #[.int .i64 N, .int .i64 p, .slice a l.length cap], .int .i64 b, .int .i64 d] w fun e W' => e = .returned (.tuple #[.slice none 0 0, .int .i64 0, .int .i64 1]) ∧ Below w.heap.size w W' :=
  Decode_ref _ ⟨_, _, _, _, _, rfl⟩ b d w fun w' hb => Walk_arg N p a cap l hp b d h w' (ha.next hb) (hF.next hb)

end Go.Proofs.YtdnhnnidlangiabDoor

/-
  The laws' own guard over beam (wakes) answers true; what lay lies as it lay.
-/
namespace Go.Proofs.YtdnhnnidlangiabDoor
open Go.RowKit

theorem decB_of {L : List Nd} {cut : Int} {n : Nd} {t : List Nd} (hl : L = n :: t) (ht : ∀ u, t.head? = some u → u.2.1 ≠ n.2.1) (hc : ¬ (0 ≤ cut ∧ cut ≤ n.2.1)) : decB L cut = some (pathOf n, n.2.1) := by
  subst hl
  simp only [decB]
  rw [if_neg]
  · rfl
  rintro (h | h)
  · cases t with
    | nil => simp at h
    | cons u t => simp at h; exact ht u rfl h
  · exact hc h
theorem decB_inv {L : List Nd} {cut : Int} {ps : List Int} {M : Int} (h : decB L cut = some (ps, M)) : ∃ n t, L = n :: t ∧ pathOf n = ps ∧ n.2.1 = M ∧ (∀ u, t.head? = some u → u.2.1 ≠ n.2.1) ∧ ¬ (0 ≤ cut ∧ cut ≤ n.2.1) := by
  match L with
  | [] => cases h
  | n :: t =>
    simp only [decB] at h
    split at h
    · cases h
    · next hh =>
      cases h
      refine ⟨n, t, rfl, rfl, rfl, fun u hu e => hh (.inl ?_), fun e => hh (.inr e)⟩
      rw [hu]
      exact congrArg some e
/-- By the first four symbols of each segment a block is told. -/
theorem dec_four (zs : List Int) (C D b : Nat) (hb : 1 ≤ b) (h0 : 1 ≤ zs.length) (hn : 2 * zs.length < 65) (hC : 4 * (2 * zs.length) ≤ C) : decB (walkB (2 * zs.length) (heardL zs [] [] C) b D (2 * zs.length)).1 (walkB (2 * zs.length) (heardL zs [] [] C) b D (2 * zs.length)).2 = some (nibs zs, 0) := by
  obtain ⟨n, t, h1, h2, h3, h4, h5⟩ := told_four zs C D b hb h0 hn hC
  have := decB_of (cut := (walkB (2 * zs.length) (heardL zs [] [] C) b D (2 * zs.length)).2) h1 h4 h5
  rw [h2, h3] at this
  exact this
theorem flags_nil (n₀ : Nat) (w : World) : Flags n₀ w (.slice none 0 0) [] := .inl ⟨⟨_, _, rfl⟩, rfl⟩
theorem holds_nil8 (n₀ : Nat) (w : World) : Holds .u8 n₀ w (.slice none 0 0) (([] : List Nat).map fun t : Nat => (t : Int)) := .inl ⟨⟨_, _, rfl, fun _ => rfl⟩, rfl⟩

set_option maxRecDepth 100000 in
set_option maxHeartbeats 1000000 in
theorem beamWakes_any (w : World) (hF : Firsts w) : Calls Tryd.prog 11 #[] w fun e w' => e = .returned (.bool true) ∧ Below w.heap.size w w' := by
  have h0 := held_new .u8 w [90] 1 5 (0, 0)
  have b0 := (Below.refl w.heap.size w).alloc (Nat.le_refl _) (.cells #[.int .u8 90] 5)
  have HH := heard_any (some ⟨w.heap.size, 0, none⟩) 1 1 [90] rfl (by decide) (by decide) (by decide) 4 8 (by decide) (by decide) (by decide) none 0 0 [] rfl (by decide) none 0 0 [] rfl (by decide) (by simp) (w.alloc (.cells #[.int .u8 90] 5)) (hF.next b0) h0 (flags_nil _ _) (holds_nil8 _ _)
  have HOK : PileOk ((2 : Nat) : Int) ((4 : Nat) : Int) (heardL [90] [] [] 8) := heardL_ok ⟨by decide, by decide, by decide, by decide⟩ (by simp) (fun k => codeN_lt _ k) (by decide)
  have HDE : decB (walkB 2 (heardL [90] [] [] 8) 2 0 2).1 (walkB 2 (heardL [90] [] [] 8) 2 0 2).2 = some ([5, 10], 0) := dec_four [90] 8 0 2 (by decide) (by decide) (by decide) (by decide)
  go_enter Tryd.func11, Tryd.ntmps11
  go_wp2_with fail
  refine HH.mono ?_
  rintro e w1 ⟨r, rfl, o1, b1⟩
  clear HH
  have bb1 := b0.trans (b1.mono (by simp))
  obtain ⟨ra, rc, e1⟩ := rowN_shape o1
  have hs1 := syms_of_row o1
  rw [e1] at hs1
  obtain ⟨ll, hll⟩ : ∃ ll, heardL [90] [] [] 8 = ll := ⟨_, rfl⟩
  rw [hll] at hs1 HOK HDE e1
  obtain ⟨ln, hln⟩ : ∃ ln, ll.length = ln := ⟨_, rfl⟩
  have b2 : Below w1.heap.size w1 (w1.alloc (.cells #[.int .i64 2, .int .i64 4, .slice ra ln rc] 24)) := (Below.refl _ _).alloc (Nat.le_refl _) _
  have bb2 := bb1.trans (b2.mono bb1.size)
  have HD := Decode_ok 2 4 ra rc ll HOK 2 (by decide) (by decide) 0 (by decide) (w1.alloc (.cells #[.int .i64 2, .int .i64 4, .slice ra ln rc] 24)) (hs1.next b2) (hF.next bb2)
  rw [HDE, hln] at HD
  rw [hln] at e1
  subst e1
  clear HDE HOK hs1 o1 hll hln
  go_wp2_with fail
  refine HD.mono ?_
  rintro e w3 ⟨he, b3⟩
  rcases he with ⟨hno, _⟩ | ⟨ps, M, hsm, qa, qc, rfl, _, hH⟩
  · cases hno
  cases hsm
  clear HD
  have bb3 := bb2.trans (b3.mono bb2.size)
  have b4 : Below w3.heap.size w3 (w3.alloc (.cells #[.int .i64 5, .int .i64 10] 3)) := (Below.refl _ _).alloc (Nat.le_refl _) _
  have h5 := held_new .i64 w3 [5, 10] 2 3 (0, 0)
  have HI := ints_any (.slice qa 2 qc) (.slice (some ⟨w3.heap.size, 0, none⟩) 2 2) [5, 10] [5, 10] _ _ (w3.alloc (.cells #[.int .i64 5, .int .i64 10] 3)) (by decide) (hH.next b4) h5
  rw [decide_eq_true rfl] at HI
  clear hH h5
  go_wp2_with fail
  refine HI.mono ?_
  rintro e w6 ⟨rfl, q6, rfl⟩
  go_wp2
  go_ret
  exact ⟨rfl, below_drewN (bb3.trans (b4.mono bb3.size)) q6⟩

end Go.Proofs.YtdnhnnidlangiabDoor

/-
  BeamScores: the walk: whatever the pile, the path and the depth, the law answers true, and nothing that lay has turned.
-/
namespace Go.Proofs.YtdnhnnidlangiabDoor
open Go.RowKit

theorem at_place14 (at_ d : Int) (hd : 0 < d) : ∃ p : Nat, (p : Int) < d ∧ (IntKind.u64.wrap at_).tmod d = (p : Int) := by
  have h0 : 0 ≤ IntKind.u64.wrap at_ := by rw [IntKind.wrap_u64]; omega
  have h1 := Int.tmod_nonneg d h0
  have h2 := Int.tmod_lt_of_pos (IntKind.u64.wrap at_) hd
  exact ⟨((IntKind.u64.wrap at_).tmod d).toNat, by omega, by omega⟩

/-- beam.Score, of a right pile, path and depth. -/
theorem Score_in (N : Nat) (p : Int) (a : Option Addr) (cap : Nat) (l : List (Int × Int)) (hp : PileOk (N : Int) p l) (pa : Option Addr) (pc : Nat) (ps : List Int) (hps : Path ps) (hlen : ps.length ≤ N) (D D1 : Nat) (hD1 : D + 1 = D1) (hD : D1 ≤ 3) (w : World) (ha : Syms w.heap.size w (.slice a l.length cap) l) (hpp : Holds .i64 w.heap.size w (.slice pa ps.length pc) ps) (hF : Firsts w) :
    Calls Tryd.prog 9 #[.agg #[.int .i64 N, .int .i64 p, .slice a l.length cap], .slice pa ps.length pc, .int .i64 (D1 : Int)] w fun e W' => e = .returned (.tuple #[.int .i64 (scoB N l D ps), .int .i64 0]) ∧ Below w.heap.size w W' := by
  refine (Score_any N p a cap l hp pa pc ps hps hlen (D1 : Int) w ha hpp hF).mono ?_
  rintro e W' ⟨he, hb⟩
  rcases he with ⟨_, rfl⟩ | ⟨hno, _⟩
  · exact ⟨by rw [show ((D1 : Int).toNat - 1) = D by omega], hb⟩
  · exact absurd ⟨by omega, by omega⟩ hno

/-- The least of the first children's Scores. -/
def scTo (N : Nat) (l : List (Int × Int)) (D : Nat) (ps : List Int) (k : Nat) : Int := minF ((nib16.take k).map fun k => scoB N l D (ps ++ [k]))
theorem scTo_next (N : Nat) (l : List (Int × Int)) (D : Nat) (ps : List Int) {k : Nat} (h : k < 16) : scTo N l D ps (k + 1) = minStep (scTo N l D ps k) (scoB N l D (ps ++ [(k : Int)])) := by
  unfold scTo
  rw [take_snoc (nib16_get h), List.map_append, List.map_singleton, minF_snoc]
theorem scTo_end (N : Nat) (l : List (Int × Int)) (D : Nat) (ps : List Int) (hi : ps.length ≠ N) : scTo N l D ps 16 = scoB N l (D + 1) ps := by
  unfold scTo scoB
  rw [scA_succ stB (coB N l) N (beginN : Int) D ps hi, List.take_of_length_le (by decide)]

set_option maxRecDepth 100000 in
set_option maxHeartbeats 4000000 in
theorem beamScores_any (n p : Int) (a : Option Addr) (cap : Nat) (l : List (Int × Int)) (pa : Option Addr) (pc : Nat) (ps : List Int) (d : Int) (w : World) (ha : Syms w.heap.size w (.slice a l.length cap) l) (hpp : Holds .i64 w.heap.size w (.slice pa ps.length pc) ps) (hF : Firsts w) :
    Calls Tryd.prog 3 #[.agg #[.int .i64 n, .int .i64 p, .slice a l.length cap], .slice pa ps.length pc, .int .i64 d] w fun e w' => e = .returned (.bool true) ∧ Below w.heap.size w w' := by
  have HFW : Hid (Firsts w) := hF
  have b1 : Below w.heap.size w (w.alloc (.cells #[.int .i64 n, .int .i64 p, .slice a l.length cap] 24)) := (Below.refl w.heap.size w).alloc (Nat.le_refl _) _
  have x1 := Box.new w 24 #[.int .i64 n, .int .i64 p, .slice a l.length cap]
  have ha1 := ha.next b1
  have hpp1 := hpp.next b1
  by_cases hm : 400 < l.length
  · have dm : decide (400 < (l.length : Int)) = true := decide_eq_true (by omega)
    clear ha hpp ha1 hpp1
    go_enter Tryd.func3, Tryd.ntmps3
    go_wp2
    go_ret
    exact ⟨rfl, b1⟩
  have dm : decide (400 < (l.length : Int)) = false := decide_eq_false (by omega)
  have dm' : decide (400 < l.length) = false := decide_eq_false hm
  by_cases hp : PileOk n p l
  case neg =>
    have HRP := refPile_no n p a cap l (by omega) hp _ ha1
    clear ha hpp ha1 hpp1 hp
    go_enter Tryd.func3, Tryd.ntmps3
    go_wp2_with (go_at_call 7; refine HRP.mono ?_; rintro e w2 ⟨rfl, b2⟩)
    go_ret
    exact ⟨rfl, b1.trans (b2.mono b1.size)⟩
  obtain ⟨N, rfl⟩ := Int.eq_ofNat_of_zero_le (a := n) (by have := hp.1.1; omega)
  have hN2 : N < 65 := by have := hp.1.2.1; omega
  have HRP := refPile_yes (N : Int) p a cap l (by omega) hp _ ha1
  have HP : Hid (PileOk (N : Int) p l) := hp
  have HA : Hid (Syms w.heap.size w (.slice a l.length cap) l) := ha
  have HPP : Hid (Holds .i64 w.heap.size w (.slice pa ps.length pc) ps) := hpp
  obtain ⟨ln, hln⟩ : ∃ ln, l.length = ln := ⟨_, rfl⟩
  have HLN : Hid (l.length = ln) := hln
  rw [hln] at HA HRP dm dm' x1 b1 hm ⊢
  obtain ⟨m, hmn⟩ : ∃ m, ps.length = m := ⟨_, rfl⟩
  have HMN : Hid (ps.length = m) := hmn
  rw [hmn] at HPP ⊢
  by_cases hlong : N < m
  · have dl : decide ((N : Int) < (m : Int)) = true := decide_eq_true (by omega)
    have dl' : decide (N < m) = true := decide_eq_true hlong
    clear ha hpp ha1 hpp1 hp hln hmn
    go_enter Tryd.func3, Tryd.ntmps3
    go_wp2_with fail
    refine HRP.mono ?_
    rintro e w2 ⟨rfl, b2⟩
    have x2 := x1.next b2
    have c0 := x2.cell 0 _ rfl
    go_wp2
    go_ret
    exact ⟨rfl, b1.trans (b2.mono b1.size)⟩
  have dl : decide ((N : Int) < (m : Int)) = false := decide_eq_false (by omega)
  have dl' : decide (N < m) = false := decide_eq_false hlong
  by_cases hps : Path ps
  case neg =>
    have HNP : Hid (¬ Path ps) := hps
    clear ha hpp ha1 hpp1 hp hln hmn hps
    go_enter Tryd.func3, Tryd.ntmps3
    go_wp2_with fail
    refine HRP.mono ?_
    rintro e w2 ⟨rfl, b2⟩
    have x2 := x1.next b2
    have c0 := x2.cell 0 _ rfl
    have bb2 := b1.trans (b2.mono b1.size)
    have HRQ := refPath_no pa pc ps (by rw [HMN.out]; omega) HNP.out w2 w2.heap.size (by rw [HMN.out]; exact HPP.out.next bb2)
    rw [HMN.out] at HRQ
    go_wp2_with (go_at_call 8; refine HRQ.mono ?_; rintro e w3 ⟨rfl, rfl⟩)
    go_ret
    exact ⟨rfl, bb2⟩
  have HPS : Hid (Path ps) := hps
  obtain ⟨D, q3, e3⟩ := at_place14 d 2 (by decide)
  have ew3 : IntKind.i64.wrap (D : Int) = (D : Int) := by rw [IntKind.wrap_i64]; omega
  obtain ⟨D1, hD1⟩ : ∃ D1, D + 1 = D1 := ⟨_, rfl⟩
  obtain ⟨D2, hD2⟩ : ∃ D2, D1 + 1 = D2 := ⟨_, rfl⟩
  have eD : 1 + (D : Int) = (D1 : Int) := by omega
  have eD2 : (D1 : Int) + 1 = (D2 : Int) := by omega
  have hD1b : D1 ≤ 2 := by omega
  have hD2b : D2 ≤ 3 := by omega
  have HD1 : Hid (D + 1 = D1) := hD1
  have HD2 : Hid (D1 + 1 = D2) := hD2
  clear ha hpp ha1 hpp1 hp hln hmn hps hD1 hD2 q3 hm
  go_enter Tryd.func3, Tryd.ntmps3
  go_wp2_with fail
  refine HRP.mono ?_
  rintro e w2 ⟨rfl, b2⟩
  clear HRP
  have x2 := x1.next b2
  have c0 := x2.cell 0 _ rfl
  have c1 := x2.cell 1 _ rfl
  have c2 := x2.cell 2 _ rfl
  have bb2 := b1.trans (b2.mono b1.size)
  have HRQ := refPath_yes pa pc ps (by rw [HMN.out]; omega) HPS.out w2 w2.heap.size (by rw [HMN.out]; exact HPP.out.next bb2)
  have HSC := Score_in N p a cap l HP.out pa pc ps HPS.out (by rw [HMN.out]; omega) D1 D2 HD2.out hD2b w2 (by rw [HLN.out]; exact HA.out.next bb2) (by rw [HMN.out]; exact HPP.out.next bb2) (HFW.out.next bb2)
  rw [HMN.out] at HRQ HSC
  rw [HLN.out] at HSC
  obtain ⟨V, hV⟩ : ∃ V, scoB N l D1 ps = V := ⟨_, rfl⟩
  rw [hV] at HSC
  have HV : Hid (scoB N l D1 ps = V) := hV
  clear hV
  go_wp2_with (first | (go_at_call 8; refine HRQ.mono ?_; rintro e w3 ⟨rfl, rfl⟩) | fail)
  refine HSC.mono ?_
  rintro e w4 ⟨rfl, b4⟩
  clear HSC HRQ c0 c1 c2
  have x4 := x2.next b4
  have k0 := x4.cell 0 _ rfl
  have k1 := x4.cell 1 _ rfl
  have k2 := x4.cell 2 _ rfl
  have bb4 := bb2.trans (b4.mono bb2.size)
  clear x2 b4 b2 bb2
  by_cases hmN : m = N
  · have de : ((m : Int) == (N : Int)) = true := by rw [hmN]; simp
    have HND := Node_ok N p a cap l HP.out pa pc ps HPS.out (by rw [HMN.out]; omega) w4 (by rw [HLN.out]; exact HA.out.next bb4) (by rw [HMN.out]; exact HPP.out.next bb4) (HFW.out.next bb4)
    rw [HMN.out, HLN.out] at HND
    have eV : metB N l ps = V := by
      rw [← HV.out]
      exact (scA_end stB (coB N l) N (beginN : Int) D1 ps (by rw [HMN.out]; exact hmN)).symm
    rw [eV] at HND
    have dVV : (V == V) = true := by simp
    clear eV hmN
    go_wp2_with fail
    refine HND.mono ?_
    rintro e w5 ⟨qa, qc, rfl, o5, b5⟩
    clear HND o5
    have xn := Box.new w5 34 #[.int .u32 (staB N l ps), .int .i64 V, .int .i64 0, .slice qa m qc]
    have b6 : Below w.heap.size w (w5.alloc (.cells #[.int .u32 (staB N l ps), .int .i64 V, .int .i64 0, .slice qa m qc] 34)) := (bb4.trans (b5.mono bb4.size)).alloc (Nat.le_trans bb4.size b5.size) _
    have HWK := beamWakes_any _ (HFW.out.next b6)
    have j1 := xn.cell 1 _ rfl
    go_wp2_with (go_at_call 11; refine HWK.mono ?_; rintro e w8 ⟨rfl, b8⟩)
    go_ret
    exact ⟨rfl, b6.trans (b8.mono b6.size)⟩
  have de : ((m : Int) == (N : Int)) = false := by rw [beq_eq_false_iff_ne]; omega
  have HE : Hid (scTo N l D ps 16 = V) := by
    have := scTo_end N l D ps (by rw [HMN.out]; exact hmN)
    rw [HD1.out, HV.out] at this
    exact this
  have hmN' : m < N := by omega
  obtain ⟨i0, hi, hz0, hz1, hz2⟩ := info_parts infoI64
  clear hlong hmN k0 k1 k2
  have q0 := x4.cell 0 _ rfl
  go_wp2
  clear q0
  go_loopw [11, 12] (fun sa sb wr => ∃ k : Nat, k ≤ 16 ∧ sb = .int .i64 k ∧ sa = .int .i64 (scTo N l D ps k) ∧ Below w4.heap.size w4 wr) (fun _ i _ => 16 - (intOf i).toNat)
  case atStart => exact ⟨0, by omega, rfl, rfl, Below.refl _ _⟩
  case round =>
    obtain ⟨k, hk, rfl, rfl, bw⟩ := hrel
    have xr := x4.next bw
    have bbw := bb4.trans (bw.mono bb4.size)
    clear x4
    by_cases hlt : k < 16
    · have HTW : Hid (∀ (wx : World), Holds .i64 w.heap.size wx (.slice pa m pc) ps → Calls Tryd.prog 12 #[.slice pa m pc] wx fun e W' => ∃ r, e = .returned r ∧ W'.ownsRow wx.heap.size 3 1 r m (ps.map (Value.int .i64)) ∧ Below wx.heap.size wx W') := fun wx hx => by
        have := twinInts_any (.slice pa m pc) ps w.heap.size (by rw [HMN.out]; omega) wx hx
        rw [HMN.out] at this
        exact this
      have k0 := xr.cell 0 _ rfl
      have k1 := xr.cell 1 _ rfl
      have k2 := xr.cell 2 _ rfl
      have hlt1 := xr.lt
      obtain ⟨c, hc⟩ : ∃ c, scoB N l D (ps ++ [(k : Int)]) = c := ⟨_, rfl⟩
      have HNX : Hid (scTo N l D ps (k + 1) = minStep (scTo N l D ps k) c) := by rw [← hc]; exact scTo_next N l D ps hlt
      have HSO : Hid (∀ (wx : World) (qa : Option Addr) (qc : Nat), Below wr.heap.size wr wx → wx.ownsRow wr.heap.size 3 1 (.slice qa (m + 1) qc) (m + 1) (ps.map (Value.int .i64) ++ [.int .i64 (k : Int)]) → Calls Tryd.prog 9 #[.agg #[.int .i64 N, .int .i64 p, .slice a ln cap], .slice qa (m + 1) qc, .int .i64 (D1 : Int)] wx fun e W' => e = .returned (.tuple #[.int .i64 c, .int .i64 0]) ∧ Below wr.heap.size wr W') := fun wx qa qc hbx hox => by
        have hl9 : (ps ++ [(k : Int)]).length = m + 1 := by rw [List.length_append, HMN.out]; rfl
        have hbb := bbw.trans (hbx.mono bbw.size)
        have h9 : Holds .i64 wx.heap.size wx (.slice qa (m + 1) qc) (ps ++ [(k : Int)]) := holds_of_row (by rw [List.map_append]; exact hox)
        have := Score_in N p a cap l HP.out qa qc (ps ++ [(k : Int)]) (fun z hz => by
          rcases List.mem_append.1 hz with h | h
          · exact HPS.out z h
          · simp at h; subst h; omega) (by rw [hl9]; omega) D D1 HD1.out (by omega) wx (by rw [HLN.out]; exact HA.out.next hbb) (by rw [hl9]; exact h9) (HFW.out.next hbb)
        rw [hl9, HLN.out, hc] at this
        refine this.mono ?_
        rintro e W' ⟨rfl, hb⟩
        exact ⟨rfl, hbx.trans (hb.mono hbx.size)⟩
      have HPH : Hid (Holds .i64 w.heap.size wr (.slice pa m pc) ps) := HPP.out.below bbw
      have HBA : Hid (∀ q, Below wr.heap.size wr ((wr.drewN q).alloc (.cells #[.int .i64 (k : Int)] 3))) := fun q => (below_drewN (Below.refl _ _) q).alloc (Nat.le_refl _) _
      have HPHA : Hid (∀ q, Holds .i64 w.heap.size ((wr.drewN q).alloc (.cells #[.int .i64 (k : Int)] 3)) (.slice pa m pc) ps) := fun q => HPH.out.below ((HBA.out q).mono bbw.size)
      have HBB : Hid (Below wr.heap.size wr (wr.alloc (.cells #[.int .i64 (k : Int)] 3))) := (Below.refl _ _).alloc (Nat.le_refl _) _
      have HPHB : Hid (Holds .i64 w.heap.size (wr.alloc (.cells #[.int .i64 (k : Int)] 3)) (.slice pa m pc) ps) := HPH.out.below (HBB.out.mono bbw.size)
      have HNC : Hid ((wr.alloc (.cells #[.int .i64 (k : Int)] 3)).cell? ⟨wr.heap.size, 0, none⟩ = some (.int .i64 (k : Int))) := (Box.new wr 3 #[.int .i64 (k : Int)]).cell 0 _ rfl
      have HBW : Hid (Below w4.heap.size w4 wr) := bw
      have HSZ : Hid (w4.heap.size ≤ wr.heap.size) := bw.size
      obtain ⟨le, hle⟩ : ∃ le, scTo N l D ps k = le := ⟨_, rfl⟩
      rw [hle] at HNX ⊢
      have ELN : (ps.map (Value.int .i64)).length = m := by rw [List.length_map, HMN.out]
      clear hc hle bw
      go_wp2
      go_region_held_law (fun w' => w'.cell? ⟨w.heap.size, 0, none⟩ = some (.int .i64 (N : Int)) ∧ w'.cell? ⟨w.heap.size, 1, none⟩ = some (.int .i64 p) ∧ w'.cell? ⟨w.heap.size, 2, none⟩ = some (.slice a ln cap)) (go_keep) (first | (go_at_call 12; refine (HTW.out _ (by first | exact HPH.out | exact HPHA.out _ | exact HPHB.out)).mono ?_; rintro e w5 ⟨q, rfl, oq, b5⟩; obtain ⟨qa0, qc0, e9⟩ := rowN_shape oq; subst e9; have oq' : w5.ownsRow wr.heap.size 3 1 (.slice qa0 m qc0) m (ps.map (Value.int .i64)) := (by first | exact oq | exact rowN_base oq (by simp)); have BX2 : Below wr.heap.size wr w5 := (by first | exact (below_drewN (Below.refl _ _) _).trans b5 | exact (HBA.out _).trans (b5.mono (by simp)) | exact (below_drewN HBB.out _).trans (b5.mono (by simp))); have m0 := (BX2.cell (p := ⟨w.heap.size, 0, none⟩) hlt1).trans k0; have m1 := (BX2.cell (p := ⟨w.heap.size, 1, none⟩) hlt1).trans k1; have m2 := (BX2.cell (p := ⟨w.heap.size, 2, none⟩) hlt1).trans k2) | (refine step_append_lies _ rfl _ _ 25 rfl wr.heap.size 3 i0 (.int .i64 0) 1 8 Tryd.underlying25 hi hz0 hz1 hz2 rfl (by decide) (.slice qa0 m qc0) m (ps.map (Value.int .i64)) (by simp [Act.eval]) (by exact (oq'.alloc (.cells #[.int .i64 (k : Int)] 3))) ⟨w5.heap.size, 0, none⟩ 1 1 [.int .i64 (k : Int)] (by simp [Act.eval]) rfl (by exact World.news_of_block (World.alloc_heap_new _ _)) (by simp [Value.oneCell']) (by decide) (by unfold maxLen; omega) (by omega) (by have := BX2.size; simp; omega) _ rfl ?_; intro g9 cap9 w9 hown9 hgrow9 hat9 hlt9; have BX9 : Below wr.heap.size wr w9 := (BX2.alloc BX2.size (.cells #[.int .i64 (k : Int)] 3)).grown hgrow9 (by have := BX2.size; simp; omega) (fun z e => (oq'.lt z e).1); have m0' := (BX9.cell (p := ⟨w.heap.size, 0, none⟩) hlt1).trans k0; have m1' := (BX9.cell (p := ⟨w.heap.size, 1, none⟩) hlt1).trans k1; have m2' := (BX9.cell (p := ⟨w.heap.size, 2, none⟩) hlt1).trans k2) | (refine step_append_lies _ rfl _ _ 25 rfl wr.heap.size 3 i0 (.int .i64 0) 1 8 Tryd.underlying25 hi hz0 hz1 hz2 rfl (by decide) (.slice qa0 m qc0) m (ps.map (Value.int .i64)) (by simp [Act.eval]) (by exact oq') ⟨wr.heap.size, 0, none⟩ 1 1 [.int .i64 (k : Int)] (by simp [Act.eval]) rfl (by exact news_at ((b5.cell (p := ⟨wr.heap.size, 0, none⟩) (by simp)).trans HNC.out)) (by simp [Value.oneCell']) (by decide) (by unfold maxLen; omega) (by omega) (by have := BX2.size; simp; omega) _ rfl ?_; intro g9 cap9 w9 hown9 hgrow9 hat9 hlt9; have BX9 : Below wr.heap.size wr w9 := BX2.grown hgrow9 (by have := BX2.size; simp; omega) (fun z e => (oq'.lt z e).1); have m0' := (BX9.cell (p := ⟨w.heap.size, 0, none⟩) hlt1).trans k0; have m1' := (BX9.cell (p := ⟨w.heap.size, 1, none⟩) hlt1).trans k1; have m2' := (BX9.cell (p := ⟨w.heap.size, 2, none⟩) hlt1).trans k2) | (go_at_call 9; refine (HSO.out _ _ _ (by first | exact BX9 | exact below_drewN BX9 _) (by exact hown9)).mono ?_; rintro e w10 ⟨rfl, b10⟩; have m0'' := (b10.cell (p := ⟨w.heap.size, 0, none⟩) hlt1).trans k0; have m1'' := (b10.cell (p := ⟨w.heap.size, 1, none⟩) hlt1).trans k1; have m2'' := (b10.cell (p := ⟨w.heap.size, 2, none⟩) hlt1).trans k2))
      all_goals (
        have bX := HBW.out.trans (b10.mono HSZ.out)
        by_cases hl0 : le < 0
        · have dl0 : decide (le < 0) = true := decide_eq_true hl0
          have e1 : scTo N l D ps (k + 1) = c := by rw [HNX.out]; unfold minStep; rw [if_pos (.inl hl0)]
          clear hl0
          go_wp2
          go_roundw
          case rel => exact ⟨k + 1, hlt, by go_num, by rw [e1], bX⟩
          case measure => simp [intOf]; omega
        · have dl0 : decide (le < 0) = false := decide_eq_false hl0
          by_cases hl1 : c < le
          · have dl1 : decide (c < le) = true := decide_eq_true hl1
            have e1 : scTo N l D ps (k + 1) = c := by rw [HNX.out]; unfold minStep; rw [if_pos (.inr hl1)]
            clear hl0 hl1
            go_wp2
            go_roundw
            case rel => exact ⟨k + 1, hlt, by go_num, by rw [e1], bX⟩
            case measure => simp [intOf]; omega
          · have dl1 : decide (c < le) = false := decide_eq_false hl1
            have e1 : scTo N l D ps (k + 1) = le := by rw [HNX.out]; unfold minStep; rw [if_neg (by omega)]
            clear hl0 hl1
            go_wp2
            go_roundw
            case rel => exact ⟨k + 1, hlt, by go_num, by rw [e1], bX⟩
            case measure => simp [intOf]; omega)
    · obtain rfl : k = 16 := by omega
      rw [HE.out]
      have dVV : (V == V) = true := by simp
      have HWK := beamWakes_any wr (HFW.out.next bbw)
      go_wp2_with (go_at_call 11; refine HWK.mono ?_; rintro e w8 ⟨rfl, b8⟩)
      go_ret
      exact ⟨rfl, bbw.trans (b8.mono bbw.size)⟩

/-- The law, of whatever pile, path and depth. -/
theorem beamScores_walk (n p : Int) (a : Option Addr) (len cap : Nat) (l : List (Int × Int)) (a1 : Option Addr) (len1 cap1 : Nat) (z1 : List Int) (d : Int) (w : World) (h0 : IsSyms w a len cap l) (h1 : IsRow .i64 w a1 len1 cap1 z1) (hF : Firsts w) :
    Calls Tryd.prog 3 #[.agg #[.int .i64 n, .int .i64 p, .slice a len cap], .slice a1 len1 cap1, .int .i64 d] w fun e w' => e = .returned (.bool true) ∧ Below w.heap.size w w' := by
  obtain ⟨rfl, _, _, ha, _⟩ := h0
  obtain ⟨xs, rfl, hx, _⟩ := holds_of_isRow h1
  exact beamScores_any n p a cap l a1 cap1 xs d w ha hx hF

end Go.Proofs.YtdnhnnidlangiabDoor

/-
  BeamNothing: the walk: whatever the numbers, the law answers true, and nothing that lay has turned.
-/
namespace Go.Proofs.YtdnhnnidlangiabDoor
open Go.RowKit

theorem at_place13 (at_ d : Int) (hd : 0 < d) : ∃ p : Nat, (p : Int) < d ∧ (IntKind.u64.wrap at_).tmod d = (p : Int) := by
  have h0 : 0 ≤ IntKind.u64.wrap at_ := by rw [IntKind.wrap_u64]; omega
  have h1 := Int.tmod_nonneg d h0
  have h2 := Int.tmod_lt_of_pos (IntKind.u64.wrap at_) hd
  exact ⟨((IntKind.u64.wrap at_).tmod d).toNat, by omega, by omega⟩
theorem val_walk13 (v : Int) (j : Nat) : (IntKind.u64.wrap (v + (j : Int))).tmod 256 = valN v j := by
  have h0 : 0 ≤ IntKind.u64.wrap (v + (j : Int)) := by rw [IntKind.wrap_u64]; omega
  rw [Int.tmod_eq_emod_of_nonneg h0, IntKind.wrap_u64]
  rfl
theorem wrap_twice13 (z : Int) : IntKind.u64.wrap (IntKind.i64.wrap z) = IntKind.u64.wrap z := by
  rw [IntKind.wrap_u64, IntKind.wrap_u64, IntKind.wrap_i64]; omega

/-- The pile without the last segment's symbols. -/
def nothL (N : Nat) (v : Int) : Nat → List (Int × Int)
  | 0 => []
  | k + 1 => if segN N k = N - 1 then nothL N v k else nothL N v k ++ [((k : Int), valN v k)]
theorem nothL_out {N : Nat} {v : Int} {k : Nat} (h : segN N k = N - 1) : nothL N v (k + 1) = nothL N v k := by simp only [nothL]; rw [if_pos h]
theorem nothL_in {N : Nat} {v : Int} {k : Nat} (h : segN N k ≠ N - 1) : nothL N v (k + 1) = nothL N v k ++ [((k : Int), valN v k)] := by simp only [nothL]; rw [if_neg h]
theorem nothL_mem {N : Nat} {v : Int} : ∀ {k : Nat} {x : Int × Int}, x ∈ nothL N v k → ∃ j, j < k ∧ segN N j ≠ N - 1 ∧ x = ((j : Int), valN v j)
  | 0, x, h => by simp [nothL] at h
  | k + 1, x, h => by
    by_cases hs : segN N k = N - 1
    · rw [nothL_out hs] at h
      obtain ⟨j, h1, h2, h3⟩ := nothL_mem h
      exact ⟨j, by omega, h2, h3⟩
    · rw [nothL_in hs] at h
      rcases List.mem_append.1 h with h | h
      · obtain ⟨j, h1, h2, h3⟩ := nothL_mem h
        exact ⟨j, by omega, h2, h3⟩
      · simp at h
        exact ⟨k, by omega, hs, h⟩
theorem nothL_lt {N : Nat} {v : Int} {k : Nat} : ∀ x ∈ nothL N v k, x.1 < (k : Int) := by
  intro x hx
  obtain ⟨j, hj, _, rfl⟩ := nothL_mem hx
  show (j : Int) < k
  omega
theorem nothL_rises (N : Nat) (v : Int) : ∀ k, Rises (nothL N v k)
  | 0 => List.Pairwise.nil
  | k + 1 => by
    by_cases hs : segN N k = N - 1
    · rw [nothL_out hs]; exact nothL_rises N v k
    · rw [nothL_in hs]
      unfold Rises
      rw [List.pairwise_append]
      refine ⟨nothL_rises N v k, List.pairwise_singleton _ _, fun x hx y hy => ?_⟩
      simp at hy; subst hy
      exact nothL_lt x hx
theorem nothL_ok {N : Nat} {p : Int} {v : Int} (hh : HeadOk (N : Int) p) {k : Nat} (h : (k : Int) ≤ (N : Int) * p) : PileOk (N : Int) p (nothL N v k) := by
  refine ⟨hh, fun x hx => ?_, nothL_rises N v k⟩
  obtain ⟨j, hj, _, rfl⟩ := nothL_mem hx
  have := valN_bd v j
  exact ⟨Int.natCast_nonneg _, by show (j : Int) < (N : Int) * p; omega, this.1, by show valN v j ≤ 255; omega⟩
theorem nothL_last (N : Nat) (v : Int) (k : Nat) : ofL N (nothL N v k) (N - 1) = [] := by
  refine List.eq_nil_iff_forall_not_mem.2 fun x hx => ?_
  obtain ⟨y, hy, h1, _⟩ := ofL_mem.1 hx
  obtain ⟨j, _, h2, rfl⟩ := nothL_mem hy
  exact h2 (by simpa using h1)
theorem putN_last {n p : Int} {L : List (Int × Int)} {k v : Int} (hL : ∀ x ∈ L, x.1 < k) (h : k < n * p) : putN n p L k v = L ++ [(k, v)] := putN_end hL h
/-- Of a pile in which the last segment has no symbols nothing is told. -/
theorem dec_none {N : Nat} {l : List (Int × Int)} {b D : Nat} (hb : 1 ≤ b) (hN : 1 ≤ N) (hno : ofL N l (N - 1) = []) : decB (walkB N l b D N).1 (walkB N l b D N).2 = none := by
  cases hd : decB (walkB N l b D N).1 (walkB N l b D N).2 with
  | none => rfl
  | some z =>
    exfalso
    obtain ⟨ps, M⟩ := z
    obtain ⟨n, t, h1, h2, h3, h4, h5⟩ := decB_inv hd
    obtain ⟨g1, g2, g3, g4⟩ := told_least stB (coB N l) N (beginN : Int) (coB_pos _ _) D b hb (by omega) h1 h4 h5
    obtain ⟨Q, k, hQ⟩ : ∃ Q k, pathOf n = Q ++ [k] := by
      refine ⟨(pathOf n).dropLast, (pathOf n).getLast (fun e => by rw [e] at g2; simp at g2; omega), ?_⟩
      exact (List.dropLast_concat_getLast _).symm
    have hQl : Q.length = N - 1 := by rw [hQ] at g2; simp at g2; omega
    have hz : ∀ k', met stB (coB N l) (beginN : Int) (Q ++ [k']) = met stB (coB N l) (beginN : Int) Q := fun k' => by
      have hc : ∀ s, coB N l (N - 1) s = 0 := fun s => by
        unfold coB
        rw [hno]
        rfl
      rw [met_snoc, hQl, hc, Int.add_zero]
    have hQn : Nibs Q := by rw [hQ] at g3; exact g3.left
    have hm : n.2.1 = met stB (coB N l) (beginN : Int) Q := by rw [g1.2.1, hQ]; exact hz k
    by_cases hk : k = 0
    · have := g4 (Q ++ [1]) (hQn.snoc (by decide)) (by simp; omega) (by rw [hQ, hk]; simp)
      rw [hz 1, hm] at this
      exact absurd this (Int.lt_irrefl _)
    · have := g4 (Q ++ [0]) (hQn.snoc (by decide)) (by simp; omega) (by rw [hQ]; simp; exact fun e => hk e.symm)
      rw [hz 0, hm] at this
      exact absurd this (Int.lt_irrefl _)

set_option maxRecDepth 100000 in
set_option maxHeartbeats 4000000 in
theorem beamNothing_any (a0 a1 a2 a3 a4 : Int) (w : World) (hF : Firsts w) :
    Calls Tryd.prog 5 #[.int .i64 a0, .int .i64 a1, .int .i64 a2, .int .i64 a3, .int .i64 a4] w fun e w' => e = .returned (.bool true) ∧ Below w.heap.size w w' := by
  have HFW : Hid (Firsts w) := hF
  obtain ⟨p0, q0, e0⟩ := at_place13 a0 12 (by decide)
  obtain ⟨p1, q1, e1⟩ := at_place13 a1 4 (by decide)
  obtain ⟨p2, q2, e2⟩ := at_place13 a2 4 (by decide)
  obtain ⟨D, q3, e3⟩ := at_place13 a3 2 (by decide)
  have ew0 : IntKind.i64.wrap (p0 : Int) = (p0 : Int) := by rw [IntKind.wrap_i64]; omega
  have ew1 : IntKind.i64.wrap (p1 : Int) = (p1 : Int) := by rw [IntKind.wrap_i64]; omega
  have ew2 : IntKind.i64.wrap (p2 : Int) = (p2 : Int) := by rw [IntKind.wrap_i64]; omega
  have ew3 : IntKind.i64.wrap (D : Int) = (D : Int) := by rw [IntKind.wrap_i64]; omega
  obtain ⟨N, hN⟩ : ∃ N, 1 + p0 = N := ⟨_, rfl⟩
  obtain ⟨P, hP⟩ : ∃ P, 1 + p1 = P := ⟨_, rfl⟩
  obtain ⟨B, hB⟩ : ∃ B, 1 + p2 = B := ⟨_, rfl⟩
  obtain ⟨D1, hD1⟩ : ∃ D1, D + 1 = D1 := ⟨_, rfl⟩
  have eN : 1 + (p0 : Int) = (N : Int) := by omega
  have eP : 1 + (p1 : Int) = (P : Int) := by omega
  have eB : 1 + (p2 : Int) = (B : Int) := by omega
  have eD : 1 + (D : Int) = (D1 : Int) := by omega
  have HH : Hid (HeadOk (N : Int) (P : Int)) := ⟨by omega, by omega, by omega, by omega⟩
  obtain ⟨T, hT⟩ : ∃ T, N * P = T := ⟨_, rfl⟩
  have eT : (N : Int) * (P : Int) = (T : Int) := by rw [← hT]; simp
  have hT48 : T ≤ 48 := by
    have h9 : N * P ≤ 12 * 4 := Nat.mul_le_mul (by omega) (by omega)
    omega
  have hN1 : 1 ≤ N := by omega
  have hN12 : N ≤ 12 := by omega
  have hP1 : 1 ≤ P := by omega
  have hP4 : P ≤ 4 := by omega
  have hB1 : 1 ≤ B := by omega
  have hB4 : B ≤ 4 := by omega
  have hD1b : D ≤ 1 := by omega
  have HD1 : Hid (D + 1 = D1) := hD1
  have HLT := light_any (N : Int) (B : Int) (D1 : Int)
  have HT : Hid ((N : Int) * (P : Int) = (T : Int)) := eT
  clear hF hN hP hB hD1 hT q0 q1 q2 q3
  go_enter Tryd.func5, Tryd.ntmps5
  go_wp2_with fail
  refine (HLT w).mono ?_
  rintro e wz ⟨he | he, rfl⟩
  · subst he
    go_wp2_with fail
    refine (New_ok (N : Int) (P : Int) HH.out w).mono ?_
    rintro e w1 ⟨rfl, b1⟩
    have hw1s := b1.size
    have xp := Box.new w1 24 #[.int .i64 (N : Int), .int .i64 (P : Int), .slice none 0 0]
    have b2 : Below w1.heap.size w1 (w1.alloc (.cells #[.int .i64 (N : Int), .int .i64 (P : Int), .slice none 0 0] 24)) := (Below.refl _ _).alloc (Nat.le_refl _) _
    have bb2 := b1.trans (b2.mono b1.size)
    have HDE := Decode_ok N (P : Int) none 0 [] (nothL_ok (v := 0) HH.out (k := 0) (by rw [HT.out]; omega)) B hB1 (by omega) D (by omega) (w1.alloc (.cells #[.int .i64 (N : Int), .int .i64 (P : Int), .slice none 0 0] 24)) (syms_nil _ _) (HFW.out.next bb2)
    rw [dec_none (l := []) hB1 hN1 (by simp [ofL]), HD1.out] at HDE
    clear b1 b2
    go_wp2_with fail
    refine HDE.mono ?_
    rintro e w3 ⟨he, b3⟩
    clear HDE
    rcases he with ⟨_, rfl⟩ | ⟨ps, M, hsm, _⟩
    case inr => cases hsm
    have xp3 := xp.next b3
    have bb3 := bb2.trans (b3.mono bb2.size)
    have hlp := xp3.lt
    clear xp b3 bb2
    go_wp2
    go_loopw [15] (fun s15 wr => ∃ (k : Nat) (ra : Option Addr) (rc : Nat), k ≤ T ∧ s15 = .int .i64 k ∧ Box wr w1.heap.size 24 #[.int .i64 (N : Int), .int .i64 (P : Int), .slice ra (nothL N a4 k).length rc] ∧ wr.ownsRow (w1.heap.size + 1) 60 2 (.slice ra (nothL N a4 k).length rc) (nothL N a4 k).length (symCells (nothL N a4 k)) ∧ Below w.heap.size w wr) (fun i _ => T - (intOf i).toNat)
    case atStart => exact ⟨0, none, 0, Nat.zero_le _, rfl, xp3, World.ownsRow_nil _ _ _ _, bb3⟩
    case round =>
      obtain ⟨k, ra, rc, hk, rfl, xr, ho, bw⟩ := hrel
      clear xp3
      have hsz := bw.size
      have hlr := xr.lt
      by_cases hlt : k < T
      · have dk : decide ((k : Int) < (T : Int)) = true := decide_eq_true (by omega)
        have dk' : decide (k < T) = true := decide_eq_true hlt
        have HPO : Hid (PileOk (N : Int) (P : Int) (nothL N a4 k)) := nothL_ok HH.out (by rw [HT.out]; omega)
        have HOR := refOrder_any N hN1 (by omega) wr
        have hsg := (segN_get hN1 (by omega) k).1
        have emd : (k : Int).tmod (N : Int) = ((k % N : Nat) : Int) := by rw [Int.tmod_eq_emod_of_nonneg (by omega)]; simp
        have hmd : k % N < N := Nat.mod_lt _ (by omega)
        obtain ⟨j, hj⟩ : ∃ j, k % N = j := ⟨_, rfl⟩
        rw [hj] at emd hmd hsg
        have hn0 : ¬ (N : Int) = 0 := by omega
        have hvb := valN_bd a4 k
        have eval : (IntKind.u64.wrap (wrap64 (a4 + (k : Int)))).tmod 256 = valN a4 k := by
          have e : wrap64 (a4 + (k : Int)) = IntKind.i64.wrap (a4 + (k : Int)) := by unfold wrap64; exact (IntKind.wrap_i64 _).symm
          rw [e, wrap_twice13, val_walk13]
        have ewv : IntKind.i64.wrap (valN a4 k) = valN a4 k := by rw [IntKind.wrap_i64]; omega
        obtain ⟨sg, hsge⟩ : ∃ sg, segN N k = sg := ⟨_, rfl⟩
        rw [hsge] at hsg
        have HSG : Hid (segN N k = sg) := hsge
        obtain ⟨vv, hvv⟩ : ∃ vv, valN a4 k = vv := ⟨_, rfl⟩
        rw [hvv] at hvb eval ewv
        have HVV : Hid (valN a4 k = vv) := hvv
        clear hj hsge hvv
        go_wp2_with fail
        refine HOR.mono ?_
        rintro e w4 ⟨r4, rfl, o4, b4⟩
        clear HOR
        obtain ⟨oa, oc, e4⟩ := rowN_shape o4
        subst e4
        have hO4 := holds_of_row o4
        have hol : (orderL N).length = N := by unfold orderL; rw [List.length_map, orderN_len N (by omega)]
        obtain ⟨ob, oof, rfl, _, hoc⟩ := holds_at hO4 hol (by omega)
        have cO := hoc j (sg : Int) (by unfold orderL; rw [List.getElem?_map, hsg]; rfl)
        have x4 := xr.next b4
        have ho4 := rowN_below ho b4 (Nat.le_refl _)
        have bw4 := bw.trans (b4.mono hsz)
        have hl4 := x4.lt
        obtain ⟨N1, hN1e⟩ : ∃ N1, N - 1 = N1 := ⟨_, rfl⟩
        have eN1 : (N : Int) - 1 = (N1 : Int) := by omega
        have HN1 : Hid (N - 1 = N1) := hN1e
        have hj12 : j < 12 := by omega
        have hoo : (0 : Int) ≤ (j : Int) := by omega
        have hoo2 : (j : Int) < (N : Int) := by omega
        clear o4 hO4 hoc hol hsg ho xr b4 hN1e
        by_cases hsN : sg = N1
        · have ds : ((sg : Int) == (N1 : Int)) = true := by rw [hsN]; simp
          have HHE : Hid (nothL N a4 (k + 1) = nothL N a4 k) := nothL_out (by rw [HSG.out, HN1.out]; exact hsN)
          clear hsN
          go_wp2
          go_roundw
          case rel => exact ⟨k + 1, ra, rc, by omega, by go_num, by rw [HHE.out]; exact x4, by rw [HHE.out]; exact ho4, bw4⟩
          case measure => simp [intOf]; omega
        · have ds : ((sg : Int) == (N1 : Int)) = false := by rw [beq_eq_false_iff_ne]; omega
          have HHE : Hid (nothL N a4 (k + 1) = nothL N a4 k ++ [((k : Int), vv)]) := by
            have h9 := nothL_in (v := a4) (show segN N k ≠ N - 1 by rw [HSG.out, HN1.out]; exact hsN)
            rw [HVV.out] at h9
            exact h9
          have HPT := Put_in (N : Int) (P : Int) (k : Int) vv (by omega) (by omega) (by omega) (by omega) ra rc (nothL N a4 k) HPO.out w4 (syms_of_row ho4) (rowCap_of ho4)
          rw [putN_last nothL_lt (by rw [HT.out]; omega), ← HHE.out] at HPT
          have c0 := x4.cell 0 _ rfl
          have c1 := x4.cell 1 _ rfl
          have c2 := x4.cell 2 _ rfl
          clear hsN
          go_wp2_with fail
          refine HPT.mono ?_
          rintro e w5 ⟨r5, rfl, o5, b5⟩
          clear HPT c0 c1 c2
          obtain ⟨r5a, r5c, e5⟩ := (syms_of_row o5).shape
          subst e5
          have x5 := x4.next b5
          have bw5 := bw4.trans (b5.mono bw4.size)
          obtain ⟨hl', hhl⟩ : ∃ hl', (nothL N a4 (k + 1)).length = hl' := ⟨_, rfl⟩
          rw [hhl] at o5 ⊢
          have HHL : Hid ((nothL N a4 (k + 1)).length = hl') := hhl
          have x6 := x5.alloc (.cells #[.int .i64 (N : Int), .int .i64 (P : Int), .slice r5a hl' r5c] 24)
          have xn := Box.new w5 24 #[.int .i64 (N : Int), .int .i64 (P : Int), .slice r5a hl' r5c]
          have k0 := x6.cell 0 _ rfl
          have k1 := x6.cell 1 _ rfl
          have k2 := x6.cell 2 _ rfl
          have f0 := x6.free 0
          have f1 := x6.free 1
          have f2 := x6.free 2
          have m0 := xn.cell 0 _ rfl
          have m1 := xn.cell 1 _ rfl
          have m2 := xn.cell 2 _ rfl
          have h5s := b5.size
          clear hhl HHE
          go_wp2
          exact ⟨⟨k + 1, r5a, r5c, by omega, by go_num, by rw [HHL.out]; exact x6.set3 _ _ _, by rw [HHL.out]; exact row_set3 ((rowN_base o5 hl4).alloc _) (D := w1.heap.size) (by omega) _ _ _, below_set3 (bw5.alloc bw5.size _) (D := w1.heap.size) hw1s _ _ _⟩, by simp [intOf]; omega⟩
      · obtain rfl : k = T := by omega
        have dk : decide ((k : Int) < (k : Int)) = false := decide_eq_false (by omega)
        have HDE := Decode_ok N (P : Int) ra rc (nothL N a4 k) (nothL_ok HH.out (by rw [HT.out]; omega)) B hB1 (by omega) D (by omega) wr (syms_of_row ho) (HFW.out.next bw)
        rw [dec_none hB1 hN1 (nothL_last N a4 k), HD1.out] at HDE
        have c0 := xr.cell 0 _ rfl
        have c1 := xr.cell 1 _ rfl
        have c2 := xr.cell 2 _ rfl
        obtain ⟨hl', hhl⟩ : ∃ hl', (nothL N a4 k).length = hl' := ⟨_, rfl⟩
        rw [hhl] at HDE c2
        clear hhl ho xr
        go_wp2_with fail
        refine HDE.mono ?_
        rintro e w7 ⟨he, b7⟩
        clear HDE
        rcases he with ⟨_, rfl⟩ | ⟨ps, M, hsm, _⟩
        case inr => cases hsm
        have bb7 := bw.trans (b7.mono bw.size)
        have HWK := beamWakes_any w7 (HFW.out.next bb7)
        go_wp2_with (go_at_call 11; refine HWK.mono ?_; rintro e w8 ⟨rfl, b8⟩)
        go_ret
        exact ⟨rfl, bb7.trans (b8.mono bb7.size)⟩
  · subst he
    go_wp2
    go_ret
    exact ⟨rfl, Below.refl _ _⟩

end Go.Proofs.YtdnhnnidlangiabDoor

/-
  What a block's own path costs where some bits of its symbols were turned: as many as were turned; and so what is decoded costs no more. No program is spoken of.
-/
namespace Go.Proofs.YtdnhnnidlangiabDoor

def sumTo (f : Nat → Nat) : Nat → Nat
  | 0 => 0
  | i + 1 => sumTo f i + f i
theorem sumTo_same {f g : Nat → Nat} : ∀ n, (∀ j, j < n → g j = f j) → sumTo g n = sumTo f n
  | 0, _ => rfl
  | n + 1, h => by rw [sumTo, sumTo, sumTo_same n (fun j hj => h j (by omega)), h n (by omega)]
theorem sumTo_one {f g : Nat → Nat} {s x : Nat} : ∀ n, s < n → (∀ j, j ≠ s → g j = f j) → g s = f s + x → sumTo g n = sumTo f n + x
  | 0, h, _, _ => absurd h (Nat.not_lt_zero _)
  | n + 1, h, hj, hs => by
    rw [sumTo, sumTo]
    by_cases e : s = n
    · subst e
      rw [hs, sumTo_same s (fun j hj' => hj j (by omega))]
      omega
    · rw [sumTo_one n (by omega) hj hs, hj n (fun h => e h.symm)]
      omega
/-- What a block's own path costs, of whatever symbols. -/
theorem claim_met (zs : List Int) (l : List (Int × Int)) : ∀ i, i ≤ 2 * zs.length → met stB (coB (2 * zs.length) l) (beginN : Int) ((nibs zs).take i) = ((sumTo (fun j => costN (stN zs j) (ofL (2 * zs.length) l j)) i : Nat) : Int)
  | 0, _ => by rw [List.take_zero]; rfl
  | i + 1, hi => by
    have hil : i < (nibs zs).length := by rw [nibs_len]; omega
    obtain ⟨k, hk⟩ : ∃ k, (nibs zs)[i]? = some k := ⟨(nibs zs)[i], by simp⟩
    have e : (nibs zs).take (i + 1) = (nibs zs).take i ++ [k] := by rw [List.take_add_one, hk]; rfl
    have e2 : stB (sta stB (coB (2 * zs.length) l) (beginN : Int) ((nibs zs).take i)) k = ((stN zs i : Nat) : Int) := by
      rw [← sta_snoc stB (coB (2 * zs.length) l) (beginN : Int), ← e, sta_last]
      rfl
    rw [e, met_snoc, claim_met zs l i (by omega), e2, List.length_take, Nat.min_eq_left (by omega)]
    unfold coB
    rw [Int.toNat_natCast, sumTo]
    simp
/-- How many bits of the first symbols were turned. -/
def turnTo (ts : List Nat) : Nat → Nat
  | 0 => 0
  | k + 1 => turnTo ts k + pcTo 8 (ts[k]?.getD 0)
theorem turnTo_le (ts : List Nat) : ∀ k, turnTo ts k ≤ 8 * k
  | 0 => by rw [turnTo]; omega
  | k + 1 => by
    have := turnTo_le ts k
    have := pcTo_le 8 (ts[k]?.getD 0)
    rw [turnTo]
    omega
theorem turnTo_stop {ts : List Nat} : ∀ {k : Nat}, ts.length ≤ k → turnTo ts k = turnTo ts ts.length
  | 0, h => by rw [show ts.length = 0 by omega]
  | k + 1, h => by
    by_cases e : ts.length = k + 1
    · rw [e]
    · rw [turnTo, turnTo_stop (k := k) (by omega), List.getElem?_eq_none (by omega)]
      rfl
theorem heard_sum {zs : List Int} {ts : List Nat} (h0 : 1 ≤ zs.length) (hn : 2 * zs.length < 65) (bt : ∀ t ∈ ts, t < 256) : ∀ C, sumTo (fun j => costN (stN zs j) (ofL (2 * zs.length) (heardL zs [] ts C) j)) (2 * zs.length) = turnTo ts C
  | 0 => by
    rw [turnTo]
    refine (sumTo_same (f := fun _ => 0) (g := fun j => costN (stN zs j) (ofL (2 * zs.length) (heardL zs [] ts 0) j)) _ (fun j _ => rfl)).trans ?_
    generalize 2 * zs.length = n
    induction n with
    | zero => rfl
    | succ n ih => rw [sumTo, ih]
  | C + 1 => by
    rw [turnTo, ← heard_sum h0 hn bt C]
    have hs := (segN_get (n := 2 * zs.length) (by omega) hn C).2
    refine sumTo_one (s := segN (2 * zs.length) C) _ hs (fun j hj => ?_) ?_
    · show costN _ _ = costN _ _
      rw [heardL_in (hOut_nil C), ofL_snoc, if_neg (by simpa using fun e => hj e.symm), List.append_nil]
    · show costN _ _ = costN _ _ + _
      rw [heardL_in (hOut_nil C), ofL_snoc, if_pos (by simp), costN_snoc]
      congr 1
      unfold oneCost
      simp only [Int.toNat_natCast]
      have e : symN (stN zs (segN (2 * zs.length) C)) (C / (2 * zs.length)) = codeN zs C := rfl
      have ht : ts[C]?.getD 0 < 256 := by
        cases hc : ts[C]? with
        | none => simp
        | some t => exact bt t (List.mem_of_getElem? hc)
      rw [e]
      unfold hvN
      rw [← Nat.xor_assoc, Nat.xor_self, Nat.zero_xor, pc_byte ht]
/-- What is told costs no more than was turned. -/
theorem claim_told {zs : List Int} {ts : List Nat} (h0 : 1 ≤ zs.length) (hn : 2 * zs.length < 65) (bt : ∀ t ∈ ts, t < 256) {C b D : Nat} (hb : 1 ≤ b) {ps : List Int} {M : Int} (h : decB (walkB (2 * zs.length) (heardL zs [] ts C) b D (2 * zs.length)).1 (walkB (2 * zs.length) (heardL zs [] ts C) b D (2 * zs.length)).2 = some (ps, M)) :
    Path ps ∧ ps.length = 2 * zs.length ∧ metB (2 * zs.length) (heardL zs [] ts C) ps = M ∧ M ≤ (turnTo ts C : Int) := by
  obtain ⟨n, t, e1, e2, e3, e4, e5⟩ := decB_inv h
  obtain ⟨h1, h2, h3, h4⟩ := told_least stB (coB (2 * zs.length) (heardL zs [] ts C)) (2 * zs.length) (beginN : Int) (coB_pos _ _) D b hb (by omega) e1 e4 e5
  have hT := claim_met zs (heardL zs [] ts C) (2 * zs.length) (Nat.le_refl _)
  rw [List.take_of_length_le (by rw [nibs_len]; exact Nat.le_refl _), heard_sum h0 hn bt C] at hT
  have hm := h1.2.1
  rw [e3] at hm h4
  rw [e2] at h2 h3 hm h4
  refine ⟨fun z hz => by have := h3 z hz; omega, h2, hm.symm, ?_⟩
  by_cases hp : nibs zs = ps
  · rw [← hT, hm, ← hp]
    exact Int.le_refl _
  · have := h4 (nibs zs) (nibs_nibs zs) (nibs_len zs) hp
    omega

end Go.Proofs.YtdnhnnidlangiabDoor

/-
  BeamClaims: the walk: whatever the bytes, the turns and the numbers, the law answers true, and nothing that lay has turned.
-/
namespace Go.Proofs.YtdnhnnidlangiabDoor
open Go.RowKit

theorem at_place16 (at_ d : Int) (hd : 0 < d) : ∃ p : Nat, (p : Int) < d ∧ (IntKind.u64.wrap at_).tmod d = (p : Int) := by
  have h0 : 0 ≤ IntKind.u64.wrap at_ := by rw [IntKind.wrap_u64]; omega
  have h1 := Int.tmod_nonneg d h0
  have h2 := Int.tmod_lt_of_pos (IntKind.u64.wrap at_) hd
  exact ⟨((IntKind.u64.wrap at_).tmod d).toNat, by omega, by omega⟩

set_option maxRecDepth 100000 in
theorem claim_and (a : Nat) (ha : a < 256) : bits .and .u8 (a : Int) 1 = ((a % 2 : Nat) : Int) := by
  have : ∀ b : Fin 256, bits .and .u8 ((b.val : Nat) : Int) 1 = ((b.val % 2 : Nat) : Int) := by decide
  exact this ⟨a, ha⟩
theorem claim_bit (t k : Nat) (ht : t < 256) : bits .and .u8 ((t : Int) / 2 ^ k) 1 = ((t.testBit k).toNat : Int) := by
  have hd : ((t : Int) / 2 ^ k) = ((t / 2 ^ k : Nat) : Int) := by simp
  have hle : t / 2 ^ k ≤ t := Nat.div_le_self _ _
  rw [hd, claim_and _ (by omega), Nat.toNat_testBit]
theorem claim_next (tt t k : Nat) (h : tt ≤ 1048576) (hk : k < 8) : Value.int .i64 (wrap64 ((tt : Int) + (pcTo k t : Int) + wrap64 ((t.testBit k).toNat : Int))) = Value.int .i64 ((tt + pcTo (k + 1) t : Nat) : Int) := by
  have h1 := pcTo_le k t
  have h2 := Bool.toNat_le (t.testBit k)
  rw [pcTo_succ]
  congr 1
  unfold wrap64
  omega

set_option maxRecDepth 100000 in
set_option maxHeartbeats 2000000 in
theorem beamClaims_few (a : Option Addr) (n cap : Nat) (x y : Int) (oa : Option Addr) (on oc : Nat) (u v : Int) (w : World) (h : n < 1 ∨ 4 < n ∨ 200 < on) :
    Calls Tryd.prog 6 #[.slice a n cap, .int .i64 x, .int .i64 y, .slice oa on oc, .int .i64 u, .int .i64 v] w fun e w' => e = .returned (.bool true) ∧ Below w.heap.size w w' := by
  by_cases h1 : n < 1
  · have d0 : decide ((n : Int) < 1) = true := decide_eq_true (by omega)
    clear h h1
    go_enter Tryd.func6, Tryd.ntmps6
    go_wp2
    go_ret
    exact ⟨rfl, Below.refl _ _⟩
  · have d0 : decide ((n : Int) < 1) = false := decide_eq_false (by omega)
    by_cases h2 : 4 < n
    · have d1 : decide (4 < (n : Int)) = true := decide_eq_true (by omega)
      clear h h1 h2
      go_enter Tryd.func6, Tryd.ntmps6
      go_wp2
      go_ret
      exact ⟨rfl, Below.refl _ _⟩
    · have d1 : decide (4 < (n : Int)) = false := decide_eq_false (by omega)
      have d2 : decide (200 < (on : Int)) = true := decide_eq_true (by omega)
      clear h h1 h2
      go_enter Tryd.func6, Tryd.ntmps6
      go_wp2
      go_ret
      exact ⟨rfl, Below.refl _ _⟩

set_option maxRecDepth 100000 in
set_option maxHeartbeats 4000000 in
theorem beamClaims_in (a : Option Addr) (cap : Nat) (zs : List Int) (bz : ∀ z ∈ zs, 0 ≤ z ∧ z ≤ 255) (h1 : 1 ≤ zs.length) (h8 : zs.length ≤ 4) (x y : Int) (ta : Option Addr) (tn tc : Nat) (ts : List Nat) (htl : ts.length = tn) (htn : tn ≤ 200) (bt : ∀ t ∈ ts, t < 256) (u v : Int) (w : World) (hF : Firsts w) (ha : Holds .u8 w.heap.size w (.slice a zs.length cap) zs) (hT : Holds .u8 w.heap.size w (.slice ta tn tc) (ts.map fun t : Nat => (t : Int))) :
    Calls Tryd.prog 6 #[.slice a zs.length cap, .int .i64 x, .int .i64 y, .slice ta tn tc, .int .i64 u, .int .i64 v] w fun e w' => e = .returned (.bool true) ∧ Below w.heap.size w w' := by
  have HA : Hid (Holds .u8 w.heap.size w (.slice a zs.length cap) zs) := ha
  have HTT : Hid (Holds .u8 w.heap.size w (.slice ta tn tc) (ts.map fun t : Nat => (t : Int))) := hT
  have HBT : Hid (∀ t ∈ ts, t < 256) := bt
  have HTL : Hid (ts.length = tn) := htl
  have HFW : Hid (Firsts w) := hF
  obtain ⟨L, hL⟩ : ∃ L, zs.length = L := ⟨_, rfl⟩
  have HZ : Hid (zs.length = L) := hL
  rw [hL] at HA h1 h8 ⊢
  obtain ⟨n, hn⟩ : ∃ n, 2 * L = n := ⟨_, rfl⟩
  have e2 : 2 * (L : Int) = (n : Int) := by omega
  obtain ⟨px, hpx, ex⟩ := at_place16 x 5 (by decide)
  obtain ⟨pu, hpu, eu⟩ := at_place16 u 4 (by decide)
  obtain ⟨D, hD, ev⟩ := at_place16 v 2 (by decide)
  have ewx : IntKind.i64.wrap (px : Int) = (px : Int) := by rw [IntKind.wrap_i64]; omega
  have ewu : IntKind.i64.wrap (pu : Int) = (pu : Int) := by rw [IntKind.wrap_i64]; omega
  have ewz : IntKind.i64.wrap (D : Int) = (D : Int) := by rw [IntKind.wrap_i64]; omega
  obtain ⟨P, hP⟩ : ∃ P, 1 + px = P := ⟨_, rfl⟩
  have eP : 1 + (px : Int) = (P : Int) := by omega
  obtain ⟨B, hB⟩ : ∃ B, 1 + pu = B := ⟨_, rfl⟩
  have eB : 1 + (pu : Int) = (B : Int) := by omega
  obtain ⟨D1, hD1⟩ : ∃ D1, D + 1 = D1 := ⟨_, rfl⟩
  have eD : 1 + (D : Int) = (D1 : Int) := by omega
  have hP1 : 1 ≤ P := by omega
  have hP4 : P ≤ 5 := by omega
  obtain ⟨Q, hQ⟩ : ∃ Q, n * P + 1 = Q := ⟨_, rfl⟩
  have hnP : n * P ≤ 40 := by
    have h9 : n * P ≤ 8 * 5 := Nat.mul_le_mul (by omega) hP4
    omega
  obtain ⟨T, hT⟩ : ∃ T, n * P = T := ⟨_, rfl⟩
  have eT : (n : Int) * (P : Int) = (T : Int) := by rw [← hT]; simp
  rw [hT] at hQ hnP
  have eQ : (T : Int) + 1 = (Q : Int) := by omega
  have ewQ : IntKind.u64.wrap (Q : Int) = (Q : Int) := by rw [IntKind.wrap_u64]; omega
  obtain ⟨C, hC, ey⟩ := at_place16 y (Q : Int) (by omega)
  have ewC : IntKind.i64.wrap (C : Int) = (C : Int) := by rw [IntKind.wrap_i64]; omega
  have hCT : C ≤ 2 * L * P := by rw [hn, hT]; omega
  have HLT := light_any (n : Int) (B : Int) (D1 : Int)
  have HH := heard_any a L cap zs HZ.out h1 (by omega) bz P C hP1 (by omega) hCT none 0 0 [] rfl (by decide) ta tn tc ts htl (by omega) bt w hF HA.out (flags_nil _ _) HTT.out
  have HOK : Hid (PileOk ((n : Nat) : Int) ((P : Nat) : Int) (heardL zs [] ts C)) := heardL_ok ⟨by omega, by omega, by omega, by omega⟩ bt (fun k => codeN_lt _ k) (by rw [eT]; omega)
  have HDE : Hid (∀ ps M, decB (walkB n (heardL zs [] ts C) B D n).1 (walkB n (heardL zs [] ts C) B D n).2 = some (ps, M) → Path ps ∧ ps.length = n ∧ metB n (heardL zs [] ts C) ps = M ∧ M ≤ (turnTo ts C : Int)) := fun ps M h => by
    have h9 := claim_told (zs := zs) (ts := ts) (C := C) (b := B) (D := D) (by rw [HZ.out]; exact h1) (by rw [HZ.out]; omega) bt (by omega) (ps := ps) (M := M) (by rw [HZ.out, hn]; exact h)
    rw [HZ.out, hn] at h9
    exact h9
  rw [hn] at HH
  have hB1 : 1 ≤ B := by omega
  have hB4 : B ≤ 4 := by omega
  have hD2 : D ≤ 1 := by omega
  have hn16 : n ≤ 8 := by omega
  have hC96 : C ≤ 40 := by omega
  have HD1 : Hid (D + 1 = D1) := hD1
  have d0 : decide ((L : Int) < 1) = false := decide_eq_false (by omega)
  have d1 : decide (4 < (L : Int)) = false := decide_eq_false (by omega)
  have d2 : decide (200 < (tn : Int)) = false := decide_eq_false (by omega)
  have d0' : decide (L < 1) = false := decide_eq_false (by omega)
  have d1' : decide (4 < L) = false := decide_eq_false (by omega)
  have d2' : decide (200 < tn) = false := decide_eq_false (by omega)
  clear ha bz hF hL hn hQ hB hD1 hC hpx hpu hD hP hT hCT htl bt
  go_enter Tryd.func6, Tryd.ntmps6
  go_wp2_with fail
  refine (HLT w).mono ?_
  rintro e wz ⟨he | he, rfl⟩
  case inr =>
    subst he
    go_wp2
    go_ret
    exact ⟨rfl, Below.refl _ _⟩
  subst he
  go_wp2_with fail
  refine HH.mono ?_
  rintro e w1 ⟨r, rfl, o1, b1⟩
  clear HH
  obtain ⟨ra, rc, e1⟩ := rowN_shape o1
  have hs1 := syms_of_row o1
  rw [e1] at hs1
  obtain ⟨ll, hll⟩ : ∃ ll, heardL zs [] ts C = ll := ⟨_, rfl⟩
  rw [hll] at hs1 HOK HDE e1
  obtain ⟨ln, hln⟩ : ∃ ln, ll.length = ln := ⟨_, rfl⟩
  have HLN : Hid (ll.length = ln) := hln
  have b2 : Below w1.heap.size w1 (w1.alloc (.cells #[.int .i64 (n : Int), .int .i64 (P : Int), .slice ra ln rc] 24)) := (Below.refl _ _).alloc (Nat.le_refl _) _
  have xp := Box.new w1 24 #[.int .i64 (n : Int), .int .i64 (P : Int), .slice ra ln rc]
  have bb2 := b1.trans (b2.mono b1.size)
  have HD := Decode_ok n P ra rc ll HOK.out B hB1 (by omega) D (by omega) (w1.alloc (.cells #[.int .i64 (n : Int), .int .i64 (P : Int), .slice ra ln rc] 24)) (hs1.next b2) (HFW.out.next bb2)
  rw [hln, HD1.out] at HD
  rw [hln] at e1
  have HSY : Hid (Syms (w1.alloc (.cells #[.int .i64 (n : Int), .int .i64 (P : Int), .slice ra ln rc] 24)).heap.size (w1.alloc (.cells #[.int .i64 (n : Int), .int .i64 (P : Int), .slice ra ln rc] 24)) (.slice ra ll.length rc) ll) := hs1.next b2
  subst e1
  clear hs1 o1 hll hln b1 b2
  go_wp2_with fail
  refine HD.mono ?_
  rintro e w3 ⟨he, b3⟩
  clear HD
  have bb3 := bb2.trans (b3.mono bb2.size)
  have HWK3 := beamWakes_any w3 (HFW.out.next bb3)
  rcases he with ⟨_, rfl⟩ | ⟨ps, M, hsm, qa, qc, rfl, hqc, hH⟩
  · clear HDE b3
    go_wp2_with (go_at_call 11; refine HWK3.mono ?_; rintro e w6 ⟨rfl, b6⟩)
    go_ret
    exact ⟨rfl, bb3.trans (b6.mono bb3.size)⟩
  clear HWK3
  obtain ⟨f1, f2, f3, f4⟩ := HDE.out ps M hsm
  have xp3 := xp.next b3
  have HS3 : Hid (Syms w3.heap.size w3 (.slice ra ll.length rc) ll) := HSY.out.next b3
  have HND := Node_ok n P ra rc ll HOK.out qa qc ps f1 (by omega) w3 HS3.out hH (HFW.out.next bb3)
  rw [f2, HLN.out, f3] at HND
  have hM0 : 0 ≤ M := by rw [← f3]; exact metB_pos _ _ _
  rw [f2]
  have HF4 : Hid (M ≤ (turnTo ts C : Int)) := f4
  have HTH : Hid (Holds .u8 w3.heap.size w3 (.slice ta tn tc) (ts.map fun t : Nat => (t : Int))) := HTT.out.next bb3
  have hTC := turnTo_le ts C
  clear HDE hsm f1 f2 f3 f4 hH hqc HSY xp b3 bb2 HTT
  go_wp2
  obtain ⟨E, hE⟩ : ∃ E, min C tn = E := ⟨_, rfl⟩
  go_loopw [18, 19] (fun sa sb wr => ∃ i : Nat, i ≤ E ∧ sb = .int .i64 i ∧ sa = .int .i64 ((turnTo ts i : Nat) : Int) ∧ w3 = wr) (fun _ i _ => E - (intOf i).toNat)
  case atStart => exact ⟨0, by omega, rfl, rfl, rfl⟩
  case round =>
    obtain ⟨i, hi, rfl, rfl, rfl⟩ := hrel
    by_cases hlt : i < E
    · have hiC : i < C := by omega
      have hit : i < tn := by omega
      have di : decide ((i : Int) < (C : Int)) = true := decide_eq_true (by omega)
      have di' : decide (i < C) = true := decide_eq_true hiC
      have dj : decide ((i : Int) < (tn : Int)) = true := decide_eq_true (by omega)
      have dj' : decide (i < tn) = true := decide_eq_true hit
      obtain ⟨t, ht⟩ : ∃ t, ts[i]? = some t := ⟨ts[i]'(by rw [HTL.out]; exact hit), by simp⟩
      have ht256 : t < 256 := HBT.out t (List.mem_of_getElem? ht)
      have HNX : Hid (turnTo ts (i + 1) = turnTo ts i + pcTo 8 t) := by
        show turnTo ts (i + 1) = turnTo ts i + pcTo 8 t
        rw [turnTo, ht]
        rfl
      have hTi := turnTo_le ts i
      obtain ⟨tb, tof, rfl, htb, htc⟩ := holds_at HTH.out (show (ts.map fun t : Nat => (t : Int)).length = tn by rw [List.length_map, HTL.out]) (by omega)
      have ct := htc i (t : Int) (by rw [List.getElem?_map, ht]; rfl)
      obtain ⟨tt, htt⟩ : ∃ tt, turnTo ts i = tt := ⟨_, rfl⟩
      rw [htt] at HNX hTi ⊢
      clear htc htt ht
      go_wp2
      go_loopw [18, 20] (fun sa sk wq => ∃ k : Nat, k ≤ 8 ∧ sk = .int .i64 k ∧ sa = .int .i64 ((tt + pcTo k t : Nat) : Int) ∧ w3 = wq) (fun _ k _ => 8 - (intOf k).toNat)
      case atStart => exact ⟨0, by omega, rfl, rfl, rfl⟩
      case round =>
        obtain ⟨k, hk, rfl, rfl, rfl⟩ := hrel
        have hpk := pcTo_le k t
        by_cases hk8 : k < 8
        · go_wp2
          refine ⟨⟨k + 1, by omega, by go_num, ?_, trivial⟩, by simp [intOf]; omega⟩
          rw [claim_bit t k ht256, claim_next tt t k (by omega) hk8]
        · obtain rfl : k = 8 := by omega
          go_wp2
          go_roundw
          case rel => exact ⟨i + 1, by omega, by go_num, by rw [HNX.out], trivial⟩
          case measure => simp [intOf]; omega
    · obtain rfl : i = E := by omega
      have ed : (decide (i < C) && decide (i < tn)) = false := by
        by_cases hc : i < C
        · have : ¬ i < tn := by omega
          simp [this]
        · simp [hc]
      have eTT : turnTo ts i = turnTo ts C := by
        by_cases hc : C ≤ tn
        · rw [show i = C by omega]
        · rw [show i = ts.length by rw [HTL.out]; omega, turnTo_stop (k := C) (by rw [HTL.out]; omega)]
      rw [eTT]
      obtain ⟨TT, hTT⟩ : ∃ TT, turnTo ts C = TT := ⟨_, rfl⟩
      have hMT := HF4.out
      rw [hTT] at hMT hTC ⊢
      have dMT : decide (M ≤ (TT : Int)) = true := decide_eq_true hMT
      have dMC : decide (M ≤ 8 * (C : Int)) = true := decide_eq_true (by omega)
      have dMM : (M == M) = true := by simp
      have dnn : ((n : Int) == (n : Int)) = true := by simp
      have HWA : Hid (∀ wx : World, Below w.heap.size w wx → Syms wx.heap.size wx (.slice ra ll.length rc) ll → Calls Tryd.prog 14 #[.agg #[.int .i64 n, .int .i64 P, .slice ra ln rc], .int .i64 (B : Int), .int .i64 (D1 : Int)] wx fun e W' => ∃ r c, e = .returned (.tuple #[r, .int .i64 c, .int .i64 0]) ∧ Below wx.heap.size wx W') := fun wx hb hs => by
        have h9 := Walk_ok n P ra rc ll HOK.out B hB1 (by omega) D (by omega) wx hs (HFW.out.next hb)
        rw [HLN.out, HD1.out] at h9
        refine h9.mono ?_
        rintro e W' ⟨r, rfl, _, hb'⟩
        exact ⟨r, _, rfl, hb'⟩
      clear eTT hTT hMT HTH
      by_cases hc : i < C
      · have di : decide ((i : Int) < (C : Int)) = true := decide_eq_true (by omega)
        have di' : decide (i < C) = true := decide_eq_true hc
        have dj : decide ((i : Int) < (tn : Int)) = false := decide_eq_false (by omega)
        have dj' : decide (i < tn) = false := decide_eq_false (by omega)
        clear hc ed
        have c0 := xp3.cell 0 _ rfl
        have c1 := xp3.cell 1 _ rfl
        have c2 := xp3.cell 2 _ rfl
        go_wp2_with fail
        refine HND.mono ?_
        rintro e w5 ⟨pa, pc, rfl, o5, b5⟩
        clear HND o5 c0 c1 c2
        have xn := Box.new w5 34 #[.int .u32 (staB n ll ps), .int .i64 M, .int .i64 0, .slice pa n pc]
        have b6 : Below w3.heap.size w3 (w5.alloc (.cells #[.int .u32 (staB n ll ps), .int .i64 M, .int .i64 0, .slice pa n pc] 34)) := b5.alloc b5.size _
        have bb6 := bb3.trans (b6.mono bb3.size)
        have x6 := xp3.next b6
        have c0 := x6.cell 0 _ rfl
        have c1 := x6.cell 1 _ rfl
        have c2 := x6.cell 2 _ rfl
        have HW6 := HWA.out _ bb6 (HS3.out.next b6)
        clear b5
        go_wp2_with fail
        refine HW6.mono ?_
        rintro e w7 ⟨r7, cu, rfl, b7⟩
        have bb7 := bb6.trans (b7.mono bb6.size)
        have xn7 := xn.next b7
        have x7 := x6.next b7
        have j1 := xn7.cell 1 _ rfl
        have j0 := x7.cell 0 _ rfl
        have HWK := beamWakes_any w7 (HFW.out.next bb7)
        clear HW6 b7 c0 c1 c2
        go_wp2_with (go_at_call 11; refine HWK.mono ?_; rintro e w8 ⟨rfl, b8⟩)
        go_ret
        exact ⟨rfl, bb7.trans (b8.mono bb7.size)⟩
      · have di : decide ((i : Int) < (C : Int)) = false := decide_eq_false (by omega)
        have di' : decide (i < C) = false := decide_eq_false hc
        clear hc ed
        have c0 := xp3.cell 0 _ rfl
        have c1 := xp3.cell 1 _ rfl
        have c2 := xp3.cell 2 _ rfl
        go_wp2_with fail
        refine HND.mono ?_
        rintro e w5 ⟨pa, pc, rfl, o5, b5⟩
        clear HND o5 c0 c1 c2
        have xn := Box.new w5 34 #[.int .u32 (staB n ll ps), .int .i64 M, .int .i64 0, .slice pa n pc]
        have b6 : Below w3.heap.size w3 (w5.alloc (.cells #[.int .u32 (staB n ll ps), .int .i64 M, .int .i64 0, .slice pa n pc] 34)) := b5.alloc b5.size _
        have bb6 := bb3.trans (b6.mono bb3.size)
        have x6 := xp3.next b6
        have c0 := x6.cell 0 _ rfl
        have c1 := x6.cell 1 _ rfl
        have c2 := x6.cell 2 _ rfl
        have HW6 := HWA.out _ bb6 (HS3.out.next b6)
        clear b5
        go_wp2_with fail
        refine HW6.mono ?_
        rintro e w7 ⟨r7, cu, rfl, b7⟩
        have bb7 := bb6.trans (b7.mono bb6.size)
        have xn7 := xn.next b7
        have x7 := x6.next b7
        have j1 := xn7.cell 1 _ rfl
        have j0 := x7.cell 0 _ rfl
        have HWK := beamWakes_any w7 (HFW.out.next bb7)
        clear HW6 b7 c0 c1 c2
        go_wp2_with (go_at_call 11; refine HWK.mono ?_; rintro e w8 ⟨rfl, b8⟩)
        go_ret
        exact ⟨rfl, bb7.trans (b8.mono bb7.size)⟩

/-- The law, of whatever bytes, turns and numbers. -/
theorem beamClaims_walk (a0 : Option Addr) (len0 cap0 : Nat) (z0 : List Int) (a1 a2 : Int) (a3 : Option Addr) (len3 cap3 : Nat) (z3 : List Int) (a4 a5 : Int) (w : World) (w0 : IsRow .u8 w a0 len0 cap0 z0) (w3 : IsRow .u8 w a3 len3 cap3 z3) (hF : Firsts w) :
    Calls Tryd.prog 6 #[.slice a0 len0 cap0, .int .i64 a1, .int .i64 a2, .slice a3 len3 cap3, .int .i64 a4, .int .i64 a5] w fun e w' => e = .returned (.bool true) ∧ Below w.heap.size w w' := by
  obtain ⟨zs, rfl, hz, bz⟩ := holds_of_isRow w0
  obtain ⟨xs, rfl, hx, bx⟩ := holds_of_isRow w3
  by_cases h0 : zs.length < 1 ∨ 4 < zs.length ∨ 200 < xs.length
  · exact beamClaims_few _ _ _ _ _ _ _ _ _ _ w h0
  · have bxx := bytes_bd bx
    have e : (xs.map Int.toNat).map (fun t : Nat => (t : Int)) = xs := by
      rw [List.map_map]
      refine (List.map_congr_left fun q hq => ?_).trans (List.map_id xs)
      have := bxx q hq
      show ((q.toNat : Nat) : Int) = q
      omega
    exact beamClaims_in _ _ zs (bytes_bd bz) (by omega) (by omega) _ _ _ _ _ (xs.map Int.toNat) (by simp) (by omega) (fun t ht => by obtain ⟨q, hq, rfl⟩ := List.mem_map.1 ht; have := bxx q hq; omega) _ _ w hF hz (by rw [e]; exact hx)

end Go.Proofs.YtdnhnnidlangiabDoor
