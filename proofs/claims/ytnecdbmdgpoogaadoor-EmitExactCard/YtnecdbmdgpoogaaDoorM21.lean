/-
  Lists of symbols (a place and a value each) in memory. No function of the program is spoken of.
-/
import Derived.Test.YtnecdbmdgpoogaaDoorM01
import Derived.Test.YtnecdbmdgpoogaaDoorM11
import Derived.Test.YtnecdbmdgpoogaaDoorM18
import Derived.Test.YtnecdbmdgpoogaaDoorM20
import Derived.BigQuiet
import Derived.Deep.AppendLies
import Derived.Deep.Cut
import Derived.Deep.CutRange
import Derived.Deep.DeepCutAuto
import Derived.Deep.QuietTactic
import Derived.Deep.SlicePairs
import Derived.Laws.AppendOwnNone
import Derived.OwnWalk
import Derived.WalkLawsBesides
import Derived.WalkSmall
import Derived.WalkSpells
namespace Go.Proofs.YtnecdbmdgpoogaaDoor
open Go.RowKit

/-- The cells of symbols. -/
def symCells (l : List (Int × Int)) : List Value := l.flatMap fun x => [.int .i64 x.1, .int .i64 x.2]
theorem symCells_len : ∀ l : List (Int × Int), (symCells l).length = l.length * 2
  | [] => rfl
  | x :: l => by
    have := symCells_len l
    unfold symCells at this ⊢
    rw [List.flatMap_cons, List.length_append, this, List.length_cons]
    simp only [List.length_cons, List.length_nil]
    omega
theorem symCells_get : ∀ {l : List (Int × Int)} {j : Nat} {x : Int × Int}, l[j]? = some x → (symCells l)[j * 2]? = some (.int .i64 x.1) ∧ (symCells l)[j * 2 + 1]? = some (.int .i64 x.2)
  | [], j, x, h => by simp at h
  | y :: l, 0, x, h => by simp at h; subst h; exact ⟨rfl, rfl⟩
  | y :: l, j + 1, x, h => by
    have ih := symCells_get (l := l) (j := j) (x := x) (by simpa using h)
    have e : symCells (y :: l) = .int .i64 y.1 :: .int .i64 y.2 :: symCells l := rfl
    rw [e, show (j + 1) * 2 = j * 2 + 2 by omega, show j * 2 + 2 + 1 = j * 2 + 1 + 2 by omega]
    simpa using ih
theorem symCells_append (l m : List (Int × Int)) : symCells (l ++ m) = symCells l ++ symCells m := by simp [symCells]
theorem symCells_snoc (l : List (Int × Int)) (x : Int × Int) : symCells (l ++ [x]) = symCells l ++ [.int .i64 x.1, .int .i64 x.2] := by rw [symCells_append]; rfl
theorem symCells_one (l : List (Int × Int)) : ∀ u ∈ symCells l, u.oneCell' = true := by
  intro u hu
  obtain ⟨x, _, hx⟩ := List.mem_flatMap.1 hu
  rcases List.mem_cons.1 hx with rfl | hx
  · rfl
  · simp at hx; subst hx; rfl

/-- The slice v holds the symbols l in a block below n₀ (or it is of length 0, and they are none). -/
def Syms (n₀ : Nat) (W : World) (v : Value) (l : List (Int × Int)) : Prop :=
  ((∃ a cap, v = .slice a 0 cap ∧ (a = none → cap = 0)) ∧ l = []) ∨ ∃ b off cap, v = .slice (some ⟨b, off, none⟩) l.length cap ∧ b < n₀ ∧ ∀ (j : Nat) (x : Int × Int), l[j]? = some x → W.cell? ⟨b, off + j * 2, none⟩ = some (.int .i64 x.1) ∧ W.cell? ⟨b, off + j * 2 + 1, none⟩ = some (.int .i64 x.2)

theorem Syms.below {n₀ : Nat} {W W' : World} {v : Value} {l : List (Int × Int)} (h : Syms n₀ W v l) (hb : Below n₀ W W') : Syms n₀ W' v l := by
  rcases h with h | ⟨b, off, cap, hv, hlt, hc⟩
  · exact .inl h
  · exact .inr ⟨b, off, cap, hv, hlt, fun j x hj => ⟨(hb.cell (p := ⟨b, off + j * 2, none⟩) hlt).trans (hc j x hj).1, (hb.cell (p := ⟨b, off + j * 2 + 1, none⟩) hlt).trans (hc j x hj).2⟩⟩
theorem Syms.mono {n₀ n₁ : Nat} {W : World} {v : Value} {l : List (Int × Int)} (h : Syms n₀ W v l) (hn : n₀ ≤ n₁) : Syms n₁ W v l := by
  rcases h with h | ⟨b, off, cap, hv, hlt, hc⟩
  · exact .inl h
  · exact .inr ⟨b, off, cap, hv, by omega, hc⟩
theorem Syms.next {W W' : World} {v : Value} {l : List (Int × Int)} (h : Syms W.heap.size W v l) (hb : Below W.heap.size W W') : Syms W'.heap.size W' v l := (h.below hb).mono hb.size
theorem Syms.shape {n₀ : Nat} {W : World} {v : Value} {l : List (Int × Int)} (h : Syms n₀ W v l) : ∃ a cap, v = .slice a l.length cap := by
  rcases h with ⟨⟨a, cap, rfl, _⟩, rfl⟩ | ⟨b, off, cap, rfl, _, _⟩
  · exact ⟨_, _, rfl⟩
  · exact ⟨_, _, rfl⟩
theorem syms_nil (n₀ : Nat) (W : World) : Syms n₀ W (.slice none 0 0) [] := .inl ⟨⟨_, _, rfl, fun _ => rfl⟩, rfl⟩

/-- Where symbols that are held lie. -/
theorem syms_at {n₀ n cap : Nat} {W : World} {a : Option Addr} {l : List (Int × Int)} (h : Syms n₀ W (.slice a n cap) l) (hl : l.length = n) (h0 : 0 < n) :
    ∃ b off, a = some ⟨b, off, none⟩ ∧ b < n₀ ∧ ∀ (j : Nat) (x : Int × Int), l[j]? = some x → W.cell? ⟨b, off + j * 2, none⟩ = some (.int .i64 x.1) ∧ W.cell? ⟨b, off + j * 2 + 1, none⟩ = some (.int .i64 x.2) := by
  subst hl
  rcases h with ⟨_, e⟩ | ⟨b, off, c', e, hb, hcs⟩
  · rw [e] at h0; simp at h0
  · cases e
    exact ⟨b, off, rfl, hb, hcs⟩

/-- A row of symbols of the call's own is held. -/
theorem syms_of_row {W : World} {base k : Nat} {e : TypeId} {v : Value} {l : List (Int × Int)} (h : W.ownsRow base e 2 v k (symCells l)) : Syms W.heap.size W v l := by
  have hl : l.length = k := by have := h.1; rw [symCells_len] at this; omega
  rcases h.2 with ⟨rfl, rfl⟩ | ⟨g, cap, cur, rfl, hb, hg, hk, _, hs, ht⟩
  · exact .inl ⟨⟨_, _, rfl, fun _ => rfl⟩, List.length_eq_zero_iff.1 hl⟩
  · refine .inr ⟨g, 0, cap, by rw [hl], (Array.getElem?_eq_some_iff.1 hg).1, fun j x hj => ?_⟩
    obtain ⟨h1, h2⟩ := symCells_get hj
    have c1 := h.cells (g := g) rfl (j * 2) _ h1
    have c2 := h.cells (g := g) rfl (j * 2 + 1) _ h2
    rw [Addr.add_lit] at c1 c2
    exact ⟨c1, c2⟩
theorem syms_row_len {W : World} {base k : Nat} {e : TypeId} {v : Value} {l : List (Int × Int)} (h : W.ownsRow base e 2 v k (symCells l)) : l.length = k := by have := h.1; rw [symCells_len] at this; omega
theorem symRow_below {W W' : World} {base k n₀ : Nat} {e : TypeId} {v : Value} {xs : List Value} (h : W.ownsRow base e 2 v k xs) (hb : Below n₀ W W') (hn : W.heap.size ≤ n₀) : W'.ownsRow base e 2 v k xs := by
  refine ⟨h.1, ?_⟩
  rcases h.2 with h0 | ⟨g, cap, cur, hv, hbs, hg, hk, hm, hs, ht⟩
  · exact .inl h0
  · exact .inr ⟨g, cap, cur, hv, hbs, (hb.block g (by have := (Array.getElem?_eq_some_iff.1 hg).1; omega)).trans hg, hk, hm, hs, ht⟩
theorem symRow_base {W : World} {base base' k : Nat} {e : TypeId} {v : Value} {xs : List Value} (h : W.ownsRow base e 2 v k xs) (hn : base' ≤ base) : W.ownsRow base' e 2 v k xs := by
  refine ⟨h.1, ?_⟩
  rcases h.2 with h0 | ⟨g, cap, cur, hv, hbs, hg, hk, hm, hs, ht⟩
  · exact .inl h0
  · exact .inr ⟨g, cap, cur, hv, by omega, hg, hk, hm, hs, ht⟩

theorem row_cap2 {w : World} {base e n cap : Nat} {a : Option Addr} {xs : List Value} (h : w.ownsRow base e 2 (.slice a n cap) n xs) : n ≤ cap := by
  rcases h.2 with ⟨e, _⟩ | ⟨g, c, cur, e, _, _, hk, _⟩
  · cases e; exact Nat.le_refl _
  · cases e; exact hk

/-- Whole numbers of 64 bits. -/
def I64 (z : Int) : Prop := -9223372036854775808 ≤ z ∧ z ≤ 9223372036854775807
def SymsIn (l : List (Int × Int)) : Prop := ∀ x ∈ l, I64 x.1 ∧ I64 x.2

/-- What the row's step is told of a slice of symbols that came in. -/
def IsSyms (w : World) (a : Option Addr) (len cap : Nat) (l : List (Int × Int)) : Prop := l.length = len ∧ len ≤ cap ∧ cap ≤ maxLen ∧ Syms w.heap.size w (.slice a len cap) l ∧ SymsIn l

theorem cellsInt : Tryd.prog.cellsOf 3 = 1 := by kernel_rfl
theorem symAt_lt {w : World} {p : Addr} {v : Value} (h : w.cell? p = some v) : p.block < w.heap.size := cell_block_lt h

end Go.Proofs.YtnecdbmdgpoogaaDoor

/-
  What volutekeep.Syms and volutekeep.TwinSyms answer, for all symbols in memory.
-/
namespace Go.Proofs.YtnecdbmdgpoogaaDoor
open Go.RowKit

theorem take_eq_syms {xs ys : List (Int × Int)} {k : Nat} {x y : Int × Int} (hx : xs[k]? = some x) (hy : ys[k]? = some y) (h : xs.take k = ys.take k) (e : x = y) : xs.take (k + 1) = ys.take (k + 1) := by
  rw [List.take_add_one, List.take_add_one, hx, hy, h, e]

theorem syms_cells {W : World} {b off : Nat} {l : List (Int × Int)} (h : ∀ (j : Nat) (x : Int × Int), l[j]? = some x → W.cell? ⟨b, off + j * 2, none⟩ = some (.int .i64 x.1) ∧ W.cell? ⟨b, off + j * 2 + 1, none⟩ = some (.int .i64 x.2)) :
    ∀ (j : Nat) (u : Value), (symCells l)[j]? = some u → W.cell? ((⟨b, off, none⟩ : Addr).add j) = some u := by
  intro j u hj
  rw [Go.WideShapes.add_plain]
  have hlt : j < l.length * 2 := by have := (List.getElem?_eq_some_iff.1 hj).1; rwa [symCells_len] at this
  have hq : j / 2 < l.length := by omega
  obtain ⟨x, hx⟩ : ∃ x, l[j / 2]? = some x := ⟨l[j / 2], by simp⟩
  have hc := h _ _ hx
  have hg := symCells_get hx
  by_cases h2 : j % 2 = 0
  · rw [show j / 2 * 2 = j by omega] at hc hg
    rw [hg.1] at hj
    cases hj
    exact hc.1
  · rw [show j / 2 * 2 + 1 = j by omega] at hg
    rw [show off + j / 2 * 2 + 1 = off + j by omega] at hc
    rw [hg.2] at hj
    cases hj
    exact hc.2

end Go.Proofs.YtnecdbmdgpoogaaDoor

/-
  append to a row of symbols of the call's own: its run; parts of rows of symbols. No function of the program is spoken of.
-/
namespace Go.Proofs.YtnecdbmdgpoogaaDoor
open Go.RowKit

/-- append whose run is known: for the walk, guarded or not. -/
theorem wpList_append_known {P : Program} {w : World} {ops : Array Oper} {rest : List Oper} {o : Oper} {a : Act} {Q : Exit → Act → World → Prop} (hw : Region.wanted o (yielded ops a.tmps) = true) (s x : Operand) (t : TypeId)
    (ho : o.op = .call { callee := .builtin .append, args := #[s, x], argTypes := #[t, t] }) (v src : Value) (hs : a.eval s = v) (hx : a.eval x = src) (v' : Value) (w' : World)
    (hrun : (Builtin.append_ #[t, t] o.type #[v, src]).run P w = .ok v' w') (h : wpList P ops Q rest (a.put o.dst v') w') : wpList P ops Q (o :: rest) a w := by
  refine wpList_step fun K hK => ?_
  rw [if_pos hw]
  unfold Oper.wp
  simp [execOp, ho, resolve, invoke, builtin, hs, hx, hrun, Result.andThen]
  exact hK _ _ h

/-- The first k of symbols that are held; those from k on. -/
theorem syms_take {n₀ n cap : Nat} {W : World} {a : Option Addr} {l : List (Int × Int)} (h : Syms n₀ W (.slice a n cap) l) (hl : l.length = n) (k : Nat) (hk : k ≤ n) (c : Nat) (hc : a = none → c = 0) : Syms n₀ W (.slice a k c) (l.take k) := by
  have hkl : (l.take k).length = k := by rw [List.length_take]; omega
  by_cases h0 : 0 < n
  · obtain ⟨b, off, rfl, hb, hcs⟩ := syms_at h hl h0
    refine .inr ⟨b, off, c, by rw [hkl], hb, fun j x hj => hcs j x ?_⟩
    rw [List.getElem?_take] at hj
    split at hj
    · exact hj
    · cases hj
  · have : k = 0 := by omega
    subst this
    exact .inl ⟨⟨_, _, rfl, hc⟩, by simp⟩
theorem syms_drop {n₀ n cap : Nat} {W : World} {b off : Nat} {l : List (Int × Int)} (h : Syms n₀ W (.slice (some ⟨b, off, none⟩) n cap) l) (hl : l.length = n) (k : Nat) (hk : k < n) (c : Nat) : Syms n₀ W (.slice (some ⟨b, off + k * 2, none⟩) (n - k) c) (l.drop k) := by
  obtain ⟨b', off', e, hb, hcs⟩ := syms_at h hl (by omega)
  cases e
  have hkl : (l.drop k).length = n - k := by rw [List.length_drop]; omega
  refine .inr ⟨b, off + k * 2, c, by rw [hkl], hb, fun j x hj => ?_⟩
  rw [List.getElem?_drop] at hj
  have := hcs (k + j) x hj
  rw [show off + (k + j) * 2 = off + k * 2 + j * 2 by omega] at this
  exact this
theorem syms_empty {W : World} {n₀ : Nat} (ad : Addr) (c : Nat) : Syms n₀ W (.slice (some ad) 0 c) [] := .inl ⟨⟨_, _, rfl, fun e => by cases e⟩, rfl⟩

end Go.Proofs.YtnecdbmdgpoogaaDoor

/-
  Rows of numbers of the call's own: append of one number; a block that is written place by place. No function of the program is spoken of.
-/
namespace Go.Proofs.YtnecdbmdgpoogaaDoor
open Go.RowKit

theorem infoIntR : (Tryd.prog.info? 3).map (fun i => (i.zero, i.size, i.bytes)) = some (some (.int .i64 0), 1, 8) := by kernel_rfl

/-- append of one number, its run. -/
theorem run_append_int (v : Value) (n base : Nat) (xs : List Int) (x : Int) (ty : TypeId) (w : World) (hown : w.ownsRow base 3 1 v n (xs.map (Value.int .i64))) (hb : base ≤ w.heap.size) (h1 : n ≤ 4294967296) :
    ∃ v' w', (Builtin.append_ #[73, 73] ty #[v, .slice (some ⟨w.heap.size, 0, none⟩) 1 1]).run Tryd.prog (w.alloc (.cells #[.int .i64 x] 3)) = .ok v' w' ∧ w'.ownsRow base 3 1 v' (n + 1) ((xs ++ [x]).map (Value.int .i64)) ∧ (w.alloc (.cells #[.int .i64 x] 3)).grownBy w' v.ownBlock := by
  obtain ⟨i0, hi, hz0, hz1, hz2⟩ := info_parts infoIntR
  obtain ⟨v', w', hr, ho, hg, _⟩ := run_append_own (P := Tryd.prog) (w.alloc (.cells #[.int .i64 x] 3)) base 73 ty 3 i0 (.int .i64 0) 1 8 Tryd.underlying73 hi hz0 hz1 hz2 rfl (by decide) v n _ (hown.alloc _) ⟨w.heap.size, 0, none⟩ 1 1 [.int .i64 x] rfl (World.news_of_block (World.alloc_heap_new _ _)) (by simp [Value.oneCell']) (by unfold maxLen; omega) (by omega) (by simp; omega)
  exact ⟨v', w', hr, by rw [List.map_append]; exact ho, hg⟩

/-- Where numbers that are held lie. -/
theorem holds_at {kd : IntKind} {n₀ n cap : Nat} {W : World} {a : Option Addr} {zs : List Int} (h : Holds kd n₀ W (.slice a n cap) zs) (hl : zs.length = n) (h0 : 0 < n) :
    ∃ b off, a = some ⟨b, off, none⟩ ∧ b < n₀ ∧ ∀ (j : Nat) (x : Int), zs[j]? = some x → W.cell? ⟨b, off + j, none⟩ = some (.int kd x) := by
  subst hl
  rcases h with ⟨_, e⟩ | ⟨b, off, c', e, hb, hcs⟩
  · rw [e] at h0; simp at h0
  · cases e
    refine ⟨b, off, rfl, hb, fun j x hj => ?_⟩
    rw [hcs j (List.getElem?_eq_some_iff.1 hj).1, hj]
    rfl

/-- Block g holds the numbers zs ahead of all; none of it is frozen. -/
def IntsAt (W : World) (g : Nat) (zs : List Int) : Prop := g < W.heap.size ∧ (∀ q, q < zs.length → W.cell? ⟨g, q, none⟩ = some (.int .i64 (zs[q]?.getD 0))) ∧ ∀ q, W.frozen? ⟨g, q, none⟩ = false

theorem IntsAt.of_own {W : World} {base n cap g : Nat} {zs : List Int} (h : W.ownsRow base 3 1 (.slice (some ⟨g, 0, none⟩) n cap) n (zs.map (Value.int .i64))) : IntsAt W g zs := by
  rcases h.2 with ⟨e, _⟩ | ⟨g', c, cur, e, _, hg, _⟩
  · cases e
  · cases e
    refine ⟨(Array.getElem?_eq_some_iff.1 hg).1, fun q hq => ?_, fun q => by simp [World.frozen?, hg]⟩
    have := h.cells (g := g) rfl q (.int .i64 (zs[q]?.getD 0)) (by simp [hq])
    rw [Addr.add_lit, Nat.zero_add] at this
    exact this
theorem IntsAt.set {W : World} {g : Nat} {zs : List Int} (h : IntsAt W g zs) (k : Nat) (hk : k < zs.length) (v : Int) : IntsAt (W.setCell ⟨g, k, none⟩ (.int .i64 v)) g (zs.set k v) := by
  refine ⟨by simpa [World.setCell] using h.1, fun q hq => ?_, fun q => by rw [World.frozen?_setCell]; exact h.2.2 q⟩
  rw [List.length_set] at hq
  by_cases e : q = k
  · subst e
    rw [World.cell?_setCell_same' _ _ _ (by rw [h.2.1 q hq]; rfl)]
    simp [hq]
  · rw [World.cell?_setCell_other _ _ _ _ (by intro e'; cases e'; exact e rfl), h.2.1 q hq, List.getElem?_set_ne (by omega)]
theorem IntsAt.cell {W : World} {g : Nat} {zs : List Int} (h : IntsAt W g zs) {q : Nat} {x : Int} (hq : zs[q]? = some x) : W.cell? ⟨g, q, none⟩ = some (.int .i64 x) := by
  rw [h.2.1 q (List.getElem?_eq_some_iff.1 hq).1, hq]; rfl
theorem IntsAt.below {W W' : World} {g n : Nat} {zs : List Int} (h : IntsAt W g zs) (hb : Below n W W') (hg : g < n) : IntsAt W' g zs := by
  refine ⟨Nat.lt_of_lt_of_le h.1 hb.size, fun q hq => (hb.cell (p := ⟨g, q, none⟩) hg).trans (h.2.1 q hq), fun q => ?_⟩
  have e : W'.frozen? ⟨g, q, none⟩ = W.frozen? ⟨g, q, none⟩ := by unfold World.frozen?; rw [hb.block g hg]
  rw [e]; exact h.2.2 q
theorem IntsAt.next {W W' : World} {g : Nat} {zs : List Int} (h : IntsAt W g zs) (hb : Below W.heap.size W W') : IntsAt W' g zs := h.below hb h.1
theorem IntsAt.other {W : World} {g : Nat} {zs : List Int} (h : IntsAt W g zs) {p : Addr} (hp : g ≠ p.block) (v : Value) : IntsAt (W.setCell p v) g zs := by
  refine ⟨by simpa [World.setCell] using h.1, fun q hq => ?_, fun q => by rw [World.frozen?_setCell]; exact h.2.2 q⟩
  rw [World.cell?_setCell_other _ _ _ _ (by intro e; cases e; exact hp rfl)]
  exact h.2.1 q hq
theorem IntsAt.other3 {W : World} {g : Nat} {zs : List Int} (h : IntsAt W g zs) {D : Nat} (hp : g ≠ D) (x y z : Value) : IntsAt (((W.setCell ⟨D, 0, none⟩ x).setCell ⟨D, 1, none⟩ y).setCell ⟨D, 2, none⟩ z) g zs := ((h.other (p := ⟨D, 0, none⟩) hp x).other (p := ⟨D, 1, none⟩) hp y).other (p := ⟨D, 2, none⟩) hp z
theorem IntsAt.drewN {W : World} {g : Nat} {zs : List Int} (h : IntsAt W g zs) (n : Nat) : IntsAt (W.drewN n) g zs := h

/-- Numbers of places. -/
def nats (K : List Nat) : List Int := K.map fun x : Nat => (x : Int)
theorem nats_len (K : List Nat) : (nats K).length = K.length := by simp [nats]
theorem nats_get {K : List Nat} {j x : Nat} (h : K[j]? = some x) : (nats K)[j]? = some (x : Int) := by simp [nats, h]
theorem nats_snoc (K : List Nat) (x : Nat) : nats (K ++ [x]) = nats K ++ [(x : Int)] := by simp [nats]
theorem nats_set (K : List Nat) (j x : Nat) : nats (K.set j x) = (nats K).set j (x : Int) := by simp [nats, List.map_set]

end Go.Proofs.YtnecdbmdgpoogaaDoor

/-
  What the page's Packet answers, of data that may be. (Written by tpl_refdata.py.)
-/
namespace Go.Proofs.YtnecdbmdgpoogaaDoor
open Go.RowKit

theorem row_shapeP {W : World} {base k : Nat} {e : TypeId} {v : Value} {xs : List Value} (h : W.ownsRow base e 1 v k xs) : ∃ a c, v = .slice a k c := by
  rcases h.2 with ⟨e, e0⟩ | ⟨g, c, cur, e, _⟩
  · exact ⟨_, _, by rw [e, e0]⟩
  · exact ⟨_, _, e⟩
/-- A row of more cells than a block has lies in another block. -/
theorem row_not_box {W : World} {base k B : Nat} {v : Value} {xs : List Value} {t : TypeId} {cs : Array Value} (h : W.ownsRow base 5 1 v k xs) (x : Box W B t cs) (hk : cs.size < k) : v.ownBlock ≠ some B := by
  rcases h.2 with ⟨e, e0⟩ | ⟨g, c, cur, e, _, hg, hkc, _, hs, _⟩
  · omega
  · subst e
    intro e
    cases e
    have hx : W.heap[g]? = some (.cells cs t) := x
    rw [hg] at hx
    cases hx
    omega
theorem Box.grown {W W' : World} {B : Nat} {t : TypeId} {cs : Array Value} {ob : Option Nat} (h : Box W B t cs) (hg : W.grownBy W' ob) (hne : ob ≠ some B) : Box W' B t cs := (hg.block B h.lt hne.symm).trans h
theorem row_box {W : World} {B base : Nat} {x : Int} (h : Box W B 5 #[.int .u8 x]) (hb : base ≤ B) : W.ownsRow base 5 1 (.slice (some ⟨B, 0, none⟩) 1 1) 1 ([x].map (Value.int .u8)) :=
  ⟨rfl, .inr ⟨B, 1, #[.int .u8 x], rfl, hb, h, Nat.le_refl _, by unfold maxLen; omega, rfl, rfl⟩⟩
theorem box_holds1 {W : World} {B : Nat} {t : TypeId} {x : Int} (h : Box W B t #[.int .u8 x]) : Holds .u8 W.heap.size W (.slice (some ⟨B, 0, none⟩) 1 1) [x] :=
  .inr ⟨B, 0, 1, rfl, h.lt, fun j hj => by
    have : j = 0 := by simpa using hj
    subst this
    exact h.cell 0 _ rfl⟩

set_option maxRecDepth 100000 in
set_option maxHeartbeats 8000000 in
theorem refPacket_any (s r f : Int) (a : Option Addr) (cap : Nat) (xs : List Int) (h : RightD s r f xs) (bx : ∀ z ∈ xs, 0 ≤ z ∧ z ≤ 255) (w : World) (ha : Holds .u8 w.heap.size w (.slice a xs.length cap) xs) :
    Calls Tryd.prog 27 #[.agg #[.int .i64 s, .int .i64 r, .int .i64 f, .slice a xs.length cap]] w fun e W' => ∃ q, e = .returned q ∧ W'.ownsRow w.heap.size 5 1 q (xs.length + 11) ((packD s r f xs).map (Value.int .u8)) ∧ Below w.heap.size w W' := by
  obtain ⟨_, hr, _, hx1, hx2⟩ := h
  have ewr : IntKind.u8.wrap r = r := by rw [IntKind.wrap_u8]; omega
  have ewl : IntKind.u8.wrap (xs.length : Int) = (xs.length : Int) := by rw [IntKind.wrap_u8]; omega
  have b1 : Below w.heap.size w (w.alloc (.cells #[.int .i64 s, .int .i64 r, .int .i64 f, .slice a xs.length cap] 47)) := (Below.refl w.heap.size w).alloc (Nat.le_refl _) _
  have x1 := Box.new w 47 #[.int .i64 s, .int .i64 r, .int .i64 f, .slice a xs.length cap]
  have HBX : Hid (∀ z ∈ xs, 0 ≤ z ∧ z ≤ 255) := bx
  have HHB : Hid (∀ z ∈ headD s r f xs.length, 0 ≤ z ∧ z ≤ 255) := headD_bd hr (by omega)
  clear bx
  go_enter Tryd.func27, Tryd.ntmps27
  go_wp2_with fail
  obtain ⟨W1, hW1⟩ : ∃ W, w.alloc (.cells #[.int .i64 s, .int .i64 r, .int .i64 f, .slice a xs.length cap] 47) = W := ⟨_, rfl⟩
  have hs1 : W1.heap.size = w.heap.size + 1 := by rw [← hW1]; simp
  rw [hW1] at b1 x1 ⊢
  clear hW1
  obtain ⟨n1, hn1⟩ : ∃ n, w.heap.size + 1 = n := ⟨_, rfl⟩
  rw [hn1] at hs1 ⊢
  have hwn : w.heap.size ≤ n1 := by omega
  have hlt1 : w.heap.size < n1 := by omega
  have k1 := x1.cell 1 _ rfl
  have k2 := x1.cell 2 _ rfl
  have k3 := x1.cell 3 _ rfl
  clear hn1
  refine (refBe_any s 4 (by decide) _).mono ?_
  rintro e w2 ⟨q, rfl, oq, b2⟩
  have xA : Box w2 n1 5 #[.int .u8 68] := hs1 ▸ (Box.new W1 5 #[.int .u8 68]).next b2
  have bA : Below n1 W1 (W1.alloc (.cells #[.int .u8 68] 5)) := (Below.refl _ _).alloc (by omega) _
  have hS : Below n1 W1 w2 := bA.trans (b2.mono (by simp; omega))
  have hn2 : n1 ≤ w2.heap.size := by have := hS.size; omega
  obtain ⟨v3, w3, hr3, o3, hg3⟩ := run_append_u8 _ _ 1 n1 _ _ _ 24 w2 (row_box xA (Nat.le_refl _)) (holds_of_row oq) hn2 (by decide) (by simp [beBytes_len])
  replace hS := hS.trans ((Below.refl _ _).grown hg3 hn2 (fun z e => by cases e; exact Nat.le_refl _))
  obtain ⟨oa, oc, rfl⟩ := row_shapeP o3
  clear xA bA hg3 oq b2 hn2
  go_wp2_with (at_builtin; refine wpList_append_run rfl _ _ 24 rfl _ _ rfl rfl _ _ hr3 ?_)
  clear hr3
  rw [beBytes_len] at o3 ⊢
  go_cut [3] (fun v wx => ∃ va vc, v = .slice va 9 vc ∧ wx.ownsRow n1 5 1 (.slice va 9 vc) 9 ((headD s r f xs.length).map (Value.int .u8)) ∧ Below n1 W1 wx)
  case first =>
    refine wp_region_held_drew (S := fun w' => Below n1 W1 w') (by kernel_rfl) (hS.drew) (fun hHeld => ?_)
    replace hS := hS.drew
    have oO : w3.drew.ownsRow n1 5 1 (.slice oa 5 oc) 5 ((68 :: beBytes 4 s).map (Value.int .u8)) := o3
    clear o3
    generalize w3.drew = wk0 at *
    refine held_take (i := 0) (d := 9) (v := ?v1) rfl rfl (by kernel_rfl) (by kernel_rfl) (by kernel_rfl) (fun _ _ _ h => h) (Or.inl ⟨by kernel_rfl, ?hy1⟩) hHeld ?rest1
    case hy1 =>
      intro wx hSw
      clear hSw
      go_simp
      with_reducible rfl
    simp only [List.setIfInBounds_toArray, List.set_cons_zero, List.set_cons_succ]
    refine held_take (i := 1) (d := 10) (v := ?v2) rfl rfl (by kernel_rfl) (by kernel_rfl) (by kernel_rfl) (fun _ _ _ h => h) (Or.inl ⟨by kernel_rfl, ?hy2⟩) hHeld ?rest2
    case hy2 =>
      intro wx hSw
      clear hSw
      go_simp
      with_reducible rfl
    simp only [List.setIfInBounds_toArray, List.set_cons_zero, List.set_cons_succ]
    refine held_take (i := 2) (d := 11) (v := ?v3) rfl rfl (by kernel_rfl) (by kernel_rfl) (by kernel_rfl) (fun _ _ _ h => h) (Or.inl ⟨by kernel_rfl, ?hy3⟩) hHeld ?rest3
    case hy3 =>
      intro wx hSw
      have q0 := (hSw.cell (p := ⟨w.heap.size, 1, none⟩) hlt1).trans k1
      clear hSw
      go_simp
      with_reducible rfl
    simp only [List.setIfInBounds_toArray, List.set_cons_zero, List.set_cons_succ]
    refine held_take (i := 3) (d := 12) (v := ?v4) rfl rfl (by kernel_rfl) (by kernel_rfl) (by kernel_rfl) (fun _ _ _ h => h) (Or.inl ⟨by kernel_rfl, ?hy4⟩) hHeld ?rest4
    case hy4 =>
      intro wx hSw
      clear hSw
      go_simp
      with_reducible rfl
    simp only [List.setIfInBounds_toArray, List.set_cons_zero, List.set_cons_succ]
    refine held_take (i := 6) (d := 15) (v := ?v5) rfl rfl (by kernel_rfl) (by kernel_rfl) (by kernel_rfl) (fun _ _ _ h => h) (Or.inl ⟨by kernel_rfl, ?hy5⟩) hHeld ?rest5
    case hy5 =>
      intro wx hSw
      clear hSw
      go_simp
      with_reducible rfl
    simp only [List.setIfInBounds_toArray, List.set_cons_zero, List.set_cons_succ]
    refine held_take (i := 7) (d := 16) (v := ?v6) rfl rfl (by kernel_rfl) (by kernel_rfl) (by kernel_rfl) (fun _ _ _ h => h) (Or.inl ⟨by kernel_rfl, ?hy6⟩) hHeld ?rest6
    case hy6 =>
      intro wx hSw
      have q0 := (hSw.cell (p := ⟨w.heap.size, 2, none⟩) hlt1).trans k2
      clear hSw
      go_simp
      with_reducible rfl
    simp only [List.setIfInBounds_toArray, List.set_cons_zero, List.set_cons_succ]
    refine held_take (i := 10) (d := 19) (v := ?v7) rfl rfl (by kernel_rfl) (by kernel_rfl) (by kernel_rfl) (fun _ _ _ h => h) (Or.inl ⟨by kernel_rfl, ?hy7⟩) hHeld ?rest7
    case hy7 =>
      intro wx hSw
      clear hSw
      go_simp
      with_reducible rfl
    simp only [List.setIfInBounds_toArray, List.set_cons_zero, List.set_cons_succ]
    refine held_take (i := 11) (d := 20) (v := ?v8) rfl rfl (by kernel_rfl) (by kernel_rfl) (by kernel_rfl) (fun _ _ _ h => h) (Or.inl ⟨by kernel_rfl, ?hy8⟩) hHeld ?rest8
    case hy8 =>
      intro wx hSw
      have q0 := (hSw.cell (p := ⟨w.heap.size, 3, none⟩) hlt1).trans k3
      clear hSw
      go_simp
      with_reducible rfl
    simp only [List.setIfInBounds_toArray, List.set_cons_zero, List.set_cons_succ]
    refine held_take (i := 12) (d := 21) (v := ?v9) rfl rfl (by kernel_rfl) (by kernel_rfl) (by kernel_rfl) (fun _ _ _ h => h) (Or.inl ⟨by kernel_rfl, ?hy9⟩) hHeld ?rest9
    case hy9 =>
      intro wx hSw
      clear hSw
      go_simp
      with_reducible rfl
    simp only [List.setIfInBounds_toArray, List.set_cons_zero, List.set_cons_succ]
    refine held_take (i := 13) (d := 22) (v := ?v10) rfl rfl (by kernel_rfl) (by kernel_rfl) (by kernel_rfl) (fun _ _ _ h => h) (Or.inl ⟨by kernel_rfl, ?hy10⟩) hHeld ?rest10
    case hy10 =>
      intro wx hSw
      clear hSw
      go_simp
      with_reducible rfl
    simp only [List.setIfInBounds_toArray, List.set_cons_zero, List.set_cons_succ]
    refine wpAnyH_ready (rs := [4, 14]) (by kernel_rfl) (by simp) ?_
    refine AllReadyH.cons rfl (fun K hK => ?_) ?_
    · go_simp
      have xB1 := Box.new wk0 5 #[.int .u8 r]
      have bA : Below wk0.heap.size wk0 (wk0.alloc (.cells #[.int .u8 r] 5)) := (Below.refl _ _).alloc (Nat.le_refl _) _
      replace oO := oO.alloc (.cells #[.int .u8 r] 5)
      replace hS := hS.trans (bA.mono (by have := hS.size; omega))
      clear bA hHeld
      generalize (wk0.alloc (.cells #[.int .u8 r] 5)) = wk1 at *
      refine hK.out _ _ (hS) (fun hHeld => ?_)
      clear hK K
      refine wpAnyH_ready (rs := [5, 14]) (by kernel_rfl) (by simp) ?_
      refine AllReadyH.cons rfl (fun K hK => ?_) ?_
      · obtain ⟨v9, wk2, hr9, o9, g9⟩ := run_append_u8 _ _ 5 n1 _ _ _ 24 wk1 oO (box_holds1 xB1) (by have := hS.size; omega) (by decide) (by simp)
        replace hS := hS.trans ((Below.refl _ _).grown g9 (by have := hS.size; omega) (fun z e => (oO.lt z e).1))
        obtain ⟨va, vc, rfl⟩ := row_shapeP o9
        refine step_append_known rfl _ _ 24 rfl _ _ rfl rfl _ _ hr9 ?_
        simp only [Act.put, List.setIfInBounds_toArray]
        replace oO := o9
        clear hr9 g9 o9
        clear xB1
        refine hK.out _ _ (hS) (fun hHeld => ?_)
        clear hK K
        refine wpAnyH_ready (rs := [8, 14]) (by kernel_rfl) (by simp) ?_
        refine AllReadyH.cons rfl (fun K hK => ?_) ?_
        · go_simp
          go_wp2_with (go_at_call 43; refine (refBe_any f 2 (by decide) _).mono ?_; rintro e wk3 ⟨q, rfl, oE, b8⟩)
          obtain ⟨qa, qc, rfl⟩ := row_shapeP oE
          replace oO := row_below oO b8 (Nat.le_refl _)
          replace oE := row_base oE (Nat.zero_le _)
          replace hS := hS.trans (b8.mono (by have := hS.size; omega))
          clear b8
          refine hK.out _ _ (hS) (fun hHeld => ?_)
          clear hK K
          refine wpAnyH_ready (rs := [9, 14]) (by kernel_rfl) (by simp) ?_
          refine AllReadyH.cons rfl (fun K hK => ?_) ?_
          · obtain ⟨v9, wk4, hr9, o9, g9⟩ := run_append_u8 _ _ 6 n1 _ _ _ 24 wk3 oO (holds_of_row oE) (by have := hS.size; omega) (by decide) (by simp [beBytes_len])
            replace hS := hS.trans ((Below.refl _ _).grown g9 (by have := hS.size; omega) (fun z e => (oO.lt z e).1))
            obtain ⟨va, vc, rfl⟩ := row_shapeP o9
            refine step_append_known rfl _ _ 24 rfl _ _ rfl rfl _ _ hr9 ?_
            simp only [Act.put, List.setIfInBounds_toArray]
            replace oO := o9
            clear hr9 g9 o9
            clear oE
            refine hK.out _ _ (hS) (fun hHeld => ?_)
            clear hK K
            refine wpAnyH_ready (rs := [14]) (by kernel_rfl) (by simp) ?_
            refine AllReadyH.cons rfl (fun K hK => ?_) AllReadyH.nil
            go_simp
            have xB2 := Box.new wk4 5 #[.int .u8 (xs.length : Int)]
            have bA : Below wk4.heap.size wk4 (wk4.alloc (.cells #[.int .u8 (xs.length : Int)] 5)) := (Below.refl _ _).alloc (Nat.le_refl _) _
            replace oO := oO.alloc (.cells #[.int .u8 (xs.length : Int)] 5)
            replace hS := hS.trans (bA.mono (by have := hS.size; omega))
            clear bA hHeld
            generalize (wk4.alloc (.cells #[.int .u8 (xs.length : Int)] 5)) = wk5 at *
            refine hK.out _ _ (hS) (fun hHeld => ?_)
            clear hK K
            refine wpAnyH_ready (rs := [15]) (by kernel_rfl) (by simp) ?_
            refine AllReadyH.cons rfl (fun K hK => ?_) AllReadyH.nil
            obtain ⟨v9, wk6, hr9, o9, g9⟩ := run_append_u8 _ _ 8 n1 _ _ _ 24 wk5 oO (box_holds1 xB2) (by have := hS.size; omega) (by decide) (by simp)
            replace hS := hS.trans ((Below.refl _ _).grown g9 (by have := hS.size; omega) (fun z e => (oO.lt z e).1))
            obtain ⟨va, vc, rfl⟩ := row_shapeP o9
            refine step_append_known rfl _ _ 24 rfl _ _ rfl rfl _ _ hr9 ?_
            simp only [Act.put, List.setIfInBounds_toArray]
            replace oO := o9
            clear hr9 g9 o9
            refine hK.out _ _ (hS) (fun hHeld => ?_)
            clear hK K
            refine wpAnyH_ready (rs := [16]) (by kernel_rfl) (by simp) ?_
            refine AllReadyH.cons rfl (fun K hK => ?_) AllReadyH.nil
            go_simp
            refine hK.out _ _ hHeld (fun hHeld => ?_)
            clear hK K
            refine wpAnyH_done (by kernel_rfl) ?_ _
            go_wp2_with fail
            go_meet
            exact ⟨_, _, rfl, by simpa [headD, List.append_assoc] using oO, hS⟩
          refine AllReadyH.cons rfl (fun K hK => ?_) ?_
          · go_simp
            have xB2 := Box.new wk3 5 #[.int .u8 (xs.length : Int)]
            have bA : Below wk3.heap.size wk3 (wk3.alloc (.cells #[.int .u8 (xs.length : Int)] 5)) := (Below.refl _ _).alloc (Nat.le_refl _) _
            replace oO := oO.alloc (.cells #[.int .u8 (xs.length : Int)] 5)
            replace oE := row_below oE bA (Nat.le_refl _)
            replace hS := hS.trans (bA.mono (by have := hS.size; omega))
            clear bA hHeld
            generalize (wk3.alloc (.cells #[.int .u8 (xs.length : Int)] 5)) = wk4 at *
            refine hK.out _ _ (hS) (fun hHeld => ?_)
            clear hK K
            refine wpAnyH_ready (rs := [9]) (by kernel_rfl) (by simp) ?_
            refine AllReadyH.cons rfl (fun K hK => ?_) AllReadyH.nil
            obtain ⟨v9, wk5, hr9, o9, g9⟩ := run_append_u8 _ _ 6 n1 _ _ _ 24 wk4 oO (holds_of_row oE) (by have := hS.size; omega) (by decide) (by simp [beBytes_len])
            replace xB2 := xB2.grown g9 (row_not_box oO xB2 (by simp))
            replace hS := hS.trans ((Below.refl _ _).grown g9 (by have := hS.size; omega) (fun z e => (oO.lt z e).1))
            obtain ⟨va, vc, rfl⟩ := row_shapeP o9
            refine step_append_known rfl _ _ 24 rfl _ _ rfl rfl _ _ hr9 ?_
            simp only [Act.put]
            replace oO := o9
            clear hr9 g9 o9
            clear oE
            refine hK.out _ _ (hS) (fun hHeld => ?_)
            clear hK K
            refine wpAnyH_ready (rs := [15]) (by kernel_rfl) (by simp) ?_
            refine AllReadyH.cons rfl (fun K hK => ?_) AllReadyH.nil
            obtain ⟨v9, wk6, hr9, o9, g9⟩ := run_append_u8 _ _ 8 n1 _ _ _ 24 wk5 oO (box_holds1 xB2) (by have := hS.size; omega) (by decide) (by simp)
            replace hS := hS.trans ((Below.refl _ _).grown g9 (by have := hS.size; omega) (fun z e => (oO.lt z e).1))
            obtain ⟨va, vc, rfl⟩ := row_shapeP o9
            refine step_append_known rfl _ _ 24 rfl _ _ rfl rfl _ _ hr9 ?_
            simp only [Act.put, List.setIfInBounds_toArray]
            replace oO := o9
            clear hr9 g9 o9
            refine hK.out _ _ (hS) (fun hHeld => ?_)
            clear hK K
            refine wpAnyH_ready (rs := [16]) (by kernel_rfl) (by simp) ?_
            refine AllReadyH.cons rfl (fun K hK => ?_) AllReadyH.nil
            go_simp
            refine hK.out _ _ hHeld (fun hHeld => ?_)
            clear hK K
            refine wpAnyH_done (by kernel_rfl) ?_ _
            go_wp2_with fail
            go_meet
            exact ⟨_, _, rfl, by simpa [headD, List.append_assoc] using oO, hS⟩
          exact AllReadyH.nil
        refine AllReadyH.cons rfl (fun K hK => ?_) ?_
        · go_simp
          have xB2 := Box.new wk2 5 #[.int .u8 (xs.length : Int)]
          have bA : Below wk2.heap.size wk2 (wk2.alloc (.cells #[.int .u8 (xs.length : Int)] 5)) := (Below.refl _ _).alloc (Nat.le_refl _) _
          replace oO := oO.alloc (.cells #[.int .u8 (xs.length : Int)] 5)
          replace hS := hS.trans (bA.mono (by have := hS.size; omega))
          clear bA hHeld
          generalize (wk2.alloc (.cells #[.int .u8 (xs.length : Int)] 5)) = wk3 at *
          refine hK.out _ _ (hS) (fun hHeld => ?_)
          clear hK K
          refine wpAnyH_ready (rs := [8]) (by kernel_rfl) (by simp) ?_
          refine AllReadyH.cons rfl (fun K hK => ?_) AllReadyH.nil
          go_simp
          go_wp2_with (go_at_call 43; refine (refBe_any f 2 (by decide) _).mono ?_; rintro e wk4 ⟨q, rfl, oE, b8⟩)
          obtain ⟨qa, qc, rfl⟩ := row_shapeP oE
          replace oO := row_below oO b8 (Nat.le_refl _)
          replace oE := row_base oE (Nat.zero_le _)
          replace xB2 := xB2.next b8
          replace hS := hS.trans (b8.mono (by have := hS.size; omega))
          clear b8
          refine hK.out _ _ (hS) (fun hHeld => ?_)
          clear hK K
          refine wpAnyH_ready (rs := [9]) (by kernel_rfl) (by simp) ?_
          refine AllReadyH.cons rfl (fun K hK => ?_) AllReadyH.nil
          obtain ⟨v9, wk5, hr9, o9, g9⟩ := run_append_u8 _ _ 6 n1 _ _ _ 24 wk4 oO (holds_of_row oE) (by have := hS.size; omega) (by decide) (by simp [beBytes_len])
          replace xB2 := xB2.grown g9 (row_not_box oO xB2 (by simp))
          replace hS := hS.trans ((Below.refl _ _).grown g9 (by have := hS.size; omega) (fun z e => (oO.lt z e).1))
          obtain ⟨va, vc, rfl⟩ := row_shapeP o9
          refine step_append_known rfl _ _ 24 rfl _ _ rfl rfl _ _ hr9 ?_
          simp only [Act.put]
          replace oO := o9
          clear hr9 g9 o9
          clear oE
          refine hK.out _ _ (hS) (fun hHeld => ?_)
          clear hK K
          refine wpAnyH_ready (rs := [15]) (by kernel_rfl) (by simp) ?_
          refine AllReadyH.cons rfl (fun K hK => ?_) AllReadyH.nil
          obtain ⟨v9, wk6, hr9, o9, g9⟩ := run_append_u8 _ _ 8 n1 _ _ _ 24 wk5 oO (box_holds1 xB2) (by have := hS.size; omega) (by decide) (by simp)
          replace hS := hS.trans ((Below.refl _ _).grown g9 (by have := hS.size; omega) (fun z e => (oO.lt z e).1))
          obtain ⟨va, vc, rfl⟩ := row_shapeP o9
          refine step_append_known rfl _ _ 24 rfl _ _ rfl rfl _ _ hr9 ?_
          simp only [Act.put, List.setIfInBounds_toArray]
          replace oO := o9
          clear hr9 g9 o9
          refine hK.out _ _ (hS) (fun hHeld => ?_)
          clear hK K
          refine wpAnyH_ready (rs := [16]) (by kernel_rfl) (by simp) ?_
          refine AllReadyH.cons rfl (fun K hK => ?_) AllReadyH.nil
          go_simp
          refine hK.out _ _ hHeld (fun hHeld => ?_)
          clear hK K
          refine wpAnyH_done (by kernel_rfl) ?_ _
          go_wp2_with fail
          go_meet
          exact ⟨_, _, rfl, by simpa [headD, List.append_assoc] using oO, hS⟩
        exact AllReadyH.nil
      refine AllReadyH.cons rfl (fun K hK => ?_) ?_
      · go_simp
        have xB2 := Box.new wk1 5 #[.int .u8 (xs.length : Int)]
        have bA : Below wk1.heap.size wk1 (wk1.alloc (.cells #[.int .u8 (xs.length : Int)] 5)) := (Below.refl _ _).alloc (Nat.le_refl _) _
        replace oO := oO.alloc (.cells #[.int .u8 (xs.length : Int)] 5)
        replace xB1 := xB1.next bA
        replace hS := hS.trans (bA.mono (by have := hS.size; omega))
        clear bA hHeld
        generalize (wk1.alloc (.cells #[.int .u8 (xs.length : Int)] 5)) = wk2 at *
        refine hK.out _ _ (hS) (fun hHeld => ?_)
        clear hK K
        refine wpAnyH_ready (rs := [5]) (by kernel_rfl) (by simp) ?_
        refine AllReadyH.cons rfl (fun K hK => ?_) AllReadyH.nil
        obtain ⟨v9, wk3, hr9, o9, g9⟩ := run_append_u8 _ _ 5 n1 _ _ _ 24 wk2 oO (box_holds1 xB1) (by have := hS.size; omega) (by decide) (by simp)
        replace xB2 := xB2.grown g9 (row_not_box oO xB2 (by simp))
        replace hS := hS.trans ((Below.refl _ _).grown g9 (by have := hS.size; omega) (fun z e => (oO.lt z e).1))
        obtain ⟨va, vc, rfl⟩ := row_shapeP o9
        refine step_append_known rfl _ _ 24 rfl _ _ rfl rfl _ _ hr9 ?_
        simp only [Act.put, List.setIfInBounds_toArray]
        replace oO := o9
        clear hr9 g9 o9
        clear xB1
        refine hK.out _ _ (hS) (fun hHeld => ?_)
        clear hK K
        refine wpAnyH_ready (rs := [8]) (by kernel_rfl) (by simp) ?_
        refine AllReadyH.cons rfl (fun K hK => ?_) AllReadyH.nil
        go_simp
        go_wp2_with (go_at_call 43; refine (refBe_any f 2 (by decide) _).mono ?_; rintro e wk4 ⟨q, rfl, oE, b8⟩)
        obtain ⟨qa, qc, rfl⟩ := row_shapeP oE
        replace oO := row_below oO b8 (Nat.le_refl _)
        replace oE := row_base oE (Nat.zero_le _)
        replace xB2 := xB2.next b8
        replace hS := hS.trans (b8.mono (by have := hS.size; omega))
        clear b8
        refine hK.out _ _ (hS) (fun hHeld => ?_)
        clear hK K
        refine wpAnyH_ready (rs := [9]) (by kernel_rfl) (by simp) ?_
        refine AllReadyH.cons rfl (fun K hK => ?_) AllReadyH.nil
        obtain ⟨v9, wk5, hr9, o9, g9⟩ := run_append_u8 _ _ 6 n1 _ _ _ 24 wk4 oO (holds_of_row oE) (by have := hS.size; omega) (by decide) (by simp [beBytes_len])
        replace xB2 := xB2.grown g9 (row_not_box oO xB2 (by simp))
        replace hS := hS.trans ((Below.refl _ _).grown g9 (by have := hS.size; omega) (fun z e => (oO.lt z e).1))
        obtain ⟨va, vc, rfl⟩ := row_shapeP o9
        refine step_append_known rfl _ _ 24 rfl _ _ rfl rfl _ _ hr9 ?_
        simp only [Act.put]
        replace oO := o9
        clear hr9 g9 o9
        clear oE
        refine hK.out _ _ (hS) (fun hHeld => ?_)
        clear hK K
        refine wpAnyH_ready (rs := [15]) (by kernel_rfl) (by simp) ?_
        refine AllReadyH.cons rfl (fun K hK => ?_) AllReadyH.nil
        obtain ⟨v9, wk6, hr9, o9, g9⟩ := run_append_u8 _ _ 8 n1 _ _ _ 24 wk5 oO (box_holds1 xB2) (by have := hS.size; omega) (by decide) (by simp)
        replace hS := hS.trans ((Below.refl _ _).grown g9 (by have := hS.size; omega) (fun z e => (oO.lt z e).1))
        obtain ⟨va, vc, rfl⟩ := row_shapeP o9
        refine step_append_known rfl _ _ 24 rfl _ _ rfl rfl _ _ hr9 ?_
        simp only [Act.put, List.setIfInBounds_toArray]
        replace oO := o9
        clear hr9 g9 o9
        refine hK.out _ _ (hS) (fun hHeld => ?_)
        clear hK K
        refine wpAnyH_ready (rs := [16]) (by kernel_rfl) (by simp) ?_
        refine AllReadyH.cons rfl (fun K hK => ?_) AllReadyH.nil
        go_simp
        refine hK.out _ _ hHeld (fun hHeld => ?_)
        clear hK K
        refine wpAnyH_done (by kernel_rfl) ?_ _
        go_wp2_with fail
        go_meet
        exact ⟨_, _, rfl, by simpa [headD, List.append_assoc] using oO, hS⟩
      exact AllReadyH.nil
    refine AllReadyH.cons rfl (fun K hK => ?_) ?_
    · go_simp
      have xB2 := Box.new wk0 5 #[.int .u8 (xs.length : Int)]
      have bA : Below wk0.heap.size wk0 (wk0.alloc (.cells #[.int .u8 (xs.length : Int)] 5)) := (Below.refl _ _).alloc (Nat.le_refl _) _
      replace oO := oO.alloc (.cells #[.int .u8 (xs.length : Int)] 5)
      replace hS := hS.trans (bA.mono (by have := hS.size; omega))
      clear bA hHeld
      generalize (wk0.alloc (.cells #[.int .u8 (xs.length : Int)] 5)) = wk1 at *
      refine hK.out _ _ (hS) (fun hHeld => ?_)
      clear hK K
      refine wpAnyH_ready (rs := [4]) (by kernel_rfl) (by simp) ?_
      refine AllReadyH.cons rfl (fun K hK => ?_) AllReadyH.nil
      go_simp
      have xB1 := Box.new wk1 5 #[.int .u8 r]
      have bA : Below wk1.heap.size wk1 (wk1.alloc (.cells #[.int .u8 r] 5)) := (Below.refl _ _).alloc (Nat.le_refl _) _
      replace oO := oO.alloc (.cells #[.int .u8 r] 5)
      replace xB2 := xB2.next bA
      replace hS := hS.trans (bA.mono (by have := hS.size; omega))
      clear bA hHeld
      generalize (wk1.alloc (.cells #[.int .u8 r] 5)) = wk2 at *
      refine hK.out _ _ (hS) (fun hHeld => ?_)
      clear hK K
      refine wpAnyH_ready (rs := [5]) (by kernel_rfl) (by simp) ?_
      refine AllReadyH.cons rfl (fun K hK => ?_) AllReadyH.nil
      obtain ⟨v9, wk3, hr9, o9, g9⟩ := run_append_u8 _ _ 5 n1 _ _ _ 24 wk2 oO (box_holds1 xB1) (by have := hS.size; omega) (by decide) (by simp)
      replace xB2 := xB2.grown g9 (row_not_box oO xB2 (by simp))
      replace hS := hS.trans ((Below.refl _ _).grown g9 (by have := hS.size; omega) (fun z e => (oO.lt z e).1))
      obtain ⟨va, vc, rfl⟩ := row_shapeP o9
      refine step_append_known rfl _ _ 24 rfl _ _ rfl rfl _ _ hr9 ?_
      simp only [Act.put, List.setIfInBounds_toArray]
      replace oO := o9
      clear hr9 g9 o9
      clear xB1
      refine hK.out _ _ (hS) (fun hHeld => ?_)
      clear hK K
      refine wpAnyH_ready (rs := [8]) (by kernel_rfl) (by simp) ?_
      refine AllReadyH.cons rfl (fun K hK => ?_) AllReadyH.nil
      go_simp
      go_wp2_with (go_at_call 43; refine (refBe_any f 2 (by decide) _).mono ?_; rintro e wk4 ⟨q, rfl, oE, b8⟩)
      obtain ⟨qa, qc, rfl⟩ := row_shapeP oE
      replace oO := row_below oO b8 (Nat.le_refl _)
      replace oE := row_base oE (Nat.zero_le _)
      replace xB2 := xB2.next b8
      replace hS := hS.trans (b8.mono (by have := hS.size; omega))
      clear b8
      refine hK.out _ _ (hS) (fun hHeld => ?_)
      clear hK K
      refine wpAnyH_ready (rs := [9]) (by kernel_rfl) (by simp) ?_
      refine AllReadyH.cons rfl (fun K hK => ?_) AllReadyH.nil
      obtain ⟨v9, wk5, hr9, o9, g9⟩ := run_append_u8 _ _ 6 n1 _ _ _ 24 wk4 oO (holds_of_row oE) (by have := hS.size; omega) (by decide) (by simp [beBytes_len])
      replace xB2 := xB2.grown g9 (row_not_box oO xB2 (by simp))
      replace hS := hS.trans ((Below.refl _ _).grown g9 (by have := hS.size; omega) (fun z e => (oO.lt z e).1))
      obtain ⟨va, vc, rfl⟩ := row_shapeP o9
      refine step_append_known rfl _ _ 24 rfl _ _ rfl rfl _ _ hr9 ?_
      simp only [Act.put]
      replace oO := o9
      clear hr9 g9 o9
      clear oE
      refine hK.out _ _ (hS) (fun hHeld => ?_)
      clear hK K
      refine wpAnyH_ready (rs := [15]) (by kernel_rfl) (by simp) ?_
      refine AllReadyH.cons rfl (fun K hK => ?_) AllReadyH.nil
      obtain ⟨v9, wk6, hr9, o9, g9⟩ := run_append_u8 _ _ 8 n1 _ _ _ 24 wk5 oO (box_holds1 xB2) (by have := hS.size; omega) (by decide) (by simp)
      replace hS := hS.trans ((Below.refl _ _).grown g9 (by have := hS.size; omega) (fun z e => (oO.lt z e).1))
      obtain ⟨va, vc, rfl⟩ := row_shapeP o9
      refine step_append_known rfl _ _ 24 rfl _ _ rfl rfl _ _ hr9 ?_
      simp only [Act.put, List.setIfInBounds_toArray]
      replace oO := o9
      clear hr9 g9 o9
      refine hK.out _ _ (hS) (fun hHeld => ?_)
      clear hK K
      refine wpAnyH_ready (rs := [16]) (by kernel_rfl) (by simp) ?_
      refine AllReadyH.cons rfl (fun K hK => ?_) AllReadyH.nil
      go_simp
      refine hK.out _ _ hHeld (fun hHeld => ?_)
      clear hK K
      refine wpAnyH_done (by kernel_rfl) ?_ _
      go_wp2_with fail
      go_meet
      exact ⟨_, _, rfl, by simpa [headD, List.append_assoc] using oO, hS⟩
    exact AllReadyH.nil
  case rest =>
    obtain ⟨va, vc, rfl, o4, b4⟩ := hcut
    have HS16 := refSum16_any va vc (headD s r f xs.length) (by rw [headD_len]; decide) HHB.out wc (by rw [headD_len]; exact holds_of_row o4)
    rw [headD_len] at HS16
    have hn4 : n1 ≤ wc.heap.size := by have := b4.size; omega
    clear k1 k2 k3 hS o3
    go_wp2_with fail
    refine HS16.mono ?_
    rintro e w5 ⟨rfl, b5⟩
    have o5 := row_below o4 b5 (Nat.le_refl _)
    have hn5 : n1 ≤ w5.heap.size := by have := b5.size; omega
    replace b4 := b4.trans (b5.mono hn4)
    clear HS16 o4 b5
    obtain ⟨S16, hS16⟩ : ∃ x, sum16 (headD s r f xs.length) = x := ⟨_, rfl⟩
    have HS : Hid (sum16 (headD s r f xs.length) = S16) := hS16
    rw [hS16]
    clear hS16
    go_wp2_with fail
    refine (refBe_any (S16 : Int) 2 (by decide) _).mono ?_
    rintro e w6 ⟨q6, rfl, oq6, b6⟩
    have o6 := row_below o5 b6 (Nat.le_refl _)
    have hn6 : n1 ≤ w6.heap.size := by have := b6.size; omega
    replace b4 := b4.trans (b6.mono hn5)
    obtain ⟨v7, w7, hr7, o7, g7⟩ := run_append_u8 _ _ 9 n1 _ _ _ 24 w6 o6 (holds_of_row oq6) hn6 (by decide) (by simp [beBytes_len])
    replace b4 := b4.trans ((Below.refl _ _).grown g7 hn6 (fun z e => (o6.lt z e).1))
    have hn7 : n1 ≤ w7.heap.size := by have := b4.size; omega
    rw [beBytes_len] at o7
    clear o5 b6 oq6 g7 o6
    have c3 := (x1.below b4 hlt1).cell 3 _ rfl
    have ha7 : Holds .u8 w.heap.size w7 (.slice a xs.length cap) xs := (ha.below b1).below (b4.mono hwn)
    obtain ⟨v8, w8, hr8, o8, g8⟩ := run_append_u8 _ _ 11 n1 _ _ _ 24 w7 o7 ha7 hn7 (by decide) (by omega)
    replace b4 := b4.trans ((Below.refl _ _).grown g8 hn7 (fun z e => (o7.lt z e).1))
    have o9 : w8.ownsRow w.heap.size 5 1 v8 (xs.length + 11) ((packD s r f xs).map (Value.int .u8)) := by
      have := row_base o8 hwn
      rw [Nat.add_comm 11] at this
      unfold packD
      rw [HS.out, ← List.append_assoc]
      exact this
    have b9 := b1.trans (b4.mono hwn)
    clear ha ha7 o7 o8 g8 b4 b1 HS HHB HBX
    go_wp2_with (first | (at_builtin; refine wpList_append_run rfl _ _ 24 rfl _ _ rfl rfl _ _ hr7 ?_) | (at_builtin; refine wpList_append_run rfl _ _ 24 rfl _ _ rfl rfl _ _ hr8 ?_))
    go_ret
    exact ⟨_, rfl, o9, b9⟩

end Go.Proofs.YtnecdbmdgpoogaaDoor
