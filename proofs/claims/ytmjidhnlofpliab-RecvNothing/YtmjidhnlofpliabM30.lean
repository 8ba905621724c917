/-
  A variable in a block of its own, loaded and stored whole, in one step, whatever the number of its cells: for the list of a plain region's operations, for a region that draws its order, for a result that lies in such a variable. No function of the program is spoken of.
-/
import Derived.Test.YtmjidhnlofpliabM02
import Derived.Test.YtmjidhnlofpliabM07
import Derived.Test.YtmjidhnlofpliabM09
import Derived.Test.YtmjidhnlofpliabM11
import Derived.Test.YtmjidhnlofpliabM13
import Derived.Test.YtmjidhnlofpliabM21
import Derived.Test.YtmjidhnlofpliabM22
import Derived.Test.YtmjidhnlofpliabM23
import Derived.Test.YtmjidhnlofpliabM26
import Derived.Test.YtmjidhnlofpliabM28
import Derived.Test.YtmjidhnlofpliabM29
import Derived.Deep.AppendSrc
import Derived.Deep.Cut
import Derived.Deep.CutRange
import Derived.Deep.DeepCutAuto
import Derived.Deep.MidRow
namespace Go.Proofs.Ytmjidhnlofpliab
open Go.RowKit

theorem Box.range {W : World} {B : Nat} {t : TypeId} {cs : Array Value} (h : Box W B t cs) : W.rangeAt B 0 cs.toList := fun j v hv => by
  rw [Nat.zero_add]
  exact h.cell j v (by rw [← Array.getElem?_toList]; exact hv)
theorem Box.loadVar {W : World} {B : Nat} {t : TypeId} {cs : Array Value} (h : Box W B t cs) {P : Program} {ty : TypeId} {d : TypeDesc} (hu : P.underlying ty = some d) (hd : d.isRow = true) (hi : (P.info? ty).map (·.size) = some cs.size) : (loadVar ty ⟨B, 0, none⟩).run P W = .ok (.agg cs) W :=
  run_loadVar_mid W B 0 ty cs.toList d h.range hu hd (by rw [hi]; simp)
/-- A whole variable is stored: what becomes of it, of another one, of what lies below, of rows. -/
theorem Box.setRow {W : World} {B : Nat} {t : TypeId} {cs : Array Value} (h : Box W B t cs) (ds : Array Value) : Box (W.setRow B ds) B t ds := setRow_heap W B cs ds t (0, 0) h
theorem Box.otherRow {W : World} {B : Nat} {t : TypeId} {cs : Array Value} (h : Box W B t cs) {D : Nat} (hp : B ≠ D) (ds : Array Value) : Box (W.setRow D ds) B t cs := (setRow_other W D B ds hp).trans h
theorem below_setRow {W V : World} {n : Nat} (h : Below n W V) {D : Nat} (hD : n ≤ D) (ds : Array Value) : Below n W (V.setRow D ds) :=
  h.trans ⟨rfl, rfl, rfl, by simp, fun k hk => setRow_other V D k ds (by omega)⟩
theorem wpList_load_box {P : Program} {ops : Array Oper} {rest : List Oper} {op : Oper} {a : Act} {w : World} {Q : Exit → Act → World → Prop} {B : Nat} {t : TypeId} {cs : Array Value} (hb : Box w B t cs) (hgd : op.guard = none) (ty : TypeId) (x : Operand) (ho : op.op = .load ty x) (hx : a.eval x = .pointer (some ⟨B, 0, none⟩)) (d : TypeDesc)
    (hu : P.underlying ty = some d) (hd : d.isRow = true) (hi : (P.info? ty).map (·.size) = some cs.size) (h : wpList P ops Q rest (a.put op.dst (.agg cs)) w) : wpList P ops Q (op :: rest) a w :=
  wpList_load_mid hgd ty x ho B 0 hx cs.toList d hb.range hu hd (by rw [hi]; simp) h
theorem wpList_store_box {P : Program} {ops : Array Oper} {rest : List Oper} {op : Oper} {a : Act} {w : World} {Q : Exit → Act → World → Prop} {B : Nat} {t : TypeId} {old cs : Array Value} (hb : Box w B t old) (hgd : op.guard = none) (ty : TypeId) (x y : Operand) (ho : op.op = .store ty x y) (hx : a.eval x = .pointer (some ⟨B, 0, none⟩)) (hy : a.eval y = .agg cs)
    (hs : old.size = cs.size) (hi : (P.info? ty).map (·.size) = some cs.size) (h1 : cs.all (·.oneCell') = true) (h : wpList P ops Q rest (a.put op.dst undef) (w.setRow B cs)) : wpList P ops Q (op :: rest) a w :=
  wpList_plain hgd fun K hK => by
    unfold Oper.wp execOp
    simp only [ho, hx, hy, Instr.storeAt, Instr.sureAddr, Sem.run_bind, Sem.run_pure, Result.andThen_ok, run_storeVar_row w B t ty old cs hb hi hs h1]
    exact hK _ _ h
/-- In a region that draws its order: a whole variable is read. -/
theorem yields_box {P : Program} {S : World → Prop} {op : Oper} {a : Act} {B : Nat} {t : TypeId} {cs : Array Value} (ty : TypeId) (x : Operand) (ho : op.op = .load ty x) (hx : a.eval x = .pointer (some ⟨B, 0, none⟩)) (d : TypeDesc) (hS : ∀ w, S w → Box w B t cs)
    (hu : P.underlying ty = some d) (hd : d.isRow = true) (hi : (P.info? ty).map (·.size) = some cs.size) : ∀ w, S w → (execOp a.eval op).run P w = .ok (.value (.agg cs)) w := fun w hw => by
  unfold execOp
  simp only [ho, hx, Instr.loadAt, Instr.sureAddr, Sem.run_bind, Sem.run_pure, Result.andThen_ok, (hS w hw).loadVar hu hd hi]
/-- One result, a variable of more cells. -/
theorem results_boxR {P : Program} {fn : Func} {p : Tmp} {t : TypeId} (h : fn.results = #[.cell p t]) (tmps : Array Value) (w : World) {B : Nat} {t' : TypeId} {cs : Array Value} (hp : tmps[p]?.getD undef = .pointer (some ⟨B, 0, none⟩)) (hb : Box w B t' cs) {d : TypeDesc} (hu : P.underlying t = some d) (hd : d.isRow = true) (hi : (P.info? t).map (·.size) = some cs.size) :
    (results fn tmps).run P w = .ok (.agg cs) w := by
  have hl := hb.loadVar hu hd hi
  simp [results, h, hp, asAddr, hl]
/-- Two results, the first a variable of more cells. -/
theorem results_boxR2 {P : Program} {fn : Func} {p u : Tmp} {t : TypeId} (h : fn.results = #[.cell p t, .tmp u]) (tmps : Array Value) (w : World) {B : Nat} {t' : TypeId} {cs : Array Value} (hp : tmps[p]?.getD undef = .pointer (some ⟨B, 0, none⟩)) (hb : Box w B t' cs) {d : TypeDesc} (hu : P.underlying t = some d) (hd : d.isRow = true) (hi : (P.info? t).map (·.size) = some cs.size) :
    (results fn tmps).run P w = .ok (.tuple #[.agg cs, tmps.getD u undef]) w := by
  have hl := hb.loadVar hu hd hi
  simp [results, h, hp, asAddr, hl]

end Go.Proofs.Ytmjidhnlofpliab

/-
  More of lists of structs: append of a whole list, one cell of an element written over, an element exchanged for one that was made later. No function of the program is spoken of.
-/
namespace Go.Proofs.Ytmjidhnlofpliab
open Go.RowKit

/-- A whole variable is read, where the operation hangs on a guard. -/
theorem wpList_load_boxg {P : Program} {ops : Array Oper} {rest : List Oper} {op : Oper} {a : Act} {w : World} {Q : Exit → Act → World → Prop} {B : Nat} {t : TypeId} {cs : Array Value} (hb : Box w B t cs) (hw : Region.wanted op (yielded ops a.tmps) = true) (ty : TypeId) (x : Operand) (ho : op.op = .load ty x) (hx : a.eval x = .pointer (some ⟨B, 0, none⟩)) (d : TypeDesc)
    (hu : P.underlying ty = some d) (hd : d.isRow = true) (hi : (P.info? ty).map (·.size) = some cs.size) (h : wpList P ops Q rest (a.put op.dst (.agg cs)) w) : wpList P ops Q (op :: rest) a w := by
  refine wpList_step fun K hK => ?_
  rw [if_pos hw]
  have := yields_box (P := P) (S := fun v => v = w) (op := op) (a := a) ty x ho hx d (fun v hv => hv ▸ hb) hu hd hi w rfl
  unfold Oper.wp
  rw [this]
  exact hK _ _ h

/-- append of many structs, its run. -/
theorem run_append_sts {α : Type} (K : Kind α) {P : Program} (st ty : TypeId) (z : Value) (bs : Nat) (hu : P.underlying st = some (.slice K.ty)) (hI : (P.info? K.ty).map (fun i => (i.zero, i.size, i.bytes)) = some (some z, K.k, bs)) (hz : z.cells.size = K.k) (hk : 0 < K.k) (hbs : bs ≤ 1024)
    (v src : Value) (n m base n₀ : Nat) (r s : Lies α) (hm : s.length = m) (hs : ∀ x ∈ s, ∀ p ∈ x.2, ∃ a n c, p = Value.slice a n c) (w : World) (hown : w.ownsRow base K.ty K.k v n (cellsK K r)) (hH : HoldsC n₀ w src m (cellsK K s)) (hb : base ≤ w.heap.size) (h1 : n ≤ 1048576) (h2 : m ≤ 1048576) :
    ∃ v' w', (Builtin.append_ #[st, st] ty #[v, src]).run P w = .ok v' w' ∧ w'.ownsRow base K.ty K.k v' (n + m) (cellsK K (r ++ s)) ∧ w.grownBy w' v.ownBlock := by
  obtain ⟨i0, hi, hz0, hz1, hz2⟩ := info_parts hI
  have hb2 : (n + m) * bs ≤ (1048576 + 1048576) * 1024 := Nat.mul_le_mul (by omega) hbs
  rw [cellsK_append]
  rcases hH with ⟨⟨a, cap, rfl, ha⟩, rfl, hnil⟩ | ⟨b, off, cap, rfl, _, hcs⟩
  · rw [hnil, List.append_nil, Nat.add_zero]
    cases a with
    | none =>
      obtain rfl := ha rfl
      exact ⟨v, w, run_append_owned_none w base st ty K.ty i0 K.k hu hi v n _ hown, hown, World.grownBy.refl _ _⟩
    | some ad =>
      obtain ⟨v', w', hr, ho, hg, _⟩ := run_append_own (P := P) w base st ty K.ty i0 z K.k bs hu hi hz0 hz1 hz2 hz hk v n _ hown ad 0 cap [] (by simp) (by simp) (by simp) (by unfold maxLen; omega) (by omega) hb
      exact ⟨v', w', hr, by simpa using ho, hg⟩
  · obtain ⟨v', w', hr, ho, hg, _⟩ := run_append_own (P := P) w base st ty K.ty i0 z K.k bs hu hi hz0 hz1 hz2 hz hk v n _ hown ⟨b, off, none⟩ m cap (cellsK K s) (by rw [cellsK_len, hm]) (fun j u hj => by
      have := hcs j u hj
      rwa [show (⟨b, off, none⟩ : Addr).add j = ⟨b, off + j, none⟩ by unfold Addr.add; split <;> simp_all]) (cellsK_one K hs) (by unfold maxLen; omega) (by omega) hb
    exact ⟨v', w', hr, ho, hg⟩

/-- One cell of an element is written over. -/
theorem cellsK_set1 {α : Type} (K : Kind α) : ∀ {r : Lies α} {k i : Nat} {x y : α × List Value} {u : Value}, r[k]? = some x → i < K.k → (K.lie x.1 x.2).set i u = K.lie y.1 y.2 → (cellsK K r).set (k * K.k + i) u = cellsK K (r.set k y)
  | [], k, i, x, y, u, h, _, _ => by simp at h
  | z :: r, 0, i, x, y, u, h, hi, he => by
    simp at h
    subst h
    have e : cellsK K (z :: r) = K.lie z.1 z.2 ++ cellsK K r := by simp [cellsK]
    rw [e, Nat.zero_mul, Nat.zero_add, List.set_append_left _ _ (by rw [K.len]; exact hi), he]
    simp [cellsK]
  | z :: r, k + 1, i, x, y, u, h, hi, he => by
    have ih := cellsK_set1 K (r := r) (k := k) (by simpa using h) hi he
    have e : cellsK K (z :: r) = K.lie z.1 z.2 ++ cellsK K r := by simp [cellsK]
    have e2 : cellsK K ((z :: r).set (k + 1) y) = K.lie z.1 z.2 ++ cellsK K (r.set k y) := by simp [cellsK]
    have e3 : (k + 1) * K.k + i = K.k + (k * K.k + i) := by rw [Nat.add_mul, Nat.one_mul]; omega
    rw [e, e2, ← ih, e3, List.set_append_right _ _ (by rw [K.len]; omega), K.len, Nat.add_sub_cancel_left]

theorem map_set_fst {α : Type} {r : Lies α} {k : Nat} {x y : α × List Value} (h : r[k]? = some x) (he : y.1 = x.1) : (r.set k y).map Prod.fst = r.map Prod.fst := by
  apply List.ext_getElem?
  intro j
  rw [List.getElem?_map, List.getElem?_map]
  by_cases hj : k = j
  · subst hj
    rw [List.getElem?_set_self (List.getElem?_eq_some_iff.1 h).1, h]
    simp [he]
  · rw [List.getElem?_set_ne hj]
/-- Two lists of the call's own, one behind the other, the second made later. -/
theorem OwnL.append {α : Type} {K : Kind α} {base m : Nat} {W : World} {r s : Lies α} (h : OwnL K base W r) (hs : OwnL K m W s) (hm : base ≤ m) (hlt : ∀ u ∈ r, ∀ p ∈ u.2, ∀ g, p.ownBlock = some g → g < m) : OwnL K base W (r ++ s) := by
  refine ⟨fun u hu => ?_, ?_⟩
  · rcases List.mem_append.1 hu with hu | hu
    · exact h.subs u hu
    · exact (hs.subs u hu).base hm
  · rw [List.flatMap_append]
    refine List.pairwise_append.2 ⟨h.apart, hs.apart, fun p hp q hq => ?_⟩
    obtain ⟨u, hu, hp⟩ := List.mem_flatMap.1 hp
    obtain ⟨u', hu', hq⟩ := List.mem_flatMap.1 hq
    cases ho : p.ownBlock with
    | none => exact .inl ho
    | some g =>
      refine .inr fun hc => ?_
      have h1 := hlt u hu p hp g ho
      have h2 := (hs.lt u' hu' q hq g (by rw [← hc, ho])).1
      omega

end Go.Proofs.Ytmjidhnlofpliab

/-
  Rows from whatever cell on: one cell is written over. No function of the program is spoken of.
-/
namespace Go.Proofs.Ytmjidhnlofpliab
open Go.RowKit

theorem RowAt.set {base n k g o cap : Nat} {W : World} {e : TypeId} {cs : List Value} (h : RowAt base W e k (.slice (some ⟨g, o, none⟩) n cap) n cs) (hn : 0 < n) (j : Nat) (u : Value) : RowAt base (W.setCell ⟨g, o + j, none⟩ u) e k (.slice (some ⟨g, o, none⟩) n cap) n (cs.set j u) := by
  refine ⟨by rw [List.length_set]; exact h.1, ?_⟩
  rcases h.2 with ⟨rfl, _⟩ | ⟨g', o', cap', cur, hv, h1, hb, hg, hc⟩
  · omega
  · cases hv
    refine .inr ⟨g, o, cap, cur.setIfInBounds (o + j) u, rfl, h1, hb, ?_, fun i x hi => ?_⟩
    · obtain ⟨hlt, he⟩ := Array.getElem?_eq_some_iff.1 hg
      refine Array.getElem?_eq_some_iff.2 ⟨by simpa [World.setCell] using hlt, ?_⟩
      simp only [World.setCell]
      rw [Array.getElem_modify]
      simp [he]
    · by_cases hij : j = i
      · subst hij
        have hl : j < cs.length := by have := (List.getElem?_eq_some_iff.1 hi).1; rwa [List.length_set] at this
        rw [List.getElem?_set_self hl] at hi
        have := hc j cs[j] (by simp)
        have hl2 := (Array.getElem?_eq_some_iff.1 this).1
        rw [Array.getElem?_setIfInBounds_self_of_lt hl2]
        exact hi
      · rw [List.getElem?_set_ne hij] at hi
        rw [Array.getElem?_setIfInBounds_ne (by omega)]
        exact hc i x hi
/-- It lies as it lay where its own block does. -/
theorem RowAt.sameAt {base n k g o cap : Nat} {W W' : World} {e : TypeId} {cs : List Value} (h : RowAt base W e k (.slice (some ⟨g, o, none⟩) n cap) n cs) (hn : 0 < n) (hq : W'.heap[g]? = W.heap[g]?) : RowAt base W' e k (.slice (some ⟨g, o, none⟩) n cap) n cs := by
  refine ⟨h.1, ?_⟩
  rcases h.2 with ⟨rfl, _⟩ | ⟨g', o', cap', cur, hv, h1, hb, hg, hc⟩
  · omega
  · cases hv
    exact .inr ⟨g, o, cap, cur, rfl, h1, hb, hq.trans hg, hc⟩
/-- The block that it lies in is another one than a variable's of another type. -/
theorem RowAt.neBox {base n k g o cap B : Nat} {W : World} {e t : TypeId} {cs : List Value} {ds : Array Value} (h : RowAt base W e k (.slice (some ⟨g, o, none⟩) n cap) n cs) (hn : 0 < n) (hb : Box W B t ds) (he : e ≠ t) : g ≠ B := fun hv => by
  rcases h.2 with ⟨rfl, _⟩ | ⟨g', o', cap', cur, hv', h1, hb', hg, hc⟩
  · omega
  · cases hv'
    subst hv
    have h2 : W.heap[g]? = _ := hb
    rw [hg] at h2
    simp only [Option.some.injEq, Obj.cells.injEq] at h2
    exact he h2.2.1
end Go.Proofs.Ytmjidhnlofpliab

/-
  Rows that lie in blocks made since a bound, from whatever cell on, with the room behind them: what is left of them behind their first element, one element more at their end, one element written over. Lists of structs in such rows. No function of the program is spoken of.
-/
namespace Go.Proofs.Ytmjidhnlofpliab
open Go.RowKit

/-- The slice v, of n elements, lies in a block made since base, from some cell on, its room behind it; its cells are cs. -/
def TlRow (base : Nat) (W : World) (e : TypeId) (k : Nat) (v : Value) (n : Nat) (cs : List Value) : Prop :=
  cs.length = n * k ∧ ((v = .slice none 0 0 ∧ n = 0) ∨ ∃ g o cap cur, v = .slice (some ⟨g, o, none⟩) n cap ∧ n ≤ cap ∧ cap ≤ maxLen ∧ base ≤ g ∧ W.heap[g]? = some (.cells cur e (0, 0)) ∧ (0 < cap → o + cap * k ≤ cur.size) ∧ ∀ (j : Nat) (u : Value), cs[j]? = some u → cur[o + j]? = some u)
section
variable {base base' n k : Nat} {W W' : World} {e : TypeId} {v : Value} {cs : List Value}
theorem TlRow.ofOwn (h : W.ownsRow base e k v n cs) : TlRow base W e k v n cs := by
  refine ⟨h.1, ?_⟩
  rcases h.2 with ⟨rfl, rfl⟩ | ⟨g, cap, cur, rfl, hb, hg, hk, hm, hs, ht⟩
  · exact .inl ⟨rfl, rfl⟩
  · refine .inr ⟨g, 0, cap, cur, rfl, hk, hm, hb, hg, fun _ => by omega, fun j u hj => ?_⟩
    rw [← ht, List.getElem?_take] at hj
    split at hj
    · rw [Nat.zero_add]
      simpa using hj
    · cases hj
theorem TlRow.row (h : TlRow base W e k v n cs) : RowAt base W e k v n cs := by
  refine ⟨h.1, ?_⟩
  rcases h.2 with ⟨rfl, rfl⟩ | ⟨g, o, cap, cur, rfl, h1, _, hb, hg, _, hc⟩
  · exact .inl ⟨rfl, _, _, rfl, fun _ => rfl⟩
  · exact .inr ⟨g, o, cap, cur, rfl, h1, hb, hg, hc⟩
theorem TlRow.sameAt (h : TlRow base W e k v n cs) (hq : ∀ g, v.ownBlock = some g → W'.heap[g]? = W.heap[g]?) : TlRow base W' e k v n cs := by
  refine ⟨h.1, ?_⟩
  rcases h.2 with h0 | ⟨g, o, cap, cur, hv, h1, h2, hb, hg, hr, hc⟩
  · exact .inl h0
  · exact .inr ⟨g, o, cap, cur, hv, h1, h2, hb, (hq g (by rw [hv]; rfl)).trans hg, hr, hc⟩
theorem TlRow.lt (h : TlRow base W e k v n cs) : ∀ g, v.ownBlock = some g → base ≤ g ∧ g < W.heap.size := fun g hg => by
  rcases h.2 with ⟨rfl, _⟩ | ⟨g', o, cap, cur, rfl, _, _, hb, hg', _⟩
  · cases hg
  · cases hg
    exact ⟨hb, (Array.getElem?_eq_some_iff.1 hg').1⟩
theorem TlRow.same (h : TlRow base W e k v n cs) (hq : ∀ g, base ≤ g → g < W.heap.size → W'.heap[g]? = W.heap[g]?) : TlRow base W' e k v n cs := h.sameAt fun g hg => hq g (h.lt g hg).1 (h.lt g hg).2
theorem TlRow.next (h : TlRow base W e k v n cs) (hb : Below W.heap.size W W') : TlRow base W' e k v n cs := h.same fun g _ hg => hb.block g hg
theorem TlRow.lower (h : TlRow base W e k v n cs) (hn : base' ≤ base) : TlRow base' W e k v n cs := by
  refine ⟨h.1, ?_⟩
  rcases h.2 with h0 | ⟨g, o, cap, cur, hv, h1, h2, hb, hg, hr, hc⟩
  · exact .inl h0
  · exact .inr ⟨g, o, cap, cur, hv, h1, h2, by omega, hg, hr, hc⟩
theorem TlRow.shape (h : TlRow base W e k v n cs) : ∃ a c, v = .slice a n c := by
  rcases h.2 with ⟨rfl, rfl⟩ | ⟨g, o, cap, cur, hv, _⟩
  · exact ⟨_, _, rfl⟩
  · exact ⟨_, _, hv⟩
theorem TlRow.cap {a : Option Addr} {c : Nat} (h : TlRow base W e k (.slice a n c) n cs) : n ≤ c := h.row.cap
theorem tlRow_nil (base : Nat) (W : World) (e : TypeId) (k : Nat) : TlRow base W e k (.slice none 0 0) 0 [] := ⟨by simp, .inl ⟨rfl, rfl⟩⟩
/-- Rows of unlike elements lie in unlike blocks. -/
theorem TlRow.apart {b' k' n' : Nat} {e' : TypeId} {v' : Value} {cs' : List Value} (h : TlRow base W e k v n cs) (h' : TlRow b' W e' k' v' n' cs') (he : e ≠ e') : Apart v v' := by
  rcases h.2 with ⟨rfl, _⟩ | ⟨g, o, cap, cur, rfl, _, _, _, hg, _⟩
  · exact .inl rfl
  · rcases h'.2 with ⟨rfl, _⟩ | ⟨g', o', cap', cur', rfl, _, _, _, hg', _⟩
    · exact .inr (by simp [Value.ownBlock])
    · refine .inr fun hc => ?_
      simp only [Value.ownBlock, Option.some.injEq] at hc
      subst hc
      rw [hg] at hg'
      simp only [Option.some.injEq, Obj.cells.injEq] at hg'
      exact he hg'.2.1
theorem TlRow.apartO {b' k' n' : Nat} {e' : TypeId} {v' : Value} {cs' : List Value} (h : TlRow base W e k v n cs) (h' : W.ownsRow b' e' k' v' n' cs') (he : e ≠ e') : Apart v' v := by
  rcases (TlRow.ofOwn h').apart h (fun x => he x.symm) with h0 | h0
  · exact .inl h0
  · exact .inr h0
/-- A variable of another type lies in another block. -/
theorem TlRow.neBox {B : Nat} {t : TypeId} {ds : Array Value} (h : TlRow base W e k v n cs) (hb : Box W B t ds) (he : e ≠ t) : v.ownBlock ≠ some B := fun hv => by
  rcases h.2 with ⟨rfl, _⟩ | ⟨g, o, cap, cur, rfl, _, _, _, hg, _⟩
  · cases hv
  · cases hv
    have h2 : W.heap[g]? = _ := hb
    rw [hg] at h2
    simp only [Option.some.injEq, Obj.cells.injEq] at h2
    exact he h2.2.1
theorem TlRow.put {B : Nat} {t : TypeId} {ds : Array Value} (h : TlRow base W e k v n cs) (hb : Box W B t ds) (he : e ≠ t) (hq : ∀ g, g ≠ B → W'.heap[g]? = W.heap[g]?) : TlRow base W' e k v n cs := h.sameAt fun g hg => hq g fun e => h.neBox hb he (by rw [hg, e])
/-- What is left behind its first element. -/
theorem TlRow.tail {g o c : Nat} (h : TlRow base W e k (.slice (some ⟨g, o, none⟩) n c) n cs) (hn : 0 < n) : TlRow base W e k (.slice (some ⟨g, if c = 1 then o else o + k, none⟩) (n - 1) (c - 1)) (n - 1) (cs.drop k) := by
  obtain ⟨hl, h2⟩ := h
  refine ⟨by rw [List.length_drop, hl, Nat.sub_mul, Nat.one_mul], ?_⟩
  rcases h2 with ⟨_, h0⟩ | ⟨g', o', cap, cur, hv, h1, hm, hb, hg, hr, hc⟩
  · omega
  · cases hv
    refine .inr ⟨g, _, c - 1, cur, rfl, by omega, by omega, hb, hg, fun h0 => ?_, fun j u hj => ?_⟩
    · rw [if_neg (by omega)]
      have h3 := hr (by omega)
      rw [Nat.sub_mul, Nat.one_mul]
      have h4 : k ≤ c * k := Nat.le_mul_of_pos_left _ (by omega)
      omega
    · rw [List.getElem?_drop] at hj
      by_cases hc1 : c = 1
      · have h5 := (List.getElem?_eq_some_iff.1 hj).1
        have h6 : n = 1 := by omega
        rw [hl, h6, Nat.one_mul] at h5
        omega
      · rw [if_neg hc1, Nat.add_assoc]
        exact hc _ u hj
/-- One cell is written over. -/
theorem TlRow.set {g o cap : Nat} (h : TlRow base W e k (.slice (some ⟨g, o, none⟩) n cap) n cs) (j : Nat) (u : Value) : TlRow base (W.setCell ⟨g, o + j, none⟩ u) e k (.slice (some ⟨g, o, none⟩) n cap) n (cs.set j u) := by
  refine ⟨by rw [List.length_set]; exact h.1, ?_⟩
  rcases h.2 with ⟨hv, _⟩ | ⟨g', o', cap', cur, hv, h1, hm, hb, hg, hr, hc⟩
  · cases hv
  · cases hv
    refine .inr ⟨g, o, cap, cur.setIfInBounds (o + j) u, rfl, h1, hm, hb, ?_, fun h0 => by rw [Array.size_setIfInBounds]; exact hr h0, fun i x hi => ?_⟩
    · obtain ⟨hlt, he⟩ := Array.getElem?_eq_some_iff.1 hg
      refine Array.getElem?_eq_some_iff.2 ⟨by simpa [World.setCell] using hlt, ?_⟩
      simp only [World.setCell]
      rw [Array.getElem_modify]
      simp [he]
    · by_cases hij : j = i
      · subst hij
        have hl : j < cs.length := by have := (List.getElem?_eq_some_iff.1 hi).1; rwa [List.length_set] at this
        rw [List.getElem?_set_self hl] at hi
        have := hc j cs[j] (by simp)
        have hl2 := (Array.getElem?_eq_some_iff.1 this).1
        rw [Array.getElem?_setIfInBounds_self_of_lt hl2]
        exact hi
      · rw [List.getElem?_set_ne hij] at hi
        rw [Array.getElem?_setIfInBounds_ne (by omega)]
        exact hc i x hi
end
theorem grown_setCells (g : Nat) : ∀ (vs : List Value) (o : Nat) (W : World), W.grownBy (W.setCells g o vs) (some g)
  | [], _, _ => World.grownBy.refl _ _
  | u :: vs, o, W => by
    have g2 := grown_setCells g vs (o + 1) (W.setCell ⟨g, o, none⟩ u)
    exact ⟨g2.os, g2.tape, g2.output, by simpa [World.setCell, World.setCells] using g2.size, fun q hq hne => (g2.block q (by simpa [World.setCell] using hq) hne).trans (Below.heap_setCell _ _ _ q (by simpa using hne))⟩
/-- One element more, its run: in the room that there is, or in a new block. -/
theorem run_append_tl {P : Program} (st ty e : TypeId) (z : Value) (k bs : Nat) (hu : P.underlying st = some (.slice e)) (hI : (P.info? e).map (fun i => (i.zero, i.size, i.bytes)) = some (some z, k, bs)) (hz : z.cells.size = k) (hk : 0 < k) (hbs : bs ≤ 1024)
    (v : Value) (n base : Nat) (cs news : List Value) (hnl : news.length = k) (hone : ∀ u ∈ news, u.oneCell' = true) (w : World) (h : TlRow base w e k v n cs) (hb : base ≤ w.heap.size) (h1 : n ≤ 1048576) :
    ∃ v' w', (Builtin.append_ #[st, st] ty #[v, .slice (some ⟨w.heap.size, 0, none⟩) 1 1]).run P (w.alloc (.cells news.toArray e)) = .ok v' w' ∧ TlRow base w' e k v' (n + 1) (cs ++ news) ∧ (w.alloc (.cells news.toArray e)).grownBy w' v.ownBlock := by
  obtain ⟨i0, hi, hz0, hz1, hz2⟩ := info_parts hI
  have hb2 : (n + 1) * bs ≤ (1048576 + 1) * 1024 := Nat.mul_le_mul (by omega) hbs
  have hnews : ∀ j u, news[j]? = some u → (w.alloc (.cells news.toArray e)).cell? ((⟨w.heap.size, 0, none⟩ : Addr).add j) = some u := World.news_of_block (World.alloc_heap_new _ _)
  rcases h.2 with ⟨rfl, rfl⟩ | ⟨g, o, cap, cur, rfl, hn, hm, hbg, hg, hr, hc⟩
  · have hcs : cs = [] := List.length_eq_zero_iff.1 (by have := h.1; omega)
    subst hcs
    obtain ⟨v', w', hr, ho, hg, _⟩ := run_append_own (P := P) (w.alloc (.cells news.toArray e)) base st ty e i0 z k bs hu hi hz0 hz1 hz2 hz hk (.slice none 0 0) 0 [] (World.ownsRow_nil _ _ _ _) ⟨w.heap.size, 0, none⟩ 1 1 news (by omega) hnews hone (by unfold maxLen; omega) (by omega) (by simp; omega)
    exact ⟨v', w', hr, .ofOwn ho, hg⟩
  · have hgl := (Array.getElem?_eq_some_iff.1 hg).1
    have hg2 : (w.alloc (.cells news.toArray e)).heap[g]? = some (.cells cur e (0, 0)) := (Below.heap_alloc w _ g hgl).trans hg
    have hl := h.1
    by_cases hroom : n + 1 ≤ cap
    · have hfit := hr (by omega)
      have hle : (n + 1) * k ≤ cap * k := Nat.mul_le_mul_right _ hroom
      rw [Nat.add_mul, Nat.one_mul] at hle
      have hrun := run_append_room_src (P := P) (w.alloc (.cells news.toArray e)) st st ty e i0 hu hi g o n cap (.slice (some ⟨w.heap.size, 0, none⟩) 1 1) 1 news
        (Src.ofSlice _ hu ⟨w.heap.size, 0, none⟩ 1 1 news (by rw [hz1]; omega) hnews hone) hroom (fun j hj => by
          rw [hz1, hnl] at *
          simp only [World.cell?, hg2]
          rw [show cur[o + n * k + j]? = some cur[o + n * k + j] from Array.getElem?_eq_getElem (by omega)]
          rfl) (fun j hj => by simp [World.frozen?, hg2])
      rw [hz1] at hrun
      refine ⟨_, _, hrun, ⟨by rw [List.length_append, hl, hnl, Nat.add_mul, Nat.one_mul], .inr ?_⟩, grown_setCells g news _ _⟩
      -- the block behind it
      have key : ∀ (vs : List Value) (p : Nat) (W : World) (cu : Array Value), W.heap[g]? = some (.cells cu e (0, 0)) → p + vs.length ≤ cu.size → ∃ cu', (W.setCells g p vs).heap[g]? = some (.cells cu' e (0, 0)) ∧ cu'.size = cu.size ∧ (∀ j, j < p → cu'[j]? = cu[j]?) ∧ ∀ (j : Nat) (u : Value), vs[j]? = some u → cu'[p + j]? = some u := by
        intro vs
        induction vs with
        | nil => intro p W cu h0 _; exact ⟨cu, h0, rfl, fun _ _ => rfl, fun j u hj => by simp at hj⟩
        | cons u vs ih =>
          intro p W cu h0 hp
          simp only [List.length_cons] at hp
          have h1 : (W.setCell ⟨g, p, none⟩ u).heap[g]? = some (.cells (cu.setIfInBounds p u) e (0, 0)) := by
            obtain ⟨hlt, he⟩ := Array.getElem?_eq_some_iff.1 h0
            refine Array.getElem?_eq_some_iff.2 ⟨by simpa [World.setCell] using hlt, ?_⟩
            simp only [World.setCell]
            rw [Array.getElem_modify]
            simp [he]
          obtain ⟨cu', q1, q2, q3, q4⟩ := ih (p + 1) _ _ h1 (by rw [Array.size_setIfInBounds]; omega)
          refine ⟨cu', q1, by rw [q2, Array.size_setIfInBounds], fun j hj => ?_, fun j x hj => ?_⟩
          · rw [q3 j (by omega), Array.getElem?_setIfInBounds_ne (by omega)]
          · cases j with
            | zero =>
              rw [Nat.add_zero, q3 p (by omega), Array.getElem?_setIfInBounds_self_of_lt (by omega)]
              simpa using hj
            | succ j =>
              have := q4 j x (by simpa using hj)
              rwa [show p + (j + 1) = p + 1 + j by omega]
      obtain ⟨cu', q1, q2, q3, q4⟩ := key news (o + n * k) _ cur hg2 (by omega)
      refine ⟨g, o, cap, cu', rfl, hroom, hm, hbg, q1, fun _ => by rw [q2]; exact hfit, fun j u hj => ?_⟩
      by_cases hjl : j < cs.length
      · rw [List.getElem?_append_left hjl] at hj
        rw [q3 _ (by omega)]
        exact hc j u hj
      · rw [List.getElem?_append_right (by omega)] at hj
        have := q4 _ u hj
        rwa [show o + n * k + (j - cs.length) = o + j by omega] at this
    · have hcn : cap = n := by omega
      subst hcn
      have hbig : Builtin.nextslicecap (cap + 1) cap * i0.bytes ≤ 281474976710656 := growslice_fits (by omega) (by rw [hz2]; omega)
      have hrun := run_append_grow (P := P) (w.alloc (.cells news.toArray e)) st ty e i0 z hu hi hz0 ⟨g, o, none⟩ cap cap cs (by rw [hz1]; exact hl) (fun j u hj => by
          rw [Addr.add_lit]
          simp only [World.cell?, hg2]
          exact hc j u hj) ⟨w.heap.size, 0, none⟩ 1 1 news (by rw [hz1]; omega) hnews (by omega) (by omega) hbig
      refine ⟨_, _, hrun, ⟨by rw [List.length_append, hl, hnl, Nat.add_mul, Nat.one_mul], .inr ⟨_, 0, _, _, rfl, grownCap_ge _ _ _ _, grownCap_le_maxLen _ _ _ _ (by unfold maxLen; omega), by simp; omega, World.alloc_heap_new _ _, fun _ => ?_, fun j u hj => ?_⟩⟩, ?_⟩
      · have h5 := grownCap_ge (w.alloc (.cells news.toArray e)) (cap + 1) cap e
        simp only [Array.size_append, size_zeroCells, List.size_toArray, hz, hl, hnl]
        rw [Nat.zero_add]
        generalize grownCap (w.alloc (.cells news.toArray e)) (cap + 1) cap e = G at *
        have h6 : G = (cap + 1) + (G - (cap + 1)) := by omega
        conv => lhs; rw [h6]
        rw [Nat.add_mul, Nat.add_mul, Nat.one_mul]
        exact Nat.le_refl _
      · rw [Nat.zero_add]
        have hlt := (List.getElem?_eq_some_iff.1 hj).1
        rw [Array.getElem?_append_left (by simpa using hlt)]
        simpa using hj
      · exact ⟨rfl, rfl, rfl, by simp, fun q hq _ => Below.heap_alloc _ _ q hq⟩

/-- An append that grows such a row leaves variables of another type. -/
theorem TlRow.boxKept {base size n B : Nat} {W W' : World} {e t : TypeId} {v : Value} {xs : List Value} {ds : Array Value} (hv : TlRow base W e size v n xs) (hb : Box W B t ds) (he : e ≠ t) (o : Obj) (hg : (W.alloc o).grownBy W' v.ownBlock) : Box W' B t ds := (hg.block B ((hb.alloc o).lt) fun e2 => hv.neBox hb he e2.symm).trans (hb.alloc o)
/-- Structs in such a row, the rows that they lead to the call's own, in blocks of their own. -/
def StTl {α : Type} (K : Kind α) (base : Nat) (W : World) (v : Value) (l : List α) : Prop := ∃ r : Lies α, r.map Prod.fst = l ∧ TlRow base W K.ty K.k v l.length (cellsK K r) ∧ OwnL K base W r
section
variable {α : Type} {K : Kind α} {base base' : Nat} {W W' : World} {v : Value} {l : List α}
theorem StTl.ofOwn (h : OwnSts K base W v l) : StTl K base W v l := by
  obtain ⟨r, h1, h2, h3⟩ := h
  exact ⟨r, h1, .ofOwn h2, h3⟩
theorem StTl.at (h : StTl K base W v l) : StsAt K base W v l := by
  obtain ⟨r, h1, h2, h3⟩ := h
  exact ⟨r, h1, h2.row, h3⟩
theorem StTl.holds (h : StTl K base W v l) : Sts K W.heap.size W v l := h.at.holds
theorem StTl.same (h : StTl K base W v l) (hq : ∀ g, base ≤ g → g < W.heap.size → W'.heap[g]? = W.heap[g]?) : StTl K base W' v l := by
  obtain ⟨r, h1, h2, h3⟩ := h
  exact ⟨r, h1, h2.same hq, h3.since hq⟩
theorem StTl.next (h : StTl K base W v l) (hb : Below W.heap.size W W') : StTl K base W' v l := h.same fun g _ hg => hb.block g hg
theorem StTl.lower (h : StTl K base W v l) (hn : base' ≤ base) : StTl K base' W v l := by
  obtain ⟨r, h1, h2, h3⟩ := h
  exact ⟨r, h1, h2.lower hn, h3.lower hn⟩
theorem StTl.shape (h : StTl K base W v l) : ∃ a c, v = .slice a l.length c := by obtain ⟨r, h1, h2, h3⟩ := h; exact h2.shape
theorem stTl_nil (K : Kind α) (base : Nat) (W : World) : StTl K base W (.slice none 0 0) [] := .ofOwn (ownSts_nil K base W)
/-- What lies in other blocks than a variable of another type stays, whatever becomes of that variable. -/
theorem OwnL.put {r : Lies α} (h4 : OwnL K base W r) {D : Nat} {t : TypeId} {cs : Array Value} (hb : Box W D t cs) (h2 : ∀ (y : α) (u : Sub), u ∈ K.subs y → u.ty ≠ t) (hq : ∀ g, g ≠ D → W'.heap[g]? = W.heap[g]?) : OwnL K base W' r := h4.same fun x hx p hp g hg => hq g fun e => by
    subst e
    have h5 := h4.subs x hx
    obtain ⟨i, hi, ep⟩ := List.getElem_of_mem hp
    have hl : i < (K.subs x.1).length := by rw [← h5.1]; exact hi
    exact row_neBox (h5.2 i p (K.subs x.1)[i] (by rw [← ep]; simp) (by simp)) hb (h2 x.1 _ (by simp)) hg
theorem StTl.put (h : StTl K base W v l) {D : Nat} {t : TypeId} {cs : Array Value} (hb : Box W D t cs) (h1 : K.ty ≠ t) (h2 : ∀ (y : α) (u : Sub), u ∈ K.subs y → u.ty ≠ t) (hq : ∀ g, g ≠ D → W'.heap[g]? = W.heap[g]?) : StTl K base W' v l := by
  obtain ⟨r, e, h3, h4⟩ := h
  exact ⟨r, e, h3.put hb h1 hq, h4.put hb h2 hq⟩
/-- An append that grows a row of another type leaves them. -/
theorem OwnL.keptTl {r : Lies α} (h4 : OwnL K base W r) {base' n size : Nat} {v' : Value} {e : TypeId} {xs : List Value} (hv : TlRow base' W e size v' n xs) (h2 : ∀ (y : α) (u : Sub), u ∈ K.subs y → u.ty ≠ e) (hg : W.grownBy W' v'.ownBlock) : OwnL K base W' r := h4.same fun x hx p hp g hgp => by
    have h5 := h4.subs x hx
    obtain ⟨i, hi, ep⟩ := List.getElem_of_mem hp
    have hl : i < (K.subs x.1).length := by rw [← h5.1]; exact hi
    refine hg.block g (h4.lt x hx p hp g hgp).2 fun e2 => ?_
    rcases hv.apartO (h5.2 i p (K.subs x.1)[i] (by rw [← ep]; simp) (by simp)) (fun x => h2 _ _ (List.getElem_mem hl) x.symm) with h6 | h6
    · rw [h6] at hgp; cases hgp
    · exact h6 (by rw [hgp, e2])
theorem StTl.keptTl (h : StTl K base W v l) {base' n size : Nat} {v' : Value} {e : TypeId} {xs : List Value} (hv : TlRow base' W e size v' n xs) (h1 : K.ty ≠ e) (h2 : ∀ (y : α) (u : Sub), u ∈ K.subs y → u.ty ≠ e) (hg : W.grownBy W' v'.ownBlock) : StTl K base W' v l := by
  obtain ⟨r, e1, h3, h4⟩ := h
  refine ⟨r, e1, h3.sameAt fun g hgp => hg.block g (h3.lt g hgp).2 fun e2 => ?_, h4.keptTl hv h2 hg⟩
  rcases h3.apart hv h1 with h6 | h6
  · rw [h6] at hgp; cases hgp
  · exact h6 (by rw [hgp, e2])
end
theorem TlRow.keptTl {base base' k k' n n' : Nat} {W W' : World} {e e' : TypeId} {v v' : Value} {cs cs' : List Value} (h3 : TlRow base W e k v n cs) (hv : TlRow base' W e' k' v' n' cs') (h1 : e ≠ e') (hg : W.grownBy W' v'.ownBlock) : TlRow base W' e k v n cs := h3.sameAt fun g hgp => hg.block g (h3.lt g hgp).2 fun e2 => by
  rcases h3.apart hv h1 with h6 | h6
  · rw [h6] at hgp; cases hgp
  · exact h6 (by rw [hgp, e2])
theorem StTl.boxKept {α : Type} {K : Kind α} {base B : Nat} {W W' : World} {t : TypeId} {v : Value} {l : List α} {ds : Array Value} (h : StTl K base W v l) (hb : Box W B t ds) (he : K.ty ≠ t) (o : Obj) (hg : (W.alloc o).grownBy W' v.ownBlock) : Box W' B t ds := by
  obtain ⟨r, e, h3, h4⟩ := h
  exact h3.boxKept hb he o hg
theorem StTl.grow {α : Type} {K : Kind α} {base n : Nat} {V W W' : World} {v : Value} {l : List α} (h : StTl K base W v l) (hb : Below n V W) (hn : n ≤ base) (hbs : n ≤ W.heap.size) (o : Obj) (hg : (W.alloc o).grownBy W' v.ownBlock) : Below n V W' := by
  obtain ⟨r, e, h3, h4⟩ := h
  exact (hb.alloc hbs o).grown hg (by simp only [World.size_alloc]; omega) (fun q e => by have := (h3.lt q e).1; omega)
/-- One struct more at the end. -/
theorem run_append_tls {α : Type} (K : Kind α) {P : Program} (st ty : TypeId) (z : Value) (bs : Nat) (hu : P.underlying st = some (.slice K.ty)) (hI : (P.info? K.ty).map (fun i => (i.zero, i.size, i.bytes)) = some (some z, K.k, bs)) (hz : z.cells.size = K.k) (hk : 0 < K.k) (hbs : bs ≤ 1024) (hK : K.unlike)
    (v : Value) (base m n : Nat) (r : Lies α) (x : α × List Value) (cs : Array Value) (hcs : cs = (K.lie x.1 x.2).toArray) (w : World) (h3 : TlRow base w K.ty K.k v n (cellsK K r)) (h4 : OwnL K base w r) (hx : SubsO m w x.2 (K.subs x.1)) (hxp : x.2.Pairwise Apart) (hm : base ≤ m) (hlt : ∀ u ∈ r, ∀ p ∈ u.2, ∀ g, p.ownBlock = some g → g < m) (hb : base ≤ w.heap.size) (h1 : n ≤ 1048576) :
    ∃ v' w', (Builtin.append_ #[st, st] ty #[v, .slice (some ⟨w.heap.size, 0, none⟩) 1 1]).run P (w.alloc (.cells cs K.ty)) = .ok v' w' ∧ TlRow base w' K.ty K.k v' (n + 1) (cellsK K (r ++ [x])) ∧ OwnL K base w' (r ++ [x]) ∧ (w.alloc (.cells cs K.ty)).grownBy w' v.ownBlock := by
  subst hcs
  have hsl : ∀ p ∈ x.2, ∃ a n c, p = Value.slice a n c := hx.held.slices
  obtain ⟨v', w', hr, ho, hg⟩ := run_append_tl (P := P) st ty K.ty z K.k bs hu hI hz hk hbs v n base _ (K.lie x.1 x.2) (K.len _ _) (K.one _ _ hsl) w h3 hb h1
  refine ⟨v', w', hr, ?_, ?_, hg⟩
  · rw [cellsK_append, show cellsK K [x] = K.lie x.1 x.2 by simp [cellsK]]
    exact ho
  · have h5 := (h4.snoc hx hxp hm hlt).next ((Below.refl _ _).alloc (Nat.le_refl _) (.cells (K.lie x.1 x.2).toArray K.ty))
    exact h5.keptTl (h3.next ((Below.refl _ _).alloc (Nat.le_refl _) (.cells (K.lie x.1 x.2).toArray K.ty))) hK hg
theorem TlRow.grow {base size m n : Nat} {V W W' : World} {e : TypeId} {v : Value} {xs : List Value} (h3 : TlRow base W e size v m xs) (hb : Below n V W) (hn : n ≤ base) (hbs : n ≤ W.heap.size) (o : Obj) (hg : (W.alloc o).grownBy W' v.ownBlock) : Below n V W' :=
  (hb.alloc hbs o).grown hg (by simp only [World.size_alloc]; omega) (fun q e => by have := (h3.lt q e).1; omega)

end Go.Proofs.Ytmjidhnlofpliab

/-
  An end that receives, as it lies in memory: its numbers, its lists (what is heard, what is open, what waits). No function of the program is spoken of.
-/
namespace Go.Proofs.Ytmjidhnlofpliab
open Go.RowKit

theorem getD_one {ps : List Value} (h : ∀ p ∈ ps, ∃ a n c, p = Value.slice a n c) (i : Nat) : (ps.getD i (.slice none 0 0)).oneCell' = true := by
  rw [List.getD_eq_getElem?_getD]
  cases e : ps[i]? with
  | none => rfl
  | some p => obtain ⟨a, n, c, rfl⟩ := h p (List.mem_of_getElem? e); rfl
/-- Blocks that are heard. -/
def hrK : Kind Hr where
  ty := 46
  k := 7
  lie := fun y ps => [.int .i64 y.hS, .int .i64 y.hR, .int .i64 y.hN, .int .i64 y.hP, ps.getD 0 (.slice none 0 0), .bool y.hD, ps.getD 1 (.slice none 0 0)]
  subs := fun y => [⟨75, 2, y.hL.length, symCells y.hL⟩, ⟨5, 1, y.hB.length, y.hB.map (Value.int .u8)⟩]
  len := fun _ _ => rfl
  one := fun y ps h u hu => by
    simp only [List.mem_cons, List.not_mem_nil, or_false] at hu
    rcases hu with rfl | rfl | rfl | rfl | rfl | rfl | rfl
    · rfl
    · rfl
    · rfl
    · rfl
    · exact getD_one h 0
    · rfl
    · exact getD_one h 1
theorem hrK_subs {t : TypeId} (h1 : (75 : Nat) ≠ t) (h2 : (5 : Nat) ≠ t) : ∀ (y : Hr) (u : Sub), u ∈ hrK.subs y → u.ty ≠ t := fun y u hu => by
  simp only [hrK, List.mem_cons, List.not_mem_nil, or_false] at hu
  rcases hu with rfl | rfl
  · exact h1
  · exact h2
theorem hrK_unlike : hrK.unlike := fun y u hu => hrK_subs (t := 46) (by decide) (by decide) y u hu
theorem infoHr : (Try.prog.info? 46).map (fun i => (i.zero, i.size, i.bytes)) = some (some (.agg #[.int .i64 0, .int .i64 0, .int .i64 0, .int .i64 0, .slice none 0 0, .bool false, .slice none 0 0]), 7, 88) := by kernel_rfl
theorem subsO_hear {base : Nat} {W : World} {h : Hr} {a b : Option Addr} {cap bc : Nat} (H : OwnHear base W h a cap b bc) : SubsO base W [.slice a h.hL.length cap, .slice b h.hB.length bc] (hrK.subs h) := by
  refine ⟨rfl, fun i p t hp ht => ?_⟩
  match i with
  | 0 => simp [hrK] at hp ht; subst hp ht; exact H.syms
  | 1 => simp [hrK] at hp ht; subst hp ht; exact H.byts
  | i + 2 => simp at hp
theorem pair_hear {base : Nat} {W : World} {h : Hr} {a b : Option Addr} {cap bc : Nat} (H : OwnHear base W h a cap b bc) : [Value.slice a h.hL.length cap, Value.slice b h.hB.length bc].Pairwise Apart :=
  List.pairwise_cons.2 ⟨fun q hq => by simp at hq; subst hq; exact rowsK_unlike H.syms H.byts (by decide), List.pairwise_singleton _ _⟩
theorem hear_of_subs {base : Nat} {W : World} {h : Hr} {ps : List Value} (H : SubsO base W ps (hrK.subs h)) (hb : ∀ z ∈ h.hB, 0 ≤ z ∧ z ≤ 255) : ∃ a cap b bc, ps = [.slice a h.hL.length cap, .slice b h.hB.length bc] ∧ OwnHear base W h a cap b bc := by
  obtain ⟨h1, h2⟩ := H
  match ps, h1 with
  | [p, q], _ =>
    have g1 : W.ownsRow base 75 2 p h.hL.length (symCells h.hL) := h2 0 p ⟨75, 2, h.hL.length, symCells h.hL⟩ rfl rfl
    have g2 : W.ownsRow base 5 1 q h.hB.length (h.hB.map (Value.int .u8)) := h2 1 q ⟨5, 1, h.hB.length, h.hB.map (Value.int .u8)⟩ rfl rfl
    obtain ⟨a, c, rfl⟩ := row_shapeS g1
    obtain ⟨b, d, rfl⟩ := row_shapeS g2
    exact ⟨a, c, b, d, rfl, g1, g2, hb⟩
/-- One that is heard, where it lies. -/
def AtHr (W : World) (gb o : Nat) (h : Hr) (a : Option Addr) (cap : Nat) (b : Option Addr) (bc : Nat) : Prop :=
  (gb < W.heap.size ∧ W.cell? ⟨gb, o, none⟩ = some (.int .i64 h.hS) ∧ W.cell? ⟨gb, o + 1, none⟩ = some (.int .i64 h.hR) ∧ W.cell? ⟨gb, o + 2, none⟩ = some (.int .i64 h.hN) ∧ W.cell? ⟨gb, o + 3, none⟩ = some (.int .i64 h.hP) ∧ W.cell? ⟨gb, o + 4, none⟩ = some (.slice a h.hL.length cap) ∧ W.cell? ⟨gb, o + 5, none⟩ = some (.bool h.hD) ∧ W.cell? ⟨gb, o + 6, none⟩ = some (.slice b h.hB.length bc)) ∧ HearAt W h a cap b bc
theorem AtHr.next {W W' : World} {gb o : Nat} {h : Hr} {a b : Option Addr} {cap bc : Nat} (H : AtHr W gb o h a cap b bc) (k : Below W.heap.size W W') : AtHr W' gb o h a cap b bc := by
  obtain ⟨⟨h0, h1, h2, h3, h4, h5, h6, h7⟩, h8⟩ := H
  exact ⟨⟨Nat.lt_of_lt_of_le h0 k.size, (k.cell (p := ⟨gb, o, none⟩) h0).trans h1, (k.cell (p := ⟨gb, o + 1, none⟩) h0).trans h2, (k.cell (p := ⟨gb, o + 2, none⟩) h0).trans h3, (k.cell (p := ⟨gb, o + 3, none⟩) h0).trans h4, (k.cell (p := ⟨gb, o + 4, none⟩) h0).trans h5, (k.cell (p := ⟨gb, o + 5, none⟩) h0).trans h6, (k.cell (p := ⟨gb, o + 6, none⟩) h0).trans h7⟩, h8.next k⟩
theorem AtHr.lt {W : World} {gb o : Nat} {h : Hr} {a b : Option Addr} {cap bc : Nat} (H : AtHr W gb o h a cap b bc) : gb < W.heap.size := H.1.1
/-- The slice v leads to these. -/
def Hrs (W : World) (v : Value) (l : List Hr) : Prop := ∃ r : Lies Hr, r.map Prod.fst = l ∧ HoldsC W.heap.size W v l.length (cellsK hrK r) ∧ ∀ x ∈ r, ∃ a cap b bc, x.2 = [.slice a x.1.hL.length cap, .slice b x.1.hB.length bc] ∧ HearAt W x.1 a cap b bc
theorem Hrs.next {W W' : World} {v : Value} {l : List Hr} (h : Hrs W v l) (k : Below W.heap.size W W') : Hrs W' v l := by
  obtain ⟨r, h1, h2, h3⟩ := h
  exact ⟨r, h1, (h2.below k).mono k.size, fun x hx => by obtain ⟨a, cap, b, bc, e, H⟩ := h3 x hx; exact ⟨a, cap, b, bc, e, H.next k⟩⟩
theorem Hrs.at {W : World} {a : Option Addr} {n cap : Nat} {l : List Hr} (h : Hrs W (.slice a n cap) l) {i : Nat} {y : Hr} (hi : l[i]? = some y) : ∃ gb off pa pc qa qc, a = some ⟨gb, off, none⟩ ∧ AtHr W gb (off + i * 7) y pa pc qa qc := by
  obtain ⟨r, h1, h2, h3⟩ := h
  have hlt := (List.getElem?_eq_some_iff.1 hi).1
  rcases h2 with ⟨_, e, _⟩ | ⟨b, off, c', e, hb, hc⟩
  · omega
  · cases e
    obtain ⟨x, hx, rfl⟩ : ∃ x, r[i]? = some x ∧ x.1 = y := by
      rw [← h1, List.getElem?_map] at hi
      cases hr : r[i]? with
      | none => rw [hr] at hi; simp at hi
      | some x => rw [hr] at hi; exact ⟨x, rfl, by simpa using hi⟩
    obtain ⟨pa, pc, qa, qc, e, H⟩ := h3 x (List.mem_of_getElem? hx)
    have hcell : ∀ (j : Nat) (u : Value), (hrK.lie x.1 x.2)[j]? = some u → W.cell? ⟨b, off + i * 7 + j, none⟩ = some u := fun j u hu => by
      rw [Nat.add_assoc]; exact hc _ u (cellsK_get hrK hx j u hu)
    rw [e] at hcell
    exact ⟨b, off, pa, pc, qa, qc, rfl, ⟨hb, hcell 0 _ rfl, hcell 1 _ rfl, hcell 2 _ rfl, hcell 3 _ rfl, hcell 4 _ rfl, hcell 5 _ rfl, hcell 6 _ rfl⟩, H⟩
theorem Hrs.shape {W : World} {v : Value} {l : List Hr} (h : Hrs W v l) : ∃ a cap, v = .slice a l.length cap := by obtain ⟨r, h1, h2, h3⟩ := h; exact h2.shape
def BytH (l : List Hr) : Prop := ∀ h ∈ l, ∀ z ∈ h.hB, 0 ≤ z ∧ z ≤ 255
theorem hrs_of {base : Nat} {W : World} {v : Value} {l : List Hr} (h : StTl hrK base W v l) (hb : BytH l) : Hrs W v l := by
  obtain ⟨r, h1, h2, h3⟩ := h
  refine ⟨r, h1, h2.row.holds, fun x hx => ?_⟩
  obtain ⟨a, cap, b, bc, e, H⟩ := hear_of_subs (h3.subs x hx) (hb _ (by rw [← h1]; exact List.mem_map.2 ⟨x, hx, rfl⟩))
  exact ⟨a, cap, b, bc, e, H.at⟩

/-- Its numbers by name. -/
structure RcIs (r : Rc) (c : Cfg) (K B N T : Int) (M : Nat) (O : Bool) (J Q : Nat) : Prop where
  eC : r.rC = c
  eK : r.rK = K
  eB : r.rB = B
  eN : r.rN = N
  eT : r.rT = T
  lH : r.rH.length = M
  eO : r.rJ.1 = O
  lJ : r.rJ.2.length = J
  lQ : r.rQ.length = Q
/-- Its lists lie so. -/
def RcAt (W : World) (r : Rc) (ha : Option Addr) (M hc : Nat) (ja : Option Addr) (J jc : Nat) (qa : Option Addr) (Q qc : Nat) : Prop := Hrs W (.slice ha M hc) r.rH ∧ Holds .u8 W.heap.size W (.slice ja J jc) r.rJ.2 ∧ Txs W.heap.size W (.slice qa Q qc) r.rQ
/-- They lie in blocks made since base. -/
def RcTl (base : Nat) (W : World) (r : Rc) (ha : Option Addr) (M hc : Nat) (ja : Option Addr) (J jc : Nat) (qa : Option Addr) (Q qc : Nat) : Prop := StTl hrK base W (.slice ha M hc) r.rH ∧ TlRow base W 5 1 (.slice ja J jc) J (r.rJ.2.map (Value.int .u8)) ∧ StTl txK base W (.slice qa Q qc) r.rQ ∧ BytH r.rH
section
variable {base base' : Nat} {W W' : World} {r : Rc} {ha ja qa : Option Addr} {M hc J jc Q qc : Nat}
theorem RcAt.next (h : RcAt W r ha M hc ja J jc qa Q qc) (b : Below W.heap.size W W') : RcAt W' r ha M hc ja J jc qa Q qc := ⟨h.1.next b, h.2.1.next b, h.2.2.next b⟩
theorem RcTl.at (h : RcTl base W r ha M hc ja J jc qa Q qc) : RcAt W r ha M hc ja J jc qa Q qc := ⟨hrs_of h.1 h.2.2.2, h.2.1.row.holds.ints (by have := h.2.1.1; simpa using this), h.2.2.1.holds⟩
theorem RcTl.same (h : RcTl base W r ha M hc ja J jc qa Q qc) (hq : ∀ g, base ≤ g → g < W.heap.size → W'.heap[g]? = W.heap[g]?) : RcTl base W' r ha M hc ja J jc qa Q qc := ⟨h.1.same hq, h.2.1.same hq, h.2.2.1.same hq, h.2.2.2⟩
theorem RcTl.next (h : RcTl base W r ha M hc ja J jc qa Q qc) (b : Below W.heap.size W W') : RcTl base W' r ha M hc ja J jc qa Q qc := h.same fun g _ hg => b.block g hg
theorem RcTl.lower (h : RcTl base W r ha M hc ja J jc qa Q qc) (hn : base' ≤ base) : RcTl base' W r ha M hc ja J jc qa Q qc := ⟨h.1.lower hn, h.2.1.lower hn, h.2.2.1.lower hn, h.2.2.2⟩
/-- A variable that was made ahead is stored into. -/
theorem RcTl.old (h : RcTl base W r ha M hc ja J jc qa Q qc) {D : Nat} (hD : D < base) (hq : ∀ g, g ≠ D → W'.heap[g]? = W.heap[g]?) : RcTl base W' r ha M hc ja J jc qa Q qc := h.same fun g hb _ => hq g (by omega)
/-- A variable of another type is stored into. -/
theorem RcTl.put (h : RcTl base W r ha M hc ja J jc qa Q qc) {D : Nat} {t : TypeId} {cs : Array Value} (hb : Box W D t cs) (h1 : (46 : Nat) ≠ t) (h2 : (75 : Nat) ≠ t) (h3 : (5 : Nat) ≠ t) (h4 : (26 : Nat) ≠ t) (hq : ∀ g, g ≠ D → W'.heap[g]? = W.heap[g]?) : RcTl base W' r ha M hc ja J jc qa Q qc :=
  ⟨h.1.put hb h1 (hrK_subs h2 h3) hq, h.2.1.put hb h3 hq, h.2.2.1.put hb h4 (fun y u hu => by simp only [txK, List.mem_cons, List.not_mem_nil, or_false] at hu; subst hu; exact h3) hq, h.2.2.2⟩
end
theorem OwnHear.same {base : Nat} {W W' : World} {h : Hr} {a b : Option Addr} {cap bc : Nat} (H : OwnHear base W h a cap b bc) (hq : ∀ g, base ≤ g → g < W.heap.size → W'.heap[g]? = W.heap[g]?) : OwnHear base W' h a cap b bc :=
  ⟨rowK_same H.syms fun g hg => hq g (H.syms.lt g hg).1 (H.syms.lt g hg).2, rowK_same H.byts fun g hg => hq g (H.byts.lt g hg).1 (H.byts.lt g hg).2, H.byte⟩
/-- Three results, the first a variable of more cells. -/
theorem results_boxV3 {P : Program} {fn : Func} {p u v : Tmp} {t : TypeId} (h : fn.results = #[.cell p t, .tmp u, .tmp v]) (tmps : Array Value) (w : World) {B : Nat} {t' : TypeId} {cs : Array Value} (hp : tmps[p]?.getD undef = .pointer (some ⟨B, 0, none⟩)) (hb : Box w B t' cs) {d : TypeDesc} (hu : P.underlying t = some d) (hd : d.isRow = true) (hi : (P.info? t).map (·.size) = some cs.size) :
    (results fn tmps).run P w = .ok (.tuple #[.agg cs, tmps.getD u undef, tmps.getD v undef]) w := by
  have hl := hb.loadVar hu hd hi
  simp [results, h, hp, asAddr, hl]

end Go.Proofs.Ytmjidhnlofpliab

/-
  What the end that receives makes of a block, said as join says it. No function of the program is spoken of.
-/
namespace Go.Proofs.Ytmjidhnlofpliab
open Go.RowKit

end Go.Proofs.Ytmjidhnlofpliab

/-
  Answers that say whether something holds. No function of the program is spoken of.
-/
namespace Go.Proofs.Ytmjidhnlofpliab
open Go.RowKit

/-- It answers whether P. -/
def AnsB (e : Ending) (P : Prop) : Prop := ∃ b : Bool, e = .returned (.bool b) ∧ (b = true ↔ P)
/-- It answers 0 if P, and 1 if not. -/
def AnsZ (e : Ending) (P : Prop) : Prop := ∃ z : Int, e = .returned (.int .i64 z) ∧ (z = 0 ∧ P ∨ z = 1 ∧ ¬ P)
def isCn (n : Int) : Bool := decide (0 ≤ n) && decide (n ≤ 1073741824)
theorem isCn_iff (n : Int) : isCn n = true ↔ inN n := by unfold isCn inN; simp

end Go.Proofs.Ytmjidhnlofpliab

/-
  Whether a receiver's numbers, its hears, its join, its queue are right. (Written by tpl_recvcode.py.)
-/
namespace Go.Proofs.Ytmjidhnlofpliab
open Go.RowKit

/-- Whether its numbers are right, as the code asks it. -/
def numsR (K B N T : Int) : Bool := isCn K && isCn B && isCn T && decide (0 ≤ N) && decide (N ≤ 1073741824)
set_option maxRecDepth 100000 in
set_option maxHeartbeats 4000000 in
theorem recvNums_any (c : Cfg) (K B N T : Int) (ha : Option Addr) (M hc : Nat) (O : Bool) (ja : Option Addr) (J jc : Nat) (qa : Option Addr) (Q qc : Nat) (w : World) :
    Calls Try.prog 27 #[.agg #[.int .i64 c.cB, .int .i64 c.cBeam, .int .i64 c.cDepth, .int .i64 c.cWin, .int .i64 c.cQs, .int .i64 c.cQr, .int .i64 c.cBatch, .int .i64 c.cPass, .int .i64 c.cMsg, .int .i64 c.cSeqs, .int .i64 K, .int .i64 B, .int .i64 N, .int .i64 T, .slice ha M hc, .bool O, .slice ja J jc, .slice qa Q qc]] w fun e w' => e = .returned (.bool (numsR K B N T)) ∧ Below w.heap.size w w' := by
  have bb : Below w.heap.size w (w.alloc (.cells #[.int .i64 c.cB, .int .i64 c.cBeam, .int .i64 c.cDepth, .int .i64 c.cWin, .int .i64 c.cQs, .int .i64 c.cQr, .int .i64 c.cBatch, .int .i64 c.cPass, .int .i64 c.cMsg, .int .i64 c.cSeqs, .int .i64 K, .int .i64 B, .int .i64 N, .int .i64 T, .slice ha M hc, .bool O, .slice ja J jc, .slice qa Q qc] 31)) := (Below.refl _ _).alloc (Nat.le_refl _) _
  go_enter Try.func27, Try.ntmps27
  go_wp2
  all_goals go_ret
  all_goals refine ⟨?_, bb⟩
  all_goals first | (simp [numsR, isCn, *]; done) | (simp [numsR, isCn, *]; intros; omega)

set_option maxRecDepth 100000 in
set_option maxHeartbeats 4000000 in
theorem recvHears_any (c : Cfg) (hC : okC c = true) (K B N T : Int) (hN0 : 0 ≤ N) (hN1 : N ≤ 1073741824) (ha : Option Addr) (M hc : Nat) (O : Bool) (ja : Option Addr) (J jc : Nat) (qa : Option Addr) (Q qc : Nat) (l : List Hr) (hl : l.length = M) (hM : M ≤ 1000000) (hm : ∀ h ∈ l, h.hL.length ≤ 4294967296 ∧ h.hB.length ≤ 4096) (w : World) (hh : Hrs w (.slice ha M hc) l) :
    Calls Try.prog 28 #[.agg #[.int .i64 c.cB, .int .i64 c.cBeam, .int .i64 c.cDepth, .int .i64 c.cWin, .int .i64 c.cQs, .int .i64 c.cQr, .int .i64 c.cBatch, .int .i64 c.cPass, .int .i64 c.cMsg, .int .i64 c.cSeqs, .int .i64 K, .int .i64 B, .int .i64 N, .int .i64 T, .slice ha M hc, .bool O, .slice ja J jc, .slice qa Q qc]] w fun e w' => AnsB e ((M : Int) = c.cWin ∧ ∀ (i : Nat) (h : Hr), l[i]? = some h → h.hS = N + (i : Int) ∧ okH c h) ∧ Below w.heap.size w w' := by
  have bb : Below w.heap.size w (w.alloc (.cells #[.int .i64 c.cB, .int .i64 c.cBeam, .int .i64 c.cDepth, .int .i64 c.cWin, .int .i64 c.cQs, .int .i64 c.cQr, .int .i64 c.cBatch, .int .i64 c.cPass, .int .i64 c.cMsg, .int .i64 c.cSeqs, .int .i64 K, .int .i64 B, .int .i64 N, .int .i64 T, .slice ha M hc, .bool O, .slice ja J jc, .slice qa Q qc] 31)) := (Below.refl _ _).alloc (Nat.le_refl _) _
  have x1 := Box.new w 31 #[.int .i64 c.cB, .int .i64 c.cBeam, .int .i64 c.cDepth, .int .i64 c.cWin, .int .i64 c.cQs, .int .i64 c.cQr, .int .i64 c.cBatch, .int .i64 c.cPass, .int .i64 c.cMsg, .int .i64 c.cSeqs, .int .i64 K, .int .i64 B, .int .i64 N, .int .i64 T, .slice ha M hc, .bool O, .slice ja J jc, .slice qa Q qc]
  replace hh := hh.next bb
  have HL : Hid (l.length = M) := hl
  have HM : Hid (∀ h ∈ l, h.hL.length ≤ 4294967296 ∧ h.hB.length ≤ 4096) := hm
  have HC : Hid (okC c = true) := hC
  clear hl hm hC
  go_enter Try.func28, Try.ntmps28
  by_cases h0 : (M : Int) = c.cWin
  · have d0 : ((M : Int) != c.cWin) = false := by simpa using h0
    have H0 : Hid ((M : Int) = c.cWin) := h0
    clear h0
    go_wp2
    obtain ⟨W1, hW1⟩ : ∃ W, w.alloc (.cells #[.int .i64 c.cB, .int .i64 c.cBeam, .int .i64 c.cDepth, .int .i64 c.cWin, .int .i64 c.cQs, .int .i64 c.cQr, .int .i64 c.cBatch, .int .i64 c.cPass, .int .i64 c.cMsg, .int .i64 c.cSeqs, .int .i64 K, .int .i64 B, .int .i64 N, .int .i64 T, .slice ha M hc, .bool O, .slice ja J jc, .slice qa Q qc] 31) = W := ⟨_, rfl⟩
    rw [hW1] at bb x1 hh ⊢
    have HA : Hid (Hrs W1 (.slice ha M hc) l) := hh
    clear hW1 hh d0
    go_loopw [15] (fun i wr => ∃ k : Nat, k ≤ M ∧ i = .int .i64 (k : Int) ∧ Hid (∀ (j : Nat) (h : Hr), j < k → l[j]? = some h → h.hS = N + (j : Int) ∧ okH c h) ∧ Box wr w.heap.size 31 #[.int .i64 c.cB, .int .i64 c.cBeam, .int .i64 c.cDepth, .int .i64 c.cWin, .int .i64 c.cQs, .int .i64 c.cQr, .int .i64 c.cBatch, .int .i64 c.cPass, .int .i64 c.cMsg, .int .i64 c.cSeqs, .int .i64 K, .int .i64 B, .int .i64 N, .int .i64 T, .slice ha M hc, .bool O, .slice ja J jc, .slice qa Q qc] ∧ Below W1.heap.size W1 wr ∧ Below w.heap.size w wr) (fun i _ => M - (intOf i).toNat)
    case atStart => exact ⟨0, Nat.zero_le _, rfl, (fun j x hj => absurd hj (Nat.not_lt_zero _)), x1, Below.refl _ _, bb⟩
    case round =>
      clear x1 bb
      obtain ⟨k, hk, rfl, HR, x1, b4, bb⟩ := hrel
      generalize hwr : wr = w4 at *
      clear hwr
      by_cases hlt : k < M
      · obtain ⟨h, he⟩ : ∃ y, l[k]? = some y := ⟨l[k]'(by rw [HL.out]; exact hlt), by simp⟩
        obtain ⟨gb, off, pa, pc, qb, qd, rfl, y2⟩ := (HA.out.next b4).at he
        have HE : Hid (l[k]? = some h) := he
        have HB4 : Hid (Below W1.heap.size W1 w4) := b4
        clear he b4
        have b5 : Below w4.heap.size w4 (w4.alloc (.cells #[.int .i64 h.hS, .int .i64 h.hR, .int .i64 h.hN, .int .i64 h.hP, .slice pa h.hL.length pc, .bool h.hD, .slice qb h.hB.length qd] 46)) := (Below.refl _ _).alloc (Nat.le_refl _) _
        have x5 := Box.new w4 46 #[.int .i64 h.hS, .int .i64 h.hR, .int .i64 h.hN, .int .i64 h.hP, .slice pa h.hL.length pc, .bool h.hD, .slice qb h.hB.length qd]
        have y20 := y2.1.2.1
        have y21 := y2.1.2.2.1
        have y22 := y2.1.2.2.2.1
        have y23 := y2.1.2.2.2.2.1
        have y24 := y2.1.2.2.2.2.2.1
        have y25 := y2.1.2.2.2.2.2.2.1
        have y26 := y2.1.2.2.2.2.2.2.2
        have yl := y2.lt
        have c14 := x1.cell 14 _ rfl
        have l1 := x1.lt
        go_upto_region 6 with fail
        clear c14 l1 y20 y21 y22 y23 y24 y25 y26 yl
        have hA5 : HearAt (w4.alloc (.cells #[.int .i64 h.hS, .int .i64 h.hR, .int .i64 h.hN, .int .i64 h.hP, .slice pa h.hL.length pc, .bool h.hD, .slice qb h.hB.length qd] 46)) h pa pc qb qd := y2.2.next b5
        clear y2
        replace x1 := x1.next b5
        replace bb := bb.trans (b5.mono bb.size)
        have HB5 : Hid (Below W1.heap.size W1 (w4.alloc (.cells #[.int .i64 h.hS, .int .i64 h.hR, .int .i64 h.hN, .int .i64 h.hP, .slice pa h.hL.length pc, .bool h.hD, .slice qb h.hB.length qd] 46))) := HB4.out.trans (b5.mono HB4.out.size)
        obtain ⟨w5, hw5⟩ : ∃ W, w4.alloc (.cells #[.int .i64 h.hS, .int .i64 h.hR, .int .i64 h.hN, .int .i64 h.hP, .slice pa h.hL.length pc, .bool h.hD, .slice qb h.hB.length qd] 46) = W := ⟨_, rfl⟩
        obtain ⟨B5, hB5⟩ : ∃ n, w4.heap.size = n := ⟨_, rfl⟩
        rw [hw5] at x1 x5 bb HB5 hA5 ⊢
        rw [hB5] at x5 ⊢
        clear hw5 hB5 b5 HB4
        have l1 := x1.lt
        have l5 := x5.lt
        have c12 := x1.cell 12 _ rfl
        have c50 := x5.cell 0 _ rfl
        have wFk : IntKind.i64.wrap (N + (k : Int)) = N + (k : Int) := by rw [IntKind.wrap_i64]; omega
        obtain ⟨q, hq⟩ : ∃ q, N + (k : Int) = q := ⟨_, rfl⟩
        rw [hq] at wFk
        have HQ : Hid (N + (k : Int) = q) := hq
        by_cases h1 : h.hS = q
        · have d1 : (h.hS != q) = false := by simpa using h1
          have H1 : Hid (h.hS = q) := h1
          clear h1
          have HK : Hid (∃ z : Int, (z = 0 ∧ okH c h ∨ z = 1 ∧ ¬ okH c h) ∧ Calls Try.prog 50 #[.agg #[.int .i64 c.cB, .int .i64 c.cBeam, .int .i64 c.cDepth, .int .i64 c.cWin, .int .i64 c.cQs, .int .i64 c.cQr, .int .i64 c.cBatch, .int .i64 c.cPass, .int .i64 c.cMsg, .int .i64 c.cSeqs], .agg #[.int .i64 h.hS, .int .i64 h.hR, .int .i64 h.hN, .int .i64 h.hP, .slice pa h.hL.length pc, .bool h.hD, .slice qb h.hB.length qd]] w5 fun e w' => e = .returned (.int .i64 z) ∧ Below w5.heap.size w5 w') := by
            by_cases ho : okH c h
            · exact ⟨0, .inl ⟨rfl, ho⟩, HearCheck_ok c h HC.out ho pa qb pc qd w5 hA5⟩
            · exact ⟨1, .inr ⟨rfl, ho⟩, HearCheck_no c h (fun hx => ho hx.2) (HM.out h (List.mem_of_getElem? HE.out)).1 (HM.out h (List.mem_of_getElem? HE.out)).2 pa qb pc qd w5 hA5⟩
          obtain ⟨z, hz, hK⟩ := HK.out
          have HZ : Hid (z = 0 ∧ okH c h ∨ z = 1 ∧ ¬ okH c h) := hz
          clear hz HK hA5
          have c51 := x5.cell 1 _ rfl
          have c52 := x5.cell 2 _ rfl
          have c53 := x5.cell 3 _ rfl
          have c54 := x5.cell 4 _ rfl
          have c55 := x5.cell 5 _ rfl
          have c56 := x5.cell 6 _ rfl
          have c10 := x1.cell 0 _ rfl
          have c11 := x1.cell 1 _ rfl
          have c12 := x1.cell 2 _ rfl
          have c13 := x1.cell 3 _ rfl
          have c14 := x1.cell 4 _ rfl
          have c15 := x1.cell 5 _ rfl
          have c16 := x1.cell 6 _ rfl
          have c17 := x1.cell 7 _ rfl
          have c18 := x1.cell 8 _ rfl
          have c19 := x1.cell 9 _ rfl
          go_wp2_with fail
          refine hK.mono ?_
          rintro e9 w6 ⟨rfl, b6⟩
          replace x1 := x1.next b6
          replace bb := bb.trans (b6.mono bb.size)
          have HB6 : Hid (Below W1.heap.size W1 w6) := HB5.out.trans (b6.mono HB5.out.size)
          clear HB5 b6 hK x5 l5 c50 c51 c52 c53 c54 c55 c56
          by_cases h2 : z = 0
          · have H2 : Hid (okH c h) := by
              rcases HZ.out with ⟨_, h⟩ | ⟨h, _⟩
              · exact h
              · rw [h2] at h; cases h
            subst h2
            go_wp2
            refine ⟨⟨k + 1, hlt, by go_num, ?_, x1, HB6.out, bb⟩, by simp [intOf]; omega⟩
            intro j y hj hy
            by_cases hjk : j = k
            · subst hjk
              rw [HE.out] at hy
              cases hy
              exact ⟨H1.out.trans HQ.out.symm, H2.out⟩
            · exact HR.out j y (by omega) hy
          · have d2 : (z != 0) = true := by simpa using h2
            have H2 : Hid (okH c h → False) := fun hx => by
              rcases HZ.out with ⟨h, _⟩ | ⟨_, h⟩
              · exact h2 h
              · exact h hx
            clear h2
            go_wp2
            go_ret
            exact ⟨⟨false, rfl, ⟨fun h => (by cases h), fun h => (H2.out (h.2 k _ HE.out).2).elim⟩⟩, bb⟩
        · have d1 : (h.hS != q) = true := by simpa using h1
          have H1 : Hid (h.hS = q → False) := h1
          clear h1
          go_wp2
          go_ret
          exact ⟨⟨false, rfl, ⟨fun h => (by cases h), fun h => (H1.out ((h.2 k _ HE.out).1.trans HQ.out)).elim⟩⟩, bb⟩
      · obtain rfl : k = M := by omega
        have HR2 : Hid (∀ (j : Nat) (h : Hr), l[j]? = some h → h.hS = N + (j : Int) ∧ okH c h) := fun j e hj => HR.out j e (by have := (List.getElem?_eq_some_iff.1 hj).1; have := HL.out; omega) hj
        clear HR
        go_wp2
        go_ret
        exact ⟨⟨true, rfl, ⟨fun _ => ⟨H0.out, HR2.out⟩, fun _ => rfl⟩⟩, bb⟩
  · have d0 : ((M : Int) != c.cWin) = true := by simpa using h0
    have H0 : Hid ((M : Int) = c.cWin → False) := h0
    clear h0
    go_wp2
    go_ret
    exact ⟨⟨false, rfl, ⟨fun h => (by cases h), fun h => (H0.out h.1).elim⟩⟩, bb⟩

theorem rjoin_arg (j : Jn) : argJ j 0 = true ↔ okJ j := by
  rw [argJ_iff]
  unfold okJ
  constructor
  · rintro ⟨h1, h2, _, _⟩
    refine ⟨h1, fun h => ?_⟩
    rcases h2 with h3 | h3
    · rw [h] at h3; cases h3
    · exact List.length_eq_zero_iff.1 h3
  · rintro ⟨h1, h2⟩
    refine ⟨h1, ?_, by omega, by omega⟩
    cases h : j.1 with
    | true => exact .inl rfl
    | false => exact .inr (by rw [h2 h]; rfl)
theorem rjoin_err (j : Jn) : errJ j 0 [] = 0 ↔ okJ j := by
  rw [← rjoin_arg]
  constructor
  · intro h
    cases h1 : argJ j 0 with
    | true => rfl
    | false => unfold errJ at h; rw [if_neg (by rw [h1]; decide)] at h; cases h
  · intro h
    have h1 := ((argJ_iff j 0).1 h).1
    unfold errJ
    rw [if_pos h, if_pos (by decide)]
    have ho : openJ j 0 = j := by unfold openJ; rfl
    rw [ho]
    split
    · rename_i hx; simp at hx; omega
    · rfl
set_option maxRecDepth 100000 in
set_option maxHeartbeats 2000000 in
theorem recvJoin_any (j : Jn) (ja : Option Addr) (J jc : Nat) (hJ : j.2.length = J) (w : World) (hj : Holds .u8 w.heap.size w (.slice ja J jc) j.2) :
    Calls Try.prog 29 #[.agg #[.bool j.1, .slice ja J jc]] w fun e w' => AnsB e (okJ j) ∧ Below w.heap.size w w' := by
  have bb : Below w.heap.size w (w.alloc (.cells #[.bool j.1, .slice ja J jc] 28)) := (Below.refl _ _).alloc (Nat.le_refl _) _
  have H1 := fun wx h1 h2 => JoinTake_any j.1 ja J jc 0 0 none 0 0 j.2 [] hJ rfl wx h1 h2
  have HJ : Hid (errJ (j.1, j.2) 0 [] = 0 ↔ okJ j) := rjoin_err j
  replace hj := hj.next bb
  clear hJ
  obtain ⟨z, hz⟩ : ∃ z, errJ (j.1, j.2) 0 [] = z := ⟨_, rfl⟩
  rw [hz] at H1 HJ
  clear hz
  have x1 := Box.new w 28 #[.bool j.1, .slice ja J jc]
  go_enter Try.func29, Try.ntmps29
  go_wp2_with (first | (refine wpList_load_box x1 rfl 28 _ rfl rfl _ Try.underlying28 rfl (by kernel_rfl) ?_))
  refine (H1 _ hj (.inl ⟨⟨_, _, rfl, fun _ => rfl⟩, rfl⟩)).mono ?_
  rintro e w1 ⟨ta, tc, ua, uc, rfl, _, _, _, b1⟩
  replace bb := bb.trans (b1.mono bb.size)
  clear b1 H1 hj x1
  by_cases h0 : z = 0
  · subst h0
    go_wp2
    go_ret
    exact ⟨⟨true, rfl, ⟨fun _ => HJ.out.1 (by trivial), fun _ => rfl⟩⟩, bb.alloc bb.size _⟩
  · have d0 : (z == 0) = false := by rw [beq_eq_false_iff_ne]; exact h0
    have H0 : Hid (okJ j → False) := fun h => h0 (HJ.out.2 h)
    clear h0
    go_wp2
    go_ret
    exact ⟨⟨false, rfl, ⟨fun h => (by cases h), fun h => (H0.out h).elim⟩⟩, bb.alloc bb.size _⟩

/-- Is one too long? -/
def anyLong (l : List (List Int)) : Bool := l.any fun m => decide (4096 < m.length)
theorem anyLong_no {l : List (List Int)} : anyLong l = false ↔ ∀ m ∈ l, m.length ≤ 4096 := by
  unfold anyLong
  rw [List.any_eq_false]
  constructor
  · intro h m hm; have := h m hm; simp at this; exact this
  · intro h m hm; have := h m hm; simp; exact this
theorem anyLong_yes {l : List (List Int)} {k : Nat} {m : List Int} (h : l[k]? = some m) (hx : 4096 < m.length) : anyLong l = true := by
  unfold anyLong
  rw [List.any_eq_true]
  exact ⟨m, List.mem_of_getElem? h, by simpa using hx⟩
set_option maxRecDepth 100000 in
set_option maxHeartbeats 1000000 in
theorem recvTooLong_any (a : Option Addr) (n cap : Nat) (w : World) : Calls Try.prog 51 #[.slice a n cap] w fun e w' => e = .returned (.bool (decide (4096 < n))) ∧ w = w' := by
  by_cases h : 4096 < n
  · have d : decide ((4096 : Int) < (n : Int)) = true := decide_eq_true (by omega)
    have d2 : decide (4096 < n) = true := decide_eq_true h
    rw [d2]
    clear h
    go_enter Try.func51, Try.ntmps51
    go_wp2
    go_ret
    exact ⟨rfl, rfl⟩
  · have d : decide ((4096 : Int) < (n : Int)) = false := decide_eq_false (by omega)
    have d2 : decide (4096 < n) = false := decide_eq_false h
    rw [d2]
    clear h
    go_enter Try.func51, Try.ntmps51
    go_wp2
    go_ret
    exact ⟨rfl, rfl⟩
set_option maxRecDepth 100000 in
set_option maxHeartbeats 4000000 in
theorem recvIndex_any (a : Option Addr) (n cap : Nat) (l : List (List Int)) (hn : l.length = n) (hl : n ≤ 1000000) (w : World) (ht : Txs w.heap.size w (.slice a n cap) l) :
    Calls Try.prog 73 #[.slice a n cap, .func (.func 51) #[] #[]] w fun e w' => ∃ i : Int, e = .returned (.int .i64 i) ∧ -1 ≤ i ∧ decide (0 ≤ i) = anyLong l ∧ Below w.heap.size w w' := by
  have HN : Hid (l.length = n) := hn
  have HT : Hid (Txs w.heap.size w (.slice a n cap) l) := ht
  clear hn ht
  go_enter Try.func73, Try.ntmps73
  go_wp2
  go_loopw [8] (fun i wr => ∃ k : Nat, k ≤ n ∧ i = .int .i64 k ∧ Hid (∀ m ∈ l.take k, m.length ≤ 4096) ∧ wr = w) (fun i _ => n - (intOf i).toNat)
  case atStart => exact ⟨0, Nat.zero_le _, rfl, (fun x hx => by simp at hx), rfl⟩
  case round =>
    obtain ⟨k, hk, rfl, HA, rfl⟩ := hrel
    by_cases hlt : k < n
    · obtain ⟨m, hxk⟩ : ∃ x, l[k]? = some x := ⟨l[k]'(by rw [HN.out]; exact hlt), by simp⟩
      obtain ⟨gb, off, pa, pc, rfl, hgl, hc, _⟩ := txs_at HT.out hxk (Below.refl _ _) (Nat.le_refl _)
      have HXK : Hid (l[k]? = some m) := hxk
      obtain ⟨y, hy⟩ : ∃ y, m.length = y := ⟨_, rfl⟩
      rw [hy] at hc
      have HY : Hid (m.length = y) := hy
      clear hxk hy
      by_cases hcn : 4096 < y
      · have d1 : decide (4096 < y) = true := decide_eq_true hcn
        have HZ : Hid (anyLong l = true) := anyLong_yes HXK.out (by rw [HY.out]; exact hcn)
        clear hcn
        go_wp2_with fail
        refine (recvTooLong_any pa y pc _).mono ?_
        rintro e w2 ⟨rfl, rfl⟩
        go_wp2
        go_ret
        exact ⟨k, rfl, by omega, by rw [HZ.out]; exact decide_eq_true (by omega), Below.refl _ _⟩
      · have d1 : decide (4096 < y) = false := decide_eq_false hcn
        have HZ : Hid (∀ m ∈ l.take (k + 1), m.length ≤ 4096) := by
          show ∀ m ∈ l.take (k + 1), m.length ≤ 4096
          intro x hx
          rw [List.take_add_one, HXK.out] at hx
          rcases List.mem_append.1 hx with h | h
          · exact HA.out x h
          · simp at h
            subst h
            have := HY.out
            omega
        clear hcn
        go_wp2_with fail
        refine (recvTooLong_any pa y pc _).mono ?_
        rintro e w2 ⟨rfl, rfl⟩
        go_wp2
        exact ⟨⟨k + 1, by omega, by go_num, HZ, (by trivial)⟩, by simp [intOf]; omega⟩
    · obtain rfl : k = n := by omega
      have HZ : Hid (anyLong l = false) := anyLong_no.2 (fun x hx => HA.out x (by rw [List.take_of_length_le (by rw [HN.out]; exact Nat.le_refl _)]; exact hx))
      go_wp2
      go_ret
      exact ⟨-1, rfl, by omega, by rw [HZ.out]; rfl, Below.refl _ _⟩
set_option maxRecDepth 100000 in
set_option maxHeartbeats 2000000 in
theorem recvContains_any (a : Option Addr) (n cap : Nat) (l : List (List Int)) (hn : l.length = n) (hl : n ≤ 1000000) (w : World) (ht : Txs w.heap.size w (.slice a n cap) l) :
    Calls Try.prog 52 #[.slice a n cap, .func (.func 51) #[] #[]] w fun e w' => e = .returned (.bool (anyLong l)) ∧ Below w.heap.size w w' := by
  have HC := recvIndex_any a n cap l hn hl w ht
  clear hn ht
  obtain ⟨d, hd⟩ : ∃ d, anyLong l = d := ⟨_, rfl⟩
  rw [hd] at HC ⊢
  clear hd
  go_enter Try.func52, Try.ntmps52
  go_wp2_with fail
  refine HC.mono ?_
  rintro e w2 ⟨i, rfl, h1, h2, b2⟩
  have HD : Hid (decide (0 ≤ i) = d) := h2
  clear h2
  go_wp2
  go_ret
  exact ⟨by rw [← HD.out]; rfl, b2⟩
set_option maxRecDepth 100000 in
set_option maxHeartbeats 4000000 in
theorem recvQueue_any (c : Cfg) (K B N T : Int) (ha : Option Addr) (M hc : Nat) (O : Bool) (ja : Option Addr) (J jc : Nat) (qa : Option Addr) (Q qc : Nat) (l : List (List Int)) (hl : l.length = Q) (hQ : Q ≤ 1000000) (w : World) (hq : Txs w.heap.size w (.slice qa Q qc) l) :
    Calls Try.prog 30 #[.agg #[.int .i64 c.cB, .int .i64 c.cBeam, .int .i64 c.cDepth, .int .i64 c.cWin, .int .i64 c.cQs, .int .i64 c.cQr, .int .i64 c.cBatch, .int .i64 c.cPass, .int .i64 c.cMsg, .int .i64 c.cSeqs, .int .i64 K, .int .i64 B, .int .i64 N, .int .i64 T, .slice ha M hc, .bool O, .slice ja J jc, .slice qa Q qc]] w fun e w' => AnsB e ((Q : Int) ≤ c.cQr ∧ ∀ m ∈ l, m.length ≤ 4096) ∧ Below w.heap.size w w' := by
  have bb : Below w.heap.size w (w.alloc (.cells #[.int .i64 c.cB, .int .i64 c.cBeam, .int .i64 c.cDepth, .int .i64 c.cWin, .int .i64 c.cQs, .int .i64 c.cQr, .int .i64 c.cBatch, .int .i64 c.cPass, .int .i64 c.cMsg, .int .i64 c.cSeqs, .int .i64 K, .int .i64 B, .int .i64 N, .int .i64 T, .slice ha M hc, .bool O, .slice ja J jc, .slice qa Q qc] 31)) := (Below.refl _ _).alloc (Nat.le_refl _) _
  have x1 := Box.new w 31 #[.int .i64 c.cB, .int .i64 c.cBeam, .int .i64 c.cDepth, .int .i64 c.cWin, .int .i64 c.cQs, .int .i64 c.cQr, .int .i64 c.cBatch, .int .i64 c.cPass, .int .i64 c.cMsg, .int .i64 c.cSeqs, .int .i64 K, .int .i64 B, .int .i64 N, .int .i64 T, .slice ha M hc, .bool O, .slice ja J jc, .slice qa Q qc]
  have H1 := recvContains_any qa Q qc l hl hQ _ (hq.next bb)
  have HL : Hid (anyLong l = false ↔ ∀ m ∈ l, m.length ≤ 4096) := anyLong_no
  obtain ⟨d, hd⟩ : ∃ d, anyLong l = d := ⟨_, rfl⟩
  rw [hd] at H1 HL
  clear hl hq hd
  have c17 := x1.cell 17 _ rfl
  have c5 := x1.cell 5 _ rfl
  have l1 := x1.lt
  go_enter Try.func30, Try.ntmps30
  by_cases h0 : (Q : Int) ≤ c.cQr
  · have d0 : decide ((Q : Int) ≤ c.cQr) = true := decide_eq_true h0
    have H0 : Hid ((Q : Int) ≤ c.cQr) := h0
    clear h0
    go_wp2_with fail
    refine H1.mono ?_
    rintro e w1 ⟨rfl, b1⟩
    replace bb := bb.trans (b1.mono bb.size)
    clear b1
    cases d with
    | true =>
      go_wp2
      go_ret
      exact ⟨⟨false, rfl, ⟨fun h => (by cases h), fun h => by have := HL.out.2 h.2; cases this⟩⟩, bb⟩
    | false =>
      go_wp2
      go_ret
      exact ⟨⟨true, rfl, ⟨fun _ => ⟨H0.out, HL.out.1 (by trivial)⟩, fun _ => rfl⟩⟩, bb⟩
  · have d0 : decide ((Q : Int) ≤ c.cQr) = false := decide_eq_false h0
    have H0 : Hid ((Q : Int) ≤ c.cQr → False) := h0
    clear h0
    go_wp2
    go_ret
    exact ⟨⟨false, rfl, ⟨fun h => (by cases h), fun h => (H0.out h.1).elim⟩⟩, bb⟩

end Go.Proofs.Ytmjidhnlofpliab

/-
  What recv.Check answers. (Written by tpl_recvcode.py.)
-/
namespace Go.Proofs.Ytmjidhnlofpliab
open Go.RowKit

theorem numsR_iff (K B N T : Int) : numsR K B N T = true ↔ inN K ∧ inN B ∧ inN T ∧ 0 ≤ N ∧ N ≤ 1073741824 := by
  unfold numsR
  simp only [Bool.and_eq_true, decide_eq_true_eq, isCn_iff, and_assoc]
theorem okR_parts {r : Rc} {c : Cfg} {K B N T : Int} {M : Nat} {O : Bool} {J Q : Nat} (hs : RcIs r c K B N T M O J Q) : okR r ↔ okC c = true ∧ numsR K B N T = true ∧ ((M : Int) = c.cWin ∧ ∀ (i : Nat) (h : Hr), r.rH[i]? = some h → h.hS = N + (i : Int) ∧ okH c h) ∧ okJ r.rJ ∧ ((Q : Int) ≤ c.cQr ∧ ∀ m ∈ r.rQ, m.length ≤ 4096) := by
  rw [numsR_iff]
  constructor
  · rintro ⟨h1, h2, h3, h4, h5, h6, h7, h8, h9, h10⟩
    rw [hs.eC] at h1 h6 h7 h9
    rw [hs.eK] at h2
    rw [hs.eB] at h3
    rw [hs.eN] at h4 h7
    rw [hs.eT] at h5
    rw [hs.lH] at h6
    rw [hs.lQ] at h9
    exact ⟨h1, ⟨h2, h3, h5, h4.1, by have := h4.2; omega⟩, ⟨h6, h7⟩, h8, h9, h10⟩
  · rintro ⟨h1, ⟨h2, h3, h5, h4, h4'⟩, ⟨h6, h7⟩, h8, h9, h10⟩
    exact { conf := by rw [hs.eC]; exact h1, clock := by rw [hs.eK]; exact h2, bads := by rw [hs.eB]; exact h3, next := by rw [hs.eN]; exact ⟨h4, by omega⟩, told := by rw [hs.eT]; exact h5, long := by rw [hs.eC, hs.lH]; exact h6, all := by rw [hs.eC, hs.eN]; exact h7, join := h8, room := by rw [hs.eC, hs.lQ]; exact h9, msgs := h10 }
set_option maxRecDepth 100000 in
set_option maxHeartbeats 4000000 in
theorem recvCheck_any {r : Rc} {c : Cfg} {K B N T : Int} {M : Nat} {O : Bool} {J Q : Nat} (hs : RcIs r c K B N T M O J Q) (hM : M ≤ 1000000) (hQ : Q ≤ 1000000) (hm : ∀ h ∈ r.rH, h.hL.length ≤ 4294967296 ∧ h.hB.length ≤ 4096) (ha : Option Addr) (hc : Nat) (ja : Option Addr) (jc : Nat) (qa : Option Addr) (qc : Nat) (w : World) (hr : RcAt w r ha M hc ja J jc qa Q qc) :
    Calls Try.prog 12 #[.agg #[.int .i64 c.cB, .int .i64 c.cBeam, .int .i64 c.cDepth, .int .i64 c.cWin, .int .i64 c.cQs, .int .i64 c.cQr, .int .i64 c.cBatch, .int .i64 c.cPass, .int .i64 c.cMsg, .int .i64 c.cSeqs, .int .i64 K, .int .i64 B, .int .i64 N, .int .i64 T, .slice ha M hc, .bool O, .slice ja J jc, .slice qa Q qc]] w fun e w' => AnsZ e (okR r) ∧ Below w.heap.size w w' := by
  have bb : Below w.heap.size w (w.alloc (.cells #[.int .i64 c.cB, .int .i64 c.cBeam, .int .i64 c.cDepth, .int .i64 c.cWin, .int .i64 c.cQs, .int .i64 c.cQr, .int .i64 c.cBatch, .int .i64 c.cPass, .int .i64 c.cMsg, .int .i64 c.cSeqs, .int .i64 K, .int .i64 B, .int .i64 N, .int .i64 T, .slice ha M hc, .bool O, .slice ja J jc, .slice qa Q qc] 31)) := (Below.refl _ _).alloc (Nat.le_refl _) _
  have x1 := Box.new w 31 #[.int .i64 c.cB, .int .i64 c.cBeam, .int .i64 c.cDepth, .int .i64 c.cWin, .int .i64 c.cQs, .int .i64 c.cQr, .int .i64 c.cBatch, .int .i64 c.cPass, .int .i64 c.cMsg, .int .i64 c.cSeqs, .int .i64 K, .int .i64 B, .int .i64 N, .int .i64 T, .slice ha M hc, .bool O, .slice ja J jc, .slice qa Q qc]
  replace hr := hr.next bb
  have HO : Hid (okR r ↔ okC c = true ∧ numsR K B N T = true ∧ ((M : Int) = c.cWin ∧ ∀ (i : Nat) (h : Hr), r.rH[i]? = some h → h.hS = N + (i : Int) ∧ okH c h) ∧ okJ r.rJ ∧ ((Q : Int) ≤ c.cQr ∧ ∀ m ∈ r.rQ, m.length ≤ 4096)) := okR_parts hs
  have HL : Hid (r.rH.length = M ∧ r.rJ.1 = O ∧ r.rJ.2.length = J ∧ r.rQ.length = Q) := ⟨hs.lH, hs.eO, hs.lJ, hs.lQ⟩
  have HM : Hid (∀ h ∈ r.rH, h.hL.length ≤ 4294967296 ∧ h.hB.length ≤ 4096) := hm
  clear hs hm
  have H1 := fun wx => ConfCheck_any c wx
  unfold checkA at H1
  have c0 := x1.cell 0 _ rfl
  have c1 := x1.cell 1 _ rfl
  have c2 := x1.cell 2 _ rfl
  have c3 := x1.cell 3 _ rfl
  have c4 := x1.cell 4 _ rfl
  have c5 := x1.cell 5 _ rfl
  have c6 := x1.cell 6 _ rfl
  have c7 := x1.cell 7 _ rfl
  have c8 := x1.cell 8 _ rfl
  have c9 := x1.cell 9 _ rfl
  have l1 := x1.lt
  go_enter Try.func12, Try.ntmps12
  go_wp2_with fail
  refine (H1 _).mono ?_
  rintro e w1 ⟨rfl, b1⟩
  replace x1 := x1.next b1
  replace hr := hr.next b1
  replace bb := bb.trans (b1.mono bb.size)
  clear b1 H1 l1 c0 c1 c2 c3 c4 c5 c6 c7 c8 c9
  by_cases hC : okC c = true
  · rw [if_pos hC]
    have HC : Hid (okC c = true) := hC
    clear hC
    go_wp2_with (first | (refine wpList_load_box x1 rfl 31 _ rfl rfl _ Try.underlying31 rfl (by kernel_rfl) ?_))
    refine (recvNums_any c K B N T ha M hc O ja J jc qa Q qc _).mono ?_
    rintro e w2 ⟨rfl, b1⟩
    obtain ⟨nb, hnb⟩ : ∃ b, numsR K B N T = b := ⟨_, rfl⟩
    rw [hnb]
    have HN : Hid (numsR K B N T = nb) := hnb
    clear hnb
    replace x1 := x1.next b1
    replace hr := hr.next b1
    replace bb := bb.trans (b1.mono bb.size)
    clear b1
    cases nb with
    | false =>
      go_wp2
      go_ret
      exact ⟨⟨1, rfl, .inr ⟨rfl, fun h => by have := (HO.out.1 h).2.1; rw [HN.out] at this; cases this⟩⟩, bb⟩
    | true =>
      have hn := (numsR_iff K B N T).1 HN.out
      have H2 := fun wx hx => recvHears_any c HC.out K B N T hn.2.2.2.1 hn.2.2.2.2 ha M hc O ja J jc qa Q qc r.rH HL.out.1 hM HM.out wx hx
      clear hn
      go_wp2_with (first | (refine wpList_load_boxg x1 rfl 31 _ rfl rfl _ Try.underlying31 rfl (by kernel_rfl) ?_))
      refine (H2 _ hr.1).mono ?_
      rintro e w3 ⟨⟨b, rfl, hb⟩, b1⟩
      have HB : Hid (b = true ↔ (M : Int) = c.cWin ∧ ∀ (i : Nat) (h : Hr), r.rH[i]? = some h → h.hS = N + (i : Int) ∧ okH c h) := hb
      clear hb H2
      replace x1 := x1.next b1
      replace hr := hr.next b1
      replace bb := bb.trans (b1.mono bb.size)
      clear b1
      cases b with
      | false =>
        go_wp2
        go_ret
        exact ⟨⟨1, rfl, .inr ⟨rfl, fun h => by have := HB.out.2 (HO.out.1 h).2.2.1; cases this⟩⟩, bb⟩
      | true =>
        have H3 := fun wx hx => recvJoin_any r.rJ ja J jc HL.out.2.2.1 wx hx
        rw [HL.out.2.1] at H3
        have c15 := x1.cell 15 _ rfl
        have c16 := x1.cell 16 _ rfl
        have l1 := x1.lt
        go_wp2_with fail
        refine (H3 _ hr.2.1).mono ?_
        rintro e w4 ⟨⟨b, rfl, hb⟩, b1⟩
        have HB2 : Hid (b = true ↔ okJ r.rJ) := hb
        clear hb H3 c15 c16 l1
        replace x1 := x1.next b1
        replace hr := hr.next b1
        replace bb := bb.trans (b1.mono bb.size)
        clear b1
        cases b with
        | false =>
          go_wp2
          go_ret
          exact ⟨⟨1, rfl, .inr ⟨rfl, fun h => by have := HB2.out.2 (HO.out.1 h).2.2.2.1; cases this⟩⟩, bb⟩
        | true =>
          have H4 := fun wx hx => recvQueue_any c K B N T ha M hc O ja J jc qa Q qc r.rQ HL.out.2.2.2 hQ wx hx
          go_wp2_with (first | (refine wpList_load_boxg x1 rfl 31 _ rfl rfl _ Try.underlying31 rfl (by kernel_rfl) ?_))
          refine (H4 _ hr.2.2).mono ?_
          rintro e w5 ⟨⟨b, rfl, hb⟩, b1⟩
          have HB3 : Hid (b = true ↔ (Q : Int) ≤ c.cQr ∧ ∀ m ∈ r.rQ, m.length ≤ 4096) := hb
          clear hb H4
          replace bb := bb.trans (b1.mono bb.size)
          clear b1
          cases b with
          | false =>
            go_wp2
            go_ret
            exact ⟨⟨1, rfl, .inr ⟨rfl, fun h => by have := HB3.out.2 (HO.out.1 h).2.2.2.2; cases this⟩⟩, bb⟩
          | true =>
            go_wp2
            go_ret
            exact ⟨⟨0, rfl, .inl ⟨rfl, HO.out.2 ⟨HC.out, HN.out, HB.out.1 (by trivial), HB2.out.1 (by trivial), HB3.out.1 (by trivial)⟩⟩⟩, bb⟩
  · rw [if_neg hC]
    have HC : Hid (okC c = true → False) := hC
    clear hC
    go_wp2
    go_ret
    exact ⟨⟨1, rfl, .inr ⟨rfl, fun h => (HC.out (HO.out.1 h).1).elim⟩⟩, bb⟩

end Go.Proofs.Ytmjidhnlofpliab

/-
  Clones of lists of hears and of texts; what recv.apart answers: the same receiver, its lists the call's own. (Written by tpl_recvcode.py.)
-/
namespace Go.Proofs.Ytmjidhnlofpliab
open Go.RowKit

set_option maxRecDepth 100000 in
set_option maxHeartbeats 2000000 in
theorem cloneHrs_ok (a : Option Addr) (n cap : Nat) (r : Lies Hr) (hn : r.length = n) (hs : ∀ x ∈ r, ∀ p ∈ x.2, ∃ a n c, p = Value.slice a n c) (hl : n ≤ 1000000) (w : World) (ha : HoldsC w.heap.size w (.slice a n cap) n (cellsK hrK r)) :
    Calls Try.prog 31 #[.slice a n cap] w fun e W' => ∃ va vc, e = .returned (.slice va n vc) ∧ W'.ownsRow w.heap.size 46 7 (.slice va n vc) n (cellsK hrK r) ∧ Below w.heap.size w W' := by
  have qS : ∀ (w : World) (a : Option Addr) (n c n' c' : Nat), (binOp .eql 25 (.slice a n c) (.slice none n' c')).run Try.prog w = .ok (.bool a.isNone) w := fun w a n c n' c' => Lib.run_eql_slice_nil w _ _ a n c n' c' Try.underlying25
  cases a with
  | none =>
    have h0 : n = 0 ∧ r = [] := by
      rcases ha with ⟨_, h, _⟩ | ⟨b, off, c, e, _⟩
      · exact ⟨h, List.length_eq_zero_iff.1 (hn.trans h)⟩
      · simp only [Value.slice.injEq] at e; exact absurd e.1 (by simp)
    obtain ⟨rfl, rfl⟩ := h0
    clear ha
    go_enter Try.func31, Try.ntmps31
    go_wp2
    go_ret
    exact ⟨none, 0, rfl, World.ownsRow_nil _ _ _ _, Below.refl _ _⟩
  | some ad =>
    have o0 : (w.alloc (.cells #[] 46)).ownsRow w.heap.size 46 7 (.slice (some ⟨w.heap.size, 0, none⟩) 0 0) 0 (cellsK hrK []) := World.ownsRow_made w #[] 0 (Nat.le_refl _) (Nat.zero_le _) rfl
    have b0 := (Below.refl w.heap.size w).alloc (Nat.le_refl _) (.cells #[] 46)
    obtain ⟨v3, w3, hr3, ho3, hg3⟩ := run_append_sts hrK 25 25 _ 88 Try.underlying25 infoHr rfl (by decide) (by decide) (.slice (some ⟨w.heap.size, 0, none⟩) 0 0) (.slice (some ad) n cap) 0 n w.heap.size _ [] r hn hs (w.alloc (.cells #[] 46)) o0 (ha.below b0) (by simp) (by omega) (by omega)
    have b3 := b0.trans ((Below.refl w.heap.size _).grown hg3 (by simp) (fun q e => (o0.lt q e).1))
    rw [List.nil_append, Nat.zero_add] at ho3
    obtain ⟨va, vc, rfl⟩ := row_shapeS ho3
    have HR3 : Hid _ := hr3
    clear hr3 ha o0 hg3 hn
    go_enter Try.func31, Try.ntmps31
    go_wp2_with (at_builtin; refine wpList_append_k rfl _ _ 25 rfl _ _ rfl rfl _ _ HR3.out ?_)
    go_ret
    exact ⟨_, _, rfl, ho3, b3⟩
set_option maxRecDepth 100000 in
set_option maxHeartbeats 2000000 in
theorem cloneTxs_ok (a : Option Addr) (n cap : Nat) (r : Lies (List Int)) (hn : r.length = n) (hs : ∀ x ∈ r, ∀ p ∈ x.2, ∃ a n c, p = Value.slice a n c) (hl : n ≤ 1000000) (w : World) (ha : HoldsC w.heap.size w (.slice a n cap) n (cellsK txK r)) :
    Calls Try.prog 34 #[.slice a n cap] w fun e W' => ∃ va vc, e = .returned (.slice va n vc) ∧ W'.ownsRow w.heap.size 26 1 (.slice va n vc) n (cellsK txK r) ∧ Below w.heap.size w W' := by
  have qS : ∀ (w : World) (a : Option Addr) (n c n' c' : Nat), (binOp .eql 29 (.slice a n c) (.slice none n' c')).run Try.prog w = .ok (.bool a.isNone) w := fun w a n c n' c' => Lib.run_eql_slice_nil w _ _ a n c n' c' Try.underlying29
  cases a with
  | none =>
    have h0 : n = 0 ∧ r = [] := by
      rcases ha with ⟨_, h, _⟩ | ⟨b, off, c, e, _⟩
      · exact ⟨h, List.length_eq_zero_iff.1 (hn.trans h)⟩
      · simp only [Value.slice.injEq] at e; exact absurd e.1 (by simp)
    obtain ⟨rfl, rfl⟩ := h0
    clear ha
    go_enter Try.func34, Try.ntmps34
    go_wp2
    go_ret
    exact ⟨none, 0, rfl, World.ownsRow_nil _ _ _ _, Below.refl _ _⟩
  | some ad =>
    have o0 : (w.alloc (.cells #[] 26)).ownsRow w.heap.size 26 1 (.slice (some ⟨w.heap.size, 0, none⟩) 0 0) 0 (cellsK txK []) := World.ownsRow_made w #[] 0 (Nat.le_refl _) (Nat.zero_le _) rfl
    have b0 := (Below.refl w.heap.size w).alloc (Nat.le_refl _) (.cells #[] 26)
    obtain ⟨v3, w3, hr3, ho3, hg3⟩ := run_append_sts txK 29 29 _ 24 Try.underlying29 infoTx rfl (by decide) (by decide) (.slice (some ⟨w.heap.size, 0, none⟩) 0 0) (.slice (some ad) n cap) 0 n w.heap.size _ [] r hn hs (w.alloc (.cells #[] 26)) o0 (ha.below b0) (by simp) (by omega) (by omega)
    have b3 := b0.trans ((Below.refl w.heap.size _).grown hg3 (by simp) (fun q e => (o0.lt q e).1))
    rw [List.nil_append, Nat.zero_add] at ho3
    obtain ⟨va, vc, rfl⟩ := row_shapeS ho3
    have HR3 : Hid _ := hr3
    clear hr3 ha o0 hg3 hn
    go_enter Try.func34, Try.ntmps34
    go_wp2_with (at_builtin; refine wpList_append_k rfl _ _ 29 rfl _ _ rfl rfl _ _ HR3.out ?_)
    go_ret
    exact ⟨_, _, rfl, ho3, b3⟩
theorem cellsK_two {α : Type} (K : Kind α) {r : Lies α} {k i j : Nat} {x y : α × List Value} {u v : Value} (h : r[k]? = some x) (hi : i < K.k) (hj : j < K.k) (he : ((K.lie x.1 x.2).set i u).set j v = K.lie y.1 y.2) : ((cellsK K r).set (k * K.k + i) u).set (k * K.k + j) v = cellsK K (r.set k y) := by
  have hlt := (List.getElem?_eq_some_iff.1 h).1
  rw [set_flat K r k y hlt, ← he]
  apply List.ext_getElem?
  intro q
  have hlen := cellsK_len K r
  have hle : (k + 1) * K.k ≤ r.length * K.k := Nat.mul_le_mul_right _ hlt
  rw [Nat.add_mul, Nat.one_mul] at hle
  by_cases hq1 : q < k * K.k
  · rw [List.getElem?_set_ne (by omega), List.getElem?_set_ne (by omega), List.append_assoc, List.getElem?_append_left (by rw [List.length_take]; omega), List.getElem?_take_of_lt hq1]
  · by_cases hq2 : q < k * K.k + K.k
    · obtain ⟨p, rfl⟩ : ∃ p, q = k * K.k + p := ⟨q - k * K.k, by omega⟩
      have hp : p < (K.lie x.1 x.2).length := by rw [K.len]; omega
      have hget := cellsK_get K h p _ (List.getElem?_eq_getElem hp)
      rw [List.append_assoc, List.getElem?_append_right (by rw [List.length_take]; omega), List.length_take, Nat.min_eq_left (by omega), Nat.add_sub_cancel_left, List.getElem?_append_left (by simp [K.len]; omega)]
      have hp9 : k * K.k + p < (cellsK K r).length := by omega
      by_cases h1 : p = j
      · subst h1
        rw [List.getElem?_set_self (by rw [List.length_set]; exact hp9), List.getElem?_set_self (by rw [List.length_set]; exact hp)]
      · rw [List.getElem?_set_ne (by omega), List.getElem?_set_ne (fun e => h1 e.symm)]
        by_cases h2 : p = i
        · subst h2
          rw [List.getElem?_set_self hp9, List.getElem?_set_self hp]
        · rw [List.getElem?_set_ne (by omega), List.getElem?_set_ne (fun e => h2 e.symm), hget, List.getElem?_eq_getElem hp]
    · rw [List.getElem?_set_ne (by omega), List.getElem?_set_ne (by omega), List.getElem?_append_right (by simp [K.len]; omega), List.getElem?_drop]
      simp [K.len]
      congr 1
      omega
/-- Behind k of those that are heard: these have symbols and bytes of the call's own. -/
structure ApH (w W : World) (r : Rc) (k n2 : Nat) (cs : Array Value) (fa : Option Addr) (M fc : Nat) (rr : Lies Hr) : Prop where
  row : W.ownsRow (n2 + 1) 46 7 (.slice fa M fc) M (cellsK hrK rr)
  own : OwnL hrK (n2 + 1) W (rr.take k)
  len : rr.length = M
  same : rr.map Prod.fst = r.rH
  rest : ∀ (j : Nat) (x : Hr × List Value), k ≤ j → rr[j]? = some x → ∃ a cap b bc, x.2 = [.slice a x.1.hL.length cap, .slice b x.1.hB.length bc] ∧ HearAt w x.1 a cap b bc
  box : Box W w.heap.size 31 cs
  box2 : Box W n2 31 #[.int .i64 0, .int .i64 0, .int .i64 0, .int .i64 0, .int .i64 0, .int .i64 0, .int .i64 0, .int .i64 0, .int .i64 0, .int .i64 0, .int .i64 0, .int .i64 0, .int .i64 0, .int .i64 0, .slice none 0 0, .bool false, .slice none 0 0, .slice none 0 0]
  below : Below w.heap.size w W
/-- Behind k of those that wait: these are texts of the call's own. -/
structure ApQ (w W : World) (r : Rc) (k n2 : Nat) (cs : Array Value) (fa : Option Addr) (M fc : Nat) (ga : Option Addr) (J gc : Nat) (va : Option Addr) (Q vc : Nat) (rr : Lies (List Int)) : Prop where
  row : W.ownsRow (n2 + 1) 26 1 (.slice va Q vc) Q (cellsK txK rr)
  own : OwnL txK (n2 + 1) W (rr.take k)
  len : rr.length = Q
  same : rr.map Prod.fst = r.rQ
  rest : ∀ (j : Nat) (x : List Int × List Value), k ≤ j → rr[j]? = some x → SubsH w.heap.size w x.2 (txK.subs x.1)
  box : Box W w.heap.size 31 cs
  box2 : Box W n2 31 #[.int .i64 0, .int .i64 0, .int .i64 0, .int .i64 0, .int .i64 0, .int .i64 0, .int .i64 0, .int .i64 0, .int .i64 0, .int .i64 0, .int .i64 0, .int .i64 0, .int .i64 0, .int .i64 0, .slice none 0 0, .bool false, .slice none 0 0, .slice none 0 0]
  hears : OwnSts hrK (n2 + 1) W (.slice fa M fc) r.rH
  text : W.ownsRow (n2 + 1) 5 1 (.slice ga J gc) J (r.rJ.2.map (Value.int .u8))
  below : Below w.heap.size w W
theorem OwnSts.same {α : Type} {K : Kind α} {base : Nat} {W W' : World} {v : Value} {l : List α} (h : OwnSts K base W v l) (hq : ∀ g, base ≤ g → g < W.heap.size → W'.heap[g]? = W.heap[g]?) : OwnSts K base W' v l := by
  obtain ⟨r, h1, h2, h3⟩ := h
  exact ⟨r, h1, rowK_same h2 fun g hg => hq g (h2.lt g hg).1 (h2.lt g hg).2, h3.since hq⟩
set_option maxRecDepth 100000 in
set_option maxHeartbeats 8000000 in
theorem recvApart_any {r : Rc} {c : Cfg} {K B N T : Int} {M : Nat} {O : Bool} {J Q : Nat} (hs : RcIs r c K B N T M O J Q) (hM : M ≤ 1000000) (hJ : J ≤ 4096) (hQ : Q ≤ 1000000) (hm : ∀ h ∈ r.rH, h.hL.length ≤ 4294967296 ∧ h.hB.length ≤ 4096) (hq : ∀ m ∈ r.rQ, m.length ≤ 4096) (ha : Option Addr) (hc : Nat) (ja : Option Addr) (jc : Nat) (qa : Option Addr) (qc : Nat) (w : World) (hr : RcAt w r ha M hc ja J jc qa Q qc) :
    Calls Try.prog 13 #[.agg #[.int .i64 c.cB, .int .i64 c.cBeam, .int .i64 c.cDepth, .int .i64 c.cWin, .int .i64 c.cQs, .int .i64 c.cQr, .int .i64 c.cBatch, .int .i64 c.cPass, .int .i64 c.cMsg, .int .i64 c.cSeqs, .int .i64 K, .int .i64 B, .int .i64 N, .int .i64 T, .slice ha M hc, .bool O, .slice ja J jc, .slice qa Q qc]] w fun e W' => ∃ fa fc ga gc va vc, e = .returned (.agg #[.int .i64 c.cB, .int .i64 c.cBeam, .int .i64 c.cDepth, .int .i64 c.cWin, .int .i64 c.cQs, .int .i64 c.cQr, .int .i64 c.cBatch, .int .i64 c.cPass, .int .i64 c.cMsg, .int .i64 c.cSeqs, .int .i64 K, .int .i64 B, .int .i64 N, .int .i64 T, .slice fa M fc, .bool O, .slice ga J gc, .slice va Q vc]) ∧ RcTl w.heap.size W' r fa M fc ga J gc va Q vc ∧ Below w.heap.size w W' := by
  obtain ⟨⟨r0, hr0, h1, h2⟩, h3, s0, hs0, h4, h5⟩ := hr
  have hr9 : r0.length = M := by rw [← hs.lH, ← hr0, List.length_map]
  have hs9 : s0.length = Q := by rw [← hs.lQ, ← hs0, List.length_map]
  have HL : Hid (r.rH.length = M ∧ r.rJ.2.length = J ∧ r.rQ.length = Q) := ⟨hs.lH, hs.lJ, hs.lQ⟩
  have HM : Hid (∀ h ∈ r.rH, h.hL.length ≤ 4294967296 ∧ h.hB.length ≤ 4096) := hm
  have HQM : Hid (∀ m ∈ r.rQ, m.length ≤ 4096) := hq
  have HR0 : Hid (r0.map Prod.fst = r.rH) := hr0
  have HS0 : Hid (s0.map Prod.fst = r.rQ) := hs0
  have H2 : Hid (∀ x ∈ r0, ∃ a cap b bc, x.2 = [.slice a x.1.hL.length cap, .slice b x.1.hB.length bc] ∧ HearAt w x.1 a cap b bc) := h2
  have H3 : Hid (Holds .u8 w.heap.size w (.slice ja J jc) r.rJ.2) := h3
  have H5 : Hid (∀ x ∈ s0, SubsH w.heap.size w x.2 (txK.subs x.1)) := h5
  rw [hs.lH] at h1
  rw [hs.lQ] at h4
  have H4 : Hid (HoldsC w.heap.size w (.slice qa Q qc) Q (cellsK txK s0)) := h4
  have hsl : ∀ x ∈ r0, ∀ p ∈ x.2, ∃ a n c, p = Value.slice a n c := fun x hx p hp => by
    obtain ⟨a, cap, b, bc, e, _⟩ := h2 x hx
    rw [e] at hp
    simp at hp
    rcases hp with rfl | rfl
    · exact ⟨_, _, _, rfl⟩
    · exact ⟨_, _, _, rfl⟩
  clear hs hm hq hr0 hs0 h2 h3 h4 h5
  have bb : Below w.heap.size w ((w.alloc (.cells #[.int .i64 c.cB, .int .i64 c.cBeam, .int .i64 c.cDepth, .int .i64 c.cWin, .int .i64 c.cQs, .int .i64 c.cQr, .int .i64 c.cBatch, .int .i64 c.cPass, .int .i64 c.cMsg, .int .i64 c.cSeqs, .int .i64 K, .int .i64 B, .int .i64 N, .int .i64 T, .slice ha M hc, .bool O, .slice ja J jc, .slice qa Q qc] 31)).alloc (.cells #[.int .i64 0, .int .i64 0, .int .i64 0, .int .i64 0, .int .i64 0, .int .i64 0, .int .i64 0, .int .i64 0, .int .i64 0, .int .i64 0, .int .i64 0, .int .i64 0, .int .i64 0, .int .i64 0, .slice none 0 0, .bool false, .slice none 0 0, .slice none 0 0] 31)) := ((Below.refl _ _).alloc (Nat.le_refl _) _).alloc (by simp) _
  have x1 : Box ((w.alloc (.cells #[.int .i64 c.cB, .int .i64 c.cBeam, .int .i64 c.cDepth, .int .i64 c.cWin, .int .i64 c.cQs, .int .i64 c.cQr, .int .i64 c.cBatch, .int .i64 c.cPass, .int .i64 c.cMsg, .int .i64 c.cSeqs, .int .i64 K, .int .i64 B, .int .i64 N, .int .i64 T, .slice ha M hc, .bool O, .slice ja J jc, .slice qa Q qc] 31)).alloc (.cells #[.int .i64 0, .int .i64 0, .int .i64 0, .int .i64 0, .int .i64 0, .int .i64 0, .int .i64 0, .int .i64 0, .int .i64 0, .int .i64 0, .int .i64 0, .int .i64 0, .int .i64 0, .int .i64 0, .slice none 0 0, .bool false, .slice none 0 0, .slice none 0 0] 31)) w.heap.size 31 #[.int .i64 c.cB, .int .i64 c.cBeam, .int .i64 c.cDepth, .int .i64 c.cWin, .int .i64 c.cQs, .int .i64 c.cQr, .int .i64 c.cBatch, .int .i64 c.cPass, .int .i64 c.cMsg, .int .i64 c.cSeqs, .int .i64 K, .int .i64 B, .int .i64 N, .int .i64 T, .slice ha M hc, .bool O, .slice ja J jc, .slice qa Q qc] := (Box.new w 31 #[.int .i64 c.cB, .int .i64 c.cBeam, .int .i64 c.cDepth, .int .i64 c.cWin, .int .i64 c.cQs, .int .i64 c.cQr, .int .i64 c.cBatch, .int .i64 c.cPass, .int .i64 c.cMsg, .int .i64 c.cSeqs, .int .i64 K, .int .i64 B, .int .i64 N, .int .i64 T, .slice ha M hc, .bool O, .slice ja J jc, .slice qa Q qc]).next ((Below.refl _ _).alloc (Nat.le_refl _) _)
  have x2 := Box.new (w.alloc (.cells #[.int .i64 c.cB, .int .i64 c.cBeam, .int .i64 c.cDepth, .int .i64 c.cWin, .int .i64 c.cQs, .int .i64 c.cQr, .int .i64 c.cBatch, .int .i64 c.cPass, .int .i64 c.cMsg, .int .i64 c.cSeqs, .int .i64 K, .int .i64 B, .int .i64 N, .int .i64 T, .slice ha M hc, .bool O, .slice ja J jc, .slice qa Q qc] 31)) 31 #[.int .i64 0, .int .i64 0, .int .i64 0, .int .i64 0, .int .i64 0, .int .i64 0, .int .i64 0, .int .i64 0, .int .i64 0, .int .i64 0, .int .i64 0, .int .i64 0, .int .i64 0, .int .i64 0, .slice none 0 0, .bool false, .slice none 0 0, .slice none 0 0]
  replace h1 := (h1.below bb).mono bb.size
  go_enter Try.func13, Try.ntmps13
  have c14 := x1.cell 14 _ rfl
  have l1 := x1.lt
  go_wp2_with fail
  refine (cloneHrs_ok ha M hc r0 hr9 hsl hM _ h1).mono ?_
  rintro e w1 ⟨fa, fc, rfl, o1, b1⟩
  obtain ⟨n2, hn2⟩ : ∃ n, (w.alloc (.cells #[.int .i64 c.cB, .int .i64 c.cBeam, .int .i64 c.cDepth, .int .i64 c.cWin, .int .i64 c.cQs, .int .i64 c.cQr, .int .i64 c.cBatch, .int .i64 c.cPass, .int .i64 c.cMsg, .int .i64 c.cSeqs, .int .i64 K, .int .i64 B, .int .i64 N, .int .i64 T, .slice ha M hc, .bool O, .slice ja J jc, .slice qa Q qc] 31)).heap.size = n := ⟨_, rfl⟩
  have hn2s : w.heap.size + 1 = n2 := by rw [← hn2]; simp
  have hn2t : ((w.alloc (.cells #[.int .i64 c.cB, .int .i64 c.cBeam, .int .i64 c.cDepth, .int .i64 c.cWin, .int .i64 c.cQs, .int .i64 c.cQr, .int .i64 c.cBatch, .int .i64 c.cPass, .int .i64 c.cMsg, .int .i64 c.cSeqs, .int .i64 K, .int .i64 B, .int .i64 N, .int .i64 T, .slice ha M hc, .bool O, .slice ja J jc, .slice qa Q qc] 31)).alloc (.cells #[.int .i64 0, .int .i64 0, .int .i64 0, .int .i64 0, .int .i64 0, .int .i64 0, .int .i64 0, .int .i64 0, .int .i64 0, .int .i64 0, .int .i64 0, .int .i64 0, .int .i64 0, .int .i64 0, .slice none 0 0, .bool false, .slice none 0 0, .slice none 0 0] 31)).heap.size = n2 + 1 := by rw [← hn2]; simp
  rw [hn2] at x2
  rw [hn2t] at o1 b1
  try rw [hn2s]
  replace x1 := x1.below b1 (by omega)
  replace x2 := x2.below b1 (by omega)
  replace bb := bb.trans (b1.mono (by omega))
  have hz1 : n2 + 1 ≤ w1.heap.size := x2.lt
  have HN2 : Hid (w.heap.size + 1 = n2) := hn2s
  clear hn2 hn2s hn2t h1 c14 l1 b1 hsl
  have c14 := x1.cell 14 _ rfl
  have g14 := x1.free 14
  have l1 := x1.lt
  go_upto_region 2 with fail
  clear c14 g14 l1
  have q1 : ∀ g, g ≠ w.heap.size → (w1.setCell ⟨w.heap.size, 14, none⟩ (.slice fa M fc)).heap[g]? = w1.heap[g]? := fun g hg => Below.heap_setCell _ _ _ g hg
  replace o1 := rowK_same o1 fun g hg => q1 g fun e => by have := (o1.lt g hg).1; have := HN2.out; omega
  replace x2 := x2.other (p := ⟨w.heap.size, 14, none⟩) (show n2 ≠ w.heap.size by have := HN2.out; omega) (.slice fa M fc)
  replace x1 : Box (w1.setCell ⟨w.heap.size, 14, none⟩ (.slice fa M fc)) w.heap.size 31 #[.int .i64 c.cB, .int .i64 c.cBeam, .int .i64 c.cDepth, .int .i64 c.cWin, .int .i64 c.cQs, .int .i64 c.cQr, .int .i64 c.cBatch, .int .i64 c.cPass, .int .i64 c.cMsg, .int .i64 c.cSeqs, .int .i64 K, .int .i64 B, .int .i64 N, .int .i64 T, .slice fa M fc, .bool O, .slice ja J jc, .slice qa Q qc] := x1.set 14 (.slice fa M fc)
  replace bb := bb.setCell (p := ⟨w.heap.size, 14, none⟩) (Nat.le_refl _) (.slice fa M fc)
  clear q1 hz1
  generalize w1.setCell ⟨w.heap.size, 14, none⟩ (.slice fa M fc) = w2 at *
  have HAP : Hid (ApH w w2 r 0 n2 #[.int .i64 c.cB, .int .i64 c.cBeam, .int .i64 c.cDepth, .int .i64 c.cWin, .int .i64 c.cQs, .int .i64 c.cQr, .int .i64 c.cBatch, .int .i64 c.cPass, .int .i64 c.cMsg, .int .i64 c.cSeqs, .int .i64 K, .int .i64 B, .int .i64 N, .int .i64 T, .slice fa M fc, .bool O, .slice ja J jc, .slice qa Q qc] fa M fc r0) := ⟨o1, by rw [List.take_zero]; exact ownL_nil _ _ _, hr9, HR0.out, fun j x _ hx => H2.out x (List.mem_of_getElem? hx), x1, x2, bb⟩
  clear o1 bb x2 hr9
  have c14 := x1.cell 14 _ rfl
  have l1 := x1.lt
  go_upto_region 3 with fail
  clear c14 l1 x1
  go_loopw [13] (fun i wr => ∃ (k : Nat) (rr : Lies Hr), k ≤ M ∧ i = .int .i64 (k : Int) ∧ Hid (ApH w wr r k n2 #[.int .i64 c.cB, .int .i64 c.cBeam, .int .i64 c.cDepth, .int .i64 c.cWin, .int .i64 c.cQs, .int .i64 c.cQr, .int .i64 c.cBatch, .int .i64 c.cPass, .int .i64 c.cMsg, .int .i64 c.cSeqs, .int .i64 K, .int .i64 B, .int .i64 N, .int .i64 T, .slice fa M fc, .bool O, .slice ja J jc, .slice qa Q qc] fa M fc rr)) (fun i _ => M - (intOf i).toNat)
  case atStart => exact ⟨0, _, Nat.zero_le _, rfl, HAP⟩
  case round =>
    clear HAP
    obtain ⟨k, rr, hk, rfl, HA⟩ := hrel
    generalize hwr : wr = w5 at *
    clear hwr
    have x1 := HA.out.box
    by_cases hlt : k < M
    · have hrow := HA.out.row
      obtain ⟨gv, gc, hgv⟩ := row_form hrow (by omega)
      obtain ⟨rfl, _, rfl⟩ := Value.slice.inj hgv
      obtain ⟨⟨h, ps⟩, hx⟩ : ∃ x, rr[k]? = some x := ⟨rr[k]'(by rw [HA.out.len]; exact hlt), by simp⟩
      have he : h ∈ r.rH := by rw [← HA.out.same]; exact List.mem_map.2 ⟨_, List.mem_of_getElem? hx, rfl⟩
      obtain ⟨pa, pc, qb, qd, hps, hat⟩ := HA.out.rest k _ (Nat.le_refl _) hx
      have hps : ps = [.slice pa h.hL.length pc, .slice qb h.hB.length qd] := hps
      subst hps
      obtain ⟨pn, hpn⟩ : ∃ x, h.hL.length = x := ⟨_, rfl⟩
      obtain ⟨qn, hqn⟩ : ∃ x, h.hB.length = x := ⟨_, rfl⟩
      have HPN : Hid (h.hL.length = pn ∧ h.hB.length = qn) := ⟨hpn, hqn⟩
      have HAT : Hid (HearAt w h pa pc qb qd) := hat
      have HLB : Hid (h.hL.length ≤ 4294967296 ∧ h.hB.length ≤ 4096) := HM.out h he
      rw [hpn, hqn] at hx
      have HK : Hid (rr[k]? = some (h, [.slice pa pn pc, .slice qb qn qd])) := hx
      have hc4 : w5.cell? ⟨gv, k * 7 + 4, none⟩ = some (.slice pa pn pc) := by
        have := hrow.cells (g := gv) rfl _ _ (cellsK_get hrK hx 4 _ rfl)
        rwa [Addr.add_lit, Nat.zero_add] at this
      have hc6 : w5.cell? ⟨gv, k * 7 + 6, none⟩ = some (.slice qb qn qd) := by
        have := hrow.cells (g := gv) rfl _ _ (cellsK_get hrK hx 6 _ rfl)
        rwa [Addr.add_lit, Nat.zero_add] at this
      have hgl := hrow.lt gv rfl
      have hf4 := hrow.frozenAt (k * 7 + 4)
      have hf6 := hrow.frozenAt (k * 7 + 6)
      have H1c := fun wx hx => clone_ok pa pc h.hL HLB.out.1 wx hx
      rw [hpn] at H1c
      have H2c := fun wx hx => cloneB_ok qb qd h.hB HLB.out.2 wx hx
      rw [hqn] at H2c
      have hsy := (hat.syms.below HA.out.below).mono HA.out.below.size
      rw [hpn] at hsy
      have HC6 : Hid (w5.cell? ⟨gv, k * 7 + 6, none⟩ = some (.slice qb qn qd)) := hc6
      have HF6 : Hid (w5.frozen? ⟨gv, k * 7 + 6, none⟩ = false) := hf6
      have HWG : Hid (w.heap.size ≤ gv ∧ w.heap.size ≠ gv ∧ n2 ≠ gv ∧ gv < w5.heap.size ∧ n2 + 1 ≤ w5.heap.size) := by have := HN2.out; have := HA.out.box2.lt; exact ⟨by omega, by omega, by omega, hgl.2, by omega⟩
      clear hpn hqn hx he hgv hat hc6 hf6 hrow
      have c14 := x1.cell 14 _ rfl
      have l1 := x1.lt
      go_upto_region 6 with fail
      clear c14 l1 x1
      go_wp2_with fail
      refine (H1c _ hsy).mono ?_
      rintro e9 w6 ⟨r9, rfl, o6, b6⟩
      obtain ⟨sa, sc, rfl⟩ := row_shapeS o6
      have m4 := (b6.cell (p := ⟨gv, k * 7 + 4, none⟩) hgl.2).trans hc4
      have f4 := (b6.frozen (p := ⟨gv, k * 7 + 4, none⟩) hgl.2).trans hf4
      have hg6 : gv < w6.heap.size := Nat.lt_of_lt_of_le hgl.2 b6.size
      clear hc4 hf4 hgl hsy H1c
      go_upto_region 7 with fail
      clear m4 f4
      have hrow6 := rowK_below HA.out.row b6 (Nat.le_refl _)
      obtain ⟨hs7, hg7⟩ := hrow6.stored (k * 7 + 4) (.slice sa pn sc)
      have o7 := o6.kept hg7 (rowsK_unlike o6 hrow6 (by decide))
      have own7 := (HA.out.own.next b6).kept hrK_unlike hrow6 hg7
      have b7 := (HA.out.below.trans (b6.mono HA.out.below.size)).setCell (p := ⟨gv, k * 7 + 4, none⟩) HWG.out.1 (.slice sa pn sc)
      have x17 := (HA.out.box.next b6).other (p := ⟨gv, k * 7 + 4, none⟩) HWG.out.2.1 (.slice sa pn sc)
      have x27 := (HA.out.box2.next b6).other (p := ⟨gv, k * 7 + 4, none⟩) HWG.out.2.2.1 (.slice sa pn sc)
      have c6 : (w6.setCell ⟨gv, k * 7 + 4, none⟩ (.slice sa pn sc)).cell? ⟨gv, k * 7 + 6, none⟩ = some (.slice qb qn qd) := by
        exact (World.cell?_setCell_other _ _ _ _ (by intro e; have := congrArg Addr.off e; simp at this)).trans ((b6.cell (p := ⟨gv, k * 7 + 6, none⟩) HWG.out.2.2.2.1).trans HC6.out)
      have f6 : (w6.setCell ⟨gv, k * 7 + 4, none⟩ (.slice sa pn sc)).frozen? ⟨gv, k * 7 + 6, none⟩ = false := hs7.frozenAt (k * 7 + 6)
      have hz7 : (w6.setCell ⟨gv, k * 7 + 4, none⟩ (.slice sa pn sc)).heap.size = w6.heap.size := by simp [World.setCell]
      have hz56 := b6.size
      clear hrow6 hg7 o6 b6
      rw [← hz7] at hg6 hz56
      clear hz7
      generalize w6.setCell ⟨gv, k * 7 + 4, none⟩ (.slice sa pn sc) = w7 at *
      have hby := (HAT.out.byts.below b7).mono b7.size
      rw [HPN.out.2] at hby
      have HO7 : Hid (w7.ownsRow w5.heap.size 75 2 (.slice sa pn sc) pn (symCells h.hL)) := o7
      have HS7 : Hid (w7.ownsRow (n2 + 1) 46 7 (.slice (some ⟨gv, 0, none⟩) M fc) M ((cellsK hrK rr).set (k * 7 + 4) (.slice sa pn sc))) := hs7
      have HOW7 : Hid (OwnL hrK (n2 + 1) w7 (rr.take k)) := own7
      have HX7 : Hid (Box w7 w.heap.size 31 #[.int .i64 c.cB, .int .i64 c.cBeam, .int .i64 c.cDepth, .int .i64 c.cWin, .int .i64 c.cQs, .int .i64 c.cQr, .int .i64 c.cBatch, .int .i64 c.cPass, .int .i64 c.cMsg, .int .i64 c.cSeqs, .int .i64 K, .int .i64 B, .int .i64 N, .int .i64 T, .slice (some ⟨gv, 0, none⟩) M fc, .bool O, .slice ja J jc, .slice qa Q qc] ∧ Box w7 n2 31 #[.int .i64 0, .int .i64 0, .int .i64 0, .int .i64 0, .int .i64 0, .int .i64 0, .int .i64 0, .int .i64 0, .int .i64 0, .int .i64 0, .int .i64 0, .int .i64 0, .int .i64 0, .int .i64 0, .slice none 0 0, .bool false, .slice none 0 0, .slice none 0 0] ∧ Below w.heap.size w w7) := ⟨x17, x27, b7⟩
      clear o7 hs7 own7 x17 x27 b7
      go_wp2_with fail
      refine (H2c _ hby).mono ?_
      rintro e9 w8 ⟨r9, rfl, o8, b8⟩
      obtain ⟨ta, tc, rfl⟩ := row_shapeS o8
      have m6 := (b8.cell (p := ⟨gv, k * 7 + 6, none⟩) hg6).trans c6
      have g6 := (b8.frozen (p := ⟨gv, k * 7 + 6, none⟩) hg6).trans f6
      have hg8 : gv < w8.heap.size := Nat.lt_of_lt_of_le hg6 b8.size
      clear c6 f6 hg6 hby H2c
      go_upto_region 8 with fail
      clear m6 g6
      have hrow8 := rowK_below HS7.out b8 (Nat.le_refl _)
      obtain ⟨hs9, hg9⟩ := hrow8.stored (k * 7 + 6) (.slice ta qn tc)
      have hOH : OwnHear w5.heap.size w8 h sa sc ta tc := ⟨by rw [HPN.out.1]; exact rowK_below HO7.out b8 (Nat.le_refl _), by rw [HPN.out.2]; exact rowK_base o8 hz56, HAT.out.byte⟩
      have hsn := subsO_hear hOH
      have hpr := pair_hear hOH
      rw [HPN.out.1, HPN.out.2] at hsn hpr
      have own8 := ((HOW7.out.next b8).snoc (x := (h, [.slice sa pn sc, .slice ta qn tc])) hsn hpr HWG.out.2.2.2.2 (fun u hu p hp g hg => (HA.out.own.lt u hu p hp g hg).2)).kept hrK_unlike hrow8 hg9
      rw [show ((cellsK hrK rr).set (k * 7 + 4) (.slice sa pn sc)).set (k * 7 + 6) (.slice ta qn tc) = cellsK hrK (rr.set k (h, [.slice sa pn sc, .slice ta qn tc])) from cellsK_two hrK (i := 4) (j := 6) (y := (h, [.slice sa pn sc, .slice ta qn tc])) HK.out (by decide) (by decide) rfl] at hs9
      have HNX : Hid (ApH w (w8.setCell ⟨gv, k * 7 + 6, none⟩ (.slice ta qn tc)) r (k + 1) n2 #[.int .i64 c.cB, .int .i64 c.cBeam, .int .i64 c.cDepth, .int .i64 c.cWin, .int .i64 c.cQs, .int .i64 c.cQr, .int .i64 c.cBatch, .int .i64 c.cPass, .int .i64 c.cMsg, .int .i64 c.cSeqs, .int .i64 K, .int .i64 B, .int .i64 N, .int .i64 T, .slice (some ⟨gv, 0, none⟩) M fc, .bool O, .slice ja J jc, .slice qa Q qc] (some ⟨gv, 0, none⟩) M fc (rr.set k (h, [.slice sa pn sc, .slice ta qn tc]))) := by
        refine ⟨hs9, by rw [take_set_snoc (by rw [HA.out.len]; exact hlt)]; exact own8, by rw [List.length_set]; exact HA.out.len, by rw [map_set_fst (y := (h, [.slice sa pn sc, .slice ta qn tc])) HK.out rfl]; exact HA.out.same, fun j y hj hy => ?_, (HX7.out.1.next b8).other (p := ⟨gv, k * 7 + 6, none⟩) HWG.out.2.1 _, (HX7.out.2.1.next b8).other (p := ⟨gv, k * 7 + 6, none⟩) HWG.out.2.2.1 _, (HX7.out.2.2.trans (b8.mono HX7.out.2.2.size)).setCell (p := ⟨gv, k * 7 + 6, none⟩) HWG.out.1 _⟩
        rw [List.getElem?_set_ne (by omega)] at hy
        exact HA.out.rest j y (by omega) hy
      clear hrow8 hs9 hg9 hOH hsn hpr own8 o8 b8 hg8 hz56 HA
      generalize w8.setCell ⟨gv, k * 7 + 6, none⟩ (.slice ta qn tc) = w9 at *
      go_wp2
      exact ⟨⟨k + 1, _, hlt, by go_num, HNX⟩, by simp [intOf]; omega⟩
    · obtain rfl : k = M := by omega
      have HO : Hid (OwnSts hrK (n2 + 1) w5 (.slice fa k fc) r.rH) := ⟨rr, HA.out.same, by rw [HL.out.1]; exact HA.out.row, by have := HA.out.own; rwa [List.take_of_length_le (by rw [HA.out.len]; exact Nat.le_refl _)] at this⟩
      have x2 := HA.out.box2
      have bb := HA.out.below
      clear HA
      have H6c := fun wx hx => cloneB_ok ja jc r.rJ.2 (by rw [HL.out.2.1]; exact hJ) wx hx
      rw [HL.out.2.1] at H6c
      have hj := (H3.out.below bb).mono bb.size
      have c16 := x1.cell 16 _ rfl
      have l1 := x1.lt
      go_wp2_with fail
      refine (H6c _ hj).mono ?_
      rintro e w6 ⟨v, rfl, o6, b6⟩
      obtain ⟨ga, gc, rfl⟩ := row_shapeS o6
      have HO6 : Hid (OwnSts hrK (n2 + 1) w6 (.slice fa k fc) r.rH) := HO.out.next b6
      replace o6 := rowK_base (base' := n2 + 1) o6 x2.lt
      replace x1 := x1.next b6
      replace x2 := x2.next b6
      replace bb := bb.trans (b6.mono bb.size)
      clear b6 HO hj H6c c16 l1
      have c16 := x1.cell 16 _ rfl
      have g16 := x1.free 16
      have l1 := x1.lt
      go_upto_region 10 with fail
      clear c16 g16 l1
      have q1 : ∀ g, g ≠ w.heap.size → (w6.setCell ⟨w.heap.size, 16, none⟩ (.slice ga J gc)).heap[g]? = w6.heap[g]? := fun g hg => Below.heap_setCell _ _ _ g hg
      have HO7 : Hid (OwnSts hrK (n2 + 1) (w6.setCell ⟨w.heap.size, 16, none⟩ (.slice ga J gc)) (.slice fa k fc) r.rH) := HO6.out.same fun g hg _ => q1 g (by have := HN2.out; omega)
      replace o6 := rowK_same o6 fun g hg => q1 g fun e => by have := (o6.lt g hg).1; have := HN2.out; omega
      replace x2 := x2.other (p := ⟨w.heap.size, 16, none⟩) (show n2 ≠ w.heap.size by have := HN2.out; omega) (.slice ga J gc)
      replace x1 : Box (w6.setCell ⟨w.heap.size, 16, none⟩ (.slice ga J gc)) w.heap.size 31 #[.int .i64 c.cB, .int .i64 c.cBeam, .int .i64 c.cDepth, .int .i64 c.cWin, .int .i64 c.cQs, .int .i64 c.cQr, .int .i64 c.cBatch, .int .i64 c.cPass, .int .i64 c.cMsg, .int .i64 c.cSeqs, .int .i64 K, .int .i64 B, .int .i64 N, .int .i64 T, .slice fa k fc, .bool O, .slice ga J gc, .slice qa Q qc] := x1.set 16 (.slice ga J gc)
      replace bb := bb.setCell (p := ⟨w.heap.size, 16, none⟩) (Nat.le_refl _) (.slice ga J gc)
      clear q1 HO6
      generalize w6.setCell ⟨w.heap.size, 16, none⟩ (.slice ga J gc) = w7 at *
      have h4 := (H4.out.below bb).mono bb.size
      have H7c := fun wx hx => cloneTxs_ok qa Q qc s0 hs9 (fun x hx => (H5.out x hx).slices) hQ wx hx
      have c17 := x1.cell 17 _ rfl
      have l1 := x1.lt
      go_wp2_with fail
      refine (H7c _ h4).mono ?_
      rintro e w8 ⟨va, vc, rfl, o8, b8⟩
      have HO8 : Hid (OwnSts hrK (n2 + 1) w8 (.slice fa k fc) r.rH) := HO7.out.next b8
      replace o6 := rowK_below o6 b8 (Nat.le_refl _)
      replace o8 := rowK_base (base' := n2 + 1) o8 x2.lt
      replace x1 := x1.next b8
      replace x2 := x2.next b8
      replace bb := bb.trans (b8.mono bb.size)
      clear b8 HO7 h4 H7c c17 l1
      have c17 := x1.cell 17 _ rfl
      have g17 := x1.free 17
      have l1 := x1.lt
      go_upto_region 11 with fail
      clear c17 g17 l1
      have q1 : ∀ g, g ≠ w.heap.size → (w8.setCell ⟨w.heap.size, 17, none⟩ (.slice va Q vc)).heap[g]? = w8.heap[g]? := fun g hg => Below.heap_setCell _ _ _ g hg
      have HO9 : Hid (OwnSts hrK (n2 + 1) (w8.setCell ⟨w.heap.size, 17, none⟩ (.slice va Q vc)) (.slice fa k fc) r.rH) := HO8.out.same fun g hg _ => q1 g (by have := HN2.out; omega)
      replace o6 := rowK_same o6 fun g hg => q1 g fun e => by have := (o6.lt g hg).1; have := HN2.out; omega
      replace o8 := rowK_same o8 fun g hg => q1 g fun e => by have := (o8.lt g hg).1; have := HN2.out; omega
      replace x2 := x2.other (p := ⟨w.heap.size, 17, none⟩) (show n2 ≠ w.heap.size by have := HN2.out; omega) (.slice va Q vc)
      replace x1 : Box (w8.setCell ⟨w.heap.size, 17, none⟩ (.slice va Q vc)) w.heap.size 31 #[.int .i64 c.cB, .int .i64 c.cBeam, .int .i64 c.cDepth, .int .i64 c.cWin, .int .i64 c.cQs, .int .i64 c.cQr, .int .i64 c.cBatch, .int .i64 c.cPass, .int .i64 c.cMsg, .int .i64 c.cSeqs, .int .i64 K, .int .i64 B, .int .i64 N, .int .i64 T, .slice fa k fc, .bool O, .slice ga J gc, .slice va Q vc] := x1.set 17 (.slice va Q vc)
      replace bb := bb.setCell (p := ⟨w.heap.size, 17, none⟩) (Nat.le_refl _) (.slice va Q vc)
      clear q1 HO8
      generalize w8.setCell ⟨w.heap.size, 17, none⟩ (.slice va Q vc) = w9 at *
      have HAQ : Hid (ApQ w w9 r 0 n2 #[.int .i64 c.cB, .int .i64 c.cBeam, .int .i64 c.cDepth, .int .i64 c.cWin, .int .i64 c.cQs, .int .i64 c.cQr, .int .i64 c.cBatch, .int .i64 c.cPass, .int .i64 c.cMsg, .int .i64 c.cSeqs, .int .i64 K, .int .i64 B, .int .i64 N, .int .i64 T, .slice fa k fc, .bool O, .slice ga J gc, .slice va Q vc] fa k fc ga J gc va Q vc s0) := ⟨o8, by rw [List.take_zero]; exact ownL_nil _ _ _, hs9, HS0.out, fun j x _ hx => H5.out x (List.mem_of_getElem? hx), x1, x2, HO9.out, o6, bb⟩
      clear o6 o8 x2 bb HO9 hs9
      have c17 := x1.cell 17 _ rfl
      have l1 := x1.lt
      go_upto_region 12 with fail
      clear c17 l1 x1
      go_loopw [52] (fun i wr => ∃ (j : Nat) (rr : Lies (List Int)), j ≤ Q ∧ i = .int .i64 (j : Int) ∧ Hid (ApQ w wr r j n2 #[.int .i64 c.cB, .int .i64 c.cBeam, .int .i64 c.cDepth, .int .i64 c.cWin, .int .i64 c.cQs, .int .i64 c.cQr, .int .i64 c.cBatch, .int .i64 c.cPass, .int .i64 c.cMsg, .int .i64 c.cSeqs, .int .i64 K, .int .i64 B, .int .i64 N, .int .i64 T, .slice fa k fc, .bool O, .slice ga J gc, .slice va Q vc] fa k fc ga J gc va Q vc rr)) (fun i _ => Q - (intOf i).toNat)
      case atStart => exact ⟨0, _, Nat.zero_le _, rfl, HAQ⟩
      case round =>
        clear HAQ
        obtain ⟨j, rr, hj, rfl, HA⟩ := hrel
        generalize hwr : wr = w5 at *
        clear hwr
        have x1 := HA.out.box
        by_cases hlt : j < Q
        · have hrow := HA.out.row
          obtain ⟨gv, gc2, hgv⟩ := row_form hrow (by omega)
          obtain ⟨rfl, _, rfl⟩ := Value.slice.inj hgv
          obtain ⟨⟨m, ps⟩, hx⟩ : ∃ x, rr[j]? = some x := ⟨rr[j]'(by rw [HA.out.len]; exact hlt), by simp⟩
          have he : m ∈ r.rQ := by rw [← HA.out.same]; exact List.mem_map.2 ⟨_, List.mem_of_getElem? hx, rfl⟩
          obtain ⟨p, hps, hp⟩ := (HA.out.rest j _ (Nat.le_refl _) hx).one
          have hps : ps = [p] := hps
          subst hps
          have hp' := hp.ints rfl
          obtain ⟨pa, pc, rfl⟩ : ∃ pa pc, p = .slice pa m.length pc := hp'.shape
          obtain ⟨x, hxl⟩ : ∃ x, m.length = x := ⟨_, rfl⟩
          have HCL := fun wx hx => cloneB_ok pa pc m (HQM.out m he) wx hx
          rw [hxl] at hp' hx HCL
          have HX : Hid (m.length = x) := hxl
          have HK : Hid (rr[j]? = some (m, [.slice pa x pc])) := hx
          have hc4 : w5.cell? ⟨gv, j, none⟩ = some (.slice pa x pc) := by
            have := hrow.cells (g := gv) rfl _ _ (cellsK_get txK hx 0 _ rfl)
            rw [Addr.add_lit, Nat.zero_add] at this
            simpa [txK] using this
          have hgl := hrow.lt gv rfl
          have hf4 := hrow.frozenAt j
          replace hp' := (hp'.below HA.out.below).mono HA.out.below.size
          have hcl : Hid (∀ wx : World, Below w5.heap.size w5 wx → Calls Try.prog 33 #[.slice pa x pc] wx fun e9 W' => ∃ qa qc, e9 = .returned (.slice qa x qc) ∧ W'.ownsRow w5.heap.size 5 1 (.slice qa x qc) x (m.map (Value.int .u8)) ∧ Below w5.heap.size w5 W') := fun wx hx => by
            refine (HCL wx (hp'.next hx)).mono ?_
            rintro e9 W' ⟨r9, rfl, o9, b9⟩
            obtain ⟨qa, qc, rfl⟩ := row_shapeS o9
            exact ⟨qa, qc, rfl, rowK_base o9 hx.size, hx.trans (b9.mono hx.size)⟩
          clear hxl hp hp' hx he hgv HCL
          have c17 := x1.cell 17 _ rfl
          have l1 := x1.lt
          go_upto_region 14 with fail
          have d17 : w5.drew.cell? ⟨w.heap.size, 17, none⟩ = some (.slice (some ⟨gv, 0, none⟩) Q vc) := c17
          have dc4 : w5.drew.cell? ⟨gv, j, none⟩ = some (.slice pa x pc) := hc4
          have HC4 : Hid (w5.cell? ⟨gv, j, none⟩ = some (.slice pa x pc)) := hc4
          have HF4 : Hid (w5.frozen? ⟨gv, j, none⟩ = false) := hf4
          first | go_region_with (go_at_call 33; refine (hcl.out _ (by exact (Below.refl _ _).drew)).mono ?_; rintro e9 w9 ⟨ya, yc, rfl, o9, b9⟩; have m17 := (b9.cell (p := ⟨w.heap.size, 17, none⟩) l1).trans c17; have m4 := (b9.cell (p := ⟨gv, j, none⟩) hgl.2).trans HC4.out; have f4 := (b9.frozen (p := ⟨gv, j, none⟩) hgl.2).trans HF4.out) | fail
          all_goals (
            clear d17 dc4 m17 m4 f4 hc4 hf4 hrow x1 c17 l1 hcl HC4 HF4
            have hrow9 := rowK_below HA.out.row b9 (Nat.le_refl _)
            obtain ⟨hs9, hg9⟩ := hrow9.stored j (.slice ya x yc)
            have hst : (cellsK txK rr).set (j * 1 + 0) (.slice ya x yc) = cellsK txK (rr.set j (m, [.slice ya x yc])) := cellsK_set1 txK HK.out (by decide) rfl
            rw [Nat.mul_one, Nat.add_zero] at hst
            rw [hst] at hs9
            have hw5 : n2 + 1 ≤ w5.heap.size := HA.out.box2.lt
            have HNX : Hid (ApQ w (w9.setCell ⟨gv, j, none⟩ (.slice ya x yc)) r (j + 1) n2 #[.int .i64 c.cB, .int .i64 c.cBeam, .int .i64 c.cDepth, .int .i64 c.cWin, .int .i64 c.cQs, .int .i64 c.cQr, .int .i64 c.cBatch, .int .i64 c.cPass, .int .i64 c.cMsg, .int .i64 c.cSeqs, .int .i64 K, .int .i64 B, .int .i64 N, .int .i64 T, .slice fa k fc, .bool O, .slice ga J gc, .slice (some ⟨gv, 0, none⟩) Q vc] fa k fc ga J gc (some ⟨gv, 0, none⟩) Q vc (rr.set j (m, [.slice ya x yc]))) := by
              have oT := rowK_below HA.out.text b9 (Nat.le_refl _)
              have oH := StTl.ofOwn (HA.out.hears.next b9)
              refine ⟨hs9, ?_, by rw [List.length_set]; exact HA.out.len, by rw [map_set_fst (y := (m, [.slice ya x yc])) HK.out rfl]; exact HA.out.same, fun i y hi hy => ?_, (HA.out.box.next b9).other (p := ⟨gv, j, none⟩) (by have := HN2.out; show w.heap.size ≠ gv; omega) _, (HA.out.box2.next b9).other (p := ⟨gv, j, none⟩) (by show n2 ≠ gv; omega) _, ?_, oT.kept hg9 (rowsK_unlike oT hrow9 (by decide)), (HA.out.below.trans (b9.mono HA.out.below.size)).setCell (p := ⟨gv, j, none⟩) (by have := HN2.out; show w.heap.size ≤ gv; omega) _⟩
              · rw [take_set_snoc (by rw [HA.out.len]; exact hlt)]
                exact ((HA.out.own.next b9).snoc (x := (m, [.slice ya x yc])) (subsO_one (t := ⟨5, 1, m.length, m.map (Value.int .u8)⟩) (by rw [HX.out]; exact o9)) (List.pairwise_singleton _ _) hw5 (fun u hu p hp g hg => (HA.out.own.lt u hu p hp g hg).2)).kept txK_unlike hrow9 hg9
              · rw [List.getElem?_set_ne (by omega)] at hy
                exact HA.out.rest i y (by omega) hy
              · obtain ⟨r7, e7, o7, l7⟩ := HA.out.hears.next b9
                exact ⟨r7, e7, o7.kept hg9 (rowsK_unlike o7 hrow9 (by decide)), l7.keptTl (TlRow.ofOwn hrow9) (hrK_subs (by decide) (by decide)) hg9⟩
            clear hrow9 hs9 hg9 o9 b9 hgl HA hst
            go_wp2
            exact ⟨⟨j + 1, _, hlt, by go_num, HNX⟩, by simp [intOf]; omega⟩)
        · obtain rfl : j = Q := by omega
          have HO : Hid (RcTl (n2 + 1) w5 r fa k fc ga J gc va j vc) := ⟨.ofOwn HA.out.hears, .ofOwn HA.out.text, ⟨rr, HA.out.same, by rw [HL.out.2.2]; exact .ofOwn HA.out.row, by have := HA.out.own; rwa [List.take_of_length_le (by rw [HA.out.len]; exact Nat.le_refl _)] at this⟩, fun h hh z hz => by
            rw [← HR0.out] at hh
            obtain ⟨x, hx, rfl⟩ := List.mem_map.1 hh
            obtain ⟨_, _, _, _, _, h9⟩ := H2.out x hx
            exact h9.byte z hz⟩
          have x2 := HA.out.box2
          have bE := below_setRow HA.out.below (show w.heap.size ≤ n2 by have := HN2.out; omega) #[.int .i64 c.cB, .int .i64 c.cBeam, .int .i64 c.cDepth, .int .i64 c.cWin, .int .i64 c.cQs, .int .i64 c.cQr, .int .i64 c.cBatch, .int .i64 c.cPass, .int .i64 c.cMsg, .int .i64 c.cSeqs, .int .i64 K, .int .i64 B, .int .i64 N, .int .i64 T, .slice fa k fc, .bool O, .slice ga J gc, .slice va j vc]
          have oE := (HO.out.put x2 (by decide) (by decide) (by decide) (by decide) (fun g hg => setRow_other w5 n2 g #[.int .i64 c.cB, .int .i64 c.cBeam, .int .i64 c.cDepth, .int .i64 c.cWin, .int .i64 c.cQs, .int .i64 c.cQr, .int .i64 c.cBatch, .int .i64 c.cPass, .int .i64 c.cMsg, .int .i64 c.cSeqs, .int .i64 K, .int .i64 B, .int .i64 N, .int .i64 T, .slice fa k fc, .bool O, .slice ga J gc, .slice va j vc] hg)).lower (base' := w.heap.size) (by have := HN2.out; omega)
          have x2e := x2.setRow #[.int .i64 c.cB, .int .i64 c.cBeam, .int .i64 c.cDepth, .int .i64 c.cWin, .int .i64 c.cQs, .int .i64 c.cQr, .int .i64 c.cBatch, .int .i64 c.cPass, .int .i64 c.cMsg, .int .i64 c.cSeqs, .int .i64 K, .int .i64 B, .int .i64 N, .int .i64 T, .slice fa k fc, .bool O, .slice ga J gc, .slice va j vc]
          clear HA HO
          go_wp2_with (first | (refine wpList_load_box x1 rfl 31 _ rfl rfl _ Try.underlying31 rfl (by kernel_rfl) ?_) | (refine wpList_store_box x2 rfl 31 _ _ rfl rfl rfl rfl (by kernel_rfl) (by simp [Value.oneCell']) ?_))
          exact bodyPost_ret (results_boxR rfl _ _ rfl x2e Try.underlying31 rfl (by kernel_rfl)) rfl ⟨fa, fc, ga, gc, va, vc, rfl, oE, bE⟩

end Go.Proofs.Ytmjidhnlofpliab

/-
  Small facts of memory that the walks of stage 21's laws share. No function of the program is spoken of.
-/
namespace Go.Proofs.Ytmjidhnlofpliab
open Go.RowKit

end Go.Proofs.Ytmjidhnlofpliab

/-
  Lists of blocks (a number, a mark, a text) in memory. No function of the program is spoken of.
-/
namespace Go.Proofs.Ytmjidhnlofpliab
open Go.RowKit

end Go.Proofs.Ytmjidhnlofpliab

/-
  What package hear answers (apart, putAll, tell, Take). (Written by tpl_hearcode.py.)
-/
namespace Go.Proofs.Ytmjidhnlofpliab
open Go.RowKit

end Go.Proofs.Ytmjidhnlofpliab

/-
  A variable in a block of its own, loaded and stored whole, in a region that draws its order. No function of the program is spoken of.
-/
namespace Go.Proofs.Ytmjidhnlofpliab
open Go.RowKit

theorem step_store_box {P : Program} {ops : Array Oper} {o : Oper} {a : Act} {w : World} {K : Act → World → Prop} {Q : Exit → Act → World → Prop} {E : Prop} {B : Nat} {t : TypeId} {old cs : Array Value} (hb : Box w B t old) (hw : Region.wanted o (yielded ops a.tmps) = true) (ty : TypeId) (x y : Operand) (ho : o.op = .store ty x y) (hx : a.eval x = .pointer (some ⟨B, 0, none⟩)) (hy : a.eval y = .agg cs)
    (hs : old.size = cs.size) (hi : (P.info? ty).map (·.size) = some cs.size) (h1 : cs.all (·.oneCell') = true) (h : K (a.put o.dst undef) (w.setRow B cs)) : if Region.wanted o (yielded ops a.tmps) = true then Oper.wp P o a w K Q else E := by
  rw [if_pos hw]
  unfold Oper.wp execOp
  simp only [ho, hx, hy, Instr.storeAt, Instr.sureAddr, Sem.run_bind, Sem.run_pure, Result.andThen_ok, run_storeVar_row w B t ty old cs hb hi hs h1]
  exact h
theorem step_store_boxn {P : Program} {ops : Array Oper} {o : Oper} {a : Act} {w : World} {K : Act → World → Prop} {Q : Exit → Act → World → Prop} {E : Prop} {B : Nat} {t : TypeId} {old cs : Array Value} (hb : Box w B t old) (hgd : o.guard = none) (ty : TypeId) (x y : Operand) (ho : o.op = .store ty x y) (hx : a.eval x = .pointer (some ⟨B, 0, none⟩)) (hy : a.eval y = .agg cs)
    (hs : old.size = cs.size) (hi : (P.info? ty).map (·.size) = some cs.size) (h1 : cs.all (·.oneCell') = true) (h : K (a.put o.dst undef) (w.setRow B cs)) : if Region.wanted o (yielded ops a.tmps) = true then Oper.wp P o a w K Q else E := step_store_box hb (by simp [Region.wanted, hgd]) ty x y ho hx hy hs hi h1 h
end Go.Proofs.Ytmjidhnlofpliab
