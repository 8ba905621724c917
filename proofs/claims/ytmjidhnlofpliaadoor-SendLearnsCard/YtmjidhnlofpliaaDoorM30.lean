/-
  An end that sends, as it lies in memory: its numbers, its lists. No function of the program is spoken of.
-/
import Derived.Test.YtmjidhnlofpliaaDoorM06
import Derived.Test.YtmjidhnlofpliaaDoorM27
import Derived.Test.YtmjidhnlofpliaaDoorM28
import Derived.Test.YtmjidhnlofpliaaDoorM29
import Derived.Deep.MidRow
namespace Go.Proofs.YtmjidhnlofpliaaDoor
open Go.RowKit

structure SnIs (s : Sn) (c : Cfg) (X : Bool) (K R B N T F : Int) (E M : Nat) : Prop where
  eC : s.sC = c
  eX : s.sX = X
  eK : s.sK = K
  eR : s.sR = R
  eB : s.sB = B
  eN : s.sN = N
  eT : s.sT = T
  eF : s.sF = F
  lE : s.sE.length = E
  lW : s.sW.length = M
/-- Its lists lie so. -/
def SnAt (W : World) (s : Sn) (ea : Option Addr) (E ec : Nat) (wa : Option Addr) (M wc : Nat) : Prop := Holds .i64 W.heap.size W (.slice ea E ec) s.sE ∧ Ems W.heap.size W (.slice wa M wc) s.sW
theorem SnAt.next {W W' : World} {s : Sn} {ea : Option Addr} {E ec : Nat} {wa : Option Addr} {M wc : Nat} (h : SnAt W s ea E ec wa M wc) (b : Below W.heap.size W W') : SnAt W' s ea E ec wa M wc := ⟨h.1.next b, h.2.next b⟩
/-- They are of the call's own. -/
def SnOwn (base : Nat) (W : World) (s : Sn) (ea : Option Addr) (E ec : Nat) (wa : Option Addr) (M wc : Nat) : Prop := W.ownsRow base 3 1 (.slice ea E ec) E (s.sE.map (Value.int .i64)) ∧ OwnEms base W (.slice wa M wc) s.sW
theorem SnOwn.next {base : Nat} {W W' : World} {s : Sn} {ea : Option Addr} {E ec : Nat} {wa : Option Addr} {M wc : Nat} (h : SnOwn base W s ea E ec wa M wc) (b : Below W.heap.size W W') : SnOwn base W' s ea E ec wa M wc := ⟨rowK_below h.1 b (Nat.le_refl _), h.2.next b⟩
theorem SnOwn.at {base : Nat} {W : World} {s : Sn} {ea : Option Addr} {E ec : Nat} {wa : Option Addr} {M wc : Nat} (h : SnOwn base W s ea E ec wa M wc) : SnAt W s ea E ec wa M wc := ⟨holds_of_row h.1, h.2.rows⟩
theorem SnOwn.lower {base base' : Nat} {W : World} {s : Sn} {ea : Option Addr} {E ec : Nat} {wa : Option Addr} {M wc : Nat} (h : SnOwn base W s ea E ec wa M wc) (hn : base' ≤ base) : SnOwn base' W s ea E ec wa M wc := ⟨rowK_base h.1 hn, h.2.lower hn⟩
/-- What lies in other blocks than a variable of another type stays, whatever becomes of that variable. -/
theorem OwnSts.put {α : Type} {K : Kind α} {base : Nat} {W W' : World} {v : Value} {l : List α} (h : OwnSts K base W v l) {D : Nat} {t : TypeId} {cs : Array Value} (hb : Box W D t cs) (h1 : K.ty ≠ t) (h2 : ∀ (y : α) (u : Sub), u ∈ K.subs y → u.ty ≠ t) (hq : ∀ g, g ≠ D → W'.heap[g]? = W.heap[g]?) : OwnSts K base W' v l := by
  obtain ⟨r, e, h3, h4⟩ := h
  refine ⟨r, e, rowK_same h3 fun g hg => hq g fun e => row_neBox h3 hb h1 (by rw [hg, e]), h4.same fun x hx p hp g hg => hq g fun e => ?_⟩
  subst e
  have h5 := h4.subs x hx
  obtain ⟨i, hi, ep⟩ := List.getElem_of_mem hp
  have hl : i < (K.subs x.1).length := by rw [← h5.1]; exact hi
  exact row_neBox (h5.2 i p (K.subs x.1)[i] (by rw [← ep]; simp) (by simp)) hb (h2 x.1 _ (by simp)) hg
theorem row_put1 {W W' : World} {base size n : Nat} {e t : TypeId} {v : Value} {xs : List Value} (h : W.ownsRow base e size v n xs) {D : Nat} {cs : Array Value} (hb : Box W D t cs) (he : e ≠ t) (hq : ∀ g, g ≠ D → W'.heap[g]? = W.heap[g]?) : W'.ownsRow base e size v n xs :=
  rowK_same h fun g hg => hq g fun e => row_neBox h hb he (by rw [hg, e])
theorem emK_subs {t : TypeId} (h : (5 : Nat) ≠ t) : ∀ (y : Em) (u : Sub), u ∈ emK.subs y → u.ty ≠ t := fun y u hu => by
  simp only [emK, List.mem_cons, List.not_mem_nil, or_false] at hu
  subst hu
  exact h
theorem SnOwn.put {base : Nat} {W W' : World} {s : Sn} {ea : Option Addr} {E ec : Nat} {wa : Option Addr} {M wc : Nat} (h : SnOwn base W s ea E ec wa M wc) {D : Nat} {t : TypeId} {cs : Array Value} (hb : Box W D t cs) (h1 : (3 : Nat) ≠ t) (h2 : (47 : Nat) ≠ t) (h3 : (5 : Nat) ≠ t) (hq : ∀ g, g ≠ D → W'.heap[g]? = W.heap[g]?) : SnOwn base W' s ea E ec wa M wc :=
  ⟨row_put1 h.1 hb h1 hq, h.2.put hb h2 (emK_subs h3) hq⟩
/-- An append that grows a row of another type leaves rows and variables. -/
theorem row_keptS {W W' : World} {base base' size size' n n' : Nat} {e e' : TypeId} {v v' : Value} {xs xs' : List Value} (h : W.ownsRow base e size v n xs) (hv : W.ownsRow base' e' size' v' n' xs') (he : e ≠ e') (o : Obj) (hg : (W.alloc o).grownBy W' v'.ownBlock) : W'.ownsRow base e size v n xs :=
  rowK_same h fun g hg' => by
    have hlt := (h.lt g hg').2
    refine (hg.block g (by simp; omega) fun e => ?_).trans (Below.heap_alloc W o g hlt)
    rcases rowsK_unlike h hv he with h0 | h0
    · rw [h0] at hg'; cases hg'
    · exact h0 (by rw [hg', e])
theorem box_keptS {W W' : World} {B base size n : Nat} {e t : TypeId} {v : Value} {xs : List Value} {cs : Array Value} (h : Box W B t cs) (hv : W.ownsRow base e size v n xs) (he : e ≠ t) (o : Obj) (hg : (W.alloc o).grownBy W' v.ownBlock) : Box W' B t cs :=
  (hg.block B ((h.alloc o).lt) fun e => row_neBox hv h he e.symm).trans (h.alloc o)

/-- A row of the call's own, with .next. -/
def OwnR (W : World) (base : Nat) (e : TypeId) (size : Nat) (v : Value) (n : Nat) (xs : List Value) : Prop := W.ownsRow base e size v n xs
theorem OwnR.next {W W' : World} {base : Nat} {e : TypeId} {size : Nat} {v : Value} {n : Nat} {xs : List Value} (h : OwnR W base e size v n xs) (b : Below W.heap.size W W') : OwnR W' base e size v n xs := rowK_below h b (Nat.le_refl _)
theorem OwnR.row {W : World} {base : Nat} {e : TypeId} {size : Nat} {v : Value} {n : Nat} {xs : List Value} (h : OwnR W base e size v n xs) : W.ownsRow base e size v n xs := h
theorem row_shapeS {W : World} {base k size : Nat} {e : TypeId} {v : Value} {xs : List Value} (h : W.ownsRow base e size v k xs) : ∃ a c, v = .slice a k c := by
  rcases h.2 with ⟨e, e0⟩ | ⟨g, c, cur, e, _⟩
  · exact ⟨_, _, by rw [e, e0]⟩
  · exact ⟨_, _, e⟩

end Go.Proofs.YtmjidhnlofpliaaDoor

/-
  Rows that lie in blocks made since a bound, from whatever cell on (also what is left of a row behind its first elements); lists of structs of such rows; an end that sends in such rows. No function of the program is spoken of.
-/
namespace Go.Proofs.YtmjidhnlofpliaaDoor
open Go.RowKit

/-- The slice v, of n elements, lies in a block made since base, from some cell on: its cells are cs. -/
def RowAt (base : Nat) (W : World) (e : TypeId) (k : Nat) (v : Value) (n : Nat) (cs : List Value) : Prop :=
  cs.length = n * k ∧ ((n = 0 ∧ ∃ a c, v = .slice a 0 c ∧ (a = none → c = 0)) ∨ ∃ g o cap cur, v = .slice (some ⟨g, o, none⟩) n cap ∧ n ≤ cap ∧ base ≤ g ∧ W.heap[g]? = some (.cells cur e (0, 0)) ∧ ∀ (j : Nat) (u : Value), cs[j]? = some u → cur[o + j]? = some u)
section
variable {base base' n k : Nat} {W W' : World} {e : TypeId} {v : Value} {cs : List Value}
theorem RowAt.ofOwn (h : W.ownsRow base e k v n cs) : RowAt base W e k v n cs := by
  refine ⟨h.1, ?_⟩
  rcases h.2 with ⟨rfl, rfl⟩ | ⟨g, cap, cur, rfl, hb, hg, hk, _, hs, ht⟩
  · exact .inl ⟨rfl, _, _, rfl, fun _ => rfl⟩
  · refine .inr ⟨g, 0, cap, cur, rfl, hk, hb, hg, fun j u hj => ?_⟩
    rw [← ht, List.getElem?_take] at hj
    split at hj
    · rw [Nat.zero_add]
      simpa using hj
    · cases hj
theorem RowAt.holds (h : RowAt base W e k v n cs) : HoldsC W.heap.size W v n cs := by
  rcases h.2 with ⟨rfl, a, c, rfl, h0⟩ | ⟨g, o, cap, cur, rfl, _, hb, hg, hc⟩
  · have := h.1
    rw [Nat.zero_mul] at this
    exact .inl ⟨⟨a, c, rfl, h0⟩, rfl, List.length_eq_zero_iff.1 this⟩
  · exact .inr ⟨g, o, cap, rfl, (Array.getElem?_eq_some_iff.1 hg).1, fun j u hj => by simp [World.cell?, hg, hc j u hj]⟩
theorem RowAt.same (h : RowAt base W e k v n cs) (hq : ∀ g, base ≤ g → g < W.heap.size → W'.heap[g]? = W.heap[g]?) : RowAt base W' e k v n cs := by
  refine ⟨h.1, ?_⟩
  rcases h.2 with h0 | ⟨g, o, cap, cur, hv, hn, hb, hg, hc⟩
  · exact .inl h0
  · exact .inr ⟨g, o, cap, cur, hv, hn, hb, (hq g hb (Array.getElem?_eq_some_iff.1 hg).1).trans hg, hc⟩
theorem RowAt.lower (h : RowAt base W e k v n cs) (hn : base' ≤ base) : RowAt base' W e k v n cs := by
  refine ⟨h.1, ?_⟩
  rcases h.2 with h0 | ⟨g, o, cap, cur, hv, hn', hb, hg, hc⟩
  · exact .inl h0
  · exact .inr ⟨g, o, cap, cur, hv, hn', by omega, hg, hc⟩
theorem RowAt.shape (h : RowAt base W e k v n cs) : ∃ a c, v = .slice a n c := by
  rcases h.2 with ⟨rfl, a, c, hv, _⟩ | ⟨g, o, cap, cur, hv, _⟩
  · exact ⟨_, _, hv⟩
  · exact ⟨_, _, hv⟩
theorem RowAt.cap {a : Option Addr} {c : Nat} (h : RowAt base W e k (.slice a n c) n cs) : n ≤ c := by
  rcases h.2 with ⟨rfl, _⟩ | ⟨g, o, cap, cur, hv, h1, _⟩
  · exact Nat.zero_le _
  · cases hv; exact h1
/-- What is left of it behind its first i elements. -/
theorem RowAt.drop {a : Option Addr} {c i : Nat} (h : RowAt base W e k (.slice a n c) n cs) (hi : i ≤ n) {a' : Option Addr} {c' : Nat} (ha : ∀ g o, a = some ⟨g, o, none⟩ → i < n → a' = some ⟨g, o + i * k, none⟩ ∧ c' = c - i) (h0 : i = n → a' = none → c' = 0) : RowAt base W e k (.slice a' (n - i) c') (n - i) (cs.drop (i * k)) := by
  refine ⟨by rw [List.length_drop, h.1, Nat.sub_mul], ?_⟩
  by_cases hin : i = n
  · exact .inl ⟨by omega, a', c', by rw [hin, Nat.sub_self], h0 hin⟩
  · rcases h.2 with ⟨rfl, _⟩ | ⟨g, o, cap, cur, hv, h1, hb, hg, hc⟩
    · omega
    · cases hv
      obtain ⟨rfl, rfl⟩ := ha g o rfl (by omega)
      exact .inr ⟨g, o + i * k, _, cur, rfl, by omega, hb, hg, fun j u hj => by
        rw [List.getElem?_drop] at hj
        rw [Nat.add_assoc]
        exact hc _ u hj⟩
end
/-- Structs in such a row, the rows that they lead to the call's own, in blocks of their own. -/
def StsAt {α : Type} (K : Kind α) (base : Nat) (W : World) (v : Value) (l : List α) : Prop := ∃ r : Lies α, r.map Prod.fst = l ∧ RowAt base W K.ty K.k v l.length (cellsK K r) ∧ OwnL K base W r
section
variable {α : Type} {K : Kind α} {base base' : Nat} {W W' : World} {v : Value} {l : List α}
theorem OwnL.since {r : Lies α} (h : OwnL K base W r) (hq : ∀ g, base ≤ g → g < W.heap.size → W'.heap[g]? = W.heap[g]?) : OwnL K base W' r := h.same fun x hx p hp g hg => hq g (h.lt x hx p hp g hg).1 (h.lt x hx p hp g hg).2
theorem OwnL.tail {r : Lies α} (h : OwnL K base W r) (i : Nat) : OwnL K base W (r.drop i) := by
  refine ⟨fun x hx => h.subs x (List.mem_of_mem_drop hx), ?_⟩
  have hap := h.apart
  rw [← List.take_append_drop i r, List.flatMap_append] at hap
  exact (List.pairwise_append.1 hap).2.1
theorem StsAt.ofOwn (h : OwnSts K base W v l) : StsAt K base W v l := by
  obtain ⟨r, h1, h2, h3⟩ := h
  exact ⟨r, h1, .ofOwn h2, h3⟩
theorem StsAt.holds (h : StsAt K base W v l) : Sts K W.heap.size W v l := by
  obtain ⟨r, h1, h2, h3⟩ := h
  exact ⟨r, h1, h2.holds, fun x hx => (h3.subs x hx).held⟩
theorem StsAt.same (h : StsAt K base W v l) (hq : ∀ g, base ≤ g → g < W.heap.size → W'.heap[g]? = W.heap[g]?) : StsAt K base W' v l := by
  obtain ⟨r, h1, h2, h3⟩ := h
  exact ⟨r, h1, h2.same hq, h3.since hq⟩
theorem StsAt.next (h : StsAt K base W v l) (hb : Below W.heap.size W W') : StsAt K base W' v l := h.same fun g _ hg => hb.block g hg
theorem StsAt.lower (h : StsAt K base W v l) (hn : base' ≤ base) : StsAt K base' W v l := by
  obtain ⟨r, h1, h2, h3⟩ := h
  exact ⟨r, h1, h2.lower hn, h3.lower hn⟩
theorem StsAt.shape (h : StsAt K base W v l) : ∃ a c, v = .slice a l.length c := by obtain ⟨r, h1, h2, h3⟩ := h; exact h2.shape
theorem stsAt_nil (K : Kind α) (base : Nat) (W : World) : StsAt K base W (.slice none 0 0) [] := .ofOwn (ownSts_nil K base W)
end
theorem cellsK_drop {α : Type} (K : Kind α) : ∀ (i : Nat) (r : Lies α), (cellsK K r).drop (i * K.k) = cellsK K (r.drop i)
  | 0, r => by simp
  | i + 1, [] => by simp [cellsK]
  | i + 1, x :: r => by
    have e : cellsK K (x :: r) = K.lie x.1 x.2 ++ cellsK K r := by simp [cellsK]
    have ih := cellsK_drop K i r
    rw [e, Nat.add_mul, Nat.one_mul, Nat.add_comm, ← List.drop_drop, List.drop_left' (K.len _ _)]
    simpa using ih
/-- What is left of a list of structs of the call's own. -/
theorem OwnSts.drop {α : Type} {K : Kind α} {base n c i : Nat} {W : World} {a : Option Addr} {l : List α} (h : OwnSts K base W (.slice a n c) l) (hl : l.length = n) (hi : i ≤ n) {a' : Option Addr} {c' : Nat} (ha : ∀ g o, a = some ⟨g, o, none⟩ → i < n → a' = some ⟨g, o + i * K.k, none⟩ ∧ c' = c - i) (h0 : i = n → a' = none → c' = 0) : StsAt K base W (.slice a' (n - i) c') (l.drop i) := by
  obtain ⟨r, h1, h2, h3⟩ := h
  subst hl
  refine ⟨r.drop i, by rw [List.map_drop, h1], ?_, h3.tail i⟩
  rw [← cellsK_drop, List.length_drop]
  exact (RowAt.ofOwn h2).drop hi ha h0

/-- An end that sends: its lists lie in blocks made since base. -/
def SnL (base : Nat) (W : World) (s : Sn) (ea : Option Addr) (E ec : Nat) (wa : Option Addr) (M wc : Nat) : Prop := RowAt base W 3 1 (.slice ea E ec) E (s.sE.map (Value.int .i64)) ∧ StsAt emK base W (.slice wa M wc) s.sW
section
variable {base base' : Nat} {W W' : World} {s : Sn} {ea : Option Addr} {E ec : Nat} {wa : Option Addr} {M wc : Nat}
theorem SnL.ofOwn (h : SnOwn base W s ea E ec wa M wc) : SnL base W s ea E ec wa M wc := ⟨.ofOwn h.1, .ofOwn h.2⟩
theorem SnL.at (h : SnL base W s ea E ec wa M wc) : SnAt W s ea E ec wa M wc := ⟨h.1.holds.ints (by have := h.1.1; simpa using this), h.2.holds⟩
theorem SnL.same (h : SnL base W s ea E ec wa M wc) (hq : ∀ g, base ≤ g → g < W.heap.size → W'.heap[g]? = W.heap[g]?) : SnL base W' s ea E ec wa M wc := ⟨h.1.same hq, h.2.same hq⟩
theorem SnL.next (h : SnL base W s ea E ec wa M wc) (b : Below W.heap.size W W') : SnL base W' s ea E ec wa M wc := h.same fun g _ hg => b.block g hg
theorem SnL.lower (h : SnL base W s ea E ec wa M wc) (hn : base' ≤ base) : SnL base' W s ea E ec wa M wc := ⟨h.1.lower hn, h.2.lower hn⟩
theorem SnL.nil (base : Nat) (W : World) (h1 : s.sE = []) (h2 : s.sW = []) : SnL base W s none 0 0 none 0 0 := by
  unfold SnL
  rw [h1, h2]
  exact ⟨.ofOwn (World.ownsRow_nil _ _ _ _), stsAt_nil _ _ _⟩
/-- A variable that was made ahead is stored into. -/
theorem SnL.old (h : SnL base W s ea E ec wa M wc) {D : Nat} (hD : D < base) (hq : ∀ g, g ≠ D → W'.heap[g]? = W.heap[g]?) : SnL base W' s ea E ec wa M wc := h.same fun g hb _ => hq g (by omega)
end

end Go.Proofs.YtmjidhnlofpliaaDoor

/-
  A variable in a block of its own, loaded and stored whole, in one step, whatever the number of its cells: for the list of a plain region's operations, for a region that draws its order, for a result that lies in such a variable. No function of the program is spoken of.
-/
namespace Go.Proofs.YtmjidhnlofpliaaDoor
open Go.RowKit

theorem Box.range {W : World} {B : Nat} {t : TypeId} {cs : Array Value} (h : Box W B t cs) : W.rangeAt B 0 cs.toList := fun j v hv => by
  rw [Nat.zero_add]
  exact h.cell j v (by rw [← Array.getElem?_toList]; exact hv)
theorem Box.loadVar {W : World} {B : Nat} {t : TypeId} {cs : Array Value} (h : Box W B t cs) {P : Program} {ty : TypeId} {d : TypeDesc} (hu : P.underlying ty = some d) (hd : d.isRow = true) (hi : (P.info? ty).map (·.size) = some cs.size) : (loadVar ty ⟨B, 0, none⟩).run P W = .ok (.agg cs) W :=
  run_loadVar_mid W B 0 ty cs.toList d h.range hu hd (by rw [hi]; simp)
/-- A whole variable is stored: what becomes of it, of another one, of what lies below, of rows. -/
theorem Box.setRow {W : World} {B : Nat} {t : TypeId} {cs : Array Value} (h : Box W B t cs) (ds : Array Value) : Box (W.setRow B ds) B t ds := setRow_heap W B cs ds t (0, 0) h
theorem Box.otherRow {W : World} {B : Nat} {t : TypeId} {cs : Array Value} (h : Box W B t cs) {D : Nat} (hp : B ≠ D) (ds : Array Value) : Box (W.setRow D ds) B t cs := (setRow_other W D B ds hp).trans h
theorem below_setRow {W V : World} {n : Nat} (h : Below n W V) {D : Nat} (hD : n ≤ D) (ds : Array Value) : Below n W (V.setRow D ds) :=
  h.trans ⟨rfl, rfl, rfl, by simp, fun k hk => setRow_other V D k ds (by omega)⟩
theorem wpList_load_box {P : Program} {ops : Array Oper} {rest : List Oper} {op : Oper} {a : Act} {w : World} {Q : Exit → Act → World → Prop} {B : Nat} {t : TypeId} {cs : Array Value} (hb : Box w B t cs) (hgd : op.guard = none) (ty : TypeId) (x : Operand) (ho : op.op = .load ty x) (hx : a.eval x = .pointer (some ⟨B, 0, none⟩)) (d : TypeDesc)
    (hu : P.underlying ty = some d) (hd : d.isRow = true) (hi : (P.info? ty).map (·.size) = some cs.size) (h : wpList P ops Q rest (a.put op.dst (.agg cs)) w) : wpList P ops Q (op :: rest) a w :=
  wpList_load_mid hgd ty x ho B 0 hx cs.toList d hb.range hu hd (by rw [hi]; simp) h
theorem wpList_store_box {P : Program} {ops : Array Oper} {rest : List Oper} {op : Oper} {a : Act} {w : World} {Q : Exit → Act → World → Prop} {B : Nat} {t : TypeId} {old cs : Array Value} (hb : Box w B t old) (hgd : op.guard = none) (ty : TypeId) (x y : Operand) (ho : op.op = .store ty x y) (hx : a.eval x = .pointer (some ⟨B, 0, none⟩)) (hy : a.eval y = .agg cs)
    (hs : old.size = cs.size) (hi : (P.info? ty).map (·.size) = some cs.size) (h1 : cs.all (·.oneCell') = true) (h : wpList P ops Q rest (a.put op.dst undef) (w.setRow B cs)) : wpList P ops Q (op :: rest) a w :=
  wpList_plain hgd fun K hK => by
    unfold Oper.wp execOp
    simp only [ho, hx, hy, Instr.storeAt, Instr.sureAddr, Sem.run_bind, Sem.run_pure, Result.andThen_ok, run_storeVar_row w B t ty old cs hb hi hs h1]
    exact hK _ _ h
/-- In a region that draws its order: a whole variable is read. -/
theorem yields_box {P : Program} {S : World → Prop} {op : Oper} {a : Act} {B : Nat} {t : TypeId} {cs : Array Value} (ty : TypeId) (x : Operand) (ho : op.op = .load ty x) (hx : a.eval x = .pointer (some ⟨B, 0, none⟩)) (d : TypeDesc) (hS : ∀ w, S w → Box w B t cs)
    (hu : P.underlying ty = some d) (hd : d.isRow = true) (hi : (P.info? ty).map (·.size) = some cs.size) : ∀ w, S w → (execOp a.eval op).run P w = .ok (.value (.agg cs)) w := fun w hw => by
  unfold execOp
  simp only [ho, hx, Instr.loadAt, Instr.sureAddr, Sem.run_bind, Sem.run_pure, Result.andThen_ok, (hS w hw).loadVar hu hd hi]
/-- One result, a variable of more cells. -/
theorem results_boxR {P : Program} {fn : Func} {p : Tmp} {t : TypeId} (h : fn.results = #[.cell p t]) (tmps : Array Value) (w : World) {B : Nat} {t' : TypeId} {cs : Array Value} (hp : tmps[p]?.getD undef = .pointer (some ⟨B, 0, none⟩)) (hb : Box w B t' cs) {d : TypeDesc} (hu : P.underlying t = some d) (hd : d.isRow = true) (hi : (P.info? t).map (·.size) = some cs.size) :
    (results fn tmps).run P w = .ok (.agg cs) w := by
  have hl := hb.loadVar hu hd hi
  simp [results, h, hp, asAddr, hl]
/-- Two results, the first a variable of more cells. -/
theorem results_boxR2 {P : Program} {fn : Func} {p u : Tmp} {t : TypeId} (h : fn.results = #[.cell p t, .tmp u]) (tmps : Array Value) (w : World) {B : Nat} {t' : TypeId} {cs : Array Value} (hp : tmps[p]?.getD undef = .pointer (some ⟨B, 0, none⟩)) (hb : Box w B t' cs) {d : TypeDesc} (hu : P.underlying t = some d) (hd : d.isRow = true) (hi : (P.info? t).map (·.size) = some cs.size) :
    (results fn tmps).run P w = .ok (.tuple #[.agg cs, tmps.getD u undef]) w := by
  have hl := hb.loadVar hu hd hi
  simp [results, h, hp, asAddr, hl]

end Go.Proofs.YtmjidhnlofpliaaDoor

/-
  More of lists of structs: append of a whole list, one cell of an element written over, an element exchanged for one that was made later. No function of the program is spoken of.
-/
namespace Go.Proofs.YtmjidhnlofpliaaDoor
open Go.RowKit

/-- A whole variable is read, where the operation hangs on a guard. -/
theorem wpList_load_boxg {P : Program} {ops : Array Oper} {rest : List Oper} {op : Oper} {a : Act} {w : World} {Q : Exit → Act → World → Prop} {B : Nat} {t : TypeId} {cs : Array Value} (hb : Box w B t cs) (hw : Region.wanted op (yielded ops a.tmps) = true) (ty : TypeId) (x : Operand) (ho : op.op = .load ty x) (hx : a.eval x = .pointer (some ⟨B, 0, none⟩)) (d : TypeDesc)
    (hu : P.underlying ty = some d) (hd : d.isRow = true) (hi : (P.info? ty).map (·.size) = some cs.size) (h : wpList P ops Q rest (a.put op.dst (.agg cs)) w) : wpList P ops Q (op :: rest) a w := by
  refine wpList_step fun K hK => ?_
  rw [if_pos hw]
  have := yields_box (P := P) (S := fun v => v = w) (op := op) (a := a) ty x ho hx d (fun v hv => hv ▸ hb) hu hd hi w rfl
  unfold Oper.wp
  rw [this]
  exact hK _ _ h

/-- append of many structs, its run. -/
theorem run_append_sts {α : Type} (K : Kind α) {P : Program} (st ty : TypeId) (z : Value) (bs : Nat) (hu : P.underlying st = some (.slice K.ty)) (hI : (P.info? K.ty).map (fun i => (i.zero, i.size, i.bytes)) = some (some z, K.k, bs)) (hz : z.cells.size = K.k) (hk : 0 < K.k) (hbs : bs ≤ 1024)
    (v src : Value) (n m base n₀ : Nat) (r s : Lies α) (hm : s.length = m) (hs : ∀ x ∈ s, ∀ p ∈ x.2, ∃ a n c, p = Value.slice a n c) (w : World) (hown : w.ownsRow base K.ty K.k v n (cellsK K r)) (hH : HoldsC n₀ w src m (cellsK K s)) (hb : base ≤ w.heap.size) (h1 : n ≤ 1048576) (h2 : m ≤ 1048576) :
    ∃ v' w', (Builtin.append_ #[st, st] ty #[v, src]).run P w = .ok v' w' ∧ w'.ownsRow base K.ty K.k v' (n + m) (cellsK K (r ++ s)) ∧ w.grownBy w' v.ownBlock := by
  obtain ⟨i0, hi, hz0, hz1, hz2⟩ := info_parts hI
  have hb2 : (n + m) * bs ≤ (1048576 + 1048576) * 1024 := Nat.mul_le_mul (by omega) hbs
  rw [cellsK_append]
  rcases hH with ⟨⟨a, cap, rfl, ha⟩, rfl, hnil⟩ | ⟨b, off, cap, rfl, _, hcs⟩
  · rw [hnil, List.append_nil, Nat.add_zero]
    cases a with
    | none =>
      obtain rfl := ha rfl
      exact ⟨v, w, run_append_owned_none w base st ty K.ty i0 K.k hu hi v n _ hown, hown, World.grownBy.refl _ _⟩
    | some ad =>
      obtain ⟨v', w', hr, ho, hg, _⟩ := run_append_own (P := P) w base st ty K.ty i0 z K.k bs hu hi hz0 hz1 hz2 hz hk v n _ hown ad 0 cap [] (by simp) (by simp) (by simp) (by unfold maxLen; omega) (by omega) hb
      exact ⟨v', w', hr, by simpa using ho, hg⟩
  · obtain ⟨v', w', hr, ho, hg, _⟩ := run_append_own (P := P) w base st ty K.ty i0 z K.k bs hu hi hz0 hz1 hz2 hz hk v n _ hown ⟨b, off, none⟩ m cap (cellsK K s) (by rw [cellsK_len, hm]) (fun j u hj => by
      have := hcs j u hj
      rwa [show (⟨b, off, none⟩ : Addr).add j = ⟨b, off + j, none⟩ by unfold Addr.add; split <;> simp_all]) (cellsK_one K hs) (by unfold maxLen; omega) (by omega) hb
    exact ⟨v', w', hr, ho, hg⟩

/-- One cell of an element is written over. -/
theorem cellsK_set1 {α : Type} (K : Kind α) : ∀ {r : Lies α} {k i : Nat} {x y : α × List Value} {u : Value}, r[k]? = some x → i < K.k → (K.lie x.1 x.2).set i u = K.lie y.1 y.2 → (cellsK K r).set (k * K.k + i) u = cellsK K (r.set k y)
  | [], k, i, x, y, u, h, _, _ => by simp at h
  | z :: r, 0, i, x, y, u, h, hi, he => by
    simp at h
    subst h
    have e : cellsK K (z :: r) = K.lie z.1 z.2 ++ cellsK K r := by simp [cellsK]
    rw [e, Nat.zero_mul, Nat.zero_add, List.set_append_left _ _ (by rw [K.len]; exact hi), he]
    simp [cellsK]
  | z :: r, k + 1, i, x, y, u, h, hi, he => by
    have ih := cellsK_set1 K (r := r) (k := k) (by simpa using h) hi he
    have e : cellsK K (z :: r) = K.lie z.1 z.2 ++ cellsK K r := by simp [cellsK]
    have e2 : cellsK K ((z :: r).set (k + 1) y) = K.lie z.1 z.2 ++ cellsK K (r.set k y) := by simp [cellsK]
    have e3 : (k + 1) * K.k + i = K.k + (k * K.k + i) := by rw [Nat.add_mul, Nat.one_mul]; omega
    rw [e, e2, ← ih, e3, List.set_append_right _ _ (by rw [K.len]; omega), K.len, Nat.add_sub_cancel_left]

theorem map_set_fst {α : Type} {r : Lies α} {k : Nat} {x y : α × List Value} (h : r[k]? = some x) (he : y.1 = x.1) : (r.set k y).map Prod.fst = r.map Prod.fst := by
  apply List.ext_getElem?
  intro j
  rw [List.getElem?_map, List.getElem?_map]
  by_cases hj : k = j
  · subst hj
    rw [List.getElem?_set_self (List.getElem?_eq_some_iff.1 h).1, h]
    simp [he]
  · rw [List.getElem?_set_ne hj]
/-- An element of the call's own is exchanged for one whose rows were made later. -/
theorem OwnL.swap {α : Type} {K : Kind α} {base m k : Nat} {W : World} {r : Lies α} {x : α × List Value} (h : OwnL K base W r) (hx : SubsO m W x.2 (K.subs x.1)) (hxp : x.2.Pairwise Apart) (hm : base ≤ m) (hlt : ∀ u ∈ r, ∀ p ∈ u.2, ∀ g, p.ownBlock = some g → g < m) : OwnL K base W (r.set k x) := by
  refine ⟨fun u hu => ?_, ?_⟩
  · rcases List.mem_or_eq_of_mem_set hu with hu | rfl
    · exact h.subs u hu
    · exact hx.base hm
  · by_cases hk : k < r.length
    · have h1 : ∀ p q : Value, (∀ g, p.ownBlock = some g → g < m) → q ∈ x.2 → Apart p q := fun p q hp hq => by
        cases ho : p.ownBlock with
        | none => exact .inl ho
        | some g =>
          refine .inr fun hc => ?_
          have := hp g ho
          have := (hx.lt q hq g (by rw [← hc, ho])).1
          omega
      have h2 : ∀ p q : Value, (∀ g, p.ownBlock = some g → g < m) → q ∈ x.2 → Apart q p := fun p q hp hq => by
        rcases h1 p q hp hq with e | e
        · cases ho : q.ownBlock with
          | none => exact .inl ho
          | some g => exact .inr (by rw [ho, e]; simp)
        · cases ho : q.ownBlock with
          | none => exact .inl ho
          | some g => exact .inr (fun hc => e (by rw [← hc, ho]))
      have hap := h.apart
      have er : r = r.take k ++ r[k] :: r.drop (k + 1) := by rw [← List.drop_eq_getElem_cons hk, List.take_append_drop]
      rw [er, List.flatMap_append, List.flatMap_cons] at hap
      obtain ⟨p1, p2, p3⟩ := List.pairwise_append.1 hap
      obtain ⟨p4, p5, p6⟩ := List.pairwise_append.1 p2
      rw [List.set_eq_take_append_cons_drop, if_pos hk, List.flatMap_append, List.flatMap_cons]
      refine List.pairwise_append.2 ⟨p1, List.pairwise_append.2 ⟨hxp, p5, fun q hq p hp => ?_⟩, fun p hp q hq => ?_⟩
      · obtain ⟨u, hu, hp⟩ := List.mem_flatMap.1 hp
        exact h2 p q (hlt u (List.mem_of_mem_drop hu) p hp) hq
      · rcases List.mem_append.1 hq with hq | hq
        · obtain ⟨u, hu, hp⟩ := List.mem_flatMap.1 hp
          exact h1 p q (hlt u (List.mem_of_mem_take hu) p hp) hq
        · exact p3 p hp q (List.mem_append_right _ hq)
    · rw [List.set_eq_of_length_le (by omega)]
      exact h.apart
/-- Two lists of the call's own, one behind the other, the second made later. -/
theorem OwnL.append {α : Type} {K : Kind α} {base m : Nat} {W : World} {r s : Lies α} (h : OwnL K base W r) (hs : OwnL K m W s) (hm : base ≤ m) (hlt : ∀ u ∈ r, ∀ p ∈ u.2, ∀ g, p.ownBlock = some g → g < m) : OwnL K base W (r ++ s) := by
  refine ⟨fun u hu => ?_, ?_⟩
  · rcases List.mem_append.1 hu with hu | hu
    · exact h.subs u hu
    · exact (hs.subs u hu).base hm
  · rw [List.flatMap_append]
    refine List.pairwise_append.2 ⟨h.apart, hs.apart, fun p hp q hq => ?_⟩
    obtain ⟨u, hu, hp⟩ := List.mem_flatMap.1 hp
    obtain ⟨u', hu', hq⟩ := List.mem_flatMap.1 hq
    cases ho : p.ownBlock with
    | none => exact .inl ho
    | some g =>
      refine .inr fun hc => ?_
      have h1 := hlt u hu p hp g ho
      have h2 := (hs.lt u' hu' q hq g (by rw [← hc, ho])).1
      omega

end Go.Proofs.YtmjidhnlofpliaaDoor

/-
  What send.Check answers; clones; a sender of the call's own (apart). (Written by tpl_sendcode.py.)
-/
namespace Go.Proofs.YtmjidhnlofpliaaDoor
open Go.RowKit

theorem numsB_iff (c : Cfg) (K R B N T F : Int) (E : Nat) : numsB c K R B N T F E = true ↔ (inN K ∧ inN R ∧ inN B) ∧ 0 ≤ F ∧ F ≤ T ∧ T ≤ c.cSeqs ∧ (E : Int) ≤ N ∧ N ≤ T := by
  unfold numsB
  simp only [Bool.and_eq_true, decide_eq_true_eq, isCn_iff, and_assoc]
theorem okS_parts {s : Sn} {c : Cfg} {X : Bool} {K R B N T F : Int} {E M : Nat} (hs : SnIs s c X K R B N T F E M) : okS s ↔ okC c = true ∧ numsB c K R B N T F E = true ∧ (upTo F s.sE T ∧ (E : Int) ≤ c.cQs) ∧ ((M : Int) = T - F ∧ ∀ (i : Nat) (e : Em), s.sW[i]? = some e → e.eS = F + (i : Int) ∧ okM c e) := by
  rw [okS_iff, numsB_iff]
  unfold numsS endsS waitsS
  rw [hs.eC, hs.eK, hs.eR, hs.eB, hs.eN, hs.eT, hs.eF, hs.lE, hs.lW]
set_option maxRecDepth 100000 in
set_option maxHeartbeats 4000000 in
theorem sendCheck_any {s : Sn} {c : Cfg} {X : Bool} {K R B N T F : Int} {E M : Nat} (hs : SnIs s c X K R B N T F E M) (hE : E ≤ 1000000) (hM : M ≤ 1000000) (hm : ∀ e ∈ s.sW, e.eB.length ≤ 4096) (ea : Option Addr) (ec : Nat) (wa : Option Addr) (wc : Nat) (w : World) (ha : SnAt w s ea E ec wa M wc) :
    Calls Tryd.prog 17 #[.agg #[.int .i64 c.cB, .int .i64 c.cBeam, .int .i64 c.cDepth, .int .i64 c.cWin, .int .i64 c.cQs, .int .i64 c.cQr, .int .i64 c.cBatch, .int .i64 c.cPass, .int .i64 c.cMsg, .int .i64 c.cSeqs, .bool X, .int .i64 K, .int .i64 R, .int .i64 B, .int .i64 N, .int .i64 T, .int .i64 F, .slice ea E ec, .slice wa M wc]] w fun e w' => AnsZ e (okS s) ∧ Below w.heap.size w w' := by
  have bb : Below w.heap.size w (w.alloc (.cells #[.int .i64 c.cB, .int .i64 c.cBeam, .int .i64 c.cDepth, .int .i64 c.cWin, .int .i64 c.cQs, .int .i64 c.cQr, .int .i64 c.cBatch, .int .i64 c.cPass, .int .i64 c.cMsg, .int .i64 c.cSeqs, .bool X, .int .i64 K, .int .i64 R, .int .i64 B, .int .i64 N, .int .i64 T, .int .i64 F, .slice ea E ec, .slice wa M wc] 30)) := (Below.refl _ _).alloc (Nat.le_refl _) _
  have x1 := Box.new w 30 #[.int .i64 c.cB, .int .i64 c.cBeam, .int .i64 c.cDepth, .int .i64 c.cWin, .int .i64 c.cQs, .int .i64 c.cQr, .int .i64 c.cBatch, .int .i64 c.cPass, .int .i64 c.cMsg, .int .i64 c.cSeqs, .bool X, .int .i64 K, .int .i64 R, .int .i64 B, .int .i64 N, .int .i64 T, .int .i64 F, .slice ea E ec, .slice wa M wc]
  replace ha := ha.next bb
  have HO : Hid (okS s ↔ okC c = true ∧ numsB c K R B N T F E = true ∧ (upTo F s.sE T ∧ (E : Int) ≤ c.cQs) ∧ ((M : Int) = T - F ∧ ∀ (i : Nat) (e : Em), s.sW[i]? = some e → e.eS = F + (i : Int) ∧ okM c e)) := okS_parts hs
  have HL : Hid (s.sE.length = E ∧ s.sW.length = M) := ⟨hs.lE, hs.lW⟩
  have HM : Hid (∀ e ∈ s.sW, e.eB.length ≤ 4096) := hm
  clear hs hm
  have H1 := fun wx => ConfCheck_any c wx
  unfold checkA at H1
  have c0 := x1.cell 0 _ rfl
  have c1 := x1.cell 1 _ rfl
  have c2 := x1.cell 2 _ rfl
  have c3 := x1.cell 3 _ rfl
  have c4 := x1.cell 4 _ rfl
  have c5 := x1.cell 5 _ rfl
  have c6 := x1.cell 6 _ rfl
  have c7 := x1.cell 7 _ rfl
  have c8 := x1.cell 8 _ rfl
  have c9 := x1.cell 9 _ rfl
  have l1 := x1.lt
  go_enter Tryd.func17, Tryd.ntmps17
  go_wp2_with fail
  refine (H1 _).mono ?_
  rintro e w1 ⟨rfl, b1⟩
  replace x1 := x1.next b1
  replace ha := ha.next b1
  replace bb := bb.trans (b1.mono bb.size)
  clear b1 H1 l1 c0 c1 c2 c3 c4 c5 c6 c7 c8 c9
  by_cases hC : okC c = true
  · rw [if_pos hC]
    have HC : Hid (okC c = true) := hC
    clear hC
    go_wp2_with (first | (refine wpList_load_box x1 rfl 30 _ rfl rfl _ Tryd.underlying30 rfl (by kernel_rfl) ?_))
    refine (sendNums_any c X K R B N T F ea E ec wa M wc _).mono ?_
    rintro e w2 ⟨rfl, b1⟩
    obtain ⟨nb, hnb⟩ : ∃ b, numsB c K R B N T F E = b := ⟨_, rfl⟩
    rw [hnb]
    have HN : Hid (numsB c K R B N T F E = nb) := hnb
    clear hnb
    replace x1 := x1.next b1
    replace ha := ha.next b1
    replace bb := bb.trans (b1.mono bb.size)
    clear b1
    cases nb with
    | false =>
      go_wp2
      go_ret
      exact ⟨⟨1, rfl, .inr ⟨rfl, fun h => by have := (HO.out.1 h).2.1; rw [HN.out] at this; cases this⟩⟩, bb⟩
    | true =>
      go_wp2_with (first | (refine wpList_load_boxg x1 rfl 30 _ rfl rfl _ Tryd.underlying30 rfl (by kernel_rfl) ?_))
      refine (sendEnds_any c X K R B N T F ea E ec wa M wc s.sE HL.out.1 hE _ ha.1).mono ?_
      rintro e w3 ⟨⟨b, rfl, hb⟩, b1⟩
      have HB : Hid (b = true ↔ upTo F s.sE T ∧ (E : Int) ≤ c.cQs) := hb
      clear hb
      replace x1 := x1.next b1
      replace ha := ha.next b1
      replace bb := bb.trans (b1.mono bb.size)
      clear b1
      cases b with
      | false =>
        go_wp2
        go_ret
        exact ⟨⟨1, rfl, .inr ⟨rfl, fun h => by have := HB.out.2 (HO.out.1 h).2.2.1; cases this⟩⟩, bb⟩
      | true =>
        have hn := (numsB_iff c K R B N T F E).1 HN.out
        have hcs := (okC_iff c).1 HC.out
        have hT : T ≤ 1073741824 := by omega
        have H9 := fun wx => sendWaits_any c HC.out X K R B N T F hn.2.1 hn.2.2.1 hT ea E ec wa M wc s.sW HL.out.2 hM HM.out wx
        clear hn hcs hT
        go_wp2_with (first | (refine wpList_load_boxg x1 rfl 30 _ rfl rfl _ Tryd.underlying30 rfl (by kernel_rfl) ?_))
        refine (H9 _ ha.2).mono ?_
        rintro e w4 ⟨⟨b, rfl, hb⟩, b1⟩
        have HB2 : Hid (b = true ↔ (M : Int) = T - F ∧ ∀ (i : Nat) (e : Em), s.sW[i]? = some e → e.eS = F + (i : Int) ∧ okM c e) := hb
        clear hb H9
        replace bb := bb.trans (b1.mono bb.size)
        clear b1
        cases b with
        | false =>
          go_wp2
          go_ret
          exact ⟨⟨1, rfl, .inr ⟨rfl, fun h => by have := HB2.out.2 (HO.out.1 h).2.2.2; cases this⟩⟩, bb⟩
        | true =>
          go_wp2
          go_ret
          exact ⟨⟨0, rfl, .inl ⟨rfl, HO.out.2 ⟨HC.out, HN.out, HB.out.1 (by trivial), HB2.out.1 (by trivial)⟩⟩⟩, bb⟩
  · rw [if_neg hC]
    have HC : Hid (okC c = true → False) := hC
    clear hC
    go_wp2
    go_ret
    exact ⟨⟨1, rfl, .inr ⟨rfl, fun h => (HC.out (HO.out.1 h).1).elim⟩⟩, bb⟩

set_option maxRecDepth 100000 in
set_option maxHeartbeats 2000000 in
theorem cloneIntsS_ok (a : Option Addr) (n cap : Nat) (zs : List Int) (hn : zs.length = n) (hl : n ≤ 1000000) (w : World) (ha : Holds .i64 w.heap.size w (.slice a n cap) zs) :
    Calls Tryd.prog 37 #[.slice a n cap] w fun e W' => ∃ va vc, e = .returned (.slice va n vc) ∧ W'.ownsRow w.heap.size 3 1 (.slice va n vc) n (zs.map (Value.int .i64)) ∧ Below w.heap.size w W' := by
  subst hn
  have qS : ∀ (w : World) (a : Option Addr) (n c n' c' : Nat), (binOp .eql 27 (.slice a n c) (.slice none n' c')).run Tryd.prog w = .ok (.bool a.isNone) w := fun w a n c n' c' => Lib.run_eql_slice_nil w _ _ a n c n' c' Tryd.underlying27
  cases a with
  | none =>
    have h0 : zs = [] := by
      rcases ha with ⟨_, h⟩ | ⟨b, off, c, e, _⟩
      · exact h
      · simp only [Value.slice.injEq] at e; exact absurd e.1 (by simp)
    subst h0
    clear ha
    go_enter Tryd.func37, Tryd.ntmps37
    go_wp2
    go_ret
    exact ⟨none, 0, rfl, World.ownsRow_nil _ _ _ _, Below.refl _ _⟩
  | some ad =>
    have o0 : (w.alloc (.cells #[] 3)).ownsRow w.heap.size 3 1 (.slice (some ⟨w.heap.size, 0, none⟩) 0 0) 0 (([] : List Int).map (Value.int .i64)) := World.ownsRow_made w #[] 0 (Nat.le_refl _) (Nat.zero_le _) rfl
    have b0 := (Below.refl w.heap.size w).alloc (Nat.le_refl _) (.cells #[] 3)
    obtain ⟨v3, w3, hr3, ho3, hg3⟩ := run_append_i64 (.slice (some ⟨w.heap.size, 0, none⟩) 0 0) (.slice (some ad) zs.length cap) 0 w.heap.size _ [] zs 27 (w.alloc (.cells #[] 3)) o0 (ha.below b0) (by simp) (by omega) (by omega)
    have b3 := b0.trans ((Below.refl w.heap.size _).grown hg3 (by simp) (fun q e => (o0.lt q e).1))
    rw [List.nil_append, Nat.zero_add] at ho3
    obtain ⟨va, vc, rfl⟩ := row_shapeS ho3
    have HR3 : Hid _ := hr3
    clear hr3 ha o0 hg3
    go_enter Tryd.func37, Tryd.ntmps37
    go_wp2_with (at_builtin; refine wpList_append_k rfl _ _ 27 rfl _ _ rfl rfl _ _ HR3.out ?_)
    go_ret
    exact ⟨_, _, rfl, ho3, b3⟩

set_option maxRecDepth 100000 in
set_option maxHeartbeats 2000000 in
theorem cloneEms_ok (a : Option Addr) (n cap : Nat) (r : Lies Em) (hn : r.length = n) (hs : ∀ x ∈ r, ∀ p ∈ x.2, ∃ a n c, p = Value.slice a n c) (hl : n ≤ 1000000) (w : World) (ha : HoldsC w.heap.size w (.slice a n cap) n (cellsK emK r)) :
    Calls Tryd.prog 38 #[.slice a n cap] w fun e W' => ∃ va vc, e = .returned (.slice va n vc) ∧ W'.ownsRow w.heap.size 47 5 (.slice va n vc) n (cellsK emK r) ∧ Below w.heap.size w W' := by
  have qS : ∀ (w : World) (a : Option Addr) (n c n' c' : Nat), (binOp .eql 28 (.slice a n c) (.slice none n' c')).run Tryd.prog w = .ok (.bool a.isNone) w := fun w a n c n' c' => Lib.run_eql_slice_nil w _ _ a n c n' c' Tryd.underlying28
  cases a with
  | none =>
    have h0 : n = 0 ∧ r = [] := by
      rcases ha with ⟨_, h, _⟩ | ⟨b, off, c, e, _⟩
      · exact ⟨h, List.length_eq_zero_iff.1 (hn.trans h)⟩
      · simp only [Value.slice.injEq] at e; exact absurd e.1 (by simp)
    obtain ⟨rfl, rfl⟩ := h0
    clear ha
    go_enter Tryd.func38, Tryd.ntmps38
    go_wp2
    go_ret
    exact ⟨none, 0, rfl, World.ownsRow_nil _ _ _ _, Below.refl _ _⟩
  | some ad =>
    have o0 : (w.alloc (.cells #[] 47)).ownsRow w.heap.size 47 5 (.slice (some ⟨w.heap.size, 0, none⟩) 0 0) 0 (cellsK emK []) := World.ownsRow_made w #[] 0 (Nat.le_refl _) (Nat.zero_le _) rfl
    have b0 := (Below.refl w.heap.size w).alloc (Nat.le_refl _) (.cells #[] 47)
    obtain ⟨v3, w3, hr3, ho3, hg3⟩ := run_append_sts emK 28 28 _ 56 Tryd.underlying28 infoEm rfl (by decide) (by decide) (.slice (some ⟨w.heap.size, 0, none⟩) 0 0) (.slice (some ad) n cap) 0 n w.heap.size _ [] r hn hs (w.alloc (.cells #[] 47)) o0 (ha.below b0) (by simp) (by omega) (by omega)
    have b3 := b0.trans ((Below.refl w.heap.size _).grown hg3 (by simp) (fun q e => (o0.lt q e).1))
    rw [List.nil_append, Nat.zero_add] at ho3
    obtain ⟨va, vc, rfl⟩ := row_shapeS ho3
    have HR3 : Hid _ := hr3
    clear hr3 ha o0 hg3 hn
    go_enter Tryd.func38, Tryd.ntmps38
    go_wp2_with (at_builtin; refine wpList_append_k rfl _ _ 28 rfl _ _ rfl rfl _ _ HR3.out ?_)
    go_ret
    exact ⟨_, _, rfl, ho3, b3⟩

end Go.Proofs.YtmjidhnlofpliaaDoor

/-
  What send.apart answers: the same sender, its lists the call's own. (Written by tpl_sendcode.py.)
-/
namespace Go.Proofs.YtmjidhnlofpliaaDoor
open Go.RowKit

/-- Behind k of the blocks that wait: these have bytes of the call's own. -/
structure ApR (w W : World) (s : Sn) (k n2 : Nat) (cs : Array Value) (fa : Option Addr) (E fc : Nat) (va : Option Addr) (M vc : Nat) (r : Lies Em) : Prop where
  row : W.ownsRow (n2 + 1) 47 5 (.slice va M vc) M (cellsK emK r)
  own : OwnL emK (n2 + 1) W (r.take k)
  len : r.length = M
  same : r.map Prod.fst = s.sW
  rest : ∀ (j : Nat) (x : Em × List Value), k ≤ j → r[j]? = some x → SubsH w.heap.size w x.2 (emK.subs x.1)
  box : Box W w.heap.size 30 cs
  box2 : Box W n2 30 #[.int .i64 0, .int .i64 0, .int .i64 0, .int .i64 0, .int .i64 0, .int .i64 0, .int .i64 0, .int .i64 0, .int .i64 0, .int .i64 0, .bool false, .int .i64 0, .int .i64 0, .int .i64 0, .int .i64 0, .int .i64 0, .int .i64 0, .slice none 0 0, .slice none 0 0]
  ends : W.ownsRow (n2 + 1) 3 1 (.slice fa E fc) E (s.sE.map (Value.int .i64))
  below : Below w.heap.size w W
set_option maxRecDepth 100000 in
set_option maxHeartbeats 8000000 in
theorem sendApart_any {s : Sn} {c : Cfg} {X : Bool} {K R B N T F : Int} {E M : Nat} (hs : SnIs s c X K R B N T F E M) (hE : E ≤ 1000000) (hM : M ≤ 1000000) (hm : ∀ e ∈ s.sW, e.eB.length ≤ 4096) (ea : Option Addr) (ec : Nat) (wa : Option Addr) (wc : Nat) (w : World) (ha : SnAt w s ea E ec wa M wc) :
    Calls Tryd.prog 18 #[.agg #[.int .i64 c.cB, .int .i64 c.cBeam, .int .i64 c.cDepth, .int .i64 c.cWin, .int .i64 c.cQs, .int .i64 c.cQr, .int .i64 c.cBatch, .int .i64 c.cPass, .int .i64 c.cMsg, .int .i64 c.cSeqs, .bool X, .int .i64 K, .int .i64 R, .int .i64 B, .int .i64 N, .int .i64 T, .int .i64 F, .slice ea E ec, .slice wa M wc]] w fun e W' => ∃ fa fc va vc, e = .returned (.agg #[.int .i64 c.cB, .int .i64 c.cBeam, .int .i64 c.cDepth, .int .i64 c.cWin, .int .i64 c.cQs, .int .i64 c.cQr, .int .i64 c.cBatch, .int .i64 c.cPass, .int .i64 c.cMsg, .int .i64 c.cSeqs, .bool X, .int .i64 K, .int .i64 R, .int .i64 B, .int .i64 N, .int .i64 T, .int .i64 F, .slice fa E fc, .slice va M vc]) ∧ SnOwn w.heap.size W' s fa E fc va M vc ∧ Below w.heap.size w W' := by
  obtain ⟨h1, r0, hr0, h2, h3⟩ := ha
  have hr9 : r0.length = M := by rw [← hs.lW, ← hr0, List.length_map]
  have HL : Hid (s.sE.length = E ∧ s.sW.length = M) := ⟨hs.lE, hs.lW⟩
  have HM : Hid (∀ e ∈ s.sW, e.eB.length ≤ 4096) := hm
  have HR0 : Hid (r0.map Prod.fst = s.sW) := hr0
  have H3 : Hid (∀ x ∈ r0, SubsH w.heap.size w x.2 (emK.subs x.1)) := h3
  rw [hs.lW] at h2
  have HW0 : Hid (HoldsC w.heap.size w (.slice wa M wc) M (cellsK emK r0)) := h2
  clear hs hm hr0 h3
  have bb : Below w.heap.size w ((w.alloc (.cells #[.int .i64 c.cB, .int .i64 c.cBeam, .int .i64 c.cDepth, .int .i64 c.cWin, .int .i64 c.cQs, .int .i64 c.cQr, .int .i64 c.cBatch, .int .i64 c.cPass, .int .i64 c.cMsg, .int .i64 c.cSeqs, .bool X, .int .i64 K, .int .i64 R, .int .i64 B, .int .i64 N, .int .i64 T, .int .i64 F, .slice ea E ec, .slice wa M wc] 30)).alloc (.cells #[.int .i64 0, .int .i64 0, .int .i64 0, .int .i64 0, .int .i64 0, .int .i64 0, .int .i64 0, .int .i64 0, .int .i64 0, .int .i64 0, .bool false, .int .i64 0, .int .i64 0, .int .i64 0, .int .i64 0, .int .i64 0, .int .i64 0, .slice none 0 0, .slice none 0 0] 30)) := ((Below.refl _ _).alloc (Nat.le_refl _) _).alloc (by simp) _
  have x1 : Box ((w.alloc (.cells #[.int .i64 c.cB, .int .i64 c.cBeam, .int .i64 c.cDepth, .int .i64 c.cWin, .int .i64 c.cQs, .int .i64 c.cQr, .int .i64 c.cBatch, .int .i64 c.cPass, .int .i64 c.cMsg, .int .i64 c.cSeqs, .bool X, .int .i64 K, .int .i64 R, .int .i64 B, .int .i64 N, .int .i64 T, .int .i64 F, .slice ea E ec, .slice wa M wc] 30)).alloc (.cells #[.int .i64 0, .int .i64 0, .int .i64 0, .int .i64 0, .int .i64 0, .int .i64 0, .int .i64 0, .int .i64 0, .int .i64 0, .int .i64 0, .bool false, .int .i64 0, .int .i64 0, .int .i64 0, .int .i64 0, .int .i64 0, .int .i64 0, .slice none 0 0, .slice none 0 0] 30)) w.heap.size 30 #[.int .i64 c.cB, .int .i64 c.cBeam, .int .i64 c.cDepth, .int .i64 c.cWin, .int .i64 c.cQs, .int .i64 c.cQr, .int .i64 c.cBatch, .int .i64 c.cPass, .int .i64 c.cMsg, .int .i64 c.cSeqs, .bool X, .int .i64 K, .int .i64 R, .int .i64 B, .int .i64 N, .int .i64 T, .int .i64 F, .slice ea E ec, .slice wa M wc] := (Box.new w 30 #[.int .i64 c.cB, .int .i64 c.cBeam, .int .i64 c.cDepth, .int .i64 c.cWin, .int .i64 c.cQs, .int .i64 c.cQr, .int .i64 c.cBatch, .int .i64 c.cPass, .int .i64 c.cMsg, .int .i64 c.cSeqs, .bool X, .int .i64 K, .int .i64 R, .int .i64 B, .int .i64 N, .int .i64 T, .int .i64 F, .slice ea E ec, .slice wa M wc]).next ((Below.refl _ _).alloc (Nat.le_refl _) _)
  have x2 := Box.new (w.alloc (.cells #[.int .i64 c.cB, .int .i64 c.cBeam, .int .i64 c.cDepth, .int .i64 c.cWin, .int .i64 c.cQs, .int .i64 c.cQr, .int .i64 c.cBatch, .int .i64 c.cPass, .int .i64 c.cMsg, .int .i64 c.cSeqs, .bool X, .int .i64 K, .int .i64 R, .int .i64 B, .int .i64 N, .int .i64 T, .int .i64 F, .slice ea E ec, .slice wa M wc] 30)) 30 #[.int .i64 0, .int .i64 0, .int .i64 0, .int .i64 0, .int .i64 0, .int .i64 0, .int .i64 0, .int .i64 0, .int .i64 0, .int .i64 0, .bool false, .int .i64 0, .int .i64 0, .int .i64 0, .int .i64 0, .int .i64 0, .int .i64 0, .slice none 0 0, .slice none 0 0]
  replace h1 := (h1.below bb).mono bb.size
  replace h2 := (h2.below bb).mono bb.size
  go_enter Tryd.func18, Tryd.ntmps18
  have c17 := x1.cell 17 _ rfl
  have l1 := x1.lt
  go_wp2_with fail
  refine (cloneIntsS_ok ea E ec s.sE HL.out.1 hE _ h1).mono ?_
  rintro e w1 ⟨fa, fc, rfl, o1, b1⟩
  obtain ⟨n2, hn2⟩ : ∃ n, (w.alloc (.cells #[.int .i64 c.cB, .int .i64 c.cBeam, .int .i64 c.cDepth, .int .i64 c.cWin, .int .i64 c.cQs, .int .i64 c.cQr, .int .i64 c.cBatch, .int .i64 c.cPass, .int .i64 c.cMsg, .int .i64 c.cSeqs, .bool X, .int .i64 K, .int .i64 R, .int .i64 B, .int .i64 N, .int .i64 T, .int .i64 F, .slice ea E ec, .slice wa M wc] 30)).heap.size = n := ⟨_, rfl⟩
  have hn2s : w.heap.size + 1 = n2 := by rw [← hn2]; simp
  have hn2t : ((w.alloc (.cells #[.int .i64 c.cB, .int .i64 c.cBeam, .int .i64 c.cDepth, .int .i64 c.cWin, .int .i64 c.cQs, .int .i64 c.cQr, .int .i64 c.cBatch, .int .i64 c.cPass, .int .i64 c.cMsg, .int .i64 c.cSeqs, .bool X, .int .i64 K, .int .i64 R, .int .i64 B, .int .i64 N, .int .i64 T, .int .i64 F, .slice ea E ec, .slice wa M wc] 30)).alloc (.cells #[.int .i64 0, .int .i64 0, .int .i64 0, .int .i64 0, .int .i64 0, .int .i64 0, .int .i64 0, .int .i64 0, .int .i64 0, .int .i64 0, .bool false, .int .i64 0, .int .i64 0, .int .i64 0, .int .i64 0, .int .i64 0, .int .i64 0, .slice none 0 0, .slice none 0 0] 30)).heap.size = n2 + 1 := by rw [← hn2]; simp
  rw [hn2] at x2
  rw [hn2t] at o1 b1 h2
  try rw [hn2s]
  replace x1 := x1.below b1 (by omega)
  replace x2 := x2.below b1 (by omega)
  replace h2 := h2.below b1
  replace bb := bb.trans (b1.mono (by omega))
  have hz1 : n2 + 1 ≤ w1.heap.size := x2.lt
  have HN2 : Hid (w.heap.size + 1 = n2) := hn2s
  clear hn2 hn2s hn2t h1 c17 l1 b1
  have c17 := x1.cell 17 _ rfl
  have g17 := x1.free 17
  have c18 := x1.cell 18 _ rfl
  have l1 := x1.lt
  go_wp2_with fail
  clear c17 g17 c18 l1
  have q1 : ∀ g, g ≠ w.heap.size → (w1.setCell ⟨w.heap.size, 17, none⟩ (.slice fa E fc)).heap[g]? = w1.heap[g]? := fun g hg => Below.heap_setCell _ _ _ g hg
  replace o1 := rowK_same o1 fun g hg => q1 g fun e => by have := (o1.lt g hg).1; have := HN2.out; omega
  replace x2 := x2.other (p := ⟨w.heap.size, 17, none⟩) (show n2 ≠ w.heap.size by have := HN2.out; omega) (.slice fa E fc)
  replace x1 : Box (w1.setCell ⟨w.heap.size, 17, none⟩ (.slice fa E fc)) w.heap.size 30 #[.int .i64 c.cB, .int .i64 c.cBeam, .int .i64 c.cDepth, .int .i64 c.cWin, .int .i64 c.cQs, .int .i64 c.cQr, .int .i64 c.cBatch, .int .i64 c.cPass, .int .i64 c.cMsg, .int .i64 c.cSeqs, .bool X, .int .i64 K, .int .i64 R, .int .i64 B, .int .i64 N, .int .i64 T, .int .i64 F, .slice fa E fc, .slice wa M wc] := x1.set 17 (.slice fa E fc)
  have hz2 : (w1.setCell ⟨w.heap.size, 17, none⟩ (.slice fa E fc)).heap.size = w1.heap.size := by simp [World.setCell]
  have h2b : HoldsC w.heap.size w (.slice wa M wc) M (cellsK emK r0) := HW0.out
  replace bb := bb.setCell (p := ⟨w.heap.size, 17, none⟩) (Nat.le_refl _) (.slice fa E fc)
  replace h2b := (h2b.below bb).mono bb.size
  clear q1 h2
  generalize w1.setCell ⟨w.heap.size, 17, none⟩ (.slice fa E fc) = w2 at *
  refine (cloneEms_ok wa M wc r0 hr9 (fun x hx => (H3.out x hx).slices) hM w2 h2b).mono ?_
  rintro e w3 ⟨va, vc, rfl, o2, b2⟩
  replace x1 := x1.next b2
  replace x2 := x2.next b2
  replace bb := bb.trans (b2.mono bb.size)
  replace o1 := rowK_below o1 b2 (Nat.le_refl _)
  replace o2 := rowK_base (base' := n2 + 1) o2 (by omega)
  clear b2 h2b hz1 hz2
  have c18 := x1.cell 18 _ rfl
  have g18 := x1.free 18
  have l1 := x1.lt
  go_wp2_with fail
  clear c18 g18 l1
  have q1 : ∀ g, g ≠ w.heap.size → (w3.setCell ⟨w.heap.size, 18, none⟩ (.slice va M vc)).heap[g]? = w3.heap[g]? := fun g hg => Below.heap_setCell _ _ _ g hg
  replace o1 := rowK_same o1 fun g hg => q1 g fun e => by have := (o1.lt g hg).1; have := HN2.out; omega
  replace o2 := rowK_same o2 fun g hg => q1 g fun e => by have := (o2.lt g hg).1; have := HN2.out; omega
  replace x2 := x2.other (p := ⟨w.heap.size, 18, none⟩) (show n2 ≠ w.heap.size by have := HN2.out; omega) (.slice va M vc)
  replace x1 : Box (w3.setCell ⟨w.heap.size, 18, none⟩ (.slice va M vc)) w.heap.size 30 #[.int .i64 c.cB, .int .i64 c.cBeam, .int .i64 c.cDepth, .int .i64 c.cWin, .int .i64 c.cQs, .int .i64 c.cQr, .int .i64 c.cBatch, .int .i64 c.cPass, .int .i64 c.cMsg, .int .i64 c.cSeqs, .bool X, .int .i64 K, .int .i64 R, .int .i64 B, .int .i64 N, .int .i64 T, .int .i64 F, .slice fa E fc, .slice va M vc] := x1.set 18 (.slice va M vc)
  replace bb := bb.setCell (p := ⟨w.heap.size, 18, none⟩) (Nat.le_refl _) (.slice va M vc)
  clear q1
  generalize w3.setCell ⟨w.heap.size, 18, none⟩ (.slice va M vc) = w4 at *
  have HAP : Hid (ApR w w4 s 0 n2 #[.int .i64 c.cB, .int .i64 c.cBeam, .int .i64 c.cDepth, .int .i64 c.cWin, .int .i64 c.cQs, .int .i64 c.cQr, .int .i64 c.cBatch, .int .i64 c.cPass, .int .i64 c.cMsg, .int .i64 c.cSeqs, .bool X, .int .i64 K, .int .i64 R, .int .i64 B, .int .i64 N, .int .i64 T, .int .i64 F, .slice fa E fc, .slice va M vc] fa E fc va M vc r0) := ⟨o2, by rw [List.take_zero]; exact ownL_nil _ _ _, hr9, HR0.out, fun j x _ hx => H3.out x (List.mem_of_getElem? hx), x1, x2, o1, bb⟩
  clear o1 o2 bb x2
  have c18 := x1.cell 18 _ rfl
  have l1 := x1.lt
  go_wp2_with fail
  clear c18 l1 x1
  go_loopw [15] (fun i wr => ∃ (k : Nat) (r : Lies Em), k ≤ M ∧ i = .int .i64 (k : Int) ∧ Hid (ApR w wr s k n2 #[.int .i64 c.cB, .int .i64 c.cBeam, .int .i64 c.cDepth, .int .i64 c.cWin, .int .i64 c.cQs, .int .i64 c.cQr, .int .i64 c.cBatch, .int .i64 c.cPass, .int .i64 c.cMsg, .int .i64 c.cSeqs, .bool X, .int .i64 K, .int .i64 R, .int .i64 B, .int .i64 N, .int .i64 T, .int .i64 F, .slice fa E fc, .slice va M vc] fa E fc va M vc r)) (fun i _ => M - (intOf i).toNat)
  case atStart => exact ⟨0, _, Nat.zero_le _, rfl, HAP⟩
  case round =>
    clear HAP
    obtain ⟨k, r, hk, rfl, HA⟩ := hrel
    generalize hwr : wr = w5 at *
    clear hwr
    have x1 := HA.out.box
    have x2 := HA.out.box2
    by_cases hlt : k < M
    · have hrow := HA.out.row
      obtain ⟨gv, gc, hgv⟩ := row_form hrow (by omega)
      obtain ⟨rfl, _, rfl⟩ := Value.slice.inj hgv
      obtain ⟨⟨e, ps⟩, hx⟩ : ∃ x, r[k]? = some x := ⟨r[k]'(by rw [HA.out.len]; exact hlt), by simp⟩
      have he : e ∈ s.sW := by rw [← HA.out.same]; exact List.mem_map.2 ⟨_, List.mem_of_getElem? hx, rfl⟩
      obtain ⟨p, hps, hp⟩ := (HA.out.rest k _ (Nat.le_refl _) hx).one
      have hps : ps = [p] := hps
      subst hps
      have hp' := hp.ints rfl
      obtain ⟨pa, pc, rfl⟩ : ∃ pa pc, p = .slice pa e.eB.length pc := hp'.shape
      obtain ⟨x, hxl⟩ : ∃ x, e.eB.length = x := ⟨_, rfl⟩
      rw [hxl] at hp' hx
      have HX : Hid (e.eB.length = x) := hxl
      have hx4 : x ≤ 4096 := hxl ▸ HM.out e he
      have HK : Hid (r[k]? = some (e, [.slice pa x pc])) := hx
      have hc4 : w5.cell? ⟨gv, k * 5 + 4, none⟩ = some (.slice pa x pc) := by
        have := hrow.cells (g := gv) rfl _ _ (cellsK_get emK hx 4 _ rfl)
        rwa [Addr.add_lit, Nat.zero_add] at this
      have hgl := hrow.lt gv rfl
      have hf4 := hrow.frozenAt (k * 5 + 4)
      replace hp' := (hp'.below HA.out.below).mono HA.out.below.size
      have hcl : Hid (∀ wx : World, Below w5.heap.size w5 wx → Calls Tryd.prog 39 #[.slice pa x pc] wx fun e9 W' => ∃ qa qc, e9 = .returned (.slice qa x qc) ∧ W'.ownsRow w5.heap.size 5 1 (.slice qa x qc) x (e.eB.map (Value.int .u8)) ∧ Below w5.heap.size w5 W') := fun wx hx => by
        have h := cloneE_ok pa pc e.eB (by rw [hxl]; exact hx4) wx (by rw [hxl]; exact hp'.next hx)
        rw [hxl] at h
        refine h.mono ?_
        rintro e9 W' ⟨r9, rfl, o9, b9⟩
        obtain ⟨qa, qc, rfl⟩ := row_shapeE o9
        exact ⟨qa, qc, rfl, rowK_base o9 hx.size, hx.trans (b9.mono hx.size)⟩
      clear hxl hp hp' hx he hgv
      have c18 := x1.cell 18 _ rfl
      have l1 := x1.lt
      go_upto_region 6 with fail
      have d18 : w5.drew.cell? ⟨w.heap.size, 18, none⟩ = some (.slice (some ⟨gv, 0, none⟩) M vc) := c18
      have dc4 : w5.drew.cell? ⟨gv, k * 5 + 4, none⟩ = some (.slice pa x pc) := hc4
      have HC4 : Hid (w5.cell? ⟨gv, k * 5 + 4, none⟩ = some (.slice pa x pc)) := hc4
      have HF4 : Hid (w5.frozen? ⟨gv, k * 5 + 4, none⟩ = false) := hf4
      first | go_region_with (go_at_call 39; refine (hcl.out _ (by exact (Below.refl _ _).drew)).mono ?_; rintro e9 w9 ⟨qa, qc, rfl, o9, b9⟩; have m18 := (b9.cell (p := ⟨w.heap.size, 18, none⟩) l1).trans c18; have m4 := (b9.cell (p := ⟨gv, k * 5 + 4, none⟩) hgl.2).trans HC4.out; have f4 := (b9.frozen (p := ⟨gv, k * 5 + 4, none⟩) hgl.2).trans HF4.out) | fail
      all_goals (
        clear d18 dc4 m18 m4 f4 hc4 hf4 hrow x1 x2 c18 l1 hcl HC4 HF4
        have hrow9 := rowK_below HA.out.row b9 (Nat.le_refl _)
        obtain ⟨hs9, hg9⟩ := hrow9.stored (k * 5 + 4) (.slice qa x qc)
        rw [show (cellsK emK r).set (k * 5 + 4) (.slice qa x qc) = cellsK emK (r.set k (e, [.slice qa x qc])) from cellsK_set1 emK HK.out (by decide) rfl] at hs9
        have hw5 : n2 + 1 ≤ w5.heap.size := HA.out.box2.lt
        have HNX : Hid (ApR w (w9.setCell ⟨gv, k * 5 + 4, none⟩ (.slice qa x qc)) s (k + 1) n2 #[.int .i64 c.cB, .int .i64 c.cBeam, .int .i64 c.cDepth, .int .i64 c.cWin, .int .i64 c.cQs, .int .i64 c.cQr, .int .i64 c.cBatch, .int .i64 c.cPass, .int .i64 c.cMsg, .int .i64 c.cSeqs, .bool X, .int .i64 K, .int .i64 R, .int .i64 B, .int .i64 N, .int .i64 T, .int .i64 F, .slice fa E fc, .slice (some ⟨gv, 0, none⟩) M vc] fa E fc (some ⟨gv, 0, none⟩) M vc (r.set k (e, [.slice qa x qc]))) := by
          refine ⟨hs9, ?_, by rw [List.length_set]; exact HA.out.len, by rw [map_set_fst (y := (e, [.slice qa x qc])) HK.out rfl]; exact HA.out.same, fun j y hj hy => ?_, (HA.out.box.next b9).other (p := ⟨gv, k * 5 + 4, none⟩) (by have := HN2.out; show w.heap.size ≠ gv; omega) _, (HA.out.box2.next b9).other (p := ⟨gv, k * 5 + 4, none⟩) (by show n2 ≠ gv; omega) _, ?_, ?_⟩
          · rw [take_set_snoc (by rw [HA.out.len]; exact hlt)]
            exact ((HA.out.own.next b9).snoc (x := (e, [.slice qa x qc])) (subsO_one (t := ⟨5, 1, e.eB.length, e.eB.map (Value.int .u8)⟩) (by rw [HX.out]; exact o9)) (List.pairwise_singleton _ _) hw5 (fun u hu p hp g hg => (HA.out.own.lt u hu p hp g hg).2)).kept emK_unlike hrow9 hg9
          · rw [List.getElem?_set_ne (by omega)] at hy
            exact HA.out.rest j y (by omega) hy
          · have o3 := rowK_below HA.out.ends b9 (Nat.le_refl _)
            exact o3.kept hg9 (rowsK_unlike o3 hrow9 (by decide))
          · exact (HA.out.below.trans (b9.mono HA.out.below.size)).setCell (p := ⟨gv, k * 5 + 4, none⟩) (by have := HN2.out; show w.heap.size ≤ gv; omega) _
        clear hrow9 hs9 hg9 o9 b9 hgl HA
        go_wp2
        exact ⟨⟨k + 1, _, hlt, by go_num, HNX⟩, by simp [intOf]; omega⟩)
    · obtain rfl : k = M := by omega
      have HO : Hid (SnOwn (n2 + 1) w5 s fa E fc va k vc) := ⟨HA.out.ends, r, HA.out.same, by rw [HL.out.2]; exact HA.out.row, by have := HA.out.own; rwa [List.take_of_length_le (by rw [HA.out.len]; exact Nat.le_refl _)] at this⟩
      have bE := below_setRow HA.out.below (show w.heap.size ≤ n2 by have := HN2.out; omega) #[.int .i64 c.cB, .int .i64 c.cBeam, .int .i64 c.cDepth, .int .i64 c.cWin, .int .i64 c.cQs, .int .i64 c.cQr, .int .i64 c.cBatch, .int .i64 c.cPass, .int .i64 c.cMsg, .int .i64 c.cSeqs, .bool X, .int .i64 K, .int .i64 R, .int .i64 B, .int .i64 N, .int .i64 T, .int .i64 F, .slice fa E fc, .slice va k vc]
      have oE := (HO.out.put x2 (by decide) (by decide) (by decide) (fun g hg => setRow_other w5 n2 g #[.int .i64 c.cB, .int .i64 c.cBeam, .int .i64 c.cDepth, .int .i64 c.cWin, .int .i64 c.cQs, .int .i64 c.cQr, .int .i64 c.cBatch, .int .i64 c.cPass, .int .i64 c.cMsg, .int .i64 c.cSeqs, .bool X, .int .i64 K, .int .i64 R, .int .i64 B, .int .i64 N, .int .i64 T, .int .i64 F, .slice fa E fc, .slice va k vc] hg)).lower (base' := w.heap.size) (by have := HN2.out; omega)
      have x2e := x2.setRow #[.int .i64 c.cB, .int .i64 c.cBeam, .int .i64 c.cDepth, .int .i64 c.cWin, .int .i64 c.cQs, .int .i64 c.cQr, .int .i64 c.cBatch, .int .i64 c.cPass, .int .i64 c.cMsg, .int .i64 c.cSeqs, .bool X, .int .i64 K, .int .i64 R, .int .i64 B, .int .i64 N, .int .i64 T, .int .i64 F, .slice fa E fc, .slice va k vc]
      clear HA HO
      go_wp2_with (first | (refine wpList_load_box x1 rfl 30 _ rfl rfl _ Tryd.underlying30 rfl (by kernel_rfl) ?_) | (refine wpList_store_box x2 rfl 30 _ _ rfl rfl rfl rfl (by kernel_rfl) (by simp [Value.oneCell']) ?_))
      exact bodyPost_ret (results_boxR rfl _ _ rfl x2e Tryd.underlying30 rfl (by kernel_rfl)) rfl ⟨fa, fc, va, vc, rfl, oE, bE⟩

end Go.Proofs.YtmjidhnlofpliaaDoor
