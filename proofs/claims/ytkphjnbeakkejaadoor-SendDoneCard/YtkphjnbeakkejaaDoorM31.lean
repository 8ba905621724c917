/-
  Lists of blocks that are sent (numbers, acked, bytes) in memory; lists of texts in memory of the call's own. No function of the program is spoken of.
-/
import Derived.Test.YtkphjnbeakkejaaDoorM09
import Derived.Test.YtkphjnbeakkejaaDoorM10
import Derived.Test.YtkphjnbeakkejaaDoorM12
import Derived.Test.YtkphjnbeakkejaaDoorM16
import Derived.Test.YtkphjnbeakkejaaDoorM30
import Derived.Deep.Cut
import Derived.Deep.CutRange
import Derived.Deep.DeepCutAuto
namespace Go.Proofs.YtkphjnbeakkejaaDoor
open Go.RowKit

def emK : Kind Em where
  ty := 53
  k := 5
  lie := fun y ps => [.int .i64 y.eS, .int .i64 y.eR, .int .i64 y.eF, .bool y.eA, ps.getD 0 (.slice none 0 0)]
  subs := fun y => [⟨5, 1, y.eB.length, y.eB.map (Value.int .u8)⟩]
  len := fun _ _ => rfl
  one := fun y ps h u hu => by
    simp only [List.mem_cons, List.not_mem_nil, or_false] at hu
    rcases hu with rfl | rfl | rfl | rfl | rfl
    · rfl
    · rfl
    · rfl
    · rfl
    · match ps, h with
      | [], _ => rfl
      | p :: _, h => obtain ⟨a, n, c, rfl⟩ := h p (by simp); rfl
theorem emK_unlike : emK.unlike := fun y t ht => by
  simp only [emK, List.mem_cons, List.not_mem_nil, or_false] at ht
  subst ht
  show (5 : Nat) ≠ 53
  decide
abbrev Ems := Sts emK
abbrev OwnEms := OwnSts emK
theorem infoEm : (Tryd.prog.info? 53).map (fun i => (i.zero, i.size, i.bytes)) = some (some (.agg #[.int .i64 0, .int .i64 0, .int .i64 0, .bool false, .slice none 0 0]), 5, 56) := by kernel_rfl
/-- The k-th block that is sent, where it lies, with its bytes. -/
def AtEm (W : World) (gb o : Nat) (e : Em) (pa : Option Addr) (x pc : Nat) : Prop :=
  (gb < W.heap.size ∧ W.cell? ⟨gb, o, none⟩ = some (.int .i64 e.eS) ∧ W.cell? ⟨gb, o + 1, none⟩ = some (.int .i64 e.eR) ∧ W.cell? ⟨gb, o + 2, none⟩ = some (.int .i64 e.eF) ∧ W.cell? ⟨gb, o + 3, none⟩ = some (.bool e.eA) ∧ W.cell? ⟨gb, o + 4, none⟩ = some (.slice pa x pc)) ∧ Holds .u8 W.heap.size W (.slice pa x pc) e.eB ∧ e.eB.length = x
theorem AtEm.next {W W' : World} {gb o : Nat} {e : Em} {pa : Option Addr} {x pc : Nat} (h : AtEm W gb o e pa x pc) (b : Below W.heap.size W W') : AtEm W' gb o e pa x pc := by
  obtain ⟨⟨h0, h1, h2, h3, h4, h5⟩, h6, h7⟩ := h
  exact ⟨⟨Nat.lt_of_lt_of_le h0 b.size, (b.cell (p := ⟨gb, o, none⟩) h0).trans h1, (b.cell (p := ⟨gb, o + 1, none⟩) h0).trans h2, (b.cell (p := ⟨gb, o + 2, none⟩) h0).trans h3, (b.cell (p := ⟨gb, o + 3, none⟩) h0).trans h4, (b.cell (p := ⟨gb, o + 4, none⟩) h0).trans h5⟩, h6.next b, h7⟩
theorem AtEm.lt {W : World} {gb o : Nat} {e : Em} {pa : Option Addr} {x pc : Nat} (h : AtEm W gb o e pa x pc) : gb < W.heap.size := h.1.1
theorem AtEm.held {W : World} {gb o : Nat} {e : Em} {pa : Option Addr} {x pc : Nat} (h : AtEm W gb o e pa x pc) : Holds .u8 W.heap.size W (.slice pa x pc) e.eB := h.2.1
theorem atEm_of {n₀ n cap : Nat} {W W' : World} {a : Option Addr} {l : List Em} (h : Ems n₀ W (.slice a n cap) l) {k : Nat} {e : Em} (hk : l[k]? = some e) (hb : Below n₀ W W') (hn : n₀ ≤ W.heap.size) :
    ∃ gb off pa x pc, a = some ⟨gb, off, none⟩ ∧ AtEm W' gb (off + k * 5) e pa x pc := by
  have h0 : 0 < l.length := by
    have := (List.getElem?_eq_some_iff.1 hk).1
    omega
  obtain ⟨b, off, rfl, hlt, hc⟩ := h.at h0
  obtain ⟨ps, hs, hcell⟩ := hc k e hk
  obtain ⟨p, rfl, hp⟩ := hs.one
  have hp' := hp.ints rfl
  obtain ⟨pa, pc, rfl⟩ : ∃ pa pc, p = .slice pa e.eB.length pc := hp'.shape
  have hs := hb.size
  exact ⟨b, off, pa, _, pc, rfl, ⟨by omega, (hb.cell (p := ⟨b, off + k * 5, none⟩) hlt).trans (hcell 0 _ rfl), (hb.cell (p := ⟨b, off + k * 5 + 1, none⟩) hlt).trans (hcell 1 _ rfl), (hb.cell (p := ⟨b, off + k * 5 + 2, none⟩) hlt).trans (hcell 2 _ rfl), (hb.cell (p := ⟨b, off + k * 5 + 3, none⟩) hlt).trans (hcell 3 _ rfl), (hb.cell (p := ⟨b, off + k * 5 + 4, none⟩) hlt).trans (hcell 4 _ rfl)⟩, (hp'.below hb).mono (by omega), rfl⟩
/-- One more, at the end of those of the call's own. -/
theorem run_append_em (v : Value) (n base : Nat) (r : Lies Em) (e : Em) (p : Value) (hp : ∃ a n c, p = Value.slice a n c) (ty : TypeId) (w : World) (hown : w.ownsRow base 53 5 v n (cellsK emK r)) (hb : base ≤ w.heap.size) (h1 : n ≤ 1048576) :
    ∃ v' w', (Builtin.append_ #[28, 28] ty #[v, .slice (some ⟨w.heap.size, 0, none⟩) 1 1]).run Tryd.prog (w.alloc (.cells #[.int .i64 e.eS, .int .i64 e.eR, .int .i64 e.eF, .bool e.eA, p] 53)) = .ok v' w' ∧ w'.ownsRow base 53 5 v' (n + 1) (cellsK emK (r ++ [(e, [p])])) ∧ (w.alloc (.cells #[.int .i64 e.eS, .int .i64 e.eR, .int .i64 e.eF, .bool e.eA, p] 53)).grownBy w' v.ownBlock :=
  run_append_st emK 28 ty _ 56 Tryd.underlying28 infoEm rfl (by decide) (by decide) v n base r (e, [p]) (fun q hq => by simp at hq; subst hq; exact hp) _ rfl w hown hb h1

/-- Lists of texts. -/
def txK : Kind (List Int) where
  ty := 25
  k := 1
  lie := fun _ ps => [ps.getD 0 (.slice none 0 0)]
  subs := fun y => [⟨5, 1, y.length, y.map (Value.int .u8)⟩]
  len := fun _ _ => rfl
  one := fun y ps h u hu => by
    simp only [List.mem_cons, List.not_mem_nil, or_false] at hu
    subst hu
    match ps, h with
    | [], _ => rfl
    | p :: _, h => obtain ⟨a, n, c, rfl⟩ := h p (by simp); rfl
theorem txK_unlike : txK.unlike := fun y t ht => by
  simp only [txK, List.mem_cons, List.not_mem_nil, or_false] at ht
  subst ht
  show (5 : Nat) ≠ 25
  decide
abbrev OwnTxs := OwnSts txK
theorem infoTx : (Tryd.prog.info? 25).map (fun i => (i.zero, i.size, i.bytes)) = some (some (.slice none 0 0), 1, 24) := by kernel_rfl
theorem run_append_tx (v : Value) (n base : Nat) (r : Lies (List Int)) (xs : List Int) (p : Value) (hp : ∃ a n c, p = Value.slice a n c) (ty : TypeId) (w : World) (hown : w.ownsRow base 25 1 v n (cellsK txK r)) (hb : base ≤ w.heap.size) (h1 : n ≤ 1048576) :
    ∃ v' w', (Builtin.append_ #[24, 24] ty #[v, .slice (some ⟨w.heap.size, 0, none⟩) 1 1]).run Tryd.prog (w.alloc (.cells #[p] 25)) = .ok v' w' ∧ w'.ownsRow base 25 1 v' (n + 1) (cellsK txK (r ++ [(xs, [p])])) ∧ (w.alloc (.cells #[p] 25)).grownBy w' v.ownBlock :=
  run_append_st txK 24 ty _ 24 Tryd.underlying24 infoTx rfl (by decide) (by decide) v n base r (xs, [p]) (fun q hq => by simp at hq; subst hq; exact hp) _ rfl w hown hb h1

end Go.Proofs.YtkphjnbeakkejaaDoor

/-
  An end that sends, as it lies in memory: its numbers, its lists. No function of the program is spoken of.
-/
namespace Go.Proofs.YtkphjnbeakkejaaDoor
open Go.RowKit

structure SnIs (s : Sn) (c : Cfg) (X : Bool) (K R B N T F : Int) (E M : Nat) : Prop where
  eC : s.sC = c
  eX : s.sX = X
  eK : s.sK = K
  eR : s.sR = R
  eB : s.sB = B
  eN : s.sN = N
  eT : s.sT = T
  eF : s.sF = F
  lE : s.sE.length = E
  lW : s.sW.length = M
/-- Its lists lie so. -/
def SnAt (W : World) (s : Sn) (ea : Option Addr) (E ec : Nat) (wa : Option Addr) (M wc : Nat) : Prop := Holds .i64 W.heap.size W (.slice ea E ec) s.sE ∧ Ems W.heap.size W (.slice wa M wc) s.sW
theorem SnAt.next {W W' : World} {s : Sn} {ea : Option Addr} {E ec : Nat} {wa : Option Addr} {M wc : Nat} (h : SnAt W s ea E ec wa M wc) (b : Below W.heap.size W W') : SnAt W' s ea E ec wa M wc := ⟨h.1.next b, h.2.next b⟩
/-- They are of the call's own. -/
def SnOwn (base : Nat) (W : World) (s : Sn) (ea : Option Addr) (E ec : Nat) (wa : Option Addr) (M wc : Nat) : Prop := W.ownsRow base 3 1 (.slice ea E ec) E (s.sE.map (Value.int .i64)) ∧ OwnEms base W (.slice wa M wc) s.sW
theorem SnOwn.next {base : Nat} {W W' : World} {s : Sn} {ea : Option Addr} {E ec : Nat} {wa : Option Addr} {M wc : Nat} (h : SnOwn base W s ea E ec wa M wc) (b : Below W.heap.size W W') : SnOwn base W' s ea E ec wa M wc := ⟨rowK_below h.1 b (Nat.le_refl _), h.2.next b⟩
theorem SnOwn.at {base : Nat} {W : World} {s : Sn} {ea : Option Addr} {E ec : Nat} {wa : Option Addr} {M wc : Nat} (h : SnOwn base W s ea E ec wa M wc) : SnAt W s ea E ec wa M wc := ⟨holds_of_row h.1, h.2.rows⟩
theorem SnOwn.lower {base base' : Nat} {W : World} {s : Sn} {ea : Option Addr} {E ec : Nat} {wa : Option Addr} {M wc : Nat} (h : SnOwn base W s ea E ec wa M wc) (hn : base' ≤ base) : SnOwn base' W s ea E ec wa M wc := ⟨rowK_base h.1 hn, h.2.lower hn⟩
/-- What lies in other blocks than a variable of another type stays, whatever becomes of that variable. -/
theorem OwnSts.put {α : Type} {K : Kind α} {base : Nat} {W W' : World} {v : Value} {l : List α} (h : OwnSts K base W v l) {D : Nat} {t : TypeId} {cs : Array Value} (hb : Box W D t cs) (h1 : K.ty ≠ t) (h2 : ∀ (y : α) (u : Sub), u ∈ K.subs y → u.ty ≠ t) (hq : ∀ g, g ≠ D → W'.heap[g]? = W.heap[g]?) : OwnSts K base W' v l := by
  obtain ⟨r, e, h3, h4⟩ := h
  refine ⟨r, e, rowK_same h3 fun g hg => hq g fun e => row_neBox h3 hb h1 (by rw [hg, e]), h4.same fun x hx p hp g hg => hq g fun e => ?_⟩
  subst e
  have h5 := h4.subs x hx
  obtain ⟨i, hi, ep⟩ := List.getElem_of_mem hp
  have hl : i < (K.subs x.1).length := by rw [← h5.1]; exact hi
  exact row_neBox (h5.2 i p (K.subs x.1)[i] (by rw [← ep]; simp) (by simp)) hb (h2 x.1 _ (by simp)) hg
theorem row_put1 {W W' : World} {base size n : Nat} {e t : TypeId} {v : Value} {xs : List Value} (h : W.ownsRow base e size v n xs) {D : Nat} {cs : Array Value} (hb : Box W D t cs) (he : e ≠ t) (hq : ∀ g, g ≠ D → W'.heap[g]? = W.heap[g]?) : W'.ownsRow base e size v n xs :=
  rowK_same h fun g hg => hq g fun e => row_neBox h hb he (by rw [hg, e])
theorem emK_subs {t : TypeId} (h : (5 : Nat) ≠ t) : ∀ (y : Em) (u : Sub), u ∈ emK.subs y → u.ty ≠ t := fun y u hu => by
  simp only [emK, List.mem_cons, List.not_mem_nil, or_false] at hu
  subst hu
  exact h
theorem SnOwn.put {base : Nat} {W W' : World} {s : Sn} {ea : Option Addr} {E ec : Nat} {wa : Option Addr} {M wc : Nat} (h : SnOwn base W s ea E ec wa M wc) {D : Nat} {t : TypeId} {cs : Array Value} (hb : Box W D t cs) (h1 : (3 : Nat) ≠ t) (h2 : (53 : Nat) ≠ t) (h3 : (5 : Nat) ≠ t) (hq : ∀ g, g ≠ D → W'.heap[g]? = W.heap[g]?) : SnOwn base W' s ea E ec wa M wc :=
  ⟨row_put1 h.1 hb h1 hq, h.2.put hb h2 (emK_subs h3) hq⟩
/-- An append that grows a row of another type leaves rows and variables. -/
theorem row_keptS {W W' : World} {base base' size size' n n' : Nat} {e e' : TypeId} {v v' : Value} {xs xs' : List Value} (h : W.ownsRow base e size v n xs) (hv : W.ownsRow base' e' size' v' n' xs') (he : e ≠ e') (o : Obj) (hg : (W.alloc o).grownBy W' v'.ownBlock) : W'.ownsRow base e size v n xs :=
  rowK_same h fun g hg' => by
    have hlt := (h.lt g hg').2
    refine (hg.block g (by simp; omega) fun e => ?_).trans (Below.heap_alloc W o g hlt)
    rcases rowsK_unlike h hv he with h0 | h0
    · rw [h0] at hg'; cases hg'
    · exact h0 (by rw [hg', e])
theorem box_keptS {W W' : World} {B base size n : Nat} {e t : TypeId} {v : Value} {xs : List Value} {cs : Array Value} (h : Box W B t cs) (hv : W.ownsRow base e size v n xs) (he : e ≠ t) (o : Obj) (hg : (W.alloc o).grownBy W' v.ownBlock) : Box W' B t cs :=
  (hg.block B ((h.alloc o).lt) fun e => row_neBox hv h he e.symm).trans (h.alloc o)

/-- A row of the call's own, with .next. -/
def OwnR (W : World) (base : Nat) (e : TypeId) (size : Nat) (v : Value) (n : Nat) (xs : List Value) : Prop := W.ownsRow base e size v n xs
theorem OwnR.next {W W' : World} {base : Nat} {e : TypeId} {size : Nat} {v : Value} {n : Nat} {xs : List Value} (h : OwnR W base e size v n xs) (b : Below W.heap.size W W') : OwnR W' base e size v n xs := rowK_below h b (Nat.le_refl _)
theorem OwnR.row {W : World} {base : Nat} {e : TypeId} {size : Nat} {v : Value} {n : Nat} {xs : List Value} (h : OwnR W base e size v n xs) : W.ownsRow base e size v n xs := h
theorem row_shapeS {W : World} {base k size : Nat} {e : TypeId} {v : Value} {xs : List Value} (h : W.ownsRow base e size v k xs) : ∃ a c, v = .slice a k c := by
  rcases h.2 with ⟨e, e0⟩ | ⟨g, c, cur, e, _⟩
  · exact ⟨_, _, by rw [e, e0]⟩
  · exact ⟨_, _, e⟩

end Go.Proofs.YtkphjnbeakkejaaDoor

/-
  Rows that lie in blocks made since a bound, from whatever cell on (also what is left of a row behind its first elements); lists of structs of such rows; an end that sends in such rows. No function of the program is spoken of.
-/
namespace Go.Proofs.YtkphjnbeakkejaaDoor
open Go.RowKit

/-- The slice v, of n elements, lies in a block made since base, from some cell on: its cells are cs. -/
def RowAt (base : Nat) (W : World) (e : TypeId) (k : Nat) (v : Value) (n : Nat) (cs : List Value) : Prop :=
  cs.length = n * k ∧ ((n = 0 ∧ ∃ a c, v = .slice a 0 c ∧ (a = none → c = 0)) ∨ ∃ g o cap cur, v = .slice (some ⟨g, o, none⟩) n cap ∧ n ≤ cap ∧ base ≤ g ∧ W.heap[g]? = some (.cells cur e (0, 0)) ∧ ∀ (j : Nat) (u : Value), cs[j]? = some u → cur[o + j]? = some u)
section
variable {base base' n k : Nat} {W W' : World} {e : TypeId} {v : Value} {cs : List Value}
theorem RowAt.ofOwn (h : W.ownsRow base e k v n cs) : RowAt base W e k v n cs := by
  refine ⟨h.1, ?_⟩
  rcases h.2 with ⟨rfl, rfl⟩ | ⟨g, cap, cur, rfl, hb, hg, hk, _, hs, ht⟩
  · exact .inl ⟨rfl, _, _, rfl, fun _ => rfl⟩
  · refine .inr ⟨g, 0, cap, cur, rfl, hk, hb, hg, fun j u hj => ?_⟩
    rw [← ht, List.getElem?_take] at hj
    split at hj
    · rw [Nat.zero_add]
      simpa using hj
    · cases hj
theorem RowAt.holds (h : RowAt base W e k v n cs) : HoldsC W.heap.size W v n cs := by
  rcases h.2 with ⟨rfl, a, c, rfl, h0⟩ | ⟨g, o, cap, cur, rfl, _, hb, hg, hc⟩
  · have := h.1
    rw [Nat.zero_mul] at this
    exact .inl ⟨⟨a, c, rfl, h0⟩, rfl, List.length_eq_zero_iff.1 this⟩
  · exact .inr ⟨g, o, cap, rfl, (Array.getElem?_eq_some_iff.1 hg).1, fun j u hj => by simp [World.cell?, hg, hc j u hj]⟩
theorem RowAt.same (h : RowAt base W e k v n cs) (hq : ∀ g, base ≤ g → g < W.heap.size → W'.heap[g]? = W.heap[g]?) : RowAt base W' e k v n cs := by
  refine ⟨h.1, ?_⟩
  rcases h.2 with h0 | ⟨g, o, cap, cur, hv, hn, hb, hg, hc⟩
  · exact .inl h0
  · exact .inr ⟨g, o, cap, cur, hv, hn, hb, (hq g hb (Array.getElem?_eq_some_iff.1 hg).1).trans hg, hc⟩
theorem RowAt.lower (h : RowAt base W e k v n cs) (hn : base' ≤ base) : RowAt base' W e k v n cs := by
  refine ⟨h.1, ?_⟩
  rcases h.2 with h0 | ⟨g, o, cap, cur, hv, hn', hb, hg, hc⟩
  · exact .inl h0
  · exact .inr ⟨g, o, cap, cur, hv, hn', by omega, hg, hc⟩
theorem RowAt.shape (h : RowAt base W e k v n cs) : ∃ a c, v = .slice a n c := by
  rcases h.2 with ⟨rfl, a, c, hv, _⟩ | ⟨g, o, cap, cur, hv, _⟩
  · exact ⟨_, _, hv⟩
  · exact ⟨_, _, hv⟩
theorem RowAt.cap {a : Option Addr} {c : Nat} (h : RowAt base W e k (.slice a n c) n cs) : n ≤ c := by
  rcases h.2 with ⟨rfl, _⟩ | ⟨g, o, cap, cur, hv, h1, _⟩
  · exact Nat.zero_le _
  · cases hv; exact h1
/-- What is left of it behind its first i elements. -/
theorem RowAt.drop {a : Option Addr} {c i : Nat} (h : RowAt base W e k (.slice a n c) n cs) (hi : i ≤ n) {a' : Option Addr} {c' : Nat} (ha : ∀ g o, a = some ⟨g, o, none⟩ → i < n → a' = some ⟨g, o + i * k, none⟩ ∧ c' = c - i) (h0 : i = n → a' = none → c' = 0) : RowAt base W e k (.slice a' (n - i) c') (n - i) (cs.drop (i * k)) := by
  refine ⟨by rw [List.length_drop, h.1, Nat.sub_mul], ?_⟩
  by_cases hin : i = n
  · exact .inl ⟨by omega, a', c', by rw [hin, Nat.sub_self], h0 hin⟩
  · rcases h.2 with ⟨rfl, _⟩ | ⟨g, o, cap, cur, hv, h1, hb, hg, hc⟩
    · omega
    · cases hv
      obtain ⟨rfl, rfl⟩ := ha g o rfl (by omega)
      exact .inr ⟨g, o + i * k, _, cur, rfl, by omega, hb, hg, fun j u hj => by
        rw [List.getElem?_drop] at hj
        rw [Nat.add_assoc]
        exact hc _ u hj⟩
end
/-- Structs in such a row, the rows that they lead to the call's own, in blocks of their own. -/
def StsAt {α : Type} (K : Kind α) (base : Nat) (W : World) (v : Value) (l : List α) : Prop := ∃ r : Lies α, r.map Prod.fst = l ∧ RowAt base W K.ty K.k v l.length (cellsK K r) ∧ OwnL K base W r
section
variable {α : Type} {K : Kind α} {base base' : Nat} {W W' : World} {v : Value} {l : List α}
theorem OwnL.since {r : Lies α} (h : OwnL K base W r) (hq : ∀ g, base ≤ g → g < W.heap.size → W'.heap[g]? = W.heap[g]?) : OwnL K base W' r := h.same fun x hx p hp g hg => hq g (h.lt x hx p hp g hg).1 (h.lt x hx p hp g hg).2
theorem OwnL.tail {r : Lies α} (h : OwnL K base W r) (i : Nat) : OwnL K base W (r.drop i) := by
  refine ⟨fun x hx => h.subs x (List.mem_of_mem_drop hx), ?_⟩
  have hap := h.apart
  rw [← List.take_append_drop i r, List.flatMap_append] at hap
  exact (List.pairwise_append.1 hap).2.1
theorem StsAt.ofOwn (h : OwnSts K base W v l) : StsAt K base W v l := by
  obtain ⟨r, h1, h2, h3⟩ := h
  exact ⟨r, h1, .ofOwn h2, h3⟩
theorem StsAt.holds (h : StsAt K base W v l) : Sts K W.heap.size W v l := by
  obtain ⟨r, h1, h2, h3⟩ := h
  exact ⟨r, h1, h2.holds, fun x hx => (h3.subs x hx).held⟩
theorem StsAt.same (h : StsAt K base W v l) (hq : ∀ g, base ≤ g → g < W.heap.size → W'.heap[g]? = W.heap[g]?) : StsAt K base W' v l := by
  obtain ⟨r, h1, h2, h3⟩ := h
  exact ⟨r, h1, h2.same hq, h3.since hq⟩
theorem StsAt.next (h : StsAt K base W v l) (hb : Below W.heap.size W W') : StsAt K base W' v l := h.same fun g _ hg => hb.block g hg
theorem StsAt.lower (h : StsAt K base W v l) (hn : base' ≤ base) : StsAt K base' W v l := by
  obtain ⟨r, h1, h2, h3⟩ := h
  exact ⟨r, h1, h2.lower hn, h3.lower hn⟩
theorem StsAt.shape (h : StsAt K base W v l) : ∃ a c, v = .slice a l.length c := by obtain ⟨r, h1, h2, h3⟩ := h; exact h2.shape
theorem stsAt_nil (K : Kind α) (base : Nat) (W : World) : StsAt K base W (.slice none 0 0) [] := .ofOwn (ownSts_nil K base W)
end
theorem cellsK_drop {α : Type} (K : Kind α) : ∀ (i : Nat) (r : Lies α), (cellsK K r).drop (i * K.k) = cellsK K (r.drop i)
  | 0, r => by simp
  | i + 1, [] => by simp [cellsK]
  | i + 1, x :: r => by
    have e : cellsK K (x :: r) = K.lie x.1 x.2 ++ cellsK K r := by simp [cellsK]
    have ih := cellsK_drop K i r
    rw [e, Nat.add_mul, Nat.one_mul, Nat.add_comm, ← List.drop_drop, List.drop_left' (K.len _ _)]
    simpa using ih
/-- What is left of a list of structs of the call's own. -/
theorem OwnSts.drop {α : Type} {K : Kind α} {base n c i : Nat} {W : World} {a : Option Addr} {l : List α} (h : OwnSts K base W (.slice a n c) l) (hl : l.length = n) (hi : i ≤ n) {a' : Option Addr} {c' : Nat} (ha : ∀ g o, a = some ⟨g, o, none⟩ → i < n → a' = some ⟨g, o + i * K.k, none⟩ ∧ c' = c - i) (h0 : i = n → a' = none → c' = 0) : StsAt K base W (.slice a' (n - i) c') (l.drop i) := by
  obtain ⟨r, h1, h2, h3⟩ := h
  subst hl
  refine ⟨r.drop i, by rw [List.map_drop, h1], ?_, h3.tail i⟩
  rw [← cellsK_drop, List.length_drop]
  exact (RowAt.ofOwn h2).drop hi ha h0

/-- An end that sends: its lists lie in blocks made since base. -/
def SnL (base : Nat) (W : World) (s : Sn) (ea : Option Addr) (E ec : Nat) (wa : Option Addr) (M wc : Nat) : Prop := RowAt base W 3 1 (.slice ea E ec) E (s.sE.map (Value.int .i64)) ∧ StsAt emK base W (.slice wa M wc) s.sW
section
variable {base base' : Nat} {W W' : World} {s : Sn} {ea : Option Addr} {E ec : Nat} {wa : Option Addr} {M wc : Nat}
theorem SnL.ofOwn (h : SnOwn base W s ea E ec wa M wc) : SnL base W s ea E ec wa M wc := ⟨.ofOwn h.1, .ofOwn h.2⟩
theorem SnL.at (h : SnL base W s ea E ec wa M wc) : SnAt W s ea E ec wa M wc := ⟨h.1.holds.ints (by have := h.1.1; simpa using this), h.2.holds⟩
theorem SnL.same (h : SnL base W s ea E ec wa M wc) (hq : ∀ g, base ≤ g → g < W.heap.size → W'.heap[g]? = W.heap[g]?) : SnL base W' s ea E ec wa M wc := ⟨h.1.same hq, h.2.same hq⟩
theorem SnL.next (h : SnL base W s ea E ec wa M wc) (b : Below W.heap.size W W') : SnL base W' s ea E ec wa M wc := h.same fun g _ hg => b.block g hg
theorem SnL.lower (h : SnL base W s ea E ec wa M wc) (hn : base' ≤ base) : SnL base' W s ea E ec wa M wc := ⟨h.1.lower hn, h.2.lower hn⟩
theorem SnL.nil (base : Nat) (W : World) (h1 : s.sE = []) (h2 : s.sW = []) : SnL base W s none 0 0 none 0 0 := by
  unfold SnL
  rw [h1, h2]
  exact ⟨.ofOwn (World.ownsRow_nil _ _ _ _), stsAt_nil _ _ _⟩
/-- A variable that was made ahead is stored into. -/
theorem SnL.old (h : SnL base W s ea E ec wa M wc) {D : Nat} (hD : D < base) (hq : ∀ g, g ≠ D → W'.heap[g]? = W.heap[g]?) : SnL base W' s ea E ec wa M wc := h.same fun g hb _ => hq g (by omega)
end

end Go.Proofs.YtkphjnbeakkejaaDoor

/-
  What volutekeep.Config, Sender and Rows answer, for what is the same. (Written by tpl_keepsend.py.)
-/
namespace Go.Proofs.YtkphjnbeakkejaaDoor
open Go.RowKit

set_option maxRecDepth 100000 in
set_option maxHeartbeats 1000000 in
theorem keepConfig_same (c : Cfg) (w : World) : Calls Tryd.prog 42 #[.agg #[.int .i64 c.cB, .int .i64 c.cBeam, .int .i64 c.cDepth, .int .i64 c.cWin, .int .i64 c.cQs, .int .i64 c.cQr, .int .i64 c.cBatch, .int .i64 c.cPass, .int .i64 c.cMsg, .int .i64 c.cSeqs], .agg #[.int .i64 c.cB, .int .i64 c.cBeam, .int .i64 c.cDepth, .int .i64 c.cWin, .int .i64 c.cQs, .int .i64 c.cQr, .int .i64 c.cBatch, .int .i64 c.cPass, .int .i64 c.cMsg, .int .i64 c.cSeqs]] w fun e w' => e = .returned (.bool true) ∧ Below w.heap.size w w' := by
  have b1 := ((Below.refl w.heap.size w).alloc (Nat.le_refl _) (.cells #[.int .i64 c.cB, .int .i64 c.cBeam, .int .i64 c.cDepth, .int .i64 c.cWin, .int .i64 c.cQs, .int .i64 c.cQr, .int .i64 c.cBatch, .int .i64 c.cPass, .int .i64 c.cMsg, .int .i64 c.cSeqs] 23)).alloc (by simp) (.cells #[.int .i64 c.cB, .int .i64 c.cBeam, .int .i64 c.cDepth, .int .i64 c.cWin, .int .i64 c.cQs, .int .i64 c.cQr, .int .i64 c.cBatch, .int .i64 c.cPass, .int .i64 c.cMsg, .int .i64 c.cSeqs] 23)
  go_enter Tryd.func42, Tryd.ntmps42
  go_wp2
  go_ret
  exact ⟨rfl, b1⟩

theorem keepEmit_same (e : Em) (v v' : Value) (w : World) (hl : e.eB.length ≤ 4611686018427387904) (ha : Holds .u8 w.heap.size w v e.eB) (hb : Holds .u8 w.heap.size w v' e.eB) :
    Calls Tryd.prog 44 #[.agg #[.int .i64 e.eS, .int .i64 e.eR, .int .i64 e.eF, .bool e.eA, v], .agg #[.int .i64 e.eS, .int .i64 e.eR, .int .i64 e.eF, .bool e.eA, v']] w fun e w' => e = .returned (.bool true) ∧ Below w.heap.size w w' := by
  have h := keepEmit_any e.eS e.eR e.eF e.eS e.eR e.eF e.eA e.eA v v' e.eB e.eB w _ _ (Nat.le_refl _) (Nat.le_refl _) hl ha hb
  rw [decide_eq_true ⟨rfl, rfl, rfl, rfl, rfl⟩] at h
  exact h

set_option maxRecDepth 100000 in
set_option maxHeartbeats 8000000 in
theorem keepSender_same {s : Sn} {c : Cfg} {X : Bool} {K R B N T F : Int} {E M : Nat} (hs : SnIs s c X K R B N T F E M) (hE : E ≤ 1000000) (hM : M ≤ 1000000) (hm : ∀ e ∈ s.sW, e.eB.length ≤ 4611686018427387904) (ea : Option Addr) (ec : Nat) (wa : Option Addr) (wc : Nat) (fa : Option Addr) (fc : Nat) (va : Option Addr) (vc : Nat) (w : World) (ha : SnAt w s ea E ec wa M wc) (hb : SnAt w s fa E fc va M vc) :
    Calls Tryd.prog 21 #[.agg #[.int .i64 c.cB, .int .i64 c.cBeam, .int .i64 c.cDepth, .int .i64 c.cWin, .int .i64 c.cQs, .int .i64 c.cQr, .int .i64 c.cBatch, .int .i64 c.cPass, .int .i64 c.cMsg, .int .i64 c.cSeqs, .bool X, .int .i64 K, .int .i64 R, .int .i64 B, .int .i64 N, .int .i64 T, .int .i64 F, .slice ea E ec, .slice wa M wc], .agg #[.int .i64 c.cB, .int .i64 c.cBeam, .int .i64 c.cDepth, .int .i64 c.cWin, .int .i64 c.cQs, .int .i64 c.cQr, .int .i64 c.cBatch, .int .i64 c.cPass, .int .i64 c.cMsg, .int .i64 c.cSeqs, .bool X, .int .i64 K, .int .i64 R, .int .i64 B, .int .i64 N, .int .i64 T, .int .i64 F, .slice fa E fc, .slice va M vc]] w fun e w' => e = .returned (.bool true) ∧ Below w.heap.size w w' := by
  have bb : Below w.heap.size w ((w.alloc (.cells #[.int .i64 c.cB, .int .i64 c.cBeam, .int .i64 c.cDepth, .int .i64 c.cWin, .int .i64 c.cQs, .int .i64 c.cQr, .int .i64 c.cBatch, .int .i64 c.cPass, .int .i64 c.cMsg, .int .i64 c.cSeqs, .bool X, .int .i64 K, .int .i64 R, .int .i64 B, .int .i64 N, .int .i64 T, .int .i64 F, .slice ea E ec, .slice wa M wc] 30)).alloc (.cells #[.int .i64 c.cB, .int .i64 c.cBeam, .int .i64 c.cDepth, .int .i64 c.cWin, .int .i64 c.cQs, .int .i64 c.cQr, .int .i64 c.cBatch, .int .i64 c.cPass, .int .i64 c.cMsg, .int .i64 c.cSeqs, .bool X, .int .i64 K, .int .i64 R, .int .i64 B, .int .i64 N, .int .i64 T, .int .i64 F, .slice fa E fc, .slice va M vc] 30)) := ((Below.refl _ _).alloc (Nat.le_refl _) _).alloc (by simp) _
  have x2 : Box ((w.alloc (.cells #[.int .i64 c.cB, .int .i64 c.cBeam, .int .i64 c.cDepth, .int .i64 c.cWin, .int .i64 c.cQs, .int .i64 c.cQr, .int .i64 c.cBatch, .int .i64 c.cPass, .int .i64 c.cMsg, .int .i64 c.cSeqs, .bool X, .int .i64 K, .int .i64 R, .int .i64 B, .int .i64 N, .int .i64 T, .int .i64 F, .slice ea E ec, .slice wa M wc] 30)).alloc (.cells #[.int .i64 c.cB, .int .i64 c.cBeam, .int .i64 c.cDepth, .int .i64 c.cWin, .int .i64 c.cQs, .int .i64 c.cQr, .int .i64 c.cBatch, .int .i64 c.cPass, .int .i64 c.cMsg, .int .i64 c.cSeqs, .bool X, .int .i64 K, .int .i64 R, .int .i64 B, .int .i64 N, .int .i64 T, .int .i64 F, .slice fa E fc, .slice va M vc] 30)) w.heap.size 30 #[.int .i64 c.cB, .int .i64 c.cBeam, .int .i64 c.cDepth, .int .i64 c.cWin, .int .i64 c.cQs, .int .i64 c.cQr, .int .i64 c.cBatch, .int .i64 c.cPass, .int .i64 c.cMsg, .int .i64 c.cSeqs, .bool X, .int .i64 K, .int .i64 R, .int .i64 B, .int .i64 N, .int .i64 T, .int .i64 F, .slice ea E ec, .slice wa M wc] := (Box.new w 30 #[.int .i64 c.cB, .int .i64 c.cBeam, .int .i64 c.cDepth, .int .i64 c.cWin, .int .i64 c.cQs, .int .i64 c.cQr, .int .i64 c.cBatch, .int .i64 c.cPass, .int .i64 c.cMsg, .int .i64 c.cSeqs, .bool X, .int .i64 K, .int .i64 R, .int .i64 B, .int .i64 N, .int .i64 T, .int .i64 F, .slice ea E ec, .slice wa M wc]).next ((Below.refl _ _).alloc (Nat.le_refl _) _)
  have x3 := Box.new (w.alloc (.cells #[.int .i64 c.cB, .int .i64 c.cBeam, .int .i64 c.cDepth, .int .i64 c.cWin, .int .i64 c.cQs, .int .i64 c.cQr, .int .i64 c.cBatch, .int .i64 c.cPass, .int .i64 c.cMsg, .int .i64 c.cSeqs, .bool X, .int .i64 K, .int .i64 R, .int .i64 B, .int .i64 N, .int .i64 T, .int .i64 F, .slice ea E ec, .slice wa M wc] 30)) 30 #[.int .i64 c.cB, .int .i64 c.cBeam, .int .i64 c.cDepth, .int .i64 c.cWin, .int .i64 c.cQs, .int .i64 c.cQr, .int .i64 c.cBatch, .int .i64 c.cPass, .int .i64 c.cMsg, .int .i64 c.cSeqs, .bool X, .int .i64 K, .int .i64 R, .int .i64 B, .int .i64 N, .int .i64 T, .int .i64 F, .slice fa E fc, .slice va M vc]
  replace ha := ha.next bb
  replace hb := hb.next bb
  have HL : Hid (s.sE.length = E ∧ s.sW.length = M) := ⟨hs.lE, hs.lW⟩
  have HM : Hid (∀ e ∈ s.sW, e.eB.length ≤ 4611686018427387904) := hm
  clear hs hm
  go_enter Tryd.func21, Tryd.ntmps21
  go_wp2_with fail
  refine (keepConfig_same c _).mono ?_
  rintro e w1 ⟨rfl, b9⟩
  obtain ⟨n3, hn3⟩ : ∃ n, (w.alloc (.cells #[.int .i64 c.cB, .int .i64 c.cBeam, .int .i64 c.cDepth, .int .i64 c.cWin, .int .i64 c.cQs, .int .i64 c.cQr, .int .i64 c.cBatch, .int .i64 c.cPass, .int .i64 c.cMsg, .int .i64 c.cSeqs, .bool X, .int .i64 K, .int .i64 R, .int .i64 B, .int .i64 N, .int .i64 T, .int .i64 F, .slice ea E ec, .slice wa M wc] 30)).heap.size = n := ⟨_, rfl⟩
  rw [hn3] at x3
  have hn3s : w.heap.size + 1 = n3 := by rw [← hn3]; simp
  replace x2 := x2.next b9
  replace x3 := x3.next b9
  replace ha := ha.next b9
  replace hb := hb.next b9
  replace bb := bb.trans (b9.mono bb.size)
  clear b9 hn3
  try rw [hn3s]
  clear hn3s
  obtain ⟨h1, h2⟩ := ha
  obtain ⟨h3, h4⟩ := hb
  have H2 : Hid (Ems w1.heap.size w1 (.slice wa M wc) s.sW) := h2
  have H4 : Hid (Ems w1.heap.size w1 (.slice va M vc) s.sW) := h4
  clear h2 h4
  have cx20 := x2.cell 0 _ rfl
  have cx21 := x2.cell 1 _ rfl
  have cx22 := x2.cell 2 _ rfl
  have cx23 := x2.cell 3 _ rfl
  have cx24 := x2.cell 4 _ rfl
  have cx25 := x2.cell 5 _ rfl
  have cx26 := x2.cell 6 _ rfl
  have cx27 := x2.cell 7 _ rfl
  have cx28 := x2.cell 8 _ rfl
  have cx29 := x2.cell 9 _ rfl
  have cx210 := x2.cell 10 _ rfl
  have cx211 := x2.cell 11 _ rfl
  have cx212 := x2.cell 12 _ rfl
  have cx213 := x2.cell 13 _ rfl
  have cx214 := x2.cell 14 _ rfl
  have cx215 := x2.cell 15 _ rfl
  have cx216 := x2.cell 16 _ rfl
  have cx217 := x2.cell 17 _ rfl
  have cx218 := x2.cell 18 _ rfl
  have cx30 := x3.cell 0 _ rfl
  have cx31 := x3.cell 1 _ rfl
  have cx32 := x3.cell 2 _ rfl
  have cx33 := x3.cell 3 _ rfl
  have cx34 := x3.cell 4 _ rfl
  have cx35 := x3.cell 5 _ rfl
  have cx36 := x3.cell 6 _ rfl
  have cx37 := x3.cell 7 _ rfl
  have cx38 := x3.cell 8 _ rfl
  have cx39 := x3.cell 9 _ rfl
  have cx310 := x3.cell 10 _ rfl
  have cx311 := x3.cell 11 _ rfl
  have cx312 := x3.cell 12 _ rfl
  have cx313 := x3.cell 13 _ rfl
  have cx314 := x3.cell 14 _ rfl
  have cx315 := x3.cell 15 _ rfl
  have cx316 := x3.cell 16 _ rfl
  have cx317 := x3.cell 17 _ rfl
  have cx318 := x3.cell 18 _ rfl
  have hl2 := x2.lt
  have hl3 := x3.lt
  go_wp2_with fail
  refine (ints_any (.slice ea E ec) (.slice fa E fc) s.sE s.sE _ _ _ (by rw [HL.out.1]; omega) h1 h3).mono ?_
  rintro e w2 ⟨rfl, q, rfl⟩
  rw [decide_eq_true (rfl : s.sE = s.sE)]
  obtain ⟨w3, hw3⟩ : ∃ W, w1.drewN q = W := ⟨_, rfl⟩
  have b3 : Below w1.heap.size w1 w3 := hw3 ▸ below_drewN (Below.refl _ _) q
  rw [hw3]
  clear cx20 cx21 cx22 cx23 cx24 cx25 cx26 cx27 cx28 cx29 cx210 cx211 cx212 cx213 cx214 cx215 cx216 cx217 cx218
  clear cx30 cx31 cx32 cx33 cx34 cx35 cx36 cx37 cx38 cx39 cx310 cx311 cx312 cx313 cx314 cx315 cx316 cx317 cx318
  replace x2 := x2.next b3
  replace x3 := x3.next b3
  replace bb := bb.trans (b3.mono bb.size)
  have H2 : Hid (Ems w3.heap.size w3 (.slice wa M wc) s.sW) := H2.out.next b3
  have H4 : Hid (Ems w3.heap.size w3 (.slice va M vc) s.sW) := H4.out.next b3
  clear b3 hw3 h1 h3 hl2 hl3
  have c29 := x2.cell 18 _ rfl
  have c39 := x3.cell 18 _ rfl
  have hl2 := x2.lt
  have hl3 := x3.lt
  go_wp2_with fail
  clear c29 c39 hl2 hl3
  go_loopw [5] (fun i wr => ∃ k : Nat, k ≤ M ∧ i = .int .i64 (k : Int) ∧ Below w3.heap.size w3 wr) (fun i _ => M - (intOf i).toNat)
  case atStart => exact ⟨0, Nat.zero_le _, rfl, Below.refl _ _⟩
  case round =>
    obtain ⟨k, hk, rfl, b4⟩ := hrel
    generalize hwr : wr = w4 at *
    clear hwr
    have HB3 : Hid (Below w3.heap.size w3 w4) := b4
    have bS : Since w4 w4 := Below.refl _ _
    replace x2 := x2.next b4
    replace x3 := x3.next b4
    replace bb := bb.trans (b4.mono bb.size)
    have c29 := x2.cell 18 _ rfl
    have c39 := x3.cell 18 _ rfl
    have hl2 := x2.lt
    have hl3 := x3.lt
    by_cases hlt : k < M
    rotate_left
    · obtain rfl : M = k := by omega
      go_wp2
      go_ret
      exact ⟨rfl, bb⟩
    as_aux_lemma =>
      obtain ⟨e, he⟩ : ∃ y, s.sW[k]? = some y := ⟨s.sW[k]'(by rw [HL.out.2]; exact hlt), by simp⟩
      obtain ⟨gb, off, pa, x, pc, rfl, y2⟩ := atEm_of H2.out he b4 (Nat.le_refl _)
      obtain ⟨gc, of2, qa, x9, qc, rfl, y3⟩ := atEm_of H4.out he b4 (Nat.le_refl _)
      obtain rfl : x = x9 := y2.2.2.symm.trans y3.2.2
      have HX : Hid (e.eB.length = x) := y2.2.2
      have HXM : Hid (e.eB.length ≤ 4611686018427387904) := HM.out e (List.mem_of_getElem? he)
      clear H2 H4 he b4
      go_upto_region 6 with fail
      clear c29 c39 hl2 hl3
      obtain ⟨nq1, hnq1⟩ : ∃ n, w4.heap.size = n := ⟨_, rfl⟩
      have hl_x2 : w.heap.size < nq1 := hnq1 ▸ x2.lt
      have m_x20 : Hid (w4.cell? ⟨w.heap.size, 0, none⟩ = some (.int .i64 c.cB)) := x2.cell 0 _ rfl
      have m_x21 : Hid (w4.cell? ⟨w.heap.size, 1, none⟩ = some (.int .i64 c.cBeam)) := x2.cell 1 _ rfl
      have m_x22 : Hid (w4.cell? ⟨w.heap.size, 2, none⟩ = some (.int .i64 c.cDepth)) := x2.cell 2 _ rfl
      have m_x23 : Hid (w4.cell? ⟨w.heap.size, 3, none⟩ = some (.int .i64 c.cWin)) := x2.cell 3 _ rfl
      have m_x24 : Hid (w4.cell? ⟨w.heap.size, 4, none⟩ = some (.int .i64 c.cQs)) := x2.cell 4 _ rfl
      have m_x25 : Hid (w4.cell? ⟨w.heap.size, 5, none⟩ = some (.int .i64 c.cQr)) := x2.cell 5 _ rfl
      have m_x26 : Hid (w4.cell? ⟨w.heap.size, 6, none⟩ = some (.int .i64 c.cBatch)) := x2.cell 6 _ rfl
      have m_x27 : Hid (w4.cell? ⟨w.heap.size, 7, none⟩ = some (.int .i64 c.cPass)) := x2.cell 7 _ rfl
      have m_x28 : Hid (w4.cell? ⟨w.heap.size, 8, none⟩ = some (.int .i64 c.cMsg)) := x2.cell 8 _ rfl
      have m_x29 : Hid (w4.cell? ⟨w.heap.size, 9, none⟩ = some (.int .i64 c.cSeqs)) := x2.cell 9 _ rfl
      have m_x210 : Hid (w4.cell? ⟨w.heap.size, 10, none⟩ = some (.bool X)) := x2.cell 10 _ rfl
      have m_x211 : Hid (w4.cell? ⟨w.heap.size, 11, none⟩ = some (.int .i64 K)) := x2.cell 11 _ rfl
      have m_x212 : Hid (w4.cell? ⟨w.heap.size, 12, none⟩ = some (.int .i64 R)) := x2.cell 12 _ rfl
      have m_x213 : Hid (w4.cell? ⟨w.heap.size, 13, none⟩ = some (.int .i64 B)) := x2.cell 13 _ rfl
      have m_x214 : Hid (w4.cell? ⟨w.heap.size, 14, none⟩ = some (.int .i64 N)) := x2.cell 14 _ rfl
      have m_x215 : Hid (w4.cell? ⟨w.heap.size, 15, none⟩ = some (.int .i64 T)) := x2.cell 15 _ rfl
      have m_x216 : Hid (w4.cell? ⟨w.heap.size, 16, none⟩ = some (.int .i64 F)) := x2.cell 16 _ rfl
      have m_x217 : Hid (w4.cell? ⟨w.heap.size, 17, none⟩ = some (.slice ea E ec)) := x2.cell 17 _ rfl
      have m_x218 : Hid (w4.cell? ⟨w.heap.size, 18, none⟩ = some (.slice (some ⟨gb, off, none⟩) M wc)) := x2.cell 18 _ rfl
      have hl_x3 : n3 < nq1 := hnq1 ▸ x3.lt
      have m_x30 : Hid (w4.cell? ⟨n3, 0, none⟩ = some (.int .i64 c.cB)) := x3.cell 0 _ rfl
      have m_x31 : Hid (w4.cell? ⟨n3, 1, none⟩ = some (.int .i64 c.cBeam)) := x3.cell 1 _ rfl
      have m_x32 : Hid (w4.cell? ⟨n3, 2, none⟩ = some (.int .i64 c.cDepth)) := x3.cell 2 _ rfl
      have m_x33 : Hid (w4.cell? ⟨n3, 3, none⟩ = some (.int .i64 c.cWin)) := x3.cell 3 _ rfl
      have m_x34 : Hid (w4.cell? ⟨n3, 4, none⟩ = some (.int .i64 c.cQs)) := x3.cell 4 _ rfl
      have m_x35 : Hid (w4.cell? ⟨n3, 5, none⟩ = some (.int .i64 c.cQr)) := x3.cell 5 _ rfl
      have m_x36 : Hid (w4.cell? ⟨n3, 6, none⟩ = some (.int .i64 c.cBatch)) := x3.cell 6 _ rfl
      have m_x37 : Hid (w4.cell? ⟨n3, 7, none⟩ = some (.int .i64 c.cPass)) := x3.cell 7 _ rfl
      have m_x38 : Hid (w4.cell? ⟨n3, 8, none⟩ = some (.int .i64 c.cMsg)) := x3.cell 8 _ rfl
      have m_x39 : Hid (w4.cell? ⟨n3, 9, none⟩ = some (.int .i64 c.cSeqs)) := x3.cell 9 _ rfl
      have m_x310 : Hid (w4.cell? ⟨n3, 10, none⟩ = some (.bool X)) := x3.cell 10 _ rfl
      have m_x311 : Hid (w4.cell? ⟨n3, 11, none⟩ = some (.int .i64 K)) := x3.cell 11 _ rfl
      have m_x312 : Hid (w4.cell? ⟨n3, 12, none⟩ = some (.int .i64 R)) := x3.cell 12 _ rfl
      have m_x313 : Hid (w4.cell? ⟨n3, 13, none⟩ = some (.int .i64 B)) := x3.cell 13 _ rfl
      have m_x314 : Hid (w4.cell? ⟨n3, 14, none⟩ = some (.int .i64 N)) := x3.cell 14 _ rfl
      have m_x315 : Hid (w4.cell? ⟨n3, 15, none⟩ = some (.int .i64 T)) := x3.cell 15 _ rfl
      have m_x316 : Hid (w4.cell? ⟨n3, 16, none⟩ = some (.int .i64 F)) := x3.cell 16 _ rfl
      have m_x317 : Hid (w4.cell? ⟨n3, 17, none⟩ = some (.slice fa E fc)) := x3.cell 17 _ rfl
      have m_x318 : Hid (w4.cell? ⟨n3, 18, none⟩ = some (.slice (some ⟨gc, of2, none⟩) M vc)) := x3.cell 18 _ rfl
      have hl_y2 : gb < nq1 := hnq1 ▸ y2.lt
      have m_y20 : Hid (w4.cell? ⟨gb, off + k * 5, none⟩ = some (.int .i64 e.eS)) := y2.1.2.1
      have m_y21 : Hid (w4.cell? ⟨gb, off + k * 5 + 1, none⟩ = some (.int .i64 e.eR)) := y2.1.2.2.1
      have m_y22 : Hid (w4.cell? ⟨gb, off + k * 5 + 2, none⟩ = some (.int .i64 e.eF)) := y2.1.2.2.2.1
      have m_y23 : Hid (w4.cell? ⟨gb, off + k * 5 + 3, none⟩ = some (.bool e.eA)) := y2.1.2.2.2.2.1
      have m_y24 : Hid (w4.cell? ⟨gb, off + k * 5 + 4, none⟩ = some (.slice pa x pc)) := y2.1.2.2.2.2.2
      have hl_y3 : gc < nq1 := hnq1 ▸ y3.lt
      have m_y30 : Hid (w4.cell? ⟨gc, of2 + k * 5, none⟩ = some (.int .i64 e.eS)) := y3.1.2.1
      have m_y31 : Hid (w4.cell? ⟨gc, of2 + k * 5 + 1, none⟩ = some (.int .i64 e.eR)) := y3.1.2.2.1
      have m_y32 : Hid (w4.cell? ⟨gc, of2 + k * 5 + 2, none⟩ = some (.int .i64 e.eF)) := y3.1.2.2.2.1
      have m_y33 : Hid (w4.cell? ⟨gc, of2 + k * 5 + 3, none⟩ = some (.bool e.eA)) := y3.1.2.2.2.2.1
      have m_y34 : Hid (w4.cell? ⟨gc, of2 + k * 5 + 4, none⟩ = some (.slice qa x qc)) := y3.1.2.2.2.2.2
      have HK : Hid (∀ wx : World, Below nq1 w4 wx → Calls Tryd.prog 44 #[.agg #[.int .i64 e.eS, .int .i64 e.eR, .int .i64 e.eF, .bool e.eA, .slice pa x pc], .agg #[.int .i64 e.eS, .int .i64 e.eR, .int .i64 e.eF, .bool e.eA, .slice qa x qc]] wx fun e w' => e = .returned (.bool true) ∧ Below nq1 w4 w') := fun wx hx => (keepEmit_same e _ _ wx HXM.out (y2.held.next (hnq1 ▸ hx)) (y3.held.next (hnq1 ▸ hx))).mono fun e w' ⟨h, b⟩ => ⟨h, hx.trans (b.mono (hnq1 ▸ hx.size))⟩
      go_cut [96] (fun v0 wx => v0 = .bool false ∧ Below nq1 w4 wx)
      case first =>
        as_aux_lemma =>
          refine wp_region_held_drew (S := fun w' => Below nq1 w4 w') (by kernel_rfl) (below_drewJ hnq1) (fun hHeld => ?_)
          refine ht0 0 85 (v := ?v1) (fun _ => ?y1) hHeld ?_
          case y1 => go_simp; with_reducible rfl
          simp only [sn]
          refine ht 1 86 (v := ?v2) (fun _ hSw => ?y2) hHeld ?_
          case y2 => have q0 := hSw.at m_x218.out hl_x2; clear hSw; go_simp; with_reducible rfl
          simp only [sn]
          refine ht0 2 87 (v := ?v3) (fun _ => ?y3) hHeld ?_
          case y3 => go_simp; with_reducible rfl
          simp only [sn]
          refine ht0 3 88 (v := ?v4) (fun _ => ?y4) hHeld ?_
          case y4 => go_simp; with_reducible rfl
          simp only [sn]
          refine ht 4 89 (v := ?v5) (fun _ hSw => ?y5) hHeld ?_
          case y5 => have q0 := hSw.at m_y20.out hl_y2; have q1 := hSw.at m_y21.out hl_y2; have q2 := hSw.at m_y22.out hl_y2; have q3 := hSw.at m_y23.out hl_y2; have q4 := hSw.at m_y24.out hl_y2; clear hSw; go_simp; with_reducible rfl
          simp only [sn]
          refine ht0 5 90 (v := ?v6) (fun _ => ?y6) hHeld ?_
          case y6 => go_simp; with_reducible rfl
          simp only [sn]
          refine ht 6 91 (v := ?v7) (fun _ hSw => ?y7) hHeld ?_
          case y7 => have q0 := hSw.at m_x318.out hl_x3; clear hSw; go_simp; with_reducible rfl
          simp only [sn]
          refine ht0 7 92 (v := ?v8) (fun _ => ?y8) hHeld ?_
          case y8 => go_simp; with_reducible rfl
          simp only [sn]
          refine ht0 8 93 (v := ?v9) (fun _ => ?y9) hHeld ?_
          case y9 => go_simp; with_reducible rfl
          simp only [sn]
          refine ht 9 94 (v := ?v10) (fun _ hSw => ?y10) hHeld ?_
          case y10 => have q0 := hSw.at m_y30.out hl_y3; have q1 := hSw.at m_y31.out hl_y3; have q2 := hSw.at m_y32.out hl_y3; have q3 := hSw.at m_y33.out hl_y3; have q4 := hSw.at m_y34.out hl_y3; clear hSw; go_simp; with_reducible rfl
          simp only [sn]
          refine wpAnyH_ready (rs := [10]) (by kernel_rfl) (by simp) ?_
          refine AllReadyH.cons rfl (fun K hK => ?_) AllReadyH.nil
          go_simp
          go_wp2_with (go_at_call 44; refine (HK.out _ (by exact hHeld)).mono ?_; rintro e wb ⟨rfl, b8⟩)
          refine hK.out _ _ (b8) (fun hHeld => ?_)
          clear hK K
          refine wpAnyH_ready (rs := [11]) (by kernel_rfl) (by simp) ?_
          refine AllReadyH.cons rfl (fun K hK => ?_) AllReadyH.nil
          go_simp
          refine hK.out _ _ hHeld (fun hHeld => ?_)
          clear hK K
          refine wpAnyH_done (by kernel_rfl) ?_ _
          go_wp2_with fail
          go_meet
          exact ⟨rfl, hHeld⟩
      case rest =>
        as_aux_lemma =>
          obtain ⟨rfl, b9⟩ := hcut
          replace b9 : Below w4.heap.size w4 wc := hnq1 ▸ b9
          generalize hwc : wc = w5 at *
          clear hwc hnq1 hl_x2 m_x20 m_x21 m_x22 m_x23 m_x24 m_x25 m_x26 m_x27 m_x28 m_x29 m_x210 m_x211 m_x212 m_x213 m_x214 m_x215 m_x216 m_x217 m_x218 hl_x3 m_x30 m_x31 m_x32 m_x33 m_x34 m_x35 m_x36 m_x37 m_x38 m_x39 m_x310 m_x311 m_x312 m_x313 m_x314 m_x315 m_x316 m_x317 m_x318 hl_y2 m_y20 m_y21 m_y22 m_y23 m_y24 hl_y3 m_y30 m_y31 m_y32 m_y33 m_y34 HK 
          replace x2 := x2.next b9
          replace x3 := x3.next b9
          replace bS := bS.next b9
          replace bb := bb.trans (b9.mono bb.size)
          clear b9
          replace bS : Below w4.heap.size w4 w5 := bS
          go_wp2
          exact ⟨⟨k + 1, hlt, by go_num, HB3.out.trans (bS.mono (by have := HB3.out.size; omega))⟩, by simp [intOf]; omega⟩

end Go.Proofs.YtkphjnbeakkejaaDoor
