/-
  What send.Tick answers. (Written by tpl_sendcode.py.)
-/
import Derived.Test.YtmjidhnlofpliaaDoorM19
import Derived.Test.YtmjidhnlofpliaaDoorM31
import Derived.Test.YtmjidhnlofpliaaDoorM32
import Derived.Deep.LoopGhost
namespace Go.Proofs.YtmjidhnlofpliaaDoor
open Go.RowKit

/-- Three results, the first a variable of more cells. -/
theorem results_boxR3 {P : Program} {fn : Func} {p u v : Tmp} {t : TypeId} (h : fn.results = #[.cell p t, .tmp u, .tmp v]) (tmps : Array Value) (w : World) {B : Nat} {t' : TypeId} {cs : Array Value} (hp : tmps[p]?.getD undef = .pointer (some ⟨B, 0, none⟩)) (hb : Box w B t' cs) {d : TypeDesc} (hu : P.underlying t = some d) (hd : d.isRow = true) (hi : (P.info? t).map (·.size) = some cs.size) :
    (results fn tmps).run P w = .ok (.tuple #[.agg cs, tmps.getD u undef, tmps.getD v undef]) w := by
  have hl := hb.loadVar hu hd hi
  simp [results, h, hp, asAddr, hl]
/-- All bytes of what waits are bytes. -/
def byS (s : Sn) : Prop := ∀ e ∈ s.sW, ∀ z ∈ e.eB, 0 ≤ z ∧ z ≤ 255
/-- What waits, the first k ticked. -/
def tickUp (s : Sn) (k : Nat) : List Em := s.sW.mapIdx fun i e => if i < k then tickM s.sC e else e
theorem tickUp_zero (s : Sn) : tickUp s 0 = s.sW := by
  unfold tickUp
  apply List.ext_getElem?
  intro i
  rw [List.getElem?_mapIdx]
  cases s.sW[i]? <;> simp
theorem tickUp_len (s : Sn) (k : Nat) : (tickUp s k).length = s.sW.length := by unfold tickUp; rw [List.length_mapIdx]
theorem tickUp_get (s : Sn) (k i : Nat) : (tickUp s k)[i]? = s.sW[i]?.map fun e => if i < k then tickM s.sC e else e := by unfold tickUp; rw [List.getElem?_mapIdx]
theorem tickUp_here {s : Sn} {k : Nat} : (tickUp s k)[k]? = s.sW[k]? := by
  rw [tickUp_get]
  cases s.sW[k]? <;> simp
theorem tickUp_succ {s : Sn} {k : Nat} {e : Em} (h : s.sW[k]? = some e) : (tickUp s k).set k (tickM s.sC e) = tickUp s (k + 1) := by
  apply List.ext_getElem?
  intro i
  rw [tickUp_get]
  by_cases hi : k = i
  · subst hi
    rw [List.getElem?_set_self (by rw [tickUp_len]; exact (List.getElem?_eq_some_iff.1 h).1), h]
    simp
  · rw [List.getElem?_set_ne hi, tickUp_get]
    have : (i < k) = (i < k + 1) := propext ⟨fun h => by omega, fun h => by omega⟩
    simp only [this]
theorem tickUp_end {s : Sn} {k : Nat} (h : k = winS s ∨ k = s.sW.length ∧ k ≤ winS s) : tickUp s k = (tickS s).sW := by
  apply List.ext_getElem?
  intro i
  rw [tickUp_get, tickS_get]
  cases hg : s.sW[i]? with
  | none => rfl
  | some e =>
    have hl := (List.getElem?_eq_some_iff.1 hg).1
    rcases h with rfl | ⟨rfl, h⟩
    · rfl
    · simp only [Option.map_some]
      rw [if_pos hl, if_pos (by omega)]
theorem packUpS_acked {s : Sn} {k : Nat} {e : Em} (hk : k < winS s) (he : s.sW[k]? = some e) (ha : e.eA = true) : packUpS s (k + 1) = packUpS s k := by
  rw [packUpS_step hk he]
  unfold packM
  rw [if_pos ha]
  simp
theorem tickUp_acked {s : Sn} {k : Nat} {e : Em} (he : s.sW[k]? = some e) (ha : e.eA = true) : tickUp s (k + 1) = tickUp s k := by
  rw [← tickUp_succ he, tickM_acked ha]
  apply List.ext_getElem?
  intro i
  by_cases hi : k = i
  · subst hi
    rw [List.getElem?_set_self (by rw [tickUp_len]; exact (List.getElem?_eq_some_iff.1 he).1), tickUp_here, he]
  · rw [List.getElem?_set_ne hi]
/-- Behind k of the blocks that wait. -/
structure TkR (w W : World) (s : Sn) (k n2 : Nat) (cs : Array Value) (fa : Option Addr) (E fc : Nat) (va : Option Addr) (M vc : Nat) (v : Value) (m : Nat) (r : Lies Em) (q : Lies (List Int)) : Prop where
  row : W.ownsRow w.heap.size 47 5 (.slice va M vc) M (cellsK emK r)
  own : OwnL emK w.heap.size W r
  len : r.length = M
  same : r.map Prod.fst = tickUp s k
  prow : W.ownsRow w.heap.size 35 1 v m (cellsK txK q)
  pown : OwnL txK w.heap.size W q
  psame : q.map Prod.fst = packUpS s k
  apart : ∀ x ∈ r, ∀ p ∈ x.2, ∀ y ∈ q, ∀ p' ∈ y.2, Apart p p'
  box : Box W n2 30 cs
  ends : W.ownsRow w.heap.size 3 1 (.slice fa E fc) E (s.sE.map (Value.int .i64))
  below : Below w.heap.size w W
  few : m ≤ k
theorem TkR.next {w W W' : World} {s : Sn} {k n2 : Nat} {cs : Array Value} {fa : Option Addr} {E fc : Nat} {va : Option Addr} {M vc : Nat} {v : Value} {m : Nat} {r : Lies Em} {q : Lies (List Int)} (h : TkR w W s k n2 cs fa E fc va M vc v m r q) (b : Below W.heap.size W W') : TkR w W' s k n2 cs fa E fc va M vc v m r q :=
  ⟨rowK_below h.row b (Nat.le_refl _), h.own.next b, h.len, h.same, rowK_below h.prow b (Nat.le_refl _), h.pown.next b, h.psame, h.apart, h.box.next b, rowK_below h.ends b (Nat.le_refl _), h.below.trans (b.mono h.below.size), h.few⟩
/-- Behind the tick. -/
structure TkE (w W : World) (s : Sn) (fa : Option Addr) (E fc : Nat) (va : Option Addr) (M vc : Nat) (v : Value) (m : Nat) (r : Lies Em) (q : Lies (List Int)) : Prop where
  row : W.ownsRow w.heap.size 47 5 (.slice va M vc) M (cellsK emK r)
  own : OwnL emK w.heap.size W r
  len : r.length = M
  same : r.map Prod.fst = (tickS s).sW
  prow : W.ownsRow w.heap.size 35 1 v m (cellsK txK q)
  pown : OwnL txK w.heap.size W q
  psame : q.map Prod.fst = packS s
  apart : ∀ x ∈ r, ∀ p ∈ x.2, ∀ y ∈ q, ∀ p' ∈ y.2, Apart p p'
  ends : W.ownsRow w.heap.size 3 1 (.slice fa E fc) E (s.sE.map (Value.int .i64))
theorem OwnL.put {α : Type} {K : Kind α} {base : Nat} {W W' : World} {r : Lies α} (h4 : OwnL K base W r) {D : Nat} {t : TypeId} {cs : Array Value} (hb : Box W D t cs) (h2 : ∀ (y : α) (u : Sub), u ∈ K.subs y → u.ty ≠ t) (hq : ∀ g, g ≠ D → W'.heap[g]? = W.heap[g]?) : OwnL K base W' r := h4.same fun x hx p hp g hg => hq g fun e => by
  subst e
  have h5 := h4.subs x hx
  obtain ⟨i, hi, ep⟩ := List.getElem_of_mem hp
  have hl : i < (K.subs x.1).length := by rw [← h5.1]; exact hi
  exact row_neBox (h5.2 i p (K.subs x.1)[i] (by rw [← ep]; simp) (by simp)) hb (h2 x.1 _ (by simp)) hg
theorem txK_subs {t : TypeId} (h : (5 : Nat) ≠ t) : ∀ (y : List Int) (u : Sub), u ∈ txK.subs y → u.ty ≠ t := fun y u hu => by
  simp only [txK, List.mem_cons, List.not_mem_nil, or_false] at hu
  subst hu
  exact h
theorem OwnL.keptT {α : Type} {K : Kind α} {base base' n size : Nat} {W W' : World} {r : Lies α} {v' : Value} {e : TypeId} {xs : List Value} (h4 : OwnL K base W r) (hv : W.ownsRow base' e size v' n xs) (h2 : ∀ (y : α) (u : Sub), u ∈ K.subs y → u.ty ≠ e) (hg : W.grownBy W' v'.ownBlock) : OwnL K base W' r := h4.same fun x hx p hp g hgp => by
  have h5 := h4.subs x hx
  obtain ⟨i, hi, ep⟩ := List.getElem_of_mem hp
  have hl : i < (K.subs x.1).length := by rw [← h5.1]; exact hi
  refine hg.block g (h4.lt x hx p hp g hgp).2 fun e2 => ?_
  rcases rowsK_unlike (h5.2 i p (K.subs x.1)[i] (by rw [← ep]; simp) (by simp)) hv (h2 x.1 _ (by simp)) with h6 | h6
  · rw [h6] at hgp; cases hgp
  · exact h6 (by rw [hgp, e2])
theorem apart_old {p q : Value} {m : Nat} (hp : ∀ g, p.ownBlock = some g → g < m) (hq : ∀ g, q.ownBlock = some g → m ≤ g) : Apart p q := by
  cases h : p.ownBlock with
  | none => exact .inl h
  | some g =>
    refine .inr fun e => ?_
    have h1 := hp g h
    have h2 := hq g (by rw [← e, h])
    omega
theorem apart_new {p q : Value} {m : Nat} (hp : ∀ g, p.ownBlock = some g → m ≤ g) (hq : ∀ g, q.ownBlock = some g → g < m) : Apart p q := by
  cases h : p.ownBlock with
  | none => exact .inl h
  | some g =>
    refine .inr fun e => ?_
    have h1 := hp g h
    have h2 := hq g (by rw [← e, h])
    omega
/-- The block that is sent is exchanged, its packet put behind the others: what holds at k holds at k + 1. -/
theorem TkR.step {w W W1 W2 : World} {s : Sn} {k n2 : Nat} {cs : Array Value} {fa : Option Addr} {E fc gv M vc : Nat} {v : Value} {m : Nat} {r : Lies Em} {q : Lies (List Int)} {mm y : Nat} {e e' : Em} {p0 p' z : Value} {xs : List Int} {v2 : Value}
    (h : TkR w W s k n2 cs fa E fc (some ⟨gv, 0, none⟩) M vc v m r q) (_hk : k < M) (hw : k < winS s) (he : s.sW[k]? = some e) (hp : packM s.sC e = some xs) (ht : tickM s.sC e = e') (_hr : r[k]? = some (e, [p0])) (hmm : w.heap.size ≤ mm)
    (hx : e'.eB.length = y) (o9 : W.ownsRow mm 5 1 p' y (e'.eB.map (Value.int .u8))) (oz : W.ownsRow mm 5 1 z xs.length (xs.map (Value.int .u8))) (hap : ∀ g, p'.ownBlock = some g → z.ownBlock ≠ some g) (hlt : (∀ u ∈ r, ∀ p ∈ u.2, ∀ g, p.ownBlock = some g → g < mm) ∧ ∀ u ∈ q, ∀ p ∈ u.2, ∀ g, p.ownBlock = some g → g < mm)
    (h1 : W1.ownsRow w.heap.size 47 5 (.slice (some ⟨gv, 0, none⟩) M vc) M (cellsK emK (r.set k (e', [p'])))) (hg1 : W.grownBy W1 (some gv))
    (h2 : W2.ownsRow w.heap.size 35 1 v2 (m + 1) (cellsK txK (q ++ [(xs, [z])]))) (hg2 : (W1.alloc (.cells #[z] 35)).grownBy W2 v.ownBlock) :
    TkR w W2 s (k + 1) n2 cs fa E fc (some ⟨gv, 0, none⟩) M vc v2 (m + 1) (r.set k (e', [p'])) (q ++ [(xs, [z])]) := by
  have p1 := h.prow.kept hg1 (rowsK_unlike h.prow h.row (by decide))
  have b1 : Below W1.heap.size W1 (W1.alloc (.cells #[z] 35)) := (Below.refl _ _).alloc (Nat.le_refl _) _
  have x1 := box_grown h.box h.row (by decide) hg1
  have e1 := h.ends.kept hg1 (rowsK_unlike h.ends h.row (by decide))
  have w1 := h.own.swap (k := k) (x := (e', [p'])) (subsO_one (t := ⟨5, 1, e'.eB.length, e'.eB.map (Value.int .u8)⟩) (by rw [hx]; exact o9)) (List.pairwise_singleton _ _) hmm hlt.1
  have w2 := w1.kept emK_unlike h.row hg1
  have q1 := h.pown.snoc (x := (xs, [z])) (subsO_one (t := ⟨5, 1, xs.length, xs.map (Value.int .u8)⟩) oz) (List.pairwise_singleton _ _) hmm hlt.2
  have q2 := (q1.keptT h.row (txK_subs (by decide)) hg1).next b1
  have hp9 : ∀ g, p'.ownBlock = some g → mm ≤ g := fun g hg => (o9.lt g hg).1
  have hz9 : ∀ g, z.ownBlock = some g → mm ≤ g := fun g hg => (oz.lt g hg).1
  refine ⟨row_keptS h1 p1 (by decide) _ hg2, (w2.next b1).keptT (p1.alloc _) (emK_subs (by decide)) hg2, by rw [List.length_set]; exact h.len, ?_, h2, q2.kept txK_unlike (p1.alloc _) hg2, ?_, ?_, box_keptS x1 p1 (by decide) _ hg2, row_keptS e1 p1 (by decide) _ hg2, ?_, Nat.succ_le_succ h.few⟩
  · rw [List.map_set, h.same, ← tickUp_succ he, ht]
  · rw [List.map_append, h.psame, packUpS_step hw he, hp]
    rfl
  · intro x hx p hp y hy p2 hp2
    rcases List.mem_append.1 hy with hy | hy
    · rcases List.mem_or_eq_of_mem_set hx with hx | rfl
      · exact h.apart x hx p hp y hy p2 hp2
      · simp only [List.mem_cons, List.not_mem_nil, or_false] at hp
        subst hp
        exact apart_new hp9 (fun g hg => hlt.2 y hy p2 hp2 g hg)
    · simp only [List.mem_cons, List.not_mem_nil, or_false] at hy
      subst hy
      simp only [List.mem_cons, List.not_mem_nil, or_false] at hp2
      subst hp2
      rcases List.mem_or_eq_of_mem_set hx with hx | rfl
      · exact apart_old (fun g hg => hlt.1 x hx p hp g hg) hz9
      · simp only [List.mem_cons, List.not_mem_nil, or_false] at hp
        subst hp
        cases ho : p.ownBlock with
        | none => exact .inl ho
        | some g => exact .inr (by rw [ho]; exact fun e => hap g ho e.symm)
  · have b2 := h.below.grown hg1 h.below.size (fun q e => by cases e; exact (h.row.lt gv rfl).1)
    exact (b2.alloc b2.size _).grown hg2 (by have := b2.size; simp only [World.size_alloc]; omega) (fun q e => (p1.lt q e).1)
theorem TkR.fin {w W W' : World} {s : Sn} {k n2 : Nat} {cs : Array Value} {fa : Option Addr} {E fc : Nat} {va : Option Addr} {M vc : Nat} {v : Value} {m : Nat} {r : Lies Em} {q : Lies (List Int)} (h : TkR w W s k n2 cs fa E fc va M vc v m r q) (hM : s.sW.length = M) (hk : k = winS s ∨ k = M ∧ k ≤ winS s) (hq : ∀ g, g ≠ n2 → W'.heap[g]? = W.heap[g]?) : TkE w W' s fa E fc va M vc v m r q := by
  subst hM
  exact ⟨row_put1 h.row h.box (by decide) hq, h.own.put h.box (emK_subs (by decide)) hq, h.len, h.same.trans (tickUp_end hk), row_put1 h.prow h.box (by decide) hq, h.pown.put h.box (txK_subs (by decide)) hq, h.psame.trans (by
    rcases hk with rfl | ⟨rfl, _⟩
    · exact packUpS_end s (Nat.le_refl _)
    · exact packUpS_long s (Nat.le_refl _)), h.apart, row_put1 h.ends h.box (by decide) hq⟩
theorem TkE.sn {w W : World} {s : Sn} {fa : Option Addr} {E fc : Nat} {va : Option Addr} {M vc : Nat} {v : Value} {m : Nat} {r : Lies Em} {q : Lies (List Int)} (h : TkE w W s fa E fc va M vc v m r q) : SnOwn w.heap.size W (tickS s) fa E fc va M vc :=
  ⟨h.ends, r, h.same, by rw [← h.same, List.length_map, h.len]; exact h.row, h.own⟩
theorem TkE.packs {w W : World} {s : Sn} {fa : Option Addr} {E fc : Nat} {va : Option Addr} {M vc : Nat} {v : Value} {m : Nat} {r : Lies Em} {q : Lies (List Int)} (h : TkE w W s fa E fc va M vc v m r q) : OwnTxs w.heap.size W v (packS s) ∧ (packS s).length = m := by
  have hl : q.length = m := by have := h.prow.1; rw [cellsK_len] at this; have h1 : txK.k = 1 := rfl; rw [h1] at this; omega
  have hm : (packS s).length = m := by rw [← h.psame, List.length_map, hl]
  exact ⟨⟨q, h.psame, by rw [hm]; exact h.prow, h.pown⟩, hm⟩
set_option maxRecDepth 100000 in
set_option maxHeartbeats 8000000 in
theorem sendTick_ok {s : Sn} {c : Cfg} {X : Bool} {K R B N T F : Int} {E M : Nat} (hs : SnIs s c X K R B N T F E M) (hE : E ≤ 1000000) (hM : M ≤ 1000000) (hm : ∀ e ∈ s.sW, e.eB.length ≤ 4096) (ea : Option Addr) (ec : Nat) (wa : Option Addr) (wc : Nat) (hby : byS s) (w : World) (hF : Firsts w) (ha : SnAt w s ea E ec wa M wc) (hOK : okS s) :
    Calls Tryd.prog 7 #[.agg #[.int .i64 c.cB, .int .i64 c.cBeam, .int .i64 c.cDepth, .int .i64 c.cWin, .int .i64 c.cQs, .int .i64 c.cQr, .int .i64 c.cBatch, .int .i64 c.cPass, .int .i64 c.cMsg, .int .i64 c.cSeqs, .bool X, .int .i64 K, .int .i64 R, .int .i64 B, .int .i64 N, .int .i64 T, .int .i64 F, .slice ea E ec, .slice wa M wc]] w fun e W' => ∃ fa fc va vc pa pn pc r q, e = .returned (.tuple #[.agg #[.int .i64 c.cB, .int .i64 c.cBeam, .int .i64 c.cDepth, .int .i64 c.cWin, .int .i64 c.cQs, .int .i64 c.cQr, .int .i64 c.cBatch, .int .i64 c.cPass, .int .i64 c.cMsg, .int .i64 c.cSeqs, .bool X, .int .i64 (satN K 1), .int .i64 R, .int .i64 B, .int .i64 N, .int .i64 T, .int .i64 F, .slice fa E fc, .slice va M vc], .slice pa pn pc, .int .i64 0]) ∧ Hid (TkE w W' s fa E fc va M vc (.slice pa pn pc) pn r q) ∧ Below w.heap.size w W' := by
  have HC : Hid (okC c = true) := by have := hOK.conf; rw [hs.eC] at this; exact this
  have HBY : Hid (byS s) := hby
  have HF0 : Hid (Firsts w) := hF
  have HALL : Hid (∀ (i : Nat) (e : Em), s.sW[i]? = some e → okM c e) := fun i e hi => by have := (hOK.all i e hi).2; rw [hs.eC] at this; exact this
  have HWIN : Hid (((winS s : Nat) : Int) = c.cWin) := by
    have h := (okC_iff c).1 HC.out
    show ((s.sC.cWin.toNat : Nat) : Int) = c.cWin
    rw [hs.eC]
    omega
  clear hby hF
  have bb : Below w.heap.size w ((w.alloc (.cells #[.int .i64 c.cB, .int .i64 c.cBeam, .int .i64 c.cDepth, .int .i64 c.cWin, .int .i64 c.cQs, .int .i64 c.cQr, .int .i64 c.cBatch, .int .i64 c.cPass, .int .i64 c.cMsg, .int .i64 c.cSeqs, .bool X, .int .i64 K, .int .i64 R, .int .i64 B, .int .i64 N, .int .i64 T, .int .i64 F, .slice ea E ec, .slice wa M wc] 30)).alloc (.cells #[.int .i64 0, .int .i64 0, .int .i64 0, .int .i64 0, .int .i64 0, .int .i64 0, .int .i64 0, .int .i64 0, .int .i64 0, .int .i64 0, .bool false, .int .i64 0, .int .i64 0, .int .i64 0, .int .i64 0, .int .i64 0, .int .i64 0, .slice none 0 0, .slice none 0 0] 30)) := ((Below.refl _ _).alloc (Nat.le_refl _) _).alloc (by simp) _
  have x1 : Box ((w.alloc (.cells #[.int .i64 c.cB, .int .i64 c.cBeam, .int .i64 c.cDepth, .int .i64 c.cWin, .int .i64 c.cQs, .int .i64 c.cQr, .int .i64 c.cBatch, .int .i64 c.cPass, .int .i64 c.cMsg, .int .i64 c.cSeqs, .bool X, .int .i64 K, .int .i64 R, .int .i64 B, .int .i64 N, .int .i64 T, .int .i64 F, .slice ea E ec, .slice wa M wc] 30)).alloc (.cells #[.int .i64 0, .int .i64 0, .int .i64 0, .int .i64 0, .int .i64 0, .int .i64 0, .int .i64 0, .int .i64 0, .int .i64 0, .int .i64 0, .bool false, .int .i64 0, .int .i64 0, .int .i64 0, .int .i64 0, .int .i64 0, .int .i64 0, .slice none 0 0, .slice none 0 0] 30)) w.heap.size 30 #[.int .i64 c.cB, .int .i64 c.cBeam, .int .i64 c.cDepth, .int .i64 c.cWin, .int .i64 c.cQs, .int .i64 c.cQr, .int .i64 c.cBatch, .int .i64 c.cPass, .int .i64 c.cMsg, .int .i64 c.cSeqs, .bool X, .int .i64 K, .int .i64 R, .int .i64 B, .int .i64 N, .int .i64 T, .int .i64 F, .slice ea E ec, .slice wa M wc] := (Box.new w 30 #[.int .i64 c.cB, .int .i64 c.cBeam, .int .i64 c.cDepth, .int .i64 c.cWin, .int .i64 c.cQs, .int .i64 c.cQr, .int .i64 c.cBatch, .int .i64 c.cPass, .int .i64 c.cMsg, .int .i64 c.cSeqs, .bool X, .int .i64 K, .int .i64 R, .int .i64 B, .int .i64 N, .int .i64 T, .int .i64 F, .slice ea E ec, .slice wa M wc]).next ((Below.refl _ _).alloc (Nat.le_refl _) _)
  have x2 := Box.new (w.alloc (.cells #[.int .i64 c.cB, .int .i64 c.cBeam, .int .i64 c.cDepth, .int .i64 c.cWin, .int .i64 c.cQs, .int .i64 c.cQr, .int .i64 c.cBatch, .int .i64 c.cPass, .int .i64 c.cMsg, .int .i64 c.cSeqs, .bool X, .int .i64 K, .int .i64 R, .int .i64 B, .int .i64 N, .int .i64 T, .int .i64 F, .slice ea E ec, .slice wa M wc] 30)) 30 #[.int .i64 0, .int .i64 0, .int .i64 0, .int .i64 0, .int .i64 0, .int .i64 0, .int .i64 0, .int .i64 0, .int .i64 0, .int .i64 0, .bool false, .int .i64 0, .int .i64 0, .int .i64 0, .int .i64 0, .int .i64 0, .int .i64 0, .slice none 0 0, .slice none 0 0]
  replace ha := ha.next bb
  have H1 := fun wx hx => sendCheck_any hs hE hM hm ea ec wa wc wx hx
  have H2 := fun wx hx => sendApart_any hs hE hM hm ea ec wa wc wx hx
  have HOK : Hid (okS s) := hOK
  have HS : Hid (SnIs s c X K R B N T F E M) := hs
  have HM9 : Hid (∀ e ∈ s.sW, e.eB.length ≤ 4096) := hm
  clear hs hm hOK
  go_enter Tryd.func7, Tryd.ntmps7
  go_wp2
  go_step3
  go_wp2_with (first | (refine wpList_load_box x1 rfl 30 _ rfl rfl _ Tryd.underlying30 rfl (by kernel_rfl) ?_))
  refine (H1 _ ha).mono ?_
  rintro e w1 ⟨⟨z, rfl, hz⟩, b1⟩
  obtain rfl : z = 0 := by
    rcases hz with ⟨h, _⟩ | ⟨_, h⟩
    · exact h
    · exact (h HOK.out).elim
  obtain ⟨n2, hn2⟩ : ∃ n, (w.alloc (.cells #[.int .i64 c.cB, .int .i64 c.cBeam, .int .i64 c.cDepth, .int .i64 c.cWin, .int .i64 c.cQs, .int .i64 c.cQr, .int .i64 c.cBatch, .int .i64 c.cPass, .int .i64 c.cMsg, .int .i64 c.cSeqs, .bool X, .int .i64 K, .int .i64 R, .int .i64 B, .int .i64 N, .int .i64 T, .int .i64 F, .slice ea E ec, .slice wa M wc] 30)).heap.size = n := ⟨_, rfl⟩
  have hn2s : w.heap.size + 1 = n2 := by rw [← hn2]; simp
  rw [hn2] at x2
  try rw [hn2s]
  have HN2 : Hid (w.heap.size + 1 = n2) := hn2s
  clear hn2 hn2s
  replace x1 := x1.next b1
  replace x2 := x2.next b1
  replace ha := ha.next b1
  replace bb := bb.trans (b1.mono bb.size)
  clear b1 H1 hz
  go_wp2_with (first | (refine wpList_load_box x1 rfl 30 _ rfl rfl _ Tryd.underlying30 rfl (by kernel_rfl) ?_))
  refine (H2 _ ha).mono ?_
  rintro e w2 ⟨fa, fc, va, vc, rfl, o2, b1⟩
  have hbs := bb.size
  replace x1 := x1.next b1
  replace x2 := x2.next b1
  replace bb := bb.trans (b1.mono bb.size)
  replace o2 := o2.lower (base' := w.heap.size) hbs
  clear b1 H2 ha hbs
  go_upto_region 5 with (first | (refine wpList_store_box x2 rfl 30 _ _ rfl rfl rfl rfl (by kernel_rfl) (by simp [Value.oneCell']) ?_))
  have x2b := x2.setRow #[.int .i64 c.cB, .int .i64 c.cBeam, .int .i64 c.cDepth, .int .i64 c.cWin, .int .i64 c.cQs, .int .i64 c.cQr, .int .i64 c.cBatch, .int .i64 c.cPass, .int .i64 c.cMsg, .int .i64 c.cSeqs, .bool X, .int .i64 K, .int .i64 R, .int .i64 B, .int .i64 N, .int .i64 T, .int .i64 F, .slice fa E fc, .slice va M vc]
  replace o2 := o2.put x2 (by decide) (by decide) (by decide) (fun g hg => setRow_other w2 n2 g #[.int .i64 c.cB, .int .i64 c.cBeam, .int .i64 c.cDepth, .int .i64 c.cWin, .int .i64 c.cQs, .int .i64 c.cQr, .int .i64 c.cBatch, .int .i64 c.cPass, .int .i64 c.cMsg, .int .i64 c.cSeqs, .bool X, .int .i64 K, .int .i64 R, .int .i64 B, .int .i64 N, .int .i64 T, .int .i64 F, .slice fa E fc, .slice va M vc] hg)
  replace bb := below_setRow bb (show w.heap.size ≤ n2 by have := HN2.out; omega) #[.int .i64 c.cB, .int .i64 c.cBeam, .int .i64 c.cDepth, .int .i64 c.cWin, .int .i64 c.cQs, .int .i64 c.cQr, .int .i64 c.cBatch, .int .i64 c.cPass, .int .i64 c.cMsg, .int .i64 c.cSeqs, .bool X, .int .i64 K, .int .i64 R, .int .i64 B, .int .i64 N, .int .i64 T, .int .i64 F, .slice fa E fc, .slice va M vc]
  clear x1 x2
  generalize w2.setRow n2 #[.int .i64 c.cB, .int .i64 c.cBeam, .int .i64 c.cDepth, .int .i64 c.cWin, .int .i64 c.cQs, .int .i64 c.cQr, .int .i64 c.cBatch, .int .i64 c.cPass, .int .i64 c.cMsg, .int .i64 c.cSeqs, .bool X, .int .i64 K, .int .i64 R, .int .i64 B, .int .i64 N, .int .i64 T, .int .i64 F, .slice fa E fc, .slice va M vc] = w3 at *
  have x2 := x2b
  clear x2b
  have HLx2 : Hid (w.heap.size ≤ n2) := by have := HN2.out; show w.heap.size ≤ n2; omega
  have c11 := x2.cell 11 _ rfl
  have l2 := x2.lt
  go_wp2_with fail
  refine (SatAdd_any K 1 _).mono ?_
  rintro e w4 ⟨rfl, rfl⟩
  clear c11 l2
  have cz := x2.cell 11 _ rfl
  have gz := x2.free 11
  have lz := x2.lt
  go_upto_region 6 with fail
  clear cz gz lz
  have qz : ∀ g, g ≠ n2 → (w3.setCell ⟨n2, 11, none⟩ (.int .i64 (satN K 1))).heap[g]? = w3.heap[g]? := fun g hg => Below.heap_setCell _ _ _ g hg
  replace o2 := o2.put x2 (by decide) (by decide) (by decide) qz
  replace x2 : Box (w3.setCell ⟨n2, 11, none⟩ (.int .i64 (satN K 1))) n2 30 #[.int .i64 c.cB, .int .i64 c.cBeam, .int .i64 c.cDepth, .int .i64 c.cWin, .int .i64 c.cQs, .int .i64 c.cQr, .int .i64 c.cBatch, .int .i64 c.cPass, .int .i64 c.cMsg, .int .i64 c.cSeqs, .bool X, .int .i64 (satN K 1), .int .i64 R, .int .i64 B, .int .i64 N, .int .i64 T, .int .i64 F, .slice fa E fc, .slice va M vc] := x2.set 11 _
  replace bb := bb.setCell (p := ⟨n2, 11, none⟩) (show w.heap.size ≤ n2 by have := HLx2.out; omega) (.int .i64 (satN K 1))
  clear qz
  generalize (w3.setCell ⟨n2, 11, none⟩ (.int .i64 (satN K 1))) = w4 at *
  obtain ⟨o21, r0, hr0, o22, o23⟩ := o2
  rw [HS.out.lW] at o22
  have hl0 : r0.length = M := by rw [← HS.out.lW, ← hr0, List.length_map]
  have HT : Hid (TkR w w4 s 0 n2 #[.int .i64 c.cB, .int .i64 c.cBeam, .int .i64 c.cDepth, .int .i64 c.cWin, .int .i64 c.cQs, .int .i64 c.cQr, .int .i64 c.cBatch, .int .i64 c.cPass, .int .i64 c.cMsg, .int .i64 c.cSeqs, .bool X, .int .i64 (satN K 1), .int .i64 R, .int .i64 B, .int .i64 N, .int .i64 T, .int .i64 F, .slice fa E fc, .slice va M vc] fa E fc va M vc (.slice none 0 0) 0 r0 []) := ⟨o22, o23, hl0, by rw [tickUp_zero]; exact hr0, World.ownsRow_nil _ _ _ _, ownL_nil _ _ _, by rw [packUpS_zero]; rfl, fun x _ p _ y hy => absurd hy (by simp), x2, o21, bb, Nat.le_refl _⟩
  have c18 := x2.cell 18 _ rfl
  have l2 := x2.lt
  clear o21 o22 o23 hr0 hl0 bb x2
  have hM0 : 0 ≤ M := Nat.zero_le _
  go_wp2
  go_step3
  go_wp2
  clear c18 l2
  go_loopg [3, 26] M (fun gk v i wr => ∃ (k m : Nat) (r : Lies Em) (q : Lies (List Int)), k + gk = M ∧ k ≤ winS s ∧ i = .int .i64 (k : Int) ∧ Hid (TkR w wr s k n2 #[.int .i64 c.cB, .int .i64 c.cBeam, .int .i64 c.cDepth, .int .i64 c.cWin, .int .i64 c.cQs, .int .i64 c.cQr, .int .i64 c.cBatch, .int .i64 c.cPass, .int .i64 c.cMsg, .int .i64 c.cSeqs, .bool X, .int .i64 (satN K 1), .int .i64 R, .int .i64 B, .int .i64 N, .int .i64 T, .int .i64 F, .slice fa E fc, .slice va M vc] fa E fc va M vc v m r q))
  case atStart => exact ⟨0, 0, r0, [], by omega, Nat.zero_le _, rfl, HT⟩
  case round =>
    clear HT
    obtain ⟨k, m, r, q, hkg, hkw, rfl, HT⟩ := hrel
    generalize hwr : wr = w5 at *
    clear hwr
    cases gk with
    | zero =>
      have hi : k = M := by omega
      have dlt : decide ((k : Int) < (M : Int)) = false := decide_eq_false (by omega)
      have dltn : decide (k < M) = false := decide_eq_false (by omega)
      have hk9 : k = winS s ∨ k = M ∧ k ≤ winS s := .inr ⟨hi, hkw⟩
      obtain ⟨pa, pc, rfl⟩ := row_shapeS HT.out.prow
      have HE : Hid (TkE w (w5.setRow n2 #[.int .i64 c.cB, .int .i64 c.cBeam, .int .i64 c.cDepth, .int .i64 c.cWin, .int .i64 c.cQs, .int .i64 c.cQr, .int .i64 c.cBatch, .int .i64 c.cPass, .int .i64 c.cMsg, .int .i64 c.cSeqs, .bool X, .int .i64 (satN K 1), .int .i64 R, .int .i64 B, .int .i64 N, .int .i64 T, .int .i64 F, .slice fa E fc, .slice va M vc]) s fa E fc va M vc (.slice pa m pc) m r q) := HT.out.fin HS.out.lW (hk9) (fun g hg => setRow_other w5 n2 g #[.int .i64 c.cB, .int .i64 c.cBeam, .int .i64 c.cDepth, .int .i64 c.cWin, .int .i64 c.cQs, .int .i64 c.cQr, .int .i64 c.cBatch, .int .i64 c.cPass, .int .i64 c.cMsg, .int .i64 c.cSeqs, .bool X, .int .i64 (satN K 1), .int .i64 R, .int .i64 B, .int .i64 N, .int .i64 T, .int .i64 F, .slice fa E fc, .slice va M vc] hg)
      have x2 := HT.out.box
      have xE := x2.setRow #[.int .i64 c.cB, .int .i64 c.cBeam, .int .i64 c.cDepth, .int .i64 c.cWin, .int .i64 c.cQs, .int .i64 c.cQr, .int .i64 c.cBatch, .int .i64 c.cPass, .int .i64 c.cMsg, .int .i64 c.cSeqs, .bool X, .int .i64 (satN K 1), .int .i64 R, .int .i64 B, .int .i64 N, .int .i64 T, .int .i64 F, .slice fa E fc, .slice va M vc]
      have bE := below_setRow HT.out.below HLx2.out #[.int .i64 c.cB, .int .i64 c.cBeam, .int .i64 c.cDepth, .int .i64 c.cWin, .int .i64 c.cQs, .int .i64 c.cQr, .int .i64 c.cBatch, .int .i64 c.cPass, .int .i64 c.cMsg, .int .i64 c.cSeqs, .bool X, .int .i64 (satN K 1), .int .i64 R, .int .i64 B, .int .i64 N, .int .i64 T, .int .i64 F, .slice fa E fc, .slice va M vc]
      clear HT
      clear hi hkg hkw hk9
      go_wp2_with (first | (refine wpList_load_box x2 rfl 30 _ rfl rfl _ Tryd.underlying30 rfl (by kernel_rfl) ?_) | (refine wpList_store_box x2 rfl 30 _ _ rfl rfl rfl rfl (by kernel_rfl) (by simp [Value.oneCell']) ?_))
      rw [Exit.noGoto_ret]
      exact bodyPost_ret (results_boxR3 rfl _ _ rfl xE Tryd.underlying30 rfl (by kernel_rfl)) rfl ⟨fa, fc, va, vc, pa, m, pc, r, q, rfl, HE, bE⟩
    | succ g =>
      have hlt : k < M := by omega
      have dlt : decide ((k : Int) < (M : Int)) = true := decide_eq_true (by omega)
      have dltn : decide (k < M) = true := decide_eq_true hlt
      obtain ⟨e, he⟩ : ∃ y, s.sW[k]? = some y := ⟨s.sW[k]'(by rw [HS.out.lW]; exact hlt), by simp⟩
      have HE0 : Hid (s.sW[k]? = some e) := he
      obtain ⟨⟨e', ps⟩, hx⟩ : ∃ x, r[k]? = some x := ⟨r[k]'(by rw [HT.out.len]; exact hlt), by simp⟩
      obtain rfl : e' = e := by
        have h := congrArg (fun l : List Em => l[k]?) HT.out.same
        simp only [List.getElem?_map, hx, Option.map_some, tickUp_here, he] at h
        exact Option.some.inj h
      have hmem := List.mem_of_getElem? hx
      obtain ⟨p, hps, _⟩ := (HT.out.own.subs _ hmem).held.one
      have hps : ps = [p] := hps
      subst hps
      have hpo : w5.ownsRow w.heap.size 5 1 p e'.eB.length (e'.eB.map (Value.int .u8)) := (HT.out.own.subs _ hmem).2 0 p _ rfl rfl
      obtain ⟨pa, pc, rfl⟩ := row_shapeS hpo
      obtain ⟨x, hxl⟩ : ∃ x, e'.eB.length = x := ⟨_, rfl⟩
      rw [hxl] at hpo hx
      have hp' : Holds .u8 w5.heap.size w5 (.slice pa x pc) e'.eB := by rw [← hxl] at hpo; have h := holds_of_row hpo; rw [hxl] at h; exact h
      have HK : Hid (r[k]? = some (e', [.slice pa x pc])) := hx
      have HX : Hid (e'.eB.length = x) := hxl
      have hem := List.mem_of_getElem? he
      have hx4 : x ≤ 4096 := hxl ▸ HM9.out e' hem
      have hrow := HT.out.row
      obtain ⟨gv, gc, hgv⟩ := row_form hrow (by omega)
      obtain ⟨rfl, _, rfl⟩ := Value.slice.inj hgv
      obtain ⟨A, hA⟩ : ∃ A, e'.eA = A := ⟨_, rfl⟩
      have HA : Hid (e'.eA = A) := hA
      have hcell := fun j u hu => hrow.cells (g := gv) rfl _ _ (cellsK_get emK HK.out j u hu)
      have hc0 : w5.cell? ⟨gv, k * 5, none⟩ = some (.int .i64 e'.eS) := by
        have h := hcell 0 _ rfl
        rw [Addr.add_lit, Nat.zero_add] at h
        exact h
      have hc1 : w5.cell? ⟨gv, k * 5 + 1, none⟩ = some (.int .i64 e'.eR) := by
        have h := hcell 1 _ rfl
        rw [Addr.add_lit, Nat.zero_add] at h
        exact h
      have hc2 : w5.cell? ⟨gv, k * 5 + 2, none⟩ = some (.int .i64 e'.eF) := by
        have h := hcell 2 _ rfl
        rw [Addr.add_lit, Nat.zero_add] at h
        exact h
      have hc3 : w5.cell? ⟨gv, k * 5 + 3, none⟩ = some (.bool e'.eA) := by
        have h := hcell 3 _ rfl
        rw [Addr.add_lit, Nat.zero_add] at h
        exact h
      have hc4 : w5.cell? ⟨gv, k * 5 + 4, none⟩ = some (.slice pa x pc) := by
        have h := hcell 4 _ rfl
        rw [Addr.add_lit, Nat.zero_add] at h
        exact h
      rw [hA] at hc3
      have hgl := (hrow.lt gv rfl).2
      have HER : Hid (errE c e'.eS e'.eR e'.eF x = 0) := by
        have h := HALL.out k e' he
        unfold okM at h
        rw [hxl] at h
        exact errE_zero.2 ⟨HC.out, h⟩
      have HBZ : Hid (∀ z ∈ e'.eB, 0 ≤ z ∧ z ≤ 255) := HBY.out e' hem
      have HH : Hid (Holds .u8 w5.heap.size w5 (.slice pa x pc) e'.eB) := hp'
      clear hem hpo hp' hxl hx he hA hcell hrow hmem hgv
      have x2 := HT.out.box
      have c18 := x2.cell 18 _ rfl
      have l2 := x2.lt
      have bA : Below w5.heap.size w5 (w5.alloc (.cells #[.int .i64 e'.eS, .int .i64 e'.eR, .int .i64 e'.eF, .bool A, .slice pa x pc] 47)) := (Below.refl _ _).alloc (Nat.le_refl _) _
      have x7 := Box.new w5 47 #[.int .i64 e'.eS, .int .i64 e'.eR, .int .i64 e'.eF, .bool A, .slice pa x pc]
      go_upto_region 9 with fail
      clear c18 l2 hc0 hc1 hc2 hc3 hc4 hgl x2
      have HT6 : Hid (TkR w (w5.alloc (.cells #[.int .i64 e'.eS, .int .i64 e'.eR, .int .i64 e'.eF, .bool A, .slice pa x pc] 47)) s k n2 #[.int .i64 c.cB, .int .i64 c.cBeam, .int .i64 c.cDepth, .int .i64 c.cWin, .int .i64 c.cQs, .int .i64 c.cQr, .int .i64 c.cBatch, .int .i64 c.cPass, .int .i64 c.cMsg, .int .i64 c.cSeqs, .bool X, .int .i64 (satN K 1), .int .i64 R, .int .i64 B, .int .i64 N, .int .i64 T, .int .i64 F, .slice fa E fc, .slice (some ⟨gv, 0, none⟩) M vc] fa E fc (some ⟨gv, 0, none⟩) M vc u3 m r q) := HT.out.next bA
      have HH6 : Hid (Holds .u8 (w5.alloc (.cells #[.int .i64 e'.eS, .int .i64 e'.eR, .int .i64 e'.eF, .bool A, .slice pa x pc] 47)).heap.size (w5.alloc (.cells #[.int .i64 e'.eS, .int .i64 e'.eR, .int .i64 e'.eF, .bool A, .slice pa x pc] 47)) (.slice pa x pc) e'.eB) := HH.out.next bA
      obtain ⟨B7, hB7⟩ : ∃ k, w5.heap.size = k := ⟨_, rfl⟩
      rw [hB7] at x7 ⊢
      clear bA hB7 HT HH
      generalize w5.alloc (.cells #[.int .i64 e'.eS, .int .i64 e'.eR, .int .i64 e'.eF, .bool A, .slice pa x pc] 47) = w6 at *
      have x2 := HT6.out.box
      have c3 := x2.cell 3 _ rfl
      have l2 := x2.lt
      by_cases hW : k = winS s
      · have dW : ((k : Int) == c.cWin) = true := by rw [beq_iff_eq, ← HWIN.out, hW]
        have hk9 : k = winS s ∨ k = M ∧ k ≤ winS s := .inl hW
        obtain ⟨za, zc, rfl⟩ := row_shapeS HT6.out.prow
        have HE : Hid (TkE w (w6.setRow n2 #[.int .i64 c.cB, .int .i64 c.cBeam, .int .i64 c.cDepth, .int .i64 c.cWin, .int .i64 c.cQs, .int .i64 c.cQr, .int .i64 c.cBatch, .int .i64 c.cPass, .int .i64 c.cMsg, .int .i64 c.cSeqs, .bool X, .int .i64 (satN K 1), .int .i64 R, .int .i64 B, .int .i64 N, .int .i64 T, .int .i64 F, .slice fa E fc, .slice (some ⟨gv, 0, none⟩) M vc]) s fa E fc (some ⟨gv, 0, none⟩) M vc (.slice za m zc) m r q) := HT6.out.fin HS.out.lW (hk9) (fun g hg => setRow_other w6 n2 g #[.int .i64 c.cB, .int .i64 c.cBeam, .int .i64 c.cDepth, .int .i64 c.cWin, .int .i64 c.cQs, .int .i64 c.cQr, .int .i64 c.cBatch, .int .i64 c.cPass, .int .i64 c.cMsg, .int .i64 c.cSeqs, .bool X, .int .i64 (satN K 1), .int .i64 R, .int .i64 B, .int .i64 N, .int .i64 T, .int .i64 F, .slice fa E fc, .slice (some ⟨gv, 0, none⟩) M vc] hg)
        have xE := x2.setRow #[.int .i64 c.cB, .int .i64 c.cBeam, .int .i64 c.cDepth, .int .i64 c.cWin, .int .i64 c.cQs, .int .i64 c.cQr, .int .i64 c.cBatch, .int .i64 c.cPass, .int .i64 c.cMsg, .int .i64 c.cSeqs, .bool X, .int .i64 (satN K 1), .int .i64 R, .int .i64 B, .int .i64 N, .int .i64 T, .int .i64 F, .slice fa E fc, .slice (some ⟨gv, 0, none⟩) M vc]
        have bE := below_setRow HT6.out.below HLx2.out #[.int .i64 c.cB, .int .i64 c.cBeam, .int .i64 c.cDepth, .int .i64 c.cWin, .int .i64 c.cQs, .int .i64 c.cQr, .int .i64 c.cBatch, .int .i64 c.cPass, .int .i64 c.cMsg, .int .i64 c.cSeqs, .bool X, .int .i64 (satN K 1), .int .i64 R, .int .i64 B, .int .i64 N, .int .i64 T, .int .i64 F, .slice fa E fc, .slice (some ⟨gv, 0, none⟩) M vc]
        clear HT6 HH6 x7 hk9 hW hkg hkw
        go_wp2_with (first | (refine wpList_load_box x2 rfl 30 _ rfl rfl _ Tryd.underlying30 rfl (by kernel_rfl) ?_) | (refine wpList_store_box x2 rfl 30 _ _ rfl rfl rfl rfl (by kernel_rfl) (by simp [Value.oneCell']) ?_))
        exact bodyPost_ret (results_boxR3 rfl _ _ rfl xE Tryd.underlying30 rfl (by kernel_rfl)) rfl ⟨fa, fc, some ⟨gv, 0, none⟩, vc, za, m, zc, r, q, rfl, HE, bE⟩
      · have dW : ((k : Int) == c.cWin) = false := by rw [beq_eq_false_iff_ne, ← HWIN.out]; omega
        have HKW : Hid (k < winS s) := by show k < winS s; omega
        clear hW hkw
        have c20 := x2.cell 0 _ rfl
        have c21 := x2.cell 1 _ rfl
        have c22 := x2.cell 2 _ rfl
        have c23 := x2.cell 3 _ rfl
        have c24 := x2.cell 4 _ rfl
        have c25 := x2.cell 5 _ rfl
        have c26 := x2.cell 6 _ rfl
        have c27 := x2.cell 7 _ rfl
        have c28 := x2.cell 8 _ rfl
        have c29 := x2.cell 9 _ rfl
        have l7 := x7.lt
        cases A with
        | true =>
          have HTK := EmitTick_acked c e'.eS e'.eR e'.eF pa x pc HER.out e'.eB HX.out hx4 w6 HH6.out
          go_wp2_with (first | (refine wpList_load_box x7 rfl 47 _ rfl rfl _ Tryd.underlying47 rfl (by kernel_rfl) ?_))
          refine HTK.mono ?_
          rintro e9 w7 ⟨ra, rc, rfl, o9, b9⟩
          have HT7 := HT6.out.next b9
          have b10 : Below w7.heap.size w7 (w7.alloc (.cells #[.int .i64 e'.eS, .int .i64 e'.eR, .int .i64 e'.eF, .bool true, .slice ra x rc] 47)) := (Below.refl _ _).alloc (Nat.le_refl _) _
          have HT8 := HT7.next b10
          have HTN : Hid (TkR w (w7.alloc (.cells #[.int .i64 e'.eS, .int .i64 e'.eR, .int .i64 e'.eF, .bool true, .slice ra x rc] 47)) s (k + 1) n2 #[.int .i64 c.cB, .int .i64 c.cBeam, .int .i64 c.cDepth, .int .i64 c.cWin, .int .i64 c.cQs, .int .i64 c.cQr, .int .i64 c.cBatch, .int .i64 c.cPass, .int .i64 c.cMsg, .int .i64 c.cSeqs, .bool X, .int .i64 (satN K 1), .int .i64 R, .int .i64 B, .int .i64 N, .int .i64 T, .int .i64 F, .slice fa E fc, .slice (some ⟨gv, 0, none⟩) M vc] fa E fc (some ⟨gv, 0, none⟩) M vc u3 m r q) := ⟨HT8.row, HT8.own, HT8.len, by rw [tickUp_acked HE0.out HA.out]; exact HT8.same, HT8.prow, HT8.pown, by rw [packUpS_acked HKW.out HE0.out HA.out]; exact HT8.psame, HT8.apart, HT8.box, HT8.ends, HT8.below, Nat.le_succ_of_le HT8.few⟩
          clear HTK HT6 HH6 HT7 HT8 b9 b10 o9 x7 x2 l7 l2 c3 c20 c21 c22 c23 c24 c25 c26 c27 c28 c29
          go_wp2
          go_roundg g
          case measure => omega
          case rel => exact ⟨k + 1, m, r, q, by omega, HKW.out, by go_num, HTN⟩
        | false =>
          have HTK := EmitTick_go c e'.eS e'.eR e'.eF pa x pc HER.out e'.eB HX.out HBZ.out w6 (HF0.out.next HT6.out.below) HH6.out
          obtain ⟨y, hy⟩ : ∃ y, (emN c e'.eF).toNat + 11 = y := ⟨_, rfl⟩
          obtain ⟨er, her⟩ : ∃ z, emR c e'.eR e'.eF = z := ⟨_, rfl⟩
          obtain ⟨ef, hef⟩ : ∃ z, emF c e'.eF + emN c e'.eF = z := ⟨_, rfl⟩
          obtain ⟨xs, hxs⟩ : ∃ z, emP c e'.eS e'.eR e'.eF e'.eB = z := ⟨_, rfl⟩
          rw [hy, her, hef, hxs] at HTK
          have dy : ((y : Int) == 0) = false := by rw [beq_eq_false_iff_ne]; omega
          have HPM : Hid (packM s.sC e' = some xs) := by
            show packM s.sC e' = some xs
            rw [HS.out.eC]
            exact packM_some.2 ⟨HA.out, hxs.symm⟩
          have HTM : Hid (tickM s.sC e' = ⟨e'.eS, er, ef, false, e'.eB⟩) := by
            show tickM s.sC e' = _
            rw [HS.out.eC, tickM_more HA.out, her, hef]
          clear hy her hef hxs
          go_wp2_with (first | (refine wpList_load_box x7 rfl 47 _ rfl rfl _ Tryd.underlying47 rfl (by kernel_rfl) ?_))
          refine HTK.mono ?_
          rintro e9 w7 ⟨ra, rc, qa, qc, rfl, o9, oz, hap, b9⟩
          have HLT : Hid ((∀ u ∈ r, ∀ p ∈ u.2, ∀ g, p.ownBlock = some g → g < w6.heap.size) ∧ ∀ u ∈ q, ∀ p ∈ u.2, ∀ g, p.ownBlock = some g → g < w6.heap.size) := ⟨fun u hu p hp g hg => (HT6.out.own.lt u hu p hp g hg).2, fun u hu p hp g hg => (HT6.out.pown.lt u hu p hp g hg).2⟩
          have HMM : Hid (w.heap.size ≤ w6.heap.size) := HT6.out.below.size
          have HT7 : Hid (TkR w w7 s k n2 #[.int .i64 c.cB, .int .i64 c.cBeam, .int .i64 c.cDepth, .int .i64 c.cWin, .int .i64 c.cQs, .int .i64 c.cQr, .int .i64 c.cBatch, .int .i64 c.cPass, .int .i64 c.cMsg, .int .i64 c.cSeqs, .bool X, .int .i64 (satN K 1), .int .i64 R, .int .i64 B, .int .i64 N, .int .i64 T, .int .i64 F, .slice fa E fc, .slice (some ⟨gv, 0, none⟩) M vc] fa E fc (some ⟨gv, 0, none⟩) M vc u3 m r q) := HT6.out.next b9
          have b10 : Below w7.heap.size w7 (w7.alloc (.cells #[.int .i64 e'.eS, .int .i64 er, .int .i64 ef, .bool false, .slice ra x rc] 47)) := (Below.refl _ _).alloc (Nat.le_refl _) _
          have x8 := Box.new w7 47 #[.int .i64 e'.eS, .int .i64 er, .int .i64 ef, .bool false, .slice ra x rc]
          clear HTK HT6 HH6 b9 x7 x2 l7 c20 c21 c22 c23 c24 c25 c26 c27 c28 c29
          go_upto_region 14 with fail
          clear l2 c3
          have HT8 : Hid (TkR w (w7.alloc (.cells #[.int .i64 e'.eS, .int .i64 er, .int .i64 ef, .bool false, .slice ra x rc] 47)) s k n2 #[.int .i64 c.cB, .int .i64 c.cBeam, .int .i64 c.cDepth, .int .i64 c.cWin, .int .i64 c.cQs, .int .i64 c.cQr, .int .i64 c.cBatch, .int .i64 c.cPass, .int .i64 c.cMsg, .int .i64 c.cSeqs, .bool X, .int .i64 (satN K 1), .int .i64 R, .int .i64 B, .int .i64 N, .int .i64 T, .int .i64 F, .slice fa E fc, .slice (some ⟨gv, 0, none⟩) M vc] fa E fc (some ⟨gv, 0, none⟩) M vc u3 m r q) := HT7.out.next b10
          replace o9 := rowK_below o9 b10 (Nat.le_refl _)
          replace oz := rowK_below oz b10 (Nat.le_refl _)
          obtain ⟨B8, hB8⟩ : ∃ k, w7.heap.size = k := ⟨_, rfl⟩
          rw [hB8] at x8 ⊢
          clear b10 hB8 HT7 dy dW
          generalize w7.alloc (.cells #[.int .i64 e'.eS, .int .i64 er, .int .i64 ef, .bool false, .slice ra x rc] 47) = w8 at *
          have hyx : xs.length = y := by have := oz.1; simpa using this
          have HYX : Hid (xs.length = y) := hyx
          have HOZ : Hid (w8.ownsRow w6.heap.size 5 1 (.slice qa y qc) xs.length (xs.map (Value.int .u8))) := by
            show w8.ownsRow w6.heap.size 5 1 (.slice qa y qc) xs.length (xs.map (Value.int .u8))
            rw [hyx]
            exact oz
          have HO9 : Hid (w8.ownsRow w6.heap.size 5 1 (.slice ra x rc) x (e'.eB.map (Value.int .u8))) := o9
          have HAP : Hid (∀ g, (Value.slice ra x rc).ownBlock = some g → (Value.slice qa y qc).ownBlock ≠ some g) := hap
          clear oz o9 hap hyx
          have x2 := HT8.out.box
          have c18 := x2.cell 18 _ rfl
          have l2 := x2.lt
          have c80 := x8.cell 0 _ rfl
          have c81 := x8.cell 1 _ rfl
          have c82 := x8.cell 2 _ rfl
          have c83 := x8.cell 3 _ rfl
          have c84 := x8.cell 4 _ rfl
          have l8 := x8.lt
          have hrow := HT8.out.row
          obtain ⟨z0, e0⟩ := row_some hrow (k * 5) (by omega)
          obtain ⟨z1, e1⟩ := row_some hrow (k * 5 + 1) (by omega)
          obtain ⟨z2, e2⟩ := row_some hrow (k * 5 + 2) (by omega)
          obtain ⟨z3, e3⟩ := row_some hrow (k * 5 + 3) (by omega)
          obtain ⟨z4, e4⟩ := row_some hrow (k * 5 + 4) (by omega)
          have g0 := hrow.frozenAt (k * 5)
          have g1 := hrow.frozenAt (k * 5 + 1)
          have g2 := hrow.frozenAt (k * 5 + 2)
          have g3 := hrow.frozenAt (k * 5 + 3)
          have g4 := hrow.frozenAt (k * 5 + 4)
          obtain ⟨hp1, hg1⟩ := row_put (K := emK) hrow HT8.out.len k hlt (⟨e'.eS, er, ef, false, e'.eB⟩, [.slice ra x rc])
          have HP1 : Hid (((((((w8.setCell ⟨gv, k * 5, none⟩ (.int .i64 e'.eS)).setCell ⟨gv, k * 5 + 1, none⟩ (.int .i64 er)).setCell ⟨gv, k * 5 + 2, none⟩ (.int .i64 ef)).setCell ⟨gv, k * 5 + 3, none⟩ (.bool false)).setCell ⟨gv, k * 5 + 4, none⟩ (.slice ra x rc))).ownsRow w.heap.size 47 5 (.slice (some ⟨gv, 0, none⟩) M vc) M (cellsK emK (r.set k (⟨e'.eS, er, ef, false, e'.eB⟩, [.slice ra x rc])))) := hp1
          have HG1 : Hid (w8.grownBy ((((((w8.setCell ⟨gv, k * 5, none⟩ (.int .i64 e'.eS)).setCell ⟨gv, k * 5 + 1, none⟩ (.int .i64 er)).setCell ⟨gv, k * 5 + 2, none⟩ (.int .i64 ef)).setCell ⟨gv, k * 5 + 3, none⟩ (.bool false)).setCell ⟨gv, k * 5 + 4, none⟩ (.slice ra x rc))) (some gv)) := hg1
          clear hp1 hg1 x8 x2
          go_upto_region 15 with fail
          clear hrow c18 l2 l8 c80 e0 g0 c81 e1 g1 c82 e2 g2 c83 e3 g3 c84 e4 g4
          generalize ((((((w8.setCell ⟨gv, k * 5, none⟩ (.int .i64 e'.eS)).setCell ⟨gv, k * 5 + 1, none⟩ (.int .i64 er)).setCell ⟨gv, k * 5 + 2, none⟩ (.int .i64 ef)).setCell ⟨gv, k * 5 + 3, none⟩ (.bool false)).setCell ⟨gv, k * 5 + 4, none⟩ (.slice ra x rc))) = w9 at *
          have hprow := HT8.out.prow.kept HG1.out (rowsK_unlike HT8.out.prow HT8.out.row (by decide))
          have hbs := (HT8.out.below.grown HG1.out HT8.out.below.size (fun q e => by cases e; exact (HT8.out.row.lt gv rfl).1)).size
          obtain ⟨v11, w11, hr11, o11, g11⟩ := run_append_tx u3 m w.heap.size q xs (.slice qa y qc) ⟨_, _, _, rfl⟩ 39 w9 hprow hbs (by have := HT8.out.few; omega)
          have HTN : Hid (TkR w w11 s (k + 1) n2 #[.int .i64 c.cB, .int .i64 c.cBeam, .int .i64 c.cDepth, .int .i64 c.cWin, .int .i64 c.cQs, .int .i64 c.cQr, .int .i64 c.cBatch, .int .i64 c.cPass, .int .i64 c.cMsg, .int .i64 c.cSeqs, .bool X, .int .i64 (satN K 1), .int .i64 R, .int .i64 B, .int .i64 N, .int .i64 T, .int .i64 F, .slice fa E fc, .slice (some ⟨gv, 0, none⟩) M vc] fa E fc (some ⟨gv, 0, none⟩) M vc v11 (m + 1) (r.set k (⟨e'.eS, er, ef, false, e'.eB⟩, [.slice ra x rc])) (q ++ [(xs, [.slice qa y qc])])) := HT8.out.step hlt HKW.out HE0.out HPM.out HTM.out HK.out HMM.out HX.out HO9.out HOZ.out HAP.out HLT.out HP1.out HG1.out o11 g11
          have HR11 : Hid _ := hr11
          clear hr11 o11 g11 hprow hbs HT8 HP1 HG1 HOZ HO9
          go_wp2_with (at_builtin; refine wpList_append_k rfl _ _ 39 rfl _ _ rfl rfl _ _ HR11.out ?_)
          go_roundg g
          case measure => omega
          case rel => exact ⟨k + 1, m + 1, _, _, by omega, HKW.out, by go_num, HTN⟩

end Go.Proofs.YtmjidhnlofpliaaDoor

/-
  What send.above and send.markHad answer. (Written by tpl_sendcode.py.)
-/
namespace Go.Proofs.YtmjidhnlofpliaaDoor
open Go.RowKit

set_option maxRecDepth 100000 in
set_option maxHeartbeats 4000000 in
theorem sendAbove_ok (a : Option Addr) (n cap : Nat) (es : List Int) (b : Int) (hn : es.length = n) (hE : n ≤ 1000000) (w : World) (base : Nat) (ho : w.ownsRow base 3 1 (.slice a n cap) n (es.map (Value.int .i64))) :
    Calls Tryd.prog 26 #[.slice a n cap, .int .i64 b] w fun e W' => ∃ a' m c', e = .returned (.slice a' m c') ∧ RowAt base w 3 1 (.slice a' m c') m ((es.dropWhile fun x => decide (x ≤ b)).map (Value.int .i64)) ∧ w = W' := by
  have HN : Hid (es.length = n) := hn
  have hcap := rowK_cap ho
  have hz := (holds_of_row ho)
  have HA : Hid (∀ k x, es[k]? = some x → ∃ b off, a = some ⟨b, off, none⟩ ∧ w.cell? ⟨b, off + k, none⟩ = some (.int .i64 x)) := fun k x hx => by
    have hk := (List.getElem?_eq_some_iff.1 hx).1
    rcases hz with ⟨_, e⟩ | ⟨b, off, cap, e, _, hc⟩
    · rw [e] at hk; simp at hk
    · cases e
      refine ⟨b, off, rfl, ?_⟩
      rw [hc k hk, hx]
      rfl
  have HDR : Hid (∀ (k : Nat), k ≤ n → ((es.dropWhile fun x => decide (x ≤ b)) = es.drop k) → ∀ (a' : Option Addr) (c' : Nat), (∀ g o, a = some ⟨g, o, none⟩ → k < n → a' = some ⟨g, o + k * 1, none⟩ ∧ c' = cap - k) → (k = n → a' = none → c' = 0) → RowAt base w 3 1 (.slice a' (n - k) c') (n - k) ((es.dropWhile fun x => decide (x ≤ b)).map (Value.int .i64))) := fun k hk he a' c' h1 h2 => by
    have h := (RowAt.ofOwn ho).drop hk h1 h2
    rw [he, List.map_drop]
    simpa using h
  have HNN : Hid (a = none → cap = 0) := fun h => by
    subst h
    rcases ho.2 with ⟨e, _⟩ | ⟨g, cap', cur, e, _⟩
    · cases e; rfl
    · cases e
  have HSO : Hid (a = none ∨ ∃ gg, a = some ⟨gg, 0, none⟩) := by
    rcases ho.2 with ⟨e, _⟩ | ⟨g, cap', cur, e, _⟩
    · cases e; exact .inl rfl
    · cases e; exact .inr ⟨_, rfl⟩
  clear hn ho hz
  go_enter Tryd.func26, Tryd.ntmps26
  go_wp2
  go_step3
  go_wp2
  go_step3
  go_wp2
  go_loopg [5, 10] n (fun gk g i wr => ∃ k : Nat, k + gk = n ∧ i = .int .i64 (k : Int) ∧ g = .int .i64 (k : Int) ∧ Hid (∀ (j : Nat) (x : Int), j < k → es[j]? = some x → x ≤ b) ∧ wr = w)
  case atStart => exact ⟨0, by omega, rfl, rfl, (fun j x hj => absurd hj (Nat.not_lt_zero _)), rfl⟩
  case round =>
    obtain ⟨k, hkg, rfl, rfl, HR, rfl⟩ := hrel
    cases gk with
    | zero =>
      have hkn : k = n := by omega
      have HD : Hid ((es.dropWhile fun x => decide (x ≤ b)) = es.drop k) := dropWhile_at (fun j x hj hx => HR.out j x hj hx) (fun x hx => by have := (List.getElem?_eq_some_iff.1 hx).1; have := HN.out; omega) (by rw [HN.out, hkn]; exact Nat.le_refl _)
      have dlt : decide ((k : Int) < (n : Int)) = false := decide_eq_false (by omega)
      have dltn : decide (k < n) = false := decide_eq_false (by omega)
      clear hkn
      by_cases hc : cap = k
      · have n1 : (cap = k) = True := eq_true hc
        have HK : Hid (k = n ∧ cap - k = 0) := by constructor <;> omega
        clear hc hcap
        go_wp2
        try rw [Exit.noGoto_ret]
        go_ret
        exact ⟨_, _, _, rfl, HDR.out k (by have := HK.out; omega) HD.out _ _ (fun _ _ _ h => by have := HK.out; omega) (fun _ h => by first | rfl | exact HK.out.2 | omega | exact HNN.out h), rfl⟩
      · have n1 : ¬ cap = k := hc
        have HK : Hid (k ≤ n) := by show k ≤ n; omega
        obtain ⟨gg, rfl⟩ : ∃ gg, a = some ⟨gg, 0, none⟩ := by
          rcases HSO.out with h | h
          · have := HNN.out h; omega
          · exact h
        go_wp2
        try rw [Exit.noGoto_ret]
        go_ret
        exact ⟨_, _, _, rfl, HDR.out k HK.out HD.out _ _ (fun g o h _ => by cases h; exact ⟨by simp, rfl⟩) (fun _ h => by cases h), rfl⟩
    | succ g =>
      have hlt : k < n := by omega
      have dlt : decide ((k : Int) < (n : Int)) = true := decide_eq_true (by omega)
      have dltn : decide (k < n) = true := decide_eq_true hlt
      obtain ⟨x, hx⟩ : ∃ x, es[k]? = some x := ⟨es[k]'(by rw [HN.out]; exact hlt), by simp⟩
      obtain ⟨bb, off, rfl, hcx⟩ := HA.out k x hx
      have HX : Hid (es[k]? = some x) := hx
      clear hx
      by_cases hq : b < x
      · have dq : decide (b < x) = true := decide_eq_true hq
        have HD : Hid ((es.dropWhile fun x => decide (x ≤ b)) = es.drop k) := dropWhile_at (fun j x hj hx => HR.out j x hj hx) (fun y hy => by rw [HX.out] at hy; cases hy; exact hq) (by rw [HN.out]; omega)
        clear hq
        obtain ⟨gg, hgg⟩ : ∃ gg, (some (⟨bb, off, none⟩ : Addr)) = some ⟨gg, 0, none⟩ := by
          rcases HSO.out with h | h
          · cases h
          · exact h
        obtain ⟨rfl, rfl, _⟩ := Addr.mk.inj (Option.some.inj hgg)
        clear hgg
        rw [Nat.zero_add] at hcx
        by_cases hc : cap = k
        · have n1 : (cap = k) = True := eq_true hc
          have HK : Hid (k = n ∧ cap - k = 0) := by constructor <;> omega
          clear hc hcap
          go_wp2
          try rw [Exit.noGoto_exit]
          try go_wp2
          try rw [Exit.noGoto_ret]
          go_ret
          exact ⟨_, _, _, rfl, HDR.out k (by have := HK.out; omega) HD.out _ _ (fun _ _ _ h => by have := HK.out; omega) (fun _ h => by first | rfl | exact HK.out.2 | omega | exact HNN.out h), rfl⟩
        · have n1 : ¬ cap = k := hc
          have HK : Hid (k ≤ n) := by show k ≤ n; omega
          go_wp2
          try rw [Exit.noGoto_exit]
          try go_wp2
          try rw [Exit.noGoto_ret]
          go_ret
          exact ⟨_, _, _, rfl, HDR.out k HK.out HD.out _ _ (fun g o h _ => by cases h; exact ⟨by simp, rfl⟩) (fun _ h => by cases h), rfl⟩
      · have dq : decide (b < x) = false := decide_eq_false hq
        have HQ : Hid (x ≤ b) := by show x ≤ b; omega
        clear hq
        go_wp2
        go_roundg g
        case measure => omega
        case rel =>
          refine ⟨k + 1, by omega, by go_num, by go_num, fun j y hj hy => ?_, by trivial⟩
          by_cases hjk : j = k
          · subst hjk
            rw [HX.out] at hy
            cases hy
            exact HQ.out
          · exact HR.out j y (by omega) hy

/-- The first k, marked by an ack. -/
def markUp (r : Lies Em) (n : Int) (b k : Nat) : Lies Em := r.mapIdx fun i x => if i < k then (ackM n b x.1, x.2) else x
theorem markUp_zero (r : Lies Em) (n : Int) (b : Nat) : markUp r n b 0 = r := by
  unfold markUp
  apply List.ext_getElem?
  intro i
  rw [List.getElem?_mapIdx]
  cases r[i]? <;> simp
theorem markUp_len (r : Lies Em) (n : Int) (b k : Nat) : (markUp r n b k).length = r.length := by unfold markUp; rw [List.length_mapIdx]
theorem markUp_get (r : Lies Em) (n : Int) (b k i : Nat) : (markUp r n b k)[i]? = r[i]?.map fun x => if i < k then (ackM n b x.1, x.2) else x := by unfold markUp; rw [List.getElem?_mapIdx]
theorem markUp_here {r : Lies Em} {n : Int} {b k : Nat} : (markUp r n b k)[k]? = r[k]? := by
  rw [markUp_get]
  cases r[k]? <;> simp
theorem markUp_succ {r : Lies Em} {n : Int} {b k : Nat} {x : Em × List Value} (h : r[k]? = some x) : (markUp r n b k).set k (ackM n b x.1, x.2) = markUp r n b (k + 1) := by
  apply List.ext_getElem?
  intro i
  rw [markUp_get]
  by_cases hi : k = i
  · subst hi
    rw [List.getElem?_set_self (by rw [markUp_len]; exact (List.getElem?_eq_some_iff.1 h).1), h]
    simp
  · rw [List.getElem?_set_ne hi, markUp_get]
    have : (i < k) = (i < k + 1) := propext ⟨fun h => by omega, fun h => by omega⟩
    simp only [this]
theorem markUp_not {r : Lies Em} {n : Int} {b k : Nat} {x : Em × List Value} (h : r[k]? = some x) (hh : hasA n b x.1.eS = false) : markUp r n b (k + 1) = markUp r n b k := by
  rw [← markUp_succ h]
  have : (ackM n b x.1, x.2) = x := by
    unfold ackM
    rw [hh, Bool.or_false]
  rw [this]
  apply List.ext_getElem?
  intro i
  by_cases hi : k = i
  · subst hi
    rw [List.getElem?_set_self (by rw [markUp_len]; exact (List.getElem?_eq_some_iff.1 h).1), markUp_here, h]
  · rw [List.getElem?_set_ne hi]
theorem markUp_fst (r : Lies Em) (n : Int) (b M win : Nat) (hM : r.length = M) : (markUp r n b (min M win)).map Prod.fst = (r.map Prod.fst).mapIdx fun i e => if i < win then ackM n b e else e := by
  apply List.ext_getElem?
  intro i
  rw [List.getElem?_map, markUp_get, List.getElem?_mapIdx, List.getElem?_map]
  cases hg : r[i]? with
  | none => rfl
  | some x =>
    have hl := (List.getElem?_eq_some_iff.1 hg).1
    simp only [Option.map_some]
    by_cases hi : i < win
    · rw [if_pos (by omega), if_pos hi]
    · rw [if_neg (by omega), if_neg hi]
/-- Behind k that were looked at. -/
structure MkR (base n2 : Nat) (w W : World) (cs ds : Array Value) (wa : Option Addr) (M wc : Nat) (xs : List Value) : Prop where
  row : RowAt base W 47 5 (.slice wa M wc) M xs
  below : Below base w W
  frame : ∀ g, g < w.heap.size → (∀ q o, wa = some ⟨q, o, none⟩ → 0 < M → g ≠ q) → W.heap[g]? = w.heap[g]?
  box : Box W w.heap.size 30 cs
  box2 : Box W n2 65 ds
theorem MkR.next {base n2 : Nat} {w W W' : World} {cs ds : Array Value} {wa : Option Addr} {M wc : Nat} {xs : List Value} (h : MkR base n2 w W cs ds wa M wc xs) (b : Below W.heap.size W W') (hb : base ≤ W.heap.size) : MkR base n2 w W' cs ds wa M wc xs :=
  ⟨h.row.same (fun g _ hg => b.block g hg), h.below.trans (b.mono hb), fun g hg hn => (b.block g (Nat.lt_of_lt_of_le hg h.below.size)).trans (h.frame g hg hn), h.box.next b, h.box2.next b⟩
set_option maxRecDepth 100000 in
set_option maxHeartbeats 8000000 in
theorem sendMark_ok (c : Cfg) (X : Bool) (K R B N T F : Int) (ea : Option Addr) (E ec : Nat) (wa : Option Addr) (M wc : Nat) (r : Lies Em) (hl : r.length = M) (hM : M ≤ 1000000) (hq : ∀ x ∈ r, 0 ≤ x.1.eS ∧ x.1.eS ≤ 1073741824) (hsl : ∀ x ∈ r, ∀ p ∈ x.2, ∃ a n c, p = Value.slice a n c) (nx : Int) (b : Nat) (hn : 0 ≤ nx ∧ nx ≤ 1073741824) (hb : b < 4294967296) (win : Nat) (hwin : (win : Int) = c.cWin) (base : Nat) (w : World) (hbase : base ≤ w.heap.size) (hrow : RowAt base w 47 5 (.slice wa M wc) M (cellsK emK r)) (hrb : ∀ q o, wa = some ⟨q, o, none⟩ → 0 < M → base ≤ q ∧ q < w.heap.size) :
    Calls Tryd.prog 27 #[.agg #[.int .i64 c.cB, .int .i64 c.cBeam, .int .i64 c.cDepth, .int .i64 c.cWin, .int .i64 c.cQs, .int .i64 c.cQr, .int .i64 c.cBatch, .int .i64 c.cPass, .int .i64 c.cMsg, .int .i64 c.cSeqs, .bool X, .int .i64 K, .int .i64 R, .int .i64 B, .int .i64 N, .int .i64 T, .int .i64 F, .slice ea E ec, .slice wa M wc], .agg #[.int .i64 nx, .int .u32 (b : Int)]] w fun e W' => e = .returned (.tuple #[]) ∧ RowAt base W' 47 5 (.slice wa M wc) M (cellsK emK (markUp r nx b (min M win))) ∧ Below base w W' ∧ Hid (∀ g, g < w.heap.size → (∀ q o, wa = some ⟨q, o, none⟩ → 0 < M → g ≠ q) → W'.heap[g]? = w.heap[g]?) := by
  have bb : Below w.heap.size w ((w.alloc (.cells #[.int .i64 c.cB, .int .i64 c.cBeam, .int .i64 c.cDepth, .int .i64 c.cWin, .int .i64 c.cQs, .int .i64 c.cQr, .int .i64 c.cBatch, .int .i64 c.cPass, .int .i64 c.cMsg, .int .i64 c.cSeqs, .bool X, .int .i64 K, .int .i64 R, .int .i64 B, .int .i64 N, .int .i64 T, .int .i64 F, .slice ea E ec, .slice wa M wc] 30)).alloc (.cells #[.int .i64 nx, .int .u32 (b : Int)] 65)) := ((Below.refl _ _).alloc (Nat.le_refl _) _).alloc (by simp) _
  have x1 : Box ((w.alloc (.cells #[.int .i64 c.cB, .int .i64 c.cBeam, .int .i64 c.cDepth, .int .i64 c.cWin, .int .i64 c.cQs, .int .i64 c.cQr, .int .i64 c.cBatch, .int .i64 c.cPass, .int .i64 c.cMsg, .int .i64 c.cSeqs, .bool X, .int .i64 K, .int .i64 R, .int .i64 B, .int .i64 N, .int .i64 T, .int .i64 F, .slice ea E ec, .slice wa M wc] 30)).alloc (.cells #[.int .i64 nx, .int .u32 (b : Int)] 65)) w.heap.size 30 #[.int .i64 c.cB, .int .i64 c.cBeam, .int .i64 c.cDepth, .int .i64 c.cWin, .int .i64 c.cQs, .int .i64 c.cQr, .int .i64 c.cBatch, .int .i64 c.cPass, .int .i64 c.cMsg, .int .i64 c.cSeqs, .bool X, .int .i64 K, .int .i64 R, .int .i64 B, .int .i64 N, .int .i64 T, .int .i64 F, .slice ea E ec, .slice wa M wc] := (Box.new w 30 #[.int .i64 c.cB, .int .i64 c.cBeam, .int .i64 c.cDepth, .int .i64 c.cWin, .int .i64 c.cQs, .int .i64 c.cQr, .int .i64 c.cBatch, .int .i64 c.cPass, .int .i64 c.cMsg, .int .i64 c.cSeqs, .bool X, .int .i64 K, .int .i64 R, .int .i64 B, .int .i64 N, .int .i64 T, .int .i64 F, .slice ea E ec, .slice wa M wc]).next ((Below.refl _ _).alloc (Nat.le_refl _) _)
  have x2 := Box.new (w.alloc (.cells #[.int .i64 c.cB, .int .i64 c.cBeam, .int .i64 c.cDepth, .int .i64 c.cWin, .int .i64 c.cQs, .int .i64 c.cQr, .int .i64 c.cBatch, .int .i64 c.cPass, .int .i64 c.cMsg, .int .i64 c.cSeqs, .bool X, .int .i64 K, .int .i64 R, .int .i64 B, .int .i64 N, .int .i64 T, .int .i64 F, .slice ea E ec, .slice wa M wc] 30)) 65 #[.int .i64 nx, .int .u32 (b : Int)]
  replace hrow := hrow.same (fun g _ hg => bb.block g hg)
  have HL : Hid (r.length = M) := hl
  have HQ : Hid (∀ x ∈ r, 0 ≤ x.1.eS ∧ x.1.eS ≤ 1073741824) := hq
  have HSL : Hid (∀ x ∈ r, ∀ p ∈ x.2, ∃ a n c, p = Value.slice a n c) := hsl
  clear hl hq hsl
  go_enter Tryd.func27, Tryd.ntmps27
  obtain ⟨n2, hn2⟩ : ∃ n, (w.alloc (.cells #[.int .i64 c.cB, .int .i64 c.cBeam, .int .i64 c.cDepth, .int .i64 c.cWin, .int .i64 c.cQs, .int .i64 c.cQr, .int .i64 c.cBatch, .int .i64 c.cPass, .int .i64 c.cMsg, .int .i64 c.cSeqs, .bool X, .int .i64 K, .int .i64 R, .int .i64 B, .int .i64 N, .int .i64 T, .int .i64 F, .slice ea E ec, .slice wa M wc] 30)).heap.size = n := ⟨_, rfl⟩
  have hn2s : w.heap.size + 1 = n2 := by rw [← hn2]; simp
  go_wp2
  go_step3
  rw [hn2] at x2
  try rw [hn2s]
  have HN2 : Hid (w.heap.size + 1 = n2) := hn2s
  obtain ⟨w1, hw1⟩ : ∃ W, (w.alloc (.cells #[.int .i64 c.cB, .int .i64 c.cBeam, .int .i64 c.cDepth, .int .i64 c.cWin, .int .i64 c.cQs, .int .i64 c.cQr, .int .i64 c.cBatch, .int .i64 c.cPass, .int .i64 c.cMsg, .int .i64 c.cSeqs, .bool X, .int .i64 K, .int .i64 R, .int .i64 B, .int .i64 N, .int .i64 T, .int .i64 F, .slice ea E ec, .slice wa M wc] 30)).alloc (.cells #[.int .i64 nx, .int .u32 (b : Int)] 65) = W := ⟨_, rfl⟩
  rw [hw1] at bb x1 x2 hrow ⊢
  clear hn2 hn2s hw1
  have c18 := x1.cell 18 _ rfl
  have l1 := x1.lt
  go_wp2
  go_step3
  go_wp2
  clear c18 l1
  have HI : Hid (MkR base n2 w w1 #[.int .i64 c.cB, .int .i64 c.cBeam, .int .i64 c.cDepth, .int .i64 c.cWin, .int .i64 c.cQs, .int .i64 c.cQr, .int .i64 c.cBatch, .int .i64 c.cPass, .int .i64 c.cMsg, .int .i64 c.cSeqs, .bool X, .int .i64 K, .int .i64 R, .int .i64 B, .int .i64 N, .int .i64 T, .int .i64 F, .slice ea E ec, .slice wa M wc] #[.int .i64 nx, .int .u32 (b : Int)] wa M wc (cellsK emK (markUp r nx b 0))) := ⟨by rw [markUp_zero]; exact hrow, bb.mono hbase, fun g hg _ => bb.block g hg, x1, x2⟩
  have HRB : Hid (∀ q o, wa = some ⟨q, o, none⟩ → 0 < M → base ≤ q ∧ q < w.heap.size) := hrb
  clear hrow bb x1 x2 hrb
  go_loopg [9] M (fun gk i wr => ∃ k : Nat, k + gk = M ∧ k ≤ win ∧ i = .int .i64 (k : Int) ∧ Hid (MkR base n2 w wr #[.int .i64 c.cB, .int .i64 c.cBeam, .int .i64 c.cDepth, .int .i64 c.cWin, .int .i64 c.cQs, .int .i64 c.cQr, .int .i64 c.cBatch, .int .i64 c.cPass, .int .i64 c.cMsg, .int .i64 c.cSeqs, .bool X, .int .i64 K, .int .i64 R, .int .i64 B, .int .i64 N, .int .i64 T, .int .i64 F, .slice ea E ec, .slice wa M wc] #[.int .i64 nx, .int .u32 (b : Int)] wa M wc (cellsK emK (markUp r nx b k))))
  case atStart => exact ⟨0, by omega, Nat.zero_le _, rfl, HI⟩
  case round =>
    clear HI
    obtain ⟨k, hkg, hkw, rfl, HI⟩ := hrel
    generalize hwr : wr = w5 at *
    clear hwr
    cases gk with
    | zero =>
      have HK : Hid (k = min M win) := by show k = min M win; omega
      have dlt : decide ((k : Int) < (M : Int)) = false := decide_eq_false (by omega)
      have dltn : decide (k < M) = false := decide_eq_false (by omega)
      clear hkg hkw
      go_wp2
      rw [Exit.noGoto_normal]
      go_end0
      exact ⟨rfl, by rw [← HK.out]; exact HI.out.row, HI.out.below, HI.out.frame⟩
    | succ g =>
      have hlt : k < M := by omega
      have dlt : decide ((k : Int) < (M : Int)) = true := decide_eq_true (by omega)
      have dltn : decide (k < M) = true := decide_eq_true hlt
      obtain ⟨gv, o, gc, hgv, hbg, hgl, hcs, hfz⟩ := HI.out.row.form (by omega)
      obtain ⟨rfl, _, rfl⟩ := Value.slice.inj hgv
      obtain ⟨⟨e, ps⟩, hx⟩ : ∃ x, r[k]? = some x := ⟨r[k]'(by rw [HL.out]; exact hlt), by simp⟩
      have hx2 : (markUp r nx b k)[k]? = some (e, ps) := by rw [markUp_here]; exact hx
      have hqe : 0 ≤ e.eS ∧ e.eS ≤ 1073741824 := HQ.out _ (List.mem_of_getElem? hx)
      obtain ⟨pa, pn, pc, hp0⟩ : ∃ pa pn pc, ps.getD 0 (.slice none 0 0) = .slice pa pn pc := by
        have h := HSL.out _ (List.mem_of_getElem? hx)
        cases ps with
        | nil => exact ⟨_, _, _, rfl⟩
        | cons p l => exact h p (by simp)
      have e0 : w5.cell? ⟨gv, o + k * 5, none⟩ = some (.int .i64 e.eS) := by
        have h := hcs _ _ (cellsK_get emK hx2 0 _ rfl)
        skip
        skip
        exact h
      have e1 : w5.cell? ⟨gv, o + k * 5 + 1, none⟩ = some (.int .i64 e.eR) := by
        have h := hcs _ _ (cellsK_get emK hx2 1 _ rfl)
        skip
        rw [Nat.add_assoc]
        exact h
      have e2 : w5.cell? ⟨gv, o + k * 5 + 2, none⟩ = some (.int .i64 e.eF) := by
        have h := hcs _ _ (cellsK_get emK hx2 2 _ rfl)
        skip
        rw [Nat.add_assoc]
        exact h
      have e3 : w5.cell? ⟨gv, o + k * 5 + 3, none⟩ = some (.bool e.eA) := by
        have h := hcs _ _ (cellsK_get emK hx2 3 _ rfl)
        skip
        rw [Nat.add_assoc]
        exact h
      have e4 : w5.cell? ⟨gv, o + k * 5 + 4, none⟩ = some (.slice pa pn pc) := by
        have h := hcs _ _ (cellsK_get emK hx2 4 _ rfl)
        rw [hp0] at h
        rw [Nat.add_assoc]
        exact h
      have HX : Hid (r[k]? = some (e, ps)) := hx
      have HX2 : Hid ((markUp r nx b k)[k]? = some (e, ps)) := hx2
      have HFZ : Hid (∀ j, w5.frozen? ⟨gv, j, none⟩ = false) := hfz
      have HGB : Hid (base ≤ gv ∧ gv < w.heap.size) := HRB.out gv o rfl (by omega)
      have x1 := HI.out.box
      have c18 := x1.cell 18 _ rfl
      have l1 := x1.lt
      have bA : Below w5.heap.size w5 (w5.alloc (.cells #[.int .i64 e.eS, .int .i64 e.eR, .int .i64 e.eF, .bool e.eA, .slice pa pn pc] 47)) := (Below.refl _ _).alloc (Nat.le_refl _) _
      have x5 := Box.new w5 47 #[.int .i64 e.eS, .int .i64 e.eR, .int .i64 e.eF, .bool e.eA, .slice pa pn pc]
      clear hcs hfz hx hx2 hbg
      go_upto_region 4 with fail
      clear c18 l1 e0 e1 e2 e3 e4 hgl x1
      have HJ : Hid (MkR base n2 w (w5.alloc (.cells #[.int .i64 e.eS, .int .i64 e.eR, .int .i64 e.eF, .bool e.eA, .slice pa pn pc] 47)) #[.int .i64 c.cB, .int .i64 c.cBeam, .int .i64 c.cDepth, .int .i64 c.cWin, .int .i64 c.cQs, .int .i64 c.cQr, .int .i64 c.cBatch, .int .i64 c.cPass, .int .i64 c.cMsg, .int .i64 c.cSeqs, .bool X, .int .i64 K, .int .i64 R, .int .i64 B, .int .i64 N, .int .i64 T, .int .i64 F, .slice ea E ec, .slice (some ⟨gv, o, none⟩) M wc] #[.int .i64 nx, .int .u32 (b : Int)] (some ⟨gv, o, none⟩) M wc (cellsK emK (markUp r nx b k))) := HI.out.next bA (Nat.le_trans hbase HI.out.below.size)
      have HB5 : Hid (w.heap.size ≤ w5.heap.size) := HI.out.below.size
      obtain ⟨B5, hB5⟩ : ∃ k, w5.heap.size = k := ⟨_, rfl⟩
      rw [hB5] at x5 HB5 ⊢
      clear bA hB5 HI HFZ
      generalize w5.alloc (.cells #[.int .i64 e.eS, .int .i64 e.eR, .int .i64 e.eF, .bool e.eA, .slice pa pn pc] 47) = w6 at *
      have x1 := HJ.out.box
      have c3 := x1.cell 3 _ rfl
      have l1 := x1.lt
      by_cases hW : k = win
      · have dW : ((k : Int) == c.cWin) = true := by rw [beq_iff_eq, ← hwin, hW]
        have HK : Hid (k = min M win) := by show k = min M win; omega
        clear hW hkw hkg x5 x1
        go_wp2
        try rw [Exit.noGoto_normal]
        go_end0
        exact ⟨rfl, by rw [← HK.out]; exact HJ.out.row, HJ.out.below, HJ.out.frame⟩
      · have dW : ((k : Int) == c.cWin) = false := by rw [beq_eq_false_iff_ne, ← hwin]; omega
        have HKW : Hid (k + 1 ≤ win) := by show k + 1 ≤ win; omega
        clear hW hkw
        have x2 := HJ.out.box2
        have c20 := x2.cell 0 _ rfl
        have c21 := x2.cell 1 _ rfl
        have l2 := x2.lt
        have c50 := x5.cell 0 _ rfl
        have l5 := x5.lt
        have HHA := fun wx => AckHas_any nx b e.eS (by omega) (by have := hqe.1; have := hqe.2; constructor <;> omega) hb wx
        obtain ⟨hv, hhv⟩ : ∃ z, hasA nx b e.eS = z := ⟨_, rfl⟩
        rw [hhv] at HHA
        have HHV : Hid (hasA nx b e.eS = hv) := hhv
        clear hhv hqe
        go_wp2_with fail
        refine (HHA _).mono ?_
        rintro e9 w7 ⟨rfl, b9⟩
        have HJ7 : Hid (MkR base n2 w w7 #[.int .i64 c.cB, .int .i64 c.cBeam, .int .i64 c.cDepth, .int .i64 c.cWin, .int .i64 c.cQs, .int .i64 c.cQr, .int .i64 c.cBatch, .int .i64 c.cPass, .int .i64 c.cMsg, .int .i64 c.cSeqs, .bool X, .int .i64 K, .int .i64 R, .int .i64 B, .int .i64 N, .int .i64 T, .int .i64 F, .slice ea E ec, .slice (some ⟨gv, o, none⟩) M wc] #[.int .i64 nx, .int .u32 (b : Int)] (some ⟨gv, o, none⟩) M wc (cellsK emK (markUp r nx b k))) := HJ.out.next b9 (Nat.le_trans hbase HJ.out.below.size)
        clear b9 HHA c20 c21 l2 c50 l5 x2 c3 l1 x1 x5 HJ
        cases hv with
        | false =>
          have HN : Hid (MkR base n2 w w7 #[.int .i64 c.cB, .int .i64 c.cBeam, .int .i64 c.cDepth, .int .i64 c.cWin, .int .i64 c.cQs, .int .i64 c.cQr, .int .i64 c.cBatch, .int .i64 c.cPass, .int .i64 c.cMsg, .int .i64 c.cSeqs, .bool X, .int .i64 K, .int .i64 R, .int .i64 B, .int .i64 N, .int .i64 T, .int .i64 F, .slice ea E ec, .slice (some ⟨gv, o, none⟩) M wc] #[.int .i64 nx, .int .u32 (b : Int)] (some ⟨gv, o, none⟩) M wc (cellsK emK (markUp r nx b (k + 1)))) := by
            show MkR base n2 w w7 #[.int .i64 c.cB, .int .i64 c.cBeam, .int .i64 c.cDepth, .int .i64 c.cWin, .int .i64 c.cQs, .int .i64 c.cQr, .int .i64 c.cBatch, .int .i64 c.cPass, .int .i64 c.cMsg, .int .i64 c.cSeqs, .bool X, .int .i64 K, .int .i64 R, .int .i64 B, .int .i64 N, .int .i64 T, .int .i64 F, .slice ea E ec, .slice (some ⟨gv, o, none⟩) M wc] #[.int .i64 nx, .int .u32 (b : Int)] (some ⟨gv, o, none⟩) M wc (cellsK emK (markUp r nx b (k + 1)))
            rw [markUp_not HX.out HHV.out]
            exact HJ7.out
          clear HJ7
          go_wp2
          go_roundg g
          case measure => omega
          case rel => exact ⟨k + 1, by omega, HKW.out, by go_num, HN⟩
        | true =>
          have x1 := HJ7.out.box
          have c18 := x1.cell 18 _ rfl
          have l1 := x1.lt
          have hM9 : 0 < M := by omega
          obtain ⟨gv', o', gc', hgv', _, _, hcs, hfz⟩ := HJ7.out.row.form hM9
          obtain ⟨hao, -, rfl⟩ := Value.slice.inj hgv'
          obtain ⟨rfl, rfl, -⟩ := Addr.mk.inj (Option.some.inj hao)
          have e3 : w7.cell? ⟨gv, o + k * 5 + 3, none⟩ = some (.bool e.eA) := by
            have h := hcs _ _ (cellsK_get emK HX2.out 3 _ rfl)
            rw [Nat.add_assoc]
            exact h
          have f3 := hfz (o + k * 5 + 3)
          have hgl : gv < w7.heap.size := cell_block_lt e3
          have h1 := HJ7.out.row.set hM9 (k * 5 + 3) (.bool true)
          rw [show (cellsK emK (markUp r nx b k)).set (k * 5 + 3) (.bool true) = cellsK emK (markUp r nx b (k + 1)) from by
            have hs := cellsK_set1 emK (y := (ackM nx b e, ps)) (u := .bool true) (i := 3) HX2.out (by decide) (by
              show [Value.int .i64 e.eS, .int .i64 e.eR, .int .i64 e.eF, .bool true, _] = [Value.int .i64 e.eS, .int .i64 e.eR, .int .i64 e.eF, .bool (e.eA || hasA nx b e.eS), _]
              rw [HHV.out, Bool.or_true])
            rw [markUp_succ HX.out] at hs
            exact hs, ← Nat.add_assoc] at h1
          have HN : Hid (MkR base n2 w (w7.setCell ⟨gv, o + k * 5 + 3, none⟩ (.bool true)) #[.int .i64 c.cB, .int .i64 c.cBeam, .int .i64 c.cDepth, .int .i64 c.cWin, .int .i64 c.cQs, .int .i64 c.cQr, .int .i64 c.cBatch, .int .i64 c.cPass, .int .i64 c.cMsg, .int .i64 c.cSeqs, .bool X, .int .i64 K, .int .i64 R, .int .i64 B, .int .i64 N, .int .i64 T, .int .i64 F, .slice ea E ec, .slice (some ⟨gv, o, none⟩) M wc] #[.int .i64 nx, .int .u32 (b : Int)] (some ⟨gv, o, none⟩) M wc (cellsK emK (markUp r nx b (k + 1)))) :=
            ⟨h1, HJ7.out.below.setCell (p := ⟨gv, o + k * 5 + 3, none⟩) HGB.out.1 _, fun g hg h => (Below.heap_setCell _ _ _ g (h gv o rfl hM9)).trans (HJ7.out.frame g hg h), HJ7.out.box.other (p := ⟨gv, o + k * 5 + 3, none⟩) (by have := HGB.out.2; show w.heap.size ≠ gv; omega) _, HJ7.out.box2.other (p := ⟨gv, o + k * 5 + 3, none⟩) (by have := HGB.out.2; have := HN2.out; show n2 ≠ gv; omega) _⟩
          clear h1 hcs hfz hgv' hao x1 HJ7
          go_wp2
          go_roundg g
          case measure => omega
          case rel => exact ⟨k + 1, by omega, HKW.out, by go_num, HN⟩

end Go.Proofs.YtmjidhnlofpliaaDoor

/-
  What send.Learn answers. (Written by tpl_sendcode.py.)
-/
namespace Go.Proofs.YtmjidhnlofpliaaDoor
open Go.RowKit

/-- It lies as it lay where all blocks of its own type do. -/
theorem RowAt.typed {base n k : Nat} {W W' : World} {e : TypeId} {v : Value} {cs : List Value} (h : RowAt base W e k v n cs) (hq : ∀ g cur, base ≤ g → W.heap[g]? = some (.cells cur e (0, 0)) → W'.heap[g]? = W.heap[g]?) : RowAt base W' e k v n cs := by
  refine ⟨h.1, ?_⟩
  rcases h.2 with h0 | ⟨g, o, cap, cur, hv, hn, hb, hg, hc⟩
  · exact .inl h0
  · exact .inr ⟨g, o, cap, cur, hv, hn, hb, (hq g cur hb hg).trans hg, hc⟩
theorem box_ne {W : World} {D g : Nat} {e t : TypeId} {cs cur : Array Value} (hb : Box W D t cs) (hg : W.heap[g]? = some (.cells cur e (0, 0))) (he : e ≠ t) : g ≠ D := fun h => by
  subst h
  have h2 : W.heap[g]? = _ := hb
  rw [hg] at h2
  simp only [Option.some.injEq, Obj.cells.injEq] at h2
  exact he h2.2.1
theorem emK_u8 : ∀ (y : Em) (u : Sub), u ∈ emK.subs y → u.ty = 5 := fun y u hu => by
  simp only [emK, List.mem_cons, List.not_mem_nil, or_false] at hu
  subst hu
  rfl
theorem OwnL.typed {α : Type} {K : Kind α} {base : Nat} {W W' : World} {r : Lies α} (h4 : OwnL K base W r) {t : TypeId} (ht : ∀ (y : α) (u : Sub), u ∈ K.subs y → u.ty = t) (hq : ∀ g cur, base ≤ g → W.heap[g]? = some (.cells cur t (0, 0)) → W'.heap[g]? = W.heap[g]?) : OwnL K base W' r := h4.same fun x hx p hp g hg => by
  have h5 := h4.subs x hx
  obtain ⟨i, hi, ep⟩ := List.getElem_of_mem hp
  have hl : i < (K.subs x.1).length := by rw [← h5.1]; exact hi
  have h6 := h5.2 i p (K.subs x.1)[i] (by rw [← ep]; simp) (by simp)
  rcases h6.2 with ⟨rfl, _⟩ | ⟨g', cap, cur, rfl, hb, hg', _⟩
  · cases hg
  · simp only [Value.ownBlock, Option.some.injEq] at hg
    subst hg
    rw [ht x.1 _ (by simp)] at hg'
    exact hq _ cur hb hg'
theorem OwnL.mark {base : Nat} {W : World} {r : Lies Em} (h : OwnL emK base W r) (n : Int) (b k : Nat) : OwnL emK base W (markUp r n b k) := by
  have hs : (markUp r n b k).map Prod.snd = r.map Prod.snd := by
    apply List.ext_getElem?
    intro i
    rw [List.getElem?_map, List.getElem?_map, markUp_get]
    cases r[i]? with
    | none => rfl
    | some x => simp only [Option.map_some]; split <;> rfl
  refine ⟨fun x hx => ?_, ?_⟩
  · obtain ⟨i, hi⟩ := List.mem_iff_getElem?.1 hx
    rw [markUp_get] at hi
    cases hr : r[i]? with
    | none => rw [hr] at hi; cases hi
    | some y =>
      rw [hr] at hi
      have hy := h.subs y (List.mem_of_getElem? hr)
      simp only [Option.map_some, Option.some.injEq] at hi
      subst hi
      split
      · exact hy
      · exact hy
  · have := h.apart
    rw [List.flatMap_def] at this ⊢
    rw [hs]
    exact this
set_option maxRecDepth 100000 in
set_option maxHeartbeats 4000000 in
theorem sendLearn_bad {s : Sn} {c : Cfg} {X : Bool} {K R B N T F : Int} {E M : Nat} (hs : SnIs s c X K R B N T F E M) (hE : E ≤ 1000000) (hM : M ≤ 1000000) (hm : ∀ e ∈ s.sW, e.eB.length ≤ 4096) (ea : Option Addr) (ec : Nat) (wa : Option Addr) (wc : Nat) (b : Option Addr) (n bc : Nat) (zs : List Int) (hn : zs.length = n) (hl : n ≤ 4096) (hcap : n ≤ bc) (bz : ∀ z ∈ zs, 0 ≤ z ∧ z ≤ 255) (w : World) (ha : SnAt w s ea E ec wa M wc) (hb : Holds .u8 w.heap.size w (.slice b n bc) zs) (hOK : okS s) (f : Int) (hf : errA zs = f) (hf0 : f ≠ 0) :
    Calls Tryd.prog 9 #[.agg #[.int .i64 c.cB, .int .i64 c.cBeam, .int .i64 c.cDepth, .int .i64 c.cWin, .int .i64 c.cQs, .int .i64 c.cQr, .int .i64 c.cBatch, .int .i64 c.cPass, .int .i64 c.cMsg, .int .i64 c.cSeqs, .bool X, .int .i64 K, .int .i64 R, .int .i64 B, .int .i64 N, .int .i64 T, .int .i64 F, .slice ea E ec, .slice wa M wc], .slice b n bc] w fun e W' => ∃ fa fc va vc, e = .returned (.tuple #[.agg #[.int .i64 c.cB, .int .i64 c.cBeam, .int .i64 c.cDepth, .int .i64 c.cWin, .int .i64 c.cQs, .int .i64 c.cQr, .int .i64 c.cBatch, .int .i64 c.cPass, .int .i64 c.cMsg, .int .i64 c.cSeqs, .bool X, .int .i64 K, .int .i64 R, .int .i64 (satN B 1), .int .i64 N, .int .i64 T, .int .i64 F, .slice fa E fc, .slice va M vc], .int .i64 f]) ∧ SnOwn w.heap.size W' s fa E fc va M vc ∧ Below w.heap.size w W' := by
  have HBL : Hid (Holds .u8 w.heap.size w (.slice b n bc) zs) := hb
  have d0 : (f != 0) = true := by simpa using hf0
  have HRD : Hid (∀ wx : World, Holds .u8 wx.heap.size wx (.slice b n bc) zs → Calls Tryd.prog 25 #[.slice b n bc] wx fun e w' => e = .returned (.tuple #[.agg #[.int .i64 0, .int .u32 0], .int .i64 f]) ∧ Below wx.heap.size wx w') := fun wx hx => by
    have hbad : badA zs f := by
      rcases aread_cases zs with ⟨e, _, he⟩ | ho
      · rw [errA_bad he] at hf
        rw [← hf]
        exact he
      · exact absurd ((errA_ok ho).symm.trans hf).symm hf0
    subst hn
    exact AckRead_no b bc zs hl hcap bz f hbad wx hx
  clear hf hf0 hn hl hcap bz hb
  have bb : Below w.heap.size w ((w.alloc (.cells #[.int .i64 c.cB, .int .i64 c.cBeam, .int .i64 c.cDepth, .int .i64 c.cWin, .int .i64 c.cQs, .int .i64 c.cQr, .int .i64 c.cBatch, .int .i64 c.cPass, .int .i64 c.cMsg, .int .i64 c.cSeqs, .bool X, .int .i64 K, .int .i64 R, .int .i64 B, .int .i64 N, .int .i64 T, .int .i64 F, .slice ea E ec, .slice wa M wc] 30)).alloc (.cells #[.int .i64 0, .int .i64 0, .int .i64 0, .int .i64 0, .int .i64 0, .int .i64 0, .int .i64 0, .int .i64 0, .int .i64 0, .int .i64 0, .bool false, .int .i64 0, .int .i64 0, .int .i64 0, .int .i64 0, .int .i64 0, .int .i64 0, .slice none 0 0, .slice none 0 0] 30)) := ((Below.refl _ _).alloc (Nat.le_refl _) _).alloc (by simp) _
  have x1 : Box ((w.alloc (.cells #[.int .i64 c.cB, .int .i64 c.cBeam, .int .i64 c.cDepth, .int .i64 c.cWin, .int .i64 c.cQs, .int .i64 c.cQr, .int .i64 c.cBatch, .int .i64 c.cPass, .int .i64 c.cMsg, .int .i64 c.cSeqs, .bool X, .int .i64 K, .int .i64 R, .int .i64 B, .int .i64 N, .int .i64 T, .int .i64 F, .slice ea E ec, .slice wa M wc] 30)).alloc (.cells #[.int .i64 0, .int .i64 0, .int .i64 0, .int .i64 0, .int .i64 0, .int .i64 0, .int .i64 0, .int .i64 0, .int .i64 0, .int .i64 0, .bool false, .int .i64 0, .int .i64 0, .int .i64 0, .int .i64 0, .int .i64 0, .int .i64 0, .slice none 0 0, .slice none 0 0] 30)) w.heap.size 30 #[.int .i64 c.cB, .int .i64 c.cBeam, .int .i64 c.cDepth, .int .i64 c.cWin, .int .i64 c.cQs, .int .i64 c.cQr, .int .i64 c.cBatch, .int .i64 c.cPass, .int .i64 c.cMsg, .int .i64 c.cSeqs, .bool X, .int .i64 K, .int .i64 R, .int .i64 B, .int .i64 N, .int .i64 T, .int .i64 F, .slice ea E ec, .slice wa M wc] := (Box.new w 30 #[.int .i64 c.cB, .int .i64 c.cBeam, .int .i64 c.cDepth, .int .i64 c.cWin, .int .i64 c.cQs, .int .i64 c.cQr, .int .i64 c.cBatch, .int .i64 c.cPass, .int .i64 c.cMsg, .int .i64 c.cSeqs, .bool X, .int .i64 K, .int .i64 R, .int .i64 B, .int .i64 N, .int .i64 T, .int .i64 F, .slice ea E ec, .slice wa M wc]).next ((Below.refl _ _).alloc (Nat.le_refl _) _)
  have x2 := Box.new (w.alloc (.cells #[.int .i64 c.cB, .int .i64 c.cBeam, .int .i64 c.cDepth, .int .i64 c.cWin, .int .i64 c.cQs, .int .i64 c.cQr, .int .i64 c.cBatch, .int .i64 c.cPass, .int .i64 c.cMsg, .int .i64 c.cSeqs, .bool X, .int .i64 K, .int .i64 R, .int .i64 B, .int .i64 N, .int .i64 T, .int .i64 F, .slice ea E ec, .slice wa M wc] 30)) 30 #[.int .i64 0, .int .i64 0, .int .i64 0, .int .i64 0, .int .i64 0, .int .i64 0, .int .i64 0, .int .i64 0, .int .i64 0, .int .i64 0, .bool false, .int .i64 0, .int .i64 0, .int .i64 0, .int .i64 0, .int .i64 0, .int .i64 0, .slice none 0 0, .slice none 0 0]
  replace ha := ha.next bb
  have H1 := fun wx hx => sendCheck_any hs hE hM hm ea ec wa wc wx hx
  have H2 := fun wx hx => sendApart_any hs hE hM hm ea ec wa wc wx hx
  have HOK : Hid (okS s) := hOK
  have HS : Hid (SnIs s c X K R B N T F E M) := hs
  have HM9 : Hid (∀ e ∈ s.sW, e.eB.length ≤ 4096) := hm
  clear hs hm hOK
  go_enter Tryd.func9, Tryd.ntmps9
  go_wp2_with (first | (refine wpList_load_box x1 rfl 30 _ rfl rfl _ Tryd.underlying30 rfl (by kernel_rfl) ?_))
  refine (H1 _ ha).mono ?_
  rintro e w1 ⟨⟨z, rfl, hz⟩, b1⟩
  obtain rfl : z = 0 := by
    rcases hz with ⟨h, _⟩ | ⟨_, h⟩
    · exact h
    · exact (h HOK.out).elim
  obtain ⟨n2, hn2⟩ : ∃ n, (w.alloc (.cells #[.int .i64 c.cB, .int .i64 c.cBeam, .int .i64 c.cDepth, .int .i64 c.cWin, .int .i64 c.cQs, .int .i64 c.cQr, .int .i64 c.cBatch, .int .i64 c.cPass, .int .i64 c.cMsg, .int .i64 c.cSeqs, .bool X, .int .i64 K, .int .i64 R, .int .i64 B, .int .i64 N, .int .i64 T, .int .i64 F, .slice ea E ec, .slice wa M wc] 30)).heap.size = n := ⟨_, rfl⟩
  have hn2s : w.heap.size + 1 = n2 := by rw [← hn2]; simp
  rw [hn2] at x2
  try rw [hn2s]
  have HN2 : Hid (w.heap.size + 1 = n2) := hn2s
  clear hn2 hn2s
  replace x1 := x1.next b1
  replace x2 := x2.next b1
  replace ha := ha.next b1
  replace bb := bb.trans (b1.mono bb.size)
  clear b1 H1 hz
  go_wp2_with (first | (refine wpList_load_box x1 rfl 30 _ rfl rfl _ Tryd.underlying30 rfl (by kernel_rfl) ?_))
  refine (H2 _ ha).mono ?_
  rintro e w2 ⟨fa, fc, va, vc, rfl, o2, b1⟩
  have hbs := bb.size
  replace x1 := x1.next b1
  replace x2 := x2.next b1
  replace bb := bb.trans (b1.mono bb.size)
  replace o2 := o2.lower (base' := w.heap.size) hbs
  clear b1 H2 ha hbs
  have bA : Below w2.heap.size w2 (w2.alloc (.cells #[.int .i64 0, .int .i64 0, .int .i64 0, .int .i64 0, .int .i64 0, .int .i64 0, .int .i64 0, .int .i64 0, .int .i64 0, .int .i64 0, .bool false, .int .i64 0, .int .i64 0, .int .i64 0, .int .i64 0, .int .i64 0, .int .i64 0, .slice none 0 0, .slice none 0 0] 30)) := (Below.refl _ _).alloc (Nat.le_refl _) _
  have x3 := Box.new w2 30 #[.int .i64 0, .int .i64 0, .int .i64 0, .int .i64 0, .int .i64 0, .int .i64 0, .int .i64 0, .int .i64 0, .int .i64 0, .int .i64 0, .bool false, .int .i64 0, .int .i64 0, .int .i64 0, .int .i64 0, .int .i64 0, .int .i64 0, .slice none 0 0, .slice none 0 0]
  have HLx3 : Hid (w.heap.size < w2.heap.size ∧ n2 < w2.heap.size ∧ w.heap.size ≤ w2.heap.size) := ⟨x1.lt, x2.lt, bb.size⟩
  go_upto_region 5 with (first | (refine wpList_store_box x3 rfl 30 _ _ rfl rfl rfl rfl (by kernel_rfl) (by simp [Value.oneCell']) ?_))
  have bB := below_setRow bA (Nat.le_refl _) #[.int .i64 c.cB, .int .i64 c.cBeam, .int .i64 c.cDepth, .int .i64 c.cWin, .int .i64 c.cQs, .int .i64 c.cQr, .int .i64 c.cBatch, .int .i64 c.cPass, .int .i64 c.cMsg, .int .i64 c.cSeqs, .bool X, .int .i64 K, .int .i64 R, .int .i64 B, .int .i64 N, .int .i64 T, .int .i64 F, .slice fa E fc, .slice va M vc]
  replace x3 := x3.setRow #[.int .i64 c.cB, .int .i64 c.cBeam, .int .i64 c.cDepth, .int .i64 c.cWin, .int .i64 c.cQs, .int .i64 c.cQr, .int .i64 c.cBatch, .int .i64 c.cPass, .int .i64 c.cMsg, .int .i64 c.cSeqs, .bool X, .int .i64 K, .int .i64 R, .int .i64 B, .int .i64 N, .int .i64 T, .int .i64 F, .slice fa E fc, .slice va M vc]
  replace x1 := x1.next bB
  replace x2 := x2.next bB
  replace o2 := o2.next bB
  replace bb := bb.trans (bB.mono bb.size)
  clear bA bB
  obtain ⟨B3, hB3⟩ : ∃ k, w2.heap.size = k := ⟨_, rfl⟩
  rw [hB3] at x3 HLx3 x1 x2 o2 bb ⊢
  clear hB3
  generalize ((w2.alloc (.cells #[.int .i64 0, .int .i64 0, .int .i64 0, .int .i64 0, .int .i64 0, .int .i64 0, .int .i64 0, .int .i64 0, .int .i64 0, .int .i64 0, .bool false, .int .i64 0, .int .i64 0, .int .i64 0, .int .i64 0, .int .i64 0, .int .i64 0, .slice none 0 0, .slice none 0 0] 30)).setRow B3 #[.int .i64 c.cB, .int .i64 c.cBeam, .int .i64 c.cDepth, .int .i64 c.cWin, .int .i64 c.cQs, .int .i64 c.cQr, .int .i64 c.cBatch, .int .i64 c.cPass, .int .i64 c.cMsg, .int .i64 c.cSeqs, .bool X, .int .i64 K, .int .i64 R, .int .i64 B, .int .i64 N, .int .i64 T, .int .i64 F, .slice fa E fc, .slice va M vc]) = w3 at *
  have hbz := (HBL.out.below bb).mono bb.size
  go_wp2_with fail
  refine (HRD.out _ hbz).mono ?_
  rintro e w4 ⟨rfl, b1⟩
  replace x1 := x1.next b1
  replace x2 := x2.next b1
  replace x3 := x3.next b1
  replace o2 := o2.next b1
  replace bb := bb.trans (b1.mono bb.size)
  have bA : Below w4.heap.size w4 (w4.alloc (.cells #[.int .i64 0, .int .u32 0] 65)) := (Below.refl _ _).alloc (Nat.le_refl _) _
  have x8 := Box.new w4 65 #[.int .i64 0, .int .u32 0]
  have HL8 : Hid (B3 < w4.heap.size) := x3.lt
  go_upto_region 6 with fail
  replace x1 := x1.next bA
  replace x2 := x2.next bA
  replace x3 := x3.next bA
  replace o2 := o2.next bA
  replace bb := bb.trans (bA.mono bb.size)
  obtain ⟨B8, hB8⟩ : ∃ k, w4.heap.size = k := ⟨_, rfl⟩
  rw [hB8] at x8 HL8 ⊢
  clear b1 bA hB8 hbz
  generalize w4.alloc (.cells #[.int .i64 0, .int .u32 0] 65) = w5 at *
  clear x1 x8
  have c13 := x3.cell 13 _ rfl
  have l3 := x3.lt
  go_wp2_with fail
  refine (SatAdd_any B 1 _).mono ?_
  rintro e w6 ⟨rfl, rfl⟩
  clear c13 l3
  have cz := x3.cell 13 _ rfl
  have gz := x3.free 13
  have lz := x3.lt
  go_upto_region 8 with fail
  clear cz gz lz
  have qz : ∀ g, g ≠ B3 → (w5.setCell ⟨B3, 13, none⟩ (.int .i64 (satN B 1))).heap[g]? = w5.heap[g]? := fun g hg => Below.heap_setCell _ _ _ g hg
  replace o2 := o2.put x3 (by decide) (by decide) (by decide) qz
  replace x2 := x2.other (p := ⟨B3, 13, none⟩) (show n2 ≠ B3 by have := HLx3.out; omega) (.int .i64 (satN B 1))
  replace x3 : Box (w5.setCell ⟨B3, 13, none⟩ (.int .i64 (satN B 1))) B3 30 #[.int .i64 c.cB, .int .i64 c.cBeam, .int .i64 c.cDepth, .int .i64 c.cWin, .int .i64 c.cQs, .int .i64 c.cQr, .int .i64 c.cBatch, .int .i64 c.cPass, .int .i64 c.cMsg, .int .i64 c.cSeqs, .bool X, .int .i64 K, .int .i64 R, .int .i64 (satN B 1), .int .i64 N, .int .i64 T, .int .i64 F, .slice fa E fc, .slice va M vc] := x3.set 13 _
  replace bb := bb.setCell (p := ⟨B3, 13, none⟩) (show w.heap.size ≤ B3 by have := HLx3.out; omega) (.int .i64 (satN B 1))
  clear qz
  generalize (w5.setCell ⟨B3, 13, none⟩ (.int .i64 (satN B 1))) = w6 at *
  have xE := x2.setRow #[.int .i64 c.cB, .int .i64 c.cBeam, .int .i64 c.cDepth, .int .i64 c.cWin, .int .i64 c.cQs, .int .i64 c.cQr, .int .i64 c.cBatch, .int .i64 c.cPass, .int .i64 c.cMsg, .int .i64 c.cSeqs, .bool X, .int .i64 K, .int .i64 R, .int .i64 (satN B 1), .int .i64 N, .int .i64 T, .int .i64 F, .slice fa E fc, .slice va M vc]
  have bE := below_setRow bb (show w.heap.size ≤ n2 by have := HN2.out; omega) #[.int .i64 c.cB, .int .i64 c.cBeam, .int .i64 c.cDepth, .int .i64 c.cWin, .int .i64 c.cQs, .int .i64 c.cQr, .int .i64 c.cBatch, .int .i64 c.cPass, .int .i64 c.cMsg, .int .i64 c.cSeqs, .bool X, .int .i64 K, .int .i64 R, .int .i64 (satN B 1), .int .i64 N, .int .i64 T, .int .i64 F, .slice fa E fc, .slice va M vc]
  have o2E := o2.put x2 (by decide) (by decide) (by decide) (fun g hg => setRow_other w6 n2 g #[.int .i64 c.cB, .int .i64 c.cBeam, .int .i64 c.cDepth, .int .i64 c.cWin, .int .i64 c.cQs, .int .i64 c.cQr, .int .i64 c.cBatch, .int .i64 c.cPass, .int .i64 c.cMsg, .int .i64 c.cSeqs, .bool X, .int .i64 K, .int .i64 R, .int .i64 (satN B 1), .int .i64 N, .int .i64 T, .int .i64 F, .slice fa E fc, .slice va M vc] hg)
  clear bb o2
  go_wp2_with (first | (refine wpList_load_box x3 rfl 30 _ rfl rfl _ Tryd.underlying30 rfl (by kernel_rfl) ?_) | (refine wpList_store_box x2 rfl 30 _ _ rfl rfl rfl rfl (by kernel_rfl) (by simp [Value.oneCell']) ?_))
  exact bodyPost_ret (results_boxR2 rfl _ _ rfl xE Tryd.underlying30 rfl (by kernel_rfl)) rfl ⟨fa, fc, va, vc, rfl, o2E, bE⟩

set_option maxRecDepth 100000 in
set_option maxHeartbeats 4000000 in
theorem sendLearn_far {s : Sn} {c : Cfg} {X : Bool} {K R B N T F : Int} {E M : Nat} (hs : SnIs s c X K R B N T F E M) (hE : E ≤ 1000000) (hM : M ≤ 1000000) (hm : ∀ e ∈ s.sW, e.eB.length ≤ 4096) (ea : Option Addr) (ec : Nat) (wa : Option Addr) (wc : Nat) (b : Option Addr) (n bc : Nat) (zs : List Int) (hn : zs.length = n) (hl : n ≤ 4096) (hcap : n ≤ bc) (bz : ∀ z ∈ zs, 0 ≤ z ∧ z ≤ 255) (w : World) (ha : SnAt w s ea E ec wa M wc) (hb : Holds .u8 w.heap.size w (.slice b n bc) zs) (hOK : okS s) (hoA : okA zs) (f : Int) (hf : errL s zs = f) (hf0 : f ≠ 0) :
    Calls Tryd.prog 9 #[.agg #[.int .i64 c.cB, .int .i64 c.cBeam, .int .i64 c.cDepth, .int .i64 c.cWin, .int .i64 c.cQs, .int .i64 c.cQr, .int .i64 c.cBatch, .int .i64 c.cPass, .int .i64 c.cMsg, .int .i64 c.cSeqs, .bool X, .int .i64 K, .int .i64 R, .int .i64 B, .int .i64 N, .int .i64 T, .int .i64 F, .slice ea E ec, .slice wa M wc], .slice b n bc] w fun e W' => ∃ fa fc va vc, e = .returned (.tuple #[.agg #[.int .i64 c.cB, .int .i64 c.cBeam, .int .i64 c.cDepth, .int .i64 c.cWin, .int .i64 c.cQs, .int .i64 c.cQr, .int .i64 c.cBatch, .int .i64 c.cPass, .int .i64 c.cMsg, .int .i64 c.cSeqs, .bool X, .int .i64 K, .int .i64 R, .int .i64 B, .int .i64 N, .int .i64 T, .int .i64 F, .slice fa E fc, .slice va M vc], .int .i64 f]) ∧ SnOwn w.heap.size W' s fa E fc va M vc ∧ Below w.heap.size w W' := by
  have HBL : Hid (Holds .u8 w.heap.size w (.slice b n bc) zs) := hb
  obtain ⟨nx, hnx⟩ : ∃ q, aN zs = q := ⟨_, rfl⟩
  obtain ⟨hr1, hr2, _⟩ := packA_read bz hoA
  obtain ⟨bN, hbN⟩ : ∃ q : Nat, aB zs = (q : Int) := ⟨(aB zs).toNat, by omega⟩
  have HRD : Hid (∀ wx : World, Holds .u8 wx.heap.size wx (.slice b n bc) zs → Calls Tryd.prog 25 #[.slice b n bc] wx fun e w' => e = .returned (.tuple #[.agg #[.int .i64 nx, .int .u32 (bN : Int)], .int .i64 0]) ∧ Below wx.heap.size wx w') := fun wx hx => by
    subst hn
    have h := AckRead_ok b bc zs hcap bz hoA wx hx
    rw [hnx, hbN] at h
    exact h
  rw [hnx] at hr1
  rw [hbN] at hr2
  have HFF : Hid (nx < F ∧ f = 13 ∨ F ≤ nx ∧ T < nx ∧ f = 14) := by
    have h := hOK.long
    unfold errL at hf
    rw [if_pos (errA_ok hoA), hnx, hs.eF] at hf
    rw [hs.eF, hs.eT] at h
    split at hf
    · exact .inl ⟨‹_›, hf.symm⟩
    · split at hf
      · exact .inr ⟨by omega, by omega, hf.symm⟩
      · exact absurd hf.symm hf0
  clear hf hf0 hn hl hcap bz hb hoA hnx hbN hr1 hr2
  have bb : Below w.heap.size w ((w.alloc (.cells #[.int .i64 c.cB, .int .i64 c.cBeam, .int .i64 c.cDepth, .int .i64 c.cWin, .int .i64 c.cQs, .int .i64 c.cQr, .int .i64 c.cBatch, .int .i64 c.cPass, .int .i64 c.cMsg, .int .i64 c.cSeqs, .bool X, .int .i64 K, .int .i64 R, .int .i64 B, .int .i64 N, .int .i64 T, .int .i64 F, .slice ea E ec, .slice wa M wc] 30)).alloc (.cells #[.int .i64 0, .int .i64 0, .int .i64 0, .int .i64 0, .int .i64 0, .int .i64 0, .int .i64 0, .int .i64 0, .int .i64 0, .int .i64 0, .bool false, .int .i64 0, .int .i64 0, .int .i64 0, .int .i64 0, .int .i64 0, .int .i64 0, .slice none 0 0, .slice none 0 0] 30)) := ((Below.refl _ _).alloc (Nat.le_refl _) _).alloc (by simp) _
  have x1 : Box ((w.alloc (.cells #[.int .i64 c.cB, .int .i64 c.cBeam, .int .i64 c.cDepth, .int .i64 c.cWin, .int .i64 c.cQs, .int .i64 c.cQr, .int .i64 c.cBatch, .int .i64 c.cPass, .int .i64 c.cMsg, .int .i64 c.cSeqs, .bool X, .int .i64 K, .int .i64 R, .int .i64 B, .int .i64 N, .int .i64 T, .int .i64 F, .slice ea E ec, .slice wa M wc] 30)).alloc (.cells #[.int .i64 0, .int .i64 0, .int .i64 0, .int .i64 0, .int .i64 0, .int .i64 0, .int .i64 0, .int .i64 0, .int .i64 0, .int .i64 0, .bool false, .int .i64 0, .int .i64 0, .int .i64 0, .int .i64 0, .int .i64 0, .int .i64 0, .slice none 0 0, .slice none 0 0] 30)) w.heap.size 30 #[.int .i64 c.cB, .int .i64 c.cBeam, .int .i64 c.cDepth, .int .i64 c.cWin, .int .i64 c.cQs, .int .i64 c.cQr, .int .i64 c.cBatch, .int .i64 c.cPass, .int .i64 c.cMsg, .int .i64 c.cSeqs, .bool X, .int .i64 K, .int .i64 R, .int .i64 B, .int .i64 N, .int .i64 T, .int .i64 F, .slice ea E ec, .slice wa M wc] := (Box.new w 30 #[.int .i64 c.cB, .int .i64 c.cBeam, .int .i64 c.cDepth, .int .i64 c.cWin, .int .i64 c.cQs, .int .i64 c.cQr, .int .i64 c.cBatch, .int .i64 c.cPass, .int .i64 c.cMsg, .int .i64 c.cSeqs, .bool X, .int .i64 K, .int .i64 R, .int .i64 B, .int .i64 N, .int .i64 T, .int .i64 F, .slice ea E ec, .slice wa M wc]).next ((Below.refl _ _).alloc (Nat.le_refl _) _)
  have x2 := Box.new (w.alloc (.cells #[.int .i64 c.cB, .int .i64 c.cBeam, .int .i64 c.cDepth, .int .i64 c.cWin, .int .i64 c.cQs, .int .i64 c.cQr, .int .i64 c.cBatch, .int .i64 c.cPass, .int .i64 c.cMsg, .int .i64 c.cSeqs, .bool X, .int .i64 K, .int .i64 R, .int .i64 B, .int .i64 N, .int .i64 T, .int .i64 F, .slice ea E ec, .slice wa M wc] 30)) 30 #[.int .i64 0, .int .i64 0, .int .i64 0, .int .i64 0, .int .i64 0, .int .i64 0, .int .i64 0, .int .i64 0, .int .i64 0, .int .i64 0, .bool false, .int .i64 0, .int .i64 0, .int .i64 0, .int .i64 0, .int .i64 0, .int .i64 0, .slice none 0 0, .slice none 0 0]
  replace ha := ha.next bb
  have H1 := fun wx hx => sendCheck_any hs hE hM hm ea ec wa wc wx hx
  have H2 := fun wx hx => sendApart_any hs hE hM hm ea ec wa wc wx hx
  have HOK : Hid (okS s) := hOK
  have HS : Hid (SnIs s c X K R B N T F E M) := hs
  have HM9 : Hid (∀ e ∈ s.sW, e.eB.length ≤ 4096) := hm
  clear hs hm hOK
  go_enter Tryd.func9, Tryd.ntmps9
  go_wp2_with (first | (refine wpList_load_box x1 rfl 30 _ rfl rfl _ Tryd.underlying30 rfl (by kernel_rfl) ?_))
  refine (H1 _ ha).mono ?_
  rintro e w1 ⟨⟨z, rfl, hz⟩, b1⟩
  obtain rfl : z = 0 := by
    rcases hz with ⟨h, _⟩ | ⟨_, h⟩
    · exact h
    · exact (h HOK.out).elim
  obtain ⟨n2, hn2⟩ : ∃ n, (w.alloc (.cells #[.int .i64 c.cB, .int .i64 c.cBeam, .int .i64 c.cDepth, .int .i64 c.cWin, .int .i64 c.cQs, .int .i64 c.cQr, .int .i64 c.cBatch, .int .i64 c.cPass, .int .i64 c.cMsg, .int .i64 c.cSeqs, .bool X, .int .i64 K, .int .i64 R, .int .i64 B, .int .i64 N, .int .i64 T, .int .i64 F, .slice ea E ec, .slice wa M wc] 30)).heap.size = n := ⟨_, rfl⟩
  have hn2s : w.heap.size + 1 = n2 := by rw [← hn2]; simp
  rw [hn2] at x2
  try rw [hn2s]
  have HN2 : Hid (w.heap.size + 1 = n2) := hn2s
  clear hn2 hn2s
  replace x1 := x1.next b1
  replace x2 := x2.next b1
  replace ha := ha.next b1
  replace bb := bb.trans (b1.mono bb.size)
  clear b1 H1 hz
  go_wp2_with (first | (refine wpList_load_box x1 rfl 30 _ rfl rfl _ Tryd.underlying30 rfl (by kernel_rfl) ?_))
  refine (H2 _ ha).mono ?_
  rintro e w2 ⟨fa, fc, va, vc, rfl, o2, b1⟩
  have hbs := bb.size
  replace x1 := x1.next b1
  replace x2 := x2.next b1
  replace bb := bb.trans (b1.mono bb.size)
  replace o2 := o2.lower (base' := w.heap.size) hbs
  clear b1 H2 ha hbs
  have bA : Below w2.heap.size w2 (w2.alloc (.cells #[.int .i64 0, .int .i64 0, .int .i64 0, .int .i64 0, .int .i64 0, .int .i64 0, .int .i64 0, .int .i64 0, .int .i64 0, .int .i64 0, .bool false, .int .i64 0, .int .i64 0, .int .i64 0, .int .i64 0, .int .i64 0, .int .i64 0, .slice none 0 0, .slice none 0 0] 30)) := (Below.refl _ _).alloc (Nat.le_refl _) _
  have x3 := Box.new w2 30 #[.int .i64 0, .int .i64 0, .int .i64 0, .int .i64 0, .int .i64 0, .int .i64 0, .int .i64 0, .int .i64 0, .int .i64 0, .int .i64 0, .bool false, .int .i64 0, .int .i64 0, .int .i64 0, .int .i64 0, .int .i64 0, .int .i64 0, .slice none 0 0, .slice none 0 0]
  have HLx3 : Hid (w.heap.size < w2.heap.size ∧ n2 < w2.heap.size ∧ w.heap.size ≤ w2.heap.size) := ⟨x1.lt, x2.lt, bb.size⟩
  go_upto_region 5 with (first | (refine wpList_store_box x3 rfl 30 _ _ rfl rfl rfl rfl (by kernel_rfl) (by simp [Value.oneCell']) ?_))
  have bB := below_setRow bA (Nat.le_refl _) #[.int .i64 c.cB, .int .i64 c.cBeam, .int .i64 c.cDepth, .int .i64 c.cWin, .int .i64 c.cQs, .int .i64 c.cQr, .int .i64 c.cBatch, .int .i64 c.cPass, .int .i64 c.cMsg, .int .i64 c.cSeqs, .bool X, .int .i64 K, .int .i64 R, .int .i64 B, .int .i64 N, .int .i64 T, .int .i64 F, .slice fa E fc, .slice va M vc]
  replace x3 := x3.setRow #[.int .i64 c.cB, .int .i64 c.cBeam, .int .i64 c.cDepth, .int .i64 c.cWin, .int .i64 c.cQs, .int .i64 c.cQr, .int .i64 c.cBatch, .int .i64 c.cPass, .int .i64 c.cMsg, .int .i64 c.cSeqs, .bool X, .int .i64 K, .int .i64 R, .int .i64 B, .int .i64 N, .int .i64 T, .int .i64 F, .slice fa E fc, .slice va M vc]
  replace x1 := x1.next bB
  replace x2 := x2.next bB
  replace o2 := o2.next bB
  replace bb := bb.trans (bB.mono bb.size)
  clear bA bB
  obtain ⟨B3, hB3⟩ : ∃ k, w2.heap.size = k := ⟨_, rfl⟩
  rw [hB3] at x3 HLx3 x1 x2 o2 bb ⊢
  clear hB3
  generalize ((w2.alloc (.cells #[.int .i64 0, .int .i64 0, .int .i64 0, .int .i64 0, .int .i64 0, .int .i64 0, .int .i64 0, .int .i64 0, .int .i64 0, .int .i64 0, .bool false, .int .i64 0, .int .i64 0, .int .i64 0, .int .i64 0, .int .i64 0, .int .i64 0, .slice none 0 0, .slice none 0 0] 30)).setRow B3 #[.int .i64 c.cB, .int .i64 c.cBeam, .int .i64 c.cDepth, .int .i64 c.cWin, .int .i64 c.cQs, .int .i64 c.cQr, .int .i64 c.cBatch, .int .i64 c.cPass, .int .i64 c.cMsg, .int .i64 c.cSeqs, .bool X, .int .i64 K, .int .i64 R, .int .i64 B, .int .i64 N, .int .i64 T, .int .i64 F, .slice fa E fc, .slice va M vc]) = w3 at *
  have hbz := (HBL.out.below bb).mono bb.size
  go_wp2_with fail
  refine (HRD.out _ hbz).mono ?_
  rintro e w4 ⟨rfl, b1⟩
  replace x1 := x1.next b1
  replace x2 := x2.next b1
  replace x3 := x3.next b1
  replace o2 := o2.next b1
  replace bb := bb.trans (b1.mono bb.size)
  have bA : Below w4.heap.size w4 (w4.alloc (.cells #[.int .i64 nx, .int .u32 (bN : Int)] 65)) := (Below.refl _ _).alloc (Nat.le_refl _) _
  have x8 := Box.new w4 65 #[.int .i64 nx, .int .u32 (bN : Int)]
  have HL8 : Hid (B3 < w4.heap.size) := x3.lt
  go_upto_region 6 with fail
  replace x1 := x1.next bA
  replace x2 := x2.next bA
  replace x3 := x3.next bA
  replace o2 := o2.next bA
  replace bb := bb.trans (bA.mono bb.size)
  obtain ⟨B8, hB8⟩ : ∃ k, w4.heap.size = k := ⟨_, rfl⟩
  rw [hB8] at x8 HL8 ⊢
  clear b1 bA hB8 hbz
  generalize w4.alloc (.cells #[.int .i64 nx, .int .u32 (bN : Int)] 65) = w5 at *
  have c80 := x8.cell 0 _ rfl
  have l8 := x8.lt
  have c16 := x1.cell 16 _ rfl
  have c15 := x1.cell 15 _ rfl
  have l1 := x1.lt
  have hff := HFF.out
  by_cases hlo : nx < F
  · have dl : decide (nx < F) = true := decide_eq_true hlo
    obtain rfl : f = 13 := by omega
    clear hlo hff
    have xE := x2.setRow #[.int .i64 c.cB, .int .i64 c.cBeam, .int .i64 c.cDepth, .int .i64 c.cWin, .int .i64 c.cQs, .int .i64 c.cQr, .int .i64 c.cBatch, .int .i64 c.cPass, .int .i64 c.cMsg, .int .i64 c.cSeqs, .bool X, .int .i64 K, .int .i64 R, .int .i64 B, .int .i64 N, .int .i64 T, .int .i64 F, .slice fa E fc, .slice va M vc]
    have bE := below_setRow bb (show w.heap.size ≤ n2 by have := HN2.out; omega) #[.int .i64 c.cB, .int .i64 c.cBeam, .int .i64 c.cDepth, .int .i64 c.cWin, .int .i64 c.cQs, .int .i64 c.cQr, .int .i64 c.cBatch, .int .i64 c.cPass, .int .i64 c.cMsg, .int .i64 c.cSeqs, .bool X, .int .i64 K, .int .i64 R, .int .i64 B, .int .i64 N, .int .i64 T, .int .i64 F, .slice fa E fc, .slice va M vc]
    have o2E := o2.put x2 (by decide) (by decide) (by decide) (fun g hg => setRow_other w5 n2 g #[.int .i64 c.cB, .int .i64 c.cBeam, .int .i64 c.cDepth, .int .i64 c.cWin, .int .i64 c.cQs, .int .i64 c.cQr, .int .i64 c.cBatch, .int .i64 c.cPass, .int .i64 c.cMsg, .int .i64 c.cSeqs, .bool X, .int .i64 K, .int .i64 R, .int .i64 B, .int .i64 N, .int .i64 T, .int .i64 F, .slice fa E fc, .slice va M vc] hg)
    clear bb o2
    go_wp2_with (first | (refine wpList_load_box x3 rfl 30 _ rfl rfl _ Tryd.underlying30 rfl (by kernel_rfl) ?_) | (refine wpList_store_box x2 rfl 30 _ _ rfl rfl rfl rfl (by kernel_rfl) (by simp [Value.oneCell']) ?_))
    exact bodyPost_ret (results_boxR2 rfl _ _ rfl xE Tryd.underlying30 rfl (by kernel_rfl)) rfl ⟨fa, fc, va, vc, rfl, o2E, bE⟩
  · have dl : decide (nx < F) = false := decide_eq_false hlo
    have dh : decide (T < nx) = true := decide_eq_true (by omega)
    obtain rfl : f = 14 := by omega
    clear hlo hff
    have xE := x2.setRow #[.int .i64 c.cB, .int .i64 c.cBeam, .int .i64 c.cDepth, .int .i64 c.cWin, .int .i64 c.cQs, .int .i64 c.cQr, .int .i64 c.cBatch, .int .i64 c.cPass, .int .i64 c.cMsg, .int .i64 c.cSeqs, .bool X, .int .i64 K, .int .i64 R, .int .i64 B, .int .i64 N, .int .i64 T, .int .i64 F, .slice fa E fc, .slice va M vc]
    have bE := below_setRow bb (show w.heap.size ≤ n2 by have := HN2.out; omega) #[.int .i64 c.cB, .int .i64 c.cBeam, .int .i64 c.cDepth, .int .i64 c.cWin, .int .i64 c.cQs, .int .i64 c.cQr, .int .i64 c.cBatch, .int .i64 c.cPass, .int .i64 c.cMsg, .int .i64 c.cSeqs, .bool X, .int .i64 K, .int .i64 R, .int .i64 B, .int .i64 N, .int .i64 T, .int .i64 F, .slice fa E fc, .slice va M vc]
    have o2E := o2.put x2 (by decide) (by decide) (by decide) (fun g hg => setRow_other w5 n2 g #[.int .i64 c.cB, .int .i64 c.cBeam, .int .i64 c.cDepth, .int .i64 c.cWin, .int .i64 c.cQs, .int .i64 c.cQr, .int .i64 c.cBatch, .int .i64 c.cPass, .int .i64 c.cMsg, .int .i64 c.cSeqs, .bool X, .int .i64 K, .int .i64 R, .int .i64 B, .int .i64 N, .int .i64 T, .int .i64 F, .slice fa E fc, .slice va M vc] hg)
    clear bb o2
    go_wp2_with (first | (refine wpList_load_box x3 rfl 30 _ rfl rfl _ Tryd.underlying30 rfl (by kernel_rfl) ?_) | (refine wpList_store_box x2 rfl 30 _ _ rfl rfl rfl rfl (by kernel_rfl) (by simp [Value.oneCell']) ?_))
    exact bodyPost_ret (results_boxR2 rfl _ _ rfl xE Tryd.underlying30 rfl (by kernel_rfl)) rfl ⟨fa, fc, va, vc, rfl, o2E, bE⟩

set_option maxRecDepth 100000 in
set_option maxHeartbeats 8000000 in
theorem sendLearn_ok {s : Sn} {c : Cfg} {X : Bool} {K R B N T F : Int} {E M : Nat} (hs : SnIs s c X K R B N T F E M) (hE : E ≤ 1000000) (hM : M ≤ 1000000) (hm : ∀ e ∈ s.sW, e.eB.length ≤ 4096) (ea : Option Addr) (ec : Nat) (wa : Option Addr) (wc : Nat) (b : Option Addr) (n bc : Nat) (zs : List Int) (hn : zs.length = n) (hl : n ≤ 4096) (hcap : n ≤ bc) (bz : ∀ z ∈ zs, 0 ≤ z ∧ z ≤ 255) (w : World) (ha : SnAt w s ea E ec wa M wc) (hb : Holds .u8 w.heap.size w (.slice b n bc) zs) (hOK : okS s) (hoA : okA zs) (hf : errL s zs = 0) :
    Calls Tryd.prog 9 #[.agg #[.int .i64 c.cB, .int .i64 c.cBeam, .int .i64 c.cDepth, .int .i64 c.cWin, .int .i64 c.cQs, .int .i64 c.cQr, .int .i64 c.cBatch, .int .i64 c.cPass, .int .i64 c.cMsg, .int .i64 c.cSeqs, .bool X, .int .i64 K, .int .i64 R, .int .i64 B, .int .i64 N, .int .i64 T, .int .i64 F, .slice ea E ec, .slice wa M wc], .slice b n bc] w fun e W' => ∃ a2 m2 c2 a1 m1 c1, e = .returned (.tuple #[.agg #[.int .i64 c.cB, .int .i64 c.cBeam, .int .i64 c.cDepth, .int .i64 c.cWin, .int .i64 c.cQs, .int .i64 c.cQr, .int .i64 c.cBatch, .int .i64 c.cPass, .int .i64 c.cMsg, .int .i64 c.cSeqs, .bool X, .int .i64 K, .int .i64 R, .int .i64 B, .int .i64 N, .int .i64 T, .int .i64 (aN zs), .slice a2 m2 c2, .slice a1 m1 c1], .int .i64 0]) ∧ SnL w.heap.size W' (learnS s zs) a2 m2 c2 a1 m1 c1 ∧ Below w.heap.size w W' := by
  have HBL : Hid (Holds .u8 w.heap.size w (.slice b n bc) zs) := hb
  obtain ⟨nx, hnx⟩ : ∃ q, aN zs = q := ⟨_, rfl⟩
  obtain ⟨hr1, hr2, _⟩ := packA_read bz hoA
  obtain ⟨bN, hbN⟩ : ∃ q : Nat, aB zs = (q : Int) := ⟨(aB zs).toNat, by omega⟩
  have HRD : Hid (∀ wx : World, Holds .u8 wx.heap.size wx (.slice b n bc) zs → Calls Tryd.prog 25 #[.slice b n bc] wx fun e w' => e = .returned (.tuple #[.agg #[.int .i64 nx, .int .u32 (bN : Int)], .int .i64 0]) ∧ Below wx.heap.size wx w') := fun wx hx => by
    subst hn
    have h := AckRead_ok b bc zs hcap bz hoA wx hx
    rw [hnx, hbN] at h
    exact h
  rw [hnx] at hr1
  rw [hbN] at hr2
  rw [hnx]
  obtain ⟨_, hlo, hhi⟩ := errL_zero.1 hf
  rw [hnx, hs.eF] at hlo
  rw [hnx, hs.eF, hs.lW] at hhi
  have hlong := hOK.long
  rw [hs.eF, hs.eT, hs.lW] at hlong
  have hF0 := hOK.low
  rw [hs.eF] at hF0
  obtain ⟨d, hd⟩ : ∃ d : Nat, nx - F = (d : Int) := ⟨(nx - F).toNat, by omega⟩
  have hdM : d ≤ M := by omega
  have HEQ : Hid ((learnS s zs).sE = s.sE.dropWhile (fun x => decide (x ≤ nx)) ∧ (learnS s zs).sW = (s.sW.drop d).mapIdx fun i e => if i < winS s then ackM nx bN e else e) := by
    show _ ∧ _
    rw [learnS_in hf, hnx, hbN]
    unfold learnt
    rw [hs.eF, hd, Int.toNat_natCast, Int.toNat_natCast]
    exact ⟨rfl, rfl⟩
  have wD : IntKind.i64.wrap (nx - F) = (d : Int) := by rw [IntKind.wrap_i64]; omega
  have dl : decide (nx < F) = false := decide_eq_false (by omega)
  have dh : decide (T < nx) = false := decide_eq_false (by omega)
  have HWIN : Hid (((winS s : Nat) : Int) = c.cWin) := by
    have h := (okC_iff _).1 hOK.conf
    show ((s.sC.cWin.toNat : Nat) : Int) = c.cWin
    rw [← hs.eC]
    omega
  have HSEQ : Hid (∀ x ∈ s.sW, 0 ≤ x.eS ∧ x.eS ≤ 1073741824) := fun x hx => by
    obtain ⟨i, hi⟩ := List.mem_iff_getElem?.1 hx
    have h := (okE_iff _ _ _ _ _).1 (hOK.all i x hi).2
    omega
  clear hf hn hl hcap bz hb hoA hnx hlo hhi hlong hF0 hd
  have bb : Below w.heap.size w ((w.alloc (.cells #[.int .i64 c.cB, .int .i64 c.cBeam, .int .i64 c.cDepth, .int .i64 c.cWin, .int .i64 c.cQs, .int .i64 c.cQr, .int .i64 c.cBatch, .int .i64 c.cPass, .int .i64 c.cMsg, .int .i64 c.cSeqs, .bool X, .int .i64 K, .int .i64 R, .int .i64 B, .int .i64 N, .int .i64 T, .int .i64 F, .slice ea E ec, .slice wa M wc] 30)).alloc (.cells #[.int .i64 0, .int .i64 0, .int .i64 0, .int .i64 0, .int .i64 0, .int .i64 0, .int .i64 0, .int .i64 0, .int .i64 0, .int .i64 0, .bool false, .int .i64 0, .int .i64 0, .int .i64 0, .int .i64 0, .int .i64 0, .int .i64 0, .slice none 0 0, .slice none 0 0] 30)) := ((Below.refl _ _).alloc (Nat.le_refl _) _).alloc (by simp) _
  have x1 : Box ((w.alloc (.cells #[.int .i64 c.cB, .int .i64 c.cBeam, .int .i64 c.cDepth, .int .i64 c.cWin, .int .i64 c.cQs, .int .i64 c.cQr, .int .i64 c.cBatch, .int .i64 c.cPass, .int .i64 c.cMsg, .int .i64 c.cSeqs, .bool X, .int .i64 K, .int .i64 R, .int .i64 B, .int .i64 N, .int .i64 T, .int .i64 F, .slice ea E ec, .slice wa M wc] 30)).alloc (.cells #[.int .i64 0, .int .i64 0, .int .i64 0, .int .i64 0, .int .i64 0, .int .i64 0, .int .i64 0, .int .i64 0, .int .i64 0, .int .i64 0, .bool false, .int .i64 0, .int .i64 0, .int .i64 0, .int .i64 0, .int .i64 0, .int .i64 0, .slice none 0 0, .slice none 0 0] 30)) w.heap.size 30 #[.int .i64 c.cB, .int .i64 c.cBeam, .int .i64 c.cDepth, .int .i64 c.cWin, .int .i64 c.cQs, .int .i64 c.cQr, .int .i64 c.cBatch, .int .i64 c.cPass, .int .i64 c.cMsg, .int .i64 c.cSeqs, .bool X, .int .i64 K, .int .i64 R, .int .i64 B, .int .i64 N, .int .i64 T, .int .i64 F, .slice ea E ec, .slice wa M wc] := (Box.new w 30 #[.int .i64 c.cB, .int .i64 c.cBeam, .int .i64 c.cDepth, .int .i64 c.cWin, .int .i64 c.cQs, .int .i64 c.cQr, .int .i64 c.cBatch, .int .i64 c.cPass, .int .i64 c.cMsg, .int .i64 c.cSeqs, .bool X, .int .i64 K, .int .i64 R, .int .i64 B, .int .i64 N, .int .i64 T, .int .i64 F, .slice ea E ec, .slice wa M wc]).next ((Below.refl _ _).alloc (Nat.le_refl _) _)
  have x2 := Box.new (w.alloc (.cells #[.int .i64 c.cB, .int .i64 c.cBeam, .int .i64 c.cDepth, .int .i64 c.cWin, .int .i64 c.cQs, .int .i64 c.cQr, .int .i64 c.cBatch, .int .i64 c.cPass, .int .i64 c.cMsg, .int .i64 c.cSeqs, .bool X, .int .i64 K, .int .i64 R, .int .i64 B, .int .i64 N, .int .i64 T, .int .i64 F, .slice ea E ec, .slice wa M wc] 30)) 30 #[.int .i64 0, .int .i64 0, .int .i64 0, .int .i64 0, .int .i64 0, .int .i64 0, .int .i64 0, .int .i64 0, .int .i64 0, .int .i64 0, .bool false, .int .i64 0, .int .i64 0, .int .i64 0, .int .i64 0, .int .i64 0, .int .i64 0, .slice none 0 0, .slice none 0 0]
  replace ha := ha.next bb
  have H1 := fun wx hx => sendCheck_any hs hE hM hm ea ec wa wc wx hx
  have H2 := fun wx hx => sendApart_any hs hE hM hm ea ec wa wc wx hx
  have HOK : Hid (okS s) := hOK
  have HS : Hid (SnIs s c X K R B N T F E M) := hs
  have HM9 : Hid (∀ e ∈ s.sW, e.eB.length ≤ 4096) := hm
  clear hs hm hOK
  go_enter Tryd.func9, Tryd.ntmps9
  go_wp2_with (first | (refine wpList_load_box x1 rfl 30 _ rfl rfl _ Tryd.underlying30 rfl (by kernel_rfl) ?_))
  refine (H1 _ ha).mono ?_
  rintro e w1 ⟨⟨z, rfl, hz⟩, b1⟩
  obtain rfl : z = 0 := by
    rcases hz with ⟨h, _⟩ | ⟨_, h⟩
    · exact h
    · exact (h HOK.out).elim
  obtain ⟨n2, hn2⟩ : ∃ n, (w.alloc (.cells #[.int .i64 c.cB, .int .i64 c.cBeam, .int .i64 c.cDepth, .int .i64 c.cWin, .int .i64 c.cQs, .int .i64 c.cQr, .int .i64 c.cBatch, .int .i64 c.cPass, .int .i64 c.cMsg, .int .i64 c.cSeqs, .bool X, .int .i64 K, .int .i64 R, .int .i64 B, .int .i64 N, .int .i64 T, .int .i64 F, .slice ea E ec, .slice wa M wc] 30)).heap.size = n := ⟨_, rfl⟩
  have hn2s : w.heap.size + 1 = n2 := by rw [← hn2]; simp
  rw [hn2] at x2
  try rw [hn2s]
  have HN2 : Hid (w.heap.size + 1 = n2) := hn2s
  clear hn2 hn2s
  replace x1 := x1.next b1
  replace x2 := x2.next b1
  replace ha := ha.next b1
  replace bb := bb.trans (b1.mono bb.size)
  clear b1 H1 hz
  go_wp2_with (first | (refine wpList_load_box x1 rfl 30 _ rfl rfl _ Tryd.underlying30 rfl (by kernel_rfl) ?_))
  refine (H2 _ ha).mono ?_
  rintro e w2 ⟨fa, fc, va, vc, rfl, o2, b1⟩
  have hbs := bb.size
  replace x1 := x1.next b1
  replace x2 := x2.next b1
  replace bb := bb.trans (b1.mono bb.size)
  replace o2 := o2.lower (base' := w.heap.size) hbs
  clear b1 H2 ha hbs
  have bA : Below w2.heap.size w2 (w2.alloc (.cells #[.int .i64 0, .int .i64 0, .int .i64 0, .int .i64 0, .int .i64 0, .int .i64 0, .int .i64 0, .int .i64 0, .int .i64 0, .int .i64 0, .bool false, .int .i64 0, .int .i64 0, .int .i64 0, .int .i64 0, .int .i64 0, .int .i64 0, .slice none 0 0, .slice none 0 0] 30)) := (Below.refl _ _).alloc (Nat.le_refl _) _
  have x3 := Box.new w2 30 #[.int .i64 0, .int .i64 0, .int .i64 0, .int .i64 0, .int .i64 0, .int .i64 0, .int .i64 0, .int .i64 0, .int .i64 0, .int .i64 0, .bool false, .int .i64 0, .int .i64 0, .int .i64 0, .int .i64 0, .int .i64 0, .int .i64 0, .slice none 0 0, .slice none 0 0]
  have HLx3 : Hid (w.heap.size < w2.heap.size ∧ n2 < w2.heap.size ∧ w.heap.size ≤ w2.heap.size) := ⟨x1.lt, x2.lt, bb.size⟩
  go_upto_region 5 with (first | (refine wpList_store_box x3 rfl 30 _ _ rfl rfl rfl rfl (by kernel_rfl) (by simp [Value.oneCell']) ?_))
  have bB := below_setRow bA (Nat.le_refl _) #[.int .i64 c.cB, .int .i64 c.cBeam, .int .i64 c.cDepth, .int .i64 c.cWin, .int .i64 c.cQs, .int .i64 c.cQr, .int .i64 c.cBatch, .int .i64 c.cPass, .int .i64 c.cMsg, .int .i64 c.cSeqs, .bool X, .int .i64 K, .int .i64 R, .int .i64 B, .int .i64 N, .int .i64 T, .int .i64 F, .slice fa E fc, .slice va M vc]
  replace x3 := x3.setRow #[.int .i64 c.cB, .int .i64 c.cBeam, .int .i64 c.cDepth, .int .i64 c.cWin, .int .i64 c.cQs, .int .i64 c.cQr, .int .i64 c.cBatch, .int .i64 c.cPass, .int .i64 c.cMsg, .int .i64 c.cSeqs, .bool X, .int .i64 K, .int .i64 R, .int .i64 B, .int .i64 N, .int .i64 T, .int .i64 F, .slice fa E fc, .slice va M vc]
  replace x1 := x1.next bB
  replace x2 := x2.next bB
  replace o2 := o2.next bB
  replace bb := bb.trans (bB.mono bb.size)
  clear bA bB
  obtain ⟨B3, hB3⟩ : ∃ k, w2.heap.size = k := ⟨_, rfl⟩
  rw [hB3] at x3 HLx3 x1 x2 o2 bb ⊢
  clear hB3
  generalize ((w2.alloc (.cells #[.int .i64 0, .int .i64 0, .int .i64 0, .int .i64 0, .int .i64 0, .int .i64 0, .int .i64 0, .int .i64 0, .int .i64 0, .int .i64 0, .bool false, .int .i64 0, .int .i64 0, .int .i64 0, .int .i64 0, .int .i64 0, .int .i64 0, .slice none 0 0, .slice none 0 0] 30)).setRow B3 #[.int .i64 c.cB, .int .i64 c.cBeam, .int .i64 c.cDepth, .int .i64 c.cWin, .int .i64 c.cQs, .int .i64 c.cQr, .int .i64 c.cBatch, .int .i64 c.cPass, .int .i64 c.cMsg, .int .i64 c.cSeqs, .bool X, .int .i64 K, .int .i64 R, .int .i64 B, .int .i64 N, .int .i64 T, .int .i64 F, .slice fa E fc, .slice va M vc]) = w3 at *
  have hbz := (HBL.out.below bb).mono bb.size
  go_wp2_with fail
  refine (HRD.out _ hbz).mono ?_
  rintro e w4 ⟨rfl, b1⟩
  replace x1 := x1.next b1
  replace x2 := x2.next b1
  replace x3 := x3.next b1
  replace o2 := o2.next b1
  replace bb := bb.trans (b1.mono bb.size)
  have bA : Below w4.heap.size w4 (w4.alloc (.cells #[.int .i64 nx, .int .u32 (bN : Int)] 65)) := (Below.refl _ _).alloc (Nat.le_refl _) _
  have x8 := Box.new w4 65 #[.int .i64 nx, .int .u32 (bN : Int)]
  have HL8 : Hid (B3 < w4.heap.size) := x3.lt
  go_upto_region 6 with fail
  replace x1 := x1.next bA
  replace x2 := x2.next bA
  replace x3 := x3.next bA
  replace o2 := o2.next bA
  replace bb := bb.trans (bA.mono bb.size)
  obtain ⟨B8, hB8⟩ : ∃ k, w4.heap.size = k := ⟨_, rfl⟩
  rw [hB8] at x8 HL8 ⊢
  clear b1 bA hB8 hbz
  generalize w4.alloc (.cells #[.int .i64 nx, .int .u32 (bN : Int)] 65) = w5 at *
  have hHR := HRD
  clear HRD hHR
  have c80 := x8.cell 0 _ rfl
  have l8 := x8.lt
  have c16 := x1.cell 16 _ rfl
  have c15 := x1.cell 15 _ rfl
  have l1 := x1.lt
  obtain ⟨oE, r, hr, oW, oL⟩ := o2
  rw [HS.out.lW] at oW
  have hrl : r.length = M := by rw [← HS.out.lW, ← hr, List.length_map]
  have hvc := rowK_cap oW
  have HR : Hid (r.map Prod.fst = s.sW) := hr
  have HRL : Hid (r.length = M) := hrl
  have HOW : Hid (w5.ownsRow w.heap.size 47 5 (.slice va M vc) M (cellsK emK r)) := oW
  have HDR : Hid (∀ (a' : Option Addr) (c' : Nat), (∀ g o, va = some ⟨g, o, none⟩ → d < M → a' = some ⟨g, o + d * 5, none⟩ ∧ c' = vc - d) → (d = M → a' = none → c' = 0) → RowAt w.heap.size w5 47 5 (.slice a' (M - d) c') (M - d) (cellsK emK (r.drop d))) := fun a' c' h1 h2 => by
    have h := (RowAt.ofOwn oW).drop hdM h1 h2
    rw [cellsK_drop] at h
    exact h
  have HNN : Hid (va = none → vc = 0) := fun h => by
    subst h
    rcases oW.2 with ⟨e, _⟩ | ⟨g, cap', cur, e, _⟩
    · cases e; rfl
    · cases e
  have HSO : Hid (va = none ∨ ∃ gg, va = some ⟨gg, 0, none⟩) := by
    rcases oW.2 with ⟨e, _⟩ | ⟨g, cap', cur, e, _⟩
    · cases e; exact .inl rfl
    · cases e; exact .inr ⟨_, rfl⟩
  have HMD : Hid ((M : Int) - d = ((M - d : Nat) : Int)) := by show (M : Int) - d = ((M - d : Nat) : Int); omega
  clear hr hrl oW
  have c18 := x3.cell 18 _ rfl
  have c316 := x3.cell 16 _ rfl
  have g18 := x3.free 18
  have l3 := x3.lt
  by_cases hc : vc = d
  · have n1 : (vc = d) = True := eq_true hc
    have HK : Hid (d = M ∧ vc - d = 0) := by constructor <;> omega
    clear hc hvc
    go_upto_region 14 with fail
    obtain ⟨m1, hm1⟩ : ∃ m, M - d = m := ⟨_, rfl⟩
    obtain ⟨c1, hc1⟩ : ∃ m, vc - d = m := ⟨_, rfl⟩
    have oW := HDR.out (va) (vc - d) (fun _ _ _ h => by have := HK.out; omega) (fun _ _ => HK.out.2)
    rw [hm1, hc1] at oW
    rw [hm1, hc1]
    have HM1 : Hid (M - d = m1) := hm1
    clear hm1 hc1 c18 c316 g18 l3 c80 l8 c16 c15 l1 n1 HDR HK x1 HOW
    have qz : ∀ g, g ≠ B3 → (w5.setCell ⟨B3, 18, none⟩ (.slice va m1 c1)).heap[g]? = w5.heap[g]? := fun g hg => Below.heap_setCell _ _ _ g hg
    replace oW := oW.typed (fun g cur _ hg => qz g (box_ne x3 hg (by decide)))
    replace oL := oL.put x3 (emK_subs (by decide)) qz
    replace oE := row_put1 oE x3 (by decide) qz
    replace x2 := x2.other (p := ⟨B3, 18, none⟩) (show n2 ≠ B3 by have := HLx3.out; omega) (.slice va m1 c1)
    replace x8 := x8.other (p := ⟨B3, 18, none⟩) (show B8 ≠ B3 by have := HL8.out; omega) (.slice va m1 c1)
    replace x3 : Box (w5.setCell ⟨B3, 18, none⟩ (.slice va m1 c1)) B3 30 #[.int .i64 c.cB, .int .i64 c.cBeam, .int .i64 c.cDepth, .int .i64 c.cWin, .int .i64 c.cQs, .int .i64 c.cQr, .int .i64 c.cBatch, .int .i64 c.cPass, .int .i64 c.cMsg, .int .i64 c.cSeqs, .bool X, .int .i64 K, .int .i64 R, .int .i64 B, .int .i64 N, .int .i64 T, .int .i64 F, .slice fa E fc, .slice va m1 c1] := x3.set 18 _
    replace bb := bb.setCell (p := ⟨B3, 18, none⟩) (show w.heap.size ≤ B3 by have := HLx3.out; omega) (.slice va m1 c1)
    clear qz
    generalize w5.setCell ⟨B3, 18, none⟩ (.slice va m1 c1) = w6 at *
    have c80 := x8.cell 0 _ rfl
    have l8 := x8.lt
    have cz := x3.cell 16 _ rfl
    have gz := x3.free 16
    have lz := x3.lt
    go_upto_region 15 with fail
    clear cz gz lz
    have qz : ∀ g, g ≠ B3 → (w6.setCell ⟨B3, 16, none⟩ (.int .i64 nx)).heap[g]? = w6.heap[g]? := fun g hg => Below.heap_setCell _ _ _ g hg
    replace oW := oW.typed (fun g cur _ hg => qz g (box_ne x3 hg (by decide)))
    replace oL := oL.put x3 (emK_subs (by decide)) qz
    replace oE := row_put1 oE x3 (by decide) qz
    replace x2 := x2.other (p := ⟨B3, 16, none⟩) (show n2 ≠ B3 by have := HLx3.out; omega) (.int .i64 nx)
    replace x8 := x8.other (p := ⟨B3, 16, none⟩) (show B8 ≠ B3 by have := HL8.out; omega) (.int .i64 nx)
    replace x3 : Box (w6.setCell ⟨B3, 16, none⟩ (.int .i64 nx)) B3 30 #[.int .i64 c.cB, .int .i64 c.cBeam, .int .i64 c.cDepth, .int .i64 c.cWin, .int .i64 c.cQs, .int .i64 c.cQr, .int .i64 c.cBatch, .int .i64 c.cPass, .int .i64 c.cMsg, .int .i64 c.cSeqs, .bool X, .int .i64 K, .int .i64 R, .int .i64 B, .int .i64 N, .int .i64 T, .int .i64 nx, .slice fa E fc, .slice va m1 c1] := x3.set 16 _
    replace bb := bb.setCell (p := ⟨B3, 16, none⟩) (show w.heap.size ≤ B3 by have := HLx3.out; omega) (.int .i64 nx)
    clear c80 l8
    clear qz
    generalize (w6.setCell ⟨B3, 16, none⟩ (.int .i64 nx)) = w7 at *
    have c17 := x3.cell 17 _ rfl
    have c16 := x3.cell 16 _ rfl
    have l3 := x3.lt
    go_wp2_with fail
    refine (sendAbove_ok fa E fc s.sE nx HS.out.lE hE _ _ oE).mono ?_
    rintro e w8 ⟨a2, m2, c2, rfl, oA, rfl⟩
    clear c17 c16 l3 oE
    have cz := x3.cell 17 _ rfl
    have gz := x3.free 17
    have lz := x3.lt
    go_upto_region 16 with fail
    clear cz gz lz
    have qz : ∀ g, g ≠ B3 → (w7.setCell ⟨B3, 17, none⟩ (.slice a2 m2 c2)).heap[g]? = w7.heap[g]? := fun g hg => Below.heap_setCell _ _ _ g hg
    replace oW := oW.typed (fun g cur _ hg => qz g (box_ne x3 hg (by decide)))
    replace oL := oL.put x3 (emK_subs (by decide)) qz
    replace oA := oA.typed (fun g cur _ hg => qz g (box_ne x3 hg (by decide)))
    replace x2 := x2.other (p := ⟨B3, 17, none⟩) (show n2 ≠ B3 by have := HLx3.out; omega) (.slice a2 m2 c2)
    replace x8 := x8.other (p := ⟨B3, 17, none⟩) (show B8 ≠ B3 by have := HL8.out; omega) (.slice a2 m2 c2)
    replace x3 : Box (w7.setCell ⟨B3, 17, none⟩ (.slice a2 m2 c2)) B3 30 #[.int .i64 c.cB, .int .i64 c.cBeam, .int .i64 c.cDepth, .int .i64 c.cWin, .int .i64 c.cQs, .int .i64 c.cQr, .int .i64 c.cBatch, .int .i64 c.cPass, .int .i64 c.cMsg, .int .i64 c.cSeqs, .bool X, .int .i64 K, .int .i64 R, .int .i64 B, .int .i64 N, .int .i64 T, .int .i64 nx, .slice a2 m2 c2, .slice va m1 c1] := x3.set 17 _
    replace bb := bb.setCell (p := ⟨B3, 17, none⟩) (show w.heap.size ≤ B3 by have := HLx3.out; omega) (.slice a2 m2 c2)
    clear qz
    generalize (w7.setCell ⟨B3, 17, none⟩ (.slice a2 m2 c2)) = w8 at *
    have hbs := bb.size
    have hsl := oL.slices
    have hlr : (r.drop d).length = m1 := by rw [List.length_drop, HRL.out]; exact HM1.out
    have hqs : ∀ x ∈ r.drop d, 0 ≤ x.1.eS ∧ x.1.eS ≤ 1073741824 := fun x hx => HSEQ.out _ (by rw [← HR.out]; exact List.mem_map.2 ⟨x, List.mem_of_mem_drop hx, rfl⟩)
    have oLd := oL.tail d
    have HMK := sendMark_ok c X K R B N T nx a2 m2 c2 (va) m1 c1 (r.drop d) hlr (by have := HM1.out; omega) hqs oLd.slices nx bN hr1 (by omega) (winS s) HWIN.out w.heap.size w8 hbs oW (fun q o e h0 => by obtain ⟨g9, o9, c9, e9, h9, h10, _⟩ := oW.form h0; cases (Value.slice.inj e9).1.symm.trans e; exact ⟨h9, h10⟩)
    go_wp2_with (first | (refine wpList_load_box x3 rfl 30 _ rfl rfl _ Tryd.underlying30 rfl (by kernel_rfl) ?_) | (refine wpList_load_box x8 rfl 65 _ rfl rfl _ Tryd.underlying65 rfl (by kernel_rfl) ?_))
    refine HMK.mono ?_
    rintro e w9 ⟨rfl, oW9, b9, hfr⟩
    have HFR : Hid (∀ g, g < w8.heap.size → (∀ q o, (va : Option Addr) = some ⟨q, o, none⟩ → 0 < m1 → g ≠ q) → w9.heap[g]? = w8.heap[g]?) := hfr
    have x2n : Box w9 n2 30 #[.int .i64 0, .int .i64 0, .int .i64 0, .int .i64 0, .int .i64 0, .int .i64 0, .int .i64 0, .int .i64 0, .int .i64 0, .int .i64 0, .bool false, .int .i64 0, .int .i64 0, .int .i64 0, .int .i64 0, .int .i64 0, .int .i64 0, .slice none 0 0, .slice none 0 0] := (HFR.out n2 x2.lt (fun q o e h0 => (RowAt.neBox (by rw [e] at oW; exact oW) h0 x2 (by decide)).symm)).trans x2
    have x3n : Box w9 B3 30 #[.int .i64 c.cB, .int .i64 c.cBeam, .int .i64 c.cDepth, .int .i64 c.cWin, .int .i64 c.cQs, .int .i64 c.cQr, .int .i64 c.cBatch, .int .i64 c.cPass, .int .i64 c.cMsg, .int .i64 c.cSeqs, .bool X, .int .i64 K, .int .i64 R, .int .i64 B, .int .i64 N, .int .i64 T, .int .i64 nx, .slice a2 m2 c2, .slice va m1 c1] := (HFR.out B3 x3.lt (fun q o e h0 => (RowAt.neBox (by rw [e] at oW; exact oW) h0 x3 (by decide)).symm)).trans x3
    have oAn := oA.typed (W' := w9) (fun g cur _ hg => HFR.out g (Array.getElem?_eq_some_iff.1 hg).1 (fun q o e h0 => (RowAt.neBox (by rw [e] at oW; exact oW) h0 (show Box w8 g _ cur from hg) (by decide)).symm))
    have oLn := (oLd.typed (W' := w9) emK_u8 (fun g cur _ hg => HFR.out g (Array.getElem?_eq_some_iff.1 hg).1 (fun q o e h0 => (RowAt.neBox (by rw [e] at oW; exact oW) h0 (show Box w8 g _ cur from hg) (by decide)).symm))).mark nx bN (min m1 (winS s))
    replace bb := bb.trans b9
    clear HMK hfr b9 hbs hsl hqs HFR x2 x3 x8 oA oL oLd oW
    have qz : ∀ g, g ≠ n2 → (w9.setRow n2 #[.int .i64 c.cB, .int .i64 c.cBeam, .int .i64 c.cDepth, .int .i64 c.cWin, .int .i64 c.cQs, .int .i64 c.cQr, .int .i64 c.cBatch, .int .i64 c.cPass, .int .i64 c.cMsg, .int .i64 c.cSeqs, .bool X, .int .i64 K, .int .i64 R, .int .i64 B, .int .i64 N, .int .i64 T, .int .i64 nx, .slice a2 m2 c2, .slice va m1 c1]).heap[g]? = w9.heap[g]? := fun g hg => setRow_other w9 n2 g #[.int .i64 c.cB, .int .i64 c.cBeam, .int .i64 c.cDepth, .int .i64 c.cWin, .int .i64 c.cQs, .int .i64 c.cQr, .int .i64 c.cBatch, .int .i64 c.cPass, .int .i64 c.cMsg, .int .i64 c.cSeqs, .bool X, .int .i64 K, .int .i64 R, .int .i64 B, .int .i64 N, .int .i64 T, .int .i64 nx, .slice a2 m2 c2, .slice va m1 c1] hg
    have oWE := oW9.typed (fun g cur _ hg => qz g (box_ne x2n hg (by decide)))
    have oAE := oAn.typed (fun g cur _ hg => qz g (box_ne x2n hg (by decide)))
    have oLE := oLn.put x2n (emK_subs (by decide)) qz
    have HSN : Hid (SnL w.heap.size (w9.setRow n2 #[.int .i64 c.cB, .int .i64 c.cBeam, .int .i64 c.cDepth, .int .i64 c.cWin, .int .i64 c.cQs, .int .i64 c.cQr, .int .i64 c.cBatch, .int .i64 c.cPass, .int .i64 c.cMsg, .int .i64 c.cSeqs, .bool X, .int .i64 K, .int .i64 R, .int .i64 B, .int .i64 N, .int .i64 T, .int .i64 nx, .slice a2 m2 c2, .slice va m1 c1]) (learnS s zs) a2 m2 c2 (va) m1 c1) := ⟨by rw [HEQ.out.1]; exact oAE, markUp (r.drop d) nx bN (min m1 (winS s)), by rw [markUp_fst _ _ _ _ _ hlr, List.map_drop, HR.out, HEQ.out.2], by rw [HEQ.out.2, List.length_mapIdx, List.length_drop, HS.out.lW, HM1.out]; exact oWE, oLE⟩
    have xE := x2n.setRow #[.int .i64 c.cB, .int .i64 c.cBeam, .int .i64 c.cDepth, .int .i64 c.cWin, .int .i64 c.cQs, .int .i64 c.cQr, .int .i64 c.cBatch, .int .i64 c.cPass, .int .i64 c.cMsg, .int .i64 c.cSeqs, .bool X, .int .i64 K, .int .i64 R, .int .i64 B, .int .i64 N, .int .i64 T, .int .i64 nx, .slice a2 m2 c2, .slice va m1 c1]
    have bE := below_setRow bb (show w.heap.size ≤ n2 by have := HN2.out; omega) #[.int .i64 c.cB, .int .i64 c.cBeam, .int .i64 c.cDepth, .int .i64 c.cWin, .int .i64 c.cQs, .int .i64 c.cQr, .int .i64 c.cBatch, .int .i64 c.cPass, .int .i64 c.cMsg, .int .i64 c.cSeqs, .bool X, .int .i64 K, .int .i64 R, .int .i64 B, .int .i64 N, .int .i64 T, .int .i64 nx, .slice a2 m2 c2, .slice va m1 c1]
    clear bb oW9 oWE oAE oLE oAn oLn qz
    go_wp2_with (first | (refine wpList_load_box x3n rfl 30 _ rfl rfl _ Tryd.underlying30 rfl (by kernel_rfl) ?_) | (refine wpList_store_box x2n rfl 30 _ _ rfl rfl rfl rfl (by kernel_rfl) (by simp [Value.oneCell']) ?_))
    exact bodyPost_ret (results_boxR2 rfl _ _ rfl xE Tryd.underlying30 rfl (by kernel_rfl)) rfl ⟨a2, m2, c2, va, m1, c1, rfl, HSN.out, bE⟩
  · have n1 : ¬ vc = d := hc
    have HK : Hid (d ≤ M) := hdM
    obtain ⟨gg, rfl⟩ : ∃ gg, va = some ⟨gg, 0, none⟩ := by
      rcases HSO.out with h | h
      · have := HNN.out h; omega
      · exact h
    clear hc hvc
    go_upto_region 14 with fail
    obtain ⟨m1, hm1⟩ : ∃ m, M - d = m := ⟨_, rfl⟩
    obtain ⟨c1, hc1⟩ : ∃ m, vc - d = m := ⟨_, rfl⟩
    have oW := HDR.out ((some ⟨gg, d * 5, none⟩)) (vc - d) (fun g o h _ => by cases h; exact ⟨by simp, rfl⟩) (fun _ h => by cases h)
    rw [hm1, hc1] at oW
    rw [hm1, hc1]
    have HM1 : Hid (M - d = m1) := hm1
    clear hm1 hc1 c18 c316 g18 l3 c80 l8 c16 c15 l1 n1 HDR HK x1 HOW
    have qz : ∀ g, g ≠ B3 → (w5.setCell ⟨B3, 18, none⟩ (.slice (some ⟨gg, d * 5, none⟩) m1 c1)).heap[g]? = w5.heap[g]? := fun g hg => Below.heap_setCell _ _ _ g hg
    replace oW := oW.typed (fun g cur _ hg => qz g (box_ne x3 hg (by decide)))
    replace oL := oL.put x3 (emK_subs (by decide)) qz
    replace oE := row_put1 oE x3 (by decide) qz
    replace x2 := x2.other (p := ⟨B3, 18, none⟩) (show n2 ≠ B3 by have := HLx3.out; omega) (.slice (some ⟨gg, d * 5, none⟩) m1 c1)
    replace x8 := x8.other (p := ⟨B3, 18, none⟩) (show B8 ≠ B3 by have := HL8.out; omega) (.slice (some ⟨gg, d * 5, none⟩) m1 c1)
    replace x3 : Box (w5.setCell ⟨B3, 18, none⟩ (.slice (some ⟨gg, d * 5, none⟩) m1 c1)) B3 30 #[.int .i64 c.cB, .int .i64 c.cBeam, .int .i64 c.cDepth, .int .i64 c.cWin, .int .i64 c.cQs, .int .i64 c.cQr, .int .i64 c.cBatch, .int .i64 c.cPass, .int .i64 c.cMsg, .int .i64 c.cSeqs, .bool X, .int .i64 K, .int .i64 R, .int .i64 B, .int .i64 N, .int .i64 T, .int .i64 F, .slice fa E fc, .slice (some ⟨gg, d * 5, none⟩) m1 c1] := x3.set 18 _
    replace bb := bb.setCell (p := ⟨B3, 18, none⟩) (show w.heap.size ≤ B3 by have := HLx3.out; omega) (.slice (some ⟨gg, d * 5, none⟩) m1 c1)
    clear qz
    generalize w5.setCell ⟨B3, 18, none⟩ (.slice (some ⟨gg, d * 5, none⟩) m1 c1) = w6 at *
    have c80 := x8.cell 0 _ rfl
    have l8 := x8.lt
    have cz := x3.cell 16 _ rfl
    have gz := x3.free 16
    have lz := x3.lt
    go_upto_region 15 with fail
    clear cz gz lz
    have qz : ∀ g, g ≠ B3 → (w6.setCell ⟨B3, 16, none⟩ (.int .i64 nx)).heap[g]? = w6.heap[g]? := fun g hg => Below.heap_setCell _ _ _ g hg
    replace oW := oW.typed (fun g cur _ hg => qz g (box_ne x3 hg (by decide)))
    replace oL := oL.put x3 (emK_subs (by decide)) qz
    replace oE := row_put1 oE x3 (by decide) qz
    replace x2 := x2.other (p := ⟨B3, 16, none⟩) (show n2 ≠ B3 by have := HLx3.out; omega) (.int .i64 nx)
    replace x8 := x8.other (p := ⟨B3, 16, none⟩) (show B8 ≠ B3 by have := HL8.out; omega) (.int .i64 nx)
    replace x3 : Box (w6.setCell ⟨B3, 16, none⟩ (.int .i64 nx)) B3 30 #[.int .i64 c.cB, .int .i64 c.cBeam, .int .i64 c.cDepth, .int .i64 c.cWin, .int .i64 c.cQs, .int .i64 c.cQr, .int .i64 c.cBatch, .int .i64 c.cPass, .int .i64 c.cMsg, .int .i64 c.cSeqs, .bool X, .int .i64 K, .int .i64 R, .int .i64 B, .int .i64 N, .int .i64 T, .int .i64 nx, .slice fa E fc, .slice (some ⟨gg, d * 5, none⟩) m1 c1] := x3.set 16 _
    replace bb := bb.setCell (p := ⟨B3, 16, none⟩) (show w.heap.size ≤ B3 by have := HLx3.out; omega) (.int .i64 nx)
    clear c80 l8
    clear qz
    generalize (w6.setCell ⟨B3, 16, none⟩ (.int .i64 nx)) = w7 at *
    have c17 := x3.cell 17 _ rfl
    have c16 := x3.cell 16 _ rfl
    have l3 := x3.lt
    go_wp2_with fail
    refine (sendAbove_ok fa E fc s.sE nx HS.out.lE hE _ _ oE).mono ?_
    rintro e w8 ⟨a2, m2, c2, rfl, oA, rfl⟩
    clear c17 c16 l3 oE
    have cz := x3.cell 17 _ rfl
    have gz := x3.free 17
    have lz := x3.lt
    go_upto_region 16 with fail
    clear cz gz lz
    have qz : ∀ g, g ≠ B3 → (w7.setCell ⟨B3, 17, none⟩ (.slice a2 m2 c2)).heap[g]? = w7.heap[g]? := fun g hg => Below.heap_setCell _ _ _ g hg
    replace oW := oW.typed (fun g cur _ hg => qz g (box_ne x3 hg (by decide)))
    replace oL := oL.put x3 (emK_subs (by decide)) qz
    replace oA := oA.typed (fun g cur _ hg => qz g (box_ne x3 hg (by decide)))
    replace x2 := x2.other (p := ⟨B3, 17, none⟩) (show n2 ≠ B3 by have := HLx3.out; omega) (.slice a2 m2 c2)
    replace x8 := x8.other (p := ⟨B3, 17, none⟩) (show B8 ≠ B3 by have := HL8.out; omega) (.slice a2 m2 c2)
    replace x3 : Box (w7.setCell ⟨B3, 17, none⟩ (.slice a2 m2 c2)) B3 30 #[.int .i64 c.cB, .int .i64 c.cBeam, .int .i64 c.cDepth, .int .i64 c.cWin, .int .i64 c.cQs, .int .i64 c.cQr, .int .i64 c.cBatch, .int .i64 c.cPass, .int .i64 c.cMsg, .int .i64 c.cSeqs, .bool X, .int .i64 K, .int .i64 R, .int .i64 B, .int .i64 N, .int .i64 T, .int .i64 nx, .slice a2 m2 c2, .slice (some ⟨gg, d * 5, none⟩) m1 c1] := x3.set 17 _
    replace bb := bb.setCell (p := ⟨B3, 17, none⟩) (show w.heap.size ≤ B3 by have := HLx3.out; omega) (.slice a2 m2 c2)
    clear qz
    generalize (w7.setCell ⟨B3, 17, none⟩ (.slice a2 m2 c2)) = w8 at *
    have hbs := bb.size
    have hsl := oL.slices
    have hlr : (r.drop d).length = m1 := by rw [List.length_drop, HRL.out]; exact HM1.out
    have hqs : ∀ x ∈ r.drop d, 0 ≤ x.1.eS ∧ x.1.eS ≤ 1073741824 := fun x hx => HSEQ.out _ (by rw [← HR.out]; exact List.mem_map.2 ⟨x, List.mem_of_mem_drop hx, rfl⟩)
    have oLd := oL.tail d
    have HMK := sendMark_ok c X K R B N T nx a2 m2 c2 ((some ⟨gg, d * 5, none⟩)) m1 c1 (r.drop d) hlr (by have := HM1.out; omega) hqs oLd.slices nx bN hr1 (by omega) (winS s) HWIN.out w.heap.size w8 hbs oW (fun q o e h0 => by obtain ⟨g9, o9, c9, e9, h9, h10, _⟩ := oW.form h0; cases (Value.slice.inj e9).1.symm.trans e; exact ⟨h9, h10⟩)
    go_wp2_with (first | (refine wpList_load_box x3 rfl 30 _ rfl rfl _ Tryd.underlying30 rfl (by kernel_rfl) ?_) | (refine wpList_load_box x8 rfl 65 _ rfl rfl _ Tryd.underlying65 rfl (by kernel_rfl) ?_))
    refine HMK.mono ?_
    rintro e w9 ⟨rfl, oW9, b9, hfr⟩
    have HFR : Hid (∀ g, g < w8.heap.size → (∀ q o, ((some ⟨gg, d * 5, none⟩) : Option Addr) = some ⟨q, o, none⟩ → 0 < m1 → g ≠ q) → w9.heap[g]? = w8.heap[g]?) := hfr
    have x2n : Box w9 n2 30 #[.int .i64 0, .int .i64 0, .int .i64 0, .int .i64 0, .int .i64 0, .int .i64 0, .int .i64 0, .int .i64 0, .int .i64 0, .int .i64 0, .bool false, .int .i64 0, .int .i64 0, .int .i64 0, .int .i64 0, .int .i64 0, .int .i64 0, .slice none 0 0, .slice none 0 0] := (HFR.out n2 x2.lt (fun q o e h0 => (RowAt.neBox (by rw [e] at oW; exact oW) h0 x2 (by decide)).symm)).trans x2
    have x3n : Box w9 B3 30 #[.int .i64 c.cB, .int .i64 c.cBeam, .int .i64 c.cDepth, .int .i64 c.cWin, .int .i64 c.cQs, .int .i64 c.cQr, .int .i64 c.cBatch, .int .i64 c.cPass, .int .i64 c.cMsg, .int .i64 c.cSeqs, .bool X, .int .i64 K, .int .i64 R, .int .i64 B, .int .i64 N, .int .i64 T, .int .i64 nx, .slice a2 m2 c2, .slice (some ⟨gg, d * 5, none⟩) m1 c1] := (HFR.out B3 x3.lt (fun q o e h0 => (RowAt.neBox (by rw [e] at oW; exact oW) h0 x3 (by decide)).symm)).trans x3
    have oAn := oA.typed (W' := w9) (fun g cur _ hg => HFR.out g (Array.getElem?_eq_some_iff.1 hg).1 (fun q o e h0 => (RowAt.neBox (by rw [e] at oW; exact oW) h0 (show Box w8 g _ cur from hg) (by decide)).symm))
    have oLn := (oLd.typed (W' := w9) emK_u8 (fun g cur _ hg => HFR.out g (Array.getElem?_eq_some_iff.1 hg).1 (fun q o e h0 => (RowAt.neBox (by rw [e] at oW; exact oW) h0 (show Box w8 g _ cur from hg) (by decide)).symm))).mark nx bN (min m1 (winS s))
    replace bb := bb.trans b9
    clear HMK hfr b9 hbs hsl hqs HFR x2 x3 x8 oA oL oLd oW
    have qz : ∀ g, g ≠ n2 → (w9.setRow n2 #[.int .i64 c.cB, .int .i64 c.cBeam, .int .i64 c.cDepth, .int .i64 c.cWin, .int .i64 c.cQs, .int .i64 c.cQr, .int .i64 c.cBatch, .int .i64 c.cPass, .int .i64 c.cMsg, .int .i64 c.cSeqs, .bool X, .int .i64 K, .int .i64 R, .int .i64 B, .int .i64 N, .int .i64 T, .int .i64 nx, .slice a2 m2 c2, .slice (some ⟨gg, d * 5, none⟩) m1 c1]).heap[g]? = w9.heap[g]? := fun g hg => setRow_other w9 n2 g #[.int .i64 c.cB, .int .i64 c.cBeam, .int .i64 c.cDepth, .int .i64 c.cWin, .int .i64 c.cQs, .int .i64 c.cQr, .int .i64 c.cBatch, .int .i64 c.cPass, .int .i64 c.cMsg, .int .i64 c.cSeqs, .bool X, .int .i64 K, .int .i64 R, .int .i64 B, .int .i64 N, .int .i64 T, .int .i64 nx, .slice a2 m2 c2, .slice (some ⟨gg, d * 5, none⟩) m1 c1] hg
    have oWE := oW9.typed (fun g cur _ hg => qz g (box_ne x2n hg (by decide)))
    have oAE := oAn.typed (fun g cur _ hg => qz g (box_ne x2n hg (by decide)))
    have oLE := oLn.put x2n (emK_subs (by decide)) qz
    have HSN : Hid (SnL w.heap.size (w9.setRow n2 #[.int .i64 c.cB, .int .i64 c.cBeam, .int .i64 c.cDepth, .int .i64 c.cWin, .int .i64 c.cQs, .int .i64 c.cQr, .int .i64 c.cBatch, .int .i64 c.cPass, .int .i64 c.cMsg, .int .i64 c.cSeqs, .bool X, .int .i64 K, .int .i64 R, .int .i64 B, .int .i64 N, .int .i64 T, .int .i64 nx, .slice a2 m2 c2, .slice (some ⟨gg, d * 5, none⟩) m1 c1]) (learnS s zs) a2 m2 c2 ((some ⟨gg, d * 5, none⟩)) m1 c1) := ⟨by rw [HEQ.out.1]; exact oAE, markUp (r.drop d) nx bN (min m1 (winS s)), by rw [markUp_fst _ _ _ _ _ hlr, List.map_drop, HR.out, HEQ.out.2], by rw [HEQ.out.2, List.length_mapIdx, List.length_drop, HS.out.lW, HM1.out]; exact oWE, oLE⟩
    have xE := x2n.setRow #[.int .i64 c.cB, .int .i64 c.cBeam, .int .i64 c.cDepth, .int .i64 c.cWin, .int .i64 c.cQs, .int .i64 c.cQr, .int .i64 c.cBatch, .int .i64 c.cPass, .int .i64 c.cMsg, .int .i64 c.cSeqs, .bool X, .int .i64 K, .int .i64 R, .int .i64 B, .int .i64 N, .int .i64 T, .int .i64 nx, .slice a2 m2 c2, .slice (some ⟨gg, d * 5, none⟩) m1 c1]
    have bE := below_setRow bb (show w.heap.size ≤ n2 by have := HN2.out; omega) #[.int .i64 c.cB, .int .i64 c.cBeam, .int .i64 c.cDepth, .int .i64 c.cWin, .int .i64 c.cQs, .int .i64 c.cQr, .int .i64 c.cBatch, .int .i64 c.cPass, .int .i64 c.cMsg, .int .i64 c.cSeqs, .bool X, .int .i64 K, .int .i64 R, .int .i64 B, .int .i64 N, .int .i64 T, .int .i64 nx, .slice a2 m2 c2, .slice (some ⟨gg, d * 5, none⟩) m1 c1]
    clear bb oW9 oWE oAE oLE oAn oLn qz
    go_wp2_with (first | (refine wpList_load_box x3n rfl 30 _ rfl rfl _ Tryd.underlying30 rfl (by kernel_rfl) ?_) | (refine wpList_store_box x2n rfl 30 _ _ rfl rfl rfl rfl (by kernel_rfl) (by simp [Value.oneCell']) ?_))
    exact bodyPost_ret (results_boxR2 rfl _ _ rfl xE Tryd.underlying30 rfl (by kernel_rfl)) rfl ⟨a2, m2, c2, (some ⟨gg, d * 5, none⟩), m1, c1, rfl, HSN.out, bE⟩

end Go.Proofs.YtmjidhnlofpliaaDoor

/-
  What send answers, of a right sender, all of it said of the sender as numbers: as the laws want it. (Written by tpl_sendcode.py.)
-/
namespace Go.Proofs.YtmjidhnlofpliaaDoor
open Go.RowKit

theorem step_store_box {P : Program} {ops : Array Oper} {o : Oper} {a : Act} {w : World} {K : Act → World → Prop} {Q : Exit → Act → World → Prop} {E : Prop} {B : Nat} {t : TypeId} {old cs : Array Value} (hb : Box w B t old) (hw : Region.wanted o (yielded ops a.tmps) = true) (ty : TypeId) (x y : Operand) (ho : o.op = .store ty x y) (hx : a.eval x = .pointer (some ⟨B, 0, none⟩)) (hy : a.eval y = .agg cs)
    (hs : old.size = cs.size) (hi : (P.info? ty).map (·.size) = some cs.size) (h1 : cs.all (·.oneCell') = true) (h : K (a.put o.dst undef) (w.setRow B cs)) : if Region.wanted o (yielded ops a.tmps) = true then Oper.wp P o a w K Q else E := by
  rw [if_pos hw]
  unfold Oper.wp execOp
  simp only [ho, hx, hy, Instr.storeAt, Instr.sureAddr, Sem.run_bind, Sem.run_pure, Result.andThen_ok, run_storeVar_row w B t ty old cs hb hi hs h1]
  exact h
theorem step_store_boxn {P : Program} {ops : Array Oper} {o : Oper} {a : Act} {w : World} {K : Act → World → Prop} {Q : Exit → Act → World → Prop} {E : Prop} {B : Nat} {t : TypeId} {old cs : Array Value} (hb : Box w B t old) (hgd : o.guard = none) (ty : TypeId) (x y : Operand) (ho : o.op = .store ty x y) (hx : a.eval x = .pointer (some ⟨B, 0, none⟩)) (hy : a.eval y = .agg cs)
    (hs : old.size = cs.size) (hi : (P.info? ty).map (·.size) = some cs.size) (h1 : cs.all (·.oneCell') = true) (h : K (a.put o.dst undef) (w.setRow B cs)) : if Region.wanted o (yielded ops a.tmps) = true then Oper.wp P o a w K Q else E := step_store_box hb (by simp [Region.wanted, hgd]) ty x y ho hx hy hs hi h1 h
/-- A right sender whose lists lie in blocks made since base, with at most m blocks that wait. -/
structure SnW (base : Nat) (W : World) (s : Sn) (c : Cfg) (X : Bool) (K R B N T F : Int) (E M : Nat) (ea : Option Addr) (ec : Nat) (wa : Option Addr) (wc m : Nat) : Prop where
  is : SnIs s c X K R B N T F E M
  ok : okS s
  byt : byS s
  lies : SnL base W s ea E ec wa M wc
  few : M ≤ m
theorem SnW.next {base m : Nat} {W W' : World} {s : Sn} {c : Cfg} {X : Bool} {K R B N T F : Int} {E M : Nat} {ea : Option Addr} {ec : Nat} {wa : Option Addr} {wc : Nat} (h : SnW base W s c X K R B N T F E M ea ec wa wc m) (b : Below W.heap.size W W') : SnW base W' s c X K R B N T F E M ea ec wa wc m := ⟨h.is, h.ok, h.byt, h.lies.next b, h.few⟩
theorem SnW.old {base m : Nat} {W W' : World} {s : Sn} {c : Cfg} {X : Bool} {K R B N T F : Int} {E M : Nat} {ea : Option Addr} {ec : Nat} {wa : Option Addr} {wc : Nat} (h : SnW base W s c X K R B N T F E M ea ec wa wc m) {D : Nat} (hD : D < base) (hq : ∀ g, g ≠ D → W'.heap[g]? = W.heap[g]?) : SnW base W' s c X K R B N T F E M ea ec wa wc m := ⟨h.is, h.ok, h.byt, h.lies.old hD hq, h.few⟩
theorem SnW.lower {base base' m : Nat} {W : World} {s : Sn} {c : Cfg} {X : Bool} {K R B N T F : Int} {E M : Nat} {ea : Option Addr} {ec : Nat} {wa : Option Addr} {wc : Nat} (h : SnW base W s c X K R B N T F E M ea ec wa wc m) (hn : base' ≤ base) : SnW base' W s c X K R B N T F E M ea ec wa wc m := ⟨h.is, h.ok, h.byt, h.lies.lower hn, h.few⟩
theorem SnW.more {base m m' : Nat} {W : World} {s : Sn} {c : Cfg} {X : Bool} {K R B N T F : Int} {E M : Nat} {ea : Option Addr} {ec : Nat} {wa : Option Addr} {wc : Nat} (h : SnW base W s c X K R B N T F E M ea ec wa wc m) (hm : m ≤ m') : SnW base W s c X K R B N T F E M ea ec wa wc m' := ⟨h.is, h.ok, h.byt, h.lies, Nat.le_trans h.few hm⟩
section
variable {base m : Nat} {s : Sn} {c : Cfg} {X : Bool} {K R B N T F : Int} {E M : Nat} {ea : Option Addr} {ec : Nat} {wa : Option Addr} {wc : Nat} {w : World}
theorem SnW.fewE (h : SnW base w s c X K R B N T F E M ea ec wa wc m) : E ≤ 1000000 := by
  have h1 := h.ok.room
  have h2 := (okC_iff _).1 h.ok.conf
  rw [h.is.lE] at h1
  omega
theorem SnW.bytes (h : SnW base w s c X K R B N T F E M ea ec wa wc m) : ∀ e ∈ s.sW, e.eB.length ≤ 4096 := fun e he => by
  obtain ⟨i, hi⟩ := List.mem_iff_getElem?.1 he
  have h1 := (okE_iff _ _ _ _ _).1 (h.ok.all i e hi).2
  have h2 := (okC_iff _).1 h.ok.conf
  omega
theorem SnW.conf (h : SnW base w s c X K R B N T F E M ea ec wa wc m) : okC c = true := by have := h.ok.conf; rw [h.is.eC] at this; exact this
end
theorem byS_send {s : Sn} (h : byS s) (hC : okC s.sC = true) {msg : List Int} (hT : 0 ≤ s.sT) (he : errS s msg = 0) (bm : ∀ z ∈ msg, 0 ≤ z ∧ z ≤ 255) : byS (sendS s msg) := by
  unfold sendS
  rw [if_pos he]
  intro e hm
  rcases List.mem_append.1 (show e ∈ s.sW ++ waitsB s.sT (blocksB s.sC s.sT msg) from hm) with hm | hm
  · exact h e hm
  · obtain ⟨i, hi⟩ := List.mem_iff_getElem?.1 hm
    rw [waitsB_get] at hi
    cases hb : (blocksB s.sC s.sT msg)[i]? with
    | none => rw [hb] at hi; cases hi
    | some b =>
      rw [hb] at hi
      simp only [Option.map_some, Option.some.injEq] at hi
      subst hi
      have hl := (List.getElem?_eq_some_iff.1 hb).1
      rw [blocksB_len] at hl
      rw [blocksB_get hl] at hb
      have hB := conf_B hC
      obtain ⟨_, h1, h2, _⟩ := errS_zero.1 he
      have h3 := blocksC_nat hC msg.length
      have h4 := (okC_iff _).1 hC
      rw [← Option.some.inj hb]
      exact bytesB_bd (cut_right hB.1 hB.2.1 hT (by omega) hl) (fun z hz => bm z (by unfold textK at hz; exact List.mem_of_mem_drop (List.mem_of_mem_take hz)))
theorem byS_tick {s : Sn} (h : byS s) : byS (tickS s) := by
  intro e hm
  obtain ⟨i, hi⟩ := List.mem_iff_getElem?.1 hm
  rw [tickS_get] at hi
  cases hb : s.sW[i]? with
  | none => rw [hb] at hi; cases hi
  | some y =>
    rw [hb] at hi
    simp only [Option.map_some, Option.some.injEq] at hi
    subst hi
    have hy := h y (List.mem_of_getElem? hb)
    split
    · rw [(tickM_same _ _).2.2]; exact hy
    · exact hy
theorem byS_learnt {s : Sn} (h : byS s) (n : Int) (b : Nat) : byS (learnt s n b) := by
  intro e hm
  obtain ⟨i, hi⟩ := List.mem_iff_getElem?.1 hm
  rw [learnt_get] at hi
  cases hb : s.sW[(n - s.sF).toNat + i]? with
  | none => rw [hb] at hi; cases hi
  | some y =>
    rw [hb] at hi
    simp only [Option.map_some, Option.some.injEq] at hi
    subst hi
    have hy := h y (List.mem_of_getElem? hb)
    split
    · exact hy
    · exact hy
section
variable {base m : Nat} {s : Sn} {c : Cfg} {X : Bool} {K R B N T F : Int} {E M : Nat} {ea : Option Addr} {ec : Nat} {wa : Option Addr} {wc : Nat} {w : World}
theorem sendNew_law (c : Cfg) (hC : okC c = true) (w : World) :
    Calls Tryd.prog 6 #[.agg #[.int .i64 c.cB, .int .i64 c.cBeam, .int .i64 c.cDepth, .int .i64 c.cWin, .int .i64 c.cQs, .int .i64 c.cQr, .int .i64 c.cBatch, .int .i64 c.cPass, .int .i64 c.cMsg, .int .i64 c.cSeqs]] w fun e W' => e = .returned (.tuple #[.agg #[.int .i64 c.cB, .int .i64 c.cBeam, .int .i64 c.cDepth, .int .i64 c.cWin, .int .i64 c.cQs, .int .i64 c.cQr, .int .i64 c.cBatch, .int .i64 c.cPass, .int .i64 c.cMsg, .int .i64 c.cSeqs, .bool false, .int .i64 0, .int .i64 0, .int .i64 0, .int .i64 0, .int .i64 0, .int .i64 0, .slice none 0 0, .slice none 0 0], .int .i64 0]) ∧ (∀ b, Hid (SnW b W' (newS c) c false 0 0 0 0 0 0 0 0 none 0 none 0 0)) ∧ Below w.heap.size w W' :=
  (sendNew_ok c hC w).mono fun _ W' ⟨he, hb⟩ => ⟨he, fun b => ⟨⟨rfl, rfl, rfl, rfl, rfl, rfl, rfl, rfl, rfl, rfl⟩, newS_ok hC, (fun e hm => by cases hm), SnL.nil b W' rfl rfl, Nat.le_refl _⟩, hb⟩
theorem sendSend_law (h : SnW base w s c X K R B N T F E M ea ec wa wc m) (hm9 : m ≤ 900000) (b : Option Addr) (n bc : Nat) (msg : List Int) (hn : msg.length = n) (hcap : n ≤ bc) (bm : ∀ z ∈ msg, 0 ≤ z ∧ z ≤ 255) (hb : Holds .u8 w.heap.size w (.slice b n bc) msg) :
    Calls Tryd.prog 12 #[.agg #[.int .i64 c.cB, .int .i64 c.cBeam, .int .i64 c.cDepth, .int .i64 c.cWin, .int .i64 c.cQs, .int .i64 c.cQr, .int .i64 c.cBatch, .int .i64 c.cPass, .int .i64 c.cMsg, .int .i64 c.cSeqs, .bool X, .int .i64 K, .int .i64 R, .int .i64 B, .int .i64 N, .int .i64 T, .int .i64 F, .slice ea E ec, .slice wa M wc], .slice b n bc] w fun e W' => ∃ (R9 B9 N9 T9 F9 : Int) (E9 M9 : Nat) (fa : Option Addr) (fc : Nat) (va : Option Addr) (vc : Nat), e = .returned (.tuple #[.agg #[.int .i64 c.cB, .int .i64 c.cBeam, .int .i64 c.cDepth, .int .i64 c.cWin, .int .i64 c.cQs, .int .i64 c.cQr, .int .i64 c.cBatch, .int .i64 c.cPass, .int .i64 c.cMsg, .int .i64 c.cSeqs, .bool X, .int .i64 K, .int .i64 R9, .int .i64 B9, .int .i64 N9, .int .i64 T9, .int .i64 F9, .slice fa E9 fc, .slice va M9 vc], .int .i64 (errS s msg)]) ∧ Hid (SnW w.heap.size W' (sendS s msg) c X K R9 B9 N9 T9 F9 E9 M9 fa fc va vc (m + 200)) ∧ Below w.heap.size w W' := by
  have hf := h.few
  by_cases he : errS s msg = 0
  · obtain ⟨Q, hQ⟩ : ∃ Q, blocksN c.cB.toNat n = Q := ⟨_, rfl⟩
    refine (sendSend_ok h.is h.fewE (by omega) h.bytes ea ec wa wc b n bc msg hn hcap bm w h.lies.at hb h.ok he Q hQ).mono ?_
    rintro e W' ⟨ya, yc, za, zc, rfl, ho, hb⟩
    have hQ2 : Q ≤ 200 := by
      have h1 := (errS_zero.1 he).2.1
      rw [h.is.eC, hn] at h1
      have h2 := (blocks_bd h.conf n h1).2.2
      have h3 := blocksC_nat h.conf n
      rw [hQ] at h3
      omega
    have hT : 0 ≤ s.sT := by have h1 := h.ok.low; have h2 := h.ok.base; omega
    exact ⟨_, _, _, _, _, _, _, ya, yc, za, zc, by rw [he], ⟨snIs_send h.is h.ok (by rw [hn]; exact hQ) he, sendS_ok h.ok msg, byS_send h.byt h.ok.conf hT he bm, .ofOwn ho, by omega⟩, hb⟩
  · refine (sendSend_ref h.is h.fewE (by omega) h.bytes ea ec wa wc b n bc msg hn w h.lies.at h.ok _ rfl he).mono ?_
    rintro e W' ⟨fa, fc, va, vc, rfl, ho, hb⟩
    have hl : (sendS s msg).sE = s.sE ∧ (sendS s msg).sW = s.sW := by unfold sendS; rw [if_neg he]; exact ⟨rfl, rfl⟩
    exact ⟨_, _, _, _, _, _, _, fa, fc, va, vc, rfl, ⟨snIs_ref h.is he, sendS_ok h.ok msg, by show ∀ e ∈ (sendS s msg).sW, _; rw [hl.2]; exact h.byt, by unfold SnL; rw [hl.1, hl.2]; exact SnL.ofOwn ho, by omega⟩, hb⟩
theorem sendClose_law (h : SnW base w s c X K R B N T F E M ea ec wa wc m) (hm9 : m ≤ 900000) :
    Calls Tryd.prog 11 #[.agg #[.int .i64 c.cB, .int .i64 c.cBeam, .int .i64 c.cDepth, .int .i64 c.cWin, .int .i64 c.cQs, .int .i64 c.cQr, .int .i64 c.cBatch, .int .i64 c.cPass, .int .i64 c.cMsg, .int .i64 c.cSeqs, .bool X, .int .i64 K, .int .i64 R, .int .i64 B, .int .i64 N, .int .i64 T, .int .i64 F, .slice ea E ec, .slice wa M wc]] w fun e W' => ∃ (R9 B9 N9 T9 F9 : Int) (E9 M9 : Nat) (fa : Option Addr) (fc : Nat) (va : Option Addr) (vc : Nat), e = .returned (.tuple #[.agg #[.int .i64 c.cB, .int .i64 c.cBeam, .int .i64 c.cDepth, .int .i64 c.cWin, .int .i64 c.cQs, .int .i64 c.cQr, .int .i64 c.cBatch, .int .i64 c.cPass, .int .i64 c.cMsg, .int .i64 c.cSeqs, .bool true, .int .i64 K, .int .i64 R9, .int .i64 B9, .int .i64 N9, .int .i64 T9, .int .i64 F9, .slice fa E9 fc, .slice va M9 vc], .int .i64 0]) ∧ Hid (SnW w.heap.size W' (closeS s) c true K R9 B9 N9 T9 F9 E9 M9 fa fc va vc m) ∧ Below w.heap.size w W' := by
  have hf := h.few
  refine (sendClose_any h.is h.fewE (by omega) h.bytes ea ec wa wc w h.lies.at h.ok).mono ?_
  rintro e W' ⟨fa, fc, va, vc, rfl, ho, hb⟩
  exact ⟨_, _, _, _, _, _, _, fa, fc, va, vc, rfl, ⟨⟨h.is.eC, rfl, h.is.eK, h.is.eR, h.is.eB, h.is.eN, h.is.eT, h.is.eF, h.is.lE, h.is.lW⟩, closeS_ok h.ok, h.byt, .ofOwn ho, hf⟩, hb⟩
theorem sendConfirmed_law (h : SnW base w s c X K R B N T F E M ea ec wa wc m) (hm9 : m ≤ 900000) :
    Calls Tryd.prog 13 #[.agg #[.int .i64 c.cB, .int .i64 c.cBeam, .int .i64 c.cDepth, .int .i64 c.cWin, .int .i64 c.cQs, .int .i64 c.cQr, .int .i64 c.cBatch, .int .i64 c.cPass, .int .i64 c.cMsg, .int .i64 c.cSeqs, .bool X, .int .i64 K, .int .i64 R, .int .i64 B, .int .i64 N, .int .i64 T, .int .i64 F, .slice ea E ec, .slice wa M wc]] w fun e W' => e = .returned (.int .i64 (N - (E : Int))) ∧ Below w.heap.size w W' := by
  have hf := h.few
  exact sendConfirmed_any h.is h.fewE (by omega) h.bytes ea ec wa wc w h.lies.at _ (.inl ⟨h.ok, rfl⟩)
theorem tickS_is (h : SnW base w s c X K R B N T F E M ea ec wa wc m) : SnIs (tickS s) c X (satN K 1) R B N T F E M := ⟨h.is.eC, h.is.eX, by show satN s.sK 1 = _; rw [h.is.eK], h.is.eR, h.is.eB, h.is.eN, h.is.eT, h.is.eF, h.is.lE, by rw [tickS_len]; exact h.is.lW⟩
theorem sendTick_law (h : SnW base w s c X K R B N T F E M ea ec wa wc m) (hm9 : m ≤ 900000) (hF : Firsts w) :
    Calls Tryd.prog 7 #[.agg #[.int .i64 c.cB, .int .i64 c.cBeam, .int .i64 c.cDepth, .int .i64 c.cWin, .int .i64 c.cQs, .int .i64 c.cQr, .int .i64 c.cBatch, .int .i64 c.cPass, .int .i64 c.cMsg, .int .i64 c.cSeqs, .bool X, .int .i64 K, .int .i64 R, .int .i64 B, .int .i64 N, .int .i64 T, .int .i64 F, .slice ea E ec, .slice wa M wc]] w fun e W' => ∃ fa fc va vc pa pn pc r q, e = .returned (.tuple #[.agg #[.int .i64 c.cB, .int .i64 c.cBeam, .int .i64 c.cDepth, .int .i64 c.cWin, .int .i64 c.cQs, .int .i64 c.cQr, .int .i64 c.cBatch, .int .i64 c.cPass, .int .i64 c.cMsg, .int .i64 c.cSeqs, .bool X, .int .i64 (satN K 1), .int .i64 R, .int .i64 B, .int .i64 N, .int .i64 T, .int .i64 F, .slice fa E fc, .slice va M vc], .slice pa pn pc, .int .i64 0]) ∧ Hid (TkE w W' s fa E fc va M vc (.slice pa pn pc) pn r q) ∧ Hid (SnW w.heap.size W' (tickS s) c X (satN K 1) R B N T F E M fa fc va vc m) ∧ Below w.heap.size w W' := by
  have hf := h.few
  refine (sendTick_ok h.is h.fewE (by omega) h.bytes ea ec wa wc h.byt w hF h.lies.at h.ok).mono ?_
  rintro e W' ⟨fa, fc, va, vc, pa, pn, pc, r, q, rfl, ho, hb⟩
  exact ⟨fa, fc, va, vc, pa, pn, pc, r, q, rfl, ho, ⟨tickS_is h, tickS_ok h.ok, byS_tick h.byt, .ofOwn ho.out.sn, hf⟩, hb⟩
theorem sendLearn_law (h : SnW base w s c X K R B N T F E M ea ec wa wc m) (hm9 : m ≤ 900000) (b : Option Addr) (n bc : Nat) (zs : List Int) (hn : zs.length = n) (hl : n ≤ 4096) (hcap : n ≤ bc) (bz : ∀ z ∈ zs, 0 ≤ z ∧ z ≤ 255) (hb : Holds .u8 w.heap.size w (.slice b n bc) zs) :
    Calls Tryd.prog 9 #[.agg #[.int .i64 c.cB, .int .i64 c.cBeam, .int .i64 c.cDepth, .int .i64 c.cWin, .int .i64 c.cQs, .int .i64 c.cQr, .int .i64 c.cBatch, .int .i64 c.cPass, .int .i64 c.cMsg, .int .i64 c.cSeqs, .bool X, .int .i64 K, .int .i64 R, .int .i64 B, .int .i64 N, .int .i64 T, .int .i64 F, .slice ea E ec, .slice wa M wc], .slice b n bc] w fun e W' => ∃ (R9 B9 N9 T9 F9 : Int) (E9 M9 : Nat) (fa : Option Addr) (fc : Nat) (va : Option Addr) (vc : Nat), e = .returned (.tuple #[.agg #[.int .i64 c.cB, .int .i64 c.cBeam, .int .i64 c.cDepth, .int .i64 c.cWin, .int .i64 c.cQs, .int .i64 c.cQr, .int .i64 c.cBatch, .int .i64 c.cPass, .int .i64 c.cMsg, .int .i64 c.cSeqs, .bool X, .int .i64 K, .int .i64 R9, .int .i64 B9, .int .i64 N9, .int .i64 T9, .int .i64 F9, .slice fa E9 fc, .slice va M9 vc], .int .i64 (errL s zs)]) ∧ Hid (SnW w.heap.size W' (learnS s zs) c X K R9 B9 N9 T9 F9 E9 M9 fa fc va vc m) ∧ Below w.heap.size w W' := by
  have hf := h.few
  by_cases h1 : errA zs = 0
  · have hoA := errA_zero.1 h1
    by_cases h2 : errL s zs = 0
    · refine (sendLearn_ok h.is h.fewE (by omega) h.bytes ea ec wa wc b n bc zs hn hl hcap bz w h.lies.at hb h.ok hoA h2).mono ?_
      rintro e W' ⟨a2, m2, c2, a1, m1, c1, rfl, ho, hb⟩
      have e2 := ho.1.1
      have hs := ho.2.shape
      rw [List.length_map, Nat.mul_one] at e2
      obtain ⟨_, _, e3⟩ := hs
      simp only [Value.slice.injEq] at e3
      have e4 : (learnS s zs).sW.length = m1 := e3.2.1.symm
      have h3 : m1 ≤ M := by
        rw [← e4, learnS_in h2, learnt_len, ← h.is.lW]
        omega
      rw [learnS_in h2] at ho e2 e4
      exact ⟨_, _, _, _, _, _, _, a2, c2, a1, c1, by rw [h2], by rw [learnS_in h2]; exact ⟨⟨h.is.eC, h.is.eX, h.is.eK, h.is.eR, h.is.eB, h.is.eN, h.is.eT, rfl, e2, e4⟩, by have := learnS_ok h.ok zs; rwa [learnS_in h2] at this, byS_learnt h.byt _ _, ho, by omega⟩, hb⟩
    · refine (sendLearn_far h.is h.fewE (by omega) h.bytes ea ec wa wc b n bc zs hn hl hcap bz w h.lies.at hb h.ok hoA _ rfl h2).mono ?_
      rintro e W' ⟨fa, fc, va, vc, rfl, ho, hb⟩
      exact ⟨_, _, _, _, _, _, _, fa, fc, va, vc, rfl, by rw [learnS_far h1 h2]; exact ⟨h.is, h.ok, h.byt, .ofOwn ho, hf⟩, hb⟩
  · have h2 : errL s zs = errA zs := if_neg h1
    refine (sendLearn_bad h.is h.fewE (by omega) h.bytes ea ec wa wc b n bc zs hn hl hcap bz w h.lies.at hb h.ok _ rfl h1).mono ?_
    rintro e W' ⟨fa, fc, va, vc, rfl, ho, hb⟩
    exact ⟨_, _, _, _, _, _, _, fa, fc, va, vc, by rw [h2], by rw [learnS_bad h1]; exact ⟨⟨h.is.eC, h.is.eX, h.is.eK, h.is.eR, by show satN s.sB 1 = _; rw [h.is.eB], h.is.eN, h.is.eT, h.is.eF, h.is.lE, h.is.lW⟩, by have := learnS_ok h.ok zs; rwa [learnS_bad h1] at this, h.byt, .ofOwn ho, hf⟩, hb⟩
end

end Go.Proofs.YtmjidhnlofpliaaDoor
