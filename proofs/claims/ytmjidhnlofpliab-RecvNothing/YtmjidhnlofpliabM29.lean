/-
  Rows that lie in blocks made since a bound, from whatever cell on (also what is left of a row behind its first elements); lists of structs of such rows; an end that sends in such rows. No function of the program is spoken of.
-/
import Derived.Test.YtmjidhnlofpliabM05
import Derived.Test.YtmjidhnlofpliabM07
import Derived.Test.YtmjidhnlofpliabM13
import Derived.Test.YtmjidhnlofpliabM24
import Derived.Test.YtmjidhnlofpliabM28
import Derived.Deep.Cut
import Derived.Deep.CutRange
import Derived.Deep.DeepCutAuto
namespace Go.Proofs.Ytmjidhnlofpliab
open Go.RowKit

/-- The slice v, of n elements, lies in a block made since base, from some cell on: its cells are cs. -/
def RowAt (base : Nat) (W : World) (e : TypeId) (k : Nat) (v : Value) (n : Nat) (cs : List Value) : Prop :=
  cs.length = n * k ∧ ((n = 0 ∧ ∃ a c, v = .slice a 0 c ∧ (a = none → c = 0)) ∨ ∃ g o cap cur, v = .slice (some ⟨g, o, none⟩) n cap ∧ n ≤ cap ∧ base ≤ g ∧ W.heap[g]? = some (.cells cur e (0, 0)) ∧ ∀ (j : Nat) (u : Value), cs[j]? = some u → cur[o + j]? = some u)
section
variable {base base' n k : Nat} {W W' : World} {e : TypeId} {v : Value} {cs : List Value}
theorem RowAt.ofOwn (h : W.ownsRow base e k v n cs) : RowAt base W e k v n cs := by
  refine ⟨h.1, ?_⟩
  rcases h.2 with ⟨rfl, rfl⟩ | ⟨g, cap, cur, rfl, hb, hg, hk, _, hs, ht⟩
  · exact .inl ⟨rfl, _, _, rfl, fun _ => rfl⟩
  · refine .inr ⟨g, 0, cap, cur, rfl, hk, hb, hg, fun j u hj => ?_⟩
    rw [← ht, List.getElem?_take] at hj
    split at hj
    · rw [Nat.zero_add]
      simpa using hj
    · cases hj
theorem RowAt.holds (h : RowAt base W e k v n cs) : HoldsC W.heap.size W v n cs := by
  rcases h.2 with ⟨rfl, a, c, rfl, h0⟩ | ⟨g, o, cap, cur, rfl, _, hb, hg, hc⟩
  · have := h.1
    rw [Nat.zero_mul] at this
    exact .inl ⟨⟨a, c, rfl, h0⟩, rfl, List.length_eq_zero_iff.1 this⟩
  · exact .inr ⟨g, o, cap, rfl, (Array.getElem?_eq_some_iff.1 hg).1, fun j u hj => by simp [World.cell?, hg, hc j u hj]⟩
theorem RowAt.same (h : RowAt base W e k v n cs) (hq : ∀ g, base ≤ g → g < W.heap.size → W'.heap[g]? = W.heap[g]?) : RowAt base W' e k v n cs := by
  refine ⟨h.1, ?_⟩
  rcases h.2 with h0 | ⟨g, o, cap, cur, hv, hn, hb, hg, hc⟩
  · exact .inl h0
  · exact .inr ⟨g, o, cap, cur, hv, hn, hb, (hq g hb (Array.getElem?_eq_some_iff.1 hg).1).trans hg, hc⟩
theorem RowAt.lower (h : RowAt base W e k v n cs) (hn : base' ≤ base) : RowAt base' W e k v n cs := by
  refine ⟨h.1, ?_⟩
  rcases h.2 with h0 | ⟨g, o, cap, cur, hv, hn', hb, hg, hc⟩
  · exact .inl h0
  · exact .inr ⟨g, o, cap, cur, hv, hn', by omega, hg, hc⟩
theorem RowAt.shape (h : RowAt base W e k v n cs) : ∃ a c, v = .slice a n c := by
  rcases h.2 with ⟨rfl, a, c, hv, _⟩ | ⟨g, o, cap, cur, hv, _⟩
  · exact ⟨_, _, hv⟩
  · exact ⟨_, _, hv⟩
theorem RowAt.cap {a : Option Addr} {c : Nat} (h : RowAt base W e k (.slice a n c) n cs) : n ≤ c := by
  rcases h.2 with ⟨rfl, _⟩ | ⟨g, o, cap, cur, hv, h1, _⟩
  · exact Nat.zero_le _
  · cases hv; exact h1
/-- What is left of it behind its first i elements. -/
theorem RowAt.drop {a : Option Addr} {c i : Nat} (h : RowAt base W e k (.slice a n c) n cs) (hi : i ≤ n) {a' : Option Addr} {c' : Nat} (ha : ∀ g o, a = some ⟨g, o, none⟩ → i < n → a' = some ⟨g, o + i * k, none⟩ ∧ c' = c - i) (h0 : i = n → a' = none → c' = 0) : RowAt base W e k (.slice a' (n - i) c') (n - i) (cs.drop (i * k)) := by
  refine ⟨by rw [List.length_drop, h.1, Nat.sub_mul], ?_⟩
  by_cases hin : i = n
  · exact .inl ⟨by omega, a', c', by rw [hin, Nat.sub_self], h0 hin⟩
  · rcases h.2 with ⟨rfl, _⟩ | ⟨g, o, cap, cur, hv, h1, hb, hg, hc⟩
    · omega
    · cases hv
      obtain ⟨rfl, rfl⟩ := ha g o rfl (by omega)
      exact .inr ⟨g, o + i * k, _, cur, rfl, by omega, hb, hg, fun j u hj => by
        rw [List.getElem?_drop] at hj
        rw [Nat.add_assoc]
        exact hc _ u hj⟩
end
/-- Structs in such a row, the rows that they lead to the call's own, in blocks of their own. -/
def StsAt {α : Type} (K : Kind α) (base : Nat) (W : World) (v : Value) (l : List α) : Prop := ∃ r : Lies α, r.map Prod.fst = l ∧ RowAt base W K.ty K.k v l.length (cellsK K r) ∧ OwnL K base W r
section
variable {α : Type} {K : Kind α} {base base' : Nat} {W W' : World} {v : Value} {l : List α}
theorem OwnL.since {r : Lies α} (h : OwnL K base W r) (hq : ∀ g, base ≤ g → g < W.heap.size → W'.heap[g]? = W.heap[g]?) : OwnL K base W' r := h.same fun x hx p hp g hg => hq g (h.lt x hx p hp g hg).1 (h.lt x hx p hp g hg).2
theorem OwnL.tail {r : Lies α} (h : OwnL K base W r) (i : Nat) : OwnL K base W (r.drop i) := by
  refine ⟨fun x hx => h.subs x (List.mem_of_mem_drop hx), ?_⟩
  have hap := h.apart
  rw [← List.take_append_drop i r, List.flatMap_append] at hap
  exact (List.pairwise_append.1 hap).2.1
theorem StsAt.ofOwn (h : OwnSts K base W v l) : StsAt K base W v l := by
  obtain ⟨r, h1, h2, h3⟩ := h
  exact ⟨r, h1, .ofOwn h2, h3⟩
theorem StsAt.holds (h : StsAt K base W v l) : Sts K W.heap.size W v l := by
  obtain ⟨r, h1, h2, h3⟩ := h
  exact ⟨r, h1, h2.holds, fun x hx => (h3.subs x hx).held⟩
theorem StsAt.same (h : StsAt K base W v l) (hq : ∀ g, base ≤ g → g < W.heap.size → W'.heap[g]? = W.heap[g]?) : StsAt K base W' v l := by
  obtain ⟨r, h1, h2, h3⟩ := h
  exact ⟨r, h1, h2.same hq, h3.since hq⟩
theorem StsAt.next (h : StsAt K base W v l) (hb : Below W.heap.size W W') : StsAt K base W' v l := h.same fun g _ hg => hb.block g hg
theorem StsAt.lower (h : StsAt K base W v l) (hn : base' ≤ base) : StsAt K base' W v l := by
  obtain ⟨r, h1, h2, h3⟩ := h
  exact ⟨r, h1, h2.lower hn, h3.lower hn⟩
theorem StsAt.shape (h : StsAt K base W v l) : ∃ a c, v = .slice a l.length c := by obtain ⟨r, h1, h2, h3⟩ := h; exact h2.shape
end
theorem cellsK_drop {α : Type} (K : Kind α) : ∀ (i : Nat) (r : Lies α), (cellsK K r).drop (i * K.k) = cellsK K (r.drop i)
  | 0, r => by simp
  | i + 1, [] => by simp [cellsK]
  | i + 1, x :: r => by
    have e : cellsK K (x :: r) = K.lie x.1 x.2 ++ cellsK K r := by simp [cellsK]
    have ih := cellsK_drop K i r
    rw [e, Nat.add_mul, Nat.one_mul, Nat.add_comm, ← List.drop_drop, List.drop_left' (K.len _ _)]
    simpa using ih
/-- What is left of a list of structs of the call's own. -/
theorem OwnSts.drop {α : Type} {K : Kind α} {base n c i : Nat} {W : World} {a : Option Addr} {l : List α} (h : OwnSts K base W (.slice a n c) l) (hl : l.length = n) (hi : i ≤ n) {a' : Option Addr} {c' : Nat} (ha : ∀ g o, a = some ⟨g, o, none⟩ → i < n → a' = some ⟨g, o + i * K.k, none⟩ ∧ c' = c - i) (h0 : i = n → a' = none → c' = 0) : StsAt K base W (.slice a' (n - i) c') (l.drop i) := by
  obtain ⟨r, h1, h2, h3⟩ := h
  subst hl
  refine ⟨r.drop i, by rw [List.map_drop, h1], ?_, h3.tail i⟩
  rw [← cellsK_drop, List.length_drop]
  exact (RowAt.ofOwn h2).drop hi ha h0

section
variable {base base' : Nat} {W W' : World} {s : Sn} {ea : Option Addr} {E ec : Nat} {wa : Option Addr} {M wc : Nat}
end

end Go.Proofs.Ytmjidhnlofpliab

/-
  What volutekeep.Config, Sender and Rows answer, for what is the same. (Written by tpl_keepsend.py.)
-/
namespace Go.Proofs.Ytmjidhnlofpliab
open Go.RowKit

set_option maxRecDepth 100000 in
set_option maxHeartbeats 1000000 in
theorem keepConfig_same (c : Cfg) (w : World) : Calls Try.prog 15 #[.agg #[.int .i64 c.cB, .int .i64 c.cBeam, .int .i64 c.cDepth, .int .i64 c.cWin, .int .i64 c.cQs, .int .i64 c.cQr, .int .i64 c.cBatch, .int .i64 c.cPass, .int .i64 c.cMsg, .int .i64 c.cSeqs], .agg #[.int .i64 c.cB, .int .i64 c.cBeam, .int .i64 c.cDepth, .int .i64 c.cWin, .int .i64 c.cQs, .int .i64 c.cQr, .int .i64 c.cBatch, .int .i64 c.cPass, .int .i64 c.cMsg, .int .i64 c.cSeqs]] w fun e w' => e = .returned (.bool true) ∧ Below w.heap.size w w' := by
  have b1 := ((Below.refl w.heap.size w).alloc (Nat.le_refl _) (.cells #[.int .i64 c.cB, .int .i64 c.cBeam, .int .i64 c.cDepth, .int .i64 c.cWin, .int .i64 c.cQs, .int .i64 c.cQr, .int .i64 c.cBatch, .int .i64 c.cPass, .int .i64 c.cMsg, .int .i64 c.cSeqs] 23)).alloc (by simp) (.cells #[.int .i64 c.cB, .int .i64 c.cBeam, .int .i64 c.cDepth, .int .i64 c.cWin, .int .i64 c.cQs, .int .i64 c.cQr, .int .i64 c.cBatch, .int .i64 c.cPass, .int .i64 c.cMsg, .int .i64 c.cSeqs] 23)
  go_enter Try.func15, Try.ntmps15
  go_wp2
  go_ret
  exact ⟨rfl, b1⟩

end Go.Proofs.Ytmjidhnlofpliab
