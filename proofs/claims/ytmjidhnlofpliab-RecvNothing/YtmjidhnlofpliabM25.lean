/-
  Piles that are filled place by place. No program is spoken of.
-/
import Derived.Test.YtmjidhnlofpliabM01
import Derived.Test.YtmjidhnlofpliabM02
import Derived.Test.YtmjidhnlofpliabM03
import Derived.Test.YtmjidhnlofpliabM05
import Derived.Test.YtmjidhnlofpliabM06
import Derived.Test.YtmjidhnlofpliabM07
import Derived.Test.YtmjidhnlofpliabM08
import Derived.Test.YtmjidhnlofpliabM10
import Derived.Test.YtmjidhnlofpliabM11
import Derived.Test.YtmjidhnlofpliabM13
import Derived.Test.YtmjidhnlofpliabM14
import Derived.Test.YtmjidhnlofpliabM15
import Derived.Test.YtmjidhnlofpliabM19
import Derived.Test.YtmjidhnlofpliabM23
import Derived.Test.YtmjidhnlofpliabM24
import Derived.BigQuiet
import Derived.BigRegion
import Derived.Deep.AppendLies
import Derived.Deep.Cut
import Derived.Deep.CutRange
import Derived.Deep.DeepCutAuto
import Derived.Deep.LoopGhost
import Derived.Deep.OwnRows
import Derived.Deep.QuietTactic
import Derived.Deep.RegionHeldLaw
import Derived.Deep.RegionWith
import Derived.Laws.BitsAllLaws
import Derived.Lib.AppendZerosOnto
import Derived.Lib.MinMax
import Derived.Lib.SliceRun
import Derived.Lib.SmallJoins
import Derived.OwnWalk
import Derived.RegionTactic
import Derived.WalkLawsBesides
import Derived.WalkSpells
namespace Go.Proofs.Ytmjidhnlofpliab

end Go.Proofs.Ytmjidhnlofpliab

/-
  The pile that is heard of a block's first symbols, some left out, some turned about. No program is spoken of.
-/
namespace Go.Proofs.Ytmjidhnlofpliab

end Go.Proofs.Ytmjidhnlofpliab

/-
  A block's own symbols cost its own path nothing. No program is spoken of.
-/
namespace Go.Proofs.Ytmjidhnlofpliab

end Go.Proofs.Ytmjidhnlofpliab

/-
  By the first four symbols of each segment a block is told. No program is spoken of.
-/
namespace Go.Proofs.Ytmjidhnlofpliab

end Go.Proofs.Ytmjidhnlofpliab

/-
  Lists of nodes (four cells each, the last one a list of numbers) in memory. No function of the program is spoken of.
-/
namespace Go.Proofs.Ytmjidhnlofpliab
open Go.RowKit

/-- A node as it lies: its last cell leads to its path. -/
abbrev Rn := Int × Int × Int × Value
def SliceV (v : Value) : Prop := ∃ a n c, v = .slice a n c
/-- The slice v holds these nodes, as they lie, in a block below n₀ (or it is of length 0, and they are none). -/
def Raw (n₀ : Nat) (W : World) (v : Value) (r : List Rn) : Prop :=
  ((∃ a cap, v = .slice a 0 cap ∧ (a = none → cap = 0)) ∧ r = []) ∨ ∃ b off cap, v = .slice (some ⟨b, off, none⟩) r.length cap ∧ b < n₀ ∧ ∀ (j : Nat) (x : Rn), r[j]? = some x →
    W.cell? ⟨b, off + j * 4, none⟩ = some (.int .u32 x.1) ∧ W.cell? ⟨b, off + j * 4 + 1, none⟩ = some (.int .i64 x.2.1) ∧ W.cell? ⟨b, off + j * 4 + 2, none⟩ = some (.int .i64 x.2.2.1) ∧ W.cell? ⟨b, off + j * 4 + 3, none⟩ = some x.2.2.2
theorem Raw.below {n₀ : Nat} {W W' : World} {v : Value} {r : List Rn} (h : Raw n₀ W v r) (hb : Below n₀ W W') : Raw n₀ W' v r := by
  rcases h with h | ⟨b, off, cap, hv, hlt, hc⟩
  · exact .inl h
  · exact .inr ⟨b, off, cap, hv, hlt, fun j x hj => ⟨(hb.cell (p := ⟨b, off + j * 4, none⟩) hlt).trans (hc j x hj).1, (hb.cell (p := ⟨b, off + j * 4 + 1, none⟩) hlt).trans (hc j x hj).2.1, (hb.cell (p := ⟨b, off + j * 4 + 2, none⟩) hlt).trans (hc j x hj).2.2.1, (hb.cell (p := ⟨b, off + j * 4 + 3, none⟩) hlt).trans (hc j x hj).2.2.2⟩⟩
theorem Raw.mono {n₀ n₁ : Nat} {W : World} {v : Value} {r : List Rn} (h : Raw n₀ W v r) (hn : n₀ ≤ n₁) : Raw n₁ W v r := by
  rcases h with h | ⟨b, off, cap, hv, hlt, hc⟩
  · exact .inl h
  · exact .inr ⟨b, off, cap, hv, by omega, hc⟩
theorem Raw.shape {n₀ : Nat} {W : World} {v : Value} {r : List Rn} (h : Raw n₀ W v r) : ∃ a cap, v = .slice a r.length cap := by
  rcases h with ⟨⟨a, cap, rfl, _⟩, rfl⟩ | ⟨b, off, cap, rfl, _, _⟩
  · exact ⟨_, _, rfl⟩
  · exact ⟨_, _, rfl⟩
theorem raw_at {n₀ n cap : Nat} {W : World} {a : Option Addr} {r : List Rn} (h : Raw n₀ W (.slice a n cap) r) (hl : r.length = n) (h0 : 0 < n) :
    ∃ b off, a = some ⟨b, off, none⟩ ∧ b < n₀ ∧ ∀ (j : Nat) (x : Rn), r[j]? = some x →
      W.cell? ⟨b, off + j * 4, none⟩ = some (.int .u32 x.1) ∧ W.cell? ⟨b, off + j * 4 + 1, none⟩ = some (.int .i64 x.2.1) ∧ W.cell? ⟨b, off + j * 4 + 2, none⟩ = some (.int .i64 x.2.2.1) ∧ W.cell? ⟨b, off + j * 4 + 3, none⟩ = some x.2.2.2 := by
  subst hl
  rcases h with ⟨_, e⟩ | ⟨b, off, c', e, hb, hcs⟩
  · rw [e] at h0; simp at h0
  · cases e
    exact ⟨b, off, rfl, hb, hcs⟩
/-- Rows of the call's own, of whatever elements, go on. -/
theorem rowN_below {W W' : World} {base k n₀ size : Nat} {e : TypeId} {v : Value} {xs : List Value} (h : W.ownsRow base e size v k xs) (hb : Below n₀ W W') (hn : W.heap.size ≤ n₀) : W'.ownsRow base e size v k xs := by
  refine ⟨h.1, ?_⟩
  rcases h.2 with h0 | ⟨g, cap, cur, hv, hbs, hg, hk, hm, hs, ht⟩
  · exact .inl h0
  · exact .inr ⟨g, cap, cur, hv, hbs, (hb.block g (by have := (Array.getElem?_eq_some_iff.1 hg).1; omega)).trans hg, hk, hm, hs, ht⟩
theorem rowN_base {W : World} {base base' k size : Nat} {e : TypeId} {v : Value} {xs : List Value} (h : W.ownsRow base e size v k xs) (hn : base' ≤ base) : W.ownsRow base' e size v k xs := by
  refine ⟨h.1, ?_⟩
  rcases h.2 with h0 | ⟨g, cap, cur, hv, hbs, hg, hk, hm, hs, ht⟩
  · exact .inl h0
  · exact .inr ⟨g, cap, cur, hv, by omega, hg, hk, hm, hs, ht⟩
/-- As it lies, and as a node. -/
def RnOf (n₀ : Nat) (W : World) (x : Rn) (y : Nd) : Prop := x.1 = y.1 ∧ x.2.1 = y.2.1 ∧ x.2.2.1 = y.2.2.1 ∧ Holds .i64 n₀ W x.2.2.2 y.2.2.2
def RnsOf (n₀ : Nat) (W : World) (r : List Rn) (l : List Nd) : Prop := r.length = l.length ∧ ∀ (j : Nat) (x : Rn) (y : Nd), r[j]? = some x → l[j]? = some y → RnOf n₀ W x y
theorem RnOf.below {n₀ : Nat} {W W' : World} {x : Rn} {y : Nd} (h : RnOf n₀ W x y) (hb : Below n₀ W W') : RnOf n₀ W' x y := ⟨h.1, h.2.1, h.2.2.1, h.2.2.2.below hb⟩
theorem RnsOf.below {n₀ : Nat} {W W' : World} {r : List Rn} {l : List Nd} (h : RnsOf n₀ W r l) (hb : Below n₀ W W') : RnsOf n₀ W' r l := ⟨h.1, fun j x y hx hy => (h.2 j x y hx hy).below hb⟩
theorem RnsOf.mono {n₀ n₁ : Nat} {W : World} {r : List Rn} {l : List Nd} (h : RnsOf n₀ W r l) (hn : n₀ ≤ n₁) : RnsOf n₁ W r l := ⟨h.1, fun j x y hx hy => ⟨(h.2 j x y hx hy).1, (h.2 j x y hx hy).2.1, (h.2 j x y hx hy).2.2.1, (h.2 j x y hx hy).2.2.2.mono hn⟩⟩
theorem RnsOf.get {n₀ : Nat} {W : World} {r : List Rn} {l : List Nd} (h : RnsOf n₀ W r l) {j : Nat} {y : Nd} (hy : l[j]? = some y) : ∃ p, r[j]? = some (y.1, y.2.1, y.2.2.1, p) ∧ Holds .i64 n₀ W p y.2.2.2 := by
  have hj : j < r.length := by rw [h.1]; exact (List.getElem?_eq_some_iff.1 hy).1
  obtain ⟨x, hx⟩ : ∃ x, r[j]? = some x := ⟨r[j], by simp⟩
  obtain ⟨h1, h2, h3, h4⟩ := h.2 j x y hx hy
  exact ⟨x.2.2.2, by rw [hx, ← h1, ← h2, ← h3], h4⟩
theorem RnsOf.snoc {n₀ : Nat} {W : World} {r : List Rn} {l : List Nd} (h : RnsOf n₀ W r l) {x : Rn} {y : Nd} (hx : RnOf n₀ W x y) : RnsOf n₀ W (r ++ [x]) (l ++ [y]) := by
  refine ⟨by simp [h.1], fun j u v hu hv => ?_⟩
  by_cases hj : j < r.length
  · rw [List.getElem?_append_left hj] at hu
    rw [List.getElem?_append_left (by rw [← h.1]; exact hj)] at hv
    exact h.2 j u v hu hv
  · rw [List.getElem?_append_right (by omega)] at hu
    rw [List.getElem?_append_right (by rw [← h.1]; omega), ← h.1] at hv
    have h0 : j - r.length = 0 := by have := (List.getElem?_eq_some_iff.1 hu).1; simp at this; omega
    rw [h0] at hu hv
    simp at hu hv
    subst hu hv
    exact hx
theorem RnsOf.append {n₀ : Nat} {W : World} {r s : List Rn} {l m : List Nd} (h : RnsOf n₀ W r l) (k : RnsOf n₀ W s m) : RnsOf n₀ W (r ++ s) (l ++ m) := by
  refine ⟨by simp [h.1, k.1], fun j u v hu hv => ?_⟩
  by_cases hj : j < r.length
  · rw [List.getElem?_append_left hj] at hu
    rw [List.getElem?_append_left (by rw [← h.1]; exact hj)] at hv
    exact h.2 j u v hu hv
  · rw [List.getElem?_append_right (by omega)] at hu
    rw [List.getElem?_append_right (by rw [← h.1]; omega), ← h.1] at hv
    exact k.2 _ u v hu hv
theorem RnsOf.slices {n₀ : Nat} {W : World} {r : List Rn} {l : List Nd} (h : RnsOf n₀ W r l) : ∀ x ∈ r, SliceV x.2.2.2 := by
  intro x hx
  obtain ⟨j, hj, e⟩ := List.getElem_of_mem hx
  have hjl : j < l.length := by rw [← h.1]; exact hj
  obtain ⟨a, c, e'⟩ := (h.2 j x (l[j]) (by rw [← e]; simp) (by simp)).2.2.2.shape
  exact ⟨_, _, _, e'⟩

/-- The slice v holds these nodes, their paths with them. -/
def Nodes (n₀ : Nat) (W : World) (v : Value) (l : List Nd) : Prop := ∃ r, Raw n₀ W v r ∧ RnsOf n₀ W r l
theorem Nodes.below {n₀ : Nat} {W W' : World} {v : Value} {l : List Nd} (h : Nodes n₀ W v l) (hb : Below n₀ W W') : Nodes n₀ W' v l := by obtain ⟨r, h1, h2⟩ := h; exact ⟨r, h1.below hb, h2.below hb⟩
theorem Nodes.mono {n₀ n₁ : Nat} {W : World} {v : Value} {l : List Nd} (h : Nodes n₀ W v l) (hn : n₀ ≤ n₁) : Nodes n₁ W v l := by obtain ⟨r, h1, h2⟩ := h; exact ⟨r, h1.mono hn, h2.mono hn⟩
theorem Nodes.next {W W' : World} {v : Value} {l : List Nd} (h : Nodes W.heap.size W v l) (hb : Below W.heap.size W W') : Nodes W'.heap.size W' v l := (h.below hb).mono hb.size
theorem Nodes.drewN {n₀ : Nat} {W : World} {v : Value} {l : List Nd} (h : Nodes n₀ W v l) (q : Nat) : Nodes n₀ (W.drewN q) v l := h
theorem Nodes.shape {n₀ : Nat} {W : World} {v : Value} {l : List Nd} (h : Nodes n₀ W v l) : ∃ a cap, v = .slice a l.length cap := by
  obtain ⟨r, h1, h2⟩ := h
  rw [← h2.1]
  exact h1.shape
/-- Paths of the call's own, each in a block of its own. -/
def OwnRns (base : Nat) (W : World) (r : List Rn) (l : List Nd) : Prop := r.length = l.length ∧ (∀ (j : Nat) (x : Rn) (y : Nd), r[j]? = some x → l[j]? = some y → x.1 = y.1 ∧ x.2.1 = y.2.1 ∧ x.2.2.1 = y.2.2.1 ∧ W.ownsRow base 3 1 x.2.2.2 y.2.2.2.length (y.2.2.2.map (Value.int .i64))) ∧ r.Pairwise fun x y => x.2.2.2.ownBlock = none ∨ x.2.2.2.ownBlock ≠ y.2.2.2.ownBlock
theorem OwnRns.below {base n₀ : Nat} {W W' : World} {r : List Rn} {l : List Nd} (h : OwnRns base W r l) (hb : Below n₀ W W') (hn : W.heap.size ≤ n₀) : OwnRns base W' r l := ⟨h.1, fun j x y hx hy => by obtain ⟨h1, h2, h3, h4⟩ := h.2.1 j x y hx hy; exact ⟨h1, h2, h3, rowN_below h4 hb hn⟩, h.2.2⟩
theorem OwnRns.snoc {base m : Nat} {W : World} {r : List Rn} {l : List Nd} (h : OwnRns base W r l) {x : Rn} {y : Nd} (e1 : x.1 = y.1) (e2 : x.2.1 = y.2.1) (e3 : x.2.2.1 = y.2.2.1) (hx : W.ownsRow m 3 1 x.2.2.2 y.2.2.2.length (y.2.2.2.map (Value.int .i64))) (hm : base ≤ m)
    (hlt : ∀ u ∈ r, ∀ g, u.2.2.2.ownBlock = some g → g < m) : OwnRns base W (r ++ [x]) (l ++ [y]) := by
  refine ⟨by simp [h.1], fun j u v hu hv => ?_, List.pairwise_append.2 ⟨h.2.2, List.pairwise_singleton _ _, fun u hu v hv => ?_⟩⟩
  · by_cases hj : j < r.length
    · rw [List.getElem?_append_left hj] at hu
      rw [List.getElem?_append_left (by rw [← h.1]; exact hj)] at hv
      exact h.2.1 j u v hu hv
    · rw [List.getElem?_append_right (by omega)] at hu
      rw [List.getElem?_append_right (by rw [← h.1]; omega), ← h.1] at hv
      have h0 : j - r.length = 0 := by have := (List.getElem?_eq_some_iff.1 hu).1; simp at this; omega
      rw [h0] at hu hv
      simp at hu hv
      subst hu hv
      exact ⟨e1, e2, e3, rowN_base hx hm⟩
  · simp at hv
    subst hv
    cases ho : u.2.2.2.ownBlock with
    | none => exact .inl rfl
    | some g =>
      refine .inr fun hc => ?_
      have := hlt u hu g ho
      have := (hx.lt g hc.symm).1
      omega
theorem OwnRns.lt {base : Nat} {W : World} {r : List Rn} {l : List Nd} (h : OwnRns base W r l) : ∀ u ∈ r, ∀ g, u.2.2.2.ownBlock = some g → g < W.heap.size := by
  intro u hu g hg
  obtain ⟨j, hj, e⟩ := List.getElem_of_mem hu
  have hjl : j < l.length := by rw [← h.1]; exact hj
  obtain ⟨_, _, _, h4⟩ := h.2.1 j u (l[j]) (by rw [← e]; simp) (by simp)
  exact (h4.lt g hg).2

end Go.Proofs.Ytmjidhnlofpliab

/-
  Lists of lists of symbols in memory. No function of the program is spoken of.
-/
namespace Go.Proofs.Ytmjidhnlofpliab
open Go.RowKit

/-- The slice v holds lists of symbols, each in blocks below n₀. -/
def Segs (n₀ : Nat) (W : World) (v : Value) (S : List (List (Int × Int))) : Prop := ∃ (b off cap : Nat) (vs : List Value), v = .slice (some ⟨b, off, none⟩) S.length cap ∧ b < n₀ ∧ vs.length = S.length ∧ (∀ (j : Nat) (q : Value), vs[j]? = some q → W.cell? ⟨b, off + j, none⟩ = some q) ∧ ∀ (j : Nat) (q : Value) (l : List (Int × Int)), vs[j]? = some q → S[j]? = some l → Syms n₀ W q l
theorem Segs.below {n₀ : Nat} {W W' : World} {v : Value} {S : List (List (Int × Int))} (h : Segs n₀ W v S) (hb : Below n₀ W W') : Segs n₀ W' v S := by
  obtain ⟨b, off, cap, vs, h1, h2, h3, h4, h5⟩ := h
  exact ⟨b, off, cap, vs, h1, h2, h3, fun j q hq => (hb.cell (p := ⟨b, off + j, none⟩) h2).trans (h4 j q hq), fun j q l hq hl => (h5 j q l hq hl).below hb⟩
theorem Segs.mono {n₀ n₁ : Nat} {W : World} {v : Value} {S : List (List (Int × Int))} (h : Segs n₀ W v S) (hn : n₀ ≤ n₁) : Segs n₁ W v S := by
  obtain ⟨b, off, cap, vs, h1, h2, h3, h4, h5⟩ := h
  exact ⟨b, off, cap, vs, h1, by omega, h3, h4, fun j q l hq hl => (h5 j q l hq hl).mono hn⟩
theorem Segs.next {W W' : World} {v : Value} {S : List (List (Int × Int))} (h : Segs W.heap.size W v S) (hb : Below W.heap.size W W') : Segs W'.heap.size W' v S := (h.below hb).mono hb.size
theorem Segs.shape {n₀ : Nat} {W : World} {v : Value} {S : List (List (Int × Int))} (h : Segs n₀ W v S) : ∃ b off cap, v = .slice (some ⟨b, off, none⟩) S.length cap ∧ b < n₀ := by
  obtain ⟨b, off, cap, vs, h1, h2, _⟩ := h
  exact ⟨b, off, cap, h1, h2⟩
end Go.Proofs.Ytmjidhnlofpliab

/-
  What the page's Piles answers: the symbols of each segment.
-/
namespace Go.Proofs.Ytmjidhnlofpliab
open Go.RowKit

end Go.Proofs.Ytmjidhnlofpliab

/-
  What the page's child answers: a node's child.
-/
namespace Go.Proofs.Ytmjidhnlofpliab
open Go.RowKit

end Go.Proofs.Ytmjidhnlofpliab

/-
  What the page's least answers: the least metric so many depths further on. (It calls itself.)
-/
namespace Go.Proofs.Ytmjidhnlofpliab
open Go.RowKit

end Go.Proofs.Ytmjidhnlofpliab

/-
  What the page's Node answers: the node of a path.
-/
namespace Go.Proofs.Ytmjidhnlofpliab
open Go.RowKit

end Go.Proofs.Ytmjidhnlofpliab

/-
  What volutekeep.Node, volutekeep.Nodes and volutekeep.TwinNodes answer, for all nodes in memory; append to a row of nodes of the call's own.
-/
namespace Go.Proofs.Ytmjidhnlofpliab
open Go.RowKit

end Go.Proofs.Ytmjidhnlofpliab

/-
  What pick.isBelow, slices.IndexFunc and slices.ContainsFunc with it, slices.Clone of numbers and pick.clone answer.
-/
namespace Go.Proofs.Ytmjidhnlofpliab
open Go.RowKit

end Go.Proofs.Ytmjidhnlofpliab

/-
  What pick.least answers.
-/
namespace Go.Proofs.Ytmjidhnlofpliab
open Go.RowKit

def Sofar (cs : List Int) (tk : List Nat) (F : Int) (i : Nat) (o : Option Nat) : Prop :=
  (∀ j, j < i → j ∉ tk → at0 cs j ≠ F) ∧ match o with | none => ∀ j, j < i → j ∈ tk | some q => q < i ∧ q ∉ tk ∧ ∀ j, j < i → j ∉ tk → at0 cs q < at0 cs j ∨ (at0 cs q = at0 cs j ∧ q ≤ j)
theorem Sofar.take {cs : List Int} {tk : List Nat} {F : Int} {i : Nat} {o : Option Nat} (h : Sofar cs tk F i o) (hi : i ∉ tk) (hF : at0 cs i ≠ F) (ho : ∀ q, o = some q → at0 cs i < at0 cs q) : Sofar cs tk F (i + 1) (some i) := by
  refine ⟨fun j hj hn => ?_, by omega, hi, fun j hj hn => ?_⟩
  · rcases Nat.lt_or_eq_of_le (Nat.lt_succ_iff.1 hj) with h' | h'
    · exact h.1 j h' hn
    · subst h'; exact hF
  · rcases Nat.lt_or_eq_of_le (Nat.lt_succ_iff.1 hj) with h' | h'
    · cases o with
      | none => exact absurd (h.2 j h') hn
      | some q =>
        have h1 := ho q rfl
        rcases h.2.2.2 j h' hn with h2 | h2
        · exact .inl (by omega)
        · exact .inl (by omega)
    · subst h'; exact .inr ⟨rfl, Nat.le_refl _⟩
theorem Sofar.keep {cs : List Int} {tk : List Nat} {F : Int} {i q : Nat} (h : Sofar cs tk F i (some q)) (hF : at0 cs i ≠ F) (ho : ¬ at0 cs i < at0 cs q) : Sofar cs tk F (i + 1) (some q) := by
  have hq : q < i := h.2.1
  refine ⟨fun j hj hn => ?_, by omega, h.2.2.1, fun j hj hn => ?_⟩
  · rcases Nat.lt_or_eq_of_le (Nat.lt_succ_iff.1 hj) with h' | h'
    · exact h.1 j h' hn
    · subst h'; exact hF
  · rcases Nat.lt_or_eq_of_le (Nat.lt_succ_iff.1 hj) with h' | h'
    · exact h.2.2.2 j h' hn
    · subst h'
      by_cases e : at0 cs q = at0 cs j
      · exact .inr ⟨e, by omega⟩
      · exact .inl (by omega)
theorem Sofar.found {cs : List Int} {tk : List Nat} {F : Int} {i : Nat} {o : Option Nat} (h : Sofar cs tk F i o) (hl : i < cs.length) (hi : i ∉ tk) (hF : at0 cs i = F) (hall : ∀ j, j < cs.length → j ∉ tk → F ≤ at0 cs j) : Best cs tk i := by
  refine ⟨hl, hi, fun j hj hn => ?_⟩
  have := hall j hj hn
  by_cases e : at0 cs i = at0 cs j
  · refine .inr ⟨e, ?_⟩
    rcases Nat.lt_or_ge j i with h' | h'
    · exact absurd (by rw [← e, hF]) (h.1 j h' hn)
    · exact h'
  · exact .inl (by omega)
theorem Sofar.done {cs : List Int} {tk : List Nat} {F : Int} {q : Nat} (h : Sofar cs tk F cs.length (some q)) : Best cs tk q := ⟨h.2.1, h.2.2.1, h.2.2.2⟩

end Go.Proofs.Ytmjidhnlofpliab

/-
  What the page's own Pick answers. (Written by tpl_refpick.py.)
-/
namespace Go.Proofs.Ytmjidhnlofpliab
open Go.RowKit

end Go.Proofs.Ytmjidhnlofpliab

/-
  What the page's Walk answers: the list at the end, and the cut.
-/
namespace Go.Proofs.Ytmjidhnlofpliab
open Go.RowKit

end Go.Proofs.Ytmjidhnlofpliab

/-
  What the page's Decode answers. (Written by tpl_refdecode.py.)
-/
namespace Go.Proofs.Ytmjidhnlofpliab
open Go.RowKit

end Go.Proofs.Ytmjidhnlofpliab

/-
  Blocks that are heard, as numbers: which may be, what becomes of them by data. No function of the program is spoken of.
-/
namespace Go.Proofs.Ytmjidhnlofpliab
open Go.RowKit

/-- Whatever is put keeps what stands there. -/
theorem putN_has {n p : Int} {l : List (Int × Int)} {k v : Int} {x : Int × Int} (h : x ∈ l) : x ∈ putN n p l k v := by
  unfold putN
  split
  · exact h
  · exact putL_mem.2 (.inr h)
/-- A place that is not fresh. -/
def Stale (n p : Int) (l : List (Int × Int)) (k : Int) : Prop := n * p ≤ k ∨ ∃ v, (k, v) ∈ l
theorem Stale.put {n p : Int} {l : List (Int × Int)} {k k' v : Int} (h : Stale n p l k) : Stale n p (putN n p l k' v) k := h.elim .inl fun ⟨u, hu⟩ => .inr ⟨u, putN_has hu⟩
end Go.Proofs.Ytmjidhnlofpliab

/-
  Blocks that are heard, as numbers: what becomes of one by data. No function of the program is spoken of.
-/
namespace Go.Proofs.Ytmjidhnlofpliab
open Go.RowKit

/-- A block that is heard. -/
structure Hr where
  hS : Int
  hR : Int
  hN : Int
  hP : Int
  hL : List (Int × Int)
  hD : Bool
  hB : List Int

/-- Are the bytes those of a block of that number? -/
def blockB (c : Cfg) (s : Int) (b : List Int) : Bool := decide ((b.length : Int) = c.cB + 10) && isSealed b && decide (rdN b ≤ c.cB.toNat) && decide (errB (c.cB.toNat : Int) (rdS b) (rdM b) (rdX b).length = 0) && decide (bytesB c.cB.toNat (rdS b) (rdM b) (rdX b) = b) && decide (rdS b = s)
theorem blockB_iff (c : Cfg) (s : Int) (b : List Int) : blockB c s b = true ↔ (b.length : Int) = c.cB + 10 ∧ isSealed b = true ∧ readOk c.cB.toNat b ∧ rdS b = s := by
  simp only [blockB, Bool.and_eq_true, decide_eq_true_eq, readOk, right_iff]
  constructor
  · rintro ⟨⟨⟨⟨⟨h1, h2⟩, h3⟩, h4⟩, h5⟩, h6⟩
    exact ⟨h1, h2, ⟨h3, h4, h5⟩, h6⟩
  · rintro ⟨h1, h2, ⟨h3, h4, h5⟩, h6⟩
    exact ⟨⟨⟨⟨⟨h1, h2⟩, h3⟩, h4⟩, h5⟩, h6⟩

/-- May it be (of a right configuration)? -/
def okH (c : Cfg) (h : Hr) : Prop := 0 ≤ h.hS ∧ (-1 ≤ h.hR ∧ h.hR ≤ 255) ∧ PileOk h.hN h.hP h.hL ∧ h.hN = segsC c ∧ h.hP = c.cPass ∧ (h.hR = -1 → h.hL = []) ∧ (h.hD = true → blockB c h.hS h.hB = true) ∧ (h.hD = false → h.hB = [])
def newH (c : Cfg) (s : Int) : Hr := ⟨s, -1, segsC c, c.cPass, [], false, []⟩
theorem headOk_conf {c : Cfg} (h : okC c = true) : HeadOk (segsC c) c.cPass := by
  have h1 := segsC_bd h
  have h2 := ((okC_iff c).1 h).2.2.2.2.2.2.2.1
  exact ⟨by omega, by omega, by omega, by omega⟩
theorem newH_ok {c : Cfg} (h : okC c = true) {s : Int} (hs : 0 ≤ s) : okH c (newH c s) := ⟨hs, ⟨by show (-1 : Int) ≤ -1; omega, by show (-1 : Int) ≤ 255; omega⟩, pileOk_nil (headOk_conf h), rfl, rfl, fun _ => rfl, (fun e => by cases e), fun _ => rfl⟩

end Go.Proofs.Ytmjidhnlofpliab

/-
  What the page's Packet answers, of data that may be. (Written by tpl_refdata.py.)
-/
namespace Go.Proofs.Ytmjidhnlofpliab
open Go.RowKit

theorem Box.grown {W W' : World} {B : Nat} {t : TypeId} {cs : Array Value} {ob : Option Nat} (h : Box W B t cs) (hg : W.grownBy W' ob) (hne : ob ≠ some B) : Box W' B t cs := (hg.block B h.lt hne.symm).trans h
end Go.Proofs.Ytmjidhnlofpliab

/-
  What the page's ReadData answers, whatever it is asked. (Written by tpl_refdata.py.)
-/
namespace Go.Proofs.Ytmjidhnlofpliab
open Go.RowKit

end Go.Proofs.Ytmjidhnlofpliab

/-
  What pile.Put answers where nothing is fresh. (Written by tpl_pileput.py.)
-/
namespace Go.Proofs.Ytmjidhnlofpliab
open Go.RowKit

end Go.Proofs.Ytmjidhnlofpliab

/-
  What pile.Put answers where the symbol is fresh; how the row lies: 1. (Written by tpl_pileput.py.)
-/
namespace Go.Proofs.Ytmjidhnlofpliab
open Go.RowKit

end Go.Proofs.Ytmjidhnlofpliab

/-
  What pile.Put answers where the symbol is fresh; how the row lies: 2. (Written by tpl_pileput.py.)
-/
namespace Go.Proofs.Ytmjidhnlofpliab
open Go.RowKit

end Go.Proofs.Ytmjidhnlofpliab

/-
  What pile.Put answers where the symbol is fresh; how the row lies: 4. (Written by tpl_pileput.py.)
-/
namespace Go.Proofs.Ytmjidhnlofpliab
open Go.RowKit

end Go.Proofs.Ytmjidhnlofpliab

/-
  The least metric so many depths further on, with what was found before. No program is spoken of.
-/
namespace Go.Proofs.Ytmjidhnlofpliab

section
variable (st : Int → Int → Int) (co : Nat → Int → Int) (N : Nat)
end

end Go.Proofs.Ytmjidhnlofpliab

/-
  What mix.Mix and mix.Back answer.
-/
namespace Go.Proofs.Ytmjidhnlofpliab
open Go.RowKit

end Go.Proofs.Ytmjidhnlofpliab

/-
  What spine.Begin, Step, States, Nibble answer.
-/
namespace Go.Proofs.Ytmjidhnlofpliab
open Go.RowKit

end Go.Proofs.Ytmjidhnlofpliab

/-
  What symbol.Of and State answer.
-/
namespace Go.Proofs.Ytmjidhnlofpliab
open Go.RowKit

theorem or_shift (a z k : Nat) (ha : a < 2 ^ k) : a ||| 2 ^ k * z = a + 2 ^ k * z := by
  rw [Nat.add_comm, Nat.or_comm]
  exact (Nat.two_pow_add_eq_or_of_lt ha z).symm

end Go.Proofs.Ytmjidhnlofpliab

/-
  What cost.Of answers.
-/
namespace Go.Proofs.Ytmjidhnlofpliab
open Go.RowKit

end Go.Proofs.Ytmjidhnlofpliab

/-
  What pile.Of answers, as long as sched's table reads as it was laid.
-/
namespace Go.Proofs.Ytmjidhnlofpliab
open Go.RowKit

end Go.Proofs.Ytmjidhnlofpliab

/-
  What beam's inner functions answer: isDepth, root, child.
-/
namespace Go.Proofs.Ytmjidhnlofpliab
open Go.RowKit

end Go.Proofs.Ytmjidhnlofpliab

/-
  What beam.bySegment and behind answer.
-/
namespace Go.Proofs.Ytmjidhnlofpliab
open Go.RowKit

end Go.Proofs.Ytmjidhnlofpliab

/-
  What pick.Pick answers.
-/
namespace Go.Proofs.Ytmjidhnlofpliab
open Go.RowKit

end Go.Proofs.Ytmjidhnlofpliab

/-
  What the page's Encode answers.
-/
namespace Go.Proofs.Ytmjidhnlofpliab
open Go.RowKit

end Go.Proofs.Ytmjidhnlofpliab

/-
  What the page's Tick answers, of a right one. (Written by tpl_refemit.py.)
-/
namespace Go.Proofs.Ytmjidhnlofpliab
open Go.RowKit

end Go.Proofs.Ytmjidhnlofpliab

/-
  What volutekeep.TwinHear and Hear and the page's NewHear and Hear (may it be heard?) answer. (Written by tpl_refhear.py.)
-/
namespace Go.Proofs.Ytmjidhnlofpliab
open Go.RowKit

set_option maxRecDepth 100000 in
set_option maxHeartbeats 4000000 in
/-- volutekeep.Hear. -/
theorem keepHear_any (s q N P s' q' N' P' : Int) (k k' : Bool) (vl vb vl' vb' : Value) (l l' : List (Int × Int)) (zs zs' : List Int) (hl : l'.length ≤ 4611686018427387904) (hz : zs'.length ≤ 4611686018427387904) (w : World) (hA : Syms w.heap.size w vl l) (hB : Holds .u8 w.heap.size w vb zs) (hA' : Syms w.heap.size w vl' l') (hB' : Holds .u8 w.heap.size w vb' zs') :
    Calls Try.prog 18 #[.agg #[.int .i64 s, .int .i64 q, .int .i64 N, .int .i64 P, vl, .bool k, vb], .agg #[.int .i64 s', .int .i64 q', .int .i64 N', .int .i64 P', vl', .bool k', vb']] w fun e w' => e = .returned (.bool (decide (s = s' ∧ q = q' ∧ k = k' ∧ (N = N' ∧ P = P' ∧ l = l') ∧ zs = zs'))) ∧ Below w.heap.size w w' := by
  have b1 := ((Below.refl w.heap.size w).alloc (Nat.le_refl _) (.cells #[.int .i64 s, .int .i64 q, .int .i64 N, .int .i64 P, vl, .bool k, vb] 46)).alloc (by simp) (.cells #[.int .i64 s', .int .i64 q', .int .i64 N', .int .i64 P', vl', .bool k', vb'] 46)
  have x1 := (Box.new w 46 #[.int .i64 s, .int .i64 q, .int .i64 N, .int .i64 P, vl, .bool k, vb]).alloc (.cells #[.int .i64 s', .int .i64 q', .int .i64 N', .int .i64 P', vl', .bool k', vb'] 46)
  have x2 := Box.new (w.alloc (.cells #[.int .i64 s, .int .i64 q, .int .i64 N, .int .i64 P, vl, .bool k, vb] 46)) 46 #[.int .i64 s', .int .i64 q', .int .i64 N', .int .i64 P', vl', .bool k', vb']
  rw [show (w.alloc (.cells #[.int .i64 s, .int .i64 q, .int .i64 N, .int .i64 P, vl, .bool k, vb] 46)).heap.size = w.heap.size + 1 by simp] at x2
  have HC := keepPile_any N P N' P' vl vl' l l' _ hl (hA.next b1) (hA'.next b1)
  have HBB : Hid (∀ wx : World, Below ((w.alloc (.cells #[.int .i64 s, .int .i64 q, .int .i64 N, .int .i64 P, vl, .bool k, vb] 46)).alloc (.cells #[.int .i64 s', .int .i64 q', .int .i64 N', .int .i64 P', vl', .bool k', vb'] 46)).heap.size ((w.alloc (.cells #[.int .i64 s, .int .i64 q, .int .i64 N, .int .i64 P, vl, .bool k, vb] 46)).alloc (.cells #[.int .i64 s', .int .i64 q', .int .i64 N', .int .i64 P', vl', .bool k', vb'] 46)) wx → Calls Try.prog 38 #[vb, vb'] wx fun e w' => e = .returned (.bool (decide (zs = zs'))) ∧ ∃ n, w' = wx.drewN n) := fun wx hx => bytes_any vb vb' zs zs' _ _ wx hz ((hB.next b1).next hx) ((hB'.next b1).next hx)
  clear hA hB hA' hB'
  by_cases e0 : ¬ s = s'
  · have d0 : (s == s') = false := by simp [e0]
    rw [decide_eq_false (fun h => e0 h.1)]
    clear e0 HC HBB x1 x2
    go_enter Try.func18, Try.ntmps18
    go_wp2
    go_ret
    exact ⟨rfl, b1⟩
  obtain rfl := Classical.not_not.1 e0
  clear e0
  by_cases e1 : ¬ q = q'
  · have d1 : (q == q') = false := by simp [e1]
    rw [decide_eq_false (fun h => e1 h.2.1)]
    clear e1 HC HBB x1 x2
    go_enter Try.func18, Try.ntmps18
    go_wp2
    go_ret
    exact ⟨rfl, b1⟩
  obtain rfl := Classical.not_not.1 e1
  clear e1
  by_cases e2 : ¬ k = k'
  · have d2 : (k == k') = false := by simp [e2]
    rw [decide_eq_false (fun h => e2 h.2.2.1)]
    clear e2 HC HBB x1 x2
    go_enter Try.func18, Try.ntmps18
    go_wp2
    go_ret
    exact ⟨rfl, b1⟩
  obtain rfl := Classical.not_not.1 e2
  clear e2
  by_cases e3 : ¬ (N = N' ∧ P = P' ∧ l = l')
  · rw [decide_eq_false e3] at HC
    rw [decide_eq_false (fun h => e3 h.2.2.2.1)]
    clear e3 HBB x1 x2
    go_enter Try.func18, Try.ntmps18
    go_wp2_with fail
    refine HC.mono ?_
    rintro e w2 ⟨rfl, b2⟩
    go_wp2
    go_ret
    exact ⟨rfl, b1.trans (b2.mono (by simp; omega))⟩
  have e3 := Classical.not_not.1 e3
  rw [decide_eq_true e3] at HC
  have HE : Hid (decide (s = s ∧ q = q ∧ k = k ∧ (N = N' ∧ P = P' ∧ l = l') ∧ zs = zs') = decide (zs = zs')) := by
    show decide (s = s ∧ q = q ∧ k = k ∧ (N = N' ∧ P = P' ∧ l = l') ∧ zs = zs') = decide (zs = zs')
    exact decide_eq_decide.2 ⟨fun h => h.2.2.2.2, fun h => ⟨rfl, rfl, rfl, e3, h⟩⟩
  rw [HE.out]
  clear e3
  go_enter Try.func18, Try.ntmps18
  go_wp2_with fail
  refine HC.mono ?_
  rintro e w2 ⟨rfl, b2⟩
  have y1 := x1.next b2
  have y2 := x2.next b2
  have c1 := y1.cell 6 _ rfl
  have c2 := y2.cell 6 _ rfl
  have hl1 := y1.lt
  have hl2 := y2.lt
  have HB2 := HBB.out w2 b2
  clear HC HBB x1 x2
  go_wp2_with fail
  refine HB2.mono ?_
  rintro e w3 ⟨rfl, nd, rfl⟩
  go_wp2
  go_ret
  exact ⟨rfl, below_drewN (b1.trans (b2.mono (by simp; omega))) nd⟩

end Go.Proofs.Ytmjidhnlofpliab
