/-
  Lists of lists of symbols in memory. No function of the program is spoken of.
-/
import Derived.Test.YtddcloanbpkecaaDoorSymAppend
import Derived.Test.YtddcloanbpkecaaDoorNodeMem
namespace Go.Proofs.YtddcloanbpkecaaDoor
open Go.RowKit

/-- The slice v holds lists of symbols, each in blocks below n₀. -/
def Segs (n₀ : Nat) (W : World) (v : Value) (S : List (List (Int × Int))) : Prop := ∃ (b off cap : Nat) (vs : List Value), v = .slice (some ⟨b, off, none⟩) S.length cap ∧ b < n₀ ∧ vs.length = S.length ∧ (∀ (j : Nat) (q : Value), vs[j]? = some q → W.cell? ⟨b, off + j, none⟩ = some q) ∧ ∀ (j : Nat) (q : Value) (l : List (Int × Int)), vs[j]? = some q → S[j]? = some l → Syms n₀ W q l
theorem Segs.below {n₀ : Nat} {W W' : World} {v : Value} {S : List (List (Int × Int))} (h : Segs n₀ W v S) (hb : Below n₀ W W') : Segs n₀ W' v S := by
  obtain ⟨b, off, cap, vs, h1, h2, h3, h4, h5⟩ := h
  exact ⟨b, off, cap, vs, h1, h2, h3, fun j q hq => (hb.cell (p := ⟨b, off + j, none⟩) h2).trans (h4 j q hq), fun j q l hq hl => (h5 j q l hq hl).below hb⟩
theorem Segs.mono {n₀ n₁ : Nat} {W : World} {v : Value} {S : List (List (Int × Int))} (h : Segs n₀ W v S) (hn : n₀ ≤ n₁) : Segs n₁ W v S := by
  obtain ⟨b, off, cap, vs, h1, h2, h3, h4, h5⟩ := h
  exact ⟨b, off, cap, vs, h1, by omega, h3, h4, fun j q l hq hl => (h5 j q l hq hl).mono hn⟩
theorem Segs.next {W W' : World} {v : Value} {S : List (List (Int × Int))} (h : Segs W.heap.size W v S) (hb : Below W.heap.size W W') : Segs W'.heap.size W' v S := (h.below hb).mono hb.size
theorem Segs.shape {n₀ : Nat} {W : World} {v : Value} {S : List (List (Int × Int))} (h : Segs n₀ W v S) : ∃ b off cap, v = .slice (some ⟨b, off, none⟩) S.length cap ∧ b < n₀ := by
  obtain ⟨b, off, cap, vs, h1, h2, _⟩ := h
  exact ⟨b, off, cap, h1, h2⟩
theorem segs_at {n₀ b off n cap : Nat} {W : World} {S : List (List (Int × Int))} (h : Segs n₀ W (.slice (some ⟨b, off, none⟩) n cap) S) {j : Nat} {l : List (Int × Int)} (hl : S[j]? = some l) : ∃ a c, W.cell? ⟨b, off + j, none⟩ = some (.slice a l.length c) ∧ Syms n₀ W (.slice a l.length c) l := by
  obtain ⟨b', off', cap', vs, h1, h2, h3, h4, h5⟩ := h
  cases h1
  have hj : j < vs.length := by rw [h3]; exact (List.getElem?_eq_some_iff.1 hl).1
  obtain ⟨q, hq⟩ : ∃ q, vs[j]? = some q := ⟨vs[j], by simp⟩
  have hs := h5 j q l hq hl
  obtain ⟨a, c, e⟩ := hs.shape
  have hc := h4 j q hq
  rw [e] at hc hs
  exact ⟨a, c, hc, hs⟩

theorem infoSegs : (Tryd.prog.info? 22).map (fun i => (i.zero, i.size, i.bytes)) = some (some (.slice none 0 0), 1, 24) := by kernel_rfl

/-- append of one list, its run. -/
theorem run_append_seg (v : Value) (n base : Nat) (vs : List Value) (x : Value) (hx : SliceV x) (ty : TypeId) (w : World) (hown : w.ownsRow base 22 1 v n vs) (hb : base ≤ w.heap.size) (h1 : n ≤ 1048576) :
    ∃ v' w', (Builtin.append_ #[56, 56] ty #[v, .slice (some ⟨w.heap.size, 0, none⟩) 1 1]).run Tryd.prog (w.alloc (.cells #[x] 22)) = .ok v' w' ∧ w'.ownsRow base 22 1 v' (n + 1) (vs ++ [x]) ∧ (w.alloc (.cells #[x] 22)).grownBy w' v.ownBlock := by
  obtain ⟨i0, hi, hz0, hz1, hz2⟩ := info_parts infoSegs
  obtain ⟨a, m, c, rfl⟩ := hx
  obtain ⟨v', w', hr, ho, hg, _⟩ := run_append_own (P := Tryd.prog) (w.alloc (.cells #[.slice a m c] 22)) base 56 ty 22 i0 (.slice none 0 0) 1 24 Tryd.underlying56 hi hz0 hz1 hz2 rfl (by decide) v n _ (hown.alloc _) ⟨w.heap.size, 0, none⟩ 1 1 [.slice a m c] rfl (World.news_of_block (World.alloc_heap_new _ _)) (by simp [Value.oneCell']) (by unfold maxLen; omega) (by omega) (by simp; omega)
  exact ⟨v', w', hr, ho, hg⟩

/-- A row of lists of the call's own is held. -/
theorem segs_of_row {W : World} {base k : Nat} {v : Value} {vs : List Value} {S : List (List (Int × Int))} (h : W.ownsRow base 22 1 v k vs) (hk : S.length = k) (h0 : 0 < k) (hS : ∀ (j : Nat) (q : Value) (l : List (Int × Int)), vs[j]? = some q → S[j]? = some l → Syms W.heap.size W q l) : Segs W.heap.size W v S := by
  have hl : vs.length = k := by have := h.1; omega
  rcases h.2 with ⟨rfl, rfl⟩ | ⟨g, cap, cur, rfl, hb, hg, hkc, _, hs, ht⟩
  · omega
  · refine ⟨g, 0, cap, vs, by rw [hk], (Array.getElem?_eq_some_iff.1 hg).1, by rw [hl, hk], fun j q hq => ?_, hS⟩
    have := h.cells (g := g) rfl j q hq
    rw [Addr.add_lit] at this
    exact this

end Go.Proofs.YtddcloanbpkecaaDoor
