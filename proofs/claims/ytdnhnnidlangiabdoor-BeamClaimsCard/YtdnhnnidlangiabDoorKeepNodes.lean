/-
  What volutekeep.Node, volutekeep.Nodes and volutekeep.TwinNodes answer, for all nodes in memory; append to a row of nodes of the call's own.
-/
import Derived.Test.YtdnhnnidlangiabDoorNodeMem
import Derived.Test.YtdnhnnidlangiabDoorKeepInts
import Derived.Test.YtdnhnnidlangiabDoorTwinInts
import Derived.Test.YtdnhnnidlangiabDoorKept
import Derived.RegionTactic
import Derived.BigRegion
import Derived.Deep.RegionWith
namespace Go.Proofs.YtdnhnnidlangiabDoor
open Go.RowKit

theorem infoNode : (Tryd.prog.info? 34).map (fun i => (i.zero, i.size, i.bytes)) = some (some (.agg #[.int .u32 0, .int .i64 0, .int .i64 0, .slice none 0 0]), 4, 48) := by kernel_rfl

/-- append of one node, its run. -/
theorem run_append_node (v : Value) (n base : Nat) (r : List Rn) (s m c : Int) (p : Value) (hp : SliceV p) (ty : TypeId) (w : World) (hown : w.ownsRow base 34 4 v n (rnCells r)) (hb : base ≤ w.heap.size) (h1 : n ≤ 1048576) :
    ∃ v' w', (Builtin.append_ #[41, 41] ty #[v, .slice (some ⟨w.heap.size, 0, none⟩) 1 1]).run Tryd.prog (w.alloc (.cells #[.int .u32 s, .int .i64 m, .int .i64 c, p] 34)) = .ok v' w' ∧ w'.ownsRow base 34 4 v' (n + 1) (rnCells (r ++ [(s, m, c, p)])) ∧ (w.alloc (.cells #[.int .u32 s, .int .i64 m, .int .i64 c, p] 34)).grownBy w' v.ownBlock := by
  obtain ⟨i0, hi, hz0, hz1, hz2⟩ := info_parts infoNode
  obtain ⟨v', w', hr, ho, hg, _⟩ := run_append_own (P := Tryd.prog) (w.alloc (.cells #[.int .u32 s, .int .i64 m, .int .i64 c, p] 34)) base 41 ty 34 i0 (.agg #[.int .u32 0, .int .i64 0, .int .i64 0, .slice none 0 0]) 4 48 Tryd.underlying41 hi hz0 hz1 hz2 rfl (by decide) v n _ (hown.alloc _) ⟨w.heap.size, 0, none⟩ 1 1 [.int .u32 s, .int .i64 m, .int .i64 c, p] rfl (World.news_of_block (World.alloc_heap_new _ _)) (rnCells_one (r := [(s, m, c, p)]) (fun x hx => by simp at hx; subst hx; exact hp)) (by unfold maxLen; omega) (by omega) (by simp; omega)
  exact ⟨v', w', hr, by rw [rnCells_snoc]; exact ho, hg⟩

theorem raw_cells {W : World} {b off : Nat} {r : List Rn} (h : ∀ (j : Nat) (x : Rn), r[j]? = some x → W.cell? ⟨b, off + j * 4, none⟩ = some (.int .u32 x.1) ∧ W.cell? ⟨b, off + j * 4 + 1, none⟩ = some (.int .i64 x.2.1) ∧ W.cell? ⟨b, off + j * 4 + 2, none⟩ = some (.int .i64 x.2.2.1) ∧ W.cell? ⟨b, off + j * 4 + 3, none⟩ = some x.2.2.2) :
    ∀ (j : Nat) (u : Value), (rnCells r)[j]? = some u → W.cell? ((⟨b, off, none⟩ : Addr).add j) = some u := by
  intro j u hj
  rw [Go.WideShapes.add_plain]
  have hlt : j < r.length * 4 := by have := (List.getElem?_eq_some_iff.1 hj).1; rwa [rnCells_len] at this
  have hq : j / 4 < r.length := by omega
  obtain ⟨x, hx⟩ : ∃ x, r[j / 4]? = some x := ⟨r[j / 4], by simp⟩
  have hc := h _ _ hx
  have hg := rnCells_get hx
  have h4 : j % 4 = 0 ∨ j % 4 = 1 ∨ j % 4 = 2 ∨ j % 4 = 3 := by omega
  rcases h4 with h4 | h4 | h4 | h4
  · rw [show j / 4 * 4 = j by omega] at hc hg
    rw [hg.1] at hj
    cases hj
    exact hc.1
  · rw [show j / 4 * 4 + 1 = j by omega] at hg
    rw [show off + j / 4 * 4 + 1 = off + j by omega] at hc
    rw [hg.2.1] at hj
    cases hj
    exact hc.2.1
  · rw [show j / 4 * 4 + 2 = j by omega] at hg
    rw [show off + j / 4 * 4 + 2 = off + j by omega] at hc
    rw [hg.2.2.1] at hj
    cases hj
    exact hc.2.2.1
  · rw [show j / 4 * 4 + 3 = j by omega] at hg
    rw [show off + j / 4 * 4 + 3 = off + j by omega] at hc
    rw [hg.2.2.2] at hj
    cases hj
    exact hc.2.2.2

/-- append of many, its run. -/
theorem run_append_nodes (v src : Value) (n base n₀ : Nat) (r s : List Rn) (hs : ∀ x ∈ s, SliceV x.2.2.2) (ty : TypeId) (w : World) (hown : w.ownsRow base 34 4 v n (rnCells r)) (hH : Raw n₀ w src s) (hb : base ≤ w.heap.size) (h1 : n ≤ 1048576) (h2 : s.length ≤ 1048576) :
    ∃ v' w', (Builtin.append_ #[41, 41] ty #[v, src]).run Tryd.prog w = .ok v' w' ∧ w'.ownsRow base 34 4 v' (n + s.length) (rnCells (r ++ s)) ∧ w.grownBy w' v.ownBlock := by
  obtain ⟨i0, hi, hz0, hz1, hz2⟩ := info_parts infoNode
  rcases hH with ⟨⟨a, cap, rfl, ha⟩, rfl⟩ | ⟨b, off, cap, rfl, _, hcs⟩
  · cases a with
    | none =>
      obtain rfl := ha rfl
      exact ⟨v, w, run_append_owned_none w base 41 ty 34 i0 4 Tryd.underlying41 hi v n _ hown, by simpa using hown, World.grownBy.refl _ _⟩
    | some ad =>
      obtain ⟨v', w', hr, ho, hg, _⟩ := run_append_own (P := Tryd.prog) w base 41 ty 34 i0 (.agg #[.int .u32 0, .int .i64 0, .int .i64 0, .slice none 0 0]) 4 48 Tryd.underlying41 hi hz0 hz1 hz2 rfl (by decide) v n _ hown ad 0 cap [] rfl (by simp) (by simp) (by unfold maxLen; omega) (by omega) hb
      exact ⟨v', w', hr, by simpa using ho, hg⟩
  · obtain ⟨v', w', hr, ho, hg, _⟩ := run_append_own (P := Tryd.prog) w base 41 ty 34 i0 (.agg #[.int .u32 0, .int .i64 0, .int .i64 0, .slice none 0 0]) 4 48 Tryd.underlying41 hi hz0 hz1 hz2 rfl (by decide) v n _ hown ⟨b, off, none⟩ s.length cap (rnCells s) (rnCells_len s) (raw_cells hcs) (rnCells_one hs) (by unfold maxLen; omega) (by omega) hb
    exact ⟨v', w', hr, by rw [rnCells_append]; exact ho, hg⟩

theorem take_eq_nodes {xs ys : List Nd} {k : Nat} {x y : Nd} (hx : xs[k]? = some x) (hy : ys[k]? = some y) (h : xs.take k = ys.take k) (e : x = y) : xs.take (k + 1) = ys.take (k + 1) := by
  rw [List.take_add_one, List.take_add_one, hx, hy, h, e]

end Go.Proofs.YtdnhnnidlangiabDoor
