/-
  What volutekeep.SpoilSyms does: it writes over the list that it is handed; each other block lies as it lay.
-/
import Derived.Test.YtifkjglhdppocaaDoorSymMem
import Derived.OwnWalk
import Derived.WalkSpells
import Derived.WalkLawsBesides
import Derived.RegionTactic
import Derived.BigRegion
namespace Go.Proofs.YtifkjglhdppocaaDoor
open Go.RowKit

set_option maxRecDepth 100000 in
set_option maxHeartbeats 2000000 in
/-- volutekeep.SpoilSyms writes over a row of the call's own, and turns nothing below it. -/
theorem spoilSyms_own (v : Value) (k base : Nat) (l : List (Int × Int)) (hl : k ≤ 4294967296) (w : World) (hown : w.ownsRow base 49 2 v k (symCells l)) :
    Calls Tryd.prog 15 #[v] w fun e W' => e = .returned (.tuple #[]) ∧ Below base w W' ∧ w.heap.size = W'.heap.size ∧ ∀ q, some q ≠ v.ownBlock → W'.heap[q]? = w.heap[q]? := by
  have hx := syms_row_len hown
  rcases hown.2 with ⟨rfl, rfl⟩ | ⟨g, cap, cur, rfl, hbs, hg, hk, _, hs, ht⟩
  · go_enter Tryd.func15, Tryd.ntmps15
    go_wp2
    go_loop [2] (fun i => i = .int .i64 0) (fun _ => 0)
    case atStart => rfl
    case round =>
      obtain rfl := hrel
      go_wp2
      go_end0
      exact ⟨rfl, Below.refl _ _, rfl, fun _ _ => rfl⟩
  · have hc0 : ∀ j, j < k → ∃ y z, w.cell? ⟨g, j * 2, none⟩ = some (.int .i64 y) ∧ w.cell? ⟨g, j * 2 + 1, none⟩ = some (.int .i64 z) := fun j hj => by
      obtain ⟨x, hxj⟩ : ∃ x, l[j]? = some x := ⟨l[j], by simp⟩
      obtain ⟨h1, h2⟩ := symCells_get hxj
      have c1 := hown.cells (g := g) rfl (j * 2) _ h1
      have c2 := hown.cells (g := g) rfl (j * 2 + 1) _ h2
      rw [Addr.add_lit, Nat.zero_add] at c1 c2
      exact ⟨_, _, c1, c2⟩
    have hf0 : ∀ j, w.frozen? ⟨g, j, none⟩ = false := fun j => by simp [World.frozen?, hg]
    clear hown hs ht hx hg
    go_enter Tryd.func15, Tryd.ntmps15
    go_wp2
    go_loopw [2] (fun i wr => ∃ j : Nat, j ≤ k ∧ i = .int .i64 j ∧ (∀ q, j ≤ q → q < k → ∃ y z, wr.cell? ⟨g, q * 2, none⟩ = some (.int .i64 y) ∧ wr.cell? ⟨g, q * 2 + 1, none⟩ = some (.int .i64 z)) ∧ (∀ q, wr.frozen? ⟨g, q, none⟩ = false) ∧ Below base w wr ∧ w.heap.size = wr.heap.size ∧ ∀ q, q ≠ g → wr.heap[q]? = w.heap[q]?) (fun i _ => k - (intOf i).toNat)
    case atStart => exact ⟨0, Nat.zero_le _, rfl, fun q _ h => hc0 q h, hf0, Below.refl _ _, rfl, fun _ _ => rfl⟩
    case round =>
      obtain ⟨j, hj, rfl, hcq, hfq, hbw, hsz, hoth⟩ := hrel
      have HOT : Hid (∀ q, q ≠ g → wr.heap[q]? = w.heap[q]?) := hoth
      clear hoth
      by_cases hlt : j < k
      · obtain ⟨y, z, hy, hz⟩ := hcq j (Nat.le_refl _) hlt
        have hf := hfq (j * 2)
        have hf1 := hfq (j * 2 + 1)
        have HCQ : Hid (∀ v1 v2 q, j + 1 ≤ q → q < k → ∃ y z, ((wr.setCell ⟨g, j * 2, none⟩ v1).setCell ⟨g, j * 2 + 1, none⟩ v2).cell? ⟨g, q * 2, none⟩ = some (.int .i64 y) ∧ ((wr.setCell ⟨g, j * 2, none⟩ v1).setCell ⟨g, j * 2 + 1, none⟩ v2).cell? ⟨g, q * 2 + 1, none⟩ = some (.int .i64 z)) := fun v1 v2 q h1 h2 => by
          obtain ⟨y, z, hy, hz⟩ := hcq q (by omega) h2
          refine ⟨y, z, ?_, ?_⟩
          · rw [World.cell?_setCell_other _ _ _ _ (by intro e; have := congrArg Addr.off e; simp at this; omega), World.cell?_setCell_other _ _ _ _ (by intro e; have := congrArg Addr.off e; simp at this; omega)]; exact hy
          · rw [World.cell?_setCell_other _ _ _ _ (by intro e; have := congrArg Addr.off e; simp at this; omega), World.cell?_setCell_other _ _ _ _ (by intro e; have := congrArg Addr.off e; simp at this; omega)]; exact hz
        have HFQ : Hid (∀ v1 v2 q, ((wr.setCell ⟨g, j * 2, none⟩ v1).setCell ⟨g, j * 2 + 1, none⟩ v2).frozen? ⟨g, q, none⟩ = false) := fun v1 v2 q => by rw [World.frozen?_setCell, World.frozen?_setCell]; exact hfq q
        clear hcq hfq hc0 hf0
        go_wp2
        exact ⟨⟨j + 1, by omega, by go_num, HCQ.out _ _, HFQ.out _ _, (hbw.setCell (p := ⟨g, j * 2, none⟩) hbs _).setCell (p := ⟨g, j * 2 + 1, none⟩) hbs _, hsz.trans (by simp [World.setCell]), fun q hq => ((Below.heap_setCell _ _ _ _ hq).trans (Below.heap_setCell _ _ _ _ hq)).trans (HOT.out q hq)⟩, by simp [intOf]; omega⟩
      · obtain rfl : j = k := by omega
        clear hcq hfq hc0 hf0
        go_wp2
        go_end0
        exact ⟨rfl, hbw, hsz, fun q hq => HOT.out q (fun e => hq (by rw [e]; rfl))⟩

/-- A row of symbols whose block lies as it lay. -/
theorem symRow_other {W W' : World} {base k : Nat} {e : TypeId} {v : Value} {xs : List Value} (h : W.ownsRow base e 2 v k xs) (hq : ∀ q, v.ownBlock = some q → W'.heap[q]? = W.heap[q]?) : W'.ownsRow base e 2 v k xs := by
  refine ⟨h.1, ?_⟩
  rcases h.2 with h0 | ⟨g, cap, cur, hv, hbs, hg, hk, hm, hs, ht⟩
  · exact .inl h0
  · exact .inr ⟨g, cap, cur, hv, hbs, (hq g (by rw [hv]; rfl)).trans hg, hk, hm, hs, ht⟩

end Go.Proofs.YtifkjglhdppocaaDoor
