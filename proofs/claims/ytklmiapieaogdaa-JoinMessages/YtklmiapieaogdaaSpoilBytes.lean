/-
  What volutekeep.SpoilBytes does: it writes over the list that it is handed; each other block lies as it lay.
-/
import Derived.Test.YtklmiapieaogdaaTwins
namespace Go.Proofs.Ytklmiapieaogdaa
open Go.RowKit

set_option maxRecDepth 100000 in
set_option maxHeartbeats 2000000 in
/-- volutekeep.SpoilBytes writes over a row of the call's own, and turns nothing below it. -/
theorem spoilBytes_own (v : Value) (k base : Nat) (xs : List Int) (hl : k ≤ 4294967296) (w : World) (hown : w.ownsRow base 5 1 v k (xs.map (Value.int .u8))) :
    Calls Try.prog 15 #[v] w fun e W' => e = .returned (.tuple #[]) ∧ Below base w W' ∧ w.heap.size = W'.heap.size ∧ ∀ q, some q ≠ v.ownBlock → W'.heap[q]? = w.heap[q]? := by
  have hx : xs.length = k := by have := hown.1; simpa using this
  rcases hown.2 with ⟨rfl, rfl⟩ | ⟨g, cap, cur, rfl, hbs, hg, hk, _, hs, ht⟩
  · go_enter Try.func15, Try.ntmps15
    go_wp2
    go_loop [2] (fun i => i = .int .i64 0) (fun _ => 0)
    case atStart => rfl
    case round =>
      obtain rfl := hrel
      go_wp2
      go_end0
      exact ⟨rfl, Below.refl _ _, rfl, fun _ _ => rfl⟩
  · have hc0 : ∀ j, j < k → ∃ z, w.cell? ⟨g, j, none⟩ = some (.int .u8 z) := fun j hj => by
      have := hown.cells (g := g) rfl j (.int .u8 (xs[j]?.getD 0)) (by simp [hx, hj])
      rw [Addr.add_lit] at this
      exact ⟨_, by simpa using this⟩
    have hf0 : ∀ j, w.frozen? ⟨g, j, none⟩ = false := fun j => by simp [World.frozen?, hg]
    clear hown hs ht hx hg
    go_enter Try.func15, Try.ntmps15
    go_wp2
    go_loopw [2] (fun i wr => ∃ j : Nat, j ≤ k ∧ i = .int .i64 j ∧ (∀ q, j ≤ q → q < k → ∃ z, wr.cell? ⟨g, q, none⟩ = some (.int .u8 z)) ∧ (∀ q, wr.frozen? ⟨g, q, none⟩ = false) ∧ Below base w wr ∧ w.heap.size = wr.heap.size ∧ ∀ q, q ≠ g → wr.heap[q]? = w.heap[q]?) (fun i _ => k - (intOf i).toNat)
    case atStart => exact ⟨0, Nat.zero_le _, rfl, fun q _ h => hc0 q h, hf0, Below.refl _ _, rfl, fun _ _ => rfl⟩
    case round =>
      obtain ⟨j, hj, rfl, hcq, hfq, hbw, hsz, hoth⟩ := hrel
      have HOT : Hid (∀ q, q ≠ g → wr.heap[q]? = w.heap[q]?) := hoth
      clear hoth
      by_cases hlt : j < k
      · obtain ⟨z, hz⟩ := hcq j (Nat.le_refl _) hlt
        have hf := hfq j
        have hcq' : ∀ v' q, j + 1 ≤ q → q < k → ∃ z, (wr.setCell ⟨g, j, none⟩ v').cell? ⟨g, q, none⟩ = some (.int .u8 z) := fun v' q h1 h2 => by
          obtain ⟨y, hy⟩ := hcq q (by omega) h2
          exact ⟨y, by rw [World.cell?_setCell_other _ _ _ _ (by intro e; cases e; omega)]; exact hy⟩
        have hfq' : ∀ v' q, (wr.setCell ⟨g, j, none⟩ v').frozen? ⟨g, q, none⟩ = false := fun v' q => by rw [World.frozen?_setCell]; exact hfq q
        clear hcq hfq hc0 hf0
        go_wp2
        exact ⟨⟨j + 1, by omega, by go_num, hcq' _, hfq' _, hbw.setCell (p := ⟨g, j, none⟩) hbs _, hsz.trans (by simp [World.setCell]), fun q hq => (Below.heap_setCell _ _ _ _ hq).trans (HOT.out q hq)⟩, by simp [intOf]; omega⟩
      · obtain rfl : j = k := by omega
        clear hcq hfq hc0 hf0
        go_wp2
        go_end0
        exact ⟨rfl, hbw, hsz, fun q hq => HOT.out q (fun e => hq (by rw [e]; rfl))⟩

/-- A row lies as it lay where its own block does. -/
theorem row_same {W W' : World} {base k : Nat} {e : TypeId} {v : Value} {xs : List Value} (h : W.ownsRow base e 1 v k xs) (hq : ∀ g, v.ownBlock = some g → W'.heap[g]? = W.heap[g]?) : W'.ownsRow base e 1 v k xs := by
  refine ⟨h.1, ?_⟩
  rcases h.2 with h | ⟨g, c, cur, rfl, hb, hg, rest⟩
  · exact .inl h
  · exact .inr ⟨g, c, cur, rfl, hb, (hq g rfl).trans hg, rest⟩

/-- A row of bytes of the call's own, and that nothing below has turned since a world: with .next, for walks that carry facts on. -/
def OwnB (W : World) (base : Nat) (v : Value) (k : Nat) (xs : List Int) : Prop := W.ownsRow base 5 1 v k (xs.map (Value.int .u8))
theorem OwnB.next {W W' : World} {base k : Nat} {v : Value} {xs : List Int} (h : OwnB W base v k xs) (hb : Below W.heap.size W W') : OwnB W' base v k xs := row_below h hb (Nat.le_refl _)
theorem OwnB.row {W : World} {base k : Nat} {v : Value} {xs : List Int} (h : OwnB W base v k xs) : W.ownsRow base 5 1 v k (xs.map (Value.int .u8)) := h
def Since (W W' : World) : Prop := Below W.heap.size W W'
theorem Since.next {W W' W'' : World} (h : Since W W') (hb : Below W'.heap.size W' W'') : Since W W'' := Below.trans h (hb.mono (Below.size h))
theorem Since.out {W W' : World} (h : Since W W') : Below W.heap.size W W' := h
theorem rowB_nil (W : World) (base : Nat) : W.ownsRow base 5 1 (.slice none 0 0) 0 (([] : List Int).map (Value.int .u8)) := ⟨rfl, .inl ⟨rfl, rfl⟩⟩

end Go.Proofs.Ytklmiapieaogdaa
