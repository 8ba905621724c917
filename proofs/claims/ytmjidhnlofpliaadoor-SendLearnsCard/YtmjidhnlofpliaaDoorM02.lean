/-
  Rows of numbers that an answer holds, with room. No function of the program is spoken of.
-/
import Derived.Test.YtmjidhnlofpliaaDoorM01
import Derived.Deep.AppendLies
namespace Go.Proofs.YtmjidhnlofpliaaDoor
open Go.RowKit

/-- The value v is a row of the numbers xs, with as much room at least. -/
def Kept (kd : IntKind) (W : World) (v : Value) (xs : List Int) : Prop := Holds kd W.heap.size W v xs ∧ ∃ a c, v = .slice a xs.length c ∧ xs.length ≤ c

theorem kept_of_row {kd : IntKind} {W : World} {base k : Nat} {e : TypeId} {v : Value} {zs : List Int} (h : W.ownsRow base e 1 v k (zs.map (Value.int kd))) : Kept kd W v zs := by
  have hl : zs.length = k := by have := h.1; simpa using this
  refine ⟨holds_of_row h, ?_⟩
  rcases h.2 with ⟨rfl, rfl⟩ | ⟨g, cap, cur, rfl, _, _, hk, _⟩
  · exact ⟨none, 0, by rw [hl], by omega⟩
  · exact ⟨_, cap, by rw [hl], by omega⟩
theorem Kept.next {kd : IntKind} {W W' : World} {v : Value} {xs : List Int} (h : Kept kd W v xs) (hb : Below W.heap.size W W') : Kept kd W' v xs := ⟨h.1.next hb, h.2⟩
theorem Kept.drewN {kd : IntKind} {W : World} {v : Value} {xs : List Int} (h : Kept kd W v xs) (n : Nat) : Kept kd (W.drewN n) v xs := h

/-- A new block of numbers is held. -/
theorem held_new (kd : IntKind) (w : World) (zs : List Int) (cap : Nat) (t : TypeId) (fr : Nat × Nat) : Holds kd (w.alloc (.cells (zs.map (Value.int kd)).toArray t fr)).heap.size (w.alloc (.cells (zs.map (Value.int kd)).toArray t fr)) (.slice (some ⟨w.heap.size, 0, none⟩) zs.length cap) zs := by
  refine .inr ⟨w.heap.size, 0, cap, rfl, by simp, fun j hj => ?_⟩
  have := World.news_of_block (World.alloc_heap_new w (.cells (zs.map (Value.int kd)).toArray t fr)) j (.int kd (zs[j]?.getD 0)) (by simp [hj])
  rwa [Addr.add_lit] at this

end Go.Proofs.YtmjidhnlofpliaaDoor

/-
  The order of a pass as numbers. No program is spoken of.
-/
namespace Go.Proofs.YtmjidhnlofpliaaDoor
open Go.RowKit

/-- Which eighths, in order; one eighth; a pass. -/
def firsts : List Nat := [0, 4, 2, 6, 1, 5, 3, 7]
def eighth (n f : Nat) : List Nat := (List.range ((n + 7 - f) / 8)).map fun j => f + 8 * j
def orderN (n : Nat) : List Nat := firsts.flatMap (eighth n)
theorem orderN_len : ∀ n, n < 65 → (orderN n).length = n := by decide +kernel
theorem orderN_lt : ∀ n, n < 65 → ∀ x ∈ orderN n, x < n := by decide +kernel
theorem orderN_get {n k : Nat} (hn : n < 65) (hk : k < n) : ∃ x, (orderN n)[k]? = some x ∧ x < n := by
  have hl := orderN_len n hn
  have hk' : k < (orderN n).length := by omega
  exact ⟨(orderN n)[k], by simp, orderN_lt n hn _ (List.getElem_mem hk')⟩
/-- One eighth behind the other. -/
theorem eighth_get {n f j : Nat} (h : f + 8 * j < n) : (eighth n f)[j]? = some (f + 8 * j) := by
  unfold eighth
  rw [List.getElem?_map, List.getElem?_range (by omega)]
  rfl
theorem eighth_len (n f : Nat) : (eighth n f).length = (n + 7 - f) / 8 := by simp [eighth]
def aheadN (n c : Nat) : List Nat := (firsts.take c).flatMap (eighth n)
theorem aheadN_next {n c f : Nat} (h : firsts[c]? = some f) : aheadN n (c + 1) = aheadN n c ++ eighth n f := by
  unfold aheadN
  rw [List.take_add_one, h]
  simp
theorem aheadN_all (n : Nat) : aheadN n 8 = orderN n := rfl
theorem aheadN_few : ∀ n, n < 65 → ∀ c, c < 9 → (aheadN n c).length ≤ 64 := by decide +kernel
theorem eighth_few {n f : Nat} (hn : n < 65) : (eighth n f).length ≤ 8 := by rw [eighth_len]; omega
/-- A row of natural numbers as numbers of the program. -/
def ints (l : List Nat) : List Int := l.map fun x : Nat => (x : Int)
theorem firsts_get : ∀ c, c < 8 → ∃ f, firsts[c]? = some f ∧ f < 8 := by
  intro c hc
  match c, hc with
  | 0, _ => exact ⟨0, rfl, by decide⟩
  | 1, _ => exact ⟨4, rfl, by decide⟩
  | 2, _ => exact ⟨2, rfl, by decide⟩
  | 3, _ => exact ⟨6, rfl, by decide⟩
  | 4, _ => exact ⟨1, rfl, by decide⟩
  | 5, _ => exact ⟨5, rfl, by decide⟩
  | 6, _ => exact ⟨3, rfl, by decide⟩
  | 7, _ => exact ⟨7, rfl, by decide⟩

theorem eighth_next {n f j : Nat} (h : f + 8 * j < n) : (eighth n f).take (j + 1) = (eighth n f).take j ++ [f + 8 * j] := by
  rw [List.take_add_one, eighth_get h]; rfl

end Go.Proofs.YtmjidhnlofpliaaDoor
