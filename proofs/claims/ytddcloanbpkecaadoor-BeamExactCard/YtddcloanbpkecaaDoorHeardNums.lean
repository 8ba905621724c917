/-
  The pile that is heard of a block's first symbols, some left out, some turned about. No program is spoken of.
-/
import Derived.Test.YtddcloanbpkecaaDoorPileFullNums
import Derived.Test.YtddcloanbpkecaaDoorCodeNums
import Derived.Test.YtddcloanbpkecaaDoorCostNums
namespace Go.Proofs.YtddcloanbpkecaaDoor

/-- What is put at a place: the symbol, turned about where it is. -/
def hvN (zs : List Int) (ts : List Nat) (k : Nat) : Nat := codeN zs k ^^^ (ts[k]?.getD 0)
def hOut (os : List Bool) (k : Nat) : Bool := os[k]?.getD false
def heardL (zs : List Int) (os : List Bool) (ts : List Nat) : Nat → List (Int × Int)
  | 0 => []
  | k + 1 => if hOut os k = true then heardL zs os ts k else heardL zs os ts k ++ [((k : Int), ((hvN zs ts k : Nat) : Int))]
theorem heardL_out {zs : List Int} {os : List Bool} {ts : List Nat} {k : Nat} (h : hOut os k = true) : heardL zs os ts (k + 1) = heardL zs os ts k := by simp only [heardL]; rw [if_pos h]
theorem heardL_in {zs : List Int} {os : List Bool} {ts : List Nat} {k : Nat} (h : hOut os k = false) : heardL zs os ts (k + 1) = heardL zs os ts k ++ [((k : Int), ((hvN zs ts k : Nat) : Int))] := by simp only [heardL]; rw [if_neg (by simp [h])]
theorem heardL_mem {zs : List Int} {os : List Bool} {ts : List Nat} : ∀ {k : Nat} {x : Int × Int}, x ∈ heardL zs os ts k → ∃ j, j < k ∧ hOut os j = false ∧ x = ((j : Int), ((hvN zs ts j : Nat) : Int))
  | 0, x, h => by simp [heardL] at h
  | k + 1, x, h => by
    cases ho : hOut os k with
    | true =>
      rw [heardL_out ho] at h
      obtain ⟨j, hj, h2, h3⟩ := heardL_mem h
      exact ⟨j, by omega, h2, h3⟩
    | false =>
      rw [heardL_in ho] at h
      rcases List.mem_append.1 h with h | h
      · obtain ⟨j, hj, h2, h3⟩ := heardL_mem h
        exact ⟨j, by omega, h2, h3⟩
      · simp at h
        exact ⟨k, by omega, ho, h⟩
theorem mem_heardL {zs : List Int} {os : List Bool} {ts : List Nat} {j : Nat} (ho : hOut os j = false) : ∀ {k : Nat}, j < k → ((j : Int), ((hvN zs ts j : Nat) : Int)) ∈ heardL zs os ts k
  | 0, h => by omega
  | k + 1, h => by
    by_cases e : j = k
    · subst e
      rw [heardL_in ho]
      simp
    · have ih := mem_heardL ho (k := k) (zs := zs) (ts := ts) (by omega)
      cases ho' : hOut os k with
      | true => rw [heardL_out ho']; exact ih
      | false => rw [heardL_in ho']; exact List.mem_append.2 (.inl ih)
theorem heardL_lt {zs : List Int} {os : List Bool} {ts : List Nat} {k : Nat} : ∀ x ∈ heardL zs os ts k, x.1 < (k : Int) := by
  intro x hx
  obtain ⟨j, hj, _, rfl⟩ := heardL_mem hx
  show (j : Int) < k
  omega
theorem heardL_len (zs : List Int) (os : List Bool) (ts : List Nat) : ∀ k, (heardL zs os ts k).length ≤ k
  | 0 => Nat.le_refl _
  | k + 1 => by
    have := heardL_len zs os ts k
    cases ho : hOut os k with
    | true => rw [heardL_out ho]; omega
    | false => rw [heardL_in ho, List.length_append]; simp; omega
theorem heardL_rises (zs : List Int) (os : List Bool) (ts : List Nat) : ∀ k, Rises (heardL zs os ts k)
  | 0 => List.Pairwise.nil
  | k + 1 => by
    cases ho : hOut os k with
    | true => rw [heardL_out ho]; exact heardL_rises zs os ts k
    | false =>
      rw [heardL_in ho]
      unfold Rises
      rw [List.pairwise_append]
      refine ⟨heardL_rises zs os ts k, List.pairwise_singleton _ _, fun x hx y hy => ?_⟩
      simp at hy; subst hy
      exact heardL_lt x hx
theorem putN_end {n p : Int} {L : List (Int × Int)} {k v : Int} (hL : ∀ x ∈ L, x.1 < k) (h : k < n * p) : putN n p L k v = L ++ [(k, v)] := by
  have h1 := aheadOf_end hL
  have h2 : hasAt L k = false := by
    unfold hasAt
    rw [h1, List.getElem?_eq_none (Nat.le_refl _)]
  unfold putN
  rw [if_neg (by rw [h2]; simp; omega)]
  unfold putL
  rw [h1, List.take_of_length_le (Nat.le_refl _), List.drop_of_length_le (Nat.le_refl _)]
theorem hvN_lt {zs : List Int} {ts : List Nat} (ht : ∀ t ∈ ts, t < 256) (hc : ∀ k, codeN zs k < 256) (k : Nat) : hvN zs ts k < 256 := by
  unfold hvN
  refine xor_byte (hc k) ?_
  cases h : ts[k]? with
  | none => simp
  | some t => simp; exact ht t (List.mem_of_getElem? h)
theorem heardL_put {n p : Int} {zs : List Int} {os : List Bool} {ts : List Nat} {k : Nat} (ho : hOut os k = false) (h : (k : Int) < n * p) : putN n p (heardL zs os ts k) (k : Int) ((hvN zs ts k : Nat) : Int) = heardL zs os ts (k + 1) := by
  rw [heardL_in ho]
  exact putN_end heardL_lt h
theorem heardL_ok {n p : Int} {zs : List Int} {os : List Bool} {ts : List Nat} (hh : HeadOk n p) (ht : ∀ t ∈ ts, t < 256) (hc : ∀ k, codeN zs k < 256) {k : Nat} (h : (k : Int) ≤ n * p) : PileOk n p (heardL zs os ts k) := by
  refine ⟨hh, fun x hx => ?_, heardL_rises zs os ts k⟩
  obtain ⟨j, hj, _, rfl⟩ := heardL_mem hx
  have := hvN_lt ht hc j
  exact ⟨Int.natCast_nonneg _, by show (j : Int) < n * p; omega, Int.natCast_nonneg _, by show ((hvN zs ts j : Nat) : Int) ≤ 255; omega⟩

end Go.Proofs.YtddcloanbpkecaaDoor
