/-
  Piles that are filled place by place. No program is spoken of.
-/
import Derived.Test.YtddcloanbpkecaaDoorPileNums
namespace Go.Proofs.YtddcloanbpkecaaDoor

theorem aheadOf_end : ∀ {l : List (Int × Int)} {k : Int}, (∀ x ∈ l, x.1 < k) → aheadOf l k = l.length
  | [], _, _ => rfl
  | x :: l, k, h => by
    rw [aheadOf, if_pos (h x List.mem_cons_self), aheadOf_end fun y hy => h y (List.mem_cons_of_mem _ hy), List.length_cons]

/-- The value at a place. -/
def valN (v : Int) (k : Nat) : Int := ((v + k) % 18446744073709551616) % 256
theorem valN_bd (v : Int) (k : Nat) : 0 ≤ valN v k ∧ valN v k ≤ 255 := by unfold valN; omega
/-- The first places, filled. -/
def fullL (v : Int) (j : Nat) : List (Int × Int) := (List.range j).map fun i : Nat => ((i : Int), valN v i)
theorem fullL_len (v : Int) (j : Nat) : (fullL v j).length = j := by simp [fullL]
theorem fullL_next (v : Int) (j : Nat) : fullL v (j + 1) = fullL v j ++ [((j : Int), valN v j)] := by simp [fullL, List.range_succ]
theorem fullL_mem {v : Int} {j : Nat} {x : Int × Int} (h : x ∈ fullL v j) : 0 ≤ x.1 ∧ x.1 < j := by
  obtain ⟨i, hi, rfl⟩ := List.mem_map.1 h
  have : i < j := by simpa using hi
  simp
  omega
theorem fullL_ahead (v : Int) (j : Nat) : aheadOf (fullL v j) j = j := by
  rw [aheadOf_end (fun x hx => (fullL_mem hx).2), fullL_len]
theorem fullL_not (v : Int) (j : Nat) : hasAt (fullL v j) j = false := by
  unfold hasAt
  rw [fullL_ahead, List.getElem?_eq_none (by rw [fullL_len]; exact Nat.le_refl _)]
theorem fullL_put {n p v : Int} {j : Nat} (h : (j : Int) < n * p) : putN n p (fullL v j) j (valN v j) = fullL v (j + 1) := by
  unfold putN
  rw [if_neg (by rw [fullL_not]; simp; omega)]
  unfold putL
  rw [fullL_ahead, fullL_next, List.take_of_length_le (by rw [fullL_len]; exact Nat.le_refl _), List.drop_of_length_le (by rw [fullL_len]; exact Nat.le_refl _)]
theorem fullL_fresh {n p v : Int} {j : Nat} (h : (j : Int) < n * p) : freshN n p (fullL v j) j = true := by
  unfold freshN
  exact decide_eq_true (by rw [fullL_not]; simp; omega)
theorem fullL_rises (v : Int) : ∀ j, Rises (fullL v j)
  | 0 => List.Pairwise.nil
  | j + 1 => by
    rw [fullL_next]
    unfold Rises
    rw [List.pairwise_append]
    refine ⟨fullL_rises v j, List.pairwise_singleton _ _, fun x hx y hy => ?_⟩
    simp at hy; subst hy
    exact (fullL_mem hx).2
theorem fullL_ok {n p v : Int} {j : Nat} (hh : HeadOk n p) (h : (j : Int) ≤ n * p) : PileOk n p (fullL v j) := by
  refine ⟨hh, fun x hx => ?_, fullL_rises v j⟩
  have h1 := fullL_mem hx
  obtain ⟨i, _, rfl⟩ := List.mem_map.1 hx
  have h2 := valN_bd v i
  simp at h1
  exact ⟨by simp, by simp; omega, h2.1, h2.2⟩
/-- A full pile takes nothing more. -/
theorem fullL_full {n p v : Int} {M : Nat} (hM : n * p = (M : Int)) {k : Int} (hk : 0 ≤ k) (u : Int) : putN n p (fullL v M) k u = fullL v M ∧ freshN n p (fullL v M) k = false := by
  have hc : n * p ≤ k ∨ hasAt (fullL v M) k = true := by
    by_cases h : n * p ≤ k
    · exact .inl h
    · right
      rw [hasAt_iff (fullL_rises v M)]
      refine ⟨valN v k.toNat, List.mem_map.2 ⟨k.toNat, ?_, ?_⟩⟩
      · simp; omega
      · simp; omega
  unfold putN freshN
  exact ⟨if_pos hc, decide_eq_false (fun h => h hc)⟩

end Go.Proofs.YtddcloanbpkecaaDoor
