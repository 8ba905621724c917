/-
  What a path costs: from nothing to eight for each symbol; no less than what it begins with; a Score no less than the Metric and no more than that of a path that goes on. No program is spoken of.
-/
import Derived.Test.YtdnhnnidlangiaaDoorBeamClaimNums
namespace Go.Proofs.YtdnhnnidlangiaaDoor

theorem ofL_cons_len (N : Nat) (x : Int × Int) (l : List (Int × Int)) (j : Nat) : (ofL N (x :: l) j).length = (ofL N l j).length + if segN N x.1.toNat = j then 1 else 0 := by
  unfold ofL
  rw [List.length_map, List.length_map, List.filter_cons]
  by_cases h : segN N x.1.toNat = j
  · rw [if_pos (by simp [h]), if_pos h, List.length_cons]
  · rw [if_neg (by simp [h]), if_neg h]; rfl
theorem segs_sum (N : Nat) : ∀ (l : List (Int × Int)) (n : Nat), sumTo (fun j => (ofL N l j).length) n ≤ l.length
  | [], n => by
    have h : sumTo (fun j => (ofL N [] j).length) n = sumTo (fun _ => 0) n := sumTo_same n (fun j _ => rfl)
    rw [h]
    have : ∀ n, sumTo (fun _ => 0) n = 0 := fun n => by
      induction n with
      | zero => rfl
      | succ n ih => rw [sumTo, ih]
    rw [this]
    exact Nat.zero_le _
  | x :: l, n => by
    have ih := segs_sum N l n
    by_cases h : segN N x.1.toNat < n
    · have := sumTo_one (f := fun j => (ofL N l j).length) (g := fun j => (ofL N (x :: l) j).length) (s := segN N x.1.toNat) (x := 1) n h (fun j hj => by
        show (ofL N (x :: l) j).length = _
        rw [ofL_cons_len, if_neg (fun e => hj e.symm)]; rfl) (by
        show (ofL N (x :: l) _).length = _
        rw [ofL_cons_len, if_pos rfl])
      rw [this, List.length_cons]
      omega
    · have := sumTo_same (f := fun j => (ofL N l j).length) (g := fun j => (ofL N (x :: l) j).length) n (fun j hj => by
        show (ofL N (x :: l) j).length = _
        rw [ofL_cons_len, if_neg (by omega)]; rfl)
      rw [this, List.length_cons]
      omega
theorem met_sum {N : Nat} {p : Int} {l : List (Int × Int)} (h : PileOk (N : Int) p l) : ∀ (n : Nat) (P : List Int), P.length = n → metB N l P ≤ ((8 * sumTo (fun j => (ofL N l j).length) n : Nat) : Int)
  | 0, P, e => by
    rw [List.length_eq_zero_iff.1 e]
    exact Int.le_refl _
  | n + 1, P, e => by
    obtain ⟨Q, k, rfl⟩ : ∃ Q k, P = Q ++ [k] := ⟨P.dropLast, P.getLast (fun h => by rw [h] at e; simp at e), (List.dropLast_concat_getLast _).symm⟩
    have hQ : Q.length = n := by simp at e; exact e
    have ih := met_sum h n Q hQ
    unfold metB at ih ⊢
    rw [met_snoc, hQ, sumTo]
    have hc : ∀ s, coB N l n s ≤ 8 * ((ofL N l n).length : Int) := fun s => by
      have := costN_le (s := s.toNat) (ofL_ok h n)
      unfold coB
      omega
    have := hc (stB (sta stB (coB N l) (beginN : Int) Q) k)
    omega
/-- Eight for each symbol at most. -/
theorem met_eight {N : Nat} {p : Int} {l : List (Int × Int)} (h : PileOk (N : Int) p l) (P : List Int) : metB N l P ≤ 8 * (l.length : Int) := by
  have h1 := met_sum h P.length P rfl
  have h2 := segs_sum N l P.length
  omega
theorem met_rise (N : Nat) (l : List (Int × Int)) (ps : List Int) {i j : Nat} (h : i ≤ j) : metB N l (ps.take i) ≤ metB N l (ps.take j) := by
  have e : ps.take j = ps.take i ++ (ps.take j).drop i := by
    have h1 : (ps.take j).take i = ps.take i := by rw [List.take_take, Nat.min_eq_left h]
    rw [← h1, List.take_append_drop]
  rw [e]
  exact met_mono stB (coB N l) (beginN : Int) (coB_pos N l) _ _
theorem sco_ge (N : Nat) (l : List (Int × Int)) (D : Nat) (P : List Int) (h : P.length ≤ N) : metB N l P ≤ scoB N l D P := scA_ge stB (coB N l) N (beginN : Int) (coB_pos N l) D P h
theorem sco_le (N : Nat) (l : List (Int × Int)) (D : Nat) (ps : List Int) (hps : Path ps) {i k : Nat} (hi : i ≤ ps.length) (hN : ps.length ≤ N) (hk : k = i + min D (N - i)) (hkl : k ≤ ps.length) : scoB N l D (ps.take i) ≤ metB N l (ps.take k) := by
  have hl : (ps.take i).length = i := by rw [List.length_take]; omega
  have h1 := (scA_bounds stB (coB N l) N (beginN : Int) (coB_pos N l) D (ps.take i) (by omega)).1 ((ps.take k).drop i) (fun z hz => by
    have := hps z (List.mem_of_mem_take (List.mem_of_mem_drop hz))
    omega) (by rw [List.length_drop, List.length_take, hl]; omega)
  have e : ps.take i ++ (ps.take k).drop i = ps.take k := by
    have h2 : (ps.take k).take i = ps.take i := by rw [List.take_take, Nat.min_eq_left (by omega)]
    rw [← h2, List.take_append_drop]
  rw [e] at h1
  exact h1
theorem sta_end (N : Nat) (l : List (Int × Int)) (ps : List Int) {k : Nat} (hk : ps.length = k + 1) : (statesOf beginN ps)[k]? = some (staB N l ps) := by
  obtain ⟨z, hz⟩ : ∃ z, ps[k]? = some z := ⟨ps[k]'(by omega), by simp⟩
  rw [statesOf_get hz, ← lastOf_take hz, List.take_of_length_le (by omega)]
  unfold staB
  rw [sta_last]

end Go.Proofs.YtdnhnnidlangiaaDoor
