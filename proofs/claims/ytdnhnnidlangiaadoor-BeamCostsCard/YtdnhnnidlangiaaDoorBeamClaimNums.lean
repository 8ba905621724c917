/-
  What a block's own path costs where some bits of its symbols were turned: as many as were turned; and so what is decoded costs no more. No program is spoken of.
-/
import Derived.Test.YtdnhnnidlangiaaDoorBeamWakes
namespace Go.Proofs.YtdnhnnidlangiaaDoor

def sumTo (f : Nat → Nat) : Nat → Nat
  | 0 => 0
  | i + 1 => sumTo f i + f i
theorem sumTo_same {f g : Nat → Nat} : ∀ n, (∀ j, j < n → g j = f j) → sumTo g n = sumTo f n
  | 0, _ => rfl
  | n + 1, h => by rw [sumTo, sumTo, sumTo_same n (fun j hj => h j (by omega)), h n (by omega)]
theorem sumTo_one {f g : Nat → Nat} {s x : Nat} : ∀ n, s < n → (∀ j, j ≠ s → g j = f j) → g s = f s + x → sumTo g n = sumTo f n + x
  | 0, h, _, _ => absurd h (Nat.not_lt_zero _)
  | n + 1, h, hj, hs => by
    rw [sumTo, sumTo]
    by_cases e : s = n
    · subst e
      rw [hs, sumTo_same s (fun j hj' => hj j (by omega))]
      omega
    · rw [sumTo_one n (by omega) hj hs, hj n (fun h => e h.symm)]
      omega
/-- What a block's own path costs, of whatever symbols. -/
theorem claim_met (zs : List Int) (l : List (Int × Int)) : ∀ i, i ≤ 2 * zs.length → met stB (coB (2 * zs.length) l) (beginN : Int) ((nibs zs).take i) = ((sumTo (fun j => costN (stN zs j) (ofL (2 * zs.length) l j)) i : Nat) : Int)
  | 0, _ => by rw [List.take_zero]; rfl
  | i + 1, hi => by
    have hil : i < (nibs zs).length := by rw [nibs_len]; omega
    obtain ⟨k, hk⟩ : ∃ k, (nibs zs)[i]? = some k := ⟨(nibs zs)[i], by simp⟩
    have e : (nibs zs).take (i + 1) = (nibs zs).take i ++ [k] := by rw [List.take_add_one, hk]; rfl
    have e2 : stB (sta stB (coB (2 * zs.length) l) (beginN : Int) ((nibs zs).take i)) k = ((stN zs i : Nat) : Int) := by
      rw [← sta_snoc stB (coB (2 * zs.length) l) (beginN : Int), ← e, sta_last]
      rfl
    rw [e, met_snoc, claim_met zs l i (by omega), e2, List.length_take, Nat.min_eq_left (by omega)]
    unfold coB
    rw [Int.toNat_natCast, sumTo]
    simp
/-- How many bits of the first symbols were turned. -/
def turnTo (ts : List Nat) : Nat → Nat
  | 0 => 0
  | k + 1 => turnTo ts k + pcTo 8 (ts[k]?.getD 0)
theorem turnTo_le (ts : List Nat) : ∀ k, turnTo ts k ≤ 8 * k
  | 0 => by rw [turnTo]; omega
  | k + 1 => by
    have := turnTo_le ts k
    have := pcTo_le 8 (ts[k]?.getD 0)
    rw [turnTo]
    omega
theorem turnTo_stop {ts : List Nat} : ∀ {k : Nat}, ts.length ≤ k → turnTo ts k = turnTo ts ts.length
  | 0, h => by rw [show ts.length = 0 by omega]
  | k + 1, h => by
    by_cases e : ts.length = k + 1
    · rw [e]
    · rw [turnTo, turnTo_stop (k := k) (by omega), List.getElem?_eq_none (by omega)]
      rfl
theorem heard_sum {zs : List Int} {ts : List Nat} (h0 : 1 ≤ zs.length) (hn : 2 * zs.length < 65) (bt : ∀ t ∈ ts, t < 256) : ∀ C, sumTo (fun j => costN (stN zs j) (ofL (2 * zs.length) (heardL zs [] ts C) j)) (2 * zs.length) = turnTo ts C
  | 0 => by
    rw [turnTo]
    refine (sumTo_same (f := fun _ => 0) (g := fun j => costN (stN zs j) (ofL (2 * zs.length) (heardL zs [] ts 0) j)) _ (fun j _ => rfl)).trans ?_
    generalize 2 * zs.length = n
    induction n with
    | zero => rfl
    | succ n ih => rw [sumTo, ih]
  | C + 1 => by
    rw [turnTo, ← heard_sum h0 hn bt C]
    have hs := (segN_get (n := 2 * zs.length) (by omega) hn C).2
    refine sumTo_one (s := segN (2 * zs.length) C) _ hs (fun j hj => ?_) ?_
    · show costN _ _ = costN _ _
      rw [heardL_in (hOut_nil C), ofL_snoc, if_neg (by simpa using fun e => hj e.symm), List.append_nil]
    · show costN _ _ = costN _ _ + _
      rw [heardL_in (hOut_nil C), ofL_snoc, if_pos (by simp), costN_snoc]
      congr 1
      unfold oneCost
      simp only [Int.toNat_natCast]
      have e : symN (stN zs (segN (2 * zs.length) C)) (C / (2 * zs.length)) = codeN zs C := rfl
      have ht : ts[C]?.getD 0 < 256 := by
        cases hc : ts[C]? with
        | none => simp
        | some t => exact bt t (List.mem_of_getElem? hc)
      rw [e]
      unfold hvN
      rw [← Nat.xor_assoc, Nat.xor_self, Nat.zero_xor, pc_byte ht]
/-- What is told costs no more than was turned. -/
theorem claim_told {zs : List Int} {ts : List Nat} (h0 : 1 ≤ zs.length) (hn : 2 * zs.length < 65) (bt : ∀ t ∈ ts, t < 256) {C b D : Nat} (hb : 1 ≤ b) {ps : List Int} {M : Int} (h : decB (walkB (2 * zs.length) (heardL zs [] ts C) b D (2 * zs.length)).1 (walkB (2 * zs.length) (heardL zs [] ts C) b D (2 * zs.length)).2 = some (ps, M)) :
    Path ps ∧ ps.length = 2 * zs.length ∧ metB (2 * zs.length) (heardL zs [] ts C) ps = M ∧ M ≤ (turnTo ts C : Int) := by
  obtain ⟨n, t, e1, e2, e3, e4, e5⟩ := decB_inv h
  obtain ⟨h1, h2, h3, h4⟩ := told_least stB (coB (2 * zs.length) (heardL zs [] ts C)) (2 * zs.length) (beginN : Int) (coB_pos _ _) D b hb (by omega) e1 e4 e5
  have hT := claim_met zs (heardL zs [] ts C) (2 * zs.length) (Nat.le_refl _)
  rw [List.take_of_length_le (by rw [nibs_len]; exact Nat.le_refl _), heard_sum h0 hn bt C] at hT
  have hm := h1.2.1
  rw [e3] at hm h4
  rw [e2] at h2 h3 hm h4
  refine ⟨fun z hz => by have := h3 z hz; omega, h2, hm.symm, ?_⟩
  by_cases hp : nibs zs = ps
  · rw [← hT, hm, ← hp]
    exact Int.le_refl _
  · have := h4 (nibs zs) (nibs_nibs zs) (nibs_len zs) hp
    omega

end Go.Proofs.YtdnhnnidlangiaaDoor
