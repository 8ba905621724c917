/-
  A block's own symbols cost its own path nothing. No program is spoken of.
-/
import Derived.Test.YtddcloanbpkecaaDoorBeamPile
import Derived.Test.YtddcloanbpkecaaDoorHeardNums
import Derived.Test.YtddcloanbpkecaaDoorPileOfNums
namespace Go.Proofs.YtddcloanbpkecaaDoor

theorem fold_last (co : Nat → Int → Int) : ∀ (P : List Int) (n : Nd) (s : Nat), n.1 = (s : Int) → (P.foldl (kid stB co) n).1 = ((lastOf s P : Nat) : Int)
  | [], n, s, h => h
  | k :: P, n, s, h => by
    rw [List.foldl_cons]
    exact fold_last co P _ (stepN s k.toNat) (by show stB n.1 k = _; rw [h]; rfl)
theorem sta_last (co : Nat → Int → Int) (P : List Int) : sta stB co (beginN : Int) P = ((lastOf beginN P : Nat) : Int) := fold_last co P _ beginN rfl
theorem costN_zero {s : Nat} : ∀ {l : List (Int × Int)}, (∀ x ∈ l, oneCost s x = 0) → costN s l = 0
  | [], _ => rfl
  | x :: l, h => by
    rw [costN, h x (by simp), costN_zero fun y hy => h y (by simp [hy])]
theorem hvN_own (zs : List Int) (k : Nat) : hvN zs [] k = codeN zs k := by unfold hvN; simp
theorem own_zero (zs : List Int) (os : List Bool) (C j : Nat) : costN (stN zs j) (ofL (2 * zs.length) (heardL zs os [] C) j) = 0 := by
  refine costN_zero fun x hx => ?_
  obtain ⟨y, hy, h1, rfl⟩ := ofL_mem.1 hx
  obtain ⟨k, _, _, rfl⟩ := heardL_mem hy
  have h2 : segN (2 * zs.length) k = j := by simpa using h1
  unfold oneCost
  have e : symN (stN zs j) (k / (2 * zs.length)) = codeN zs k := by
    unfold codeN
    rw [h2]
  simp only [Int.toNat_natCast]
  rw [hvN_own, e, Nat.xor_self]
  rfl
/-- The block's own path costs nothing. -/
theorem own_met (zs : List Int) (os : List Bool) (C : Nat) : ∀ i, i ≤ 2 * zs.length → met stB (coB (2 * zs.length) (heardL zs os [] C)) (beginN : Int) ((nibs zs).take i) = 0
  | 0, _ => by rw [List.take_zero]; rfl
  | i + 1, hi => by
    have hil : i < (nibs zs).length := by rw [nibs_len]; omega
    obtain ⟨k, hk⟩ : ∃ k, (nibs zs)[i]? = some k := ⟨(nibs zs)[i], by simp⟩
    have e : (nibs zs).take (i + 1) = (nibs zs).take i ++ [k] := by rw [List.take_add_one, hk]; rfl
    have e2 : stB (sta stB (coB (2 * zs.length) (heardL zs os [] C)) (beginN : Int) ((nibs zs).take i)) k = ((stN zs i : Nat) : Int) := by
      rw [← sta_snoc stB (coB (2 * zs.length) (heardL zs os [] C)) (beginN : Int), ← e, sta_last]
      rfl
    rw [e, met_snoc, own_met zs os C i (by omega), e2, List.length_take, Nat.min_eq_left (by omega)]
    unfold coB
    rw [Int.toNat_natCast, own_zero]
    rfl
theorem nibs_nibs (zs : List Int) : Nibs (nibs zs) := fun k hk => by have := nibs_path zs k hk; omega
/-- Of a block's own symbols no other is told. -/
theorem told_own (zs : List Int) (os : List Bool) (C a b : Nat) (hb : 1 ≤ b) (h0 : 1 ≤ zs.length) {n : Nd} {t : List Nd} (hl : (walkTo stB (coB (2 * zs.length) (heardL zs os [] C)) (2 * zs.length) (beginN : Int) b a (2 * zs.length)).1 = n :: t) (ht : ∀ u, t.head? = some u → u.2.1 ≠ n.2.1)
    (hc : ¬ (0 ≤ (walkTo stB (coB (2 * zs.length) (heardL zs os [] C)) (2 * zs.length) (beginN : Int) b a (2 * zs.length)).2 ∧ (walkTo stB (coB (2 * zs.length) (heardL zs os [] C)) (2 * zs.length) (beginN : Int) b a (2 * zs.length)).2 ≤ n.2.1)) : pathOf n = nibs zs ∧ n.2.1 = 0 := by
  obtain ⟨h1, h2, h3, h4⟩ := told_least stB (coB (2 * zs.length) (heardL zs os [] C)) (2 * zs.length) (beginN : Int) (coB_pos _ _) a b hb (by omega) hl ht hc
  have hT := own_met zs os C (2 * zs.length) (Nat.le_refl _)
  rw [List.take_of_length_le (by rw [nibs_len]; exact Nat.le_refl _)] at hT
  have hpos := met_pos stB (coB (2 * zs.length) (heardL zs os [] C)) (beginN : Int) (coB_pos _ _) (pathOf n)
  have hm := h1.2.1
  have hp : nibs zs = pathOf n := by
    refine Classical.byContradiction fun hne => ?_
    have := h4 (nibs zs) (nibs_nibs zs) (nibs_len zs) hne
    omega
  refine ⟨hp.symm, ?_⟩
  rw [hm, ← hp]
  exact hT

end Go.Proofs.YtddcloanbpkecaaDoor
