/-
  Piles made of numbered symbols, in whatever order. No program is spoken of.
-/
import Derived.Test.YtifkjglhdppocaaDoorPileNums
namespace Go.Proofs.YtifkjglhdppocaaDoor

/-- The value that the law makes of a number; the symbol with the number i. -/
def vz (z : Int) : Int := (IntKind.u64.wrap z).tmod 256
theorem vz_bd (z : Int) : 0 ≤ vz z ∧ vz z ≤ 255 := by
  unfold vz
  have h0 : 0 ≤ IntKind.u64.wrap z := by rw [IntKind.wrap_u64]; omega
  rw [Int.tmod_eq_emod_of_nonneg h0]
  omega
def fO (zs : List Int) (M : Nat) (i : Nat) : Int × Int := (((i * 7 % M : Nat) : Int), vz (zs[i]?.getD 0))

/-- The pile l is made of the symbols with the numbers K. -/
def Made (n p : Int) (zs : List Int) (M : Nat) (K : List Nat) (l : List (Int × Int)) : Prop := PileOk n p l ∧ (∀ x, x ∈ l ↔ ∃ i ∈ K, fO zs M i = x) ∧ l.length = K.length
/-- Unlike places. -/
def Unlike (M : Nat) (K : List Nat) : Prop := K.Pairwise fun i j => i * 7 % M ≠ j * 7 % M

theorem made_nil {n p : Int} (zs : List Int) (M : Nat) (h : HeadOk n p) : Made n p zs M [] [] := ⟨pileOk_nil h, fun x => by simp, rfl⟩
theorem made_has {n p : Int} {zs : List Int} {M : Nat} {K : List Nat} {l : List (Int × Int)} (h : Made n p zs M K l) {i : Nat} (hh : hasAt l ((i * 7 % M : Nat) : Int) = true) : ∃ j ∈ K, j * 7 % M = i * 7 % M := by
  obtain ⟨v, hv⟩ := (hasAt_iff h.1.2.2).1 hh
  obtain ⟨j, hj, e⟩ := (h.2.1 _).1 hv
  refine ⟨j, hj, ?_⟩
  have := congrArg Prod.fst e
  simp only [fO] at this
  omega
theorem made_new {n p : Int} {zs : List Int} {M : Nat} {K : List Nat} {l : List (Int × Int)} (h : Made n p zs M K l) {i : Nat} (hn : ∀ j ∈ K, j * 7 % M ≠ i * 7 % M) : hasAt l ((i * 7 % M : Nat) : Int) = false := by
  cases hh : hasAt l ((i * 7 % M : Nat) : Int) with
  | false => rfl
  | true =>
    obtain ⟨j, hj, e⟩ := made_has h hh
    exact absurd e (hn j hj)
theorem made_step {n p : Int} {zs : List Int} {M : Nat} {K : List Nat} {l : List (Int × Int)} (hM : n * p = (M : Int)) (h1 : 1 ≤ M) (h : Made n p zs M K l) {i : Nat} (hh : hasAt l ((i * 7 % M : Nat) : Int) = false) :
    Made n p zs M (K ++ [i]) (putL l ((i * 7 % M : Nat) : Int) (vz (zs[i]?.getD 0))) := by
  have hlt := Nat.mod_lt (i * 7) (show M > 0 by omega)
  refine ⟨?_, fun x => ?_, ?_⟩
  · have := putN_ok (n := n) (p := p) (k := ((i * 7 % M : Nat) : Int)) (v := vz (zs[i]?.getD 0)) h.1 (by omega) (vz_bd _).1 (vz_bd _).2
    unfold putN at this
    rwa [if_neg (fun hc => by rcases hc with hc | hc; (rw [hM] at hc; omega); (rw [hh] at hc; cases hc))] at this
  · rw [putL_mem, h.2.1]
    constructor
    · rintro (rfl | ⟨j, hj, e⟩)
      · exact ⟨i, by simp, rfl⟩
      · exact ⟨j, by simp [hj], e⟩
    · rintro ⟨j, hj, e⟩
      rcases List.mem_append.1 hj with hj | hj
      · exact .inr ⟨j, hj, e⟩
      · simp at hj; subst hj; exact .inl e.symm
  · rw [putL_len, h.2.2]; simp
theorem unlike_step {n p : Int} {zs : List Int} {M : Nat} {K : List Nat} {l : List (Int × Int)} (h : Made n p zs M K l) (hu : Unlike M K) {i : Nat} (hh : hasAt l ((i * 7 % M : Nat) : Int) = false) : Unlike M (K ++ [i]) := by
  unfold Unlike
  rw [List.pairwise_append]
  refine ⟨hu, List.pairwise_singleton _ _, fun j hj k hk => ?_⟩
  simp at hk; subst hk
  intro e
  have : hasAt l ((k * 7 % M : Nat) : Int) = true := by
    refine (hasAt_iff h.1.2.2).2 ⟨vz (zs[j]?.getD 0), (h.2.1 _).2 ⟨j, hj, ?_⟩⟩
    simp only [fO, e]
  rw [hh] at this
  cases this
/-- What Put answers of it. -/
theorem made_fresh {n p : Int} {M : Nat} {l : List (Int × Int)} (hM : n * p = (M : Int)) (h1 : 1 ≤ M) {i : Nat} (v : Int) (hh : hasAt l ((i * 7 % M : Nat) : Int) = false) : freshN n p l ((i * 7 % M : Nat) : Int) = true ∧ putN n p l ((i * 7 % M : Nat) : Int) v = putL l ((i * 7 % M : Nat) : Int) v := by
  have hlt := Nat.mod_lt (i * 7) (show M > 0 by omega)
  have hc : ¬ (n * p ≤ ((i * 7 % M : Nat) : Int) ∨ hasAt l ((i * 7 % M : Nat) : Int) = true) := fun hc => by
    rcases hc with hc | hc
    · rw [hM] at hc; omega
    · rw [hh] at hc; cases hc
  unfold freshN putN
  exact ⟨decide_eq_true hc, if_neg hc⟩
theorem made_stale {n p : Int} {l : List (Int × Int)} {k : Int} (v : Int) (hh : hasAt l k = true) : freshN n p l k = false ∧ putN n p l k v = l := by
  unfold freshN putN
  rw [hh]
  exact ⟨decide_eq_false (by simp), if_pos (.inr rfl)⟩
/-- Changed about. -/
theorem unlike_perm {M : Nat} {K K' : List Nat} (hp : K'.Perm K) (h : Unlike M K) : Unlike M K' := (hp.pairwise_iff (fun h e => h e.symm)).2 h
theorem unlike_next {M : Nat} {K : List Nat} (h : Unlike M K) {j x : Nat} (hx : K[j]? = some x) : ∀ i ∈ K.take j, i * 7 % M ≠ x * 7 % M := by
  intro i hi
  have e : K = K.take j ++ x :: K.drop (j + 1) := by
    have h1 := (List.take_append_drop j K).symm
    rwa [List.drop_eq_getElem?_toList_append, hx] at h1
  unfold Unlike at h
  rw [e, List.pairwise_append] at h
  exact h.2.2 i hi x (by simp)
theorem made_same {n p : Int} {zs : List Int} {M : Nat} {K K' : List Nat} {l l' : List (Int × Int)} (h : Made n p zs M K l) (h' : Made n p zs M K' l') (hp : K'.Perm K) : l = l' := by
  refine rises_ext h.1.2.2 h'.1.2.2 fun x => ?_
  rw [h.2.1, h'.2.1]
  constructor
  · rintro ⟨i, hi, e⟩; exact ⟨i, hp.mem_iff.2 hi, e⟩
  · rintro ⟨i, hi, e⟩; exact ⟨i, hp.mem_iff.1 hi, e⟩

/-- Two that change places. -/
theorem swap_perm {K : List Nat} {k j x y : Nat} (hk : K[k]? = some x) (hj : K[j]? = some y) : ((K.set k y).set j x).Perm K := by
  obtain ⟨hkl, ek⟩ := List.getElem?_eq_some_iff.1 hk
  obtain ⟨hjl, ej⟩ := List.getElem?_eq_some_iff.1 hj
  subst ek ej
  exact List.set_set_perm hkl hjl
end Go.Proofs.YtifkjglhdppocaaDoor
