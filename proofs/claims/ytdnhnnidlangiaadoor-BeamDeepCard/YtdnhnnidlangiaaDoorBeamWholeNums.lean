/-
  All paths of two nibbles, one by one; with a beam that leaves nothing out, or a depth that reaches to the end, the least of them is told. No program is spoken of.
-/
import Derived.Test.YtdnhnnidlangiaaDoorBeamWakes
namespace Go.Proofs.YtdnhnnidlangiaaDoor

/-- What a loop has found of the first so many: the least, how many are so, the first of them. -/
def scanN (f : Nat → Int) : Nat → Int × Nat × Nat
  | 0 => (-1, 0, 0)
  | k + 1 => if (scanN f k).1 < 0 ∨ f k < (scanN f k).1 then (f k, 1, k) else if f k = (scanN f k).1 then ((scanN f k).1, (scanN f k).2.1 + 1, (scanN f k).2.2) else scanN f k
theorem scanN_less {f : Nat → Int} {k : Nat} (h : (scanN f k).1 < 0 ∨ f k < (scanN f k).1) : scanN f (k + 1) = (f k, 1, k) := by simp only [scanN]; rw [if_pos h]
theorem scanN_same {f : Nat → Int} {k : Nat} (h : ¬ ((scanN f k).1 < 0 ∨ f k < (scanN f k).1)) (e : f k = (scanN f k).1) : scanN f (k + 1) = ((scanN f k).1, (scanN f k).2.1 + 1, (scanN f k).2.2) := by simp only [scanN]; rw [if_neg h, if_pos e]
theorem scanN_more {f : Nat → Int} {k : Nat} (h : ¬ ((scanN f k).1 < 0 ∨ f k < (scanN f k).1)) (e : ¬ f k = (scanN f k).1) : scanN f (k + 1) = scanN f k := by
  conv => lhs; simp only [scanN]
  rw [if_neg h, if_neg e]
theorem scanN_spec {f : Nat → Int} (hf : ∀ k, 0 ≤ f k) : ∀ k, 1 ≤ k → (∀ j, j < k → (scanN f k).1 ≤ f j) ∧ (scanN f k).2.2 < k ∧ f (scanN f k).2.2 = (scanN f k).1 ∧ 1 ≤ (scanN f k).2.1 ∧ ((scanN f k).2.1 = 1 → ∀ j, j < k → f j = (scanN f k).1 → j = (scanN f k).2.2) ∧ (1 < (scanN f k).2.1 → ∃ j, j < k ∧ j ≠ (scanN f k).2.2 ∧ f j = (scanN f k).1) ∧ (scanN f k).2.1 ≤ k
  | 0, h => by omega
  | k + 1, _ => by
    by_cases h0 : k = 0
    · subst h0
      rw [scanN_less (.inl (by show (-1 : Int) < 0; decide))]
      refine ⟨fun j hj => ?_, by simp, rfl, Nat.le_refl _, fun _ j hj _ => ?_, fun h => absurd h (by simp), Nat.le_refl _⟩
      · obtain rfl : j = 0 := by omega
        exact Int.le_refl _
      · show j = 0
        omega
    · obtain ⟨i1, i2, i3, i4, i5, i6, i7⟩ := scanN_spec hf k (by omega)
      have hpos : 0 ≤ (scanN f k).1 := by rw [← i3]; exact hf _
      by_cases hl : (scanN f k).1 < 0 ∨ f k < (scanN f k).1
      · have hlt : f k < (scanN f k).1 := hl.resolve_left (by omega)
        rw [scanN_less hl]
        refine ⟨fun j hj => ?_, Nat.lt_succ_self k, rfl, Nat.le_refl _, fun _ j hj e => ?_, fun h => absurd h (by simp), by show 1 ≤ k + 1; omega⟩
        · show f k ≤ f j
          by_cases e : j = k
          · rw [e]; exact Int.le_refl _
          · have := i1 j (by omega)
            omega
        · show j = k
          have e' : f j = f k := e
          by_cases h9 : j = k
          · exact h9
          · have := i1 j (by omega)
            omega
      · by_cases he : f k = (scanN f k).1
        · rw [scanN_same hl he]
          refine ⟨fun j hj => ?_, by show (scanN f k).2.2 < k + 1; omega, i3, by show 1 ≤ (scanN f k).2.1 + 1; omega, fun h => ?_, fun _ => ⟨k, Nat.lt_succ_self k, ?_, he⟩, by show (scanN f k).2.1 + 1 ≤ k + 1; omega⟩
          · show (scanN f k).1 ≤ f j
            by_cases e : j = k
            · rw [e, he]; exact Int.le_refl _
            · exact i1 j (by omega)
          · have h' : (scanN f k).2.1 + 1 = 1 := h
            omega
          · show k ≠ (scanN f k).2.2
            omega
        · rw [scanN_more hl he]
          refine ⟨fun j hj => ?_, by omega, i3, i4, fun h j hj e => ?_, fun h => ?_, by omega⟩
          · by_cases e : j = k
            · rw [e]; omega
            · exact i1 j (by omega)
          · by_cases e9 : j = k
            · rw [e9] at e; exact absurd e he
            · exact i5 h j (by omega) e
          · obtain ⟨j, h1, h2, h3⟩ := i6 h
            exact ⟨j, by omega, h2, h3⟩

/-- The path of a number below 256. -/
def pth (i : Nat) : List Int := [((i / 16 : Nat) : Int), ((i % 16 : Nat) : Int)]
theorem pth_len (i : Nat) : (pth i).length = 2 := rfl
theorem pth_nibs {i : Nat} (h : i < 256) : Nibs (pth i) := by
  intro k hk
  simp [pth] at hk
  rcases hk with rfl | rfl
  · omega
  · omega
theorem pth_path {i : Nat} (h : i < 256) : Path (pth i) := fun z hz => by have := pth_nibs h z hz; omega
theorem pth_all {P : List Int} (h : Nibs P) (hl : P.length = 2) : ∃ i, i < 256 ∧ P = pth i := by
  match P, hl with
  | [x, y], _ =>
    have h1 := h x (by simp)
    have h2 := h y (by simp)
    refine ⟨16 * x.toNat + y.toNat, by omega, ?_⟩
    unfold pth
    rw [show (16 * x.toNat + y.toNat) / 16 = x.toNat by omega, show (16 * x.toNat + y.toNat) % 16 = y.toNat by omega, Int.toNat_of_nonneg h1.1, Int.toNat_of_nonneg h2.1]
theorem pth_inj {i j : Nat} (h : pth i = pth j) : i = j := by
  unfold pth at h
  simp at h
  omega
def metF (l : List (Int × Int)) (i : Nat) : Int := metB 2 l (pth i)
theorem metF_pos (l : List (Int × Int)) (i : Nat) : 0 ≤ metF l i := metB_pos 2 l _

/-- What is told costs less than all others. -/
theorem two_told {l : List (Int × Int)} {b D : Nat} (hb : 1 ≤ b) {ps : List Int} {M : Int} (h : decB (walkB 2 l b D 2).1 (walkB 2 l b D 2).2 = some (ps, M)) : ∃ i, i < 256 ∧ ps = pth i ∧ M = metF l i ∧ ∀ j, j < 256 → j ≠ i → M < metF l j := by
  obtain ⟨n, t, h1, h2, h3, h4, h5⟩ := decB_inv h
  obtain ⟨g1, g2, g3, g4⟩ := told_least stB (coB 2 l) 2 (beginN : Int) (coB_pos _ _) D b hb (by decide) h1 h4 h5
  obtain ⟨i, hi, e⟩ := pth_all g3 g2
  refine ⟨i, hi, h2.symm.trans e, ?_, fun j hj hne => ?_⟩
  · rw [← h3, g1.2.1, e]
    rfl
  · rw [← h3]
    exact g4 (pth j) (pth_nibs hj) rfl (fun e9 => hne (pth_inj (e9.trans e)))
theorem two_tie {l : List (Int × Int)} {b D : Nat} (hb : 1 ≤ b) {S : Int × Nat × Nat} (hS : scanN (metF l) 256 = S) (h : 1 < S.2.1) : decB (walkB 2 l b D 2).1 (walkB 2 l b D 2).2 = none := by
  obtain ⟨s1, s2, s3, _, _, s6, _⟩ := scanN_spec (metF_pos l) 256 (by decide)
  rw [hS] at s1 s2 s3 s6
  obtain ⟨j, j1, j2, j3⟩ := s6 h
  cases hd : decB (walkB 2 l b D 2).1 (walkB 2 l b D 2).2 with
  | none => rfl
  | some z =>
    exfalso
    obtain ⟨ps, M⟩ := z
    obtain ⟨i, hi, _, hM, hlt⟩ := two_told hb hd
    have hle := s1 i hi
    by_cases e : j = i
    · have := hlt S.2.2 s2 (fun e9 => j2 (e.trans e9.symm))
      omega
    · have := hlt j j1 e
      omega
/-- One that costs less than all others is told, where it is never left out for another. -/
theorem two_clear {l : List (Int × Int)} {b D : Nat} (hb : 1 ≤ b) {i0 : Nat} (hi0 : i0 < 256) (hu : ∀ j, j < 256 → j ≠ i0 → metF l i0 < metF l j) (hH : ∀ i, i < 2 → (2 ≤ i + 1 + D ∨ (walkTo stB (coB 2 l) 2 (beginN : Int) b D i).1.length * 16 ≤ b)) : decB (walkB 2 l b D 2).1 (walkB 2 l b D 2).2 = some (pth i0, metF l i0) := by
  have hU : ∀ P, Nibs P → P.length = 2 → P ≠ pth i0 → met stB (coB 2 l) (beginN : Int) (pth i0) < met stB (coB 2 l) (beginN : Int) P := by
    intro P hP hl hne
    obtain ⟨j, hj, rfl⟩ := pth_all hP hl
    have h1 := hu j hj (fun e => hne (by rw [e]))
    unfold metF metB at h1
    exact h1
  obtain ⟨n, t, h1, h2, h3, h4, h5⟩ := clear_told stB (coB 2 l) 2 (beginN : Int) (coB_pos _ _) D b hb (by decide) (pth i0) (pth_nibs hi0) rfl hU (fun i hi => by
    rcases hH i hi with hd | hd
    · exact .inl (deep_exact stB (coB 2 l) 2 (beginN : Int) (coB_pos _ _) D _ hU i hi hd)
    · exact .inr hd)
  have := decB_of (cut := (walkB 2 l b D 2).2) h1 h4 h5
  rw [h2, h3] at this
  unfold metF metB
  exact this
theorem scan_clear {l : List (Int × Int)} {S : Int × Nat × Nat} (hS : scanN (metF l) 256 = S) (h : S.2.1 = 1) : S.2.2 < 256 ∧ metF l S.2.2 = S.1 ∧ ∀ j, j < 256 → j ≠ S.2.2 → metF l S.2.2 < metF l j := by
  obtain ⟨s1, s2, s3, _, s5, _, _⟩ := scanN_spec (metF_pos l) 256 (by decide)
  rw [hS] at s1 s2 s3 s5
  refine ⟨s2, s3, fun j hj hne => ?_⟩
  have h1 := s1 j hj
  have h2 : metF l j ≠ S.1 := fun e => hne (s5 h j hj e)
  omega
theorem walkTo_zero (st : Int → Int → Int) (co : Nat → Int → Int) (N : Nat) (s0 : Int) (b a : Nat) : walkTo st co N s0 b a 0 = ([root s0], -1) := by simp only [walkTo]
theorem walkTo_step (st : Int → Int → Int) (co : Nat → Int → Int) (N : Nat) (s0 : Int) (b a : Nat) {i j : Nat} (h : j = i + 1) : walkTo st co N s0 b a j = (keptN b (kidsOf st co N a i (walkTo st co N s0 b a i).1), lmin (walkTo st co N s0 b a i).2 (cutK sc b (kidsOf st co N a i (walkTo st co N s0 b a i).1))) := by
  subst h
  simp only [walkTo]
/-- With a beam of sixteen the walk ends with the least of all: over whatever step and cost. -/
theorem whole_any (st : Int → Int → Int) (co : Nat → Int → Int) (s0 : Int) (hco : ∀ i s, 0 ≤ co i s) (D : Nat) : ∃ n t Q, (walkTo st co 2 s0 16 D 2).1 = n :: t ∧ (walkTo st co 2 s0 16 D 2).1.length = 16 ∧ Nibs Q ∧ Q.length = 2 ∧ n.2.1 = met st co s0 Q ∧ (∀ P, Nibs P → P.length = 2 → n.2.1 ≤ met st co s0 P) ∧ n.2.1 ≤ (walkTo st co 2 s0 16 D 2).2 := by
  have hW2 := walkTo_inv st co 2 s0 D 16 (by decide) 2
  have E0 := walkTo_zero st co 2 s0 16 D
  have E1 := walkTo_step st co 2 s0 16 D (i := 0) (j := 1) rfl
  have E2 := walkTo_step st co 2 s0 16 D (i := 1) (j := 2) rfl
  rw [E0] at E1
  have hk0 : (kidsOf st co 2 D 0 [root s0]).length = 16 := by rw [kidsOf_len]; rfl
  obtain ⟨K0, hK0⟩ : ∃ K0, kidsOf st co 2 D 0 [root s0] = K0 := ⟨_, rfl⟩
  dsimp only at E1
  rw [hK0] at E1 hk0
  have hcut0 : cutK sc 16 K0 = -1 := by
    unfold cutK
    rw [List.getElem?_eq_none (by rw [(sortK_perm sc _).length_eq, hk0]; exact Nat.le_refl _)]
  rw [hcut0] at E1
  have hc1 : (walkTo st co 2 s0 16 D 1).2 = -1 := by
    rw [E1]
    show lmin (-1) (-1) = -1
    decide
  have hlen1 : (walkTo st co 2 s0 16 D 1).1.length = 16 := by
    rw [E1]
    show (keptN 16 K0).length = 16
    rw [kept_len, hk0]
    rfl
  obtain ⟨K, hK⟩ : ∃ K, kidsOf st co 2 D 1 (walkTo st co 2 s0 16 D 1).1 = K := ⟨_, rfl⟩
  have hKl : K.length = 256 := by rw [← hK, kidsOf_len, hlen1]
  rw [hK, hc1] at E2
  have e1 : (walkTo st co 2 s0 16 D 2).1 = keptN 16 K := by rw [E2]
  have e2 : (walkTo st co 2 s0 16 D 2).2 = lmin (-1) (cutK sc 16 K) := by rw [E2]
  clear E0 E1 E2
  have hl16 : (keptN 16 K).length = 16 := by rw [kept_len, hKl]; decide
  cases hl : (walkTo st co 2 s0 16 D 2).1 with
  | nil => rw [e1] at hl; rw [hl] at hl16; simp at hl16
  | cons n t =>
    rw [hl] at hW2
    obtain ⟨Q, q1, q2, q3, q4⟩ := hW2.node n (by simp)
    have hscn : sc n = n.2.1 := by rw [q4 (by decide), scA_end st co 2 s0 D Q q1, q3.2.1]
    have hs := sortK_sorted sc K
    obtain ⟨y, hy⟩ : ∃ y, (sortK sc K)[16]? = some y := ⟨(sortK sc K)[16]'(by rw [(sortK_perm sc K).length_eq, hKl]; decide), by simp⟩
    have hn0 : (sortK sc K)[0]? = some n := by
      have h9 : (keptN 16 K)[0]? = some n := by rw [← e1, hl]; rfl
      unfold keptN at h9
      rw [List.getElem?_take] at h9
      simpa using h9
    have hny : sc n ≤ sc y := by
      obtain ⟨l0, g0⟩ := List.getElem?_eq_some_iff.1 hn0
      obtain ⟨l1, g1⟩ := List.getElem?_eq_some_iff.1 hy
      have := List.pairwise_iff_getElem.1 hs 0 16 l0 l1 (by decide)
      rw [g0, g1] at this
      exact this
    have hcy : cutK sc 16 K = sc y := by unfold cutK; rw [hy]
    have hn1 : 0 ≤ n.2.1 := by rw [q3.2.1]; exact met_pos st co s0 hco Q
    have hcut : n.2.1 ≤ (walkTo st co 2 s0 16 D 2).2 := by
      rw [e2, hcy]
      unfold lmin
      rw [if_pos ⟨by omega, .inl (by decide)⟩]
      omega
    refine ⟨n, t, Q, rfl, by rw [← hl, e1]; exact hl16, q2, q1, q3.2.1, fun P hP hPl => ?_, hcut⟩
    rcases walk_claim st co 2 s0 hco D 16 (by decide) P hP hPl 2 (Nat.le_refl _) with ⟨u, hu, hp⟩ | ⟨_, h2⟩
    · rw [hl] at hu
      rw [List.take_of_length_le (by omega)] at hp
      obtain ⟨R, r1, _, r3, r4⟩ := hW2.node u hu
      have hsu : sc u = u.2.1 := by rw [r4 (by decide), scA_end st co 2 s0 D R r1, r3.2.1]
      have hum : u.2.1 = met st co s0 P := by
        have eR : R = P := r3.2.2.symm.trans hp
        rw [r3.2.1, eR]
      have hnu : sc n ≤ sc u := by
        rcases List.mem_cons.1 hu with e | hu'
        · rw [e]; exact Int.le_refl _
        · exact (List.pairwise_cons.1 hW2.rise).1 u hu'
      omega
    · omega
theorem whole_first (l : List (Int × Int)) (D : Nat) {S : Int × Nat × Nat} (hS : scanN (metF l) 256 = S) : ∃ n t, (walkB 2 l 16 D 2).1 = n :: t ∧ (walkB 2 l 16 D 2).1.length = 16 ∧ n.2.1 = S.1 ∧ S.1 ≤ (walkB 2 l 16 D 2).2 := by
  obtain ⟨n, t, Q, h1, h2, q2, q1, h3, h4, h5⟩ := whole_any stB (coB 2 l) (beginN : Int) (coB_pos _ _) D
  obtain ⟨s1, s2, s3, _, _, _, _⟩ := scanN_spec (metF_pos l) 256 (by decide)
  rw [hS] at s1 s2 s3
  obtain ⟨i, hi, ei⟩ := pth_all q2 q1
  have hmn : n.2.1 = metF l i := by unfold metF metB; rw [h3, ei]
  have hle' : n.2.1 ≤ metF l S.2.2 := by
    unfold metF metB
    exact h4 (pth S.2.2) (pth_nibs s2) rfl
  have hge := s1 i hi
  have heq : n.2.1 = S.1 := by
    rw [← hmn] at hge
    rw [s3] at hle'
    omega
  unfold walkB
  exact ⟨n, t, h1, h2, heq, by rw [← heq]; exact h5⟩
theorem whole_clear {l : List (Int × Int)} {D : Nat} {S : Int × Nat × Nat} (hS : scanN (metF l) 256 = S) (h : S.2.1 = 1) : decB (walkB 2 l 16 D 2).1 (walkB 2 l 16 D 2).2 = some (pth S.2.2, S.1) := by
  obtain ⟨h1, h2, h3⟩ := scan_clear hS h
  rw [← h2]
  refine two_clear (by decide) h1 h3 fun i hi => ?_
  by_cases h0 : i = 0
  · subst h0
    exact .inr (by show [root (beginN : Int)].length * 16 ≤ 16; decide)
  · exact .inl (by omega)
theorem deep_clear {l : List (Int × Int)} {b : Nat} (hb : 1 ≤ b) {S : Int × Nat × Nat} (hS : scanN (metF l) 256 = S) (h : S.2.1 = 1) : decB (walkB 2 l b 1 2).1 (walkB 2 l b 1 2).2 = some (pth S.2.2, S.1) := by
  obtain ⟨h1, h2, h3⟩ := scan_clear hS h
  rw [← h2]
  exact two_clear hb h1 h3 fun i hi => .inl (by omega)

end Go.Proofs.YtdnhnnidlangiaaDoor
