/-
  A segment's symbols, told pass by pass. No program is spoken of.
-/
import Derived.Test.YtddcloanbpkecaaDoorPileNums
namespace Go.Proofs.YtddcloanbpkecaaDoor

/-- The value at a place where a symbol stands. -/
def valAt (l : List (Int × Int)) (k : Int) : Int := match l[aheadOf l k]? with | some x => x.2 | none => 0
theorem valAt_mem {l : List (Int × Int)} {k : Int} (h : hasAt l k = true) : l[aheadOf l k]? = some (k, valAt l k) := by
  unfold hasAt at h
  unfold valAt
  split at h
  · rename_i x hx
    have e : x.1 = k := by simpa using h
    rw [hx]
    subst e
    rfl
  · cases h
theorem rises_one {l : List (Int × Int)} (hr : Rises l) {k u v : Int} (h1 : (k, u) ∈ l) (h2 : (k, v) ∈ l) : u = v := by
  obtain ⟨i, hi⟩ := List.getElem?_of_mem h1
  obtain ⟨j, hj⟩ := List.getElem?_of_mem h2
  obtain ⟨hil, ei⟩ := List.getElem?_eq_some_iff.1 hi
  obtain ⟨hjl, ej⟩ := List.getElem?_eq_some_iff.1 hj
  rcases Nat.lt_trichotomy i j with h | h | h
  · have := List.pairwise_iff_getElem.1 hr i j hil hjl h
    rw [ei, ej] at this
    simp at this
  · subst h
    rw [hi] at hj
    simp at hj
    exact hj
  · have := List.pairwise_iff_getElem.1 hr j i hjl hil h
    rw [ei, ej] at this
    simp at this

/-- The symbols of a segment of the first passes. -/
def ofP (N : Nat) (l : List (Int × Int)) (s : Nat) : Nat → List (Int × Int)
  | 0 => []
  | k + 1 => ofP N l s k ++ (if hasAt l ((k * N + posN N s : Nat) : Int) = true then [((k : Int), valAt l ((k * N + posN N s : Nat) : Int))] else [])
theorem ofP_yes {N : Nat} {l : List (Int × Int)} {s k : Nat} (h : hasAt l ((k * N + posN N s : Nat) : Int) = true) : ofP N l s (k + 1) = ofP N l s k ++ [((k : Int), valAt l ((k * N + posN N s : Nat) : Int))] := by rw [ofP, if_pos h]
theorem ofP_no {N : Nat} {l : List (Int × Int)} {s k : Nat} (h : hasAt l ((k * N + posN N s : Nat) : Int) = false) : ofP N l s (k + 1) = ofP N l s k := by rw [ofP, if_neg (by rw [h]; simp), List.append_nil]
theorem ofP_len (N : Nat) (l : List (Int × Int)) (s : Nat) : ∀ k, (ofP N l s k).length ≤ k
  | 0 => Nat.le_refl _
  | k + 1 => by
    have := ofP_len N l s k
    rw [ofP, List.length_append]
    split
    · simp; omega
    · simp; omega
theorem ofP_mem {N : Nat} {l : List (Int × Int)} {s : Nat} {x : Int × Int} : ∀ {K : Nat}, x ∈ ofP N l s K ↔ ∃ k, k < K ∧ hasAt l ((k * N + posN N s : Nat) : Int) = true ∧ x = ((k : Int), valAt l ((k * N + posN N s : Nat) : Int))
  | 0 => by simp [ofP]
  | K + 1 => by
    rw [ofP, List.mem_append, ofP_mem]
    constructor
    · rintro (⟨k, hk, h⟩ | h)
      · exact ⟨k, by omega, h⟩
      · split at h
        · rename_i hh
          exact ⟨K, by omega, hh, by simpa using h⟩
        · simp at h
    · rintro ⟨k, hk, hh, hx⟩
      rcases Nat.lt_or_ge k K with h | h
      · exact .inl ⟨k, h, hh, hx⟩
      · obtain rfl : k = K := by omega
        exact .inr (by rw [if_pos hh, hx]; simp)
theorem ofP_rises (N : Nat) (l : List (Int × Int)) (s : Nat) : ∀ K, Rises (ofP N l s K)
  | 0 => List.Pairwise.nil
  | K + 1 => by
    unfold Rises
    rw [ofP, List.pairwise_append]
    refine ⟨ofP_rises N l s K, ?_, fun x hx y hy => ?_⟩
    · split
      · exact List.pairwise_singleton _ _
      · exact List.Pairwise.nil
    · obtain ⟨k, hk, _, rfl⟩ := ofP_mem.1 hx
      split at hy
      · simp at hy; subst hy; simp; omega
      · simp at hy

/-- A place of a segment, by its pass. -/
theorem seg_place {N k s : Nat} (h1 : 1 ≤ N) (hn : N < 65) (hs : s < N) (h : segN N k = s) : k / N * N + posN N s = k := by
  have h2 := (segN_get h1 hn k).1
  rw [h] at h2
  have h3 := posN_of hn hs h2
  rw [h3]
  have := Nat.div_add_mod k N
  rw [Nat.mul_comm] at this
  exact this
theorem ofL_mem {n : Nat} {l : List (Int × Int)} {s : Nat} {x : Int × Int} : x ∈ ofL n l s ↔ ∃ y ∈ l, segN n y.1.toNat = s ∧ x = (((y.1.toNat / n : Nat) : Int), y.2) := by
  unfold ofL
  rw [List.mem_map]
  constructor
  · rintro ⟨y, hy, rfl⟩
    rw [List.mem_filter] at hy
    exact ⟨y, hy.1, by simpa using hy.2, rfl⟩
  · rintro ⟨y, hy, h1, rfl⟩
    exact ⟨y, by rw [List.mem_filter]; exact ⟨hy, by simpa using h1⟩, rfl⟩
theorem ofL_rises {n s : Nat} {p : Int} {l : List (Int × Int)} (hp : PileOk (n : Int) p l) (hs : s < n) : Rises (ofL n l s) := by
  have hn1 : 1 ≤ n := by omega
  have hn2 : n < 65 := by have := hp.1.2.1; omega
  unfold Rises ofL
  rw [List.pairwise_map, List.pairwise_filter]
  refine List.Pairwise.imp_of_mem ?_ hp.2.2
  intro x y hx hy hxy h1 h2
  have h1 : segN n x.1.toNat = s := by simpa using h1
  have h2 : segN n y.1.toNat = s := by simpa using h2
  have e1 := seg_place hn1 hn2 hs h1
  have e2 := seg_place hn1 hn2 hs h2
  have x0 := (hp.2.1 x hx).1
  have y0 := (hp.2.1 y hy).1
  have hlt : x.1.toNat < y.1.toNat := by omega
  show (((x.1.toNat / n : Nat) : Int)) < ((y.1.toNat / n : Nat) : Int)
  rcases Nat.lt_or_ge (x.1.toNat / n) (y.1.toNat / n) with h | h
  · omega
  · have := Nat.mul_le_mul_right n h
    omega

/-- Pass by pass, or place by place: the same symbols. -/
theorem ofP_eq {N P s : Nat} {l : List (Int × Int)} (hp : PileOk (N : Int) (P : Int) l) (hs : s < N) : ofP N l s P = ofL N l s := by
  have hn1 : 1 ≤ N := by omega
  have hn2 : N < 65 := by have := hp.1.2.1; omega
  refine rises_ext (ofP_rises N l s P) (ofL_rises hp hs) fun x => ?_
  rw [ofP_mem, ofL_mem]
  constructor
  · rintro ⟨k, hk, hh, rfl⟩
    have hm := List.mem_of_getElem? (valAt_mem hh)
    refine ⟨_, hm, ?_, ?_⟩
    · show segN N (((k * N + posN N s : Nat) : Int)).toNat = s
      rw [Int.toNat_natCast]
      exact segN_place hn2 hs
    · dsimp only
      rw [Int.toNat_natCast, place_div (posN_lt hn2 hs)]
  · rintro ⟨y, hy, h1, rfl⟩
    have hok := hp.2.1 y hy
    have e := seg_place hn1 hn2 hs h1
    have y0 := hok.1
    have y1 := hok.2.1
    have ey : (((y.1.toNat / N * N + posN N s : Nat)) : Int) = y.1 := by rw [e]; omega
    have hh : hasAt l ((y.1.toNat / N * N + posN N s : Nat) : Int) = true := by
      rw [ey]
      exact (hasAt_iff hp.2.2).2 ⟨y.2, hy⟩
    refine ⟨y.1.toNat / N, ?_, hh, ?_⟩
    · refine Nat.div_lt_of_lt_mul ?_
      have h2 : (y.1.toNat : Int) < ((N * P : Nat) : Int) := by
        have : ((N * P : Nat) : Int) = (N : Int) * (P : Int) := by simp
        rw [this]
        omega
      omega
    · rw [ey]
      have hv := List.mem_of_getElem? (valAt_mem (l := l) (k := y.1) (by rw [← ey]; exact hh))
      rw [rises_one hp.2.2 hy hv]

end Go.Proofs.YtddcloanbpkecaaDoor
