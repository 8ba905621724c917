/-
  A block's symbols as numbers. No program is spoken of.
-/
import Derived.Test.YtddcloanbpkecaaDoorSpineNums
import Derived.Test.YtddcloanbpkecaaDoorSymbolNums
import Derived.Test.YtddcloanbpkecaaDoorSegNums
import Derived.Test.YtddcloanbpkecaaDoorBackFacts
namespace Go.Proofs.YtddcloanbpkecaaDoor

/-- The nibbles of bytes. -/
def nibs (zs : List Int) : List Int := zs.flatMap nibsOf
theorem nibs_len (zs : List Int) : (nibs zs).length = 2 * zs.length := flat_all_len' nibsOf 2 (fun _ => rfl) zs
theorem nibs_path (zs : List Int) : Path (nibs zs) := fun z hz => by have := nibs_bd zs z hz; omega
theorem nibs_back {zs : List Int} (bz : ∀ z ∈ zs, 0 ≤ z ∧ z ≤ 255) : wholesOf 4 2 (nibs zs) zs.length = zs :=
  wholes_back nibsOf 4 2 (fun _ => rfl) zs fun z hz => join_nibs z (bz z hz).1 (bz z hz).2
theorem nibs_inj {xs ys : List Int} (bx : ∀ z ∈ xs, 0 ≤ z ∧ z ≤ 255) (bt : ∀ z ∈ ys, 0 ≤ z ∧ z ≤ 255) (h : nibs xs = nibs ys) : xs = ys := by
  have hl : xs.length = ys.length := by have h1 := nibs_len xs; have h2 := nibs_len ys; rw [h] at h1; omega
  have h1 := nibs_back bx
  rw [h, hl, nibs_back bt] at h1
  exact h1.symm
theorem nibs_get {zs : List Int} {s : Nat} (h : s < 2 * zs.length) : ∃ n : Nat, (nibs zs)[s]? = some (n : Int) ∧ n < 16 := by
  have hl : s < (nibs zs).length := by rw [nibs_len]; exact h
  have hp := nibs_path zs _ (List.getElem_mem hl)
  exact ⟨(nibs zs)[s].toNat, by rw [List.getElem?_eq_getElem hl]; congr 1; omega, by omega⟩

/-- The state behind a segment. -/
def stN (zs : List Int) (s : Nat) : Nat := lastOf beginN ((nibs zs).take (s + 1))
theorem begin_lt : beginN < 4294967296 := by decide
theorem stN_lt (zs : List Int) (s : Nat) : stN zs s < 4294967296 := lastOf_lt _ begin_lt
theorem stN_step {zs : List Int} {s n : Nat} (hn : (nibs zs)[s]? = some (n : Int)) : stN zs s = stepN (lastOf beginN ((nibs zs).take s)) n := by
  have := lastOf_take (s := beginN) hn
  rwa [Int.toNat_natCast] at this
theorem stN_get {zs : List Int} {s : Nat} (h : s < 2 * zs.length) : (statesOf beginN (nibs zs))[s]? = some ((stN zs s : Nat) : Int) := by
  obtain ⟨n, hn, _⟩ := nibs_get h
  have := statesOf_get (s := beginN) hn
  rw [Int.toNat_natCast, ← stN_step hn] at this
  exact this
theorem states_len (zs : List Int) : (statesOf beginN (nibs zs)).length = 2 * zs.length := by rw [statesOf_len, nibs_len]

/-- The symbol at a place; a row of them. -/
def codeN (zs : List Int) (k : Nat) : Nat := symN (stN zs (segN (2 * zs.length) k)) (k / (2 * zs.length))
theorem codeN_lt (zs : List Int) (k : Nat) : codeN zs k < 256 := symN_lt _ _
theorem codeN_place {zs : List Int} {s i : Nat} (hn : 2 * zs.length < 65) (hs : s < 2 * zs.length) : codeN zs (i * (2 * zs.length) + posN (2 * zs.length) s) = symN (stN zs s) i := by
  unfold codeN
  rw [segN_place hn hs, place_div (posN_lt hn hs)]
def codeL (zs : List Int) (f c : Nat) : List Int := (List.range c).map fun j => ((codeN zs (f + j) : Nat) : Int)
theorem codeL_len (zs : List Int) (f c : Nat) : (codeL zs f c).length = c := by simp [codeL]
theorem codeL_get {zs : List Int} {f c j : Nat} (h : j < c) : (codeL zs f c)[j]? = some ((codeN zs (f + j) : Nat) : Int) := by
  unfold codeL
  rw [List.getElem?_map, List.getElem?_range h]
  rfl
theorem codeL_next (zs : List Int) (f c : Nat) : codeL zs f (c + 1) = codeL zs f c ++ [((codeN zs (f + c) : Nat) : Int)] := by simp [codeL, List.range_succ]
theorem codeL_bd (zs : List Int) (f c : Nat) : ∀ z ∈ codeL zs f c, 0 ≤ z ∧ z ≤ 255 := fun z hz => by
  obtain ⟨j, _, rfl⟩ := List.mem_map.1 hz
  have := codeN_lt zs (f + j)
  omega
/-- A part of a row of symbols. -/
theorem codeL_part {zs : List Int} {f c p n : Nat} (h : p + n ≤ c) : ((codeL zs f c).drop p).take n = codeL zs (f + p) n := by
  apply List.ext_getElem?
  intro j
  rw [List.getElem?_take]
  by_cases hj : j < n
  · rw [if_pos hj, List.getElem?_drop, codeL_get (by omega), codeL_get hj, Nat.add_assoc]
  · rw [if_neg hj, List.getElem?_eq_none]
    rw [codeL_len]; omega

/-- Where a segment's first four symbols are alike the states are. -/
theorem st_of_four {xs ys : List Int} {s : Nat} (h : ∀ i, i < 4 → symN (stN xs s) i = symN (stN ys s) i) : stN xs s = stN ys s := four_inj (stN_lt _ _) (stN_lt _ _) h

/-- Unlike blocks have an unlike symbol in the first four passes. -/
theorem code_inj {xs ys : List Int} (hl : ys.length = xs.length) (hn : xs.length ≤ 32) (bx : ∀ z ∈ xs, 0 ≤ z ∧ z ≤ 255) (bt : ∀ z ∈ ys, 0 ≤ z ∧ z ≤ 255) :
    codeL xs 0 (4 * (2 * xs.length)) = codeL ys 0 (4 * (2 * xs.length)) ↔ xs = ys := by
  refine ⟨fun h => ?_, fun h => by rw [h]⟩
  have hst : statesOf beginN (nibs xs) = statesOf beginN (nibs ys) := by
    apply List.ext_getElem?
    intro s
    by_cases hs : s < 2 * xs.length
    · rw [stN_get hs, stN_get (by omega)]
      congr 2
      apply st_of_four
      intro i hi
      have hp := posN_lt (show 2 * xs.length < 65 by omega) hs
      have hlt : i * (2 * xs.length) + posN (2 * xs.length) s < 4 * (2 * xs.length) := by
        have : i * (2 * xs.length) ≤ 3 * (2 * xs.length) := Nat.mul_le_mul_right _ (by omega)
        omega
      have h1 := codeL_get (zs := xs) (f := 0) hlt
      have h2 := codeL_get (zs := ys) (f := 0) hlt
      rw [h, h2, Nat.zero_add, Option.some_inj] at h1
      have h3 := codeN_place (zs := xs) (i := i) (by omega) hs
      have h4 := codeN_place (zs := ys) (i := i) (by omega) (show s < 2 * ys.length by omega)
      rw [hl] at h4
      omega
    · rw [List.getElem?_eq_none (by rw [states_len]; omega), List.getElem?_eq_none (by rw [states_len]; omega)]
  exact nibs_inj bx bt (statesOf_inj begin_lt (nibs_path _) (nibs_path _) hst)

end Go.Proofs.YtddcloanbpkecaaDoor
