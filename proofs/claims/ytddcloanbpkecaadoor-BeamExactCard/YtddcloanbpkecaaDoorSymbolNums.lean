/-
  Symbols of states as numbers. No program is spoken of.
-/
import Derived.Test.YtddcloanbpkecaaDoorMixNums
namespace Go.Proofs.YtddcloanbpkecaaDoor

/-- The symbol of an index. -/
def symN (s i : Nat) : Nat := if i < 4 then s / 2 ^ (8 * i) % 256 else mixN ((s + i * 2654435769) % 4294967296) % 256
theorem symN_lt (s i : Nat) : symN s i < 256 := by
  unfold symN
  split <;> exact Nat.mod_lt _ (by decide)
theorem symN_low {s i : Nat} (h : i < 4) : symN s i = s / 2 ^ (8 * i) % 256 := if_pos h
theorem symN_high {s i : Nat} (h : ¬ i < 4) : symN s i = mixN ((s + i * 2654435769) % 4294967296) % 256 := if_neg h

/-- Bytes alone. -/
def Bytes4 (zs : List Int) : Prop := ∀ z ∈ zs, 0 ≤ z ∧ z ≤ 255

/-- The number that bytes spell, the lowest first. -/
def spellN : List Int → Nat
  | [] => 0
  | z :: zs => z.toNat + 256 * spellN zs
theorem spellN_lt : ∀ {zs : List Int}, Bytes4 zs → spellN zs < 256 ^ zs.length
  | [], _ => by simp [spellN]
  | z :: zs, h => by
    have h1 := spellN_lt (zs := zs) (fun x hx => h x (List.mem_cons_of_mem _ hx))
    have h2 := h z List.mem_cons_self
    rw [spellN, List.length_cons, Nat.pow_succ]
    omega
theorem spellN_get : ∀ {zs : List Int}, Bytes4 zs → ∀ {i : Nat} {z : Int}, zs[i]? = some z → spellN zs / 2 ^ (8 * i) % 256 = z.toNat
  | [], _, i, z, h => by simp at h
  | x :: zs, hb, 0, z, h => by
    simp at h; subst h
    have h2 := hb x List.mem_cons_self
    rw [spellN, Nat.mul_zero, Nat.pow_zero, Nat.div_one]
    omega
  | x :: zs, hb, i + 1, z, h => by
    have h2 := hb x List.mem_cons_self
    have ih := spellN_get (zs := zs) (fun x hx => hb x (List.mem_cons_of_mem _ hx)) (i := i) (z := z) (by simpa using h)
    rw [spellN, show 8 * (i + 1) = 8 + 8 * i by omega, Nat.pow_add, ← Nat.div_div_eq_div_mul, show (2 : Nat) ^ 8 = 256 by rfl, show (x.toNat + 256 * spellN zs) / 256 = spellN zs by omega]
    exact ih
theorem spellN_append (xs : List Int) (z : Int) : spellN (xs ++ [z]) = spellN xs + 2 ^ (8 * xs.length) * z.toNat := by
  induction xs with
  | nil => simp [spellN]
  | cons x xs ih =>
    rw [List.cons_append, spellN, ih, spellN, List.length_cons, show 8 * (xs.length + 1) = 8 + 8 * xs.length by omega, Nat.pow_add, show (2 : Nat) ^ 8 = 256 by rfl, Nat.mul_add, Nat.mul_assoc, Nat.add_assoc]

/-- The first four symbols. -/
def fourOf (s k : Nat) : List Int := (List.range k).map fun i => ((symN s i : Nat) : Int)
theorem fourOf_len (s k : Nat) : (fourOf s k).length = k := by simp [fourOf]
theorem fourOf_next (s k : Nat) : fourOf s (k + 1) = fourOf s k ++ [((symN s k : Nat) : Int)] := by simp [fourOf, List.range_succ]
theorem fourOf_bytes (s k : Nat) : Bytes4 (fourOf s k) := fun z hz => by
  obtain ⟨i, _, rfl⟩ := List.mem_map.1 hz
  have := symN_lt s i
  omega
theorem bytes_sum (s a b c d : Nat) (hs : s < 4294967296) (h0 : a = s % 256) (h1 : b = s / 256 % 256) (h2 : c = s / 65536 % 256) (h3 : d = s / 16777216 % 256) : a + 256 * (b + 256 * (c + 256 * d)) = s := by omega
theorem spell_of {s : Nat} (hs : s < 4294967296) (f : Nat → Nat) (h0 : f 0 = s % 256) (h1 : f 1 = s / 256 % 256) (h2 : f 2 = s / 65536 % 256) (h3 : f 3 = s / 16777216 % 256) : spellN ((List.range 4).map fun i => ((f i : Nat) : Int)) = s := by
  have e : ((List.range 4).map fun i => ((f i : Nat) : Int)) = [((f 0 : Nat) : Int), ((f 1 : Nat) : Int), ((f 2 : Nat) : Int), ((f 3 : Nat) : Int)] := rfl
  rw [e]
  have h := bytes_sum s (f 0) (f 1) (f 2) (f 3) hs h0 h1 h2 h3
  simpa [spellN] using h
theorem spell_four {s : Nat} (hs : s < 4294967296) : spellN (fourOf s 4) = s :=
  spell_of hs (symN s) (by rw [symN_low (by decide), Nat.mul_zero, Nat.pow_zero, Nat.div_one]) (symN_low (by decide)) (symN_low (by decide)) (symN_low (by decide))
theorem four_inj {s t : Nat} (hs : s < 4294967296) (ht : t < 4294967296) (h : ∀ i, i < 4 → symN s i = symN t i) : s = t := by
  have e : fourOf s 4 = fourOf t 4 := by
    unfold fourOf
    apply List.map_congr_left
    intro i hi
    rw [h i (by simpa using hi)]
  exact (spell_four hs).symm.trans ((congrArg spellN e).trans (spell_four ht))

end Go.Proofs.YtddcloanbpkecaaDoor
