/-
  Plain facts for what is taken apart and put together again: lists and numbers alone.
-/
import Derived.Test.YtddcloanbpkecaaDoorPieces
import Derived.Test.YtddcloanbpkecaaDoorWholes
import Derived.Test.YtddcloanbpkecaaDoorGetNum
namespace Go.Proofs.YtddcloanbpkecaaDoor
open Go.RowKit

theorem flat_all_len' (f : Int → List Int) (c : Nat) (hf : ∀ x, (f x).length = c) (zs : List Int) : (zs.flatMap f).length = c * zs.length := by
  have := flat_len f c hf zs zs.length (Nat.le_refl _); rwa [List.take_length] at this

theorem flat_cut (f : Int → List Int) (c : Nat) (hf : ∀ x, (f x).length = c) {zs : List Int} {k : Nat} {z : Int} (hk : zs[k]? = some z) : ((zs.flatMap f).drop (c * k)).take c = f z := by
  have hlt : k < zs.length := (List.getElem?_eq_some_iff.1 hk).1
  have e : zs.flatMap f = (zs.take k).flatMap f ++ (f z ++ (zs.drop (k + 1)).flatMap f) := by
    have e1 : zs = zs.take (k + 1) ++ zs.drop (k + 1) := (List.take_append_drop _ _).symm
    conv => lhs; rw [e1, List.flatMap_append, flat_succ f hk]
    rw [List.append_assoc]
  have hl := flat_len f c hf zs k (by omega)
  rw [e, ← hl, List.drop_left, ← hf z, List.take_left]

theorem wholes_back (f : Int → List Int) (wd c : Nat) (hf : ∀ x, (f x).length = c) (zs : List Int) (hj : ∀ z ∈ zs, joinW wd (f z) = z) : wholesOf wd c (zs.flatMap f) zs.length = zs := by
  apply List.ext_getElem?
  intro i
  by_cases hi : i < zs.length
  · have hk : zs[i]? = some zs[i] := by simp
    have e : (wholesOf wd c (zs.flatMap f) zs.length)[i]? = some (joinW wd (((zs.flatMap f).drop (c * i)).take c)) := by simp [wholesOf, hi]
    rw [e, flat_cut f c hf hk, hj _ (List.getElem_mem _), hk]
  · rw [List.getElem?_eq_none_iff.2 (by rw [wholesOf_len]; omega), List.getElem?_eq_none_iff.2 (by omega)]

theorem join_nibs (z : Int) (h0 : 0 ≤ z) (h1 : z ≤ 255) : joinW 4 (nibsOf z) = z := by
  simp [joinW, nibsOf]; omega

theorem join_bits (z : Int) (h0 : 0 ≤ z) (h1 : z ≤ 255) : joinW 1 (bitsOf z) = z := by
  simp [joinW, bitsOf]; omega

theorem bits_bd (zs : List Int) : ∀ z ∈ zs.flatMap bitsOf, 0 ≤ z ∧ z < 2 := by
  intro z hz
  obtain ⟨y, _, hy⟩ := List.mem_flatMap.1 hz
  simp [bitsOf] at hy
  omega

theorem nibs_bd (zs : List Int) : ∀ z ∈ zs.flatMap nibsOf, 0 ≤ z ∧ z < 16 := by
  intro z hz
  obtain ⟨y, _, hy⟩ := List.mem_flatMap.1 hz
  simp [nibsOf] at hy
  omega

theorem be_back (s : Nat) (h1 : 1 ≤ s) (h2 : s ≤ 4) (n : Int) (h0 : 0 ≤ n) (h3 : n < 2 ^ (8 * s)) : beNum (beBytes s n) = n := by
  match s, h1, h2 with
  | 1, _, _ => simp [beBytes, beNum, List.range_succ] at h3 ⊢; omega
  | 2, _, _ => simp [beBytes, beNum, List.range_succ] at h3 ⊢; omega
  | 3, _, _ => simp [beBytes, beNum, List.range_succ] at h3 ⊢; omega
  | 4, _, _ => simp [beBytes, beNum, List.range_succ] at h3 ⊢; omega

theorem be_bd (s : Nat) (n : Int) : ∀ z ∈ beBytes s n, 0 ≤ z ∧ z ≤ 255 := by
  intro z hz
  obtain ⟨i, _, rfl⟩ := List.mem_map.1 hz
  omega

/-- The k lowest bits of any number, where k is 8, 16, 24. -/
theorem i64_low8 (n : Int) : bits .and .i64 n 255 = n % 256 := by
  have h32 : (BitVec.ofInt 64 255).toNat = 2 ^ 8 - 1 := by decide
  have key : (BitVec.ofInt 64 n &&& BitVec.ofInt 64 255).toNat = (n % ((2 ^ 64 : Nat) : Int)).toNat % 2 ^ 8 := by
    rw [BitVec.toNat_and, BitVec.toNat_ofInt, h32, Nat.and_two_pow_sub_one_eq_mod]
  show IntKind.i64.wrap ((BitVec.ofInt 64 n &&& BitVec.ofInt 64 255).toNat : Nat) = n % 256
  rw [key, IntKind.wrap_i64]
  omega

theorem i64_low16 (n : Int) : bits .and .i64 n 65535 = n % 65536 := by
  have h32 : (BitVec.ofInt 64 65535).toNat = 2 ^ 16 - 1 := by decide
  have key : (BitVec.ofInt 64 n &&& BitVec.ofInt 64 65535).toNat = (n % ((2 ^ 64 : Nat) : Int)).toNat % 2 ^ 16 := by
    rw [BitVec.toNat_and, BitVec.toNat_ofInt, h32, Nat.and_two_pow_sub_one_eq_mod]
  show IntKind.i64.wrap ((BitVec.ofInt 64 n &&& BitVec.ofInt 64 65535).toNat : Nat) = n % 65536
  rw [key, IntKind.wrap_i64]
  omega

theorem i64_low24 (n : Int) : bits .and .i64 n 16777215 = n % 16777216 := by
  have h32 : (BitVec.ofInt 64 16777215).toNat = 2 ^ 24 - 1 := by decide
  have key : (BitVec.ofInt 64 n &&& BitVec.ofInt 64 16777215).toNat = (n % ((2 ^ 64 : Nat) : Int)).toNat % 2 ^ 24 := by
    rw [BitVec.toNat_and, BitVec.toNat_ofInt, h32, Nat.and_two_pow_sub_one_eq_mod]
  show IntKind.i64.wrap ((BitVec.ofInt 64 n &&& BitVec.ofInt 64 16777215).toNat : Nat) = n % 16777216
  rw [key, IntKind.wrap_i64]
  omega

theorem size_mod (n : Int) : ∃ r : Nat, wrap64 ((IntKind.u64.wrap n).tmod 4) = (r : Int) ∧ r ≤ 3 := by
  have hu : 0 ≤ IntKind.u64.wrap n := by simp [IntKind.wrap, IntKind.bits, IntKind.signed]; omega
  rw [Int.tmod_eq_emod_of_nonneg hu]
  refine ⟨(IntKind.u64.wrap n % 4).toNat, ?_, by omega⟩
  unfold wrap64
  omega

end Go.Proofs.YtddcloanbpkecaaDoor
