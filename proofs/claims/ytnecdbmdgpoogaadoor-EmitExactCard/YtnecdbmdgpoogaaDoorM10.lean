/-
  The segment at a place, as a number. No program is spoken of.
-/
import Derived.Test.YtnecdbmdgpoogaaDoorM01
import Derived.Test.YtnecdbmdgpoogaaDoorM02
import Derived.Test.YtnecdbmdgpoogaaDoorM04
import Derived.Test.YtnecdbmdgpoogaaDoorM05
import Derived.Test.YtnecdbmdgpoogaaDoorM06
import Derived.Test.YtnecdbmdgpoogaaDoorM09
import Derived.LoopIn
import Derived.LoopNIn
import Derived.Maps.AppendAt
import Derived.OwnWalkIn
import Derived.RangeFuncBound
import Derived.RangeFuncBox
import Derived.RangeFuncCalls
import Derived.RangeFuncLeaves
import Derived.RangeFuncNested
import Derived.Shelf.Abstract
import Derived.Shelf.RegionOpen
import Derived.TacticsInMore
import Derived.WalkKit
namespace Go.Proofs.YtnecdbmdgpoogaaDoor

/-- The segment at a place. -/
def segN (n k : Nat) : Nat := (orderN n)[k % n]?.getD 0
theorem segN_get {n : Nat} (h1 : 1 ≤ n) (hn : n < 65) (k : Nat) : (orderN n)[k % n]? = some (segN n k) ∧ segN n k < n := by
  obtain ⟨x, hx, hxn⟩ := orderN_get hn (Nat.mod_lt k (show 0 < n by omega))
  have e : segN n k = x := by unfold segN; rw [hx]; rfl
  rw [e]
  exact ⟨hx, hxn⟩
theorem place_mod {n p i : Nat} (hp : p < n) : (i * n + p) % n = p := by rw [Nat.mul_comm, Nat.mul_add_mod]; exact Nat.mod_eq_of_lt hp
theorem place_div {n p i : Nat} (hp : p < n) : (i * n + p) / n = i := by
  rw [Nat.mul_comm, Nat.mul_add_div (by omega), Nat.div_eq_of_lt hp, Nat.add_zero]
theorem segN_place {n s i : Nat} (hn : n < 65) (hs : s < n) : segN n (i * n + posN n s) = s := by
  unfold segN
  rw [place_mod (posN_lt hn hs), posN_get hn hs]
  rfl

end Go.Proofs.YtnecdbmdgpoogaaDoor

/-
  What bit.wholes tells, range by range: the bytes that pieces of four bits, or of one bit, are put together to.
-/
namespace Go.Proofs.YtnecdbmdgpoogaaDoor
open Go.RowKit Go.Shelf
attribute [local go_sem] Oper.semAt_some

/-- The number that pieces of width wd make, the highest first. -/
def joinW (wd : Nat) (l : List Int) : Int := l.foldl (fun acc x => acc * 2 ^ wd + x) 0

/-- The bytes of a row, c pieces of width wd a byte, k of them. -/
def wholesOf (wd c : Nat) (ls : List Int) (k : Nat) : List Int := (List.range k).map (fun i => joinW wd ((ls.drop (c * i)).take c))

theorem wholesOf_succ (wd c : Nat) (ls : List Int) (k : Nat) : wholesOf wd c ls (k + 1) = wholesOf wd c ls k ++ [joinW wd ((ls.drop (c * k)).take c)] := by simp [wholesOf, List.range_succ]
theorem wholesOf_len (wd c : Nat) (ls : List Int) (k : Nat) : (wholesOf wd c ls k).length = k := by simp [wholesOf]

theorem joinW_snoc (wd : Nat) (l : List Int) (x : Int) : joinW wd (l ++ [x]) = joinW wd l * 2 ^ wd + x := by simp [joinW]

/-- What the body of a range over wholes must keep: all below n₀, and the three boxes. -/
def KpP3 (n₀ B1 B2 B3 : Nat) (W W' : World) : Prop := Below n₀ W W' ∧ W'.heap[B1]? = W.heap[B1]? ∧ W'.heap[B2]? = W.heap[B2]? ∧ W'.heap[B3]? = W.heap[B3]?

theorem KpP3.c1 {n₀ B1 B2 B3 : Nat} {W W' : World} (h : KpP3 n₀ B1 B2 B3 W W') : W'.cell? ⟨B1, 0, none⟩ = W.cell? ⟨B1, 0, none⟩ := by simp [World.cell?, h.2.1]
theorem KpP3.c2 {n₀ B1 B2 B3 : Nat} {W W' : World} (h : KpP3 n₀ B1 B2 B3 W W') : W'.cell? ⟨B2, 0, none⟩ = W.cell? ⟨B2, 0, none⟩ := by simp [World.cell?, h.2.2.1]
theorem KpP3.c3 {n₀ B1 B2 B3 : Nat} {W W' : World} (h : KpP3 n₀ B1 B2 B3 W W') : W'.cell? ⟨B3, 0, none⟩ = W.cell? ⟨B3, 0, none⟩ := by simp [World.cell?, h.2.2.2]
theorem KpP3.trans {n₀ B1 B2 B3 : Nat} {A B C : World} (h : KpP3 n₀ B1 B2 B3 A B) (k : KpP3 n₀ B1 B2 B3 B C) : KpP3 n₀ B1 B2 B3 A C := ⟨h.1.trans k.1, k.2.1.trans h.2.1, k.2.2.1.trans h.2.2.1, k.2.2.2.trans h.2.2.2⟩

theorem wholesOf_prefix (wd c : Nat) (ls : List Int) (k m : Nat) (h : k ≤ m) : wholesOf wd c ls k <+: wholesOf wd c ls m := by
  have e : wholesOf wd c ls k = (wholesOf wd c ls m).take k := by
    unfold wholesOf
    rw [← List.map_take, List.take_range]
    congr 2
    omega
  rw [e]; exact List.take_prefix _ _

theorem joinW_bd (wd : Nat) (md : Int) (hmd : md = 2 ^ wd) (ls : List Int) (hz : ∀ z ∈ ls, 0 ≤ z ∧ z < md) (t j : Nat) : 0 ≤ joinW wd ((ls.drop t).take j) ∧ joinW wd ((ls.drop t).take j) < md ^ j := by
  have hp : 0 < md := by rw [hmd]; exact Int.pow_pos (by decide)
  induction j with
  | zero => simp [joinW]
  | succ j ih =>
    rw [List.take_add_one]
    cases hq : (ls.drop t)[j]? with
    | none =>
      simp only [Option.toList_none, List.append_nil]
      refine ⟨ih.1, Int.lt_of_lt_of_le ih.2 ?_⟩
      rw [Int.pow_succ]
      have h1 : 0 ≤ md ^ j := Int.le_of_lt (Int.pow_pos hp)
      have := Int.mul_le_mul_of_nonneg_left (show 1 ≤ md by omega) h1
      simpa using this
    | some z =>
      have hzb := hz z (List.mem_of_mem_drop (List.mem_of_getElem? hq))
      simp only [Option.toList_some]
      rw [joinW_snoc, ← hmd, Int.pow_succ]
      constructor
      · have := Int.mul_nonneg ih.1 (Int.le_of_lt hp)
        omega
      · have h2 : (joinW wd ((ls.drop t).take j) + 1) * md ≤ md ^ j * md := Int.mul_le_mul_of_nonneg_right (by omega) (Int.le_of_lt hp)
        rw [Int.add_mul] at h2
        omega


theorem or_join4 (acc x : Int) (h0 : 0 ≤ acc) (h1 : acc ≤ 255) (hx : 0 ≤ x) (hx' : x < 16) : bits .or .i64 (acc * 16) x = acc * 16 + x := by
  have e63 : (2 : Int) ^ 63 = 9223372036854775808 := by decide
  exact bits_join .i64 63 (by decide) wraps_i64 4 (acc * 16) x (by omega) (by simp) (by rw [e63]; omega) hx (by simpa using hx') (by rw [e63]; omega)

theorem or_join1 (acc x : Int) (h0 : 0 ≤ acc) (h1 : acc ≤ 255) (hx : 0 ≤ x) (hx' : x < 2) : bits .or .i64 (acc * 2) x = acc * 2 + x := by
  have e63 : (2 : Int) ^ 63 = 9223372036854775808 := by decide
  exact bits_join .i64 63 (by decide) wraps_i64 1 (acc * 2) x (by omega) (by simp) (by rw [e63]; omega) hx (by simpa using hx') (by rw [e63]; omega)

end Go.Proofs.YtnecdbmdgpoogaaDoor

/-
  Plain facts for what is taken apart and put together again: lists and numbers alone.
-/
namespace Go.Proofs.YtnecdbmdgpoogaaDoor
open Go.RowKit

theorem flat_all_len' (f : Int → List Int) (c : Nat) (hf : ∀ x, (f x).length = c) (zs : List Int) : (zs.flatMap f).length = c * zs.length := by
  have := flat_len f c hf zs zs.length (Nat.le_refl _); rwa [List.take_length] at this

theorem flat_cut (f : Int → List Int) (c : Nat) (hf : ∀ x, (f x).length = c) {zs : List Int} {k : Nat} {z : Int} (hk : zs[k]? = some z) : ((zs.flatMap f).drop (c * k)).take c = f z := by
  have hlt : k < zs.length := (List.getElem?_eq_some_iff.1 hk).1
  have e : zs.flatMap f = (zs.take k).flatMap f ++ (f z ++ (zs.drop (k + 1)).flatMap f) := by
    have e1 : zs = zs.take (k + 1) ++ zs.drop (k + 1) := (List.take_append_drop _ _).symm
    conv => lhs; rw [e1, List.flatMap_append, flat_succ f hk]
    rw [List.append_assoc]
  have hl := flat_len f c hf zs k (by omega)
  rw [e, ← hl, List.drop_left, ← hf z, List.take_left]

theorem wholes_back (f : Int → List Int) (wd c : Nat) (hf : ∀ x, (f x).length = c) (zs : List Int) (hj : ∀ z ∈ zs, joinW wd (f z) = z) : wholesOf wd c (zs.flatMap f) zs.length = zs := by
  apply List.ext_getElem?
  intro i
  by_cases hi : i < zs.length
  · have hk : zs[i]? = some zs[i] := by simp
    have e : (wholesOf wd c (zs.flatMap f) zs.length)[i]? = some (joinW wd (((zs.flatMap f).drop (c * i)).take c)) := by simp [wholesOf, hi]
    rw [e, flat_cut f c hf hk, hj _ (List.getElem_mem _), hk]
  · rw [List.getElem?_eq_none_iff.2 (by rw [wholesOf_len]; omega), List.getElem?_eq_none_iff.2 (by omega)]

theorem join_nibs (z : Int) (h0 : 0 ≤ z) (h1 : z ≤ 255) : joinW 4 (nibsOf z) = z := by
  simp [joinW, nibsOf]; omega

theorem join_bits (z : Int) (h0 : 0 ≤ z) (h1 : z ≤ 255) : joinW 1 (bitsOf z) = z := by
  simp [joinW, bitsOf]; omega

theorem bits_bd (zs : List Int) : ∀ z ∈ zs.flatMap bitsOf, 0 ≤ z ∧ z < 2 := by
  intro z hz
  obtain ⟨y, _, hy⟩ := List.mem_flatMap.1 hz
  simp [bitsOf] at hy
  omega

theorem nibs_bd (zs : List Int) : ∀ z ∈ zs.flatMap nibsOf, 0 ≤ z ∧ z < 16 := by
  intro z hz
  obtain ⟨y, _, hy⟩ := List.mem_flatMap.1 hz
  simp [nibsOf] at hy
  omega

theorem be_back (s : Nat) (h1 : 1 ≤ s) (h2 : s ≤ 4) (n : Int) (h0 : 0 ≤ n) (h3 : n < 2 ^ (8 * s)) : beNum (beBytes s n) = n := by
  match s, h1, h2 with
  | 1, _, _ => simp [beBytes, beNum, List.range_succ] at h3 ⊢; omega
  | 2, _, _ => simp [beBytes, beNum, List.range_succ] at h3 ⊢; omega
  | 3, _, _ => simp [beBytes, beNum, List.range_succ] at h3 ⊢; omega
  | 4, _, _ => simp [beBytes, beNum, List.range_succ] at h3 ⊢; omega

theorem be_bd (s : Nat) (n : Int) : ∀ z ∈ beBytes s n, 0 ≤ z ∧ z ≤ 255 := by
  intro z hz
  obtain ⟨i, _, rfl⟩ := List.mem_map.1 hz
  omega

/-- The k lowest bits of any number, where k is 8, 16, 24. -/
theorem i64_low8 (n : Int) : bits .and .i64 n 255 = n % 256 := by
  have h32 : (BitVec.ofInt 64 255).toNat = 2 ^ 8 - 1 := by decide
  have key : (BitVec.ofInt 64 n &&& BitVec.ofInt 64 255).toNat = (n % ((2 ^ 64 : Nat) : Int)).toNat % 2 ^ 8 := by
    rw [BitVec.toNat_and, BitVec.toNat_ofInt, h32, Nat.and_two_pow_sub_one_eq_mod]
  show IntKind.i64.wrap ((BitVec.ofInt 64 n &&& BitVec.ofInt 64 255).toNat : Nat) = n % 256
  rw [key, IntKind.wrap_i64]
  omega

theorem i64_low16 (n : Int) : bits .and .i64 n 65535 = n % 65536 := by
  have h32 : (BitVec.ofInt 64 65535).toNat = 2 ^ 16 - 1 := by decide
  have key : (BitVec.ofInt 64 n &&& BitVec.ofInt 64 65535).toNat = (n % ((2 ^ 64 : Nat) : Int)).toNat % 2 ^ 16 := by
    rw [BitVec.toNat_and, BitVec.toNat_ofInt, h32, Nat.and_two_pow_sub_one_eq_mod]
  show IntKind.i64.wrap ((BitVec.ofInt 64 n &&& BitVec.ofInt 64 65535).toNat : Nat) = n % 65536
  rw [key, IntKind.wrap_i64]
  omega

theorem i64_low24 (n : Int) : bits .and .i64 n 16777215 = n % 16777216 := by
  have h32 : (BitVec.ofInt 64 16777215).toNat = 2 ^ 24 - 1 := by decide
  have key : (BitVec.ofInt 64 n &&& BitVec.ofInt 64 16777215).toNat = (n % ((2 ^ 64 : Nat) : Int)).toNat % 2 ^ 24 := by
    rw [BitVec.toNat_and, BitVec.toNat_ofInt, h32, Nat.and_two_pow_sub_one_eq_mod]
  show IntKind.i64.wrap ((BitVec.ofInt 64 n &&& BitVec.ofInt 64 16777215).toNat : Nat) = n % 16777216
  rw [key, IntKind.wrap_i64]
  omega

theorem size_mod (n : Int) : ∃ r : Nat, wrap64 ((IntKind.u64.wrap n).tmod 4) = (r : Int) ∧ r ≤ 3 := by
  have hu : 0 ≤ IntKind.u64.wrap n := by simp [IntKind.wrap, IntKind.bits, IntKind.signed]; omega
  rw [Int.tmod_eq_emod_of_nonneg hu]
  refine ⟨(IntKind.u64.wrap n % 4).toNat, ?_, by omega⟩
  unfold wrap64
  omega

end Go.Proofs.YtnecdbmdgpoogaaDoor

/-
  A block's symbols as numbers. No program is spoken of.
-/
namespace Go.Proofs.YtnecdbmdgpoogaaDoor

/-- The nibbles of bytes. -/
def nibs (zs : List Int) : List Int := zs.flatMap nibsOf
theorem nibs_len (zs : List Int) : (nibs zs).length = 2 * zs.length := flat_all_len' nibsOf 2 (fun _ => rfl) zs
theorem nibs_path (zs : List Int) : Path (nibs zs) := fun z hz => by have := nibs_bd zs z hz; omega
theorem nibs_back {zs : List Int} (bz : ∀ z ∈ zs, 0 ≤ z ∧ z ≤ 255) : wholesOf 4 2 (nibs zs) zs.length = zs :=
  wholes_back nibsOf 4 2 (fun _ => rfl) zs fun z hz => join_nibs z (bz z hz).1 (bz z hz).2
theorem nibs_inj {xs ys : List Int} (bx : ∀ z ∈ xs, 0 ≤ z ∧ z ≤ 255) (bt : ∀ z ∈ ys, 0 ≤ z ∧ z ≤ 255) (h : nibs xs = nibs ys) : xs = ys := by
  have hl : xs.length = ys.length := by have h1 := nibs_len xs; have h2 := nibs_len ys; rw [h] at h1; omega
  have h1 := nibs_back bx
  rw [h, hl, nibs_back bt] at h1
  exact h1.symm
theorem nibs_get {zs : List Int} {s : Nat} (h : s < 2 * zs.length) : ∃ n : Nat, (nibs zs)[s]? = some (n : Int) ∧ n < 16 := by
  have hl : s < (nibs zs).length := by rw [nibs_len]; exact h
  have hp := nibs_path zs _ (List.getElem_mem hl)
  exact ⟨(nibs zs)[s].toNat, by rw [List.getElem?_eq_getElem hl]; congr 1; omega, by omega⟩

/-- The state behind a segment. -/
def stN (zs : List Int) (s : Nat) : Nat := lastOf beginN ((nibs zs).take (s + 1))
theorem begin_lt : beginN < 4294967296 := by decide
theorem stN_lt (zs : List Int) (s : Nat) : stN zs s < 4294967296 := lastOf_lt _ begin_lt
theorem stN_step {zs : List Int} {s n : Nat} (hn : (nibs zs)[s]? = some (n : Int)) : stN zs s = stepN (lastOf beginN ((nibs zs).take s)) n := by
  have := lastOf_take (s := beginN) hn
  rwa [Int.toNat_natCast] at this
theorem stN_get {zs : List Int} {s : Nat} (h : s < 2 * zs.length) : (statesOf beginN (nibs zs))[s]? = some ((stN zs s : Nat) : Int) := by
  obtain ⟨n, hn, _⟩ := nibs_get h
  have := statesOf_get (s := beginN) hn
  rw [Int.toNat_natCast, ← stN_step hn] at this
  exact this
theorem states_len (zs : List Int) : (statesOf beginN (nibs zs)).length = 2 * zs.length := by rw [statesOf_len, nibs_len]

/-- The symbol at a place; a row of them. -/
def codeN (zs : List Int) (k : Nat) : Nat := symN (stN zs (segN (2 * zs.length) k)) (k / (2 * zs.length))
theorem codeN_lt (zs : List Int) (k : Nat) : codeN zs k < 256 := symN_lt _ _
theorem codeN_place {zs : List Int} {s i : Nat} (hn : 2 * zs.length < 65) (hs : s < 2 * zs.length) : codeN zs (i * (2 * zs.length) + posN (2 * zs.length) s) = symN (stN zs s) i := by
  unfold codeN
  rw [segN_place hn hs, place_div (posN_lt hn hs)]
def codeL (zs : List Int) (f c : Nat) : List Int := (List.range c).map fun j => ((codeN zs (f + j) : Nat) : Int)
theorem codeL_len (zs : List Int) (f c : Nat) : (codeL zs f c).length = c := by simp [codeL]
theorem codeL_get {zs : List Int} {f c j : Nat} (h : j < c) : (codeL zs f c)[j]? = some ((codeN zs (f + j) : Nat) : Int) := by
  unfold codeL
  rw [List.getElem?_map, List.getElem?_range h]
  rfl
theorem codeL_next (zs : List Int) (f c : Nat) : codeL zs f (c + 1) = codeL zs f c ++ [((codeN zs (f + c) : Nat) : Int)] := by simp [codeL, List.range_succ]
theorem codeL_bd (zs : List Int) (f c : Nat) : ∀ z ∈ codeL zs f c, 0 ≤ z ∧ z ≤ 255 := fun z hz => by
  obtain ⟨j, _, rfl⟩ := List.mem_map.1 hz
  have := codeN_lt zs (f + j)
  omega
/-- A part of a row of symbols. -/
theorem codeL_part {zs : List Int} {f c p n : Nat} (h : p + n ≤ c) : ((codeL zs f c).drop p).take n = codeL zs (f + p) n := by
  apply List.ext_getElem?
  intro j
  rw [List.getElem?_take]
  by_cases hj : j < n
  · rw [if_pos hj, List.getElem?_drop, codeL_get (by omega), codeL_get hj, Nat.add_assoc]
  · rw [if_neg hj, List.getElem?_eq_none]
    rw [codeL_len]; omega

/-- Where a segment's first four symbols are alike the states are. -/
theorem st_of_four {xs ys : List Int} {s : Nat} (h : ∀ i, i < 4 → symN (stN xs s) i = symN (stN ys s) i) : stN xs s = stN ys s := four_inj (stN_lt _ _) (stN_lt _ _) h

/-- Unlike blocks have an unlike symbol in the first four passes. -/
theorem code_inj {xs ys : List Int} (hl : ys.length = xs.length) (hn : xs.length ≤ 32) (bx : ∀ z ∈ xs, 0 ≤ z ∧ z ≤ 255) (bt : ∀ z ∈ ys, 0 ≤ z ∧ z ≤ 255) :
    codeL xs 0 (4 * (2 * xs.length)) = codeL ys 0 (4 * (2 * xs.length)) ↔ xs = ys := by
  refine ⟨fun h => ?_, fun h => by rw [h]⟩
  have hst : statesOf beginN (nibs xs) = statesOf beginN (nibs ys) := by
    apply List.ext_getElem?
    intro s
    by_cases hs : s < 2 * xs.length
    · rw [stN_get hs, stN_get (by omega)]
      congr 2
      apply st_of_four
      intro i hi
      have hp := posN_lt (show 2 * xs.length < 65 by omega) hs
      have hlt : i * (2 * xs.length) + posN (2 * xs.length) s < 4 * (2 * xs.length) := by
        have : i * (2 * xs.length) ≤ 3 * (2 * xs.length) := Nat.mul_le_mul_right _ (by omega)
        omega
      have h1 := codeL_get (zs := xs) (f := 0) hlt
      have h2 := codeL_get (zs := ys) (f := 0) hlt
      rw [h, h2, Nat.zero_add, Option.some_inj] at h1
      have h3 := codeN_place (zs := xs) (i := i) (by omega) hs
      have h4 := codeN_place (zs := ys) (i := i) (by omega) (show s < 2 * ys.length by omega)
      rw [hl] at h4
      omega
    · rw [List.getElem?_eq_none (by rw [states_len]; omega), List.getElem?_eq_none (by rw [states_len]; omega)]
  exact nibs_inj bx bt (statesOf_inj begin_lt (nibs_path _) (nibs_path _) hst)

end Go.Proofs.YtnecdbmdgpoogaaDoor

/-
  Blocks that are sent, as numbers: which may be, what a tick makes of them. No function of the program is spoken of.
-/
namespace Go.Proofs.YtnecdbmdgpoogaaDoor
open Go.RowKit

/-- May it be sent (of a right configuration)? -/
def okE (c : Cfg) (s r f : Int) (n : Nat) : Bool := decide ((n : Int) = c.cB + 10) && decide (0 ≤ s) && decide (s < 1073741824) && inC r 0 255 && inC f 0 (mostC c)
theorem okE_iff (c : Cfg) (s r f : Int) (n : Nat) : okE c s r f n = true ↔ (n : Int) = c.cB + 10 ∧ (0 ≤ s ∧ s < 1073741824) ∧ (0 ≤ r ∧ r ≤ 255) ∧ (0 ≤ f ∧ f ≤ mostC c) := by
  simp only [okE, Bool.and_eq_true, inC_iff, decide_eq_true_eq]
  omega
/-- What the calls ask of it: the configuration too. -/
def errE (c : Cfg) (s r f : Int) (n : Nat) : Int := if okC c && okE c s r f n then 0 else 1
theorem errE_zero {c : Cfg} {s r f : Int} {n : Nat} : errE c s r f n = 0 ↔ okC c = true ∧ okE c s r f n = true := by
  unfold errE
  rw [← Bool.and_eq_true]
  split <;> simp_all
theorem errE_one {c : Cfg} {s r f : Int} {n : Nat} (h : ¬ (okC c = true ∧ okE c s r f n = true)) : errE c s r f n = 1 := by
  unfold errE
  rw [← Bool.and_eq_true] at h
  rw [if_neg h]

/-- A tick: the round, where it begins, how many symbols. -/
def emR (c : Cfg) (r f : Int) : Int := if f = mostC c then (r + 1) % 256 else r
def emF (c : Cfg) (f : Int) : Int := if f = mostC c then 0 else f
def emN (c : Cfg) (f : Int) : Int := min c.cBatch (mostC c - emF c f)
/-- The symbols of a tick, its packet. -/
def emX (c : Cfg) (f : Int) (zs : List Int) : List Int := codeL zs (emF c f).toNat (emN c f).toNat
def emP (c : Cfg) (s r f : Int) (zs : List Int) : List Int := packD s (emR c r f) (emF c f) (emX c f zs)

theorem mostC_le {c : Cfg} (h : okC c = true) {n : Nat} (hn : (n : Int) = c.cB + 10) : mostC c ≤ 32 * (n : Int) := by
  have h2 := ((okC_iff c).1 h).2.2.2.2.2.2.2.1
  have h1 := ((okC_iff c).1 h).1
  unfold mostC segsC
  rw [← hn]
  have : 2 * (n : Int) * c.cPass ≤ 2 * (n : Int) * 16 := Int.mul_le_mul_of_nonneg_left (by omega) (by omega)
  omega
theorem emF_bd {c : Cfg} (h : okC c = true) {f : Int} (h0 : 0 ≤ f) (h1 : f ≤ mostC c) : 0 ≤ emF c f ∧ emF c f < mostC c := by
  have := mostC_bd h
  unfold emF
  split <;> omega
theorem emN_bd {c : Cfg} (h : okC c = true) {f : Int} (h0 : 0 ≤ f) (h1 : f ≤ mostC c) : 1 ≤ emN c f ∧ emN c f ≤ c.cBatch ∧ emN c f ≤ 64 ∧ emF c f + emN c f ≤ mostC c := by
  have hb := ((okC_iff c).1 h).2.2.2.2.2.2.1
  have := emF_bd h h0 h1
  unfold emN
  omega
theorem emR_bd {c : Cfg} {r f : Int} (h0 : 0 ≤ r ∧ r ≤ 255) : 0 ≤ emR c r f ∧ emR c r f ≤ 255 := by
  unfold emR
  split <;> omega
theorem emX_len (c : Cfg) (f : Int) (zs : List Int) : (emX c f zs).length = (emN c f).toNat := codeL_len _ _ _
theorem emX_bd (c : Cfg) (f : Int) (zs : List Int) : ∀ z ∈ emX c f zs, 0 ≤ z ∧ z ≤ 255 := codeL_bd _ _ _
theorem em_right {c : Cfg} (h : okC c = true) {s r f : Int} {zs : List Int} (hE : okE c s r f zs.length = true) : RightD s (emR c r f) (emF c f) (emX c f zs) := by
  obtain ⟨hn, hs, hr, hf⟩ := (okE_iff _ _ _ _ _).1 hE
  have h1 := emF_bd h hf.1 hf.2
  have h2 := emN_bd h hf.1 hf.2
  have h3 := mostC_bd h
  refine ⟨hs, emR_bd hr, by omega, ?_, ?_⟩
  · rw [emX_len]; omega
  · rw [emX_len]; omega
theorem emP_len (c : Cfg) (s r f : Int) (zs : List Int) : (emP c s r f zs).length = (emN c f).toNat + 11 := by unfold emP; rw [packD_len, emX_len]
theorem em_ok {c : Cfg} (h : okC c = true) {s r f : Int} {n : Nat} (hE : okE c s r f n = true) : okE c s (emR c r f) (emF c f + emN c f) n = true := by
  obtain ⟨hn, hs, hr, hf⟩ := (okE_iff _ _ _ _ _).1 hE
  have h1 := emF_bd h hf.1 hf.2
  have h2 := emN_bd h hf.1 hf.2
  exact (okE_iff _ _ _ _ _).2 ⟨hn, hs, emR_bd hr, by omega, by omega⟩

end Go.Proofs.YtnecdbmdgpoogaaDoor
