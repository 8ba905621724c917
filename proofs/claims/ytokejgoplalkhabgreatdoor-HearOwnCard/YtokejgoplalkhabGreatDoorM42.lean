/-
  Plain facts for what is taken apart and put together again: lists and numbers alone.
-/
import Derived.Test.YtokejgoplalkhabGreatDoorM02
import Derived.Test.YtokejgoplalkhabGreatDoorM05
import Derived.Test.YtokejgoplalkhabGreatDoorM06
import Derived.Test.YtokejgoplalkhabGreatDoorM11
import Derived.Test.YtokejgoplalkhabGreatDoorM19
import Derived.Test.YtokejgoplalkhabGreatDoorM22
import Derived.Test.YtokejgoplalkhabGreatDoorM32
import Derived.Test.YtokejgoplalkhabGreatDoorM33
namespace Go.Proofs.YtokejgoplalkhabGreatDoor
open Go.RowKit

theorem flat_all_len' (f : Int → List Int) (c : Nat) (hf : ∀ x, (f x).length = c) (zs : List Int) : (zs.flatMap f).length = c * zs.length := by
  have := flat_len f c hf zs zs.length (Nat.le_refl _); rwa [List.take_length] at this

theorem flat_cut (f : Int → List Int) (c : Nat) (hf : ∀ x, (f x).length = c) {zs : List Int} {k : Nat} {z : Int} (hk : zs[k]? = some z) : ((zs.flatMap f).drop (c * k)).take c = f z := by
  have hlt : k < zs.length := (List.getElem?_eq_some_iff.1 hk).1
  have e : zs.flatMap f = (zs.take k).flatMap f ++ (f z ++ (zs.drop (k + 1)).flatMap f) := by
    have e1 : zs = zs.take (k + 1) ++ zs.drop (k + 1) := (List.take_append_drop _ _).symm
    conv => lhs; rw [e1, List.flatMap_append, flat_succ f hk]
    rw [List.append_assoc]
  have hl := flat_len f c hf zs k (by omega)
  rw [e, ← hl, List.drop_left, ← hf z, List.take_left]

theorem wholes_back (f : Int → List Int) (wd c : Nat) (hf : ∀ x, (f x).length = c) (zs : List Int) (hj : ∀ z ∈ zs, joinW wd (f z) = z) : wholesOf wd c (zs.flatMap f) zs.length = zs := by
  apply List.ext_getElem?
  intro i
  by_cases hi : i < zs.length
  · have hk : zs[i]? = some zs[i] := by simp
    have e : (wholesOf wd c (zs.flatMap f) zs.length)[i]? = some (joinW wd (((zs.flatMap f).drop (c * i)).take c)) := by simp [wholesOf, hi]
    rw [e, flat_cut f c hf hk, hj _ (List.getElem_mem _), hk]
  · rw [List.getElem?_eq_none_iff.2 (by rw [wholesOf_len]; omega), List.getElem?_eq_none_iff.2 (by omega)]

theorem join_nibs (z : Int) (h0 : 0 ≤ z) (h1 : z ≤ 255) : joinW 4 (nibsOf z) = z := by
  simp [joinW, nibsOf]; omega

theorem join_bits (z : Int) (h0 : 0 ≤ z) (h1 : z ≤ 255) : joinW 1 (bitsOf z) = z := by
  simp [joinW, bitsOf]; omega

theorem bits_bd (zs : List Int) : ∀ z ∈ zs.flatMap bitsOf, 0 ≤ z ∧ z < 2 := by
  intro z hz
  obtain ⟨y, _, hy⟩ := List.mem_flatMap.1 hz
  simp [bitsOf] at hy
  omega

theorem nibs_bd (zs : List Int) : ∀ z ∈ zs.flatMap nibsOf, 0 ≤ z ∧ z < 16 := by
  intro z hz
  obtain ⟨y, _, hy⟩ := List.mem_flatMap.1 hz
  simp [nibsOf] at hy
  omega

theorem be_back (s : Nat) (h1 : 1 ≤ s) (h2 : s ≤ 4) (n : Int) (h0 : 0 ≤ n) (h3 : n < 2 ^ (8 * s)) : beNum (beBytes s n) = n := by
  match s, h1, h2 with
  | 1, _, _ => simp [beBytes, beNum, List.range_succ] at h3 ⊢; omega
  | 2, _, _ => simp [beBytes, beNum, List.range_succ] at h3 ⊢; omega
  | 3, _, _ => simp [beBytes, beNum, List.range_succ] at h3 ⊢; omega
  | 4, _, _ => simp [beBytes, beNum, List.range_succ] at h3 ⊢; omega

theorem be_bd (s : Nat) (n : Int) : ∀ z ∈ beBytes s n, 0 ≤ z ∧ z ≤ 255 := by
  intro z hz
  obtain ⟨i, _, rfl⟩ := List.mem_map.1 hz
  omega

/-- The k lowest bits of any number, where k is 8, 16, 24. -/
theorem i64_low8 (n : Int) : bits .and .i64 n 255 = n % 256 := by
  have h32 : (BitVec.ofInt 64 255).toNat = 2 ^ 8 - 1 := by decide
  have key : (BitVec.ofInt 64 n &&& BitVec.ofInt 64 255).toNat = (n % ((2 ^ 64 : Nat) : Int)).toNat % 2 ^ 8 := by
    rw [BitVec.toNat_and, BitVec.toNat_ofInt, h32, Nat.and_two_pow_sub_one_eq_mod]
  show IntKind.i64.wrap ((BitVec.ofInt 64 n &&& BitVec.ofInt 64 255).toNat : Nat) = n % 256
  rw [key, IntKind.wrap_i64]
  omega

theorem i64_low16 (n : Int) : bits .and .i64 n 65535 = n % 65536 := by
  have h32 : (BitVec.ofInt 64 65535).toNat = 2 ^ 16 - 1 := by decide
  have key : (BitVec.ofInt 64 n &&& BitVec.ofInt 64 65535).toNat = (n % ((2 ^ 64 : Nat) : Int)).toNat % 2 ^ 16 := by
    rw [BitVec.toNat_and, BitVec.toNat_ofInt, h32, Nat.and_two_pow_sub_one_eq_mod]
  show IntKind.i64.wrap ((BitVec.ofInt 64 n &&& BitVec.ofInt 64 65535).toNat : Nat) = n % 65536
  rw [key, IntKind.wrap_i64]
  omega

theorem i64_low24 (n : Int) : bits .and .i64 n 16777215 = n % 16777216 := by
  have h32 : (BitVec.ofInt 64 16777215).toNat = 2 ^ 24 - 1 := by decide
  have key : (BitVec.ofInt 64 n &&& BitVec.ofInt 64 16777215).toNat = (n % ((2 ^ 64 : Nat) : Int)).toNat % 2 ^ 24 := by
    rw [BitVec.toNat_and, BitVec.toNat_ofInt, h32, Nat.and_two_pow_sub_one_eq_mod]
  show IntKind.i64.wrap ((BitVec.ofInt 64 n &&& BitVec.ofInt 64 16777215).toNat : Nat) = n % 16777216
  rw [key, IntKind.wrap_i64]
  omega

theorem size_mod (n : Int) : ∃ r : Nat, wrap64 ((IntKind.u64.wrap n).tmod 4) = (r : Int) ∧ r ≤ 3 := by
  have hu : 0 ≤ IntKind.u64.wrap n := by simp [IntKind.wrap, IntKind.bits, IntKind.signed]; omega
  rw [Int.tmod_eq_emod_of_nonneg hu]
  refine ⟨(IntKind.u64.wrap n % 4).toNat, ?_, by omega⟩
  unfold wrap64
  omega

end Go.Proofs.YtokejgoplalkhabGreatDoor

/-
  A block's symbols as numbers. No program is spoken of.
-/
namespace Go.Proofs.YtokejgoplalkhabGreatDoor

/-- The nibbles of bytes. -/
def nibs (zs : List Int) : List Int := zs.flatMap nibsOf
theorem nibs_len (zs : List Int) : (nibs zs).length = 2 * zs.length := flat_all_len' nibsOf 2 (fun _ => rfl) zs
theorem nibs_path (zs : List Int) : Path (nibs zs) := fun z hz => by have := nibs_bd zs z hz; omega
theorem nibs_back {zs : List Int} (bz : ∀ z ∈ zs, 0 ≤ z ∧ z ≤ 255) : wholesOf 4 2 (nibs zs) zs.length = zs :=
  wholes_back nibsOf 4 2 (fun _ => rfl) zs fun z hz => join_nibs z (bz z hz).1 (bz z hz).2
theorem nibs_inj {xs ys : List Int} (bx : ∀ z ∈ xs, 0 ≤ z ∧ z ≤ 255) (bt : ∀ z ∈ ys, 0 ≤ z ∧ z ≤ 255) (h : nibs xs = nibs ys) : xs = ys := by
  have hl : xs.length = ys.length := by have h1 := nibs_len xs; have h2 := nibs_len ys; rw [h] at h1; omega
  have h1 := nibs_back bx
  rw [h, hl, nibs_back bt] at h1
  exact h1.symm
theorem nibs_get {zs : List Int} {s : Nat} (h : s < 2 * zs.length) : ∃ n : Nat, (nibs zs)[s]? = some (n : Int) ∧ n < 16 := by
  have hl : s < (nibs zs).length := by rw [nibs_len]; exact h
  have hp := nibs_path zs _ (List.getElem_mem hl)
  exact ⟨(nibs zs)[s].toNat, by rw [List.getElem?_eq_getElem hl]; congr 1; omega, by omega⟩

/-- The state behind a segment. -/
def stN (zs : List Int) (s : Nat) : Nat := lastOf beginN ((nibs zs).take (s + 1))
theorem begin_lt : beginN < 4294967296 := by decide
theorem stN_lt (zs : List Int) (s : Nat) : stN zs s < 4294967296 := lastOf_lt _ begin_lt
theorem stN_step {zs : List Int} {s n : Nat} (hn : (nibs zs)[s]? = some (n : Int)) : stN zs s = stepN (lastOf beginN ((nibs zs).take s)) n := by
  have := lastOf_take (s := beginN) hn
  rwa [Int.toNat_natCast] at this
theorem stN_get {zs : List Int} {s : Nat} (h : s < 2 * zs.length) : (statesOf beginN (nibs zs))[s]? = some ((stN zs s : Nat) : Int) := by
  obtain ⟨n, hn, _⟩ := nibs_get h
  have := statesOf_get (s := beginN) hn
  rw [Int.toNat_natCast, ← stN_step hn] at this
  exact this
theorem states_len (zs : List Int) : (statesOf beginN (nibs zs)).length = 2 * zs.length := by rw [statesOf_len, nibs_len]

/-- The symbol at a place; a row of them. -/
def codeN (zs : List Int) (k : Nat) : Nat := symN (stN zs (segN (2 * zs.length) k)) (k / (2 * zs.length))
theorem codeN_lt (zs : List Int) (k : Nat) : codeN zs k < 256 := symN_lt _ _
theorem codeN_place {zs : List Int} {s i : Nat} (hn : 2 * zs.length < 65) (hs : s < 2 * zs.length) : codeN zs (i * (2 * zs.length) + posN (2 * zs.length) s) = symN (stN zs s) i := by
  unfold codeN
  rw [segN_place hn hs, place_div (posN_lt hn hs)]
def codeL (zs : List Int) (f c : Nat) : List Int := (List.range c).map fun j => ((codeN zs (f + j) : Nat) : Int)
theorem codeL_len (zs : List Int) (f c : Nat) : (codeL zs f c).length = c := by simp [codeL]
theorem codeL_get {zs : List Int} {f c j : Nat} (h : j < c) : (codeL zs f c)[j]? = some ((codeN zs (f + j) : Nat) : Int) := by
  unfold codeL
  rw [List.getElem?_map, List.getElem?_range h]
  rfl
theorem codeL_next (zs : List Int) (f c : Nat) : codeL zs f (c + 1) = codeL zs f c ++ [((codeN zs (f + c) : Nat) : Int)] := by simp [codeL, List.range_succ]
theorem codeL_bd (zs : List Int) (f c : Nat) : ∀ z ∈ codeL zs f c, 0 ≤ z ∧ z ≤ 255 := fun z hz => by
  obtain ⟨j, _, rfl⟩ := List.mem_map.1 hz
  have := codeN_lt zs (f + j)
  omega
/-- A part of a row of symbols. -/
theorem codeL_part {zs : List Int} {f c p n : Nat} (h : p + n ≤ c) : ((codeL zs f c).drop p).take n = codeL zs (f + p) n := by
  apply List.ext_getElem?
  intro j
  rw [List.getElem?_take]
  by_cases hj : j < n
  · rw [if_pos hj, List.getElem?_drop, codeL_get (by omega), codeL_get hj, Nat.add_assoc]
  · rw [if_neg hj, List.getElem?_eq_none]
    rw [codeL_len]; omega

/-- Where a segment's first four symbols are alike the states are. -/
theorem st_of_four {xs ys : List Int} {s : Nat} (h : ∀ i, i < 4 → symN (stN xs s) i = symN (stN ys s) i) : stN xs s = stN ys s := four_inj (stN_lt _ _) (stN_lt _ _) h

/-- Unlike blocks have an unlike symbol in the first four passes. -/
theorem code_inj {xs ys : List Int} (hl : ys.length = xs.length) (hn : xs.length ≤ 32) (bx : ∀ z ∈ xs, 0 ≤ z ∧ z ≤ 255) (bt : ∀ z ∈ ys, 0 ≤ z ∧ z ≤ 255) :
    codeL xs 0 (4 * (2 * xs.length)) = codeL ys 0 (4 * (2 * xs.length)) ↔ xs = ys := by
  refine ⟨fun h => ?_, fun h => by rw [h]⟩
  have hst : statesOf beginN (nibs xs) = statesOf beginN (nibs ys) := by
    apply List.ext_getElem?
    intro s
    by_cases hs : s < 2 * xs.length
    · rw [stN_get hs, stN_get (by omega)]
      congr 2
      apply st_of_four
      intro i hi
      have hp := posN_lt (show 2 * xs.length < 65 by omega) hs
      have hlt : i * (2 * xs.length) + posN (2 * xs.length) s < 4 * (2 * xs.length) := by
        have : i * (2 * xs.length) ≤ 3 * (2 * xs.length) := Nat.mul_le_mul_right _ (by omega)
        omega
      have h1 := codeL_get (zs := xs) (f := 0) hlt
      have h2 := codeL_get (zs := ys) (f := 0) hlt
      rw [h, h2, Nat.zero_add, Option.some_inj] at h1
      have h3 := codeN_place (zs := xs) (i := i) (by omega) hs
      have h4 := codeN_place (zs := ys) (i := i) (by omega) (show s < 2 * ys.length by omega)
      rw [hl] at h4
      omega
    · rw [List.getElem?_eq_none (by rw [states_len]; omega), List.getElem?_eq_none (by rw [states_len]; omega)]
  exact nibs_inj bx bt (statesOf_inj begin_lt (nibs_path _) (nibs_path _) hst)

end Go.Proofs.YtokejgoplalkhabGreatDoor

/-
  What code.Segs and code.Encode answer, as long as sched's table reads as it was laid.
-/
namespace Go.Proofs.YtokejgoplalkhabGreatDoor
open Go.RowKit

theorem infoCodeByte : (Tryz.prog.info? 5).map (fun i => (i.zero, i.size, i.bytes)) = some (some (.int .u8 0), 1, 1) := by kernel_rfl

set_option maxHeartbeats 1000000 in
theorem Segs_any (k : Int) (w : World) : Calls Tryz.prog 32 #[.int .i64 k] w fun e w' => e = .returned (.int .i64 (if 0 ≤ k ∧ k ≤ 32 then 2 * k else 0)) ∧ w = w' := by
  by_cases h0 : k < 0
  · rw [if_neg (by omega)]
    have d0 : decide (k < 0) = true := decide_eq_true h0
    go_enter Tryz.func32, Tryz.ntmps32
    go_wp2
    go_ret
    exact ⟨rfl, rfl⟩
  · have d0 : decide (k < 0) = false := decide_eq_false h0
    by_cases h1 : 32 < k
    · rw [if_neg (by omega)]
      have d1 : decide (32 < k) = true := decide_eq_true h1
      go_enter Tryz.func32, Tryz.ntmps32
      go_wp2
      go_ret
      exact ⟨rfl, rfl⟩
    · rw [if_pos (by omega)]
      have d1 : decide (32 < k) = false := decide_eq_false h1
      have h2 : 0 ≤ k := by omega
      have h3 : k ≤ 32 := by omega
      go_enter Tryz.func32, Tryz.ntmps32
      go_wp2
      go_ret
      exact ⟨rfl, rfl⟩

theorem Segs_num (n : Nat) (hn : n ≤ 32) (w : World) : Calls Tryz.prog 32 #[.int .i64 (n : Int)] w fun e w' => e = .returned (.int .i64 ((2 * n : Nat) : Int)) ∧ w = w' := by
  have := Segs_any (n : Int) w
  rw [if_pos (by omega)] at this
  exact this
theorem Segs_none (n : Nat) (hn : n < 1 ∨ 32 < n) (w : World) : Calls Tryz.prog 32 #[.int .i64 (n : Int)] w fun e w' => e = .returned (.int .i64 0) ∧ w = w' := by
  have := Segs_any (n : Int) w
  by_cases h : 0 ≤ (n : Int) ∧ (n : Int) ≤ 32
  · rw [if_pos h] at this
    obtain rfl : n = 0 := by omega
    exact this
  · rw [if_neg h] at this
    exact this

set_option maxHeartbeats 1000000 in
theorem isPart_yes (L f c : Nat) (h : f + c ≤ L) (hL : L ≤ 1024) (w : World) : Calls Tryz.prog 54 #[.int .i64 (L : Int), .int .i64 (f : Int), .int .i64 (c : Int)] w fun e w' => e = .returned (.bool true) ∧ w = w' := by
  have d0 : decide (0 ≤ (f : Int)) = true := decide_eq_true (by omega)
  have d1 : decide (0 ≤ (c : Int)) = true := decide_eq_true (by omega)
  have d2 : decide ((c : Int) ≤ (L : Int) - (f : Int)) = true := decide_eq_true (by omega)
  have hf : f ≤ 1024 := by omega
  clear h
  go_enter Tryz.func54, Tryz.ntmps54
  go_wp2
  go_ret
  exact ⟨rfl, rfl⟩

set_option maxHeartbeats 1000000 in
theorem isPart_no (L : Nat) (f c : Int) (h : f < 0 ∨ c < 0 ∨ (L : Int) < f + c) (hL : L ≤ 1024) (hf : f < 9223372036854775808) (w : World) : Calls Tryz.prog 54 #[.int .i64 (L : Int), .int .i64 f, .int .i64 c] w fun e w' => e = .returned (.bool false) ∧ w = w' := by
  by_cases h0 : f < 0
  · have d0 : decide (0 ≤ f) = false := decide_eq_false (by omega)
    clear h
    go_enter Tryz.func54, Tryz.ntmps54
    go_wp2
    go_ret
    exact ⟨rfl, rfl⟩
  · have d0 : decide (0 ≤ f) = true := decide_eq_true (by omega)
    by_cases h1 : c < 0
    · have d1 : decide (0 ≤ c) = false := decide_eq_false (by omega)
      clear h
      go_enter Tryz.func54, Tryz.ntmps54
      go_wp2
      go_ret
      exact ⟨rfl, rfl⟩
    · have d1 : decide (0 ≤ c) = true := decide_eq_true (by omega)
      have d2 : decide (c ≤ (L : Int) - f) = false := decide_eq_false (by omega)
      have h2 : 0 ≤ f := by omega
      clear h
      go_enter Tryz.func54, Tryz.ntmps54
      go_wp2
      go_ret
      exact ⟨rfl, rfl⟩

set_option maxRecDepth 100000 in
set_option maxHeartbeats 2000000 in
theorem statesOf_ok (a : Option Addr) (cap : Nat) (zs : List Int) (hn : zs.length ≤ 32) (bz : ∀ z ∈ zs, 0 ≤ z ∧ z ≤ 255) (w : World) (ha : Holds .u8 w.heap.size w (.slice a zs.length cap) zs) :
    Calls Tryz.prog 55 #[.slice a zs.length cap] w fun e W' => ∃ r, e = .returned (.tuple #[r, .int .i64 0]) ∧ Kept .u32 W' r (statesOf beginN (nibs zs)) ∧ Below w.heap.size w W' := by
  have HB : Hid (∀ z ∈ zs, 0 ≤ z ∧ z ≤ 255) := bz
  clear bz
  go_enter Tryz.func55, Tryz.ntmps55
  go_wp2_with fail
  refine (nibs_any _ zs (by omega) HB.out w ha).mono ?_
  rintro e w1 ⟨r1, rfl, o1, b1⟩
  have h1 : Holds .i64 w1.heap.size w1 r1 (nibs zs) := holds_of_row o1
  obtain ⟨a1, c1, rfl⟩ := h1.shape
  have HNL : Hid ((nibs zs).length = 2 * zs.length) := nibs_len zs
  clear o1 ha
  go_wp2_with fail
  refine (States_ok a1 c1 (nibs zs) (by rw [HNL.out]; omega) (nibs_path zs) w1 h1).mono ?_
  rintro e w2 ⟨r2, rfl, k2, b2⟩
  go_wp2
  go_ret2
  exact ⟨r2, rfl, k2, b1.trans (b2.mono b1.size)⟩

set_option maxRecDepth 100000 in
set_option maxHeartbeats 2000000 in
theorem symbolAt_ok (a : Option Addr) (n cap : Nat) (zs : List Int) (hne : 2 * zs.length = n) (h1 : 1 ≤ n) (hn : n < 65) (k : Nat) (hk : k < n * 16) (w : World) (hF : Firsts w) (ha : Holds .u32 w.heap.size w (.slice a n cap) (statesOf beginN (nibs zs))) :
    Calls Tryz.prog 56 #[.slice a n cap, .int .i64 (k : Int)] w fun e W' => e = .returned (.tuple #[.int .i64 ((codeN zs k : Nat) : Int), .int .i64 0]) ∧ Below w.heap.size w W' := by
  have hs := segN_get h1 hn k
  have hsn := hs.2
  have HSL : Hid ((statesOf beginN (nibs zs)).length = n) := (states_len zs).trans hne
  have hst : ∃ b off, a = some ⟨b, off, none⟩ ∧ b < w.heap.size ∧ w.cell? ⟨b, off + segN n k, none⟩ = some (.int .u32 ((stN zs (segN n k) : Nat) : Int)) := by
    rcases ha with ⟨_, e⟩ | ⟨b, off, c', e, hbl, hcell⟩
    · have := HSL.out; rw [e] at this; simp at this; omega
    · cases e
      exact ⟨b, off, rfl, hbl, (hcell _ (by rw [HSL.out]; exact hsn)).trans (by rw [stN_get (by omega)]; rfl)⟩
  obtain ⟨b, off, rfl, hb, hc⟩ := hst
  have HCN : Hid (symN (stN zs (segN n k)) (k / n) = codeN zs k) := by
    show _ = codeN zs k
    unfold codeN
    rw [hne]
  have hstl := stN_lt zs (segN n k)
  have hd16 : k / n < 16 := Nat.div_lt_of_lt_mul hk
  have HA := At_ok n k _ h1 hn hk hs.1 w hF
  clear ha hs HSL
  obtain ⟨x, hxe⟩ : ∃ x, segN n k = x := ⟨_, rfl⟩
  rw [hxe] at hc HCN hstl HA hsn
  obtain ⟨s, hse⟩ : ∃ s, stN zs x = s := ⟨_, rfl⟩
  rw [hse] at hc HCN hstl
  obtain ⟨d, hde⟩ : ∃ d, k / n = d := ⟨_, rfl⟩
  rw [hde] at HCN hd16 HA
  clear hxe hse hde
  go_enter Tryz.func56, Tryz.ntmps56
  go_wp2_with fail
  refine HA.mono ?_
  rintro e w1 ⟨rfl, b1⟩
  have c1 := (b1.cell (p := ⟨b, off + x, none⟩) hb).trans hc
  clear hc HA
  go_wp2_with fail
  refine (Of_ok s d hstl (by omega) w1).mono ?_
  rw [HCN.out]
  rintro e w2 ⟨rfl, rfl⟩
  go_wp2
  go_ret2
  exact ⟨rfl, b1⟩

set_option maxRecDepth 100000 in
set_option maxHeartbeats 1000000 in
theorem Encode_len (a : Option Addr) (n cap : Nat) (f c : Int) (h : n < 1 ∨ 32 < n) (w : World) : Calls Tryz.prog 28 #[.slice a n cap, .int .i64 f, .int .i64 c] w fun e w' => e = .returned (.tuple #[.slice none 0 0, .int .i64 2]) ∧ Below w.heap.size w w' := by
  have HS := Segs_none n h w
  clear h
  go_enter Tryz.func28, Tryz.ntmps28
  go_wp2_with fail
  refine HS.mono ?_
  rintro e w1 ⟨rfl, rfl⟩
  go_wp2
  go_ret2
  exact ⟨rfl, Below.refl _ _⟩

set_option maxRecDepth 100000 in
set_option maxHeartbeats 1000000 in
theorem Encode_arg (a : Option Addr) (n cap : Nat) (f c : Int) (h1 : 1 ≤ n) (hn : n ≤ 32) (h : f < 0 ∨ c < 0 ∨ 32 * (n : Int) < f + c) (hf : f < 9223372036854775808) (w : World) : Calls Tryz.prog 28 #[.slice a n cap, .int .i64 f, .int .i64 c] w fun e w' => e = .returned (.tuple #[.slice none 0 0, .int .i64 1]) ∧ Below w.heap.size w w' := by
  have HS := Segs_num n hn w
  have HP := isPart_no (2 * n * 16) f c (by omega) (by omega) hf w
  obtain ⟨N, hN⟩ : ∃ N, 2 * n = N := ⟨_, rfl⟩
  rw [hN] at HS HP
  have e1 : (N : Int) * 16 = ((N * 16 : Nat) : Int) := by omega
  obtain ⟨M, hM⟩ : ∃ M, N * 16 = M := ⟨_, rfl⟩
  rw [hM] at HP e1
  have N1 : 1 ≤ N := by omega
  have hz : ((N : Int) == 0) = false := by rw [beq_eq_false_iff_ne]; omega
  have N65 : N ≤ 64 := by omega
  clear hM hN h
  go_enter Tryz.func28, Tryz.ntmps28
  go_wp2_with fail
  refine HS.mono ?_
  rintro e w1 ⟨rfl, rfl⟩
  go_wp2_with fail
  refine HP.mono ?_
  rintro e w1 ⟨rfl, rfl⟩
  go_wp2
  go_ret2
  exact ⟨rfl, Below.refl _ _⟩

set_option maxRecDepth 100000 in
set_option maxHeartbeats 4000000 in
theorem Encode_row (a : Option Addr) (n cap : Nat) (zs : List Int) (hz : zs.length = n) (h1 : 1 ≤ n) (hn : n ≤ 32) (bz : ∀ z ∈ zs, 0 ≤ z ∧ z ≤ 255) (f c : Nat) (h : f + c ≤ 32 * n) (w : World) (hF : Firsts w) (ha : Holds .u8 w.heap.size w (.slice a n cap) zs) :
    Calls Tryz.prog 28 #[.slice a n cap, .int .i64 f, .int .i64 c] w fun e W' => ∃ r, e = .returned (.tuple #[r, .int .i64 0]) ∧ W'.ownsRow w.heap.size 5 1 r c ((codeL zs f c).map (Value.int .u8)) ∧ Below w.heap.size w W' := by
  subst hz
  obtain ⟨i0, hi, hz0, hz1, hz2⟩ := info_parts infoCodeByte
  have HS := Segs_num zs.length hn w
  have HP := isPart_yes (2 * zs.length * 16) f c (by omega) (by omega) w
  have HST := statesOf_ok a cap zs hn bz w ha
  have HSL : Hid ((statesOf beginN (nibs zs)).length = 2 * zs.length) := states_len zs
  obtain ⟨N, hN⟩ : ∃ N, 2 * zs.length = N := ⟨_, rfl⟩
  have HN : Hid (2 * zs.length = N) := hN
  rw [hN] at HS HP HSL
  have e1 : (N : Int) * 16 = ((N * 16 : Nat) : Int) := by omega
  have HFC : Hid (f + c ≤ N * 16) := by
    show f + c ≤ N * 16
    omega
  obtain ⟨M, hM⟩ : ∃ M, N * 16 = M := ⟨_, rfl⟩
  rw [hM] at HP e1
  have N1 : 1 ≤ N := by omega
  have hq : ((N : Int) == 0) = false := by rw [beq_eq_false_iff_ne]; omega
  have N65 : N < 65 := by omega
  have hc1 : f + c ≤ 1024 := by omega
  clear hM hN h bz ha
  go_enter Tryz.func28, Tryz.ntmps28
  go_wp2_with fail
  refine HS.mono ?_
  rintro e w1 ⟨rfl, rfl⟩
  go_wp2_with fail
  refine HP.mono ?_
  rintro e w1 ⟨rfl, rfl⟩
  go_wp2_with fail
  refine HST.mono ?_
  rintro e w1 ⟨r1, rfl, ⟨hr1, ar, cr, rfl, _⟩, b1⟩
  rw [HSL.out] at hr1 ⊢
  have hF1 := hF.next b1
  clear HS HP HST hF
  go_wp2_with (at_make; refine wpList_make_own _ rfl _ _ 31 rfl w1.heap.size 5 i0 (.int .u8 0) 1 Tryz.underlying31 hi hz0 hz1 .i64 .i64 _ c rfl rfl (by omega) (by rw [hz2]; omega) (by unfold maxLen; omega) (Nat.le_refl _) ?_; intro w2 hown2 hgrow2)
  have b2 : Below w1.heap.size w1 w2 := (Below.refl _ w1).grown hgrow2 (Nat.le_refl _) (fun k e => by cases e)
  clear hgrow2
  go_wp2
  go_loopw [11, 37] (fun v i wr => ∃ k : Nat, k ≤ c ∧ i = .int .i64 k ∧ wr.ownsRow w1.heap.size 5 1 v k ((codeL zs f k).map (Value.int .u8)) ∧ Below w1.heap.size w1 wr) (fun _ i _ => c - (intOf i).toNat)
  case atStart => exact ⟨0, Nat.zero_le _, rfl, hown2, b2⟩
  case round =>
    clear hown2 b2
    obtain ⟨k, hk, rfl, ho, hbw⟩ := hrel
    by_cases hlt : k < c
    · have HX := symbolAt_ok ar N cr zs HN.out N1 N65 (f + k) (by have := HFC.out; omega) wr (hF1.next hbw) (hr1.next hbw)
      have HNX : Hid (codeL zs f (k + 1) = codeL zs f k ++ [((codeN zs (f + k) : Nat) : Int)]) := codeL_next zs f k
      have hxl := codeN_lt zs (f + k)
      obtain ⟨x, hxe⟩ : ∃ x, codeN zs (f + k) = x := ⟨_, rfl⟩
      rw [hxe] at HX HNX hxl
      have e2 : (f : Int) + (k : Int) = ((f + k : Nat) : Int) := by omega
      obtain ⟨K, hKe⟩ : ∃ K, f + k = K := ⟨_, rfl⟩
      rw [hKe] at HX e2
      have ew : IntKind.u8.wrap (x : Int) = (x : Int) := by rw [IntKind.wrap_u8]; omega
      clear hxe hKe
      go_wp2_with fail
      refine HX.mono ?_
      rintro e w3 ⟨rfl, b3⟩
      have ho3 : w3.ownsRow w1.heap.size 5 1 u11 k ((codeL zs f k).map (Value.int .u8)) := row_below ho b3 (Nat.le_refl _)
      have b13 := hbw.trans (b3.mono hbw.size)
      clear ho HX
      go_wp2_with (at_builtin; refine wpList_append_own _ rfl _ _ 31 rfl w1.heap.size 5 i0 (.int .u8 0) 1 1 Tryz.underlying31 hi hz0 hz1 hz2 rfl (by decide) _ k _ rfl (ho3.alloc _) ⟨w3.heap.size, 0, none⟩ 1 1 [.int .u8 x] rfl rfl (cell_one_new _ _ _) (by simp [Value.oneCell']) (by unfold maxLen; omega) (by omega) (by have := b13.size; simp; omega) ?_; intro v4 w4 hown4 hgrow4 _)
      have b4 : Below w1.heap.size w1 w4 := (b13.alloc b13.size _).trans ((Below.refl _ _).grown hgrow4 (by have := b13.size; simp; omega) (fun q e => (ho3.lt q e).1))
      refine ⟨⟨k + 1, by omega, by go_num, ?_, b4⟩, by simp [intOf]; omega⟩
      rw [HNX.out, List.map_append]
      exact hown4
    · obtain rfl : k = c := by omega
      clear hr1
      go_wp2
      go_ret2
      exact ⟨_, rfl, row_base ho b1.size, b1.trans (hbw.mono b1.size)⟩

theorem Encode_ok (a : Option Addr) (n cap : Nat) (zs : List Int) (hz : zs.length = n) (h1 : 1 ≤ n) (hn : n ≤ 32) (bz : ∀ z ∈ zs, 0 ≤ z ∧ z ≤ 255) (f c : Nat) (h : f + c ≤ 32 * n) (w : World) (hF : Firsts w) (ha : Holds .u8 w.heap.size w (.slice a n cap) zs) :
    Calls Tryz.prog 28 #[.slice a n cap, .int .i64 f, .int .i64 c] w fun e W' => ∃ r, e = .returned (.tuple #[r, .int .i64 0]) ∧ Kept .u8 W' r (codeL zs f c) ∧ Below w.heap.size w W' :=
  (Encode_row a n cap zs hz h1 hn bz f c h w hF ha).mono fun _ _ ⟨r, he, o, b⟩ => ⟨r, he, kept_of_row o, b⟩

end Go.Proofs.YtokejgoplalkhabGreatDoor
