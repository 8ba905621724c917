/-
  The mixer as numbers: what is mixed is turned back. No program is spoken of.
-/
import Derived.Test.YtmjidhnlofpliabM01
import Derived.Test.YtmjidhnlofpliabM02
import Derived.Test.YtmjidhnlofpliabM05
import Derived.Test.YtmjidhnlofpliabM06
import Derived.BigQuiet
import Derived.Deep.QuietTactic
import Derived.Laws.BitsLemmas
import Derived.Lib.BitFns
import Derived.Maps.AppendAt
import Derived.Test.YtmjidhnlofpliabRows
import Derived.WalkKit
import Derived.WalkLawsBesides
import Derived.WalkSpells
namespace Go.Proofs.Ytmjidhnlofpliab

end Go.Proofs.Ytmjidhnlofpliab

/-
  States behind nibbles as numbers. No program is spoken of.
-/
namespace Go.Proofs.Ytmjidhnlofpliab

/-- Nibbles alone. -/
def Path (zs : List Int) : Prop := ∀ z ∈ zs, 0 ≤ z ∧ z ≤ 15
theorem Path.tail {z : Int} {zs : List Int} (h : Path (z :: zs)) : Path zs := fun x hx => h x (List.mem_cons_of_mem _ hx)
theorem Path.head {z : Int} {zs : List Int} (h : Path (z :: zs)) : 0 ≤ z ∧ z ≤ 15 := h z List.mem_cons_self
theorem Path.take {zs : List Int} (h : Path zs) (k : Nat) : Path (zs.take k) := fun x hx => h x (List.mem_of_mem_take hx)
theorem Path.get {zs : List Int} (h : Path zs) {k : Nat} {z : Int} (e : zs[k]? = some z) : 0 ≤ z ∧ z ≤ 15 := h z (List.mem_of_getElem? e)

end Go.Proofs.Ytmjidhnlofpliab

/-
  Symbols of states as numbers. No program is spoken of.
-/
namespace Go.Proofs.Ytmjidhnlofpliab

end Go.Proofs.Ytmjidhnlofpliab

/-
  Plain facts on numbers: how many of a number's lowest bits are 1 ('pcTo k n'), by parts, with one bit more or less. No program is spoken of.
-/
namespace Go.Proofs.Ytmjidhnlofpliab

/-- How many of n's k lowest bits are 1. -/
def pcTo : Nat → Nat → Nat
  | 0, _ => 0
  | k + 1, n => pcTo k n + (n.testBit k).toNat

/-! ### Bits of the machine's numbers, where none is below 0 -/

theorem wraps_i64 (n : Int) (h0 : 0 ≤ n) (h1 : n < 2 ^ 63) : IntKind.i64.wrap n = n := by
  have e : (2 : Int) ^ 63 = 9223372036854775808 := by decide
  rw [e] at h1; rw [IntKind.wrap_i64]; omega

end Go.Proofs.Ytmjidhnlofpliab

/-
  What bit.isSize, bit.fits, bit.Put, bit.Get answer, for every argument.
-/
namespace Go.Proofs.Ytmjidhnlofpliab
open Go.RowKit

set_option maxHeartbeats 400000 in
theorem isSize_yes (n : Int) (w : World) (h1 : 1 ≤ n) (h2 : n ≤ 4) :
    Calls Try.prog 63 #[.int .i64 n] w fun e w' => e = .returned (.bool true) ∧ w = w' := by
  go_enter Try.func63, Try.ntmps63
  go_wp2
  go_ret
  exact ⟨rfl, rfl⟩

set_option maxHeartbeats 400000 in
theorem fits_pos (n k : Int) (w : World) (h : 0 ≤ n) (h0 : 0 ≤ k) (hk : k ≤ 32) :
    Calls Try.prog 64 #[.int .i64 n, .int .i64 k] w fun e w' => e = .returned (.bool (n / 2 ^ k.toNat == 0)) ∧ w = w' := by
  obtain ⟨m, rfl⟩ := Int.eq_ofNat_of_zero_le h0
  rw [Int.toNat_natCast]
  go_enter Try.func64, Try.ntmps64
  go_wp2
  go_ret
  exact ⟨rfl, rfl⟩

theorem fits_yes (n k : Int) (w : World) (h : 0 ≤ n) (h0 : 0 ≤ k) (hk : k ≤ 32) (hn : n / 2 ^ k.toNat = 0) :
    Calls Try.prog 64 #[.int .i64 n, .int .i64 k] w fun e w' => e = .returned (.bool true) ∧ w = w' := by
  have e := fits_pos n k w h h0 hk
  rw [beq_iff_eq.2 hn] at e
  exact e

/-- A number in so many bytes, the highest first. -/
def beBytes (s : Nat) (n : Int) : List Int := (List.range s).map (fun i => n / 2 ^ (8 * (s - 1 - i)) % 256)

theorem beBytes_len (s : Nat) (n : Int) : (beBytes s n).length = s := by simp [beBytes]

theorem beBytes_next (s m : Nat) (n : Int) (h : m < s) : (beBytes s n).take (s - m) = (beBytes s n).take (s - (m + 1)) ++ [n / 2 ^ (8 * m) % 256] := by
  have e : s - m = s - (m + 1) + 1 := by omega
  rw [e, List.take_add_one]
  have hi : s - (m + 1) < s := by omega
  have : (beBytes s n)[s - (m + 1)]? = some (n / 2 ^ (8 * m) % 256) := by
    simp only [beBytes, List.getElem?_map, List.getElem?_range hi, Option.map_some]
    rw [show s - 1 - (s - (m + 1)) = m from by omega]
  rw [this]; rfl

theorem below_grown' {w w' : World} {base e n g cap : Nat} {xs : List Value} (hown : w.ownsRow base e 1 (.slice (some ⟨g, 0, none⟩) n cap) n xs) (hg : w.grownBy w' (some g)) (hb : base ≤ w.heap.size) : Below base w w' :=
  (Below.refl _ w).grown hg hb (fun k e => by cases e; exact (hown.lt g rfl).1)

theorem holds_hc {kd : IntKind} {n₀ : Nat} {W : World} {a : Option Addr} {cap : Nat} {zs : List Int} (h : Holds kd n₀ W (.slice a zs.length cap) zs) :
    (a = none → zs.length = 0 ∧ cap = 0) ∧ ∀ ad, a = some ad → ∀ j u, (zs.map (Value.int kd))[j]? = some u → W.cell? (ad.add j) = some u := by
  rcases h with ⟨⟨a', cap', e, hc⟩, rfl⟩ | ⟨b, off, cap', e, _, hcs⟩
  · cases e
    exact ⟨fun e => ⟨rfl, hc e⟩, by simp⟩
  · cases e
    exact ⟨fun e => (by cases e), fun ad e => by cases e; exact holds_cells hcs⟩

set_option maxRecDepth 100000 in
set_option maxHeartbeats 2000000 in
theorem put_ok (a : Option Addr) (cap : Nat) (zs : List Int) (n : Int) (s : Nat) (w : World) (n₀ : Nat) (h1 : 1 ≤ s) (h2 : s ≤ 4) (h3 : 0 ≤ n) (h4 : n / 2 ^ (8 * s) = 0) (h5 : zs.length ≤ 4096 - s) (hn₀ : n₀ ≤ w.heap.size) (hH : Holds .u8 n₀ w (.slice a zs.length cap) zs) :
    Calls Try.prog 41 #[.slice a zs.length cap, .int .i64 n, .int .i64 s] w fun e W' => ∃ r, e = .returned (.tuple #[r, .int .i64 0]) ∧ W'.ownsRow w.heap.size 5 1 r (zs.length + s) ((zs ++ beBytes s n).map (Value.int .u8)) ∧ Below w.heap.size w W' := by
  obtain ⟨i0, hi, hz0, hz1, hz2⟩ := info_parts infoU8
  have H4 : Hid (n / 2 ^ (8 * (s : Int)).toNat = 0) := by
    have e : (8 * (s : Int)).toNat = 8 * s := by omega
    show n / 2 ^ (8 * (s : Int)).toNat = 0
    rw [e]; exact h4
  clear h4
  have d5 : decide (4096 - (s : Int) < (zs.length : Int)) = false := by simp; omega
  have hcc := (holds_hc hH).1
  go_enter Try.func41, Try.ntmps41
  go_wp2_with (first | (go_at_call 63; refine (isSize_yes _ _ (by omega) (by omega)).mono ?_; rintro e w' ⟨rfl, rfl⟩) | (go_at_call 64; refine (fits_yes _ _ _ h3 (by omega) (by omega) H4.out).mono ?_; rintro e w' ⟨rfl, rfl⟩) | (at_make; refine wpList_make_own _ rfl _ _ 26 rfl w.heap.size 5 i0 (.int .u8 0) 1 Try.underlying26 hi hz0 hz1 .i64 .i64 _ (zs.length + s) rfl rfl (by omega) (by rw [hz2]; omega) (by unfold maxLen; omega) (Nat.le_refl _) ?_; intro w1 hown1 hgrow1) | (at_builtin; refine wpList_append_fits_any _ rfl _ _ 26 rfl w.heap.size 5 i0 1 Try.underlying26 hi hz1 w.heap.size 0 (zs.length + s) [] rfl hown1 a zs.length cap (zs.map (Value.int .u8)) rfl (by simp) hcc (holds_hc (hH.below ((Below.refl n₀ w).grown hgrow1 hn₀ (fun k e => by cases e)))).2 (oneCells _ _) (by omega) ?_; intro w2 hown2 hgrow2))
  have b1 : Below w.heap.size w w1 := (Below.refl _ w).grown hgrow1 (Nat.le_refl _) (fun k e => by cases e)
  have b2 : Below w.heap.size w w2 := b1.trans (below_grown' hown1 hgrow2 b1.size)
  have hown2' : w2.ownsRow w.heap.size 5 1 (.slice (some ⟨w.heap.size, 0, none⟩) (zs.length + (s - s)) (zs.length + s)) (zs.length + (s - s)) ((zs ++ (beBytes s n).take (s - s)).map (Value.int .u8)) := by
    simpa using hown2
  have e0 : zs.length + (s - s) = zs.length := by omega
  have E0 : Hid (zs.length + (s - s) = zs.length) := e0
  clear hown1 hgrow1 hown2 hgrow2 b1 hcc e0 hH
  go_loopw [8, 9] (fun v i wr => ∃ l : Nat, l ≤ s ∧ i = .int .i64 ((l : Int) - 1) ∧ v = .slice (some ⟨w.heap.size, 0, none⟩) (zs.length + (s - l)) (zs.length + s) ∧ wr.ownsRow w.heap.size 5 1 v (zs.length + (s - l)) ((zs ++ (beBytes s n).take (s - l)).map (Value.int .u8)) ∧ Below w.heap.size w wr) (fun _ i _ => (intOf i + 1).toNat)
  case atStart => exact ⟨s, Nat.le_refl _, rfl, by rw [E0.out], by have h := hown2'; rw [E0.out] at h ⊢; exact h, b2⟩
  case round =>
    obtain ⟨l, hl, rfl, rfl, ho, hbw⟩ := hrel
    cases l with
    | zero =>
      go_wp2
      go_ret2
      refine ⟨_, rfl, ?_, hbw⟩
      simpa [List.take_of_length_le, beBytes_len] using ho
    | succ m =>
      have hm : ((m + 1 : Nat) : Int) - 1 = (m : Int) := by omega
      rw [hm]
      have HM : Hid _ := beBytes_next s m n (by omega)
      have hml : m ≤ 3 := by omega
      go_wp2_with (at_builtin; refine wpList_append_fits _ rfl _ _ 26 rfl w.heap.size 5 i0 1 Try.underlying26 hi hz1 w.heap.size (zs.length + (s - (m + 1))) (zs.length + s) _ rfl (ho.alloc _) ⟨wr.heap.size, 0, none⟩ 1 1 [.int .u8 (n / 2 ^ (8 * m) % 256)] rfl rfl (cell_one_new _ _ _) (by simp [Value.oneCell']) (by omega) ?_; intro w3 hown3 hgrow3)
      have e1 : zs.length + (s - (m + 1)) + 1 = zs.length + (s - m) := by omega
      have b3 : Below w.heap.size w w3 := (hbw.alloc hbw.size _).trans (below_grown' (ho.alloc _) hgrow3 (by have := hbw.size; simp; omega))
      refine ⟨⟨m, by omega, rfl, by rw [e1], ?_, b3⟩, by simp [intOf]⟩
      rw [HM.out, e1]
      rw [e1] at hown3
      simpa using hown3

end Go.Proofs.Ytmjidhnlofpliab

/-
  What bit.Get and the page's Get answer, for every text and every argument.
-/
namespace Go.Proofs.Ytmjidhnlofpliab
open Go.RowKit

/-- The number that bytes make, the highest first. -/
def beNum (l : List Int) : Int := l.foldl (fun acc x => acc * 256 + x) 0

theorem beNum_snoc (l : List Int) (x : Int) : beNum (l ++ [x]) = beNum l * 256 + x := by simp [beNum]

theorem beNum_bd (l : List Int) (h : ∀ z ∈ l, 0 ≤ z ∧ z ≤ 255) : 0 ≤ beNum l ∧ beNum l < 256 ^ l.length := by
  have key : ∀ (k : Nat) (l : List Int), l.length = k → (∀ z ∈ l, 0 ≤ z ∧ z ≤ 255) → 0 ≤ beNum l ∧ beNum l < 256 ^ l.length := by
    intro k
    induction k with
    | zero =>
      intro l hl _
      rw [List.length_eq_zero_iff.1 hl]
      simp [beNum]
    | succ k ih =>
      intro l hl hb
      have hne : l ≠ [] := fun e => by rw [e] at hl; simp at hl
      rw [← List.dropLast_concat_getLast hne] at hb ⊢
      have h1 := ih l.dropLast (by simp [hl]) (fun z hz => hb z (List.mem_append_left _ hz))
      have h2 := hb (l.getLast hne) (by simp)
      rw [beNum_snoc, List.length_append, List.length_singleton, Int.pow_succ]
      omega
  exact key _ l rfl h

theorem or_join (acc x : Int) (h0 : 0 ≤ acc) (h1 : acc < 4294967296) (hx : 0 ≤ x) (hx' : x ≤ 255) : bits .or .i64 (acc * 256) x = acc * 256 + x := by
  have e63 : (2 : Int) ^ 63 = 9223372036854775808 := by decide
  exact bits_join .i64 63 (by decide) wraps_i64 8 (acc * 256) x (by omega) (by simp) (by rw [e63]; omega) hx (by simp; omega) (by rw [e63]; omega)

theorem take_drop_succ {zs : List Int} {t j : Nat} {z : Int} (h : zs[t + j]? = some z) : (zs.drop t).take (j + 1) = (zs.drop t).take j ++ [z] := by
  rw [List.take_add_one, List.getElem?_drop, h]; rfl

theorem take_bd (zs : List Int) (hz : ∀ z ∈ zs, 0 ≤ z ∧ z ≤ 255) (t j k : Nat) (hj : j ≤ k) : 0 ≤ beNum ((zs.drop t).take j) ∧ beNum ((zs.drop t).take j) < 256 ^ k := by
  have h := beNum_bd ((zs.drop t).take j) (fun z h => hz z (List.mem_of_mem_drop (List.mem_of_mem_take h)))
  have hl : ((zs.drop t).take j).length ≤ k := Nat.le_trans (List.length_take_le _ _) hj
  refine ⟨h.1, Int.lt_of_lt_of_le h.2 ?_⟩
  have h' := Int.ofNat_le.2 (Nat.pow_le_pow_right (n := 256) (by decide) hl)
  rw [Int.natCast_pow, Int.natCast_pow] at h'
  exact h'

set_option maxRecDepth 100000 in
set_option maxHeartbeats 2000000 in
theorem get_ok (b off cap : Nat) (zs : List Int) (t s : Nat) (w : World) (h1 : 1 ≤ s) (h2 : s ≤ 4) (h3 : t + s ≤ zs.length) (hcap : zs.length ≤ cap) (hl : zs.length ≤ 4294967296) (hz : ∀ z ∈ zs, 0 ≤ z ∧ z ≤ 255)
    (hc : ∀ j, j < zs.length → w.cell? ⟨b, off + j, none⟩ = some (.int .u8 (zs[j]?.getD 0))) :
    Calls Try.prog 68 #[.slice (some ⟨b, off, none⟩) zs.length cap, .int .i64 t, .int .i64 s] w fun e w' => e = .returned (.tuple #[.int .i64 (beNum ((zs.drop t).take s)), .int .i64 0]) ∧ w = w' := by
  have d1 : decide ((t : Int) < 0) = false := by simp
  have d2 : decide (zs.length < t) = false := by simp; omega
  have d3 : decide ((zs.length : Int) - (t : Int) < (s : Int)) = false := by simp; omega
  go_enter Try.func68, Try.ntmps68
  go_wp2_with (go_at_call 63; refine (isSize_yes _ _ (by omega) (by omega)).mono ?_; rintro e w' ⟨rfl, rfl⟩)
  go_loop [8, 37] (fun n i => ∃ j : Nat, j ≤ s ∧ i = .int .i64 j ∧ n = .int .i64 (beNum ((zs.drop t).take j))) (fun _ i => s - (intOf i).toNat)
  case atStart => exact ⟨0, Nat.zero_le _, rfl, rfl⟩
  case round =>
    obtain ⟨j, hj, rfl, rfl⟩ := hrel
    have hbd := take_bd zs hz t j 3
    by_cases hlt : j < s
    · obtain ⟨z, hzk, hz0, hz1⟩ : ∃ z, zs[t + j]? = some z ∧ 0 ≤ z ∧ z ≤ 255 := ⟨zs[t + j], by simp, (hz _ (List.getElem_mem _)).1, (hz _ (List.getElem_mem _)).2⟩
      have hcx : w.cell? ⟨b, off + t + j, none⟩ = some (.int .u8 z) := by rw [Nat.add_assoc]; exact (hc (t + j) (by omega)).trans (by rw [hzk]; rfl)
      obtain ⟨h0, h1'⟩ := hbd (by omega)
      have HS : Hid (beNum ((zs.drop t).take (j + 1)) = beNum ((zs.drop t).take j) * 256 + z) := by
        show beNum ((zs.drop t).take (j + 1)) = beNum ((zs.drop t).take j) * 256 + z
        rw [take_drop_succ hzk, beNum_snoc]
      obtain ⟨acc, hacc⟩ : ∃ acc, beNum ((zs.drop t).take j) = acc := ⟨_, rfl⟩
      rw [hacc] at h0 h1' HS ⊢
      have hor := or_join acc z h0 (by omega) hz0 hz1
      have hwz : IntKind.i64.wrap z = z := by rw [IntKind.wrap_i64]; omega
      clear hzk hacc hc hbd hz
      go_wp2
      exact ⟨⟨j + 1, by omega, by go_num, by rw [HS.out]⟩, by simp [intOf]; omega⟩
    · obtain rfl : j = s := by omega
      go_wp2
      go_ret2
      exact ⟨rfl, rfl⟩

end Go.Proofs.Ytmjidhnlofpliab

/-
  Blocks as bytes, as lists of numbers: which may be, which bytes they have, what bytes are read as. No function of the program is spoken of.
-/
namespace Go.Proofs.Ytmjidhnlofpliab
open Go.RowKit

/-- May size, number and mark be? May a text of so many bytes? -/
def bSize (z : Int) : Bool := decide (1 ≤ z) && decide (z ≤ 16)
def bArg (z s m : Int) : Bool := decide (1 ≤ z) && decide (z ≤ 16) && decide (0 ≤ s) && decide (s < 1073741824) && decide (0 ≤ m) && decide (m ≤ 3)
def bLen (z m : Int) (n : Nat) : Bool := decide ((n : Int) ≤ z) && (decide (2 ≤ m) || decide (z ≤ (n : Int)))
/-- The error's number. -/
def errB (z s m : Int) (n : Nat) : Int := if bArg z s m then (if bLen z m n then 0 else 2) else 1

theorem bArg_iff (z s m : Int) : bArg z s m = true ↔ (1 ≤ z ∧ z ≤ 16) ∧ (0 ≤ s ∧ s < 1073741824) ∧ 0 ≤ m ∧ m ≤ 3 := by
  simp only [bArg, Bool.and_eq_true, decide_eq_true_eq]
  omega
theorem bLen_iff (z m : Int) (n : Nat) : bLen z m n = true ↔ (n : Int) ≤ z ∧ (2 ≤ m ∨ z ≤ n) := by
  simp only [bLen, Bool.and_eq_true, Bool.or_eq_true, decide_eq_true_eq]
theorem errB_zero {z s m : Int} {n : Nat} : errB z s m n = 0 ↔ bArg z s m = true ∧ bLen z m n = true := by
  unfold errB
  cases bArg z s m <;> cases bLen z m n <;> simp
theorem errB_arg {z s m : Int} {n : Nat} (h : bArg z s m = false) : errB z s m n = 1 := by simp [errB, h]
theorem errB_len {z s m : Int} {n : Nat} (h : bArg z s m = true) (h' : bLen z m n = false) : errB z s m n = 2 := by simp [errB, h, h']

/-- A block that is right, of size Z. -/
def Right (Z : Nat) (s m : Int) (xs : List Int) : Prop := (1 ≤ Z ∧ Z ≤ 16) ∧ (0 ≤ s ∧ s < 1073741824) ∧ (0 ≤ m ∧ m ≤ 3) ∧ xs.length ≤ Z ∧ (2 ≤ m ∨ Z ≤ xs.length)
theorem right_iff (Z : Nat) (s m : Int) (xs : List Int) : errB (Z : Int) s m xs.length = 0 ↔ Right Z s m xs := by
  rw [errB_zero, bArg_iff, bLen_iff]
  unfold Right
  omega
/-- Its bytes, without and with the seal. -/
def headB (s m : Int) (n : Nat) : List Int := beBytes 4 s ++ [m, (n : Int)]
def bodyB (Z : Nat) (s m : Int) (xs : List Int) : List Int := headB s m xs.length ++ xs ++ List.replicate (Z - xs.length) 0
def bytesB (Z : Nat) (s m : Int) (xs : List Int) : List Int := sealL (bodyB Z s m xs)

theorem beBytes_four (s : Int) : beBytes 4 s = [s / 2 ^ 24 % 256, s / 2 ^ 16 % 256, s / 2 ^ 8 % 256, s / 2 ^ 0 % 256] := by
  simp [beBytes, List.range, List.range.loop]
theorem headB_len (s m : Int) (n : Nat) : (headB s m n).length = 6 := by simp [headB, beBytes_len]
theorem bodyB_len {Z : Nat} {s m : Int} {xs : List Int} (h : xs.length ≤ Z) : (bodyB Z s m xs).length = Z + 6 := by
  simp only [bodyB, List.length_append, headB_len, List.length_replicate]
  omega
theorem sealL_lenB (xs : List Int) : (sealL xs).length = xs.length + 4 := by simp [sealL, four]
theorem beBytes_bd (k : Nat) (s : Int) : ∀ z ∈ beBytes k s, 0 ≤ z ∧ z ≤ 255 := fun z hz => by
  obtain ⟨i, _, rfl⟩ := List.mem_map.1 hz
  have h0 := Int.emod_nonneg (s / 2 ^ (8 * (k - 1 - i))) (show (256 : Int) ≠ 0 by decide)
  have h1 := Int.emod_lt_of_pos (s / 2 ^ (8 * (k - 1 - i))) (show (0 : Int) < 256 by decide)
  omega
theorem headB_bd {s m : Int} {n : Nat} (hm : 0 ≤ m ∧ m ≤ 255) (hn : n ≤ 255) : ∀ z ∈ headB s m n, 0 ≤ z ∧ z ≤ 255 := fun z hz => by
  rcases List.mem_append.1 hz with h | h
  · exact beBytes_bd 4 s z h
  · simp at h
    omega
theorem bodyB_bd {Z : Nat} {s m : Int} {xs : List Int} (h : Right Z s m xs) (bx : ∀ z ∈ xs, 0 ≤ z ∧ z ≤ 255) : ∀ z ∈ bodyB Z s m xs, 0 ≤ z ∧ z ≤ 255 := fun z hz => by
  obtain ⟨h1, h2, h3, h4, _⟩ := h
  rcases List.mem_append.1 hz with h | h
  · rcases List.mem_append.1 h with h | h
    · exact headB_bd (by omega) (by omega) z h
    · exact bx z h
  · have := List.eq_of_mem_replicate h
    omega
theorem sealL_bdB {xs : List Int} (bx : ∀ z ∈ xs, 0 ≤ z ∧ z ≤ 255) : ∀ z ∈ sealL xs, 0 ≤ z ∧ z ≤ 255 := fun z hz => by
  rcases List.mem_append.1 hz with h | h
  · exact bx z h
  · exact four_bd _ z h
/-- Four bytes and their number. -/
theorem beNum_four (a b c d : Int) : beNum [a, b, c, d] = ((a * 256 + b) * 256 + c) * 256 + d := by simp [beNum]
theorem beNum_beBytes {s : Int} (h0 : 0 ≤ s) (h1 : s < 4294967296) : beNum (beBytes 4 s) = s := by
  rw [beBytes_four, beNum_four]
  have e1 : (2 : Int) ^ 24 = 16777216 := by decide
  have e2 : (2 : Int) ^ 16 = 65536 := by decide
  have e3 : (2 : Int) ^ 8 = 256 := by decide
  have e4 : (2 : Int) ^ 0 = 1 := by decide
  rw [e1, e2, e3, e4]
  omega
/-- What bytes say: the number, the mark, the text's length, the text. -/
def rdS (zs : List Int) : Int := beNum (zs.take 4)
def rdM (zs : List Int) : Int := zs[4]?.getD 0
def rdN (zs : List Int) : Nat := (zs[5]?.getD 0).toNat
def rdX (zs : List Int) : List Int := (zs.drop 6).take (rdN zs)
/-- They are the bytes of a right block. -/
def readOk (Z : Nat) (zs : List Int) : Prop := rdN zs ≤ Z ∧ Right Z (rdS zs) (rdM zs) (rdX zs) ∧ bytesB Z (rdS zs) (rdM zs) (rdX zs) = zs

theorem isSealed_sealB (xs : List Int) : isSealed (sealL xs) = true := by
  have hl := sealL_lenB xs
  have ht : (sealL xs).take ((sealL xs).length - 4) = xs := by
    rw [hl, Nat.add_sub_cancel]
    unfold sealL
    rw [List.take_append_of_le_length (Nat.le_refl _), List.take_length]
  unfold isSealed
  rw [ht, decide_eq_true rfl, decide_eq_true (show 4 ≤ (sealL xs).length by omega)]
  rfl
end Go.Proofs.Ytmjidhnlofpliab

/-
  Packets of symbols as lists of numbers: which may be, which bytes they have, what bytes are read as. No function of the program is spoken of.
-/
namespace Go.Proofs.Ytmjidhnlofpliab
open Go.RowKit

end Go.Proofs.Ytmjidhnlofpliab

/-
  Packets that tell what was had, as lists of numbers: which may be, which bytes they have, what bytes are read as, what an ack has. No function of the program is spoken of.
-/
namespace Go.Proofs.Ytmjidhnlofpliab
open Go.RowKit

/-- May Next be? -/
def aArg (n : Int) : Bool := decide (0 ≤ n) && decide (n ≤ 1073741824)
theorem aArg_iff (n : Int) : aArg n = true ↔ 0 ≤ n ∧ n ≤ 1073741824 := by simp [aArg]
/-- Its bytes, without and with the seal. -/
def bodyA (n b : Int) : List Int := 65 :: (beBytes 4 n ++ beBytes 4 b)
def packA (n b : Int) : List Int := sealL (bodyA n b)
theorem bodyA_len (n b : Int) : (bodyA n b).length = 9 := by simp [bodyA, beBytes_len]
theorem packA_len (n b : Int) : (packA n b).length = 13 := by rw [packA, sealL_lenB, bodyA_len]
theorem bodyA_bd (n b : Int) : ∀ z ∈ bodyA n b, 0 ≤ z ∧ z ≤ 255 := fun z hz => by
  rcases List.mem_cons.1 hz with rfl | h
  · omega
  rcases List.mem_append.1 h with h | h
  · exact beBytes_bd 4 n z h
  · exact beBytes_bd 4 b z h
theorem packA_bd (n b : Int) : ∀ z ∈ packA n b, 0 ≤ z ∧ z ≤ 255 := sealL_bdB (bodyA_bd n b)

/-- What bytes say. -/
def aN (zs : List Int) : Int := beNum ((zs.drop 1).take 4)
def aB (zs : List Int) : Int := beNum ((zs.drop 5).take 4)
def okA (zs : List Int) : Prop := zs.length = 13 ∧ zs[0]?.getD 0 = 65 ∧ isSealed zs = true ∧ aN zs ≤ 1073741824
theorem packA_list (n b : Int) : packA n b = 65 :: n / 2 ^ 24 % 256 :: n / 2 ^ 16 % 256 :: n / 2 ^ 8 % 256 :: n / 2 ^ 0 % 256 :: b / 2 ^ 24 % 256 :: b / 2 ^ 16 % 256 :: b / 2 ^ 8 % 256 :: b / 2 ^ 0 % 256 :: four (sum32 (bodyA n b)) := by
  simp [packA, sealL, bodyA, beBytes_four]
theorem aN_pack {n b : Int} (h0 : 0 ≤ n) (h1 : n ≤ 1073741824) : aN (packA n b) = n := by
  unfold aN
  rw [packA_list]
  show beNum [n / 2 ^ 24 % 256, n / 2 ^ 16 % 256, n / 2 ^ 8 % 256, n / 2 ^ 0 % 256] = n
  rw [← beBytes_four]
  exact beNum_beBytes h0 (by omega)
theorem aB_pack {n b : Int} (h0 : 0 ≤ b) (h1 : b < 4294967296) : aB (packA n b) = b := by
  unfold aB
  rw [packA_list]
  show beNum [b / 2 ^ 24 % 256, b / 2 ^ 16 % 256, b / 2 ^ 8 % 256, b / 2 ^ 0 % 256] = b
  rw [← beBytes_four]
  exact beNum_beBytes h0 h1
theorem packA_head (n b : Int) : (packA n b)[0]?.getD 0 = 65 := by rw [packA_list]; rfl
theorem packA_sealed (n b : Int) : isSealed (packA n b) = true := isSealed_sealB _
theorem okA_pack {n b : Int} (h0 : 0 ≤ n) (h1 : n ≤ 1073741824) : okA (packA n b) := ⟨packA_len n b, packA_head n b, packA_sealed n b, by rw [aN_pack h0 h1]; exact h1⟩
end Go.Proofs.Ytmjidhnlofpliab

/-
  Messages as blocks, as numbers: the texts, the marks; what blocks are put together to. No function of the program is spoken of.
-/
namespace Go.Proofs.Ytmjidhnlofpliab
open Go.RowKit

/-- A message that is being put together: open, and its text. -/
abbrev Jn := Bool × List Int
def lastM (m : Int) : Bool := decide (2 ≤ m)
def firstM (m : Int) : Bool := decide (m = 1 ∨ m = 3)
/-- What stands ahead of a block. -/
def openJ (j : Jn) (m : Int) : Jn := if firstM m then (true, []) else j
/-- What becomes of it by a block that may be put to it: the next, and the message, if it is one. -/
def joinJ (j : Jn) (m : Int) (x : List Int) : Jn × Option (List Int) :=
  if (openJ j m).1 = false then (openJ j m, none)
  else if lastM m = true then ((false, []), some ((openJ j m).2 ++ x))
  else ((true, (openJ j m).2 ++ x), none)
theorem joinJ_shut {j : Jn} {m : Int} (x : List Int) (h : (openJ j m).1 = false) : joinJ j m x = (openJ j m, none) := by unfold joinJ; rw [if_pos h]
theorem joinJ_last {j : Jn} {m : Int} (x : List Int) (h : (openJ j m).1 = true) (hl : lastM m = true) : joinJ j m x = ((false, []), some ((openJ j m).2 ++ x)) := by unfold joinJ; rw [if_neg (by simp [h]), if_pos hl]
theorem joinJ_more {j : Jn} {m : Int} (x : List Int) (h : (openJ j m).1 = true) (hl : lastM m = false) : joinJ j m x = ((true, (openJ j m).2 ++ x), none) := by unfold joinJ; rw [if_neg (by simp [h]), if_neg (by simp [hl])]
end Go.Proofs.Ytmjidhnlofpliab

/-
  What bits.OnesCount32, bit.Ones and the page's Ones answer, for every number: how many of the 32 lowest bits are 1, of a number below 0 none; the world is as it was but for draws.
-/
namespace Go.Proofs.Ytmjidhnlofpliab
open Go.RowKit

theorem foldTab : (⟨(([0, 1, 1, 2, 1, 2, 2, 3, 1, 2, 2, 3, 2, 3, 3, 4, 1, 2, 2, 3, 2, 3, 3, 4, 2, 3, 3, 4, 3, 4, 4, 5, 1, 2, 2, 3, 2, 3, 3, 4, 2, 3, 3, 4, 3, 4, 4, 5, 2, 3, 3, 4, 3, 4, 4, 5, 3, 4, 4, 5, 4, 5, 5, 6].append [1, 2, 2, 3, 2, 3, 3, 4, 2, 3, 3, 4, 3, 4, 4, 5, 2, 3, 3, 4, 3, 4, 4, 5, 3, 4, 4, 5, 4, 5, 5, 6, 2, 3, 3, 4, 3, 4, 4, 5, 3, 4, 4, 5, 4, 5, 5, 6, 3, 4, 4, 5, 4, 5, 5, 6, 4, 5, 5, 6, 5, 6, 6, 7]).append ([1, 2, 2, 3, 2, 3, 3, 4, 2, 3, 3, 4, 3, 4, 4, 5, 2, 3, 3, 4, 3, 4, 4, 5, 3, 4, 4, 5, 4, 5, 5, 6, 2, 3, 3, 4, 3, 4, 4, 5, 3, 4, 4, 5, 4, 5, 5, 6, 3, 4, 4, 5, 4, 5, 5, 6, 4, 5, 5, 6, 5, 6, 6, 7].append [2, 3, 3, 4, 3, 4, 4, 5, 3, 4, 4, 5, 4, 5, 5, 6, 3, 4, 4, 5, 4, 5, 5, 6, 4, 5, 5, 6, 5, 6, 6, 7, 3, 4, 4, 5, 4, 5, 5, 6, 4, 5, 5, 6, 5, 6, 6, 7, 4, 5, 5, 6, 5, 6, 6, 7, 5, 6, 6, 7, 6, 7, 7, 8])).toArray⟩ : ByteArray) = Lib.pop8tab := by decide +kernel
attribute [local go_sem ↓] foldTab

end Go.Proofs.Ytmjidhnlofpliab

/-
  What the page's Block (may it be?), be and num, and volutekeep.Block answer, whatever they are asked. (Written by tpl_refblock.py.)
-/
namespace Go.Proofs.Ytmjidhnlofpliab
open Go.RowKit

end Go.Proofs.Ytmjidhnlofpliab

/-
  What the page's Data (may it be?) and volutekeep.Data answer. (Written by tpl_refdata.py.)
-/
namespace Go.Proofs.Ytmjidhnlofpliab
open Go.RowKit

end Go.Proofs.Ytmjidhnlofpliab
