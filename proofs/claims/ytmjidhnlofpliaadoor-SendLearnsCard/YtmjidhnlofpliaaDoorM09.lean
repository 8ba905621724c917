/-
  What bit.isSize, bit.fits, bit.Put, bit.Get answer, for every argument.
-/
import Derived.Test.YtmjidhnlofpliaaDoorM01
import Derived.Test.YtmjidhnlofpliaaDoorM03
import Derived.Test.YtmjidhnlofpliaaDoorM06
import Derived.Test.YtmjidhnlofpliaaDoorM07
import Derived.Test.YtmjidhnlofpliaaDoorM08
import Derived.BigQuiet
import Derived.Deep.QuietTactic
import Derived.Maps.AppendAt
namespace Go.Proofs.YtmjidhnlofpliaaDoor
open Go.RowKit

set_option maxHeartbeats 400000 in
theorem isSize_yes (n : Int) (w : World) (h1 : 1 ≤ n) (h2 : n ≤ 4) :
    Calls Tryd.prog 66 #[.int .i64 n] w fun e w' => e = .returned (.bool true) ∧ w = w' := by
  go_enter Tryd.func66, Tryd.ntmps66
  go_wp2
  go_ret
  exact ⟨rfl, rfl⟩

set_option maxHeartbeats 400000 in
theorem fits_pos (n k : Int) (w : World) (h : 0 ≤ n) (h0 : 0 ≤ k) (hk : k ≤ 32) :
    Calls Tryd.prog 76 #[.int .i64 n, .int .i64 k] w fun e w' => e = .returned (.bool (n / 2 ^ k.toNat == 0)) ∧ w = w' := by
  obtain ⟨m, rfl⟩ := Int.eq_ofNat_of_zero_le h0
  rw [Int.toNat_natCast]
  go_enter Tryd.func76, Tryd.ntmps76
  go_wp2
  go_ret
  exact ⟨rfl, rfl⟩

theorem fits_yes (n k : Int) (w : World) (h : 0 ≤ n) (h0 : 0 ≤ k) (hk : k ≤ 32) (hn : n / 2 ^ k.toNat = 0) :
    Calls Tryd.prog 76 #[.int .i64 n, .int .i64 k] w fun e w' => e = .returned (.bool true) ∧ w = w' := by
  have e := fits_pos n k w h h0 hk
  rw [beq_iff_eq.2 hn] at e
  exact e

/-- A number in so many bytes, the highest first. -/
def beBytes (s : Nat) (n : Int) : List Int := (List.range s).map (fun i => n / 2 ^ (8 * (s - 1 - i)) % 256)

theorem beBytes_len (s : Nat) (n : Int) : (beBytes s n).length = s := by simp [beBytes]

theorem beBytes_next (s m : Nat) (n : Int) (h : m < s) : (beBytes s n).take (s - m) = (beBytes s n).take (s - (m + 1)) ++ [n / 2 ^ (8 * m) % 256] := by
  have e : s - m = s - (m + 1) + 1 := by omega
  rw [e, List.take_add_one]
  have hi : s - (m + 1) < s := by omega
  have : (beBytes s n)[s - (m + 1)]? = some (n / 2 ^ (8 * m) % 256) := by
    simp only [beBytes, List.getElem?_map, List.getElem?_range hi, Option.map_some]
    rw [show s - 1 - (s - (m + 1)) = m from by omega]
  rw [this]; rfl

theorem below_grown' {w w' : World} {base e n g cap : Nat} {xs : List Value} (hown : w.ownsRow base e 1 (.slice (some ⟨g, 0, none⟩) n cap) n xs) (hg : w.grownBy w' (some g)) (hb : base ≤ w.heap.size) : Below base w w' :=
  (Below.refl _ w).grown hg hb (fun k e => by cases e; exact (hown.lt g rfl).1)

theorem holds_hc {kd : IntKind} {n₀ : Nat} {W : World} {a : Option Addr} {cap : Nat} {zs : List Int} (h : Holds kd n₀ W (.slice a zs.length cap) zs) :
    (a = none → zs.length = 0 ∧ cap = 0) ∧ ∀ ad, a = some ad → ∀ j u, (zs.map (Value.int kd))[j]? = some u → W.cell? (ad.add j) = some u := by
  rcases h with ⟨⟨a', cap', e, hc⟩, rfl⟩ | ⟨b, off, cap', e, _, hcs⟩
  · cases e
    exact ⟨fun e => ⟨rfl, hc e⟩, by simp⟩
  · cases e
    exact ⟨fun e => (by cases e), fun ad e => by cases e; exact holds_cells hcs⟩

set_option maxRecDepth 100000 in
set_option maxHeartbeats 2000000 in
theorem put_ok (a : Option Addr) (cap : Nat) (zs : List Int) (n : Int) (s : Nat) (w : World) (n₀ : Nat) (h1 : 1 ≤ s) (h2 : s ≤ 4) (h3 : 0 ≤ n) (h4 : n / 2 ^ (8 * s) = 0) (h5 : zs.length ≤ 4096 - s) (hn₀ : n₀ ≤ w.heap.size) (hH : Holds .u8 n₀ w (.slice a zs.length cap) zs) :
    Calls Tryd.prog 57 #[.slice a zs.length cap, .int .i64 n, .int .i64 s] w fun e W' => ∃ r, e = .returned (.tuple #[r, .int .i64 0]) ∧ W'.ownsRow w.heap.size 5 1 r (zs.length + s) ((zs ++ beBytes s n).map (Value.int .u8)) ∧ Below w.heap.size w W' := by
  obtain ⟨i0, hi, hz0, hz1, hz2⟩ := info_parts infoU8
  have H4 : Hid (n / 2 ^ (8 * (s : Int)).toNat = 0) := by
    have e : (8 * (s : Int)).toNat = 8 * s := by omega
    show n / 2 ^ (8 * (s : Int)).toNat = 0
    rw [e]; exact h4
  clear h4
  have d5 : decide (4096 - (s : Int) < (zs.length : Int)) = false := by simp; omega
  have hcc := (holds_hc hH).1
  go_enter Tryd.func57, Tryd.ntmps57
  go_wp2_with (first | (go_at_call 66; refine (isSize_yes _ _ (by omega) (by omega)).mono ?_; rintro e w' ⟨rfl, rfl⟩) | (go_at_call 76; refine (fits_yes _ _ _ h3 (by omega) (by omega) H4.out).mono ?_; rintro e w' ⟨rfl, rfl⟩) | (at_make; refine wpList_make_own _ rfl _ _ 35 rfl w.heap.size 5 i0 (.int .u8 0) 1 Tryd.underlying35 hi hz0 hz1 .i64 .i64 _ (zs.length + s) rfl rfl (by omega) (by rw [hz2]; omega) (by unfold maxLen; omega) (Nat.le_refl _) ?_; intro w1 hown1 hgrow1) | (at_builtin; refine wpList_append_fits_any _ rfl _ _ 35 rfl w.heap.size 5 i0 1 Tryd.underlying35 hi hz1 w.heap.size 0 (zs.length + s) [] rfl hown1 a zs.length cap (zs.map (Value.int .u8)) rfl (by simp) hcc (holds_hc (hH.below ((Below.refl n₀ w).grown hgrow1 hn₀ (fun k e => by cases e)))).2 (oneCells _ _) (by omega) ?_; intro w2 hown2 hgrow2))
  have b1 : Below w.heap.size w w1 := (Below.refl _ w).grown hgrow1 (Nat.le_refl _) (fun k e => by cases e)
  have b2 : Below w.heap.size w w2 := b1.trans (below_grown' hown1 hgrow2 b1.size)
  have hown2' : w2.ownsRow w.heap.size 5 1 (.slice (some ⟨w.heap.size, 0, none⟩) (zs.length + (s - s)) (zs.length + s)) (zs.length + (s - s)) ((zs ++ (beBytes s n).take (s - s)).map (Value.int .u8)) := by
    simpa using hown2
  have e0 : zs.length + (s - s) = zs.length := by omega
  have E0 : Hid (zs.length + (s - s) = zs.length) := e0
  clear hown1 hgrow1 hown2 hgrow2 b1 hcc e0 hH
  go_loopw [8, 9] (fun v i wr => ∃ l : Nat, l ≤ s ∧ i = .int .i64 ((l : Int) - 1) ∧ v = .slice (some ⟨w.heap.size, 0, none⟩) (zs.length + (s - l)) (zs.length + s) ∧ wr.ownsRow w.heap.size 5 1 v (zs.length + (s - l)) ((zs ++ (beBytes s n).take (s - l)).map (Value.int .u8)) ∧ Below w.heap.size w wr) (fun _ i _ => (intOf i + 1).toNat)
  case atStart => exact ⟨s, Nat.le_refl _, rfl, by rw [E0.out], by have h := hown2'; rw [E0.out] at h ⊢; exact h, b2⟩
  case round =>
    obtain ⟨l, hl, rfl, rfl, ho, hbw⟩ := hrel
    cases l with
    | zero =>
      go_wp2
      go_ret2
      refine ⟨_, rfl, ?_, hbw⟩
      simpa [List.take_of_length_le, beBytes_len] using ho
    | succ m =>
      have hm : ((m + 1 : Nat) : Int) - 1 = (m : Int) := by omega
      rw [hm]
      have HM : Hid _ := beBytes_next s m n (by omega)
      have hml : m ≤ 3 := by omega
      go_wp2_with (at_builtin; refine wpList_append_fits _ rfl _ _ 35 rfl w.heap.size 5 i0 1 Tryd.underlying35 hi hz1 w.heap.size (zs.length + (s - (m + 1))) (zs.length + s) _ rfl (ho.alloc _) ⟨wr.heap.size, 0, none⟩ 1 1 [.int .u8 (n / 2 ^ (8 * m) % 256)] rfl rfl (cell_one_new _ _ _) (by simp [Value.oneCell']) (by omega) ?_; intro w3 hown3 hgrow3)
      have e1 : zs.length + (s - (m + 1)) + 1 = zs.length + (s - m) := by omega
      have b3 : Below w.heap.size w w3 := (hbw.alloc hbw.size _).trans (below_grown' (ho.alloc _) hgrow3 (by have := hbw.size; simp; omega))
      refine ⟨⟨m, by omega, rfl, by rw [e1], ?_, b3⟩, by simp [intOf]⟩
      rw [HM.out, e1]
      rw [e1] at hown3
      simpa using hown3

end Go.Proofs.YtmjidhnlofpliaaDoor

/-
  What bit.Get and the page's Get answer, for every text and every argument.
-/
namespace Go.Proofs.YtmjidhnlofpliaaDoor
open Go.RowKit

/-- The number that bytes make, the highest first. -/
def beNum (l : List Int) : Int := l.foldl (fun acc x => acc * 256 + x) 0

theorem beNum_snoc (l : List Int) (x : Int) : beNum (l ++ [x]) = beNum l * 256 + x := by simp [beNum]

theorem beNum_bd (l : List Int) (h : ∀ z ∈ l, 0 ≤ z ∧ z ≤ 255) : 0 ≤ beNum l ∧ beNum l < 256 ^ l.length := by
  have key : ∀ (k : Nat) (l : List Int), l.length = k → (∀ z ∈ l, 0 ≤ z ∧ z ≤ 255) → 0 ≤ beNum l ∧ beNum l < 256 ^ l.length := by
    intro k
    induction k with
    | zero =>
      intro l hl _
      rw [List.length_eq_zero_iff.1 hl]
      simp [beNum]
    | succ k ih =>
      intro l hl hb
      have hne : l ≠ [] := fun e => by rw [e] at hl; simp at hl
      rw [← List.dropLast_concat_getLast hne] at hb ⊢
      have h1 := ih l.dropLast (by simp [hl]) (fun z hz => hb z (List.mem_append_left _ hz))
      have h2 := hb (l.getLast hne) (by simp)
      rw [beNum_snoc, List.length_append, List.length_singleton, Int.pow_succ]
      omega
  exact key _ l rfl h

theorem or_join (acc x : Int) (h0 : 0 ≤ acc) (h1 : acc < 4294967296) (hx : 0 ≤ x) (hx' : x ≤ 255) : bits .or .i64 (acc * 256) x = acc * 256 + x := by
  have e63 : (2 : Int) ^ 63 = 9223372036854775808 := by decide
  exact bits_join .i64 63 (by decide) wraps_i64 8 (acc * 256) x (by omega) (by simp) (by rw [e63]; omega) hx (by simp; omega) (by rw [e63]; omega)

theorem take_drop_succ {zs : List Int} {t j : Nat} {z : Int} (h : zs[t + j]? = some z) : (zs.drop t).take (j + 1) = (zs.drop t).take j ++ [z] := by
  rw [List.take_add_one, List.getElem?_drop, h]; rfl

theorem take_bd (zs : List Int) (hz : ∀ z ∈ zs, 0 ≤ z ∧ z ≤ 255) (t j k : Nat) (hj : j ≤ k) : 0 ≤ beNum ((zs.drop t).take j) ∧ beNum ((zs.drop t).take j) < 256 ^ k := by
  have h := beNum_bd ((zs.drop t).take j) (fun z h => hz z (List.mem_of_mem_drop (List.mem_of_mem_take h)))
  have hl : ((zs.drop t).take j).length ≤ k := Nat.le_trans (List.length_take_le _ _) hj
  refine ⟨h.1, Int.lt_of_lt_of_le h.2 ?_⟩
  have h' := Int.ofNat_le.2 (Nat.pow_le_pow_right (n := 256) (by decide) hl)
  rw [Int.natCast_pow, Int.natCast_pow] at h'
  exact h'

set_option maxRecDepth 100000 in
set_option maxHeartbeats 2000000 in
theorem get_ok (b off cap : Nat) (zs : List Int) (t s : Nat) (w : World) (h1 : 1 ≤ s) (h2 : s ≤ 4) (h3 : t + s ≤ zs.length) (hcap : zs.length ≤ cap) (hl : zs.length ≤ 4294967296) (hz : ∀ z ∈ zs, 0 ≤ z ∧ z ≤ 255)
    (hc : ∀ j, j < zs.length → w.cell? ⟨b, off + j, none⟩ = some (.int .u8 (zs[j]?.getD 0))) :
    Calls Tryd.prog 46 #[.slice (some ⟨b, off, none⟩) zs.length cap, .int .i64 t, .int .i64 s] w fun e w' => e = .returned (.tuple #[.int .i64 (beNum ((zs.drop t).take s)), .int .i64 0]) ∧ w = w' := by
  have d1 : decide ((t : Int) < 0) = false := by simp
  have d2 : decide (zs.length < t) = false := by simp; omega
  have d3 : decide ((zs.length : Int) - (t : Int) < (s : Int)) = false := by simp; omega
  go_enter Tryd.func46, Tryd.ntmps46
  go_wp2_with (go_at_call 66; refine (isSize_yes _ _ (by omega) (by omega)).mono ?_; rintro e w' ⟨rfl, rfl⟩)
  go_loop [8, 37] (fun n i => ∃ j : Nat, j ≤ s ∧ i = .int .i64 j ∧ n = .int .i64 (beNum ((zs.drop t).take j))) (fun _ i => s - (intOf i).toNat)
  case atStart => exact ⟨0, Nat.zero_le _, rfl, rfl⟩
  case round =>
    obtain ⟨j, hj, rfl, rfl⟩ := hrel
    have hbd := take_bd zs hz t j 3
    by_cases hlt : j < s
    · obtain ⟨z, hzk, hz0, hz1⟩ : ∃ z, zs[t + j]? = some z ∧ 0 ≤ z ∧ z ≤ 255 := ⟨zs[t + j], by simp, (hz _ (List.getElem_mem _)).1, (hz _ (List.getElem_mem _)).2⟩
      have hcx : w.cell? ⟨b, off + t + j, none⟩ = some (.int .u8 z) := by rw [Nat.add_assoc]; exact (hc (t + j) (by omega)).trans (by rw [hzk]; rfl)
      obtain ⟨h0, h1'⟩ := hbd (by omega)
      have HS : Hid (beNum ((zs.drop t).take (j + 1)) = beNum ((zs.drop t).take j) * 256 + z) := by
        show beNum ((zs.drop t).take (j + 1)) = beNum ((zs.drop t).take j) * 256 + z
        rw [take_drop_succ hzk, beNum_snoc]
      obtain ⟨acc, hacc⟩ : ∃ acc, beNum ((zs.drop t).take j) = acc := ⟨_, rfl⟩
      rw [hacc] at h0 h1' HS ⊢
      have hor := or_join acc z h0 (by omega) hz0 hz1
      have hwz : IntKind.i64.wrap z = z := by rw [IntKind.wrap_i64]; omega
      clear hzk hacc hc hbd hz
      go_wp2
      exact ⟨⟨j + 1, by omega, by go_num, by rw [HS.out]⟩, by simp [intOf]; omega⟩
    · obtain rfl : j = s := by omega
      go_wp2
      go_ret2
      exact ⟨rfl, rfl⟩

end Go.Proofs.YtmjidhnlofpliaaDoor

/-
  Blocks as bytes, as lists of numbers: which may be, which bytes they have, what bytes are read as. No function of the program is spoken of.
-/
namespace Go.Proofs.YtmjidhnlofpliaaDoor
open Go.RowKit

/-- May size, number and mark be? May a text of so many bytes? -/
def bSize (z : Int) : Bool := decide (1 ≤ z) && decide (z ≤ 16)
def bArg (z s m : Int) : Bool := decide (1 ≤ z) && decide (z ≤ 16) && decide (0 ≤ s) && decide (s < 1073741824) && decide (0 ≤ m) && decide (m ≤ 3)
def bLen (z m : Int) (n : Nat) : Bool := decide ((n : Int) ≤ z) && (decide (2 ≤ m) || decide (z ≤ (n : Int)))
/-- The error's number. -/
def errB (z s m : Int) (n : Nat) : Int := if bArg z s m then (if bLen z m n then 0 else 2) else 1

theorem bArg_iff (z s m : Int) : bArg z s m = true ↔ (1 ≤ z ∧ z ≤ 16) ∧ (0 ≤ s ∧ s < 1073741824) ∧ 0 ≤ m ∧ m ≤ 3 := by
  simp only [bArg, Bool.and_eq_true, decide_eq_true_eq]
  omega
theorem bLen_iff (z m : Int) (n : Nat) : bLen z m n = true ↔ (n : Int) ≤ z ∧ (2 ≤ m ∨ z ≤ n) := by
  simp only [bLen, Bool.and_eq_true, Bool.or_eq_true, decide_eq_true_eq]
theorem errB_zero {z s m : Int} {n : Nat} : errB z s m n = 0 ↔ bArg z s m = true ∧ bLen z m n = true := by
  unfold errB
  cases bArg z s m <;> cases bLen z m n <;> simp
theorem errB_arg {z s m : Int} {n : Nat} (h : bArg z s m = false) : errB z s m n = 1 := by simp [errB, h]
theorem errB_len {z s m : Int} {n : Nat} (h : bArg z s m = true) (h' : bLen z m n = false) : errB z s m n = 2 := by simp [errB, h, h']

/-- A block that is right, of size Z. -/
def Right (Z : Nat) (s m : Int) (xs : List Int) : Prop := (1 ≤ Z ∧ Z ≤ 16) ∧ (0 ≤ s ∧ s < 1073741824) ∧ (0 ≤ m ∧ m ≤ 3) ∧ xs.length ≤ Z ∧ (2 ≤ m ∨ Z ≤ xs.length)
theorem right_iff (Z : Nat) (s m : Int) (xs : List Int) : errB (Z : Int) s m xs.length = 0 ↔ Right Z s m xs := by
  rw [errB_zero, bArg_iff, bLen_iff]
  unfold Right
  omega
/-- Its bytes, without and with the seal. -/
def headB (s m : Int) (n : Nat) : List Int := beBytes 4 s ++ [m, (n : Int)]
def bodyB (Z : Nat) (s m : Int) (xs : List Int) : List Int := headB s m xs.length ++ xs ++ List.replicate (Z - xs.length) 0
def bytesB (Z : Nat) (s m : Int) (xs : List Int) : List Int := sealL (bodyB Z s m xs)

theorem beBytes_four (s : Int) : beBytes 4 s = [s / 2 ^ 24 % 256, s / 2 ^ 16 % 256, s / 2 ^ 8 % 256, s / 2 ^ 0 % 256] := by
  simp [beBytes, List.range, List.range.loop]
theorem headB_len (s m : Int) (n : Nat) : (headB s m n).length = 6 := by simp [headB, beBytes_len]
theorem bodyB_len {Z : Nat} {s m : Int} {xs : List Int} (h : xs.length ≤ Z) : (bodyB Z s m xs).length = Z + 6 := by
  simp only [bodyB, List.length_append, headB_len, List.length_replicate]
  omega
theorem sealL_lenB (xs : List Int) : (sealL xs).length = xs.length + 4 := by simp [sealL, four]
theorem bytesB_len {Z : Nat} {s m : Int} {xs : List Int} (h : xs.length ≤ Z) : (bytesB Z s m xs).length = Z + 10 := by
  rw [bytesB, sealL_lenB, bodyB_len h]
theorem beBytes_bd (k : Nat) (s : Int) : ∀ z ∈ beBytes k s, 0 ≤ z ∧ z ≤ 255 := fun z hz => by
  obtain ⟨i, _, rfl⟩ := List.mem_map.1 hz
  have h0 := Int.emod_nonneg (s / 2 ^ (8 * (k - 1 - i))) (show (256 : Int) ≠ 0 by decide)
  have h1 := Int.emod_lt_of_pos (s / 2 ^ (8 * (k - 1 - i))) (show (0 : Int) < 256 by decide)
  omega
theorem headB_bd {s m : Int} {n : Nat} (hm : 0 ≤ m ∧ m ≤ 255) (hn : n ≤ 255) : ∀ z ∈ headB s m n, 0 ≤ z ∧ z ≤ 255 := fun z hz => by
  rcases List.mem_append.1 hz with h | h
  · exact beBytes_bd 4 s z h
  · simp at h
    omega
theorem bodyB_bd {Z : Nat} {s m : Int} {xs : List Int} (h : Right Z s m xs) (bx : ∀ z ∈ xs, 0 ≤ z ∧ z ≤ 255) : ∀ z ∈ bodyB Z s m xs, 0 ≤ z ∧ z ≤ 255 := fun z hz => by
  obtain ⟨h1, h2, h3, h4, _⟩ := h
  rcases List.mem_append.1 hz with h | h
  · rcases List.mem_append.1 h with h | h
    · exact headB_bd (by omega) (by omega) z h
    · exact bx z h
  · have := List.eq_of_mem_replicate h
    omega
theorem sealL_bdB {xs : List Int} (bx : ∀ z ∈ xs, 0 ≤ z ∧ z ≤ 255) : ∀ z ∈ sealL xs, 0 ≤ z ∧ z ≤ 255 := fun z hz => by
  rcases List.mem_append.1 hz with h | h
  · exact bx z h
  · exact four_bd _ z h
theorem bytesB_bd {Z : Nat} {s m : Int} {xs : List Int} (h : Right Z s m xs) (bx : ∀ z ∈ xs, 0 ≤ z ∧ z ≤ 255) : ∀ z ∈ bytesB Z s m xs, 0 ≤ z ∧ z ≤ 255 := sealL_bdB (bodyB_bd h bx)

/-- Four bytes and their number. -/
theorem beNum_four (a b c d : Int) : beNum [a, b, c, d] = ((a * 256 + b) * 256 + c) * 256 + d := by simp [beNum]
theorem beNum_beBytes {s : Int} (h0 : 0 ≤ s) (h1 : s < 4294967296) : beNum (beBytes 4 s) = s := by
  rw [beBytes_four, beNum_four]
  have e1 : (2 : Int) ^ 24 = 16777216 := by decide
  have e2 : (2 : Int) ^ 16 = 65536 := by decide
  have e3 : (2 : Int) ^ 8 = 256 := by decide
  have e4 : (2 : Int) ^ 0 = 1 := by decide
  rw [e1, e2, e3, e4]
  omega
theorem beBytes_beNum {a b c d : Int} (ha : 0 ≤ a ∧ a ≤ 255) (hb : 0 ≤ b ∧ b ≤ 255) (hc : 0 ≤ c ∧ c ≤ 255) (hd : 0 ≤ d ∧ d ≤ 255) : beBytes 4 (beNum [a, b, c, d]) = [a, b, c, d] := by
  rw [beBytes_four, beNum_four]
  have e1 : (2 : Int) ^ 24 = 16777216 := by decide
  have e2 : (2 : Int) ^ 16 = 65536 := by decide
  have e3 : (2 : Int) ^ 8 = 256 := by decide
  have e4 : (2 : Int) ^ 0 = 1 := by decide
  rw [e1, e2, e3, e4]
  congr 1
  · omega
  congr 1
  · omega
  congr 1
  · omega
  congr 1
  omega

theorem isSealed_sealB (xs : List Int) : isSealed (sealL xs) = true := by
  have hl := sealL_lenB xs
  have ht : (sealL xs).take ((sealL xs).length - 4) = xs := by
    rw [hl, Nat.add_sub_cancel]
    unfold sealL
    rw [List.take_append_of_le_length (Nat.le_refl _), List.take_length]
  unfold isSealed
  rw [ht, decide_eq_true rfl, decide_eq_true (show 4 ≤ (sealL xs).length by omega)]
  rfl
theorem sealed_is {zs : List Int} (h : isSealed zs = true) : 4 ≤ zs.length ∧ sealL (zs.take (zs.length - 4)) = zs := by
  unfold isSealed at h
  simp only [Bool.and_eq_true, decide_eq_true_eq] at h
  exact h
end Go.Proofs.YtmjidhnlofpliaaDoor

/-
  Packets of symbols as lists of numbers: which may be, which bytes they have, what bytes are read as. No function of the program is spoken of.
-/
namespace Go.Proofs.YtmjidhnlofpliaaDoor
open Go.RowKit

/-- Data that may be. -/
def RightD (s r f : Int) (xs : List Int) : Prop := (0 ≤ s ∧ s < 1073741824) ∧ (0 ≤ r ∧ r ≤ 255) ∧ (0 ≤ f ∧ f ≤ 65535) ∧ 1 ≤ xs.length ∧ xs.length ≤ 64
/-- The head without its sum; the packet. -/
def headD (s r f : Int) (n : Nat) : List Int := 68 :: (beBytes 4 s ++ (r :: (beBytes 2 f ++ [(n : Int)])))
def packD (s r f : Int) (xs : List Int) : List Int := headD s r f xs.length ++ (beBytes 2 (sum16 (headD s r f xs.length) : Int) ++ xs)

theorem beBytes_two (s : Int) : beBytes 2 s = [s / 2 ^ 8 % 256, s / 2 ^ 0 % 256] := by
  simp [beBytes, List.range, List.range.loop]
theorem beNum_two (a b : Int) : beNum [a, b] = a * 256 + b := by simp [beNum]
theorem beNum_beBytes2 {s : Int} (h0 : 0 ≤ s) (h1 : s < 65536) : beNum (beBytes 2 s) = s := by
  rw [beBytes_two, beNum_two]
  have e3 : (2 : Int) ^ 8 = 256 := by decide
  have e4 : (2 : Int) ^ 0 = 1 := by decide
  rw [e3, e4]
  omega
theorem headD_len (s r f : Int) (n : Nat) : (headD s r f n).length = 9 := by simp [headD, beBytes_len]
theorem packD_len (s r f : Int) (xs : List Int) : (packD s r f xs).length = xs.length + 11 := by
  simp only [packD, List.length_append, headD_len, beBytes_len]
  omega
theorem headD_bd {s r f : Int} {n : Nat} (hr : 0 ≤ r ∧ r ≤ 255) (hn : n ≤ 255) : ∀ z ∈ headD s r f n, 0 ≤ z ∧ z ≤ 255 := fun z hz => by
  unfold headD at hz
  rcases List.mem_cons.1 hz with rfl | hz
  · omega
  rcases List.mem_append.1 hz with h | h
  · exact beBytes_bd 4 s z h
  rcases List.mem_cons.1 h with rfl | h
  · exact hr
  rcases List.mem_append.1 h with h | h
  · exact beBytes_bd 2 f z h
  · simp at h
    omega
theorem packD_bd {s r f : Int} {xs : List Int} (h : RightD s r f xs) (bx : ∀ z ∈ xs, 0 ≤ z ∧ z ≤ 255) : ∀ z ∈ packD s r f xs, 0 ≤ z ∧ z ≤ 255 := fun z hz => by
  obtain ⟨_, hr, _, _, hx⟩ := h
  rcases List.mem_append.1 hz with h | h
  · exact headD_bd hr (by omega) z h
  rcases List.mem_append.1 h with h | h
  · exact beBytes_bd 2 _ z h
  · exact bx z h

/-- What bytes say. -/
def dS (zs : List Int) : Int := beNum ((zs.drop 1).take 4)
def dR (zs : List Int) : Int := zs[5]?.getD 0
def dF (zs : List Int) : Int := beNum ((zs.drop 6).take 2)
def dN (zs : List Int) : Int := zs[8]?.getD 0
def dC (zs : List Int) : Int := beNum ((zs.drop 9).take 2)
def dX (zs : List Int) : List Int := zs.drop 11
def dLen (zs : List Int) : Prop := 12 ≤ zs.length ∧ zs.length ≤ 75
def dSum (zs : List Int) : Prop := (sum16 (zs.take 9) : Int) = dC zs
/-- They are the packet of data that may be; why they are none, as a number. -/
def okD (zs : List Int) : Prop := dLen zs ∧ zs[0]?.getD 0 = 68 ∧ dSum zs ∧ dS zs < 1073741824 ∧ dN zs = (zs.length : Int) - 11
/-- A packet is read as what it was made of. -/
theorem packD_list (s r f : Int) (xs : List Int) : packD s r f xs = 68 :: s / 2 ^ 24 % 256 :: s / 2 ^ 16 % 256 :: s / 2 ^ 8 % 256 :: s / 2 ^ 0 % 256 :: r :: f / 2 ^ 8 % 256 :: f / 2 ^ 0 % 256 :: (xs.length : Int) :: (beBytes 2 (sum16 (headD s r f xs.length) : Int) ++ xs) := by
  simp [packD, headD, beBytes_four, beBytes_two]
theorem packD_take9 (s r f : Int) (xs : List Int) : (packD s r f xs).take 9 = headD s r f xs.length := by
  unfold packD
  rw [List.take_append_of_le_length (by rw [headD_len]; exact Nat.le_refl _), List.take_of_length_le (by rw [headD_len]; exact Nat.le_refl _)]
theorem packD_drop9 (s r f : Int) (xs : List Int) : (packD s r f xs).drop 9 = beBytes 2 (sum16 (headD s r f xs.length) : Int) ++ xs := by
  unfold packD
  rw [List.drop_append_of_le_length (by rw [headD_len]; exact Nat.le_refl _), List.drop_of_length_le (by rw [headD_len]; exact Nat.le_refl _), List.nil_append]
theorem dC_pack (s r f : Int) (xs : List Int) : dC (packD s r f xs) = (sum16 (headD s r f xs.length) : Int) := by
  unfold dC
  rw [packD_drop9, List.take_append_of_le_length (by rw [beBytes_len]; exact Nat.le_refl _), List.take_of_length_le (by rw [beBytes_len]; exact Nat.le_refl _)]
  have := sum16_lt (headD s r f xs.length)
  exact beNum_beBytes2 (by omega) (by omega)
theorem dSum_pack (s r f : Int) (xs : List Int) : dSum (packD s r f xs) := by
  unfold dSum
  rw [dC_pack, packD_take9]
theorem dS_pack {s r f : Int} {xs : List Int} (h : RightD s r f xs) : dS (packD s r f xs) = s := by
  unfold dS
  rw [packD_list]
  show beNum [s / 2 ^ 24 % 256, s / 2 ^ 16 % 256, s / 2 ^ 8 % 256, s / 2 ^ 0 % 256] = s
  rw [← beBytes_four]
  exact beNum_beBytes h.1.1 (by have := h.1.2; omega)
theorem dN_pack (s r f : Int) (xs : List Int) : dN (packD s r f xs) = (xs.length : Int) := by
  unfold dN; rw [packD_list]; rfl
theorem packD_head (s r f : Int) (xs : List Int) : (packD s r f xs)[0]?.getD 0 = 68 := by rw [packD_list]; rfl
theorem okD_pack {s r f : Int} {xs : List Int} (h : RightD s r f xs) : okD (packD s r f xs) := by
  refine ⟨?_, packD_head s r f xs, dSum_pack s r f xs, ?_, ?_⟩
  · unfold dLen; rw [packD_len]; have := h.2.2.2; omega
  · rw [dS_pack h]; exact h.1.2
  · rw [dN_pack, packD_len]; omega
end Go.Proofs.YtmjidhnlofpliaaDoor

/-
  What the page's Block (may it be?), be and num, and volutekeep.Block answer, whatever they are asked. (Written by tpl_refblock.py.)
-/
namespace Go.Proofs.YtmjidhnlofpliaaDoor
open Go.RowKit

set_option maxRecDepth 100000 in
set_option maxHeartbeats 2000000 in
/-- voluteref13.be: a number in so many bytes, the highest first. -/
theorem refBe_any (n : Int) (s : Nat) (h2 : s ≤ 4) (w : World) :
    Calls Tryd.prog 51 #[.int .i64 n, .int .i64 s] w fun e W' => ∃ r, e = .returned r ∧ W'.ownsRow w.heap.size 5 1 r s ((beBytes s n).map (Value.int .u8)) ∧ Below w.heap.size w W' := by
  obtain ⟨i0, hi, hz0, hz1, hz2⟩ := info_parts infoU8
  go_enter Tryd.func51, Tryd.ntmps51
  go_wp2
  go_loopw [5, 6] (fun v i wr => ∃ l : Nat, l ≤ s ∧ i = .int .i64 ((l : Int) - 1) ∧ wr.ownsRow w.heap.size 5 1 v (s - l) (((beBytes s n).take (s - l)).map (Value.int .u8)) ∧ Below w.heap.size w wr) (fun _ i _ => (intOf i + 1).toNat)
  case atStart => exact ⟨s, Nat.le_refl _, rfl, by simpa using World.ownsRow_nil _ _ _ _, Below.refl _ _⟩
  case round =>
    obtain ⟨l, hl, rfl, ho, hbw⟩ := hrel
    cases l with
    | zero =>
      go_wp2
      go_ret
      refine ⟨_, rfl, ?_, hbw⟩
      simpa [List.take_of_length_le, beBytes_len] using ho
    | succ m =>
      have hm : ((m + 1 : Nat) : Int) - 1 = (m : Int) := by omega
      rw [hm]
      have HM : Hid _ := beBytes_next s m n (by omega)
      have hml : m ≤ 3 := by omega
      go_wp2_with (at_builtin; refine wpList_append_own _ rfl _ _ 35 rfl w.heap.size 5 i0 (.int .u8 0) 1 1 Tryd.underlying35 hi hz0 hz1 hz2 rfl (by decide) _ (s - (m + 1)) _ rfl (ho.alloc _) ⟨wr.heap.size, 0, none⟩ 1 1 [.int .u8 (n / 2 ^ (8 * m) % 256)] rfl rfl (cell_one_new _ _ _) (by simp [Value.oneCell']) (by unfold maxLen; omega) (by omega) (by have := hbw.size; simp; omega) ?_; intro v3 w3 hown3 hgrow3 _)
      have e1 : s - (m + 1) + 1 = s - m := by omega
      have b3 : Below w.heap.size w w3 := (hbw.alloc hbw.size _).trans ((Below.refl _ _).grown hgrow3 (by have := hbw.size; simp; omega) (fun k e => (ho.lt k e).1))
      refine ⟨⟨m, by omega, rfl, ?_, b3⟩, by simp [intOf]⟩
      rw [HM.out]
      rw [e1] at hown3
      simpa using hown3

end Go.Proofs.YtmjidhnlofpliaaDoor
