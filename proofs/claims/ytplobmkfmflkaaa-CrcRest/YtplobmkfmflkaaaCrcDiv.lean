/-
  The sums as rests of divisions: the rows that are divided, and what the rest is. No function of the program is spoken of.
-/
import Derived.Test.YtplobmkfmflkaaaCrcBits
namespace Go.Proofs.Ytplobmkfmflkaaa
open Go.RowKit

/-- A row of bits as numbers of the program. -/
def intsOf (l : List Nat) : List Int := l.map fun b : Nat => (b : Int)

theorem intsOf_len (l : List Nat) : (intsOf l).length = l.length := by simp [intsOf]
theorem intsOf_bin {l : List Nat} (h : Bits01 l) : Bin (intsOf l) := fun x hx => by
  obtain ⟨b, hb, rfl⟩ := List.mem_map.1 hx
  have := h b hb
  omega
theorem intsOf_get {l : List Nat} {k b : Nat} (h : l[k]? = some b) : (intsOf l)[k]? = some (b : Int) := by simp [intsOf, h]
theorem intsOf_set (l : List Nat) (k b : Nat) : (intsOf l).set k (b : Int) = intsOf (l.set k b) := by simp [intsOf, List.map_set]
theorem val_ints : ∀ (l : List Nat), val (intsOf l) = high l
  | [] => rfl
  | b :: l => by
    show val ((b : Int) :: intsOf l) = _
    rw [val_cons, val_ints l, intsOf_len, high, Int.toNat_natCast]

theorem high_append : ∀ (l m : List Nat), high (l ++ m) = high l * 2 ^ m.length + high m
  | [], m => by simp [high]
  | b :: l, m => by
    rw [List.cons_append, high, high_append l m, high, List.length_append, Nat.pow_add, Nat.add_mul, Nat.mul_assoc, Nat.add_assoc]
theorem high_noughts (k : Nat) : high (List.replicate k 0) = 0 := by
  induction k with
  | zero => rfl
  | succ k ih => rw [List.replicate_succ, high, ih]; simp
theorem high_ones (k : Nat) : high (List.replicate k 1) = 2 ^ k - 1 := by
  induction k with
  | zero => rfl
  | succ k ih =>
    rw [List.replicate_succ, high, ih, List.length_replicate, Nat.pow_succ]
    have := Nat.two_pow_pos k
    omega

theorem xorBits_01 : ∀ {l m : List Nat}, Bits01 l → Bits01 m → Bits01 (xorBits l m)
  | [], _, _, _ => by intro x hx; simp [xorBits] at hx
  | _ :: _, [], _, _ => by intro x hx; simp [xorBits] at hx
  | b :: l, c :: m, h, g => by
    intro x hx
    rw [xorBits] at hx
    rcases List.mem_cons.1 hx with rfl | hx
    · exact xor_lt (k := 1) h.head g.head
    · exact xorBits_01 h.tail g.tail x hx

theorem high_push (b y k : Nat) (hb : b < 2) (hy : y < 2 ^ k) : b * 2 ^ k + y = b * 2 ^ k ^^^ y := by
  obtain rfl | rfl : b = 0 ∨ b = 1 := by omega
  · simp
  · rw [Nat.one_mul]; exact top_xor hy

theorem high_xorBits : ∀ {l m : List Nat}, Bits01 l → Bits01 m → l.length = m.length → high (xorBits l m) = high l ^^^ high m
  | [], [], _, _, _ => rfl
  | [], _ :: _, _, _, h => by simp at h
  | _ :: _, [], _, _, h => by simp at h
  | b :: l, c :: m, hl, hm, h => by
    have hh : l.length = m.length := by simpa using h
    have hx := high_lt hl.tail
    have hy := high_lt hm.tail
    have hz := high_lt (xorBits_01 hl.tail hm.tail)
    rw [xorBits_len l m hh] at hz
    rw [xorBits, high, high, high, xorBits_len l m hh, hh]
    rw [hh] at hx
    rw [high_push _ _ _ (xor_lt (k := 1) hl.head hm.head) hz, high_push _ _ _ hl.head hx, high_push _ _ _ hm.head hy, high_xorBits hl.tail hm.tail hh, mul_pow_xor, xor4]

/-- The first k bits turned about. -/
def flips (M : List Nat) (d k : Nat) : List Nat := xorBits M (bmask M.length 0 (List.replicate d 1) k)

theorem bmask_01 {n p : Nat} {bs : List Nat} (h : Bits01 bs) (i : Nat) : Bits01 (bmask n p bs i) := fun x hx => by
  unfold bmask at hx
  rcases List.mem_append.1 hx with hx | hx
  · rcases List.mem_append.1 (List.mem_of_mem_take hx) with hx | hx
    · rw [List.eq_of_mem_replicate hx]; decide
    · exact h x hx
  · rw [List.eq_of_mem_replicate hx]; decide
theorem ones_01 (d : Nat) : Bits01 (List.replicate d 1) := fun x hx => by rw [List.eq_of_mem_replicate hx]; decide
theorem flips_zero (M : List Nat) (d : Nat) : flips M d 0 = M := by
  unfold flips
  rw [bmask_zero (Nat.zero_le _), xorBits_noughts]
theorem flips_len {M : List Nat} {d k : Nat} (hk : k ≤ d) (hd : d ≤ M.length) : (flips M d k).length = M.length := by
  have hl := bmask_len (n := M.length) (p := 0) (bs := List.replicate d 1) (i := k) (by simpa using hk) (by omega)
  unfold flips
  rw [xorBits_len _ _ hl.symm, hl]
theorem flips_01 {M : List Nat} (h : Bits01 M) (d k : Nat) : Bits01 (flips M d k) := xorBits_01 h (bmask_01 (ones_01 d) k)
theorem flips_next {M : List Nat} {d k b : Nat} (hk : k < d) (hd : d ≤ M.length) (hb : (flips M d k)[k]? = some b) : (flips M d k).set k (b ^^^ 1) = flips M d (k + 1) := by
  have h := bmask_turn (n := M.length) (p := 0) (bs := List.replicate d 1) (i := k) (by simp [hk]) (by omega)
  rw [Nat.zero_add] at h
  have hl := flips_len (M := M) (Nat.le_of_lt hk) hd
  have hu := xorBits_unit _ _ _ hb
  rw [hl] at hu
  rw [← hu]
  unfold flips
  rw [xorBits_assoc, h]
theorem high_flips (l : List Nat) (h : Bits01 l) (d : Nat) : high (flips (l ++ List.replicate d 0) d d) = (2 ^ d - 1) * 2 ^ l.length ^^^ high l * 2 ^ d := by
  have hM : (l ++ List.replicate d 0).length = d + l.length := by rw [List.length_append, List.length_replicate]; omega
  have hl := bmask_len (n := (l ++ List.replicate d 0).length) (p := 0) (bs := List.replicate d 1) (i := d) (by simp) (by rw [hM]; omega)
  have e : bmask (l ++ List.replicate d 0).length 0 (List.replicate d 1) d = List.replicate d 1 ++ List.replicate l.length 0 := by
    rw [bmask_all, hM, List.take_of_length_le (by simp), Nat.zero_add, Nat.add_sub_cancel_left]
    simp
  unfold flips
  rw [high_xorBits (h.append (Bits01.noughts d)) (bmask_01 (ones_01 d) d) hl.symm, e, high_append, high_append, high_noughts, high_noughts, high_ones, List.length_replicate, List.length_replicate, Nat.add_zero, Nat.add_zero, Nat.xor_comm]

/-- The divisors. -/
theorem high_div16 : high (textHigh [0, 1, 16, 33]) = 2 ^ 16 + 4129 := by decide +kernel
theorem high_div32 : high (textHigh [0, 0, 0, 1, 4, 193, 29, 183]) = 2 ^ 32 + 79764919 := by decide +kernel

theorem rest16 (xs : List Int) (q r : Nat) (hr : r < 2 ^ 16) (h : high (flips (textHigh xs ++ List.replicate 16 0) 16 16) = cl q (2 ^ 16 + 4129) ^^^ r) : r = sum16 xs := by
  rw [high_flips _ (textHigh_01 xs)] at h
  obtain ⟨q', h'⟩ := nfeed_rest (d := 16) (p := 4129) (by decide) (by decide) 65535 (by decide) (textHigh xs) (textHigh_01 xs)
  rw [h'] at h
  have := (rest_once (d := 16) (by omega) (by omega) (nfeed_lt (by decide) _ (by decide)) hr h).2
  rw [← this]
  unfold sum16
  rw [feed16_nfeed]

theorem rest32 (xs : List Int) (q r : Nat) (hr : r < 2 ^ 32) (h : high (flips (textLow xs ++ List.replicate 32 0) 32 32) = cl q (2 ^ 32 + 79764919) ^^^ r) : rev 32 r = reg32 xs := by
  rw [high_flips _ (textLow_01 xs)] at h
  obtain ⟨q', h'⟩ := nfeed_rest (d := 32) (p := 79764919) (by decide) (by decide) 4294967295 (by decide) (textLow xs) (textLow_01 xs)
  rw [h'] at h
  have := (rest_once (d := 32) (by omega) (by omega) (nfeed_lt (by decide) _ (by decide)) hr h).2
  rw [← this, ← feed32_rev _ _ (textLow_01 xs)]
  have e : rev 32 4294967295 = 4294967295 := by decide +kernel
  rw [e]
  rfl

theorem textLow_get {xs : List Int} {k : Nat} {z : Int} (hz : xs[k / 8]? = some z) : (textLow xs)[k]? = some (z.toNat / 2 ^ (k % 8) % 2) := by
  have hlt : k / 8 < xs.length := (List.getElem?_eq_some_iff.1 hz).1
  have e : xs = xs.take (k / 8) ++ z :: xs.drop (k / 8 + 1) := by
    have : xs[k / 8] = z := (List.getElem?_eq_some_iff.1 hz).2
    rw [← this, ← List.drop_eq_getElem_cons hlt, List.take_append_drop]
  have hl : (textLow (xs.take (k / 8))).length = 8 * (k / 8) := by rw [textLow_len, List.length_take]; omega
  have e2 : textLow xs = textLow (xs.take (k / 8)) ++ (lows z.toNat ++ textLow (xs.drop (k / 8 + 1))) := by
    conv => lhs; rw [e]
    unfold textLow
    rw [List.flatMap_append, List.flatMap_cons]
  rw [e2, List.getElem?_append_right (by omega), hl, show k - 8 * (k / 8) = k % 8 by omega, List.getElem?_append_left (by show k % 8 < 8; omega)]
  exact lows_get _ _ (by omega)

/-- The bits of each byte, the other way about. -/
theorem high_low_get {xs : List Int} {k : Nat} (hk : k < 8 * xs.length) : ∃ b, b < 2 ∧ (textHigh xs)[k / 8 * 8 + 7 - k % 8]? = some b ∧ (textLow xs)[k]? = some b := by
  have hlt : k / 8 < xs.length := by omega
  have hz : xs[k / 8]? = some xs[k / 8] := by simp
  have hi : (k / 8 * 8 + 7 - k % 8) / 8 = k / 8 := by omega
  have hm : (k / 8 * 8 + 7 - k % 8) % 8 = 7 - k % 8 := by omega
  refine ⟨_, Nat.mod_lt _ (by decide), ?_, textLow_get hz⟩
  rw [textHigh_get (k := k / 8 * 8 + 7 - k % 8) (z := xs[k / 8]) (by rw [hi]; exact hz), hm, show 7 - (7 - k % 8) = k % 8 by omega]

/-- A row that is written place by place over noughts. -/
theorem over_noughtsN {Z : List Nat} {n k z : Nat} (hz : Z[k]? = some z) (hk : k < n) : (Z.take k ++ List.replicate (n - k) 0).set k z = Z.take (k + 1) ++ List.replicate (n - (k + 1)) 0 := by
  have hlt := (List.getElem?_eq_some_iff.1 hz).1
  have hl : (Z.take k).length = k := by rw [List.length_take]; omega
  obtain ⟨m, hm⟩ : ∃ m, n - k = m + 1 := ⟨n - k - 1, by omega⟩
  rw [List.set_append_right _ _ (by omega), hl, Nat.sub_self, hm, List.replicate_succ, List.set_cons_zero, List.take_add_one, hz, show n - (k + 1) = m by omega]
  simp

end Go.Proofs.Ytplobmkfmflkaaa
