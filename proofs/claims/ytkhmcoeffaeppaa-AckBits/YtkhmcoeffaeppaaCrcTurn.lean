/-
  Texts that are turned about at some places: as a xor with a mask; when their sums are unlike. No function of the program is spoken of.
-/
import Derived.Test.YtkhmcoeffaeppaaCrcText
import Derived.Test.YtkhmcoeffaeppaaByteRow
namespace Go.Proofs.Ytkhmcoeffaeppaa
open Go.RowKit

theorem xorText_noughts : ∀ (xs : List Int), (∀ z ∈ xs, 0 ≤ z ∧ z ≤ 255) → xorText xs (List.replicate xs.length 0) = xs
  | [], _ => rfl
  | x :: l, h => by
    rw [List.length_cons, List.replicate_succ, xorText, xorText_noughts l (fun z hz => h z (List.mem_cons_of_mem _ hz))]
    have := h x List.mem_cons_self
    congr 1
    show ((x.toNat ^^^ 0 : Nat) : Int) = x
    rw [Nat.xor_zero]
    omega

theorem xorText_set : ∀ (xs M : List Int) (k : Nat) (x t : Int), xs.length = M.length → xs[k]? = some x → xorText xs (M.set k t) = (xorText xs M).set k ((x.toNat ^^^ t.toNat : Nat) : Int)
  | [], _, _, _, _, _, h => by simp at h
  | _ :: _, [], _, _, _, h, _ => by simp at h
  | a :: l, b :: m, 0, x, t, _, h => by simp at h; subst h; rfl
  | a :: l, b :: m, k + 1, x, t, h, g => by
    rw [List.set_cons_succ, xorText, xorText, List.set_cons_succ, xorText_set l m k x t (by simpa using h) (by simpa using g)]

/-- The mask: ts from place p on, so many of them. -/
def maskTo (n p : Nat) (ts : List Int) (i : Nat) : List Int := (List.replicate p 0 ++ ts).take (p + i) ++ List.replicate (n - (p + i)) 0

theorem maskTo_len {n p : Nat} {ts : List Int} {i : Nat} (hi : i ≤ ts.length) (hn : p + i ≤ n) : (maskTo n p ts i).length = n := by
  unfold maskTo
  rw [List.length_append, List.length_take, List.length_append, List.length_replicate, List.length_replicate]
  omega
theorem maskTo_zero {n p : Nat} {ts : List Int} (hn : p ≤ n) : maskTo n p ts 0 = List.replicate n 0 := by
  unfold maskTo
  rw [Nat.add_zero, List.take_append_of_le_length (by simp), List.take_of_length_le (by simp), List.replicate_append_replicate]
  congr 1
  omega
theorem maskTo_next {n p : Nat} {ts : List Int} {i : Nat} {t : Int} (ht : ts[i]? = some t) (hn : p + i < n) : (maskTo n p ts i).set (p + i) t = maskTo n p ts (i + 1) := by
  have hz : (List.replicate p 0 ++ ts)[p + i]? = some t := by
    rw [List.getElem?_append_right (by simp), List.length_replicate, show p + i - p = i by omega, ht]
  exact over_noughts hz hn
theorem maskTo_get {n p : Nat} {ts : List Int} {i : Nat} (hi : i ≤ ts.length) (hn : p + i < n) : (maskTo n p ts i)[p + i]? = some 0 := by
  unfold maskTo
  have hl : ((List.replicate p 0 ++ ts).take (p + i)).length = p + i := by rw [List.length_take, List.length_append, List.length_replicate]; omega
  rw [List.getElem?_append_right (by omega), hl, Nat.sub_self, List.getElem?_replicate, if_pos (by omega)]

/-- A text, turned about by ts from place p on. -/
def turnTo (xs : List Int) (p : Nat) (ts : List Int) (i : Nat) : List Int := xorText xs (maskTo xs.length p ts i)

theorem turnTo_len {xs : List Int} {p : Nat} {ts : List Int} {i : Nat} (hi : i ≤ ts.length) (hn : p + i ≤ xs.length) : (turnTo xs p ts i).length = xs.length := by
  have h := maskTo_len hi hn
  exact (xorText_len _ _ h.symm).trans h
theorem turnTo_zero {xs : List Int} (bx : ∀ z ∈ xs, 0 ≤ z ∧ z ≤ 255) {p : Nat} {ts : List Int} (hn : p ≤ xs.length) : turnTo xs p ts 0 = xs := by
  unfold turnTo
  rw [maskTo_zero hn]
  exact xorText_noughts xs bx
theorem turnTo_get {xs : List Int} {p : Nat} {ts : List Int} {i x : Nat} (hi : i ≤ ts.length) (hx : xs[p + i]? = some (x : Int)) : (turnTo xs p ts i)[p + i]? = some (x : Int) := by
  have hlt := (List.getElem?_eq_some_iff.1 hx).1
  have := xorText_get hx (maskTo_get hi hlt)
  unfold turnTo
  rw [this]
  show some ((x ^^^ 0 : Nat) : Int) = some (x : Int)
  rw [Nat.xor_zero]
theorem turnTo_next {xs : List Int} {p : Nat} {ts : List Int} {i x t : Nat} (ht : ts[i]? = some (t : Int)) (hx : xs[p + i]? = some (x : Int)) : (turnTo xs p ts i).set (p + i) ((x ^^^ t : Nat) : Int) = turnTo xs p ts (i + 1) := by
  have hlt := (List.getElem?_eq_some_iff.1 hx).1
  have hi := (List.getElem?_eq_some_iff.1 ht).1
  have := xorText_set xs (maskTo xs.length p ts i) (p + i) x t (maskTo_len (by omega) (by omega)).symm hx
  rw [maskTo_next ht hlt] at this
  exact this.symm
theorem maskTo_bd {n p : Nat} {ts : List Int} (bt : ∀ z ∈ ts, 0 ≤ z ∧ z ≤ 255) (i : Nat) : ∀ z ∈ maskTo n p ts i, 0 ≤ z ∧ z ≤ 255 := fun z hz => by
  rcases List.mem_append.1 hz with h | h
  · rcases List.mem_append.1 (List.mem_of_mem_take h) with h | h
    · rw [List.eq_of_mem_replicate h]; omega
    · exact bt z h
  · rw [List.eq_of_mem_replicate h]; omega
theorem turnTo_bd {xs : List Int} (bx : ∀ z ∈ xs, 0 ≤ z ∧ z ≤ 255) {p : Nat} {ts : List Int} (bt : ∀ z ∈ ts, 0 ≤ z ∧ z ≤ 255) (i : Nat) : ∀ z ∈ turnTo xs p ts i, 0 ≤ z ∧ z ≤ 255 :=
  xorText_bd bx (maskTo_bd bt i)

theorem textLow_noughts (k : Nat) : textLow (List.replicate k 0) = List.replicate (8 * k) 0 := by
  induction k with
  | zero => rfl
  | succ k ih =>
    unfold textLow at ih ⊢
    rw [List.replicate_succ, List.flatMap_cons, ih, show 8 * (k + 1) = 8 * k + 8 by omega, ← List.replicate_append_replicate, List.replicate_append_replicate, show 8 * k + 8 = 8 + 8 * k by omega, ← List.replicate_append_replicate]
    rfl
theorem textHigh_noughts (k : Nat) : textHigh (List.replicate k 0) = List.replicate (8 * k) 0 := by
  induction k with
  | zero => rfl
  | succ k ih =>
    unfold textHigh at ih ⊢
    rw [List.replicate_succ, List.flatMap_cons, ih, show 8 * (k + 1) = 8 * k + 8 by omega, ← List.replicate_append_replicate, List.replicate_append_replicate, show 8 * k + 8 = 8 + 8 * k by omega, ← List.replicate_append_replicate]
    rfl

theorem lows_some {t : Nat} (h : t < 256) (h0 : t ≠ 0) : ∃ b ∈ lows t, b ≠ 0 := by
  refine Classical.byContradiction fun hn => h0 ?_
  have hz : ∀ b ∈ lows t, b = 0 := fun b hb => Classical.byContradiction fun h => hn ⟨b, hb, h⟩
  simp [lows] at hz
  omega
theorem highs_some {t : Nat} (h : t < 256) (h0 : t ≠ 0) : ∃ b ∈ highs t, b ≠ 0 := by
  refine Classical.byContradiction fun hn => h0 ?_
  have hz : ∀ b ∈ highs t, b = 0 := fun b hb => Classical.byContradiction fun h => hn ⟨b, hb, h⟩
  simp [highs] at hz
  omega

theorem xor_eq_left {a b : Nat} (h : a ^^^ b = a) : b = 0 := by
  have : a ^^^ (a ^^^ b) = a ^^^ a := by rw [h]
  rwa [← Nat.xor_assoc, Nat.xor_self, Nat.zero_xor] at this

/-- A text turned about in up to four bytes side by side has another register of 32 bits, or it is the same text. -/
theorem sum32_turned {xs : List Int} (bx : ∀ z ∈ xs, 0 ≤ z ∧ z ≤ 255) {p : Nat} {ts : List Int} (bt : ∀ z ∈ ts, 0 ≤ z ∧ z ≤ 255) (h4 : ts.length ≤ 4) (hn : p + ts.length ≤ xs.length) :
    sum32 xs = sum32 (turnTo xs p ts ts.length) ↔ xs = turnTo xs p ts ts.length := by
  constructor
  · intro h
    by_cases hz : ∀ t ∈ ts, t = 0
    · have e : ts = List.replicate ts.length 0 := List.eq_replicate_of_mem hz
      have em : maskTo xs.length p ts ts.length = List.replicate xs.length 0 := by
        unfold maskTo
        rw [e, List.length_replicate, List.replicate_append_replicate, List.take_of_length_le (by simp), List.replicate_append_replicate]
        congr 1
        omega
      unfold turnTo
      rw [em, xorText_noughts xs bx]
    · obtain ⟨t, ht, hne⟩ : ∃ t ∈ ts, t ≠ 0 := Classical.byContradiction fun hn => hz fun t ht => Classical.byContradiction fun h => hn ⟨t, ht, h⟩
      exfalso
      have em : maskTo xs.length p ts ts.length = List.replicate p 0 ++ ts ++ List.replicate (xs.length - (p + ts.length)) 0 := by
        unfold maskTo
        rw [List.take_of_length_le (by simp)]
      have hr : reg32 (turnTo xs p ts ts.length) = reg32 xs ^^^ feed32 0 (textLow (maskTo xs.length p ts ts.length)) := by
        have hl := maskTo_len (n := xs.length) (p := p) (Nat.le_refl ts.length) hn
        unfold reg32 turnTo
        rw [textLow_xor _ _ hl.symm]
        have := feed32_xor (textLow xs) (textLow (maskTo xs.length p ts ts.length)) 4294967295 0 (by rw [textLow_len, textLow_len, hl])
        rwa [Nat.xor_zero] at this
      have h2 : reg32 xs = reg32 (turnTo xs p ts ts.length) := by
        have : sum32 xs ^^^ 4294967295 = sum32 (turnTo xs p ts ts.length) ^^^ 4294967295 := by rw [h]
        unfold sum32 at this
        rwa [Nat.xor_assoc, Nat.xor_self, Nat.xor_zero, Nat.xor_assoc, Nat.xor_self, Nat.xor_zero] at this
      rw [hr] at h2
      have h3 := xor_eq_left h2.symm
      rw [em, textLow_append, textLow_append, textLow_noughts, textLow_noughts] at h3
      refine feed32_burst _ _ (textLow ts) (textLow_01 ts) (by rw [textLow_len]; omega) ?_ h3
      have hb := bt t ht
      obtain ⟨b, hb1, hb2⟩ := lows_some (t := t.toNat) (by omega) (by omega)
      exact ⟨b, List.mem_flatMap.2 ⟨t, ht, hb1⟩, hb2⟩
  · intro h; rw [← h]

/-- A text turned about in up to two bytes side by side has another register of 16 bits, or it is the same text. -/
theorem sum16_turned {xs : List Int} (bx : ∀ z ∈ xs, 0 ≤ z ∧ z ≤ 255) {p : Nat} {ts : List Int} (bt : ∀ z ∈ ts, 0 ≤ z ∧ z ≤ 255) (h4 : ts.length ≤ 2) (hn : p + ts.length ≤ xs.length) :
    sum16 xs = sum16 (turnTo xs p ts ts.length) ↔ xs = turnTo xs p ts ts.length := by
  constructor
  · intro h
    by_cases hz : ∀ t ∈ ts, t = 0
    · have e : ts = List.replicate ts.length 0 := List.eq_replicate_of_mem hz
      have em : maskTo xs.length p ts ts.length = List.replicate xs.length 0 := by
        unfold maskTo
        rw [e, List.length_replicate, List.replicate_append_replicate, List.take_of_length_le (by simp), List.replicate_append_replicate]
        congr 1
        omega
      unfold turnTo
      rw [em, xorText_noughts xs bx]
    · obtain ⟨t, ht, hne⟩ : ∃ t ∈ ts, t ≠ 0 := Classical.byContradiction fun hn => hz fun t ht => Classical.byContradiction fun h => hn ⟨t, ht, h⟩
      exfalso
      have em : maskTo xs.length p ts ts.length = List.replicate p 0 ++ ts ++ List.replicate (xs.length - (p + ts.length)) 0 := by
        unfold maskTo
        rw [List.take_of_length_le (by simp)]
      have hr : sum16 (turnTo xs p ts ts.length) = sum16 xs ^^^ feed16 0 (textHigh (maskTo xs.length p ts ts.length)) := by
        have hl := maskTo_len (n := xs.length) (p := p) (Nat.le_refl ts.length) hn
        unfold sum16 turnTo
        rw [textHigh_xor _ _ hl.symm]
        have := feed16_xor (textHigh xs) (textHigh (maskTo xs.length p ts ts.length)) 65535 0 (by rw [textHigh_len, textHigh_len, hl])
        rwa [Nat.xor_zero] at this
      rw [hr] at h
      have h3 := xor_eq_left h.symm
      rw [em, textHigh_append, textHigh_append, textHigh_noughts, textHigh_noughts] at h3
      refine feed16_burst _ _ (textHigh ts) (textHigh_01 ts) (by rw [textHigh_len]; omega) ?_ h3
      have hb := bt t ht
      obtain ⟨b, hb1, hb2⟩ := highs_some (t := t.toNat) (by omega) (by omega)
      exact ⟨b, List.mem_flatMap.2 ⟨t, ht, hb1⟩, hb2⟩
  · intro h; rw [← h]

end Go.Proofs.Ytkhmcoeffaeppaa
