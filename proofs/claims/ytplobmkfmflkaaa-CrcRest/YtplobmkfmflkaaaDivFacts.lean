/-
  The rounds of a division of rows of 0 and 1, as numbers. No function of the program is spoken of.
-/
import Derived.Test.YtplobmkfmflkaaaPoly
namespace Go.Proofs.Ytplobmkfmflkaaa
open Go.RowKit

/-- What stands behind k rounds of a division of ys by ms (both trimmed): the rest so far, the quotient so far. -/
structure Divided (ys ms : List Int) (nq k : Nat) (L Q : List Int) : Prop where
  binL : Bin L
  binQ : Bin Q
  lenL : L.length = ys.length
  lenQ : Q.length = nq
  sum : val ys = cl (val Q) (val ms) ^^^ val L
  less : val L < 2 ^ (ys.length - k)
  zero : ∀ j, k ≤ j → j < nq → Q[j]? = some 0
  first : k = 0 → L = ys
  one : 0 < k → Q[0]? = some 1

theorem Divided.start {ys ms : List Int} (hy : Tr ys) (nq : Nat) : Divided ys ms nq 0 ys (List.replicate nq 0) where
  binL := hy.1
  binQ := Bin.noughts nq
  lenL := rfl
  lenQ := by simp
  sum := by rw [val_noughts, cl_zero, Nat.zero_xor]
  less := val_lt hy.1
  zero := fun j _ h => by simp [h]
  first := fun _ => rfl
  one := fun h => by omega

theorem Divided.bit {ys ms L Q : List Int} {nq k : Nat} (h : Divided ys ms nq k L Q) {x : Int} (hx : L[k]? = some x) : (x = 0 → val L < 2 ^ (ys.length - (k + 1))) ∧ (x = 1 → 2 ^ (ys.length - (k + 1)) ≤ val L) := by
  have hk : k < ys.length := h.lenL ▸ (List.getElem?_eq_some_iff.1 hx).1
  have hb := val_bit h.binL hx
  have hl := h.less
  obtain ⟨s, hs⟩ : ∃ s, ys.length - k = s + 1 := ⟨ys.length - k - 1, by omega⟩
  have e1 : L.length - 1 - k = s := by rw [h.lenL]; omega
  have e2 : ys.length - (k + 1) = s := by omega
  rw [e1] at hb
  rw [hs, Nat.pow_succ] at hl
  rw [e2]
  have hq : val L / 2 ^ s < 2 := (Nat.div_lt_iff_lt_mul (Nat.two_pow_pos s)).2 (by omega)
  constructor
  · intro h0
    rw [h0] at hb
    have : val L / 2 ^ s = 0 := by
      generalize val L / 2 ^ s = T at hb hq
      simp at hb
      omega
    exact (Nat.div_eq_zero_iff_lt (Nat.two_pow_pos s)).1 this
  · intro h1
    rw [h1] at hb
    have : 1 ≤ val L / 2 ^ s := by
      generalize val L / 2 ^ s = T at hb hq
      simp at hb
      omega
    have := (Nat.le_div_iff_mul_le (Nat.two_pow_pos s)).1 this
    omega

theorem Divided.pass {ys ms L Q : List Int} {nq k : Nat} (h : Divided ys ms nq k L Q) (hy : Tr ys) (hx : L[k]? = some 0) : Divided ys ms nq (k + 1) L Q where
  binL := h.binL
  binQ := h.binQ
  lenL := h.lenL
  lenQ := h.lenQ
  sum := h.sum
  less := (h.bit hx).1 rfl
  zero := fun j hj hn => h.zero j (by omega) hn
  first := fun e => by omega
  one := fun _ => by
    by_cases hk : k = 0
    · subst hk
      have e := h.first rfl
      subst e
      exact absurd (by rw [List.head?_eq_getElem?]; exact hx) hy.2
    · exact h.one (by omega)

theorem Divided.next {ys ms L Q L' : List Int} {nq k : Nat} (h : Divided ys ms nq k L Q) (hm : Tr ms) (hm0 : ms ≠ []) (hq : k < nq) (hnq : nq + ms.length = ys.length + 1) (hx : L[k]? = some 1)
    (hL : Bin L') (hlen : L'.length = L.length) (hval : val L' = val L ^^^ val ms * 2 ^ (L.length - k - ms.length)) : Divided ys ms nq (k + 1) L' (Q.set k 1) := by
  obtain ⟨t1, t2⟩ := hm.top hm0
  have hmp : 0 < ms.length := List.length_pos_iff.2 hm0
  have e1 : L.length - k - ms.length = nq - 1 - k := by rw [h.lenL]; omega
  have hQ := val_set h.binQ (h.zero k (Nat.le_refl _) hq) (y := 1) (.inr rfl) 1 (by decide)
  rw [h.lenQ] at hQ
  rw [e1] at hval
  simp at hQ
  refine ⟨hL, h.binQ.set k (.inr rfl), hlen.trans h.lenL, by simp [h.lenQ], ?_, ?_, fun j hj hn => ?_, fun e => by omega, fun _ => ?_⟩
  · rw [hQ, hval, cl_xor_left, cl_comm (2 ^ _), cl_pow, xor4, Nat.xor_self, Nat.xor_zero]
    exact h.sum
  · rw [hval]
    obtain ⟨s, hs⟩ : ∃ s, ys.length - k = s + 1 := ⟨ys.length - k - 1, by omega⟩
    have hl := h.less
    rw [hs] at hl
    have hg := (h.bit hx).2 rfl
    have e2 : ys.length - (k + 1) = s := by omega
    rw [e2] at hg ⊢
    have e3 : s = ms.length - 1 + (nq - 1 - k) := by omega
    refine xor_top hg hl ?_ ?_
    · rw [e3, Nat.pow_add]
      exact Nat.mul_le_mul_right _ t1
    · rw [show s + 1 = ms.length - 1 + 1 + (nq - 1 - k) by omega, Nat.pow_add]
      exact Nat.mul_lt_mul_of_pos_right t2 (Nat.two_pow_pos _)
  · rw [List.getElem?_set_ne (by omega)]
    exact h.zero j (by omega) hn
  · by_cases hk : k = 0
    · subst hk
      rw [List.getElem?_set_self (by rw [h.lenQ]; exact hq)]
    · rw [List.getElem?_set_ne (by omega)]
      exact h.one (by omega)

theorem Divided.done {ys ms L Q : List Int} {nq : Nat} (h : Divided ys ms nq nq L Q) (hnq : ys.length + 1 ≤ nq + ms.length) : Tr Q ∧ val L < 2 ^ (ms.length - 1) := by
  refine ⟨⟨h.binQ, ?_⟩, Nat.lt_of_lt_of_le h.less (Nat.pow_le_pow_right (by omega) (by omega))⟩
  by_cases h0 : nq = 0
  · have : Q = [] := List.length_eq_zero_iff.1 (h.lenQ.trans h0)
    rw [this]; simp
  · rw [List.head?_eq_getElem?, h.one (by omega)]; simp

end Go.Proofs.Ytplobmkfmflkaaa
