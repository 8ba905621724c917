/-
  What follows of a division's two answers, as numbers. No function of the program is spoken of.
-/
import Derived.Test.YtecfniimpedlkaaGfAll
namespace Go.Proofs.Ytecfniimpedlkaa
open Go.RowKit

/-- What a division of A by m answers. -/
def Quot (A M Q R T : List Int) : Prop := Tr Q ∧ Tr R ∧ val A = cl (val Q) (val M) ^^^ val R ∧ val R < 2 ^ (T.length - 1)

theorem tr_top {M T : List Int} (hT : Tr T ∧ val T = val M) (h0 : val M ≠ 0) : T ≠ [] ∧ 2 ^ (T.length - 1) ≤ val M ∧ val M < 2 ^ (T.length - 1 + 1) := by
  have hne : T ≠ [] := fun e => h0 (by rw [← hT.2, e]; rfl)
  have := hT.1.top hne
  rw [hT.2] at this
  exact ⟨hne, this⟩

theorem Quot.less {A M Q R T : List Int} (h : Quot A M Q R T) (hT : Tr T ∧ val T = val M) (h0 : val M ≠ 0) : R.length < T.length := by
  have h1 := h.2.1.len_le h.2.2.2
  have h2 : 0 < T.length := List.length_pos_iff.2 (tr_top hT h0).1
  omega

theorem Quot.len {A M Q R T : List Int} {k : Nat} (h : Quot A M Q R T) (h0 : val M ≠ 0) (hA : Bin A) (ha : A.length ≤ k) (ht : T.length ≤ k) : Q.length ≤ k := by
  by_cases hq : Q = []
  · rw [hq]; simp
  · obtain ⟨q1, q2⟩ := h.1.top hq
    have g := cl_ge q1 q2 (val M) h0
    rw [cl_comm] at g
    have hlt : cl (val Q) (val M) < 2 ^ k := by
      have e : cl (val Q) (val M) = val A ^^^ val R := by rw [h.2.2.1, Nat.xor_assoc, Nat.xor_self, Nat.xor_zero]
      rw [e]
      exact xor_lt (Nat.lt_of_lt_of_le (val_lt hA) (Nat.pow_le_pow_right (by omega) ha)) (Nat.lt_of_lt_of_le h.2.2.2 (Nat.pow_le_pow_right (by omega) (by omega)))
    have : Q.length - 1 < k := (Nat.pow_lt_pow_iff_right (a := 2) (by omega)).1 (Nat.lt_of_le_of_lt g hlt)
    omega

theorem Quot.once {A M Q R T : List Int} {q r : Nat} (h : Quot A M Q R T) (hT : Tr T ∧ val T = val M) (h0 : val M ≠ 0) (hr : r < 2 ^ (T.length - 1)) (e : val A = cl q (val M) ^^^ r) : val Q = q ∧ val R = r := by
  obtain ⟨_, t1, t2⟩ := tr_top hT h0
  exact rest_once t1 t2 h.2.2.2 hr (h.2.2.1.symm.trans e)

end Go.Proofs.Ytecfniimpedlkaa
