/-
  What bit.Get and the page's Get answer, for every text and every argument.
-/
import Derived.Test.YtklmiapieaogdaaPutGet
namespace Go.Proofs.Ytklmiapieaogdaa
open Go.RowKit

/-- The number that bytes make, the highest first. -/
def beNum (l : List Int) : Int := l.foldl (fun acc x => acc * 256 + x) 0

theorem beNum_snoc (l : List Int) (x : Int) : beNum (l ++ [x]) = beNum l * 256 + x := by simp [beNum]

theorem beNum_bd (l : List Int) (h : ∀ z ∈ l, 0 ≤ z ∧ z ≤ 255) : 0 ≤ beNum l ∧ beNum l < 256 ^ l.length := by
  have key : ∀ (k : Nat) (l : List Int), l.length = k → (∀ z ∈ l, 0 ≤ z ∧ z ≤ 255) → 0 ≤ beNum l ∧ beNum l < 256 ^ l.length := by
    intro k
    induction k with
    | zero =>
      intro l hl _
      rw [List.length_eq_zero_iff.1 hl]
      simp [beNum]
    | succ k ih =>
      intro l hl hb
      have hne : l ≠ [] := fun e => by rw [e] at hl; simp at hl
      rw [← List.dropLast_concat_getLast hne] at hb ⊢
      have h1 := ih l.dropLast (by simp [hl]) (fun z hz => hb z (List.mem_append_left _ hz))
      have h2 := hb (l.getLast hne) (by simp)
      rw [beNum_snoc, List.length_append, List.length_singleton, Int.pow_succ]
      omega
  exact key _ l rfl h

theorem or_join (acc x : Int) (h0 : 0 ≤ acc) (h1 : acc < 4294967296) (hx : 0 ≤ x) (hx' : x ≤ 255) : bits .or .i64 (acc * 256) x = acc * 256 + x := by
  have e63 : (2 : Int) ^ 63 = 9223372036854775808 := by decide
  exact bits_join .i64 63 (by decide) wraps_i64 8 (acc * 256) x (by omega) (by simp) (by rw [e63]; omega) hx (by simp; omega) (by rw [e63]; omega)

theorem take_drop_succ {zs : List Int} {t j : Nat} {z : Int} (h : zs[t + j]? = some z) : (zs.drop t).take (j + 1) = (zs.drop t).take j ++ [z] := by
  rw [List.take_add_one, List.getElem?_drop, h]; rfl

theorem take_bd (zs : List Int) (hz : ∀ z ∈ zs, 0 ≤ z ∧ z ≤ 255) (t j k : Nat) (hj : j ≤ k) : 0 ≤ beNum ((zs.drop t).take j) ∧ beNum ((zs.drop t).take j) < 256 ^ k := by
  have h := beNum_bd ((zs.drop t).take j) (fun z h => hz z (List.mem_of_mem_drop (List.mem_of_mem_take h)))
  have hl : ((zs.drop t).take j).length ≤ k := Nat.le_trans (List.length_take_le _ _) hj
  refine ⟨h.1, Int.lt_of_lt_of_le h.2 ?_⟩
  have h' := Int.ofNat_le.2 (Nat.pow_le_pow_right (n := 256) (by decide) hl)
  rw [Int.natCast_pow, Int.natCast_pow] at h'
  exact h'

/-- What Get refuses for its arguments. -/
def badGet (len : Nat) (at' size : Int) : Prop := size < 1 ∨ 4 < size ∨ at' < 0 ∨ (len : Int) < at'

end Go.Proofs.Ytklmiapieaogdaa
