/-
  What a message that is being put together becomes by any block, right or not, as numbers. No function of the program is spoken of.
-/
import Derived.Test.YtklmiapieaogdaaCutNums
namespace Go.Proofs.Ytklmiapieaogdaa
open Go.RowKit

/-- Does a block with this mark end what is open (o)? Of any mark. -/
def endsA (o : Bool) (m : Int) : Bool := (bits .and .i64 m 2 != 0) && (o || (bits .and .i64 m 1 != 0))
/-- May j be, and the mark? -/
def argJ (j : Jn) (m : Int) : Bool := decide (j.2.length ≤ 4096) && (j.1 || decide (j.2.length = 0)) && decide (0 ≤ m) && decide (m ≤ 3)
/-- Why a block may not be put to j. -/
def errJ (j : Jn) (m : Int) (xs : List Int) : Int :=
  if argJ j m then (if xs.length ≤ 16 then (if (openJ j m).1 = true ∧ 4096 < (openJ j m).2.length + xs.length then 2 else 0) else 2) else 1
/-- What Take answers: the next, the message, is it done. -/
def takeJ (j : Jn) (m : Int) (xs : List Int) : Jn × List Int × Bool :=
  if errJ j m xs = 0 then ((joinJ j m xs).1, (joinJ j m xs).2.getD [], (joinJ j m xs).2.isSome) else ((false, []), [], false)
theorem argJ_iff (j : Jn) (m : Int) : argJ j m = true ↔ j.2.length ≤ 4096 ∧ (j.1 = true ∨ j.2.length = 0) ∧ 0 ≤ m ∧ m ≤ 3 := by
  unfold argJ
  simp only [Bool.and_eq_true, Bool.or_eq_true, decide_eq_true_eq, and_assoc]
theorem takeJ_err {j : Jn} {m : Int} {xs : List Int} (h : errJ j m xs ≠ 0) : takeJ j m xs = ((false, []), [], false) := by unfold takeJ; rw [if_neg h]
theorem and1_first {m : Int} (h0 : 0 ≤ m) (h1 : m ≤ 3) : (bits .and .i64 m 1 != 0) = firstM m := by
  have : m = 0 ∨ m = 1 ∨ m = 2 ∨ m = 3 := by omega
  rcases this with rfl | rfl | rfl | rfl <;> decide
theorem and2_last {m : Int} (h0 : 0 ≤ m) (h1 : m ≤ 3) : (bits .and .i64 m 2 != 0) = lastM m := by
  have : m = 0 ∨ m = 1 ∨ m = 2 ∨ m = 3 := by omega
  rcases this with rfl | rfl | rfl | rfl <;> decide
theorem endsA_right {j : Jn} {m : Int} (h0 : 0 ≤ m) (h1 : m ≤ 3) : endsA j.1 m = endsJ j m := by
  unfold endsA endsJ
  rw [and1_first h0 h1, and2_last h0 h1]
/-- The five ways. -/
theorem takeJ_cases (j : Jn) (m : Int) (xs : List Int) :
    (argJ j m = false ∧ errJ j m xs = 1 ∧ takeJ j m xs = ((false, []), [], false)) ∨
    (argJ j m = true ∧ 16 < xs.length ∧ errJ j m xs = 2 ∧ takeJ j m xs = ((false, []), [], false)) ∨
    (argJ j m = true ∧ xs.length ≤ 16 ∧ (openJ j m).1 = false ∧ errJ j m xs = 0 ∧ takeJ j m xs = ((false, []), [], false)) ∨
    (argJ j m = true ∧ xs.length ≤ 16 ∧ (openJ j m).1 = true ∧ 4096 < (openJ j m).2.length + xs.length ∧ errJ j m xs = 2 ∧ takeJ j m xs = ((false, []), [], false)) ∨
    (argJ j m = true ∧ xs.length ≤ 16 ∧ (openJ j m).1 = true ∧ (openJ j m).2.length + xs.length ≤ 4096 ∧ errJ j m xs = 0 ∧ takeJ j m xs = if lastM m = true then ((false, []), (openJ j m).2 ++ xs, true) else ((true, (openJ j m).2 ++ xs), [], false)) := by
  by_cases h1 : argJ j m = true
  · by_cases h2 : xs.length ≤ 16
    · by_cases h3 : (openJ j m).1 = true
      · by_cases h4 : 4096 < (openJ j m).2.length + xs.length
        · have e : errJ j m xs = 2 := by unfold errJ; rw [if_pos h1, if_pos h2, if_pos ⟨h3, h4⟩]
          exact .inr (.inr (.inr (.inl ⟨h1, h2, h3, h4, e, takeJ_err (by rw [e]; decide)⟩)))
        · have e : errJ j m xs = 0 := by unfold errJ; rw [if_pos h1, if_pos h2, if_neg (fun h => h4 h.2)]
          refine .inr (.inr (.inr (.inr ⟨h1, h2, h3, by omega, e, ?_⟩)))
          unfold takeJ
          rw [if_pos e]
          by_cases h5 : lastM m = true
          · rw [if_pos h5, joinJ_last xs h3 h5]; rfl
          · rw [if_neg h5, joinJ_more xs h3 (by simpa using h5)]; rfl
      · have h3' : (openJ j m).1 = false := by simpa using h3
        have e : errJ j m xs = 0 := by unfold errJ; rw [if_pos h1, if_pos h2, if_neg (fun h => h3 h.1)]
        refine .inr (.inr (.inl ⟨h1, h2, h3', e, ?_⟩))
        unfold takeJ
        rw [if_pos e, joinJ_shut xs h3']
        have hf : firstM m = false := by
          cases hf : firstM m with
          | false => rfl
          | true => unfold openJ at h3'; rw [hf] at h3'; simp at h3'
        have ho : openJ j m = j := by unfold openJ; rw [hf]; rfl
        rw [ho] at h3' ⊢
        have hj := ((argJ_iff j m).1 h1).2.1
        have hj2 : j.2 = [] := by
          rcases hj with h | h
          · rw [h3'] at h; cases h
          · exact List.length_eq_zero_iff.1 h
        obtain ⟨o, t⟩ := j
        simp only at h3' hj2
        subst h3' hj2
        rfl
    · have e : errJ j m xs = 2 := by unfold errJ; rw [if_pos h1, if_neg h2]
      exact .inr (.inl ⟨h1, by omega, e, takeJ_err (by rw [e]; decide)⟩)
  · have e : errJ j m xs = 1 := by unfold errJ; rw [if_neg h1]
    exact .inl ⟨by simpa using h1, e, takeJ_err (by rw [e]; decide)⟩

end Go.Proofs.Ytklmiapieaogdaa
