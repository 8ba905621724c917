/-
  Piles as lists of symbols, by rising places. No program is spoken of.
-/
import Derived.Test.YtmjidhnlofpliabM03
import Derived.Test.YtmjidhnlofpliabM07
namespace Go.Proofs.Ytmjidhnlofpliab

/-- Rising places. -/
def Rises (l : List (Int × Int)) : Prop := l.Pairwise fun x y => x.1 < y.1
/-- A symbol that may be. -/
def SymOk (n p : Int) (x : Int × Int) : Prop := 0 ≤ x.1 ∧ x.1 < n * p ∧ 0 ≤ x.2 ∧ x.2 ≤ 255
/-- A right pile. -/
def HeadOk (n p : Int) : Prop := 1 ≤ n ∧ n ≤ 64 ∧ 1 ≤ p ∧ p ≤ 16
def PileOk (n p : Int) (l : List (Int × Int)) : Prop := HeadOk n p ∧ (∀ x ∈ l, SymOk n p x) ∧ Rises l

theorem pileOk_nil {n p : Int} (h : HeadOk n p) : PileOk n p [] := ⟨h, fun x hx => by simp at hx, List.Pairwise.nil⟩
theorem HeadOk.prod {n p : Int} (h : HeadOk n p) : 1 ≤ n * p ∧ n * p ≤ 1024 := by
  obtain ⟨h1, h2, h3, h4⟩ := h
  constructor
  · have := Int.mul_le_mul h1 h3 (by decide) (by omega)
    omega
  · have := Int.mul_le_mul h2 h4 (by omega) (by decide)
    omega

theorem Rises.tail {x : Int × Int} {l : List (Int × Int)} (h : Rises (x :: l)) : Rises l := (List.pairwise_cons.1 h).2
theorem Rises.head {x y : Int × Int} {l : List (Int × Int)} (h : Rises (x :: l)) (hy : y ∈ l) : x.1 < y.1 := (List.pairwise_cons.1 h).1 y hy

/-- How many stand ahead of a place. -/
def aheadOf : List (Int × Int) → Int → Nat
  | [], _ => 0
  | x :: l, k => if x.1 < k then aheadOf l k + 1 else 0
/-- Does a symbol stand at a place? -/
def hasAt (l : List (Int × Int)) (k : Int) : Bool := match l[aheadOf l k]? with | some x => x.1 == k | none => false
/-- A symbol more. -/
def putL (l : List (Int × Int)) (k v : Int) : List (Int × Int) := l.take (aheadOf l k) ++ (k, v) :: l.drop (aheadOf l k)
theorem putL_mem {l : List (Int × Int)} {k v : Int} {x : Int × Int} : x ∈ putL l k v ↔ x = (k, v) ∨ x ∈ l := by
  unfold putL
  rw [List.mem_append, List.mem_cons]
  constructor
  · rintro (h | h | h)
    · exact .inr (List.mem_of_mem_take h)
    · exact .inl h
    · exact .inr (List.mem_of_mem_drop h)
  · rintro (h | h)
    · exact .inr (.inl h)
    · have := List.take_append_drop (aheadOf l k) l
      rw [← this, List.mem_append] at h
      rcases h with h | h
      · exact .inl h
      · exact .inr (.inr h)
/-- What a pile is with a symbol more, and whether it is fresh. -/
def putN (n p : Int) (l : List (Int × Int)) (k v : Int) : List (Int × Int) := if n * p ≤ k ∨ hasAt l k = true then l else putL l k v
/-- A right pile is no longer than it may be. -/
theorem rises_len : ∀ {l : List (Int × Int)} {a b : Int}, Rises l → (∀ x ∈ l, a ≤ x.1 ∧ x.1 < b) → (l.length : Int) ≤ max 0 (b - a)
  | [], a, b, _, _ => by simp; omega
  | x :: l, a, b, hr, h => by
    have ih := rises_len (l := l) (a := x.1 + 1) (b := b) hr.tail (fun y hy => ⟨by have := hr.head hy; omega, (h y (List.mem_cons_of_mem _ hy)).2⟩)
    have hx := h x List.mem_cons_self
    rw [List.length_cons]
    omega
theorem pile_len {n p : Int} {l : List (Int × Int)} (h : PileOk n p l) : (l.length : Int) ≤ n * p := by
  have h1 := rises_len (a := 0) (b := n * p) h.2.2 (fun x hx => ⟨(h.2.1 x hx).1, (h.2.1 x hx).2.1⟩)
  have := h.1.prod
  omega

/-- Rising so far: the first k symbols are right. -/
def SymsOk (n p : Int) (l : List (Int × Int)) : Prop := (∀ x ∈ l, SymOk n p x) ∧ Rises l
theorem symsOk_nil (n p : Int) : SymsOk n p [] := ⟨fun x hx => by simp at hx, List.Pairwise.nil⟩
/-- The last of the first k. -/
theorem symsOk_snoc {n p : Int} {l : List (Int × Int)} {x : Int × Int} (h : SymsOk n p l) (hx : SymOk n p x) (hl : ∀ (y : Int × Int), l[l.length - 1]? = some y → y.1 < x.1) : SymsOk n p (l ++ [x]) := by
  refine ⟨fun y hy => ?_, ?_⟩
  · rcases List.mem_append.1 hy with h' | h'
    · exact h.1 y h'
    · simp at h'; subst h'; exact hx
  · unfold Rises
    rw [List.pairwise_append]
    refine ⟨h.2, List.pairwise_singleton _ _, fun y hy z hz => ?_⟩
    simp at hz; subst hz
    obtain ⟨j, hj⟩ := List.getElem?_of_mem hy
    have hjl := (List.getElem?_eq_some_iff.1 hj).1
    have hlast : l[l.length - 1]? = some l[l.length - 1] := by simp
    have h1 := hl _ hlast
    rcases Nat.lt_or_ge j (l.length - 1) with hlt | hge
    · obtain ⟨_, e⟩ := List.getElem?_eq_some_iff.1 hj
      have := List.pairwise_iff_getElem.1 h.2 j (l.length - 1) hjl (by omega) hlt
      rw [e] at this
      omega
    · have e : j = l.length - 1 := by omega
      subst e
      rw [hlast] at hj
      cases hj
      exact h1
theorem symsOk_take {n p : Int} {l : List (Int × Int)} (h : SymsOk n p l) (k : Nat) : SymsOk n p (l.take k) := ⟨fun x hx => h.1 x (List.mem_of_mem_take hx), h.2.sublist (List.take_sublist _ _)⟩

/-- The least place that may follow. -/
def leastN (l : List (Int × Int)) : Int := match l.getLast? with | none => 0 | some x => x.1 + 1
theorem leastN_snoc (l : List (Int × Int)) (x : Int × Int) : leastN (l ++ [x]) = x.1 + 1 := by unfold leastN; rw [List.getLast?_concat]
theorem getLast_at {l : List (Int × Int)} {y : Int × Int} (h : l[l.length - 1]? = some y) : leastN l = y.1 + 1 := by
  unfold leastN
  rw [List.getLast?_eq_getElem?, h]
theorem leastN_bounds {n p : Int} {l : List (Int × Int)} (hh : HeadOk n p) (h : SymsOk n p l) : 0 ≤ leastN l ∧ leastN l ≤ n * p := by
  unfold leastN
  split
  · have := hh.prod; omega
  · rename_i x hx
    have := h.1 x (List.mem_of_getLast? hx)
    have h1 := this.1
    have h2 := this.2.1
    omega
theorem symsOk_more {n p : Int} {l : List (Int × Int)} {x : Int × Int} (hh : HeadOk n p) (h : SymsOk n p l) (h1 : leastN l ≤ x.1) (h2 : x.1 < n * p) (h3 : 0 ≤ x.2) (h4 : x.2 ≤ 255) : SymsOk n p (l ++ [x]) := by
  have hb := leastN_bounds hh h
  refine symsOk_snoc h ⟨by omega, h2, h3, h4⟩ fun y hy => ?_
  have := getLast_at hy
  omega
theorem symsOk_least {n p : Int} {l : List (Int × Int)} {x : Int × Int} (h : SymsOk n p (l ++ [x])) : leastN l ≤ x.1 := by
  unfold leastN
  split
  · exact (h.1 x (by simp)).1
  · rename_i y hy
    have := (List.pairwise_append.1 h.2).2.2 y (List.mem_of_getLast? hy) x (by simp)
    omega

end Go.Proofs.Ytmjidhnlofpliab

/-
  What cmp.Compare, pile.find's comparison, slices.BinarySearchFunc and pile.find answer.
-/
namespace Go.Proofs.Ytmjidhnlofpliab
open Go.RowKit

end Go.Proofs.Ytmjidhnlofpliab
