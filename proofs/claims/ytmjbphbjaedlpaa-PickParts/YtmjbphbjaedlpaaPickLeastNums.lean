/-
  Nodes of given scores, numbered by their states; what is kept of them. No program is spoken of.
-/
import Derived.Test.YtmjbphbjaedlpaaNodeMem
namespace Go.Proofs.Ytmjbphbjaedlpaa
open Go.RowKit

/-- The i-th node of these scores, its state the number F + i. -/
def ndAt (F : Nat) (cs : List Int) (i : Nat) : Nd := (((F + i : Nat) : Int), 0, at0 cs i, [])
def mkL (F : Nat) (cs : List Int) : List Nd := (List.range cs.length).map (ndAt F cs)
def rawAt (F : Nat) (cs : List Int) (i : Nat) : Rn := (((F + i : Nat) : Int), 0, at0 cs i, .slice none 0 0)
def rawL (F : Nat) (cs : List Int) (k : Nat) : List Rn := (List.range k).map (rawAt F cs)
theorem mkL_len (F : Nat) (cs : List Int) : (mkL F cs).length = cs.length := by simp [mkL]
theorem mkL_get {F : Nat} {cs : List Int} {i : Nat} (h : i < cs.length) : (mkL F cs)[i]? = some (ndAt F cs i) := by
  unfold mkL
  rw [List.getElem?_map, List.getElem?_range h]
  rfl
theorem mkL_scores (F : Nat) (cs : List Int) : scores (mkL F cs) = cs := by
  refine List.ext_getElem? fun i => ?_
  by_cases h : i < cs.length
  · unfold scores
    rw [List.getElem?_map, mkL_get h]
    simp [ndAt, sc, at0, h]
  · rw [List.getElem?_eq_none (by rw [scores_len, mkL_len]; omega), List.getElem?_eq_none (by omega)]
theorem mkL_sc {F : Nat} {cs : List Int} (h : ∀ i, i < cs.length → 0 ≤ at0 cs i) : ∀ x ∈ mkL F cs, 0 ≤ sc x := by
  intro x hx
  unfold mkL at hx
  obtain ⟨i, hi, rfl⟩ := List.mem_map.1 hx
  exact h i (List.mem_range.1 hi)
theorem mkL_path {F : Nat} {cs : List Int} : ∀ x ∈ mkL F cs, x.2.2.2 = [] := by
  intro x hx
  unfold mkL at hx
  obtain ⟨i, hi, rfl⟩ := List.mem_map.1 hx
  rfl
theorem kept_mkL (F B : Nat) (cs : List Int) : keptN B (mkL F cs) = ((ord cs).take B).map (ndAt F cs) := by
  rw [kept_ord, mkL_scores]
  unfold pickAt
  refine List.map_congr_left fun i hi => ?_
  rw [mkL_get (ord_take_lt hi)]
  rfl
theorem cut_mkL (F B : Nat) (cs : List Int) : cutK sc B (mkL F cs) = cutOf cs B := by rw [← cut_ord, mkL_scores]
theorem kept_again (B : Nat) (l : List Nd) : keptN B (keptN B l) = keptN B l := by
  unfold keptN
  rw [sortK_id ((sortK_sorted sc l).take B), List.take_take, Nat.min_self]
theorem cut_again (B : Nat) (l : List Nd) : cutK sc B (keptN B l) = -1 := by
  unfold cutK keptN
  rw [sortK_id ((sortK_sorted sc l).take B), List.getElem?_eq_none (by rw [List.length_take]; omega)]
theorem rawL_snoc (F : Nat) (cs : List Int) (k : Nat) : rawL F cs (k + 1) = rawL F cs k ++ [rawAt F cs k] := by
  unfold rawL
  rw [List.range_succ, List.map_append]
  rfl
theorem rawL_len (F : Nat) (cs : List Int) (k : Nat) : (rawL F cs k).length = k := by simp [rawL]
theorem rawL_rns (F : Nat) (cs : List Int) (n₀ : Nat) (W : World) : RnsOf n₀ W (rawL F cs cs.length) (mkL F cs) := by
  refine ⟨by rw [rawL_len, mkL_len], fun j x y hx hy => ?_⟩
  have hj : j < cs.length := by have := (List.getElem?_eq_some_iff.1 hy).1; rwa [mkL_len] at this
  rw [mkL_get hj] at hy
  unfold rawL at hx
  rw [List.getElem?_map, List.getElem?_range hj] at hx
  cases hy
  cases hx
  exact ⟨rfl, rfl, rfl, .inl ⟨⟨_, _, rfl, fun _ => rfl⟩, rfl⟩⟩
theorem take_lex {cs : List Int} {B i j x y : Nat} (hi : ((ord cs).take B)[i]? = some x) (hj : ((ord cs).take B)[j]? = some y) (h : i < j) : at0 cs x < at0 cs y ∨ (at0 cs x = at0 cs y ∧ x < y) := by
  obtain ⟨h1, e1⟩ := List.getElem?_eq_some_iff.1 hi
  obtain ⟨h2, e2⟩ := List.getElem?_eq_some_iff.1 hj
  have hp : ((ord cs).take B).Pairwise (LexK (at0 cs) (· < ·)) := List.Pairwise.sublist (List.take_sublist B _) (ord_lex cs)
  have := List.pairwise_iff_getElem.1 hp i j h1 h2 h
  rw [e1, e2] at this
  exact this
theorem out_lex {cs : List Int} {B x y : Nat} (hx : x ∈ (ord cs).take B) (hy : y < cs.length) (hn : y ∉ (ord cs).take B) : at0 cs x < at0 cs y ∨ (at0 cs x = at0 cs y ∧ x < y) := by
  have hm : y ∈ (ord cs).drop B := by
    have := ord_mem.2 hy
    rw [← List.take_append_drop B (ord cs)] at this
    rcases List.mem_append.1 this with h | h
    · exact absurd h hn
    · exact h
  have hl := ord_lex cs
  rw [← List.take_append_drop B (ord cs)] at hl
  exact (List.pairwise_append.1 hl).2.2 x hx y hm
theorem take_new {cs : List Int} {B i x : Nat} (h : ((ord cs).take B)[i]? = some x) : x ∉ ((ord cs).take B).take i := by
  have hi : i < B := by
    have := (List.getElem?_eq_some_iff.1 h).1
    rw [List.length_take] at this
    omega
  rw [List.take_take, Nat.min_eq_left (by omega)]
  rw [List.getElem?_take_of_lt hi] at h
  exact next_new h

/-- A score out of a number. -/
def sN (m : Int) (z : Int) : Int := (IntKind.u64.wrap z).tmod m
theorem sN_bd (m z : Int) (hm : 0 < m) : 0 ≤ sN m z ∧ sN m z < m := by
  have h0 : 0 ≤ IntKind.u64.wrap z := by rw [IntKind.wrap_u64]; omega
  exact ⟨Int.tmod_nonneg m h0, Int.tmod_lt_of_pos _ hm⟩
def sL (m : Int) (zs : List Int) : List Int := zs.map (sN m)
theorem sL_len (m : Int) (zs : List Int) : (sL m zs).length = zs.length := by simp [sL]
theorem sL_at {m : Int} {zs : List Int} {i : Nat} {z : Int} (h : zs[i]? = some z) : at0 (sL m zs) i = sN m z := by simp [at0, sL, h]
theorem sL_bd {m : Int} (hm : 0 < m) {zs : List Int} : ∀ i, i < (sL m zs).length → 0 ≤ at0 (sL m zs) i ∧ at0 (sL m zs) i < m := by
  intro i hi
  rw [sL_len] at hi
  rw [sL_at (z := zs[i]) (by simp [hi])]
  exact sN_bd m _ hm

end Go.Proofs.Ytmjbphbjaedlpaa
