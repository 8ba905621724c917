/-
  Which nodes are picked, as lists. No program is spoken of.
-/
import Derived.Test.YtkigbanldiialaaGreatDoorM01
import Derived.Test.YtkigbanldiialaaGreatDoorM02
import Derived.BigQuiet
import Derived.Deep.QuietTactic
import Derived.Test.YtkigbanldiialaaGreatDoorRows
import Derived.WalkLawsBesides
import Derived.WalkSpells
namespace Go.Proofs.YtkigbanldiialaaGreatDoor

/-- A node: its state, its metric, its score, its path. -/
abbrev Nd := Int × Int × Int × List Int
def sc (x : Nd) : Int := x.2.2.1

/-- Put in its place among those that rise; a row by rising keys, those of one key in their order. -/
def insK {α : Type} (k : α → Int) (x : α) : List α → List α
  | [] => [x]
  | y :: t => if k x ≤ k y then x :: y :: t else y :: insK k x t
def sortK {α : Type} (k : α → Int) : List α → List α
  | [] => []
  | x :: l => insK k x (sortK k l)

theorem insK_perm {α : Type} (k : α → Int) (x : α) : ∀ l, (insK k x l).Perm (x :: l)
  | [] => List.Perm.refl _
  | y :: t => by
    unfold insK
    split
    · exact List.Perm.refl _
    · exact ((insK_perm k x t).cons y).trans (List.Perm.swap x y t)
theorem sortK_perm {α : Type} (k : α → Int) : ∀ l, (sortK k l).Perm l
  | [] => List.Perm.refl _
  | x :: l => (insK_perm k x _).trans ((sortK_perm k l).cons x)
theorem insK_map {α β : Type} (k : β → Int) (f : α → β) (x : α) : ∀ l, insK k (f x) (l.map f) = (insK (fun a => k (f a)) x l).map f
  | [] => rfl
  | y :: t => by
    simp only [List.map_cons, insK]
    split
    · rfl
    · rw [List.map_cons, insK_map k f x t]
theorem sortK_map {α β : Type} (k : β → Int) (f : α → β) : ∀ l, sortK k (l.map f) = (sortK (fun a => k (f a)) l).map f
  | [] => rfl
  | x :: l => by
    simp only [List.map_cons, sortK]
    rw [sortK_map k f l, insK_map]
theorem insK_congr {α : Type} {k k' : α → Int} (x : α) (hx : k x = k' x) : ∀ l, (∀ y ∈ l, k y = k' y) → insK k x l = insK k' x l
  | [], _ => rfl
  | y :: t, h => by
    simp only [insK]
    rw [hx, h y (by simp), insK_congr x hx t (fun z hz => h z (by simp [hz]))]
theorem sortK_congr {α : Type} {k k' : α → Int} : ∀ l, (∀ y ∈ l, k y = k' y) → sortK k l = sortK k' l
  | [], _ => rfl
  | x :: l, h => by
    simp only [sortK]
    rw [sortK_congr l (fun z hz => h z (by simp [hz])), insK_congr x (h x (by simp)) _ (fun y hy => h y (by simp [(sortK_perm k' l).mem_iff.1 hy]))]

/-- By rising keys, and those of one key as R has them. -/
def LexK {α : Type} (k : α → Int) (R : α → α → Prop) (a b : α) : Prop := k a < k b ∨ (k a = k b ∧ R a b)
theorem LexK.le {α : Type} {k : α → Int} {R : α → α → Prop} {a b : α} (h : LexK k R a b) : k a ≤ k b := by rcases h with h | h <;> omega
theorem insK_lex {α : Type} (k : α → Int) (R : α → α → Prop) (x : α) : ∀ l : List α, l.Pairwise (LexK k R) → (∀ y ∈ l, R x y) → (insK k x l).Pairwise (LexK k R)
  | [], _, _ => by simp [insK]
  | y :: t, h, hx => by
    obtain ⟨h1, h2⟩ := List.pairwise_cons.1 h
    unfold insK
    split
    · next hle =>
      refine List.pairwise_cons.2 ⟨fun z hz => ?_, h⟩
      have hyz : k y ≤ k z := by
        rcases List.mem_cons.1 hz with rfl | hz'
        · exact Int.le_refl _
        · exact (h1 z hz').le
      by_cases e : k x = k z
      · exact .inr ⟨e, hx z hz⟩
      · exact .inl (by omega)
    · next hle =>
      refine List.pairwise_cons.2 ⟨fun z hz => ?_, insK_lex k R x t h2 (fun y' hy' => hx y' (by simp [hy']))⟩
      rcases List.mem_cons.1 ((insK_perm k x t).mem_iff.1 hz) with rfl | hz'
      · exact .inl (by omega)
      · exact h1 z hz'
theorem sortK_lex {α : Type} (k : α → Int) (R : α → α → Prop) : ∀ l : List α, l.Pairwise R → (sortK k l).Pairwise (LexK k R)
  | [], _ => List.Pairwise.nil
  | x :: l, h => by
    obtain ⟨h1, h2⟩ := List.pairwise_cons.1 h
    exact insK_lex k R x _ (sortK_lex k R l h2) (fun y hy => h1 y ((sortK_perm k l).mem_iff.1 hy))
/-- Rising keys. -/
def SortedK {α : Type} (k : α → Int) (l : List α) : Prop := l.Pairwise fun a b => k a ≤ k b
theorem sortK_sorted {α : Type} (k : α → Int) (l : List α) : SortedK k (sortK k l) := (sortK_lex k (fun _ _ => True) l (List.pairwise_of_forall (fun _ _ => trivial))).imp fun h => h.le
theorem SortedK.take {α : Type} {k : α → Int} {l : List α} (h : SortedK k l) (n : Nat) : SortedK k (l.take n) := List.Pairwise.sublist (List.take_sublist n l) h
/-- The least of those that P tells: -1, if there is none. -/
def Least (P : Int → Prop) (v : Int) : Prop := (v = -1 ∧ ∀ z, ¬ P z) ∨ (P v ∧ ∀ z, P z → v ≤ z)
theorem Least.congr {P Q : Int → Prop} (h : ∀ z, P z ↔ Q z) {v : Int} (hv : Least P v) : Least Q v := by
  rcases hv with ⟨h1, h2⟩ | ⟨h1, h2⟩
  · exact .inl ⟨h1, fun z hz => h2 z ((h z).2 hz)⟩
  · exact .inr ⟨(h v).1 h1, fun z hz => h2 z ((h z).2 hz)⟩
theorem Least.ge {P : Int → Prop} (h0 : ∀ z, P z → 0 ≤ z) {v : Int} (h : Least P v) : -1 ≤ v := by
  rcases h with ⟨h1, _⟩ | ⟨h1, _⟩
  · omega
  · have := h0 v h1; omega
/-- One more. -/
theorem Least.more {P : Int → Prop} (h0 : ∀ z, P z → 0 ≤ z) {v c : Int} (h : Least P v) (hc : v < 0 ∨ c < v) : Least (fun z => P z ∨ z = c) c := by
  refine .inr ⟨.inr rfl, fun z hz => ?_⟩
  rcases hz with hz | rfl
  · rcases h with ⟨h1, h2⟩ | ⟨h1, h2⟩
    · exact absurd hz (h2 z)
    · have := h2 z hz
      have := h0 v h1
      omega
  · exact Int.le_refl _
theorem Least.same {P : Int → Prop} {v c : Int} (h : Least P v) (h1 : 0 ≤ v) (hc : v ≤ c) : Least (fun z => P z ∨ z = c) v := by
  rcases h with ⟨e, _⟩ | ⟨hp, hm⟩
  · omega
  · exact .inr ⟨.inl hp, fun z hz => by rcases hz with hz | rfl; exact hm z hz; exact hc⟩
/-- Two at once. -/
def lmin (a c : Int) : Int := if 0 ≤ c ∧ (a < 0 ∨ c < a) then c else a
theorem Least.or {P Q : Int → Prop} (hP : ∀ z, P z → 0 ≤ z) (hQ : ∀ z, Q z → 0 ≤ z) {u v : Int} (hu : Least P u) (hv : Least Q v) : Least (fun z => P z ∨ Q z) (lmin u v) := by
  unfold lmin
  rcases hv with ⟨rfl, nv⟩ | ⟨pv, mv⟩
  · rw [if_neg (by omega)]
    rcases hu with ⟨rfl, nu⟩ | ⟨pu, mu⟩
    · exact .inl ⟨rfl, fun z hz => hz.elim (nu z) (nv z)⟩
    · exact .inr ⟨.inl pu, fun z hz => hz.elim (mu z) (fun h => absurd h (nv z))⟩
  · have := hQ v pv
    rcases hu with ⟨rfl, nu⟩ | ⟨pu, mu⟩
    · rw [if_pos (by omega)]
      exact .inr ⟨.inr pv, fun z hz => hz.elim (fun h => absurd h (nu z)) (mv z)⟩
    · have := hP u pu
      split
      · exact .inr ⟨.inr pv, fun z hz => hz.elim (fun h => by have := mu z h; omega) (mv z)⟩
      · exact .inr ⟨.inl pu, fun z hz => hz.elim (mu z) (fun h => by have := mv z h; omega)⟩

/-- The key that would be next. -/
def cutK {α : Type} (k : α → Int) (n : Nat) (l : List α) : Int := match (sortK k l)[n]? with | some x => k x | none => -1
theorem cutK_least {α : Type} (k : α → Int) (n : Nat) (l : List α) : Least (fun z => ∃ x ∈ (sortK k l).drop n, k x = z) (cutK k n l) := by
  unfold cutK
  have hs : SortedK k ((sortK k l).drop n) := List.Pairwise.sublist (List.drop_sublist n _) (sortK_sorted k l)
  cases hd : (sortK k l).drop n with
  | nil =>
    have : (sortK k l)[n]? = none := by rw [List.getElem?_eq_none_iff]; exact List.drop_eq_nil_iff.1 hd
    rw [this]
    exact .inl ⟨rfl, fun z ⟨x, hx, _⟩ => by simp at hx⟩
  | cons y t =>
    have : (sortK k l)[n]? = some y := by
      have := List.getElem?_drop (xs := sortK k l) (i := n) (j := 0)
      rw [hd] at this
      simpa using this.symm
    rw [this]
    rw [hd] at hs
    obtain ⟨h1, _⟩ := List.pairwise_cons.1 hs
    refine .inr ⟨⟨y, by simp, rfl⟩, fun z ⟨x, hx, e⟩ => ?_⟩
    subst e
    rcases List.mem_cons.1 hx with rfl | hx
    · exact Int.le_refl _
    · exact h1 x hx
/-- The places of a row of scores, in the order in which they are picked. -/
def at0 (cs : List Int) (i : Nat) : Int := cs[i]?.getD 0
def ord (cs : List Int) : List Nat := sortK (at0 cs) (List.range cs.length)
theorem ord_mem {cs : List Int} {i : Nat} : i ∈ ord cs ↔ i < cs.length := by unfold ord; rw [(sortK_perm _ _).mem_iff, List.mem_range]
theorem ord_len (cs : List Int) : (ord cs).length = cs.length := by unfold ord; rw [(sortK_perm _ _).length_eq, List.length_range]
theorem ord_nodup (cs : List Int) : (ord cs).Nodup := (sortK_perm _ _).nodup_iff.2 List.nodup_range
theorem ord_lex (cs : List Int) : (ord cs).Pairwise (LexK (at0 cs) (· < ·)) := sortK_lex _ _ _ List.pairwise_lt_range
theorem ord_take_lt {cs : List Int} {n i : Nat} (h : i ∈ (ord cs).take n) : i < cs.length := ord_mem.1 (List.mem_of_mem_take h)

/-- The first of least score that is not among those. -/
def Best (cs : List Int) (tk : List Nat) (i : Nat) : Prop := i < cs.length ∧ i ∉ tk ∧ ∀ j, j < cs.length → j ∉ tk → at0 cs i < at0 cs j ∨ (at0 cs i = at0 cs j ∧ i ≤ j)
theorem best_next {cs : List Int} {n i : Nat} (h : Best cs ((ord cs).take n) i) : (ord cs)[n]? = some i := by
  obtain ⟨h1, h2, h3⟩ := h
  have hm : i ∈ (ord cs).drop n := by
    have := ord_mem.2 h1
    rw [← List.take_append_drop n (ord cs)] at this
    rcases List.mem_append.1 this with h | h
    · exact absurd h h2
    · exact h
  cases hd : (ord cs).drop n with
  | nil => rw [hd] at hm; simp at hm
  | cons y t =>
    have hy : (ord cs)[n]? = some y := by
      have := List.getElem?_drop (xs := ord cs) (i := n) (j := 0)
      rw [hd] at this
      simpa using this.symm
    rw [hd] at hm
    rcases List.mem_cons.1 hm with rfl | hm
    · exact hy
    · have hl : ((ord cs).drop n).Pairwise (LexK (at0 cs) (· < ·)) := List.Pairwise.sublist (List.drop_sublist n _) (ord_lex cs)
      rw [hd] at hl
      have hlt := (List.pairwise_cons.1 hl).1 i hm
      have hyn : y ∉ (ord cs).take n := fun hc => by
        have hnd := ord_nodup cs
        rw [← List.take_append_drop n (ord cs), hd] at hnd
        exact (List.nodup_append.1 hnd).2.2 y hc y (by simp) rfl
      have hyl : y < cs.length := ord_mem.1 (List.mem_of_getElem? hy)
      have := h3 y hyl hyn
      rcases hlt with h | ⟨h, h'⟩
      · rcases this with t | t <;> omega
      · rcases this with t | t <;> omega
theorem take_next {cs : List Int} {n i : Nat} (h : (ord cs)[n]? = some i) : (ord cs).take (n + 1) = (ord cs).take n ++ [i] := by rw [List.take_add_one, h]; rfl
theorem next_new {cs : List Int} {n i : Nat} (h : (ord cs)[n]? = some i) : i ∉ (ord cs).take n := fun hc => by
  have hnd := ord_nodup cs
  rw [← List.take_append_drop n (ord cs)] at hnd
  refine (List.nodup_append.1 hnd).2.2 i hc i ?_ rfl
  have := List.getElem?_drop (xs := ord cs) (i := n) (j := 0)
  rw [Nat.add_zero, h] at this
  exact List.mem_of_getElem? this
/-- Where all are taken, there are no more. -/
theorem none_next {cs : List Int} {n : Nat} (h : ∀ j, j < cs.length → j ∈ (ord cs).take n) : (ord cs)[n]? = none := by
  cases e : (ord cs)[n]? with
  | none => rfl
  | some i => exact absurd (h i (ord_mem.1 (List.mem_of_getElem? e))) (next_new e)
/-- One that is not taken has no less. -/
theorem next_least {cs : List Int} {n i j : Nat} (h : (ord cs)[n]? = some i) (hj : j < cs.length) (hn : j ∉ (ord cs).take n) : at0 cs i ≤ at0 cs j := by
  have hm : j ∈ (ord cs).drop n := by
    have := ord_mem.2 hj
    rw [← List.take_append_drop n (ord cs)] at this
    rcases List.mem_append.1 this with h | h
    · exact absurd h hn
    · exact h
  have hl : ((ord cs).drop n).Pairwise (LexK (at0 cs) (· < ·)) := List.Pairwise.sublist (List.drop_sublist n _) (ord_lex cs)
  cases hd : (ord cs).drop n with
  | nil => rw [hd] at hm; simp at hm
  | cons y t =>
    have hy : (ord cs)[n]? = some y := by
      have := List.getElem?_drop (xs := ord cs) (i := n) (j := 0)
      rw [hd] at this
      simpa using this.symm
    rw [h] at hy
    cases hy
    rw [hd] at hm hl
    rcases List.mem_cons.1 hm with rfl | hm
    · exact Int.le_refl _
    · exact ((List.pairwise_cons.1 hl).1 j hm).le
/-- What is answered beside the kept ones. -/
def cutOf (cs : List Int) (n : Nat) : Int := cutK (at0 cs) n (List.range cs.length)
theorem cutOf_some {cs : List Int} {n i : Nat} (h : (ord cs)[n]? = some i) : cutOf cs n = at0 cs i := by
  unfold cutOf cutK
  rw [show (sortK (at0 cs) (List.range cs.length))[n]? = some i from h]
theorem cutOf_none {cs : List Int} {n : Nat} (h : (ord cs)[n]? = none) : cutOf cs n = -1 := by
  unfold cutOf cutK
  rw [show (sortK (at0 cs) (List.range cs.length))[n]? = none from h]
/-- The nodes that are kept. -/
def scores (l : List Nd) : List Int := l.map sc
theorem scores_len (l : List Nd) : (scores l).length = l.length := by simp [scores]
theorem at0_scores {l : List Nd} {i : Nat} {x : Nd} (h : l[i]? = some x) : at0 (scores l) i = sc x := by simp [at0, scores, h]
def zeroNd : Nd := (0, 0, 0, [])
def pickAt (l : List Nd) (P : List Nat) : List Nd := P.map fun i => l[i]?.getD zeroNd
def keptN (n : Nat) (l : List Nd) : List Nd := (sortK sc l).take n
theorem range_map_self {l : List Nd} : (List.range l.length).map (fun i => l[i]?.getD zeroNd) = l := by
  refine List.ext_getElem? fun i => ?_
  rw [List.getElem?_map]
  by_cases h : i < l.length
  · rw [List.getElem?_range h]; simp [h]
  · rw [List.getElem?_eq_none (by simp; omega), List.getElem?_eq_none (by omega)]; rfl
theorem sort_ord (l : List Nd) : sortK sc l = pickAt l (ord (scores l)) := by
  have e := sortK_map sc (fun i => l[i]?.getD zeroNd) (List.range l.length)
  rw [range_map_self] at e
  rw [e]
  unfold pickAt ord
  rw [scores_len, sortK_congr (k' := at0 (scores l))]
  intro i hi
  obtain ⟨x, hx⟩ : ∃ x, l[i]? = some x := ⟨l[i]'(by simpa using hi), by simp⟩
  rw [at0_scores hx, hx]
  rfl
theorem kept_ord (n : Nat) (l : List Nd) : keptN n l = pickAt l ((ord (scores l)).take n) := by
  unfold keptN
  rw [sort_ord]
  unfold pickAt
  rw [List.map_take]
theorem cut_ord (n : Nat) (l : List Nd) : cutOf (scores l) n = cutK sc n l := by
  unfold cutOf cutK
  have e := sort_ord l
  unfold pickAt at e
  rw [e, List.getElem?_map, show sortK (at0 (scores l)) (List.range (scores l).length) = ord (scores l) from rfl]
  cases h : (ord (scores l))[n]? with
  | none => rfl
  | some i =>
    have hi : i < l.length := by rw [← scores_len]; exact ord_mem.1 (List.mem_of_getElem? h)
    obtain ⟨x, hx⟩ : ∃ x, l[i]? = some x := ⟨l[i], by simp⟩
    simp only [Option.map_some]
    rw [at0_scores hx, hx]
    rfl
theorem kept_len (n : Nat) (l : List Nd) : (keptN n l).length = min n l.length := by
  unfold keptN
  rw [List.length_take, (sortK_perm sc l).length_eq]

end Go.Proofs.YtkigbanldiialaaGreatDoor

/-
  The segment at a place, as a number. No program is spoken of.
-/
namespace Go.Proofs.YtkigbanldiialaaGreatDoor

/-- The segment at a place. -/
def segN (n k : Nat) : Nat := (orderN n)[k % n]?.getD 0
theorem segN_get {n : Nat} (h1 : 1 ≤ n) (hn : n < 65) (k : Nat) : (orderN n)[k % n]? = some (segN n k) ∧ segN n k < n := by
  obtain ⟨x, hx, hxn⟩ := orderN_get hn (Nat.mod_lt k (show 0 < n by omega))
  have e : segN n k = x := by unfold segN; rw [hx]; rfl
  rw [e]
  exact ⟨hx, hxn⟩
theorem place_mod {n p i : Nat} (hp : p < n) : (i * n + p) % n = p := by rw [Nat.mul_comm, Nat.mul_add_mod]; exact Nat.mod_eq_of_lt hp
theorem place_div {n p i : Nat} (hp : p < n) : (i * n + p) / n = i := by
  rw [Nat.mul_comm, Nat.mul_add_div (by omega), Nat.div_eq_of_lt hp, Nat.add_zero]
theorem segN_place {n s i : Nat} (hn : n < 65) (hs : s < n) : segN n (i * n + posN n s) = s := by
  unfold segN
  rw [place_mod (posN_lt hn hs), posN_get hn hs]
  rfl

end Go.Proofs.YtkigbanldiialaaGreatDoor

/-
  What volutekeep.Ints answers, for every two lists in memory: whether they are the same; the world is as it was but for draws.
-/
namespace Go.Proofs.YtkigbanldiialaaGreatDoor
open Go.RowKit

end Go.Proofs.YtkigbanldiialaaGreatDoor
