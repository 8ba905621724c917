/-
  Piles as lists of symbols, by rising places. No program is spoken of.
-/
import Derived.Test.YtkigbanldiialaaGreatDoorM03
import Derived.Test.YtkigbanldiialaaGreatDoorM09
import Derived.Test.YtkigbanldiialaaGreatDoorM10
namespace Go.Proofs.YtkigbanldiialaaGreatDoor

/-- Rising places. -/
def Rises (l : List (Int × Int)) : Prop := l.Pairwise fun x y => x.1 < y.1
/-- A symbol that may be. -/
def SymOk (n p : Int) (x : Int × Int) : Prop := 0 ≤ x.1 ∧ x.1 < n * p ∧ 0 ≤ x.2 ∧ x.2 ≤ 255
/-- A right pile. -/
def HeadOk (n p : Int) : Prop := 1 ≤ n ∧ n ≤ 64 ∧ 1 ≤ p ∧ p ≤ 16
def PileOk (n p : Int) (l : List (Int × Int)) : Prop := HeadOk n p ∧ (∀ x ∈ l, SymOk n p x) ∧ Rises l

theorem pileOk_nil {n p : Int} (h : HeadOk n p) : PileOk n p [] := ⟨h, fun x hx => by simp at hx, List.Pairwise.nil⟩
theorem HeadOk.prod {n p : Int} (h : HeadOk n p) : 1 ≤ n * p ∧ n * p ≤ 1024 := by
  obtain ⟨h1, h2, h3, h4⟩ := h
  constructor
  · have := Int.mul_le_mul h1 h3 (by decide) (by omega)
    omega
  · have := Int.mul_le_mul h2 h4 (by omega) (by decide)
    omega

theorem Rises.tail {x : Int × Int} {l : List (Int × Int)} (h : Rises (x :: l)) : Rises l := (List.pairwise_cons.1 h).2
theorem Rises.head {x y : Int × Int} {l : List (Int × Int)} (h : Rises (x :: l)) (hy : y ∈ l) : x.1 < y.1 := (List.pairwise_cons.1 h).1 y hy

/-- How many stand ahead of a place. -/
def aheadOf : List (Int × Int) → Int → Nat
  | [], _ => 0
  | x :: l, k => if x.1 < k then aheadOf l k + 1 else 0
theorem aheadOf_le : ∀ (l : List (Int × Int)) (k : Int), aheadOf l k ≤ l.length
  | [], _ => Nat.le_refl _
  | x :: l, k => by
    rw [aheadOf]
    split
    · have := aheadOf_le l k; rw [List.length_cons]; omega
    · omega
theorem aheadOf_lt : ∀ {l : List (Int × Int)} {k : Int} {j : Nat} {x : Int × Int}, j < aheadOf l k → l[j]? = some x → x.1 < k
  | [], k, j, x, h, hx => by simp at hx
  | y :: l, k, j, x, h, hx => by
    rw [aheadOf] at h
    split at h
    · cases j with
      | zero => simp at hx; subst hx; assumption
      | succ j => exact aheadOf_lt (l := l) (j := j) (by omega) (by simpa using hx)
    · omega
theorem aheadOf_ge : ∀ {l : List (Int × Int)} {k : Int} {x : Int × Int}, l[aheadOf l k]? = some x → ¬ x.1 < k
  | [], k, x, hx => by simp at hx
  | y :: l, k, x, hx => by
    rw [aheadOf] at hx
    split at hx
    · exact aheadOf_ge (l := l) (by simpa using hx)
    · simp at hx; subst hx; assumption
theorem aheadOf_all {l : List (Int × Int)} {k : Int} (hr : Rises l) {j : Nat} {x : Int × Int} (hj : aheadOf l k ≤ j) (hx : l[j]? = some x) : ¬ x.1 < k := by
  rcases Nat.lt_or_ge (aheadOf l k) j with h | h
  · have hlt : aheadOf l k < l.length := by have := (List.getElem?_eq_some_iff.1 hx).1; omega
    have hy : l[aheadOf l k]? = some l[aheadOf l k] := by simp
    have h1 := aheadOf_ge hy
    have h2 : l[aheadOf l k].1 < x.1 := by
      obtain ⟨hjl, rfl⟩ := List.getElem?_eq_some_iff.1 hx
      exact List.pairwise_iff_getElem.1 hr _ _ hlt hjl h
    omega
  · have e : aheadOf l k = j := by omega
    rw [← e] at hx
    exact aheadOf_ge hx

/-- Does a symbol stand at a place? -/
def hasAt (l : List (Int × Int)) (k : Int) : Bool := match l[aheadOf l k]? with | some x => x.1 == k | none => false
theorem hasAt_iff {l : List (Int × Int)} {k : Int} (hr : Rises l) : hasAt l k = true ↔ ∃ v, (k, v) ∈ l := by
  unfold hasAt
  constructor
  · intro h
    split at h
    · rename_i x hx
      have e : x.1 = k := by simpa using h
      exact ⟨x.2, by rw [← e]; exact List.mem_of_getElem? hx⟩
    · cases h
  · rintro ⟨v, hv⟩
    obtain ⟨j, hj⟩ := List.getElem?_of_mem hv
    have h1 : aheadOf l k ≤ j := by
      rcases Nat.lt_or_ge j (aheadOf l k) with h | h
      · have := aheadOf_lt h hj; simp at this
      · exact h
    have hlt : aheadOf l k < l.length := by have := (List.getElem?_eq_some_iff.1 hj).1; omega
    have hy : l[aheadOf l k]? = some l[aheadOf l k] := by simp
    rw [hy]
    have h2 := aheadOf_ge hy
    have h3 : l[aheadOf l k].1 ≤ k := by
      rcases Nat.lt_or_ge (aheadOf l k) j with h | h
      · obtain ⟨hjl, e⟩ := List.getElem?_eq_some_iff.1 hj
        have := List.pairwise_iff_getElem.1 hr _ _ hlt hjl h
        rw [e] at this
        simp at this
        omega
      · have e : aheadOf l k = j := by omega
        have e2 : some l[aheadOf l k] = some (k, v) := by rw [← hy, e]; exact hj
        have e3 : l[aheadOf l k] = (k, v) := Option.some.inj e2
        rw [e3]
        exact Int.le_refl _
    simp
    omega

/-- A symbol more. -/
def putL (l : List (Int × Int)) (k v : Int) : List (Int × Int) := l.take (aheadOf l k) ++ (k, v) :: l.drop (aheadOf l k)
theorem putL_len (l : List (Int × Int)) (k v : Int) : (putL l k v).length = l.length + 1 := by
  have := aheadOf_le l k
  unfold putL
  rw [List.length_append, List.length_cons, List.length_take, List.length_drop]
  omega
theorem putL_mem {l : List (Int × Int)} {k v : Int} {x : Int × Int} : x ∈ putL l k v ↔ x = (k, v) ∨ x ∈ l := by
  unfold putL
  rw [List.mem_append, List.mem_cons]
  constructor
  · rintro (h | h | h)
    · exact .inr (List.mem_of_mem_take h)
    · exact .inl h
    · exact .inr (List.mem_of_mem_drop h)
  · rintro (h | h)
    · exact .inr (.inl h)
    · have := List.take_append_drop (aheadOf l k) l
      rw [← this, List.mem_append] at h
      rcases h with h | h
      · exact .inl h
      · exact .inr (.inr h)
theorem putL_rises {l : List (Int × Int)} {k v : Int} (hr : Rises l) (hn : hasAt l k = false) : Rises (putL l k v) := by
  have hno : ∀ x ∈ l, x.1 ≠ k := by
    intro x hx e
    have : hasAt l k = true := (hasAt_iff hr).2 ⟨x.2, by rw [← e]; exact hx⟩
    rw [hn] at this; cases this
  unfold Rises putL
  rw [List.pairwise_append]
  refine ⟨hr.sublist (List.take_sublist _ _), ?_, ?_⟩
  · rw [List.pairwise_cons]
    refine ⟨fun x hx => ?_, hr.sublist (List.drop_sublist _ _)⟩
    obtain ⟨j, hj⟩ := List.getElem?_of_mem hx
    rw [List.getElem?_drop] at hj
    have h1 := aheadOf_all (k := k) hr (by omega) hj
    have h2 := hno x (List.mem_of_mem_drop hx)
    show k < x.1
    omega
  · intro x hx y hy
    obtain ⟨j, hj⟩ := List.getElem?_of_mem hx
    rw [List.getElem?_take] at hj
    split at hj
    · rename_i hjl
      have h1 := aheadOf_lt hjl hj
      rcases List.mem_cons.1 hy with rfl | hy
      · exact h1
      · obtain ⟨q, hq⟩ := List.getElem?_of_mem hy
        rw [List.getElem?_drop] at hq
        have h2 := aheadOf_all (k := k) hr (by omega) hq
        omega
    · cases hj

/-- What a pile is with a symbol more, and whether it is fresh. -/
def putN (n p : Int) (l : List (Int × Int)) (k v : Int) : List (Int × Int) := if n * p ≤ k ∨ hasAt l k = true then l else putL l k v
def freshN (n p : Int) (l : List (Int × Int)) (k : Int) : Bool := decide (¬ (n * p ≤ k ∨ hasAt l k = true))
theorem putN_ok {n p : Int} {l : List (Int × Int)} {k v : Int} (h : PileOk n p l) (hk : 0 ≤ k) (hv0 : 0 ≤ v) (hv : v ≤ 255) : PileOk n p (putN n p l k v) := by
  unfold putN
  split
  · exact h
  · rename_i hc
    refine ⟨h.1, fun x hx => ?_, putL_rises h.2.2 ?_⟩
    · rcases putL_mem.1 hx with rfl | hx
      · exact ⟨hk, by show k < n * p; omega, hv0, hv⟩
      · exact h.2.1 x hx
    · cases e : hasAt l k
      · rfl
      · exact absurd (.inr e) hc

/-- A segment's symbols. -/
def ofL (n : Nat) (l : List (Int × Int)) (s : Nat) : List (Int × Int) := (l.filter fun x => segN n x.1.toNat == s).map fun x => (((x.1.toNat / n : Nat) : Int), x.2)
theorem ofL_len_le (n : Nat) (l : List (Int × Int)) (s : Nat) : (ofL n l s).length ≤ l.length := by
  unfold ofL
  rw [List.length_map]
  exact List.length_filter_le _ _

/-- Two rising lists with the same symbols are one. -/
theorem rises_ext : ∀ {l m : List (Int × Int)}, Rises l → Rises m → (∀ x, x ∈ l ↔ x ∈ m) → l = m
  | [], [], _, _, _ => rfl
  | [], y :: m, _, _, h => by have := (h y).2 List.mem_cons_self; simp at this
  | x :: l, [], _, _, h => by have := (h x).1 List.mem_cons_self; simp at this
  | x :: l, y :: m, hl, hm, h => by
    have e : x = y := by
      rcases List.mem_cons.1 ((h x).1 List.mem_cons_self) with e | hx
      · exact e
      · rcases List.mem_cons.1 ((h y).2 List.mem_cons_self) with e | hy
        · exact e.symm
        · have h1 := hm.head hx
          have h2 := hl.head hy
          omega
    subst e
    have : l = m := by
      refine rises_ext hl.tail hm.tail fun z => ?_
      constructor
      · intro hz
        rcases List.mem_cons.1 ((h z).1 (List.mem_cons_of_mem _ hz)) with e | hz'
        · subst e; have := hl.head hz; omega
        · exact hz'
      · intro hz
        rcases List.mem_cons.1 ((h z).2 (List.mem_cons_of_mem _ hz)) with e | hz'
        · subst e; have := hm.head hz; omega
        · exact hz'
    rw [this]

/-- A right pile is no longer than it may be. -/
theorem rises_len : ∀ {l : List (Int × Int)} {a b : Int}, Rises l → (∀ x ∈ l, a ≤ x.1 ∧ x.1 < b) → (l.length : Int) ≤ max 0 (b - a)
  | [], a, b, _, _ => by simp; omega
  | x :: l, a, b, hr, h => by
    have ih := rises_len (l := l) (a := x.1 + 1) (b := b) hr.tail (fun y hy => ⟨by have := hr.head hy; omega, (h y (List.mem_cons_of_mem _ hy)).2⟩)
    have hx := h x List.mem_cons_self
    rw [List.length_cons]
    omega
theorem pile_len {n p : Int} {l : List (Int × Int)} (h : PileOk n p l) : (l.length : Int) ≤ n * p := by
  have h1 := rises_len (a := 0) (b := n * p) h.2.2 (fun x hx => ⟨(h.2.1 x hx).1, (h.2.1 x hx).2.1⟩)
  have := h.1.prod
  omega

/-- Rising so far: the first k symbols are right. -/
def SymsOk (n p : Int) (l : List (Int × Int)) : Prop := (∀ x ∈ l, SymOk n p x) ∧ Rises l
theorem symsOk_nil (n p : Int) : SymsOk n p [] := ⟨fun x hx => by simp at hx, List.Pairwise.nil⟩
/-- The last of the first k. -/
theorem symsOk_snoc {n p : Int} {l : List (Int × Int)} {x : Int × Int} (h : SymsOk n p l) (hx : SymOk n p x) (hl : ∀ (y : Int × Int), l[l.length - 1]? = some y → y.1 < x.1) : SymsOk n p (l ++ [x]) := by
  refine ⟨fun y hy => ?_, ?_⟩
  · rcases List.mem_append.1 hy with h' | h'
    · exact h.1 y h'
    · simp at h'; subst h'; exact hx
  · unfold Rises
    rw [List.pairwise_append]
    refine ⟨h.2, List.pairwise_singleton _ _, fun y hy z hz => ?_⟩
    simp at hz; subst hz
    obtain ⟨j, hj⟩ := List.getElem?_of_mem hy
    have hjl := (List.getElem?_eq_some_iff.1 hj).1
    have hlast : l[l.length - 1]? = some l[l.length - 1] := by simp
    have h1 := hl _ hlast
    rcases Nat.lt_or_ge j (l.length - 1) with hlt | hge
    · obtain ⟨_, e⟩ := List.getElem?_eq_some_iff.1 hj
      have := List.pairwise_iff_getElem.1 h.2 j (l.length - 1) hjl (by omega) hlt
      rw [e] at this
      omega
    · have e : j = l.length - 1 := by omega
      subst e
      rw [hlast] at hj
      cases hj
      exact h1
theorem symsOk_take {n p : Int} {l : List (Int × Int)} (h : SymsOk n p l) (k : Nat) : SymsOk n p (l.take k) := ⟨fun x hx => h.1 x (List.mem_of_mem_take hx), h.2.sublist (List.take_sublist _ _)⟩

/-- The least place that may follow. -/
def leastN (l : List (Int × Int)) : Int := match l.getLast? with | none => 0 | some x => x.1 + 1
theorem leastN_snoc (l : List (Int × Int)) (x : Int × Int) : leastN (l ++ [x]) = x.1 + 1 := by unfold leastN; rw [List.getLast?_concat]
theorem getLast_at {l : List (Int × Int)} {y : Int × Int} (h : l[l.length - 1]? = some y) : leastN l = y.1 + 1 := by
  unfold leastN
  rw [List.getLast?_eq_getElem?, h]
theorem leastN_bounds {n p : Int} {l : List (Int × Int)} (hh : HeadOk n p) (h : SymsOk n p l) : 0 ≤ leastN l ∧ leastN l ≤ n * p := by
  unfold leastN
  split
  · have := hh.prod; omega
  · rename_i x hx
    have := h.1 x (List.mem_of_getLast? hx)
    have h1 := this.1
    have h2 := this.2.1
    omega
theorem symsOk_more {n p : Int} {l : List (Int × Int)} {x : Int × Int} (hh : HeadOk n p) (h : SymsOk n p l) (h1 : leastN l ≤ x.1) (h2 : x.1 < n * p) (h3 : 0 ≤ x.2) (h4 : x.2 ≤ 255) : SymsOk n p (l ++ [x]) := by
  have hb := leastN_bounds hh h
  refine symsOk_snoc h ⟨by omega, h2, h3, h4⟩ fun y hy => ?_
  have := getLast_at hy
  omega
theorem symsOk_least {n p : Int} {l : List (Int × Int)} {x : Int × Int} (h : SymsOk n p (l ++ [x])) : leastN l ≤ x.1 := by
  unfold leastN
  split
  · exact (h.1 x (by simp)).1
  · rename_i y hy
    have := (List.pairwise_append.1 h.2).2.2 y (List.mem_of_getLast? hy) x (by simp)
    omega

end Go.Proofs.YtkigbanldiialaaGreatDoor

/-
  What cmp.Compare, pile.find's comparison, slices.BinarySearchFunc and pile.find answer.
-/
namespace Go.Proofs.YtkigbanldiialaaGreatDoor
open Go.RowKit

/-- What a comparison says. -/
def cmpI (x y : Int) : Int := if x < y then -1 else if y < x then 1 else 0
theorem cmpI_lt {x y : Int} (h : x < y) : cmpI x y = -1 := by unfold cmpI; rw [if_pos h]
theorem cmpI_gt {x y : Int} (h : y < x) : cmpI x y = 1 := by unfold cmpI; rw [if_neg (by omega), if_pos h]
theorem cmpI_neg {x y : Int} : cmpI x y < 0 ↔ x < y := by unfold cmpI; split <;> (try split) <;> omega
theorem cmpI_zero {x y : Int} : cmpI x y = 0 ↔ x = y := by unfold cmpI; split <;> (try split) <;> omega

set_option maxHeartbeats 1000000 in
theorem isNaN_no (x : Int) (w : World) : Calls Tryz.prog 95 #[.int .i64 x] w fun e w' => e = .returned (.bool false) ∧ w = w' := by
  have hb : (x != x) = false := by simp
  go_enter Tryz.func95, Tryz.ntmps95
  go_wp2
  go_ret
  exact ⟨rfl, rfl⟩

set_option maxHeartbeats 1000000 in
theorem compare_any (x y : Int) (w : World) : Calls Tryz.prog 83 #[.int .i64 x, .int .i64 y] w fun e w' => e = .returned (.int .i64 (cmpI x y)) ∧ w = w' := by
  by_cases h1 : x < y
  · rw [cmpI_lt h1]
    have d1 : decide (x < y) = true := decide_eq_true h1
    clear h1
    go_enter Tryz.func83, Tryz.ntmps83
    go_wp2_with fail
    refine (isNaN_no x w).mono ?_
    rintro e w1 ⟨rfl, rfl⟩
    go_wp2_with fail
    refine (isNaN_no y w).mono ?_
    rintro e w1 ⟨rfl, rfl⟩
    go_wp2
    go_ret
    exact ⟨rfl, rfl⟩
  · have d1 : decide (x < y) = false := decide_eq_false h1
    by_cases h2 : y < x
    · rw [cmpI_gt h2]
      have d2 : decide (y < x) = true := decide_eq_true h2
      clear h1 h2
      go_enter Tryz.func83, Tryz.ntmps83
      go_wp2_with fail
      refine (isNaN_no x w).mono ?_
      rintro e w1 ⟨rfl, rfl⟩
      go_wp2_with fail
      refine (isNaN_no y w).mono ?_
      rintro e w1 ⟨rfl, rfl⟩
      go_wp2
      go_ret
      exact ⟨rfl, rfl⟩
    · have d2 : decide (y < x) = false := decide_eq_false h2
      have HC : Hid (cmpI x y = 0) := by
        show cmpI x y = 0
        exact cmpI_zero.2 (by omega)
      rw [HC.out]
      clear h1 h2
      go_enter Tryz.func83, Tryz.ntmps83
      go_wp2_with fail
      refine (isNaN_no x w).mono ?_
      rintro e w1 ⟨rfl, rfl⟩
      go_wp2_with fail
      refine (isNaN_no y w).mono ?_
      rintro e w1 ⟨rfl, rfl⟩
      go_wp2
      go_ret
      exact ⟨rfl, rfl⟩

set_option maxHeartbeats 1000000 in
/-- How pile.find compares. -/
theorem find1_any (x u k : Int) (w : World) : Calls Tryz.prog 82 #[.agg #[.int .i64 x, .int .i64 u], .int .i64 k] w fun e w' => e = .returned (.int .i64 (cmpI x k)) ∧ Below w.heap.size w w' := by
  have b0 := (Below.refl w.heap.size w).alloc (Nat.le_refl _) (.cells #[.int .i64 x, .int .i64 u] 79)
  go_enter Tryz.func82, Tryz.ntmps82
  go_wp2_with fail
  refine (compare_any x k _).mono ?_
  rintro e w1 ⟨rfl, rfl⟩
  go_wp2
  go_ret
  exact ⟨rfl, b0⟩

set_option maxRecDepth 100000 in
set_option maxHeartbeats 4000000 in
theorem search_ok (k : Int) (a : Option Addr) (cap : Nat) (l : List (Int × Int)) (hl : l.length ≤ 4294967296) (hr : Rises l) (w : World) (ha : Syms w.heap.size w (.slice a l.length cap) l) :
    Calls Tryz.prog 81 #[.slice a l.length cap, .int .i64 k, .func (.func 82) #[] #[]] w fun e w' => e = .returned (.tuple #[.int .i64 (aheadOf l k : Nat), .bool (hasAt l k)]) ∧ Below w.heap.size w w' := by
  have HR : Hid (Rises l) := hr
  have HAL : Hid (aheadOf l k ≤ l.length) := aheadOf_le l k
  obtain ⟨q, hq⟩ : ∃ q, aheadOf l k = q := ⟨_, rfl⟩
  have HQ : Hid (aheadOf l k = q) := hq
  obtain ⟨t, ht⟩ : ∃ t, hasAt l k = t := ⟨_, rfl⟩
  have HT : Hid (hasAt l k = t) := ht
  rw [hq, ht]
  clear hq ht hr
  go_enter Tryz.func81, Tryz.ntmps81
  go_wp2
  go_loopw [9, 10] (fun s9 s10 wr => ∃ i j : Nat, s9 = .int .i64 i ∧ s10 = .int .i64 j ∧ i ≤ q ∧ q ≤ j ∧ j ≤ l.length ∧ Below w.heap.size w wr) (fun s9 s10 _ => (intOf s10).toNat - (intOf s9).toNat)
  case atStart => exact ⟨0, l.length, rfl, rfl, Nat.zero_le _, by rw [← HQ.out]; exact HAL.out, Nat.le_refl _, Below.refl _ _⟩
  case round =>
    obtain ⟨i, j, rfl, rfl, hiq, hqj, hjl, hbw⟩ := hrel
    by_cases hlt : i < j
    · obtain ⟨m, hm⟩ : ∃ m, (i + j) / 2 = m := ⟨_, rfl⟩
      have hml : m < l.length := by omega
      obtain ⟨⟨x, u⟩, hx⟩ : ∃ x, l[m]? = some x := ⟨l[m], by simp⟩
      obtain ⟨b, off, rfl, hb, hcs⟩ := syms_at (ha.below hbw) rfl (by omega)
      obtain ⟨c1, c2⟩ := hcs m _ hx
      have hmi : ((i : Int) + (j : Int)) / 2 = (m : Int) := by omega
      have hc := find1_any x u k wr
      clear hcs ha
      by_cases hxk : x < k
      · have d1 : decide (cmpI x k < 0) = true := decide_eq_true (cmpI_neg.2 hxk)
        have HMQ : Hid (m + 1 ≤ q) := by
          show m + 1 ≤ q
          rw [← HQ.out]
          rcases Nat.lt_or_ge m (aheadOf l k) with h | h
          · exact h
          · exact absurd hxk (aheadOf_all HR.out h hx)
        clear hxk hx
        go_wp2_with fail
        refine hc.mono ?_
        rintro e w1 ⟨rfl, bq⟩
        go_wp2
        go_round
        case rel => exact ⟨m + 1, j, by go_num, rfl, HMQ.out, hqj, hjl, hbw.trans (bq.mono hbw.size)⟩
        case measure => simp [intOf]; omega
      · have d1 : decide (cmpI x k < 0) = false := decide_eq_false (fun h => hxk (cmpI_neg.1 h))
        have HMQ : Hid (q ≤ m) := by
          show q ≤ m
          rw [← HQ.out]
          rcases Nat.lt_or_ge m (aheadOf l k) with h | h
          · exact absurd (aheadOf_lt h hx) hxk
          · exact h
        clear hxk hx
        go_wp2_with fail
        refine hc.mono ?_
        rintro e w1 ⟨rfl, bq⟩
        go_wp2
        go_round
        case rel => exact ⟨i, m, rfl, by go_num, hiq, HMQ.out, by omega, hbw.trans (bq.mono hbw.size)⟩
        case measure => simp [intOf]; omega
    · obtain rfl : j = i := by omega
      obtain rfl : q = j := by omega
      by_cases hn : q < l.length
      · obtain ⟨⟨x, u⟩, hx⟩ : ∃ x, l[q]? = some x := ⟨l[q], by simp⟩
        obtain ⟨b, off, rfl, hb, hcs⟩ := syms_at (ha.below hbw) rfl (by omega)
        obtain ⟨c1, c2⟩ := hcs q _ hx
        have hc := find1_any x u k wr
        have HTV : Hid ((cmpI x k == 0) = t) := by
          show (cmpI x k == 0) = t
          rw [← HT.out]
          unfold hasAt
          rw [HQ.out, hx]
          show (cmpI x k == 0) = (x == k)
          rw [Bool.eq_iff_iff, beq_iff_eq, beq_iff_eq]
          exact cmpI_zero
        clear hcs ha hx
        go_wp2_with fail
        refine hc.mono ?_
        rintro e w1 ⟨rfl, bq⟩
        go_wp2
        go_ret2
        exact ⟨by rw [← HTV.out]; rfl, hbw.trans (bq.mono hbw.size)⟩
      · have HTV : Hid (t = false) := by
          show t = false
          rw [← HT.out]
          unfold hasAt
          rw [HQ.out, List.getElem?_eq_none (by omega)]
        clear ha
        go_wp2
        go_ret2
        exact ⟨by rw [HTV.out]; rfl, hbw⟩

set_option maxRecDepth 100000 in
set_option maxHeartbeats 1000000 in
theorem find_ok (k : Int) (a : Option Addr) (cap : Nat) (l : List (Int × Int)) (hl : l.length ≤ 4294967296) (hr : Rises l) (w : World) (ha : Syms w.heap.size w (.slice a l.length cap) l) :
    Calls Tryz.prog 71 #[.slice a l.length cap, .int .i64 k] w fun e w' => e = .returned (.tuple #[.int .i64 (aheadOf l k : Nat), .bool (hasAt l k)]) ∧ Below w.heap.size w w' := by
  have HS := search_ok k a cap l hl hr w ha
  obtain ⟨q, hq⟩ : ∃ q, aheadOf l k = q := ⟨_, rfl⟩
  obtain ⟨t, ht⟩ : ∃ t, hasAt l k = t := ⟨_, rfl⟩
  rw [hq, ht] at HS ⊢
  clear hq ht hr ha
  go_enter Tryz.func71, Tryz.ntmps71
  go_wp2_with fail
  refine HS.mono ?_
  rintro e w1 ⟨rfl, b1⟩
  go_wp2
  go_ret2
  exact ⟨rfl, b1⟩

end Go.Proofs.YtkigbanldiialaaGreatDoor
