/-
  What was put first at each place; a pile's segments have all of it, each once; slices of pairs in memory.
-/
import Derived.Test.YtifkjglhdppocaaDoorPileOfNums
import Derived.Test.YtifkjglhdppocaaDoorPileOrderNums
import Derived.Deep.Slices
import Derived.OpenShut
namespace Go.Proofs.YtifkjglhdppocaaDoor
open Go.RowKit

/-- Of each place what was put there first, or -1. -/
def firstOf (M : Nat) (l : List (Int × Int)) : List Int := (List.range M).map fun a : Nat => if hasAt l (a : Int) = true then valAt l (a : Int) else -1
theorem firstOf_len (M : Nat) (l : List (Int × Int)) : (firstOf M l).length = M := by simp [firstOf]
theorem firstOf_get {M : Nat} (l : List (Int × Int)) {a : Nat} (h : a < M) : (firstOf M l)[a]? = some (if hasAt l (a : Int) = true then valAt l (a : Int) else -1) := by
  unfold firstOf
  rw [List.getElem?_map, List.getElem?_range h]
  rfl
theorem firstOf_nil (M : Nat) : firstOf M [] = List.replicate M (-1) := by
  refine List.ext_getElem? fun a => ?_
  by_cases h : a < M
  · rw [firstOf_get [] h, List.getElem?_replicate, if_pos h, if_neg]
    intro e
    cases e
  · rw [List.getElem?_eq_none (by rw [firstOf_len]; omega), List.getElem?_eq_none (by simp; omega)]
theorem firstOf_mem {M : Nat} {l : List (Int × Int)} (hr : Rises l) {a : Nat} {v : Int} (h : ((a : Int), v) ∈ l) (ha : a < M) : (firstOf M l)[a]? = some v := by
  have hh : hasAt l (a : Int) = true := (hasAt_iff hr).2 ⟨v, h⟩
  rw [firstOf_get l ha, if_pos hh, rises_one hr h (List.mem_of_getElem? (valAt_mem hh))]
theorem firstOf_put {M : Nat} {l : List (Int × Int)} (hr : Rises l) {k : Nat} (hk : k < M) (hh : hasAt l (k : Int) = false) (v : Int) : firstOf M (putL l (k : Int) v) = (firstOf M l).set k v := by
  have hr2 := putL_rises (v := v) hr hh
  refine List.ext_getElem? fun a => ?_
  by_cases e : a = k
  · subst e
    rw [firstOf_mem hr2 (putL_mem.2 (.inl rfl)) hk, List.getElem?_set_self (by rw [firstOf_len]; exact hk)]
  · rw [List.getElem?_set_ne (fun h => e h.symm)]
    by_cases h : a < M
    · cases ha : hasAt l (a : Int) with
      | true =>
        have hm := List.mem_of_getElem? (valAt_mem ha)
        rw [firstOf_mem hr2 (putL_mem.2 (.inr hm)) h, firstOf_mem hr hm h]
      | false =>
        have h2 : ¬ hasAt (putL l (k : Int) v) (a : Int) = true := fun h2 => by
          obtain ⟨u, hu⟩ := (hasAt_iff hr2).1 h2
          rcases putL_mem.1 hu with h3 | h3
          · have := congrArg Prod.fst h3
            simp at this
            omega
          · have := (hasAt_iff hr).2 ⟨u, h3⟩
            rw [ha] at this
            cases this
        rw [firstOf_get _ h, firstOf_get _ h, if_neg h2, if_neg (by rw [ha]; simp)]
    · rw [List.getElem?_eq_none (by rw [firstOf_len]; omega), List.getElem?_eq_none (by rw [firstOf_len]; omega)]
theorem firstOf_old {M : Nat} {n p : Int} {l : List (Int × Int)} (hp : PileOk n p l) {k : Nat} (hk : k < M) (hh : hasAt l (k : Int) = true) : ∃ u, (firstOf M l)[k]? = some u ∧ 0 ≤ u := by
  have hm := List.mem_of_getElem? (valAt_mem hh)
  exact ⟨_, firstOf_mem hp.2.2 hm hk, (hp.2.1 _ hm).2.2.1⟩
theorem firstOf_new {M : Nat} {l : List (Int × Int)} {k : Nat} (hk : k < M) (hh : hasAt l (k : Int) = false) : (firstOf M l)[k]? = some (-1) := by rw [firstOf_get l hk, if_neg (by rw [hh]; simp)]

/-- An element of a segment's list: where it stands in the pile. -/
theorem of_elem {N P s i : Nat} {l : List (Int × Int)} {x : Int × Int} (hp : PileOk (N : Int) (P : Int) l) (hs : s < N) (hx : (ofL N l s)[i]? = some x) : ∃ a d : Nat, ((a : Int), x.2) ∈ l ∧ x.1 = (d : Int) ∧ d * N + posN N s = a ∧ a < N * P ∧ d < P := by
  have hn1 : 1 ≤ N := by omega
  have hn2 : N < 65 := by have := hp.1.2.1; omega
  obtain ⟨y, hy, h1, e⟩ := ofL_mem.1 (List.mem_of_getElem? hx)
  have hok := hp.2.1 y hy
  have y0 := hok.1
  have y1 := hok.2.1
  have ey : ((y.1.toNat : Nat) : Int) = y.1 := by omega
  have hlt : y.1.toNat < N * P := by
    have : ((N * P : Nat) : Int) = (N : Int) * (P : Int) := by simp
    omega
  refine ⟨y.1.toNat, y.1.toNat / N, ?_, by rw [e], seg_place hn1 hn2 hs h1, hlt, Nat.div_lt_of_lt_mul hlt⟩
  rw [ey, e]
  exact hy
theorem of_rise {N P s i : Nat} {l : List (Int × Int)} {x y : Int × Int} (hp : PileOk (N : Int) (P : Int) l) (hs : s < N) (hx : (ofL N l s)[i]? = some x) (hy : (ofL N l s)[i + 1]? = some y) : x.1 < y.1 := by
  obtain ⟨h1, rfl⟩ := List.getElem?_eq_some_iff.1 hx
  obtain ⟨h2, rfl⟩ := List.getElem?_eq_some_iff.1 hy
  exact List.pairwise_iff_getElem.1 (ofL_rises hp hs) _ _ h1 h2 (by omega)

/-- How many the first segments have. -/
def allN (N : Nat) (l : List (Int × Int)) : Nat → Nat
  | 0 => 0
  | S + 1 => allN N l S + (ofL N l S).length
theorem allN_count (N : Nat) (l : List (Int × Int)) : ∀ S, allN N l S = l.countP fun x => decide (segN N x.1.toNat < S)
  | 0 => by
    rw [allN]
    exact (List.countP_eq_zero.2 (fun x _ => by simp)).symm
  | S + 1 => by
    rw [allN, allN_count N l S]
    unfold ofL
    rw [List.length_map, ← List.countP_eq_length_filter]
    induction l with
    | nil => rfl
    | cons x l ih =>
      rw [List.countP_cons, List.countP_cons, List.countP_cons, ← ih]
      by_cases h1 : segN N x.1.toNat < S
      · simp [h1, show segN N x.1.toNat < S + 1 by omega, show ¬ segN N x.1.toNat = S by omega]; omega
      · by_cases h2 : segN N x.1.toNat = S
        · simp [h2]; omega
        · simp [h1, h2, show ¬ segN N x.1.toNat < S + 1 by omega]
theorem allN_le (N : Nat) (l : List (Int × Int)) (S : Nat) : allN N l S ≤ l.length := by rw [allN_count]; exact List.countP_le_length
theorem allN_all {N : Nat} (h1 : 1 ≤ N) (hn : N < 65) (l : List (Int × Int)) : allN N l N = l.length := by
  rw [allN_count, List.countP_eq_length]
  intro x _
  simpa using (segN_get h1 hn x.1.toNat).2

theorem fill_step {M j : Nat} (h : j < M) : (List.replicate j (-1 : Int) ++ List.replicate (M - j) 0).set j (-1) = List.replicate (j + 1) (-1) ++ List.replicate (M - (j + 1)) 0 := by
  rw [show M - j = (M - (j + 1)) + 1 by omega, List.replicate_succ, List.set_append_right _ _ (by simp), List.length_replicate, Nat.sub_self, List.set_cons_zero, List.replicate_succ', List.append_assoc]
  rfl

theorem cellsPair : Tryd.prog.cellsOf 45 = 2 := by kernel_rfl
/-- A slice of pairs that came in, opened. -/
theorem isPairs_of_trod {H : Type} {enc : TypeId × Value → H} {w : World} {base : Nat} {spare : Nat → Bool} {held : Bool} {fuel : Nat} {a : Option Addr} {len cap : Nat} {x : DataW H × List MemPlace}
    (h : DataW.trod enc Tryd.prog w base spare held fuel 42 [.slice a len cap] = some x) : ∃ l, IsSyms w a len cap l := by
  rcases Go.Deep.open_slice Tryd.underlying42 h with ⟨hcs, _⟩ | ⟨ad, len', cap', m, n, D, Pl, hcs, _, hl, hc, hm, _, hx⟩
  · simp at hcs
    obtain ⟨rfl, rfl, rfl⟩ := hcs
    exact ⟨[], rfl, Nat.le_refl _, by unfold maxLen; omega, syms_nil _ _, fun x hx => by simp at hx⟩
  · simp at hcs
    obtain ⟨rfl, rfl, rfl⟩ := hcs
    have hlm : len ≤ m := by rw [hm]; split <;> omega
    have each : ∀ i, i < len → ∃ q : Int × Int, w.cell? (ad.add (i * 2)) = some (.int .i64 q.1) ∧ w.cell? (ad.add (i * 2 + 1)) = some (.int .i64 q.2) ∧ I64 q.1 ∧ I64 q.2 := by
      intro i hi
      obtain ⟨cs', h1, h2⟩ := hx i (by omega)
      rw [cellsPair] at h1
      obtain ⟨_, hlen, hcell⟩ := World.cells?_some h1
      obtain ⟨xs, k, _, _, _, hxl, hel⟩ := DataW.trod_array Tryd.underlying45 h2
      match xs, hxl, cs', hlen with
      | [y0, y1], _, [v0, v1], _ =>
        have t0 := hel 0 (by decide)
        have t1 := hel 1 (by decide)
        rw [cellsInt] at t0 t1
        simp at t0 t1
        obtain ⟨z0, e0, _, w0⟩ := DataW.trod_int Tryd.underlying3 t0
        obtain ⟨z1, e1, _, w1⟩ := DataW.trod_int Tryd.underlying3 t1
        simp at e0 e1
        have c0 := hcell 0 (by omega)
        have c1 := hcell 1 (by omega)
        rw [Go.Deep.add_add] at c0 c1
        simp at c0 c1
        exact ⟨(z0, z1), by rw [c0, e0], by rw [c1, e1], bounds_i64 w0, bounds_i64 w1⟩
    by_cases h0 : len = 0
    · subst h0
      exact ⟨[], rfl, hl, hc, .inl ⟨⟨_, _, rfl, fun e => by cases e⟩, rfl⟩, fun x hx => by simp at hx⟩
    · obtain ⟨q, hq⟩ := Go.Deep.choose_lt each
      obtain ⟨b, off, spot⟩ := ad
      have hspot : spot = none := by
        have := (hq 0 (by omega)).1
        simpa [Addr.add] using World.cell?_spot this
      subst hspot
      have hlen : ((List.range len).map q).length = len := by simp
      refine ⟨(List.range len).map q, hlen, hl, hc, .inr ⟨b, off, cap, by rw [hlen], ?_, fun j x hj => ?_⟩, fun x hx => ?_⟩
      · have := symAt_lt (hq 0 (by omega)).1
        rwa [Go.WideShapes.add_plain] at this
      · have hjl : j < len := by have := (List.getElem?_eq_some_iff.1 hj).1; rwa [hlen] at this
        have e : x = q j := by
          rw [List.getElem?_map, List.getElem?_range hjl] at hj
          simpa using hj.symm
        subst e
        have h2 := hq j hjl
        rw [Go.WideShapes.add_plain, Go.WideShapes.add_plain] at h2
        exact ⟨h2.1, by rw [Nat.add_assoc]; exact h2.2.1⟩
      · obtain ⟨j, hj, rfl⟩ := List.mem_map.1 hx
        exact (hq j (by simpa using hj)).2.2

end Go.Proofs.YtifkjglhdppocaaDoor
