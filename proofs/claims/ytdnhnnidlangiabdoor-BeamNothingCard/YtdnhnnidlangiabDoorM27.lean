/-
  Lists of lists of symbols in memory. No function of the program is spoken of.
-/
import Derived.Test.YtdnhnnidlangiabDoorM01
import Derived.Test.YtdnhnnidlangiabDoorM07
import Derived.Test.YtdnhnnidlangiabDoorM08
import Derived.Test.YtdnhnnidlangiabDoorM13
import Derived.Test.YtdnhnnidlangiabDoorM17
import Derived.Test.YtdnhnnidlangiabDoorM23
import Derived.Test.YtdnhnnidlangiabDoorM26
import Derived.Deep.RegionWith
namespace Go.Proofs.YtdnhnnidlangiabDoor
open Go.RowKit

/-- The slice v holds lists of symbols, each in blocks below n₀. -/
def Segs (n₀ : Nat) (W : World) (v : Value) (S : List (List (Int × Int))) : Prop := ∃ (b off cap : Nat) (vs : List Value), v = .slice (some ⟨b, off, none⟩) S.length cap ∧ b < n₀ ∧ vs.length = S.length ∧ (∀ (j : Nat) (q : Value), vs[j]? = some q → W.cell? ⟨b, off + j, none⟩ = some q) ∧ ∀ (j : Nat) (q : Value) (l : List (Int × Int)), vs[j]? = some q → S[j]? = some l → Syms n₀ W q l
theorem Segs.below {n₀ : Nat} {W W' : World} {v : Value} {S : List (List (Int × Int))} (h : Segs n₀ W v S) (hb : Below n₀ W W') : Segs n₀ W' v S := by
  obtain ⟨b, off, cap, vs, h1, h2, h3, h4, h5⟩ := h
  exact ⟨b, off, cap, vs, h1, h2, h3, fun j q hq => (hb.cell (p := ⟨b, off + j, none⟩) h2).trans (h4 j q hq), fun j q l hq hl => (h5 j q l hq hl).below hb⟩
theorem Segs.mono {n₀ n₁ : Nat} {W : World} {v : Value} {S : List (List (Int × Int))} (h : Segs n₀ W v S) (hn : n₀ ≤ n₁) : Segs n₁ W v S := by
  obtain ⟨b, off, cap, vs, h1, h2, h3, h4, h5⟩ := h
  exact ⟨b, off, cap, vs, h1, by omega, h3, h4, fun j q l hq hl => (h5 j q l hq hl).mono hn⟩
theorem Segs.next {W W' : World} {v : Value} {S : List (List (Int × Int))} (h : Segs W.heap.size W v S) (hb : Below W.heap.size W W') : Segs W'.heap.size W' v S := (h.below hb).mono hb.size
theorem Segs.shape {n₀ : Nat} {W : World} {v : Value} {S : List (List (Int × Int))} (h : Segs n₀ W v S) : ∃ b off cap, v = .slice (some ⟨b, off, none⟩) S.length cap ∧ b < n₀ := by
  obtain ⟨b, off, cap, vs, h1, h2, _⟩ := h
  exact ⟨b, off, cap, h1, h2⟩
theorem segs_at {n₀ b off n cap : Nat} {W : World} {S : List (List (Int × Int))} (h : Segs n₀ W (.slice (some ⟨b, off, none⟩) n cap) S) {j : Nat} {l : List (Int × Int)} (hl : S[j]? = some l) : ∃ a c, W.cell? ⟨b, off + j, none⟩ = some (.slice a l.length c) ∧ Syms n₀ W (.slice a l.length c) l := by
  obtain ⟨b', off', cap', vs, h1, h2, h3, h4, h5⟩ := h
  cases h1
  have hj : j < vs.length := by rw [h3]; exact (List.getElem?_eq_some_iff.1 hl).1
  obtain ⟨q, hq⟩ : ∃ q, vs[j]? = some q := ⟨vs[j], by simp⟩
  have hs := h5 j q l hq hl
  obtain ⟨a, c, e⟩ := hs.shape
  have hc := h4 j q hq
  rw [e] at hc hs
  exact ⟨a, c, hc, hs⟩

theorem infoSegs : (Tryd.prog.info? 22).map (fun i => (i.zero, i.size, i.bytes)) = some (some (.slice none 0 0), 1, 24) := by kernel_rfl

/-- append of one list, its run. -/
theorem run_append_seg (v : Value) (n base : Nat) (vs : List Value) (x : Value) (hx : SliceV x) (ty : TypeId) (w : World) (hown : w.ownsRow base 22 1 v n vs) (hb : base ≤ w.heap.size) (h1 : n ≤ 1048576) :
    ∃ v' w', (Builtin.append_ #[61, 61] ty #[v, .slice (some ⟨w.heap.size, 0, none⟩) 1 1]).run Tryd.prog (w.alloc (.cells #[x] 22)) = .ok v' w' ∧ w'.ownsRow base 22 1 v' (n + 1) (vs ++ [x]) ∧ (w.alloc (.cells #[x] 22)).grownBy w' v.ownBlock := by
  obtain ⟨i0, hi, hz0, hz1, hz2⟩ := info_parts infoSegs
  obtain ⟨a, m, c, rfl⟩ := hx
  obtain ⟨v', w', hr, ho, hg, _⟩ := run_append_own (P := Tryd.prog) (w.alloc (.cells #[.slice a m c] 22)) base 61 ty 22 i0 (.slice none 0 0) 1 24 Tryd.underlying61 hi hz0 hz1 hz2 rfl (by decide) v n _ (hown.alloc _) ⟨w.heap.size, 0, none⟩ 1 1 [.slice a m c] rfl (World.news_of_block (World.alloc_heap_new _ _)) (by simp [Value.oneCell']) (by unfold maxLen; omega) (by omega) (by simp; omega)
  exact ⟨v', w', hr, ho, hg⟩

/-- A row of lists of the call's own is held. -/
theorem segs_of_row {W : World} {base k : Nat} {v : Value} {vs : List Value} {S : List (List (Int × Int))} (h : W.ownsRow base 22 1 v k vs) (hk : S.length = k) (h0 : 0 < k) (hS : ∀ (j : Nat) (q : Value) (l : List (Int × Int)), vs[j]? = some q → S[j]? = some l → Syms W.heap.size W q l) : Segs W.heap.size W v S := by
  have hl : vs.length = k := by have := h.1; omega
  rcases h.2 with ⟨rfl, rfl⟩ | ⟨g, cap, cur, rfl, hb, hg, hkc, _, hs, ht⟩
  · omega
  · refine ⟨g, 0, cap, vs, by rw [hk], (Array.getElem?_eq_some_iff.1 hg).1, by rw [hl, hk], fun j q hq => ?_, hS⟩
    have := h.cells (g := g) rfl j q hq
    rw [Addr.add_lit] at this
    exact this

end Go.Proofs.YtdnhnnidlangiabDoor

/-
  Piles that are filled place by place. No program is spoken of.
-/
namespace Go.Proofs.YtdnhnnidlangiabDoor

theorem aheadOf_end : ∀ {l : List (Int × Int)} {k : Int}, (∀ x ∈ l, x.1 < k) → aheadOf l k = l.length
  | [], _, _ => rfl
  | x :: l, k, h => by
    rw [aheadOf, if_pos (h x List.mem_cons_self), aheadOf_end fun y hy => h y (List.mem_cons_of_mem _ hy), List.length_cons]

/-- The value at a place. -/
def valN (v : Int) (k : Nat) : Int := ((v + k) % 18446744073709551616) % 256
theorem valN_bd (v : Int) (k : Nat) : 0 ≤ valN v k ∧ valN v k ≤ 255 := by unfold valN; omega
/-- The first places, filled. -/
def fullL (v : Int) (j : Nat) : List (Int × Int) := (List.range j).map fun i : Nat => ((i : Int), valN v i)
theorem fullL_len (v : Int) (j : Nat) : (fullL v j).length = j := by simp [fullL]
theorem fullL_next (v : Int) (j : Nat) : fullL v (j + 1) = fullL v j ++ [((j : Int), valN v j)] := by simp [fullL, List.range_succ]
theorem fullL_mem {v : Int} {j : Nat} {x : Int × Int} (h : x ∈ fullL v j) : 0 ≤ x.1 ∧ x.1 < j := by
  obtain ⟨i, hi, rfl⟩ := List.mem_map.1 h
  have : i < j := by simpa using hi
  simp
  omega
theorem fullL_ahead (v : Int) (j : Nat) : aheadOf (fullL v j) j = j := by
  rw [aheadOf_end (fun x hx => (fullL_mem hx).2), fullL_len]
theorem fullL_not (v : Int) (j : Nat) : hasAt (fullL v j) j = false := by
  unfold hasAt
  rw [fullL_ahead, List.getElem?_eq_none (by rw [fullL_len]; exact Nat.le_refl _)]
theorem fullL_put {n p v : Int} {j : Nat} (h : (j : Int) < n * p) : putN n p (fullL v j) j (valN v j) = fullL v (j + 1) := by
  unfold putN
  rw [if_neg (by rw [fullL_not]; simp; omega)]
  unfold putL
  rw [fullL_ahead, fullL_next, List.take_of_length_le (by rw [fullL_len]; exact Nat.le_refl _), List.drop_of_length_le (by rw [fullL_len]; exact Nat.le_refl _)]
theorem fullL_fresh {n p v : Int} {j : Nat} (h : (j : Int) < n * p) : freshN n p (fullL v j) j = true := by
  unfold freshN
  exact decide_eq_true (by rw [fullL_not]; simp; omega)
theorem fullL_rises (v : Int) : ∀ j, Rises (fullL v j)
  | 0 => List.Pairwise.nil
  | j + 1 => by
    rw [fullL_next]
    unfold Rises
    rw [List.pairwise_append]
    refine ⟨fullL_rises v j, List.pairwise_singleton _ _, fun x hx y hy => ?_⟩
    simp at hy; subst hy
    exact (fullL_mem hx).2
theorem fullL_ok {n p v : Int} {j : Nat} (hh : HeadOk n p) (h : (j : Int) ≤ n * p) : PileOk n p (fullL v j) := by
  refine ⟨hh, fun x hx => ?_, fullL_rises v j⟩
  have h1 := fullL_mem hx
  obtain ⟨i, _, rfl⟩ := List.mem_map.1 hx
  have h2 := valN_bd v i
  simp at h1
  exact ⟨by simp, by simp; omega, h2.1, h2.2⟩
/-- A full pile takes nothing more. -/
theorem fullL_full {n p v : Int} {M : Nat} (hM : n * p = (M : Int)) {k : Int} (hk : 0 ≤ k) (u : Int) : putN n p (fullL v M) k u = fullL v M ∧ freshN n p (fullL v M) k = false := by
  have hc : n * p ≤ k ∨ hasAt (fullL v M) k = true := by
    by_cases h : n * p ≤ k
    · exact .inl h
    · right
      rw [hasAt_iff (fullL_rises v M)]
      refine ⟨valN v k.toNat, List.mem_map.2 ⟨k.toNat, ?_, ?_⟩⟩
      · simp; omega
      · simp; omega
  unfold putN freshN
  exact ⟨if_pos hc, decide_eq_false (fun h => h hc)⟩

end Go.Proofs.YtdnhnnidlangiabDoor

/-
  The pile that is heard of a block's first symbols, some left out, some turned about. No program is spoken of.
-/
namespace Go.Proofs.YtdnhnnidlangiabDoor

/-- What is put at a place: the symbol, turned about where it is. -/
def hvN (zs : List Int) (ts : List Nat) (k : Nat) : Nat := codeN zs k ^^^ (ts[k]?.getD 0)
def hOut (os : List Bool) (k : Nat) : Bool := os[k]?.getD false
def heardL (zs : List Int) (os : List Bool) (ts : List Nat) : Nat → List (Int × Int)
  | 0 => []
  | k + 1 => if hOut os k = true then heardL zs os ts k else heardL zs os ts k ++ [((k : Int), ((hvN zs ts k : Nat) : Int))]
theorem heardL_out {zs : List Int} {os : List Bool} {ts : List Nat} {k : Nat} (h : hOut os k = true) : heardL zs os ts (k + 1) = heardL zs os ts k := by simp only [heardL]; rw [if_pos h]
theorem heardL_in {zs : List Int} {os : List Bool} {ts : List Nat} {k : Nat} (h : hOut os k = false) : heardL zs os ts (k + 1) = heardL zs os ts k ++ [((k : Int), ((hvN zs ts k : Nat) : Int))] := by simp only [heardL]; rw [if_neg (by simp [h])]
theorem heardL_mem {zs : List Int} {os : List Bool} {ts : List Nat} : ∀ {k : Nat} {x : Int × Int}, x ∈ heardL zs os ts k → ∃ j, j < k ∧ hOut os j = false ∧ x = ((j : Int), ((hvN zs ts j : Nat) : Int))
  | 0, x, h => by simp [heardL] at h
  | k + 1, x, h => by
    cases ho : hOut os k with
    | true =>
      rw [heardL_out ho] at h
      obtain ⟨j, hj, h2, h3⟩ := heardL_mem h
      exact ⟨j, by omega, h2, h3⟩
    | false =>
      rw [heardL_in ho] at h
      rcases List.mem_append.1 h with h | h
      · obtain ⟨j, hj, h2, h3⟩ := heardL_mem h
        exact ⟨j, by omega, h2, h3⟩
      · simp at h
        exact ⟨k, by omega, ho, h⟩
theorem mem_heardL {zs : List Int} {os : List Bool} {ts : List Nat} {j : Nat} (ho : hOut os j = false) : ∀ {k : Nat}, j < k → ((j : Int), ((hvN zs ts j : Nat) : Int)) ∈ heardL zs os ts k
  | 0, h => by omega
  | k + 1, h => by
    by_cases e : j = k
    · subst e
      rw [heardL_in ho]
      simp
    · have ih := mem_heardL ho (k := k) (zs := zs) (ts := ts) (by omega)
      cases ho' : hOut os k with
      | true => rw [heardL_out ho']; exact ih
      | false => rw [heardL_in ho']; exact List.mem_append.2 (.inl ih)
theorem heardL_lt {zs : List Int} {os : List Bool} {ts : List Nat} {k : Nat} : ∀ x ∈ heardL zs os ts k, x.1 < (k : Int) := by
  intro x hx
  obtain ⟨j, hj, _, rfl⟩ := heardL_mem hx
  show (j : Int) < k
  omega
theorem heardL_len (zs : List Int) (os : List Bool) (ts : List Nat) : ∀ k, (heardL zs os ts k).length ≤ k
  | 0 => Nat.le_refl _
  | k + 1 => by
    have := heardL_len zs os ts k
    cases ho : hOut os k with
    | true => rw [heardL_out ho]; omega
    | false => rw [heardL_in ho, List.length_append]; simp; omega
theorem heardL_rises (zs : List Int) (os : List Bool) (ts : List Nat) : ∀ k, Rises (heardL zs os ts k)
  | 0 => List.Pairwise.nil
  | k + 1 => by
    cases ho : hOut os k with
    | true => rw [heardL_out ho]; exact heardL_rises zs os ts k
    | false =>
      rw [heardL_in ho]
      unfold Rises
      rw [List.pairwise_append]
      refine ⟨heardL_rises zs os ts k, List.pairwise_singleton _ _, fun x hx y hy => ?_⟩
      simp at hy; subst hy
      exact heardL_lt x hx
theorem putN_end {n p : Int} {L : List (Int × Int)} {k v : Int} (hL : ∀ x ∈ L, x.1 < k) (h : k < n * p) : putN n p L k v = L ++ [(k, v)] := by
  have h1 := aheadOf_end hL
  have h2 : hasAt L k = false := by
    unfold hasAt
    rw [h1, List.getElem?_eq_none (Nat.le_refl _)]
  unfold putN
  rw [if_neg (by rw [h2]; simp; omega)]
  unfold putL
  rw [h1, List.take_of_length_le (Nat.le_refl _), List.drop_of_length_le (Nat.le_refl _)]
theorem hvN_lt {zs : List Int} {ts : List Nat} (ht : ∀ t ∈ ts, t < 256) (hc : ∀ k, codeN zs k < 256) (k : Nat) : hvN zs ts k < 256 := by
  unfold hvN
  refine xor_byte (hc k) ?_
  cases h : ts[k]? with
  | none => simp
  | some t => simp; exact ht t (List.mem_of_getElem? h)
theorem heardL_put {n p : Int} {zs : List Int} {os : List Bool} {ts : List Nat} {k : Nat} (ho : hOut os k = false) (h : (k : Int) < n * p) : putN n p (heardL zs os ts k) (k : Int) ((hvN zs ts k : Nat) : Int) = heardL zs os ts (k + 1) := by
  rw [heardL_in ho]
  exact putN_end heardL_lt h
theorem heardL_ok {n p : Int} {zs : List Int} {os : List Bool} {ts : List Nat} (hh : HeadOk n p) (ht : ∀ t ∈ ts, t < 256) (hc : ∀ k, codeN zs k < 256) {k : Nat} (h : (k : Int) ≤ n * p) : PileOk n p (heardL zs os ts k) := by
  refine ⟨hh, fun x hx => ?_, heardL_rises zs os ts k⟩
  obtain ⟨j, hj, _, rfl⟩ := heardL_mem hx
  have := hvN_lt ht hc j
  exact ⟨Int.natCast_nonneg _, by show (j : Int) < n * p; omega, Int.natCast_nonneg _, by show ((hvN zs ts j : Nat) : Int) ≤ 255; omega⟩

end Go.Proofs.YtdnhnnidlangiabDoor

/-
  What pile.Put answers of a right pile and numbers that may be. (Written by tpl_pileput.py.)
-/
namespace Go.Proofs.YtdnhnnidlangiabDoor
open Go.RowKit

theorem Put_in (n p : Int) (k u : Int) (k0 : 0 ≤ k) (hk : k ≤ 9223372036854775807) (u0 : 0 ≤ u) (u1 : u ≤ 255) (a : Option Addr) (cap : Nat) (l : List (Int × Int)) (hp : PileOk n p l) (w : World) (ha : Syms w.heap.size w (.slice a l.length cap) l) (hc : RowCap a l.length cap) :
    Calls Tryd.prog 19 #[.agg #[.int .i64 n, .int .i64 p, .slice a l.length cap], .int .i64 k, .int .i64 u] w fun e W' => ∃ r, e = .returned (.tuple #[.agg #[.int .i64 n, .int .i64 p, r], .bool (freshN n p l k), .int .i64 0]) ∧ W'.ownsRow w.heap.size 60 2 r (putN n p l k u).length (symCells (putN n p l k u)) ∧ Below w.heap.size w W' := by
  have hql := aheadOf_le l k
  obtain ⟨q, hq⟩ : ∃ q, aheadOf l k = q := ⟨_, rfl⟩
  rw [hq] at hql
  cases ht : hasAt l k with
  | true =>
    have h1 : freshN n p l k = false := by unfold freshN; exact decide_eq_false (by simp [ht])
    have h2 : putN n p l k u = l := by unfold putN; rw [if_pos (.inr ht)]
    rw [h1, h2]
    exact Put_stands n p k u k0 hk u0 u1 a cap l q hq ht hp w ha
  | false =>
    by_cases hMk : n * p ≤ k
    · have h1 : freshN n p l k = false := by unfold freshN; exact decide_eq_false (by simp [hMk])
      have h2 : putN n p l k u = l := by unfold putN; rw [if_pos (.inl hMk)]
      rw [h1, h2]
      exact Put_beyond n p k u k0 hk u0 u1 a cap l q hq ht hMk hp w ha
    · have h1 : freshN n p l k = true := by unfold freshN; exact decide_eq_true (by rw [ht]; simp; omega)
      have h2 : putN n p l k u = putL l k u := by unfold putN; rw [if_neg (by rw [ht]; simp; omega)]
      rw [h1, h2, putL_len]
      cases a with
      | none => exact Put_fresh2 n p k u k0 hk u0 u1 cap l q hq ht (by omega) hp w ha
      | some ad =>
        obtain ⟨b, off, spot⟩ := ad
        obtain rfl : spot = none := hc.2 _ rfl
        have hlc := hc.1
        by_cases h3 : q < l.length
        · exact Put_fresh1 n p k u k0 hk u0 u1 b off cap l q hq ht (by omega) h3 (by omega) hp w ha
        · by_cases h4 : q < cap
          · exact Put_fresh3 n p k u k0 hk u0 u1 b off cap l q hq ht (by omega) (by omega) h4 hp w ha
          · exact Put_fresh4 n p k u k0 hk u0 u1 b off cap l q hq ht (by omega) (by omega) (by omega) hp w ha

end Go.Proofs.YtdnhnnidlangiabDoor

/-
  A block whose first cells hold a text of bytes, and that may be written: what a store makes of it. No function of the program is spoken of.
-/
namespace Go.Proofs.YtdnhnnidlangiabDoor
open Go.RowKit

/-- Block g holds the text zs ahead of all; none of it is frozen. -/
def BRow (W : World) (g : Nat) (zs : List Int) : Prop := g < W.heap.size ∧ (∀ q, q < zs.length → W.cell? ⟨g, q, none⟩ = some (.int .u8 (zs[q]?.getD 0))) ∧ ∀ q, W.frozen? ⟨g, q, none⟩ = false

theorem BRow.of_own {W : World} {base n cap g : Nat} {zs : List Int} (h : W.ownsRow base 5 1 (.slice (some ⟨g, 0, none⟩) n cap) n (zs.map (Value.int .u8))) : BRow W g zs := by
  rcases h.2 with ⟨e, _⟩ | ⟨g', c, cur, e, _, hg, _⟩
  · cases e
  · cases e
    refine ⟨(Array.getElem?_eq_some_iff.1 hg).1, fun q hq => ?_, fun q => by simp [World.frozen?, hg]⟩
    have := h.cells (g := g) rfl q (.int .u8 (zs[q]?.getD 0)) (by simp [hq])
    rw [Addr.add_lit, Nat.zero_add] at this
    exact this
theorem BRow.cell {W : World} {g : Nat} {zs : List Int} (h : BRow W g zs) {q : Nat} {x : Int} (hq : zs[q]? = some x) : W.cell? ⟨g, q, none⟩ = some (.int .u8 x) := by
  rw [h.2.1 q (List.getElem?_eq_some_iff.1 hq).1, hq]; rfl
theorem BRow.set {W : World} {g : Nat} {zs : List Int} (h : BRow W g zs) (k : Nat) (hk : k < zs.length) (v : Int) : BRow (W.setCell ⟨g, k, none⟩ (.int .u8 v)) g (zs.set k v) := by
  refine ⟨by simpa [World.setCell] using h.1, fun q hq => ?_, fun q => by rw [World.frozen?_setCell]; exact h.2.2 q⟩
  rw [List.length_set] at hq
  by_cases e : q = k
  · subst e
    rw [World.cell?_setCell_same' _ _ _ (by rw [h.2.1 q hq]; rfl)]
    simp [hq]
  · rw [World.cell?_setCell_other _ _ _ _ (by intro e'; cases e'; exact e rfl), h.2.1 q hq, List.getElem?_set_ne (by omega)]
theorem BRow.other {W : World} {g g' : Nat} {zs : List Int} (h : BRow W g zs) (hne : g ≠ g') (k : Nat) (v : Value) : BRow (W.setCell ⟨g', k, none⟩ v) g zs := by
  refine ⟨by simpa [World.setCell] using h.1, fun q hq => ?_, fun q => by rw [World.frozen?_setCell]; exact h.2.2 q⟩
  rw [World.cell?_setCell_other _ _ _ _ (by intro e'; cases e'; exact hne rfl)]
  exact h.2.1 q hq
theorem BRow.drewN {W : World} {g : Nat} {zs : List Int} (h : BRow W g zs) (n : Nat) : BRow (W.drewN n) g zs := h
theorem BRow.below {W W' : World} {g n : Nat} {zs : List Int} (h : BRow W g zs) (hb : Below n W W') (hg : g < n) : BRow W' g zs := by
  refine ⟨Nat.lt_of_lt_of_le h.1 hb.size, fun q hq => (hb.cell (p := ⟨g, q, none⟩) hg).trans (h.2.1 q hq), fun q => ?_⟩
  have e : W'.frozen? ⟨g, q, none⟩ = W.frozen? ⟨g, q, none⟩ := by unfold World.frozen?; rw [hb.block g hg]
  rw [e]; exact h.2.2 q
theorem BRow.holds {W : World} {g n : Nat} {zs : List Int} (h : BRow W g zs) (hg : g < n) (cap : Nat) : Holds .u8 n W (.slice (some ⟨g, 0, none⟩) zs.length cap) zs :=
  .inr ⟨g, 0, cap, rfl, hg, fun j hj => by rw [Nat.zero_add]; exact h.2.1 j hj⟩

/-- A text that is written place by place over noughts. -/
theorem over_noughts {Z : List Int} {n k : Nat} {z : Int} (hz : Z[k]? = some z) (hk : k < n) : (Z.take k ++ List.replicate (n - k) 0).set k z = Z.take (k + 1) ++ List.replicate (n - (k + 1)) 0 := by
  have hlt := (List.getElem?_eq_some_iff.1 hz).1
  have hl : (Z.take k).length = k := by rw [List.length_take]; omega
  obtain ⟨m, hm⟩ : ∃ m, n - k = m + 1 := ⟨n - k - 1, by omega⟩
  rw [List.set_append_right _ _ (by omega), hl, Nat.sub_self, hm, List.replicate_succ, List.set_cons_zero, List.take_add_one, hz, show n - (k + 1) = m by omega]
  simp

end Go.Proofs.YtdnhnnidlangiabDoor

/-
  What volutelaw12.Heard answers: the pile that is heard.
-/
namespace Go.Proofs.YtdnhnnidlangiabDoor
open Go.RowKit

/-- The slice v holds these flags. -/
def Flags (n₀ : Nat) (W : World) (v : Value) (os : List Bool) : Prop :=
  ((∃ a cap, v = .slice a 0 cap) ∧ os = []) ∨ ∃ b off cap, v = .slice (some ⟨b, off, none⟩) os.length cap ∧ b < n₀ ∧ ∀ (j : Nat) (x : Bool), os[j]? = some x → W.cell? ⟨b, off + j, none⟩ = some (.bool x)
theorem Flags.below {n₀ : Nat} {W W' : World} {v : Value} {os : List Bool} (h : Flags n₀ W v os) (hb : Below n₀ W W') : Flags n₀ W' v os := by
  rcases h with h | ⟨b, off, cap, hv, hlt, hc⟩
  · exact .inl h
  · exact .inr ⟨b, off, cap, hv, hlt, fun j x hj => (hb.cell (p := ⟨b, off + j, none⟩) hlt).trans (hc j x hj)⟩
theorem Flags.shape {n₀ : Nat} {W : World} {v : Value} {os : List Bool} (h : Flags n₀ W v os) : ∃ a cap, v = .slice a os.length cap := by
  rcases h with ⟨⟨a, cap, rfl⟩, rfl⟩ | ⟨b, off, cap, rfl, _, _⟩
  · exact ⟨_, _, rfl⟩
  · exact ⟨_, _, rfl⟩
theorem flags_at {n₀ n cap : Nat} {W : World} {a : Option Addr} {os : List Bool} (h : Flags n₀ W (.slice a n cap) os) (hl : os.length = n) (h0 : 0 < n) : ∃ b off, a = some ⟨b, off, none⟩ ∧ b < n₀ ∧ ∀ (j : Nat) (x : Bool), os[j]? = some x → W.cell? ⟨b, off + j, none⟩ = some (.bool x) := by
  subst hl
  rcases h with ⟨_, e⟩ | ⟨b, off, c', e, hb, hcs⟩
  · rw [e] at h0; simp at h0
  · cases e
    exact ⟨b, off, rfl, hb, hcs⟩

/-- Bytes that are held lie in no box of a pile. -/
theorem bytes_box {n₀ : Nat} {W : World} {v : Value} {xs : List Int} {B : Nat} {t : TypeId} {x y : Int} {a : Option Addr} {n c : Nat} (h : Holds .u8 n₀ W v xs) (hB : Box W B t #[.int .i64 x, .int .i64 y, .slice a n c]) (p q r : Value) : Holds .u8 n₀ (((W.setCell ⟨B, 0, none⟩ p).setCell ⟨B, 1, none⟩ q).setCell ⟨B, 2, none⟩ r) v xs := by
  rcases h with h | ⟨b, off, cap, hv, hlt, hc⟩
  · exact .inl h
  · refine .inr ⟨b, off, cap, hv, hlt, fun j hj => ?_⟩
    have hcj := hc j hj
    have hne : b ≠ B := by
      intro e
      subst e
      have hB' : W.heap[b]? = some (.cells #[.int .i64 x, .int .i64 y, .slice a n c] t (0, 0)) := hB
      simp only [World.cell?, hB'] at hcj
      match h9 : off + j with
      | 0 => rw [h9] at hcj; simp at hcj
      | 1 => rw [h9] at hcj; simp at hcj
      | 2 => rw [h9] at hcj; simp at hcj
      | k + 3 => rw [h9] at hcj; simp at hcj
    have hd : ∀ i, (⟨B, i, none⟩ : Addr) ≠ ⟨b, off + j, none⟩ := fun i e => hne (congrArg Addr.block e).symm
    rw [World.cell?_setCell_other _ _ _ _ (hd 2), World.cell?_setCell_other _ _ _ _ (hd 1), World.cell?_setCell_other _ _ _ _ (hd 0)]
    exact hcj

end Go.Proofs.YtdnhnnidlangiabDoor

/-
  What volutelaw12.Heard answers: the pile that is heard.
-/
namespace Go.Proofs.YtdnhnnidlangiabDoor
open Go.RowKit

set_option maxRecDepth 100000 in
set_option maxHeartbeats 2000000 in
theorem heard_any (a : Option Addr) (L cap : Nat) (zs : List Int) (hz : zs.length = L) (h1 : 1 ≤ L) (hL : L ≤ 32) (bz : ∀ z ∈ zs, 0 ≤ z ∧ z ≤ 255) (P C : Nat) (hP1 : 1 ≤ P) (hP : P ≤ 16) (hC : C ≤ 2 * L * P) (oa : Option Addr) (on oc : Nat) (os : List Bool) (hol : os.length = on) (hob : on ≤ 1048576) (ta : Option Addr) (tn tc : Nat) (ts : List Nat) (htl : ts.length = tn) (htb : tn ≤ 1048576) (bt : ∀ t ∈ ts, t < 256) (w : World) (hF : Firsts w)
    (ha : Holds .u8 w.heap.size w (.slice a L cap) zs) (hO : Flags w.heap.size w (.slice oa on oc) os) (hT : Holds .u8 w.heap.size w (.slice ta tn tc) (ts.map fun t : Nat => (t : Int))) :
    Calls Tryd.prog 20 #[.slice a L cap, .int .i64 (P : Int), .int .i64 (C : Int), .slice oa on oc, .slice ta tn tc] w fun e W' => ∃ r, e = .returned (.tuple #[.agg #[.int .i64 ((2 * L : Nat) : Int), .int .i64 (P : Int), r], .bool true]) ∧ W'.ownsRow w.heap.size 60 2 r (heardL zs os ts C).length (symCells (heardL zs os ts C)) ∧ Below w.heap.size w W' := by
  obtain ⟨n, hn⟩ : ∃ n, 2 * L = n := ⟨_, rfl⟩
  have e2 : 2 * (L : Int) = (n : Int) := by omega
  have hn64 : n ≤ 64 := by omega
  have HH : Hid (HeadOk (n : Int) (P : Int)) := ⟨by omega, by omega, by omega, by omega⟩
  have HCN : Hid (∀ k, codeN zs k < 256) := fun k => codeN_lt zs k
  have hnP : (C : Int) ≤ (n : Int) * (P : Int) := by
    have h9 : C ≤ n * P := by rw [← hn]; exact hC
    exact_mod_cast h9
  have hC2 : C ≤ 1024 := by
    have h9 : n * P ≤ 64 * 16 := Nat.mul_le_mul hn64 hP
    have h8 : C ≤ n * P := by rw [← hn]; exact hC
    omega
  have hC32 : C ≤ 32 * L := by
    have h9 : 2 * L * P ≤ 2 * L * 16 := Nat.mul_le_mul_left _ hP
    omega
  have HNP : Hid ((C : Int) ≤ (n : Int) * (P : Int)) := hnP
  have HZ : Hid (zs.length = L) := hz
  have HBZ : Hid (∀ z ∈ zs, 0 ≤ z ∧ z ≤ 255) := bz
  have HBT : Hid (∀ t ∈ ts, t < 256) := bt
  have HA : Hid (Holds .u8 w.heap.size w (.slice a L cap) zs) := ha
  have HO : Hid (Flags w.heap.size w (.slice oa on oc) os) := hO
  have HT : Hid (Holds .u8 w.heap.size w (.slice ta tn tc) (ts.map fun t : Nat => (t : Int))) := hT
  have HOL : Hid (os.length = on) := hol
  have HTL : Hid (ts.length = tn) := htl
  have HFW : Hid (Firsts w) := hF
  have b0 : Below w.heap.size w (w.alloc (.cells #[.int .i64 0, .int .i64 0, .slice none 0 0] 24)) := (Below.refl w.heap.size w).alloc (Nat.le_refl _) _
  have x0 := Box.new w 24 #[.int .i64 0, .int .i64 0, .slice none 0 0]
  rw [hn]
  clear hz bz bt ha hO hT hol htl hF hn hnP hC
  go_enter Tryd.func20, Tryd.ntmps20
  go_wp2_with fail
  refine (New_ok (n : Int) (P : Int) HH.out _).mono ?_
  rintro e w1 ⟨rfl, b1⟩
  have bb1 := b0.trans (b1.mono b0.size)
  have x01 := x0.next b1
  have xp := Box.new w1 24 #[.int .i64 (n : Int), .int .i64 (P : Int), .slice none 0 0]
  have b2 : Below w1.heap.size w1 (w1.alloc (.cells #[.int .i64 (n : Int), .int .i64 (P : Int), .slice none 0 0] 24)) := (Below.refl _ _).alloc (Nat.le_refl _) _
  go_wp2_with fail
  obtain ⟨W2, hW2⟩ : ∃ W, w1.alloc (.cells #[.int .i64 (n : Int), .int .i64 (P : Int), .slice none 0 0] 24) = W := ⟨_, rfl⟩
  rw [hW2] at xp b2 ⊢
  clear hW2
  have bb2 := bb1.trans (b2.mono bb1.size)
  have HEN := Encode_ok a L cap zs HZ.out h1 hL HBZ.out 0 C (by omega) W2 (HFW.out.next bb2) (HA.out.next bb2)
  refine HEN.mono ?_
  rintro e w3 ⟨r3, rfl, hK3, b3⟩
  clear HEN
  obtain ⟨hX3, xa, xc, e3, hxc⟩ := hK3
  rw [codeL_len] at e3 hxc
  subst e3
  have xp3 := xp.next b3
  have b23 := b2.trans (b3.mono b2.size)
  have hlp := xp3.lt
  have hcc : ((C : Int) != (C : Int)) = false := by simp
  clear xp b0 b1 b2 b3 x0
  go_wp2
  go_loopw [17] (fun s17 wr => ∃ (k : Nat) (ra : Option Addr) (rc : Nat), k ≤ C ∧ s17 = .int .i64 k ∧ Box wr w1.heap.size 24 #[.int .i64 (n : Int), .int .i64 (P : Int), .slice ra (heardL zs os ts k).length rc] ∧ wr.ownsRow (w1.heap.size + 1) 60 2 (.slice ra (heardL zs os ts k).length rc) (heardL zs os ts k).length (symCells (heardL zs os ts k)) ∧ Holds .u8 wr.heap.size wr (.slice xa C xc) (codeL zs 0 C) ∧ Below w1.heap.size w1 wr) (fun i _ => C - (intOf i).toNat)
  case atStart => exact ⟨0, none, 0, Nat.zero_le _, rfl, xp3, World.ownsRow_nil _ _ _ _, hX3, b23⟩
  case round =>
    obtain ⟨k, ra, rc, hk, rfl, xr, ho, hX, bw⟩ := hrel
    clear xp3 hX3 b23
    have hsz := bw.size
    by_cases hlt : k < C
    · have hcv := HCN.out k
      obtain ⟨xb, xo, rfl, _, hxx⟩ := holds_at hX (codeL_len _ _ _) (by omega)
      have cX := hxx k _ (codeL_get (zs := zs) (f := 0) hlt)
      rw [Nat.zero_add] at cX
      obtain ⟨cv, hcv'⟩ : ∃ cv, codeN zs k = cv := ⟨_, rfl⟩
      rw [hcv'] at cX hcv
      have HCV : Hid (codeN zs k = cv) := hcv'
      have HPO : Hid (PileOk (n : Int) (P : Int) (heardL zs os ts k)) := heardL_ok HH.out HBT.out HCN.out (by have := HNP.out; omega)
      clear hxx hcv'
      by_cases hon : k < on
      · have don : decide ((k : Int) < (on : Int)) = true := decide_eq_true (by omega)
        have donN : decide (k < on) = true := decide_eq_true hon
        obtain ⟨o, hoo⟩ : ∃ o, os[k]? = some o := ⟨os[k]'(by rw [HOL.out]; exact hon), by simp⟩
        obtain ⟨ob, oo, rfl, _, hoc⟩ := flags_at (HO.out.below (bb1.trans (bw.mono bb1.size))) HOL.out (by omega)
        have cO := hoc k o hoo
        have hoe : hOut os k = o := by unfold hOut; rw [hoo]; rfl
        have HOE : Hid (hOut os k = o) := hoe
        clear hoc hoo hoe
        cases o with
        | true =>
          have HHE : Hid (heardL zs os ts (k + 1) = heardL zs os ts k) := heardL_out HOE.out
          go_wp2
          go_roundw
          case rel => exact ⟨k + 1, ra, rc, by omega, by go_num, by rw [HHE.out]; exact xr, by rw [HHE.out]; exact ho, hX, bw⟩
          case measure => simp [intOf]; omega
        | false =>
          have HOUT : Hid (hOut os k = false) := HOE.out
          by_cases htn : k < tn
          · have dt : decide ((k : Int) < (tn : Int)) = true := decide_eq_true (by omega)
            have dtN : decide (k < tn) = true := decide_eq_true htn
            obtain ⟨tv, htv⟩ : ∃ tv, ts[k]? = some tv := ⟨ts[k]'(by rw [HTL.out]; exact htn), by simp⟩
            have ht256 := HBT.out tv (List.mem_of_getElem? htv)
            obtain ⟨tb, to, rfl, _, htc⟩ := holds_at (HT.out.below (bb1.trans (bw.mono bb1.size))) (by rw [List.length_map]; exact HTL.out) (by omega)
            have cT := htc k (tv : Int) (by rw [List.getElem?_map, htv]; rfl)
            obtain ⟨V, hV⟩ : ∃ V, cv ^^^ tv = V := ⟨_, rfl⟩
            have eX : bits .xor .u8 (cv : Int) (tv : Int) = (V : Int) := by rw [zu8_xor cv tv hcv ht256, hV]
            have hVb : V < 256 := by rw [← hV]; exact xor_byte hcv ht256
            have HVV : Hid (hvN zs ts k = V) := by
              show hvN zs ts k = V
              unfold hvN
              rw [HCV.out, htv, ← hV]
              rfl
            have ewV : IntKind.i64.wrap (V : Int) = (V : Int) := by rw [IntKind.wrap_i64]; omega
            clear htc htv hV
            have HPT := Put_in (n : Int) (P : Int) (k : Int) (V : Int) (by omega) (by omega) (by omega) (by omega) ra rc (heardL zs os ts k) HPO.out wr (syms_of_row ho) (rowCap_of ho)
            rw [show putN (n : Int) (P : Int) (heardL zs os ts k) (k : Int) (V : Int) = heardL zs os ts (k + 1) by rw [← HVV.out]; exact heardL_put HOUT.out (by have := HNP.out; omega)] at HPT
            have d0 := xr.cell 0 _ rfl
            have d1 := xr.cell 1 _ rfl
            have d2 := xr.cell 2 _ rfl
            go_wp2_with fail
            refine HPT.mono ?_
            rintro e w4 ⟨r4, rfl, o4, b4⟩
            clear HPT d0 d1 d2
            obtain ⟨r4a, r4c, e4⟩ := (syms_of_row o4).shape
            subst e4
            have x4 := xr.next b4
            have hX4 := hX.next b4
            have b5 : Below w1.heap.size w1 w4 := bw.trans (b4.mono hsz)
            obtain ⟨hl', hhl⟩ : ∃ hl', (heardL zs os ts (k + 1)).length = hl' := ⟨_, rfl⟩
            rw [hhl] at o4 ⊢
            have HHL : Hid ((heardL zs os ts (k + 1)).length = hl') := hhl
            have k0 := x4.cell 0 _ rfl
            have k1 := x4.cell 1 _ rfl
            have k2 := x4.cell 2 _ rfl
            have f0 := x4.free 0
            have f1 := x4.free 1
            have f2 := x4.free 2
            have xn := Box.new w4 24 #[.int .i64 (n : Int), .int .i64 (P : Int), .slice r4a hl' r4c]
            have x5 := x4.alloc (.cells #[.int .i64 (n : Int), .int .i64 (P : Int), .slice r4a hl' r4c] 24)
            have p0 := x5.cell 0 _ rfl
            have p1 := x5.cell 1 _ rfl
            have p2 := x5.cell 2 _ rfl
            have g0 := x5.free 0
            have g1 := x5.free 1
            have g2 := x5.free 2
            have hne : ¬ w1.heap.size = w4.heap.size := by have := x4.lt; omega
            have hne2 : ¬ w4.heap.size = w1.heap.size := by have := x4.lt; omega
            have m0 := xn.cell 0 _ rfl
            have m1 := xn.cell 1 _ rfl
            have m2 := xn.cell 2 _ rfl
            clear hhl
            go_wp2
            have hlr := xr.lt
            exact ⟨⟨k + 1, r4a, r4c, by omega, by go_num, by rw [HHL.out]; exact x5.set3 _ _ _, by rw [HHL.out]; exact row_set3 ((rowN_base o4 hlr).alloc _) (D := w1.heap.size) (by omega) _ _ _, (bytes_box (hX4.next ((Below.refl _ _).alloc (Nat.le_refl _) _)) x5 _ _ _).mono (by simp [World.setCell]), below_set3 (b5.alloc b5.size _) (D := w1.heap.size) (Nat.le_refl _) _ _ _⟩, by simp [intOf]; omega⟩
          · have dt : decide ((k : Int) < (tn : Int)) = false := decide_eq_false (by omega)
            have dtN : decide (k < tn) = false := decide_eq_false htn
            obtain ⟨V, hV⟩ : ∃ V, cv = V := ⟨_, rfl⟩
            subst hV
            have HVV : Hid (hvN zs ts k = cv) := by
              show hvN zs ts k = cv
              unfold hvN
              rw [HCV.out, List.getElem?_eq_none (by rw [HTL.out]; omega)]
              simp
            have ewV : IntKind.i64.wrap (cv : Int) = (cv : Int) := by rw [IntKind.wrap_i64]; omega
            have HPT := Put_in (n : Int) (P : Int) (k : Int) (cv : Int) (by omega) (by omega) (by omega) (by omega) ra rc (heardL zs os ts k) HPO.out wr (syms_of_row ho) (rowCap_of ho)
            rw [show putN (n : Int) (P : Int) (heardL zs os ts k) (k : Int) (cv : Int) = heardL zs os ts (k + 1) by rw [← HVV.out]; exact heardL_put HOUT.out (by have := HNP.out; omega)] at HPT
            have d0 := xr.cell 0 _ rfl
            have d1 := xr.cell 1 _ rfl
            have d2 := xr.cell 2 _ rfl
            go_wp2_with fail
            refine HPT.mono ?_
            rintro e w4 ⟨r4, rfl, o4, b4⟩
            clear HPT d0 d1 d2
            obtain ⟨r4a, r4c, e4⟩ := (syms_of_row o4).shape
            subst e4
            have x4 := xr.next b4
            have hX4 := hX.next b4
            have b5 : Below w1.heap.size w1 w4 := bw.trans (b4.mono hsz)
            obtain ⟨hl', hhl⟩ : ∃ hl', (heardL zs os ts (k + 1)).length = hl' := ⟨_, rfl⟩
            rw [hhl] at o4 ⊢
            have HHL : Hid ((heardL zs os ts (k + 1)).length = hl') := hhl
            have k0 := x4.cell 0 _ rfl
            have k1 := x4.cell 1 _ rfl
            have k2 := x4.cell 2 _ rfl
            have f0 := x4.free 0
            have f1 := x4.free 1
            have f2 := x4.free 2
            have xn := Box.new w4 24 #[.int .i64 (n : Int), .int .i64 (P : Int), .slice r4a hl' r4c]
            have x5 := x4.alloc (.cells #[.int .i64 (n : Int), .int .i64 (P : Int), .slice r4a hl' r4c] 24)
            have p0 := x5.cell 0 _ rfl
            have p1 := x5.cell 1 _ rfl
            have p2 := x5.cell 2 _ rfl
            have g0 := x5.free 0
            have g1 := x5.free 1
            have g2 := x5.free 2
            have hne : ¬ w1.heap.size = w4.heap.size := by have := x4.lt; omega
            have hne2 : ¬ w4.heap.size = w1.heap.size := by have := x4.lt; omega
            have m0 := xn.cell 0 _ rfl
            have m1 := xn.cell 1 _ rfl
            have m2 := xn.cell 2 _ rfl
            clear hhl
            go_wp2
            have hlr := xr.lt
            exact ⟨⟨k + 1, r4a, r4c, by omega, by go_num, by rw [HHL.out]; exact x5.set3 _ _ _, by rw [HHL.out]; exact row_set3 ((rowN_base o4 hlr).alloc _) (D := w1.heap.size) (by omega) _ _ _, (bytes_box (hX4.next ((Below.refl _ _).alloc (Nat.le_refl _) _)) x5 _ _ _).mono (by simp [World.setCell]), below_set3 (b5.alloc b5.size _) (D := w1.heap.size) (Nat.le_refl _) _ _ _⟩, by simp [intOf]; omega⟩
      · have don : decide ((k : Int) < (on : Int)) = false := decide_eq_false (by omega)
        have donN : decide (k < on) = false := decide_eq_false hon
        have HOUT : Hid (hOut os k = false) := by
          show hOut os k = false
          unfold hOut
          rw [List.getElem?_eq_none (by rw [HOL.out]; omega)]
          rfl
        by_cases htn : k < tn
        · have dt : decide ((k : Int) < (tn : Int)) = true := decide_eq_true (by omega)
          have dtN : decide (k < tn) = true := decide_eq_true htn
          obtain ⟨tv, htv⟩ : ∃ tv, ts[k]? = some tv := ⟨ts[k]'(by rw [HTL.out]; exact htn), by simp⟩
          have ht256 := HBT.out tv (List.mem_of_getElem? htv)
          obtain ⟨tb, to, rfl, _, htc⟩ := holds_at (HT.out.below (bb1.trans (bw.mono bb1.size))) (by rw [List.length_map]; exact HTL.out) (by omega)
          have cT := htc k (tv : Int) (by rw [List.getElem?_map, htv]; rfl)
          obtain ⟨V, hV⟩ : ∃ V, cv ^^^ tv = V := ⟨_, rfl⟩
          have eX : bits .xor .u8 (cv : Int) (tv : Int) = (V : Int) := by rw [zu8_xor cv tv hcv ht256, hV]
          have hVb : V < 256 := by rw [← hV]; exact xor_byte hcv ht256
          have HVV : Hid (hvN zs ts k = V) := by
            show hvN zs ts k = V
            unfold hvN
            rw [HCV.out, htv, ← hV]
            rfl
          have ewV : IntKind.i64.wrap (V : Int) = (V : Int) := by rw [IntKind.wrap_i64]; omega
          clear htc htv hV
          have HPT := Put_in (n : Int) (P : Int) (k : Int) (V : Int) (by omega) (by omega) (by omega) (by omega) ra rc (heardL zs os ts k) HPO.out wr (syms_of_row ho) (rowCap_of ho)
          rw [show putN (n : Int) (P : Int) (heardL zs os ts k) (k : Int) (V : Int) = heardL zs os ts (k + 1) by rw [← HVV.out]; exact heardL_put HOUT.out (by have := HNP.out; omega)] at HPT
          have d0 := xr.cell 0 _ rfl
          have d1 := xr.cell 1 _ rfl
          have d2 := xr.cell 2 _ rfl
          go_wp2_with fail
          refine HPT.mono ?_
          rintro e w4 ⟨r4, rfl, o4, b4⟩
          clear HPT d0 d1 d2
          obtain ⟨r4a, r4c, e4⟩ := (syms_of_row o4).shape
          subst e4
          have x4 := xr.next b4
          have hX4 := hX.next b4
          have b5 : Below w1.heap.size w1 w4 := bw.trans (b4.mono hsz)
          obtain ⟨hl', hhl⟩ : ∃ hl', (heardL zs os ts (k + 1)).length = hl' := ⟨_, rfl⟩
          rw [hhl] at o4 ⊢
          have HHL : Hid ((heardL zs os ts (k + 1)).length = hl') := hhl
          have k0 := x4.cell 0 _ rfl
          have k1 := x4.cell 1 _ rfl
          have k2 := x4.cell 2 _ rfl
          have f0 := x4.free 0
          have f1 := x4.free 1
          have f2 := x4.free 2
          have xn := Box.new w4 24 #[.int .i64 (n : Int), .int .i64 (P : Int), .slice r4a hl' r4c]
          have x5 := x4.alloc (.cells #[.int .i64 (n : Int), .int .i64 (P : Int), .slice r4a hl' r4c] 24)
          have p0 := x5.cell 0 _ rfl
          have p1 := x5.cell 1 _ rfl
          have p2 := x5.cell 2 _ rfl
          have g0 := x5.free 0
          have g1 := x5.free 1
          have g2 := x5.free 2
          have hne : ¬ w1.heap.size = w4.heap.size := by have := x4.lt; omega
          have hne2 : ¬ w4.heap.size = w1.heap.size := by have := x4.lt; omega
          have m0 := xn.cell 0 _ rfl
          have m1 := xn.cell 1 _ rfl
          have m2 := xn.cell 2 _ rfl
          clear hhl
          go_wp2
          have hlr := xr.lt
          exact ⟨⟨k + 1, r4a, r4c, by omega, by go_num, by rw [HHL.out]; exact x5.set3 _ _ _, by rw [HHL.out]; exact row_set3 ((rowN_base o4 hlr).alloc _) (D := w1.heap.size) (by omega) _ _ _, (bytes_box (hX4.next ((Below.refl _ _).alloc (Nat.le_refl _) _)) x5 _ _ _).mono (by simp [World.setCell]), below_set3 (b5.alloc b5.size _) (D := w1.heap.size) (Nat.le_refl _) _ _ _⟩, by simp [intOf]; omega⟩
        · have dt : decide ((k : Int) < (tn : Int)) = false := decide_eq_false (by omega)
          have dtN : decide (k < tn) = false := decide_eq_false htn
          obtain ⟨V, hV⟩ : ∃ V, cv = V := ⟨_, rfl⟩
          subst hV
          have HVV : Hid (hvN zs ts k = cv) := by
            show hvN zs ts k = cv
            unfold hvN
            rw [HCV.out, List.getElem?_eq_none (by rw [HTL.out]; omega)]
            simp
          have ewV : IntKind.i64.wrap (cv : Int) = (cv : Int) := by rw [IntKind.wrap_i64]; omega
          have HPT := Put_in (n : Int) (P : Int) (k : Int) (cv : Int) (by omega) (by omega) (by omega) (by omega) ra rc (heardL zs os ts k) HPO.out wr (syms_of_row ho) (rowCap_of ho)
          rw [show putN (n : Int) (P : Int) (heardL zs os ts k) (k : Int) (cv : Int) = heardL zs os ts (k + 1) by rw [← HVV.out]; exact heardL_put HOUT.out (by have := HNP.out; omega)] at HPT
          have d0 := xr.cell 0 _ rfl
          have d1 := xr.cell 1 _ rfl
          have d2 := xr.cell 2 _ rfl
          go_wp2_with fail
          refine HPT.mono ?_
          rintro e w4 ⟨r4, rfl, o4, b4⟩
          clear HPT d0 d1 d2
          obtain ⟨r4a, r4c, e4⟩ := (syms_of_row o4).shape
          subst e4
          have x4 := xr.next b4
          have hX4 := hX.next b4
          have b5 : Below w1.heap.size w1 w4 := bw.trans (b4.mono hsz)
          obtain ⟨hl', hhl⟩ : ∃ hl', (heardL zs os ts (k + 1)).length = hl' := ⟨_, rfl⟩
          rw [hhl] at o4 ⊢
          have HHL : Hid ((heardL zs os ts (k + 1)).length = hl') := hhl
          have k0 := x4.cell 0 _ rfl
          have k1 := x4.cell 1 _ rfl
          have k2 := x4.cell 2 _ rfl
          have f0 := x4.free 0
          have f1 := x4.free 1
          have f2 := x4.free 2
          have xn := Box.new w4 24 #[.int .i64 (n : Int), .int .i64 (P : Int), .slice r4a hl' r4c]
          have x5 := x4.alloc (.cells #[.int .i64 (n : Int), .int .i64 (P : Int), .slice r4a hl' r4c] 24)
          have p0 := x5.cell 0 _ rfl
          have p1 := x5.cell 1 _ rfl
          have p2 := x5.cell 2 _ rfl
          have g0 := x5.free 0
          have g1 := x5.free 1
          have g2 := x5.free 2
          have hne : ¬ w1.heap.size = w4.heap.size := by have := x4.lt; omega
          have hne2 : ¬ w4.heap.size = w1.heap.size := by have := x4.lt; omega
          have m0 := xn.cell 0 _ rfl
          have m1 := xn.cell 1 _ rfl
          have m2 := xn.cell 2 _ rfl
          clear hhl
          go_wp2
          have hlr := xr.lt
          exact ⟨⟨k + 1, r4a, r4c, by omega, by go_num, by rw [HHL.out]; exact x5.set3 _ _ _, by rw [HHL.out]; exact row_set3 ((rowN_base o4 hlr).alloc _) (D := w1.heap.size) (by omega) _ _ _, (bytes_box (hX4.next ((Below.refl _ _).alloc (Nat.le_refl _) _)) x5 _ _ _).mono (by simp [World.setCell]), below_set3 (b5.alloc b5.size _) (D := w1.heap.size) (Nat.le_refl _) _ _ _⟩, by simp [intOf]; omega⟩
    · obtain rfl : k = C := by omega
      have x0r : Box wr w.heap.size 24 #[.int .i64 0, .int .i64 0, .slice none 0 0] := x01.next bw
      have d0 := xr.cell 0 _ rfl
      have d1 := xr.cell 1 _ rfl
      have d2 := xr.cell 2 _ rfl
      have z0 := x0r.cell 0 _ rfl
      have z1 := x0r.cell 1 _ rfl
      have z2 := x0r.cell 2 _ rfl
      have f0 := x0r.free 0
      have f1 := x0r.free 1
      have f2 := x0r.free 2
      have hnn : ((n : Int) == (n : Int)) = true := by simp
      have hl01 := x01.lt
      have hlr := xr.lt
      have hne : ¬ w.heap.size = w1.heap.size := by omega
      have hne2 : ¬ w1.heap.size = w.heap.size := by omega
      go_wp2
      go_region
      have hb1 := bb1.size
      go_wp2
      refine bodyPost_ret (v := .tuple #[.agg #[.int .i64 (n : Int), .int .i64 (P : Int), .slice ra (heardL zs os ts k).length rc], .bool true]) (by simp [results, Tryd.results20, go_sem, z0, z1, z2]) rfl ⟨_, rfl, ?_, ?_⟩
      · exact rowN_base (row_set3 ho (D := w.heap.size) (by omega) _ _ _) (by omega)
      · exact (below_set3 (bb1.trans (bw.mono hb1)) (D := w.heap.size) (Nat.le_refl _) _ _ _).drew

end Go.Proofs.YtdnhnnidlangiabDoor
