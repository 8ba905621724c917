/-
  Rows of numbers of the call's own: append of one number; a block that is written place by place. No function of the program is spoken of.
-/
import Derived.Test.YtdnhnnidlangiabDoorM01
import Derived.Test.YtdnhnnidlangiabDoorM06
import Derived.Test.YtdnhnnidlangiabDoorM07
import Derived.Deep.AppendLies
import Derived.Deep.OwnRows
import Derived.Lib.SmallJoins
import Derived.WalkSmall
namespace Go.Proofs.YtdnhnnidlangiabDoor
open Go.RowKit

theorem infoIntR : (Tryd.prog.info? 3).map (fun i => (i.zero, i.size, i.bytes)) = some (some (.int .i64 0), 1, 8) := by kernel_rfl

/-- append of one number, its run. -/
theorem run_append_int (v : Value) (n base : Nat) (xs : List Int) (x : Int) (ty : TypeId) (w : World) (hown : w.ownsRow base 3 1 v n (xs.map (Value.int .i64))) (hb : base ≤ w.heap.size) (h1 : n ≤ 4294967296) :
    ∃ v' w', (Builtin.append_ #[25, 25] ty #[v, .slice (some ⟨w.heap.size, 0, none⟩) 1 1]).run Tryd.prog (w.alloc (.cells #[.int .i64 x] 3)) = .ok v' w' ∧ w'.ownsRow base 3 1 v' (n + 1) ((xs ++ [x]).map (Value.int .i64)) ∧ (w.alloc (.cells #[.int .i64 x] 3)).grownBy w' v.ownBlock := by
  obtain ⟨i0, hi, hz0, hz1, hz2⟩ := info_parts infoIntR
  obtain ⟨v', w', hr, ho, hg, _⟩ := run_append_own (P := Tryd.prog) (w.alloc (.cells #[.int .i64 x] 3)) base 25 ty 3 i0 (.int .i64 0) 1 8 Tryd.underlying25 hi hz0 hz1 hz2 rfl (by decide) v n _ (hown.alloc _) ⟨w.heap.size, 0, none⟩ 1 1 [.int .i64 x] rfl (World.news_of_block (World.alloc_heap_new _ _)) (by simp [Value.oneCell']) (by unfold maxLen; omega) (by omega) (by simp; omega)
  exact ⟨v', w', hr, by rw [List.map_append]; exact ho, hg⟩

/-- Where numbers that are held lie. -/
theorem holds_at {kd : IntKind} {n₀ n cap : Nat} {W : World} {a : Option Addr} {zs : List Int} (h : Holds kd n₀ W (.slice a n cap) zs) (hl : zs.length = n) (h0 : 0 < n) :
    ∃ b off, a = some ⟨b, off, none⟩ ∧ b < n₀ ∧ ∀ (j : Nat) (x : Int), zs[j]? = some x → W.cell? ⟨b, off + j, none⟩ = some (.int kd x) := by
  subst hl
  rcases h with ⟨_, e⟩ | ⟨b, off, c', e, hb, hcs⟩
  · rw [e] at h0; simp at h0
  · cases e
    refine ⟨b, off, rfl, hb, fun j x hj => ?_⟩
    rw [hcs j (List.getElem?_eq_some_iff.1 hj).1, hj]
    rfl

/-- Block g holds the numbers zs ahead of all; none of it is frozen. -/
def IntsAt (W : World) (g : Nat) (zs : List Int) : Prop := g < W.heap.size ∧ (∀ q, q < zs.length → W.cell? ⟨g, q, none⟩ = some (.int .i64 (zs[q]?.getD 0))) ∧ ∀ q, W.frozen? ⟨g, q, none⟩ = false

theorem IntsAt.of_own {W : World} {base n cap g : Nat} {zs : List Int} (h : W.ownsRow base 3 1 (.slice (some ⟨g, 0, none⟩) n cap) n (zs.map (Value.int .i64))) : IntsAt W g zs := by
  rcases h.2 with ⟨e, _⟩ | ⟨g', c, cur, e, _, hg, _⟩
  · cases e
  · cases e
    refine ⟨(Array.getElem?_eq_some_iff.1 hg).1, fun q hq => ?_, fun q => by simp [World.frozen?, hg]⟩
    have := h.cells (g := g) rfl q (.int .i64 (zs[q]?.getD 0)) (by simp [hq])
    rw [Addr.add_lit, Nat.zero_add] at this
    exact this
theorem IntsAt.set {W : World} {g : Nat} {zs : List Int} (h : IntsAt W g zs) (k : Nat) (hk : k < zs.length) (v : Int) : IntsAt (W.setCell ⟨g, k, none⟩ (.int .i64 v)) g (zs.set k v) := by
  refine ⟨by simpa [World.setCell] using h.1, fun q hq => ?_, fun q => by rw [World.frozen?_setCell]; exact h.2.2 q⟩
  rw [List.length_set] at hq
  by_cases e : q = k
  · subst e
    rw [World.cell?_setCell_same' _ _ _ (by rw [h.2.1 q hq]; rfl)]
    simp [hq]
  · rw [World.cell?_setCell_other _ _ _ _ (by intro e'; cases e'; exact e rfl), h.2.1 q hq, List.getElem?_set_ne (by omega)]
theorem IntsAt.cell {W : World} {g : Nat} {zs : List Int} (h : IntsAt W g zs) {q : Nat} {x : Int} (hq : zs[q]? = some x) : W.cell? ⟨g, q, none⟩ = some (.int .i64 x) := by
  rw [h.2.1 q (List.getElem?_eq_some_iff.1 hq).1, hq]; rfl
theorem IntsAt.below {W W' : World} {g n : Nat} {zs : List Int} (h : IntsAt W g zs) (hb : Below n W W') (hg : g < n) : IntsAt W' g zs := by
  refine ⟨Nat.lt_of_lt_of_le h.1 hb.size, fun q hq => (hb.cell (p := ⟨g, q, none⟩) hg).trans (h.2.1 q hq), fun q => ?_⟩
  have e : W'.frozen? ⟨g, q, none⟩ = W.frozen? ⟨g, q, none⟩ := by unfold World.frozen?; rw [hb.block g hg]
  rw [e]; exact h.2.2 q
theorem IntsAt.next {W W' : World} {g : Nat} {zs : List Int} (h : IntsAt W g zs) (hb : Below W.heap.size W W') : IntsAt W' g zs := h.below hb h.1
theorem IntsAt.other {W : World} {g : Nat} {zs : List Int} (h : IntsAt W g zs) {p : Addr} (hp : g ≠ p.block) (v : Value) : IntsAt (W.setCell p v) g zs := by
  refine ⟨by simpa [World.setCell] using h.1, fun q hq => ?_, fun q => by rw [World.frozen?_setCell]; exact h.2.2 q⟩
  rw [World.cell?_setCell_other _ _ _ _ (by intro e; cases e; exact hp rfl)]
  exact h.2.1 q hq
theorem IntsAt.other3 {W : World} {g : Nat} {zs : List Int} (h : IntsAt W g zs) {D : Nat} (hp : g ≠ D) (x y z : Value) : IntsAt (((W.setCell ⟨D, 0, none⟩ x).setCell ⟨D, 1, none⟩ y).setCell ⟨D, 2, none⟩ z) g zs := ((h.other (p := ⟨D, 0, none⟩) hp x).other (p := ⟨D, 1, none⟩) hp y).other (p := ⟨D, 2, none⟩) hp z
theorem IntsAt.drewN {W : World} {g : Nat} {zs : List Int} (h : IntsAt W g zs) (n : Nat) : IntsAt (W.drewN n) g zs := h

/-- Numbers of places. -/
def nats (K : List Nat) : List Int := K.map fun x : Nat => (x : Int)
theorem nats_len (K : List Nat) : (nats K).length = K.length := by simp [nats]
theorem nats_get {K : List Nat} {j x : Nat} (h : K[j]? = some x) : (nats K)[j]? = some (x : Int) := by simp [nats, h]
theorem nats_snoc (K : List Nat) (x : Nat) : nats (K ++ [x]) = nats K ++ [(x : Int)] := by simp [nats]
theorem nats_set (K : List Nat) (j x : Nat) : nats (K.set j x) = (nats K).set j (x : Int) := by simp [nats, List.map_set]

end Go.Proofs.YtdnhnnidlangiabDoor

/-
  Lists of nodes (four cells each, the last one a list of numbers) in memory. No function of the program is spoken of.
-/
namespace Go.Proofs.YtdnhnnidlangiabDoor
open Go.RowKit

/-- A node as it lies: its last cell leads to its path. -/
abbrev Rn := Int × Int × Int × Value
def rnCells (r : List Rn) : List Value := r.flatMap fun x => [.int .u32 x.1, .int .i64 x.2.1, .int .i64 x.2.2.1, x.2.2.2]
theorem rnCells_cons (x : Rn) (r : List Rn) : rnCells (x :: r) = .int .u32 x.1 :: .int .i64 x.2.1 :: .int .i64 x.2.2.1 :: x.2.2.2 :: rnCells r := rfl
theorem rnCells_len : ∀ r : List Rn, (rnCells r).length = r.length * 4
  | [] => rfl
  | x :: r => by rw [rnCells_cons]; simp only [List.length_cons, rnCells_len r]; omega
theorem rnCells_get : ∀ {r : List Rn} {j : Nat} {x : Rn}, r[j]? = some x → (rnCells r)[j * 4]? = some (.int .u32 x.1) ∧ (rnCells r)[j * 4 + 1]? = some (.int .i64 x.2.1) ∧ (rnCells r)[j * 4 + 2]? = some (.int .i64 x.2.2.1) ∧ (rnCells r)[j * 4 + 3]? = some x.2.2.2
  | [], j, x, h => by simp at h
  | y :: r, 0, x, h => by simp at h; subst h; exact ⟨rfl, rfl, rfl, rfl⟩
  | y :: r, j + 1, x, h => by
    have ih := rnCells_get (r := r) (j := j) (x := x) (by simpa using h)
    rw [rnCells_cons, show (j + 1) * 4 = j * 4 + 4 by omega, show j * 4 + 4 + 1 = j * 4 + 1 + 4 by omega, show j * 4 + 4 + 2 = j * 4 + 2 + 4 by omega, show j * 4 + 4 + 3 = j * 4 + 3 + 4 by omega]
    simpa using ih
theorem rnCells_append (r s : List Rn) : rnCells (r ++ s) = rnCells r ++ rnCells s := by simp [rnCells]
theorem rnCells_snoc (r : List Rn) (x : Rn) : rnCells (r ++ [x]) = rnCells r ++ [.int .u32 x.1, .int .i64 x.2.1, .int .i64 x.2.2.1, x.2.2.2] := by rw [rnCells_append]; rfl
def SliceV (v : Value) : Prop := ∃ a n c, v = .slice a n c
theorem rnCells_one {r : List Rn} (h : ∀ x ∈ r, SliceV x.2.2.2) : ∀ u ∈ rnCells r, u.oneCell' = true := by
  intro u hu
  obtain ⟨x, hx, hu⟩ := List.mem_flatMap.1 hu
  obtain ⟨a, n, c, e⟩ := h x hx
  simp only [List.mem_cons, List.not_mem_nil, or_false] at hu
  rcases hu with rfl | rfl | rfl | rfl
  · rfl
  · rfl
  · rfl
  · rw [e]; rfl

/-- The slice v holds these nodes, as they lie, in a block below n₀ (or it is of length 0, and they are none). -/
def Raw (n₀ : Nat) (W : World) (v : Value) (r : List Rn) : Prop :=
  ((∃ a cap, v = .slice a 0 cap ∧ (a = none → cap = 0)) ∧ r = []) ∨ ∃ b off cap, v = .slice (some ⟨b, off, none⟩) r.length cap ∧ b < n₀ ∧ ∀ (j : Nat) (x : Rn), r[j]? = some x →
    W.cell? ⟨b, off + j * 4, none⟩ = some (.int .u32 x.1) ∧ W.cell? ⟨b, off + j * 4 + 1, none⟩ = some (.int .i64 x.2.1) ∧ W.cell? ⟨b, off + j * 4 + 2, none⟩ = some (.int .i64 x.2.2.1) ∧ W.cell? ⟨b, off + j * 4 + 3, none⟩ = some x.2.2.2
theorem Raw.below {n₀ : Nat} {W W' : World} {v : Value} {r : List Rn} (h : Raw n₀ W v r) (hb : Below n₀ W W') : Raw n₀ W' v r := by
  rcases h with h | ⟨b, off, cap, hv, hlt, hc⟩
  · exact .inl h
  · exact .inr ⟨b, off, cap, hv, hlt, fun j x hj => ⟨(hb.cell (p := ⟨b, off + j * 4, none⟩) hlt).trans (hc j x hj).1, (hb.cell (p := ⟨b, off + j * 4 + 1, none⟩) hlt).trans (hc j x hj).2.1, (hb.cell (p := ⟨b, off + j * 4 + 2, none⟩) hlt).trans (hc j x hj).2.2.1, (hb.cell (p := ⟨b, off + j * 4 + 3, none⟩) hlt).trans (hc j x hj).2.2.2⟩⟩
theorem Raw.mono {n₀ n₁ : Nat} {W : World} {v : Value} {r : List Rn} (h : Raw n₀ W v r) (hn : n₀ ≤ n₁) : Raw n₁ W v r := by
  rcases h with h | ⟨b, off, cap, hv, hlt, hc⟩
  · exact .inl h
  · exact .inr ⟨b, off, cap, hv, by omega, hc⟩
theorem Raw.shape {n₀ : Nat} {W : World} {v : Value} {r : List Rn} (h : Raw n₀ W v r) : ∃ a cap, v = .slice a r.length cap := by
  rcases h with ⟨⟨a, cap, rfl, _⟩, rfl⟩ | ⟨b, off, cap, rfl, _, _⟩
  · exact ⟨_, _, rfl⟩
  · exact ⟨_, _, rfl⟩
theorem raw_at {n₀ n cap : Nat} {W : World} {a : Option Addr} {r : List Rn} (h : Raw n₀ W (.slice a n cap) r) (hl : r.length = n) (h0 : 0 < n) :
    ∃ b off, a = some ⟨b, off, none⟩ ∧ b < n₀ ∧ ∀ (j : Nat) (x : Rn), r[j]? = some x →
      W.cell? ⟨b, off + j * 4, none⟩ = some (.int .u32 x.1) ∧ W.cell? ⟨b, off + j * 4 + 1, none⟩ = some (.int .i64 x.2.1) ∧ W.cell? ⟨b, off + j * 4 + 2, none⟩ = some (.int .i64 x.2.2.1) ∧ W.cell? ⟨b, off + j * 4 + 3, none⟩ = some x.2.2.2 := by
  subst hl
  rcases h with ⟨_, e⟩ | ⟨b, off, c', e, hb, hcs⟩
  · rw [e] at h0; simp at h0
  · cases e
    exact ⟨b, off, rfl, hb, hcs⟩
theorem raw_of_row {W : World} {base k : Nat} {e : TypeId} {v : Value} {r : List Rn} (h : W.ownsRow base e 4 v k (rnCells r)) : Raw W.heap.size W v r := by
  have hl : r.length = k := by have := h.1; rw [rnCells_len] at this; omega
  rcases h.2 with ⟨rfl, rfl⟩ | ⟨g, cap, cur, rfl, hb, hg, hk, _, hs, ht⟩
  · exact .inl ⟨⟨_, _, rfl, fun _ => rfl⟩, List.length_eq_zero_iff.1 hl⟩
  · refine .inr ⟨g, 0, cap, by rw [hl], (Array.getElem?_eq_some_iff.1 hg).1, fun j x hj => ?_⟩
    obtain ⟨h1, h2, h3, h4⟩ := rnCells_get hj
    have c1 := h.cells (g := g) rfl (j * 4) _ h1
    have c2 := h.cells (g := g) rfl (j * 4 + 1) _ h2
    have c3 := h.cells (g := g) rfl (j * 4 + 2) _ h3
    have c4 := h.cells (g := g) rfl (j * 4 + 3) _ h4
    rw [Addr.add_lit] at c1 c2 c3 c4
    exact ⟨c1, c2, c3, c4⟩
theorem raw_row_len {W : World} {base k : Nat} {e : TypeId} {v : Value} {r : List Rn} (h : W.ownsRow base e 4 v k (rnCells r)) : r.length = k := by have := h.1; rw [rnCells_len] at this; omega

/-- Rows of the call's own, of whatever elements, go on. -/
theorem rowN_below {W W' : World} {base k n₀ size : Nat} {e : TypeId} {v : Value} {xs : List Value} (h : W.ownsRow base e size v k xs) (hb : Below n₀ W W') (hn : W.heap.size ≤ n₀) : W'.ownsRow base e size v k xs := by
  refine ⟨h.1, ?_⟩
  rcases h.2 with h0 | ⟨g, cap, cur, hv, hbs, hg, hk, hm, hs, ht⟩
  · exact .inl h0
  · exact .inr ⟨g, cap, cur, hv, hbs, (hb.block g (by have := (Array.getElem?_eq_some_iff.1 hg).1; omega)).trans hg, hk, hm, hs, ht⟩
theorem rowN_base {W : World} {base base' k size : Nat} {e : TypeId} {v : Value} {xs : List Value} (h : W.ownsRow base e size v k xs) (hn : base' ≤ base) : W.ownsRow base' e size v k xs := by
  refine ⟨h.1, ?_⟩
  rcases h.2 with h0 | ⟨g, cap, cur, hv, hbs, hg, hk, hm, hs, ht⟩
  · exact .inl h0
  · exact .inr ⟨g, cap, cur, hv, by omega, hg, hk, hm, hs, ht⟩
theorem rowN_cap {w : World} {base e n cap size : Nat} {a : Option Addr} {xs : List Value} (h : w.ownsRow base e size (.slice a n cap) n xs) : n ≤ cap := by
  rcases h.2 with ⟨e, _⟩ | ⟨g, c, cur, e, _, _, hk, _⟩
  · cases e; exact Nat.le_refl _
  · cases e; exact hk
/-- Rows of unlike elements lie in unlike blocks. -/
theorem rows_unlike {W : World} {base base' k k' size size' : Nat} {e e' : TypeId} {v v' : Value} {xs xs' : List Value} (h : W.ownsRow base e size v k xs) (h' : W.ownsRow base' e' size' v' k' xs') (he : e ≠ e') : v.ownBlock = none ∨ v.ownBlock ≠ v'.ownBlock := by
  rcases h.2 with ⟨rfl, _⟩ | ⟨g, cap, cur, rfl, _, hg, _⟩
  · exact .inl rfl
  · rcases h'.2 with ⟨rfl, _⟩ | ⟨g', cap', cur', rfl, _, hg', _⟩
    · exact .inr (by simp [Value.ownBlock])
    · refine .inr fun hc => ?_
      simp only [Value.ownBlock, Option.some.injEq] at hc
      subst hc
      rw [hg] at hg'
      simp only [Option.some.injEq, Obj.cells.injEq] at hg'
      exact he hg'.2.1

/-- As it lies, and as a node. -/
def RnOf (n₀ : Nat) (W : World) (x : Rn) (y : Nd) : Prop := x.1 = y.1 ∧ x.2.1 = y.2.1 ∧ x.2.2.1 = y.2.2.1 ∧ Holds .i64 n₀ W x.2.2.2 y.2.2.2
def RnsOf (n₀ : Nat) (W : World) (r : List Rn) (l : List Nd) : Prop := r.length = l.length ∧ ∀ (j : Nat) (x : Rn) (y : Nd), r[j]? = some x → l[j]? = some y → RnOf n₀ W x y
theorem RnOf.below {n₀ : Nat} {W W' : World} {x : Rn} {y : Nd} (h : RnOf n₀ W x y) (hb : Below n₀ W W') : RnOf n₀ W' x y := ⟨h.1, h.2.1, h.2.2.1, h.2.2.2.below hb⟩
theorem RnsOf.below {n₀ : Nat} {W W' : World} {r : List Rn} {l : List Nd} (h : RnsOf n₀ W r l) (hb : Below n₀ W W') : RnsOf n₀ W' r l := ⟨h.1, fun j x y hx hy => (h.2 j x y hx hy).below hb⟩
theorem RnsOf.mono {n₀ n₁ : Nat} {W : World} {r : List Rn} {l : List Nd} (h : RnsOf n₀ W r l) (hn : n₀ ≤ n₁) : RnsOf n₁ W r l := ⟨h.1, fun j x y hx hy => ⟨(h.2 j x y hx hy).1, (h.2 j x y hx hy).2.1, (h.2 j x y hx hy).2.2.1, (h.2 j x y hx hy).2.2.2.mono hn⟩⟩
theorem RnsOf.get {n₀ : Nat} {W : World} {r : List Rn} {l : List Nd} (h : RnsOf n₀ W r l) {j : Nat} {y : Nd} (hy : l[j]? = some y) : ∃ p, r[j]? = some (y.1, y.2.1, y.2.2.1, p) ∧ Holds .i64 n₀ W p y.2.2.2 := by
  have hj : j < r.length := by rw [h.1]; exact (List.getElem?_eq_some_iff.1 hy).1
  obtain ⟨x, hx⟩ : ∃ x, r[j]? = some x := ⟨r[j], by simp⟩
  obtain ⟨h1, h2, h3, h4⟩ := h.2 j x y hx hy
  exact ⟨x.2.2.2, by rw [hx, ← h1, ← h2, ← h3], h4⟩
theorem rnsOf_nil (n₀ : Nat) (W : World) : RnsOf n₀ W [] [] := ⟨rfl, fun j x y h => by simp at h⟩
theorem RnsOf.snoc {n₀ : Nat} {W : World} {r : List Rn} {l : List Nd} (h : RnsOf n₀ W r l) {x : Rn} {y : Nd} (hx : RnOf n₀ W x y) : RnsOf n₀ W (r ++ [x]) (l ++ [y]) := by
  refine ⟨by simp [h.1], fun j u v hu hv => ?_⟩
  by_cases hj : j < r.length
  · rw [List.getElem?_append_left hj] at hu
    rw [List.getElem?_append_left (by rw [← h.1]; exact hj)] at hv
    exact h.2 j u v hu hv
  · rw [List.getElem?_append_right (by omega)] at hu
    rw [List.getElem?_append_right (by rw [← h.1]; omega), ← h.1] at hv
    have h0 : j - r.length = 0 := by have := (List.getElem?_eq_some_iff.1 hu).1; simp at this; omega
    rw [h0] at hu hv
    simp at hu hv
    subst hu hv
    exact hx
theorem RnsOf.append {n₀ : Nat} {W : World} {r s : List Rn} {l m : List Nd} (h : RnsOf n₀ W r l) (k : RnsOf n₀ W s m) : RnsOf n₀ W (r ++ s) (l ++ m) := by
  refine ⟨by simp [h.1, k.1], fun j u v hu hv => ?_⟩
  by_cases hj : j < r.length
  · rw [List.getElem?_append_left hj] at hu
    rw [List.getElem?_append_left (by rw [← h.1]; exact hj)] at hv
    exact h.2 j u v hu hv
  · rw [List.getElem?_append_right (by omega)] at hu
    rw [List.getElem?_append_right (by rw [← h.1]; omega), ← h.1] at hv
    exact k.2 _ u v hu hv
theorem RnsOf.slices {n₀ : Nat} {W : World} {r : List Rn} {l : List Nd} (h : RnsOf n₀ W r l) : ∀ x ∈ r, SliceV x.2.2.2 := by
  intro x hx
  obtain ⟨j, hj, e⟩ := List.getElem_of_mem hx
  have hjl : j < l.length := by rw [← h.1]; exact hj
  obtain ⟨a, c, e'⟩ := (h.2 j x (l[j]) (by rw [← e]; simp) (by simp)).2.2.2.shape
  exact ⟨_, _, _, e'⟩

/-- The slice v holds these nodes, their paths with them. -/
def Nodes (n₀ : Nat) (W : World) (v : Value) (l : List Nd) : Prop := ∃ r, Raw n₀ W v r ∧ RnsOf n₀ W r l
theorem Nodes.below {n₀ : Nat} {W W' : World} {v : Value} {l : List Nd} (h : Nodes n₀ W v l) (hb : Below n₀ W W') : Nodes n₀ W' v l := by obtain ⟨r, h1, h2⟩ := h; exact ⟨r, h1.below hb, h2.below hb⟩
theorem Nodes.mono {n₀ n₁ : Nat} {W : World} {v : Value} {l : List Nd} (h : Nodes n₀ W v l) (hn : n₀ ≤ n₁) : Nodes n₁ W v l := by obtain ⟨r, h1, h2⟩ := h; exact ⟨r, h1.mono hn, h2.mono hn⟩
theorem Nodes.next {W W' : World} {v : Value} {l : List Nd} (h : Nodes W.heap.size W v l) (hb : Below W.heap.size W W') : Nodes W'.heap.size W' v l := (h.below hb).mono hb.size
theorem Nodes.drewN {n₀ : Nat} {W : World} {v : Value} {l : List Nd} (h : Nodes n₀ W v l) (q : Nat) : Nodes n₀ (W.drewN q) v l := h
theorem Nodes.shape {n₀ : Nat} {W : World} {v : Value} {l : List Nd} (h : Nodes n₀ W v l) : ∃ a cap, v = .slice a l.length cap := by
  obtain ⟨r, h1, h2⟩ := h
  rw [← h2.1]
  exact h1.shape
theorem nodes_nil (n₀ : Nat) (W : World) : Nodes n₀ W (.slice none 0 0) [] := ⟨[], .inl ⟨⟨_, _, rfl, fun _ => rfl⟩, rfl⟩, rnsOf_nil _ _⟩
theorem nodes_at {n₀ n cap : Nat} {W : World} {a : Option Addr} {l : List Nd} (h : Nodes n₀ W (.slice a n cap) l) (hl : l.length = n) (h0 : 0 < n) :
    ∃ b off, a = some ⟨b, off, none⟩ ∧ b < n₀ ∧ ∀ (j : Nat) (y : Nd), l[j]? = some y →
      ∃ p, Holds .i64 n₀ W p y.2.2.2 ∧ W.cell? ⟨b, off + j * 4, none⟩ = some (.int .u32 y.1) ∧ W.cell? ⟨b, off + j * 4 + 1, none⟩ = some (.int .i64 y.2.1) ∧ W.cell? ⟨b, off + j * 4 + 2, none⟩ = some (.int .i64 y.2.2.1) ∧ W.cell? ⟨b, off + j * 4 + 3, none⟩ = some p := by
  obtain ⟨r, h1, h2⟩ := h
  obtain ⟨b, off, rfl, hb, hc⟩ := raw_at h1 (h2.1.trans hl) h0
  refine ⟨b, off, rfl, hb, fun j y hy => ?_⟩
  obtain ⟨p, hp, hh⟩ := h2.get hy
  exact ⟨p, hh, hc j _ hp⟩
theorem Nodes.nilOf {n₀ n cap : Nat} {W : World} {l : List Nd} (h : Nodes n₀ W (.slice none n cap) l) : l = [] := by
  obtain ⟨r, h1, h2⟩ := h
  rcases h1 with ⟨_, rfl⟩ | ⟨b, off, c, e, _⟩
  · exact List.length_eq_zero_iff.1 (by rw [← h2.1]; rfl)
  · simp only [Value.slice.injEq] at e; exact absurd e.1 (by simp)

/-- Paths of the call's own, each in a block of its own. -/
def OwnRns (base : Nat) (W : World) (r : List Rn) (l : List Nd) : Prop := r.length = l.length ∧ (∀ (j : Nat) (x : Rn) (y : Nd), r[j]? = some x → l[j]? = some y → x.1 = y.1 ∧ x.2.1 = y.2.1 ∧ x.2.2.1 = y.2.2.1 ∧ W.ownsRow base 3 1 x.2.2.2 y.2.2.2.length (y.2.2.2.map (Value.int .i64))) ∧ r.Pairwise fun x y => x.2.2.2.ownBlock = none ∨ x.2.2.2.ownBlock ≠ y.2.2.2.ownBlock
theorem OwnRns.rns {base : Nat} {W : World} {r : List Rn} {l : List Nd} (h : OwnRns base W r l) : RnsOf W.heap.size W r l := ⟨h.1, fun j x y hx hy => by obtain ⟨h1, h2, h3, h4⟩ := h.2.1 j x y hx hy; exact ⟨h1, h2, h3, holds_of_row h4⟩⟩
theorem OwnRns.below {base n₀ : Nat} {W W' : World} {r : List Rn} {l : List Nd} (h : OwnRns base W r l) (hb : Below n₀ W W') (hn : W.heap.size ≤ n₀) : OwnRns base W' r l := ⟨h.1, fun j x y hx hy => by obtain ⟨h1, h2, h3, h4⟩ := h.2.1 j x y hx hy; exact ⟨h1, h2, h3, rowN_below h4 hb hn⟩, h.2.2⟩
theorem ownRns_nil (base : Nat) (W : World) : OwnRns base W [] [] := ⟨rfl, fun j x y h => by simp at h, List.Pairwise.nil⟩
theorem OwnRns.kept {base base' n : Nat} {W W' : World} {r : List Rn} {l : List Nd} {v : Value} {xs : List Value} (h : OwnRns base W r l) (hv : W.ownsRow base' 34 4 v n xs) (hg : W.grownBy W' v.ownBlock) : OwnRns base W' r l :=
  ⟨h.1, fun j x y hx hy => by obtain ⟨h1, h2, h3, h4⟩ := h.2.1 j x y hx hy; exact ⟨h1, h2, h3, h4.kept hg (rows_unlike h4 hv (by decide))⟩, h.2.2⟩
theorem OwnRns.snoc {base m : Nat} {W : World} {r : List Rn} {l : List Nd} (h : OwnRns base W r l) {x : Rn} {y : Nd} (e1 : x.1 = y.1) (e2 : x.2.1 = y.2.1) (e3 : x.2.2.1 = y.2.2.1) (hx : W.ownsRow m 3 1 x.2.2.2 y.2.2.2.length (y.2.2.2.map (Value.int .i64))) (hm : base ≤ m)
    (hlt : ∀ u ∈ r, ∀ g, u.2.2.2.ownBlock = some g → g < m) : OwnRns base W (r ++ [x]) (l ++ [y]) := by
  refine ⟨by simp [h.1], fun j u v hu hv => ?_, List.pairwise_append.2 ⟨h.2.2, List.pairwise_singleton _ _, fun u hu v hv => ?_⟩⟩
  · by_cases hj : j < r.length
    · rw [List.getElem?_append_left hj] at hu
      rw [List.getElem?_append_left (by rw [← h.1]; exact hj)] at hv
      exact h.2.1 j u v hu hv
    · rw [List.getElem?_append_right (by omega)] at hu
      rw [List.getElem?_append_right (by rw [← h.1]; omega), ← h.1] at hv
      have h0 : j - r.length = 0 := by have := (List.getElem?_eq_some_iff.1 hu).1; simp at this; omega
      rw [h0] at hu hv
      simp at hu hv
      subst hu hv
      exact ⟨e1, e2, e3, rowN_base hx hm⟩
  · simp at hv
    subst hv
    cases ho : u.2.2.2.ownBlock with
    | none => exact .inl rfl
    | some g =>
      refine .inr fun hc => ?_
      have := hlt u hu g ho
      have := (hx.lt g hc.symm).1
      omega
theorem OwnRns.lt {base : Nat} {W : World} {r : List Rn} {l : List Nd} (h : OwnRns base W r l) : ∀ u ∈ r, ∀ g, u.2.2.2.ownBlock = some g → g < W.heap.size := by
  intro u hu g hg
  obtain ⟨j, hj, e⟩ := List.getElem_of_mem hu
  have hjl : j < l.length := by rw [← h.1]; exact hj
  obtain ⟨_, _, _, h4⟩ := h.2.1 j u (l[j]) (by rw [← e]; simp) (by simp)
  exact (h4.lt g hg).2

/-- A list of nodes of the call's own, its paths with it. -/
def OwnNodes (base : Nat) (W : World) (v : Value) (l : List Nd) : Prop := ∃ r, W.ownsRow base 34 4 v l.length (rnCells r) ∧ OwnRns base W r l
theorem OwnNodes.nodes {base : Nat} {W : World} {v : Value} {l : List Nd} (h : OwnNodes base W v l) : Nodes W.heap.size W v l := by obtain ⟨r, h1, h2⟩ := h; exact ⟨r, raw_of_row h1, h2.rns⟩
theorem OwnNodes.next {base : Nat} {W W' : World} {v : Value} {l : List Nd} (h : OwnNodes base W v l) (hb : Below W.heap.size W W') : OwnNodes base W' v l := by obtain ⟨r, h1, h2⟩ := h; exact ⟨r, rowN_below h1 hb (Nat.le_refl _), h2.below hb (Nat.le_refl _)⟩
theorem OwnNodes.cap {base n cap : Nat} {W : World} {a : Option Addr} {l : List Nd} (h : OwnNodes base W (.slice a n cap) l) : n ≤ cap := by
  obtain ⟨r, h1, h2⟩ := h
  rcases h1.2 with ⟨e, _⟩ | ⟨g, c, cur, e, _, _, hk, _⟩
  · cases e; exact Nat.le_refl _
  · cases e; exact hk

/-- Numbers that may be. -/
def NodesIn (l : List Nd) : Prop := ∀ x ∈ l, (0 ≤ x.1 ∧ x.1 ≤ 4294967295) ∧ I64 x.2.1 ∧ I64 x.2.2.1 ∧ x.2.2.2.length ≤ maxLen
/-- What the row's step is told of a slice of nodes that came in. -/
def IsNodes (w : World) (a : Option Addr) (len cap : Nat) (l : List Nd) : Prop := l.length = len ∧ len ≤ cap ∧ cap ≤ maxLen ∧ Nodes w.heap.size w (.slice a len cap) l ∧ NodesIn l

theorem cellsNode : Tryd.prog.cellsOf 34 = 4 := by kernel_rfl
theorem cellsU32 : Tryd.prog.cellsOf 32 = 1 := by kernel_rfl
theorem cellsIntN : Tryd.prog.cellsOf 3 = 1 := by kernel_rfl
theorem cellsInts : Tryd.prog.cellsOf 25 = 1 := by kernel_rfl

/-- A slice of nodes that came in, opened. -/
theorem isNodes_of_trod {H : Type} {enc : TypeId × Value → H} {w : World} {base : Nat} {held : Bool} {fuel : Nat} {a : Option Addr} {len cap : Nat} {x : DataW H × List MemPlace}
    (h : DataW.trod enc Tryd.prog w base (fun _ => true) held fuel 41 [.slice a len cap] = some x) : ∃ l, IsNodes w a len cap l := by
  rcases Go.Deep.open_slice Tryd.underlying41 h with ⟨hcs, _⟩ | ⟨ad, len', cap', m, n, D, Pl, hcs, _, hl, hc, hm, _, hx⟩
  · simp at hcs
    obtain ⟨rfl, rfl, rfl⟩ := hcs
    exact ⟨[], rfl, Nat.le_refl _, by unfold maxLen; omega, nodes_nil _ _, fun x hx => by simp at hx⟩
  · simp at hcs
    obtain ⟨rfl, rfl, rfl⟩ := hcs
    have hlm : len ≤ m := by rw [hm]; split <;> omega
    have each : ∀ i, i < len → ∃ q : Rn × List Int, w.cell? (ad.add (i * 4)) = some (.int .u32 q.1.1) ∧ w.cell? (ad.add (i * 4 + 1)) = some (.int .i64 q.1.2.1) ∧ w.cell? (ad.add (i * 4 + 2)) = some (.int .i64 q.1.2.2.1) ∧ w.cell? (ad.add (i * 4 + 3)) = some q.1.2.2.2 ∧
        Holds .i64 w.heap.size w q.1.2.2.2 q.2 ∧ (0 ≤ q.1.1 ∧ q.1.1 ≤ 4294967295) ∧ I64 q.1.2.1 ∧ I64 q.1.2.2.1 ∧ q.2.length ≤ maxLen := by
      intro i hi
      obtain ⟨cs', h1, h2⟩ := hx i (by omega)
      rw [cellsNode] at h1
      obtain ⟨_, hlen, hcell⟩ := World.cells?_some h1
      match cs', hlen with
      | [v0, v1, v2, v3], _ =>
        obtain ⟨y0, y1, y2, y3, k, _, _, t0, t1, t2, t3⟩ := Go.Joins.trod_struct4 Tryd.underlying34 h2
        simp only [cellsU32, cellsIntN, cellsInts] at t0 t1 t2 t3
        obtain ⟨z0, e0, _, w0⟩ := DataW.trod_int Tryd.underlying32 t0
        obtain ⟨z1, e1, _, w1⟩ := DataW.trod_int Tryd.underlying3 t1
        obtain ⟨z2, e2, _, w2⟩ := DataW.trod_int Tryd.underlying3 t2
        simp at e0 e1 e2
        have c0 := hcell 0 (by omega)
        have c1 := hcell 1 (by omega)
        have c2 := hcell 2 (by omega)
        have c3 := hcell 3 (by omega)
        rw [Go.Deep.add_add] at c0 c1 c2 c3
        simp at c0 c1 c2 c3
        have t3' : DataW.trod enc Tryd.prog w base (fun _ => true) held k 25 [v3] = some y3 := by simpa using t3
        obtain ⟨ys, hH, hys⟩ : ∃ ys, Holds .i64 w.heap.size w v3 ys ∧ ys.length ≤ maxLen := by
          rcases Go.ChangeShapes.open_ints Tryd.underlying25 Tryd.underlying3 cellsIntN t3' with ⟨hcs, _⟩ | ⟨x3, l3, c3', zs, hcs, _, hl3, hm3, hz, _, hcell3, hwz⟩
          · simp at hcs
            subst hcs
            exact ⟨[], .inl ⟨⟨_, _, rfl, fun _ => rfl⟩, rfl⟩, by simp⟩
          · simp at hcs
            subst hcs
            obtain ⟨ys, e, hy, _⟩ := holds_of_isRow (kd := .i64) (w := w) (a := some x3) (len := l3) (cap := c3') (zs := zs) (.inr ⟨x3, rfl, hl3, hm3, by simpa using hz, hcell3, hwz⟩)
            exact ⟨ys, hy, by omega⟩
        exact ⟨((z0, z1, z2, v3), ys), by rw [c0, e0], by rw [c1, e1], by rw [c2, e2], c3, hH, bounds_u32 w0, bounds_i64 w1, bounds_i64 w2, hys⟩
    by_cases h0 : len = 0
    · subst h0
      exact ⟨[], rfl, hl, hc, ⟨[], .inl ⟨⟨_, _, rfl, fun e => by cases e⟩, rfl⟩, rnsOf_nil _ _⟩, fun x hx => by simp at hx⟩
    · haveI : Inhabited (Rn × List Int) := ⟨((0, 0, 0, .bool false), [])⟩
      obtain ⟨q, hq⟩ := Go.Deep.choose_lt each
      obtain ⟨b, off, spot⟩ := ad
      have hspot : spot = none := by
        have := (hq 0 (by omega)).1
        simpa [Addr.add] using World.cell?_spot this
      subst hspot
      let l : List Nd := (List.range len).map fun i => ((q i).1.1, (q i).1.2.1, (q i).1.2.2.1, (q i).2)
      have hlen : l.length = len := by simp [l]
      have hlen' : ((List.range len).map fun i => (q i).1).length = len := by simp
      refine ⟨l, hlen, hl, hc, ⟨(List.range len).map fun i => (q i).1, .inr ⟨b, off, cap, by rw [hlen'], ?_, fun j x hj => ?_⟩, by rw [hlen, hlen'], fun j x y hj hy => ?_⟩, fun x hx => ?_⟩
      · have := symAt_lt (hq 0 (by omega)).1
        rwa [Go.WideShapes.add_plain] at this
      · have hjl : j < len := by have := (List.getElem?_eq_some_iff.1 hj).1; rwa [hlen'] at this
        have e : x = (q j).1 := by
          rw [List.getElem?_map, List.getElem?_range hjl] at hj
          simpa using hj.symm
        subst e
        have h2 := hq j hjl
        rw [Go.WideShapes.add_plain, Go.WideShapes.add_plain, Go.WideShapes.add_plain, Go.WideShapes.add_plain] at h2
        exact ⟨h2.1, by rw [Nat.add_assoc]; exact h2.2.1, by rw [Nat.add_assoc]; exact h2.2.2.1, by rw [Nat.add_assoc]; exact h2.2.2.2.1⟩
      · have hjl : j < len := by have := (List.getElem?_eq_some_iff.1 hj).1; rwa [hlen'] at this
        rw [List.getElem?_map, List.getElem?_range hjl] at hj hy
        simp at hj hy
        subst hj hy
        exact ⟨rfl, rfl, rfl, (hq j hjl).2.2.2.2.1⟩
      · obtain ⟨j, hj, rfl⟩ := List.mem_map.1 hx
        have := hq j (by simpa using hj)
        exact ⟨this.2.2.2.2.2.1, this.2.2.2.2.2.2.1, this.2.2.2.2.2.2.2.1, this.2.2.2.2.2.2.2.2⟩

end Go.Proofs.YtdnhnnidlangiabDoor
