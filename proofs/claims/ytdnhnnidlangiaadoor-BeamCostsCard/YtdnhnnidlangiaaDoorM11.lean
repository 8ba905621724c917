/-
  Lists of lists of symbols in memory. No function of the program is spoken of.
-/
import Derived.Test.YtdnhnnidlangiaaDoorM06
import Derived.Test.YtdnhnnidlangiaaDoorM07
import Derived.Test.YtdnhnnidlangiaaDoorM10
namespace Go.Proofs.YtdnhnnidlangiaaDoor
open Go.RowKit

/-- The slice v holds lists of symbols, each in blocks below n₀. -/
def Segs (n₀ : Nat) (W : World) (v : Value) (S : List (List (Int × Int))) : Prop := ∃ (b off cap : Nat) (vs : List Value), v = .slice (some ⟨b, off, none⟩) S.length cap ∧ b < n₀ ∧ vs.length = S.length ∧ (∀ (j : Nat) (q : Value), vs[j]? = some q → W.cell? ⟨b, off + j, none⟩ = some q) ∧ ∀ (j : Nat) (q : Value) (l : List (Int × Int)), vs[j]? = some q → S[j]? = some l → Syms n₀ W q l
theorem Segs.below {n₀ : Nat} {W W' : World} {v : Value} {S : List (List (Int × Int))} (h : Segs n₀ W v S) (hb : Below n₀ W W') : Segs n₀ W' v S := by
  obtain ⟨b, off, cap, vs, h1, h2, h3, h4, h5⟩ := h
  exact ⟨b, off, cap, vs, h1, h2, h3, fun j q hq => (hb.cell (p := ⟨b, off + j, none⟩) h2).trans (h4 j q hq), fun j q l hq hl => (h5 j q l hq hl).below hb⟩
theorem Segs.mono {n₀ n₁ : Nat} {W : World} {v : Value} {S : List (List (Int × Int))} (h : Segs n₀ W v S) (hn : n₀ ≤ n₁) : Segs n₁ W v S := by
  obtain ⟨b, off, cap, vs, h1, h2, h3, h4, h5⟩ := h
  exact ⟨b, off, cap, vs, h1, by omega, h3, h4, fun j q l hq hl => (h5 j q l hq hl).mono hn⟩
theorem Segs.next {W W' : World} {v : Value} {S : List (List (Int × Int))} (h : Segs W.heap.size W v S) (hb : Below W.heap.size W W') : Segs W'.heap.size W' v S := (h.below hb).mono hb.size
theorem Segs.shape {n₀ : Nat} {W : World} {v : Value} {S : List (List (Int × Int))} (h : Segs n₀ W v S) : ∃ b off cap, v = .slice (some ⟨b, off, none⟩) S.length cap ∧ b < n₀ := by
  obtain ⟨b, off, cap, vs, h1, h2, _⟩ := h
  exact ⟨b, off, cap, h1, h2⟩
theorem segs_at {n₀ b off n cap : Nat} {W : World} {S : List (List (Int × Int))} (h : Segs n₀ W (.slice (some ⟨b, off, none⟩) n cap) S) {j : Nat} {l : List (Int × Int)} (hl : S[j]? = some l) : ∃ a c, W.cell? ⟨b, off + j, none⟩ = some (.slice a l.length c) ∧ Syms n₀ W (.slice a l.length c) l := by
  obtain ⟨b', off', cap', vs, h1, h2, h3, h4, h5⟩ := h
  cases h1
  have hj : j < vs.length := by rw [h3]; exact (List.getElem?_eq_some_iff.1 hl).1
  obtain ⟨q, hq⟩ : ∃ q, vs[j]? = some q := ⟨vs[j], by simp⟩
  have hs := h5 j q l hq hl
  obtain ⟨a, c, e⟩ := hs.shape
  have hc := h4 j q hq
  rw [e] at hc hs
  exact ⟨a, c, hc, hs⟩

theorem infoSegs : (Tryd.prog.info? 22).map (fun i => (i.zero, i.size, i.bytes)) = some (some (.slice none 0 0), 1, 24) := by kernel_rfl

/-- append of one list, its run. -/
theorem run_append_seg (v : Value) (n base : Nat) (vs : List Value) (x : Value) (hx : SliceV x) (ty : TypeId) (w : World) (hown : w.ownsRow base 22 1 v n vs) (hb : base ≤ w.heap.size) (h1 : n ≤ 1048576) :
    ∃ v' w', (Builtin.append_ #[72, 72] ty #[v, .slice (some ⟨w.heap.size, 0, none⟩) 1 1]).run Tryd.prog (w.alloc (.cells #[x] 22)) = .ok v' w' ∧ w'.ownsRow base 22 1 v' (n + 1) (vs ++ [x]) ∧ (w.alloc (.cells #[x] 22)).grownBy w' v.ownBlock := by
  obtain ⟨i0, hi, hz0, hz1, hz2⟩ := info_parts infoSegs
  obtain ⟨a, m, c, rfl⟩ := hx
  obtain ⟨v', w', hr, ho, hg, _⟩ := run_append_own (P := Tryd.prog) (w.alloc (.cells #[.slice a m c] 22)) base 72 ty 22 i0 (.slice none 0 0) 1 24 Tryd.underlying72 hi hz0 hz1 hz2 rfl (by decide) v n _ (hown.alloc _) ⟨w.heap.size, 0, none⟩ 1 1 [.slice a m c] rfl (World.news_of_block (World.alloc_heap_new _ _)) (by simp [Value.oneCell']) (by unfold maxLen; omega) (by omega) (by simp; omega)
  exact ⟨v', w', hr, ho, hg⟩

/-- A row of lists of the call's own is held. -/
theorem segs_of_row {W : World} {base k : Nat} {v : Value} {vs : List Value} {S : List (List (Int × Int))} (h : W.ownsRow base 22 1 v k vs) (hk : S.length = k) (h0 : 0 < k) (hS : ∀ (j : Nat) (q : Value) (l : List (Int × Int)), vs[j]? = some q → S[j]? = some l → Syms W.heap.size W q l) : Segs W.heap.size W v S := by
  have hl : vs.length = k := by have := h.1; omega
  rcases h.2 with ⟨rfl, rfl⟩ | ⟨g, cap, cur, rfl, hb, hg, hkc, _, hs, ht⟩
  · omega
  · refine ⟨g, 0, cap, vs, by rw [hk], (Array.getElem?_eq_some_iff.1 hg).1, by rw [hl, hk], fun j q hq => ?_, hS⟩
    have := h.cells (g := g) rfl j q hq
    rw [Addr.add_lit] at this
    exact this

end Go.Proofs.YtdnhnnidlangiaaDoor

/-
  What the page's Piles answers: the symbols of each segment.
-/
namespace Go.Proofs.YtdnhnnidlangiaaDoor
open Go.RowKit

/-- The symbols of each segment. -/
def segsL (N : Nat) (l : List (Int × Int)) : List (List (Int × Int)) := (List.range N).map (ofL N l)
theorem segsL_len (N : Nat) (l : List (Int × Int)) : (segsL N l).length = N := by simp [segsL]
theorem segsL_get {N : Nat} {l : List (Int × Int)} {j : Nat} (h : j < N) : (segsL N l)[j]? = some (ofL N l j) := by
  unfold segsL
  rw [List.getElem?_map, List.getElem?_range h]
  rfl

set_option maxRecDepth 100000 in
set_option maxHeartbeats 4000000 in
theorem refPiles_any (N : Nat) (p : Int) (a : Option Addr) (cap : Nat) (l : List (Int × Int)) (hp : PileOk (N : Int) p l) (w : World) (ha : Syms w.heap.size w (.slice a l.length cap) l) :
    Calls Tryd.prog 45 #[.agg #[.int .i64 N, .int .i64 p, .slice a l.length cap]] w fun e W' => ∃ r, e = .returned r ∧ Segs W'.heap.size W' r (segsL N l) ∧ Below w.heap.size w W' := by
  have hN1 : 1 ≤ N := by have := hp.1.1; omega
  have hN2 : N < 65 := by have := hp.1.2.1; omega
  have HP : Hid (PileOk (N : Int) p l) := hp
  have xB := Box.new w 24 #[.int .i64 N, .int .i64 p, .slice a l.length cap]
  have b0 : Below w.heap.size w (w.alloc (.cells #[.int .i64 N, .int .i64 p, .slice a l.length cap] 24)) := (Below.refl _ _).alloc (Nat.le_refl _) _
  have HA : Hid (Syms w.heap.size w (.slice a l.length cap) l) := ha
  clear hp ha
  go_enter Tryd.func45, Tryd.ntmps45
  go_wp2
  obtain ⟨W0, hW0⟩ : ∃ W, w.alloc (.cells #[.int .i64 N, .int .i64 p, .slice a l.length cap] 24) = W := ⟨_, rfl⟩
  rw [hW0] at xB b0 ⊢
  clear hW0
  have hlB := xB.lt
  go_loopw [3, 4] (fun s3 s4 wr => ∃ (k : Nat) (vs : List Value), k ≤ N ∧ s4 = .int .i64 k ∧ wr.ownsRow W0.heap.size 22 1 s3 k vs ∧ (∀ (j : Nat) (q : Value), vs[j]? = some q → ∃ m, wr.ownsRow W0.heap.size 88 2 q m (symCells (ofL N l j))) ∧ Below W0.heap.size W0 wr) (fun _ i _ => N - (intOf i).toNat)
  case atStart => exact ⟨0, [], Nat.zero_le _, rfl, World.ownsRow_nil _ _ _ _, fun j q h => by simp at h, Below.refl _ _⟩
  case round =>
    obtain ⟨k, vs, hk, rfl, ho, hq, bw⟩ := hrel
    have hsz := bw.size
    have xr := xB.next bw
    have c0 := xr.cell 0 _ rfl
    have c1 := xr.cell 1 _ rfl
    have c2 := xr.cell 2 _ rfl
    by_cases hlt : k < N
    · have hvl : vs.length = k := by have := ho.1; omega
      have HC := refOf_in N p k a cap l HP.out wr (HA.out.next (b0.trans (bw.mono b0.size)))
      have HVL : Hid (vs.length = k) := hvl
      clear hvl
      go_wp2_with fail
      refine HC.mono ?_
      rintro e w2 ⟨r, rfl, o2, b2⟩
      clear HC
      have hsv : SliceV r := by obtain ⟨a2, c2, e2⟩ := (syms_of_row o2).shape; exact ⟨_, _, _, e2⟩
      obtain ⟨a2, n2, c2', rfl⟩ := hsv
      have ho2 := rowN_below ho b2 (Nat.le_refl _)
      obtain ⟨v4, w4, hr4, ho4, hg4⟩ := run_append_seg _ k W0.heap.size vs (.slice a2 n2 c2') ⟨_, _, _, rfl⟩ 72 w2 ho2 (Nat.le_trans hsz b2.size) (by omega)
      have b4 : Below W0.heap.size W0 w4 := ((bw.trans (b2.mono hsz)).alloc (Nat.le_trans hsz b2.size) _).grown hg4 (by have := b2.size; simp only [World.size_alloc]; omega) (fun z e => (ho2.lt z e).1)
      have HQ4 : Hid (∀ (j : Nat) (q : Value), (vs ++ [.slice a2 n2 c2'])[j]? = some q → ∃ m, w4.ownsRow W0.heap.size 88 2 q m (symCells (ofL N l j))) := by
        intro j q hjq
        by_cases hj : j < vs.length
        · rw [List.getElem?_append_left hj] at hjq
          obtain ⟨m, hm⟩ := hq j q hjq
          have h1 := (rowN_below hm b2 (Nat.le_refl _)).alloc (.cells #[.slice a2 n2 c2'] 22)
          exact ⟨m, h1.kept hg4 (rows_unlike h1 (ho2.alloc _) (by decide))⟩
        · rw [List.getElem?_append_right (by omega)] at hjq
          have h0 : j - vs.length = 0 := by have := (List.getElem?_eq_some_iff.1 hjq).1; simp at this; omega
          have ej : j = k := by rw [← HVL.out]; omega
          rw [h0] at hjq
          simp at hjq
          subst hjq
          have h1 := (rowN_base o2 hsz).alloc (.cells #[.slice a2 n2 c2'] 22)
          rw [ej]
          exact ⟨_, h1.kept hg4 (rows_unlike h1 (ho2.alloc _) (by decide))⟩
      have HR : Hid _ := hr4
      clear hr4 ho2 o2 b2 hg4 hq ho c0 c1 c2
      go_wp2_with (at_builtin; refine wpList_append_known rfl _ _ 72 rfl _ _ rfl rfl _ _ HR.out ?_)
      exact ⟨⟨k + 1, _, by omega, by go_num, ho4, HQ4.out, b4⟩, by simp [intOf]; omega⟩
    · obtain rfl : k = N := by omega
      go_wp2
      go_ret
      refine ⟨_, rfl, segs_of_row ho (segsL_len _ _) (by omega) (fun j q l' hjq hl' => ?_), b0.trans (bw.mono b0.size)⟩
      have hj : j < k := by have := (List.getElem?_eq_some_iff.1 hl').1; rwa [segsL_len] at this
      rw [segsL_get hj] at hl'
      cases hl'
      obtain ⟨m, hm⟩ := hq j q hjq
      exact syms_of_row hm

end Go.Proofs.YtdnhnnidlangiaaDoor
