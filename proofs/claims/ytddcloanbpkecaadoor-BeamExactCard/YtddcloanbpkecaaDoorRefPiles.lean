/-
  What the page's Piles answers: the symbols of each segment.
-/
import Derived.Test.YtddcloanbpkecaaDoorSegMem
import Derived.Test.YtddcloanbpkecaaDoorRefOf
namespace Go.Proofs.YtddcloanbpkecaaDoor
open Go.RowKit

/-- The symbols of each segment. -/
def segsL (N : Nat) (l : List (Int × Int)) : List (List (Int × Int)) := (List.range N).map (ofL N l)
theorem segsL_len (N : Nat) (l : List (Int × Int)) : (segsL N l).length = N := by simp [segsL]
theorem segsL_get {N : Nat} {l : List (Int × Int)} {j : Nat} (h : j < N) : (segsL N l)[j]? = some (ofL N l j) := by
  unfold segsL
  rw [List.getElem?_map, List.getElem?_range h]
  rfl

set_option maxRecDepth 100000 in
set_option maxHeartbeats 4000000 in
theorem refPiles_any (N : Nat) (p : Int) (a : Option Addr) (cap : Nat) (l : List (Int × Int)) (hp : PileOk (N : Int) p l) (w : World) (ha : Syms w.heap.size w (.slice a l.length cap) l) :
    Calls Tryd.prog 35 #[.agg #[.int .i64 N, .int .i64 p, .slice a l.length cap]] w fun e W' => ∃ r, e = .returned r ∧ Segs W'.heap.size W' r (segsL N l) ∧ Below w.heap.size w W' := by
  have hN1 : 1 ≤ N := by have := hp.1.1; omega
  have hN2 : N < 65 := by have := hp.1.2.1; omega
  have HP : Hid (PileOk (N : Int) p l) := hp
  have xB := Box.new w 24 #[.int .i64 N, .int .i64 p, .slice a l.length cap]
  have b0 : Below w.heap.size w (w.alloc (.cells #[.int .i64 N, .int .i64 p, .slice a l.length cap] 24)) := (Below.refl _ _).alloc (Nat.le_refl _) _
  have HA : Hid (Syms w.heap.size w (.slice a l.length cap) l) := ha
  clear hp ha
  go_enter Tryd.func35, Tryd.ntmps35
  go_wp2
  obtain ⟨W0, hW0⟩ : ∃ W, w.alloc (.cells #[.int .i64 N, .int .i64 p, .slice a l.length cap] 24) = W := ⟨_, rfl⟩
  rw [hW0] at xB b0 ⊢
  clear hW0
  have hlB := xB.lt
  go_loopw [3, 4] (fun s3 s4 wr => ∃ (k : Nat) (vs : List Value), k ≤ N ∧ s4 = .int .i64 k ∧ wr.ownsRow W0.heap.size 22 1 s3 k vs ∧ (∀ (j : Nat) (q : Value), vs[j]? = some q → ∃ m, wr.ownsRow W0.heap.size 72 2 q m (symCells (ofL N l j))) ∧ Below W0.heap.size W0 wr) (fun _ i _ => N - (intOf i).toNat)
  case atStart => exact ⟨0, [], Nat.zero_le _, rfl, World.ownsRow_nil _ _ _ _, fun j q h => by simp at h, Below.refl _ _⟩
  case round =>
    obtain ⟨k, vs, hk, rfl, ho, hq, bw⟩ := hrel
    have hsz := bw.size
    have xr := xB.next bw
    have c0 := xr.cell 0 _ rfl
    have c1 := xr.cell 1 _ rfl
    have c2 := xr.cell 2 _ rfl
    by_cases hlt : k < N
    · have hvl : vs.length = k := by have := ho.1; omega
      have HC := refOf_in N p k a cap l HP.out wr (HA.out.next (b0.trans (bw.mono b0.size)))
      have HVL : Hid (vs.length = k) := hvl
      clear hvl
      go_wp2_with fail
      refine HC.mono ?_
      rintro e w2 ⟨r, rfl, o2, b2⟩
      clear HC
      have hsv : SliceV r := by obtain ⟨a2, c2, e2⟩ := (syms_of_row o2).shape; exact ⟨_, _, _, e2⟩
      obtain ⟨a2, n2, c2', rfl⟩ := hsv
      have ho2 := rowN_below ho b2 (Nat.le_refl _)
      obtain ⟨v4, w4, hr4, ho4, hg4⟩ := run_append_seg _ k W0.heap.size vs (.slice a2 n2 c2') ⟨_, _, _, rfl⟩ 56 w2 ho2 (Nat.le_trans hsz b2.size) (by omega)
      have b4 : Below W0.heap.size W0 w4 := ((bw.trans (b2.mono hsz)).alloc (Nat.le_trans hsz b2.size) _).grown hg4 (by have := b2.size; simp only [World.size_alloc]; omega) (fun z e => (ho2.lt z e).1)
      have HQ4 : Hid (∀ (j : Nat) (q : Value), (vs ++ [.slice a2 n2 c2'])[j]? = some q → ∃ m, w4.ownsRow W0.heap.size 72 2 q m (symCells (ofL N l j))) := by
        intro j q hjq
        by_cases hj : j < vs.length
        · rw [List.getElem?_append_left hj] at hjq
          obtain ⟨m, hm⟩ := hq j q hjq
          have h1 := (rowN_below hm b2 (Nat.le_refl _)).alloc (.cells #[.slice a2 n2 c2'] 22)
          exact ⟨m, h1.kept hg4 (rows_unlike h1 (ho2.alloc _) (by decide))⟩
        · rw [List.getElem?_append_right (by omega)] at hjq
          have h0 : j - vs.length = 0 := by have := (List.getElem?_eq_some_iff.1 hjq).1; simp at this; omega
          have ej : j = k := by rw [← HVL.out]; omega
          rw [h0] at hjq
          simp at hjq
          subst hjq
          have h1 := (rowN_base o2 hsz).alloc (.cells #[.slice a2 n2 c2'] 22)
          rw [ej]
          exact ⟨_, h1.kept hg4 (rows_unlike h1 (ho2.alloc _) (by decide))⟩
      have HR : Hid _ := hr4
      clear hr4 ho2 o2 b2 hg4 hq ho c0 c1 c2
      go_wp2_with (at_builtin; refine wpList_append_known rfl _ _ 56 rfl _ _ rfl rfl _ _ HR.out ?_)
      exact ⟨⟨k + 1, _, by omega, by go_num, ho4, HQ4.out, b4⟩, by simp [intOf]; omega⟩
    · obtain rfl : k = N := by omega
      go_wp2
      go_ret
      refine ⟨_, rfl, segs_of_row ho (segsL_len _ _) (by omega) (fun j q l' hjq hl' => ?_), b0.trans (bw.mono b0.size)⟩
      have hj : j < k := by have := (List.getElem?_eq_some_iff.1 hl').1; rwa [segsL_len] at this
      rw [segsL_get hj] at hl'
      cases hl'
      obtain ⟨m, hm⟩ := hq j q hjq
      exact syms_of_row hm

end Go.Proofs.YtddcloanbpkecaaDoor
