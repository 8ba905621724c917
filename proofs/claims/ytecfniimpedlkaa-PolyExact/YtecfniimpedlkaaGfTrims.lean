/-
  What gf2.Trim and gf2.Add answer of rows that are not too long.
-/
import Derived.Test.YtecfniimpedlkaaGfCheck
import Derived.Test.YtecfniimpedlkaaGfAdd
namespace Go.Proofs.Ytecfniimpedlkaa
open Go.RowKit

/-- A slice that holds a row, with room for it, in the world as it is. -/
def Has (W : World) (v : Value) (zs : List Int) : Prop := Holds .i64 W.heap.size W v zs ∧ Room v

theorem Has.next {W W' : World} {v : Value} {zs : List Int} (h : Has W v zs) (hb : Below W.heap.size W W') : Has W' v zs := ⟨h.1.next hb, h.2⟩
theorem Has.drewN {W : World} {v : Value} {zs : List Int} (h : Has W v zs) (n : Nat) : Has (W.drewN n) v zs := h

theorem Row.has {W : World} {g : Nat} {zs : List Int} (h : Row W g zs) (hl : zs.length ≤ 4294967296) : Has W (.slice (some ⟨g, 0, none⟩) zs.length zs.length) zs := ⟨h.holds h.lt _, _, _, _, rfl, Nat.le_refl _, by omega⟩

/-- The rows that check is handed: one. -/
theorem rowsAt_one {w : World} {v : Value} {zs : List Int} (h : Has w v zs) (hl : zs.length ≤ 32768) : RowsAt (w.alloc (.cells #[v] 22)) w.heap.size w.heap.size [v] [zs] := by
  refine ⟨rfl, fun j u hu => ?_, fun j u ys hu hy => ?_, fun ys hy => ?_⟩
  · obtain rfl : j = 0 := by have := (List.getElem?_eq_some_iff.1 hu).1; simp at this; omega
    cases hu
    simp [go_sem]
  · obtain rfl : j = 0 := by have := (List.getElem?_eq_some_iff.1 hu).1; simp at this; omega
    cases hu
    cases hy
    exact h.1.below ((Below.refl _ w).alloc (Nat.le_refl _) _)
  · simp at hy; subst hy; exact hl

/-- .. two. -/
theorem rowsAt_two {w : World} {v v' : Value} {zs zs' : List Int} (h : Has w v zs) (h' : Has w v' zs') (hl : zs.length ≤ 32768) (hl' : zs'.length ≤ 32768) : RowsAt (w.alloc (.cells #[v, v'] 22)) w.heap.size w.heap.size [v, v'] [zs, zs'] := by
  refine ⟨rfl, fun j u hu => ?_, fun j u ys hu hy => ?_, fun ys hy => ?_⟩
  · have hj : j < 2 := (List.getElem?_eq_some_iff.1 hu).1
    match j, hj with
    | 0, _ => cases hu; simp [go_sem]
    | 1, _ => cases hu; simp [go_sem]
  · have hj : j < 2 := (List.getElem?_eq_some_iff.1 hu).1
    match j, hj with
    | 0, _ => cases hu; cases hy; exact h.1.below ((Below.refl _ w).alloc (Nat.le_refl _) _)
    | 1, _ => cases hu; cases hy; exact h'.1.below ((Below.refl _ w).alloc (Nat.le_refl _) _)
  · simp at hy; exact hy.elim (fun e => e ▸ hl) (fun e => e ▸ hl')

set_option maxRecDepth 100000 in
set_option maxHeartbeats 2000000 in
theorem trim_arg (v : Value) (zs : List Int) (hl : zs.length ≤ 32768) (hb : ¬ Bin zs) (w : World) (hH : Has w v zs) :
    Calls Try.prog 10 #[v] w fun e W' => e = .returned (.tuple #[.slice none 0 0, .int .i64 1]) ∧ Below w.heap.size w W' := by
  obtain ⟨a, cap, rfl⟩ := hH.1.shape
  have HR := rowsAt_one hH hl
  have b0 : Below w.heap.size w (w.alloc (.cells #[.slice a zs.length cap] 22)) := (Below.refl _ w).alloc (Nat.le_refl _) _
  clear hH
  go_enter Try.func10, Try.ntmps10
  go_wp2_with fail
  refine (check_any w.heap.size w.heap.size 1 [_] [zs] rfl (by omega) _ HR).mono ?_
  rintro e w' ⟨⟨r, rfl, hr⟩, q, rfl⟩
  have b1 := below_drewN b0 q
  obtain rfl : r = 1 := by
    rcases hr with ⟨_, h⟩ | ⟨h, _⟩
    · exact absurd (h zs (by simp)) hb
    · exact h
  clear HR hr b0
  go_wp2
  go_ret2
  exact ⟨rfl, b1⟩

set_option maxRecDepth 100000 in
set_option maxHeartbeats 2000000 in
theorem trim_ok (v : Value) (zs : List Int) (hl : zs.length ≤ 32768) (hb : Bin zs) (w : World) (hH : Has w v zs) :
    Calls Try.prog 10 #[v] w fun e W' => ∃ r ys, e = .returned (.tuple #[r, .int .i64 0]) ∧ Has W' r ys ∧ Tr ys ∧ val ys = val zs ∧ Below w.heap.size w W' := by
  obtain ⟨a, cap, rfl⟩ := hH.1.shape
  have HR := rowsAt_one hH hl
  have b0 : Below w.heap.size w (w.alloc (.cells #[.slice a zs.length cap] 22)) := (Below.refl _ w).alloc (Nat.le_refl _) _
  go_enter Try.func10, Try.ntmps10
  go_wp2_with fail
  refine (check_any w.heap.size w.heap.size 1 [_] [zs] rfl (by omega) _ HR).mono ?_
  rintro e w' ⟨⟨r, rfl, hr⟩, q, rfl⟩
  have b1 := below_drewN b0 q
  obtain rfl : r = 0 := by
    rcases hr with ⟨h, _⟩ | ⟨_, h⟩
    · exact h
    · exact absurd (fun ys hy => by simp at hy; subst hy; exact hb) h
  have h1 := hH.next b1
  obtain ⟨w1, hw1⟩ : ∃ w1, (w.alloc (.cells #[.slice a zs.length cap] 22)).drewN q = w1 := ⟨_, rfl⟩
  rw [hw1] at b1 h1 ⊢
  clear HR hr b0 hH hw1
  go_wp2_with fail
  refine (trimmed_bin _ zs _ (by omega) w1 h1.1 h1.2 hb).mono ?_
  rintro e w' ⟨⟨r, ys, rfl, h2, h3, h4, h5, h6⟩, q, rfl⟩
  go_wp2_with fail
  refine (own_any r ys _ (by omega) _ h2 (Nat.le_refl _)).mono ?_
  rintro e w2 ⟨rfl, hrow, b2⟩
  have b3 : Below w.heap.size w w2 := (below_drewN b1 q).trans (b2.mono b1.size)
  clear h1 h2 h3 b1 b2
  go_wp2
  go_ret2
  exact ⟨_, ys, rfl, hrow.has (by omega), h4, h5, b3⟩

end Go.Proofs.Ytecfniimpedlkaa
