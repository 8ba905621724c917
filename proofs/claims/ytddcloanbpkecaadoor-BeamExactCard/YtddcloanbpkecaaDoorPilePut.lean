/-
  What pile.Put answers of a right pile and numbers that may be. (Written by tpl_pileput.py.)
-/
import Derived.Test.YtddcloanbpkecaaDoorPilePutOld
import Derived.Test.YtddcloanbpkecaaDoorPilePut1
import Derived.Test.YtddcloanbpkecaaDoorPilePut2
import Derived.Test.YtddcloanbpkecaaDoorPilePut3
import Derived.Test.YtddcloanbpkecaaDoorPilePut4
import Derived.Deep.RegionWith
namespace Go.Proofs.YtddcloanbpkecaaDoor
open Go.RowKit

theorem Put_in (n p : Int) (k u : Int) (k0 : 0 ≤ k) (hk : k ≤ 9223372036854775807) (u0 : 0 ≤ u) (u1 : u ≤ 255) (a : Option Addr) (cap : Nat) (l : List (Int × Int)) (hp : PileOk n p l) (w : World) (ha : Syms w.heap.size w (.slice a l.length cap) l) (hc : RowCap a l.length cap) :
    Calls Tryd.prog 56 #[.agg #[.int .i64 n, .int .i64 p, .slice a l.length cap], .int .i64 k, .int .i64 u] w fun e W' => ∃ r, e = .returned (.tuple #[.agg #[.int .i64 n, .int .i64 p, r], .bool (freshN n p l k), .int .i64 0]) ∧ W'.ownsRow w.heap.size 72 2 r (putN n p l k u).length (symCells (putN n p l k u)) ∧ Below w.heap.size w W' := by
  have hql := aheadOf_le l k
  obtain ⟨q, hq⟩ : ∃ q, aheadOf l k = q := ⟨_, rfl⟩
  rw [hq] at hql
  cases ht : hasAt l k with
  | true =>
    have h1 : freshN n p l k = false := by unfold freshN; exact decide_eq_false (by simp [ht])
    have h2 : putN n p l k u = l := by unfold putN; rw [if_pos (.inr ht)]
    rw [h1, h2]
    exact Put_stands n p k u k0 hk u0 u1 a cap l q hq ht hp w ha
  | false =>
    by_cases hMk : n * p ≤ k
    · have h1 : freshN n p l k = false := by unfold freshN; exact decide_eq_false (by simp [hMk])
      have h2 : putN n p l k u = l := by unfold putN; rw [if_pos (.inl hMk)]
      rw [h1, h2]
      exact Put_beyond n p k u k0 hk u0 u1 a cap l q hq ht hMk hp w ha
    · have h1 : freshN n p l k = true := by unfold freshN; exact decide_eq_true (by rw [ht]; simp; omega)
      have h2 : putN n p l k u = putL l k u := by unfold putN; rw [if_neg (by rw [ht]; simp; omega)]
      rw [h1, h2, putL_len]
      cases a with
      | none => exact Put_fresh2 n p k u k0 hk u0 u1 cap l q hq ht (by omega) hp w ha
      | some ad =>
        obtain ⟨b, off, spot⟩ := ad
        obtain rfl : spot = none := hc.2 _ rfl
        have hlc := hc.1
        by_cases h3 : q < l.length
        · exact Put_fresh1 n p k u k0 hk u0 u1 b off cap l q hq ht (by omega) h3 (by omega) hp w ha
        · by_cases h4 : q < cap
          · exact Put_fresh3 n p k u k0 hk u0 u1 b off cap l q hq ht (by omega) (by omega) h4 hp w ha
          · exact Put_fresh4 n p k u k0 hk u0 u1 b off cap l q hq ht (by omega) (by omega) (by omega) hp w ha

end Go.Proofs.YtddcloanbpkecaaDoor
