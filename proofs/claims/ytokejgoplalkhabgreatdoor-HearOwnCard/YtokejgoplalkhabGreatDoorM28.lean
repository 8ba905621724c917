/-
  Piles that are filled place by place. No program is spoken of.
-/
import Derived.Test.YtokejgoplalkhabGreatDoorM07
import Derived.Test.YtokejgoplalkhabGreatDoorM09
import Derived.Test.YtokejgoplalkhabGreatDoorM16
import Derived.Test.YtokejgoplalkhabGreatDoorM22
import Derived.Test.YtokejgoplalkhabGreatDoorM24
import Derived.Test.YtokejgoplalkhabGreatDoorM27
import Derived.Deep.AppendLies
import Derived.Deep.Cut
import Derived.Deep.CutRange
import Derived.Deep.DeepCutAuto
import Derived.Deep.RegionHeldLaw
import Derived.Deep.RegionWith
namespace Go.Proofs.YtokejgoplalkhabGreatDoor

theorem aheadOf_end : ∀ {l : List (Int × Int)} {k : Int}, (∀ x ∈ l, x.1 < k) → aheadOf l k = l.length
  | [], _, _ => rfl
  | x :: l, k, h => by
    rw [aheadOf, if_pos (h x List.mem_cons_self), aheadOf_end fun y hy => h y (List.mem_cons_of_mem _ hy), List.length_cons]

/-- The value at a place. -/
def valN (v : Int) (k : Nat) : Int := ((v + k) % 18446744073709551616) % 256
theorem valN_bd (v : Int) (k : Nat) : 0 ≤ valN v k ∧ valN v k ≤ 255 := by unfold valN; omega
/-- The first places, filled. -/
def fullL (v : Int) (j : Nat) : List (Int × Int) := (List.range j).map fun i : Nat => ((i : Int), valN v i)
theorem fullL_len (v : Int) (j : Nat) : (fullL v j).length = j := by simp [fullL]
theorem fullL_next (v : Int) (j : Nat) : fullL v (j + 1) = fullL v j ++ [((j : Int), valN v j)] := by simp [fullL, List.range_succ]
theorem fullL_mem {v : Int} {j : Nat} {x : Int × Int} (h : x ∈ fullL v j) : 0 ≤ x.1 ∧ x.1 < j := by
  obtain ⟨i, hi, rfl⟩ := List.mem_map.1 h
  have : i < j := by simpa using hi
  simp
  omega
theorem fullL_ahead (v : Int) (j : Nat) : aheadOf (fullL v j) j = j := by
  rw [aheadOf_end (fun x hx => (fullL_mem hx).2), fullL_len]
theorem fullL_not (v : Int) (j : Nat) : hasAt (fullL v j) j = false := by
  unfold hasAt
  rw [fullL_ahead, List.getElem?_eq_none (by rw [fullL_len]; exact Nat.le_refl _)]
theorem fullL_put {n p v : Int} {j : Nat} (h : (j : Int) < n * p) : putN n p (fullL v j) j (valN v j) = fullL v (j + 1) := by
  unfold putN
  rw [if_neg (by rw [fullL_not]; simp; omega)]
  unfold putL
  rw [fullL_ahead, fullL_next, List.take_of_length_le (by rw [fullL_len]; exact Nat.le_refl _), List.drop_of_length_le (by rw [fullL_len]; exact Nat.le_refl _)]
theorem fullL_fresh {n p v : Int} {j : Nat} (h : (j : Int) < n * p) : freshN n p (fullL v j) j = true := by
  unfold freshN
  exact decide_eq_true (by rw [fullL_not]; simp; omega)
theorem fullL_rises (v : Int) : ∀ j, Rises (fullL v j)
  | 0 => List.Pairwise.nil
  | j + 1 => by
    rw [fullL_next]
    unfold Rises
    rw [List.pairwise_append]
    refine ⟨fullL_rises v j, List.pairwise_singleton _ _, fun x hx y hy => ?_⟩
    simp at hy; subst hy
    exact (fullL_mem hx).2
theorem fullL_ok {n p v : Int} {j : Nat} (hh : HeadOk n p) (h : (j : Int) ≤ n * p) : PileOk n p (fullL v j) := by
  refine ⟨hh, fun x hx => ?_, fullL_rises v j⟩
  have h1 := fullL_mem hx
  obtain ⟨i, _, rfl⟩ := List.mem_map.1 hx
  have h2 := valN_bd v i
  simp at h1
  exact ⟨by simp, by simp; omega, h2.1, h2.2⟩
/-- A full pile takes nothing more. -/
theorem fullL_full {n p v : Int} {M : Nat} (hM : n * p = (M : Int)) {k : Int} (hk : 0 ≤ k) (u : Int) : putN n p (fullL v M) k u = fullL v M ∧ freshN n p (fullL v M) k = false := by
  have hc : n * p ≤ k ∨ hasAt (fullL v M) k = true := by
    by_cases h : n * p ≤ k
    · exact .inl h
    · right
      rw [hasAt_iff (fullL_rises v M)]
      refine ⟨valN v k.toNat, List.mem_map.2 ⟨k.toNat, ?_, ?_⟩⟩
      · simp; omega
      · simp; omega
  unfold putN freshN
  exact ⟨if_pos hc, decide_eq_false (fun h => h hc)⟩

end Go.Proofs.YtokejgoplalkhabGreatDoor

/-
  What the page's Bytes (a right block's bytes) answers.
-/
namespace Go.Proofs.YtokejgoplalkhabGreatDoor
open Go.RowKit

theorem row_shape1 {W : World} {base k : Nat} {e : TypeId} {v : Value} {xs : List Value} (h : W.ownsRow base e 1 v k xs) : ∃ a c, v = .slice a k c := by
  rcases h.2 with ⟨e, e0⟩ | ⟨g, c, cur, e, _⟩
  · exact ⟨_, _, by rw [e, e0]⟩
  · exact ⟨_, _, e⟩
theorem news_at2 {W : World} {B : Nat} {x y : Value} (h : W.cell? ⟨B, 0, none⟩ = some x) (h' : W.cell? ⟨B, 1, none⟩ = some y) : ∀ (j : Nat) (u : Value), [x, y][j]? = some u → W.cell? ((⟨B, 0, none⟩ : Addr).add j) = some u := by
  intro j u hj
  match j, hj with
  | 0, hj => cases hj; exact h
  | 1, hj => cases hj; exact h'

/-- How long a slice is. -/
def lenV : Value → Nat
  | .slice _ n _ => n
  | _ => 0

end Go.Proofs.YtokejgoplalkhabGreatDoor

/-
  What the page's Read (bytes as a block) answers, whatever it is asked. (Written by tpl_refread.py.)
-/
namespace Go.Proofs.YtokejgoplalkhabGreatDoor
open Go.RowKit

/-- Why bytes are no block, as a number; 0: they are one. -/
def badB (z : Int) (zs : List Int) (e : Int) : Prop :=
  (bSize z = false ∧ e = 1) ∨ (bSize z = true ∧ (zs.length : Int) ≠ z + 10 ∧ e = 2) ∨ (bSize z = true ∧ (zs.length : Int) = z + 10 ∧ isSealed zs = false ∧ e = 4) ∨ (bSize z = true ∧ (zs.length : Int) = z + 10 ∧ isSealed zs = true ∧ ¬ readOk z.toNat zs ∧ e = 3)

theorem bSize_iff (z : Int) : bSize z = true ↔ 1 ≤ z ∧ z ≤ 16 := by simp [bSize]

end Go.Proofs.YtokejgoplalkhabGreatDoor

/-
  What the page's Read answers, in two contracts: bytes that are no block, bytes that are one.
-/
namespace Go.Proofs.YtokejgoplalkhabGreatDoor
open Go.RowKit

theorem rdX_len {Z : Nat} {zs : List Int} (hl : zs.length = Z + 10) (h : rdN zs ≤ Z) : (rdX zs).length = rdN zs := by
  unfold rdX; rw [List.length_take, List.length_drop]; omega

/-- Bytes are no block, for a reason that has its number, or they are one. -/
theorem read_cases (z : Int) (zs : List Int) : (∃ e, 0 < e ∧ badB z zs e) ∨ ∃ Z : Nat, z = (Z : Int) ∧ 1 ≤ Z ∧ Z ≤ 16 ∧ zs.length = Z + 10 ∧ isSealed zs = true ∧ readOk Z zs := by
  cases h1 : bSize z with
  | false => exact .inl ⟨1, by decide, .inl ⟨h1, rfl⟩⟩
  | true =>
    have hz := (bSize_iff z).1 h1
    obtain ⟨Z, rfl⟩ := Int.eq_ofNat_of_zero_le (show 0 ≤ z by omega)
    by_cases h2 : (zs.length : Int) = (Z : Int) + 10
    · cases h3 : isSealed zs with
      | false => exact .inl ⟨4, by decide, .inr (.inr (.inl ⟨h1, h2, h3, rfl⟩))⟩
      | true =>
        by_cases h4 : readOk Z zs
        · exact .inr ⟨Z, rfl, by omega, by omega, by omega, rfl, h4⟩
        · exact .inl ⟨3, by decide, .inr (.inr (.inr ⟨h1, h2, h3, h4, rfl⟩))⟩
    · exact .inl ⟨2, by decide, .inr (.inl ⟨h1, h2, rfl⟩)⟩

end Go.Proofs.YtokejgoplalkhabGreatDoor

/-
  What the page's Packet answers, of data that may be. (Written by tpl_refdata.py.)
-/
namespace Go.Proofs.YtokejgoplalkhabGreatDoor
open Go.RowKit

theorem row_shapeP {W : World} {base k : Nat} {e : TypeId} {v : Value} {xs : List Value} (h : W.ownsRow base e 1 v k xs) : ∃ a c, v = .slice a k c := by
  rcases h.2 with ⟨e, e0⟩ | ⟨g, c, cur, e, _⟩
  · exact ⟨_, _, by rw [e, e0]⟩
  · exact ⟨_, _, e⟩
/-- A row of more cells than a block has lies in another block. -/
theorem row_not_box {W : World} {base k B : Nat} {v : Value} {xs : List Value} {t : TypeId} {cs : Array Value} (h : W.ownsRow base 5 1 v k xs) (x : Box W B t cs) (hk : cs.size < k) : v.ownBlock ≠ some B := by
  rcases h.2 with ⟨e, e0⟩ | ⟨g, c, cur, e, _, hg, hkc, _, hs, _⟩
  · omega
  · subst e
    intro e
    cases e
    have hx : W.heap[g]? = some (.cells cs t) := x
    rw [hg] at hx
    cases hx
    omega
theorem Box.grown {W W' : World} {B : Nat} {t : TypeId} {cs : Array Value} {ob : Option Nat} (h : Box W B t cs) (hg : W.grownBy W' ob) (hne : ob ≠ some B) : Box W' B t cs := (hg.block B h.lt hne.symm).trans h
theorem row_box {W : World} {B base : Nat} {x : Int} (h : Box W B 5 #[.int .u8 x]) (hb : base ≤ B) : W.ownsRow base 5 1 (.slice (some ⟨B, 0, none⟩) 1 1) 1 ([x].map (Value.int .u8)) :=
  ⟨rfl, .inr ⟨B, 1, #[.int .u8 x], rfl, hb, h, Nat.le_refl _, by unfold maxLen; omega, rfl, rfl⟩⟩
theorem box_holds1 {W : World} {B : Nat} {t : TypeId} {x : Int} (h : Box W B t #[.int .u8 x]) : Holds .u8 W.heap.size W (.slice (some ⟨B, 0, none⟩) 1 1) [x] :=
  .inr ⟨B, 0, 1, rfl, h.lt, fun j hj => by
    have : j = 0 := by simpa using hj
    subst this
    exact h.cell 0 _ rfl⟩

end Go.Proofs.YtokejgoplalkhabGreatDoor

/-
  What the page's ReadData answers, whatever it is asked. (Written by tpl_refdata.py.)
-/
namespace Go.Proofs.YtokejgoplalkhabGreatDoor
open Go.RowKit

theorem below_set4d {W V : World} {n : Nat} (h : Below n W V) {D : Nat} (hD : n ≤ D) (x y z u : Value) : Below n W ((((V.setCell ⟨D, 0, none⟩ x).setCell ⟨D, 1, none⟩ y).setCell ⟨D, 2, none⟩ z).setCell ⟨D, 3, none⟩ u) := (below_set3 h hD x y z).setCell (p := ⟨D, 3, none⟩) hD u
theorem Box.set4d {W : World} {B : Nat} {t : TypeId} {x y z u : Value} (h : Box W B t #[x, y, z, u]) (x' y' z' u' : Value) : Box ((((W.setCell ⟨B, 0, none⟩ x').setCell ⟨B, 1, none⟩ y').setCell ⟨B, 2, none⟩ z').setCell ⟨B, 3, none⟩ u') B t #[x', y', z', u'] := (((h.set 0 x').set 1 y').set 2 z').set 3 u'
theorem row_set4d {w : World} {base : Nat} {e : TypeId} {size : Nat} {v : Value} {n : Nat} {xs : List Value} (h : w.ownsRow base e size v n xs) {D : Nat} (hD : D < base) (x y z u : Value) : ((((w.setCell ⟨D, 0, none⟩ x).setCell ⟨D, 1, none⟩ y).setCell ⟨D, 2, none⟩ z).setCell ⟨D, 3, none⟩ u).ownsRow base e size v n xs := ownsRow_setCell_below (row_set3 h hD x y z) (a := ⟨D, 3, none⟩) hD u
end Go.Proofs.YtokejgoplalkhabGreatDoor
