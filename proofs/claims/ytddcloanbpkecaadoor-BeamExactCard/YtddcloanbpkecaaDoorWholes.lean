/-
  What bit.wholes tells, range by range: the bytes that pieces of four bits, or of one bit, are put together to.
-/
import Derived.RangeFuncNested
import Derived.RangeFuncBound
import Derived.RangeFuncCalls
import Derived.RangeFuncLeaves
import Derived.RangeFuncBox
import Derived.Shelf.Abstract
import Derived.Shelf.RegionOpen
import Derived.WalkKit
import Derived.OwnWalkIn
import Derived.TacticsInMore
import Derived.LoopNIn
import Derived.LoopIn
import Derived.Maps.AppendAt
import Derived.Test.YtddcloanbpkecaaDoorMem
import Derived.Test.YtddcloanbpkecaaDoorApart
namespace Go.Proofs.YtddcloanbpkecaaDoor
open Go.RowKit Go.Shelf
attribute [local go_sem] Oper.semAt_some

/-- The number that pieces of width wd make, the highest first. -/
def joinW (wd : Nat) (l : List Int) : Int := l.foldl (fun acc x => acc * 2 ^ wd + x) 0

/-- The bytes of a row, c pieces of width wd a byte, k of them. -/
def wholesOf (wd c : Nat) (ls : List Int) (k : Nat) : List Int := (List.range k).map (fun i => joinW wd ((ls.drop (c * i)).take c))

theorem wholesOf_succ (wd c : Nat) (ls : List Int) (k : Nat) : wholesOf wd c ls (k + 1) = wholesOf wd c ls k ++ [joinW wd ((ls.drop (c * k)).take c)] := by simp [wholesOf, List.range_succ]
theorem wholesOf_len (wd c : Nat) (ls : List Int) (k : Nat) : (wholesOf wd c ls k).length = k := by simp [wholesOf]

theorem joinW_snoc (wd : Nat) (l : List Int) (x : Int) : joinW wd (l ++ [x]) = joinW wd l * 2 ^ wd + x := by simp [joinW]

/-- What the body of a range over wholes must keep: all below n₀, and the three boxes. -/
def KpP3 (n₀ B1 B2 B3 : Nat) (W W' : World) : Prop := Below n₀ W W' ∧ W'.heap[B1]? = W.heap[B1]? ∧ W'.heap[B2]? = W.heap[B2]? ∧ W'.heap[B3]? = W.heap[B3]?

theorem KpP3.c1 {n₀ B1 B2 B3 : Nat} {W W' : World} (h : KpP3 n₀ B1 B2 B3 W W') : W'.cell? ⟨B1, 0, none⟩ = W.cell? ⟨B1, 0, none⟩ := by simp [World.cell?, h.2.1]
theorem KpP3.c2 {n₀ B1 B2 B3 : Nat} {W W' : World} (h : KpP3 n₀ B1 B2 B3 W W') : W'.cell? ⟨B2, 0, none⟩ = W.cell? ⟨B2, 0, none⟩ := by simp [World.cell?, h.2.2.1]
theorem KpP3.c3 {n₀ B1 B2 B3 : Nat} {W W' : World} (h : KpP3 n₀ B1 B2 B3 W W') : W'.cell? ⟨B3, 0, none⟩ = W.cell? ⟨B3, 0, none⟩ := by simp [World.cell?, h.2.2.2]
theorem KpP3.trans {n₀ B1 B2 B3 : Nat} {A B C : World} (h : KpP3 n₀ B1 B2 B3 A B) (k : KpP3 n₀ B1 B2 B3 B C) : KpP3 n₀ B1 B2 B3 A C := ⟨h.1.trans k.1, k.2.1.trans h.2.1, k.2.2.1.trans h.2.2.1, k.2.2.2.trans h.2.2.2⟩

theorem wholesOf_prefix (wd c : Nat) (ls : List Int) (k m : Nat) (h : k ≤ m) : wholesOf wd c ls k <+: wholesOf wd c ls m := by
  have e : wholesOf wd c ls k = (wholesOf wd c ls m).take k := by
    unfold wholesOf
    rw [← List.map_take, List.take_range]
    congr 2
    omega
  rw [e]; exact List.take_prefix _ _

theorem joinW_bd (wd : Nat) (md : Int) (hmd : md = 2 ^ wd) (ls : List Int) (hz : ∀ z ∈ ls, 0 ≤ z ∧ z < md) (t j : Nat) : 0 ≤ joinW wd ((ls.drop t).take j) ∧ joinW wd ((ls.drop t).take j) < md ^ j := by
  have hp : 0 < md := by rw [hmd]; exact Int.pow_pos (by decide)
  induction j with
  | zero => simp [joinW]
  | succ j ih =>
    rw [List.take_add_one]
    cases hq : (ls.drop t)[j]? with
    | none =>
      simp only [Option.toList_none, List.append_nil]
      refine ⟨ih.1, Int.lt_of_lt_of_le ih.2 ?_⟩
      rw [Int.pow_succ]
      have h1 : 0 ≤ md ^ j := Int.le_of_lt (Int.pow_pos hp)
      have := Int.mul_le_mul_of_nonneg_left (show 1 ≤ md by omega) h1
      simpa using this
    | some z =>
      have hzb := hz z (List.mem_of_mem_drop (List.mem_of_getElem? hq))
      simp only [Option.toList_some]
      rw [joinW_snoc, ← hmd, Int.pow_succ]
      constructor
      · have := Int.mul_nonneg ih.1 (Int.le_of_lt hp)
        omega
      · have h2 : (joinW wd ((ls.drop t).take j) + 1) * md ≤ md ^ j * md := Int.mul_le_mul_of_nonneg_right (by omega) (Int.le_of_lt hp)
        rw [Int.add_mul] at h2
        omega


theorem or_join4 (acc x : Int) (h0 : 0 ≤ acc) (h1 : acc ≤ 255) (hx : 0 ≤ x) (hx' : x < 16) : bits .or .i64 (acc * 16) x = acc * 16 + x := by
  have e63 : (2 : Int) ^ 63 = 9223372036854775808 := by decide
  exact bits_join .i64 63 (by decide) wraps_i64 4 (acc * 16) x (by omega) (by simp) (by rw [e63]; omega) hx (by simpa using hx') (by rw [e63]; omega)

theorem or_join1 (acc x : Int) (h0 : 0 ≤ acc) (h1 : acc ≤ 255) (hx : 0 ≤ x) (hx' : x < 2) : bits .or .i64 (acc * 2) x = acc * 2 + x := by
  have e63 : (2 : Int) ^ 63 = 9223372036854775808 := by decide
  exact bits_join .i64 63 (by decide) wraps_i64 1 (acc * 2) x (by omega) (by simp) (by rw [e63]; omega) hx (by simpa using hx') (by rw [e63]; omega)

end Go.Proofs.YtddcloanbpkecaaDoor
