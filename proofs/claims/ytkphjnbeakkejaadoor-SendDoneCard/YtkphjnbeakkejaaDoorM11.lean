/-
  What bit.wholes tells, range by range: the bytes that pieces of four bits, or of one bit, are put together to.
-/
import Derived.Test.YtkphjnbeakkejaaDoorM01
import Derived.Test.YtkphjnbeakkejaaDoorM04
import Derived.Test.YtkphjnbeakkejaaDoorM05
import Derived.Test.YtkphjnbeakkejaaDoorM07
import Derived.Test.YtkphjnbeakkejaaDoorM08
import Derived.Test.YtkphjnbeakkejaaDoorM10
import Derived.LoopIn
import Derived.LoopNIn
import Derived.Maps.AppendAt
import Derived.OwnWalkIn
import Derived.RangeFuncBound
import Derived.RangeFuncBox
import Derived.RangeFuncCalls
import Derived.RangeFuncLeaves
import Derived.RangeFuncNested
import Derived.Shelf.Abstract
import Derived.Shelf.RegionOpen
import Derived.TacticsInMore
import Derived.WalkKit
namespace Go.Proofs.YtkphjnbeakkejaaDoor
open Go.RowKit Go.Shelf
attribute [local go_sem] Oper.semAt_some

/-- What the body of a range over wholes must keep: all below n₀, and the three boxes. -/
def KpP3 (n₀ B1 B2 B3 : Nat) (W W' : World) : Prop := Below n₀ W W' ∧ W'.heap[B1]? = W.heap[B1]? ∧ W'.heap[B2]? = W.heap[B2]? ∧ W'.heap[B3]? = W.heap[B3]?

theorem KpP3.c1 {n₀ B1 B2 B3 : Nat} {W W' : World} (h : KpP3 n₀ B1 B2 B3 W W') : W'.cell? ⟨B1, 0, none⟩ = W.cell? ⟨B1, 0, none⟩ := by simp [World.cell?, h.2.1]
theorem KpP3.c2 {n₀ B1 B2 B3 : Nat} {W W' : World} (h : KpP3 n₀ B1 B2 B3 W W') : W'.cell? ⟨B2, 0, none⟩ = W.cell? ⟨B2, 0, none⟩ := by simp [World.cell?, h.2.2.1]
theorem KpP3.c3 {n₀ B1 B2 B3 : Nat} {W W' : World} (h : KpP3 n₀ B1 B2 B3 W W') : W'.cell? ⟨B3, 0, none⟩ = W.cell? ⟨B3, 0, none⟩ := by simp [World.cell?, h.2.2.2]
theorem KpP3.trans {n₀ B1 B2 B3 : Nat} {A B C : World} (h : KpP3 n₀ B1 B2 B3 A B) (k : KpP3 n₀ B1 B2 B3 B C) : KpP3 n₀ B1 B2 B3 A C := ⟨h.1.trans k.1, k.2.1.trans h.2.1, k.2.2.1.trans h.2.2.1, k.2.2.2.trans h.2.2.2⟩

end Go.Proofs.YtkphjnbeakkejaaDoor

/-
  Plain facts for what is taken apart and put together again: lists and numbers alone.
-/
namespace Go.Proofs.YtkphjnbeakkejaaDoor
open Go.RowKit

theorem flat_all_len' (f : Int → List Int) (c : Nat) (hf : ∀ x, (f x).length = c) (zs : List Int) : (zs.flatMap f).length = c * zs.length := by
  have := flat_len f c hf zs zs.length (Nat.le_refl _); rwa [List.take_length] at this

theorem nibs_bd (zs : List Int) : ∀ z ∈ zs.flatMap nibsOf, 0 ≤ z ∧ z < 16 := by
  intro z hz
  obtain ⟨y, _, hy⟩ := List.mem_flatMap.1 hz
  simp [nibsOf] at hy
  omega

end Go.Proofs.YtkphjnbeakkejaaDoor

/-
  A block's symbols as numbers. No program is spoken of.
-/
namespace Go.Proofs.YtkphjnbeakkejaaDoor

/-- The nibbles of bytes. -/
def nibs (zs : List Int) : List Int := zs.flatMap nibsOf
theorem nibs_len (zs : List Int) : (nibs zs).length = 2 * zs.length := flat_all_len' nibsOf 2 (fun _ => rfl) zs
theorem nibs_path (zs : List Int) : Path (nibs zs) := fun z hz => by have := nibs_bd zs z hz; omega
theorem nibs_get {zs : List Int} {s : Nat} (h : s < 2 * zs.length) : ∃ n : Nat, (nibs zs)[s]? = some (n : Int) ∧ n < 16 := by
  have hl : s < (nibs zs).length := by rw [nibs_len]; exact h
  have hp := nibs_path zs _ (List.getElem_mem hl)
  exact ⟨(nibs zs)[s].toNat, by rw [List.getElem?_eq_getElem hl]; congr 1; omega, by omega⟩

/-- The state behind a segment. -/
def stN (zs : List Int) (s : Nat) : Nat := lastOf beginN ((nibs zs).take (s + 1))
theorem begin_lt : beginN < 4294967296 := by decide
theorem stN_lt (zs : List Int) (s : Nat) : stN zs s < 4294967296 := lastOf_lt _ begin_lt
theorem stN_step {zs : List Int} {s n : Nat} (hn : (nibs zs)[s]? = some (n : Int)) : stN zs s = stepN (lastOf beginN ((nibs zs).take s)) n := by
  have := lastOf_take (s := beginN) hn
  rwa [Int.toNat_natCast] at this
theorem stN_get {zs : List Int} {s : Nat} (h : s < 2 * zs.length) : (statesOf beginN (nibs zs))[s]? = some ((stN zs s : Nat) : Int) := by
  obtain ⟨n, hn, _⟩ := nibs_get h
  have := statesOf_get (s := beginN) hn
  rw [Int.toNat_natCast, ← stN_step hn] at this
  exact this
theorem states_len (zs : List Int) : (statesOf beginN (nibs zs)).length = 2 * zs.length := by rw [statesOf_len, nibs_len]

/-- The symbol at a place; a row of them. -/
def codeN (zs : List Int) (k : Nat) : Nat := symN (stN zs (segN (2 * zs.length) k)) (k / (2 * zs.length))
theorem codeN_lt (zs : List Int) (k : Nat) : codeN zs k < 256 := symN_lt _ _
def codeL (zs : List Int) (f c : Nat) : List Int := (List.range c).map fun j => ((codeN zs (f + j) : Nat) : Int)
theorem codeL_len (zs : List Int) (f c : Nat) : (codeL zs f c).length = c := by simp [codeL]
theorem codeL_next (zs : List Int) (f c : Nat) : codeL zs f (c + 1) = codeL zs f c ++ [((codeN zs (f + c) : Nat) : Int)] := by simp [codeL, List.range_succ]
end Go.Proofs.YtkphjnbeakkejaaDoor
