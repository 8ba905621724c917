/-
  What package block's isSize, Check and Make answer.
-/
import Derived.Test.YtpfhnefgibiedaaBlockBulk
namespace Go.Proofs.Ytpfhnefgibiedaa
open Go.RowKit

theorem bsize_yes {z : Int} (h : 1 ≤ z ∧ z ≤ 16) : bSize z = true := by
  unfold bSize
  rw [decide_eq_true h.1, decide_eq_true h.2]; rfl
theorem bsize_no {z : Int} (h : ¬ (1 ≤ z ∧ z ≤ 16)) : bSize z = false := by
  unfold bSize
  by_cases h1 : 1 ≤ z
  · rw [decide_eq_true h1, decide_eq_false (fun h2 => h ⟨h1, h2⟩)]; rfl
  · rw [decide_eq_false h1]; rfl

theorem and_last {m : Int} (h0 : 0 ≤ m) (h1 : m ≤ 3) : (bits .and .i64 m 2 != 0) = decide (2 ≤ m) := by
  have : m = 0 ∨ m = 1 ∨ m = 2 ∨ m = 3 := by omega
  rcases this with rfl | rfl | rfl | rfl <;> decide

theorem made_noughts {w1 : World} {base n : Nat} {a : Option Addr} (h : w1.ownsRow base 5 1 (.slice a n n) n (madeCells (Value.int IntKind.u8 0).cells (n * 1)).toList) : w1.ownsRow base 5 1 (.slice a n n) n ((List.replicate n (0 : Int)).map (Value.int .u8)) := by
  rw [show (Value.int IntKind.u8 0).cells = #[.int .u8 0] from rfl, toList_madeCells_one, Nat.mul_one] at h
  rw [List.map_replicate]; exact h

theorem concat4_at (g : Nat) (a1 a2 a3 a4 : Option Addr) (c1 c2 c3 c4 n1 n2 n3 n4 : Nat) (l1 l2 l3 l4 : List Int) (e1 : l1.length = n1) (e2 : l2.length = n2) (e3 : l3.length = n3) (e4 : l4.length = n4) (p1 : n1 ≤ 1048576) (p2 : n2 ≤ 1048576) (p3 : n3 ≤ 1048576) (p4 : n4 ≤ 1048576) (h0 : 0 < n1) (w : World)
    (k1 : w.cell? ⟨g, 0, none⟩ = some (.slice a1 n1 c1)) (k2 : w.cell? ⟨g, 1, none⟩ = some (.slice a2 n2 c2)) (k3 : w.cell? ⟨g, 2, none⟩ = some (.slice a3 n3 c3)) (k4 : w.cell? ⟨g, 3, none⟩ = some (.slice a4 n4 c4))
    (h1 : Holds .u8 w.heap.size w (.slice a1 n1 c1) l1) (h2 : Holds .u8 w.heap.size w (.slice a2 n2 c2) l2) (h3 : Holds .u8 w.heap.size w (.slice a3 n3 c3) l3) (h4 : Holds .u8 w.heap.size w (.slice a4 n4 c4) l4) :
    Calls Try.prog 24 #[.slice (some ⟨g, 0, none⟩) 4 4] w fun e W' => ∃ r, e = .returned r ∧ W'.ownsRow w.heap.size 5 1 r (n1 + n2 + n3 + n4) ((l1 ++ l2 ++ l3 ++ l4).map (Value.int .u8)) ∧ Below w.heap.size w W' := by
  subst e1 e2 e3 e4
  exact concat4_ok g a1 a2 a3 a4 c1 c2 c3 c4 l1 l2 l3 l4 p1 p2 p3 p4 h0 w k1 k2 k3 k4 h1 h2 h3 h4

theorem row_shapeB {W : World} {base k : Nat} {e : TypeId} {v : Value} {xs : List Value} (h : W.ownsRow base e 1 v k xs) : ∃ a c, v = .slice a k c := by
  rcases h.2 with ⟨e, e0⟩ | ⟨g, c, cur, e, _⟩
  · exact ⟨_, _, by rw [e, e0]⟩
  · exact ⟨_, _, e⟩

end Go.Proofs.Ytpfhnefgibiedaa
