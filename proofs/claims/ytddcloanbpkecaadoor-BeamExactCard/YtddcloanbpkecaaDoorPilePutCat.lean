/-
  What Put hands slices.Concat. (Written by tpl_pileput.py.)
-/
import Derived.Test.YtddcloanbpkecaaDoorPileCode
import Derived.Deep.RegionWith
namespace Go.Proofs.YtddcloanbpkecaaDoor
open Go.RowKit

/-- How a row's slice lies. -/
def RowCap (a : Option Addr) (len cap : Nat) : Prop := len ≤ cap ∧ ∀ ad, a = some ad → ad.spot = none
theorem rowCap_of {w : World} {base e n cap : Nat} {a : Option Addr} {xs : List Value} (h : w.ownsRow base e 2 (.slice a n cap) n xs) : RowCap a n cap := by
  refine ⟨row_cap2 h, fun ad e => ?_⟩
  subst e
  rcases h.2 with ⟨e, _⟩ | ⟨g, c, cur, e, _⟩
  · simp only [Value.slice.injEq] at e; exact absurd e.1 (by simp)
  · simp only [Value.slice.injEq, Option.some.injEq] at e; rw [e.1]
theorem rowCap_nil : RowCap none 0 0 := ⟨Nat.le_refl _, fun ad e => by cases e⟩

theorem concat3_num (g n1 n2 n3 : Nat) (a1 a2 a3 : Option Addr) (c1 c2 c3 : Nat) (l1 l2 l3 : List (Int × Int)) (e1 : l1.length = n1) (e2 : l2.length = n2) (e3 : l3.length = n3) (p1 : n1 ≤ 1048576) (p2 : n2 ≤ 1048576) (p3 : n3 ≤ 1048576) (h0 : 0 < n1 + n2 + n3) (w : World)
    (k1 : w.cell? ⟨g, 0, none⟩ = some (.slice a1 n1 c1)) (k2 : w.cell? ⟨g, 1, none⟩ = some (.slice a2 n2 c2)) (k3 : w.cell? ⟨g, 2, none⟩ = some (.slice a3 n3 c3))
    (h1 : Syms w.heap.size w (.slice a1 n1 c1) l1) (h2 : Syms w.heap.size w (.slice a2 n2 c2) l2) (h3 : Syms w.heap.size w (.slice a3 n3 c3) l3) :
    Calls Tryd.prog 77 #[.slice (some ⟨g, 0, none⟩) 3 3] w fun e W' => ∃ r, e = .returned r ∧ W'.ownsRow w.heap.size 72 2 r (n1 + n2 + n3) (symCells (l1 ++ l2 ++ l3)) ∧ Below w.heap.size w W' := by
  subst e1 e2 e3
  exact concat3_ok g a1 a2 a3 c1 c2 c3 l1 l2 l3 p1 p2 p3 h0 w k1 k2 k3 h1 h2 h3

/-- What Put hands slices.Concat, and what comes back. -/
theorem concat_put (k u : Int) (l : List (Int × Int)) (q n3 : Nat) (hq : aheadOf l k = q) (hl : l.length ≤ 1024) (e3 : l.length - q = n3) (a1 a3 : Option Addr) (c1 c3 : Nat) (V : World) (hT : Syms V.heap.size V (.slice a1 q c1) (l.take q)) (hD : Syms V.heap.size V (.slice a3 n3 c3) (l.drop q)) :
    Calls Tryd.prog 77 #[.slice (some ⟨V.heap.size + 1, 0, none⟩) 3 3] ((V.alloc (.cells #[.int .i64 k, .int .i64 u] 72)).alloc (.cells #[.slice a1 q c1, .slice (some ⟨V.heap.size, 0, none⟩) 1 1, .slice a3 n3 c3] 22)).drew fun e W' => ∃ a9 c9, e = .returned (.slice a9 (l.length + 1) c9) ∧ W'.ownsRow (V.heap.size + 2) 72 2 (.slice a9 (l.length + 1) c9) (l.length + 1) (symCells (putL l k u)) ∧ Below V.heap.size V W' := by
  have hql : q ≤ l.length := by rw [← hq]; exact aheadOf_le l k
  have b2 : Below V.heap.size V ((V.alloc (.cells #[.int .i64 k, .int .i64 u] 72)).alloc (.cells #[.slice a1 q c1, .slice (some ⟨V.heap.size, 0, none⟩) 1 1, .slice a3 n3 c3] 22)).drew := (((Below.refl _ V).alloc (Nat.le_refl _) _).alloc (by simp) _).drew
  have xb := (Box.new V 72 #[.int .i64 k, .int .i64 u]).alloc (.cells #[.slice a1 q c1, .slice (some ⟨V.heap.size, 0, none⟩) 1 1, .slice a3 n3 c3] 22)
  have xg : Box ((V.alloc (.cells #[.int .i64 k, .int .i64 u] 72)).alloc (.cells #[.slice a1 q c1, .slice (some ⟨V.heap.size, 0, none⟩) 1 1, .slice a3 n3 c3] 22)).drew (V.heap.size + 1) 22 #[.slice a1 q c1, .slice (some ⟨V.heap.size, 0, none⟩) 1 1, .slice a3 n3 c3] := by
    have := Box.new (V.alloc (.cells #[.int .i64 k, .int .i64 u] 72)) 22 #[.slice a1 q c1, .slice (some ⟨V.heap.size, 0, none⟩) 1 1, .slice a3 n3 c3]
    rw [show (V.alloc (.cells #[.int .i64 k, .int .i64 u] 72)).heap.size = V.heap.size + 1 by simp] at this
    exact this
  have hN : Syms ((V.alloc (.cells #[.int .i64 k, .int .i64 u] 72)).alloc (.cells #[.slice a1 q c1, .slice (some ⟨V.heap.size, 0, none⟩) 1 1, .slice a3 n3 c3] 22)).drew.heap.size ((V.alloc (.cells #[.int .i64 k, .int .i64 u] 72)).alloc (.cells #[.slice a1 q c1, .slice (some ⟨V.heap.size, 0, none⟩) 1 1, .slice a3 n3 c3] 22)).drew (.slice (some ⟨V.heap.size, 0, none⟩) 1 1) [(k, u)] := by
    refine .inr ⟨V.heap.size, 0, 1, rfl, xb.lt, fun j x hj => ?_⟩
    cases j with
    | zero => simp at hj; subst hj; exact ⟨xb.cell 0 _ rfl, xb.cell 1 _ rfl⟩
    | succ j => simp at hj
  refine (concat3_num (V.heap.size + 1) q 1 n3 a1 (some ⟨V.heap.size, 0, none⟩) a3 c1 1 c3 (l.take q) [(k, u)] (l.drop q) (by rw [List.length_take]; omega) rfl (by rw [List.length_drop]; exact e3) (by omega) (by omega) (by omega) (by omega) _ (xg.cell 0 _ rfl) (xg.cell 1 _ rfl) (xg.cell 2 _ rfl) (hT.next b2) hN (hD.next b2)).mono ?_
  rintro e W' ⟨r, rfl, o, b⟩
  have hn : q + 1 + n3 = l.length + 1 := by omega
  have hc : l.take q ++ [(k, u)] ++ l.drop q = putL l k u := by unfold putL; rw [hq]; simp
  rw [hn, hc] at o
  have hs := (syms_of_row o).shape
  rw [syms_row_len o] at hs
  obtain ⟨a9, c9, rfl⟩ := hs
  exact ⟨a9, c9, rfl, symRow_base o (by simp [World.drew]), b2.trans (b.mono (by have := b2.size; omega))⟩

end Go.Proofs.YtddcloanbpkecaaDoor
