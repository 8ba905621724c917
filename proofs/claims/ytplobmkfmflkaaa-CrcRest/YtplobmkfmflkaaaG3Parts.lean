/-
  What gf2's own parts answer: own (a copy in new memory), trimmed (the piece behind the noughts), addTo (one row xor the other, from a place on), for every row of numbers.
-/
import Derived.Test.YtplobmkfmflkaaaTwinBytes
import Derived.Test.YtplobmkfmflkaaaPoly
import Derived.Test.YtplobmkfmflkaaaSteps
import Derived.Laws.CopyOwn
import Derived.Laws.BitsAllLaws
import Derived.RegionTactic
import Derived.BigRegion
import Derived.ChangeAlike
namespace Go.Proofs.Ytplobmkfmflkaaa
open Go.RowKit

theorem infoI64 : (Try.prog.info? 3).map (fun i => (i.zero, i.size, i.bytes)) = some (some (.int .i64 0), 1, 8) := by kernel_rfl

/-- Block g holds the numbers zs, and nothing more. -/
def Row (W : World) (g : Nat) (zs : List Int) : Prop := W.heap[g]? = some (.cells (zs.map (Value.int .i64)).toArray 3 (0, 0))

/-- Of what lay, block g alone may have turned; there are as many blocks as there were. -/
def Only (g : Nat) (W W' : World) : Prop := Below g W W' ∧ W.heap.size = W'.heap.size ∧ ∀ b, b ≠ g → W'.heap[b]? = W.heap[b]?

theorem Only.refl (g : Nat) (W : World) : Only g W W := ⟨Below.refl _ _, rfl, fun _ _ => rfl⟩
theorem Only.trans {g : Nat} {W W' W'' : World} (h : Only g W W') (k : Only g W' W'') : Only g W W'' := ⟨h.1.trans k.1, h.2.1.trans k.2.1, fun b hb => (k.2.2 b hb).trans (h.2.2 b hb)⟩
theorem Only.drewN {g : Nat} {W W' : World} (h : Only g W W') (n : Nat) : Only g W (W'.drewN n) := ⟨below_drewN h.1 n, h.2.1, h.2.2⟩
theorem Only.row {g g' : Nat} {W W' : World} {zs : List Int} (h : Only g W W') (hne : g' ≠ g) (hr : Row W g' zs) : Row W' g' zs := (h.2.2 g' hne).trans hr
theorem Row.drewN {g : Nat} {W : World} {zs : List Int} (h : Row W g zs) (n : Nat) : Row (W.drewN n) g zs := h

theorem Row.lt {g : Nat} {W : World} {zs : List Int} (h : Row W g zs) : g < W.heap.size := (Array.getElem?_eq_some_iff.1 h).1
theorem Row.cell {g : Nat} {W : World} {zs : List Int} (h : Row W g zs) (q : Nat) {x : Int} (hq : zs[q]? = some x) : W.cell? ⟨g, q, none⟩ = some (.int .i64 x) := by
  have h' : W.heap[g]? = some (.cells (zs.map (Value.int .i64)).toArray 3 (0, 0)) := h
  simp [World.cell?, h', hq]
theorem Row.frozen {g : Nat} {W : World} {zs : List Int} (h : Row W g zs) (q : Nat) : W.frozen? ⟨g, q, none⟩ = false := by
  have h' : W.heap[g]? = some (.cells (zs.map (Value.int .i64)).toArray 3 (0, 0)) := h
  simp [World.frozen?, h']
theorem Row.below {g n : Nat} {W W' : World} {zs : List Int} (h : Row W g zs) (hb : Below n W W') (hg : g < n) : Row W' g zs := (hb.block g hg).trans h

/-- What a whole row holds, or a piece of it. -/
theorem Row.holds {g n : Nat} {W : World} {zs : List Int} (h : Row W g zs) (hg : g < n) (cap : Nat) : Holds .i64 n W (.slice (some ⟨g, 0, none⟩) zs.length cap) zs := by
  refine .inr ⟨g, 0, cap, rfl, hg, fun j hj => ?_⟩
  rw [Nat.zero_add, h.cell j (x := zs[j]?.getD 0) (by simp [hj])]

theorem Row.set {g : Nat} {W : World} {zs : List Int} (h : Row W g zs) (k : Nat) (z : Int) : Row (W.setCell ⟨g, k, none⟩ (.int .i64 z)) g (zs.set k z) := by
  have h' : W.heap[g]? = some (.cells (zs.map (Value.int .i64)).toArray 3 (0, 0)) := h
  have hlt := h.lt
  unfold Row World.setCell
  simp only [Array.getElem?_modify, if_true, h', Option.map_some]
  simp [List.map_set]

theorem Only.set {g : Nat} {W W' : World} (h : Only g W W') (k : Nat) (v : Value) : Only g W (W'.setCell ⟨g, k, none⟩ v) := by
  refine ⟨h.1.setCell (p := ⟨g, k, none⟩) (Nat.le_refl _) _, h.2.1.trans (by simp [World.setCell]), fun b hb => ?_⟩
  rw [← h.2.2 b hb]
  unfold World.setCell
  simp only [Array.getElem?_modify]
  rw [if_neg (fun e => hb e.symm)]

/-- copy of a whole row over a block of as many cells. -/
theorem run_copy_ints (a : Option Addr) (cap g n₀ : Nat) (xs : List Int) (cur : Array Value) (w : World) (hg : w.heap[g]? = some (.cells cur 3 (0, 0))) (hcs : cur.size = xs.length) (hH : Holds .i64 n₀ w (.slice a xs.length cap) xs) :
    ∃ w2, (Builtin.copy_ #[31, 31] 3 #[.slice (some ⟨g, 0, none⟩) xs.length xs.length, .slice a xs.length cap]).run Try.prog w = .ok (.int .i64 xs.length) w2 ∧ Row w2 g xs ∧ Below g w w2 := by
  obtain ⟨i0, hi, hz0, hz1, hz2⟩ := info_parts infoI64
  have hsz : (Try.prog.info? 3).map (·.size) = some 1 := by rw [hi]; simp [hz1]
  rcases hH with ⟨_, rfl⟩ | ⟨b, off, cap', e, _, hc⟩
  · refine ⟨w, run_copy_none w _ _ _ 3 _ _ _ _ _ _ Try.underlying31 hsz (by simp), ?_, Below.refl _ _⟩
    have : cur = #[] := Array.eq_empty_of_size_eq_zero (by simpa using hcs)
    unfold Row
    rw [hg, this]; rfl
  · cases e
    have hr := run_copy_row (P := Try.prog) w 31 31 3 3 g 0 xs.length xs.length ⟨b, off, none⟩ xs.length cap cur 3 (xs.map (Value.int .i64)) Try.underlying31 hsz hg (by simp) (holds_cells hc) (by simp [hcs]) (oneCells _ _)
    have e0 : (cur.toList.take 0 ++ xs.map (Value.int .i64) ++ cur.toList.drop (0 + (xs.map (Value.int .i64)).length)) = xs.map (Value.int .i64) := by
      rw [List.drop_of_length_le (by simp [hcs])]; simp
    rw [e0, List.length_map] at hr
    exact ⟨_, hr, setRow_heap w g cur _ _ _ hg, below_setRow (Below.refl g w) (Nat.le_refl _) _⟩

set_option maxRecDepth 100000 in
set_option maxHeartbeats 2000000 in
/-- own: a copy, in the next block. -/
theorem own_any (v : Value) (zs : List Int) (n₀ : Nat) (hl : zs.length ≤ 4294967296) (w : World) (hH : Holds .i64 n₀ w v zs) (hn : n₀ ≤ w.heap.size) :
    Calls Try.prog 36 #[v] w fun e W' => e = .returned (.slice (some ⟨w.heap.size, 0, none⟩) zs.length zs.length) ∧ Row W' w.heap.size zs ∧ Below w.heap.size w W' := by
  obtain ⟨i0, hi, hz0, hz1, hz2⟩ := info_parts infoI64
  obtain ⟨a, cap, rfl⟩ := hH.shape
  go_enter Try.func36, Try.ntmps36
  go_wp2_with (at_make; refine wpList_make_full _ rfl _ _ 31 rfl w.heap.size 3 i0 (.int .i64 0) 1 Try.underlying31 hi hz0 hz1 .i64 .i64 _ _ zs.length rfl rfl rfl rfl (by rw [hz2]; omega) (by unfold maxLen; omega) (Nat.le_refl _) ?_; intro w1 hown1 hgrow1)
  have b1 : Below w.heap.size w w1 := (Below.refl _ w).grown hgrow1 (Nat.le_refl _) (fun k e => by cases e)
  obtain ⟨cur, hg1, hcs1⟩ : ∃ cur, w1.heap[w.heap.size]? = some (.cells cur 3 (0, 0)) ∧ cur.size = zs.length := by
    rcases hown1.2 with ⟨e, _⟩ | ⟨g, c, cur, e, _, hg, _, _, hs, _⟩
    · cases e
    · cases e; exact ⟨cur, hg, by simpa using hs⟩
  obtain ⟨w2, hrun2, hg2, b2⟩ := run_copy_ints a cap w.heap.size _ zs cur w1 hg1 hcs1 (hH.below (b1.mono hn))
  rw [hrun2]
  have b02 : Below w.heap.size w w2 := b1.trans b2
  clear hrun2 b2 b1 hg1 hcs1 hown1 hgrow1 hH cur
  go_wp2
  go_ret
  exact ⟨rfl, hg2, b02⟩

end Go.Proofs.Ytplobmkfmflkaaa
