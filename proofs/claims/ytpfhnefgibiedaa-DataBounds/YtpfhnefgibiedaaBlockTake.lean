/-
  What package block's take answers: what bytes say, right or not.
-/
import Derived.Test.YtpfhnefgibiedaaBlockMake
namespace Go.Proofs.Ytpfhnefgibiedaa
open Go.RowKit

/-- The text that bytes say, with noughts behind it where they are too few. -/
def tkX (zs : List Int) : List Int := (zs.drop 6).take (rdN zs) ++ List.replicate (rdN zs - (zs.length - 6)) 0
theorem tkX_len (zs : List Int) : (tkX zs).length = rdN zs := by
  unfold tkX; rw [List.length_append, List.length_take, List.length_drop, List.length_replicate]; omega
theorem tkX_fits {Z : Nat} {zs : List Int} (hl : zs.length = Z + 10) (h : rdN zs ≤ Z) : tkX zs = rdX zs := by
  unfold tkX rdX
  rw [show rdN zs - (zs.length - 6) = 0 by omega]
  simp

theorem row_heap {W : World} {base n g : Nat} (h : W.ownsRow base 5 1 (.slice (some ⟨g, 0, none⟩) n n) n ((List.replicate n (0 : Int)).map (Value.int .u8))) : W.heap[g]? = some (.cells (List.replicate n (Value.int .u8 0)).toArray 5 (0, 0)) := by
  rw [List.map_replicate] at h
  rcases h.2 with ⟨e, _⟩ | ⟨g', c, cur, e, _, hg, _, _, hs, ht⟩
  · cases e
  · cases e
    rw [hg]
    congr 2
    have hc : cur.toList = List.replicate n (.int .u8 0) := by
      rw [← ht, List.take_of_length_le]
      simp [hs]
    rw [← hc]

theorem heap_holds {W : World} {g n cap : Nat} {ys : List Int} (h : W.heap[g]? = some (.cells (ys.map (Value.int .u8)).toArray 5 (0, 0))) (hl : ys.length = n) : Holds .u8 W.heap.size W (.slice (some ⟨g, 0, none⟩) n cap) ys := by
  subst hl
  refine .inr ⟨g, 0, cap, rfl, (Array.getElem?_eq_some_iff.1 h).1, fun j hj => ?_⟩
  simp [World.cell?, h, hj]

/-- copy over a row of noughts: its run. -/
theorem run_copy_over (g b off n L cap : Nat) (cs : List Int) (w : World) (hg : w.heap[g]? = some (.cells (List.replicate n (Value.int .u8 0)).toArray 5 (0, 0))) (hl : cs.length = Nat.min L n) (hn : cs.length ≤ n)
    (hc : ∀ (j : Nat) (v : Value), (cs.map (Value.int .u8))[j]? = some v → w.cell? ((⟨b, off, none⟩ : Addr).add j) = some v) :
    ∃ w2, (Builtin.copy_ #[22, 22] 3 #[.slice (some ⟨g, 0, none⟩) n n, .slice (some ⟨b, off, none⟩) L cap]).run Try.prog w = .ok (.int .i64 cs.length) w2 ∧ w2.heap[g]? = some (.cells ((cs ++ List.replicate (n - cs.length) 0).map (Value.int .u8)).toArray 5 (0, 0)) ∧ Below g w w2 := by
  obtain ⟨i0, hi, hz0, hz1, hz2⟩ := info_parts infoU8
  have hsz : (Try.prog.info? 5).map (·.size) = some 1 := by rw [hi]; simp [hz1]
  have hr := run_copy_row (P := Try.prog) w 22 22 3 5 g 0 n n ⟨b, off, none⟩ L cap _ 5 (cs.map (Value.int .u8)) Try.underlying22 hsz hg (by rw [List.length_map]; exact hl) hc (by simp; omega) (oneCells _ _)
  have e0 : ((List.replicate n (Value.int .u8 0)).toArray.toList.take 0 ++ cs.map (Value.int .u8) ++ (List.replicate n (Value.int .u8 0)).toArray.toList.drop (0 + (cs.map (Value.int .u8)).length)) = (cs ++ List.replicate (n - cs.length) 0).map (Value.int .u8) := by
    simp
  rw [e0, List.length_map] at hr
  exact ⟨_, hr, setRow_heap w g _ _ _ _ hg, below_setRow (Below.refl g w) (Nat.le_refl _) _⟩

theorem holds_set3 {kd : IntKind} {W : World} {D g n cap : Nat} {ys : List Int} (h : Holds kd W.heap.size W (.slice (some ⟨g, 0, none⟩) n cap) ys) (hD : g ≠ D) (x y z : Value) : Holds kd (((W.setCell ⟨D, 0, none⟩ x).setCell ⟨D, 1, none⟩ y).setCell ⟨D, 2, none⟩ z).heap.size (((W.setCell ⟨D, 0, none⟩ x).setCell ⟨D, 1, none⟩ y).setCell ⟨D, 2, none⟩ z) (.slice (some ⟨g, 0, none⟩) n cap) ys := by
  rcases h with h | ⟨b, off, c, e, hb, hc⟩
  · exact .inl h
  · cases e
    refine .inr ⟨g, 0, cap, rfl, by simpa [World.setCell] using hb, fun j hj => ?_⟩
    rw [World.cell?_setCell_other _ _ _ _ (fun e => hD (congrArg Addr.block e).symm), World.cell?_setCell_other _ _ _ _ (fun e => hD (congrArg Addr.block e).symm), World.cell?_setCell_other _ _ _ _ (fun e => hD (congrArg Addr.block e).symm)]
    exact hc j hj

end Go.Proofs.Ytpfhnefgibiedaa
