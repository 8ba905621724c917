/-
  A list of blocks, a message that is being put together, that came in as arguments.
-/
import Derived.Test.YtklmiapieaogdaaBlkMem
import Derived.Lib.SmallJoins
import Derived.Deep.Strs
import Derived.WalkKit
import Derived.ProofKit
import Derived.OpenShut
namespace Go.Proofs.Ytklmiapieaogdaa
open Go.RowKit

/-- Cells of structs that lie side by side. -/
theorem cellsK_cells {α : Type} (K : Kind α) {W : World} {b : Nat} : ∀ (r : Lies α) (off : Nat), (∀ (i : Nat) (x : α × List Value), r[i]? = some x → ∀ (c : Nat) (u : Value), (K.lie x.1 x.2)[c]? = some u → W.cell? ⟨b, off + i * K.k + c, none⟩ = some u) → ∀ (j : Nat) (u : Value), (cellsK K r)[j]? = some u → W.cell? ⟨b, off + j, none⟩ = some u
  | [], off, _, j, u, hj => by simp [cellsK] at hj
  | x :: r, off, h, j, u, hj => by
    have e : cellsK K (x :: r) = K.lie x.1 x.2 ++ cellsK K r := by simp [cellsK]
    rw [e] at hj
    by_cases hlt : j < K.k
    · rw [List.getElem?_append_left (by rw [K.len]; exact hlt)] at hj
      have := h 0 x rfl j u hj
      rwa [Nat.zero_mul, Nat.add_zero] at this
    · rw [List.getElem?_append_right (by rw [K.len]; omega), K.len] at hj
      have := cellsK_cells K r (off + K.k) (fun i y hy c v hv => by
        have := h (i + 1) y (by simpa using hy) c v hv
        rw [Nat.add_mul, Nat.one_mul] at this
        rw [show off + K.k + i * K.k + c = off + (i * K.k + K.k) + c by omega]
        exact this) (j - K.k) u hj
      rwa [show off + K.k + (j - K.k) = off + j by omega] at this

theorem cellsIntB : Try.prog.cellsOf 3 = 1 := by kernel_rfl
theorem cellsU8B : Try.prog.cellsOf 5 = 1 := by kernel_rfl
theorem cellsBytesB : Try.prog.cellsOf 22 = 1 := by kernel_rfl
theorem cellsBlockB : Try.prog.cellsOf 27 = 3 := by kernel_rfl
/-- A text that came in, opened. -/
theorem textB_of_trod {H : Type} {enc : TypeId × Value → H} {w : World} {base : Nat} {held : Bool} {fuel : Nat} {v : Value} {x : DataW H × List MemPlace}
    (h : DataW.trod enc Try.prog w base (fun _ => true) held fuel 22 [v] = some x) : ∃ a ys c, v = .slice a ys.length c ∧ Holds .u8 w.heap.size w v ys ∧ ys.length ≤ c ∧ c ≤ maxLen ∧ ∀ z ∈ ys, 0 ≤ z ∧ z ≤ 255 := by
  rcases Go.ChangeShapes.open_ints Try.underlying22 Try.underlying5 cellsU8B h with ⟨hcs, _⟩ | ⟨x3, l3, c3', zs, hcs, _, hl3, hm3, hz, _, hcell3, hwz⟩
  · simp at hcs
    subst hcs
    exact ⟨_, [], _, rfl, .inl ⟨⟨_, _, rfl, fun _ => rfl⟩, rfl⟩, Nat.le_refl _, by unfold maxLen; omega, by simp⟩
  · simp at hcs
    subst hcs
    obtain ⟨ys, e, hy, hw⟩ := holds_of_isRow (kd := .u8) (w := w) (a := some x3) (len := l3) (cap := c3') (zs := zs) (.inr ⟨x3, rfl, hl3, hm3, by simpa using hz, hcell3, hwz⟩)
    subst e
    exact ⟨_, ys, _, rfl, hy, hl3, hm3, bytes_bd hw⟩
def InI64 (z : Int) : Prop := -9223372036854775808 ≤ z ∧ z ≤ 9223372036854775807
/-- What is known of blocks that came in. -/
def BlksIn (l : List Bl) : Prop := ∀ y ∈ l, InI64 y.1 ∧ InI64 y.2.1 ∧ y.2.2.length ≤ maxLen ∧ ∀ z ∈ y.2.2, 0 ≤ z ∧ z ≤ 255
def IsBlks (w : World) (a : Option Addr) (len cap : Nat) (l : List Bl) : Prop := l.length = len ∧ len ≤ cap ∧ cap ≤ maxLen ∧ Blks w.heap.size w (.slice a len cap) l ∧ BlksIn l
set_option maxRecDepth 100000 in
set_option maxHeartbeats 1000000 in
theorem isBlks_of_trod {H : Type} {enc : TypeId × Value → H} {w : World} {base : Nat} {held : Bool} {fuel : Nat} {a : Option Addr} {len cap : Nat} {x : DataW H × List MemPlace}
    (h : DataW.trod enc Try.prog w base (fun _ => true) held fuel 25 [.slice a len cap] = some x) : ∃ l, IsBlks w a len cap l := by
  rcases Go.Deep.open_slice Try.underlying25 h with ⟨hcs, _⟩ | ⟨ad, len', cap', m, n, D, Pl, hcs, _, hl, hc, hm, _, hx⟩
  · simp at hcs
    obtain ⟨rfl, rfl, rfl⟩ := hcs
    exact ⟨[], rfl, Nat.le_refl _, by unfold maxLen; omega, sts_nil _ _ _, fun y hy => by simp at hy⟩
  · simp at hcs
    obtain ⟨rfl, rfl, rfl⟩ := hcs
    have hlm : len ≤ m := by rw [hm]; split <;> omega
    have each : ∀ i, i < len → ∃ q : Bl × Value, w.cell? (ad.add (i * 3)) = some (.int .i64 q.1.1) ∧ w.cell? (ad.add (i * 3 + 1)) = some (.int .i64 q.1.2.1) ∧ w.cell? (ad.add (i * 3 + 2)) = some q.2 ∧ Holds .u8 w.heap.size w q.2 q.1.2.2 ∧ InI64 q.1.1 ∧ InI64 q.1.2.1 ∧ q.1.2.2.length ≤ maxLen ∧ ∀ z ∈ q.1.2.2, 0 ≤ z ∧ z ≤ 255 := by
      intro i hi
      obtain ⟨cs', h1, h2⟩ := hx i (by omega)
      rw [cellsBlockB] at h1
      obtain ⟨_, hlen, hcell⟩ := World.cells?_some h1
      match cs', hlen with
      | [v0, v1, v2], _ =>
        obtain ⟨y0, y1, y2, k, _, _, t0, t1, t2⟩ := Go.Deep.trod_struct3 Try.underlying27 h2
        simp only [cellsIntB, cellsBytesB] at t0 t1 t2
        obtain ⟨z0, e0, _, w0⟩ := DataW.trod_int Try.underlying3 t0
        obtain ⟨z1, e1, _, w1⟩ := DataW.trod_int Try.underlying3 t1
        simp at e0 e1
        have c0 := hcell 0 (by omega)
        have c1 := hcell 1 (by omega)
        have c2 := hcell 2 (by omega)
        rw [Go.Deep.add_add] at c0 c1 c2
        simp at c0 c1 c2
        obtain ⟨ta, ys, tc, e2, hy, hyc, hcm, hyb⟩ := textB_of_trod (by simpa using t2)
        exact ⟨((z0, z1, ys), v2), by rw [c0, e0], by rw [c1, e1], c2, hy, bounds_i64 w0, bounds_i64 w1, Nat.le_trans hyc hcm, hyb⟩
    by_cases h0 : len = 0
    · subst h0
      exact ⟨[], rfl, hl, hc, ⟨[], rfl, .inl ⟨⟨_, _, rfl, fun e => by cases e⟩, rfl, rfl⟩, fun x hx => by simp at hx⟩, fun y hy => by simp at hy⟩
    · haveI : Inhabited (Bl × Value) := ⟨((0, 0, []), .bool false)⟩
      obtain ⟨q, hq⟩ := Go.Deep.choose_lt each
      obtain ⟨b, off, spot⟩ := ad
      have hspot : spot = none := by
        have := (hq 0 (by omega)).1
        simpa [Addr.add] using World.cell?_spot this
      subst hspot
      have hlen : ((List.range len).map fun i => (q i).1).length = len := by simp
      refine ⟨(List.range len).map fun i => (q i).1, hlen, hl, hc, ⟨(List.range len).map fun i => ((q i).1, [(q i).2]), by rw [List.map_map]; rfl, .inr ⟨b, off, cap, by rw [hlen], ?_, cellsK_cells blkK _ off fun i x hx c u hu => ?_⟩, fun x hx => ?_⟩, fun y hy => ?_⟩
      · have := (hq 0 (by omega)).1
        rw [Go.WideShapes.add_plain] at this
        exact cell_block_lt this
      · have hil : i < len := by simpa using (List.getElem?_eq_some_iff.1 hx).1
        rw [List.getElem?_map, List.getElem?_range hil] at hx
        simp at hx
        subst hx
        have hqi := hq i hil
        rw [Go.WideShapes.add_plain, Go.WideShapes.add_plain, Go.WideShapes.add_plain] at hqi
        match c, hu with
        | 0, hu => cases hu; exact hqi.1
        | 1, hu => cases hu; exact hqi.2.1
        | 2, hu => cases hu; exact hqi.2.2.1
        | c + 3, hu => simp [blkK] at hu
      · obtain ⟨i, hi, rfl⟩ := List.mem_map.1 hx
        have hqi := hq i (by simpa using hi)
        refine ⟨rfl, fun j p t hp ht => ?_⟩
        match j with
        | 0 => simp [blkK] at hp ht; subst hp ht; exact holdsC_ints hqi.2.2.2.1
        | j + 1 => simp at hp
      · obtain ⟨i, hi, rfl⟩ := List.mem_map.1 hy
        have hqi := hq i (by simpa using hi)
        exact ⟨hqi.2.2.2.2.1, hqi.2.2.2.2.2.1, hqi.2.2.2.2.2.2.1, hqi.2.2.2.2.2.2.2⟩

end Go.Proofs.Ytklmiapieaogdaa
