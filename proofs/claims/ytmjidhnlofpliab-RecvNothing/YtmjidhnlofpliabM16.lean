/-
  What crc.seal and Seal answer, for every text in memory.
-/
import Derived.Test.YtmjidhnlofpliabM01
import Derived.Test.YtmjidhnlofpliabM07
import Derived.Test.YtmjidhnlofpliabM12
import Derived.Deep.AppendLies
import Derived.Maps.AppendAt
import Derived.OwnWalk
namespace Go.Proofs.Ytmjidhnlofpliab
open Go.RowKit

/-- A new block of numbers is held. -/
theorem holds_new (kd : IntKind) (w : World) (zs : List Int) (cap : Nat) (t : TypeId) (fr : Nat × Nat) : Holds kd (w.alloc (.cells (zs.map (Value.int kd)).toArray t fr)).heap.size (w.alloc (.cells (zs.map (Value.int kd)).toArray t fr)) (.slice (some ⟨w.heap.size, 0, none⟩) zs.length cap) zs := by
  refine .inr ⟨w.heap.size, 0, cap, rfl, by simp, fun j hj => ?_⟩
  have := World.news_of_block (World.alloc_heap_new w (.cells (zs.map (Value.int kd)).toArray t fr)) j (.int kd (zs[j]?.getD 0)) (by simp [hj])
  rwa [Addr.add_lit] at this

set_option maxRecDepth 100000 in
set_option maxHeartbeats 2000000 in
/-- The seal's four bytes, in a new block. -/
theorem seal_any (a : Option Addr) (cap : Nat) (xs : List Int) (hl : xs.length ≤ 4294967296) (bx : ∀ z ∈ xs, 0 ≤ z ∧ z ≤ 255) (w : World) (n₀ : Nat) (ha : Holds .u8 n₀ w (.slice a xs.length cap) xs) :
    Calls Try.prog 65 #[.slice a xs.length cap] w fun e w' => e = .returned (.slice (some ⟨w.heap.size, 0, none⟩) 4 4) ∧ Holds .u8 w'.heap.size w' (.slice (some ⟨w.heap.size, 0, none⟩) 4 4) (four (sum32 xs)) ∧ Below w.heap.size w w' := by
  have hs := sum32_lt xs
  go_enter Try.func65, Try.ntmps65
  go_wp2_with fail
  refine (sum32_any a cap xs hl bx w n₀ ha).mono ?_
  rintro e w2 ⟨rfl, rfl⟩
  obtain ⟨s, hse⟩ : ∃ s, sum32 xs = s := ⟨_, rfl⟩
  have HV : Hid (sum32 xs = s) := hse
  rw [hse] at hs ⊢
  clear hse ha bx
  have e0 : IntKind.u8.wrap (s : Int) = ((s % 256 : Nat) : Int) := by rw [IntKind.wrap_u8]; omega
  have e1 : IntKind.u8.wrap ((s : Int) / 256) = ((s / 256 % 256 : Nat) : Int) := by rw [IntKind.wrap_u8]; omega
  have e2 : IntKind.u8.wrap ((s : Int) / 65536) = ((s / 65536 % 256 : Nat) : Int) := by rw [IntKind.wrap_u8]; omega
  have e3 : IntKind.u8.wrap ((s : Int) / 16777216) = ((s / 16777216 % 256 : Nat) : Int) := by rw [IntKind.wrap_u8]; omega
  obtain ⟨t0, h0⟩ : ∃ t, s % 256 = t := ⟨_, rfl⟩
  obtain ⟨t1, h1⟩ : ∃ t, s / 256 % 256 = t := ⟨_, rfl⟩
  obtain ⟨t2, h2⟩ : ∃ t, s / 65536 % 256 = t := ⟨_, rfl⟩
  obtain ⟨t3, h3⟩ : ∃ t, s / 16777216 % 256 = t := ⟨_, rfl⟩
  have HF : Hid (four s = [(t0 : Int), (t1 : Int), (t2 : Int), (t3 : Int)]) := by rw [← h0, ← h1, ← h2, ← h3]; exact rfl
  rw [h0] at e0
  rw [h1] at e1
  rw [h2] at e2
  rw [h3] at e3
  clear h0 h1 h2 h3
  go_wp2
  go_ret
  refine ⟨rfl, ?_, (Below.refl _ w).alloc (Nat.le_refl _) _⟩
  rw [HV.out, HF.out]
  exact holds_new .u8 w [(t0 : Int), (t1 : Int), (t2 : Int), (t3 : Int)] 4 _ _

set_option maxRecDepth 100000 in
set_option maxHeartbeats 2000000 in
theorem Seal_any (a : Option Addr) (cap : Nat) (xs : List Int) (hl : xs.length ≤ 4092) (bx : ∀ z ∈ xs, 0 ≤ z ∧ z ≤ 255) (w : World) (ha : Holds .u8 w.heap.size w (.slice a xs.length cap) xs) :
    Calls Try.prog 42 #[.slice a xs.length cap] w fun e W' => ∃ r, e = .returned (.tuple #[r, .int .i64 0]) ∧ W'.ownsRow w.heap.size 5 1 r (xs.length + 4) ((sealL xs).map (Value.int .u8)) ∧ Below w.heap.size w W' := by
  obtain ⟨i0, hi, hz0, hz1, hz2⟩ := info_parts infoU8
  have ed : decide ((4092 : Int) < (xs.length : Int)) = false := decide_eq_false (by omega)
  have HS : Hid (sealL xs = xs ++ four (sum32 xs)) := rfl
  go_enter Try.func42, Try.ntmps42
  go_wp2_with (first | (at_make; refine wpList_make_own _ rfl _ _ 26 rfl w.heap.size 5 i0 (.int .u8 0) 1 Try.underlying26 hi hz0 hz1 .i64 .i64 _ (xs.length + 4) rfl rfl (by omega) (by rw [hz2]; omega) (by unfold maxLen; omega) (Nat.le_refl _) ?_; intro w1 hown1 hgrow1; have b1 : Below w.heap.size w w1 := (Below.refl _ w).grown hgrow1 (Nat.le_refl _) (fun k e => by cases e); obtain ⟨v2, w2, hr2, o2, hg2⟩ := run_append_u8 _ _ 0 w.heap.size w.heap.size [] xs 26 w1 hown1 (ha.below b1) b1.size (by omega) (by omega)) | (at_builtin; refine wpList_append_run rfl _ _ 26 rfl _ _ rfl rfl v2 w2 hr2 ?_))
  have b2 : Below w.heap.size w w2 := b1.trans (below_grown hown1 hg2 b1.size)
  have ha2 := ha.next b2
  have b02 := b2.size
  clear hr2 hg2 hgrow1 hown1 b1
  refine (seal_any a cap xs (by omega) bx w2 w2.heap.size ha2).mono ?_
  rintro e w3 ⟨rfl, h3, b3⟩
  rw [Nat.zero_add, List.nil_append] at o2
  have o3 := row_below o2 b3 (Nat.le_refl _)
  obtain ⟨v4, w4, hr4, o4, hg4⟩ := run_append_u8 _ _ xs.length w.heap.size w3.heap.size xs (four (sum32 xs)) 26 w3 o3 h3 (by have := b3.size; omega) (by omega) (by simp [four])
  have b4 : Below w.heap.size w w4 := (b2.trans (b3.mono b02)).trans (below_grown o3 hg4 (by have := b3.size; omega))
  have o5 : w4.ownsRow w.heap.size 5 1 v4 (xs.length + 4) ((sealL xs).map (Value.int .u8)) := o4
  clear o4 o3 o2 hg4 h3 b3 ha2 ha
  go_wp2_with (at_builtin; refine wpList_append_run rfl _ _ 26 rfl _ _ rfl rfl v4 w4 hr4 ?_)
  go_ret2
  exact ⟨_, rfl, o5, b4⟩

end Go.Proofs.Ytmjidhnlofpliab

/-
  A block whose first cells hold a text of bytes, and that may be written: what a store makes of it. No function of the program is spoken of.
-/
namespace Go.Proofs.Ytmjidhnlofpliab
open Go.RowKit

/-- Block g holds the text zs ahead of all; none of it is frozen. -/
def BRow (W : World) (g : Nat) (zs : List Int) : Prop := g < W.heap.size ∧ (∀ q, q < zs.length → W.cell? ⟨g, q, none⟩ = some (.int .u8 (zs[q]?.getD 0))) ∧ ∀ q, W.frozen? ⟨g, q, none⟩ = false

theorem BRow.cell {W : World} {g : Nat} {zs : List Int} (h : BRow W g zs) {q : Nat} {x : Int} (hq : zs[q]? = some x) : W.cell? ⟨g, q, none⟩ = some (.int .u8 x) := by
  rw [h.2.1 q (List.getElem?_eq_some_iff.1 hq).1, hq]; rfl
theorem BRow.set {W : World} {g : Nat} {zs : List Int} (h : BRow W g zs) (k : Nat) (hk : k < zs.length) (v : Int) : BRow (W.setCell ⟨g, k, none⟩ (.int .u8 v)) g (zs.set k v) := by
  refine ⟨by simpa [World.setCell] using h.1, fun q hq => ?_, fun q => by rw [World.frozen?_setCell]; exact h.2.2 q⟩
  rw [List.length_set] at hq
  by_cases e : q = k
  · subst e
    rw [World.cell?_setCell_same' _ _ _ (by rw [h.2.1 q hq]; rfl)]
    simp [hq]
  · rw [World.cell?_setCell_other _ _ _ _ (by intro e'; cases e'; exact e rfl), h.2.1 q hq, List.getElem?_set_ne (by omega)]
theorem BRow.other {W : World} {g g' : Nat} {zs : List Int} (h : BRow W g zs) (hne : g ≠ g') (k : Nat) (v : Value) : BRow (W.setCell ⟨g', k, none⟩ v) g zs := by
  refine ⟨by simpa [World.setCell] using h.1, fun q hq => ?_, fun q => by rw [World.frozen?_setCell]; exact h.2.2 q⟩
  rw [World.cell?_setCell_other _ _ _ _ (by intro e'; cases e'; exact hne rfl)]
  exact h.2.1 q hq
theorem BRow.drewN {W : World} {g : Nat} {zs : List Int} (h : BRow W g zs) (n : Nat) : BRow (W.drewN n) g zs := h
theorem BRow.below {W W' : World} {g n : Nat} {zs : List Int} (h : BRow W g zs) (hb : Below n W W') (hg : g < n) : BRow W' g zs := by
  refine ⟨Nat.lt_of_lt_of_le h.1 hb.size, fun q hq => (hb.cell (p := ⟨g, q, none⟩) hg).trans (h.2.1 q hq), fun q => ?_⟩
  have e : W'.frozen? ⟨g, q, none⟩ = W.frozen? ⟨g, q, none⟩ := by unfold World.frozen?; rw [hb.block g hg]
  rw [e]; exact h.2.2 q
theorem BRow.holds {W : World} {g n : Nat} {zs : List Int} (h : BRow W g zs) (hg : g < n) (cap : Nat) : Holds .u8 n W (.slice (some ⟨g, 0, none⟩) zs.length cap) zs :=
  .inr ⟨g, 0, cap, rfl, hg, fun j hj => by rw [Nat.zero_add]; exact h.2.1 j hj⟩

end Go.Proofs.Ytmjidhnlofpliab
