/-
  What crc.seal and Seal answer, for every text in memory.
-/
import Derived.Test.YtmjidhnlofpliaaDoorM08
import Derived.Test.YtmjidhnlofpliaaDoorM14
import Derived.Test.YtmjidhnlofpliaaDoorM15
import Derived.Deep.AppendLies
import Derived.Maps.AppendAt
import Derived.OwnWalk
namespace Go.Proofs.YtmjidhnlofpliaaDoor
open Go.RowKit

/-- A new block of numbers is held. -/
theorem holds_new (kd : IntKind) (w : World) (zs : List Int) (cap : Nat) (t : TypeId) (fr : Nat × Nat) : Holds kd (w.alloc (.cells (zs.map (Value.int kd)).toArray t fr)).heap.size (w.alloc (.cells (zs.map (Value.int kd)).toArray t fr)) (.slice (some ⟨w.heap.size, 0, none⟩) zs.length cap) zs := by
  refine .inr ⟨w.heap.size, 0, cap, rfl, by simp, fun j hj => ?_⟩
  have := World.news_of_block (World.alloc_heap_new w (.cells (zs.map (Value.int kd)).toArray t fr)) j (.int kd (zs[j]?.getD 0)) (by simp [hj])
  rwa [Addr.add_lit] at this

set_option maxRecDepth 100000 in
set_option maxHeartbeats 2000000 in
/-- The seal's four bytes, in a new block. -/
theorem seal_any (a : Option Addr) (cap : Nat) (xs : List Int) (hl : xs.length ≤ 4294967296) (bx : ∀ z ∈ xs, 0 ≤ z ∧ z ≤ 255) (w : World) (n₀ : Nat) (ha : Holds .u8 n₀ w (.slice a xs.length cap) xs) :
    Calls Tryd.prog 68 #[.slice a xs.length cap] w fun e w' => e = .returned (.slice (some ⟨w.heap.size, 0, none⟩) 4 4) ∧ Holds .u8 w'.heap.size w' (.slice (some ⟨w.heap.size, 0, none⟩) 4 4) (four (sum32 xs)) ∧ Below w.heap.size w w' := by
  have hs := sum32_lt xs
  go_enter Tryd.func68, Tryd.ntmps68
  go_wp2_with fail
  refine (sum32_any a cap xs hl bx w n₀ ha).mono ?_
  rintro e w2 ⟨rfl, rfl⟩
  obtain ⟨s, hse⟩ : ∃ s, sum32 xs = s := ⟨_, rfl⟩
  have HV : Hid (sum32 xs = s) := hse
  rw [hse] at hs ⊢
  clear hse ha bx
  have e0 : IntKind.u8.wrap (s : Int) = ((s % 256 : Nat) : Int) := by rw [IntKind.wrap_u8]; omega
  have e1 : IntKind.u8.wrap ((s : Int) / 256) = ((s / 256 % 256 : Nat) : Int) := by rw [IntKind.wrap_u8]; omega
  have e2 : IntKind.u8.wrap ((s : Int) / 65536) = ((s / 65536 % 256 : Nat) : Int) := by rw [IntKind.wrap_u8]; omega
  have e3 : IntKind.u8.wrap ((s : Int) / 16777216) = ((s / 16777216 % 256 : Nat) : Int) := by rw [IntKind.wrap_u8]; omega
  obtain ⟨t0, h0⟩ : ∃ t, s % 256 = t := ⟨_, rfl⟩
  obtain ⟨t1, h1⟩ : ∃ t, s / 256 % 256 = t := ⟨_, rfl⟩
  obtain ⟨t2, h2⟩ : ∃ t, s / 65536 % 256 = t := ⟨_, rfl⟩
  obtain ⟨t3, h3⟩ : ∃ t, s / 16777216 % 256 = t := ⟨_, rfl⟩
  have HF : Hid (four s = [(t0 : Int), (t1 : Int), (t2 : Int), (t3 : Int)]) := by rw [← h0, ← h1, ← h2, ← h3]; exact rfl
  rw [h0] at e0
  rw [h1] at e1
  rw [h2] at e2
  rw [h3] at e3
  clear h0 h1 h2 h3
  go_wp2
  go_ret
  refine ⟨rfl, ?_, (Below.refl _ w).alloc (Nat.le_refl _) _⟩
  rw [HV.out, HF.out]
  exact holds_new .u8 w [(t0 : Int), (t1 : Int), (t2 : Int), (t3 : Int)] 4 _ _

set_option maxRecDepth 100000 in
set_option maxHeartbeats 2000000 in
theorem Seal_any (a : Option Addr) (cap : Nat) (xs : List Int) (hl : xs.length ≤ 4092) (bx : ∀ z ∈ xs, 0 ≤ z ∧ z ≤ 255) (w : World) (ha : Holds .u8 w.heap.size w (.slice a xs.length cap) xs) :
    Calls Tryd.prog 58 #[.slice a xs.length cap] w fun e W' => ∃ r, e = .returned (.tuple #[r, .int .i64 0]) ∧ W'.ownsRow w.heap.size 5 1 r (xs.length + 4) ((sealL xs).map (Value.int .u8)) ∧ Below w.heap.size w W' := by
  obtain ⟨i0, hi, hz0, hz1, hz2⟩ := info_parts infoU8
  have ed : decide ((4092 : Int) < (xs.length : Int)) = false := decide_eq_false (by omega)
  have HS : Hid (sealL xs = xs ++ four (sum32 xs)) := rfl
  go_enter Tryd.func58, Tryd.ntmps58
  go_wp2_with (first | (at_make; refine wpList_make_own _ rfl _ _ 35 rfl w.heap.size 5 i0 (.int .u8 0) 1 Tryd.underlying35 hi hz0 hz1 .i64 .i64 _ (xs.length + 4) rfl rfl (by omega) (by rw [hz2]; omega) (by unfold maxLen; omega) (Nat.le_refl _) ?_; intro w1 hown1 hgrow1; have b1 : Below w.heap.size w w1 := (Below.refl _ w).grown hgrow1 (Nat.le_refl _) (fun k e => by cases e); obtain ⟨v2, w2, hr2, o2, hg2⟩ := run_append_u8 _ _ 0 w.heap.size w.heap.size [] xs 35 w1 hown1 (ha.below b1) b1.size (by omega) (by omega)) | (at_builtin; refine wpList_append_run rfl _ _ 35 rfl _ _ rfl rfl v2 w2 hr2 ?_))
  have b2 : Below w.heap.size w w2 := b1.trans (below_grown hown1 hg2 b1.size)
  have ha2 := ha.next b2
  have b02 := b2.size
  clear hr2 hg2 hgrow1 hown1 b1
  refine (seal_any a cap xs (by omega) bx w2 w2.heap.size ha2).mono ?_
  rintro e w3 ⟨rfl, h3, b3⟩
  rw [Nat.zero_add, List.nil_append] at o2
  have o3 := row_below o2 b3 (Nat.le_refl _)
  obtain ⟨v4, w4, hr4, o4, hg4⟩ := run_append_u8 _ _ xs.length w.heap.size w3.heap.size xs (four (sum32 xs)) 35 w3 o3 h3 (by have := b3.size; omega) (by omega) (by simp [four])
  have b4 : Below w.heap.size w w4 := (b2.trans (b3.mono b02)).trans (below_grown o3 hg4 (by have := b3.size; omega))
  have o5 : w4.ownsRow w.heap.size 5 1 v4 (xs.length + 4) ((sealL xs).map (Value.int .u8)) := o4
  clear o4 o3 o2 hg4 h3 b3 ha2 ha
  go_wp2_with (at_builtin; refine wpList_append_run rfl _ _ 35 rfl _ _ rfl rfl v4 w4 hr4 ?_)
  go_ret2
  exact ⟨_, rfl, o5, b4⟩

end Go.Proofs.YtmjidhnlofpliaaDoor

/-
  What the page's Seal and Sealed answer, for every text in memory.
-/
namespace Go.Proofs.YtmjidhnlofpliaaDoor
open Go.RowKit

set_option maxRecDepth 100000 in
set_option maxHeartbeats 2000000 in
theorem refSeal_any (a : Option Addr) (cap : Nat) (xs : List Int) (hl : xs.length ≤ 1000000) (bx : ∀ z ∈ xs, 0 ≤ z ∧ z ≤ 255) (w : World) (ha : Holds .u8 w.heap.size w (.slice a xs.length cap) xs) :
    Calls Tryd.prog 52 #[.slice a xs.length cap] w fun e W' => ∃ r, e = .returned r ∧ W'.ownsRow w.heap.size 5 1 r (xs.length + 4) ((sealL xs).map (Value.int .u8)) ∧ Below w.heap.size w W' := by
  obtain ⟨i0, hi, hz0, hz1, hz2⟩ := info_parts infoU8
  have hs := sum32_lt xs
  have HS : Hid (sealL xs = xs ++ four (sum32 xs)) := rfl
  go_enter Tryd.func52, Tryd.ntmps52
  go_wp2_with fail
  refine (refSum32_any a cap xs (by omega) bx w ha).mono ?_
  rintro e w1 ⟨rfl, q, rfl⟩
  obtain ⟨s, hse⟩ : ∃ s, sum32 xs = s := ⟨_, rfl⟩
  rw [hse] at hs HS ⊢
  clear hse bx
  go_wp2_with fail
  refine (twin_any _ xs _ (by omega) (w.drewN q) ha).mono ?_
  rintro e w2 ⟨r2, rfl, o2, b2⟩
  have b02 : Below w.heap.size w w2 := (below_drewN (Below.refl _ w) q).trans b2
  clear ha b2
  have e0 : IntKind.u8.wrap (s : Int) = ((s % 256 : Nat) : Int) := by rw [IntKind.wrap_u8]; omega
  have e1 : IntKind.u8.wrap ((s : Int) / 256) = ((s / 256 % 256 : Nat) : Int) := by rw [IntKind.wrap_u8]; omega
  have e2 : IntKind.u8.wrap ((s : Int) / 65536) = ((s / 65536 % 256 : Nat) : Int) := by rw [IntKind.wrap_u8]; omega
  have e3 : IntKind.u8.wrap ((s : Int) / 16777216) = ((s / 16777216 % 256 : Nat) : Int) := by rw [IntKind.wrap_u8]; omega
  obtain ⟨t0, h0⟩ : ∃ t, s % 256 = t := ⟨_, rfl⟩
  obtain ⟨t1, h1⟩ : ∃ t, s / 256 % 256 = t := ⟨_, rfl⟩
  obtain ⟨t2, h2⟩ : ∃ t, s / 65536 % 256 = t := ⟨_, rfl⟩
  obtain ⟨t3, h3⟩ : ∃ t, s / 16777216 % 256 = t := ⟨_, rfl⟩
  have HF : Hid (four s = [(t0 : Int), (t1 : Int), (t2 : Int), (t3 : Int)]) := by rw [← h0, ← h1, ← h2, ← h3]; exact rfl
  rw [h0] at e0
  rw [h1] at e1
  rw [h2] at e2
  rw [h3] at e3
  clear h0 h1 h2 h3
  go_wp2_with (at_builtin; refine wpList_append_own _ rfl _ _ 35 rfl w.heap.size 5 i0 (.int .u8 0) 1 1 Tryd.underlying35 hi hz0 hz1 hz2 rfl (by decide) _ xs.length _ rfl (o2.alloc _) ⟨w2.heap.size, 0, none⟩ 4 4 [.int .u8 t0, .int .u8 t1, .int .u8 t2, .int .u8 t3] rfl rfl (by exact World.news_of_block (World.alloc_heap_new _ _)) (by simp [Value.oneCell']) (by unfold maxLen; omega) (by omega) (by have := b02.size; simp; omega) ?_; intro v3 w3 hown3 hgrow3 _)
  have b3 : Below w.heap.size w w3 := (b02.alloc b02.size _).trans ((Below.refl _ _).grown hgrow3 (by have := b02.size; simp; omega) (fun q e => (o2.lt q e).1))
  have hown4 : w3.ownsRow w.heap.size 5 1 v3 (xs.length + 4) ((sealL xs).map (Value.int .u8)) := by
    rw [HS.out, HF.out, List.map_append]
    exact hown3
  go_ret
  exact ⟨_, rfl, hown4, b3⟩

end Go.Proofs.YtmjidhnlofpliaaDoor
