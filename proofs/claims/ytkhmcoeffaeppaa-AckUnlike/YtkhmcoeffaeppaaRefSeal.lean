/-
  What the page's Seal and Sealed answer, for every text in memory.
-/
import Derived.Test.YtkhmcoeffaeppaaRefSum32
import Derived.Test.YtkhmcoeffaeppaaKeepBytes
import Derived.Deep.AppendLies
import Derived.Maps.AppendAt
namespace Go.Proofs.Ytkhmcoeffaeppaa
open Go.RowKit

set_option maxRecDepth 100000 in
set_option maxHeartbeats 2000000 in
theorem refSeal_any (a : Option Addr) (cap : Nat) (xs : List Int) (hl : xs.length ≤ 1000000) (bx : ∀ z ∈ xs, 0 ≤ z ∧ z ≤ 255) (w : World) (ha : Holds .u8 w.heap.size w (.slice a xs.length cap) xs) :
    Calls Try.prog 22 #[.slice a xs.length cap] w fun e W' => ∃ r, e = .returned r ∧ W'.ownsRow w.heap.size 5 1 r (xs.length + 4) ((sealL xs).map (Value.int .u8)) ∧ Below w.heap.size w W' := by
  obtain ⟨i0, hi, hz0, hz1, hz2⟩ := info_parts infoU8
  have hs := sum32_lt xs
  have HS : Hid (sealL xs = xs ++ four (sum32 xs)) := rfl
  go_enter Try.func22, Try.ntmps22
  go_wp2_with fail
  refine (refSum32_any a cap xs (by omega) bx w ha).mono ?_
  rintro e w1 ⟨rfl, q, rfl⟩
  obtain ⟨s, hse⟩ : ∃ s, sum32 xs = s := ⟨_, rfl⟩
  rw [hse] at hs HS ⊢
  clear hse bx
  go_wp2_with fail
  refine (twin_any _ xs _ (by omega) (w.drewN q) ha).mono ?_
  rintro e w2 ⟨r2, rfl, o2, b2⟩
  have b02 : Below w.heap.size w w2 := (below_drewN (Below.refl _ w) q).trans b2
  clear ha b2
  have e0 : IntKind.u8.wrap (s : Int) = ((s % 256 : Nat) : Int) := by rw [IntKind.wrap_u8]; omega
  have e1 : IntKind.u8.wrap ((s : Int) / 256) = ((s / 256 % 256 : Nat) : Int) := by rw [IntKind.wrap_u8]; omega
  have e2 : IntKind.u8.wrap ((s : Int) / 65536) = ((s / 65536 % 256 : Nat) : Int) := by rw [IntKind.wrap_u8]; omega
  have e3 : IntKind.u8.wrap ((s : Int) / 16777216) = ((s / 16777216 % 256 : Nat) : Int) := by rw [IntKind.wrap_u8]; omega
  obtain ⟨t0, h0⟩ : ∃ t, s % 256 = t := ⟨_, rfl⟩
  obtain ⟨t1, h1⟩ : ∃ t, s / 256 % 256 = t := ⟨_, rfl⟩
  obtain ⟨t2, h2⟩ : ∃ t, s / 65536 % 256 = t := ⟨_, rfl⟩
  obtain ⟨t3, h3⟩ : ∃ t, s / 16777216 % 256 = t := ⟨_, rfl⟩
  have HF : Hid (four s = [(t0 : Int), (t1 : Int), (t2 : Int), (t3 : Int)]) := by rw [← h0, ← h1, ← h2, ← h3]; exact rfl
  rw [h0] at e0
  rw [h1] at e1
  rw [h2] at e2
  rw [h3] at e3
  clear h0 h1 h2 h3
  go_wp2_with (at_builtin; refine wpList_append_own _ rfl _ _ 25 rfl w.heap.size 5 i0 (.int .u8 0) 1 1 Try.underlying25 hi hz0 hz1 hz2 rfl (by decide) _ xs.length _ rfl (o2.alloc _) ⟨w2.heap.size, 0, none⟩ 4 4 [.int .u8 t0, .int .u8 t1, .int .u8 t2, .int .u8 t3] rfl rfl (by exact World.news_of_block (World.alloc_heap_new _ _)) (by simp [Value.oneCell']) (by unfold maxLen; omega) (by omega) (by have := b02.size; simp; omega) ?_; intro v3 w3 hown3 hgrow3 _)
  have b3 : Below w.heap.size w w3 := (b02.alloc b02.size _).trans ((Below.refl _ _).grown hgrow3 (by have := b02.size; simp; omega) (fun q e => (o2.lt q e).1))
  have hown4 : w3.ownsRow w.heap.size 5 1 v3 (xs.length + 4) ((sealL xs).map (Value.int .u8)) := by
    rw [HS.out, HF.out, List.map_append]
    exact hown3
  go_ret
  exact ⟨_, rfl, hown4, b3⟩

end Go.Proofs.Ytkhmcoeffaeppaa
