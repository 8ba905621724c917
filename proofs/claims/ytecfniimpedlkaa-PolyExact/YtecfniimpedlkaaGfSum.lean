/-
  What gf2.Add answers of rows that are not too long.
-/
import Derived.Test.YtecfniimpedlkaaGfTrims
namespace Go.Proofs.Ytecfniimpedlkaa
open Go.RowKit

set_option maxRecDepth 100000 in
set_option maxHeartbeats 2000000 in
theorem add_arg (v v' : Value) (zs zs' : List Int) (hl : zs.length ≤ 32768) (hl' : zs'.length ≤ 32768) (hb : ¬ (Bin zs ∧ Bin zs')) (w : World) (hH : Has w v zs) (hH' : Has w v' zs') :
    Calls Try.prog 13 #[v, v'] w fun e W' => e = .returned (.tuple #[.slice none 0 0, .int .i64 1]) ∧ Below w.heap.size w W' := by
  obtain ⟨a, cap, rfl⟩ := hH.1.shape
  obtain ⟨a', cap', rfl⟩ := hH'.1.shape
  have HR := rowsAt_two hH hH' hl hl'
  have b0 : Below w.heap.size w (w.alloc (.cells #[.slice a zs.length cap, .slice a' zs'.length cap'] 22)) := (Below.refl _ w).alloc (Nat.le_refl _) _
  clear hH hH'
  go_enter Try.func13, Try.ntmps13
  go_wp2_with fail
  refine (check_any w.heap.size w.heap.size 2 [_, _] [zs, zs'] rfl (by omega) _ HR).mono ?_
  rintro e w' ⟨⟨r, rfl, hr⟩, q, rfl⟩
  have b1 := below_drewN b0 q
  obtain rfl : r = 1 := by
    rcases hr with ⟨_, h⟩ | ⟨h, _⟩
    · exact absurd ⟨h zs (by simp), h zs' (by simp)⟩ hb
    · exact h
  clear HR hr b0
  go_wp2
  go_ret2
  exact ⟨rfl, b1⟩

theorem bins_two {zs zs' : List Int} (h : Bin zs) (h' : Bin zs') : ∀ ys ∈ [zs, zs'], Bin ys := fun ys hy => by
  simp at hy
  exact hy.elim (fun e => e ▸ h) (fun e => e ▸ h')

theorem sum_val {P S : List Int} (hs : S.length ≤ P.length) : val S * 2 ^ (P.length - (P.length - S.length) - S.length) = val S := by
  rw [show P.length - (P.length - S.length) - S.length = 0 by omega]; simp

set_option maxRecDepth 100000 in
set_option maxHeartbeats 1000000 in
theorem add_ok (v v' : Value) (zs zs' : List Int) (hl : zs.length ≤ 32768) (hl' : zs'.length ≤ 32768) (hb : Bin zs) (hb' : Bin zs') (w : World) (hH : Has w v zs) (hH' : Has w v' zs') :
    Calls Try.prog 13 #[v, v'] w fun e W' => ∃ r ys, e = .returned (.tuple #[r, .int .i64 0]) ∧ Has W' r ys ∧ Tr ys ∧ val ys = val zs ^^^ val zs' ∧ Below w.heap.size w W' := by
  obtain ⟨a, cap, rfl⟩ := hH.1.shape
  obtain ⟨a', cap', rfl⟩ := hH'.1.shape
  have HR := rowsAt_two hH hH' hl hl'
  have b0 : Below w.heap.size w (w.alloc (.cells #[.slice a zs.length cap, .slice a' zs'.length cap'] 22)) := (Below.refl _ w).alloc (Nat.le_refl _) _
  go_enter Try.func13, Try.ntmps13
  go_wp2_with fail
  refine (check_any w.heap.size w.heap.size 2 [_, _] [zs, zs'] rfl (by omega) _ HR).mono ?_
  rintro e w' ⟨⟨r, rfl, hr⟩, q, rfl⟩
  have b1 := below_drewN b0 q
  obtain rfl : r = 0 := by
    rcases hr with ⟨h, _⟩ | ⟨_, h⟩
    · exact h
    · exact absurd (bins_two hb hb') h
  have h1 := hH.next b1
  have h1' := hH'.next b1
  obtain ⟨w1, hw1⟩ : ∃ w1, (w.alloc (.cells #[.slice a zs.length cap, .slice a' zs'.length cap'] 22)).drewN q = w1 := ⟨_, rfl⟩
  rw [hw1] at b1 h1 h1' ⊢
  clear HR hr b0 hH hH' hw1
  by_cases hlt : zs.length < zs'.length
  · by_cases hS0 : zs = []
    · subst hS0
      have hSL : ([] : List Int).length ≤ zs'.length := by simp
      have hlt0 : 0 < zs'.length := hlt
      clear hlt
      go_wp2_with fail
      refine (own_any _ zs' _ (by omega) w1 h1'.1 (Nat.le_refl _)).mono ?_
      rintro e w2 ⟨rfl, hrow, b2⟩
      have h2 := h1.1.below b2
      have b12 := b1.trans (b2.mono b1.size)
      clear h1 h1' b2
      go_wp2_with fail
      refine (addTo_any w1.heap.size zs'.length w1.heap.size _ _ zs' [] hb' Bin.nil (by simp) (by omega) (Nat.le_refl _) w2 hrow (fun h => absurd rfl h) h2).mono ?_
      rintro e w3 ⟨rfl, ⟨R, hR, hRb, hRl, hRv⟩, hO⟩
      rw [val_nil, Nat.zero_mul] at hRv
      have b13 := b12.trans (hO.1.mono b1.size)
      have h3 := hR.has (by omega)
      rw [hRl] at h3
      clear hrow h2 b12 hO
      go_wp2_with fail
      refine (trimmed_bin _ R _ (by omega) w3 h3.1 h3.2 hRb).mono ?_
      rintro e w' ⟨⟨r, ys, rfl, h4, h5, h6, h7, h8⟩, q, rfl⟩
      go_wp2_with fail
      refine (own_any r ys _ (by omega) _ h4 (Nat.le_refl _)).mono ?_
      rintro e w4 ⟨rfl, hrow, b4⟩
      have b5 : Below w.heap.size w w4 := (below_drewN b13 q).trans (b4.mono b13.size)
      clear h3 h4 h5 b4 b13
      go_wp2
      go_ret2
      exact ⟨_, ys, rfl, hrow.has (by omega), h6, by rw [h7, hRv, val_nil, Nat.xor_comm], b5⟩
    · obtain ⟨d, hd⟩ : ∃ d, d = zs'.length - zs.length := ⟨_, rfl⟩
      have hpos : 0 < zs.length := List.length_pos_iff.2 hS0
      have HD : Hid (d = zs'.length - zs.length) := hd
      have hd1 : (zs'.length : Int) - (zs.length : Int) = ((d : Nat) : Int) := by omega
      have hd2 : d ≤ zs'.length := by omega
      have hd3 : ¬ zs'.length = d := by omega
      have hSL : zs.length ≤ zs'.length := by omega
      clear hd hS0
      go_wp2_with fail
      refine (own_any _ zs' _ (by omega) w1 h1'.1 (Nat.le_refl _)).mono ?_
      rintro e w2 ⟨rfl, hrow, b2⟩
      have h2 := h1.1.below b2
      have b12 := b1.trans (b2.mono b1.size)
      clear h1 h1' b2
      go_wp2_with fail
      refine (addTo_any w1.heap.size d w1.heap.size _ _ zs' zs hb' hb (by have := HD.out; omega) (by omega) (Nat.le_refl _) w2 hrow (fun _ => ⟨_, rfl⟩) h2).mono ?_
      rintro e w3 ⟨rfl, ⟨R, hR, hRb, hRl, hRv⟩, hO⟩
      rw [HD.out, sum_val hSL] at hRv
      have b13 := b12.trans (hO.1.mono b1.size)
      have h3 := hR.has (by omega)
      rw [hRl] at h3
      clear hrow h2 b12 hO
      go_wp2_with fail
      refine (trimmed_bin _ R _ (by omega) w3 h3.1 h3.2 hRb).mono ?_
      rintro e w' ⟨⟨r, ys, rfl, h4, h5, h6, h7, h8⟩, q, rfl⟩
      go_wp2_with fail
      refine (own_any r ys _ (by omega) _ h4 (Nat.le_refl _)).mono ?_
      rintro e w4 ⟨rfl, hrow, b4⟩
      have b5 : Below w.heap.size w w4 := (below_drewN b13 q).trans (b4.mono b13.size)
      clear h3 h4 h5 b4 b13
      go_wp2
      go_ret2
      exact ⟨_, ys, rfl, hrow.has (by omega), h6, by rw [h7, hRv, Nat.xor_comm], b5⟩
  · by_cases hS0 : zs' = []
    · subst hS0
      have hSL : ([] : List Int).length ≤ zs.length := by simp
      clear hlt
      go_wp2_with fail
      refine (own_any _ zs _ (by omega) w1 h1.1 (Nat.le_refl _)).mono ?_
      rintro e w2 ⟨rfl, hrow, b2⟩
      have h2 := h1'.1.below b2
      have b12 := b1.trans (b2.mono b1.size)
      clear h1 h1' b2
      go_wp2_with fail
      refine (addTo_any w1.heap.size zs.length w1.heap.size _ _ zs [] hb Bin.nil (by simp) (by omega) (Nat.le_refl _) w2 hrow (fun h => absurd rfl h) h2).mono ?_
      rintro e w3 ⟨rfl, ⟨R, hR, hRb, hRl, hRv⟩, hO⟩
      rw [val_nil, Nat.zero_mul] at hRv
      have b13 := b12.trans (hO.1.mono b1.size)
      have h3 := hR.has (by omega)
      rw [hRl] at h3
      clear hrow h2 b12 hO
      go_wp2_with fail
      refine (trimmed_bin _ R _ (by omega) w3 h3.1 h3.2 hRb).mono ?_
      rintro e w' ⟨⟨r, ys, rfl, h4, h5, h6, h7, h8⟩, q, rfl⟩
      go_wp2_with fail
      refine (own_any r ys _ (by omega) _ h4 (Nat.le_refl _)).mono ?_
      rintro e w4 ⟨rfl, hrow, b4⟩
      have b5 : Below w.heap.size w w4 := (below_drewN b13 q).trans (b4.mono b13.size)
      clear h3 h4 h5 b4 b13
      go_wp2
      go_ret2
      exact ⟨_, ys, rfl, hrow.has (by omega), h6, by rw [h7, hRv, val_nil], b5⟩
    · obtain ⟨d, hd⟩ : ∃ d, d = zs.length - zs'.length := ⟨_, rfl⟩
      have hpos : 0 < zs'.length := List.length_pos_iff.2 hS0
      have HD : Hid (d = zs.length - zs'.length) := hd
      have hd1 : (zs.length : Int) - (zs'.length : Int) = ((d : Nat) : Int) := by omega
      have hd2 : d ≤ zs.length := by omega
      have hd3 : ¬ zs.length = d := by omega
      have hSL : zs'.length ≤ zs.length := by omega
      clear hd hS0
      go_wp2_with fail
      refine (own_any _ zs _ (by omega) w1 h1.1 (Nat.le_refl _)).mono ?_
      rintro e w2 ⟨rfl, hrow, b2⟩
      have h2 := h1'.1.below b2
      have b12 := b1.trans (b2.mono b1.size)
      clear h1 h1' b2
      go_wp2_with fail
      refine (addTo_any w1.heap.size d w1.heap.size _ _ zs zs' hb hb' (by have := HD.out; omega) (by omega) (Nat.le_refl _) w2 hrow (fun _ => ⟨_, rfl⟩) h2).mono ?_
      rintro e w3 ⟨rfl, ⟨R, hR, hRb, hRl, hRv⟩, hO⟩
      rw [HD.out, sum_val hSL] at hRv
      have b13 := b12.trans (hO.1.mono b1.size)
      have h3 := hR.has (by omega)
      rw [hRl] at h3
      clear hrow h2 b12 hO
      go_wp2_with fail
      refine (trimmed_bin _ R _ (by omega) w3 h3.1 h3.2 hRb).mono ?_
      rintro e w' ⟨⟨r, ys, rfl, h4, h5, h6, h7, h8⟩, q, rfl⟩
      go_wp2_with fail
      refine (own_any r ys _ (by omega) _ h4 (Nat.le_refl _)).mono ?_
      rintro e w4 ⟨rfl, hrow, b4⟩
      have b5 : Below w.heap.size w w4 := (below_drewN b13 q).trans (b4.mono b13.size)
      clear h3 h4 h5 b4 b13
      go_wp2
      go_ret2
      exact ⟨_, ys, rfl, hrow.has (by omega), h6, by rw [h7, hRv], b5⟩

end Go.Proofs.Ytecfniimpedlkaa
