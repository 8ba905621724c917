/-
  What the page's Trim answers of rows of 0 and 1.
-/
import Derived.Test.YtecfniimpedlkaaGfAll
namespace Go.Proofs.Ytecfniimpedlkaa
open Go.RowKit

set_option maxRecDepth 100000 in
set_option maxHeartbeats 2000000 in
theorem refTrim_own (v : Value) (zs : List Int) (hl : zs.length ≤ 4294967296) (hb : Bin zs) (w : World) (hH : Has w v zs) :
    Calls Try.prog 12 #[v] w fun e W' => ∃ r ys, e = .returned r ∧ W'.ownsRow w.heap.size 3 1 r ys.length (ys.map (Value.int .i64)) ∧ Tr ys ∧ val ys = val zs ∧ Below w.heap.size w W' := by
  obtain ⟨ha, a0, l0, c0, e0, hroom, hcap⟩ := hH
  obtain ⟨a, cap, rfl⟩ := ha.shape
  cases e0
  have HB : Hid (Bin zs) := hb
  clear hb
  go_enter Try.func12, Try.ntmps12
  go_wp2
  go_loopw [3] (fun i wr => ∃ k q : Nat, k ≤ zs.length ∧ i = .int .i64 k ∧ zs.take k = List.replicate k 0 ∧ wr = w.drewN q) (fun i _ => zs.length - (intOf i).toNat)
  case atStart => exact ⟨0, 0, Nat.zero_le _, rfl, rfl, rfl⟩
  case round =>
    obtain ⟨k, q, hk, rfl, htk, rfl⟩ := hrel
    have HT : Hid (zs.take k = List.replicate k 0) := htk
    clear htk
    by_cases hlt : k < zs.length
    · obtain ⟨z, hzk⟩ : ∃ z, zs[k]? = some z := ⟨zs[k], by simp⟩
      rcases ha with ⟨_, e⟩ | ⟨b, off, cap', e, hbb, hcs⟩
      · rw [e] at hlt; exact absurd hlt (by simp)
      · cases e
        have c1 : ∀ p, (w.drewN p).cell? ⟨b, off + k, none⟩ = some (.int .i64 z) := fun p => (hcs k hlt).trans (by rw [hzk]; rfl)
        have HZ : Hid (zs[k]? = some z) := hzk
        have h01 := HB.out.get hzk
        have HC : Hid (∀ j, j < zs.length → w.cell? ⟨b, off + j, none⟩ = some (.int .i64 (zs[j]?.getD 0))) := hcs
        clear hcs hzk
        by_cases hz1 : z = 1
        · subst hz1
          clear h01
          have hcn : ¬ c0 = k := by omega
          go_wp2_with fail
          have hH1 : Holds .i64 w.heap.size (w.drewN q) (.slice (some ⟨b, off + k, none⟩) (zs.length - k) (c0 - k)) (zs.drop k) := by
            refine .inr ⟨b, off + k, c0 - k, by rw [List.length_drop], hbb, fun j hj => ?_⟩
            rw [List.length_drop] at hj
            have := HC.out (k + j) (by omega)
            rw [Nat.add_assoc, List.getElem?_drop]
            exact this
          refine (twinInts_any _ (zs.drop k) _ (by simp; omega) _ hH1).mono ?_
          rintro e w1 ⟨r, rfl, ho, b1⟩
          obtain ⟨t1, t2⟩ := trim_val HB.out HT.out (by rw [List.head?_drop, HZ.out]; simp)
          have b2 : Below w.heap.size w w1 := (below_drewN (Below.refl _ w) q).trans b1
          have h2 := ho
          clear hH1 ho b1
          go_wp2
          go_ret
          exact ⟨_, _, rfl, h2, t1, t2, b2⟩
        · obtain rfl : z = 0 := h01.resolve_right hz1
          clear h01 hz1
          go_wp2
          go_roundw
          case rel => exact ⟨k + 1, q, by omega, by go_num, by rw [List.take_add_one, HZ.out, HT.out, List.replicate_succ']; rfl, rfl⟩
          case measure => simp [intOf]; omega
    · obtain rfl : k = zs.length := by omega
      clear ha hlt
      go_wp2
      go_ret
      refine ⟨_, [], rfl, World.ownsRow_nil _ _ _ _, Tr.nil, ?_, below_drewN (Below.refl _ w) q⟩
      have := HT.out
      rw [List.take_length] at this
      rw [this, val_noughts]; rfl

theorem refTrim_any (v : Value) (zs : List Int) (hl : zs.length ≤ 4294967296) (hb : Bin zs) (w : World) (hH : Has w v zs) :
    Calls Try.prog 12 #[v] w fun e W' => ∃ r ys, e = .returned r ∧ Has W' r ys ∧ Tr ys ∧ val ys = val zs ∧ Below w.heap.size w W' := by
  refine (refTrim_own v zs hl hb w hH).mono ?_
  rintro e w' ⟨r, ys, rfl, ho, h⟩
  exact ⟨r, ys, rfl, row_has ho, h⟩

end Go.Proofs.Ytecfniimpedlkaa
