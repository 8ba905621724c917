/-
  What the page's Bits and Nibbles answer, for every text in memory.
-/
import Derived.Test.YtnecdbmdgpoogaaDoorM01
import Derived.Test.YtnecdbmdgpoogaaDoorM04
import Derived.Test.YtnecdbmdgpoogaaDoorM07
import Derived.Deep.AppendLies
import Derived.Deep.RegionHeldLaw
import Derived.Maps.AppendAt
namespace Go.Proofs.YtnecdbmdgpoogaaDoor
open Go.RowKit

/-- The bit at a place of the row. -/
theorem bit_of (z : Int) (j : Nat) (hj : j < 8) : (bitsOf z)[j]? = some (z / 2 ^ (7 - j) % 2) := by
  match j, hj with
  | 0, _ => rfl
  | 1, _ => rfl
  | 2, _ => rfl
  | 3, _ => rfl
  | 4, _ => rfl
  | 5, _ => rfl
  | 6, _ => rfl
  | 7, _ => simp [bitsOf]

theorem flat_take_succ {xs : List Int} {k : Nat} {z : Int} (hz : xs[k / 8]? = some z) : (xs.flatMap bitsOf).take (k + 1) = (xs.flatMap bitsOf).take k ++ [z / 2 ^ (7 - k % 8) % 2] := by
  have hlt : k / 8 < xs.length := (List.getElem?_eq_some_iff.1 hz).1
  have e : xs.flatMap bitsOf = (xs.take (k / 8)).flatMap bitsOf ++ (bitsOf z ++ (xs.drop (k / 8 + 1)).flatMap bitsOf) := by
    have e1 : xs = xs.take (k / 8 + 1) ++ xs.drop (k / 8 + 1) := (List.take_append_drop _ _).symm
    conv => lhs; rw [e1, List.flatMap_append, flat_succ bitsOf hz]
    rw [List.append_assoc]
  have hl := flat_len bitsOf 8 (fun _ => rfl) xs (k / 8) (by omega)
  have hg : (xs.flatMap bitsOf)[k]? = some (z / 2 ^ (7 - k % 8) % 2) := by
    rw [e, List.getElem?_append_right (by omega), hl, show k - 8 * (k / 8) = k % 8 from by omega, List.getElem?_append_left (by show k % 8 < 8; omega)]
    exact bit_of z (k % 8) (by omega)
  rw [List.take_add_one, hg]; rfl

set_option maxRecDepth 100000 in
set_option maxHeartbeats 2000000 in
theorem refBits_any (a : Option Addr) (cap : Nat) (xs : List Int) (hl : xs.length ≤ 4294967296) (bx : ∀ z ∈ xs, 0 ≤ z ∧ z ≤ 255) (w : World) (ha : Holds .u8 w.heap.size w (.slice a xs.length cap) xs) :
    Calls Tryd.prog 59 #[.slice a xs.length cap] w fun e W' => ∃ r, e = .returned r ∧ W'.ownsRow w.heap.size 3 1 r (8 * xs.length) ((xs.flatMap bitsOf).map (Value.int .i64)) ∧ Below w.heap.size w W' := by
  obtain ⟨i0, hi, hz0, hz1, hz2⟩ := info_parts infoI64
  have HF : Hid ((xs.flatMap bitsOf).length = 8 * xs.length) := by
    have := flat_len bitsOf 8 (fun _ => rfl) xs xs.length (Nat.le_refl _); rwa [List.take_length] at this
  go_enter Tryd.func59, Tryd.ntmps59
  go_wp2
  go_loopw [3, 4] (fun v i wr => ∃ k : Nat, k ≤ 8 * xs.length ∧ i = .int .i64 k ∧ wr.ownsRow w.heap.size 3 1 v k (((xs.flatMap bitsOf).take k).map (Value.int .i64)) ∧ Below w.heap.size w wr) (fun _ i _ => 8 * xs.length - (intOf i).toNat)
  case atStart => exact ⟨0, Nat.zero_le _, rfl, World.ownsRow_nil _ _ _ _, Below.refl _ _⟩
  case round =>
    obtain ⟨k, hk, rfl, ho, hbw⟩ := hrel
    by_cases hlt : k < 8 * xs.length
    · obtain ⟨z, hzk, hz0', hz1'⟩ : ∃ z, xs[k / 8]? = some z ∧ 0 ≤ z ∧ z ≤ 255 := by
        have hin : k / 8 < xs.length := by omega
        exact ⟨xs[k / 8], by simp, (bx _ (List.getElem_mem _)).1, (bx _ (List.getElem_mem _)).2⟩
      rcases ha with ⟨_, e⟩ | ⟨b, off, cap', e, hb, hcs⟩
      · rw [e] at hlt; exact absurd hlt (by simp)
      · cases e
        have c1 : wr.cell? ⟨b, off + k / 8, none⟩ = some (.int .u8 z) := (hbw.cell (p := ⟨b, off + k / 8, none⟩) hb).trans ((hcs (k / 8) (by omega)).trans (by rw [hzk]; rfl))
        have HS : Hid _ := flat_take_succ hzk
        have h8 : k / 8 < xs.length := by omega
        have hy0 : 0 ≤ z / 2 ^ (7 - k % 8) := Int.ediv_nonneg hz0' (Int.le_of_lt (Int.pow_pos (by decide)))
        have hy1 : z / 2 ^ (7 - k % 8) ≤ 255 := Int.le_trans (Int.ediv_le_self _ hz0') hz1'
        have ew : wrap64 (z / 2 ^ (7 - k % 8)) = z / 2 ^ (7 - k % 8) := by unfold wrap64; omega
        have ea : bits .and .i64 (z / 2 ^ (7 - k % 8)) 1 = z / 2 ^ (7 - k % 8) % 2 := i64_and1 _ hy0 (by omega)
        clear hcs hzk bx
        go_wp2_with (at_builtin; refine wpList_append_own _ rfl _ _ 73 rfl w.heap.size 3 i0 (.int .i64 0) 1 8 Tryd.underlying73 hi hz0 hz1 hz2 rfl (by decide) _ k _ rfl (ho.alloc _) ⟨wr.heap.size, 0, none⟩ 1 1 [.int .i64 (z / 2 ^ (7 - k % 8) % 2)] rfl rfl (cell_one_new _ _ _) (by simp [Value.oneCell']) (by unfold maxLen; omega) (by omega) (by have := hbw.size; simp; omega) ?_; intro v3 w3 hown3 hgrow3 _)
        have b3 : Below w.heap.size w w3 := (hbw.alloc hbw.size _).trans ((Below.refl _ _).grown hgrow3 (by have := hbw.size; simp; omega) (fun q e => (ho.lt q e).1))
        refine ⟨⟨k + 1, by omega, by go_num, ?_, b3⟩, by simp [intOf]; omega⟩
        rw [HS.out]
        simpa using hown3
    · obtain rfl : k = 8 * xs.length := by omega
      clear ha
      go_wp2
      go_ret
      refine ⟨_, rfl, ?_, hbw⟩
      rw [List.take_of_length_le (by rw [HF.out]; omega)] at ho
      exact ho

set_option maxRecDepth 100000 in
set_option maxHeartbeats 2000000 in
theorem refNibs_any (a : Option Addr) (cap : Nat) (xs : List Int) (hl : xs.length ≤ 4294967296) (bx : ∀ z ∈ xs, 0 ≤ z ∧ z ≤ 255) (w : World) (ha : Holds .u8 w.heap.size w (.slice a xs.length cap) xs) :
    Calls Tryd.prog 46 #[.slice a xs.length cap] w fun e W' => ∃ r, e = .returned r ∧ W'.ownsRow w.heap.size 3 1 r (2 * xs.length) ((xs.flatMap nibsOf).map (Value.int .i64)) ∧ Below w.heap.size w W' := by
  obtain ⟨i0, hi, hz0, hz1, hz2⟩ := info_parts infoI64
  go_enter Tryd.func46, Tryd.ntmps46
  go_wp2
  go_loopw [3, 4] (fun v i wr => ∃ k : Nat, k ≤ xs.length ∧ i = .int .i64 k ∧ wr.ownsRow w.heap.size 3 1 v (2 * k) (((xs.take k).flatMap nibsOf).map (Value.int .i64)) ∧ Below w.heap.size w wr) (fun _ i _ => xs.length - (intOf i).toNat)
  case atStart => exact ⟨0, Nat.zero_le _, rfl, World.ownsRow_nil _ _ _ _, Below.refl _ _⟩
  case round =>
    obtain ⟨k, hk, rfl, ho, hbw⟩ := hrel
    by_cases hlt : k < xs.length
    · obtain ⟨z, hzk, hz0', hz1'⟩ : ∃ z, xs[k]? = some z ∧ 0 ≤ z ∧ z ≤ 255 := ⟨xs[k], by simp, (bx _ (List.getElem_mem _)).1, (bx _ (List.getElem_mem _)).2⟩
      rcases ha with ⟨_, e⟩ | ⟨b, off, cap', e, hb, hcs⟩
      · rw [e] at hlt; exact absurd hlt (by simp)
      · cases e
        have c1 : wr.cell? ⟨b, off + k, none⟩ = some (.int .u8 z) := (hbw.cell (p := ⟨b, off + k, none⟩) hb).trans ((hcs k hlt).trans (by rw [hzk]; rfl))
        have HS : Hid ((xs.take (k + 1)).flatMap nibsOf = (xs.take k).flatMap nibsOf ++ [z / 16 % 16, z % 16]) := flat_succ nibsOf hzk
        have ew : IntKind.i64.wrap (z / 16) = z / 16 % 16 := by rw [IntKind.wrap_i64]; omega
        have e2 : bits .and .u8 z 15 = z % 16 := u8_and15 z hz0' (by omega)
        have ew2 : IntKind.i64.wrap (z % 16) = z % 16 := by rw [IntKind.wrap_i64]; omega
        have HO : Hid (wr.ownsRow w.heap.size 3 1 u3 (2 * k) (((xs.take k).flatMap nibsOf).map (Value.int .i64))) := ho
        have hbs := hbw.size
        have hbb : b < wr.heap.size := by omega
        have hneb : some b ≠ u3.ownBlock := fun e => by have := (ho.lt b e.symm).1; omega
        clear hcs hzk bx ho
        go_wp2
        go_region_held_law (fun w' => w'.cell? ⟨b, off + k, none⟩ = some (.int .u8 z)) (go_keep) ((refine step_append_lies _ rfl _ _ 73 rfl w.heap.size 3 i0 (.int .i64 0) 1 8 Tryd.underlying73 hi hz0 hz1 hz2 rfl (by decide) u3 (2 * k) _ (by simp [Act.eval]) (by exact (HO.out.alloc _).drew) ⟨wr.heap.size, 0, none⟩ 2 2 [.int .i64 (z / 16 % 16), .int .i64 (z % 16)] (by simp [Act.eval]) rfl (by exact World.news_of_block (World.alloc_heap_new _ _)) (by simp [Value.oneCell']) (by decide) (by unfold maxLen; omega) (by omega) (by simp; omega) _ rfl ?_; intro g9 cap9 w9 hown9 hgrow9 hat9 hlt9; have hs9 := hgrow9.cell (a := ⟨b, off + k, none⟩) ((((Below.refl _ wr).alloc (Nat.le_refl _) _).drew.cell (p := ⟨b, off + k, none⟩) hbb).trans c1) hneb))
        have b9 : Below w.heap.size w w9 := ((hbw.alloc hbw.size _).drew).trans ((Below.refl _ _).grown hgrow9 (by simp; omega) (fun q e => (HO.out.lt q e).1))
        go_wp2
        refine ⟨⟨k + 1, by omega, by go_num, ?_, b9⟩, by simp [intOf]; omega⟩
        rw [HS.out, Nat.mul_succ]
        simpa using hown9
    · obtain rfl : k = xs.length := by omega
      clear ha
      go_wp2
      go_ret
      refine ⟨_, rfl, ?_, hbw⟩
      rw [List.take_length] at ho
      exact ho

end Go.Proofs.YtnecdbmdgpoogaaDoor
