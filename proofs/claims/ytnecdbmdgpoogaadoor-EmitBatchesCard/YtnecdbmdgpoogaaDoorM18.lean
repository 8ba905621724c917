/-
  What the page's Bits, Sum16, Sum32 answer, for every text in memory.
-/
import Derived.Test.YtnecdbmdgpoogaaDoorM01
import Derived.Test.YtnecdbmdgpoogaaDoorM07
import Derived.Test.YtnecdbmdgpoogaaDoorM15
import Derived.BigQuiet
import Derived.Deep.QuietTactic
import Derived.OwnWalk
namespace Go.Proofs.YtnecdbmdgpoogaaDoor
open Go.RowKit

theorem infoInt : (Tryd.prog.info? 3).map (fun i => (i.zero, i.size, i.bytes)) = some (some (.int .i64 0), 1, 8) := by kernel_rfl

set_option maxRecDepth 100000 in
set_option maxHeartbeats 2000000 in
theorem refBitsS_any (a : Option Addr) (cap : Nat) (xs : List Int) (hl : xs.length ≤ 4294967296) (bx : ∀ z ∈ xs, 0 ≤ z ∧ z ≤ 255) (w : World) (ha : Holds .u8 w.heap.size w (.slice a xs.length cap) xs) :
    Calls Tryd.prog 59 #[.slice a xs.length cap] w fun e W' => ∃ r, e = .returned r ∧ W'.ownsRow w.heap.size 3 1 r (8 * xs.length) ((textHigh xs).map cellN) ∧ Below w.heap.size w W' := by
  obtain ⟨i0, hi, hz0, hz1, hz2⟩ := info_parts infoInt
  go_enter Tryd.func59, Tryd.ntmps59
  go_wp2
  go_loopw [3, 4] (fun v i wr => ∃ k : Nat, k ≤ 8 * xs.length ∧ i = .int .i64 k ∧ wr.ownsRow w.heap.size 3 1 v k (((textHigh xs).take k).map cellN) ∧ Below w.heap.size w wr) (fun _ i _ => 8 * xs.length - (intOf i).toNat)
  case atStart => exact ⟨0, Nat.zero_le _, rfl, World.ownsRow_nil _ _ _ _, Below.refl _ _⟩
  case round =>
    obtain ⟨k, hk, rfl, ho, hbw⟩ := hrel
    by_cases hlt : k < 8 * xs.length
    · obtain ⟨z, hzk, hz0', hz1'⟩ : ∃ z, xs[k / 8]? = some z ∧ 0 ≤ z ∧ z ≤ 255 := by
        have hin : k / 8 < xs.length := by omega
        exact ⟨xs[k / 8], by simp, (bx _ (List.getElem_mem _)).1, (bx _ (List.getElem_mem _)).2⟩
      rcases ha with ⟨_, e⟩ | ⟨b, off, cap', e, hb, hcs⟩
      · rw [e] at hlt; exact absurd hlt (by simp)
      · cases e
        have c1 : wr.cell? ⟨b, off + k / 8, none⟩ = some (.int .u8 z) := (hbw.cell (p := ⟨b, off + k / 8, none⟩) hb).trans ((hcs (k / 8) (by omega)).trans (by rw [hzk]; rfl))
        have HS : Hid _ := textHigh_next hzk
        have h8 : k / 8 < xs.length := by omega
        have hy0 : 0 ≤ z / 2 ^ (7 - k % 8) := Int.ediv_nonneg hz0' (Int.le_of_lt (Int.pow_pos (by decide)))
        have hy1 : z / 2 ^ (7 - k % 8) ≤ 255 := Int.le_trans (Int.ediv_le_self _ hz0') hz1'
        have ew : wrap64 (z / 2 ^ (7 - k % 8)) = z / 2 ^ (7 - k % 8) := by unfold wrap64; omega
        have ea : bits .and .i64 (z / 2 ^ (7 - k % 8)) 1 = ((z.toNat / 2 ^ (7 - k % 8) % 2 : Nat) : Int) := and1_of z _ hz0' hz1'
        obtain ⟨t, ht⟩ : ∃ t : Nat, z.toNat / 2 ^ (7 - k % 8) % 2 = t := ⟨_, rfl⟩
        rw [ht] at ea HS
        clear hcs hzk bx ht
        go_wp2_with (at_builtin; refine wpList_append_own _ rfl _ _ 73 rfl w.heap.size 3 i0 (.int .i64 0) 1 8 Tryd.underlying73 hi hz0 hz1 hz2 rfl (by decide) _ k _ rfl (ho.alloc _) ⟨wr.heap.size, 0, none⟩ 1 1 [.int .i64 t] rfl rfl (cell_one_new _ _ _) (by simp [Value.oneCell']) (by unfold maxLen; omega) (by omega) (by have := hbw.size; simp; omega) ?_; intro v3 w3 hown3 hgrow3 _)
        have b3 : Below w.heap.size w w3 := (hbw.alloc hbw.size _).trans ((Below.refl _ _).grown hgrow3 (by have := hbw.size; simp; omega) (fun q e => (ho.lt q e).1))
        refine ⟨⟨k + 1, by omega, by go_num, ?_, b3⟩, by simp [intOf]; omega⟩
        rw [HS.out, List.map_append]
        exact hown3
    · obtain rfl : k = 8 * xs.length := by omega
      clear ha
      go_wp2
      go_ret
      refine ⟨_, rfl, ?_, hbw⟩
      rw [List.take_of_length_le (by rw [textHigh_len]; omega)] at ho
      exact ho

set_option maxRecDepth 100000 in
set_option maxHeartbeats 2000000 in
theorem refSum16_any (a : Option Addr) (cap : Nat) (xs : List Int) (hl : xs.length ≤ 65536) (bx : ∀ z ∈ xs, 0 ≤ z ∧ z ≤ 255) (w : World) (ha : Holds .u8 w.heap.size w (.slice a xs.length cap) xs) :
    Calls Tryd.prog 44 #[.slice a xs.length cap] w fun e W' => e = .returned (.int .i64 (sum16 xs : Int)) ∧ Below w.heap.size w W' := by
  go_enter Tryd.func44, Tryd.ntmps44
  go_wp2_with fail
  refine (refBitsS_any a cap xs (by omega) bx w ha).mono ?_
  rintro e w1 ⟨r1, rfl, o1, b1⟩
  have HL : Hid ((textHigh xs).length = 8 * xs.length) := textHigh_len xs
  have HC : Hid (∀ g off cp, r1 = .slice (some ⟨g, off, none⟩) (8 * xs.length) cp → off = 0 ∧ ∀ (k b : Nat), (textHigh xs)[k]? = some b → w1.cell? ⟨g, k, none⟩ = some (.int .i64 (b : Int))) := by
    intro g off cp e
    rcases o1.2 with ⟨e', _⟩ | ⟨g', c', cur, e', _⟩
    · rw [e] at e'; cases e'
    · rw [e] at e'; cases e'
      subst e
      refine ⟨rfl, fun k b hb => ?_⟩
      have := o1.cells (g := g) rfl k (cellN b) (by simp [hb])
      rw [Addr.add_lit] at this
      simpa [cellN] using this
  obtain ⟨a1, c1, hr1⟩ : ∃ a1 c1, r1 = .slice a1 (8 * xs.length) c1 := by
    rcases o1.2 with ⟨e, e0⟩ | ⟨g, c, cur, e, _⟩
    · exact ⟨none, 0, by rw [e, e0]⟩
    · exact ⟨_, _, e⟩
  have hsh : 0 < 8 * xs.length → ∃ g, a1 = some ⟨g, 0, none⟩ := fun hp => by
    rcases o1.2 with ⟨_, e0⟩ | ⟨g, c, cur, e, _⟩
    · omega
    · rw [hr1] at e; cases e; exact ⟨g, rfl⟩
  subst hr1
  clear o1 ha
  go_wp2
  go_loopw [3, 5] (fun v i wr => ∃ k : Nat, k ≤ 8 * xs.length ∧ i = .int .i64 k ∧ v = .int .i64 ((feed16 65535 ((textHigh xs).take k) : Nat) : Int) ∧ wr = w1) (fun _ i _ => 8 * xs.length - (intOf i).toNat)
  case atStart => exact ⟨0, Nat.zero_le _, rfl, rfl, rfl⟩
  case round =>
    obtain ⟨k, hk, rfl, rfl, rfl⟩ := hrel
    by_cases hlt : k < 8 * xs.length
    · obtain ⟨g, rfl⟩ := hsh (by omega)
      obtain ⟨b, hb⟩ : ∃ b, (textHigh xs)[k]? = some b := ⟨(textHigh xs)[k]'(by rw [HL.out]; exact hlt), by simp⟩
      have cb := (HC.out g 0 c1 rfl).2 k b hb
      have hb2 : b < 2 := textHigh_01 xs b (List.mem_of_getElem? hb)
      have hr := feed16_lt ((textHigh xs).take k) (r := 65535) (by decide)
      have HN : Hid (feed16 65535 ((textHigh xs).take (k + 1)) = n16 (feed16 65535 ((textHigh xs).take k) ^^^ b * 32768)) := by
        have : (textHigh xs).take (k + 1) = (textHigh xs).take k ++ [b] := by rw [List.take_add_one, hb]; rfl
        exact (congrArg (feed16 65535) this).trans (feed16_snoc _ _ _)
      obtain ⟨r, hre⟩ : ∃ r, feed16 65535 ((textHigh xs).take k) = r := ⟨_, rfl⟩
      rw [hre] at hr HN ⊢
      clear hb hre hsh
      go_wp2_with fail
      refine (refShift16_any r b hr hb2 wr).mono ?_
      rintro e w2 ⟨rfl, rfl⟩
      go_wp2
      go_roundw
      case rel => exact ⟨k + 1, by omega, by go_num, by rw [HN.out], trivial⟩
      case measure => simp [intOf]; omega
    · obtain rfl : k = 8 * xs.length := by omega
      have HV : Hid (feed16 65535 ((textHigh xs).take (8 * xs.length)) = sum16 xs) := congrArg (feed16 65535) (List.take_of_length_le (by rw [HL.out]; exact Nat.le_refl _))
      clear hlt hk hsh
      go_wp2
      go_ret
      exact ⟨by rw [← HV.out]; rfl, b1⟩

end Go.Proofs.YtnecdbmdgpoogaaDoor
