/-
  What crc.Table16 and Table32 answer: of each byte what the register is behind it, if it was 0.
-/
import Derived.Test.YtplobmkfmflkaaaByteRow
import Derived.Test.YtplobmkfmflkaaaTwinBytes
import Derived.OwnWalk
namespace Go.Proofs.Ytplobmkfmflkaaa
open Go.RowKit

theorem infoInt' : (Try.prog.info? 3).map (fun i => (i.zero, i.size, i.bytes)) = some (some (.int .i64 0), 1, 8) := by kernel_rfl

/-- Block g holds the numbers zs ahead of all; none of it is frozen. -/
def IRow (W : World) (g : Nat) (zs : List Int) : Prop := g < W.heap.size ∧ (∀ q, q < zs.length → W.cell? ⟨g, q, none⟩ = some (.int .i64 (zs[q]?.getD 0))) ∧ ∀ q, W.frozen? ⟨g, q, none⟩ = false

theorem IRow.of_own {W : World} {base n cap g : Nat} {zs : List Int} (h : W.ownsRow base 3 1 (.slice (some ⟨g, 0, none⟩) n cap) n (zs.map (Value.int .i64))) : IRow W g zs := by
  rcases h.2 with ⟨e, _⟩ | ⟨g', c, cur, e, _, hg, _⟩
  · cases e
  · cases e
    refine ⟨(Array.getElem?_eq_some_iff.1 hg).1, fun q hq => ?_, fun q => by simp [World.frozen?, hg]⟩
    have := h.cells (g := g) rfl q (.int .i64 (zs[q]?.getD 0)) (by simp [hq])
    rw [Addr.add_lit, Nat.zero_add] at this
    exact this
theorem IRow.set {W : World} {g : Nat} {zs : List Int} (h : IRow W g zs) (k : Nat) (hk : k < zs.length) (v : Int) : IRow (W.setCell ⟨g, k, none⟩ (.int .i64 v)) g (zs.set k v) := by
  refine ⟨by simpa [World.setCell] using h.1, fun q hq => ?_, fun q => by rw [World.frozen?_setCell]; exact h.2.2 q⟩
  rw [List.length_set] at hq
  by_cases e : q = k
  · subst e
    rw [World.cell?_setCell_same' _ _ _ (by rw [h.2.1 q hq]; rfl)]
    simp [hq]
  · rw [World.cell?_setCell_other _ _ _ _ (by intro e'; cases e'; exact e rfl), h.2.1 q hq, List.getElem?_set_ne (by omega)]
theorem IRow.holds {W : World} {g n : Nat} {zs : List Int} (h : IRow W g zs) (hg : g < n) (cap : Nat) : Holds .i64 n W (.slice (some ⟨g, 0, none⟩) zs.length cap) zs :=
  .inr ⟨g, 0, cap, rfl, hg, fun j hj => by rw [Nat.zero_add]; exact h.2.1 j hj⟩
theorem IRow.cell {W : World} {g : Nat} {zs : List Int} (h : IRow W g zs) {q : Nat} {x : Int} (hq : zs[q]? = some x) : W.cell? ⟨g, q, none⟩ = some (.int .i64 x) := by
  rw [h.2.1 q (List.getElem?_eq_some_iff.1 hq).1, hq]; rfl
theorem IRow.below {W W' : World} {g n : Nat} {zs : List Int} (h : IRow W g zs) (hb : Below n W W') (hg : g < n) : IRow W' g zs := by
  refine ⟨Nat.lt_of_lt_of_le h.1 hb.size, fun q hq => (hb.cell (p := ⟨g, q, none⟩) hg).trans (h.2.1 q hq), fun q => ?_⟩
  have e : W'.frozen? ⟨g, q, none⟩ = W.frozen? ⟨g, q, none⟩ := by unfold World.frozen?; rw [hb.block g hg]
  rw [e]; exact h.2.2 q

/-- The tables. -/
def tab16 : List Int := (List.range 256).map fun i => ((feed16 0 (highs i) : Nat) : Int)
def tab32 : List Int := (List.range 256).map fun i => ((feed32 0 (lows i) : Nat) : Int)
theorem tab16_len : tab16.length = 256 := by rw [tab16, List.length_map, List.length_range]
theorem tab32_len : tab32.length = 256 := by rw [tab32, List.length_map, List.length_range]
theorem tab16_get (i : Nat) (hi : i < 256) : tab16[i]? = some ((feed16 0 (highs i) : Nat) : Int) := by rw [tab16, List.getElem?_map, List.getElem?_range hi]; rfl
theorem tab32_get (i : Nat) (hi : i < 256) : tab32[i]? = some ((feed32 0 (lows i) : Nat) : Int) := by rw [tab32, List.getElem?_map, List.getElem?_range hi]; rfl

set_option maxRecDepth 100000 in
set_option maxHeartbeats 2000000 in
theorem Table16_any (w : World) :
    Calls Try.prog 16 #[] w fun e W' => e = .returned (.slice (some ⟨w.heap.size, 0, none⟩) 256 256) ∧ IRow W' w.heap.size tab16 ∧ Below w.heap.size w W' := by
  obtain ⟨i0, hi, hz0, hz1, hz2⟩ := info_parts infoInt'
  have HL : Hid (tab16.length = 256) := tab16_len
  go_enter Try.func16, Try.ntmps16
  go_wp2_with (at_make; refine wpList_make_full _ rfl _ _ 31 rfl w.heap.size 3 i0 (.int .i64 0) 1 Try.underlying31 hi hz0 hz1 .i64 .i64 _ _ 256 rfl rfl rfl rfl (by rw [hz2]; omega) (by unfold maxLen; omega) (Nat.le_refl _) ?_; intro w1 hown1 hgrow1)
  have b1 : Below w.heap.size w w1 := (Below.refl _ w).grown hgrow1 (Nat.le_refl _) (fun k e => by cases e)
  have hR1 : IRow w1 w.heap.size (tab16.take 0 ++ List.replicate (256 - 0) 0) := by
    rw [show (Value.int IntKind.i64 0).cells = #[.int .i64 0] from rfl, toList_madeCells_one, Nat.mul_one] at hown1
    rw [List.take_zero, List.nil_append, Nat.sub_zero]
    refine IRow.of_own (base := w.heap.size) (n := 256) (cap := 256) ?_
    rw [List.map_replicate]
    exact hown1
  clear hown1 hgrow1
  go_loopw [6] (fun i wr => ∃ k : Nat, k ≤ 256 ∧ i = .int .i64 k ∧ IRow wr w.heap.size (tab16.take k ++ List.replicate (256 - k) 0) ∧ Below w.heap.size w wr) (fun i _ => 256 - (intOf i).toNat)
  case atStart => exact ⟨0, Nat.zero_le _, rfl, hR1, b1⟩
  case round =>
    clear hR1 b1
    obtain ⟨k, hk, rfl, hR, hbw⟩ := hrel
    by_cases hlt : k < 256
    · have hg := tab16_get k hlt
      have hlen : (tab16.take k ++ List.replicate (256 - k) (0 : Int)).length = 256 := by rw [List.length_append, List.length_take, List.length_replicate, HL.out]; omega
      have hv := feed16_lt (highs k) (r := 0) (by decide)
      obtain ⟨v, hve⟩ : ∃ v, feed16 0 (highs k) = v := ⟨_, rfl⟩
      have HV : Hid (feed16 0 (highs k) = v) := hve
      rw [hve] at hv hg
      have hv' : v < 65536 := hv
      have HR : Hid (IRow (wr.setCell ⟨w.heap.size, k, none⟩ (.int .i64 (v : Int))) w.heap.size (tab16.take (k + 1) ++ List.replicate (256 - (k + 1)) 0)) := by
        have := hR.set k (by rw [hlen]; exact hlt) (v : Int)
        rwa [over_noughts hg hlt] at this
      obtain ⟨v0, c4⟩ : ∃ v0, wr.cell? ⟨w.heap.size, k, none⟩ = some (.int .i64 v0) := ⟨_, hR.2.1 k (by rw [hlen]; exact hlt)⟩
      have f1 := hR.2.2 k
      have e8 : IntKind.u8.wrap (k : Int) = (k : Int) := by rw [IntKind.wrap_u8]; omega
      clear hg hlen hve hR hv
      go_wp2_with fail
      refine (behind16_any 0 k (by decide) hlt wr).mono ?_
      rw [HV.out]
      rintro e w2 ⟨rfl, rfl⟩
      go_wp2
      go_roundw
      case rel => exact ⟨k + 1, by omega, by go_num, HR.out, hbw.setCell (p := ⟨w.heap.size, k, none⟩) (Nat.le_refl _) _⟩
      case measure => simp [intOf]; omega
    · obtain rfl : k = 256 := by omega
      have hR' : IRow wr w.heap.size tab16 := by
        rw [List.take_of_length_le (by rw [HL.out]; exact Nat.le_refl _), Nat.sub_self, List.replicate_zero, List.append_nil] at hR
        exact hR
      have HR : Hid _ := hR'
      clear hR hR' hlt
      go_wp2
      go_ret
      exact ⟨rfl, HR.out, hbw⟩

set_option maxRecDepth 100000 in
set_option maxHeartbeats 2000000 in
theorem Table32_any (w : World) :
    Calls Try.prog 17 #[] w fun e W' => e = .returned (.slice (some ⟨w.heap.size, 0, none⟩) 256 256) ∧ IRow W' w.heap.size tab32 ∧ Below w.heap.size w W' := by
  obtain ⟨i0, hi, hz0, hz1, hz2⟩ := info_parts infoInt'
  have HL : Hid (tab32.length = 256) := tab32_len
  go_enter Try.func17, Try.ntmps17
  go_wp2_with (at_make; refine wpList_make_full _ rfl _ _ 31 rfl w.heap.size 3 i0 (.int .i64 0) 1 Try.underlying31 hi hz0 hz1 .i64 .i64 _ _ 256 rfl rfl rfl rfl (by rw [hz2]; omega) (by unfold maxLen; omega) (Nat.le_refl _) ?_; intro w1 hown1 hgrow1)
  have b1 : Below w.heap.size w w1 := (Below.refl _ w).grown hgrow1 (Nat.le_refl _) (fun k e => by cases e)
  have hR1 : IRow w1 w.heap.size (tab32.take 0 ++ List.replicate (256 - 0) 0) := by
    rw [show (Value.int IntKind.i64 0).cells = #[.int .i64 0] from rfl, toList_madeCells_one, Nat.mul_one] at hown1
    rw [List.take_zero, List.nil_append, Nat.sub_zero]
    refine IRow.of_own (base := w.heap.size) (n := 256) (cap := 256) ?_
    rw [List.map_replicate]
    exact hown1
  clear hown1 hgrow1
  go_loopw [6] (fun i wr => ∃ k : Nat, k ≤ 256 ∧ i = .int .i64 k ∧ IRow wr w.heap.size (tab32.take k ++ List.replicate (256 - k) 0) ∧ Below w.heap.size w wr) (fun i _ => 256 - (intOf i).toNat)
  case atStart => exact ⟨0, Nat.zero_le _, rfl, hR1, b1⟩
  case round =>
    clear hR1 b1
    obtain ⟨k, hk, rfl, hR, hbw⟩ := hrel
    by_cases hlt : k < 256
    · have hg := tab32_get k hlt
      have hlen : (tab32.take k ++ List.replicate (256 - k) (0 : Int)).length = 256 := by rw [List.length_append, List.length_take, List.length_replicate, HL.out]; omega
      have hv := feed32_lt (lows k) (r := 0) (by decide) (lows_01 k)
      obtain ⟨v, hve⟩ : ∃ v, feed32 0 (lows k) = v := ⟨_, rfl⟩
      have HV : Hid (feed32 0 (lows k) = v) := hve
      rw [hve] at hv hg
      have hv' : v < 4294967296 := hv
      have HR : Hid (IRow (wr.setCell ⟨w.heap.size, k, none⟩ (.int .i64 (v : Int))) w.heap.size (tab32.take (k + 1) ++ List.replicate (256 - (k + 1)) 0)) := by
        have := hR.set k (by rw [hlen]; exact hlt) (v : Int)
        rwa [over_noughts hg hlt] at this
      obtain ⟨v0, c4⟩ : ∃ v0, wr.cell? ⟨w.heap.size, k, none⟩ = some (.int .i64 v0) := ⟨_, hR.2.1 k (by rw [hlen]; exact hlt)⟩
      have f1 := hR.2.2 k
      have e8 : IntKind.u8.wrap (k : Int) = (k : Int) := by rw [IntKind.wrap_u8]; omega
      clear hg hlen hve hR hv
      go_wp2_with fail
      refine (behind32_any 0 k (by decide) hlt wr).mono ?_
      rw [HV.out]
      rintro e w2 ⟨rfl, rfl⟩
      go_wp2
      go_roundw
      case rel => exact ⟨k + 1, by omega, by go_num, HR.out, hbw.setCell (p := ⟨w.heap.size, k, none⟩) (Nat.le_refl _) _⟩
      case measure => simp [intOf]; omega
    · obtain rfl : k = 256 := by omega
      have hR' : IRow wr w.heap.size tab32 := by
        rw [List.take_of_length_le (by rw [HL.out]; exact Nat.le_refl _), Nat.sub_self, List.replicate_zero, List.append_nil] at hR
        exact hR
      have HR : Hid _ := hR'
      clear hR hR' hlt
      go_wp2
      go_ret
      exact ⟨rfl, HR.out, hbw⟩

end Go.Proofs.Ytplobmkfmflkaaa
