/-
  What volutekeep.Blocks answers, for all lists of blocks in memory.
-/
import Derived.Test.YthpbiccgjpocaaaBlkMem
import Derived.Test.YthpbiccgjpocaaaRefBlock
import Derived.RegionTactic
import Derived.BigRegion
import Derived.Deep.RegionWith
namespace Go.Proofs.Ythpbiccgjpocaaa
open Go.RowKit

set_option maxHeartbeats 1000000 in
theorem blks_differ (a b : Option Addr) (m n cap cap' : Nat) (w : World) (hne : m ≠ n) :
    Calls Try.prog 12 #[.slice a m cap, .slice b n cap'] w fun e w' => e = .returned (.bool false) ∧ w = w' := by
  have hb : ((m : Int) != (n : Int)) = true := by rw [bne_iff_ne]; omega
  go_enter Try.func12, Try.ntmps12
  go_wp2
  go_ret
  exact ⟨rfl, rfl⟩

theorem take_eq_blks {xs ys : List Bl} {k : Nat} {x y : Bl} (hx : xs[k]? = some x) (hy : ys[k]? = some y) (h : xs.take k = ys.take k) (e : x = y) : xs.take (k + 1) = ys.take (k + 1) := by
  rw [List.take_add_one, List.take_add_one, hx, hy, h, e]

set_option maxRecDepth 100000 in
set_option maxHeartbeats 4000000 in
theorem blks_same (a b : Option Addr) (cap cap' len : Nat) (xs ys : List Bl) (hx : xs.length = len) (hy : ys.length = len) (hl : len ≤ 4611686018427387904) (hp : ∀ y ∈ ys, y.2.2.length ≤ 4611686018427387904) (w : World)
    (ha : Blks w.heap.size w (.slice a len cap) xs) (hb : Blks w.heap.size w (.slice b len cap') ys) :
    Calls Try.prog 12 #[.slice a len cap, .slice b len cap'] w fun e w' => e = .returned (.bool (decide (xs = ys))) ∧ Below w.heap.size w w' := by
  have hbne : ((len : Int) != (len : Int)) = false := by simp
  have HX : Hid (xs.length = len) := hx
  have HY : Hid (ys.length = len) := hy
  have HP : Hid (∀ y ∈ ys, y.2.2.length ≤ 4611686018427387904) := hp
  clear hx hy hp
  go_enter Try.func12, Try.ntmps12
  go_wp2
  go_loopw [5] (fun i wr => ∃ k : Nat, k ≤ len ∧ i = .int .i64 k ∧ xs.take k = ys.take k ∧ Below w.heap.size w wr) (fun i _ => len - (intOf i).toNat)
  case atStart => exact ⟨0, Nat.zero_le _, rfl, rfl, Below.refl _ _⟩
  case round =>
    obtain ⟨k, hk, rfl, heq, bw⟩ := hrel
    by_cases hlt : k < len
    · obtain ⟨b1, off, rfl, _, hcx⟩ := blks_at (ha.below bw) (by rw [HX.out]; omega)
      obtain ⟨b2, off', rfl, _, hcy⟩ := blks_at (hb.below bw) (by rw [HY.out]; omega)
      obtain ⟨⟨s, m, ps⟩, hxk⟩ : ∃ x, xs[k]? = some x := ⟨xs[k]'(by rw [HX.out]; exact hlt), by simp⟩
      obtain ⟨⟨t, m', qs⟩, hyk⟩ : ∃ y, ys[k]? = some y := ⟨ys[k]'(by rw [HY.out]; exact hlt), by simp⟩
      obtain ⟨p, hp, c1, c2, c3⟩ := hcx _ _ hxk
      obtain ⟨q, hq, d1, d2, d3⟩ := hcy _ _ hyk
      have hql : qs.length ≤ 4611686018427387904 := HP.out _ (List.mem_of_getElem? hyk)
      obtain ⟨pa, pc, rfl⟩ := hp.shape
      obtain ⟨qa, qc, rfl⟩ := hq.shape
      have HC := fun (wx : World) (e : wx.heap.size = wr.heap.size) => keepBlock_any s m t m' (.slice pa ps.length pc) (.slice qa qs.length qc) ps qs wx w.heap.size w.heap.size (by rw [e]; exact bw.size) (by rw [e]; exact bw.size) hql
      have HPH : Hid (Holds .u8 w.heap.size wr (.slice pa ps.length pc) ps) := hp
      have HQH : Hid (Holds .u8 w.heap.size wr (.slice qa qs.length qc) qs) := hq
      have HE : Hid (xs.take k = ys.take k) := heq
      by_cases hd : s = t ∧ m = m' ∧ ps = qs
      · rw [decide_eq_true hd] at HC
        have HN : Hid (xs.take (k + 1) = ys.take (k + 1)) := take_eq_blks hxk hyk heq (by rw [hd.1, hd.2.1, hd.2.2])
        have HCC : Hid (∀ (wx : World), wx.heap.size = wr.heap.size → Holds .u8 w.heap.size wx (.slice pa ps.length pc) ps → Holds .u8 w.heap.size wx (.slice qa qs.length qc) qs → Calls Try.prog 21 #[.agg #[.int .i64 s, .int .i64 m, .slice pa ps.length pc], .agg #[.int .i64 t, .int .i64 m', .slice qa qs.length qc]] wx fun e w' => e = .returned (.bool true) ∧ Below wx.heap.size wx w') := HC
        clear hd hp hq hxk hyk heq hcx hcy hql HC ha hb
        go_wp2
        first | go_region_with (go_at_call 21; refine (HCC.out _ (by rfl) (by exact HPH.out) (by exact HQH.out)).mono ?_; rintro e w2 ⟨rfl, bq⟩) | fail
        all_goals
          go_wp2
          go_roundw
          case rel => exact ⟨k + 1, by omega, by go_num, HN.out, bw.drew.trans (bq.mono bw.size)⟩
          case measure => simp [intOf]; omega
      · rw [decide_eq_false hd] at HC
        have HN : Hid (xs ≠ ys) := fun e => hd (by rw [e, hyk] at hxk; cases hxk; exact ⟨rfl, rfl, rfl⟩)
        have HCC : Hid (∀ (wx : World), wx.heap.size = wr.heap.size → Holds .u8 w.heap.size wx (.slice pa ps.length pc) ps → Holds .u8 w.heap.size wx (.slice qa qs.length qc) qs → Calls Try.prog 21 #[.agg #[.int .i64 s, .int .i64 m, .slice pa ps.length pc], .agg #[.int .i64 t, .int .i64 m', .slice qa qs.length qc]] wx fun e w' => e = .returned (.bool false) ∧ Below wx.heap.size wx w') := HC
        clear hd hp hq hxk hyk heq hcx hcy hql HC ha hb
        go_wp2
        first | go_region_with (go_at_call 21; refine (HCC.out _ (by rfl) (by exact HPH.out) (by exact HQH.out)).mono ?_; rintro e w2 ⟨rfl, bq⟩) | fail
        all_goals
          go_wp2
          go_ret
          exact ⟨by rw [decide_eq_false HN.out]; rfl, bw.drew.trans (bq.mono bw.size)⟩
    · obtain rfl : k = len := by omega
      have HE : Hid (xs = ys) := by rw [List.take_of_length_le (by rw [HX.out]; exact Nat.le_refl _), List.take_of_length_le (by rw [HY.out]; exact Nat.le_refl _)] at heq; exact heq
      clear heq
      go_wp2
      go_ret
      exact ⟨by rw [decide_eq_true HE.out]; rfl, bw⟩

theorem blks_any (va vb : Value) (xs ys : List Bl) (w : World) (hy : ys.length ≤ 4611686018427387904) (hp : ∀ y ∈ ys, y.2.2.length ≤ 4611686018427387904) (ha : Blks w.heap.size w va xs) (hb : Blks w.heap.size w vb ys) :
    Calls Try.prog 12 #[va, vb] w fun e w' => e = .returned (.bool (decide (xs = ys))) ∧ Below w.heap.size w w' := by
  obtain ⟨a, cap, rfl⟩ := ha.shape
  obtain ⟨b, cap', rfl⟩ := hb.shape
  by_cases hne : xs.length = ys.length
  · rw [hne] at ha ⊢
    exact blks_same a b cap cap' ys.length xs ys hne rfl hy hp w ha hb
  · refine (blks_differ a b xs.length ys.length cap cap' w hne).mono ?_
    rintro e w' ⟨rfl, rfl⟩
    exact ⟨by rw [decide_eq_false (fun e => hne (by rw [e]))], Below.refl _ _⟩

end Go.Proofs.Ythpbiccgjpocaaa
