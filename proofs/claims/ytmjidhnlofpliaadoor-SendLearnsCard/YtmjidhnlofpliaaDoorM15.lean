/-
  What the page's Mix answers.
-/
import Derived.Test.YtmjidhnlofpliaaDoorM01
import Derived.Test.YtmjidhnlofpliaaDoorM06
import Derived.Test.YtmjidhnlofpliaaDoorM13
import Derived.Test.YtmjidhnlofpliaaDoorM14
import Derived.BigQuiet
import Derived.Deep.QuietTactic
import Derived.Laws.BitsAllLaws
import Derived.OwnWalk
import Derived.WalkLawsBesides
import Derived.WalkSpells
namespace Go.Proofs.YtmjidhnlofpliaaDoor
open Go.RowKit

end Go.Proofs.YtmjidhnlofpliaaDoor

/-
  What the page's Path answers, for every row in memory: are they nibbles alone?
-/
namespace Go.Proofs.YtmjidhnlofpliaaDoor
open Go.RowKit

end Go.Proofs.YtmjidhnlofpliaaDoor

/-
  What volutekeep.Twin answers, for every row of bytes: see Twins (this text holds nothing of its own).
-/
namespace Go.Proofs.YtmjidhnlofpliaaDoor

end Go.Proofs.YtmjidhnlofpliaaDoor

/-
  What the page's Bits, Sum16, Sum32 answer, for every text in memory.
-/
namespace Go.Proofs.YtmjidhnlofpliaaDoor
open Go.RowKit

end Go.Proofs.YtmjidhnlofpliaaDoor

/-
  A block whose first cells hold a text of bytes, and that may be written: what a store makes of it. No function of the program is spoken of.
-/
namespace Go.Proofs.YtmjidhnlofpliaaDoor
open Go.RowKit

/-- Block g holds the text zs ahead of all; none of it is frozen. -/
def BRow (W : World) (g : Nat) (zs : List Int) : Prop := g < W.heap.size ∧ (∀ q, q < zs.length → W.cell? ⟨g, q, none⟩ = some (.int .u8 (zs[q]?.getD 0))) ∧ ∀ q, W.frozen? ⟨g, q, none⟩ = false

theorem BRow.cell {W : World} {g : Nat} {zs : List Int} (h : BRow W g zs) {q : Nat} {x : Int} (hq : zs[q]? = some x) : W.cell? ⟨g, q, none⟩ = some (.int .u8 x) := by
  rw [h.2.1 q (List.getElem?_eq_some_iff.1 hq).1, hq]; rfl
theorem BRow.set {W : World} {g : Nat} {zs : List Int} (h : BRow W g zs) (k : Nat) (hk : k < zs.length) (v : Int) : BRow (W.setCell ⟨g, k, none⟩ (.int .u8 v)) g (zs.set k v) := by
  refine ⟨by simpa [World.setCell] using h.1, fun q hq => ?_, fun q => by rw [World.frozen?_setCell]; exact h.2.2 q⟩
  rw [List.length_set] at hq
  by_cases e : q = k
  · subst e
    rw [World.cell?_setCell_same' _ _ _ (by rw [h.2.1 q hq]; rfl)]
    simp [hq]
  · rw [World.cell?_setCell_other _ _ _ _ (by intro e'; cases e'; exact e rfl), h.2.1 q hq, List.getElem?_set_ne (by omega)]
theorem BRow.other {W : World} {g g' : Nat} {zs : List Int} (h : BRow W g zs) (hne : g ≠ g') (k : Nat) (v : Value) : BRow (W.setCell ⟨g', k, none⟩ v) g zs := by
  refine ⟨by simpa [World.setCell] using h.1, fun q hq => ?_, fun q => by rw [World.frozen?_setCell]; exact h.2.2 q⟩
  rw [World.cell?_setCell_other _ _ _ _ (by intro e'; cases e'; exact hne rfl)]
  exact h.2.1 q hq
theorem BRow.drewN {W : World} {g : Nat} {zs : List Int} (h : BRow W g zs) (n : Nat) : BRow (W.drewN n) g zs := h
theorem BRow.below {W W' : World} {g n : Nat} {zs : List Int} (h : BRow W g zs) (hb : Below n W W') (hg : g < n) : BRow W' g zs := by
  refine ⟨Nat.lt_of_lt_of_le h.1 hb.size, fun q hq => (hb.cell (p := ⟨g, q, none⟩) hg).trans (h.2.1 q hq), fun q => ?_⟩
  have e : W'.frozen? ⟨g, q, none⟩ = W.frozen? ⟨g, q, none⟩ := by unfold World.frozen?; rw [hb.block g hg]
  rw [e]; exact h.2.2 q
theorem BRow.holds {W : World} {g n : Nat} {zs : List Int} (h : BRow W g zs) (hg : g < n) (cap : Nat) : Holds .u8 n W (.slice (some ⟨g, 0, none⟩) zs.length cap) zs :=
  .inr ⟨g, 0, cap, rfl, hg, fun j hj => by rw [Nat.zero_add]; exact h.2.1 j hj⟩

/-- The sums, of a text whose length is said otherwise. -/
theorem Sum16_at (a : Option Addr) (n cap : Nat) (xs : List Int) (hn : xs.length = n) (hl : n ≤ 4096) (bx : ∀ z ∈ xs, 0 ≤ z ∧ z ≤ 255) (w : World) (n₀ : Nat) (ha : Holds .u8 n₀ w (.slice a n cap) xs) :
    Calls Tryd.prog 45 #[.slice a n cap] w fun e w' => e = .returned (.tuple #[.int .i64 ((sum16 xs : Nat) : Int), .int .i64 0]) ∧ w = w' := by
  subst hn; exact Sum16_any a cap xs hl bx w n₀ ha
end Go.Proofs.YtmjidhnlofpliaaDoor

/-
  What the page's Sum32 answers, for every text in memory.
-/
namespace Go.Proofs.YtmjidhnlofpliaaDoor
open Go.RowKit

set_option maxRecDepth 100000 in
set_option maxHeartbeats 2000000 in
theorem refSum32_any (a : Option Addr) (cap : Nat) (xs : List Int) (hl : xs.length ≤ 4294967296) (bx : ∀ z ∈ xs, 0 ≤ z ∧ z ≤ 255) (w : World) (ha : Holds .u8 w.heap.size w (.slice a xs.length cap) xs) :
    Calls Tryd.prog 69 #[.slice a xs.length cap] w fun e W' => e = .returned (.int .i64 (sum32 xs : Int)) ∧ ∃ q, W' = w.drewN q := by
  go_enter Tryd.func69, Tryd.ntmps69
  go_wp2
  go_loopw [3, 4] (fun v i wr => ∃ k : Nat, k ≤ xs.length ∧ i = .int .i64 k ∧ v = .int .i64 ((feed32 4294967295 (textLow (xs.take k)) : Nat) : Int) ∧ ∃ q, wr = w.drewN q) (fun _ i _ => xs.length - (intOf i).toNat)
  case atStart => exact ⟨0, Nat.zero_le _, rfl, rfl, 0, rfl⟩
  case round =>
    obtain ⟨k, hk, rfl, rfl, q, rfl⟩ := hrel
    by_cases hlt : k < xs.length
    · obtain ⟨z, hzk, hz0', hz1'⟩ : ∃ z, xs[k]? = some z ∧ 0 ≤ z ∧ z ≤ 255 := ⟨xs[k], by simp, (bx _ (List.getElem_mem _)).1, (bx _ (List.getElem_mem _)).2⟩
      rcases ha with ⟨_, e⟩ | ⟨b, off, cap', e, hb, hcs⟩
      · rw [e] at hlt; exact absurd hlt (by simp)
      · cases e
        have c1 : ∀ p, (w.drewN p).cell? ⟨b, off + k, none⟩ = some (.int .u8 z) := fun p => (hcs k hlt).trans (by rw [hzk]; rfl)
        have HN : Hid (feed32 4294967295 (textLow (xs.take (k + 1))) = feed32 (feed32 4294967295 (textLow (xs.take k))) (lows z.toNat)) := (congrArg (feed32 4294967295) (textLow_next hzk)).trans (feed32_append _ _ _)
        have hr := feed32_lt (textLow (xs.take k)) (r := 4294967295) (by decide) (textLow_01 _)
        obtain ⟨r, hre⟩ : ∃ r, feed32 4294967295 (textLow (xs.take k)) = r := ⟨_, rfl⟩
        rw [hre] at hr HN ⊢
        clear hcs hzk bx hre
        go_wp2
        go_loopw [3, 5] (fun v i wq => ∃ j : Nat, j ≤ 8 ∧ i = .int .i64 j ∧ v = .int .i64 ((feed32 r ((lows z.toNat).take j) : Nat) : Int) ∧ ∃ q, wq = w.drewN q) (fun _ i _ => 8 - (intOf i).toNat)
        case atStart => exact ⟨0, Nat.zero_le _, rfl, rfl, q, rfl⟩
        case round =>
          obtain ⟨j, hj, rfl, rfl, q2, rfl⟩ := hrel
          by_cases hj8 : j < 8
          · have hg := lows_get z.toNat j hj8
            have hb2 : z.toNat / 2 ^ j % 2 < 2 := Nat.mod_lt _ (by decide)
            have hy0 : 0 ≤ z / 2 ^ j := Int.ediv_nonneg hz0' (Int.le_of_lt (Int.pow_pos (by decide)))
            have hy1 : z / 2 ^ j ≤ 255 := Int.le_trans (Int.ediv_le_self _ hz0') hz1'
            have ew : wrap64 (z / 2 ^ j) = z / 2 ^ j := by unfold wrap64; omega
            have ea : bits .and .i64 (z / 2 ^ j) 1 = ((z.toNat / 2 ^ j % 2 : Nat) : Int) := and1_of z _ hz0' hz1'
            have hs := feed32_lt ((lows z.toNat).take j) hr (fun x hx => lows_01 _ x (List.mem_of_mem_take hx))
            have HM : Hid (feed32 r ((lows z.toNat).take (j + 1)) = m32 (feed32 r ((lows z.toNat).take j) ^^^ z.toNat / 2 ^ j % 2)) := by
              have : (lows z.toNat).take (j + 1) = (lows z.toNat).take j ++ [z.toNat / 2 ^ j % 2] := by rw [List.take_add_one, hg]; rfl
              exact (congrArg (feed32 r) this).trans (feed32_snoc _ _ _)
            obtain ⟨t, ht⟩ : ∃ t : Nat, z.toNat / 2 ^ j % 2 = t := ⟨_, rfl⟩
            obtain ⟨s, hse⟩ : ∃ s, feed32 r ((lows z.toNat).take j) = s := ⟨_, rfl⟩
            rw [ht] at ea hb2 HM
            rw [hse] at hs HM ⊢
            clear ht hse hg
            go_wp2_with fail
            refine (refShift32_any s t hs hb2 _).mono ?_
            rintro e w2 ⟨rfl, rfl⟩
            go_wp2
            go_roundw
            case rel => exact ⟨j + 1, by omega, by go_num, by rw [HM.out], q2, rfl⟩
            case measure => simp [intOf]; omega
          · obtain rfl : j = 8 := by omega
            have HM : Hid (feed32 r ((lows z.toNat).take 8) = feed32 r (lows z.toNat)) := rfl
            clear hj8 hj
            go_wp2
            go_roundw
            case rel => exact ⟨k + 1, by omega, by go_num, by rw [HN.out, ← HM.out], q2, rfl⟩
            case measure => simp [intOf]; omega
    · obtain rfl : k = xs.length := by omega
      have hr := feed32_lt (textLow (xs.take xs.length)) (r := 4294967295) (by decide) (textLow_01 _)
      have HV : Hid (feed32 4294967295 (textLow (xs.take xs.length)) ^^^ 4294967295 = sum32 xs) := by
        have : xs.take xs.length = xs := List.take_length
        exact congrArg (fun l => feed32 4294967295 (textLow l) ^^^ 4294967295) this
      obtain ⟨r, hre⟩ : ∃ r, feed32 4294967295 (textLow (xs.take xs.length)) = r := ⟨_, rfl⟩
      rw [hre] at hr HV ⊢
      have hx : bits .xor .i64 (r : Int) 4294967295 = ((r ^^^ 4294967295 : Nat) : Int) := zi_xor r 4294967295 (by omega) (by decide)
      clear hlt hk ha hre
      go_wp2
      go_ret
      exact ⟨by rw [← HV.out]; rfl, q, rfl⟩

end Go.Proofs.YtmjidhnlofpliaaDoor
