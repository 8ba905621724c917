/-
  What the page's within, Poly, at, Add answer.
-/
import Derived.Test.YtecfniimpedlkaaRefTrim
namespace Go.Proofs.Ytecfniimpedlkaa
open Go.RowKit

set_option maxRecDepth 100000 in
set_option maxHeartbeats 2000000 in
theorem within_any (v : Value) (zs : List Int) (hl : zs.length ≤ 4294967296) (w : World) (hH : Has w v zs) :
    Calls Try.prog 21 #[v, .int .i64 0, .int .i64 1] w fun e w' => (e = .returned (.bool true) ∧ Bin zs ∨ e = .returned (.bool false) ∧ ¬ Bin zs) ∧ ∃ q, w' = w.drewN q := by
  obtain ⟨a, cap, rfl⟩ := hH.1.shape
  have ha := hH.1
  clear hH
  go_enter Try.func21, Try.ntmps21
  go_wp2
  go_loopw [7] (fun i wr => ∃ k q : Nat, k ≤ zs.length ∧ i = .int .i64 k ∧ Bin (zs.take k) ∧ wr = w.drewN q) (fun i _ => zs.length - (intOf i).toNat)
  case atStart => exact ⟨0, 0, Nat.zero_le _, rfl, Bin.nil, rfl⟩
  case round =>
    obtain ⟨k, q, hk, rfl, hb, rfl⟩ := hrel
    have HB : Hid (Bin (zs.take k)) := hb
    clear hb
    by_cases hlt : k < zs.length
    · obtain ⟨z, hzk⟩ : ∃ z, zs[k]? = some z := ⟨zs[k], by simp⟩
      rcases ha with ⟨_, e⟩ | ⟨b, off, cap', e, hbb, hcs⟩
      · rw [e] at hlt; exact absurd hlt (by simp)
      · cases e
        have c1 : ∀ p, (w.drewN p).cell? ⟨b, off + k, none⟩ = some (.int .i64 z) := fun p => (hcs k hlt).trans (by rw [hzk]; rfl)
        have HZ : Hid (zs[k]? = some z) := hzk
        clear hcs hzk
        by_cases h0 : z < 0
        · have HN : Hid (¬ Bin zs) := fun h => by have := h.get HZ.out; omega
          go_wp2
          go_ret
          exact ⟨.inr ⟨rfl, HN.out⟩, q, rfl⟩
        · by_cases h1 : 1 < z
          · have HN : Hid (¬ Bin zs) := fun h => by have := h.get HZ.out; omega
            go_wp2
            go_ret
            exact ⟨.inr ⟨rfl, HN.out⟩, q, rfl⟩
          · have HS : Hid (Bin (zs.take (k + 1))) := bin_snoc HB.out HZ.out (by omega)
            go_wp2
            go_roundw
            case rel => exact ⟨k + 1, _, by omega, by go_num, HS.out, rfl⟩
            case measure => simp [intOf]; omega
    · obtain rfl : k = zs.length := by omega
      have HA : Hid (Bin zs) := by have := HB.out; rwa [List.take_length] at this
      clear ha hlt
      go_wp2
      go_ret
      exact ⟨.inl ⟨rfl, HA.out⟩, q, rfl⟩

set_option maxRecDepth 100000 in
set_option maxHeartbeats 2000000 in
theorem poly_any (v : Value) (zs : List Int) (hl : zs.length ≤ 32768) (w : World) (hH : Has w v zs) :
    Calls Try.prog 9 #[v] w fun e w' => (∃ r : Int, e = .returned (.int .i64 r) ∧ (r = 0 ∧ Bin zs ∨ r = 1 ∧ ¬ Bin zs)) ∧ ∃ q, w' = w.drewN q := by
  obtain ⟨a, cap, rfl⟩ := hH.1.shape
  go_enter Try.func9, Try.ntmps9
  go_wp2_with fail
  refine (within_any _ zs (by omega) w hH).mono ?_
  rintro e w' ⟨⟨rfl, hb⟩ | ⟨rfl, hb⟩, q, rfl⟩
  · have HB : Hid (Bin zs) := hb
    clear hb hH
    go_wp2
    go_ret
    exact ⟨⟨0, rfl, .inl ⟨rfl, HB.out⟩⟩, q, rfl⟩
  · have HB : Hid (¬ Bin zs) := hb
    clear hb hH
    go_wp2
    go_ret
    exact ⟨⟨1, rfl, .inr ⟨rfl, HB.out⟩⟩, q, rfl⟩

/-- The coefficient of the power k. -/
def atL (l : List Int) (k : Nat) : Int := if k < l.length then l[l.length - 1 - k]?.getD 0 else 0

set_option maxRecDepth 100000 in
set_option maxHeartbeats 2000000 in
theorem at_any (v : Value) (zs : List Int) (hl : zs.length ≤ 4294967296) (k : Nat) (hk : k ≤ 4294967296) (w : World) (hH : Has w v zs) :
    Calls Try.prog 26 #[v, .int .i64 k] w fun e w' => e = .returned (.int .i64 (atL zs k)) ∧ w = w' := by
  obtain ⟨a, cap, rfl⟩ := hH.1.shape
  have ha := hH.1
  clear hH
  by_cases hlt : k < zs.length
  · rcases ha with ⟨_, e⟩ | ⟨b, off, cap', e, hbb, hcs⟩
    · rw [e] at hlt; exact absurd hlt (by simp)
    · cases e
      obtain ⟨j, hj⟩ : ∃ j, zs.length - 1 - k = j := ⟨_, rfl⟩
      have hjl : j < zs.length := by omega
      have hji : (zs.length : Int) - 1 - (k : Int) = (j : Int) := by omega
      have hA : atL zs k = zs[j]?.getD 0 := by unfold atL; rw [if_pos hlt, hj]
      have HA : Hid (atL zs k = zs[j]?.getD 0) := hA
      obtain ⟨z, hz⟩ : ∃ z, zs[j]?.getD 0 = z := ⟨_, rfl⟩
      have c1 : w.cell? ⟨b, off + j, none⟩ = some (.int .i64 z) := by rw [hcs j hjl, hz]
      rw [hz] at HA
      clear hcs hz hj hA
      go_enter Try.func26, Try.ntmps26
      go_wp2
      go_ret
      exact ⟨by rw [HA.out]; rfl, rfl⟩
  · have hA : atL zs k = 0 := by unfold atL; rw [if_neg hlt]
    have HA : Hid (atL zs k = 0) := hA
    clear ha hA
    go_enter Try.func26, Try.ntmps26
    go_wp2
    go_ret
    exact ⟨by rw [HA.out]; rfl, rfl⟩

end Go.Proofs.Ytecfniimpedlkaa
