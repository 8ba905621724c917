/-
  SpineBack: the walk: whatever the row, the law answers true, and nothing that lay has turned.
-/
import Derived.Test.YtcenigjiojlcgaaSpineWakes
import Derived.Test.YtcenigjiojlcgaaRefPath
namespace Go.Proofs.Ytcenigjiojlcgaa
open Go.RowKit

set_option maxRecDepth 100000 in
set_option maxHeartbeats 2000000 in
theorem spineBack_long (a : Option Addr) (n cap : Nat) (w : World) (h : 64 < n) :
    Calls Try.prog 5 #[.slice a n cap] w fun e w' => e = .returned (.bool true) ∧ Below w.heap.size w w' := by
  go_enter Try.func5, Try.ntmps5
  go_wp2
  go_ret
  exact ⟨rfl, Below.refl _ _⟩

set_option maxRecDepth 100000 in
set_option maxHeartbeats 2000000 in
theorem spineBack_not (a : Option Addr) (cap : Nat) (zs : List Int) (hl : zs.length ≤ 64) (hP : ¬ Path zs) (w : World) (ha : Holds .i64 w.heap.size w (.slice a zs.length cap) zs) :
    Calls Try.prog 5 #[.slice a zs.length cap] w fun e w' => e = .returned (.bool true) ∧ Below w.heap.size w w' := by
  go_enter Try.func5, Try.ntmps5
  go_wp2_with fail
  refine (refPath_no a cap zs (by omega) hP w _ ha).mono ?_
  rintro e w1 ⟨rfl, rfl⟩
  go_wp2
  go_ret
  exact ⟨rfl, Below.refl _ _⟩

set_option maxRecDepth 100000 in
set_option maxHeartbeats 4000000 in
theorem spineBack_path (a : Option Addr) (cap : Nat) (zs : List Int) (hl : zs.length ≤ 64) (hP : Path zs) (w : World) (ha : Holds .i64 w.heap.size w (.slice a zs.length cap) zs) :
    Calls Try.prog 5 #[.slice a zs.length cap] w fun e w' => e = .returned (.bool true) ∧ Below w.heap.size w w' := by
  have HP : Hid (Path zs) := hP
  clear hP
  go_enter Try.func5, Try.ntmps5
  go_wp2_with fail
  refine (refPath_yes a cap zs (by omega) HP.out w _ ha).mono ?_
  rintro e w1 ⟨rfl, rfl⟩
  go_wp2_with fail
  refine (States_ok a cap zs hl HP.out w ha).mono ?_
  rintro e w1 ⟨r, rfl, ⟨hr, ar, cr, rfl, hcr⟩, b1⟩
  have ha1 := ha.next b1
  have HSL : Hid ((statesOf beginN zs).length = zs.length) := statesOf_len _ _
  rw [HSL.out] at hr hcr ⊢
  have n1 : ((zs.length : Int) != (zs.length : Int)) = false := by simp
  have hb : beginN < 4294967296 := by decide
  clear ha
  go_wp2_with fail
  refine (Begin_any w1).mono ?_
  rintro e w2 ⟨rfl, rfl⟩
  go_wp2
  go_loop [5, 6] (fun s i => ∃ k : Nat, k ≤ zs.length ∧ i = .int .i64 k ∧ s = .int .u32 ((lastOf beginN (zs.take k) : Nat) : Int)) (fun _ i => zs.length - (intOf i).toNat)
  case atStart => exact ⟨0, Nat.zero_le _, rfl, rfl⟩
  case round =>
    obtain ⟨k, hk, rfl, rfl⟩ := hrel
    by_cases hlt : k < zs.length
    · obtain ⟨n, hnk, hn⟩ : ∃ n : Nat, zs[k]? = some (n : Int) ∧ n < 16 := by
        have := HP.out _ (List.getElem_mem hlt)
        exact ⟨zs[k].toNat, by rw [List.getElem?_eq_getElem hlt]; congr 1; omega, by omega⟩
      have hg := statesOf_get (s := beginN) hnk
      rw [Int.toNat_natCast] at hg
      have HL : Hid (lastOf beginN (zs.take (k + 1)) = stepN (lastOf beginN (zs.take k)) n) := by
        have := lastOf_take (s := beginN) hnk
        rw [Int.toNat_natCast] at this
        exact this
      have hs := lastOf_lt (s := beginN) (zs.take k) hb
      have hN : nibN (lastOf beginN (zs.take k)) (stepN (lastOf beginN (zs.take k)) n) = (n, true) := nib_some hs hn rfl
      have ht := stepN_lt (lastOf beginN (zs.take k)) n
      rcases ha1 with ⟨_, e⟩ | ⟨b, off, cap', e, _, hcs⟩
      · rw [e] at hlt; exact absurd hlt (by simp)
      cases e
      rcases hr with ⟨_, e⟩ | ⟨b', off', cap'', e, _, hcr'⟩
      · rw [e] at hg; simp at hg
      rw [HSL.out] at e hcr'
      cases e
      have c1 : w1.cell? ⟨b, off + k, none⟩ = some (.int .i64 (n : Int)) := (hcs k hlt).trans (by rw [hnk]; rfl)
      have c2 : w1.cell? ⟨b', off' + k, none⟩ = some (.int .u32 ((stepN (lastOf beginN (zs.take k)) n : Nat) : Int)) := (hcr' k hlt).trans (by rw [hg]; rfl)
      obtain ⟨s, hse⟩ : ∃ s, lastOf beginN (zs.take k) = s := ⟨_, rfl⟩
      rw [hse] at HL hs hN ht c2 ⊢
      have HST : Hid (stepN s n = stepN s n) := rfl
      obtain ⟨t, hte⟩ : ∃ t, stepN s n = t := ⟨_, rfl⟩
      have HT : Hid (stepN s n = t) := hte
      rw [hte] at HL hN ht c2
      have HN : Hid (nibN s t = (n, true)) := hN
      have m1 : ((n : Int) != (n : Int)) = false := by simp
      have m2 : ((t : Int) != (t : Int)) = false := by simp
      clear hcs hcr' hnk hg hse hte hN HST
      go_wp2_with fail
      refine (Nibble_any s t hs ht w1).mono ?_
      rw [HN.out]
      rintro e w3 ⟨rfl, rfl⟩
      go_wp2_with fail
      refine (Step_ok s n hs hn w1).mono ?_
      rw [HT.out]
      rintro e w3 ⟨rfl, rfl⟩
      go_wp2
      go_round
      case rel => exact ⟨k + 1, by omega, by go_num, by rw [HL.out]⟩
      case measure => simp [intOf]; omega
    · obtain rfl : k = zs.length := by omega
      clear ha1 hr
      go_wp2_with fail
      refine (spineWakes_any _).mono ?_
      rintro e w2 ⟨rfl, rfl⟩
      go_wp2
      go_ret
      exact ⟨rfl, b1⟩

/-- The law, of whatever row. -/
theorem spineBack_walk (a0 : Option Addr) (len0 cap0 : Nat) (z0 : List Int) (w : World) (w0 : IsRow .i64 w a0 len0 cap0 z0) :
    Calls Try.prog 5 #[.slice a0 len0 cap0] w fun e w' => e = .returned (.bool true) ∧ Below w.heap.size w w' := by
  obtain ⟨xs, rfl, hx, _⟩ := holds_of_isRow w0
  by_cases h : 64 < xs.length
  · exact spineBack_long a0 _ cap0 w h
  · by_cases hP : Path xs
    · exact spineBack_path a0 cap0 xs (by omega) hP w hx
    · exact spineBack_not a0 cap0 xs (by omega) hP w hx

end Go.Proofs.Ytcenigjiojlcgaa
