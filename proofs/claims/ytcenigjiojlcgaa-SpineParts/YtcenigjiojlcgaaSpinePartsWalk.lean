/-
  SpineParts: the walk: whatever the row and the number, the law answers true, and nothing that lay has turned.
-/
import Derived.Test.YtcenigjiojlcgaaSpineWakes
import Derived.Test.YtcenigjiojlcgaaRefPath
import Derived.Test.YtcenigjiojlcgaaPlaces
import Derived.Test.YtcenigjiojlcgaaKeepWords
namespace Go.Proofs.Ytcenigjiojlcgaa
open Go.RowKit

set_option maxRecDepth 100000 in
set_option maxHeartbeats 2000000 in
theorem spineParts_long (a : Option Addr) (n cap : Nat) (cut : Int) (w : World) (h : 64 < n) :
    Calls Try.prog 6 #[.slice a n cap, .int .i64 cut] w fun e w' => e = .returned (.bool true) ∧ Below w.heap.size w w' := by
  go_enter Try.func6, Try.ntmps6
  go_wp2
  go_ret
  exact ⟨rfl, Below.refl _ _⟩

set_option maxRecDepth 100000 in
set_option maxHeartbeats 2000000 in
theorem spineParts_not (a : Option Addr) (cap : Nat) (cut : Int) (zs : List Int) (hl : zs.length ≤ 64) (hP : ¬ Path zs) (w : World) (ha : Holds .i64 w.heap.size w (.slice a zs.length cap) zs) :
    Calls Try.prog 6 #[.slice a zs.length cap, .int .i64 cut] w fun e w' => e = .returned (.bool true) ∧ Below w.heap.size w w' := by
  go_enter Try.func6, Try.ntmps6
  go_wp2_with fail
  refine (refPath_no a cap zs (by omega) hP w _ ha).mono ?_
  rintro e w1 ⟨rfl, rfl⟩
  go_wp2
  go_ret
  exact ⟨rfl, Below.refl _ _⟩

theorem States_at (a : Option Addr) (n cap : Nat) (zs : List Int) (hn : zs.length = n) (hl : n ≤ 64) (hP : Path zs) (w : World) (ha : Holds .i64 w.heap.size w (.slice a n cap) zs) :
    Calls Try.prog 9 #[.slice a n cap] w fun e W' => ∃ r, e = .returned (.tuple #[r, .int .i64 0]) ∧ Kept .u32 W' r (statesOf beginN zs) ∧ Below w.heap.size w W' := by
  subst hn; exact States_ok a cap zs hl hP w ha

set_option maxRecDepth 100000 in
set_option maxHeartbeats 4000000 in
theorem spineParts_path (a : Option Addr) (cap : Nat) (cut : Int) (zs : List Int) (hl : zs.length ≤ 64) (hcap : zs.length ≤ cap) (hP : Path zs) (w : World) (ha : Holds .i64 w.heap.size w (.slice a zs.length cap) zs) :
    Calls Try.prog 6 #[.slice a zs.length cap, .int .i64 cut] w fun e w' => e = .returned (.bool true) ∧ Below w.heap.size w w' := by
  have HP : Hid (Path zs) := hP
  obtain ⟨p, hp, et⟩ := at_place cut ((zs.length : Int) + 1) (by omega)
  have hn0 : ¬ (zs.length : Int) + 1 = 0 := by omega
  have hpl : p ≤ zs.length := by omega
  have hpc : p ≤ cap := by omega
  have HTL : Hid ((zs.take p).length = p) := by show (zs.take p).length = p; rw [List.length_take]; omega
  have hb : beginN < 4294967296 := by decide
  clear hP
  go_enter Try.func6, Try.ntmps6
  go_wp2_with fail
  refine (refPath_yes a cap zs (by omega) HP.out w _ ha).mono ?_
  rintro e w1 ⟨rfl, rfl⟩
  go_wp2_with fail
  refine (States_ok a cap zs hl HP.out w ha).mono ?_
  rintro e w1 ⟨r, rfl, ⟨hr, ar, cr, rfl, hcr⟩, b1⟩
  have ha1 := ha.next b1
  have HSL : Hid ((statesOf beginN zs).length = zs.length) := statesOf_len _ _
  rw [HSL.out] at hr hcr ⊢
  have ht1 := holds_take rfl ha1 p hpl
  clear ha
  go_wp2_with fail
  refine (States_at a p cap (zs.take p) HTL.out (by omega) (HP.out.take p) w1 ht1).mono ?_
  rintro e w2 ⟨r2, rfl, ⟨hr2, ar2, cr2, rfl, hcr2⟩, b2⟩
  have HSL2 : Hid ((statesOf beginN (zs.take p)).length = p) := (statesOf_len _ _).trans HTL.out
  rw [HSL2.out] at hr2 hcr2 ⊢
  have HST : Hid (statesOf beginN (zs.take p) = (statesOf beginN zs).take p) := statesOf_take _ _ _
  have ha2 := ha1.next b2
  have hx2 := hr.next b2
  have hxt := holds_take HSL.out hx2 p hpl
  have n1 : ((zs.length : Int) != (zs.length : Int)) = false := by simp
  have n2 : ((p : Int) != (p : Int)) = false := by simp
  have hpcr : p ≤ cr := by omega
  rw [HST.out] at hr2
  clear ha1 hr ht1
  go_wp2_with fail
  refine (words_any _ _ _ _ _ _ w2 (by rw [← HST.out, HSL2.out]; omega) hr2 hxt).mono ?_
  rw [decide_eq_true rfl]
  rintro e w3 ⟨rfl, q3, rfl⟩
  have b3 : Below w.heap.size w (w2.drewN q3) := below_drewN (b1.trans (b2.mono b1.size)) q3
  have ha3 : Holds .i64 (w2.drewN q3).heap.size (w2.drewN q3) _ zs := ha2
  have hx3 : Holds .u32 (w2.drewN q3).heap.size (w2.drewN q3) _ (statesOf beginN zs) := hx2
  obtain ⟨V, hV⟩ : ∃ V, w2.drewN q3 = V := ⟨_, rfl⟩
  rw [hV] at b3 ha3 hx3 ⊢
  clear hV ha2 hx2 hxt hr2 b1 b2
  go_wp2_with fail
  refine (Begin_any V).mono ?_
  rintro e w4 ⟨rfl, rfl⟩
  go_wp2
  go_loop [9, 10] (fun s i => ∃ k : Nat, k ≤ zs.length ∧ i = .int .i64 k ∧ s = .int .u32 ((lastOf beginN (zs.take k) : Nat) : Int)) (fun _ i => zs.length - (intOf i).toNat)
  case atStart => exact ⟨0, Nat.zero_le _, rfl, rfl⟩
  case round =>
    obtain ⟨k, hk, rfl, rfl⟩ := hrel
    by_cases hlt : k < zs.length
    · obtain ⟨n, hnk, hn⟩ : ∃ n : Nat, zs[k]? = some (n : Int) ∧ n < 16 := by
        have := HP.out _ (List.getElem_mem hlt)
        exact ⟨zs[k].toNat, by rw [List.getElem?_eq_getElem hlt]; congr 1; omega, by omega⟩
      have hg := statesOf_get (s := beginN) hnk
      rw [Int.toNat_natCast] at hg
      have HL : Hid (lastOf beginN (zs.take (k + 1)) = stepN (lastOf beginN (zs.take k)) n) := by
        have := lastOf_take (s := beginN) hnk
        rw [Int.toNat_natCast] at this
        exact this
      have hs := lastOf_lt (s := beginN) (zs.take k) hb
      rcases ha3 with ⟨_, e⟩ | ⟨b, off, cap', e, _, hcs⟩
      · rw [e] at hlt; exact absurd hlt (by simp)
      cases e
      rcases hx3 with ⟨_, e⟩ | ⟨b', off', cap'', e, _, hcr'⟩
      · rw [e] at hg; simp at hg
      rw [HSL.out] at e hcr'
      cases e
      have c1 : V.cell? ⟨b, off + k, none⟩ = some (.int .i64 (n : Int)) := (hcs k hlt).trans (by rw [hnk]; rfl)
      have c2 : V.cell? ⟨b', off' + k, none⟩ = some (.int .u32 ((stepN (lastOf beginN (zs.take k)) n : Nat) : Int)) := (hcr' k hlt).trans (by rw [hg]; rfl)
      obtain ⟨s, hse⟩ : ∃ s, lastOf beginN (zs.take k) = s := ⟨_, rfl⟩
      rw [hse] at HL hs c2 ⊢
      obtain ⟨t, hte⟩ : ∃ t, stepN s n = t := ⟨_, rfl⟩
      have HT : Hid (stepN s n = t) := hte
      rw [hte] at HL c2
      have m2 : ((t : Int) != (t : Int)) = false := by simp
      clear hcs hcr' hnk hg hse hte
      go_wp2_with fail
      refine (Step_ok s n hs hn V).mono ?_
      rw [HT.out]
      rintro e w5 ⟨rfl, rfl⟩
      go_wp2
      go_round
      case rel => exact ⟨k + 1, by omega, by go_num, by rw [HL.out]⟩
      case measure => simp [intOf]; omega
    · obtain rfl : k = zs.length := by omega
      clear ha3 hx3
      go_wp2_with fail
      refine (spineWakes_any _).mono ?_
      rintro e w5 ⟨rfl, rfl⟩
      go_wp2
      go_ret
      exact ⟨rfl, b3⟩

/-- The law, of whatever row and number. -/
theorem spineParts_walk (a0 : Option Addr) (len0 cap0 : Nat) (z0 : List Int) (a1 : Int) (w : World) (w0 : IsRow .i64 w a0 len0 cap0 z0) :
    Calls Try.prog 6 #[.slice a0 len0 cap0, .int .i64 a1] w fun e w' => e = .returned (.bool true) ∧ Below w.heap.size w w' := by
  obtain ⟨xs, rfl, hx, _⟩ := holds_of_isRow w0
  by_cases h : 64 < xs.length
  · exact spineParts_long a0 _ cap0 a1 w h
  · by_cases hP : Path xs
    · exact spineParts_path a0 cap0 a1 xs (by omega) (isRow_cap w0) hP w hx
    · exact spineParts_not a0 cap0 a1 xs (by omega) hP w hx

end Go.Proofs.Ytcenigjiojlcgaa
