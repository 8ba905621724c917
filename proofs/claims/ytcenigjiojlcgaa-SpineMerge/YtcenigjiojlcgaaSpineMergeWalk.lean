/-
  SpineMerge: the walk: whatever the two rows, the law answers true, and nothing that lay has turned.
-/
import Derived.Test.YtcenigjiojlcgaaSpineWakes
import Derived.Test.YtcenigjiojlcgaaRefPath
import Derived.Test.YtcenigjiojlcgaaPlaces
import Derived.Deep.QuietTactic
import Derived.BigQuiet
namespace Go.Proofs.Ytcenigjiojlcgaa
open Go.RowKit

set_option maxRecDepth 100000 in
set_option maxHeartbeats 2000000 in
theorem spineMerge_long (a b : Option Addr) (n m ca cb : Nat) (w : World) (h : 64 < n ∨ 64 < m) :
    Calls Try.prog 7 #[.slice a n ca, .slice b m cb] w fun e w' => e = .returned (.bool true) ∧ Below w.heap.size w w' := by
  by_cases h1 : 64 < n
  · clear h
    go_enter Try.func7, Try.ntmps7
    go_wp2
    go_ret
    exact ⟨rfl, Below.refl _ _⟩
  · have h2 : 64 < m := by omega
    clear h
    go_enter Try.func7, Try.ntmps7
    go_wp2
    go_ret
    exact ⟨rfl, Below.refl _ _⟩

set_option maxRecDepth 100000 in
set_option maxHeartbeats 2000000 in
theorem spineMerge_not (a b : Option Addr) (ca cb : Nat) (xs ys : List Int) (h1 : xs.length ≤ 64) (h2 : ys.length ≤ 64) (hP : ¬ (Path xs ∧ Path ys)) (w : World) (ha : Holds .i64 w.heap.size w (.slice a xs.length ca) xs) (hb : Holds .i64 w.heap.size w (.slice b ys.length cb) ys) :
    Calls Try.prog 7 #[.slice a xs.length ca, .slice b ys.length cb] w fun e w' => e = .returned (.bool true) ∧ Below w.heap.size w w' := by
  by_cases hx : Path xs
  · have hy : ¬ Path ys := fun h => hP ⟨hx, h⟩
    clear hP
    go_enter Try.func7, Try.ntmps7
    go_wp2_with fail
    refine (refPath_yes a ca xs (by omega) hx w _ ha).mono ?_
    rintro e w1 ⟨rfl, rfl⟩
    go_wp2_with fail
    refine (refPath_no b cb ys (by omega) hy w _ hb).mono ?_
    rintro e w1 ⟨rfl, rfl⟩
    go_wp2
    go_ret
    exact ⟨rfl, Below.refl _ _⟩
  · clear hP
    go_enter Try.func7, Try.ntmps7
    go_wp2_with fail
    refine (refPath_no a ca xs (by omega) hx w _ ha).mono ?_
    rintro e w1 ⟨rfl, rfl⟩
    go_wp2
    go_ret
    exact ⟨rfl, Below.refl _ _⟩

set_option maxRecDepth 100000 in
set_option maxHeartbeats 8000000 in
theorem spineMerge_path (a b : Option Addr) (ca cb : Nat) (xs ys : List Int) (h1 : xs.length ≤ 64) (h2 : ys.length ≤ 64) (hx : Path xs) (hy : Path ys) (w : World) (ha : Holds .i64 w.heap.size w (.slice a xs.length ca) xs) (hb : Holds .i64 w.heap.size w (.slice b ys.length cb) ys) :
    Calls Try.prog 7 #[.slice a xs.length ca, .slice b ys.length cb] w fun e w' => e = .returned (.bool true) ∧ Below w.heap.size w w' := by
  have HX : Hid (Path xs) := hx
  have HY : Hid (Path ys) := hy
  have hbg : beginN < 4294967296 := by decide
  clear hx hy
  go_enter Try.func7, Try.ntmps7
  go_wp2_with fail
  refine (refPath_yes a ca xs (by omega) HX.out w _ ha).mono ?_
  rintro e w1 ⟨rfl, rfl⟩
  go_wp2_with fail
  refine (refPath_yes b cb ys (by omega) HY.out w _ hb).mono ?_
  rintro e w1 ⟨rfl, rfl⟩
  go_wp2_with fail
  refine (States_ok a ca xs h1 HX.out w ha).mono ?_
  rintro e w1 ⟨r, rfl, ⟨hr, ar, cr, rfl, _⟩, b1⟩
  have HSL : Hid ((statesOf beginN xs).length = xs.length) := statesOf_len _ _
  rw [HSL.out] at hr ⊢
  have ha1 := ha.next b1
  have hb1 := hb.next b1
  clear ha hb
  go_wp2_with fail
  refine (States_ok b cb ys h2 HY.out w1 hb1).mono ?_
  rintro e w2 ⟨r2, rfl, ⟨hr2, ar2, cr2, rfl, _⟩, b2⟩
  have HSL2 : Hid ((statesOf beginN ys).length = ys.length) := statesOf_len _ _
  rw [HSL2.out] at hr2 ⊢
  have ha2 := ha1.next b2
  have hb2 := hb1.next b2
  have hx2 := hr.next b2
  have bb : Below w.heap.size w w2 := b1.trans (b2.mono b1.size)
  have n1 : ((xs.length : Int) != (xs.length : Int)) = false := by simp
  have n2 : ((ys.length : Int) != (ys.length : Int)) = false := by simp
  clear ha1 hb1 hr b1 b2
  go_wp2_with fail
  refine (Begin_any w2).mono ?_
  rintro e w4 ⟨rfl, rfl⟩
  go_wp2_with fail
  refine (Begin_any w2).mono ?_
  rintro e w4 ⟨rfl, rfl⟩
  go_wp2
  go_loopw [9, 10, 11] (fun s t i wr => ∃ k nd : Nat, k ≤ xs.length ∧ k ≤ ys.length ∧ i = .int .i64 k ∧ s = .int .u32 ((lastOf beginN (xs.take k) : Nat) : Int) ∧ t = .int .u32 ((lastOf beginN (ys.take k) : Nat) : Int) ∧ wr = w2.drewN nd) (fun _ _ i _ => xs.length - (intOf i).toNat)
  case atStart => exact ⟨0, 0, Nat.zero_le _, Nat.zero_le _, rfl, rfl, rfl, rfl⟩
  case round =>
    obtain ⟨k, nd, hk, hk', rfl, rfl, rfl, rfl⟩ := hrel
    by_cases hlt : k < xs.length ∧ k < ys.length
    · obtain ⟨hl1, hl2⟩ := hlt
      obtain ⟨n, hnk, hn⟩ : ∃ n : Nat, xs[k]? = some (n : Int) ∧ n < 16 := by
        have := HX.out _ (List.getElem_mem hl1)
        exact ⟨xs[k].toNat, by rw [List.getElem?_eq_getElem hl1]; congr 1; omega, by omega⟩
      obtain ⟨m, hmk, hm⟩ : ∃ m : Nat, ys[k]? = some (m : Int) ∧ m < 16 := by
        have := HY.out _ (List.getElem_mem hl2)
        exact ⟨ys[k].toNat, by rw [List.getElem?_eq_getElem hl2]; congr 1; omega, by omega⟩
      have hg := statesOf_get (s := beginN) hnk
      have hg' := statesOf_get (s := beginN) hmk
      rw [Int.toNat_natCast] at hg hg'
      have HL : Hid (lastOf beginN (xs.take (k + 1)) = stepN (lastOf beginN (xs.take k)) n) := by
        have := lastOf_take (s := beginN) hnk
        rw [Int.toNat_natCast] at this
        exact this
      have HL' : Hid (lastOf beginN (ys.take (k + 1)) = stepN (lastOf beginN (ys.take k)) m) := by
        have := lastOf_take (s := beginN) hmk
        rw [Int.toNat_natCast] at this
        exact this
      have hs := lastOf_lt (s := beginN) (xs.take k) hbg
      have ht := lastOf_lt (s := beginN) (ys.take k) hbg
      rcases ha2 with ⟨_, e⟩ | ⟨ba, oa, ca', e, _, hca⟩
      · rw [e] at hl1; exact absurd hl1 (by simp)
      cases e
      rcases hb2 with ⟨_, e⟩ | ⟨bb', ob, cb', e, _, hcb⟩
      · rw [e] at hl2; exact absurd hl2 (by simp)
      cases e
      rcases hx2 with ⟨_, e⟩ | ⟨bx, ox, cx, e, _, hcx⟩
      · rw [e] at hg; simp at hg
      rw [HSL.out] at e hcx
      cases e
      rcases hr2 with ⟨_, e⟩ | ⟨by', oy, cy, e, _, hcy⟩
      · rw [e] at hg'; simp at hg'
      rw [HSL2.out] at e hcy
      cases e
      have c1 : ∀ q, (w2.drewN q).cell? ⟨ba, oa + k, none⟩ = some (.int .i64 (n : Int)) := fun q => (hca k hl1).trans (by rw [hnk]; rfl)
      have c2 : ∀ q, (w2.drewN q).cell? ⟨bb', ob + k, none⟩ = some (.int .i64 (m : Int)) := fun q => (hcb k hl2).trans (by rw [hmk]; rfl)
      have c3 : ∀ q, (w2.drewN q).cell? ⟨bx, ox + k, none⟩ = some (.int .u32 ((stepN (lastOf beginN (xs.take k)) n : Nat) : Int)) := fun q => (hcx k hl1).trans (by rw [hg]; rfl)
      have c4 : ∀ q, (w2.drewN q).cell? ⟨by', oy + k, none⟩ = some (.int .u32 ((stepN (lastOf beginN (ys.take k)) m : Nat) : Int)) := fun q => (hcy k hl2).trans (by rw [hg']; rfl)
      obtain ⟨s, hse⟩ : ∃ s, lastOf beginN (xs.take k) = s := ⟨_, rfl⟩
      obtain ⟨t, hte⟩ : ∃ s, lastOf beginN (ys.take k) = s := ⟨_, rfl⟩
      rw [hse] at HL hs c3 ⊢
      rw [hte] at HL' ht c4 ⊢
      have hA := @step_nib s n m hs hn hm
      have hB := @step_state s t n hs ht hn
      obtain ⟨u, hue⟩ : ∃ y, stepN s n = y := ⟨_, rfl⟩
      obtain ⟨v, hve⟩ : ∃ y, stepN t m = y := ⟨_, rfl⟩
      clear hca hcb hcx hcy hnk hmk hg hg' hse hte
      by_cases hst : s = t
      · subst hst
        have q1 : ((s : Int) == (s : Int)) = true := by simp
        have q2 : ((s : Int) != (s : Int)) = false := by simp
        by_cases hnm : n = m
        · subst hnm
          obtain rfl : u = v := hue.symm.trans hve
          rw [hue] at HL HL' c3 c4
          have q3 : ((n : Int) == (n : Int)) = true := by simp
          have q4 : ((u : Int) == (u : Int)) = true := by simp
          clear hA hB hue hve
          go_wp2
          go_quiet (fail)
          go_wp2
          go_quiet (fail)
          go_wp2
          go_roundw
          case rel => exact ⟨k + 1, _, by omega, by omega, by go_num, by rw [HL.out], by rw [HL'.out], rfl⟩
          case measure => simp [intOf]; omega
        · have huv : u ≠ v := fun e => hnm (hA.1 (hue.trans (e.trans hve.symm)))
          rw [hue] at HL c3
          rw [hve] at HL' c4
          have q3 : ((n : Int) == (m : Int)) = false := by rw [beq_eq_false_iff_ne]; omega
          have q4 : ((u : Int) == (v : Int)) = false := by rw [beq_eq_false_iff_ne]; omega
          clear hnm huv
          clear hA hB hue hve
          go_wp2
          go_quiet (fail)
          go_wp2
          go_quiet (fail)
          go_wp2
          go_roundw
          case rel => exact ⟨k + 1, _, by omega, by omega, by go_num, by rw [HL.out], by rw [HL'.out], rfl⟩
          case measure => simp [intOf]; omega
      · have q1 : ((s : Int) == (t : Int)) = false := by rw [beq_eq_false_iff_ne]; omega
        have q2 : ((s : Int) != (t : Int)) = true := by rw [bne_iff_ne]; omega
        by_cases hnm : n = m
        · subst hnm
          have huv : u ≠ v := fun e => hst (hB.1 (hue.trans (e.trans hve.symm)))
          rw [hue] at HL c3
          rw [hve] at HL' c4
          have q3 : ((n : Int) == (n : Int)) = true := by simp
          have q4 : ((u : Int) == (v : Int)) = false := by rw [beq_eq_false_iff_ne]; omega
          clear hst huv
          clear hA hB hue hve
          go_wp2
          go_quiet (fail)
          go_wp2
          go_quiet (fail)
          go_wp2
          go_roundw
          case rel => exact ⟨k + 1, _, by omega, by omega, by go_num, by rw [HL.out], by rw [HL'.out], rfl⟩
          case measure => simp [intOf]; omega
        · rw [hue] at HL c3
          rw [hve] at HL' c4
          have q3 : ((n : Int) == (m : Int)) = false := by rw [beq_eq_false_iff_ne]; omega
          clear hst hnm
          clear hA hB hue hve
          go_wp2
          go_quiet (fail)
          go_wp2
          go_quiet (fail)
          go_wp2
          go_roundw
          case rel => exact ⟨k + 1, _, by omega, by omega, by go_num, by rw [HL.out], by rw [HL'.out], rfl⟩
          case measure => simp [intOf]; omega
    · by_cases hl1 : k < xs.length
      · have hl2 : ¬ k < ys.length := fun h => hlt ⟨hl1, h⟩
        clear hlt
        clear ha2 hb2 hx2 hr2
        go_wp2_with fail
        refine (spineWakes_any _).mono ?_
        rintro e w5 ⟨rfl, rfl⟩
        go_wp2
        go_ret
        exact ⟨rfl, below_drewN bb nd⟩
      · clear hlt
        clear ha2 hb2 hx2 hr2
        go_wp2_with fail
        refine (spineWakes_any _).mono ?_
        rintro e w5 ⟨rfl, rfl⟩
        go_wp2
        go_ret
        exact ⟨rfl, below_drewN bb nd⟩

/-- The law, of whatever two rows. -/
theorem spineMerge_walk (a0 : Option Addr) (len0 cap0 : Nat) (z0 : List Int) (a1 : Option Addr) (len1 cap1 : Nat) (z1 : List Int) (w : World) (w0 : IsRow .i64 w a0 len0 cap0 z0) (w1 : IsRow .i64 w a1 len1 cap1 z1) :
    Calls Try.prog 7 #[.slice a0 len0 cap0, .slice a1 len1 cap1] w fun e w' => e = .returned (.bool true) ∧ Below w.heap.size w w' := by
  obtain ⟨xs, rfl, hx, _⟩ := holds_of_isRow w0
  obtain ⟨ys, rfl, hy, _⟩ := holds_of_isRow w1
  by_cases h : 64 < xs.length ∨ 64 < ys.length
  · exact spineMerge_long a0 a1 _ _ cap0 cap1 w h
  · by_cases hP : Path xs ∧ Path ys
    · exact spineMerge_path a0 a1 cap0 cap1 xs ys (by omega) (by omega) hP.1 hP.2 w hx hy
    · exact spineMerge_not a0 a1 cap0 cap1 xs ys (by omega) (by omega) hP w hx hy

end Go.Proofs.Ytcenigjiojlcgaa
