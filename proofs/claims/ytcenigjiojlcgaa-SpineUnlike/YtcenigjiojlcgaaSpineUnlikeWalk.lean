/-
  SpineUnlike: the walk: whatever the rows and states, the law answers true, and nothing that lay has turned.
-/
import Derived.Test.YtcenigjiojlcgaaSpineWakes
import Derived.Test.YtcenigjiojlcgaaRefPath
import Derived.Test.YtcenigjiojlcgaaPlaces
import Derived.Test.YtcenigjiojlcgaaKeepWords
import Derived.Test.YtcenigjiojlcgaaKeepInts
namespace Go.Proofs.Ytcenigjiojlcgaa
open Go.RowKit

set_option maxRecDepth 100000 in
set_option maxHeartbeats 2000000 in
theorem spineUnlike_long (a b : Option Addr) (n m ca cb s t : Nat) (w : World) (h : 64 < n ∨ 64 < m) :
    Calls Try.prog 4 #[.slice a n ca, .slice b m cb, .int .u32 s, .int .u32 t] w fun e w' => e = .returned (.bool true) ∧ Below w.heap.size w w' := by
  by_cases h1 : 64 < n
  · clear h
    go_enter Try.func4, Try.ntmps4
    go_wp2
    go_ret
    exact ⟨rfl, Below.refl _ _⟩
  · have h2 : 64 < m := by omega
    clear h
    go_enter Try.func4, Try.ntmps4
    go_wp2
    go_ret
    exact ⟨rfl, Below.refl _ _⟩

set_option maxRecDepth 100000 in
set_option maxHeartbeats 2000000 in
theorem spineUnlike_not (a b : Option Addr) (ca cb s t : Nat) (xs ys : List Int) (h1 : xs.length ≤ 64) (h2 : ys.length ≤ 64) (hP : ¬ (Path xs ∧ Path ys)) (w : World) (ha : Holds .i64 w.heap.size w (.slice a xs.length ca) xs) (hb : Holds .i64 w.heap.size w (.slice b ys.length cb) ys) :
    Calls Try.prog 4 #[.slice a xs.length ca, .slice b ys.length cb, .int .u32 s, .int .u32 t] w fun e w' => e = .returned (.bool true) ∧ Below w.heap.size w w' := by
  by_cases hx : Path xs
  · have hy : ¬ Path ys := fun h => hP ⟨hx, h⟩
    clear hP
    go_enter Try.func4, Try.ntmps4
    go_wp2_with fail
    refine (refPath_yes a ca xs (by omega) hx w _ ha).mono ?_
    rintro e w1 ⟨rfl, rfl⟩
    go_wp2_with fail
    refine (refPath_no b cb ys (by omega) hy w _ hb).mono ?_
    rintro e w1 ⟨rfl, rfl⟩
    go_wp2
    go_ret
    exact ⟨rfl, Below.refl _ _⟩
  · clear hP
    go_enter Try.func4, Try.ntmps4
    go_wp2_with fail
    refine (refPath_no a ca xs (by omega) hx w _ ha).mono ?_
    rintro e w1 ⟨rfl, rfl⟩
    go_wp2
    go_ret
    exact ⟨rfl, Below.refl _ _⟩

/-- The states behind the first nibbles. -/
def seenL (s k : Nat) : List Int := (List.range k).map fun j => ((stepN s j : Nat) : Int)
theorem seenL_len (s k : Nat) : (seenL s k).length = k := by simp [seenL]
theorem seenL_next (s k : Nat) : seenL s (k + 1) = seenL s k ++ [((stepN s k : Nat) : Int)] := by simp [seenL, List.range_succ]
theorem seenL_get (s : Nat) {k j : Nat} (h : j < k) : (seenL s k)[j]? = some ((stepN s j : Nat) : Int) := by simp [seenL, h]

set_option maxRecDepth 100000 in
set_option maxHeartbeats 8000000 in
theorem spineUnlike_path (a b : Option Addr) (ca cb s t : Nat) (hs : s < 4294967296) (ht : t < 4294967296) (xs ys : List Int) (h1 : xs.length ≤ 64) (h2 : ys.length ≤ 64) (hx : Path xs) (hy : Path ys) (w : World) (ha : Holds .i64 w.heap.size w (.slice a xs.length ca) xs) (hb : Holds .i64 w.heap.size w (.slice b ys.length cb) ys) :
    Calls Try.prog 4 #[.slice a xs.length ca, .slice b ys.length cb, .int .u32 s, .int .u32 t] w fun e w' => e = .returned (.bool true) ∧ Below w.heap.size w w' := by
  obtain ⟨i0, hi, hz0, hz1, hz2⟩ := info_parts infoWord
  have HX : Hid (Path xs) := hx
  have HY : Hid (Path ys) := hy
  have hbg : beginN < 4294967296 := by decide
  have hdd : decide (statesOf beginN xs = statesOf beginN ys) = decide (xs = ys) := decide_eq_decide.2 ⟨statesOf_inj hbg hx hy, fun e => by rw [e]⟩
  obtain ⟨d, hd⟩ : ∃ d, decide (xs = ys) = d := ⟨_, rfl⟩
  have HD1 : Hid (decide (statesOf beginN xs = statesOf beginN ys) = d) := hdd.trans hd
  have HD2 : Hid (decide (xs = ys) = d) := hd
  have qd : (d != d) = false := by simp
  clear hx hy hdd hd
  go_enter Try.func4, Try.ntmps4
  go_wp2_with fail
  refine (refPath_yes a ca xs (by omega) HX.out w _ ha).mono ?_
  rintro e w1 ⟨rfl, rfl⟩
  go_wp2_with fail
  refine (refPath_yes b cb ys (by omega) HY.out w _ hb).mono ?_
  rintro e w1 ⟨rfl, rfl⟩
  go_wp2_with fail
  refine (States_ok a ca xs h1 HX.out w ha).mono ?_
  rintro e w1 ⟨r, rfl, ⟨hr, ar, cr, rfl, _⟩, b1⟩
  have HSL : Hid ((statesOf beginN xs).length = xs.length) := statesOf_len _ _
  rw [HSL.out] at hr ⊢
  have ha1 := ha.next b1
  have hb1 := hb.next b1
  clear ha hb
  go_wp2_with fail
  refine (States_ok b cb ys h2 HY.out w1 hb1).mono ?_
  rintro e w2 ⟨r2, rfl, ⟨hr2, ar2, cr2, rfl, _⟩, b2⟩
  have HSL2 : Hid ((statesOf beginN ys).length = ys.length) := statesOf_len _ _
  rw [HSL2.out] at hr2 ⊢
  have ha2 := ha1.next b2
  have hb2 := hb1.next b2
  have hx2 := hr.next b2
  have bb : Below w.heap.size w w2 := b1.trans (b2.mono b1.size)
  have n1 : ((xs.length : Int) != (xs.length : Int)) = false := by simp
  have n2 : ((ys.length : Int) != (ys.length : Int)) = false := by simp
  clear ha1 hb1 hr b1 b2
  go_wp2_with fail
  refine (words_any _ _ _ _ _ _ w2 (by rw [HSL2.out]; omega) hx2 hr2).mono ?_
  rw [HD1.out]
  rintro e w3 ⟨rfl, q3, rfl⟩
  go_wp2_with fail
  refine (ints_any _ _ xs ys _ _ (w2.drewN q3) (by omega) ha2 hb2).mono ?_
  rw [HD2.out]
  rintro e w4 ⟨rfl, q4, rfl⟩
  have bV : Below w.heap.size w ((w2.drewN q3).drewN q4) := below_drewN (below_drewN bb q3) q4
  obtain ⟨V, hV⟩ : ∃ V, (w2.drewN q3).drewN q4 = V := ⟨_, rfl⟩
  rw [hV] at bV ⊢
  have hVs := bV.size
  clear hV ha2 hb2 hx2 hr2 bb
  go_wp2
  go_loopw [13, 14] (fun v i wr => ∃ k : Nat, k ≤ 16 ∧ i = .int .i64 k ∧ wr.ownsRow V.heap.size 23 1 v k ((seenL s k).map (Value.int .u32)) ∧ Below V.heap.size V wr) (fun _ i _ => 16 - (intOf i).toNat)
  case atStart => exact ⟨0, Nat.zero_le _, rfl, World.ownsRow_nil _ _ _ _, Below.refl _ _⟩
  case round =>
    obtain ⟨k, hk, rfl, ho, hbw⟩ := hrel
    by_cases hlt : k < 16
    · have hA := @step_state s t k hs ht hlt
      have qq : ((stepN s k : Int) == (stepN t k : Int)) = ((s : Int) == (t : Int)) := by
        by_cases e : s = t
        · subst e; simp
        · have : stepN s k ≠ stepN t k := fun h => e (hA.1 h)
          rw [beq_eq_false_iff_ne.2 (show (s : Int) ≠ t by omega), beq_eq_false_iff_ne]
          omega
      obtain ⟨c, hc⟩ : ∃ c, ((s : Int) == (t : Int)) = c := ⟨_, rfl⟩
      rw [hc] at qq
      have qc : (c != c) = false := by simp
      have HU : Hid (∀ j, j < k → ((stepN s j : Int) == (stepN s k : Int)) = false) := by
        intro j hj
        rw [beq_eq_false_iff_ne]
        have := mt (@step_nib s j k hs (by omega) hlt).1 (by omega)
        omega
      have HN : Hid _ := seenL_next s k
      have HCL : Hid (∀ g off c1, u13 = .slice (some ⟨g, off, none⟩) k c1 → off = 0 ∧ ∀ j, j < k → wr.cell? ⟨g, j, none⟩ = some (.int .u32 ((stepN s j : Nat) : Int))) := by
        intro g off c1 e
        rcases ho.2 with ⟨e', _⟩ | ⟨g', c', cur, e', _⟩
        · rw [e] at e'; cases e'
        · rw [e] at e'; cases e'
          subst e
          refine ⟨rfl, fun j hj => ?_⟩
          have := ho.cells (g := g) rfl j (.int .u32 ((stepN s j : Nat) : Int)) (by simp [seenL_get s hj])
          rw [Addr.add_lit, Nat.zero_add] at this
          exact this
      obtain ⟨av, cv, hv⟩ : ∃ av cv, u13 = .slice av k cv := by
        rcases ho.2 with ⟨e, e0⟩ | ⟨g, c, cur, e, _⟩
        · exact ⟨none, 0, by rw [e, e0]⟩
        · exact ⟨_, _, e⟩
      have hsh : 0 < k → ∃ g, av = some ⟨g, 0, none⟩ := fun hp => by
        rcases ho.2 with ⟨_, e0⟩ | ⟨g, c, cur, e, _⟩
        · omega
        · rw [hv] at e; cases e; exact ⟨g, rfl⟩
      subst hv
      have hu := stepN_lt s k
      obtain ⟨u, hue⟩ : ∃ y, stepN s k = y := ⟨_, rfl⟩
      obtain ⟨u', hue'⟩ : ∃ y, stepN t k = y := ⟨_, rfl⟩
      have HE1 : Hid (stepN s k = u) := hue
      have HE2 : Hid (stepN t k = u') := hue'
      rw [hue] at qq HU HN hu
      rw [hue'] at qq
      clear hue hue' hA
      go_wp2_with fail
      refine (Step_ok s k hs hlt wr).mono ?_
      rw [HE1.out]
      rintro e w5 ⟨rfl, rfl⟩
      go_wp2_with fail
      refine (Step_ok t k ht hlt wr).mono ?_
      rw [HE2.out]
      rintro e w5 ⟨rfl, rfl⟩
      go_wp2
      go_loop [19] (fun i => ∃ j : Nat, j ≤ k ∧ i = .int .i64 j) (fun i => k - (intOf i).toNat)
      case atStart => exact ⟨0, Nat.zero_le _, rfl⟩
      case round =>
        obtain ⟨j, hj, rfl⟩ := hrel
        by_cases hjk : j < k
        · obtain ⟨g, rfl⟩ := hsh (by omega)
          have c1 := (HCL.out g 0 cv rfl).2 j hjk
          have q5 := HU.out j hjk
          obtain ⟨z, hz⟩ : ∃ z, stepN s j = z := ⟨_, rfl⟩
          rw [hz] at c1 q5
          clear hz ho hsh
          go_wp2
          go_round
          case rel => exact ⟨j + 1, by omega, by go_num⟩
          case measure => simp [intOf]; omega
        · obtain rfl : j = k := by omega
          clear hjk hj hsh HU HCL
          go_wp2_with (at_builtin; refine wpList_append_own _ rfl _ _ 25 rfl V.heap.size 23 i0 (.int .u32 0) 1 4 Try.underlying25 hi hz0 hz1 hz2 rfl (by decide) _ j _ rfl (ho.alloc _) ⟨wr.heap.size, 0, none⟩ 1 1 [.int .u32 u] rfl rfl (cell_one_new _ _ _) (by simp [Value.oneCell']) (by unfold maxLen; omega) (by omega) (by have := hbw.size; simp; omega) ?_; intro v3 w6 hown3 hgrow3 _)
          have b3 : Below V.heap.size V w6 := (hbw.alloc hbw.size _).trans ((Below.refl _ _).grown hgrow3 (by have := hbw.size; simp; omega) (fun q e => (ho.lt q e).1))
          refine ⟨⟨j + 1, by omega, by go_num, ?_, b3⟩, by simp [intOf]; omega⟩
          rw [HN.out, List.map_append]
          exact hown3
    · obtain rfl : k = 16 := by omega
      have bW : Below w.heap.size w wr := bV.trans (hbw.mono hVs)
      clear ho hlt hk
      go_wp2_with fail
      refine (spineWakes_any _).mono ?_
      rintro e w5 ⟨rfl, rfl⟩
      go_wp2
      go_ret
      exact ⟨rfl, bW⟩

/-- The law, of whatever rows and states. -/
theorem spineUnlike_walk (a0 : Option Addr) (len0 cap0 : Nat) (z0 : List Int) (a1 : Option Addr) (len1 cap1 : Nat) (z1 : List Int) (a2 a3 : Int) (w : World) (w0 : IsRow .i64 w a0 len0 cap0 z0) (w1 : IsRow .i64 w a1 len1 cap1 z1) (w2 : (Lit.int .u32 a2).wf = true) (w3 : (Lit.int .u32 a3).wf = true) :
    Calls Try.prog 4 #[.slice a0 len0 cap0, .slice a1 len1 cap1, .int .u32 a2, .int .u32 a3] w fun e w' => e = .returned (.bool true) ∧ Below w.heap.size w w' := by
  obtain ⟨xs, rfl, hx, _⟩ := holds_of_isRow w0
  obtain ⟨ys, rfl, hy, _⟩ := holds_of_isRow w1
  have h2 := bounds_u32 w2
  have h3 := bounds_u32 w3
  obtain ⟨s, rfl⟩ := Int.eq_ofNat_of_zero_le h2.1
  obtain ⟨t, rfl⟩ := Int.eq_ofNat_of_zero_le h3.1
  by_cases h : 64 < xs.length ∨ 64 < ys.length
  · exact spineUnlike_long a0 a1 _ _ cap0 cap1 s t w h
  · by_cases hP : Path xs ∧ Path ys
    · exact spineUnlike_path a0 a1 cap0 cap1 s t (by omega) (by omega) xs ys (by omega) (by omega) hP.1 hP.2 w hx hy
    · exact spineUnlike_not a0 a1 cap0 cap1 s t xs ys (by omega) (by omega) hP w hx hy

end Go.Proofs.Ytcenigjiojlcgaa
