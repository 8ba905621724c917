/-
  What slices.Grow (of nothing), slices.Concat (of four) and slices.Equal answer, of bytes; copy over a row of noughts.
-/
import Derived.Test.YtmjidhnlofpliabM11
import Derived.Test.YtmjidhnlofpliabM17
import Derived.BigQuiet
import Derived.Laws.CopyOwn
import Derived.Lib.AppendZerosOnto
import Derived.Lib.SliceRun
namespace Go.Proofs.Ytmjidhnlofpliab
open Go.RowKit

set_option maxRecDepth 100000 in
set_option maxHeartbeats 2000000 in
theorem growB_new (k : Nat) (h0 : 0 < k) (hk : k ≤ 4294967296) (w : World) :
    Calls Try.prog 75 #[.slice none 0 0, .int .i64 (k : Int)] w fun e W' => ∃ r, e = .returned r ∧ W'.ownsRow w.heap.size 5 1 r 0 [] ∧ Below w.heap.size w W' := by
  obtain ⟨i0, hi, hz0, hz1, hz2⟩ := info_parts infoU8
  have hold : (Builtin.firstCells i0.size 0 (.slice none 0 0)).run Try.prog w.drew = .ok ([] : List Value).toArray w.drew := Go.run_firstCells_none w.drew i0.size 0 0 0
  have hrz := Lib.run_append_grow_zeros w 26 3 26 5 i0 (.int .u8 0) .i64 .i64 Try.underlying26 Try.underlying3 hi hz0 none 0 0 [] hold k h0 (by rw [hz1]; decide) (by omega) (by omega) (by rw [hz2]; omega) (growslice_fits (by omega) (by rw [hz2]; omega))
  have hGm := grownCap_le_maxLen w (0 + k) 0 5 (by unfold maxLen; omega)
  have hGn : 0 + k ≤ grownCap w (0 + k) 0 5 := grownCap_ge w _ _ _
  obtain ⟨G, hG⟩ : ∃ G, grownCap w (0 + k) 0 5 = G := ⟨_, rfl⟩
  rw [hG] at hrz hGm hGn
  obtain ⟨cur, hcur⟩ : ∃ cur, (([] : List Value).toArray ++ Builtin.zeroCells (Value.int .u8 0).cells k ++ Builtin.zeroCells (Value.int .u8 0).cells (G - (0 + k))) = cur := ⟨_, rfl⟩
  have hcs : cur.size = G * 1 := by
    rw [← hcur]
    simp only [Array.size_append, List.size_toArray, size_zeroCells, List.length_nil]
    have : (Value.int .u8 0).cells.size = 1 := rfl
    rw [this]
    omega
  rw [hcur] at hrz
  have o1 : (w.drew.alloc (.cells cur 5)).ownsRow w.heap.size 5 1 (.slice (some ⟨w.drew.heap.size, 0, none⟩) 0 G) 0 [] := World.ownsRow_made w.drew cur G (Nat.le_refl _) hGm hcs
  have b1 := (Below.refl w.heap.size w).drew.alloc (Nat.le_refl _) (.cells cur 5)
  have hG2 : G ≤ 9223372036854775807 := by unfold maxLen at hGm; omega
  have e0 : 0 + k = k := by omega
  rw [e0] at hrz
  clear hcur hG hGm hGn hold hcs
  go_enter Try.func75, Try.ntmps75
  go_wp2_with (at_builtin; refine Lib.wpList_append_run _ rfl _ _ _ _ rfl _ _ rfl rfl _ _ hrz ?_)
  all_goals (go_ret; exact ⟨_, rfl, o1, b1⟩)

set_option maxRecDepth 100000 in
set_option maxHeartbeats 4000000 in
/-- slices.Concat of four texts, not all of them without bytes. -/
theorem concat4_ok (g : Nat) (a1 a2 a3 a4 : Option Addr) (c1 c2 c3 c4 : Nat) (l1 l2 l3 l4 : List Int) (p1 : l1.length ≤ 1048576) (p2 : l2.length ≤ 1048576) (p3 : l3.length ≤ 1048576) (p4 : l4.length ≤ 1048576) (h0 : 0 < l1.length) (w : World)
    (k1 : w.cell? ⟨g, 0, none⟩ = some (.slice a1 l1.length c1)) (k2 : w.cell? ⟨g, 1, none⟩ = some (.slice a2 l2.length c2)) (k3 : w.cell? ⟨g, 2, none⟩ = some (.slice a3 l3.length c3)) (k4 : w.cell? ⟨g, 3, none⟩ = some (.slice a4 l4.length c4))
    (h1 : Holds .u8 w.heap.size w (.slice a1 l1.length c1) l1) (h2 : Holds .u8 w.heap.size w (.slice a2 l2.length c2) l2) (h3 : Holds .u8 w.heap.size w (.slice a3 l3.length c3) l3) (h4 : Holds .u8 w.heap.size w (.slice a4 l4.length c4) l4) :
    Calls Try.prog 61 #[.slice (some ⟨g, 0, none⟩) 4 4] w fun e W' => ∃ r, e = .returned r ∧ W'.ownsRow w.heap.size 5 1 r (l1.length + l2.length + l3.length + l4.length) ((l1 ++ l2 ++ l3 ++ l4).map (Value.int .u8)) ∧ Below w.heap.size w W' := by
  have hg : g < w.heap.size := cell_block_lt k1
  have H1 : Hid (Holds .u8 w.heap.size w (.slice a1 l1.length c1) l1) := h1
  have H2 : Hid (Holds .u8 w.heap.size w (.slice a2 l2.length c2) l2) := h2
  have H3 : Hid (Holds .u8 w.heap.size w (.slice a3 l3.length c3) l3) := h3
  have H4 : Hid (Holds .u8 w.heap.size w (.slice a4 l4.length c4) l4) := h4
  obtain ⟨n1, e1⟩ : ∃ n, l1.length = n := ⟨_, rfl⟩
  obtain ⟨n2, e2⟩ : ∃ n, l2.length = n := ⟨_, rfl⟩
  obtain ⟨n3, e3⟩ : ∃ n, l3.length = n := ⟨_, rfl⟩
  obtain ⟨n4, e4⟩ : ∃ n, l4.length = n := ⟨_, rfl⟩
  rw [e1] at H1 p1 h0 k1 ⊢
  rw [e2] at H2 p2 k2 ⊢
  rw [e3] at H3 p3 k3 ⊢
  rw [e4] at H4 p4 k4 ⊢
  have E1 : Hid (l1.length = n1) := e1
  have E2 : Hid (l2.length = n2) := e2
  have E3 : Hid (l3.length = n3) := e3
  have E4 : Hid (l4.length = n4) := e4
  clear e1 e2 e3 e4 h1 h2 h3 h4
  go_enter Try.func61, Try.ntmps61
  go_wp2
  go_loop [3, 11] (fun s i => (s = .int .i64 0 ∧ i = .int .i64 0) ∨ (s = .int .i64 n1 ∧ i = .int .i64 1) ∨ (s = .int .i64 ((n1 + n2 : Nat) : Int) ∧ i = .int .i64 2) ∨ (s = .int .i64 ((n1 + n2 + n3 : Nat) : Int) ∧ i = .int .i64 3) ∨ (s = .int .i64 ((n1 + n2 + n3 + n4 : Nat) : Int) ∧ i = .int .i64 4)) (fun _ i => 4 - (intOf i).toNat)
  case atStart => exact .inl ⟨rfl, rfl⟩
  case round =>
    rcases hrel with ⟨rfl, rfl⟩ | ⟨rfl, rfl⟩ | ⟨rfl, rfl⟩ | ⟨rfl, rfl⟩ | ⟨rfl, rfl⟩
    · go_wp2
      go_round
      case rel => exact .inr (.inl ⟨by go_num, by go_num⟩)
      case measure => simp [intOf]
    · go_wp2
      go_round
      case rel => exact .inr (.inr (.inl ⟨by go_num, by go_num⟩))
      case measure => simp [intOf]
    · go_wp2
      go_round
      case rel => exact .inr (.inr (.inr (.inl ⟨by go_num, by go_num⟩)))
      case measure => simp [intOf]
    · go_wp2
      go_round
      case rel => exact .inr (.inr (.inr (.inr ⟨by go_num, by go_num⟩)))
      case measure => simp [intOf]
    · obtain ⟨m, hm⟩ : ∃ m, n1 + n2 + n3 + n4 = m := ⟨_, rfl⟩
      have HG := growB_new m (by omega) (by omega) w
      rw [hm]
      have HM : Hid (n1 + n2 + n3 + n4 = m) := hm
      have hmp : 0 < m := by omega
      clear hm
      go_wp2_with fail
      refine HG.mono ?_
      rintro e w1 ⟨r, rfl, o1, b1⟩
      have hs1 := b1.size
      have q1 := (b1.cell (p := ⟨g, 0, none⟩) hg).trans k1
      have q2 := (b1.cell (p := ⟨g, 1, none⟩) hg).trans k2
      have q3 := (b1.cell (p := ⟨g, 2, none⟩) hg).trans k3
      have q4 := (b1.cell (p := ⟨g, 3, none⟩) hg).trans k4
      clear HG k1 k2 k3 k4
      go_wp2
      go_loopw [6, 27] (fun v i wr => ((i = .int .i64 0 ∧ wr.ownsRow w.heap.size 5 1 v 0 (([] : List Int).map (Value.int .u8))) ∨ (i = .int .i64 1 ∧ wr.ownsRow w.heap.size 5 1 v n1 (l1.map (Value.int .u8))) ∨ (i = .int .i64 2 ∧ wr.ownsRow w.heap.size 5 1 v (n1 + n2) ((l1 ++ l2).map (Value.int .u8))) ∨ (i = .int .i64 3 ∧ wr.ownsRow w.heap.size 5 1 v (n1 + n2 + n3) ((l1 ++ l2 ++ l3).map (Value.int .u8))) ∨ (i = .int .i64 4 ∧ wr.ownsRow w.heap.size 5 1 v (n1 + n2 + n3 + n4) ((l1 ++ l2 ++ l3 ++ l4).map (Value.int .u8)))) ∧ Below w.heap.size w wr) (fun _ i _ => 4 - (intOf i).toNat)
      case atStart => exact ⟨.inl ⟨rfl, o1⟩, b1⟩
      case round =>
        obtain ⟨hc, hbw⟩ := hrel
        have r1 := (hbw.cell (p := ⟨g, 0, none⟩) hg).trans ((b1.cell (p := ⟨g, 0, none⟩) hg).symm.trans q1)
        have r2 := (hbw.cell (p := ⟨g, 1, none⟩) hg).trans ((b1.cell (p := ⟨g, 1, none⟩) hg).symm.trans q2)
        have r3 := (hbw.cell (p := ⟨g, 2, none⟩) hg).trans ((b1.cell (p := ⟨g, 2, none⟩) hg).symm.trans q3)
        have r4 := (hbw.cell (p := ⟨g, 3, none⟩) hg).trans ((b1.cell (p := ⟨g, 3, none⟩) hg).symm.trans q4)
        clear q1 q2 q3 q4 o1
        rcases hc with ⟨rfl, ho⟩ | ⟨rfl, ho⟩ | ⟨rfl, ho⟩ | ⟨rfl, ho⟩ | ⟨rfl, ho⟩
        · obtain ⟨v3, w3, hr3, ho3, hg3⟩ := run_append_u8 _ (.slice a1 n1 c1) 0 w.heap.size _ [] l1 26 wr ho (H1.out.below hbw) hbw.size (by omega) (by rw [E1.out]; omega)
          rw [E1.out, List.nil_append, Nat.zero_add] at ho3
          have b3 := hbw.trans ((Below.refl w.heap.size _).grown hg3 hbw.size (fun q e => (ho.lt q e).1))
          have HR3 : Hid _ := hr3
          clear hr3 ho hg3
          go_wp2_with (at_builtin; refine wpList_append_run rfl _ _ 26 rfl _ _ rfl rfl _ _ HR3.out ?_)
          exact ⟨⟨.inr (.inl ⟨by go_num, ho3⟩), b3⟩, by simp [intOf]⟩
        · obtain ⟨v3, w3, hr3, ho3, hg3⟩ := run_append_u8 _ (.slice a2 n2 c2) n1 w.heap.size _ l1 l2 26 wr ho (H2.out.below hbw) hbw.size (by omega) (by rw [E2.out]; omega)
          rw [E2.out] at ho3
          have b3 := hbw.trans ((Below.refl w.heap.size _).grown hg3 hbw.size (fun q e => (ho.lt q e).1))
          have HR3 : Hid _ := hr3
          clear hr3 ho hg3
          go_wp2_with (at_builtin; refine wpList_append_run rfl _ _ 26 rfl _ _ rfl rfl _ _ HR3.out ?_)
          exact ⟨⟨.inr (.inr (.inl ⟨by go_num, ho3⟩)), b3⟩, by simp [intOf]⟩
        · obtain ⟨v3, w3, hr3, ho3, hg3⟩ := run_append_u8 _ (.slice a3 n3 c3) (n1 + n2) w.heap.size _ (l1 ++ l2) l3 26 wr ho (H3.out.below hbw) hbw.size (by omega) (by rw [E3.out]; omega)
          rw [E3.out] at ho3
          have b3 := hbw.trans ((Below.refl w.heap.size _).grown hg3 hbw.size (fun q e => (ho.lt q e).1))
          have HR3 : Hid _ := hr3
          clear hr3 ho hg3
          go_wp2_with (at_builtin; refine wpList_append_run rfl _ _ 26 rfl _ _ rfl rfl _ _ HR3.out ?_)
          exact ⟨⟨.inr (.inr (.inr (.inl ⟨by go_num, ho3⟩))), b3⟩, by simp [intOf]⟩
        · obtain ⟨v3, w3, hr3, ho3, hg3⟩ := run_append_u8 _ (.slice a4 n4 c4) (n1 + n2 + n3) w.heap.size _ (l1 ++ l2 ++ l3) l4 26 wr ho (H4.out.below hbw) hbw.size (by omega) (by rw [E4.out]; omega)
          rw [E4.out] at ho3
          have b3 := hbw.trans ((Below.refl w.heap.size _).grown hg3 hbw.size (fun q e => (ho.lt q e).1))
          have HR3 : Hid _ := hr3
          clear hr3 ho hg3
          go_wp2_with (at_builtin; refine wpList_append_run rfl _ _ 26 rfl _ _ rfl rfl _ _ HR3.out ?_)
          exact ⟨⟨.inr (.inr (.inr (.inr ⟨by go_num, ho3⟩))), b3⟩, by simp [intOf]⟩
        · go_wp2
          go_ret
          exact ⟨_, rfl, HM.out ▸ ho, hbw⟩

set_option maxRecDepth 100000 in
set_option maxHeartbeats 2000000 in
/-- slices.Equal of bytes that lie somewhere. -/
theorem slicesEqual_at (b off n cap b' off' n' cap' : Nat) (xs ys : List Int) (hx : xs.length = n) (hy : ys.length = n') (hl : n ≤ 4294967296) (hl' : n' ≤ 4294967296) (w : World)
    (hcx : ∀ j, j < n → w.cell? ⟨b, off + j, none⟩ = some (.int .u8 (xs[j]?.getD 0))) (hcy : ∀ j, j < n' → w.cell? ⟨b', off' + j, none⟩ = some (.int .u8 (ys[j]?.getD 0))) :
    Calls Try.prog 56 #[.slice (some ⟨b, off, none⟩) n cap, .slice (some ⟨b', off', none⟩) n' cap'] w fun e w' => e = .returned (.bool (decide (xs = ys))) ∧ ∃ q, w' = w.drewN q := by
  by_cases hne : n = n'
  · subst hne
    clear hl'
    go_enter Try.func56, Try.ntmps56
    go_wp2
    go_loopw [5, 13] (fun _ i wr => ∃ k nd : Nat, k ≤ n ∧ i = .int .i64 k ∧ xs.take k = ys.take k ∧ wr = w.drewN nd) (fun _ i _ => n - (intOf i).toNat)
    case atStart => exact ⟨0, 0, Nat.zero_le _, rfl, rfl, rfl⟩
    case round =>
      obtain ⟨k, nd, hk, rfl, heq, rfl⟩ := hrel
      by_cases hlt : k < n
      · obtain ⟨x, hxk⟩ : ∃ x, xs[k]? = some x := ⟨xs[k], by simp⟩
        obtain ⟨y, hyk⟩ : ∃ y, ys[k]? = some y := ⟨ys[k], by simp⟩
        have c1 : ∀ q, (w.drewN q).cell? ⟨b, off + k, none⟩ = some (.int .u8 x) := fun q => (hcx k hlt).trans (by rw [hxk]; rfl)
        have c2 : ∀ q, (w.drewN q).cell? ⟨b', off' + k, none⟩ = some (.int .u8 y) := fun q => (hcy k hlt).trans (by rw [hyk]; rfl)
        have HX : Hid (xs[k]? = some x) := hxk
        have HY : Hid (ys[k]? = some y) := hyk
        have HE : Hid (xs.take k = ys.take k) := heq
        clear hxk hyk hcx hcy heq
        by_cases hxy : x = y
        · have hq : (x != y) = false := by simp [hxy]
          have HQ : Hid (x = y) := hxy
          clear hxy
          go_wp2
          go_quiet (fail)
          go_wp2
          go_roundw
          case rel => exact ⟨k + 1, nd + nq, by omega, by go_num, take_eq_succbytes HX.out HY.out HE.out HQ.out, by simp⟩
          case measure => simp [intOf]; omega
        · have hq : (x != y) = true := by simp [hxy]
          have HQ : Hid (xs ≠ ys) := fun e => hxy (by have := HX.out; rw [e, HY.out] at this; cases this; rfl)
          clear hxy
          go_wp2
          go_quiet (fail)
          go_wp2
          go_ret
          exact ⟨by rw [decide_eq_false HQ.out]; rfl, nd + nq, by simp⟩
      · obtain rfl : k = n := by omega
        have HE : Hid (xs = ys) := by rw [List.take_of_length_le (by omega), List.take_of_length_le (by omega)] at heq; exact heq
        clear heq
        go_wp2
        go_ret
        exact ⟨by rw [decide_eq_true HE.out]; rfl, nd, rfl⟩
  · have HD : Hid (decide (xs = ys) = false) := decide_eq_false (fun e => hne (by rw [← hx, ← hy, e]))
    have dn : ((n : Int) != (n' : Int)) = true := by rw [bne_iff_ne]; omega
    clear hcx hcy hx hy
    go_enter Try.func56, Try.ntmps56
    go_wp2
    go_ret
    exact ⟨by rw [HD.out]; rfl, 0, rfl⟩

end Go.Proofs.Ytmjidhnlofpliab

/-
  What package block's isSize, Check and Make answer.
-/
namespace Go.Proofs.Ytmjidhnlofpliab
open Go.RowKit

set_option maxHeartbeats 400000 in
theorem bsize_any (z : Int) (w : World) : Calls Try.prog 53 #[.int .i64 z] w fun e w' => e = .returned (.bool (bSize z)) ∧ w = w' := by
  unfold bSize
  by_cases h1 : 1 ≤ z
  · have d1 : decide (1 ≤ z) = true := decide_eq_true h1
    rw [d1, Bool.true_and]
    go_enter Try.func53, Try.ntmps53
    go_wp2
    go_ret
    exact ⟨rfl, rfl⟩
  · have d1 : decide (1 ≤ z) = false := decide_eq_false h1
    rw [d1, Bool.false_and]
    go_enter Try.func53, Try.ntmps53
    go_wp2
    go_ret
    exact ⟨rfl, rfl⟩

theorem bsize_yes {z : Int} (h : 1 ≤ z ∧ z ≤ 16) : bSize z = true := by
  unfold bSize
  rw [decide_eq_true h.1, decide_eq_true h.2]; rfl
theorem bsize_no {z : Int} (h : ¬ (1 ≤ z ∧ z ≤ 16)) : bSize z = false := by
  unfold bSize
  by_cases h1 : 1 ≤ z
  · rw [decide_eq_true h1, decide_eq_false (fun h2 => h ⟨h1, h2⟩)]; rfl
  · rw [decide_eq_false h1]; rfl

theorem and_last {m : Int} (h0 : 0 ≤ m) (h1 : m ≤ 3) : (bits .and .i64 m 2 != 0) = decide (2 ≤ m) := by
  have : m = 0 ∨ m = 1 ∨ m = 2 ∨ m = 3 := by omega
  rcases this with rfl | rfl | rfl | rfl <;> decide

set_option maxRecDepth 100000 in
set_option maxHeartbeats 2000000 in
theorem Check_any (z s m : Int) (a : Option Addr) (n cap : Nat) (w : World) :
    Calls Try.prog 74 #[.int .i64 z, .agg #[.int .i64 s, .int .i64 m, .slice a n cap]] w fun e w' => e = .returned (.int .i64 (errB z s m n)) ∧ Below w.heap.size w w' := by
  have b1 : Below w.heap.size w (w.alloc (.cells #[.int .i64 s, .int .i64 m, .slice a n cap] 79)) := (Below.refl w.heap.size w).alloc (Nat.le_refl _) _
  have HS := bsize_any z (w.alloc (.cells #[.int .i64 s, .int .i64 m, .slice a n cap] 79))
  by_cases h0 : ¬ (1 ≤ z ∧ z ≤ 16)
  · rw [bsize_no h0] at HS
    rw [errB_arg (by rw [← Bool.not_eq_true, bArg_iff]; omega)]
    clear h0
    go_enter Try.func74, Try.ntmps74
    go_wp2_with (go_at_call 53; refine HS.mono ?_; rintro e w' ⟨rfl, rfl⟩)
    go_ret
    exact ⟨rfl, b1⟩
  have h0 : 1 ≤ z ∧ z ≤ 16 := Classical.not_not.1 h0
  rw [bsize_yes h0] at HS
  by_cases h2 : s < 0
  · have d2 : decide (s < 0) = true := decide_eq_true h2
    rw [errB_arg (by rw [← Bool.not_eq_true, bArg_iff]; omega)]
    clear h0 h2
    go_enter Try.func74, Try.ntmps74
    go_wp2_with (go_at_call 53; refine HS.mono ?_; rintro e w' ⟨rfl, rfl⟩)
    go_ret
    exact ⟨rfl, b1⟩
  have d2 : decide (s < 0) = false := decide_eq_false h2
  by_cases h3 : 1073741824 ≤ s
  · have d3 : decide (1073741824 ≤ s) = true := decide_eq_true h3
    rw [errB_arg (by rw [← Bool.not_eq_true, bArg_iff]; omega)]
    clear h0 h2 h3
    go_enter Try.func74, Try.ntmps74
    go_wp2_with (go_at_call 53; refine HS.mono ?_; rintro e w' ⟨rfl, rfl⟩)
    go_ret
    exact ⟨rfl, b1⟩
  have d3 : decide (1073741824 ≤ s) = false := decide_eq_false h3
  by_cases h4 : m < 0
  · have d4 : decide (m < 0) = true := decide_eq_true h4
    rw [errB_arg (by rw [← Bool.not_eq_true, bArg_iff]; omega)]
    clear h0 h2 h3 h4
    go_enter Try.func74, Try.ntmps74
    go_wp2_with (go_at_call 53; refine HS.mono ?_; rintro e w' ⟨rfl, rfl⟩)
    go_ret
    exact ⟨rfl, b1⟩
  have d4 : decide (m < 0) = false := decide_eq_false h4
  by_cases h5 : 3 < m
  · have d5 : decide (3 < m) = true := decide_eq_true h5
    rw [errB_arg (by rw [← Bool.not_eq_true, bArg_iff]; omega)]
    clear h0 h2 h3 h4 h5
    go_enter Try.func74, Try.ntmps74
    go_wp2_with (go_at_call 53; refine HS.mono ?_; rintro e w' ⟨rfl, rfl⟩)
    go_ret
    exact ⟨rfl, b1⟩
  have d5 : decide (3 < m) = false := decide_eq_false h5
  have hA : bArg z s m = true := (bArg_iff _ _ _).2 (by omega)
  have ha := and_last (m := m) (by omega) (by omega)
  by_cases h6 : z < (n : Int)
  · have d6 : decide (z < (n : Int)) = true := decide_eq_true h6
    rw [errB_len hA (by rw [← Bool.not_eq_true, bLen_iff]; omega)]
    clear hA h0 h2 h3 h4 h5 h6
    go_enter Try.func74, Try.ntmps74
    go_wp2_with (go_at_call 53; refine HS.mono ?_; rintro e w' ⟨rfl, rfl⟩)
    go_ret
    exact ⟨rfl, b1⟩
  have d6 : decide (z < (n : Int)) = false := decide_eq_false h6
  by_cases h8 : (n : Int) < z
  · have d8 : decide ((n : Int) < z) = true := decide_eq_true h8
    by_cases h7 : 2 ≤ m
    · rw [decide_eq_true h7] at ha
      rw [errB_zero.2 ⟨hA, (bLen_iff _ _ _).2 (by omega)⟩]
      clear hA h0 h2 h3 h4 h5 h6 h7 h8
      go_enter Try.func74, Try.ntmps74
      go_wp2_with (go_at_call 53; refine HS.mono ?_; rintro e w' ⟨rfl, rfl⟩)
      go_ret
      exact ⟨rfl, b1⟩
    · rw [decide_eq_false h7] at ha
      rw [errB_len hA (by rw [← Bool.not_eq_true, bLen_iff]; omega)]
      clear hA h0 h2 h3 h4 h5 h6 h7 h8
      go_enter Try.func74, Try.ntmps74
      go_wp2_with (go_at_call 53; refine HS.mono ?_; rintro e w' ⟨rfl, rfl⟩)
      go_ret
      exact ⟨rfl, b1⟩
  · have d8 : decide ((n : Int) < z) = false := decide_eq_false h8
    rw [errB_zero.2 ⟨hA, (bLen_iff _ _ _).2 (by omega)⟩]
    clear hA h0 h2 h3 h4 h5 h6 h8
    go_enter Try.func74, Try.ntmps74
    go_wp2_with (go_at_call 53; refine HS.mono ?_; rintro e w' ⟨rfl, rfl⟩)
    go_ret
    exact ⟨rfl, b1⟩

set_option maxRecDepth 100000 in
set_option maxHeartbeats 2000000 in
theorem Make_no (z s m : Int) (a : Option Addr) (n cap : Nat) (h : errB z s m n ≠ 0) (w : World) :
    Calls Try.prog 55 #[.int .i64 z, .agg #[.int .i64 s, .int .i64 m, .slice a n cap]] w fun e w' => e = .returned (.tuple #[.slice none 0 0, .int .i64 (errB z s m n)]) ∧ Below w.heap.size w w' := by
  have b1 : Below w.heap.size w (w.alloc (.cells #[.int .i64 s, .int .i64 m, .slice a n cap] 79)) := (Below.refl w.heap.size w).alloc (Nat.le_refl _) _
  have HC := Check_any z s m a n cap (w.alloc (.cells #[.int .i64 s, .int .i64 m, .slice a n cap] 79))
  obtain ⟨E, hE⟩ : ∃ E, errB z s m n = E := ⟨_, rfl⟩
  rw [hE] at HC h ⊢
  have dE : (E != 0) = true := by rw [bne_iff_ne]; exact h
  clear hE h
  go_enter Try.func55, Try.ntmps55
  go_wp2_with fail
  refine HC.mono ?_
  rintro e w1 ⟨rfl, b2⟩
  go_wp2
  go_ret2
  exact ⟨rfl, b1.trans (b2.mono (by simp))⟩

theorem made_noughts {w1 : World} {base n : Nat} {a : Option Addr} (h : w1.ownsRow base 5 1 (.slice a n n) n (madeCells (Value.int IntKind.u8 0).cells (n * 1)).toList) : w1.ownsRow base 5 1 (.slice a n n) n ((List.replicate n (0 : Int)).map (Value.int .u8)) := by
  rw [show (Value.int IntKind.u8 0).cells = #[.int .u8 0] from rfl, toList_madeCells_one, Nat.mul_one] at h
  rw [List.map_replicate]; exact h

theorem concat4_at (g : Nat) (a1 a2 a3 a4 : Option Addr) (c1 c2 c3 c4 n1 n2 n3 n4 : Nat) (l1 l2 l3 l4 : List Int) (e1 : l1.length = n1) (e2 : l2.length = n2) (e3 : l3.length = n3) (e4 : l4.length = n4) (p1 : n1 ≤ 1048576) (p2 : n2 ≤ 1048576) (p3 : n3 ≤ 1048576) (p4 : n4 ≤ 1048576) (h0 : 0 < n1) (w : World)
    (k1 : w.cell? ⟨g, 0, none⟩ = some (.slice a1 n1 c1)) (k2 : w.cell? ⟨g, 1, none⟩ = some (.slice a2 n2 c2)) (k3 : w.cell? ⟨g, 2, none⟩ = some (.slice a3 n3 c3)) (k4 : w.cell? ⟨g, 3, none⟩ = some (.slice a4 n4 c4))
    (h1 : Holds .u8 w.heap.size w (.slice a1 n1 c1) l1) (h2 : Holds .u8 w.heap.size w (.slice a2 n2 c2) l2) (h3 : Holds .u8 w.heap.size w (.slice a3 n3 c3) l3) (h4 : Holds .u8 w.heap.size w (.slice a4 n4 c4) l4) :
    Calls Try.prog 61 #[.slice (some ⟨g, 0, none⟩) 4 4] w fun e W' => ∃ r, e = .returned r ∧ W'.ownsRow w.heap.size 5 1 r (n1 + n2 + n3 + n4) ((l1 ++ l2 ++ l3 ++ l4).map (Value.int .u8)) ∧ Below w.heap.size w W' := by
  subst e1 e2 e3 e4
  exact concat4_ok g a1 a2 a3 a4 c1 c2 c3 c4 l1 l2 l3 l4 p1 p2 p3 p4 h0 w k1 k2 k3 k4 h1 h2 h3 h4

theorem seal_atB (a : Option Addr) (n cap : Nat) (xs : List Int) (hn : xs.length = n) (hl : n ≤ 4092) (bx : ∀ z ∈ xs, 0 ≤ z ∧ z ≤ 255) (w : World) (ha : Holds .u8 w.heap.size w (.slice a n cap) xs) :
    Calls Try.prog 42 #[.slice a n cap] w fun e W' => ∃ r, e = .returned (.tuple #[r, .int .i64 0]) ∧ W'.ownsRow w.heap.size 5 1 r (n + 4) ((sealL xs).map (Value.int .u8)) ∧ Below w.heap.size w W' := by
  subst hn
  exact Seal_any a cap xs hl bx w ha

theorem row_shapeB {W : World} {base k : Nat} {e : TypeId} {v : Value} {xs : List Value} (h : W.ownsRow base e 1 v k xs) : ∃ a c, v = .slice a k c := by
  rcases h.2 with ⟨e, e0⟩ | ⟨g, c, cur, e, _⟩
  · exact ⟨_, _, by rw [e, e0]⟩
  · exact ⟨_, _, e⟩

set_option maxRecDepth 100000 in
set_option maxHeartbeats 4000000 in
theorem Make_ok (Z : Nat) (s m : Int) (a : Option Addr) (cap : Nat) (xs : List Int) (h : Right Z s m xs) (bx : ∀ z ∈ xs, 0 ≤ z ∧ z ≤ 255) (w : World) (ha : Holds .u8 w.heap.size w (.slice a xs.length cap) xs) :
    Calls Try.prog 55 #[.int .i64 Z, .agg #[.int .i64 s, .int .i64 m, .slice a xs.length cap]] w fun e W' => ∃ r, e = .returned (.tuple #[r, .int .i64 0]) ∧ W'.ownsRow w.heap.size 5 1 r (Z + 10) ((bytesB Z s m xs).map (Value.int .u8)) ∧ Below w.heap.size w W' := by
  obtain ⟨i0, hi, hz0, hz1, hz2⟩ := info_parts infoU8
  have HE := (right_iff Z s m xs).2 h
  have HBD : Hid (∀ z ∈ bodyB Z s m xs, 0 ≤ z ∧ z ≤ 255) := bodyB_bd h bx
  obtain ⟨⟨hZ1, hZ2⟩, ⟨hs0, hs1⟩, ⟨hm0, hm1⟩, hxZ, _⟩ := h
  have HBL : Hid ((bodyB Z s m xs).length = Z + 6) := bodyB_len hxZ
  have ewm : IntKind.u8.wrap m = m := by rw [IntKind.wrap_u8]; omega
  have ewl : IntKind.u8.wrap (xs.length : Int) = (xs.length : Int) := by rw [IntKind.wrap_u8]; omega
  have b1 : Below w.heap.size w (w.alloc (.cells #[.int .i64 s, .int .i64 m, .slice a xs.length cap] 79)) := (Below.refl w.heap.size w).alloc (Nat.le_refl _) _
  have x1 := Box.new w 79 #[.int .i64 s, .int .i64 m, .slice a xs.length cap]
  have HC := Check_any (Z : Int) s m a xs.length cap (w.alloc (.cells #[.int .i64 s, .int .i64 m, .slice a xs.length cap] 79))
  rw [HE] at HC
  clear HE bx
  have hs2 : s / 2 ^ (8 * 4) = 0 := by rw [show (2 : Int) ^ (8 * 4) = 4294967296 from rfl]; omega
  have HS2 : Hid (s / 2 ^ (8 * 4) = 0) := hs2
  clear hs2
  have HF : Hid (beBytes 4 s ++ [m, (xs.length : Int)] ++ xs ++ List.replicate (Z - xs.length) 0 = bodyB Z s m xs) := rfl
  obtain ⟨P, hP⟩ : ∃ P, beBytes 4 s = P := ⟨_, rfl⟩
  have HP4 : Hid (P.length = 4) := by rw [← hP]; exact beBytes_len 4 s
  have HPE : Hid (beBytes 4 s = P) := hP
  obtain ⟨N, hN⟩ : ∃ N, Z - xs.length = N := ⟨_, rfl⟩
  have HNE : Hid (Z - xs.length = N) := hN
  have hNi : (Z : Int) - (xs.length : Int) = (N : Int) := by omega
  rw [hP, hN] at HF
  clear hP
  go_enter Try.func55, Try.ntmps55
  go_wp2_with fail
  refine HC.mono ?_
  rintro e w1 ⟨rfl, c1⟩
  have bb1 := b1.trans (c1.mono (by simp))
  have x2 := x1.next c1
  have k0 := x2.cell 0 _ rfl
  clear HC b1 c1 x1
  have HPut := put_ok none 0 [] s 4 w1 0 (by decide) (by decide) hs0 HS2.out (by decide) (Nat.zero_le _) (.inl ⟨⟨_, _, rfl, fun _ => rfl⟩, rfl⟩)
  rw [List.length_nil, List.nil_append, HPE.out, Nat.zero_add] at HPut
  go_wp2_with fail
  refine HPut.mono ?_
  rintro e w2 ⟨r, rfl, o2, c2⟩
  obtain ⟨ra, rc, rfl⟩ := row_shapeB o2
  have bb2 := bb1.trans (c2.mono bb1.size)
  have x3 := x2.next c2
  have k1 := x3.cell 1 _ rfl
  have k2 := x3.cell 2 _ rfl
  have hB2 := x3.lt
  clear HPut k0 x2
  have d3 : Below w2.heap.size w2 (w2.alloc (.cells #[.int .u8 m, .int .u8 (xs.length : Int)] 5)) := (Below.refl _ _).alloc (Nat.le_refl _) _
  have h3 : Holds .u8 (w2.alloc (.cells #[.int .u8 m, .int .u8 (xs.length : Int)] 5)).heap.size (w2.alloc (.cells #[.int .u8 m, .int .u8 (xs.length : Int)] 5)) (.slice (some ⟨w2.heap.size, 0, none⟩) 2 2) [m, (xs.length : Int)] := holds_new .u8 w2 [m, (xs.length : Int)] 2 5 (0, 0)
  have H3 : Hid (Holds .u8 (w2.alloc (.cells #[.int .u8 m, .int .u8 (xs.length : Int)] 5)).heap.size (w2.alloc (.cells #[.int .u8 m, .int .u8 (xs.length : Int)] 5)) (.slice (some ⟨w2.heap.size, 0, none⟩) 2 2) [m, (xs.length : Int)]) := h3
  have D3 : Hid _ := d3
  clear h3 d3
  go_wp2_with (at_make; refine wpList_make_full _ rfl _ _ 26 rfl (w2.heap.size + 1) 5 i0 (.int .u8 0) 1 Try.underlying26 hi hz0 hz1 .i64 .i64 _ _ N rfl rfl rfl rfl (by rw [hz2]; omega) (by unfold maxLen; omega) (by simp) ?_; intro w4 hown4 hgrow4; have b4 : Below (w2.heap.size + 1) (w2.alloc (.cells #[.int .u8 m, .int .u8 (xs.length : Int)] 5)) w4 := (Below.refl _ _).grown hgrow4 (by simp) (fun k e => by cases e); have q2 := (b4.cell (p := ⟨w.heap.size, 2, none⟩) (by simp; omega)).trans ((D3.out.cell (p := ⟨w.heap.size, 2, none⟩) hB2).trans k2))
  have s2 := bb2.size
  have s4 : w2.heap.size + 1 ≤ w4.heap.size := by have := b4.size; simp at this; omega
  have bb4 : Below w2.heap.size w2 w4 := D3.out.trans (b4.mono (by omega))
  have bbw : Below w.heap.size w w4 := bb2.trans (bb4.mono s2)
  have o4 := made_noughts hown4
  rw [show (w2.alloc (.cells #[.int .u8 m, .int .u8 (xs.length : Int)] 5)).heap.size = w2.heap.size + 1 by simp] at o4
  have HW : Hid (Below w.heap.size w w4) := bbw
  have HA4 : Hid (Holds .u8 w4.heap.size w4 (.slice a xs.length cap) xs) := (ha.below bbw).mono bbw.size
  have HP4' : Hid (Holds .u8 w4.heap.size w4 (.slice ra 4 rc) P) := ((holds_of_row o2).below bb4).mono bb4.size
  have HM4 : Hid (Holds .u8 w4.heap.size w4 (.slice (some ⟨w2.heap.size, 0, none⟩) 2 2) [m, (xs.length : Int)]) := (H3.out.below (b4.mono (by simp))).mono (by simp; omega)
  have HN4 : Hid (Holds .u8 w4.heap.size w4 (.slice (some ⟨w2.heap.size + 1, 0, none⟩) N N) (List.replicate N 0)) := holds_of_row o4
  have X5 : Hid (Box (w4.alloc (.cells #[.slice ra 4 rc, .slice (some ⟨w2.heap.size, 0, none⟩) 2 2, .slice a xs.length cap, .slice (some ⟨w2.heap.size + 1, 0, none⟩) N N] 26)) w4.heap.size 26 #[.slice ra 4 rc, .slice (some ⟨w2.heap.size, 0, none⟩) 2 2, .slice a xs.length cap, .slice (some ⟨w2.heap.size + 1, 0, none⟩) N N]) := Box.new w4 _ _
  have B5 : Hid (Below w4.heap.size w4 (w4.alloc (.cells #[.slice ra 4 rc, .slice (some ⟨w2.heap.size, 0, none⟩) 2 2, .slice a xs.length cap, .slice (some ⟨w2.heap.size + 1, 0, none⟩) N N] 26))) := (Below.refl _ _).alloc (Nat.le_refl _) _
  generalize w4.alloc (.cells #[.slice ra 4 rc, .slice (some ⟨w2.heap.size, 0, none⟩) 2 2, .slice a xs.length cap, .slice (some ⟨w2.heap.size + 1, 0, none⟩) N N] 26) = W5 at *
  clear ha bbw bb4 b4 q2 hown4 hgrow4 o4 o2 H3 D3 c2 k1 k2 x3
  have HCc := concat4_at w4.heap.size ra (some ⟨w2.heap.size, 0, none⟩) a (some ⟨w2.heap.size + 1, 0, none⟩) rc 2 cap N 4 2 xs.length N P [m, (xs.length : Int)] xs (List.replicate N 0) HP4.out rfl rfl (by simp) (by decide) (by decide) (by omega) (by omega) (by decide) W5 (X5.out.cell 0 _ rfl) (X5.out.cell 1 _ rfl) (X5.out.cell 2 _ rfl) (X5.out.cell 3 _ rfl) (HP4'.out.next B5.out) (HM4.out.next B5.out) (HA4.out.next B5.out) (HN4.out.next B5.out)
  rw [HF.out] at HCc
  refine HCc.mono ?_
  rintro e w6 ⟨r6, rfl, o6, b6⟩
  obtain ⟨a6, c6, rfl⟩ := row_shapeB o6
  have eK : 4 + 2 + xs.length + N = Z + 6 := by have := HNE.out; omega
  rw [eK] at o6 ⊢
  have hl6 : Z + 6 ≤ 4092 := by omega
  have HSl := seal_atB a6 (Z + 6) c6 (bodyB Z s m xs) HBL.out hl6 HBD.out w6 (holds_of_row o6)
  have bb6 := HW.out.trans ((B5.out.trans (b6.mono B5.out.size)).mono HW.out.size)
  have HB6 : Hid (Below w.heap.size w w6) := bb6
  clear HCc o6 b6 bb6 eK
  go_wp2_with fail
  refine HSl.mono ?_
  rintro e w7 ⟨r7, rfl, o7, b7⟩
  have o8 : w7.ownsRow w.heap.size 5 1 r7 (Z + 10) ((bytesB Z s m xs).map (Value.int .u8)) := row_base o7 HB6.out.size
  have b8 := HB6.out.trans (b7.mono HB6.out.size)
  clear HSl o7 b7
  go_wp2
  go_ret2
  exact ⟨_, rfl, o8, b8⟩

end Go.Proofs.Ytmjidhnlofpliab

/-
  What package block's take answers: what bytes say, right or not.
-/
namespace Go.Proofs.Ytmjidhnlofpliab
open Go.RowKit

/-- The text that bytes say, with noughts behind it where they are too few. -/
def tkX (zs : List Int) : List Int := (zs.drop 6).take (rdN zs) ++ List.replicate (rdN zs - (zs.length - 6)) 0
theorem tkX_len (zs : List Int) : (tkX zs).length = rdN zs := by
  unfold tkX; rw [List.length_append, List.length_take, List.length_drop, List.length_replicate]; omega
theorem tkX_fits {Z : Nat} {zs : List Int} (hl : zs.length = Z + 10) (h : rdN zs ≤ Z) : tkX zs = rdX zs := by
  unfold tkX rdX
  rw [show rdN zs - (zs.length - 6) = 0 by omega]
  simp

theorem row_heap {W : World} {base n g : Nat} (h : W.ownsRow base 5 1 (.slice (some ⟨g, 0, none⟩) n n) n ((List.replicate n (0 : Int)).map (Value.int .u8))) : W.heap[g]? = some (.cells (List.replicate n (Value.int .u8 0)).toArray 5 (0, 0)) := by
  rw [List.map_replicate] at h
  rcases h.2 with ⟨e, _⟩ | ⟨g', c, cur, e, _, hg, _, _, hs, ht⟩
  · cases e
  · cases e
    rw [hg]
    congr 2
    have hc : cur.toList = List.replicate n (.int .u8 0) := by
      rw [← ht, List.take_of_length_le]
      simp [hs]
    rw [← hc]

theorem heap_holds {W : World} {g n cap : Nat} {ys : List Int} (h : W.heap[g]? = some (.cells (ys.map (Value.int .u8)).toArray 5 (0, 0))) (hl : ys.length = n) : Holds .u8 W.heap.size W (.slice (some ⟨g, 0, none⟩) n cap) ys := by
  subst hl
  refine .inr ⟨g, 0, cap, rfl, (Array.getElem?_eq_some_iff.1 h).1, fun j hj => ?_⟩
  simp [World.cell?, h, hj]

/-- copy over a row of noughts: its run. -/
theorem run_copy_over (g b off n L cap : Nat) (cs : List Int) (w : World) (hg : w.heap[g]? = some (.cells (List.replicate n (Value.int .u8 0)).toArray 5 (0, 0))) (hl : cs.length = Nat.min L n) (hn : cs.length ≤ n)
    (hc : ∀ (j : Nat) (v : Value), (cs.map (Value.int .u8))[j]? = some v → w.cell? ((⟨b, off, none⟩ : Addr).add j) = some v) :
    ∃ w2, (Builtin.copy_ #[26, 26] 3 #[.slice (some ⟨g, 0, none⟩) n n, .slice (some ⟨b, off, none⟩) L cap]).run Try.prog w = .ok (.int .i64 cs.length) w2 ∧ w2.heap[g]? = some (.cells ((cs ++ List.replicate (n - cs.length) 0).map (Value.int .u8)).toArray 5 (0, 0)) ∧ Below g w w2 := by
  obtain ⟨i0, hi, hz0, hz1, hz2⟩ := info_parts infoU8
  have hsz : (Try.prog.info? 5).map (·.size) = some 1 := by rw [hi]; simp [hz1]
  have hr := run_copy_row (P := Try.prog) w 26 26 3 5 g 0 n n ⟨b, off, none⟩ L cap _ 5 (cs.map (Value.int .u8)) Try.underlying26 hsz hg (by rw [List.length_map]; exact hl) hc (by simp; omega) (oneCells _ _)
  have e0 : ((List.replicate n (Value.int .u8 0)).toArray.toList.take 0 ++ cs.map (Value.int .u8) ++ (List.replicate n (Value.int .u8 0)).toArray.toList.drop (0 + (cs.map (Value.int .u8)).length)) = (cs ++ List.replicate (n - cs.length) 0).map (Value.int .u8) := by
    simp
  rw [e0, List.length_map] at hr
  exact ⟨_, hr, setRow_heap w g _ _ _ _ hg, below_setRow (Below.refl g w) (Nat.le_refl _) _⟩

theorem holds_set3 {kd : IntKind} {W : World} {D g n cap : Nat} {ys : List Int} (h : Holds kd W.heap.size W (.slice (some ⟨g, 0, none⟩) n cap) ys) (hD : g ≠ D) (x y z : Value) : Holds kd (((W.setCell ⟨D, 0, none⟩ x).setCell ⟨D, 1, none⟩ y).setCell ⟨D, 2, none⟩ z).heap.size (((W.setCell ⟨D, 0, none⟩ x).setCell ⟨D, 1, none⟩ y).setCell ⟨D, 2, none⟩ z) (.slice (some ⟨g, 0, none⟩) n cap) ys := by
  rcases h with h | ⟨b, off, c, e, hb, hc⟩
  · exact .inl h
  · cases e
    refine .inr ⟨g, 0, cap, rfl, by simpa [World.setCell] using hb, fun j hj => ?_⟩
    rw [World.cell?_setCell_other _ _ _ _ (fun e => hD (congrArg Addr.block e).symm), World.cell?_setCell_other _ _ _ _ (fun e => hD (congrArg Addr.block e).symm), World.cell?_setCell_other _ _ _ _ (fun e => hD (congrArg Addr.block e).symm)]
    exact hc j hj

set_option maxRecDepth 100000 in
set_option maxHeartbeats 4000000 in
theorem take_any (Z : Nat) (hZ2 : Z ≤ 16) (a : Option Addr) (cap : Nat) (zs : List Int) (hl : zs.length = Z + 10) (hc : zs.length ≤ cap) (bz : ∀ z ∈ zs, 0 ≤ z ∧ z ≤ 255) (w : World) (ha : Holds .u8 w.heap.size w (.slice a zs.length cap) zs) :
    Calls Try.prog 54 #[.slice a zs.length cap] w fun e W' => ∃ g, e = .returned (.tuple #[.agg #[.int .i64 (rdS zs), .int .i64 (rdM zs), .slice (some ⟨g, 0, none⟩) (rdN zs) (rdN zs)], .int .i64 0]) ∧ Holds .u8 W'.heap.size W' (.slice (some ⟨g, 0, none⟩) (rdN zs) (rdN zs)) (tkX zs) ∧ w.heap.size ≤ g ∧ Below w.heap.size w W' := by
  obtain ⟨i0, hi, hz0, hz1, hz2⟩ := info_parts infoU8
  have hsz : (Try.prog.info? 5).map (·.size) = some 1 := by rw [hi]; simp [hz1]
  have b0 := (Below.refl w.heap.size w).alloc (Nat.le_refl _) (.cells #[.int .i64 0, .int .i64 0, .slice none 0 0] 79)
  have x0 := Box.new w 79 #[.int .i64 0, .int .i64 0, .slice none 0 0]
  have hcap6 : ¬ cap = 6 := by omega
  rcases id ha with ⟨_, e⟩ | ⟨b, off, cap', e, hb, hcs⟩
  · rw [e] at hl; simp at hl
  cases e
  have c4 : w.cell? ⟨b, off + 4, none⟩ = some (.int .u8 (rdM zs)) := hcs 4 (by omega)
  have hN0 : 0 ≤ (zs[5]?.getD 0 : Int) ∧ (zs[5]?.getD 0 : Int) ≤ 255 := by
    have h5 : 5 < zs.length := by omega
    rw [List.getElem?_eq_getElem h5]
    exact bz _ (List.getElem_mem h5)
  have c5 : w.cell? ⟨b, off + 5, none⟩ = some (.int .u8 (rdN zs : Int)) := by
    rw [show (rdN zs : Int) = zs[5]?.getD 0 by unfold rdN; omega]; exact hcs 5 (by omega)
  have hM0 : 0 ≤ rdM zs ∧ rdM zs ≤ 255 := by
    unfold rdM
    have h5 : 4 < zs.length := by omega
    rw [List.getElem?_eq_getElem h5]
    exact bz _ (List.getElem_mem h5)
  have hN1 : rdN zs ≤ 255 := by unfold rdN; omega
  have HGet : Calls Try.prog 68 #[.slice (some ⟨b, off, none⟩) zs.length cap, .int .i64 0, .int .i64 4] (w.alloc (.cells #[.int .i64 0, .int .i64 0, .slice none 0 0] 79)) fun e w' => e = .returned (.tuple #[.int .i64 (rdS zs), .int .i64 0]) ∧ (w.alloc (.cells #[.int .i64 0, .int .i64 0, .slice none 0 0] 79)) = w' := get_ok b off cap zs 0 4 _ (by decide) (by decide) (by omega) hc (by omega) bz (fun j hj => (b0.cell (p := ⟨b, off + j, none⟩) hb).trans (hcs j hj))
  have e4 := (b0.cell (p := ⟨b, off + 4, none⟩) hb).trans c4
  have e5 := (b0.cell (p := ⟨b, off + 5, none⟩) hb).trans c5
  obtain ⟨cs, hcse⟩ : ∃ cs, (zs.drop 6).take (rdN zs) = cs := ⟨_, rfl⟩
  have hcl : cs.length = Nat.min (zs.length - 6) (rdN zs) := by rw [← hcse, List.length_take, List.length_drop, Nat.min_comm]
  have HCL : Hid (cs.length = Nat.min (zs.length - 6) (rdN zs)) := hcl
  have HCS : Hid (∀ (j : Nat) (v : Value), (cs.map (Value.int .u8))[j]? = some v → w.cell? ((⟨b, off + 6, none⟩ : Addr).add j) = some v) := fun j v hj => by
    have hj1 : j < cs.length := by simpa using (List.getElem?_eq_some_iff.1 hj).1
    have hj2 : j < zs.length - 6 := Nat.lt_of_lt_of_le (hcl ▸ hj1) (Nat.min_le_left _ _)
    have hj3 : j < rdN zs := Nat.lt_of_lt_of_le (hcl ▸ hj1) (Nat.min_le_right _ _)
    rw [Addr.add_lit, Nat.add_assoc, hcs (6 + j) (by omega)]
    rw [← hcse] at hj
    rw [List.getElem?_map, List.getElem?_take_of_lt hj3, List.getElem?_drop, List.getElem?_eq_getElem (by omega : 6 + j < zs.length)] at hj
    rw [List.getElem?_eq_getElem (by omega : 6 + j < zs.length)]
    exact hj
  have HT : Hid (cs ++ List.replicate (rdN zs - cs.length) 0 = tkX zs) := by
    show _ = _
    unfold tkX
    rw [hcse]
    congr 2
    rw [hcl]
    show rdN zs - min (zs.length - 6) (rdN zs) = _
    omega
  have HTL : Hid ((tkX zs).length = rdN zs) := tkX_len zs
  have HCN : Hid (cs.length ≤ rdN zs) := by show cs.length ≤ _; rw [hcl]; exact Nat.min_le_right _ _
  obtain ⟨S, hS⟩ : ∃ S, rdS zs = S := ⟨_, rfl⟩
  obtain ⟨M, hM⟩ : ∃ M, rdM zs = M := ⟨_, rfl⟩
  obtain ⟨n, hn⟩ : ∃ n, rdN zs = n := ⟨_, rfl⟩
  obtain ⟨X, hX⟩ : ∃ X, tkX zs = X := ⟨_, rfl⟩
  rw [hS] at HGet
  rw [hM] at e4 hM0
  rw [hn] at e5 hN1 HCL HT HTL HCN
  rw [hX] at HT HTL
  rw [hS, hM, hn, hX]
  have ewM : IntKind.i64.wrap M = M := by rw [IntKind.wrap_i64]; omega
  have hi5 : (5 : Int) < (zs.length : Int) := by omega
  have hi5' : 5 < zs.length := by omega
  have hi4 : (4 : Int) < (zs.length : Int) := by omega
  have hi4' : 4 < zs.length := by omega
  have hi6 : (6 : Int) ≤ (zs.length : Int) := by omega
  have hi6' : 6 ≤ zs.length := by omega
  clear bz hl hcs ha hN0 hS hM hn hX hcse hcl c4 c5
  go_enter Try.func54, Try.ntmps54
  go_wp2_with fail
  refine HGet.mono ?_
  rintro e w1 ⟨rfl, rfl⟩
  clear HGet
  go_wp2_with (at_make; refine wpList_make_full _ rfl _ _ 26 rfl (w.heap.size + 1) 5 i0 (.int .u8 0) 1 Try.underlying26 hi hz0 hz1 .i64 .i64 _ _ n rfl rfl rfl rfl (by rw [hz2]; omega) (by unfold maxLen; omega) (by simp) ?_; intro w2 hown2 hgrow2)
  have b2 : Below (w.heap.size + 1) (w.alloc (.cells #[.int .i64 0, .int .i64 0, .slice none 0 0] 79)) w2 := (Below.refl _ _).grown hgrow2 (by simp) (fun k e => by cases e)
  have o2 := made_noughts hown2
  rw [show (w.alloc (.cells #[.int .i64 0, .int .i64 0, .slice none 0 0] 79)).heap.size = w.heap.size + 1 by simp] at o2
  obtain ⟨w3, hr3, hg3, b3'⟩ := run_copy_over (w.heap.size + 1) b (off + 6) n (zs.length - 6) (cap - 6) cs w2 (row_heap o2) HCL.out HCN.out (fun j v hj => (b2.cell (p := (⟨b, off + 6, none⟩ : Addr).add j) (by rw [Addr.add_lit]; show b < w.heap.size + 1; omega)).trans ((b0.cell (p := (⟨b, off + 6, none⟩ : Addr).add j) (by rw [Addr.add_lit]; exact hb)).trans (HCS.out j v hj)))
  have b3 := b2.trans b3'
  have z4 := (b3.cell (p := ⟨b, off + 4, none⟩) (by show b < w.heap.size + 1; omega)).trans e4
  have y3 := x0.below b3 (by simp)
  have z0 := y3.cell 0 _ rfl
  have z1 := y3.cell 1 _ rfl
  have z2 := y3.cell 2 _ rfl
  have f0 := y3.free 0
  have f1 := y3.free 1
  have f2 := y3.free 2
  have hs3 : w.heap.size + 1 < w3.heap.size := (Array.getElem?_eq_some_iff.1 hg3).1
  have bb3 : Below w.heap.size w w3 := b0.trans (b3.mono (by omega))
  have HH : Hid (Holds .u8 w3.heap.size w3 (.slice (some ⟨w.heap.size + 1, 0, none⟩) n n) X) := heap_holds (HT.out ▸ hg3) HTL.out
  clear hown2 hgrow2 o2 b2 b3' hg3 e4 e5 HCS HCL HCN HT HTL b3 b0 x0
  rw [hr3]
  clear hr3
  go_wp2
  refine bodyPost_ret (v := .tuple #[.agg #[.int .i64 S, .int .i64 M, .slice (some ⟨w.heap.size + 1, 0, none⟩) n n], .int .i64 0]) (by simp [results, Try.results54, go_sem, z0, z1, z2]) rfl ⟨_, rfl, ?_, Nat.le_succ _, below_set3 bb3 (Nat.le_refl _) _ _ _⟩
  exact holds_set3 HH.out (by omega) _ _ _

end Go.Proofs.Ytmjidhnlofpliab
