/-
  What slices.Grow (of nothing), slices.Concat (of four) and slices.Equal answer, of bytes; copy over a row of noughts.
-/
import Derived.Test.YtmjidhnlofpliaaDoorM09
import Derived.Test.YtmjidhnlofpliaaDoorM22
import Derived.BigQuiet
import Derived.Laws.CopyOwn
import Derived.Lib.AppendZerosOnto
import Derived.Lib.SliceRun
namespace Go.Proofs.YtmjidhnlofpliaaDoor
open Go.RowKit

set_option maxRecDepth 100000 in
set_option maxHeartbeats 2000000 in
theorem growB_new (k : Nat) (h0 : 0 < k) (hk : k ≤ 4294967296) (w : World) :
    Calls Tryd.prog 85 #[.slice none 0 0, .int .i64 (k : Int)] w fun e W' => ∃ r, e = .returned r ∧ W'.ownsRow w.heap.size 5 1 r 0 [] ∧ Below w.heap.size w W' := by
  obtain ⟨i0, hi, hz0, hz1, hz2⟩ := info_parts infoU8
  have hold : (Builtin.firstCells i0.size 0 (.slice none 0 0)).run Tryd.prog w.drew = .ok ([] : List Value).toArray w.drew := Go.run_firstCells_none w.drew i0.size 0 0 0
  have hrz := Lib.run_append_grow_zeros w 35 3 35 5 i0 (.int .u8 0) .i64 .i64 Tryd.underlying35 Tryd.underlying3 hi hz0 none 0 0 [] hold k h0 (by rw [hz1]; decide) (by omega) (by omega) (by rw [hz2]; omega) (growslice_fits (by omega) (by rw [hz2]; omega))
  have hGm := grownCap_le_maxLen w (0 + k) 0 5 (by unfold maxLen; omega)
  have hGn : 0 + k ≤ grownCap w (0 + k) 0 5 := grownCap_ge w _ _ _
  obtain ⟨G, hG⟩ : ∃ G, grownCap w (0 + k) 0 5 = G := ⟨_, rfl⟩
  rw [hG] at hrz hGm hGn
  obtain ⟨cur, hcur⟩ : ∃ cur, (([] : List Value).toArray ++ Builtin.zeroCells (Value.int .u8 0).cells k ++ Builtin.zeroCells (Value.int .u8 0).cells (G - (0 + k))) = cur := ⟨_, rfl⟩
  have hcs : cur.size = G * 1 := by
    rw [← hcur]
    simp only [Array.size_append, List.size_toArray, size_zeroCells, List.length_nil]
    have : (Value.int .u8 0).cells.size = 1 := rfl
    rw [this]
    omega
  rw [hcur] at hrz
  have o1 : (w.drew.alloc (.cells cur 5)).ownsRow w.heap.size 5 1 (.slice (some ⟨w.drew.heap.size, 0, none⟩) 0 G) 0 [] := World.ownsRow_made w.drew cur G (Nat.le_refl _) hGm hcs
  have b1 := (Below.refl w.heap.size w).drew.alloc (Nat.le_refl _) (.cells cur 5)
  have hG2 : G ≤ 9223372036854775807 := by unfold maxLen at hGm; omega
  have e0 : 0 + k = k := by omega
  rw [e0] at hrz
  clear hcur hG hGm hGn hold hcs
  go_enter Tryd.func85, Tryd.ntmps85
  go_wp2_with (at_builtin; refine Lib.wpList_append_run _ rfl _ _ _ _ rfl _ _ rfl rfl _ _ hrz ?_)
  all_goals (go_ret; exact ⟨_, rfl, o1, b1⟩)

set_option maxRecDepth 100000 in
set_option maxHeartbeats 4000000 in
/-- slices.Concat of four texts, not all of them without bytes. -/
theorem concat4_ok (g : Nat) (a1 a2 a3 a4 : Option Addr) (c1 c2 c3 c4 : Nat) (l1 l2 l3 l4 : List Int) (p1 : l1.length ≤ 1048576) (p2 : l2.length ≤ 1048576) (p3 : l3.length ≤ 1048576) (p4 : l4.length ≤ 1048576) (h0 : 0 < l1.length) (w : World)
    (k1 : w.cell? ⟨g, 0, none⟩ = some (.slice a1 l1.length c1)) (k2 : w.cell? ⟨g, 1, none⟩ = some (.slice a2 l2.length c2)) (k3 : w.cell? ⟨g, 2, none⟩ = some (.slice a3 l3.length c3)) (k4 : w.cell? ⟨g, 3, none⟩ = some (.slice a4 l4.length c4))
    (h1 : Holds .u8 w.heap.size w (.slice a1 l1.length c1) l1) (h2 : Holds .u8 w.heap.size w (.slice a2 l2.length c2) l2) (h3 : Holds .u8 w.heap.size w (.slice a3 l3.length c3) l3) (h4 : Holds .u8 w.heap.size w (.slice a4 l4.length c4) l4) :
    Calls Tryd.prog 75 #[.slice (some ⟨g, 0, none⟩) 4 4] w fun e W' => ∃ r, e = .returned r ∧ W'.ownsRow w.heap.size 5 1 r (l1.length + l2.length + l3.length + l4.length) ((l1 ++ l2 ++ l3 ++ l4).map (Value.int .u8)) ∧ Below w.heap.size w W' := by
  have hg : g < w.heap.size := cell_block_lt k1
  have H1 : Hid (Holds .u8 w.heap.size w (.slice a1 l1.length c1) l1) := h1
  have H2 : Hid (Holds .u8 w.heap.size w (.slice a2 l2.length c2) l2) := h2
  have H3 : Hid (Holds .u8 w.heap.size w (.slice a3 l3.length c3) l3) := h3
  have H4 : Hid (Holds .u8 w.heap.size w (.slice a4 l4.length c4) l4) := h4
  obtain ⟨n1, e1⟩ : ∃ n, l1.length = n := ⟨_, rfl⟩
  obtain ⟨n2, e2⟩ : ∃ n, l2.length = n := ⟨_, rfl⟩
  obtain ⟨n3, e3⟩ : ∃ n, l3.length = n := ⟨_, rfl⟩
  obtain ⟨n4, e4⟩ : ∃ n, l4.length = n := ⟨_, rfl⟩
  rw [e1] at H1 p1 h0 k1 ⊢
  rw [e2] at H2 p2 k2 ⊢
  rw [e3] at H3 p3 k3 ⊢
  rw [e4] at H4 p4 k4 ⊢
  have E1 : Hid (l1.length = n1) := e1
  have E2 : Hid (l2.length = n2) := e2
  have E3 : Hid (l3.length = n3) := e3
  have E4 : Hid (l4.length = n4) := e4
  clear e1 e2 e3 e4 h1 h2 h3 h4
  go_enter Tryd.func75, Tryd.ntmps75
  go_wp2
  go_loop [3, 11] (fun s i => (s = .int .i64 0 ∧ i = .int .i64 0) ∨ (s = .int .i64 n1 ∧ i = .int .i64 1) ∨ (s = .int .i64 ((n1 + n2 : Nat) : Int) ∧ i = .int .i64 2) ∨ (s = .int .i64 ((n1 + n2 + n3 : Nat) : Int) ∧ i = .int .i64 3) ∨ (s = .int .i64 ((n1 + n2 + n3 + n4 : Nat) : Int) ∧ i = .int .i64 4)) (fun _ i => 4 - (intOf i).toNat)
  case atStart => exact .inl ⟨rfl, rfl⟩
  case round =>
    rcases hrel with ⟨rfl, rfl⟩ | ⟨rfl, rfl⟩ | ⟨rfl, rfl⟩ | ⟨rfl, rfl⟩ | ⟨rfl, rfl⟩
    · go_wp2
      go_round
      case rel => exact .inr (.inl ⟨by go_num, by go_num⟩)
      case measure => simp [intOf]
    · go_wp2
      go_round
      case rel => exact .inr (.inr (.inl ⟨by go_num, by go_num⟩))
      case measure => simp [intOf]
    · go_wp2
      go_round
      case rel => exact .inr (.inr (.inr (.inl ⟨by go_num, by go_num⟩)))
      case measure => simp [intOf]
    · go_wp2
      go_round
      case rel => exact .inr (.inr (.inr (.inr ⟨by go_num, by go_num⟩)))
      case measure => simp [intOf]
    · obtain ⟨m, hm⟩ : ∃ m, n1 + n2 + n3 + n4 = m := ⟨_, rfl⟩
      have HG := growB_new m (by omega) (by omega) w
      rw [hm]
      have HM : Hid (n1 + n2 + n3 + n4 = m) := hm
      have hmp : 0 < m := by omega
      clear hm
      go_wp2_with fail
      refine HG.mono ?_
      rintro e w1 ⟨r, rfl, o1, b1⟩
      have hs1 := b1.size
      have q1 := (b1.cell (p := ⟨g, 0, none⟩) hg).trans k1
      have q2 := (b1.cell (p := ⟨g, 1, none⟩) hg).trans k2
      have q3 := (b1.cell (p := ⟨g, 2, none⟩) hg).trans k3
      have q4 := (b1.cell (p := ⟨g, 3, none⟩) hg).trans k4
      clear HG k1 k2 k3 k4
      go_wp2
      go_loopw [6, 27] (fun v i wr => ((i = .int .i64 0 ∧ wr.ownsRow w.heap.size 5 1 v 0 (([] : List Int).map (Value.int .u8))) ∨ (i = .int .i64 1 ∧ wr.ownsRow w.heap.size 5 1 v n1 (l1.map (Value.int .u8))) ∨ (i = .int .i64 2 ∧ wr.ownsRow w.heap.size 5 1 v (n1 + n2) ((l1 ++ l2).map (Value.int .u8))) ∨ (i = .int .i64 3 ∧ wr.ownsRow w.heap.size 5 1 v (n1 + n2 + n3) ((l1 ++ l2 ++ l3).map (Value.int .u8))) ∨ (i = .int .i64 4 ∧ wr.ownsRow w.heap.size 5 1 v (n1 + n2 + n3 + n4) ((l1 ++ l2 ++ l3 ++ l4).map (Value.int .u8)))) ∧ Below w.heap.size w wr) (fun _ i _ => 4 - (intOf i).toNat)
      case atStart => exact ⟨.inl ⟨rfl, o1⟩, b1⟩
      case round =>
        obtain ⟨hc, hbw⟩ := hrel
        have r1 := (hbw.cell (p := ⟨g, 0, none⟩) hg).trans ((b1.cell (p := ⟨g, 0, none⟩) hg).symm.trans q1)
        have r2 := (hbw.cell (p := ⟨g, 1, none⟩) hg).trans ((b1.cell (p := ⟨g, 1, none⟩) hg).symm.trans q2)
        have r3 := (hbw.cell (p := ⟨g, 2, none⟩) hg).trans ((b1.cell (p := ⟨g, 2, none⟩) hg).symm.trans q3)
        have r4 := (hbw.cell (p := ⟨g, 3, none⟩) hg).trans ((b1.cell (p := ⟨g, 3, none⟩) hg).symm.trans q4)
        clear q1 q2 q3 q4 o1
        rcases hc with ⟨rfl, ho⟩ | ⟨rfl, ho⟩ | ⟨rfl, ho⟩ | ⟨rfl, ho⟩ | ⟨rfl, ho⟩
        · obtain ⟨v3, w3, hr3, ho3, hg3⟩ := run_append_u8 _ (.slice a1 n1 c1) 0 w.heap.size _ [] l1 35 wr ho (H1.out.below hbw) hbw.size (by omega) (by rw [E1.out]; omega)
          rw [E1.out, List.nil_append, Nat.zero_add] at ho3
          have b3 := hbw.trans ((Below.refl w.heap.size _).grown hg3 hbw.size (fun q e => (ho.lt q e).1))
          have HR3 : Hid _ := hr3
          clear hr3 ho hg3
          go_wp2_with (at_builtin; refine wpList_append_run rfl _ _ 35 rfl _ _ rfl rfl _ _ HR3.out ?_)
          exact ⟨⟨.inr (.inl ⟨by go_num, ho3⟩), b3⟩, by simp [intOf]⟩
        · obtain ⟨v3, w3, hr3, ho3, hg3⟩ := run_append_u8 _ (.slice a2 n2 c2) n1 w.heap.size _ l1 l2 35 wr ho (H2.out.below hbw) hbw.size (by omega) (by rw [E2.out]; omega)
          rw [E2.out] at ho3
          have b3 := hbw.trans ((Below.refl w.heap.size _).grown hg3 hbw.size (fun q e => (ho.lt q e).1))
          have HR3 : Hid _ := hr3
          clear hr3 ho hg3
          go_wp2_with (at_builtin; refine wpList_append_run rfl _ _ 35 rfl _ _ rfl rfl _ _ HR3.out ?_)
          exact ⟨⟨.inr (.inr (.inl ⟨by go_num, ho3⟩)), b3⟩, by simp [intOf]⟩
        · obtain ⟨v3, w3, hr3, ho3, hg3⟩ := run_append_u8 _ (.slice a3 n3 c3) (n1 + n2) w.heap.size _ (l1 ++ l2) l3 35 wr ho (H3.out.below hbw) hbw.size (by omega) (by rw [E3.out]; omega)
          rw [E3.out] at ho3
          have b3 := hbw.trans ((Below.refl w.heap.size _).grown hg3 hbw.size (fun q e => (ho.lt q e).1))
          have HR3 : Hid _ := hr3
          clear hr3 ho hg3
          go_wp2_with (at_builtin; refine wpList_append_run rfl _ _ 35 rfl _ _ rfl rfl _ _ HR3.out ?_)
          exact ⟨⟨.inr (.inr (.inr (.inl ⟨by go_num, ho3⟩))), b3⟩, by simp [intOf]⟩
        · obtain ⟨v3, w3, hr3, ho3, hg3⟩ := run_append_u8 _ (.slice a4 n4 c4) (n1 + n2 + n3) w.heap.size _ (l1 ++ l2 ++ l3) l4 35 wr ho (H4.out.below hbw) hbw.size (by omega) (by rw [E4.out]; omega)
          rw [E4.out] at ho3
          have b3 := hbw.trans ((Below.refl w.heap.size _).grown hg3 hbw.size (fun q e => (ho.lt q e).1))
          have HR3 : Hid _ := hr3
          clear hr3 ho hg3
          go_wp2_with (at_builtin; refine wpList_append_run rfl _ _ 35 rfl _ _ rfl rfl _ _ HR3.out ?_)
          exact ⟨⟨.inr (.inr (.inr (.inr ⟨by go_num, ho3⟩))), b3⟩, by simp [intOf]⟩
        · go_wp2
          go_ret
          exact ⟨_, rfl, HM.out ▸ ho, hbw⟩

end Go.Proofs.YtmjidhnlofpliaaDoor

/-
  What package block's isSize, Check and Make answer.
-/
namespace Go.Proofs.YtmjidhnlofpliaaDoor
open Go.RowKit

set_option maxHeartbeats 400000 in
theorem bsize_any (z : Int) (w : World) : Calls Tryd.prog 84 #[.int .i64 z] w fun e w' => e = .returned (.bool (bSize z)) ∧ w = w' := by
  unfold bSize
  by_cases h1 : 1 ≤ z
  · have d1 : decide (1 ≤ z) = true := decide_eq_true h1
    rw [d1, Bool.true_and]
    go_enter Tryd.func84, Tryd.ntmps84
    go_wp2
    go_ret
    exact ⟨rfl, rfl⟩
  · have d1 : decide (1 ≤ z) = false := decide_eq_false h1
    rw [d1, Bool.false_and]
    go_enter Tryd.func84, Tryd.ntmps84
    go_wp2
    go_ret
    exact ⟨rfl, rfl⟩

theorem bsize_yes {z : Int} (h : 1 ≤ z ∧ z ≤ 16) : bSize z = true := by
  unfold bSize
  rw [decide_eq_true h.1, decide_eq_true h.2]; rfl
theorem bsize_no {z : Int} (h : ¬ (1 ≤ z ∧ z ≤ 16)) : bSize z = false := by
  unfold bSize
  by_cases h1 : 1 ≤ z
  · rw [decide_eq_true h1, decide_eq_false (fun h2 => h ⟨h1, h2⟩)]; rfl
  · rw [decide_eq_false h1]; rfl

theorem and_last {m : Int} (h0 : 0 ≤ m) (h1 : m ≤ 3) : (bits .and .i64 m 2 != 0) = decide (2 ≤ m) := by
  have : m = 0 ∨ m = 1 ∨ m = 2 ∨ m = 3 := by omega
  rcases this with rfl | rfl | rfl | rfl <;> decide

set_option maxRecDepth 100000 in
set_option maxHeartbeats 2000000 in
theorem Check_any (z s m : Int) (a : Option Addr) (n cap : Nat) (w : World) :
    Calls Tryd.prog 74 #[.int .i64 z, .agg #[.int .i64 s, .int .i64 m, .slice a n cap]] w fun e w' => e = .returned (.int .i64 (errB z s m n)) ∧ Below w.heap.size w w' := by
  have b1 : Below w.heap.size w (w.alloc (.cells #[.int .i64 s, .int .i64 m, .slice a n cap] 96)) := (Below.refl w.heap.size w).alloc (Nat.le_refl _) _
  have HS := bsize_any z (w.alloc (.cells #[.int .i64 s, .int .i64 m, .slice a n cap] 96))
  by_cases h0 : ¬ (1 ≤ z ∧ z ≤ 16)
  · rw [bsize_no h0] at HS
    rw [errB_arg (by rw [← Bool.not_eq_true, bArg_iff]; omega)]
    clear h0
    go_enter Tryd.func74, Tryd.ntmps74
    go_wp2_with (go_at_call 84; refine HS.mono ?_; rintro e w' ⟨rfl, rfl⟩)
    go_ret
    exact ⟨rfl, b1⟩
  have h0 : 1 ≤ z ∧ z ≤ 16 := Classical.not_not.1 h0
  rw [bsize_yes h0] at HS
  by_cases h2 : s < 0
  · have d2 : decide (s < 0) = true := decide_eq_true h2
    rw [errB_arg (by rw [← Bool.not_eq_true, bArg_iff]; omega)]
    clear h0 h2
    go_enter Tryd.func74, Tryd.ntmps74
    go_wp2_with (go_at_call 84; refine HS.mono ?_; rintro e w' ⟨rfl, rfl⟩)
    go_ret
    exact ⟨rfl, b1⟩
  have d2 : decide (s < 0) = false := decide_eq_false h2
  by_cases h3 : 1073741824 ≤ s
  · have d3 : decide (1073741824 ≤ s) = true := decide_eq_true h3
    rw [errB_arg (by rw [← Bool.not_eq_true, bArg_iff]; omega)]
    clear h0 h2 h3
    go_enter Tryd.func74, Tryd.ntmps74
    go_wp2_with (go_at_call 84; refine HS.mono ?_; rintro e w' ⟨rfl, rfl⟩)
    go_ret
    exact ⟨rfl, b1⟩
  have d3 : decide (1073741824 ≤ s) = false := decide_eq_false h3
  by_cases h4 : m < 0
  · have d4 : decide (m < 0) = true := decide_eq_true h4
    rw [errB_arg (by rw [← Bool.not_eq_true, bArg_iff]; omega)]
    clear h0 h2 h3 h4
    go_enter Tryd.func74, Tryd.ntmps74
    go_wp2_with (go_at_call 84; refine HS.mono ?_; rintro e w' ⟨rfl, rfl⟩)
    go_ret
    exact ⟨rfl, b1⟩
  have d4 : decide (m < 0) = false := decide_eq_false h4
  by_cases h5 : 3 < m
  · have d5 : decide (3 < m) = true := decide_eq_true h5
    rw [errB_arg (by rw [← Bool.not_eq_true, bArg_iff]; omega)]
    clear h0 h2 h3 h4 h5
    go_enter Tryd.func74, Tryd.ntmps74
    go_wp2_with (go_at_call 84; refine HS.mono ?_; rintro e w' ⟨rfl, rfl⟩)
    go_ret
    exact ⟨rfl, b1⟩
  have d5 : decide (3 < m) = false := decide_eq_false h5
  have hA : bArg z s m = true := (bArg_iff _ _ _).2 (by omega)
  have ha := and_last (m := m) (by omega) (by omega)
  by_cases h6 : z < (n : Int)
  · have d6 : decide (z < (n : Int)) = true := decide_eq_true h6
    rw [errB_len hA (by rw [← Bool.not_eq_true, bLen_iff]; omega)]
    clear hA h0 h2 h3 h4 h5 h6
    go_enter Tryd.func74, Tryd.ntmps74
    go_wp2_with (go_at_call 84; refine HS.mono ?_; rintro e w' ⟨rfl, rfl⟩)
    go_ret
    exact ⟨rfl, b1⟩
  have d6 : decide (z < (n : Int)) = false := decide_eq_false h6
  by_cases h8 : (n : Int) < z
  · have d8 : decide ((n : Int) < z) = true := decide_eq_true h8
    by_cases h7 : 2 ≤ m
    · rw [decide_eq_true h7] at ha
      rw [errB_zero.2 ⟨hA, (bLen_iff _ _ _).2 (by omega)⟩]
      clear hA h0 h2 h3 h4 h5 h6 h7 h8
      go_enter Tryd.func74, Tryd.ntmps74
      go_wp2_with (go_at_call 84; refine HS.mono ?_; rintro e w' ⟨rfl, rfl⟩)
      go_ret
      exact ⟨rfl, b1⟩
    · rw [decide_eq_false h7] at ha
      rw [errB_len hA (by rw [← Bool.not_eq_true, bLen_iff]; omega)]
      clear hA h0 h2 h3 h4 h5 h6 h7 h8
      go_enter Tryd.func74, Tryd.ntmps74
      go_wp2_with (go_at_call 84; refine HS.mono ?_; rintro e w' ⟨rfl, rfl⟩)
      go_ret
      exact ⟨rfl, b1⟩
  · have d8 : decide ((n : Int) < z) = false := decide_eq_false h8
    rw [errB_zero.2 ⟨hA, (bLen_iff _ _ _).2 (by omega)⟩]
    clear hA h0 h2 h3 h4 h5 h6 h8
    go_enter Tryd.func74, Tryd.ntmps74
    go_wp2_with (go_at_call 84; refine HS.mono ?_; rintro e w' ⟨rfl, rfl⟩)
    go_ret
    exact ⟨rfl, b1⟩

theorem made_noughts {w1 : World} {base n : Nat} {a : Option Addr} (h : w1.ownsRow base 5 1 (.slice a n n) n (madeCells (Value.int IntKind.u8 0).cells (n * 1)).toList) : w1.ownsRow base 5 1 (.slice a n n) n ((List.replicate n (0 : Int)).map (Value.int .u8)) := by
  rw [show (Value.int IntKind.u8 0).cells = #[.int .u8 0] from rfl, toList_madeCells_one, Nat.mul_one] at h
  rw [List.map_replicate]; exact h

theorem concat4_at (g : Nat) (a1 a2 a3 a4 : Option Addr) (c1 c2 c3 c4 n1 n2 n3 n4 : Nat) (l1 l2 l3 l4 : List Int) (e1 : l1.length = n1) (e2 : l2.length = n2) (e3 : l3.length = n3) (e4 : l4.length = n4) (p1 : n1 ≤ 1048576) (p2 : n2 ≤ 1048576) (p3 : n3 ≤ 1048576) (p4 : n4 ≤ 1048576) (h0 : 0 < n1) (w : World)
    (k1 : w.cell? ⟨g, 0, none⟩ = some (.slice a1 n1 c1)) (k2 : w.cell? ⟨g, 1, none⟩ = some (.slice a2 n2 c2)) (k3 : w.cell? ⟨g, 2, none⟩ = some (.slice a3 n3 c3)) (k4 : w.cell? ⟨g, 3, none⟩ = some (.slice a4 n4 c4))
    (h1 : Holds .u8 w.heap.size w (.slice a1 n1 c1) l1) (h2 : Holds .u8 w.heap.size w (.slice a2 n2 c2) l2) (h3 : Holds .u8 w.heap.size w (.slice a3 n3 c3) l3) (h4 : Holds .u8 w.heap.size w (.slice a4 n4 c4) l4) :
    Calls Tryd.prog 75 #[.slice (some ⟨g, 0, none⟩) 4 4] w fun e W' => ∃ r, e = .returned r ∧ W'.ownsRow w.heap.size 5 1 r (n1 + n2 + n3 + n4) ((l1 ++ l2 ++ l3 ++ l4).map (Value.int .u8)) ∧ Below w.heap.size w W' := by
  subst e1 e2 e3 e4
  exact concat4_ok g a1 a2 a3 a4 c1 c2 c3 c4 l1 l2 l3 l4 p1 p2 p3 p4 h0 w k1 k2 k3 k4 h1 h2 h3 h4

theorem seal_atB (a : Option Addr) (n cap : Nat) (xs : List Int) (hn : xs.length = n) (hl : n ≤ 4092) (bx : ∀ z ∈ xs, 0 ≤ z ∧ z ≤ 255) (w : World) (ha : Holds .u8 w.heap.size w (.slice a n cap) xs) :
    Calls Tryd.prog 58 #[.slice a n cap] w fun e W' => ∃ r, e = .returned (.tuple #[r, .int .i64 0]) ∧ W'.ownsRow w.heap.size 5 1 r (n + 4) ((sealL xs).map (Value.int .u8)) ∧ Below w.heap.size w W' := by
  subst hn
  exact Seal_any a cap xs hl bx w ha

theorem row_shapeB {W : World} {base k : Nat} {e : TypeId} {v : Value} {xs : List Value} (h : W.ownsRow base e 1 v k xs) : ∃ a c, v = .slice a k c := by
  rcases h.2 with ⟨e, e0⟩ | ⟨g, c, cur, e, _⟩
  · exact ⟨_, _, by rw [e, e0]⟩
  · exact ⟨_, _, e⟩

set_option maxRecDepth 100000 in
set_option maxHeartbeats 4000000 in
theorem Make_ok (Z : Nat) (s m : Int) (a : Option Addr) (cap : Nat) (xs : List Int) (h : Right Z s m xs) (bx : ∀ z ∈ xs, 0 ≤ z ∧ z ≤ 255) (w : World) (ha : Holds .u8 w.heap.size w (.slice a xs.length cap) xs) :
    Calls Tryd.prog 55 #[.int .i64 Z, .agg #[.int .i64 s, .int .i64 m, .slice a xs.length cap]] w fun e W' => ∃ r, e = .returned (.tuple #[r, .int .i64 0]) ∧ W'.ownsRow w.heap.size 5 1 r (Z + 10) ((bytesB Z s m xs).map (Value.int .u8)) ∧ Below w.heap.size w W' := by
  obtain ⟨i0, hi, hz0, hz1, hz2⟩ := info_parts infoU8
  have HE := (right_iff Z s m xs).2 h
  have HBD : Hid (∀ z ∈ bodyB Z s m xs, 0 ≤ z ∧ z ≤ 255) := bodyB_bd h bx
  obtain ⟨⟨hZ1, hZ2⟩, ⟨hs0, hs1⟩, ⟨hm0, hm1⟩, hxZ, _⟩ := h
  have HBL : Hid ((bodyB Z s m xs).length = Z + 6) := bodyB_len hxZ
  have ewm : IntKind.u8.wrap m = m := by rw [IntKind.wrap_u8]; omega
  have ewl : IntKind.u8.wrap (xs.length : Int) = (xs.length : Int) := by rw [IntKind.wrap_u8]; omega
  have b1 : Below w.heap.size w (w.alloc (.cells #[.int .i64 s, .int .i64 m, .slice a xs.length cap] 96)) := (Below.refl w.heap.size w).alloc (Nat.le_refl _) _
  have x1 := Box.new w 96 #[.int .i64 s, .int .i64 m, .slice a xs.length cap]
  have HC := Check_any (Z : Int) s m a xs.length cap (w.alloc (.cells #[.int .i64 s, .int .i64 m, .slice a xs.length cap] 96))
  rw [HE] at HC
  clear HE bx
  have hs2 : s / 2 ^ (8 * 4) = 0 := by rw [show (2 : Int) ^ (8 * 4) = 4294967296 from rfl]; omega
  have HS2 : Hid (s / 2 ^ (8 * 4) = 0) := hs2
  clear hs2
  have HF : Hid (beBytes 4 s ++ [m, (xs.length : Int)] ++ xs ++ List.replicate (Z - xs.length) 0 = bodyB Z s m xs) := rfl
  obtain ⟨P, hP⟩ : ∃ P, beBytes 4 s = P := ⟨_, rfl⟩
  have HP4 : Hid (P.length = 4) := by rw [← hP]; exact beBytes_len 4 s
  have HPE : Hid (beBytes 4 s = P) := hP
  obtain ⟨N, hN⟩ : ∃ N, Z - xs.length = N := ⟨_, rfl⟩
  have HNE : Hid (Z - xs.length = N) := hN
  have hNi : (Z : Int) - (xs.length : Int) = (N : Int) := by omega
  rw [hP, hN] at HF
  clear hP
  go_enter Tryd.func55, Tryd.ntmps55
  go_wp2_with fail
  refine HC.mono ?_
  rintro e w1 ⟨rfl, c1⟩
  have bb1 := b1.trans (c1.mono (by simp))
  have x2 := x1.next c1
  have k0 := x2.cell 0 _ rfl
  clear HC b1 c1 x1
  have HPut := put_ok none 0 [] s 4 w1 0 (by decide) (by decide) hs0 HS2.out (by decide) (Nat.zero_le _) (.inl ⟨⟨_, _, rfl, fun _ => rfl⟩, rfl⟩)
  rw [List.length_nil, List.nil_append, HPE.out, Nat.zero_add] at HPut
  go_wp2_with fail
  refine HPut.mono ?_
  rintro e w2 ⟨r, rfl, o2, c2⟩
  obtain ⟨ra, rc, rfl⟩ := row_shapeB o2
  have bb2 := bb1.trans (c2.mono bb1.size)
  have x3 := x2.next c2
  have k1 := x3.cell 1 _ rfl
  have k2 := x3.cell 2 _ rfl
  have hB2 := x3.lt
  clear HPut k0 x2
  have d3 : Below w2.heap.size w2 (w2.alloc (.cells #[.int .u8 m, .int .u8 (xs.length : Int)] 5)) := (Below.refl _ _).alloc (Nat.le_refl _) _
  have h3 : Holds .u8 (w2.alloc (.cells #[.int .u8 m, .int .u8 (xs.length : Int)] 5)).heap.size (w2.alloc (.cells #[.int .u8 m, .int .u8 (xs.length : Int)] 5)) (.slice (some ⟨w2.heap.size, 0, none⟩) 2 2) [m, (xs.length : Int)] := holds_new .u8 w2 [m, (xs.length : Int)] 2 5 (0, 0)
  have H3 : Hid (Holds .u8 (w2.alloc (.cells #[.int .u8 m, .int .u8 (xs.length : Int)] 5)).heap.size (w2.alloc (.cells #[.int .u8 m, .int .u8 (xs.length : Int)] 5)) (.slice (some ⟨w2.heap.size, 0, none⟩) 2 2) [m, (xs.length : Int)]) := h3
  have D3 : Hid _ := d3
  clear h3 d3
  go_wp2_with (at_make; refine wpList_make_full _ rfl _ _ 35 rfl (w2.heap.size + 1) 5 i0 (.int .u8 0) 1 Tryd.underlying35 hi hz0 hz1 .i64 .i64 _ _ N rfl rfl rfl rfl (by rw [hz2]; omega) (by unfold maxLen; omega) (by simp) ?_; intro w4 hown4 hgrow4; have b4 : Below (w2.heap.size + 1) (w2.alloc (.cells #[.int .u8 m, .int .u8 (xs.length : Int)] 5)) w4 := (Below.refl _ _).grown hgrow4 (by simp) (fun k e => by cases e); have q2 := (b4.cell (p := ⟨w.heap.size, 2, none⟩) (by simp; omega)).trans ((D3.out.cell (p := ⟨w.heap.size, 2, none⟩) hB2).trans k2))
  have s2 := bb2.size
  have s4 : w2.heap.size + 1 ≤ w4.heap.size := by have := b4.size; simp at this; omega
  have bb4 : Below w2.heap.size w2 w4 := D3.out.trans (b4.mono (by omega))
  have bbw : Below w.heap.size w w4 := bb2.trans (bb4.mono s2)
  have o4 := made_noughts hown4
  rw [show (w2.alloc (.cells #[.int .u8 m, .int .u8 (xs.length : Int)] 5)).heap.size = w2.heap.size + 1 by simp] at o4
  have HW : Hid (Below w.heap.size w w4) := bbw
  have HA4 : Hid (Holds .u8 w4.heap.size w4 (.slice a xs.length cap) xs) := (ha.below bbw).mono bbw.size
  have HP4' : Hid (Holds .u8 w4.heap.size w4 (.slice ra 4 rc) P) := ((holds_of_row o2).below bb4).mono bb4.size
  have HM4 : Hid (Holds .u8 w4.heap.size w4 (.slice (some ⟨w2.heap.size, 0, none⟩) 2 2) [m, (xs.length : Int)]) := (H3.out.below (b4.mono (by simp))).mono (by simp; omega)
  have HN4 : Hid (Holds .u8 w4.heap.size w4 (.slice (some ⟨w2.heap.size + 1, 0, none⟩) N N) (List.replicate N 0)) := holds_of_row o4
  have X5 : Hid (Box (w4.alloc (.cells #[.slice ra 4 rc, .slice (some ⟨w2.heap.size, 0, none⟩) 2 2, .slice a xs.length cap, .slice (some ⟨w2.heap.size + 1, 0, none⟩) N N] 35)) w4.heap.size 35 #[.slice ra 4 rc, .slice (some ⟨w2.heap.size, 0, none⟩) 2 2, .slice a xs.length cap, .slice (some ⟨w2.heap.size + 1, 0, none⟩) N N]) := Box.new w4 _ _
  have B5 : Hid (Below w4.heap.size w4 (w4.alloc (.cells #[.slice ra 4 rc, .slice (some ⟨w2.heap.size, 0, none⟩) 2 2, .slice a xs.length cap, .slice (some ⟨w2.heap.size + 1, 0, none⟩) N N] 35))) := (Below.refl _ _).alloc (Nat.le_refl _) _
  generalize w4.alloc (.cells #[.slice ra 4 rc, .slice (some ⟨w2.heap.size, 0, none⟩) 2 2, .slice a xs.length cap, .slice (some ⟨w2.heap.size + 1, 0, none⟩) N N] 35) = W5 at *
  clear ha bbw bb4 b4 q2 hown4 hgrow4 o4 o2 H3 D3 c2 k1 k2 x3
  have HCc := concat4_at w4.heap.size ra (some ⟨w2.heap.size, 0, none⟩) a (some ⟨w2.heap.size + 1, 0, none⟩) rc 2 cap N 4 2 xs.length N P [m, (xs.length : Int)] xs (List.replicate N 0) HP4.out rfl rfl (by simp) (by decide) (by decide) (by omega) (by omega) (by decide) W5 (X5.out.cell 0 _ rfl) (X5.out.cell 1 _ rfl) (X5.out.cell 2 _ rfl) (X5.out.cell 3 _ rfl) (HP4'.out.next B5.out) (HM4.out.next B5.out) (HA4.out.next B5.out) (HN4.out.next B5.out)
  rw [HF.out] at HCc
  refine HCc.mono ?_
  rintro e w6 ⟨r6, rfl, o6, b6⟩
  obtain ⟨a6, c6, rfl⟩ := row_shapeB o6
  have eK : 4 + 2 + xs.length + N = Z + 6 := by have := HNE.out; omega
  rw [eK] at o6 ⊢
  have hl6 : Z + 6 ≤ 4092 := by omega
  have HSl := seal_atB a6 (Z + 6) c6 (bodyB Z s m xs) HBL.out hl6 HBD.out w6 (holds_of_row o6)
  have bb6 := HW.out.trans ((B5.out.trans (b6.mono B5.out.size)).mono HW.out.size)
  have HB6 : Hid (Below w.heap.size w w6) := bb6
  clear HCc o6 b6 bb6 eK
  go_wp2_with fail
  refine HSl.mono ?_
  rintro e w7 ⟨r7, rfl, o7, b7⟩
  have o8 : w7.ownsRow w.heap.size 5 1 r7 (Z + 10) ((bytesB Z s m xs).map (Value.int .u8)) := row_base o7 HB6.out.size
  have b8 := HB6.out.trans (b7.mono HB6.out.size)
  clear HSl o7 b7
  go_wp2
  go_ret2
  exact ⟨_, rfl, o8, b8⟩

end Go.Proofs.YtmjidhnlofpliaaDoor
