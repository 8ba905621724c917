/-
  What package join answers (Ends, Take). (Written by tpl_joincode.py.)
-/
import Derived.Test.YtmjidhnlofpliabM21
import Derived.BigQuiet
import Derived.Lib.AppendZerosOnto
import Derived.Lib.SliceRun
namespace Go.Proofs.Ytmjidhnlofpliab
open Go.RowKit

set_option maxRecDepth 100000 in
set_option maxHeartbeats 2000000 in
theorem growJ_new (k : Nat) (h0 : 0 < k) (hk : k ≤ 4294967296) (w : World) :
    Calls Try.prog 75 #[.slice none 0 0, .int .i64 (k : Int)] w fun e W' => ∃ r, e = .returned r ∧ W'.ownsRow w.heap.size 5 1 r 0 [] ∧ Below w.heap.size w W' := by
  obtain ⟨i0, hi, hz0, hz1, hz2⟩ := info_parts infoU8
  have hold : (Builtin.firstCells i0.size 0 (.slice none 0 0)).run Try.prog w.drew = .ok ([] : List Value).toArray w.drew := Go.run_firstCells_none w.drew i0.size 0 0 0
  have hrz := Lib.run_append_grow_zeros w 26 3 26 5 i0 (.int .u8 0) .i64 .i64 Try.underlying26 Try.underlying3 hi hz0 none 0 0 [] hold k h0 (by rw [hz1]; decide) (by omega) (by omega) (by rw [hz2]; omega) (growslice_fits (by omega) (by rw [hz2]; omega))
  have hGm := grownCap_le_maxLen w (0 + k) 0 5 (by unfold maxLen; omega)
  have hGn : 0 + k ≤ grownCap w (0 + k) 0 5 := grownCap_ge w _ _ _
  obtain ⟨G, hG⟩ : ∃ G, grownCap w (0 + k) 0 5 = G := ⟨_, rfl⟩
  rw [hG] at hrz hGm hGn
  obtain ⟨cur, hcur⟩ : ∃ cur, (([] : List Value).toArray ++ Builtin.zeroCells (Value.int .u8 0).cells k ++ Builtin.zeroCells (Value.int .u8 0).cells (G - (0 + k))) = cur := ⟨_, rfl⟩
  have hcs : cur.size = G * 1 := by
    rw [← hcur]
    simp only [Array.size_append, List.size_toArray, size_zeroCells, List.length_nil]
    have : (Value.int .u8 0).cells.size = 1 := rfl
    rw [this]
    omega
  rw [hcur] at hrz
  have o1 : (w.drew.alloc (.cells cur 5)).ownsRow w.heap.size 5 1 (.slice (some ⟨w.drew.heap.size, 0, none⟩) 0 G) 0 [] := World.ownsRow_made w.drew cur G (Nat.le_refl _) hGm hcs
  have b1 := (Below.refl w.heap.size w).drew.alloc (Nat.le_refl _) (.cells cur 5)
  have hG2 : G ≤ 9223372036854775807 := by unfold maxLen at hGm; omega
  have e0 : 0 + k = k := by omega
  rw [e0] at hrz
  clear hcur hG hGm hGn hold hcs
  go_enter Try.func75, Try.ntmps75
  go_wp2_with (at_builtin; refine Lib.wpList_append_run _ rfl _ _ _ _ rfl _ _ rfl rfl _ _ hrz ?_)
  all_goals (go_ret; exact ⟨_, rfl, o1, b1⟩)

set_option maxRecDepth 100000 in
set_option maxHeartbeats 1000000 in
theorem growJ_any (k : Nat) (hk : k ≤ 4294967296) (w : World) :
    Calls Try.prog 75 #[.slice none 0 0, .int .i64 (k : Int)] w fun e W' => ∃ r, e = .returned r ∧ W'.ownsRow w.heap.size 5 1 r 0 [] ∧ Below w.heap.size w W' := by
  by_cases h0 : 0 < k
  · exact growJ_new k h0 hk w
  · obtain rfl : k = 0 := by omega
    clear h0 hk
    go_enter Try.func75, Try.ntmps75
    go_wp2
    go_ret
    exact ⟨_, rfl, World.ownsRow_nil _ _ _ _, Below.refl _ _⟩

set_option maxRecDepth 100000 in
set_option maxHeartbeats 4000000 in
/-- slices.Concat of two texts, with bytes or without. -/
theorem concatJ_ok (g : Nat) (a1 a2 : Option Addr) (c1 c2 : Nat) (n1 n2 : Nat) (l1 l2 : List Int) (e1 : l1.length = n1) (e2 : l2.length = n2) (p1 : n1 ≤ 1048576) (p2 : n2 ≤ 1048576) (w : World)
    (k1 : w.cell? ⟨g, 0, none⟩ = some (.slice a1 n1 c1)) (k2 : w.cell? ⟨g, 1, none⟩ = some (.slice a2 n2 c2))
    (h1 : Holds .u8 w.heap.size w (.slice a1 n1 c1) l1) (h2 : Holds .u8 w.heap.size w (.slice a2 n2 c2) l2) :
    Calls Try.prog 61 #[.slice (some ⟨g, 0, none⟩) 2 2] w fun e W' => ∃ ra rc, e = .returned (.slice ra (n1 + n2) rc) ∧ W'.ownsRow w.heap.size 5 1 (.slice ra (n1 + n2) rc) (n1 + n2) ((l1 ++ l2).map (Value.int .u8)) ∧ Below w.heap.size w W' := by
  have hg : g < w.heap.size := cell_block_lt k1
  have H1 : Hid (Holds .u8 w.heap.size w (.slice a1 n1 c1) l1) := h1
  have H2 : Hid (Holds .u8 w.heap.size w (.slice a2 n2 c2) l2) := h2
  have E1 : Hid (l1.length = n1) := e1
  have E2 : Hid (l2.length = n2) := e2
  clear e1 e2 h1 h2
  go_enter Try.func61, Try.ntmps61
  go_wp2
  go_loop [3, 11] (fun s i => (s = .int .i64 0 ∧ i = .int .i64 0) ∨ (s = .int .i64 n1 ∧ i = .int .i64 1) ∨ (s = .int .i64 ((n1 + n2 : Nat) : Int) ∧ i = .int .i64 2)) (fun _ i => 2 - (intOf i).toNat)
  case atStart => exact .inl ⟨rfl, rfl⟩
  case round =>
    rcases hrel with ⟨rfl, rfl⟩ | ⟨rfl, rfl⟩ | ⟨rfl, rfl⟩
    · go_wp2
      go_round
      case rel => exact .inr (.inl ⟨by go_num, by go_num⟩)
      case measure => simp [intOf]
    · go_wp2
      go_round
      case rel => exact .inr (.inr ⟨by go_num, by go_num⟩)
      case measure => simp [intOf]
    · obtain ⟨m, hm⟩ : ∃ m, n1 + n2 = m := ⟨_, rfl⟩
      have HG := growJ_any m (by omega) w
      rw [hm]
      have HM : Hid (n1 + n2 = m) := hm
      clear hm
      go_wp2_with fail
      refine HG.mono ?_
      rintro e w1 ⟨r, rfl, o1, b1⟩
      have hs1 := b1.size
      have q1 := (b1.cell (p := ⟨g, 0, none⟩) hg).trans k1
      have q2 := (b1.cell (p := ⟨g, 1, none⟩) hg).trans k2
      clear HG k1 k2
      go_wp2
      go_loopw [6, 27] (fun v i wr => ((i = .int .i64 0 ∧ wr.ownsRow w.heap.size 5 1 v 0 (([] : List Int).map (Value.int .u8))) ∨ (i = .int .i64 1 ∧ wr.ownsRow w.heap.size 5 1 v n1 (l1.map (Value.int .u8))) ∨ (i = .int .i64 2 ∧ wr.ownsRow w.heap.size 5 1 v (n1 + n2) ((l1 ++ l2).map (Value.int .u8)))) ∧ Below w.heap.size w wr) (fun _ i _ => 2 - (intOf i).toNat)
      case atStart => exact ⟨.inl ⟨rfl, o1⟩, b1⟩
      case round =>
        obtain ⟨hc, hbw⟩ := hrel
        have r1 := (hbw.cell (p := ⟨g, 0, none⟩) hg).trans ((b1.cell (p := ⟨g, 0, none⟩) hg).symm.trans q1)
        have r2 := (hbw.cell (p := ⟨g, 1, none⟩) hg).trans ((b1.cell (p := ⟨g, 1, none⟩) hg).symm.trans q2)
        clear q1 q2 o1
        rcases hc with ⟨rfl, ho⟩ | ⟨rfl, ho⟩ | ⟨rfl, ho⟩
        · obtain ⟨v3, w3, hr3, ho3, hg3⟩ := run_append_u8 _ (.slice a1 n1 c1) 0 w.heap.size _ [] l1 26 wr ho (H1.out.below hbw) hbw.size (by omega) (by rw [E1.out]; omega)
          rw [E1.out, List.nil_append, Nat.zero_add] at ho3
          have b3 := hbw.trans ((Below.refl w.heap.size _).grown hg3 hbw.size (fun q e => (ho.lt q e).1))
          have HR3 : Hid _ := hr3
          clear hr3 ho hg3
          go_wp2_with (at_builtin; refine wpList_append_run rfl _ _ 26 rfl _ _ rfl rfl _ _ HR3.out ?_)
          exact ⟨⟨.inr (.inl ⟨by go_num, ho3⟩), b3⟩, by simp [intOf]⟩
        · obtain ⟨v3, w3, hr3, ho3, hg3⟩ := run_append_u8 _ (.slice a2 n2 c2) n1 w.heap.size _ l1 l2 26 wr ho (H2.out.below hbw) hbw.size (by omega) (by rw [E2.out]; omega)
          rw [E2.out] at ho3
          have b3 := hbw.trans ((Below.refl w.heap.size _).grown hg3 hbw.size (fun q e => (ho.lt q e).1))
          have HR3 : Hid _ := hr3
          clear hr3 ho hg3
          go_wp2_with (at_builtin; refine wpList_append_run rfl _ _ 26 rfl _ _ rfl rfl _ _ HR3.out ?_)
          exact ⟨⟨.inr (.inr ⟨by go_num, ho3⟩), b3⟩, by simp [intOf]⟩
        · obtain ⟨_, ra, rc, ev, _⟩ := kept_of_row (kd := .u8) (zs := l1 ++ l2) ho
          rw [List.length_append, E1.out, E2.out] at ev
          subst ev
          go_wp2
          go_ret
          exact ⟨_, _, rfl, ho, hbw⟩

set_option maxRecDepth 100000 in
set_option maxHeartbeats 400000 in
theorem joinHas_any (s m : Int) (b : Option Addr) (k bc : Nat) (q : Int) (w : World) : Calls Try.prog 57 #[.agg #[.int .i64 s, .int .i64 m, .slice b k bc], .int .i64 q] w fun e w' => e = .returned (.bool (bits .and .i64 m q != 0)) ∧ Below w.heap.size w w' := by
  have b1 := (Below.refl w.heap.size w).alloc (Nat.le_refl _) (.cells #[.int .i64 s, .int .i64 m, .slice b k bc] 79)
  go_enter Try.func57, Try.ntmps57
  go_wp2
  go_ret
  exact ⟨rfl, b1⟩

set_option maxRecDepth 100000 in
set_option maxHeartbeats 1000000 in
theorem joinBelongs_any (o : Bool) (a : Option Addr) (n cap : Nat) (s m : Int) (b : Option Addr) (k bc : Nat) (w : World) : Calls Try.prog 58 #[.agg #[.bool o, .slice a n cap], .agg #[.int .i64 s, .int .i64 m, .slice b k bc]] w fun e w' => e = .returned (.bool (o || (bits .and .i64 m 1 != 0))) ∧ Below w.heap.size w w' := by
  have b1 := ((Below.refl w.heap.size w).alloc (Nat.le_refl _) (.cells #[.bool o, .slice a n cap] 28)).alloc (by simp) (.cells #[.int .i64 s, .int .i64 m, .slice b k bc] 79)
  cases o with
  | true =>
    go_enter Try.func58, Try.ntmps58
    go_wp2
    go_ret
    exact ⟨rfl, b1⟩
  | false =>
    have HC := joinHas_any s m b k bc 1 ((w.alloc (.cells #[.bool false, .slice a n cap] 28)).alloc (.cells #[.int .i64 s, .int .i64 m, .slice b k bc] 79))
    obtain ⟨q, hq⟩ : ∃ q, (bits .and .i64 m 1 != 0) = q := ⟨_, rfl⟩
    rw [hq] at HC ⊢
    clear hq
    go_enter Try.func58, Try.ntmps58
    go_wp2_with fail
    refine HC.mono ?_
    rintro e w2 ⟨rfl, b2⟩
    have bE := b1.trans (b2.mono b1.size)
    clear HC b1 b2
    go_wp2
    go_ret
    exact ⟨rfl, bE⟩

set_option maxRecDepth 100000 in
set_option maxHeartbeats 1000000 in
theorem joinEnds_o (o : Bool) (a : Option Addr) (n cap : Nat) (s m : Int) (b : Option Addr) (k bc : Nat) (w : World) : Calls Try.prog 36 #[.agg #[.bool o, .slice a n cap], .agg #[.int .i64 s, .int .i64 m, .slice b k bc]] w fun e w' => e = .returned (.bool ((bits .and .i64 m 2 != 0) && (o || (bits .and .i64 m 1 != 0)))) ∧ Below w.heap.size w w' := by
  have b1 := ((Below.refl w.heap.size w).alloc (Nat.le_refl _) (.cells #[.bool o, .slice a n cap] 28)).alloc (by simp) (.cells #[.int .i64 s, .int .i64 m, .slice b k bc] 79)
  have x2 := (Box.new w 28 #[.bool o, .slice a n cap]).alloc (.cells #[.int .i64 s, .int .i64 m, .slice b k bc] 79)
  have x3 := Box.new (w.alloc (.cells #[.bool o, .slice a n cap] 28)) 79 #[.int .i64 s, .int .i64 m, .slice b k bc]
  rw [show (w.alloc (.cells #[.bool o, .slice a n cap] 28)).heap.size = w.heap.size + 1 by simp] at x3
  have HC := joinHas_any s m b k bc 2 ((w.alloc (.cells #[.bool o, .slice a n cap] 28)).alloc (.cells #[.int .i64 s, .int .i64 m, .slice b k bc] 79))
  have HB := joinBelongs_any o a n cap s m b k bc
  obtain ⟨p, hp⟩ : ∃ p, (bits .and .i64 m 2 != 0) = p := ⟨_, rfl⟩
  obtain ⟨q, hq⟩ : ∃ q, (o || (bits .and .i64 m 1 != 0)) = q := ⟨_, rfl⟩
  rw [hp] at HC ⊢
  rw [hq] at HB ⊢
  have HBH : Hid _ := HB
  clear hp hq HB
  cases p with
  | false =>
    go_enter Try.func36, Try.ntmps36
    go_wp2_with fail
    refine HC.mono ?_
    rintro e w2 ⟨rfl, b2⟩
    have bE := b1.trans (b2.mono b1.size)
    clear HC b1 b2
    go_wp2
    go_ret
    exact ⟨rfl, bE⟩
  | true =>
    go_enter Try.func36, Try.ntmps36
    go_wp2_with fail
    refine HC.mono ?_
    rintro e w2 ⟨rfl, b2⟩
    have bE := b1.trans (b2.mono b1.size)
    have y2 := x2.next b2
    have y3 := x3.next b2
    have c20 := y2.cell 0 _ rfl
    have c21 := y2.cell 1 _ rfl
    have c30 := y3.cell 0 _ rfl
    have c31 := y3.cell 1 _ rfl
    have c32 := y3.cell 2 _ rfl
    clear HC b1 b2 x2 x3
    go_wp2_with fail
    refine (HBH.out _).mono ?_
    rintro e w3 ⟨rfl, b3⟩
    have bF := bE.trans (b3.mono bE.size)
    clear c20 c21 c30 c31 c32 y2 y3 bE b3
    cases q with
    | false =>
      go_wp2
      go_ret
      exact ⟨rfl, bF⟩
    | true =>
      go_wp2
      go_ret
      exact ⟨rfl, bF⟩
set_option maxRecDepth 100000 in
set_option maxHeartbeats 400000 in
theorem joinRight_any (o : Bool) (a : Option Addr) (n cap : Nat) (w : World) : Calls Try.prog 59 #[.agg #[.bool o, .slice a n cap]] w fun e w' => e = .returned (.bool (if o = true then decide (n ≤ 4096) else decide (n = 0))) ∧ Below w.heap.size w w' := by
  have b1 := (Below.refl w.heap.size w).alloc (Nat.le_refl _) (.cells #[.bool o, .slice a n cap] 28)
  cases o with
  | true =>
    obtain ⟨p, hp⟩ : ∃ p, decide (n ≤ 4096) = p := ⟨_, rfl⟩
    have hpi : decide ((n : Int) ≤ 4096) = p := by rw [← hp]; simp only [decide_eq_decide]; omega
    rw [if_pos rfl, hp]
    go_enter Try.func59, Try.ntmps59
    go_wp2
    go_ret
    exact ⟨rfl, b1⟩
  | false =>
    obtain ⟨p, hp⟩ : ∃ p, decide (n = 0) = p := ⟨_, rfl⟩
    have hpi : ((n : Int) == 0) = p := by rw [← hp]; rw [Bool.eq_iff_iff]; simp
    rw [if_neg (by decide), hp]
    go_enter Try.func59, Try.ntmps59
    go_wp2
    go_ret
    exact ⟨rfl, b1⟩

set_option maxRecDepth 100000 in
set_option maxHeartbeats 1000000 in
theorem joinBefore_any (o : Bool) (a : Option Addr) (n cap : Nat) (s m : Int) (b : Option Addr) (k bc : Nat) (w : World) : Calls Try.prog 60 #[.agg #[.bool o, .slice a n cap], .agg #[.int .i64 s, .int .i64 m, .slice b k bc]] w fun e w' => e = .returned (if (bits .and .i64 m 1 != 0) = true then .slice none 0 0 else .slice a n cap) ∧ Below w.heap.size w w' := by
  have b1 := ((Below.refl w.heap.size w).alloc (Nat.le_refl _) (.cells #[.bool o, .slice a n cap] 28)).alloc (by simp) (.cells #[.int .i64 s, .int .i64 m, .slice b k bc] 79)
  have x2 := (Box.new w 28 #[.bool o, .slice a n cap]).alloc (.cells #[.int .i64 s, .int .i64 m, .slice b k bc] 79)
  have HC := joinHas_any s m b k bc 1 ((w.alloc (.cells #[.bool o, .slice a n cap] 28)).alloc (.cells #[.int .i64 s, .int .i64 m, .slice b k bc] 79))
  obtain ⟨q, hq⟩ : ∃ q, (bits .and .i64 m 1 != 0) = q := ⟨_, rfl⟩
  rw [hq] at HC ⊢
  clear hq
  cases q with
  | true =>
    rw [if_pos rfl]
    go_enter Try.func60, Try.ntmps60
    go_wp2_with fail
    refine HC.mono ?_
    rintro e w2 ⟨rfl, b2⟩
    have bE := b1.trans (b2.mono b1.size)
    clear HC b1 b2
    go_wp2
    go_ret
    exact ⟨rfl, bE⟩
  | false =>
    rw [if_neg (by decide)]
    go_enter Try.func60, Try.ntmps60
    go_wp2_with fail
    refine HC.mono ?_
    rintro e w2 ⟨rfl, b2⟩
    have bE := b1.trans (b2.mono b1.size)
    have y2 := x2.next b2
    have c20 := y2.cell 0 _ rfl
    have c21 := y2.cell 1 _ rfl
    clear HC b1 b2 x2
    go_wp2
    go_ret
    exact ⟨rfl, bE⟩

set_option maxRecDepth 100000 in
set_option maxHeartbeats 2000000 in
theorem joinTake_not (o : Bool) (a : Option Addr) (n cap : Nat) (s m : Int) (b : Option Addr) (k bc : Nat) (h : (if o = true then decide (n ≤ 4096) else decide (n = 0)) = false) (w : World) : Calls Try.prog 37 #[.agg #[.bool o, .slice a n cap], .agg #[.int .i64 s, .int .i64 m, .slice b k bc]] w fun e W' => e = .returned (.tuple #[.agg #[.bool false, .slice none 0 0], .slice none 0 0, .bool false, .int .i64 1]) ∧ Below w.heap.size w W' := by
  have b1 := (((Below.refl w.heap.size w).alloc (Nat.le_refl _) (.cells #[.bool o, .slice a n cap] 28)).alloc (by simp) (.cells #[.int .i64 s, .int .i64 m, .slice b k bc] 79)).alloc (by simp; omega) (.cells #[.bool false, .slice none 0 0] 28)
  have x2 := ((Box.new w 28 #[.bool o, .slice a n cap]).alloc (.cells #[.int .i64 s, .int .i64 m, .slice b k bc] 79)).alloc (.cells #[.bool false, .slice none 0 0] 28)
  have x3 := (Box.new (w.alloc (.cells #[.bool o, .slice a n cap] 28)) 79 #[.int .i64 s, .int .i64 m, .slice b k bc]).alloc (.cells #[.bool false, .slice none 0 0] 28)
  have x4 := Box.new ((w.alloc (.cells #[.bool o, .slice a n cap] 28)).alloc (.cells #[.int .i64 s, .int .i64 m, .slice b k bc] 79)) 28 #[.bool false, .slice none 0 0]
  rw [show (w.alloc (.cells #[.bool o, .slice a n cap] 28)).heap.size = w.heap.size + 1 by simp] at x3
  rw [show ((w.alloc (.cells #[.bool o, .slice a n cap] 28)).alloc (.cells #[.int .i64 s, .int .i64 m, .slice b k bc] 79)).heap.size = w.heap.size + 2 by simp] at x4
  have HRt := joinRight_any o a n cap (((w.alloc (.cells #[.bool o, .slice a n cap] 28)).alloc (.cells #[.int .i64 s, .int .i64 m, .slice b k bc] 79)).alloc (.cells #[.bool false, .slice none 0 0] 28))
  rw [h] at HRt
  clear h
  go_enter Try.func37, Try.ntmps37
  go_wp2_with fail
  refine HRt.mono ?_
  rintro e w2 ⟨rfl, b2⟩
  have bB := b1.trans (b2.mono b1.size)
  have y2 := x2.next b2
  have y3 := x3.next b2
  have y4 := x4.next b2
  clear HRt x2 x3 x4 b1 b2
  have c20 := y2.cell 0 _ rfl
  have c21 := y2.cell 1 _ rfl
  have c30 := y3.cell 0 _ rfl
  have c31 := y3.cell 1 _ rfl
  have c32 := y3.cell 2 _ rfl
  have c40 := y4.cell 0 _ rfl
  have c41 := y4.cell 1 _ rfl
  have g40 := y4.free 0
  have g41 := y4.free 1
  go_wp2
  have bE := ((bB).setCell (p := ⟨w.heap.size + 1 + 1, 0, none⟩) (by simp only; omega) (.bool false)).setCell (p := ⟨w.heap.size + 1 + 1, 1, none⟩) (by simp only; omega) (.slice none 0 0)
  exact bodyPost_ret (v := .tuple #[.agg #[.bool false, .slice none 0 0], .slice none 0 0, .bool false, .int .i64 1]) (by simp [results, Try.results37, go_sem, c40, c41]) rfl ⟨rfl, bE⟩

set_option maxRecDepth 100000 in
set_option maxHeartbeats 2000000 in
theorem joinTake_low (o : Bool) (a : Option Addr) (n cap : Nat) (s m : Int) (b : Option Addr) (k bc : Nat) (h : (if o = true then decide (n ≤ 4096) else decide (n = 0)) = true) (hm : m < 0) (w : World) : Calls Try.prog 37 #[.agg #[.bool o, .slice a n cap], .agg #[.int .i64 s, .int .i64 m, .slice b k bc]] w fun e W' => e = .returned (.tuple #[.agg #[.bool false, .slice none 0 0], .slice none 0 0, .bool false, .int .i64 1]) ∧ Below w.heap.size w W' := by
  have b1 := (((Below.refl w.heap.size w).alloc (Nat.le_refl _) (.cells #[.bool o, .slice a n cap] 28)).alloc (by simp) (.cells #[.int .i64 s, .int .i64 m, .slice b k bc] 79)).alloc (by simp; omega) (.cells #[.bool false, .slice none 0 0] 28)
  have x2 := ((Box.new w 28 #[.bool o, .slice a n cap]).alloc (.cells #[.int .i64 s, .int .i64 m, .slice b k bc] 79)).alloc (.cells #[.bool false, .slice none 0 0] 28)
  have x3 := (Box.new (w.alloc (.cells #[.bool o, .slice a n cap] 28)) 79 #[.int .i64 s, .int .i64 m, .slice b k bc]).alloc (.cells #[.bool false, .slice none 0 0] 28)
  have x4 := Box.new ((w.alloc (.cells #[.bool o, .slice a n cap] 28)).alloc (.cells #[.int .i64 s, .int .i64 m, .slice b k bc] 79)) 28 #[.bool false, .slice none 0 0]
  rw [show (w.alloc (.cells #[.bool o, .slice a n cap] 28)).heap.size = w.heap.size + 1 by simp] at x3
  rw [show ((w.alloc (.cells #[.bool o, .slice a n cap] 28)).alloc (.cells #[.int .i64 s, .int .i64 m, .slice b k bc] 79)).heap.size = w.heap.size + 2 by simp] at x4
  have HRt := joinRight_any o a n cap (((w.alloc (.cells #[.bool o, .slice a n cap] 28)).alloc (.cells #[.int .i64 s, .int .i64 m, .slice b k bc] 79)).alloc (.cells #[.bool false, .slice none 0 0] 28))
  rw [h] at HRt
  clear h
  have d3 : decide (m < 0) = true := decide_eq_true hm
  clear hm
  go_enter Try.func37, Try.ntmps37
  go_wp2_with fail
  refine HRt.mono ?_
  rintro e w2 ⟨rfl, b2⟩
  have bB := b1.trans (b2.mono b1.size)
  have y2 := x2.next b2
  have y3 := x3.next b2
  have y4 := x4.next b2
  clear HRt x2 x3 x4 b1 b2
  have c20 := y2.cell 0 _ rfl
  have c21 := y2.cell 1 _ rfl
  have c30 := y3.cell 0 _ rfl
  have c31 := y3.cell 1 _ rfl
  have c32 := y3.cell 2 _ rfl
  have c40 := y4.cell 0 _ rfl
  have c41 := y4.cell 1 _ rfl
  have g40 := y4.free 0
  have g41 := y4.free 1
  go_wp2
  have bE := ((bB).setCell (p := ⟨w.heap.size + 1 + 1, 0, none⟩) (by simp only; omega) (.bool false)).setCell (p := ⟨w.heap.size + 1 + 1, 1, none⟩) (by simp only; omega) (.slice none 0 0)
  exact bodyPost_ret (v := .tuple #[.agg #[.bool false, .slice none 0 0], .slice none 0 0, .bool false, .int .i64 1]) (by simp [results, Try.results37, go_sem, c40, c41]) rfl ⟨rfl, bE⟩

set_option maxRecDepth 100000 in
set_option maxHeartbeats 2000000 in
theorem joinTake_high (o : Bool) (a : Option Addr) (n cap : Nat) (s m : Int) (b : Option Addr) (k bc : Nat) (h : (if o = true then decide (n ≤ 4096) else decide (n = 0)) = true) (hm : 3 < m) (w : World) : Calls Try.prog 37 #[.agg #[.bool o, .slice a n cap], .agg #[.int .i64 s, .int .i64 m, .slice b k bc]] w fun e W' => e = .returned (.tuple #[.agg #[.bool false, .slice none 0 0], .slice none 0 0, .bool false, .int .i64 1]) ∧ Below w.heap.size w W' := by
  have b1 := (((Below.refl w.heap.size w).alloc (Nat.le_refl _) (.cells #[.bool o, .slice a n cap] 28)).alloc (by simp) (.cells #[.int .i64 s, .int .i64 m, .slice b k bc] 79)).alloc (by simp; omega) (.cells #[.bool false, .slice none 0 0] 28)
  have x2 := ((Box.new w 28 #[.bool o, .slice a n cap]).alloc (.cells #[.int .i64 s, .int .i64 m, .slice b k bc] 79)).alloc (.cells #[.bool false, .slice none 0 0] 28)
  have x3 := (Box.new (w.alloc (.cells #[.bool o, .slice a n cap] 28)) 79 #[.int .i64 s, .int .i64 m, .slice b k bc]).alloc (.cells #[.bool false, .slice none 0 0] 28)
  have x4 := Box.new ((w.alloc (.cells #[.bool o, .slice a n cap] 28)).alloc (.cells #[.int .i64 s, .int .i64 m, .slice b k bc] 79)) 28 #[.bool false, .slice none 0 0]
  rw [show (w.alloc (.cells #[.bool o, .slice a n cap] 28)).heap.size = w.heap.size + 1 by simp] at x3
  rw [show ((w.alloc (.cells #[.bool o, .slice a n cap] 28)).alloc (.cells #[.int .i64 s, .int .i64 m, .slice b k bc] 79)).heap.size = w.heap.size + 2 by simp] at x4
  have HRt := joinRight_any o a n cap (((w.alloc (.cells #[.bool o, .slice a n cap] 28)).alloc (.cells #[.int .i64 s, .int .i64 m, .slice b k bc] 79)).alloc (.cells #[.bool false, .slice none 0 0] 28))
  rw [h] at HRt
  clear h
  have d3 : decide (m < 0) = false := decide_eq_false (by omega)
  have d4 : decide (3 < m) = true := decide_eq_true hm
  clear hm
  go_enter Try.func37, Try.ntmps37
  go_wp2_with fail
  refine HRt.mono ?_
  rintro e w2 ⟨rfl, b2⟩
  have bB := b1.trans (b2.mono b1.size)
  have y2 := x2.next b2
  have y3 := x3.next b2
  have y4 := x4.next b2
  clear HRt x2 x3 x4 b1 b2
  have c20 := y2.cell 0 _ rfl
  have c21 := y2.cell 1 _ rfl
  have c30 := y3.cell 0 _ rfl
  have c31 := y3.cell 1 _ rfl
  have c32 := y3.cell 2 _ rfl
  have c40 := y4.cell 0 _ rfl
  have c41 := y4.cell 1 _ rfl
  have g40 := y4.free 0
  have g41 := y4.free 1
  go_wp2
  have bE := ((bB).setCell (p := ⟨w.heap.size + 1 + 1, 0, none⟩) (by simp only; omega) (.bool false)).setCell (p := ⟨w.heap.size + 1 + 1, 1, none⟩) (by simp only; omega) (.slice none 0 0)
  exact bodyPost_ret (v := .tuple #[.agg #[.bool false, .slice none 0 0], .slice none 0 0, .bool false, .int .i64 1]) (by simp [results, Try.results37, go_sem, c40, c41]) rfl ⟨rfl, bE⟩

set_option maxRecDepth 100000 in
set_option maxHeartbeats 2000000 in
theorem joinTake_len (o : Bool) (a : Option Addr) (n cap : Nat) (s m : Int) (b : Option Addr) (k bc : Nat) (h : (if o = true then decide (n ≤ 4096) else decide (n = 0)) = true) (hm0 : 0 ≤ m) (hm1 : m ≤ 3) (hk : 16 < k) (w : World) : Calls Try.prog 37 #[.agg #[.bool o, .slice a n cap], .agg #[.int .i64 s, .int .i64 m, .slice b k bc]] w fun e W' => e = .returned (.tuple #[.agg #[.bool false, .slice none 0 0], .slice none 0 0, .bool false, .int .i64 2]) ∧ Below w.heap.size w W' := by
  have b1 := (((Below.refl w.heap.size w).alloc (Nat.le_refl _) (.cells #[.bool o, .slice a n cap] 28)).alloc (by simp) (.cells #[.int .i64 s, .int .i64 m, .slice b k bc] 79)).alloc (by simp; omega) (.cells #[.bool false, .slice none 0 0] 28)
  have x2 := ((Box.new w 28 #[.bool o, .slice a n cap]).alloc (.cells #[.int .i64 s, .int .i64 m, .slice b k bc] 79)).alloc (.cells #[.bool false, .slice none 0 0] 28)
  have x3 := (Box.new (w.alloc (.cells #[.bool o, .slice a n cap] 28)) 79 #[.int .i64 s, .int .i64 m, .slice b k bc]).alloc (.cells #[.bool false, .slice none 0 0] 28)
  have x4 := Box.new ((w.alloc (.cells #[.bool o, .slice a n cap] 28)).alloc (.cells #[.int .i64 s, .int .i64 m, .slice b k bc] 79)) 28 #[.bool false, .slice none 0 0]
  rw [show (w.alloc (.cells #[.bool o, .slice a n cap] 28)).heap.size = w.heap.size + 1 by simp] at x3
  rw [show ((w.alloc (.cells #[.bool o, .slice a n cap] 28)).alloc (.cells #[.int .i64 s, .int .i64 m, .slice b k bc] 79)).heap.size = w.heap.size + 2 by simp] at x4
  have HRt := joinRight_any o a n cap (((w.alloc (.cells #[.bool o, .slice a n cap] 28)).alloc (.cells #[.int .i64 s, .int .i64 m, .slice b k bc] 79)).alloc (.cells #[.bool false, .slice none 0 0] 28))
  rw [h] at HRt
  clear h
  have d3 : decide (m < 0) = false := decide_eq_false (by omega)
  have d4 : decide (3 < m) = false := decide_eq_false (by omega)
  have d5 : decide (16 < k) = true := decide_eq_true (by omega)
  have d5i : decide (16 < (k : Int)) = true := decide_eq_true (by omega)
  clear hk hm0 hm1
  go_enter Try.func37, Try.ntmps37
  go_wp2_with fail
  refine HRt.mono ?_
  rintro e w2 ⟨rfl, b2⟩
  have bB := b1.trans (b2.mono b1.size)
  have y2 := x2.next b2
  have y3 := x3.next b2
  have y4 := x4.next b2
  clear HRt x2 x3 x4 b1 b2
  have c20 := y2.cell 0 _ rfl
  have c21 := y2.cell 1 _ rfl
  have c30 := y3.cell 0 _ rfl
  have c31 := y3.cell 1 _ rfl
  have c32 := y3.cell 2 _ rfl
  have c40 := y4.cell 0 _ rfl
  have c41 := y4.cell 1 _ rfl
  have g40 := y4.free 0
  have g41 := y4.free 1
  go_wp2
  have bE := ((bB).setCell (p := ⟨w.heap.size + 1 + 1, 0, none⟩) (by simp only; omega) (.bool false)).setCell (p := ⟨w.heap.size + 1 + 1, 1, none⟩) (by simp only; omega) (.slice none 0 0)
  exact bodyPost_ret (v := .tuple #[.agg #[.bool false, .slice none 0 0], .slice none 0 0, .bool false, .int .i64 2]) (by simp [results, Try.results37, go_sem, c40, c41]) rfl ⟨rfl, bE⟩

set_option maxRecDepth 100000 in
set_option maxHeartbeats 2000000 in
theorem joinTake_shut (o : Bool) (a : Option Addr) (n cap : Nat) (s m : Int) (b : Option Addr) (k bc : Nat) (h : (if o = true then decide (n ≤ 4096) else decide (n = 0)) = true) (hm0 : 0 ≤ m) (hm1 : m ≤ 3) (hk : k ≤ 16) (hq : (o || (bits .and .i64 m 1 != 0)) = false) (w : World) : Calls Try.prog 37 #[.agg #[.bool o, .slice a n cap], .agg #[.int .i64 s, .int .i64 m, .slice b k bc]] w fun e W' => e = .returned (.tuple #[.agg #[.bool false, .slice none 0 0], .slice none 0 0, .bool false, .int .i64 0]) ∧ Below w.heap.size w W' := by
  have b1 := (((Below.refl w.heap.size w).alloc (Nat.le_refl _) (.cells #[.bool o, .slice a n cap] 28)).alloc (by simp) (.cells #[.int .i64 s, .int .i64 m, .slice b k bc] 79)).alloc (by simp; omega) (.cells #[.bool false, .slice none 0 0] 28)
  have x2 := ((Box.new w 28 #[.bool o, .slice a n cap]).alloc (.cells #[.int .i64 s, .int .i64 m, .slice b k bc] 79)).alloc (.cells #[.bool false, .slice none 0 0] 28)
  have x3 := (Box.new (w.alloc (.cells #[.bool o, .slice a n cap] 28)) 79 #[.int .i64 s, .int .i64 m, .slice b k bc]).alloc (.cells #[.bool false, .slice none 0 0] 28)
  have x4 := Box.new ((w.alloc (.cells #[.bool o, .slice a n cap] 28)).alloc (.cells #[.int .i64 s, .int .i64 m, .slice b k bc] 79)) 28 #[.bool false, .slice none 0 0]
  rw [show (w.alloc (.cells #[.bool o, .slice a n cap] 28)).heap.size = w.heap.size + 1 by simp] at x3
  rw [show ((w.alloc (.cells #[.bool o, .slice a n cap] 28)).alloc (.cells #[.int .i64 s, .int .i64 m, .slice b k bc] 79)).heap.size = w.heap.size + 2 by simp] at x4
  have HRt := joinRight_any o a n cap (((w.alloc (.cells #[.bool o, .slice a n cap] 28)).alloc (.cells #[.int .i64 s, .int .i64 m, .slice b k bc] 79)).alloc (.cells #[.bool false, .slice none 0 0] 28))
  rw [h] at HRt
  clear h
  have d3 : decide (m < 0) = false := decide_eq_false (by omega)
  have d4 : decide (3 < m) = false := decide_eq_false (by omega)
  have d5 : decide (16 < k) = false := decide_eq_false (by omega)
  have d5i : decide (16 < (k : Int)) = false := decide_eq_false (by omega)
  have HBl := joinBelongs_any o a n cap s m b k bc
  rw [hq] at HBl
  have HBh : Hid _ := HBl
  clear hk hm0 hm1 hq HBl
  go_enter Try.func37, Try.ntmps37
  go_wp2_with fail
  refine HRt.mono ?_
  rintro e w2 ⟨rfl, b2⟩
  have bB := b1.trans (b2.mono b1.size)
  have y2 := x2.next b2
  have y3 := x3.next b2
  have y4 := x4.next b2
  clear HRt x2 x3 x4 b1 b2
  have c20 := y2.cell 0 _ rfl
  have c21 := y2.cell 1 _ rfl
  have c30 := y3.cell 0 _ rfl
  have c31 := y3.cell 1 _ rfl
  have c32 := y3.cell 2 _ rfl
  have c40 := y4.cell 0 _ rfl
  have c41 := y4.cell 1 _ rfl
  have g40 := y4.free 0
  have g41 := y4.free 1
  go_wp2_with fail
  refine (HBh.out _).mono ?_
  rintro e w3 ⟨rfl, b2⟩
  clear c20 c21 c30 c31 c32 c40 c41 g40 g41
  replace bB := bB.trans (b2.mono bB.size)
  replace y2 := y2.next b2
  replace y3 := y3.next b2
  replace y4 := y4.next b2
  clear b2
  have c20 := y2.cell 0 _ rfl
  have c21 := y2.cell 1 _ rfl
  have c30 := y3.cell 0 _ rfl
  have c31 := y3.cell 1 _ rfl
  have c32 := y3.cell 2 _ rfl
  have c40 := y4.cell 0 _ rfl
  have c41 := y4.cell 1 _ rfl
  have g40 := y4.free 0
  have g41 := y4.free 1
  go_wp2
  have bE := ((bB).setCell (p := ⟨w.heap.size + 1 + 1, 0, none⟩) (by simp only; omega) (.bool false)).setCell (p := ⟨w.heap.size + 1 + 1, 1, none⟩) (by simp only; omega) (.slice none 0 0)
  exact bodyPost_ret (v := .tuple #[.agg #[.bool false, .slice none 0 0], .slice none 0 0, .bool false, .int .i64 0]) (by simp [results, Try.results37, go_sem, c40, c41]) rfl ⟨rfl, bE⟩

set_option maxRecDepth 100000 in
set_option maxHeartbeats 4000000 in
theorem joinTake_full (o : Bool) (a : Option Addr) (n cap : Nat) (s m : Int) (b : Option Addr) (k bc : Nat) (h : (if o = true then decide (n ≤ 4096) else decide (n = 0)) = true) (hm0 : 0 ≤ m) (hm1 : m ≤ 3) (hk : k ≤ 16) (hq : (o || (bits .and .i64 m 1 != 0)) = true) (hf : (bits .and .i64 m 1 != 0) = false) (hN : n ≤ 4096) (hfu : 4096 < n + k) (w : World) : Calls Try.prog 37 #[.agg #[.bool o, .slice a n cap], .agg #[.int .i64 s, .int .i64 m, .slice b k bc]] w fun e W' => e = .returned (.tuple #[.agg #[.bool false, .slice none 0 0], .slice none 0 0, .bool false, .int .i64 2]) ∧ Below w.heap.size w W' := by
  have b1 := (((Below.refl w.heap.size w).alloc (Nat.le_refl _) (.cells #[.bool o, .slice a n cap] 28)).alloc (by simp) (.cells #[.int .i64 s, .int .i64 m, .slice b k bc] 79)).alloc (by simp; omega) (.cells #[.bool false, .slice none 0 0] 28)
  have x2 := ((Box.new w 28 #[.bool o, .slice a n cap]).alloc (.cells #[.int .i64 s, .int .i64 m, .slice b k bc] 79)).alloc (.cells #[.bool false, .slice none 0 0] 28)
  have x3 := (Box.new (w.alloc (.cells #[.bool o, .slice a n cap] 28)) 79 #[.int .i64 s, .int .i64 m, .slice b k bc]).alloc (.cells #[.bool false, .slice none 0 0] 28)
  have x4 := Box.new ((w.alloc (.cells #[.bool o, .slice a n cap] 28)).alloc (.cells #[.int .i64 s, .int .i64 m, .slice b k bc] 79)) 28 #[.bool false, .slice none 0 0]
  rw [show (w.alloc (.cells #[.bool o, .slice a n cap] 28)).heap.size = w.heap.size + 1 by simp] at x3
  rw [show ((w.alloc (.cells #[.bool o, .slice a n cap] 28)).alloc (.cells #[.int .i64 s, .int .i64 m, .slice b k bc] 79)).heap.size = w.heap.size + 2 by simp] at x4
  have HRt := joinRight_any o a n cap (((w.alloc (.cells #[.bool o, .slice a n cap] 28)).alloc (.cells #[.int .i64 s, .int .i64 m, .slice b k bc] 79)).alloc (.cells #[.bool false, .slice none 0 0] 28))
  rw [h] at HRt
  clear h
  have d3 : decide (m < 0) = false := decide_eq_false (by omega)
  have d4 : decide (3 < m) = false := decide_eq_false (by omega)
  have d5 : decide (16 < k) = false := decide_eq_false (by omega)
  have d5i : decide (16 < (k : Int)) = false := decide_eq_false (by omega)
  have HBl := joinBelongs_any o a n cap s m b k bc
  rw [hq] at HBl
  have HBh : Hid _ := HBl
  have HBf := joinBefore_any o a n cap s m b k bc
  rw [hf, if_neg (by decide)] at HBf
  have HFh : Hid _ := HBf
  have d6 : decide (4096 < (n : Int) + (k : Int)) = true := decide_eq_true (by omega)
  have d6n : decide (4096 < n + k) = true := decide_eq_true (by omega)
  have hN' : (n : Int) ≤ 4096 := by omega
  have hk16 : (k : Int) ≤ 16 := by omega
  clear hm0 hm1 hq HBl HBf hf hfu hk
  go_enter Try.func37, Try.ntmps37
  go_wp2_with fail
  refine HRt.mono ?_
  rintro e w2 ⟨rfl, b2⟩
  have bB := b1.trans (b2.mono b1.size)
  have y2 := x2.next b2
  have y3 := x3.next b2
  have y4 := x4.next b2
  clear HRt x2 x3 x4 b1 b2
  have c20 := y2.cell 0 _ rfl
  have c21 := y2.cell 1 _ rfl
  have c30 := y3.cell 0 _ rfl
  have c31 := y3.cell 1 _ rfl
  have c32 := y3.cell 2 _ rfl
  have c40 := y4.cell 0 _ rfl
  have c41 := y4.cell 1 _ rfl
  have g40 := y4.free 0
  have g41 := y4.free 1
  go_wp2_with fail
  refine (HBh.out _).mono ?_
  rintro e w3 ⟨rfl, b2⟩
  clear c20 c21 c30 c31 c32 c40 c41 g40 g41
  replace bB := bB.trans (b2.mono bB.size)
  replace y2 := y2.next b2
  replace y3 := y3.next b2
  replace y4 := y4.next b2
  clear b2
  have c20 := y2.cell 0 _ rfl
  have c21 := y2.cell 1 _ rfl
  have c30 := y3.cell 0 _ rfl
  have c31 := y3.cell 1 _ rfl
  have c32 := y3.cell 2 _ rfl
  have c40 := y4.cell 0 _ rfl
  have c41 := y4.cell 1 _ rfl
  have g40 := y4.free 0
  have g41 := y4.free 1
  go_wp2_with fail
  refine (HFh.out _).mono ?_
  rintro e w4 ⟨rfl, b2⟩
  clear c20 c21 c30 c31 c32 c40 c41 g40 g41
  replace bB := bB.trans (b2.mono bB.size)
  replace y2 := y2.next b2
  replace y3 := y3.next b2
  replace y4 := y4.next b2
  clear b2
  have c20 := y2.cell 0 _ rfl
  have c21 := y2.cell 1 _ rfl
  have c30 := y3.cell 0 _ rfl
  have c31 := y3.cell 1 _ rfl
  have c32 := y3.cell 2 _ rfl
  have c40 := y4.cell 0 _ rfl
  have c41 := y4.cell 1 _ rfl
  have g40 := y4.free 0
  have g41 := y4.free 1
  go_wp2
  have bE := ((bB).setCell (p := ⟨w.heap.size + 1 + 1, 0, none⟩) (by simp only; omega) (.bool false)).setCell (p := ⟨w.heap.size + 1 + 1, 1, none⟩) (by simp only; omega) (.slice none 0 0)
  exact bodyPost_ret (v := .tuple #[.agg #[.bool false, .slice none 0 0], .slice none 0 0, .bool false, .int .i64 2]) (by simp [results, Try.results37, go_sem, c40, c41]) rfl ⟨rfl, bE⟩

set_option maxRecDepth 100000 in
set_option maxHeartbeats 4000000 in
theorem joinTake_fl (o : Bool) (a : Option Addr) (n cap : Nat) (s m : Int) (b : Option Addr) (k bc : Nat) (h : (if o = true then decide (n ≤ 4096) else decide (n = 0)) = true) (hm0 : 0 ≤ m) (hm1 : m ≤ 3) (hk : k ≤ 16) (hq : (o || (bits .and .i64 m 1 != 0)) = true) (hf : (bits .and .i64 m 1 != 0) = true) (hl : ((bits .and .i64 m 2 != 0) && (o || (bits .and .i64 m 1 != 0))) = true) (t xs : List Int) (hn : t.length = n) (hxk : xs.length = k) (w : World) (ha : Holds .u8 w.heap.size w (.slice a n cap) t) (hb : Holds .u8 w.heap.size w (.slice b k bc) xs) : Calls Try.prog 37 #[.agg #[.bool o, .slice a n cap], .agg #[.int .i64 s, .int .i64 m, .slice b k bc]] w fun e W' => ∃ va vc, e = .returned (.tuple #[.agg #[.bool false, .slice none 0 0], .slice va k vc, .bool true, .int .i64 0]) ∧ W'.ownsRow w.heap.size 5 1 (.slice va k vc) k (xs.map (Value.int .u8)) ∧ Below w.heap.size w W' := by
  have b1 := (((Below.refl w.heap.size w).alloc (Nat.le_refl _) (.cells #[.bool o, .slice a n cap] 28)).alloc (by simp) (.cells #[.int .i64 s, .int .i64 m, .slice b k bc] 79)).alloc (by simp; omega) (.cells #[.bool false, .slice none 0 0] 28)
  have x2 := ((Box.new w 28 #[.bool o, .slice a n cap]).alloc (.cells #[.int .i64 s, .int .i64 m, .slice b k bc] 79)).alloc (.cells #[.bool false, .slice none 0 0] 28)
  have x3 := (Box.new (w.alloc (.cells #[.bool o, .slice a n cap] 28)) 79 #[.int .i64 s, .int .i64 m, .slice b k bc]).alloc (.cells #[.bool false, .slice none 0 0] 28)
  have x4 := Box.new ((w.alloc (.cells #[.bool o, .slice a n cap] 28)).alloc (.cells #[.int .i64 s, .int .i64 m, .slice b k bc] 79)) 28 #[.bool false, .slice none 0 0]
  rw [show (w.alloc (.cells #[.bool o, .slice a n cap] 28)).heap.size = w.heap.size + 1 by simp] at x3
  rw [show ((w.alloc (.cells #[.bool o, .slice a n cap] 28)).alloc (.cells #[.int .i64 s, .int .i64 m, .slice b k bc] 79)).heap.size = w.heap.size + 2 by simp] at x4
  have HRt := joinRight_any o a n cap (((w.alloc (.cells #[.bool o, .slice a n cap] 28)).alloc (.cells #[.int .i64 s, .int .i64 m, .slice b k bc] 79)).alloc (.cells #[.bool false, .slice none 0 0] 28))
  rw [h] at HRt
  clear h
  have d3 : decide (m < 0) = false := decide_eq_false (by omega)
  have d4 : decide (3 < m) = false := decide_eq_false (by omega)
  have d5 : decide (16 < k) = false := decide_eq_false (by omega)
  have d5i : decide (16 < (k : Int)) = false := decide_eq_false (by omega)
  have HBl := joinBelongs_any o a n cap s m b k bc
  rw [hq] at HBl
  have HBh : Hid _ := HBl
  have HBf := joinBefore_any o a n cap s m b k bc
  rw [hf, if_pos rfl] at HBf
  have HFh : Hid _ := HBf
  have HEn := joinEnds_o o a n cap s m b k bc
  rw [hl] at HEn
  have HEh : Hid _ := HEn
  have hk16 : (k : Int) ≤ 16 := by omega
  have HA : Hid (Holds .u8 w.heap.size w (.slice a n cap) t) := ha
  have HB : Hid (Holds .u8 w.heap.size w (.slice b k bc) xs) := hb
  have HN : Hid (t.length = n) := hn
  have HK : Hid (xs.length = k) := hxk
  have hkN : k ≤ 16 := hk
  clear hm0 hm1 hq HBl HBf hf hl HEn ha hb hn hxk hk
  go_enter Try.func37, Try.ntmps37
  go_wp2_with fail
  refine HRt.mono ?_
  rintro e w2 ⟨rfl, b2⟩
  have bB := b1.trans (b2.mono b1.size)
  have y2 := x2.next b2
  have y3 := x3.next b2
  have y4 := x4.next b2
  clear HRt x2 x3 x4 b1 b2
  have c20 := y2.cell 0 _ rfl
  have c21 := y2.cell 1 _ rfl
  have c30 := y3.cell 0 _ rfl
  have c31 := y3.cell 1 _ rfl
  have c32 := y3.cell 2 _ rfl
  have c40 := y4.cell 0 _ rfl
  have c41 := y4.cell 1 _ rfl
  have g40 := y4.free 0
  have g41 := y4.free 1
  go_wp2_with fail
  refine (HBh.out _).mono ?_
  rintro e w3 ⟨rfl, b2⟩
  clear c20 c21 c30 c31 c32 c40 c41 g40 g41
  replace bB := bB.trans (b2.mono bB.size)
  replace y2 := y2.next b2
  replace y3 := y3.next b2
  replace y4 := y4.next b2
  clear b2
  have c20 := y2.cell 0 _ rfl
  have c21 := y2.cell 1 _ rfl
  have c30 := y3.cell 0 _ rfl
  have c31 := y3.cell 1 _ rfl
  have c32 := y3.cell 2 _ rfl
  have c40 := y4.cell 0 _ rfl
  have c41 := y4.cell 1 _ rfl
  have g40 := y4.free 0
  have g41 := y4.free 1
  go_wp2_with fail
  refine (HFh.out _).mono ?_
  rintro e w4 ⟨rfl, b2⟩
  clear c20 c21 c30 c31 c32 c40 c41 g40 g41
  replace bB := bB.trans (b2.mono bB.size)
  replace y2 := y2.next b2
  replace y3 := y3.next b2
  replace y4 := y4.next b2
  clear b2
  have c20 := y2.cell 0 _ rfl
  have c21 := y2.cell 1 _ rfl
  have c30 := y3.cell 0 _ rfl
  have c31 := y3.cell 1 _ rfl
  have c32 := y3.cell 2 _ rfl
  have c40 := y4.cell 0 _ rfl
  have c41 := y4.cell 1 _ rfl
  have g40 := y4.free 0
  have g41 := y4.free 1
  go_wp2_with fail
  have bR := (Below.refl w4.heap.size w4).alloc (Nat.le_refl _) (.cells #[.slice none 0 0, .slice b k bc] 26)
  have bb1 := bB.trans (bR.mono bB.size)
  have xr := Box.new w4 26 #[.slice none 0 0, .slice b k bc]
  have hs4 := y4.lt
  refine (concatJ_ok w4.heap.size none b 0 bc 0 k ([] : List Int) xs rfl HK.out (by omega) (by omega) _ (xr.cell 0 _ rfl) (xr.cell 1 _ rfl) (.inl ⟨⟨_, _, rfl, fun _ => rfl⟩, rfl⟩) (HB.out.next bb1)).mono ?_
  rintro e w5 ⟨va, vc, he5, o5, b5⟩
  rw [Nat.zero_add] at he5 o5
  rw [List.nil_append] at o5
  subst he5
  clear c20 c21 c30 c31 c32 c40 c41 g40 g41
  have b5' := bR.trans (b5.mono bR.size)
  have bs1 := bR.size
  replace y2 := y2.next b5'
  replace y3 := y3.next b5'
  replace y4 := y4.next b5'
  replace bB := bB.trans (b5'.mono bB.size)
  have o6 := rowK_base o5 (show w.heap.size + 3 ≤ _ by omega)
  clear bR bb1 xr o5 b5 b5' hs4 bs1
  have c20 := y2.cell 0 _ rfl
  have c21 := y2.cell 1 _ rfl
  have c30 := y3.cell 0 _ rfl
  have c31 := y3.cell 1 _ rfl
  have c32 := y3.cell 2 _ rfl
  have c40 := y4.cell 0 _ rfl
  have c41 := y4.cell 1 _ rfl
  have g40 := y4.free 0
  have g41 := y4.free 1
  go_wp2_with fail
  refine (HEh.out _).mono ?_
  rintro e w6 ⟨rfl, b6⟩
  clear c20 c21 c30 c31 c32 c40 c41 g40 g41
  replace y4 := y4.next b6
  replace o6 := rowK_below o6 b6 (Nat.le_refl _)
  replace bB := bB.trans (b6.mono bB.size)
  have c40 := y4.cell 0 _ rfl
  have c41 := y4.cell 1 _ rfl
  have g40 := y4.free 0
  have g41 := y4.free 1
  have hl4 := y4.lt
  clear b6 y2 y3
  go_wp2
  have bE := ((bB).setCell (p := ⟨w.heap.size + 1 + 1, 0, none⟩) (by simp only; omega) (.bool false)).setCell (p := ⟨w.heap.size + 1 + 1, 1, none⟩) (by simp only; omega) (.slice none 0 0)
  have oE := rowK_base (ownsRow_setCell_below (ownsRow_setCell_below o6 (a := ⟨w.heap.size + 1 + 1, 0, none⟩) (by simp only; omega) (.bool false)) (a := ⟨w.heap.size + 1 + 1, 1, none⟩) (by simp only; omega) (.slice none 0 0)) (show w.heap.size ≤ _ by omega)
  exact bodyPost_ret (v := .tuple #[.agg #[.bool false, .slice none 0 0], .slice va k vc, .bool true, .int .i64 0]) (by simp [results, Try.results37, go_sem, c40, c41]) rfl ⟨_, _, rfl, oE, bE⟩

set_option maxRecDepth 100000 in
set_option maxHeartbeats 4000000 in
theorem joinTake_fm (o : Bool) (a : Option Addr) (n cap : Nat) (s m : Int) (b : Option Addr) (k bc : Nat) (h : (if o = true then decide (n ≤ 4096) else decide (n = 0)) = true) (hm0 : 0 ≤ m) (hm1 : m ≤ 3) (hk : k ≤ 16) (hq : (o || (bits .and .i64 m 1 != 0)) = true) (hf : (bits .and .i64 m 1 != 0) = true) (hl : ((bits .and .i64 m 2 != 0) && (o || (bits .and .i64 m 1 != 0))) = false) (t xs : List Int) (hn : t.length = n) (hxk : xs.length = k) (w : World) (ha : Holds .u8 w.heap.size w (.slice a n cap) t) (hb : Holds .u8 w.heap.size w (.slice b k bc) xs) : Calls Try.prog 37 #[.agg #[.bool o, .slice a n cap], .agg #[.int .i64 s, .int .i64 m, .slice b k bc]] w fun e W' => ∃ va vc, e = .returned (.tuple #[.agg #[.bool true, .slice va k vc], .slice none 0 0, .bool false, .int .i64 0]) ∧ W'.ownsRow w.heap.size 5 1 (.slice va k vc) k (xs.map (Value.int .u8)) ∧ Below w.heap.size w W' := by
  have b1 := (((Below.refl w.heap.size w).alloc (Nat.le_refl _) (.cells #[.bool o, .slice a n cap] 28)).alloc (by simp) (.cells #[.int .i64 s, .int .i64 m, .slice b k bc] 79)).alloc (by simp; omega) (.cells #[.bool false, .slice none 0 0] 28)
  have x2 := ((Box.new w 28 #[.bool o, .slice a n cap]).alloc (.cells #[.int .i64 s, .int .i64 m, .slice b k bc] 79)).alloc (.cells #[.bool false, .slice none 0 0] 28)
  have x3 := (Box.new (w.alloc (.cells #[.bool o, .slice a n cap] 28)) 79 #[.int .i64 s, .int .i64 m, .slice b k bc]).alloc (.cells #[.bool false, .slice none 0 0] 28)
  have x4 := Box.new ((w.alloc (.cells #[.bool o, .slice a n cap] 28)).alloc (.cells #[.int .i64 s, .int .i64 m, .slice b k bc] 79)) 28 #[.bool false, .slice none 0 0]
  rw [show (w.alloc (.cells #[.bool o, .slice a n cap] 28)).heap.size = w.heap.size + 1 by simp] at x3
  rw [show ((w.alloc (.cells #[.bool o, .slice a n cap] 28)).alloc (.cells #[.int .i64 s, .int .i64 m, .slice b k bc] 79)).heap.size = w.heap.size + 2 by simp] at x4
  have HRt := joinRight_any o a n cap (((w.alloc (.cells #[.bool o, .slice a n cap] 28)).alloc (.cells #[.int .i64 s, .int .i64 m, .slice b k bc] 79)).alloc (.cells #[.bool false, .slice none 0 0] 28))
  rw [h] at HRt
  clear h
  have d3 : decide (m < 0) = false := decide_eq_false (by omega)
  have d4 : decide (3 < m) = false := decide_eq_false (by omega)
  have d5 : decide (16 < k) = false := decide_eq_false (by omega)
  have d5i : decide (16 < (k : Int)) = false := decide_eq_false (by omega)
  have HBl := joinBelongs_any o a n cap s m b k bc
  rw [hq] at HBl
  have HBh : Hid _ := HBl
  have HBf := joinBefore_any o a n cap s m b k bc
  rw [hf, if_pos rfl] at HBf
  have HFh : Hid _ := HBf
  have HEn := joinEnds_o o a n cap s m b k bc
  rw [hl] at HEn
  have HEh : Hid _ := HEn
  have hk16 : (k : Int) ≤ 16 := by omega
  have HA : Hid (Holds .u8 w.heap.size w (.slice a n cap) t) := ha
  have HB : Hid (Holds .u8 w.heap.size w (.slice b k bc) xs) := hb
  have HN : Hid (t.length = n) := hn
  have HK : Hid (xs.length = k) := hxk
  have hkN : k ≤ 16 := hk
  clear hm0 hm1 hq HBl HBf hf hl HEn ha hb hn hxk hk
  go_enter Try.func37, Try.ntmps37
  go_wp2_with fail
  refine HRt.mono ?_
  rintro e w2 ⟨rfl, b2⟩
  have bB := b1.trans (b2.mono b1.size)
  have y2 := x2.next b2
  have y3 := x3.next b2
  have y4 := x4.next b2
  clear HRt x2 x3 x4 b1 b2
  have c20 := y2.cell 0 _ rfl
  have c21 := y2.cell 1 _ rfl
  have c30 := y3.cell 0 _ rfl
  have c31 := y3.cell 1 _ rfl
  have c32 := y3.cell 2 _ rfl
  have c40 := y4.cell 0 _ rfl
  have c41 := y4.cell 1 _ rfl
  have g40 := y4.free 0
  have g41 := y4.free 1
  go_wp2_with fail
  refine (HBh.out _).mono ?_
  rintro e w3 ⟨rfl, b2⟩
  clear c20 c21 c30 c31 c32 c40 c41 g40 g41
  replace bB := bB.trans (b2.mono bB.size)
  replace y2 := y2.next b2
  replace y3 := y3.next b2
  replace y4 := y4.next b2
  clear b2
  have c20 := y2.cell 0 _ rfl
  have c21 := y2.cell 1 _ rfl
  have c30 := y3.cell 0 _ rfl
  have c31 := y3.cell 1 _ rfl
  have c32 := y3.cell 2 _ rfl
  have c40 := y4.cell 0 _ rfl
  have c41 := y4.cell 1 _ rfl
  have g40 := y4.free 0
  have g41 := y4.free 1
  go_wp2_with fail
  refine (HFh.out _).mono ?_
  rintro e w4 ⟨rfl, b2⟩
  clear c20 c21 c30 c31 c32 c40 c41 g40 g41
  replace bB := bB.trans (b2.mono bB.size)
  replace y2 := y2.next b2
  replace y3 := y3.next b2
  replace y4 := y4.next b2
  clear b2
  have c20 := y2.cell 0 _ rfl
  have c21 := y2.cell 1 _ rfl
  have c30 := y3.cell 0 _ rfl
  have c31 := y3.cell 1 _ rfl
  have c32 := y3.cell 2 _ rfl
  have c40 := y4.cell 0 _ rfl
  have c41 := y4.cell 1 _ rfl
  have g40 := y4.free 0
  have g41 := y4.free 1
  go_wp2_with fail
  have bR := (Below.refl w4.heap.size w4).alloc (Nat.le_refl _) (.cells #[.slice none 0 0, .slice b k bc] 26)
  have bb1 := bB.trans (bR.mono bB.size)
  have xr := Box.new w4 26 #[.slice none 0 0, .slice b k bc]
  have hs4 := y4.lt
  refine (concatJ_ok w4.heap.size none b 0 bc 0 k ([] : List Int) xs rfl HK.out (by omega) (by omega) _ (xr.cell 0 _ rfl) (xr.cell 1 _ rfl) (.inl ⟨⟨_, _, rfl, fun _ => rfl⟩, rfl⟩) (HB.out.next bb1)).mono ?_
  rintro e w5 ⟨va, vc, he5, o5, b5⟩
  rw [Nat.zero_add] at he5 o5
  rw [List.nil_append] at o5
  subst he5
  clear c20 c21 c30 c31 c32 c40 c41 g40 g41
  have b5' := bR.trans (b5.mono bR.size)
  have bs1 := bR.size
  replace y2 := y2.next b5'
  replace y3 := y3.next b5'
  replace y4 := y4.next b5'
  replace bB := bB.trans (b5'.mono bB.size)
  have o6 := rowK_base o5 (show w.heap.size + 3 ≤ _ by omega)
  clear bR bb1 xr o5 b5 b5' hs4 bs1
  have c20 := y2.cell 0 _ rfl
  have c21 := y2.cell 1 _ rfl
  have c30 := y3.cell 0 _ rfl
  have c31 := y3.cell 1 _ rfl
  have c32 := y3.cell 2 _ rfl
  have c40 := y4.cell 0 _ rfl
  have c41 := y4.cell 1 _ rfl
  have g40 := y4.free 0
  have g41 := y4.free 1
  go_wp2_with fail
  refine (HEh.out _).mono ?_
  rintro e w6 ⟨rfl, b6⟩
  clear c20 c21 c30 c31 c32 c40 c41 g40 g41
  replace y4 := y4.next b6
  replace o6 := rowK_below o6 b6 (Nat.le_refl _)
  replace bB := bB.trans (b6.mono bB.size)
  have c40 := y4.cell 0 _ rfl
  have c41 := y4.cell 1 _ rfl
  have g40 := y4.free 0
  have g41 := y4.free 1
  have hl4 := y4.lt
  clear b6 y2 y3
  go_wp2
  have bE := ((bB).setCell (p := ⟨w.heap.size + 1 + 1, 0, none⟩) (by simp only; omega) (.bool true)).setCell (p := ⟨w.heap.size + 1 + 1, 1, none⟩) (by simp only; omega) (.slice va k vc)
  have oE := rowK_base (ownsRow_setCell_below (ownsRow_setCell_below o6 (a := ⟨w.heap.size + 1 + 1, 0, none⟩) (by simp only; omega) (.bool true)) (a := ⟨w.heap.size + 1 + 1, 1, none⟩) (by simp only; omega) (.slice va k vc)) (show w.heap.size ≤ _ by omega)
  exact bodyPost_ret (v := .tuple #[.agg #[.bool true, .slice va k vc], .slice none 0 0, .bool false, .int .i64 0]) (by simp [results, Try.results37, go_sem, c40, c41]) rfl ⟨_, _, rfl, oE, bE⟩

set_option maxRecDepth 100000 in
set_option maxHeartbeats 4000000 in
theorem joinTake_nl (o : Bool) (a : Option Addr) (n cap : Nat) (s m : Int) (b : Option Addr) (k bc : Nat) (h : (if o = true then decide (n ≤ 4096) else decide (n = 0)) = true) (hm0 : 0 ≤ m) (hm1 : m ≤ 3) (hk : k ≤ 16) (hq : (o || (bits .and .i64 m 1 != 0)) = true) (hf : (bits .and .i64 m 1 != 0) = false) (hN : n ≤ 4096) (hfu : n + k ≤ 4096) (hl : ((bits .and .i64 m 2 != 0) && (o || (bits .and .i64 m 1 != 0))) = true) (t xs : List Int) (hn : t.length = n) (hxk : xs.length = k) (w : World) (ha : Holds .u8 w.heap.size w (.slice a n cap) t) (hb : Holds .u8 w.heap.size w (.slice b k bc) xs) : Calls Try.prog 37 #[.agg #[.bool o, .slice a n cap], .agg #[.int .i64 s, .int .i64 m, .slice b k bc]] w fun e W' => ∃ va vc, e = .returned (.tuple #[.agg #[.bool false, .slice none 0 0], .slice va (n + k) vc, .bool true, .int .i64 0]) ∧ W'.ownsRow w.heap.size 5 1 (.slice va (n + k) vc) (n + k) ((t ++ xs).map (Value.int .u8)) ∧ Below w.heap.size w W' := by
  have b1 := (((Below.refl w.heap.size w).alloc (Nat.le_refl _) (.cells #[.bool o, .slice a n cap] 28)).alloc (by simp) (.cells #[.int .i64 s, .int .i64 m, .slice b k bc] 79)).alloc (by simp; omega) (.cells #[.bool false, .slice none 0 0] 28)
  have x2 := ((Box.new w 28 #[.bool o, .slice a n cap]).alloc (.cells #[.int .i64 s, .int .i64 m, .slice b k bc] 79)).alloc (.cells #[.bool false, .slice none 0 0] 28)
  have x3 := (Box.new (w.alloc (.cells #[.bool o, .slice a n cap] 28)) 79 #[.int .i64 s, .int .i64 m, .slice b k bc]).alloc (.cells #[.bool false, .slice none 0 0] 28)
  have x4 := Box.new ((w.alloc (.cells #[.bool o, .slice a n cap] 28)).alloc (.cells #[.int .i64 s, .int .i64 m, .slice b k bc] 79)) 28 #[.bool false, .slice none 0 0]
  rw [show (w.alloc (.cells #[.bool o, .slice a n cap] 28)).heap.size = w.heap.size + 1 by simp] at x3
  rw [show ((w.alloc (.cells #[.bool o, .slice a n cap] 28)).alloc (.cells #[.int .i64 s, .int .i64 m, .slice b k bc] 79)).heap.size = w.heap.size + 2 by simp] at x4
  have HRt := joinRight_any o a n cap (((w.alloc (.cells #[.bool o, .slice a n cap] 28)).alloc (.cells #[.int .i64 s, .int .i64 m, .slice b k bc] 79)).alloc (.cells #[.bool false, .slice none 0 0] 28))
  rw [h] at HRt
  clear h
  have d3 : decide (m < 0) = false := decide_eq_false (by omega)
  have d4 : decide (3 < m) = false := decide_eq_false (by omega)
  have d5 : decide (16 < k) = false := decide_eq_false (by omega)
  have d5i : decide (16 < (k : Int)) = false := decide_eq_false (by omega)
  have HBl := joinBelongs_any o a n cap s m b k bc
  rw [hq] at HBl
  have HBh : Hid _ := HBl
  have HBf := joinBefore_any o a n cap s m b k bc
  rw [hf, if_neg (by decide)] at HBf
  have HFh : Hid _ := HBf
  have HEn := joinEnds_o o a n cap s m b k bc
  rw [hl] at HEn
  have HEh : Hid _ := HEn
  have d6 : decide (4096 < (n : Int) + (k : Int)) = false := decide_eq_false (by omega)
  have d6n : decide (4096 < n + k) = false := decide_eq_false (by omega)
  have hN' : (n : Int) ≤ 4096 := by omega
  have hk16 : (k : Int) ≤ 16 := by omega
  have HA : Hid (Holds .u8 w.heap.size w (.slice a n cap) t) := ha
  have HB : Hid (Holds .u8 w.heap.size w (.slice b k bc) xs) := hb
  have HN : Hid (t.length = n) := hn
  have HK : Hid (xs.length = k) := hxk
  have hkN : k ≤ 16 := hk
  clear hm0 hm1 hq HBl HBf hf hl HEn ha hb hn hxk hk hfu
  go_enter Try.func37, Try.ntmps37
  go_wp2_with fail
  refine HRt.mono ?_
  rintro e w2 ⟨rfl, b2⟩
  have bB := b1.trans (b2.mono b1.size)
  have y2 := x2.next b2
  have y3 := x3.next b2
  have y4 := x4.next b2
  clear HRt x2 x3 x4 b1 b2
  have c20 := y2.cell 0 _ rfl
  have c21 := y2.cell 1 _ rfl
  have c30 := y3.cell 0 _ rfl
  have c31 := y3.cell 1 _ rfl
  have c32 := y3.cell 2 _ rfl
  have c40 := y4.cell 0 _ rfl
  have c41 := y4.cell 1 _ rfl
  have g40 := y4.free 0
  have g41 := y4.free 1
  go_wp2_with fail
  refine (HBh.out _).mono ?_
  rintro e w3 ⟨rfl, b2⟩
  clear c20 c21 c30 c31 c32 c40 c41 g40 g41
  replace bB := bB.trans (b2.mono bB.size)
  replace y2 := y2.next b2
  replace y3 := y3.next b2
  replace y4 := y4.next b2
  clear b2
  have c20 := y2.cell 0 _ rfl
  have c21 := y2.cell 1 _ rfl
  have c30 := y3.cell 0 _ rfl
  have c31 := y3.cell 1 _ rfl
  have c32 := y3.cell 2 _ rfl
  have c40 := y4.cell 0 _ rfl
  have c41 := y4.cell 1 _ rfl
  have g40 := y4.free 0
  have g41 := y4.free 1
  go_wp2_with fail
  refine (HFh.out _).mono ?_
  rintro e w4 ⟨rfl, b2⟩
  clear c20 c21 c30 c31 c32 c40 c41 g40 g41
  replace bB := bB.trans (b2.mono bB.size)
  replace y2 := y2.next b2
  replace y3 := y3.next b2
  replace y4 := y4.next b2
  clear b2
  have c20 := y2.cell 0 _ rfl
  have c21 := y2.cell 1 _ rfl
  have c30 := y3.cell 0 _ rfl
  have c31 := y3.cell 1 _ rfl
  have c32 := y3.cell 2 _ rfl
  have c40 := y4.cell 0 _ rfl
  have c41 := y4.cell 1 _ rfl
  have g40 := y4.free 0
  have g41 := y4.free 1
  go_wp2_with fail
  have bR := (Below.refl w4.heap.size w4).alloc (Nat.le_refl _) (.cells #[.slice a n cap, .slice b k bc] 26)
  have bb1 := bB.trans (bR.mono bB.size)
  have xr := Box.new w4 26 #[.slice a n cap, .slice b k bc]
  have hs4 := y4.lt
  refine (concatJ_ok w4.heap.size a b cap bc n k t xs HN.out HK.out (by omega) (by omega) _ (xr.cell 0 _ rfl) (xr.cell 1 _ rfl) (HA.out.next bb1) (HB.out.next bb1)).mono ?_
  rintro e w5 ⟨va, vc, he5, o5, b5⟩
  subst he5
  clear c20 c21 c30 c31 c32 c40 c41 g40 g41
  have b5' := bR.trans (b5.mono bR.size)
  have bs1 := bR.size
  replace y2 := y2.next b5'
  replace y3 := y3.next b5'
  replace y4 := y4.next b5'
  replace bB := bB.trans (b5'.mono bB.size)
  have o6 := rowK_base o5 (show w.heap.size + 3 ≤ _ by omega)
  clear bR bb1 xr o5 b5 b5' hs4 bs1
  have c20 := y2.cell 0 _ rfl
  have c21 := y2.cell 1 _ rfl
  have c30 := y3.cell 0 _ rfl
  have c31 := y3.cell 1 _ rfl
  have c32 := y3.cell 2 _ rfl
  have c40 := y4.cell 0 _ rfl
  have c41 := y4.cell 1 _ rfl
  have g40 := y4.free 0
  have g41 := y4.free 1
  go_wp2_with fail
  refine (HEh.out _).mono ?_
  rintro e w6 ⟨rfl, b6⟩
  clear c20 c21 c30 c31 c32 c40 c41 g40 g41
  replace y4 := y4.next b6
  replace o6 := rowK_below o6 b6 (Nat.le_refl _)
  replace bB := bB.trans (b6.mono bB.size)
  have c40 := y4.cell 0 _ rfl
  have c41 := y4.cell 1 _ rfl
  have g40 := y4.free 0
  have g41 := y4.free 1
  have hl4 := y4.lt
  clear b6 y2 y3
  go_wp2
  have bE := ((bB).setCell (p := ⟨w.heap.size + 1 + 1, 0, none⟩) (by simp only; omega) (.bool false)).setCell (p := ⟨w.heap.size + 1 + 1, 1, none⟩) (by simp only; omega) (.slice none 0 0)
  have oE := rowK_base (ownsRow_setCell_below (ownsRow_setCell_below o6 (a := ⟨w.heap.size + 1 + 1, 0, none⟩) (by simp only; omega) (.bool false)) (a := ⟨w.heap.size + 1 + 1, 1, none⟩) (by simp only; omega) (.slice none 0 0)) (show w.heap.size ≤ _ by omega)
  exact bodyPost_ret (v := .tuple #[.agg #[.bool false, .slice none 0 0], .slice va (n + k) vc, .bool true, .int .i64 0]) (by simp [results, Try.results37, go_sem, c40, c41]) rfl ⟨_, _, rfl, oE, bE⟩

set_option maxRecDepth 100000 in
set_option maxHeartbeats 4000000 in
theorem joinTake_nm (o : Bool) (a : Option Addr) (n cap : Nat) (s m : Int) (b : Option Addr) (k bc : Nat) (h : (if o = true then decide (n ≤ 4096) else decide (n = 0)) = true) (hm0 : 0 ≤ m) (hm1 : m ≤ 3) (hk : k ≤ 16) (hq : (o || (bits .and .i64 m 1 != 0)) = true) (hf : (bits .and .i64 m 1 != 0) = false) (hN : n ≤ 4096) (hfu : n + k ≤ 4096) (hl : ((bits .and .i64 m 2 != 0) && (o || (bits .and .i64 m 1 != 0))) = false) (t xs : List Int) (hn : t.length = n) (hxk : xs.length = k) (w : World) (ha : Holds .u8 w.heap.size w (.slice a n cap) t) (hb : Holds .u8 w.heap.size w (.slice b k bc) xs) : Calls Try.prog 37 #[.agg #[.bool o, .slice a n cap], .agg #[.int .i64 s, .int .i64 m, .slice b k bc]] w fun e W' => ∃ va vc, e = .returned (.tuple #[.agg #[.bool true, .slice va (n + k) vc], .slice none 0 0, .bool false, .int .i64 0]) ∧ W'.ownsRow w.heap.size 5 1 (.slice va (n + k) vc) (n + k) ((t ++ xs).map (Value.int .u8)) ∧ Below w.heap.size w W' := by
  have b1 := (((Below.refl w.heap.size w).alloc (Nat.le_refl _) (.cells #[.bool o, .slice a n cap] 28)).alloc (by simp) (.cells #[.int .i64 s, .int .i64 m, .slice b k bc] 79)).alloc (by simp; omega) (.cells #[.bool false, .slice none 0 0] 28)
  have x2 := ((Box.new w 28 #[.bool o, .slice a n cap]).alloc (.cells #[.int .i64 s, .int .i64 m, .slice b k bc] 79)).alloc (.cells #[.bool false, .slice none 0 0] 28)
  have x3 := (Box.new (w.alloc (.cells #[.bool o, .slice a n cap] 28)) 79 #[.int .i64 s, .int .i64 m, .slice b k bc]).alloc (.cells #[.bool false, .slice none 0 0] 28)
  have x4 := Box.new ((w.alloc (.cells #[.bool o, .slice a n cap] 28)).alloc (.cells #[.int .i64 s, .int .i64 m, .slice b k bc] 79)) 28 #[.bool false, .slice none 0 0]
  rw [show (w.alloc (.cells #[.bool o, .slice a n cap] 28)).heap.size = w.heap.size + 1 by simp] at x3
  rw [show ((w.alloc (.cells #[.bool o, .slice a n cap] 28)).alloc (.cells #[.int .i64 s, .int .i64 m, .slice b k bc] 79)).heap.size = w.heap.size + 2 by simp] at x4
  have HRt := joinRight_any o a n cap (((w.alloc (.cells #[.bool o, .slice a n cap] 28)).alloc (.cells #[.int .i64 s, .int .i64 m, .slice b k bc] 79)).alloc (.cells #[.bool false, .slice none 0 0] 28))
  rw [h] at HRt
  clear h
  have d3 : decide (m < 0) = false := decide_eq_false (by omega)
  have d4 : decide (3 < m) = false := decide_eq_false (by omega)
  have d5 : decide (16 < k) = false := decide_eq_false (by omega)
  have d5i : decide (16 < (k : Int)) = false := decide_eq_false (by omega)
  have HBl := joinBelongs_any o a n cap s m b k bc
  rw [hq] at HBl
  have HBh : Hid _ := HBl
  have HBf := joinBefore_any o a n cap s m b k bc
  rw [hf, if_neg (by decide)] at HBf
  have HFh : Hid _ := HBf
  have HEn := joinEnds_o o a n cap s m b k bc
  rw [hl] at HEn
  have HEh : Hid _ := HEn
  have d6 : decide (4096 < (n : Int) + (k : Int)) = false := decide_eq_false (by omega)
  have d6n : decide (4096 < n + k) = false := decide_eq_false (by omega)
  have hN' : (n : Int) ≤ 4096 := by omega
  have hk16 : (k : Int) ≤ 16 := by omega
  have HA : Hid (Holds .u8 w.heap.size w (.slice a n cap) t) := ha
  have HB : Hid (Holds .u8 w.heap.size w (.slice b k bc) xs) := hb
  have HN : Hid (t.length = n) := hn
  have HK : Hid (xs.length = k) := hxk
  have hkN : k ≤ 16 := hk
  clear hm0 hm1 hq HBl HBf hf hl HEn ha hb hn hxk hk hfu
  go_enter Try.func37, Try.ntmps37
  go_wp2_with fail
  refine HRt.mono ?_
  rintro e w2 ⟨rfl, b2⟩
  have bB := b1.trans (b2.mono b1.size)
  have y2 := x2.next b2
  have y3 := x3.next b2
  have y4 := x4.next b2
  clear HRt x2 x3 x4 b1 b2
  have c20 := y2.cell 0 _ rfl
  have c21 := y2.cell 1 _ rfl
  have c30 := y3.cell 0 _ rfl
  have c31 := y3.cell 1 _ rfl
  have c32 := y3.cell 2 _ rfl
  have c40 := y4.cell 0 _ rfl
  have c41 := y4.cell 1 _ rfl
  have g40 := y4.free 0
  have g41 := y4.free 1
  go_wp2_with fail
  refine (HBh.out _).mono ?_
  rintro e w3 ⟨rfl, b2⟩
  clear c20 c21 c30 c31 c32 c40 c41 g40 g41
  replace bB := bB.trans (b2.mono bB.size)
  replace y2 := y2.next b2
  replace y3 := y3.next b2
  replace y4 := y4.next b2
  clear b2
  have c20 := y2.cell 0 _ rfl
  have c21 := y2.cell 1 _ rfl
  have c30 := y3.cell 0 _ rfl
  have c31 := y3.cell 1 _ rfl
  have c32 := y3.cell 2 _ rfl
  have c40 := y4.cell 0 _ rfl
  have c41 := y4.cell 1 _ rfl
  have g40 := y4.free 0
  have g41 := y4.free 1
  go_wp2_with fail
  refine (HFh.out _).mono ?_
  rintro e w4 ⟨rfl, b2⟩
  clear c20 c21 c30 c31 c32 c40 c41 g40 g41
  replace bB := bB.trans (b2.mono bB.size)
  replace y2 := y2.next b2
  replace y3 := y3.next b2
  replace y4 := y4.next b2
  clear b2
  have c20 := y2.cell 0 _ rfl
  have c21 := y2.cell 1 _ rfl
  have c30 := y3.cell 0 _ rfl
  have c31 := y3.cell 1 _ rfl
  have c32 := y3.cell 2 _ rfl
  have c40 := y4.cell 0 _ rfl
  have c41 := y4.cell 1 _ rfl
  have g40 := y4.free 0
  have g41 := y4.free 1
  go_wp2_with fail
  have bR := (Below.refl w4.heap.size w4).alloc (Nat.le_refl _) (.cells #[.slice a n cap, .slice b k bc] 26)
  have bb1 := bB.trans (bR.mono bB.size)
  have xr := Box.new w4 26 #[.slice a n cap, .slice b k bc]
  have hs4 := y4.lt
  refine (concatJ_ok w4.heap.size a b cap bc n k t xs HN.out HK.out (by omega) (by omega) _ (xr.cell 0 _ rfl) (xr.cell 1 _ rfl) (HA.out.next bb1) (HB.out.next bb1)).mono ?_
  rintro e w5 ⟨va, vc, he5, o5, b5⟩
  subst he5
  clear c20 c21 c30 c31 c32 c40 c41 g40 g41
  have b5' := bR.trans (b5.mono bR.size)
  have bs1 := bR.size
  replace y2 := y2.next b5'
  replace y3 := y3.next b5'
  replace y4 := y4.next b5'
  replace bB := bB.trans (b5'.mono bB.size)
  have o6 := rowK_base o5 (show w.heap.size + 3 ≤ _ by omega)
  clear bR bb1 xr o5 b5 b5' hs4 bs1
  have c20 := y2.cell 0 _ rfl
  have c21 := y2.cell 1 _ rfl
  have c30 := y3.cell 0 _ rfl
  have c31 := y3.cell 1 _ rfl
  have c32 := y3.cell 2 _ rfl
  have c40 := y4.cell 0 _ rfl
  have c41 := y4.cell 1 _ rfl
  have g40 := y4.free 0
  have g41 := y4.free 1
  go_wp2_with fail
  refine (HEh.out _).mono ?_
  rintro e w6 ⟨rfl, b6⟩
  clear c20 c21 c30 c31 c32 c40 c41 g40 g41
  replace y4 := y4.next b6
  replace o6 := rowK_below o6 b6 (Nat.le_refl _)
  replace bB := bB.trans (b6.mono bB.size)
  have c40 := y4.cell 0 _ rfl
  have c41 := y4.cell 1 _ rfl
  have g40 := y4.free 0
  have g41 := y4.free 1
  have hl4 := y4.lt
  clear b6 y2 y3
  go_wp2
  have bE := ((bB).setCell (p := ⟨w.heap.size + 1 + 1, 0, none⟩) (by simp only; omega) (.bool true)).setCell (p := ⟨w.heap.size + 1 + 1, 1, none⟩) (by simp only; omega) (.slice va (n + k) vc)
  have oE := rowK_base (ownsRow_setCell_below (ownsRow_setCell_below o6 (a := ⟨w.heap.size + 1 + 1, 0, none⟩) (by simp only; omega) (.bool true)) (a := ⟨w.heap.size + 1 + 1, 1, none⟩) (by simp only; omega) (.slice va (n + k) vc)) (show w.heap.size ≤ _ by omega)
  exact bodyPost_ret (v := .tuple #[.agg #[.bool true, .slice va (n + k) vc], .slice none 0 0, .bool false, .int .i64 0]) (by simp [results, Try.results37, go_sem, c40, c41]) rfl ⟨_, _, rfl, oE, bE⟩

theorem joinRight_of {o : Bool} {t : List Int} {m : Int} {n : Nat} (hn : t.length = n) (h : argJ (o, t) m = true) : (if o = true then decide (n ≤ 4096) else decide (n = 0)) = true := by
  obtain ⟨g1, g2, _, _⟩ := (argJ_iff _ _).1 h
  cases o with
  | true => rw [if_pos rfl]; exact decide_eq_true (by simpa [hn] using g1)
  | false => rw [if_neg (by decide)]; exact decide_eq_true (by simpa [hn] using g2)
theorem JoinTake_any (o : Bool) (a : Option Addr) (n cap : Nat) (s m : Int) (b : Option Addr) (k bc : Nat) (t xs : List Int) (hn : t.length = n) (hk : xs.length = k) (w : World) (ha : Holds .u8 w.heap.size w (.slice a n cap) t) (hb : Holds .u8 w.heap.size w (.slice b k bc) xs) :
    Calls Try.prog 37 #[.agg #[.bool o, .slice a n cap], .agg #[.int .i64 s, .int .i64 m, .slice b k bc]] w fun e W' => ∃ ta tc ua uc, e = .returned (.tuple #[.agg #[.bool (takeJ (o, t) m xs).1.1, .slice ta (takeJ (o, t) m xs).1.2.length tc], .slice ua (takeJ (o, t) m xs).2.1.length uc, .bool (takeJ (o, t) m xs).2.2, .int .i64 (errJ (o, t) m xs)]) ∧ W'.ownsRow w.heap.size 5 1 (.slice ta (takeJ (o, t) m xs).1.2.length tc) (takeJ (o, t) m xs).1.2.length ((takeJ (o, t) m xs).1.2.map (Value.int .u8)) ∧ W'.ownsRow w.heap.size 5 1 (.slice ua (takeJ (o, t) m xs).2.1.length uc) (takeJ (o, t) m xs).2.1.length ((takeJ (o, t) m xs).2.1.map (Value.int .u8)) ∧ Apart (.slice ta (takeJ (o, t) m xs).1.2.length tc) (.slice ua (takeJ (o, t) m xs).2.1.length uc) ∧ Below w.heap.size w W' := by
  rcases takeJ_cases (o, t) m xs with ⟨h1, h2, h3⟩ | ⟨h1, h2, h3, h4⟩ | ⟨h1, h2, h3, h4, h5⟩ | ⟨h1, h2, h3, h4, h5, h6⟩ | ⟨h1, h2, h3, h4, h5, h6⟩
  · rw [h2, h3]
    by_cases hR : (if o = true then decide (n ≤ 4096) else decide (n = 0)) = true
    · by_cases hm : m < 0
      · exact (joinTake_low o a n cap s m b k bc hR hm w).mono fun e W' ⟨h, b⟩ => h ▸ ⟨_, _, _, _, rfl, World.ownsRow_nil _ _ _ _, World.ownsRow_nil _ _ _ _, .inl rfl, b⟩
      · have hm3 : 3 < m := by
          refine Classical.byContradiction fun g => ?_
          rw [(argJ_iff (o, t) m).2 ⟨?_, ?_, by omega, by omega⟩] at h1
          · cases h1
          · cases o with
            | true => rw [if_pos rfl] at hR; have := of_decide_eq_true hR; simp only; omega
            | false => rw [if_neg (by decide)] at hR; have := of_decide_eq_true hR; simp only; omega
          · cases o with
            | true => exact .inl rfl
            | false => rw [if_neg (by decide)] at hR; have := of_decide_eq_true hR; exact .inr (by simp only; omega)
        exact (joinTake_high o a n cap s m b k bc hR hm3 w).mono fun e W' ⟨h, b⟩ => h ▸ ⟨_, _, _, _, rfl, World.ownsRow_nil _ _ _ _, World.ownsRow_nil _ _ _ _, .inl rfl, b⟩
    · exact (joinTake_not o a n cap s m b k bc (Bool.eq_false_iff.2 hR) w).mono fun e W' ⟨h, b⟩ => h ▸ ⟨_, _, _, _, rfl, World.ownsRow_nil _ _ _ _, World.ownsRow_nil _ _ _ _, .inl rfl, b⟩
  · rw [h3, h4]
    obtain ⟨g1, g2, g3, g4⟩ := (argJ_iff _ _).1 h1
    rw [hk] at h2
    exact (joinTake_len o a n cap s m b k bc (joinRight_of hn h1) g3 g4 h2 w).mono fun e W' ⟨h, b⟩ => h ▸ ⟨_, _, _, _, rfl, World.ownsRow_nil _ _ _ _, World.ownsRow_nil _ _ _ _, .inl rfl, b⟩
  · rw [h4, h5]
    obtain ⟨g1, g2, g3, g4⟩ := (argJ_iff _ _).1 h1
    rw [hk] at h2
    have hf : firstM m = false := by
      cases hf : firstM m with
      | false => rfl
      | true => unfold openJ at h3; rw [hf] at h3; simp at h3
    have ho : o = false := by unfold openJ at h3; rw [hf] at h3; simpa using h3
    have hq : (o || (bits .and .i64 m 1 != 0)) = false := by rw [ho, and1_first g3 g4, hf]; rfl
    exact (joinTake_shut o a n cap s m b k bc (joinRight_of hn h1) g3 g4 h2 hq w).mono fun e W' ⟨h, b⟩ => h ▸ ⟨_, _, _, _, rfl, World.ownsRow_nil _ _ _ _, World.ownsRow_nil _ _ _ _, .inl rfl, b⟩
  · rw [h5, h6]
    obtain ⟨g1, g2, g3, g4⟩ := (argJ_iff _ _).1 h1
    rw [hk] at h2 h4
    have hf : firstM m = false := by
      cases hf : firstM m with
      | false => rfl
      | true => unfold openJ at h4; rw [hf] at h4; simp at h4; omega
    have ho : openJ (o, t) m = (o, t) := by unfold openJ; rw [hf]; rfl
    rw [ho] at h3 h4
    simp only at h3 h4
    subst h3
    rw [hn] at h4
    exact (joinTake_full true a n cap s m b k bc (joinRight_of hn h1) g3 g4 h2 rfl ((and1_first g3 g4).trans hf) (by simpa [hn] using g1) h4 w).mono fun e W' ⟨h, b⟩ => h ▸ ⟨_, _, _, _, rfl, World.ownsRow_nil _ _ _ _, World.ownsRow_nil _ _ _ _, .inl rfl, b⟩
  · rw [h5, h6]
    obtain ⟨g1, g2, g3, g4⟩ := (argJ_iff _ _).1 h1
    rw [hk] at h2 h4
    cases hf : firstM m with
    | true =>
      have ho : openJ (o, t) m = (true, []) := by unfold openJ; rw [hf]; rfl
      rw [ho]
      have f1 := (and1_first g3 g4).trans hf
      have hq : (o || (bits .and .i64 m 1 != 0)) = true := by rw [f1]; simp
      cases hl : lastM m with
      | true =>
        refine (joinTake_fl o a n cap s m b k bc (joinRight_of hn h1) g3 g4 h2 hq f1 (by rw [hq, (and2_last g3 g4).trans hl]; rfl) t xs hn hk w ha hb).mono ?_
        rintro e W' ⟨va, vc, rfl, ov, b⟩
        exact ⟨_, _, va, vc, by rw [← hk]; rfl, World.ownsRow_nil _ _ _ _, by rw [← hk] at ov; exact ov, .inl rfl, b⟩
      | false =>
        refine (joinTake_fm o a n cap s m b k bc (joinRight_of hn h1) g3 g4 h2 hq f1 (by rw [hq, (and2_last g3 g4).trans hl]; rfl) t xs hn hk w ha hb).mono ?_
        rintro e W' ⟨va, vc, rfl, ov, b⟩
        exact ⟨va, vc, _, _, by rw [← hk]; rfl, by rw [← hk] at ov; exact ov, World.ownsRow_nil _ _ _ _, apart_nil _, b⟩
    | false =>
      have ho : openJ (o, t) m = (o, t) := by unfold openJ; rw [hf]; rfl
      rw [ho] at h3 h4 ⊢
      simp only at h3 h4
      subst h3
      rw [hn] at h4
      have f1 := (and1_first g3 g4).trans hf
      have hq : (true || (bits .and .i64 m 1 != 0)) = true := rfl
      have hln : (t ++ xs).length = n + k := by rw [List.length_append, hn, hk]
      cases hl : lastM m with
      | true =>
        refine (joinTake_nl true a n cap s m b k bc (joinRight_of hn h1) g3 g4 h2 hq f1 (by simpa [hn] using g1) h4 (by rw [hq, (and2_last g3 g4).trans hl]; rfl) t xs hn hk w ha hb).mono ?_
        rintro e W' ⟨va, vc, rfl, ov, b⟩
        rw [← hln] at ov
        exact ⟨_, _, va, vc, by rw [← hln]; rfl, World.ownsRow_nil _ _ _ _, ov, .inl rfl, b⟩
      | false =>
        refine (joinTake_nm true a n cap s m b k bc (joinRight_of hn h1) g3 g4 h2 hq f1 (by simpa [hn] using g1) h4 (by rw [hq, (and2_last g3 g4).trans hl]; rfl) t xs hn hk w ha hb).mono ?_
        rintro e W' ⟨va, vc, rfl, ov, b⟩
        rw [← hln] at ov
        exact ⟨va, vc, _, _, by rw [← hln]; rfl, ov, World.ownsRow_nil _ _ _ _, apart_nil _, b⟩

end Go.Proofs.Ytmjidhnlofpliab
