/-
  What beam's score answers; slices.Grow and Concat (of two) of numbers.
-/
import Derived.Test.YtddcloanbpkecaaDoorBeamLeast
import Derived.Test.YtddcloanbpkecaaDoorPickParts1
namespace Go.Proofs.YtddcloanbpkecaaDoor
open Go.RowKit

set_option maxRecDepth 100000 in
set_option maxHeartbeats 2000000 in
theorem score_ok (b off N cap : Nat) (l : List (Int × Int)) (p : Int) (hp : PileOk (N : Int) p l) (D : Nat) (hD : D ≤ 2) (i s : Nat) (hi : i ≤ N) (hs : s < 4294967296) (m : Int) (hm0 : 0 ≤ m) (hm1 : m ≤ 1048576) (w : World) (hS : Segs w.heap.size w (.slice (some ⟨b, off, none⟩) N cap) (segsL N l)) :
    Calls Tryd.prog 28 #[.slice (some ⟨b, off, none⟩) N cap, .agg #[.int .i64 (i : Int), .int .u32 (s : Int), .int .i64 m], .int .i64 ((D + 1 : Nat) : Int)] w fun e W' => e = .returned (.int .i64 (lst stB (coB N l) N D (s : Int) i m)) ∧ Below w.heap.size w W' := by
  have hN2 : N < 65 := by have := hp.1.2.1; omega
  have HCP := lst_cap stB (coB N l) N D (s : Int) i m hi
  have hbd := lst_bd N l hp (min D (N - i)) (s : Int) i m hm0
  have b1 : Below w.heap.size w (w.alloc (.cells #[.int .i64 (i : Int), .int .u32 (s : Int), .int .i64 m] 61)) := (Below.refl w.heap.size w).alloc (Nat.le_refl _) _
  have HL := least_any b off N cap l p hp (min D (N - i)) i s m 9223372036854775807 hs hm0 (by omega) (by omega) _ (hS.next b1)
  rw [← HCP] at HL hbd
  have e1 : min (lst stB (coB N l) N D (s : Int) i m) 9223372036854775807 = lst stB (coB N l) N D (s : Int) i m := by omega
  rw [e1] at HL
  obtain ⟨V, hV⟩ : ∃ V, lst stB (coB N l) N D (s : Int) i m = V := ⟨_, rfl⟩
  rw [hV] at HL ⊢
  obtain ⟨D1, hD1⟩ : ∃ D1, D + 1 = D1 := ⟨_, rfl⟩
  rw [hD1]
  have e2 : min ((i : Int) + (D1 : Int) - 1) (N : Int) = ((i + min D (N - i) : Nat) : Int) := by omega
  obtain ⟨E, hE⟩ : ∃ E, i + min D (N - i) = E := ⟨_, rfl⟩
  rw [hE] at HL e2
  have hD3 : D1 ≤ 3 := by omega
  clear HCP hbd e1 hV hD1 hE hS hp
  go_enter Tryd.func28, Tryd.ntmps28
  go_wp2_with fail
  refine HL.mono ?_
  rintro e w2 ⟨rfl, b2⟩
  go_wp2
  go_ret
  exact ⟨rfl, b1.trans (b2.mono b1.size)⟩

set_option maxRecDepth 100000 in
set_option maxHeartbeats 2000000 in
theorem growInts_new (k : Nat) (h0 : 0 < k) (hk : k ≤ 4294967296) (w : World) :
    Calls Tryd.prog 88 #[.slice none 0 0, .int .i64 (k : Int)] w fun e W' => ∃ r, e = .returned r ∧ W'.ownsRow w.heap.size 3 1 r 0 [] ∧ Below w.heap.size w W' := by
  obtain ⟨i0, hi, hz0, hz1, hz2⟩ := info_parts infoI64
  have hold : (Builtin.firstCells i0.size 0 (.slice none 0 0)).run Tryd.prog w.drew = .ok ([] : List Value).toArray w.drew := Go.run_firstCells_none w.drew i0.size 0 0 0
  have hrz := Lib.run_append_grow_zeros w 25 3 25 3 i0 (.int .i64 0) .i64 .i64 Tryd.underlying25 Tryd.underlying3 hi hz0 none 0 0 [] hold k h0 (by rw [hz1]; decide) (by omega) (by omega) (by rw [hz2]; omega) (growslice_fits (by omega) (by rw [hz2]; omega))
  have hGm := grownCap_le_maxLen w (0 + k) 0 3 (by unfold maxLen; omega)
  have hGn : 0 + k ≤ grownCap w (0 + k) 0 3 := grownCap_ge w _ _ _
  obtain ⟨G, hG⟩ : ∃ G, grownCap w (0 + k) 0 3 = G := ⟨_, rfl⟩
  rw [hG] at hrz hGm hGn
  obtain ⟨cur, hcur⟩ : ∃ cur, (([] : List Value).toArray ++ Builtin.zeroCells (Value.int .i64 0).cells k ++ Builtin.zeroCells (Value.int .i64 0).cells (G - (0 + k))) = cur := ⟨_, rfl⟩
  have hcs : cur.size = G * 1 := by
    rw [← hcur]
    simp only [Array.size_append, List.size_toArray, size_zeroCells, List.length_nil]
    have : (Value.int .i64 0).cells.size = 1 := rfl
    rw [this]
    omega
  rw [hcur] at hrz
  have o1 : (w.drew.alloc (.cells cur 3)).ownsRow w.heap.size 3 1 (.slice (some ⟨w.drew.heap.size, 0, none⟩) 0 G) 0 [] := World.ownsRow_made w.drew cur G (Nat.le_refl _) hGm hcs
  have b1 := (Below.refl w.heap.size w).drew.alloc (Nat.le_refl _) (.cells cur 3)
  have hG2 : G ≤ 9223372036854775807 := by unfold maxLen at hGm; omega
  have e0 : 0 + k = k := by omega
  rw [e0] at hrz
  clear hcur hG hGm hGn hold hcs
  go_enter Tryd.func88, Tryd.ntmps88
  go_wp2_with (at_builtin; refine Lib.wpList_append_run _ rfl _ _ _ _ rfl _ _ rfl rfl _ _ hrz ?_)
  all_goals (go_ret; exact ⟨_, rfl, o1, b1⟩)

set_option maxRecDepth 100000 in
set_option maxHeartbeats 4000000 in
/-- slices.Concat of two rows of numbers, not both of them empty. -/
theorem concatInts_ok (g : Nat) (a1 a2 : Option Addr) (c1 c2 : Nat) (l1 l2 : List Int) (p1 : l1.length ≤ 1048576) (p2 : l2.length ≤ 1048576) (h0 : 0 < l1.length + l2.length) (w : World)
    (k1 : w.cell? ⟨g, 0, none⟩ = some (.slice a1 l1.length c1)) (k2 : w.cell? ⟨g, 1, none⟩ = some (.slice a2 l2.length c2))
    (h1 : Holds .i64 w.heap.size w (.slice a1 l1.length c1) l1) (h2 : Holds .i64 w.heap.size w (.slice a2 l2.length c2) l2) :
    Calls Tryd.prog 67 #[.slice (some ⟨g, 0, none⟩) 2 2] w fun e W' => ∃ r, e = .returned r ∧ W'.ownsRow w.heap.size 3 1 r (l1.length + l2.length) ((l1 ++ l2).map (Value.int .i64)) ∧ Below w.heap.size w W' := by
  have hg : g < w.heap.size := symAt_lt k1
  have H1 : Hid (Holds .i64 w.heap.size w (.slice a1 l1.length c1) l1) := h1
  have H2 : Hid (Holds .i64 w.heap.size w (.slice a2 l2.length c2) l2) := h2
  obtain ⟨n1, e1⟩ : ∃ n, l1.length = n := ⟨_, rfl⟩
  obtain ⟨n2, e2⟩ : ∃ n, l2.length = n := ⟨_, rfl⟩
  rw [e1] at H1 p1 h0 k1 ⊢
  rw [e2] at H2 p2 h0 k2 ⊢
  have E1 : Hid (l1.length = n1) := e1
  have E2 : Hid (l2.length = n2) := e2
  clear e1 e2 h1 h2
  go_enter Tryd.func67, Tryd.ntmps67
  go_wp2
  go_loop [3, 11] (fun s i => (s = .int .i64 0 ∧ i = .int .i64 0) ∨ (s = .int .i64 n1 ∧ i = .int .i64 1) ∨ (s = .int .i64 ((n1 + n2 : Nat) : Int) ∧ i = .int .i64 2)) (fun _ i => 2 - (intOf i).toNat)
  case atStart => exact .inl ⟨rfl, rfl⟩
  case round =>
    rcases hrel with ⟨rfl, rfl⟩ | ⟨rfl, rfl⟩ | ⟨rfl, rfl⟩
    · go_wp2
      go_round
      case rel => exact .inr (.inl ⟨by go_num, by go_num⟩)
      case measure => simp [intOf]
    · go_wp2
      go_round
      case rel => exact .inr (.inr ⟨by go_num, by go_num⟩)
      case measure => simp [intOf]
    · obtain ⟨m, hm⟩ : ∃ m, n1 + n2 = m := ⟨_, rfl⟩
      have HG := growInts_new m (by omega) (by omega) w
      rw [hm] at h0 ⊢
      go_wp2_with fail
      refine HG.mono ?_
      rintro e w1 ⟨r, rfl, o1, b1⟩
      have hs1 := b1.size
      have q1 := (b1.cell (p := ⟨g, 0, none⟩) hg).trans k1
      have q2 := (b1.cell (p := ⟨g, 1, none⟩) hg).trans k2
      clear HG k1 k2
      go_wp2
      go_loopw [6, 27] (fun v i wr => ((i = .int .i64 0 ∧ wr.ownsRow w.heap.size 3 1 v 0 (([] : List Int).map (Value.int .i64))) ∨ (i = .int .i64 1 ∧ wr.ownsRow w.heap.size 3 1 v n1 (l1.map (Value.int .i64))) ∨ (i = .int .i64 2 ∧ wr.ownsRow w.heap.size 3 1 v (n1 + n2) ((l1 ++ l2).map (Value.int .i64)))) ∧ Below w.heap.size w wr) (fun _ i _ => 2 - (intOf i).toNat)
      case atStart => exact ⟨.inl ⟨rfl, o1⟩, b1⟩
      case round =>
        obtain ⟨hc, hbw⟩ := hrel
        have r1 := (hbw.cell (p := ⟨g, 0, none⟩) hg).trans ((b1.cell (p := ⟨g, 0, none⟩) hg).symm.trans q1)
        have r2 := (hbw.cell (p := ⟨g, 1, none⟩) hg).trans ((b1.cell (p := ⟨g, 1, none⟩) hg).symm.trans q2)
        clear q1 q2 o1
        rcases hc with ⟨rfl, ho⟩ | ⟨rfl, ho⟩ | ⟨rfl, ho⟩
        · obtain ⟨v3, w3, hr3, ho3, hg3⟩ := run_append_i64 _ (.slice a1 n1 c1) 0 w.heap.size _ [] l1 25 wr ho (H1.out.below hbw) hbw.size (by omega) (by rw [E1.out]; omega)
          rw [E1.out, List.nil_append, Nat.zero_add] at ho3
          have b3 := hbw.trans ((Below.refl w.heap.size _).grown hg3 hbw.size (fun q e => (ho.lt q e).1))
          have HR3 : Hid _ := hr3
          clear hr3 ho hg3
          go_wp2_with (at_builtin; refine wpList_append_known rfl _ _ 25 rfl _ _ rfl rfl _ _ HR3.out ?_)
          exact ⟨⟨.inr (.inl ⟨by go_num, ho3⟩), b3⟩, by simp [intOf]⟩
        · obtain ⟨v3, w3, hr3, ho3, hg3⟩ := run_append_i64 _ (.slice a2 n2 c2) n1 w.heap.size _ l1 l2 25 wr ho (H2.out.below hbw) hbw.size (by omega) (by rw [E2.out]; omega)
          rw [E2.out] at ho3
          have b3 := hbw.trans ((Below.refl w.heap.size _).grown hg3 hbw.size (fun q e => (ho.lt q e).1))
          have HR3 : Hid _ := hr3
          clear hr3 ho hg3
          go_wp2_with (at_builtin; refine wpList_append_known rfl _ _ 25 rfl _ _ rfl rfl _ _ HR3.out ?_)
          exact ⟨⟨.inr (.inr ⟨by go_num, ho3⟩), b3⟩, by simp [intOf]⟩
        · go_wp2
          go_ret
          rw [← hm]
          exact ⟨_, rfl, ho, hbw⟩

end Go.Proofs.YtddcloanbpkecaaDoor
