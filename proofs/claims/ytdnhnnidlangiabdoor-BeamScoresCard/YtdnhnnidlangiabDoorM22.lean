/-
  What volutekeep.Node, volutekeep.Nodes and volutekeep.TwinNodes answer, for all nodes in memory; append to a row of nodes of the call's own.
-/
import Derived.Test.YtdnhnnidlangiabDoorM02
import Derived.Test.YtdnhnnidlangiabDoorM05
import Derived.Test.YtdnhnnidlangiabDoorM08
import Derived.Test.YtdnhnnidlangiabDoorM21
import Derived.BigRegion
import Derived.Deep.RegionWith
import Derived.Lib.AppendZerosOnto
import Derived.Lib.SliceRun
import Derived.RegionTactic
namespace Go.Proofs.YtdnhnnidlangiabDoor
open Go.RowKit

theorem infoNode : (Tryd.prog.info? 34).map (fun i => (i.zero, i.size, i.bytes)) = some (some (.agg #[.int .u32 0, .int .i64 0, .int .i64 0, .slice none 0 0]), 4, 48) := by kernel_rfl

/-- append of one node, its run. -/
theorem run_append_node (v : Value) (n base : Nat) (r : List Rn) (s m c : Int) (p : Value) (hp : SliceV p) (ty : TypeId) (w : World) (hown : w.ownsRow base 34 4 v n (rnCells r)) (hb : base ≤ w.heap.size) (h1 : n ≤ 1048576) :
    ∃ v' w', (Builtin.append_ #[41, 41] ty #[v, .slice (some ⟨w.heap.size, 0, none⟩) 1 1]).run Tryd.prog (w.alloc (.cells #[.int .u32 s, .int .i64 m, .int .i64 c, p] 34)) = .ok v' w' ∧ w'.ownsRow base 34 4 v' (n + 1) (rnCells (r ++ [(s, m, c, p)])) ∧ (w.alloc (.cells #[.int .u32 s, .int .i64 m, .int .i64 c, p] 34)).grownBy w' v.ownBlock := by
  obtain ⟨i0, hi, hz0, hz1, hz2⟩ := info_parts infoNode
  obtain ⟨v', w', hr, ho, hg, _⟩ := run_append_own (P := Tryd.prog) (w.alloc (.cells #[.int .u32 s, .int .i64 m, .int .i64 c, p] 34)) base 41 ty 34 i0 (.agg #[.int .u32 0, .int .i64 0, .int .i64 0, .slice none 0 0]) 4 48 Tryd.underlying41 hi hz0 hz1 hz2 rfl (by decide) v n _ (hown.alloc _) ⟨w.heap.size, 0, none⟩ 1 1 [.int .u32 s, .int .i64 m, .int .i64 c, p] rfl (World.news_of_block (World.alloc_heap_new _ _)) (rnCells_one (r := [(s, m, c, p)]) (fun x hx => by simp at hx; subst hx; exact hp)) (by unfold maxLen; omega) (by omega) (by simp; omega)
  exact ⟨v', w', hr, by rw [rnCells_snoc]; exact ho, hg⟩

theorem raw_cells {W : World} {b off : Nat} {r : List Rn} (h : ∀ (j : Nat) (x : Rn), r[j]? = some x → W.cell? ⟨b, off + j * 4, none⟩ = some (.int .u32 x.1) ∧ W.cell? ⟨b, off + j * 4 + 1, none⟩ = some (.int .i64 x.2.1) ∧ W.cell? ⟨b, off + j * 4 + 2, none⟩ = some (.int .i64 x.2.2.1) ∧ W.cell? ⟨b, off + j * 4 + 3, none⟩ = some x.2.2.2) :
    ∀ (j : Nat) (u : Value), (rnCells r)[j]? = some u → W.cell? ((⟨b, off, none⟩ : Addr).add j) = some u := by
  intro j u hj
  rw [Go.WideShapes.add_plain]
  have hlt : j < r.length * 4 := by have := (List.getElem?_eq_some_iff.1 hj).1; rwa [rnCells_len] at this
  have hq : j / 4 < r.length := by omega
  obtain ⟨x, hx⟩ : ∃ x, r[j / 4]? = some x := ⟨r[j / 4], by simp⟩
  have hc := h _ _ hx
  have hg := rnCells_get hx
  have h4 : j % 4 = 0 ∨ j % 4 = 1 ∨ j % 4 = 2 ∨ j % 4 = 3 := by omega
  rcases h4 with h4 | h4 | h4 | h4
  · rw [show j / 4 * 4 = j by omega] at hc hg
    rw [hg.1] at hj
    cases hj
    exact hc.1
  · rw [show j / 4 * 4 + 1 = j by omega] at hg
    rw [show off + j / 4 * 4 + 1 = off + j by omega] at hc
    rw [hg.2.1] at hj
    cases hj
    exact hc.2.1
  · rw [show j / 4 * 4 + 2 = j by omega] at hg
    rw [show off + j / 4 * 4 + 2 = off + j by omega] at hc
    rw [hg.2.2.1] at hj
    cases hj
    exact hc.2.2.1
  · rw [show j / 4 * 4 + 3 = j by omega] at hg
    rw [show off + j / 4 * 4 + 3 = off + j by omega] at hc
    rw [hg.2.2.2] at hj
    cases hj
    exact hc.2.2.2

/-- append of many, its run. -/
theorem run_append_nodes (v src : Value) (n base n₀ : Nat) (r s : List Rn) (hs : ∀ x ∈ s, SliceV x.2.2.2) (ty : TypeId) (w : World) (hown : w.ownsRow base 34 4 v n (rnCells r)) (hH : Raw n₀ w src s) (hb : base ≤ w.heap.size) (h1 : n ≤ 1048576) (h2 : s.length ≤ 1048576) :
    ∃ v' w', (Builtin.append_ #[41, 41] ty #[v, src]).run Tryd.prog w = .ok v' w' ∧ w'.ownsRow base 34 4 v' (n + s.length) (rnCells (r ++ s)) ∧ w.grownBy w' v.ownBlock := by
  obtain ⟨i0, hi, hz0, hz1, hz2⟩ := info_parts infoNode
  rcases hH with ⟨⟨a, cap, rfl, ha⟩, rfl⟩ | ⟨b, off, cap, rfl, _, hcs⟩
  · cases a with
    | none =>
      obtain rfl := ha rfl
      exact ⟨v, w, run_append_owned_none w base 41 ty 34 i0 4 Tryd.underlying41 hi v n _ hown, by simpa using hown, World.grownBy.refl _ _⟩
    | some ad =>
      obtain ⟨v', w', hr, ho, hg, _⟩ := run_append_own (P := Tryd.prog) w base 41 ty 34 i0 (.agg #[.int .u32 0, .int .i64 0, .int .i64 0, .slice none 0 0]) 4 48 Tryd.underlying41 hi hz0 hz1 hz2 rfl (by decide) v n _ hown ad 0 cap [] rfl (by simp) (by simp) (by unfold maxLen; omega) (by omega) hb
      exact ⟨v', w', hr, by simpa using ho, hg⟩
  · obtain ⟨v', w', hr, ho, hg, _⟩ := run_append_own (P := Tryd.prog) w base 41 ty 34 i0 (.agg #[.int .u32 0, .int .i64 0, .int .i64 0, .slice none 0 0]) 4 48 Tryd.underlying41 hi hz0 hz1 hz2 rfl (by decide) v n _ hown ⟨b, off, none⟩ s.length cap (rnCells s) (rnCells_len s) (raw_cells hcs) (rnCells_one hs) (by unfold maxLen; omega) (by omega) hb
    exact ⟨v', w', hr, by rw [rnCells_append]; exact ho, hg⟩

theorem take_eq_nodes {xs ys : List Nd} {k : Nat} {x y : Nd} (hx : xs[k]? = some x) (hy : ys[k]? = some y) (h : xs.take k = ys.take k) (e : x = y) : xs.take (k + 1) = ys.take (k + 1) := by
  rw [List.take_add_one, List.take_add_one, hx, hy, h, e]

end Go.Proofs.YtdnhnnidlangiabDoor

/-
  What pick.isBelow, slices.IndexFunc and slices.ContainsFunc with it, slices.Clone of numbers and pick.clone answer.
-/
namespace Go.Proofs.YtdnhnnidlangiabDoor
open Go.RowKit

/-- Has one a Score below 0? -/
def anyBelow (l : List Nd) : Bool := l.any fun x => decide (sc x < 0)
theorem anyBelow_no {l : List Nd} (h : anyBelow l = false) : ∀ x ∈ l, 0 ≤ sc x := by
  intro x hx
  unfold anyBelow at h
  have := List.any_eq_false.1 h x hx
  simp at this
  exact this
theorem anyBelow_of {l : List Nd} (h : ∀ x ∈ l, 0 ≤ sc x) : anyBelow l = false := by
  unfold anyBelow
  rw [List.any_eq_false]
  intro x hx
  have := h x hx
  simp
  exact this
theorem anyBelow_yes {l : List Nd} {k : Nat} {x : Nd} (h : l[k]? = some x) (hx : sc x < 0) : anyBelow l = true := by
  unfold anyBelow
  rw [List.any_eq_true]
  exact ⟨x, List.mem_of_getElem? h, by simpa using hx⟩

set_option maxHeartbeats 1000000 in
theorem isBelow_any (s m c : Int) (pa : Option Addr) (pn pc : Nat) (w : World) :
    Calls Tryd.prog 43 #[.agg #[.int .u32 s, .int .i64 m, .int .i64 c, .slice pa pn pc]] w fun e w' => e = .returned (.bool (decide (c < 0))) ∧ Below w.heap.size w w' := by
  have b0 := (Below.refl w.heap.size w).alloc (Nat.le_refl _) (.cells #[.int .u32 s, .int .i64 m, .int .i64 c, .slice pa pn pc] 34)
  go_enter Tryd.func43, Tryd.ntmps43
  go_wp2
  go_ret
  exact ⟨rfl, b0⟩

set_option maxRecDepth 100000 in
set_option maxHeartbeats 4000000 in
theorem indexBelow_any (a : Option Addr) (cap n : Nat) (l : List Nd) (hn : l.length = n) (hl : n ≤ 4611686018427387904) (w : World) (ha : Nodes w.heap.size w (.slice a n cap) l) :
    Calls Tryd.prog 59 #[.slice a n cap, .func (.func 43) #[] #[]] w fun e w' => ∃ i : Int, e = .returned (.int .i64 i) ∧ -1 ≤ i ∧ decide (0 ≤ i) = anyBelow l ∧ Below w.heap.size w w' := by
  have HN : Hid (l.length = n) := hn
  clear hn
  go_enter Tryd.func59, Tryd.ntmps59
  go_wp2
  go_loopw [8] (fun i wr => ∃ k : Nat, k ≤ n ∧ i = .int .i64 k ∧ (∀ x ∈ l.take k, 0 ≤ sc x) ∧ Below w.heap.size w wr) (fun i _ => n - (intOf i).toNat)
  case atStart => exact ⟨0, Nat.zero_le _, rfl, fun x hx => by simp at hx, Below.refl _ _⟩
  case round =>
    obtain ⟨k, hk, rfl, hall, bw⟩ := hrel
    have HA : Hid (∀ x ∈ l.take k, 0 ≤ sc x) := hall
    clear hall
    by_cases hlt : k < n
    · obtain ⟨b, off, rfl, hb, hc⟩ := nodes_at (ha.below bw) HN.out (by omega)
      obtain ⟨⟨s, m, c, ps⟩, hxk⟩ : ∃ x, l[k]? = some x := ⟨l[k]'(by rw [HN.out]; exact hlt), by simp⟩
      obtain ⟨p, hp, c1, c2, c3, c4⟩ := hc _ _ hxk
      obtain ⟨pa, pc, rfl⟩ := hp.shape
      have HXK : Hid (l[k]? = some (s, m, c, ps)) := hxk
      clear hxk hc hp
      by_cases hcn : c < 0
      · have d1 : decide (c < 0) = true := decide_eq_true hcn
        have HY : Hid (anyBelow l = true) := anyBelow_yes HXK.out hcn
        clear hcn
        go_wp2_with fail
        refine (isBelow_any s m c pa ps.length pc wr).mono ?_
        rintro e w2 ⟨rfl, b2⟩
        go_wp2
        go_ret
        exact ⟨k, rfl, by omega, by rw [HY.out]; exact decide_eq_true (by omega), bw.trans (b2.mono bw.size)⟩
      · have d1 : decide (c < 0) = false := decide_eq_false hcn
        have HY : Hid (∀ x ∈ l.take (k + 1), 0 ≤ sc x) := by
          show ∀ x ∈ l.take (k + 1), 0 ≤ sc x
          intro x hx
          rw [List.take_add_one, HXK.out] at hx
          rcases List.mem_append.1 hx with h | h
          · exact HA.out x h
          · simp at h
            subst h
            show 0 ≤ c
            omega
        clear hcn
        go_wp2_with fail
        refine (isBelow_any s m c pa ps.length pc wr).mono ?_
        rintro e w2 ⟨rfl, b2⟩
        go_wp2
        go_roundw
        case rel => exact ⟨k + 1, by omega, by go_num, HY.out, bw.trans (b2.mono bw.size)⟩
        case measure => simp [intOf]; omega
    · obtain rfl : k = n := by omega
      have HY : Hid (anyBelow l = false) := anyBelow_of (fun x hx => HA.out x (by rw [List.take_of_length_le (by rw [HN.out]; exact Nat.le_refl _)]; exact hx))
      go_wp2
      go_ret
      exact ⟨-1, rfl, by omega, by rw [HY.out]; rfl, bw⟩

set_option maxRecDepth 100000 in
set_option maxHeartbeats 2000000 in
theorem containsBelow_any (a : Option Addr) (cap n : Nat) (l : List Nd) (hn : l.length = n) (hl : n ≤ 4611686018427387904) (w : World) (ha : Nodes w.heap.size w (.slice a n cap) l) :
    Calls Tryd.prog 42 #[.slice a n cap, .func (.func 43) #[] #[]] w fun e w' => e = .returned (.bool (anyBelow l)) ∧ Below w.heap.size w w' := by
  have HC := indexBelow_any a cap n l hn hl w ha
  clear hn ha
  obtain ⟨d, hd⟩ : ∃ d, anyBelow l = d := ⟨_, rfl⟩
  rw [hd] at HC ⊢
  clear hd
  go_enter Tryd.func42, Tryd.ntmps42
  go_wp2_with fail
  refine HC.mono ?_
  rintro e w2 ⟨i, rfl, h1, h2, b2⟩
  have HD : Hid (decide (0 ≤ i) = d) := h2
  clear h2
  go_wp2
  go_ret
  exact ⟨by rw [← HD.out]; rfl, b2⟩

set_option maxRecDepth 100000 in
set_option maxHeartbeats 2000000 in
theorem cloneInts_ok (a : Option Addr) (cap n₀ : Nat) (zs : List Int) (hl : zs.length ≤ 4294967296) (w : World) (h0 : n₀ ≤ w.heap.size) (ha : Holds .i64 n₀ w (.slice a zs.length cap) zs) :
    Calls Tryd.prog 26 #[.slice a zs.length cap] w fun e W' => ∃ r, e = .returned r ∧ W'.ownsRow w.heap.size 3 1 r zs.length (zs.map (Value.int .i64)) ∧ Below w.heap.size w W' := by
  have qS : ∀ (w : World) (a : Option Addr) (n c n' c' : Nat), (binOp .eql 25 (.slice a n c) (.slice none n' c')).run Tryd.prog w = .ok (.bool a.isNone) w := fun w a n c n' c' => Lib.run_eql_slice_nil w _ _ a n c n' c' Tryd.underlying25
  cases a with
  | none =>
    have h0 : zs = [] := by
      rcases ha with ⟨_, h⟩ | ⟨b, off, c, e, _⟩
      · exact h
      · simp only [Value.slice.injEq] at e; exact absurd e.1 (by simp)
    subst h0
    clear ha
    go_enter Tryd.func26, Tryd.ntmps26
    go_wp2
    go_ret
    exact ⟨_, rfl, World.ownsRow_nil _ _ _ _, Below.refl _ _⟩
  | some ad =>
    have o0 : (w.alloc (.cells #[] 3)).ownsRow w.heap.size 3 1 (.slice (some ⟨w.heap.size, 0, none⟩) 0 0) 0 (([] : List Int).map (Value.int .i64)) := World.ownsRow_made w #[] 0 (Nat.le_refl _) (Nat.zero_le _) rfl
    have b0 := (Below.refl w.heap.size w).alloc (Nat.le_refl _) (.cells #[] 3)
    obtain ⟨v3, w3, hr3, ho3, hg3⟩ := run_append_i64 (.slice (some ⟨w.heap.size, 0, none⟩) 0 0) (.slice (some ad) zs.length cap) 0 w.heap.size _ [] zs 25 (w.alloc (.cells #[] 3)) o0 (ha.below (b0.mono h0)) (by simp) (by omega) hl
    have b3 := b0.trans ((Below.refl w.heap.size _).grown hg3 (by simp) (fun q e => (o0.lt q e).1))
    have HR3 : Hid _ := hr3
    clear hr3 ha o0 hg3
    go_enter Tryd.func26, Tryd.ntmps26
    go_wp2_with (at_builtin; refine wpList_append_known rfl _ _ 25 rfl _ _ rfl rfl _ _ HR3.out ?_)
    go_ret
    refine ⟨_, rfl, ?_, b3⟩
    simpa using ho3

set_option maxRecDepth 100000 in
set_option maxHeartbeats 2000000 in
theorem clone_node (s m c : Int) (a : Option Addr) (cap n₀ : Nat) (zs : List Int) (hl : zs.length ≤ 4294967296) (w : World) (h0 : n₀ ≤ w.heap.size) (ha : Holds .i64 n₀ w (.slice a zs.length cap) zs) :
    Calls Tryd.prog 45 #[.agg #[.int .u32 s, .int .i64 m, .int .i64 c, .slice a zs.length cap]] w fun e W' => ∃ qa qc, e = .returned (.agg #[.int .u32 s, .int .i64 m, .int .i64 c, .slice qa zs.length qc]) ∧ W'.ownsRow w.heap.size 3 1 (.slice qa zs.length qc) zs.length (zs.map (Value.int .i64)) ∧ Below w.heap.size w W' := by
  have b1 := ((Below.refl w.heap.size w).alloc (Nat.le_refl _) (.cells #[.int .u32 s, .int .i64 m, .int .i64 c, .slice a zs.length cap] 34)).alloc (by simp) (.cells #[.int .u32 0, .int .i64 0, .int .i64 0, .slice none 0 0] 34)
  have ha1 := ha.below (b1.mono h0)
  clear ha
  go_enter Tryd.func45, Tryd.ntmps45
  go_wp2_with fail
  refine (cloneInts_ok a cap n₀ zs hl _ (by simp; omega) ha1).mono ?_
  rintro e w2 ⟨r, rfl, o2, b2⟩
  obtain ⟨ar, cr, rfl, _⟩ := (kept_of_row o2).2
  have x1 : Box w2 w.heap.size 34 #[.int .u32 s, .int .i64 m, .int .i64 c, .slice a zs.length cap] := ((Box.new w 34 _).alloc _).next b2
  have x2 : Box w2 (w.heap.size + 1) 34 #[.int .u32 0, .int .i64 0, .int .i64 0, .slice none 0 0] := by
    have := (Box.new (w.alloc (.cells #[.int .u32 s, .int .i64 m, .int .i64 c, .slice a zs.length cap] 34)) 34 #[.int .u32 0, .int .i64 0, .int .i64 0, .slice none 0 0]).next b2
    simpa using this
  have k0 := x1.cell 0 _ rfl
  have k1 := x1.cell 1 _ rfl
  have k2 := x1.cell 2 _ rfl
  have k3 := x1.cell 3 _ rfl
  have m0 := x2.cell 0 _ rfl
  have m1 := x2.cell 1 _ rfl
  have m2 := x2.cell 2 _ rfl
  have m3 := x2.cell 3 _ rfl
  have f0 := x1.free 3
  have g0 := x2.free 0
  have g1 := x2.free 1
  have g2 := x2.free 2
  have g3 := x2.free 3
  go_wp2
  refine bodyPost_ret (v := .agg #[.int .u32 s, .int .i64 m, .int .i64 c, .slice ar zs.length cr]) (by simp [results, Tryd.results45, go_sem, m0, m1, m2, m3]) rfl ⟨_, _, rfl, ?_, ?_⟩
  · have o3 := rowN_base (ownsRow_setCell_below (ownsRow_setCell_below (ownsRow_setCell_below (ownsRow_setCell_below (ownsRow_setCell_below o2 (a := ⟨w.heap.size, 3, none⟩) (by simp; omega) (.slice ar zs.length cr)) (a := ⟨w.heap.size + 1, 0, none⟩) (by simp) (.int .u32 s)) (a := ⟨w.heap.size + 1, 1, none⟩) (by simp) (.int .i64 m)) (a := ⟨w.heap.size + 1, 2, none⟩) (by simp) (.int .i64 c)) (a := ⟨w.heap.size + 1, 3, none⟩) (by simp) (.slice ar zs.length cr)) (show w.heap.size ≤ _ by simp; omega)
    exact o3
  · have b3 := b1.trans (b2.mono (by simp; omega))
    exact ((((b3.setCell (p := ⟨w.heap.size, 3, none⟩) (Nat.le_refl _) _).setCell (p := ⟨w.heap.size + 1, 0, none⟩) (by simp) _).setCell (p := ⟨w.heap.size + 1, 1, none⟩) (by simp) _).setCell (p := ⟨w.heap.size + 1, 2, none⟩) (by simp) _).setCell (p := ⟨w.heap.size + 1, 3, none⟩) (by simp) _

end Go.Proofs.YtdnhnnidlangiabDoor
