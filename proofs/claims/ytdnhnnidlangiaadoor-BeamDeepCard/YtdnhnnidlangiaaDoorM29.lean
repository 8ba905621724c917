/-
  What volutekeep.Node, volutekeep.Nodes and volutekeep.TwinNodes answer, for all nodes in memory; append to a row of nodes of the call's own.
-/
import Derived.Test.YtdnhnnidlangiaaDoorM02
import Derived.Test.YtdnhnnidlangiaaDoorM05
import Derived.Test.YtdnhnnidlangiaaDoorM07
import Derived.Test.YtdnhnnidlangiaaDoorM28
import Derived.BigRegion
import Derived.Deep.RegionWith
import Derived.RegionTactic
namespace Go.Proofs.YtdnhnnidlangiaaDoor
open Go.RowKit

theorem infoNode : (Tryd.prog.info? 32).map (fun i => (i.zero, i.size, i.bytes)) = some (some (.agg #[.int .u32 0, .int .i64 0, .int .i64 0, .slice none 0 0]), 4, 48) := by kernel_rfl

/-- append of one node, its run. -/
theorem run_append_node (v : Value) (n base : Nat) (r : List Rn) (s m c : Int) (p : Value) (hp : SliceV p) (ty : TypeId) (w : World) (hown : w.ownsRow base 32 4 v n (rnCells r)) (hb : base ≤ w.heap.size) (h1 : n ≤ 1048576) :
    ∃ v' w', (Builtin.append_ #[38, 38] ty #[v, .slice (some ⟨w.heap.size, 0, none⟩) 1 1]).run Tryd.prog (w.alloc (.cells #[.int .u32 s, .int .i64 m, .int .i64 c, p] 32)) = .ok v' w' ∧ w'.ownsRow base 32 4 v' (n + 1) (rnCells (r ++ [(s, m, c, p)])) ∧ (w.alloc (.cells #[.int .u32 s, .int .i64 m, .int .i64 c, p] 32)).grownBy w' v.ownBlock := by
  obtain ⟨i0, hi, hz0, hz1, hz2⟩ := info_parts infoNode
  obtain ⟨v', w', hr, ho, hg, _⟩ := run_append_own (P := Tryd.prog) (w.alloc (.cells #[.int .u32 s, .int .i64 m, .int .i64 c, p] 32)) base 38 ty 32 i0 (.agg #[.int .u32 0, .int .i64 0, .int .i64 0, .slice none 0 0]) 4 48 Tryd.underlying38 hi hz0 hz1 hz2 rfl (by decide) v n _ (hown.alloc _) ⟨w.heap.size, 0, none⟩ 1 1 [.int .u32 s, .int .i64 m, .int .i64 c, p] rfl (World.news_of_block (World.alloc_heap_new _ _)) (rnCells_one (r := [(s, m, c, p)]) (fun x hx => by simp at hx; subst hx; exact hp)) (by unfold maxLen; omega) (by omega) (by simp; omega)
  exact ⟨v', w', hr, by rw [rnCells_snoc]; exact ho, hg⟩

theorem raw_cells {W : World} {b off : Nat} {r : List Rn} (h : ∀ (j : Nat) (x : Rn), r[j]? = some x → W.cell? ⟨b, off + j * 4, none⟩ = some (.int .u32 x.1) ∧ W.cell? ⟨b, off + j * 4 + 1, none⟩ = some (.int .i64 x.2.1) ∧ W.cell? ⟨b, off + j * 4 + 2, none⟩ = some (.int .i64 x.2.2.1) ∧ W.cell? ⟨b, off + j * 4 + 3, none⟩ = some x.2.2.2) :
    ∀ (j : Nat) (u : Value), (rnCells r)[j]? = some u → W.cell? ((⟨b, off, none⟩ : Addr).add j) = some u := by
  intro j u hj
  rw [Go.WideShapes.add_plain]
  have hlt : j < r.length * 4 := by have := (List.getElem?_eq_some_iff.1 hj).1; rwa [rnCells_len] at this
  have hq : j / 4 < r.length := by omega
  obtain ⟨x, hx⟩ : ∃ x, r[j / 4]? = some x := ⟨r[j / 4], by simp⟩
  have hc := h _ _ hx
  have hg := rnCells_get hx
  have h4 : j % 4 = 0 ∨ j % 4 = 1 ∨ j % 4 = 2 ∨ j % 4 = 3 := by omega
  rcases h4 with h4 | h4 | h4 | h4
  · rw [show j / 4 * 4 = j by omega] at hc hg
    rw [hg.1] at hj
    cases hj
    exact hc.1
  · rw [show j / 4 * 4 + 1 = j by omega] at hg
    rw [show off + j / 4 * 4 + 1 = off + j by omega] at hc
    rw [hg.2.1] at hj
    cases hj
    exact hc.2.1
  · rw [show j / 4 * 4 + 2 = j by omega] at hg
    rw [show off + j / 4 * 4 + 2 = off + j by omega] at hc
    rw [hg.2.2.1] at hj
    cases hj
    exact hc.2.2.1
  · rw [show j / 4 * 4 + 3 = j by omega] at hg
    rw [show off + j / 4 * 4 + 3 = off + j by omega] at hc
    rw [hg.2.2.2] at hj
    cases hj
    exact hc.2.2.2

/-- append of many, its run. -/
theorem run_append_nodes (v src : Value) (n base n₀ : Nat) (r s : List Rn) (hs : ∀ x ∈ s, SliceV x.2.2.2) (ty : TypeId) (w : World) (hown : w.ownsRow base 32 4 v n (rnCells r)) (hH : Raw n₀ w src s) (hb : base ≤ w.heap.size) (h1 : n ≤ 1048576) (h2 : s.length ≤ 1048576) :
    ∃ v' w', (Builtin.append_ #[38, 38] ty #[v, src]).run Tryd.prog w = .ok v' w' ∧ w'.ownsRow base 32 4 v' (n + s.length) (rnCells (r ++ s)) ∧ w.grownBy w' v.ownBlock := by
  obtain ⟨i0, hi, hz0, hz1, hz2⟩ := info_parts infoNode
  rcases hH with ⟨⟨a, cap, rfl, ha⟩, rfl⟩ | ⟨b, off, cap, rfl, _, hcs⟩
  · cases a with
    | none =>
      obtain rfl := ha rfl
      exact ⟨v, w, run_append_owned_none w base 38 ty 32 i0 4 Tryd.underlying38 hi v n _ hown, by simpa using hown, World.grownBy.refl _ _⟩
    | some ad =>
      obtain ⟨v', w', hr, ho, hg, _⟩ := run_append_own (P := Tryd.prog) w base 38 ty 32 i0 (.agg #[.int .u32 0, .int .i64 0, .int .i64 0, .slice none 0 0]) 4 48 Tryd.underlying38 hi hz0 hz1 hz2 rfl (by decide) v n _ hown ad 0 cap [] rfl (by simp) (by simp) (by unfold maxLen; omega) (by omega) hb
      exact ⟨v', w', hr, by simpa using ho, hg⟩
  · obtain ⟨v', w', hr, ho, hg, _⟩ := run_append_own (P := Tryd.prog) w base 38 ty 32 i0 (.agg #[.int .u32 0, .int .i64 0, .int .i64 0, .slice none 0 0]) 4 48 Tryd.underlying38 hi hz0 hz1 hz2 rfl (by decide) v n _ hown ⟨b, off, none⟩ s.length cap (rnCells s) (rnCells_len s) (raw_cells hcs) (rnCells_one hs) (by unfold maxLen; omega) (by omega) hb
    exact ⟨v', w', hr, by rw [rnCells_append]; exact ho, hg⟩

set_option maxRecDepth 100000 in
set_option maxHeartbeats 2000000 in
/-- volutekeep.Node. -/
theorem node_any (s t m m' c c' : Int) (p q : Value) (xs ys : List Int) (n₀ n₁ : Nat) (w : World) (h0 : n₀ ≤ w.heap.size) (h1 : n₁ ≤ w.heap.size) (hy : ys.length ≤ 4611686018427387904) (hp : Holds .i64 n₀ w p xs) (hq : Holds .i64 n₁ w q ys) :
    Calls Tryd.prog 21 #[.agg #[.int .u32 s, .int .i64 m, .int .i64 c, p], .agg #[.int .u32 t, .int .i64 m', .int .i64 c', q]] w fun e w' => e = .returned (.bool (decide ((s, m, c, xs) = (t, m', c', ys)))) ∧ Below w.heap.size w w' := by
  obtain ⟨a, ca, rfl⟩ := hp.shape
  obtain ⟨b, cb, rfl⟩ := hq.shape
  have b0 := (Below.refl w.heap.size w).alloc (Nat.le_refl _) (.cells #[.int .u32 s, .int .i64 m, .int .i64 c, .slice a xs.length ca] 32)
  have b1 := b0.alloc (by simp) (.cells #[.int .u32 t, .int .i64 m', .int .i64 c', .slice b ys.length cb] 32)
  have HC := ints_any (.slice a xs.length ca) (.slice b ys.length cb) xs ys n₀ n₁ _ hy (hp.below (b1.mono h0)) (hq.below (b1.mono h1))
  clear hp hq b0
  by_cases e1 : s = t
  · subst e1
    by_cases e2 : m = m'
    · subst e2
      by_cases e3 : c = c'
      · subst e3
        have HE : Hid (decide ((s, m, c, xs) = (s, m, c, ys)) = decide (xs = ys)) := by
          show decide ((s, m, c, xs) = (s, m, c, ys)) = decide (xs = ys)
          simp
        rw [HE.out]
        go_enter Tryd.func21, Tryd.ntmps21
        go_wp2_with fail
        refine HC.mono ?_
        rintro e w2 ⟨rfl, nd, rfl⟩
        go_wp2
        go_ret
        exact ⟨rfl, below_drewN b1 nd⟩
      · have d3 : (c == c') = false := by simp [e3]
        rw [decide_eq_false (show ¬ ((s, m, c, xs) = (s, m, c', ys)) from fun h => e3 (by simp at h; exact h.1))]
        clear e3 HC
        go_enter Tryd.func21, Tryd.ntmps21
        go_wp2
        go_ret
        exact ⟨rfl, b1⟩
    · have d2 : (m == m') = false := by simp [e2]
      rw [decide_eq_false (show ¬ ((s, m, c, xs) = (s, m', c', ys)) from fun h => e2 (by simp at h; exact h.1))]
      clear e2 HC
      go_enter Tryd.func21, Tryd.ntmps21
      go_wp2
      go_ret
      exact ⟨rfl, b1⟩
  · have d1 : (s == t) = false := by simp [e1]
    rw [decide_eq_false (show ¬ ((s, m, c, xs) = (t, m', c', ys)) from fun h => e1 (by simp at h; exact h.1))]
    clear e1 HC
    go_enter Tryd.func21, Tryd.ntmps21
    go_wp2
    go_ret
    exact ⟨rfl, b1⟩

set_option maxHeartbeats 1000000 in
theorem nodes_differ (a b : Option Addr) (m n cap cap' : Nat) (w : World) (hne : m ≠ n) :
    Calls Tryd.prog 26 #[.slice a m cap, .slice b n cap'] w fun e w' => e = .returned (.bool false) ∧ w = w' := by
  have hb : ((m : Int) != (n : Int)) = true := by rw [bne_iff_ne]; omega
  go_enter Tryd.func26, Tryd.ntmps26
  go_wp2
  go_ret
  exact ⟨rfl, rfl⟩

theorem take_eq_nodes {xs ys : List Nd} {k : Nat} {x y : Nd} (hx : xs[k]? = some x) (hy : ys[k]? = some y) (h : xs.take k = ys.take k) (e : x = y) : xs.take (k + 1) = ys.take (k + 1) := by
  rw [List.take_add_one, List.take_add_one, hx, hy, h, e]

set_option maxRecDepth 100000 in
set_option maxHeartbeats 4000000 in
/-- volutekeep.Nodes. -/
theorem nodes_same (a b : Option Addr) (cap cap' len : Nat) (xs ys : List Nd) (hx : xs.length = len) (hy : ys.length = len) (hl : len ≤ 4611686018427387904) (hp : ∀ y ∈ ys, y.2.2.2.length ≤ 4611686018427387904) (w : World)
    (ha : Nodes w.heap.size w (.slice a len cap) xs) (hb : Nodes w.heap.size w (.slice b len cap') ys) :
    Calls Tryd.prog 26 #[.slice a len cap, .slice b len cap'] w fun e w' => e = .returned (.bool (decide (xs = ys))) ∧ Below w.heap.size w w' := by
  have hbne : ((len : Int) != (len : Int)) = false := by simp
  have HX : Hid (xs.length = len) := hx
  have HY : Hid (ys.length = len) := hy
  have HP : Hid (∀ y ∈ ys, y.2.2.2.length ≤ 4611686018427387904) := hp
  clear hx hy hp
  go_enter Tryd.func26, Tryd.ntmps26
  go_wp2
  go_loopw [5] (fun i wr => ∃ k : Nat, k ≤ len ∧ i = .int .i64 k ∧ xs.take k = ys.take k ∧ Below w.heap.size w wr) (fun i _ => len - (intOf i).toNat)
  case atStart => exact ⟨0, Nat.zero_le _, rfl, rfl, Below.refl _ _⟩
  case round =>
    obtain ⟨k, hk, rfl, heq, bw⟩ := hrel
    by_cases hlt : k < len
    · obtain ⟨b1, off, rfl, _, hcx⟩ := nodes_at (ha.below bw) HX.out (by omega)
      obtain ⟨b2, off', rfl, _, hcy⟩ := nodes_at (hb.below bw) HY.out (by omega)
      obtain ⟨⟨s, m, c, ps⟩, hxk⟩ : ∃ x, xs[k]? = some x := ⟨xs[k]'(by rw [HX.out]; exact hlt), by simp⟩
      obtain ⟨⟨t, m', c', qs⟩, hyk⟩ : ∃ y, ys[k]? = some y := ⟨ys[k]'(by rw [HY.out]; exact hlt), by simp⟩
      obtain ⟨p, hp, c1, c2, c3, c4⟩ := hcx _ _ hxk
      obtain ⟨q, hq, d1, d2, d3, d4⟩ := hcy _ _ hyk
      have hql : qs.length ≤ 4611686018427387904 := HP.out _ (List.mem_of_getElem? hyk)
      obtain ⟨pa, pc, rfl⟩ := hp.shape
      obtain ⟨qa, qc, rfl⟩ := hq.shape
      have HC := fun (wx : World) (e : wx.heap.size = wr.heap.size) => node_any s t m m' c c' (.slice pa ps.length pc) (.slice qa qs.length qc) ps qs w.heap.size w.heap.size wx (by rw [e]; exact bw.size) (by rw [e]; exact bw.size) hql
      have HPH : Hid (Holds .i64 w.heap.size wr (.slice pa ps.length pc) ps) := hp
      have HQH : Hid (Holds .i64 w.heap.size wr (.slice qa qs.length qc) qs) := hq
      have HE : Hid (xs.take k = ys.take k) := heq
      by_cases hd : (s, m, c, ps) = (t, m', c', qs)
      · rw [decide_eq_true hd] at HC
        have HN : Hid (xs.take (k + 1) = ys.take (k + 1)) := take_eq_nodes hxk hyk heq hd
        have HCC : Hid (∀ (wx : World), wx.heap.size = wr.heap.size → Holds .i64 w.heap.size wx (.slice pa ps.length pc) ps → Holds .i64 w.heap.size wx (.slice qa qs.length qc) qs → Calls Tryd.prog 21 #[.agg #[.int .u32 s, .int .i64 m, .int .i64 c, .slice pa ps.length pc], .agg #[.int .u32 t, .int .i64 m', .int .i64 c', .slice qa qs.length qc]] wx fun e w' => e = .returned (.bool true) ∧ Below wx.heap.size wx w') := HC
        clear hd hp hq hxk hyk heq hcx hcy hql HC ha hb
        go_wp2
        first | go_region_with (go_at_call 21; refine (HCC.out _ (by rfl) (by exact HPH.out) (by exact HQH.out)).mono ?_; rintro e w2 ⟨rfl, bq⟩) | fail
        all_goals
          go_wp2
          go_roundw
          case rel => exact ⟨k + 1, by omega, by go_num, HN.out, bw.drew.trans (bq.mono bw.size)⟩
          case measure => simp [intOf]; omega
      · rw [decide_eq_false hd] at HC
        have HN : Hid (xs ≠ ys) := fun e => hd (by rw [e, hyk] at hxk; exact (Option.some.inj hxk).symm)
        have HCC : Hid (∀ (wx : World), wx.heap.size = wr.heap.size → Holds .i64 w.heap.size wx (.slice pa ps.length pc) ps → Holds .i64 w.heap.size wx (.slice qa qs.length qc) qs → Calls Tryd.prog 21 #[.agg #[.int .u32 s, .int .i64 m, .int .i64 c, .slice pa ps.length pc], .agg #[.int .u32 t, .int .i64 m', .int .i64 c', .slice qa qs.length qc]] wx fun e w' => e = .returned (.bool false) ∧ Below wx.heap.size wx w') := HC
        clear hd hp hq hxk hyk heq hcx hcy hql HC ha hb
        go_wp2
        first | go_region_with (go_at_call 21; refine (HCC.out _ (by rfl) (by exact HPH.out) (by exact HQH.out)).mono ?_; rintro e w2 ⟨rfl, bq⟩) | fail
        all_goals
          go_wp2
          go_ret
          exact ⟨by rw [decide_eq_false HN.out]; rfl, bw.drew.trans (bq.mono bw.size)⟩
    · obtain rfl : k = len := by omega
      have HE : Hid (xs = ys) := by rw [List.take_of_length_le (by rw [HX.out]; exact Nat.le_refl _), List.take_of_length_le (by rw [HY.out]; exact Nat.le_refl _)] at heq; exact heq
      clear heq
      go_wp2
      go_ret
      exact ⟨by rw [decide_eq_true HE.out]; rfl, bw⟩

theorem nodes_any (va vb : Value) (xs ys : List Nd) (w : World) (hy : ys.length ≤ 4611686018427387904) (hp : ∀ y ∈ ys, y.2.2.2.length ≤ 4611686018427387904) (ha : Nodes w.heap.size w va xs) (hb : Nodes w.heap.size w vb ys) :
    Calls Tryd.prog 26 #[va, vb] w fun e w' => e = .returned (.bool (decide (xs = ys))) ∧ Below w.heap.size w w' := by
  obtain ⟨a, cap, rfl⟩ := ha.shape
  obtain ⟨b, cap', rfl⟩ := hb.shape
  by_cases hne : xs.length = ys.length
  · rw [hne] at ha ⊢
    exact nodes_same a b cap cap' ys.length xs ys hne rfl hy hp w ha hb
  · refine (nodes_differ a b xs.length ys.length cap cap' w hne).mono ?_
    rintro e w' ⟨rfl, rfl⟩
    exact ⟨by rw [decide_eq_false (fun e => hne (by rw [e]))], Below.refl _ _⟩

set_option maxRecDepth 100000 in
set_option maxHeartbeats 4000000 in
/-- volutekeep.TwinNodes. -/
theorem twinNodes_any (v : Value) (l : List Nd) (hl : l.length ≤ 1048576) (hp : ∀ y ∈ l, y.2.2.2.length ≤ 4294967296) (w : World) (hH : Nodes w.heap.size w v l) :
    Calls Tryd.prog 67 #[v] w fun e W' => ∃ r, e = .returned r ∧ OwnNodes w.heap.size W' r l ∧ Below w.heap.size w W' := by
  obtain ⟨a, cap, rfl⟩ := hH.shape
  obtain ⟨n, hn⟩ : ∃ n, l.length = n := ⟨_, rfl⟩
  rw [hn] at hH hl ⊢
  have HP : Hid (∀ y ∈ l, y.2.2.2.length ≤ 4294967296) := hp
  have HH : Hid (Nodes w.heap.size w (.slice a n cap) l) := hH
  have HN : Hid (l.length = n) := hn
  clear hp hH hn
  go_enter Tryd.func67, Tryd.ntmps67
  go_wp2
  go_loopw [3, 4] (fun o i wr => ∃ (k : Nat) (r : List Rn), k ≤ n ∧ i = .int .i64 k ∧ wr.ownsRow w.heap.size 32 4 o k (rnCells r) ∧ OwnRns w.heap.size wr r (l.take k) ∧ Below w.heap.size w wr) (fun _ i _ => n - (intOf i).toNat)
  case atStart => exact ⟨0, [], Nat.zero_le _, rfl, World.ownsRow_nil _ _ _ _, by rw [List.take_zero]; exact ownRns_nil _ _, Below.refl _ _⟩
  case round =>
    obtain ⟨k, r, hk, rfl, ho, hr, bw⟩ := hrel
    have hsz := bw.size
    by_cases hlt : k < n
    · obtain ⟨b, off, rfl, hb, hc⟩ := nodes_at (HH.out.below bw) HN.out (by omega)
      obtain ⟨⟨s, m, c, ps⟩, hxk⟩ : ∃ x, l[k]? = some x := ⟨l[k]'(by rw [HN.out]; exact hlt), by simp⟩
      obtain ⟨p, hp, c1, c2, c3, c4⟩ := hc _ _ hxk
      obtain ⟨pa, pc, rfl⟩ := hp.shape
      have hpl : ps.length ≤ 4294967296 := HP.out _ (List.mem_of_getElem? hxk)
      have HK : Hid (l.take (k + 1) = l.take k ++ [(s, m, c, ps)]) := by
        show l.take (k + 1) = l.take k ++ [(s, m, c, ps)]
        rw [List.take_add_one, hxk]; rfl
      have xB := Box.new wr 32 #[.int .u32 s, .int .i64 m, .int .i64 c, .slice pa ps.length pc]
      have bA : Below wr.heap.size wr (wr.alloc (.cells #[.int .u32 s, .int .i64 m, .int .i64 c, .slice pa ps.length pc] 32)) := (Below.refl _ _).alloc (Nat.le_refl _) _
      have k0 := xB.cell 0 _ rfl
      have k1 := xB.cell 1 _ rfl
      have k2 := xB.cell 2 _ rfl
      have k3 := xB.cell 3 _ rfl
      clear hc hxk
      go_wp2_with fail
      clear k0 k1 k2 k3 c1 c2 c3 c4
      obtain ⟨W1, hW1⟩ : ∃ W, wr.alloc (.cells #[.int .u32 s, .int .i64 m, .int .i64 c, .slice pa ps.length pc] 32) = W := ⟨_, rfl⟩
      rw [hW1] at xB bA ⊢
      clear hW1
      refine (twinInts_any (.slice pa ps.length pc) ps w.heap.size hpl W1 (hp.below (bA.mono hsz))).mono ?_
      rintro e w2 ⟨q, rfl, oq, b2⟩
      have hB1 := xB.lt
      obtain ⟨qa, qc, rfl, _⟩ := (kept_of_row oq).2
      have xB2 := xB.next b2
      have k3 := xB2.cell 3 _ rfl
      have f3 := xB2.free 3
      have k0 := xB2.cell 0 _ rfl
      have k1 := xB2.cell 1 _ rfl
      have k2 := xB2.cell 2 _ rfl
      have xB3 : Box (w2.setCell ⟨wr.heap.size, 3, none⟩ (.slice qa ps.length qc)) wr.heap.size 32 #[.int .u32 s, .int .i64 m, .int .i64 c, .slice qa ps.length qc] := xB2.set 3 (.slice qa ps.length qc)
      have b3 : Below wr.heap.size wr (w2.setCell ⟨wr.heap.size, 3, none⟩ (.slice qa ps.length qc)) := (bA.trans (b2.mono bA.size)).setCell (p := ⟨wr.heap.size, 3, none⟩) (Nat.le_refl _) _
      have oq3 := ownsRow_setCell_below oq (a := ⟨wr.heap.size, 3, none⟩) hB1 (.slice qa ps.length qc)
      have ho3 := rowN_below ho b3 (Nat.le_refl _)
      obtain ⟨v4, w4, hr4, ho4, hg4⟩ := run_append_node _ k w.heap.size r s m c (.slice qa ps.length qc) ⟨_, _, _, rfl⟩ 38 _ ho3 (Nat.le_trans hsz b3.size) (by omega)
      have own4 : OwnRns w.heap.size w4 (r ++ [(s, m, c, .slice qa ps.length qc)]) (l.take (k + 1)) := by
        rw [HK.out]
        have z1 := (hr.below b3 (Nat.le_refl _)).snoc (x := (s, m, c, .slice qa ps.length qc)) (y := (s, m, c, ps)) rfl rfl rfl oq3 (by omega) (fun u hu g hg => by have := hr.lt u hu g hg; omega)
        exact (z1.below ((Below.refl _ _).alloc (Nat.le_refl _) _) (Nat.le_refl _)).kept (ho3.alloc _) hg4
      have b4 : Below w.heap.size w w4 := ((bw.trans (b3.mono hsz)).alloc (Nat.le_trans hsz b3.size) _).grown hg4 (by have := b3.size; simp only [World.size_alloc]; omega) (fun q e => (ho.lt q e).1)
      have h0 := xB3.cell 0 _ rfl
      have h1 := xB3.cell 1 _ rfl
      have h2 := xB3.cell 2 _ rfl
      have h3 := xB3.cell 3 _ rfl
      rw [show (w2.setCell ⟨wr.heap.size, 3, none⟩ (.slice qa ps.length qc)).heap.size = w2.heap.size by simp [World.setCell]] at hr4
      have HR : Hid _ := hr4
      clear hr4 ho3 oq3 oq ho hr b3 xB xB2 xB3 bA b2 hg4
      go_wp2_with (at_builtin; refine wpList_append_known rfl _ _ 38 rfl _ _ rfl rfl _ _ HR.out ?_)
      exact ⟨⟨k + 1, _, by omega, by go_num, ho4, own4, b4⟩, by simp [intOf]; omega⟩
    · obtain rfl : k = n := by omega
      go_wp2
      go_ret
      rw [List.take_of_length_le (by rw [HN.out]; exact Nat.le_refl _)] at hr
      exact ⟨_, rfl, ⟨r, by rw [HN.out]; exact ho, hr⟩, bw⟩

end Go.Proofs.YtdnhnnidlangiaaDoor
