/-
  What volutekeep.Syms and volutekeep.TwinSyms answer, for all symbols in memory.
-/
import Derived.Test.YtddcloanbpkecaaDoorSymMem
import Derived.OwnWalk
import Derived.Laws.AppendOwnNone
import Derived.WalkSpells
import Derived.WalkLawsBesides
import Derived.Deep.QuietTactic
import Derived.BigQuiet
namespace Go.Proofs.YtddcloanbpkecaaDoor
open Go.RowKit

theorem take_eq_syms {xs ys : List (Int × Int)} {k : Nat} {x y : Int × Int} (hx : xs[k]? = some x) (hy : ys[k]? = some y) (h : xs.take k = ys.take k) (e : x = y) : xs.take (k + 1) = ys.take (k + 1) := by
  rw [List.take_add_one, List.take_add_one, hx, hy, h, e]

set_option maxHeartbeats 1000000 in
theorem syms_differ (a b : Option Addr) (m n cap cap' : Nat) (w : World) (hne : m ≠ n) :
    Calls Tryd.prog 33 #[.slice a m cap, .slice b n cap'] w fun e w' => e = .returned (.bool false) ∧ w = w' := by
  have hb : ((m : Int) != (n : Int)) = true := by rw [bne_iff_ne]; omega
  go_enter Tryd.func33, Tryd.ntmps33
  go_wp2
  go_ret
  exact ⟨rfl, rfl⟩

set_option maxHeartbeats 1000000 in
theorem syms_none (a b : Option Addr) (cap cap' : Nat) (w : World) :
    Calls Tryd.prog 33 #[.slice a 0 cap, .slice b 0 cap'] w fun e w' => e = .returned (.bool true) ∧ w = w' := by
  go_enter Tryd.func33, Tryd.ntmps33
  go_wp2
  go_loop [5] (fun i => i = .int .i64 0) (fun _ => 0)
  case atStart => rfl
  case round =>
    obtain rfl := hrel
    go_wp2
    go_ret
    exact ⟨rfl, rfl⟩

set_option maxRecDepth 100000 in
set_option maxHeartbeats 2000000 in
theorem syms_some (b off cap b' off' cap' len : Nat) (xs ys : List (Int × Int)) (hx : xs.length = len) (hy : ys.length = len) (hl : len ≤ 4611686018427387904) (w : World)
    (hcx : ∀ (j : Nat) (x : Int × Int), xs[j]? = some x → w.cell? ⟨b, off + j * 2, none⟩ = some (.int .i64 x.1) ∧ w.cell? ⟨b, off + j * 2 + 1, none⟩ = some (.int .i64 x.2))
    (hcy : ∀ (j : Nat) (x : Int × Int), ys[j]? = some x → w.cell? ⟨b', off' + j * 2, none⟩ = some (.int .i64 x.1) ∧ w.cell? ⟨b', off' + j * 2 + 1, none⟩ = some (.int .i64 x.2)) :
    Calls Tryd.prog 33 #[.slice (some ⟨b, off, none⟩) len cap, .slice (some ⟨b', off', none⟩) len cap'] w fun e w' => e = .returned (.bool (decide (xs = ys))) ∧ ∃ n, w' = w.drewN n := by
  have hb : ((len : Int) != (len : Int)) = false := by simp
  have HCX : Hid _ := hcx
  have HCY : Hid _ := hcy
  clear hcx hcy
  go_enter Tryd.func33, Tryd.ntmps33
  go_wp2
  go_loopw [5] (fun i wr => ∃ k nd : Nat, k ≤ len ∧ i = .int .i64 k ∧ xs.take k = ys.take k ∧ wr = w.drewN nd) (fun i _ => len - (intOf i).toNat)
  case atStart => exact ⟨0, 0, Nat.zero_le _, rfl, rfl, rfl⟩
  case round =>
    obtain ⟨k, nd, hk, rfl, heq, rfl⟩ := hrel
    by_cases hlt : k < len
    · obtain ⟨⟨x0, x1⟩, hxk⟩ : ∃ x, xs[k]? = some x := ⟨xs[k], by simp⟩
      obtain ⟨⟨y0, y1⟩, hyk⟩ : ∃ y, ys[k]? = some y := ⟨ys[k], by simp⟩
      obtain ⟨c1, c2⟩ := HCX.out _ _ hxk
      obtain ⟨c3, c4⟩ := HCY.out _ _ hyk
      have d1 : ∀ q, (w.drewN q).cell? ⟨b, off + k * 2, none⟩ = some (.int .i64 x0) := fun q => c1
      have d2 : ∀ q, (w.drewN q).cell? ⟨b, off + k * 2 + 1, none⟩ = some (.int .i64 x1) := fun q => c2
      have d3 : ∀ q, (w.drewN q).cell? ⟨b', off' + k * 2, none⟩ = some (.int .i64 y0) := fun q => c3
      have d4 : ∀ q, (w.drewN q).cell? ⟨b', off' + k * 2 + 1, none⟩ = some (.int .i64 y1) := fun q => c4
      have HX : Hid (xs[k]? = some (x0, x1)) := hxk
      have HY : Hid (ys[k]? = some (y0, y1)) := hyk
      have HE : Hid (xs.take k = ys.take k) := heq
      clear hxk hyk heq c1 c2 c3 c4
      by_cases hxy : x0 = y0
      · have hq : (x0 != y0) = false := by simp [hxy]
        by_cases hxy1 : x1 = y1
        · have hq1 : (x1 != y1) = false := by simp [hxy1]
          have HQ : Hid ((x0, x1) = (y0, y1)) := by
            show (x0, x1) = (y0, y1)
            rw [hxy, hxy1]
          clear hxy hxy1
          go_wp2
          go_quiet (fail)
          go_wp2
          go_roundw
          case rel => exact ⟨k + 1, nd + nq, by omega, by go_num, take_eq_syms HX.out HY.out HE.out HQ.out, by simp⟩
          case measure => simp [intOf]; omega
        · have hq1 : (x1 != y1) = true := by simp [hxy1]
          have HQ : Hid (xs ≠ ys) := fun e => hxy1 (by have := HX.out; rw [e, HY.out] at this; cases this; rfl)
          clear hxy hxy1
          go_wp2
          go_quiet (fail)
          go_wp2
          go_ret
          exact ⟨by rw [decide_eq_false HQ.out]; rfl, nd + nq, by simp⟩
      · have hq : (x0 != y0) = true := by simp [hxy]
        have HQ : Hid (xs ≠ ys) := fun e => hxy (by have := HX.out; rw [e, HY.out] at this; cases this; rfl)
        clear hxy
        go_wp2
        go_quiet (fail)
        go_wp2
        go_ret
        exact ⟨by rw [decide_eq_false HQ.out]; rfl, nd + nq, by simp⟩
    · obtain rfl : k = len := by omega
      have HE : Hid (xs = ys) := by rw [List.take_of_length_le (by omega), List.take_of_length_le (by omega)] at heq; exact heq
      clear heq
      go_wp2
      go_ret
      exact ⟨by rw [decide_eq_true HE.out]; rfl, nd, rfl⟩

/-- volutekeep.Syms. -/
theorem syms_any (va vb : Value) (xs ys : List (Int × Int)) (n₀ n₁ : Nat) (w : World) (hy : ys.length ≤ 4611686018427387904) (ha : Syms n₀ w va xs) (hb : Syms n₁ w vb ys) :
    Calls Tryd.prog 33 #[va, vb] w fun e w' => e = .returned (.bool (decide (xs = ys))) ∧ ∃ n, w' = w.drewN n := by
  obtain ⟨a, cap, rfl⟩ := ha.shape
  obtain ⟨b, cap', rfl⟩ := hb.shape
  by_cases hne : xs.length = ys.length
  · rcases ha with ⟨_, e2⟩ | ⟨b1, off, c1, e1, _, h1⟩
    · have z1 : xs.length = 0 := by rw [e2]; rfl
      have z2 : ys.length = 0 := by omega
      rw [z1, z2]
      refine (syms_none a b cap cap' w).mono ?_
      rintro e w' ⟨rfl, rfl⟩
      exact ⟨by rw [decide_eq_true (by rw [e2, List.length_eq_zero_iff.1 z2])], 0, rfl⟩
    · rcases hb with ⟨_, e4⟩ | ⟨b2, off', c2, e3, _, h2⟩
      · have z2 : ys.length = 0 := by rw [e4]; rfl
        have z1 : xs.length = 0 := by omega
        rw [z1, z2]
        refine (syms_none a b cap cap' w).mono ?_
        rintro e w' ⟨rfl, rfl⟩
        exact ⟨by rw [decide_eq_true (by rw [e4, List.length_eq_zero_iff.1 z1])], 0, rfl⟩
      · cases e1
        cases e3
        rw [hne]
        exact syms_some b1 off cap b2 off' cap' ys.length xs ys hne rfl hy w h1 h2
  · refine (syms_differ a b xs.length ys.length cap cap' w hne).mono ?_
    rintro e w' ⟨rfl, rfl⟩
    exact ⟨by rw [decide_eq_false (fun e => hne (by rw [e]))], 0, rfl⟩

theorem infoSym : (Tryd.prog.info? 72).map (fun i => (i.zero, i.size, i.bytes)) = some (some (.agg #[.int .i64 0, .int .i64 0]), 2, 16) := by kernel_rfl

theorem syms_cells {W : World} {b off : Nat} {l : List (Int × Int)} (h : ∀ (j : Nat) (x : Int × Int), l[j]? = some x → W.cell? ⟨b, off + j * 2, none⟩ = some (.int .i64 x.1) ∧ W.cell? ⟨b, off + j * 2 + 1, none⟩ = some (.int .i64 x.2)) :
    ∀ (j : Nat) (u : Value), (symCells l)[j]? = some u → W.cell? ((⟨b, off, none⟩ : Addr).add j) = some u := by
  intro j u hj
  rw [Go.WideShapes.add_plain]
  have hlt : j < l.length * 2 := by have := (List.getElem?_eq_some_iff.1 hj).1; rwa [symCells_len] at this
  have hq : j / 2 < l.length := by omega
  obtain ⟨x, hx⟩ : ∃ x, l[j / 2]? = some x := ⟨l[j / 2], by simp⟩
  have hc := h _ _ hx
  have hg := symCells_get hx
  by_cases h2 : j % 2 = 0
  · rw [show j / 2 * 2 = j by omega] at hc hg
    rw [hg.1] at hj
    cases hj
    exact hc.1
  · rw [show j / 2 * 2 + 1 = j by omega] at hg
    rw [show off + j / 2 * 2 + 1 = off + j by omega] at hc
    rw [hg.2] at hj
    cases hj
    exact hc.2

set_option maxRecDepth 100000 in
set_option maxHeartbeats 1000000 in
/-- volutekeep.TwinSyms. -/
theorem twinSyms_any (v : Value) (l : List (Int × Int)) (n₀ : Nat) (hl : l.length ≤ 4294967296) (w : World) (hH : Syms n₀ w v l) :
    Calls Tryd.prog 23 #[v] w fun e W' => ∃ r, e = .returned r ∧ W'.ownsRow w.heap.size 72 2 r l.length (symCells l) ∧ Below w.heap.size w W' := by
  obtain ⟨i0, hi, hz0, hz1, hz2⟩ := info_parts infoSym
  rcases hH with ⟨⟨a, cap, rfl, ha⟩, rfl⟩ | ⟨b, off, cap, rfl, hb, hcs⟩
  · cases a with
    | none =>
      obtain rfl := ha rfl
      go_enter Tryd.func23, Tryd.ntmps23
      go_wp2_with (at_builtin; refine wpList_append_own_none rfl _ _ 22 rfl w.heap.size 72 i0 2 Tryd.underlying22 hi _ 0 [] rfl (World.ownsRow_nil _ _ _ _) rfl ?_)
      go_ret
      exact ⟨_, rfl, World.ownsRow_nil _ _ _ _, Below.refl _ _⟩
    | some ad =>
      go_enter Tryd.func23, Tryd.ntmps23
      go_wp2_with (at_builtin; refine wpList_append_own _ rfl _ _ 22 rfl w.heap.size 72 i0 (.agg #[.int .i64 0, .int .i64 0]) 2 16 Tryd.underlying22 hi hz0 hz1 hz2 rfl (by decide) _ 0 [] rfl (World.ownsRow_nil _ _ _ _) ad 0 cap [] rfl rfl (by simp) (by simp) (by unfold maxLen; omega) (by omega) (Nat.le_refl _) ?_; intro v' w1 hown hgrow hn)
      go_ret
      exact ⟨_, rfl, hown, (Below.refl _ w).grown hgrow (Nat.le_refl _) (fun k e => by cases e)⟩
  · go_enter Tryd.func23, Tryd.ntmps23
    go_wp2_with (at_builtin; refine wpList_append_own _ rfl _ _ 22 rfl w.heap.size 72 i0 (.agg #[.int .i64 0, .int .i64 0]) 2 16 Tryd.underlying22 hi hz0 hz1 hz2 rfl (by decide) _ 0 [] rfl (World.ownsRow_nil _ _ _ _) ⟨b, off, none⟩ l.length cap (symCells l) rfl (symCells_len l) (syms_cells hcs) (symCells_one l) (by unfold maxLen; omega) (by omega) (Nat.le_refl _) ?_; intro v' w1 hown hgrow hn)
    go_ret
    refine ⟨_, rfl, ?_, (Below.refl _ w).grown hgrow (Nat.le_refl _) (fun k e => by cases e)⟩
    simpa using hown

end Go.Proofs.YtddcloanbpkecaaDoor
