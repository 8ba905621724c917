/-
  What bit.Turn and the page's Turn answer, for every two texts: each byte xor that of the mask at the same place; where the mask has none it stays; texts that are too long are refused.
-/
import Derived.Test.YtnbfgngeienecaaTwins
import Derived.Test.YtnbfgngeienecaaApart
import Derived.Test.YtnbfgngeienecaaSteps
import Derived.Laws.CopyOwn
import Derived.Laws.BitsAllLaws
import Derived.RegionTactic
import Derived.BigRegion
import Derived.ChangeAlike
import Derived.Lib.MinMax
namespace Go.Proofs.Ytnbfgngeienecaa
open Go.RowKit

/-- One byte, turned by the mask's at the same place, where there is one. -/
def xorAt (xs ms : List Int) (q : Nat) : Int := match ms[q]? with
  | some m => bits .xor .u8 (xs[q]?.getD 0) m
  | none => xs[q]?.getD 0

/-- A text, turned. -/
def xorL (xs ms : List Int) : List Int := (List.range xs.length).map (xorAt xs ms)

theorem xorL_len (xs ms : List Int) : (xorL xs ms).length = xs.length := by simp [xorL]
theorem xorL_get (xs ms : List Int) (q : Nat) (h : q < xs.length) : (xorL xs ms)[q]?.getD 0 = xorAt xs ms q := by simp [xorL, h]

/-- Behind k rounds. -/
def xorTo (xs ms : List Int) (k q : Nat) : Int := if q < k then xorAt xs ms q else xs[q]?.getD 0

theorem xorTo_end (xs ms : List Int) (k q : Nat) (hk : k = min xs.length ms.length) (hq : q < xs.length) : xorTo xs ms k q = xorAt xs ms q := by
  unfold xorTo
  split
  · rfl
  · have : ms[q]? = none := by rw [List.getElem?_eq_none_iff]; omega
    simp [xorAt, this]

/-- copy of a whole text over a row of as many cells. -/
theorem run_copy_all (a : Option Addr) (cap g n₀ : Nat) (xs : List Int) (cur : Array Value) (w : World) (hg : w.heap[g]? = some (.cells cur 5 (0, 0))) (hcs : cur.size = xs.length) (hH : Holds .u8 n₀ w (.slice a xs.length cap) xs) :
    ∃ w2, (Builtin.copy_ #[22, 22] 3 #[.slice (some ⟨g, 0, none⟩) xs.length xs.length, .slice a xs.length cap]).run Try.prog w = .ok (.int .i64 xs.length) w2 ∧ w2.heap[g]? = some (.cells (xs.map (Value.int .u8)).toArray 5 (0, 0)) ∧ Below g w w2 := by
  obtain ⟨i0, hi, hz0, hz1, hz2⟩ := info_parts infoU8
  have hsz : (Try.prog.info? 5).map (·.size) = some 1 := by rw [hi]; simp [hz1]
  rcases hH with ⟨_, rfl⟩ | ⟨b, off, cap', e, _, hc⟩
  · refine ⟨w, run_copy_none w _ _ _ 5 _ _ _ _ _ _ Try.underlying22 hsz (by simp), ?_, Below.refl _ _⟩
    have : cur = #[] := Array.eq_empty_of_size_eq_zero (by simpa using hcs)
    rw [hg, this]; rfl
  · cases e
    have hr := run_copy_row (P := Try.prog) w 22 22 3 5 g 0 xs.length xs.length ⟨b, off, none⟩ xs.length cap cur 5 (xs.map (Value.int .u8)) Try.underlying22 hsz hg (by simp) (holds_cells hc) (by simp [hcs]) (oneCells _ _)
    have e0 : (cur.toList.take 0 ++ xs.map (Value.int .u8) ++ cur.toList.drop (0 + (xs.map (Value.int .u8)).length)) = xs.map (Value.int .u8) := by
      rw [List.drop_of_length_le (by simp [hcs])]; simp
    rw [e0, List.length_map] at hr
    exact ⟨_, hr, setRow_heap w g cur _ _ _ hg, below_setRow (Below.refl g w) (Nat.le_refl _) _⟩

theorem row_cells_get {w : World} {g : Nat} {xs : List Int} (hg : w.heap[g]? = some (.cells (xs.map (Value.int .u8)).toArray 5 (0, 0))) (q : Nat) (hq : q < xs.length) : w.cell? ⟨g, q, none⟩ = some (.int .u8 (xs[q]?.getD 0)) := by
  simp [World.cell?, hg, hq]

theorem row_cells_frozen {w : World} {g : Nat} {cs : Array Value} {e : TypeId} (hg : w.heap[g]? = some (.cells cs e (0, 0))) (q : Nat) : w.frozen? ⟨g, q, none⟩ = false := by simp [World.frozen?, hg]

/-- One round: the store turns one place. -/
theorem xorTo_store {wr : World} {g k len : Nat} {xs ms : List Int} {m : Int} (hm : ms[k]? = some m) (hc : ∀ q, q < len → wr.cell? ⟨g, q, none⟩ = some (.int .u8 (xorTo xs ms k q))) (hk : k < len) (q : Nat) (hq : q < len) :
    (wr.setCell ⟨g, k, none⟩ (.int .u8 (bits .xor .u8 (xs[k]?.getD 0) m))).cell? ⟨g, q, none⟩ = some (.int .u8 (xorTo xs ms (k + 1) q)) := by
  by_cases h : q = k
  · subst h
    rw [World.cell?_setCell_same' _ _ _ (by rw [hc q hq]; rfl)]
    simp [xorTo, xorAt, hm]
  · rw [World.cell?_setCell_other _ _ _ _ (by intro e; cases e; exact h rfl), hc q hq]
    have e : (q < k + 1) = (q < k) := propext ⟨fun _ => by omega, fun _ => by omega⟩
    simp [xorTo, e]

set_option maxRecDepth 100000 in
set_option maxHeartbeats 1000000 in
theorem turn_long (a a' : Option Addr) (len len' cap cap' : Nat) (w : World) (h : 4096 < len ∨ 4096 < len') (h1 : len ≤ 4611686018427387904) (h2 : len' ≤ 4611686018427387904) :
    Calls Try.prog 30 #[.slice a len cap, .slice a' len' cap'] w fun e w' => e = .returned (.tuple #[.slice none 0 0, .int .i64 2]) ∧ w = w' := by
  by_cases g : 4096 < len
  · go_enter Try.func30, Try.ntmps30
    go_wp2_with (go_at_call 38; refine (callsIn_wide.1 (isLong_yes 0 _ _ _ _ h1 g)).mono ?_; rintro e w' ⟨rfl, rfl⟩)
    go_ret2
    exact ⟨rfl, rfl⟩
  · have g2 : 4096 < len' := by omega
    clear h
    go_enter Try.func30, Try.ntmps30
    go_wp2_with fail
    refine (callsIn_wide.1 (isLong_no 0 _ _ _ _ (by omega))).mono ?_
    rintro e w' ⟨rfl, rfl⟩
    go_wp2_with fail
    refine (callsIn_wide.1 (isLong_yes 0 _ _ _ _ h2 g2)).mono ?_
    rintro e w' ⟨rfl, rfl⟩
    go_wp2
    go_ret2
    exact ⟨rfl, rfl⟩

set_option maxRecDepth 100000 in
set_option maxHeartbeats 2000000 in
theorem turn_ok (a a' : Option Addr) (cap cap' : Nat) (xs ms : List Int) (hx : xs.length ≤ 4096) (hm : ms.length ≤ 4096) (w : World) (ha : Holds .u8 w.heap.size w (.slice a xs.length cap) xs) (hb : Holds .u8 w.heap.size w (.slice a' ms.length cap') ms) :
    Calls Try.prog 30 #[.slice a xs.length cap, .slice a' ms.length cap'] w fun e W' => ∃ r, e = .returned (.tuple #[r, .int .i64 0]) ∧ Holds .u8 W'.heap.size W' r (xorL xs ms) ∧ Below w.heap.size w W' := by
  obtain ⟨i0, hi, hz0, hz1, hz2⟩ := info_parts infoU8
  have hsz : (Try.prog.info? 5).map (·.size) = some 1 := by rw [hi]; simp [hz1]
  obtain ⟨mn, hmn⟩ : ∃ mn, mn = min xs.length ms.length := ⟨_, rfl⟩
  have HMN : Hid (mn = min xs.length ms.length) := hmn
  have hm1 : mn ≤ xs.length := by omega
  have hm2 : mn ≤ ms.length := by omega
  have emin : min (xs.length : Int) (ms.length : Int) = (mn : Int) := by omega
  clear hmn
  go_enter Try.func30, Try.ntmps30
  go_wp2_with fail
  refine (callsIn_wide.1 (isLong_no 0 _ _ _ _ hx)).mono ?_
  rintro e w' ⟨rfl, rfl⟩
  go_wp2_with fail
  refine (callsIn_wide.1 (isLong_no 0 _ _ _ _ hm)).mono ?_
  rintro e w' ⟨rfl, rfl⟩
  go_wp2_with (at_make; refine wpList_make_full _ rfl _ _ 22 rfl w.heap.size 5 i0 (.int .u8 0) 1 Try.underlying22 hi hz0 hz1 .i64 .i64 _ _ xs.length rfl rfl rfl rfl (by rw [hz2]; omega) (by unfold maxLen; omega) (Nat.le_refl _) ?_; intro w1 hown1 hgrow1)
  have b1 : Below w.heap.size w w1 := (Below.refl _ w).grown hgrow1 (Nat.le_refl _) (fun k e => by cases e)
  obtain ⟨cur, hg1, hcs1⟩ : ∃ cur, w1.heap[w.heap.size]? = some (.cells cur 5 (0, 0)) ∧ cur.size = xs.length := by
    rcases hown1.2 with ⟨e, _⟩ | ⟨g, c, cur, e, _, hg, _, _, hs, _⟩
    · cases e
    · cases e; exact ⟨cur, hg, by simpa using hs⟩
  obtain ⟨w2, hrun2, hg2, b2⟩ := run_copy_all a cap w.heap.size _ xs cur w1 hg1 hcs1 (ha.below b1)
  have b02 : Below w.heap.size w w2 := b1.trans b2
  have hs2 : w.heap.size < w2.heap.size := (Array.getElem?_eq_some_iff.1 hg2).1
  have hc2 := row_cells_get hg2
  have hf2 := row_cells_frozen hg2
  rw [hrun2]
  clear hrun2 hg2 b2 b1 hg1 hcs1 hown1 hgrow1 ha cur
  go_wp2
  go_loopw [25] (fun i wr => ∃ k : Nat, k ≤ mn ∧ i = .int .i64 k ∧ (∀ q, q < xs.length → wr.cell? ⟨w.heap.size, q, none⟩ = some (.int .u8 (xorTo xs ms k q))) ∧ (∀ q, wr.frozen? ⟨w.heap.size, q, none⟩ = false) ∧ Below w.heap.size w wr ∧ w.heap.size < wr.heap.size) (fun i _ => mn - (intOf i).toNat)
  case atStart => exact ⟨0, Nat.zero_le _, rfl, fun q hq => by rw [hc2 q hq]; simp [xorTo], hf2, b02, hs2⟩
  case round =>
    obtain ⟨k, hk, rfl, hcq, hfq, hbw, hsw⟩ := hrel
    by_cases hlt : k < mn
    · obtain ⟨m, hmk⟩ : ∃ m, ms[k]? = some m := ⟨ms[k], by simp⟩
      rcases hb with ⟨_, e⟩ | ⟨bm, om, cm, e, hbm, hcm⟩
      · rw [e] at hmk; simp at hmk
      · cases e
        have c1 : wr.cell? ⟨w.heap.size, k, none⟩ = some (.int .u8 (xs[k]?.getD 0)) := by rw [hcq k (by omega)]; simp [xorTo]
        have c2 : wr.cell? ⟨bm, om + k, none⟩ = some (.int .u8 m) := (hbw.cell (p := ⟨bm, om + k, none⟩) hbm).trans ((hcm k (by omega)).trans (by rw [hmk]; rfl))
        have f1 := hfq k
        have HC : Hid (∀ q, q < xs.length → (wr.setCell ⟨w.heap.size, k, none⟩ (.int .u8 (bits .xor .u8 (xs[k]?.getD 0) m))).cell? ⟨w.heap.size, q, none⟩ = some (.int .u8 (xorTo xs ms (k + 1) q))) := fun q hq => xorTo_store hmk hcq (by omega) q hq
        have HF : Hid (∀ v q, (wr.setCell ⟨w.heap.size, k, none⟩ v).frozen? ⟨w.heap.size, q, none⟩ = false) := fun v q => by rw [World.frozen?_setCell]; exact hfq q
        obtain ⟨x, hxk⟩ : ∃ x, xs[k]?.getD 0 = x := ⟨_, rfl⟩
        rw [hxk] at c1 HC
        clear hcq hfq hc2 hf2 hcm hmk hxk
        go_wp2
        go_region
        go_wp2
        go_roundw
        case rel => exact ⟨k + 1, by omega, by go_num, HC.out, HF.out _, (hbw.setCell (p := ⟨w.heap.size, k, none⟩) (Nat.le_refl _) _).drew, by simp [World.setCell]; omega⟩
        case measure => simp [intOf]; omega
    · have hkm : k = mn := by omega
      rw [← hkm] at HMN
      have HC : Hid (∀ q, q < xs.length → wr.cell? ⟨w.heap.size, q, none⟩ = some (.int .u8 (xorTo xs ms k q))) := hcq
      clear hcq hfq hc2 hf2 hkm
      go_wp2
      go_ret2
      refine ⟨_, rfl, .inr ⟨w.heap.size, 0, xs.length, by rw [xorL_len]; rfl, hsw, fun q hq => ?_⟩, hbw⟩
      rw [xorL_len] at hq
      rw [Nat.zero_add, HC.out q hq, xorL_get xs ms q hq, xorTo_end xs ms k q HMN.out hq]

set_option maxRecDepth 100000 in
set_option maxHeartbeats 2000000 in
theorem refTurn_ok (a a' : Option Addr) (cap cap' : Nat) (xs ms : List Int) (hx : xs.length ≤ 4096) (hm : ms.length ≤ 4096) (w : World) (ha : Holds .u8 w.heap.size w (.slice a xs.length cap) xs) (hb : Holds .u8 w.heap.size w (.slice a' ms.length cap') ms) :
    Calls Try.prog 31 #[.slice a xs.length cap, .slice a' ms.length cap'] w fun e W' => ∃ r, e = .returned (.tuple #[r, .int .i64 0]) ∧ Holds .u8 W'.heap.size W' r (xorL xs ms) ∧ Below w.heap.size w W' := by
  have d1 : decide (4096 < (xs.length : Int)) = false := by simp; omega
  have d2 : decide (4096 < (ms.length : Int)) = false := by simp; omega
  obtain ⟨mn, hmn⟩ : ∃ mn, mn = min xs.length ms.length := ⟨_, rfl⟩
  have HMN : Hid (mn = min xs.length ms.length) := hmn
  have hm1 : mn ≤ xs.length := by omega
  have hm2 : mn ≤ ms.length := by omega
  have hm3 : mn = xs.length ∨ mn = ms.length := by omega
  have HM3 : Hid (mn = xs.length ∨ mn = ms.length) := hm3
  clear hmn hm3
  go_enter Try.func31, Try.ntmps31
  go_wp2_with (go_at_call 9; refine (twin_any _ xs _ (by omega) _ ha).mono ?_; rintro e w2 ⟨r2, rfl, o2, b02⟩)
  have hr2 := holds_of_row o2
  rcases o2.2 with ⟨rfl, hx0⟩ | ⟨g, cp, cur, rfl, hbg, hg2, _, _, _, _⟩
  · have hxs : xs = [] := List.length_eq_zero_iff.1 hx0
    clear o2 hr2
    subst hxs
    go_loop [7] (fun i => i = .int .i64 0) (fun _ => 0)
    case atStart => rfl
    case round =>
      obtain rfl := hrel
      go_wp2
      go_ret2
      exact ⟨_, rfl, .inl ⟨⟨_, _, rfl, fun _ => rfl⟩, rfl⟩, b02⟩
  · have hf2 := row_cells_frozen hg2
    have hs2 : g < w2.heap.size := (Array.getElem?_eq_some_iff.1 hg2).1
    have hc2 : ∀ q, q < xs.length → w2.cell? ⟨g, q, none⟩ = some (.int .u8 (xs[q]?.getD 0)) := fun q hq => by
      have := o2.cells (g := g) rfl q (.int .u8 (xs[q]?.getD 0)) (by simp [hq])
      rw [Addr.add_lit] at this
      simpa using this
    clear hg2 o2 hr2 ha
    go_loopw [7] (fun i wr => ∃ k : Nat, k ≤ mn ∧ i = .int .i64 k ∧ (∀ q, q < xs.length → wr.cell? ⟨g, q, none⟩ = some (.int .u8 (xorTo xs ms k q))) ∧ (∀ q, wr.frozen? ⟨g, q, none⟩ = false) ∧ Below w.heap.size w wr ∧ g < wr.heap.size) (fun i _ => mn - (intOf i).toNat)
    case atStart => exact ⟨0, Nat.zero_le _, rfl, fun q hq => by rw [hc2 q hq]; simp [xorTo], hf2, b02, hs2⟩
    case round =>
      obtain ⟨k, hk, rfl, hcq, hfq, hbw, hsw⟩ := hrel
      by_cases hlt : k < mn
      · obtain ⟨m, hmk⟩ : ∃ m, ms[k]? = some m := ⟨ms[k], by simp⟩
        have t1 : k < xs.length := by omega
        have t2 : k < ms.length := by omega
        rcases hb with ⟨_, e⟩ | ⟨bm, om, cm, e, hbm, hcm⟩
        · rw [e] at hmk; simp at hmk
        · cases e
          have c1 : wr.cell? ⟨g, k, none⟩ = some (.int .u8 (xs[k]?.getD 0)) := by rw [hcq k (by omega)]; simp [xorTo]
          have c2 : wr.cell? ⟨bm, om + k, none⟩ = some (.int .u8 m) := (hbw.cell (p := ⟨bm, om + k, none⟩) hbm).trans ((hcm k (by omega)).trans (by rw [hmk]; rfl))
          have f1 := hfq k
          have HC : Hid (∀ q, q < xs.length → (wr.setCell ⟨g, k, none⟩ (.int .u8 (bits .xor .u8 (xs[k]?.getD 0) m))).cell? ⟨g, q, none⟩ = some (.int .u8 (xorTo xs ms (k + 1) q))) := fun q hq => xorTo_store hmk hcq (by omega) q hq
          have HF : Hid (∀ v q, (wr.setCell ⟨g, k, none⟩ v).frozen? ⟨g, q, none⟩ = false) := fun v q => by rw [World.frozen?_setCell]; exact hfq q
          obtain ⟨x, hxk⟩ : ∃ x, xs[k]?.getD 0 = x := ⟨_, rfl⟩
          rw [hxk] at c1 HC
          clear hcq hfq hc2 hf2 hcm hmk hxk
          go_wp2
          go_region
          go_wp2
          go_roundw
          case rel => exact ⟨k + 1, by omega, by go_num, HC.out, HF.out _, (hbw.setCell (p := ⟨g, k, none⟩) hbg _).drew, by simp [World.setCell]; omega⟩
          case measure => simp [intOf]; omega
      · have hkm : k = mn := by omega
        rw [← hkm] at HMN
        have HC : Hid (∀ q, q < xs.length → wr.cell? ⟨g, q, none⟩ = some (.int .u8 (xorTo xs ms k q))) := hcq
        have h3 := HM3.out
        clear hcq hfq hc2 hf2
        by_cases t1 : k < xs.length
        · have t2 : ¬ k < ms.length := by omega
          clear h3 hkm
          go_wp2
          go_ret2
          refine ⟨_, rfl, .inr ⟨g, 0, cp, by rw [xorL_len]; rfl, hsw, fun q hq => ?_⟩, hbw⟩
          rw [xorL_len] at hq
          rw [Nat.zero_add, HC.out q hq, xorL_get xs ms q hq, xorTo_end xs ms k q HMN.out hq]
        · clear h3 hkm
          go_wp2
          go_ret2
          refine ⟨_, rfl, .inr ⟨g, 0, cp, by rw [xorL_len]; rfl, hsw, fun q hq => ?_⟩, hbw⟩
          rw [xorL_len] at hq
          rw [Nat.zero_add, HC.out q hq, xorL_get xs ms q hq, xorTo_end xs ms k q HMN.out hq]

end Go.Proofs.Ytnbfgngeienecaa
