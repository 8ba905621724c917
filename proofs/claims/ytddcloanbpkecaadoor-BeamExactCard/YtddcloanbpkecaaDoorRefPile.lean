/-
  What the page's Pile answers: may it be?
-/
import Derived.Test.YtddcloanbpkecaaDoorPileNums
import Derived.Test.YtddcloanbpkecaaDoorKeepPile
import Derived.Test.YtddcloanbpkecaaDoorRefOrder
namespace Go.Proofs.YtddcloanbpkecaaDoor
open Go.RowKit

set_option maxRecDepth 100000 in
set_option maxHeartbeats 2000000 in
theorem refPile_syms (n p : Int) (hh : HeadOk n p) (a : Option Addr) (cap : Nat) (l : List (Int × Int)) (hl : l.length ≤ 4294967296) (w : World) (ha : Syms w.heap.size w (.slice a l.length cap) l) :
    Calls Tryd.prog 14 #[.agg #[.int .i64 n, .int .i64 p, .slice a l.length cap]] w fun e w' => (e = .returned (.bool true) ∧ SymsOk n p l ∨ e = .returned (.bool false) ∧ ¬ SymsOk n p l) ∧ Below w.heap.size w w' := by
  obtain ⟨N, rfl⟩ := Int.eq_ofNat_of_zero_le (a := n) (by have := hh.1; omega)
  have HH : Hid (HeadOk (N : Int) p) := hh
  have hN1 : 1 ≤ N := by have := hh.1; omega
  have hN2 : N < 65 := by have := hh.2.1; omega
  have hp1 : 1 ≤ p := hh.2.2.1
  have hp2 : p ≤ 16 := hh.2.2.2
  have hprod := hh.prod
  have dp1 : decide (p < 1) = false := decide_eq_false (by omega)
  have dp2 : decide (16 < p) = false := decide_eq_false (by omega)
  clear hh
  have b0 := (Below.refl w.heap.size w).alloc (Nat.le_refl _) (.cells #[.int .i64 N, .int .i64 p, .slice a l.length cap] 24)
  have x0 := Box.new w 24 #[.int .i64 N, .int .i64 p, .slice a l.length cap]
  have ha0 := ha.next b0
  obtain ⟨w0, hw0⟩ : ∃ w0, w.alloc (.cells #[.int .i64 N, .int .i64 p, .slice a l.length cap] 24) = w0 := ⟨_, rfl⟩
  rw [hw0] at b0 x0 ha0
  have hs0 : w0.heap.size = w.heap.size + 1 := by rw [← hw0]; simp
  have k0 := x0.cell 0 _ rfl
  have k1 := x0.cell 1 _ rfl
  have k2 := x0.cell 2 _ rfl
  clear ha
  go_enter Tryd.func14, Tryd.ntmps14
  go_wp2_with fail
  refine (refN_yes N hN1 hN2 _).mono ?_
  rintro e w1 ⟨rfl, rfl⟩
  clear hw0
  go_wp2
  clear k0 k1 k2
  go_loopw [3] (fun i wr => ∃ k : Nat, k ≤ l.length ∧ i = .int .i64 k ∧ Hid (SymsOk (N : Int) p (l.take k)) ∧ Below w0.heap.size w0 wr) (fun i _ => l.length - (intOf i).toNat)
  case atStart => exact ⟨0, Nat.zero_le _, rfl, symsOk_nil _ _, Below.refl _ _⟩
  case round =>
    obtain ⟨k, hk, rfl, HS, hbw⟩ := hrel
    have x1 := x0.next hbw
    have k0 := x1.cell 0 _ rfl
    have k1 := x1.cell 1 _ rfl
    have k2 := x1.cell 2 _ rfl
    by_cases hlt : k < l.length
    · obtain ⟨⟨at_, val⟩, hx⟩ : ∃ x, l[k]? = some x := ⟨l[k], by simp⟩
      obtain ⟨b, off, rfl, hb, hcell⟩ := syms_at (ha0.next hbw) rfl (by omega)
      obtain ⟨c1, c2⟩ := hcell k _ hx
      have HC : Hid _ := hcell
      have HX : Hid (l[k]? = some (at_, val)) := hx
      clear hcell hx
      have s0 : ∀ q, ((wr.alloc (.cells #[.int .i64 at_, .int .i64 val] 72)).drewN q).cell? ⟨wr.heap.size, 0, none⟩ = some (.int .i64 at_) := fun q => (Box.new wr 72 #[.int .i64 at_, .int .i64 val]).cell 0 _ rfl
      have s1 : ∀ q, ((wr.alloc (.cells #[.int .i64 at_, .int .i64 val] 72)).drewN q).cell? ⟨wr.heap.size, 1, none⟩ = some (.int .i64 val) := fun q => (Box.new wr 72 #[.int .i64 at_, .int .i64 val]).cell 1 _ rfl
      have y0 : ∀ q, ((wr.alloc (.cells #[.int .i64 at_, .int .i64 val] 72)).drewN q).cell? ⟨w.heap.size, 0, none⟩ = some (.int .i64 (N : Int)) := fun q => (x1.alloc _).cell 0 _ rfl
      have y1 : ∀ q, ((wr.alloc (.cells #[.int .i64 at_, .int .i64 val] 72)).drewN q).cell? ⟨w.heap.size, 1, none⟩ = some (.int .i64 p) := fun q => (x1.alloc _).cell 1 _ rfl
      have y2 : ∀ q, ((wr.alloc (.cells #[.int .i64 at_, .int .i64 val] 72)).drewN q).cell? ⟨w.heap.size, 2, none⟩ = some (.slice (some ⟨b, off, none⟩) l.length cap) := fun q => (x1.alloc _).cell 2 _ rfl
      have bV : Below w0.heap.size w0 (wr.alloc (.cells #[.int .i64 at_, .int .i64 val] 72)) := hbw.alloc hbw.size _
      have bbV : Below w.heap.size w (wr.alloc (.cells #[.int .i64 at_, .int .i64 val] 72)) := b0.trans (bV.mono b0.size)
      obtain ⟨M, hM⟩ : ∃ M, (N : Int) * p = M := ⟨_, rfl⟩
      have HM : Hid ((N : Int) * p = M) := hM
      have hM1 : 1 ≤ M ∧ M ≤ 1024 := by rw [← hM]; exact hprod
      clear hprod
      by_cases h1 : at_ < 0
      · have d1 : decide (at_ < 0) = true := decide_eq_true h1
        have HNO : Hid (¬ SymsOk (N : Int) p l) := fun h => by have := h.1 _ (List.mem_of_getElem? HX.out); exact absurd this.1 (by simp; omega)
        clear h1
        go_wp2
        go_quiet (fail)
        go_wp2
        go_ret
        exact ⟨.inr ⟨rfl, HNO.out⟩, below_drewN bbV _⟩
      have d1 : decide (at_ < 0) = false := decide_eq_false h1
      by_cases h2 : M ≤ at_
      · have d2 : decide (M ≤ at_) = true := decide_eq_true h2
        have HNO : Hid (¬ SymsOk (N : Int) p l) := fun h => by have := (h.1 _ (List.mem_of_getElem? HX.out)).2.1; rw [HM.out] at this; simp at this; omega
        clear h2
        go_wp2
        go_quiet (fail)
        go_wp2
        go_ret
        exact ⟨.inr ⟨rfl, HNO.out⟩, below_drewN bbV _⟩
      have d2 : decide (M ≤ at_) = false := decide_eq_false h2
      by_cases h3 : val < 0
      · have d3 : decide (val < 0) = true := decide_eq_true h3
        have HNO : Hid (¬ SymsOk (N : Int) p l) := fun h => by have := (h.1 _ (List.mem_of_getElem? HX.out)).2.2.1; simp at this; omega
        clear h3
        go_wp2
        go_quiet (fail)
        go_wp2
        go_ret
        exact ⟨.inr ⟨rfl, HNO.out⟩, below_drewN bbV _⟩
      have d3 : decide (val < 0) = false := decide_eq_false h3
      by_cases h4 : 255 < val
      · have d4 : decide (255 < val) = true := decide_eq_true h4
        have HNO : Hid (¬ SymsOk (N : Int) p l) := fun h => by have := (h.1 _ (List.mem_of_getElem? HX.out)).2.2.2; simp at this; omega
        clear h4
        go_wp2
        go_quiet (fail)
        go_wp2
        go_ret
        exact ⟨.inr ⟨rfl, HNO.out⟩, below_drewN bbV _⟩
      have d4 : decide (255 < val) = false := decide_eq_false h4
      have hok : SymOk (N : Int) p (at_, val) := ⟨by simp; omega, by rw [HM.out]; simp; omega, by simp; omega, by simp; omega⟩
      cases k with
      | zero =>
        have c1z : wr.cell? ⟨b, off, none⟩ = some (.int .i64 at_) := by simpa using c1
        have c2z : wr.cell? ⟨b, off + 1, none⟩ = some (.int .i64 val) := by simpa using c2
        have HS' : Hid (SymsOk (N : Int) p (l.take (0 + 1))) := by
          show SymsOk (N : Int) p (l.take (0 + 1))
          have e : l.take (0 + 1) = l.take 0 ++ [(at_, val)] := by rw [List.take_add_one, HX.out]; rfl
          rw [e]
          exact symsOk_snoc HS.out hok (fun y hy => by simp at hy)
        clear h1 h2 h3 h4 hok HS
        go_wp2
        go_quiet (fail)
        go_wp2
        refine ⟨⟨0 + 1, by omega, by go_num, HS', below_drewN bV _⟩, by simp [intOf]; omega⟩
      | succ K =>
        obtain ⟨⟨pat, pval⟩, hy⟩ : ∃ y, l[K]? = some y := ⟨l[K], by simp⟩
        have HY : Hid (l[K]? = some (pat, pval)) := hy
        have cp : ∀ q, ((wr.alloc (.cells #[.int .i64 at_, .int .i64 val] 72)).drewN q).cell? ⟨b, off + K * 2, none⟩ = some (.int .i64 pat) := fun q => (((Below.refl _ wr).alloc (Nat.le_refl _) _).cell (p := ⟨b, off + K * 2, none⟩) hb).trans (HC.out K _ hy).1
        clear hy
        by_cases h6 : at_ ≤ pat
        · have d6 : decide (at_ ≤ pat) = true := decide_eq_true h6
          have HNO : Hid (¬ SymsOk (N : Int) p l) := fun h => by have := symsOk_get h HY.out HX.out; simp at this; omega
          clear h1 h2 h3 h4 h6 hok HS
          go_wp2
          go_quiet (fail)
          go_wp2
          go_ret
          exact ⟨.inr ⟨rfl, HNO.out⟩, below_drewN bbV _⟩
        · have d6 : decide (at_ ≤ pat) = false := decide_eq_false h6
          have HS' : Hid (SymsOk (N : Int) p (l.take (K + 1 + 1))) := by
            show SymsOk (N : Int) p (l.take (K + 1 + 1))
            have e : l.take (K + 1 + 1) = l.take (K + 1) ++ [(at_, val)] := by rw [List.take_add_one, HX.out]; rfl
            rw [e]
            refine symsOk_snoc HS.out hok (fun y hy => ?_)
            rw [List.length_take, Nat.min_eq_left (by omega), Nat.add_sub_cancel, List.getElem?_take, if_pos (by omega), HY.out] at hy
            cases hy
            simp
            omega
          clear h1 h2 h3 h4 h6 hok HS
          go_wp2
          go_quiet (fail)
          go_wp2
          refine ⟨⟨K + 1 + 1, by omega, by go_num, HS', below_drewN bV _⟩, by simp [intOf]; omega⟩
    · obtain rfl : k = l.length := by omega
      have HS2 : Hid (SymsOk (N : Int) p l) := by
        have := HS.out
        rw [List.take_length] at this
        exact this
      clear HS hlt
      go_wp2
      go_ret
      exact ⟨.inl ⟨rfl, HS2.out⟩, b0.trans (hbw.mono b0.size)⟩

set_option maxRecDepth 100000 in
set_option maxHeartbeats 2000000 in
theorem refPile_n (n p : Int) (h : n < 1 ∨ 64 < n) (a : Option Addr) (len cap : Nat) (w : World) :
    Calls Tryd.prog 14 #[.agg #[.int .i64 n, .int .i64 p, .slice a len cap]] w fun e w' => e = .returned (.bool false) ∧ Below w.heap.size w w' := by
  have b0 := (Below.refl w.heap.size w).alloc (Nat.le_refl _) (.cells #[.int .i64 n, .int .i64 p, .slice a len cap] 24)
  go_enter Tryd.func14, Tryd.ntmps14
  go_wp2_with fail
  refine (refN_no n h _).mono ?_
  rintro e w1 ⟨rfl, rfl⟩
  clear h
  go_wp2
  go_ret
  exact ⟨rfl, b0⟩

set_option maxRecDepth 100000 in
set_option maxHeartbeats 2000000 in
theorem refPile_p (N : Nat) (hN1 : 1 ≤ N) (hN2 : N < 65) (p : Int) (h : p < 1 ∨ 16 < p) (a : Option Addr) (len cap : Nat) (w : World) :
    Calls Tryd.prog 14 #[.agg #[.int .i64 N, .int .i64 p, .slice a len cap]] w fun e w' => e = .returned (.bool false) ∧ Below w.heap.size w w' := by
  have b0 := (Below.refl w.heap.size w).alloc (Nat.le_refl _) (.cells #[.int .i64 N, .int .i64 p, .slice a len cap] 24)
  by_cases h1 : p < 1
  · have d1 : decide (p < 1) = true := decide_eq_true h1
    clear h h1
    go_enter Tryd.func14, Tryd.ntmps14
    go_wp2_with fail
    refine (refN_yes N hN1 hN2 _).mono ?_
    rintro e w1 ⟨rfl, rfl⟩
    go_wp2
    go_ret
    exact ⟨rfl, b0⟩
  · have d1 : decide (p < 1) = false := decide_eq_false h1
    have d2 : decide (16 < p) = true := decide_eq_true (by omega)
    clear h h1
    go_enter Tryd.func14, Tryd.ntmps14
    go_wp2_with fail
    refine (refN_yes N hN1 hN2 _).mono ?_
    rintro e w1 ⟨rfl, rfl⟩
    go_wp2
    go_ret
    exact ⟨rfl, b0⟩

/-- The page's Pile. -/
theorem refPile_any (n p : Int) (a : Option Addr) (cap : Nat) (l : List (Int × Int)) (hl : l.length ≤ 4294967296) (w : World) (ha : Syms w.heap.size w (.slice a l.length cap) l) :
    Calls Tryd.prog 14 #[.agg #[.int .i64 n, .int .i64 p, .slice a l.length cap]] w fun e w' => (e = .returned (.bool true) ∧ PileOk n p l ∨ e = .returned (.bool false) ∧ ¬ PileOk n p l) ∧ Below w.heap.size w w' := by
  by_cases h : n < 1 ∨ 64 < n
  · refine (refPile_n n p h a l.length cap w).mono ?_
    rintro e w' ⟨rfl, hb⟩
    exact ⟨.inr ⟨rfl, fun hp => by have h1 := hp.1.1; have h2 := hp.1.2.1; omega⟩, hb⟩
  obtain ⟨N, rfl⟩ := Int.eq_ofNat_of_zero_le (a := n) (by omega)
  by_cases h2 : p < 1 ∨ 16 < p
  · refine (refPile_p N (by omega) (by omega) p h2 a l.length cap w).mono ?_
    rintro e w' ⟨rfl, hb⟩
    exact ⟨.inr ⟨rfl, fun hp => by have h1 := hp.1.2.2.1; have h3 := hp.1.2.2.2; omega⟩, hb⟩
  have hh : HeadOk (N : Int) p := ⟨by omega, by omega, by omega, by omega⟩
  refine (refPile_syms N p hh a cap l hl w ha).mono ?_
  rintro e w' ⟨⟨rfl, hs⟩ | ⟨rfl, hs⟩, hb⟩
  · exact ⟨.inl ⟨rfl, hh, hs.1, hs.2⟩, hb⟩
  · exact ⟨.inr ⟨rfl, fun hp => hs ⟨hp.2.1, hp.2.2⟩⟩, hb⟩
theorem refPile_yes (n p : Int) (a : Option Addr) (cap : Nat) (l : List (Int × Int)) (hl : l.length ≤ 4294967296) (hp : PileOk n p l) (w : World) (ha : Syms w.heap.size w (.slice a l.length cap) l) :
    Calls Tryd.prog 14 #[.agg #[.int .i64 n, .int .i64 p, .slice a l.length cap]] w fun e w' => e = .returned (.bool true) ∧ Below w.heap.size w w' := by
  refine (refPile_any n p a cap l hl w ha).mono ?_
  rintro e w' ⟨⟨rfl, _⟩ | ⟨_, h⟩, hb⟩
  · exact ⟨rfl, hb⟩
  · exact absurd hp h
theorem refPile_no (n p : Int) (a : Option Addr) (cap : Nat) (l : List (Int × Int)) (hl : l.length ≤ 4294967296) (hp : ¬ PileOk n p l) (w : World) (ha : Syms w.heap.size w (.slice a l.length cap) l) :
    Calls Tryd.prog 14 #[.agg #[.int .i64 n, .int .i64 p, .slice a l.length cap]] w fun e w' => e = .returned (.bool false) ∧ Below w.heap.size w w' := by
  refine (refPile_any n p a cap l hl w ha).mono ?_
  rintro e w' ⟨⟨_, h⟩ | ⟨rfl, _⟩, hb⟩
  · exact absurd h hp
  · exact ⟨rfl, hb⟩

end Go.Proofs.YtddcloanbpkecaaDoor
