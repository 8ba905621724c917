/-
  What pile.Check answers.
-/
import Derived.Test.YtmjidhnlofpliabM03
import Derived.Test.YtmjidhnlofpliabM08
import Derived.Test.YtmjidhnlofpliabM09
import Derived.Deep.RegionWith
namespace Go.Proofs.Ytmjidhnlofpliab
open Go.RowKit

set_option maxHeartbeats 1000000 in
theorem places_ok (n p M : Int) (hM : n * p = M) (h1 : 1 ≤ M) (h2 : M ≤ 1024) (a : Option Addr) (len cap : Nat) (w : World) :
    Calls Try.prog 69 #[.agg #[.int .i64 n, .int .i64 p, .slice a len cap]] w fun e w' => e = .returned (.int .i64 M) ∧ Below w.heap.size w w' := by
  have b0 := (Below.refl w.heap.size w).alloc (Nat.le_refl _) (.cells #[.int .i64 n, .int .i64 p, .slice a len cap] 44)
  go_enter Try.func69, Try.ntmps69
  go_wp2
  go_ret
  exact ⟨rfl, b0⟩

set_option maxHeartbeats 1000000 in
theorem isValue_yes (u : Int) (h0 : 0 ≤ u) (h1 : u ≤ 255) (w : World) : Calls Try.prog 70 #[.int .i64 u] w fun e w' => e = .returned (.bool true) ∧ w = w' := by
  have d0 : decide (0 ≤ u) = true := decide_eq_true h0
  have d1 : decide (u ≤ 255) = true := decide_eq_true h1
  clear h0 h1
  go_enter Try.func70, Try.ntmps70
  go_wp2
  go_ret
  exact ⟨rfl, rfl⟩

set_option maxHeartbeats 1000000 in
theorem isValue_no (u : Int) (h : u < 0 ∨ 255 < u) (w : World) : Calls Try.prog 70 #[.int .i64 u] w fun e w' => e = .returned (.bool false) ∧ w = w' := by
  by_cases h0 : u < 0
  · have d0 : decide (0 ≤ u) = false := decide_eq_false (by omega)
    clear h h0
    go_enter Try.func70, Try.ntmps70
    go_wp2
    go_ret
    exact ⟨rfl, rfl⟩
  · have d0 : decide (0 ≤ u) = true := decide_eq_true (by omega)
    have d1 : decide (u ≤ 255) = false := decide_eq_false (by omega)
    clear h h0
    go_enter Try.func70, Try.ntmps70
    go_wp2
    go_ret
    exact ⟨rfl, rfl⟩

set_option maxRecDepth 100000 in
set_option maxHeartbeats 2000000 in
theorem Check_head (n p : Int) (h : ¬ HeadOk n p) (a : Option Addr) (len cap : Nat) (w : World) :
    Calls Try.prog 47 #[.agg #[.int .i64 n, .int .i64 p, .slice a len cap]] w fun e w' => e = .returned (.int .i64 1) ∧ Below w.heap.size w w' := by
  have b0 := (Below.refl w.heap.size w).alloc (Nat.le_refl _) (.cells #[.int .i64 n, .int .i64 p, .slice a len cap] 44)
  by_cases h1 : n < 1
  · have d1 : decide (n < 1) = true := decide_eq_true h1
    clear h h1
    go_enter Try.func47, Try.ntmps47
    go_wp2
    go_ret
    exact ⟨rfl, b0⟩
  have d1 : decide (n < 1) = false := decide_eq_false h1
  by_cases h2 : 64 < n
  · have d2 : decide (64 < n) = true := decide_eq_true h2
    clear h h1 h2
    go_enter Try.func47, Try.ntmps47
    go_wp2
    go_ret
    exact ⟨rfl, b0⟩
  have d2 : decide (64 < n) = false := decide_eq_false h2
  by_cases h3 : p < 1
  · have d3 : decide (p < 1) = true := decide_eq_true h3
    clear h h1 h2 h3
    go_enter Try.func47, Try.ntmps47
    go_wp2
    go_ret
    exact ⟨rfl, b0⟩
  have d3 : decide (p < 1) = false := decide_eq_false h3
  have d4 : decide (16 < p) = true := decide_eq_true (by
    rcases Int.lt_or_le 16 p with h4 | h4
    · exact h4
    · exact absurd ⟨by omega, by omega, by omega, h4⟩ h)
  clear h h1 h2 h3
  go_enter Try.func47, Try.ntmps47
  go_wp2
  go_ret
  exact ⟨rfl, b0⟩

set_option maxRecDepth 100000 in
set_option maxHeartbeats 4000000 in
theorem Check_syms (n p : Int) (hh : HeadOk n p) (a : Option Addr) (cap : Nat) (l : List (Int × Int)) (hl : l.length ≤ 4294967296) (w : World) (ha : Syms w.heap.size w (.slice a l.length cap) l) :
    Calls Try.prog 47 #[.agg #[.int .i64 n, .int .i64 p, .slice a l.length cap]] w fun e w' => (e = .returned (.int .i64 0) ∧ SymsOk n p l ∨ e = .returned (.int .i64 1) ∧ ¬ SymsOk n p l) ∧ Below w.heap.size w w' := by
  have HH : Hid (HeadOk n p) := hh
  obtain ⟨g1, g2, g3, g4⟩ := hh
  have hpr := HH.out.prod
  obtain ⟨M, hM⟩ : ∃ M, n * p = M := ⟨_, rfl⟩
  have HM : Hid (n * p = M) := hM
  rw [hM] at hpr
  obtain ⟨hM1, hM2⟩ := hpr
  have e1 : decide (n < 1) = false := decide_eq_false (by omega)
  have e2 : decide (64 < n) = false := decide_eq_false (by omega)
  have e3 : decide (p < 1) = false := decide_eq_false (by omega)
  have e4 : decide (16 < p) = false := decide_eq_false (by omega)
  have b0 := (Below.refl w.heap.size w).alloc (Nat.le_refl _) (.cells #[.int .i64 n, .int .i64 p, .slice a l.length cap] 44)
  have x0 := Box.new w 44 #[.int .i64 n, .int .i64 p, .slice a l.length cap]
  have ha0 := ha.next b0
  obtain ⟨w0, hw0⟩ : ∃ w0, w.alloc (.cells #[.int .i64 n, .int .i64 p, .slice a l.length cap] 44) = w0 := ⟨_, rfl⟩
  rw [hw0] at b0 x0 ha0
  have hs0 : w0.heap.size = w.heap.size + 1 := by rw [← hw0]; simp
  have k0 := x0.cell 0 _ rfl
  have k1 := x0.cell 1 _ rfl
  have k2 := x0.cell 2 _ rfl
  clear ha g1 g2 g3 g4 hM
  go_enter Try.func47, Try.ntmps47
  go_wp2
  clear k0 k1 k2 hw0 e1 e2 e3 e4
  go_loopw [3, 27] (fun m i wr => ∃ k : Nat, k ≤ l.length ∧ i = .int .i64 k ∧ m = .int .i64 (leastN (l.take k)) ∧ Hid (SymsOk n p (l.take k)) ∧ Below w0.heap.size w0 wr) (fun _ i _ => l.length - (intOf i).toNat)
  case atStart => exact ⟨0, Nat.zero_le _, rfl, rfl, symsOk_nil _ _, Below.refl _ _⟩
  case round =>
    obtain ⟨k, hk, rfl, rfl, HS, hbw⟩ := hrel
    have x1 := x0.next hbw
    by_cases hlt : k < l.length
    · obtain ⟨⟨at_, val⟩, hx⟩ : ∃ x, l[k]? = some x := ⟨l[k], by simp⟩
      obtain ⟨b, off, rfl, hb, hcell⟩ := syms_at (ha0.next hbw) rfl (by omega)
      obtain ⟨c1, c2⟩ := hcell k _ hx
      have HT : Hid (l.take (k + 1) = l.take k ++ [(at_, val)]) := by
        show l.take (k + 1) = l.take k ++ [(at_, val)]
        rw [List.take_add_one, hx]; rfl
      have hm := leastN_bounds HH.out HS.out
      rw [HM.out] at hm
      obtain ⟨hm1, hm2⟩ := hm
      have HMO : Hid (leastN (l.take k) ≤ at_ → at_ < M → 0 ≤ val → val ≤ 255 → SymsOk n p (l.take (k + 1))) := fun h1 h2 h3 h4 => by
        rw [HT.out]
        exact symsOk_more HH.out HS.out h1 (by rw [HM.out]; exact h2) h3 h4
      have HLE : Hid (SymsOk n p l → leastN (l.take k) ≤ at_ ∧ at_ < M ∧ 0 ≤ val ∧ val ≤ 255) := fun h => by
        have h1 := symsOk_take h (k + 1)
        rw [HT.out] at h1
        have h2 := h1.1 (at_, val) (by simp)
        exact ⟨symsOk_least h1, by rw [← HM.out]; exact h2.2.1, h2.2.2.1, h2.2.2.2⟩
      have HLN : Hid (leastN (l.take (k + 1)) = at_ + 1) := by
        show leastN (l.take (k + 1)) = at_ + 1
        rw [HT.out, leastN_snoc]
      obtain ⟨m, hmm⟩ : ∃ m, leastN (l.take k) = m := ⟨_, rfl⟩
      rw [hmm] at hm1 hm2 HMO HLE ⊢
      have k2 := x1.cell 2 _ rfl
      clear hcell hx hmm
      go_wp2
      have bV : Below w0.heap.size w0 (wr.alloc (.cells #[.int .i64 at_, .int .i64 val] 75)) := hbw.alloc hbw.size _
      have xS := Box.new wr 75 #[.int .i64 at_, .int .i64 val]
      have xP := x1.alloc (.cells #[.int .i64 at_, .int .i64 val] 75)
      obtain ⟨V, hV⟩ : ∃ V, wr.alloc (.cells #[.int .i64 at_, .int .i64 val] 75) = V := ⟨_, rfl⟩
      rw [hV] at bV xS xP ⊢
      clear hV c1 c2 k2 x1 hb
      have s0 : ∀ q, (V.drewN q).cell? ⟨wr.heap.size, 0, none⟩ = some (.int .i64 at_) := fun q => xS.cell 0 _ rfl
      have bbV := b0.trans (bV.mono b0.size)
      by_cases h1 : at_ < m
      · have d1 : decide (at_ < m) = true := decide_eq_true h1
        have HNO : Hid (¬ SymsOk n p l) := fun h => by have := (HLE.out h).1; omega
        clear h1
        go_quiet (fail)
        go_wp2
        go_ret
        exact ⟨.inr ⟨rfl, HNO.out⟩, below_drewN bbV _⟩
      have d1 : decide (at_ < m) = false := decide_eq_false h1
      have v0 := xS.cell 0 _ rfl
      have v1 := xS.cell 1 _ rfl
      have v2 := xP.cell 0 _ rfl
      have v3 := xP.cell 1 _ rfl
      have v4 := xP.cell 2 _ rfl
      clear s0
      by_cases h2 : M ≤ at_
      · have d2 : decide (M ≤ at_) = true := decide_eq_true h2
        have HNO : Hid (¬ SymsOk n p l) := fun h => by have := (HLE.out h).2.1; omega
        clear h1 h2
        first | go_region_with (go_at_call 69; refine (places_ok n p M HM.out hM1 hM2 _ _ _ _).mono ?_; rintro e w9 ⟨rfl, b9⟩; have b9V : Below V.heap.size V w9 := (Below.refl V.heap.size V).drew.trans b9; have xS9 := xS.next b9V; have xP9 := xP.next b9V; have r0 := xS9.cell 0 _ rfl; have r1 := xS9.cell 1 _ rfl; have r2 := xP9.cell 0 _ rfl; have r3 := xP9.cell 1 _ rfl; have r4 := xP9.cell 2 _ rfl) | fail
        all_goals (
          go_wp2
          go_ret
          exact ⟨.inr ⟨rfl, HNO.out⟩, bbV.trans (b9V.mono bbV.size)⟩)
      have d2 : decide (M ≤ at_) = false := decide_eq_false h2
      by_cases h3 : val < 0 ∨ 255 < val
      · have HNO : Hid (¬ SymsOk n p l) := fun h => by have := (HLE.out h).2.2; omega
        clear h1 h2
        first | go_region_with (first | (go_at_call 69; refine (places_ok n p M HM.out hM1 hM2 _ _ _ _).mono ?_; rintro e w9 ⟨rfl, b9⟩; have b9V : Below V.heap.size V w9 := (Below.refl V.heap.size V).drew.trans b9; have xS9 := xS.next b9V; have xP9 := xP.next b9V; have r0 := xS9.cell 0 _ rfl; have r1 := xS9.cell 1 _ rfl; have r2 := xP9.cell 0 _ rfl; have r3 := xP9.cell 1 _ rfl; have r4 := xP9.cell 2 _ rfl) | (go_at_call 70; refine (isValue_no val h3 _).mono ?_; rintro e w10 ⟨rfl, rfl⟩)) | fail
        all_goals (
          go_wp2
          go_ret
          exact ⟨.inr ⟨rfl, HNO.out⟩, bbV.trans (b9V.mono bbV.size)⟩)
      have h4 : 0 ≤ val := by omega
      have h5 : val ≤ 255 := by omega
      have HS' : Hid (SymsOk n p (l.take (k + 1))) := HMO.out (by omega) (by omega) h4 h5
      have h6 : 0 ≤ at_ := by omega
      have h7 : at_ ≤ 1024 := by omega
      clear h1 h2 h3
      first | go_region_with (first | (go_at_call 69; refine (places_ok n p M HM.out hM1 hM2 _ _ _ _).mono ?_; rintro e w9 ⟨rfl, b9⟩; have b9V : Below V.heap.size V w9 := (Below.refl V.heap.size V).drew.trans b9; have xS9 := xS.next b9V; have xP9 := xP.next b9V; have r0 := xS9.cell 0 _ rfl; have r1 := xS9.cell 1 _ rfl; have r2 := xP9.cell 0 _ rfl; have r3 := xP9.cell 1 _ rfl; have r4 := xP9.cell 2 _ rfl) | (go_at_call 70; refine (isValue_yes val h4 h5 _).mono ?_; rintro e w10 ⟨rfl, rfl⟩)) | fail
      all_goals (
        go_wp2
        exact ⟨⟨k + 1, by omega, by go_num, by rw [HLN.out], HS', bV.trans (b9V.mono bV.size)⟩, by simp [intOf]; omega⟩)
    · obtain rfl : k = l.length := by omega
      have HS2 : Hid (SymsOk n p l) := by
        have := HS.out
        rw [List.take_length] at this
        exact this
      have k2 := x1.cell 2 _ rfl
      clear HS hlt
      go_wp2
      go_ret
      exact ⟨.inl ⟨rfl, HS2.out⟩, b0.trans (hbw.mono b0.size)⟩

theorem Check_ok (n p : Int) (a : Option Addr) (cap : Nat) (l : List (Int × Int)) (hl : l.length ≤ 4294967296) (hp : PileOk n p l) (w : World) (ha : Syms w.heap.size w (.slice a l.length cap) l) :
    Calls Try.prog 47 #[.agg #[.int .i64 n, .int .i64 p, .slice a l.length cap]] w fun e w' => e = .returned (.int .i64 0) ∧ Below w.heap.size w w' := by
  refine (Check_syms n p hp.1 a cap l hl w ha).mono ?_
  rintro e w' ⟨⟨rfl, _⟩ | ⟨_, h⟩, hb⟩
  · exact ⟨rfl, hb⟩
  · exact absurd ⟨hp.2.1, hp.2.2⟩ h

theorem Check_no (n p : Int) (a : Option Addr) (cap : Nat) (l : List (Int × Int)) (hl : l.length ≤ 4294967296) (hp : ¬ PileOk n p l) (w : World) (ha : Syms w.heap.size w (.slice a l.length cap) l) :
    Calls Try.prog 47 #[.agg #[.int .i64 n, .int .i64 p, .slice a l.length cap]] w fun e w' => e = .returned (.int .i64 1) ∧ Below w.heap.size w w' := by
  by_cases hh : HeadOk n p
  · refine (Check_syms n p hh a cap l hl w ha).mono ?_
    rintro e w' ⟨⟨_, h⟩ | ⟨rfl, _⟩, hb⟩
    · exact absurd ⟨hh, h.1, h.2⟩ hp
    · exact ⟨rfl, hb⟩
  · exact Check_head n p hh a l.length cap w

end Go.Proofs.Ytmjidhnlofpliab

/-
  What pile.New and pile.Put answer.
-/
namespace Go.Proofs.Ytmjidhnlofpliab
open Go.RowKit

set_option maxRecDepth 100000 in
set_option maxHeartbeats 2000000 in
theorem New_ok (n p : Int) (h : HeadOk n p) (w : World) : Calls Try.prog 25 #[.int .i64 n, .int .i64 p] w fun e w' => e = .returned (.tuple #[.agg #[.int .i64 n, .int .i64 p, .slice none 0 0], .int .i64 0]) ∧ Below w.heap.size w w' := by
  have b0 := ((Below.refl w.heap.size w).alloc (Nat.le_refl _) (.cells #[.int .i64 0, .int .i64 0, .slice none 0 0] 44)).alloc (by simp) (.cells #[.int .i64 n, .int .i64 p, .slice none 0 0] 44)
  have x0 := (Box.new w 44 #[.int .i64 0, .int .i64 0, .slice none 0 0]).alloc (.cells #[.int .i64 n, .int .i64 p, .slice none 0 0] 44)
  have x1 : Box ((w.alloc (.cells #[.int .i64 0, .int .i64 0, .slice none 0 0] 44)).alloc (.cells #[.int .i64 n, .int .i64 p, .slice none 0 0] 44)) (w.heap.size + 1) 44 #[.int .i64 n, .int .i64 p, .slice none 0 0] := by
    have := Box.new (w.alloc (.cells #[.int .i64 0, .int .i64 0, .slice none 0 0] 44)) 44 #[.int .i64 n, .int .i64 p, .slice none 0 0]
    simpa using this
  have HC := Check_ok n p none 0 [] (by decide) (pileOk_nil h) ((w.alloc (.cells #[.int .i64 0, .int .i64 0, .slice none 0 0] 44)).alloc (.cells #[.int .i64 n, .int .i64 p, .slice none 0 0] 44)) (syms_nil _ _)
  clear h
  go_enter Try.func25, Try.ntmps25
  go_wp2_with fail
  refine HC.mono ?_
  rintro e w1 ⟨rfl, b1⟩
  have bb := b0.trans (b1.mono (by simp; omega))
  have y0 := x0.next b1
  have y1 := x1.next b1
  have c0 := y1.cell 0 _ rfl
  have c1 := y1.cell 1 _ rfl
  have c2 := y1.cell 2 _ rfl
  have z0 := y0.cell 0 _ rfl
  have z1 := y0.cell 1 _ rfl
  have z2 := y0.cell 2 _ rfl
  have f0 := y0.free 0
  have f1 := y0.free 1
  have f2 := y0.free 2
  clear HC b0 b1 x0 x1
  go_wp2
  refine bodyPost_ret (v := .tuple #[.agg #[.int .i64 n, .int .i64 p, .slice none 0 0], .int .i64 0]) (by simp [results, Try.results25, go_sem, z0, z1, z2]) rfl ⟨rfl, ?_⟩
  exact below_set3 bb (Nat.le_refl _) _ _ _

end Go.Proofs.Ytmjidhnlofpliab
