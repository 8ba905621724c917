/-
  What the page's Decode answers. (Written by tpl_refdecode.py.)
-/
import Derived.Test.YtddcloanbpkecaaDoorRefWalk
namespace Go.Proofs.YtddcloanbpkecaaDoor
open Go.RowKit

/-- What is told of a list and its cut: nothing, or the first one's path and metric. -/
def decB (L : List Nd) (cut : Int) : Option (List Int × Int) := match L with
  | [] => none
  | n :: t => if t.head?.map (fun u => u.2.1) = some n.2.1 ∨ (0 ≤ cut ∧ cut ≤ n.2.1) then none else some (n.2.2.2, n.2.1)
theorem decB_same {L : List Nd} {cut : Int} {n u : Nd} (h0 : L[0]? = some n) (h1 : L[1]? = some u) (h : u.2.1 = n.2.1) : decB L cut = none := by
  match L, h0, h1 with
  | n' :: u' :: t, h0, h1 =>
    simp at h0 h1
    subst h0 h1
    unfold decB
    simp [h]
theorem decB_cut {L : List Nd} {cut : Int} {n : Nd} (h0 : L[0]? = some n) {h1 : L[1]? = none ∨ ∃ u, L[1]? = some u ∧ u.2.1 ≠ n.2.1} (a : 0 ≤ cut) (b : cut ≤ n.2.1) : decB L cut = none := by
  match L, h0 with
  | n' :: t, h0 =>
    simp at h0
    subst h0
    unfold decB
    simp [a, b]
theorem decB_told {L : List Nd} {cut : Int} {n : Nd} (h0 : L[0]? = some n) {h1 : L[1]? = none ∨ ∃ u, L[1]? = some u ∧ u.2.1 ≠ n.2.1} (h : ¬ (0 ≤ cut ∧ cut ≤ n.2.1)) : decB L cut = some (n.2.2.2, n.2.1) := by
  match L, h0 with
  | n' :: t, h0 =>
    simp at h0
    subst h0
    simp only [decB]
    rw [if_neg]
    rintro (h2 | h2)
    · rcases h1 with h1 | ⟨u, hu, hne⟩
      · cases t with
        | nil => simp at h2
        | cons v t => simp at h1
      · cases t with
        | nil => simp at h2
        | cons v t => simp at h2 hu; subst hu; exact hne h2
    · exact h h2

set_option maxRecDepth 100000 in
set_option maxHeartbeats 4000000 in
theorem refDecode_any (N : Nat) (p : Int) (a : Option Addr) (cap : Nat) (l : List (Int × Int)) (hp : PileOk (N : Int) p l) (b : Nat) (hb1 : 1 ≤ b) (hb2 : b ≤ 16) (D : Nat) (hD : D ≤ 2) (w : World) (ha : Syms w.heap.size w (.slice a l.length cap) l) :
    Calls Tryd.prog 22 #[.agg #[.int .i64 N, .int .i64 p, .slice a l.length cap], .int .i64 (b : Int), .int .i64 ((D + 1 : Nat) : Int)] w fun e W' => (decB (walkB N l b D N).1 (walkB N l b D N).2 = none ∧ e = .returned (.tuple #[.slice none 0 0, .int .i64 0, .int .i64 5]) ∧ Below w.heap.size w W') ∨ ∃ ps M, decB (walkB N l b D N).1 (walkB N l b D N).2 = some (ps, M) ∧ ∃ pv, e = .returned (.tuple #[pv, .int .i64 M, .int .i64 0]) ∧ Holds .i64 W'.heap.size W' pv ps ∧ Below w.heap.size w W' := by
  have b1 : Below w.heap.size w (w.alloc (.cells #[.int .i64 N, .int .i64 p, .slice a l.length cap] 24)) := (Below.refl w.heap.size w).alloc (Nat.le_refl _) _
  have HWK := refWalk_any N p a cap l hp b hb1 hb2 D hD _ (ha.next b1)
  have hsome := (walkTo_inv stB (coB N l) N (beginN : Int) D b hb1 N).some
  have hwl := walkB_len N l (D := D) (i := N) hb1 hb2
  have hsome' : 0 < (walkB N l b D N).1.length := hsome
  obtain ⟨L, hL⟩ : ∃ L, (walkB N l b D N).1 = L := ⟨_, rfl⟩
  obtain ⟨cu, hcu⟩ : ∃ cu, (walkB N l b D N).2 = cu := ⟨_, rfl⟩
  rw [hL] at HWK hwl hsome' ⊢
  rw [hcu] at HWK ⊢
  obtain ⟨D1, hD1⟩ : ∃ D1, D + 1 = D1 := ⟨_, rfl⟩
  rw [hD1] at HWK ⊢
  obtain ⟨m, hm⟩ : ∃ m, L.length = m := ⟨_, rfl⟩
  have HM : Hid (L.length = m) := hm
  rw [hm] at hwl hsome'
  obtain ⟨⟨s0, M, c0, ps⟩, hn0⟩ : ∃ n, L[0]? = some n := ⟨L[0]'(by omega), by simp⟩
  have HN0 : Hid (L[0]? = some (s0, M, c0, ps)) := hn0
  clear hsome hL hcu hD1 hm hn0 hp ha
  go_enter Tryd.func22, Tryd.ntmps22
  go_wp2_with fail
  refine HWK.mono ?_
  rintro e w4 ⟨r4, rfl, hN4, b4⟩
  clear HWK
  have bb4 := b1.trans (b4.mono b1.size)
  obtain ⟨ra, rc, e4⟩ := hN4.shape
  rw [HM.out] at e4
  subst e4
  obtain ⟨rb, ro, rfl, _, hc4⟩ := nodes_at hN4 HM.out hsome'
  obtain ⟨pv, hpv, _, k1, _, k3⟩ := hc4 0 _ HN0.out
  rw [Nat.zero_mul, Nat.add_zero] at k1 k3
  obtain ⟨pa, pc, e5⟩ := hpv.shape
  subst e5
  have HPH : Hid (Holds .i64 w4.heap.size w4 (.slice pa ps.length pc) ps) := hpv
  clear hpv b1 b4 hN4
  by_cases hm1 : 1 < m
  · have dm : decide (1 < (m : Int)) = true := decide_eq_true (by omega)
    have dmN : decide (1 < m) = true := decide_eq_true hm1
    obtain ⟨⟨s1, M1, c1, ps1⟩, hn1⟩ : ∃ n, L[1]? = some n := ⟨L[1]'(by rw [HM.out]; exact hm1), by simp⟩
    have HN1 : Hid (L[1]? = some (s1, M1, c1, ps1)) := hn1
    obtain ⟨_, _, _, q1, _, _⟩ := hc4 1 _ hn1
    rw [Nat.one_mul] at q1
    clear hc4 hn1
    by_cases hmm : M1 = M
    · have de : (M1 == M) = true := by simp [hmm]
      have HDE : Hid (decB L cu = none) := decB_same HN0.out HN1.out hmm
      clear hmm
      go_wp2
      go_quiet (fail)
      go_wp2
      go_ret3
      exact .inl ⟨HDE.out, rfl, below_drewN bb4 nq⟩
    · have de : (M1 == M) = false := by simp [hmm]
      have HS : Hid (L[1]? = none ∨ ∃ u, L[1]? = some u ∧ u.2.1 ≠ M) := .inr ⟨_, HN1.out, hmm⟩
      clear hmm
      by_cases hc0 : 0 ≤ cu
      · have d0 : decide (0 ≤ cu) = true := decide_eq_true hc0
        by_cases hcm : cu ≤ M
        · have d1 : decide (cu ≤ M) = true := decide_eq_true hcm
          have HDE : Hid (decB L cu = none) := decB_cut (n := (s0, M, c0, ps)) HN0.out (h1 := HS.out) hc0 hcm
          clear hc0 hcm
          go_wp2
          go_quiet (fail)
          go_wp2
          go_ret3
          exact .inl ⟨HDE.out, rfl, below_drewN bb4 nq⟩
        · have d1 : decide (cu ≤ M) = false := decide_eq_false hcm
          have HDE : Hid (decB L cu = some (ps, M)) := decB_told (n := (s0, M, c0, ps)) HN0.out (h1 := HS.out) (fun h => hcm h.2)
          clear hc0 hcm
          go_wp2
          go_quiet (fail)
          go_wp2
          go_quiet (fail)
          go_wp2
          go_ret3
          exact .inr ⟨ps, M, HDE.out, _, rfl, HPH.out, below_drewN (below_drewN bb4 _) _⟩
      · have d0 : decide (0 ≤ cu) = false := decide_eq_false hc0
        have HDE : Hid (decB L cu = some (ps, M)) := decB_told (n := (s0, M, c0, ps)) HN0.out (h1 := HS.out) (fun h => hc0 h.1)
        clear hc0
        go_wp2
        go_quiet (fail)
        go_wp2
        go_quiet (fail)
        go_wp2
        go_ret3
        exact .inr ⟨ps, M, HDE.out, _, rfl, HPH.out, below_drewN (below_drewN bb4 _) _⟩
  · have dm : decide (1 < (m : Int)) = false := decide_eq_false (by omega)
    have dmN : decide (1 < m) = false := decide_eq_false hm1
    have HS : Hid (L[1]? = none ∨ ∃ u, L[1]? = some u ∧ u.2.1 ≠ M) := .inl (List.getElem?_eq_none (by rw [HM.out]; omega))
    clear hc4
    by_cases hc0 : 0 ≤ cu
    · have d0 : decide (0 ≤ cu) = true := decide_eq_true hc0
      by_cases hcm : cu ≤ M
      · have d1 : decide (cu ≤ M) = true := decide_eq_true hcm
        have HDE : Hid (decB L cu = none) := decB_cut (n := (s0, M, c0, ps)) HN0.out (h1 := HS.out) hc0 hcm
        clear hc0 hcm
        go_wp2
        go_quiet (fail)
        go_wp2
        go_ret3
        exact .inl ⟨HDE.out, rfl, below_drewN bb4 nq⟩
      · have d1 : decide (cu ≤ M) = false := decide_eq_false hcm
        have HDE : Hid (decB L cu = some (ps, M)) := decB_told (n := (s0, M, c0, ps)) HN0.out (h1 := HS.out) (fun h => hcm h.2)
        clear hc0 hcm
        go_wp2
        go_quiet (fail)
        go_wp2
        go_quiet (fail)
        go_wp2
        go_ret3
        exact .inr ⟨ps, M, HDE.out, _, rfl, HPH.out, below_drewN (below_drewN bb4 _) _⟩
    · have d0 : decide (0 ≤ cu) = false := decide_eq_false hc0
      have HDE : Hid (decB L cu = some (ps, M)) := decB_told (n := (s0, M, c0, ps)) HN0.out (h1 := HS.out) (fun h => hc0 h.1)
      clear hc0
      go_wp2
      go_quiet (fail)
      go_wp2
      go_quiet (fail)
      go_wp2
      go_ret3
      exact .inr ⟨ps, M, HDE.out, _, rfl, HPH.out, below_drewN (below_drewN bb4 _) _⟩

end Go.Proofs.YtddcloanbpkecaaDoor
