/-
  What beam.isTie and beam.Decode answer. (Written by tpl_beamdecode.py.)
-/
import Derived.Test.YtddcloanbpkecaaDoorBeamWalk
import Derived.Test.YtddcloanbpkecaaDoorRefDecode
import Derived.Deep.QuietTactic
import Derived.BigQuiet
namespace Go.Proofs.YtddcloanbpkecaaDoor
open Go.RowKit

set_option maxRecDepth 100000 in
set_option maxHeartbeats 2000000 in
theorem isTie_ok (la : Option Addr) (m lc : Nat) (L : List Nd) (hm : L.length = m) (h0 : 0 < m) (hm2 : m ≤ 1048576) (cu : Int) (hcu : -1 ≤ cu) (w : World) (hL : Nodes w.heap.size w (.slice la m lc) L) :
    Calls Tryd.prog 32 #[.slice la m lc, .int .i64 cu] w fun e w' => e = .returned (.bool (decB L cu).isNone) ∧ w = w' := by
  obtain ⟨rb, ro, rfl, _, hc4⟩ := nodes_at hL hm h0
  obtain ⟨⟨s0, M, c0, ps⟩, hn0⟩ : ∃ n, L[0]? = some n := ⟨L[0]'(by omega), by simp⟩
  have HN0 : Hid (L[0]? = some (s0, M, c0, ps)) := hn0
  obtain ⟨_, _, _, k1, _, _⟩ := hc4 0 _ hn0
  rw [Nat.zero_mul, Nat.add_zero] at k1
  have HM : Hid (L.length = m) := hm
  have dm0 : (0 : Int) < (m : Int) := by omega
  clear hn0 hL hm
  by_cases hm1 : 1 < m
  · have dm : decide (1 < (m : Int)) = true := decide_eq_true (by omega)
    have dmN : decide (1 < m) = true := decide_eq_true hm1
    obtain ⟨⟨s1, M1, c1, ps1⟩, hn1⟩ : ∃ n, L[1]? = some n := ⟨L[1]'(by rw [HM.out]; exact hm1), by simp⟩
    have HN1 : Hid (L[1]? = some (s1, M1, c1, ps1)) := hn1
    obtain ⟨_, _, _, q1, _, _⟩ := hc4 1 _ hn1
    rw [Nat.one_mul] at q1
    clear hc4 hn1
    by_cases hmm : M1 = M
    · have de : (M1 == M) = true := by simp [hmm]
      have HDE : decB L cu = none := decB_same HN0.out HN1.out hmm
      clear hmm
      have HV : Hid ((decB L cu).isNone = true) := by
        show (decB L cu).isNone = true
        rw [HDE]
        rfl
      rw [HV.out]
      go_enter Tryd.func32, Tryd.ntmps32
      go_wp2
      go_ret
      exact ⟨rfl, rfl⟩
    · have de : (M1 == M) = false := by simp [hmm]
      have HS : Hid (L[1]? = none ∨ ∃ u, L[1]? = some u ∧ u.2.1 ≠ M) := .inr ⟨_, HN1.out, hmm⟩
      clear hmm
      by_cases hc0 : cu = -1
      · have d0 : (cu != -1) = false := by simp [hc0]
        have HDE : decB L cu = some (ps, M) := decB_told (n := (s0, M, c0, ps)) HN0.out (h1 := HS.out) (fun h => by omega)
        clear hc0
        have HV : Hid ((decB L cu).isNone = false) := by
          show (decB L cu).isNone = false
          rw [HDE]
          rfl
        rw [HV.out]
        go_enter Tryd.func32, Tryd.ntmps32
        go_wp2
        go_ret
        exact ⟨rfl, rfl⟩
      · have d0 : (cu != -1) = true := by rw [bne_iff_ne]; exact hc0
        by_cases hcm : cu ≤ M
        · have d1 : decide (cu ≤ M) = true := decide_eq_true hcm
          have HDE : decB L cu = none := decB_cut (n := (s0, M, c0, ps)) HN0.out (h1 := HS.out) (by omega) hcm
          clear hc0 hcm
          have HV : Hid ((decB L cu).isNone = true) := by
            show (decB L cu).isNone = true
            rw [HDE]
            rfl
          rw [HV.out]
          go_enter Tryd.func32, Tryd.ntmps32
          go_wp2
          go_ret
          exact ⟨rfl, rfl⟩
        · have d1 : decide (cu ≤ M) = false := decide_eq_false hcm
          have HDE : decB L cu = some (ps, M) := decB_told (n := (s0, M, c0, ps)) HN0.out (h1 := HS.out) (fun h => hcm h.2)
          clear hc0 hcm
          have HV : Hid ((decB L cu).isNone = false) := by
            show (decB L cu).isNone = false
            rw [HDE]
            rfl
          rw [HV.out]
          go_enter Tryd.func32, Tryd.ntmps32
          go_wp2
          go_ret
          exact ⟨rfl, rfl⟩
  · have dm : decide (1 < (m : Int)) = false := decide_eq_false (by omega)
    have dmN : decide (1 < m) = false := decide_eq_false hm1
    have HS : Hid (L[1]? = none ∨ ∃ u, L[1]? = some u ∧ u.2.1 ≠ M) := .inl (List.getElem?_eq_none (by rw [HM.out]; omega))
    clear hc4
    by_cases hc0 : cu = -1
    · have d0 : (cu != -1) = false := by simp [hc0]
      have HDE : decB L cu = some (ps, M) := decB_told (n := (s0, M, c0, ps)) HN0.out (h1 := HS.out) (fun h => by omega)
      clear hc0
      have HV : Hid ((decB L cu).isNone = false) := by
        show (decB L cu).isNone = false
        rw [HDE]
        rfl
      rw [HV.out]
      go_enter Tryd.func32, Tryd.ntmps32
      go_wp2
      go_ret
      exact ⟨rfl, rfl⟩
    · have d0 : (cu != -1) = true := by rw [bne_iff_ne]; exact hc0
      by_cases hcm : cu ≤ M
      · have d1 : decide (cu ≤ M) = true := decide_eq_true hcm
        have HDE : decB L cu = none := decB_cut (n := (s0, M, c0, ps)) HN0.out (h1 := HS.out) (by omega) hcm
        clear hc0 hcm
        have HV : Hid ((decB L cu).isNone = true) := by
          show (decB L cu).isNone = true
          rw [HDE]
          rfl
        rw [HV.out]
        go_enter Tryd.func32, Tryd.ntmps32
        go_wp2
        go_ret
        exact ⟨rfl, rfl⟩
      · have d1 : decide (cu ≤ M) = false := decide_eq_false hcm
        have HDE : decB L cu = some (ps, M) := decB_told (n := (s0, M, c0, ps)) HN0.out (h1 := HS.out) (fun h => hcm h.2)
        clear hc0 hcm
        have HV : Hid ((decB L cu).isNone = false) := by
          show (decB L cu).isNone = false
          rw [HDE]
          rfl
        rw [HV.out]
        go_enter Tryd.func32, Tryd.ntmps32
        go_wp2
        go_ret
        exact ⟨rfl, rfl⟩

theorem decB_some {L : List Nd} {cut : Int} {ps : List Int} {M : Int} (h : decB L cut = some (ps, M)) : ∃ s c, L[0]? = some (s, M, c, ps) := by
  match L with
  | [] => cases h
  | ⟨s, M', c, ps'⟩ :: t =>
    simp only [decB] at h
    split at h
    · cases h
    · cases h
      exact ⟨s, c, rfl⟩

set_option maxRecDepth 100000 in
set_option maxHeartbeats 4000000 in
theorem Decode_ok (N : Nat) (p : Int) (a : Option Addr) (cap : Nat) (l : List (Int × Int)) (hp : PileOk (N : Int) p l) (b : Nat) (hb1 : 1 ≤ b) (hb2 : b ≤ 16) (D : Nat) (hD : D ≤ 2) (w : World) (ha : Syms w.heap.size w (.slice a l.length cap) l) (hF : Firsts w) :
    Calls Tryd.prog 11 #[.agg #[.int .i64 N, .int .i64 p, .slice a l.length cap], .int .i64 (b : Int), .int .i64 ((D + 1 : Nat) : Int)] w fun e W' => ((decB (walkB N l b D N).1 (walkB N l b D N).2 = none ∧ e = .returned (.tuple #[.slice none 0 0, .int .i64 0, .int .i64 5])) ∨ ∃ ps M, decB (walkB N l b D N).1 (walkB N l b D N).2 = some (ps, M) ∧ ∃ qa qc, e = .returned (.tuple #[.slice qa ps.length qc, .int .i64 M, .int .i64 0]) ∧ ps.length ≤ qc ∧ Holds .i64 W'.heap.size W' (.slice qa ps.length qc) ps) ∧ Below w.heap.size w W' := by
  have b1 : Below w.heap.size w (w.alloc (.cells #[.int .i64 N, .int .i64 p, .slice a l.length cap] 24)) := (Below.refl w.heap.size w).alloc (Nat.le_refl _) _
  have HWK := Walk_ok N p a cap l hp b hb1 hb2 D hD _ (ha.next b1) (hF.next b1)
  have hwi := walkTo_inv stB (coB N l) N (beginN : Int) D b hb1 N
  have hsome : 0 < (walkB N l b D N).1.length := hwi.some
  have hwc : -1 ≤ (walkB N l b D N).2 := hwi.cut1
  have hwl := walkB_len N l (D := D) (i := N) hb1 hb2
  obtain ⟨L, hL⟩ : ∃ L, (walkB N l b D N).1 = L := ⟨_, rfl⟩
  obtain ⟨cu, hcu⟩ : ∃ cu, (walkB N l b D N).2 = cu := ⟨_, rfl⟩
  rw [hL] at HWK hwl hsome ⊢
  rw [hcu] at HWK hwc ⊢
  obtain ⟨D1, hD1⟩ : ∃ D1, D + 1 = D1 := ⟨_, rfl⟩
  rw [hD1] at HWK ⊢
  obtain ⟨m, hm⟩ : ∃ m, L.length = m := ⟨_, rfl⟩
  have HM : Hid (L.length = m) := hm
  rw [hm] at hwl hsome
  obtain ⟨oz, hoz⟩ : ∃ oz, decB L cu = oz := ⟨_, rfl⟩
  have HOZ : Hid (decB L cu = oz) := hoz
  rw [hoz]
  clear hwi hL hcu hD1 hm hp ha hF hoz
  go_enter Tryd.func11, Tryd.ntmps11
  go_wp2_with fail
  refine HWK.mono ?_
  rintro e w4 ⟨r4, rfl, hN4, b4⟩
  clear HWK
  have bb4 := b1.trans (b4.mono b1.size)
  obtain ⟨ra, rc, e4⟩ := hN4.nodes.shape
  rw [HM.out] at e4
  subst e4
  have HT := isTie_ok ra m rc L HM.out hsome (by omega) cu hwc w4 hN4.nodes
  rw [HOZ.out] at HT
  obtain ⟨rb, ro, rfl, hc4⟩ := hN4.cap rfl HM.out hsome
  cases oz with
  | none =>
    clear hc4 hN4 b1 b4
    go_wp2_with (go_at_call 32; refine HT.mono ?_; rintro e wz ⟨rfl, rfl⟩)
    go_ret3
    first | exact ⟨.inl ⟨rfl, rfl⟩, bb4⟩ | exact ⟨rfl, bb4⟩
  | some z =>
    obtain ⟨ps, M⟩ := z
    obtain ⟨s0, c0, hn0⟩ := decB_some HOZ.out
    obtain ⟨pa, pc, hpc, hpv, k1, k3⟩ := hc4 0 _ hn0
    rw [Nat.zero_mul, Nat.add_zero] at k1 k3
    have HPC : Hid (ps.length ≤ pc) := hpc
    have HPH : Hid (Holds .i64 w4.heap.size w4 (.slice pa ps.length pc) ps) := hpv
    have dm0 : (0 : Int) < (m : Int) := by omega
    clear hpv b1 b4 hN4 hc4 hn0 hpc
    go_wp2_with (go_at_call 32; refine HT.mono ?_; rintro e wz ⟨rfl, rfl⟩)
    go_quiet (fail)
    go_wp2
    go_ret3
    exact ⟨.inr ⟨ps, M, rfl, _, _, rfl, HPC.out, HPH.out⟩, below_drewN bb4 _⟩

set_option maxRecDepth 100000 in
set_option maxHeartbeats 2000000 in
theorem Decode_ref (v : Value) (hv : ∃ n p a k c, v = .agg #[.int .i64 n, .int .i64 p, .slice a k c]) (b d : Int) (w : World)
    (h : ∀ w' : World, Below w.heap.size w w' → Calls Tryd.prog 10 #[v, .int .i64 b, .int .i64 d] w' fun e W' => e = .returned (.tuple #[.slice none 0 0, .int .i64 0, .int .i64 1]) ∧ Below w'.heap.size w' W') :
    Calls Tryd.prog 11 #[v, .int .i64 b, .int .i64 d] w fun e W' => e = .returned (.tuple #[.slice none 0 0, .int .i64 0, .int .i64 1]) ∧ Below w.heap.size w W' := by
  obtain ⟨n, p, a, k, c, rfl⟩ := hv
  have b1 : Below w.heap.size w (w.alloc (.cells #[.int .i64 n, .int .i64 p, .slice a k c] 24)) := (Below.refl w.heap.size w).alloc (Nat.le_refl _) _
  have HWK := h _ b1
  clear h
  go_enter Tryd.func11, Tryd.ntmps11
  go_wp2_with fail
  refine HWK.mono ?_
  rintro e w4 ⟨rfl, b4⟩
  go_wp2
  go_ret3
  exact ⟨rfl, b1.trans (b4.mono b1.size)⟩
theorem Decode_no (n p : Int) (a : Option Addr) (cap : Nat) (l : List (Int × Int)) (hl : l.length ≤ 4294967296) (hp : ¬ PileOk n p l) (b d : Int) (w : World) (ha : Syms w.heap.size w (.slice a l.length cap) l) :
    Calls Tryd.prog 11 #[.agg #[.int .i64 n, .int .i64 p, .slice a l.length cap], .int .i64 b, .int .i64 d] w fun e W' => e = .returned (.tuple #[.slice none 0 0, .int .i64 0, .int .i64 1]) ∧ Below w.heap.size w W' :=
  Decode_ref _ ⟨_, _, _, _, _, rfl⟩ b d w fun w' hb => Walk_no n p a cap l hl hp b d w' (ha.next hb)
theorem Decode_arg (N : Nat) (p : Int) (a : Option Addr) (cap : Nat) (l : List (Int × Int)) (hp : PileOk (N : Int) p l) (b d : Int) (h : ¬ ((1 ≤ b ∧ b ≤ 16) ∧ 1 ≤ d ∧ d ≤ 3)) (w : World) (ha : Syms w.heap.size w (.slice a l.length cap) l) (hF : Firsts w) :
    Calls Tryd.prog 11 #[.agg #[.int .i64 N, .int .i64 p, .slice a l.length cap], .int .i64 b, .int .i64 d] w fun e W' => e = .returned (.tuple #[.slice none 0 0, .int .i64 0, .int .i64 1]) ∧ Below w.heap.size w W' :=
  Decode_ref _ ⟨_, _, _, _, _, rfl⟩ b d w fun w' hb => Walk_arg N p a cap l hp b d h w' (ha.next hb) (hF.next hb)

end Go.Proofs.YtddcloanbpkecaaDoor
