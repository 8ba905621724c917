/-
  What the page's Beam and Score answer.
-/
import Derived.Test.YtddcloanbpkecaaDoorRefNode
namespace Go.Proofs.YtddcloanbpkecaaDoor
open Go.RowKit

/-- May both be? -/
def beamB (b d : Int) : Bool := decide (1 ≤ b) && decide (b ≤ 16) && decide (1 ≤ d) && decide (d ≤ 3)
set_option maxRecDepth 100000 in
set_option maxHeartbeats 1000000 in
theorem refBeam_any (b d : Int) (w : World) : Calls Tryd.prog 4 #[.int .i64 b, .int .i64 d] w fun e w' => e = .returned (.bool (beamB b d)) ∧ w = w' := by
  by_cases h1 : 1 ≤ b
  · have d1 : decide (1 ≤ b) = true := decide_eq_true h1
    by_cases h2 : b ≤ 16
    · have d2 : decide (b ≤ 16) = true := decide_eq_true h2
      by_cases h3 : 1 ≤ d
      · have d3 : decide (1 ≤ d) = true := decide_eq_true h3
        have HE : Hid (beamB b d = decide (d ≤ 3)) := by
          show beamB b d = decide (d ≤ 3)
          unfold beamB
          rw [d1, d2, d3]
          rfl
        rw [HE.out]
        clear h1 h2 h3
        go_enter Tryd.func4, Tryd.ntmps4
        go_wp2
        go_ret
        exact ⟨rfl, rfl⟩
      · have d3 : decide (1 ≤ d) = false := decide_eq_false h3
        have HE : Hid (beamB b d = false) := by
          show beamB b d = false
          unfold beamB
          rw [d1, d2, d3]
          rfl
        rw [HE.out]
        clear h1 h2 h3
        go_enter Tryd.func4, Tryd.ntmps4
        go_wp2
        go_ret
        exact ⟨rfl, rfl⟩
    · have d2 : decide (b ≤ 16) = false := decide_eq_false h2
      have HE : Hid (beamB b d = false) := by
        show beamB b d = false
        unfold beamB
        rw [d1, d2]
        rfl
      rw [HE.out]
      clear h1 h2
      go_enter Tryd.func4, Tryd.ntmps4
      go_wp2
      go_ret
      exact ⟨rfl, rfl⟩
  · have d1 : decide (1 ≤ b) = false := decide_eq_false h1
    have HE : Hid (beamB b d = false) := by
      show beamB b d = false
      unfold beamB
      rw [d1]
      rfl
    rw [HE.out]
    clear h1
    go_enter Tryd.func4, Tryd.ntmps4
    go_wp2
    go_ret
    exact ⟨rfl, rfl⟩

/-- A path's Score, over a pile. -/
def scoB (N : Nat) (l : List (Int × Int)) (a : Nat) (P : List Int) : Int := scA stB (coB N l) N (beginN : Int) a P
theorem scoB_lst {N : Nat} {l : List (Int × Int)} {P : List Int} {s : Nat} (hs : staB N l P = (s : Int)) (a : Nat) : lst stB (coB N l) N a (s : Int) P.length (metB N l P) = scoB N l a P := by
  unfold scoB scA
  unfold staB at hs
  rw [hs]
  rfl

set_option maxRecDepth 100000 in
set_option maxHeartbeats 2000000 in
theorem refScore_any (N : Nat) (p : Int) (a : Option Addr) (cap : Nat) (l : List (Int × Int)) (hp : PileOk (N : Int) p l) (pa : Option Addr) (pc : Nat) (ps : List Int) (hps : Path ps) (hlen : ps.length ≤ N) (D : Nat) (hD : D ≤ 2) (w : World) (ha : Syms w.heap.size w (.slice a l.length cap) l) (hpp : Holds .i64 w.heap.size w (.slice pa ps.length pc) ps) :
    Calls Tryd.prog 18 #[.agg #[.int .i64 N, .int .i64 p, .slice a l.length cap], .slice pa ps.length pc, .int .i64 ((D + 1 : Nat) : Int)] w fun e W' => e = .returned (.int .i64 (scoB N l D ps)) ∧ Below w.heap.size w W' := by
  have hN2 : N < 65 := by have := hp.1.2.1; omega
  have b1 : Below w.heap.size w (w.alloc (.cells #[.int .i64 N, .int .i64 p, .slice a l.length cap] 24)) := (Below.refl w.heap.size w).alloc (Nat.le_refl _) _
  have x1 := Box.new w 24 #[.int .i64 N, .int .i64 p, .slice a l.length cap]
  have HA : Hid (Syms w.heap.size w (.slice a l.length cap) l) := ha
  have HP : Hid (PileOk (N : Int) p l) := hp
  obtain ⟨s, hs, es⟩ := staB_nat N l ps
  have hm0 := metB_pos N l ps
  have hm1 := metB_le hp ps.length ps rfl
  have HND := refNode_any N p a cap l hp pa pc ps hps hlen _ (ha.next b1) (hpp.next b1)
  have HSC : Hid (lst stB (coB N l) N D (s : Int) ps.length (metB N l ps) = scoB N l D ps) := scoB_lst es D
  rw [es] at HND
  obtain ⟨M, hM⟩ : ∃ M, metB N l ps = M := ⟨_, rfl⟩
  rw [hM] at HND hm0 hm1 HSC
  obtain ⟨V, hV⟩ : ∃ V, scoB N l D ps = V := ⟨_, rfl⟩
  rw [hV] at HSC ⊢
  obtain ⟨n, hn⟩ : ∃ n, ps.length = n := ⟨_, rfl⟩
  rw [hn] at HND hm1 HSC hlen ⊢
  obtain ⟨D1, hD1⟩ : ∃ D1, D + 1 = D1 := ⟨_, rfl⟩
  rw [hD1]
  have eD : (D1 : Int) - 1 = (D : Int) := by omega
  have ewD : IntKind.i64.wrap (D : Int) = (D : Int) := by rw [IntKind.wrap_i64]; omega
  clear ha hpp hp hps es hM hV hn hD1
  go_enter Tryd.func18, Tryd.ntmps18
  go_wp2_with fail
  refine HND.mono ?_
  rintro e w2 ⟨qa, qc, rfl, oq, b2⟩
  clear HND oq
  have bb2 := b1.trans (b2.mono b1.size)
  have x12 := x1.next b2
  have xn := Box.new w2 32 #[.int .u32 (s : Int), .int .i64 M, .int .i64 0, .slice qa n qc]
  have b3 : Below w2.heap.size w2 (w2.alloc (.cells #[.int .u32 (s : Int), .int .i64 M, .int .i64 0, .slice qa n qc] 32)) := (Below.refl _ _).alloc (Nat.le_refl _) _
  have x13 := x12.next b3
  have bb3 := bb2.trans (b3.mono bb2.size)
  clear x1 x12 b1 b2 b3 bb2
  go_wp2
  obtain ⟨W3, hW3⟩ : ∃ W, w2.alloc (.cells #[.int .u32 (s : Int), .int .i64 M, .int .i64 0, .slice qa n qc] 32) = W := ⟨_, rfl⟩
  rw [hW3] at xn x13 bb3 ⊢
  clear hW3
  have d0 := x13.cell 0 _ rfl
  have d1 := x13.cell 1 _ rfl
  have d2 := x13.cell 2 _ rfl
  have n0 := xn.cell 0 _ rfl
  have n1 := xn.cell 1 _ rfl
  have HPL : Hid (∀ wx : World, Syms wx.heap.size wx (.slice a l.length cap) l → Calls Tryd.prog 35 #[.agg #[.int .i64 N, .int .i64 p, .slice a l.length cap]] wx fun e W' => ∃ r, e = .returned r ∧ Segs W'.heap.size W' r (segsL N l) ∧ Below wx.heap.size wx W') := fun wx h => refPiles_any N p a cap l HP.out wx h
  have HAW : Hid (Syms W3.heap.size W3 (.slice a l.length cap) l) := HA.out.next bb3
  have HLE : Hid (∀ (b off c n₀ : Nat) (wx : World), Segs n₀ wx (.slice (some ⟨b, off, none⟩) N c) (segsL N l) → Calls Tryd.prog 38 #[.slice (some ⟨b, off, none⟩) N c, .int .u32 (s : Int), .int .i64 (n : Int), .int .i64 M, .int .i64 (D : Int)] wx fun e w' => e = .returned (.int .i64 V) ∧ ∃ n, w' = wx.drewN n) := fun b off c n₀ wx h => by
    have := refLeast_any b off N c l p HP.out n₀ D (by omega) s n M hs hlen hm0 (by omega) wx h
    rw [HSC.out] at this
    exact this
  have hlp := x13.lt
  have hln := xn.lt
  first | go_region_with (first | (go_at_call 35; refine (HPL.out _ (by exact HAW.out)).mono ?_; rintro e w4 ⟨r4, rfl, hS4, b4⟩; obtain ⟨sb, so, sc4, e4, _⟩ := hS4.shape; rw [segsL_len] at e4; subst e4; have m0 := (b4.cell (p := ⟨w2.heap.size, 0, none⟩) hln).trans n0; have m1 := (b4.cell (p := ⟨w2.heap.size, 1, none⟩) hln).trans n1; have HS4 : Hid (Segs w4.heap.size w4 (.slice (some ⟨sb, so, none⟩) N sc4) (segsL N l)) := hS4; clear hS4) | (go_at_call 38; refine (HLE.out _ _ _ _ _ (by exact HS4.out)).mono ?_; rintro e w5 ⟨rfl, q5, rfl⟩)) | fail
  all_goals (
    have b6 : Below w.heap.size w w4 := bb3.drew.trans (b4.mono bb3.size)
    go_wp2
    go_ret
    exact ⟨rfl, below_drewN b6 q5⟩)

end Go.Proofs.YtddcloanbpkecaaDoor
