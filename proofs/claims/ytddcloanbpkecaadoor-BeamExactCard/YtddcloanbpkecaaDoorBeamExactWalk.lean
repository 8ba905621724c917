/-
  BeamExact: the cases joined: whatever the pile, the path, the beam and the depth, the law answers true, and nothing that lay has turned.
-/
import Derived.Test.YtddcloanbpkecaaDoorBeamExactA
import Derived.Test.YtddcloanbpkecaaDoorBeamExactB
import Derived.Test.YtddcloanbpkecaaDoorBeamExactC
import Derived.Test.YtddcloanbpkecaaDoorBeamExactD
import Derived.Test.YtddcloanbpkecaaDoorBeamExactE
import Derived.Test.YtddcloanbpkecaaDoorBeamExactF
namespace Go.Proofs.YtddcloanbpkecaaDoor
open Go.RowKit

set_option maxRecDepth 100000 in
set_option maxHeartbeats 2000000 in
theorem beamExact_long (n p : Int) (a : Option Addr) (cap : Nat) (l : List (Int × Int)) (hl : 400 < l.length) (pa : Option Addr) (pc : Nat) (ps : List Int) (b d : Int) (w : World) :
    Calls Tryd.prog 3 #[.agg #[.int .i64 n, .int .i64 p, .slice a l.length cap], .slice pa ps.length pc, .int .i64 b, .int .i64 d] w fun e w' => e = .returned (.bool true) ∧ Below w.heap.size w w' := by
  have dl : decide (400 < (l.length : Int)) = true := decide_eq_true (by omega)
  have dl' : decide (400 < l.length) = true := decide_eq_true (by omega)
  have bb : Below w.heap.size w (w.alloc (.cells #[.int .i64 n, .int .i64 p, .slice a l.length cap] 24)) := (Below.refl w.heap.size w).alloc (Nat.le_refl _) _
  clear hl
  go_enter Tryd.func3, Tryd.ntmps3
  go_wp2
  go_ret
  exact ⟨rfl, bb⟩

set_option maxRecDepth 100000 in
set_option maxHeartbeats 2000000 in
theorem beamExact_far (n p : Int) (a : Option Addr) (cap : Nat) (l : List (Int × Int)) (hl : l.length ≤ 400) (pa : Option Addr) (pc : Nat) (ps : List Int) (hq : 100 < ps.length) (b d : Int) (w : World) :
    Calls Tryd.prog 3 #[.agg #[.int .i64 n, .int .i64 p, .slice a l.length cap], .slice pa ps.length pc, .int .i64 b, .int .i64 d] w fun e w' => e = .returned (.bool true) ∧ Below w.heap.size w w' := by
  have dl : decide (400 < (l.length : Int)) = false := decide_eq_false (by omega)
  have dl' : decide (400 < l.length) = false := decide_eq_false (by omega)
  have dq : decide (100 < (ps.length : Int)) = true := decide_eq_true (by omega)
  have dq' : decide (100 < ps.length) = true := decide_eq_true (by omega)
  have bb : Below w.heap.size w (w.alloc (.cells #[.int .i64 n, .int .i64 p, .slice a l.length cap] 24)) := (Below.refl w.heap.size w).alloc (Nat.le_refl _) _
  clear hl hq
  go_enter Tryd.func3, Tryd.ntmps3
  go_wp2
  go_ret
  exact ⟨rfl, bb⟩

theorem beamB_in {b d : Int} (h : beamB b d = true) : 1 ≤ d ∧ d ≤ 3 := by
  unfold beamB at h
  simp at h
  omega

theorem beamExact_any (n p : Int) (a : Option Addr) (cap : Nat) (l : List (Int × Int)) (pa : Option Addr) (pc : Nat) (ps : List Int) (b d : Int) (w : World) (ha : Syms w.heap.size w (.slice a l.length cap) l) (hpp : Holds .i64 w.heap.size w (.slice pa ps.length pc) ps) (hF : Firsts w) :
    Calls Tryd.prog 3 #[.agg #[.int .i64 n, .int .i64 p, .slice a l.length cap], .slice pa ps.length pc, .int .i64 b, .int .i64 d] w fun e w' => e = .returned (.bool true) ∧ Below w.heap.size w w' := by
  by_cases hl0 : 400 < l.length
  · exact beamExact_long n p a cap l hl0 pa pc ps b d w
  have hl : l.length ≤ 400 := by omega
  by_cases hq0 : 100 < ps.length
  · exact beamExact_far n p a cap l hl pa pc ps hq0 b d w
  have hq : ps.length ≤ 100 := by omega
  by_cases hp : PileOk n p l
  · obtain ⟨N, rfl⟩ : ∃ N : Nat, n = (N : Int) := ⟨n.toNat, by have := hp.1.1; omega⟩
    by_cases hlen : N < ps.length
    · cases hbm : beamB b d with
      | false => exact beamExact_len N p a cap l hl pa pc ps hq b d hp hlen hbm w ha hpp hF
      | true =>
        cases hdec : decB (walkB N l b.toNat (d.toNat - 1) N).1 (walkB N l b.toNat (d.toNat - 1) N).2 with
        | none => exact beamExact_lenB N p a cap l hl pa pc ps hq b d hp hlen hbm hdec w ha hpp hF
        | some x => exact beamExact_lenT x.1 x.2 N p a cap l hl pa pc ps hq b d hp hlen hbm hdec w ha hpp hF
    · have hm : ps.length ≤ N := by omega
      by_cases hps : Path ps
      · cases hbm : beamB b d with
        | false =>
          by_cases h1 : d < 1
          · exact beamExact_lo N p a cap l hl pa pc ps hq b d hp hm hps h1 hbm w ha hpp hF
          by_cases h3 : 3 < d
          · exact beamExact_hi N p a cap l hl pa pc ps hq b d hp hm hps h3 hbm w ha hpp hF
          exact beamExact_inD N p a cap l hl pa pc ps hq b d hp hm hps ⟨by omega, by omega⟩ hbm w ha hpp hF
        | true =>
          cases hdec : decB (walkB N l b.toNat (d.toNat - 1) N).1 (walkB N l b.toNat (d.toNat - 1) N).2 with
          | none => exact beamExact_all N p a cap l hl pa pc ps hq b d hp hm hps (beamB_in hbm) hbm hdec w ha hpp hF
          | some x => exact beamExact_allT x.1 x.2 N p a cap l hl pa pc ps hq b d hp hm hps (beamB_in hbm) hbm hdec w ha hpp hF
      · cases hbm : beamB b d with
        | false => exact beamExact_nop N p a cap l hl pa pc ps hq b d hp hm hps hbm w ha hpp hF
        | true =>
          cases hdec : decB (walkB N l b.toNat (d.toNat - 1) N).1 (walkB N l b.toNat (d.toNat - 1) N).2 with
          | none => exact beamExact_nopB N p a cap l hl pa pc ps hq b d hp hm hps hbm hdec w ha hpp hF
          | some x => exact beamExact_nopT x.1 x.2 N p a cap l hl pa pc ps hq b d hp hm hps hbm hdec w ha hpp hF
  · cases hbm : beamB b d with
    | false => exact beamExact_no n p a cap l hl pa pc ps hq b d hp hbm w ha hpp hF
    | true => exact beamExact_noB n p a cap l hl pa pc ps hq b d hp hbm w ha hpp hF

/-- The law, of whatever pile, path, beam and depth. -/
theorem beamExact_walk (n p : Int) (a : Option Addr) (len cap : Nat) (l : List (Int × Int)) (a1 : Option Addr) (len1 cap1 : Nat) (z1 : List Int) (b d : Int) (w : World) (h0 : IsSyms w a len cap l) (h1 : IsRow .i64 w a1 len1 cap1 z1) (hF : Firsts w) :
    Calls Tryd.prog 3 #[.agg #[.int .i64 n, .int .i64 p, .slice a len cap], .slice a1 len1 cap1, .int .i64 b, .int .i64 d] w fun e w' => e = .returned (.bool true) ∧ Below w.heap.size w w' := by
  obtain ⟨rfl, _, _, ha, _⟩ := h0
  obtain ⟨xs, rfl, hx, _⟩ := holds_of_isRow h1
  exact beamExact_any n p a cap l a1 cap1 xs b d w ha hx hF

end Go.Proofs.YtddcloanbpkecaaDoor
