/-
  The laws' own guard over beam (wakes) answers true; what lay lies as it lay.
-/
import Derived.Test.YtddcloanbpkecaaDoorBeamDecode
import Derived.Test.YtddcloanbpkecaaDoorBeamNode
import Derived.Test.YtddcloanbpkecaaDoorHeardWalk
import Derived.Test.YtddcloanbpkecaaDoorBeamFourNums
import Derived.Test.YtddcloanbpkecaaDoorKeepInts
namespace Go.Proofs.YtddcloanbpkecaaDoor
open Go.RowKit

theorem decB_of {L : List Nd} {cut : Int} {n : Nd} {t : List Nd} (hl : L = n :: t) (ht : ∀ u, t.head? = some u → u.2.1 ≠ n.2.1) (hc : ¬ (0 ≤ cut ∧ cut ≤ n.2.1)) : decB L cut = some (pathOf n, n.2.1) := by
  subst hl
  simp only [decB]
  rw [if_neg]
  · rfl
  rintro (h | h)
  · cases t with
    | nil => simp at h
    | cons u t => simp at h; exact ht u rfl h
  · exact hc h
theorem decB_inv {L : List Nd} {cut : Int} {ps : List Int} {M : Int} (h : decB L cut = some (ps, M)) : ∃ n t, L = n :: t ∧ pathOf n = ps ∧ n.2.1 = M ∧ (∀ u, t.head? = some u → u.2.1 ≠ n.2.1) ∧ ¬ (0 ≤ cut ∧ cut ≤ n.2.1) := by
  match L with
  | [] => cases h
  | n :: t =>
    simp only [decB] at h
    split at h
    · cases h
    · next hh =>
      cases h
      refine ⟨n, t, rfl, rfl, rfl, fun u hu e => hh (.inl ?_), fun e => hh (.inr e)⟩
      rw [hu]
      exact congrArg some e
/-- By the first four symbols of each segment a block is told. -/
theorem dec_four (zs : List Int) (C D b : Nat) (hb : 1 ≤ b) (h0 : 1 ≤ zs.length) (hn : 2 * zs.length < 65) (hC : 4 * (2 * zs.length) ≤ C) : decB (walkB (2 * zs.length) (heardL zs [] [] C) b D (2 * zs.length)).1 (walkB (2 * zs.length) (heardL zs [] [] C) b D (2 * zs.length)).2 = some (nibs zs, 0) := by
  obtain ⟨n, t, h1, h2, h3, h4, h5⟩ := told_four zs C D b hb h0 hn hC
  have := decB_of (cut := (walkB (2 * zs.length) (heardL zs [] [] C) b D (2 * zs.length)).2) h1 h4 h5
  rw [h2, h3] at this
  exact this
theorem flags_nil (n₀ : Nat) (w : World) : Flags n₀ w (.slice none 0 0) [] := .inl ⟨⟨_, _, rfl⟩, rfl⟩
theorem holds_nil8 (n₀ : Nat) (w : World) : Holds .u8 n₀ w (.slice none 0 0) (([] : List Nat).map fun t : Nat => (t : Int)) := .inl ⟨⟨_, _, rfl, fun _ => rfl⟩, rfl⟩

set_option maxRecDepth 100000 in
set_option maxHeartbeats 1000000 in
theorem beamWakes_any (w : World) (hF : Firsts w) : Calls Tryd.prog 19 #[] w fun e w' => e = .returned (.bool true) ∧ Below w.heap.size w w' := by
  have h0 := held_new .u8 w [90] 1 5 (0, 0)
  have b0 := (Below.refl w.heap.size w).alloc (Nat.le_refl _) (.cells #[.int .u8 90] 5)
  have HH := heard_any (some ⟨w.heap.size, 0, none⟩) 1 1 [90] rfl (by decide) (by decide) (by decide) 4 8 (by decide) (by decide) (by decide) none 0 0 [] rfl (by decide) none 0 0 [] rfl (by decide) (by simp) (w.alloc (.cells #[.int .u8 90] 5)) (hF.next b0) h0 (flags_nil _ _) (holds_nil8 _ _)
  have HOK : PileOk ((2 : Nat) : Int) ((4 : Nat) : Int) (heardL [90] [] [] 8) := heardL_ok ⟨by decide, by decide, by decide, by decide⟩ (by simp) (fun k => codeN_lt _ k) (by decide)
  have HDE : decB (walkB 2 (heardL [90] [] [] 8) 2 0 2).1 (walkB 2 (heardL [90] [] [] 8) 2 0 2).2 = some ([5, 10], 0) := dec_four [90] 8 0 2 (by decide) (by decide) (by decide) (by decide)
  go_enter Tryd.func19, Tryd.ntmps19
  go_wp2_with fail
  refine HH.mono ?_
  rintro e w1 ⟨r, rfl, o1, b1⟩
  clear HH
  have bb1 := b0.trans (b1.mono (by simp))
  obtain ⟨ra, rc, e1⟩ := rowN_shape o1
  have hs1 := syms_of_row o1
  rw [e1] at hs1
  obtain ⟨ll, hll⟩ : ∃ ll, heardL [90] [] [] 8 = ll := ⟨_, rfl⟩
  rw [hll] at hs1 HOK HDE e1
  obtain ⟨ln, hln⟩ : ∃ ln, ll.length = ln := ⟨_, rfl⟩
  have b2 : Below w1.heap.size w1 (w1.alloc (.cells #[.int .i64 2, .int .i64 4, .slice ra ln rc] 24)) := (Below.refl _ _).alloc (Nat.le_refl _) _
  have bb2 := bb1.trans (b2.mono bb1.size)
  have HD := Decode_ok 2 4 ra rc ll HOK 2 (by decide) (by decide) 0 (by decide) (w1.alloc (.cells #[.int .i64 2, .int .i64 4, .slice ra ln rc] 24)) (hs1.next b2) (hF.next bb2)
  rw [HDE, hln] at HD
  rw [hln] at e1
  subst e1
  clear HDE HOK hs1 o1 hll hln
  go_wp2_with fail
  refine HD.mono ?_
  rintro e w3 ⟨he, b3⟩
  rcases he with ⟨hno, _⟩ | ⟨ps, M, hsm, qa, qc, rfl, _, hH⟩
  · cases hno
  cases hsm
  clear HD
  have bb3 := bb2.trans (b3.mono bb2.size)
  have b4 : Below w3.heap.size w3 (w3.alloc (.cells #[.int .i64 5, .int .i64 10] 3)) := (Below.refl _ _).alloc (Nat.le_refl _) _
  have h5 := held_new .i64 w3 [5, 10] 2 3 (0, 0)
  have HI := ints_any (.slice qa 2 qc) (.slice (some ⟨w3.heap.size, 0, none⟩) 2 2) [5, 10] [5, 10] _ _ (w3.alloc (.cells #[.int .i64 5, .int .i64 10] 3)) (by decide) (hH.next b4) h5
  rw [decide_eq_true rfl] at HI
  clear hH h5
  go_wp2_with fail
  refine HI.mono ?_
  rintro e w6 ⟨rfl, q6, rfl⟩
  go_wp2
  go_ret
  exact ⟨rfl, below_drewN (bb3.trans (b4.mono bb3.size)) q6⟩

end Go.Proofs.YtddcloanbpkecaaDoor
