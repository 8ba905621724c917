/-
  What pick.Pick answers.
-/
import Derived.Test.YtddcloanbpkecaaDoorPickLeast1
namespace Go.Proofs.YtddcloanbpkecaaDoor
open Go.RowKit

set_option maxRecDepth 100000 in
set_option maxHeartbeats 2000000 in
theorem Pick_low (v : Value) (b : Int) (hb : b < 1) (w : World) :
    Calls Tryd.prog 30 #[v, .int .i64 b] w fun e W' => e = .returned (.tuple #[.slice none 0 0, .int .i64 0, .int .i64 1]) ∧ Below w.heap.size w W' := by
  have d1 : decide (b < 1) = true := decide_eq_true hb
  go_enter Tryd.func30, Tryd.ntmps30
  go_wp2
  go_ret3
  exact ⟨rfl, Below.refl _ _⟩

set_option maxRecDepth 100000 in
set_option maxHeartbeats 2000000 in
theorem Pick_high (v : Value) (b : Int) (hb : 16 < b) (w : World) :
    Calls Tryd.prog 30 #[v, .int .i64 b] w fun e W' => e = .returned (.tuple #[.slice none 0 0, .int .i64 0, .int .i64 1]) ∧ Below w.heap.size w W' := by
  have d1 : decide (b < 1) = false := decide_eq_false (by omega)
  have d2 : decide (16 < b) = true := decide_eq_true hb
  go_enter Tryd.func30, Tryd.ntmps30
  go_wp2
  go_ret3
  exact ⟨rfl, Below.refl _ _⟩

set_option maxRecDepth 100000 in
set_option maxHeartbeats 2000000 in
theorem Pick_below (v : Value) (l : List Nd) (hl : l.length ≤ 4611686018427387904) (b : Int) (h1 : 1 ≤ b) (h2 : b ≤ 16) (hbel : anyBelow l = true) (w : World) (ha : Nodes w.heap.size w v l) :
    Calls Tryd.prog 30 #[v, .int .i64 b] w fun e W' => e = .returned (.tuple #[.slice none 0 0, .int .i64 0, .int .i64 1]) ∧ Below w.heap.size w W' := by
  have d1 : decide (b < 1) = false := decide_eq_false (by omega)
  have d2 : decide (16 < b) = false := decide_eq_false (by omega)
  obtain ⟨a, cap, rfl⟩ := ha.shape
  have HC := containsBelow_any a cap l.length l rfl hl w ha
  rw [hbel] at HC
  clear ha
  go_enter Tryd.func30, Tryd.ntmps30
  go_wp2_with fail
  refine HC.mono ?_
  rintro e w2 ⟨rfl, b2⟩
  go_wp2
  go_ret3
  exact ⟨rfl, b2⟩

/-- ErrArg. -/
theorem Pick_arg (v : Value) (l : List Nd) (hl : l.length ≤ 4611686018427387904) (b : Int) (h : b < 1 ∨ 16 < b ∨ anyBelow l = true) (w : World) (ha : Nodes w.heap.size w v l) :
    Calls Tryd.prog 30 #[v, .int .i64 b] w fun e W' => e = .returned (.tuple #[.slice none 0 0, .int .i64 0, .int .i64 1]) ∧ Below w.heap.size w W' := by
  by_cases h1 : b < 1
  · exact Pick_low v b h1 w
  · by_cases h2 : 16 < b
    · exact Pick_high v b h2 w
    · rcases h with h | h | h
      · exact absurd h h1
      · exact absurd h h2
      · exact Pick_below v l hl b (by omega) (by omega) h w ha

set_option maxRecDepth 100000 in
set_option maxHeartbeats 2000000 in
/-- ErrLen. -/
theorem Pick_len (v : Value) (l : List Nd) (hl : l.length ≤ 4611686018427387904) (hlen : 256 < l.length) (b : Int) (h1 : 1 ≤ b) (h2 : b ≤ 16) (hbel : anyBelow l = false) (w : World) (ha : Nodes w.heap.size w v l) :
    Calls Tryd.prog 30 #[v, .int .i64 b] w fun e W' => e = .returned (.tuple #[.slice none 0 0, .int .i64 0, .int .i64 2]) ∧ Below w.heap.size w W' := by
  have d1 : decide (b < 1) = false := decide_eq_false (by omega)
  have d2 : decide (16 < b) = false := decide_eq_false (by omega)
  obtain ⟨a, cap, rfl⟩ := ha.shape
  have HC := containsBelow_any a cap l.length l rfl hl w ha
  rw [hbel] at HC
  clear ha
  go_enter Tryd.func30, Tryd.ntmps30
  go_wp2_with fail
  refine HC.mono ?_
  rintro e w2 ⟨rfl, b2⟩
  go_wp2
  go_ret3
  exact ⟨rfl, b2⟩

set_option maxRecDepth 100000 in
set_option maxHeartbeats 4000000 in
/-- What it answers else. -/
theorem Pick_ok (v : Value) (l : List Nd) (hlen : l.length ≤ 256) (hp : ∀ x ∈ l, x.2.2.2.length ≤ 4294967296) (B : Nat) (h1 : 1 ≤ B) (h2 : B ≤ 16) (h0 : ∀ x ∈ l, 0 ≤ sc x) (w : World) (ha : Nodes w.heap.size w v l) :
    Calls Tryd.prog 30 #[v, .int .i64 (B : Int)] w fun e W' => ∃ r, e = .returned (.tuple #[r, .int .i64 (cutK sc B l), .int .i64 0]) ∧ OwnNodes w.heap.size W' r (keptN B l) ∧ Below w.heap.size w W' := by
  have d1 : decide ((B : Int) < 1) = false := decide_eq_false (by omega)
  have d2 : decide (16 < (B : Int)) = false := decide_eq_false (by omega)
  have HC := fun (a : Option Addr) (cap : Nat) (hv : v = .slice a l.length cap) => containsBelow_any a cap l.length l rfl (by omega) w (hv ▸ ha)
  have HL := fun (w1 : World) (b1 : Below w.heap.size w w1) => least_ok v l (by omega) h0 B h1 (by omega) w1 (ha.next b1)
  rw [anyBelow_of h0] at HC
  have HK : Hid (keptN B l = pickAt l ((ord (scores l)).take B)) := kept_ord B l
  have HKL : Hid (((ord (scores l)).take B).length = min B l.length) := by
    show ((ord (scores l)).take B).length = min B l.length
    rw [List.length_take, ord_len, scores_len]
  have HKM : Hid (∀ i ∈ (ord (scores l)).take B, i < l.length) := fun i hi => by
    have := ord_take_lt hi
    rwa [scores_len] at this
  rw [cut_ord] at HL
  obtain ⟨K, hK⟩ : ∃ K, (ord (scores l)).take B = K := ⟨_, rfl⟩
  obtain ⟨C, hC⟩ : ∃ C, cutK sc B l = C := ⟨_, rfl⟩
  rw [hK] at HK HKL HKM HL
  rw [hC] at HL ⊢
  rw [HK.out]
  clear hK hC HK
  obtain ⟨a, cap, hv⟩ := ha.shape
  have HC2 := HC a cap hv
  subst hv
  obtain ⟨n, hn⟩ : ∃ n, l.length = n := ⟨_, rfl⟩
  rw [hn] at HC2 HL ha hlen HKL HKM ⊢
  have HN : Hid (l.length = n) := hn
  have HA : Hid (Nodes w.heap.size w (.slice a n cap) l) := ha
  have HP : Hid (∀ x ∈ l, x.2.2.2.length ≤ 4294967296) := hp
  clear HC hn ha hp h0
  obtain ⟨k0, hk0⟩ : ∃ k0, min B n = k0 := ⟨_, rfl⟩
  rw [hk0] at HL HKL
  have hk16 : k0 ≤ 16 := by omega
  clear hk0
  go_enter Tryd.func30, Tryd.ntmps30
  go_wp2_with fail
  refine HC2.mono ?_
  rintro e w1 ⟨rfl, b1⟩
  go_wp2_with fail
  refine (HL w1 b1).mono ?_
  rintro e w2 ⟨r, rfl, or, b2⟩
  obtain ⟨pa, pc, rfl⟩ := rowN_shape or
  have bw := b1.trans (b2.mono b1.size)
  have HPL : Hid (Holds .i64 w2.heap.size w2 (.slice pa k0 pc) (nats K)) := holds_of_row or
  clear HC2 HL b1 b2 or
  go_wp2
  go_loopw [4, 31] (fun s4 s31 wr => ∃ (k : Nat) (r : List Rn), k ≤ k0 ∧ s31 = .int .i64 k ∧ wr.ownsRow w2.heap.size 32 4 s4 k (rnCells r) ∧ OwnRns w2.heap.size wr r (pickAt l (K.take k)) ∧ Below w2.heap.size w2 wr) (fun _ i _ => k0 - (intOf i).toNat)
  case atStart => exact ⟨0, [], Nat.zero_le _, rfl, World.ownsRow_nil _ _ _ _, by rw [List.take_zero]; exact ownRns_nil _ _, Below.refl _ _⟩
  case round =>
    obtain ⟨k, r, hk, rfl, ho, hr, bx⟩ := hrel
    have hsz := bw.size
    have hsx := bx.size
    by_cases hlt : k < k0
    · obtain ⟨i, hi⟩ : ∃ i, K[k]? = some i := ⟨K[k]'(by rw [HKL.out]; exact hlt), by simp⟩
      have hin : i < n := HKM.out i (List.mem_of_getElem? hi)
      obtain ⟨⟨s, m, c, ps⟩, hxi⟩ : ∃ x, l[i]? = some x := ⟨l[i]'(by rw [HN.out]; exact hin), by simp⟩
      obtain ⟨pb, poff, rfl, _, hpc⟩ := holds_at (HPL.out.below bx) (by rw [nats_len]; exact HKL.out) (by omega)
      have p0 := hpc k _ (nats_get hi)
      obtain ⟨b, off, rfl, _, hc⟩ := nodes_at (HA.out.below (bw.trans (bx.mono hsz))) HN.out (by omega)
      obtain ⟨p, hp, c0, c1, c2, c3⟩ := hc _ _ hxi
      obtain ⟨qa0, qc0, rfl⟩ := hp.shape
      have hpl : ps.length ≤ 4294967296 := HP.out _ (List.mem_of_getElem? hxi)
      have HK1 : Hid (pickAt l (K.take (k + 1)) = pickAt l (K.take k) ++ [(s, m, c, ps)]) := by
        show pickAt l (K.take (k + 1)) = pickAt l (K.take k) ++ [(s, m, c, ps)]
        rw [List.take_add_one, hi]
        unfold pickAt
        rw [List.map_append]
        simp [hxi]
      clear hpc hc hi hxi
      go_wp2_with fail
      refine (clone_node s m c qa0 qc0 w.heap.size ps hpl wr (by omega) hp).mono ?_
      rintro e w3 ⟨qa, qc, rfl, oq, b3⟩
      have ho3 := rowN_below ho b3 (Nat.le_refl _)
      obtain ⟨v4, w4, hr4, ho4, hg4⟩ := run_append_node _ k w2.heap.size r s m c (.slice qa ps.length qc) ⟨_, _, _, rfl⟩ 38 _ ho3 (Nat.le_trans hsx b3.size) (by omega)
      have own4 : OwnRns w2.heap.size w4 (r ++ [(s, m, c, .slice qa ps.length qc)]) (pickAt l (K.take (k + 1))) := by
        rw [HK1.out]
        have z1 := (hr.below b3 (Nat.le_refl _)).snoc (x := (s, m, c, .slice qa ps.length qc)) (y := (s, m, c, ps)) rfl rfl rfl oq hsx (fun u hu g hg => hr.lt u hu g hg)
        exact (z1.below ((Below.refl _ _).alloc (Nat.le_refl _) _) (Nat.le_refl _)).kept (ho3.alloc _) hg4
      have b4 : Below w2.heap.size w2 w4 := ((bx.trans (b3.mono hsx)).alloc (Nat.le_trans hsx b3.size) _).grown hg4 (by have := b3.size; simp only [World.size_alloc]; omega) (fun q e => (ho.lt q e).1)
      have HR : Hid _ := hr4
      clear hr4 ho3 oq ho hr b3 hg4 c0 c1 c2 c3 p0
      go_wp2_with (at_builtin; refine wpList_append_known rfl _ _ 38 rfl _ _ rfl rfl _ _ HR.out ?_)
      exact ⟨⟨k + 1, _, by omega, by go_num, ho4, own4, b4⟩, by simp [intOf]; omega⟩
    · obtain rfl : k = k0 := by omega
      go_wp2
      go_ret3
      rw [List.take_of_length_le (by rw [HKL.out]; exact Nat.le_refl _)] at hr
      have hlen2 : (pickAt l K).length = k := by
        unfold pickAt
        rw [List.length_map]
        exact HKL.out
      refine ⟨_, rfl, ⟨r, by rw [hlen2]; exact rowN_base ho hsz, hr.1, fun j x y hx hy => ?_, hr.2.2⟩, bw.trans (bx.mono hsz)⟩
      obtain ⟨e1, e2, e3, e4⟩ := hr.2.1 j x y hx hy
      exact ⟨e1, e2, e3, rowN_base e4 hsz⟩

end Go.Proofs.YtddcloanbpkecaaDoor
