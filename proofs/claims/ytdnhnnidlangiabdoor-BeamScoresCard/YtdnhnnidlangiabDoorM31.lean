/-
  What the page's own Pick answers. (Written by tpl_refpick.py.)
-/
import Derived.Test.YtdnhnnidlangiabDoorM23
import Derived.Test.YtdnhnnidlangiabDoorM28
import Derived.Test.YtdnhnnidlangiabDoorM29
import Derived.Test.YtdnhnnidlangiabDoorM30
import Derived.BigRegion
import Derived.Deep.RegionWith
import Derived.RegionTactic
namespace Go.Proofs.YtdnhnnidlangiabDoor
open Go.RowKit

theorem leq_skip {cs : List Int} {tk : List Nat} {i : Nat} (hi : i ∈ tk) {z : Int} : (∃ j, j < i ∧ j ∉ tk ∧ at0 cs j = z) ↔ ∃ j, j < i + 1 ∧ j ∉ tk ∧ at0 cs j = z := by
  constructor
  · rintro ⟨j, h1, h2, h3⟩
    exact ⟨j, by omega, h2, h3⟩
  · rintro ⟨j, h1, h2, h3⟩
    rcases Nat.lt_or_eq_of_le (Nat.lt_succ_iff.1 h1) with h | h
    · exact ⟨j, h, h2, h3⟩
    · subst h; exact absurd hi h2
theorem leq_more {cs : List Int} {tk : List Nat} {i : Nat} {c : Int} (hi : i ∉ tk) (hc : at0 cs i = c) {z : Int} : ((∃ j, j < i ∧ j ∉ tk ∧ at0 cs j = z) ∨ z = c) ↔ ∃ j, j < i + 1 ∧ j ∉ tk ∧ at0 cs j = z := by
  constructor
  · rintro (⟨j, h1, h2, h3⟩ | h)
    · exact ⟨j, by omega, h2, h3⟩
    · exact ⟨i, by omega, hi, by rw [hc, h]⟩
  · rintro ⟨j, h1, h2, h3⟩
    rcases Nat.lt_or_eq_of_le (Nat.lt_succ_iff.1 h1) with h | h
    · exact .inl ⟨j, h, h2, h3⟩
    · subst h; exact .inr (by rw [← h3, hc])

end Go.Proofs.YtdnhnnidlangiabDoor

/-
  What the page's Walk answers: the list at the end, and the cut.
-/
namespace Go.Proofs.YtdnhnnidlangiabDoor
open Go.RowKit

/-- The walk over a pile. -/
def walkB (N : Nat) (l : List (Int × Int)) (b D i : Nat) : List Nd × Int := walkTo stB (coB N l) N (beginN : Int) b D i
def kidsB (N : Nat) (l : List (Int × Int)) (D i : Nat) (L : List Nd) : List Nd := kidsOf stB (coB N l) N D i L
def kidB (N : Nat) (l : List (Int × Int)) (D i : Nat) (n : Nd) (k : Int) : Nd := kidS stB (coB N l) N D i n k
theorem walkB_next (N : Nat) (l : List (Int × Int)) (b D i : Nat) : walkB N l b D (i + 1) = (keptN b (kidsB N l D i (walkB N l b D i).1), lmin (walkB N l b D i).2 (cutK sc b (kidsB N l D i (walkB N l b D i).1))) := rfl
theorem kidsB_snoc (N : Nat) (l : List (Int × Int)) (D i : Nat) (L : List Nd) (n : Nd) : kidsB N l D i (L ++ [n]) = kidsB N l D i L ++ nib16.map (kidB N l D i n) := by
  unfold kidsB kidsOf
  rw [List.flatMap_append]
  simp [kidB]
theorem kidB_eq {N : Nat} {l : List (Int × Int)} {D i s k : Nat} {n : Nd} (hs : n.1 = (s : Int)) (hl : n.2.2.2.length = i) : kidB N l D i n (k : Int) = (((stepN s k : Nat) : Int), n.2.1 + ((costN (stepN s k) (ofL N l i) : Nat) : Int), lst stB (coB N l) N D ((stepN s k : Nat) : Int) (i + 1) (n.2.1 + ((costN (stepN s k) (ofL N l i) : Nat) : Int)), n.2.2.2 ++ [(k : Int)]) := by
  unfold kidB kidS kid
  rw [hs, hl, stB_nat, coB_nat]
/-- What is known of the list's nodes. -/
theorem walkB_node {N : Nat} {p : Int} {l : List (Int × Int)} (hp : PileOk (N : Int) p l) {b D i : Nat} (hb : 1 ≤ b) {n : Nd} (h : n ∈ (walkB N l b D i).1) : (∃ s : Nat, s < 4294967296 ∧ n.1 = (s : Int)) ∧ 0 ≤ n.2.1 ∧ n.2.1 ≤ 8192 * (i : Int) ∧ n.2.2.2.length = i := by
  obtain ⟨P, h1, h2, h3, _⟩ := (walkTo_inv stB (coB N l) N (beginN : Int) D b hb i).node n h
  obtain ⟨s, hs, es⟩ := staB_nat N l P
  have e : n.2.1 = metB N l P := h3.2.1
  refine ⟨⟨s, hs, h3.1.trans es⟩, by rw [e]; exact metB_pos N l P, by rw [e]; exact metB_le hp i P h1, by rw [h3.2.2]; exact h1⟩
theorem walkB_len (N : Nat) (l : List (Int × Int)) {b D i : Nat} (hb : 1 ≤ b) (hb2 : b ≤ 16) : (walkB N l b D i).1.length ≤ 16 := by
  have := (walkTo_inv stB (coB N l) N (beginN : Int) D b hb i).most
  unfold walkB
  omega
theorem kidsB_ok {N : Nat} {p : Int} {l : List (Int × Int)} (hp : PileOk (N : Int) p l) {b D i : Nat} (hb : 1 ≤ b) : ∀ x ∈ kidsB N l D i (walkB N l b D i).1, 0 ≤ sc x ∧ x.2.2.2.length = i + 1 := by
  intro x hx
  obtain ⟨n, hn, k, hk, rfl⟩ := kidsOf_mem stB (coB N l) N hx
  obtain ⟨⟨s, hs, es⟩, h1, h2, h3⟩ := walkB_node hp hb hn
  obtain ⟨kn, rfl⟩ : ∃ kn : Nat, k = (kn : Int) := ⟨k.toNat, by omega⟩
  have e := kidB_eq (N := N) (l := l) (D := D) (k := kn) es h3
  unfold kidB at e
  rw [e]
  refine ⟨?_, by simp [h3]⟩
  show 0 ≤ lst stB (coB N l) N D _ _ _
  exact (lst_bd N l hp D _ _ _ (by omega)).1

end Go.Proofs.YtdnhnnidlangiabDoor

/-
  What the page's Decode answers. (Written by tpl_refdecode.py.)
-/
namespace Go.Proofs.YtdnhnnidlangiabDoor
open Go.RowKit

/-- What is told of a list and its cut: nothing, or the first one's path and metric. -/
def decB (L : List Nd) (cut : Int) : Option (List Int × Int) := match L with
  | [] => none
  | n :: t => if t.head?.map (fun u => u.2.1) = some n.2.1 ∨ (0 ≤ cut ∧ cut ≤ n.2.1) then none else some (n.2.2.2, n.2.1)
theorem decB_same {L : List Nd} {cut : Int} {n u : Nd} (h0 : L[0]? = some n) (h1 : L[1]? = some u) (h : u.2.1 = n.2.1) : decB L cut = none := by
  match L, h0, h1 with
  | n' :: u' :: t, h0, h1 =>
    simp at h0 h1
    subst h0 h1
    unfold decB
    simp [h]
theorem decB_cut {L : List Nd} {cut : Int} {n : Nd} (h0 : L[0]? = some n) {h1 : L[1]? = none ∨ ∃ u, L[1]? = some u ∧ u.2.1 ≠ n.2.1} (a : 0 ≤ cut) (b : cut ≤ n.2.1) : decB L cut = none := by
  match L, h0 with
  | n' :: t, h0 =>
    simp at h0
    subst h0
    unfold decB
    simp [a, b]
theorem decB_told {L : List Nd} {cut : Int} {n : Nd} (h0 : L[0]? = some n) {h1 : L[1]? = none ∨ ∃ u, L[1]? = some u ∧ u.2.1 ≠ n.2.1} (h : ¬ (0 ≤ cut ∧ cut ≤ n.2.1)) : decB L cut = some (n.2.2.2, n.2.1) := by
  match L, h0 with
  | n' :: t, h0 =>
    simp at h0
    subst h0
    simp only [decB]
    rw [if_neg]
    rintro (h2 | h2)
    · rcases h1 with h1 | ⟨u, hu, hne⟩
      · cases t with
        | nil => simp at h2
        | cons v t => simp at h1
      · cases t with
        | nil => simp at h2
        | cons v t => simp at h2 hu; subst hu; exact hne h2
    · exact h h2

end Go.Proofs.YtdnhnnidlangiabDoor

/-
  What the page's Beam and Score answer.
-/
namespace Go.Proofs.YtdnhnnidlangiabDoor
open Go.RowKit

/-- May both be? -/
def beamB (b d : Int) : Bool := decide (1 ≤ b) && decide (b ≤ 16) && decide (1 ≤ d) && decide (d ≤ 3)
/-- A path's Score, over a pile. -/
def scoB (N : Nat) (l : List (Int × Int)) (a : Nat) (P : List Int) : Int := scA stB (coB N l) N (beginN : Int) a P
theorem scoB_lst {N : Nat} {l : List (Int × Int)} {P : List Int} {s : Nat} (hs : staB N l P = (s : Int)) (a : Nat) : lst stB (coB N l) N a (s : Int) P.length (metB N l P) = scoB N l a P := by
  unfold scoB scA
  unfold staB at hs
  rw [hs]
  rfl

end Go.Proofs.YtdnhnnidlangiabDoor

/-
  What beam.Node and beam.Score answer.
-/
namespace Go.Proofs.YtdnhnnidlangiabDoor
open Go.RowKit

set_option maxRecDepth 100000 in
set_option maxHeartbeats 4000000 in
theorem Node_ok (N : Nat) (p : Int) (a : Option Addr) (cap : Nat) (l : List (Int × Int)) (hp : PileOk (N : Int) p l) (pa : Option Addr) (pc : Nat) (ps : List Int) (hps : Path ps) (hlen : ps.length ≤ N) (w : World) (ha : Syms w.heap.size w (.slice a l.length cap) l) (hpp : Holds .i64 w.heap.size w (.slice pa ps.length pc) ps) (hF : Firsts w) :
    Calls Tryd.prog 10 #[.agg #[.int .i64 N, .int .i64 p, .slice a l.length cap], .slice pa ps.length pc] w fun e W' => ∃ qa qc, e = .returned (.tuple #[.agg #[.int .u32 (staB N l ps), .int .i64 (metB N l ps), .int .i64 0, .slice qa ps.length qc], .int .i64 0]) ∧ W'.ownsRow w.heap.size 3 1 (.slice qa ps.length qc) ps.length (ps.map (Value.int .i64)) ∧ Below w.heap.size w W' := by
  have hN2 : N < 65 := by have := hp.1.2.1; omega
  have b1 : Below w.heap.size w ((w.alloc (.cells #[.int .i64 N, .int .i64 p, .slice a l.length cap] 24)).alloc (.cells #[.int .u32 0, .int .i64 0, .int .i64 0, .slice none 0 0] 34)) := ((Below.refl w.heap.size w).alloc (Nat.le_refl _) _).alloc (by simp) _
  have x4 : Box ((w.alloc (.cells #[.int .i64 N, .int .i64 p, .slice a l.length cap] 24)).alloc (.cells #[.int .u32 0, .int .i64 0, .int .i64 0, .slice none 0 0] 34)) (w.heap.size + 1) 34 #[.int .u32 0, .int .i64 0, .int .i64 0, .slice none 0 0] := by
    have := Box.new (w.alloc (.cells #[.int .i64 N, .int .i64 p, .slice a l.length cap] 24)) 34 #[.int .u32 0, .int .i64 0, .int .i64 0, .slice none 0 0]
    simpa using this
  have HBS := bySegment_ok N p a cap l hp _ (ha.next b1) (hF.next b1)
  have HPP : Hid (Holds .i64 w.heap.size w (.slice pa ps.length pc) ps) := hpp
  have HP : Hid (PileOk (N : Int) p l) := hp
  have HPS : Hid (Path ps) := hps
  obtain ⟨n, hn⟩ : ∃ n, ps.length = n := ⟨_, rfl⟩
  have HN : Hid (ps.length = n) := hn
  rw [hn] at HPP hlen ⊢
  obtain ⟨S, hS⟩ : ∃ S, staB N l ps = S := ⟨_, rfl⟩
  obtain ⟨M, hM⟩ : ∃ M, metB N l ps = M := ⟨_, rfl⟩
  rw [hS, hM]
  have HSS : Hid (staB N l ps = S) := hS
  have HMM : Hid (metB N l ps = M) := hM
  clear hp ha hpp hF hps hn hS hM
  go_enter Tryd.func10, Tryd.ntmps10
  go_wp2_with fail
  refine HBS.mono ?_
  rintro e w2 ⟨r, rfl, hSg, b2⟩
  clear HBS
  obtain ⟨sb, so, scap, e3, hsb⟩ := hSg.shape
  rw [segsL_len] at e3
  subst e3
  have bb2 := b1.trans (b2.mono b1.size)
  have HBE := behind_any sb so N scap l p HP.out pa pc ps (by rw [HN.out]; exact hlen) w2 hSg (by rw [HN.out]; exact HPP.out.next bb2)
  rw [HN.out, HSS.out, HMM.out] at HBE
  have x42 := x4.next b2
  clear hSg x4 b2 b1
  go_wp2_with fail
  refine HBE.mono ?_
  rintro e w3 ⟨he, b3⟩
  clear HBE
  rcases he with ⟨_, rfl⟩ | ⟨hno, _⟩
  case inr => exact absurd HPS.out hno
  have bb3 := bb2.trans (b3.mono bb2.size)
  have x43 := (x42.next b3).alloc (.cells #[.int .i64 (n : Int), .int .u32 S, .int .i64 M] 66)
  have x8 := Box.new w3 66 #[.int .i64 (n : Int), .int .u32 S, .int .i64 M]
  have bb4 : Below w.heap.size w (w3.alloc (.cells #[.int .i64 (n : Int), .int .u32 S, .int .i64 M] 66)) := bb3.alloc bb3.size _
  clear x42 b3
  go_wp2
  obtain ⟨W4, hW4⟩ : ∃ W, w3.alloc (.cells #[.int .i64 (n : Int), .int .u32 S, .int .i64 M] 66) = W := ⟨_, rfl⟩
  rw [hW4] at x43 x8 bb4 ⊢
  clear hW4
  have k1 := x8.cell 1 _ rfl
  have k2 := x8.cell 2 _ rfl
  have hl8 := x8.lt
  have HCL : Hid (∀ wx : World, wx.heap = W4.heap → Calls Tryd.prog 26 #[.slice pa n pc] wx fun e W' => ∃ r, e = .returned r ∧ W'.ownsRow wx.heap.size 3 1 r n (ps.map (Value.int .i64)) ∧ Below wx.heap.size wx W') := fun wx hx => by
    have hh : Holds .i64 wx.heap.size wx (.slice pa n pc) ps := by
      have := HPP.out.next bb4
      unfold Holds World.cell? at this ⊢
      rw [hx]
      exact this
    have := cloneInts_ok pa pc wx.heap.size ps (by have := HN.out; omega) wx (Nat.le_refl _) (by rw [HN.out]; exact hh)
    rw [HN.out] at this
    exact this
  first | go_region_with (go_at_call 26; refine (HCL.out _ (by rfl)).mono ?_; rintro e w5 ⟨r5, rfl, o5, b5⟩; obtain ⟨qa, qc, e5⟩ := rowN_shape o5; subst e5; have b5' : Below W4.heap.size W4 w5 := (Below.refl W4.heap.size W4).drew.trans b5; have m1 := (b5'.cell (p := ⟨w3.heap.size, 1, none⟩) hl8).trans k1; have m2 := (b5'.cell (p := ⟨w3.heap.size, 2, none⟩) hl8).trans k2; have xr := x43.next b5'; have z0 := xr.cell 0 _ rfl; have z1 := xr.cell 1 _ rfl; have z2 := xr.cell 2 _ rfl; have z3 := xr.cell 3 _ rfl; have f0 := xr.free 0; have f1 := xr.free 1; have f2 := xr.free 2; have f3 := xr.free 3) | fail
  all_goals (
    go_wp2
    refine bodyPost_ret (v := .tuple #[.agg #[.int .u32 S, .int .i64 M, .int .i64 0, .slice qa n qc], .int .i64 0]) (by simp [results, Tryd.results10, go_sem, z0, z1, z2, z3]) rfl ⟨_, _, rfl, ?_, ?_⟩
    · exact rowN_base (row_set4 o5 (by have := bb4.size; have := x43.lt; show w.heap.size + 1 < W4.heap.size; omega) _ _ _ _) bb4.size
    · exact below_set4 (bb4.trans (b5'.mono bb4.size)) (by omega) _ _ _ _)

/-- The node that is told beside an error. -/
def nodeZ : Value := .agg #[.int .u32 0, .int .i64 0, .int .i64 0, .slice none 0 0]

set_option maxRecDepth 100000 in
set_option maxHeartbeats 2000000 in
theorem Node_no (n p : Int) (a : Option Addr) (cap : Nat) (l : List (Int × Int)) (hl : l.length ≤ 4294967296) (hp : ¬ PileOk n p l) (v : Value) (w : World) (ha : Syms w.heap.size w (.slice a l.length cap) l) :
    Calls Tryd.prog 10 #[.agg #[.int .i64 n, .int .i64 p, .slice a l.length cap], v] w fun e W' => e = .returned (.tuple #[nodeZ, .int .i64 1]) ∧ Below w.heap.size w W' := by
  have b1 : Below w.heap.size w ((w.alloc (.cells #[.int .i64 n, .int .i64 p, .slice a l.length cap] 24)).alloc (.cells #[.int .u32 0, .int .i64 0, .int .i64 0, .slice none 0 0] 34)) := ((Below.refl w.heap.size w).alloc (Nat.le_refl _) _).alloc (by simp) _
  have x4 : Box ((w.alloc (.cells #[.int .i64 n, .int .i64 p, .slice a l.length cap] 24)).alloc (.cells #[.int .u32 0, .int .i64 0, .int .i64 0, .slice none 0 0] 34)) (w.heap.size + 1) 34 #[.int .u32 0, .int .i64 0, .int .i64 0, .slice none 0 0] := by
    have := Box.new (w.alloc (.cells #[.int .i64 n, .int .i64 p, .slice a l.length cap] 24)) 34 #[.int .u32 0, .int .i64 0, .int .i64 0, .slice none 0 0]
    simpa using this
  have HBS := bySegment_no n p a cap l hl hp _ (ha.next b1)
  clear hp ha
  go_enter Tryd.func10, Tryd.ntmps10
  go_wp2_with fail
  refine HBS.mono ?_
  rintro e w2 ⟨rfl, b2⟩
  have xr := x4.next b2
  have z0 := xr.cell 0 _ rfl
  have z1 := xr.cell 1 _ rfl
  have z2 := xr.cell 2 _ rfl
  have z3 := xr.cell 3 _ rfl
  have f0 := xr.free 0
  have f1 := xr.free 1
  have f2 := xr.free 2
  have f3 := xr.free 3
  go_wp2
  refine bodyPost_ret (v := .tuple #[nodeZ, .int .i64 1]) (by simp [results, Tryd.results10, go_sem, z0, z1, z2, z3, nodeZ]) rfl ⟨rfl, ?_⟩
  exact below_set4 (b1.trans (b2.mono b1.size)) (by omega) _ _ _ _

/-- behind's refusals. -/
theorem behind_no (b off N cap : Nat) (l : List (Int × Int)) (p : Int) (hp : PileOk (N : Int) p l) (pa : Option Addr) (pc : Nat) (ps : List Int) (h : N < ps.length ∨ ¬ Path ps) (w : World)
    (hS : Segs w.heap.size w (.slice (some ⟨b, off, none⟩) N cap) (segsL N l)) (hpp : Holds .i64 w.heap.size w (.slice pa ps.length pc) ps) :
    Calls Tryd.prog 23 #[.slice (some ⟨b, off, none⟩) N cap, .slice pa ps.length pc] w fun e W' => e = .returned (.tuple #[.agg #[.int .i64 0, .int .u32 0, .int .i64 0], .int .i64 1]) ∧ Below w.heap.size w W' := by
  by_cases hl : N < ps.length
  · exact behind_long _ _ _ _ _ _ hl w
  · refine (behind_any b off N cap l p hp pa pc ps (by omega) w hS hpp).mono ?_
    rintro e W' ⟨he, hb⟩
    rcases he with ⟨hy, _⟩ | ⟨_, rfl⟩
    · exact absurd hy (h.resolve_left hl)
    · exact ⟨rfl, hb⟩

set_option maxRecDepth 100000 in
set_option maxHeartbeats 2000000 in
theorem Node_arg (N : Nat) (p : Int) (a : Option Addr) (cap : Nat) (l : List (Int × Int)) (hp : PileOk (N : Int) p l) (pa : Option Addr) (pc : Nat) (ps : List Int) (h : N < ps.length ∨ ¬ Path ps) (w : World) (ha : Syms w.heap.size w (.slice a l.length cap) l) (hpp : Holds .i64 w.heap.size w (.slice pa ps.length pc) ps) (hF : Firsts w) :
    Calls Tryd.prog 10 #[.agg #[.int .i64 N, .int .i64 p, .slice a l.length cap], .slice pa ps.length pc] w fun e W' => e = .returned (.tuple #[nodeZ, .int .i64 1]) ∧ Below w.heap.size w W' := by
  have b1 : Below w.heap.size w ((w.alloc (.cells #[.int .i64 N, .int .i64 p, .slice a l.length cap] 24)).alloc (.cells #[.int .u32 0, .int .i64 0, .int .i64 0, .slice none 0 0] 34)) := ((Below.refl w.heap.size w).alloc (Nat.le_refl _) _).alloc (by simp) _
  have x4 : Box ((w.alloc (.cells #[.int .i64 N, .int .i64 p, .slice a l.length cap] 24)).alloc (.cells #[.int .u32 0, .int .i64 0, .int .i64 0, .slice none 0 0] 34)) (w.heap.size + 1) 34 #[.int .u32 0, .int .i64 0, .int .i64 0, .slice none 0 0] := by
    have := Box.new (w.alloc (.cells #[.int .i64 N, .int .i64 p, .slice a l.length cap] 24)) 34 #[.int .u32 0, .int .i64 0, .int .i64 0, .slice none 0 0]
    simpa using this
  have HBS := bySegment_ok N p a cap l hp _ (ha.next b1) (hF.next b1)
  have HB0 : Hid (∀ (sb so scap : Nat) (w2 : World), Segs w2.heap.size w2 (.slice (some ⟨sb, so, none⟩) N scap) (segsL N l) → Below w.heap.size w w2 → Calls Tryd.prog 23 #[.slice (some ⟨sb, so, none⟩) N scap, .slice pa ps.length pc] w2 fun e W' => e = .returned (.tuple #[.agg #[.int .i64 0, .int .u32 0, .int .i64 0], .int .i64 1]) ∧ Below w2.heap.size w2 W') := fun sb so scap w2 h1 h2 => behind_no sb so N scap l p hp pa pc ps h w2 h1 (hpp.next h2)
  clear hp ha hpp hF h
  go_enter Tryd.func10, Tryd.ntmps10
  go_wp2_with fail
  refine HBS.mono ?_
  rintro e w2 ⟨r, rfl, hSg, b2⟩
  clear HBS
  obtain ⟨sb, so, scap, e3, hsb⟩ := hSg.shape
  rw [segsL_len] at e3
  subst e3
  have bb2 := b1.trans (b2.mono b1.size)
  have HBE := HB0.out sb so scap w2 hSg bb2
  have x42 := x4.next b2
  clear hSg x4 b2 b1
  go_wp2_with fail
  refine HBE.mono ?_
  rintro e w3 ⟨rfl, b3⟩
  clear HBE
  have xr := (x42.next b3).alloc (.cells #[.int .i64 0, .int .u32 0, .int .i64 0] 66)
  have bb4 : Below w.heap.size w (w3.alloc (.cells #[.int .i64 0, .int .u32 0, .int .i64 0] 66)) := (bb2.trans (b3.mono bb2.size)).alloc (by have := bb2.size; have := b3.size; omega) _
  have z0 := xr.cell 0 _ rfl
  have z1 := xr.cell 1 _ rfl
  have z2 := xr.cell 2 _ rfl
  have z3 := xr.cell 3 _ rfl
  have f0 := xr.free 0
  have f1 := xr.free 1
  have f2 := xr.free 2
  have f3 := xr.free 3
  go_wp2
  refine bodyPost_ret (v := .tuple #[nodeZ, .int .i64 1]) (by simp [results, Tryd.results10, go_sem, z0, z1, z2, z3, nodeZ]) rfl ⟨rfl, ?_⟩
  exact below_set4 bb4 (by omega) _ _ _ _

set_option maxRecDepth 100000 in
set_option maxHeartbeats 2000000 in
theorem Score_no (n p : Int) (a : Option Addr) (cap : Nat) (l : List (Int × Int)) (hl : l.length ≤ 4294967296) (hp : ¬ PileOk n p l) (v : Value) (d : Int) (w : World) (ha : Syms w.heap.size w (.slice a l.length cap) l) :
    Calls Tryd.prog 9 #[.agg #[.int .i64 n, .int .i64 p, .slice a l.length cap], v, .int .i64 d] w fun e W' => e = .returned (.tuple #[.int .i64 0, .int .i64 1]) ∧ Below w.heap.size w W' := by
  have b1 : Below w.heap.size w (w.alloc (.cells #[.int .i64 n, .int .i64 p, .slice a l.length cap] 24)) := (Below.refl w.heap.size w).alloc (Nat.le_refl _) _
  have HBS := bySegment_no n p a cap l hl hp _ (ha.next b1)
  clear hp ha
  go_enter Tryd.func9, Tryd.ntmps9
  go_wp2_with fail
  refine HBS.mono ?_
  rintro e w2 ⟨rfl, b2⟩
  go_wp2
  go_ret2
  exact ⟨rfl, b1.trans (b2.mono b1.size)⟩

set_option maxRecDepth 100000 in
set_option maxHeartbeats 2000000 in
theorem Score_arg (N : Nat) (p : Int) (a : Option Addr) (cap : Nat) (l : List (Int × Int)) (hp : PileOk (N : Int) p l) (pa : Option Addr) (pc : Nat) (ps : List Int) (h : N < ps.length ∨ ¬ Path ps) (d : Int) (w : World) (ha : Syms w.heap.size w (.slice a l.length cap) l) (hpp : Holds .i64 w.heap.size w (.slice pa ps.length pc) ps) (hF : Firsts w) :
    Calls Tryd.prog 9 #[.agg #[.int .i64 N, .int .i64 p, .slice a l.length cap], .slice pa ps.length pc, .int .i64 d] w fun e W' => e = .returned (.tuple #[.int .i64 0, .int .i64 1]) ∧ Below w.heap.size w W' := by
  have b1 : Below w.heap.size w (w.alloc (.cells #[.int .i64 N, .int .i64 p, .slice a l.length cap] 24)) := (Below.refl w.heap.size w).alloc (Nat.le_refl _) _
  have HBS := bySegment_ok N p a cap l hp _ (ha.next b1) (hF.next b1)
  have HB0 : Hid (∀ (sb so scap : Nat) (w2 : World), Segs w2.heap.size w2 (.slice (some ⟨sb, so, none⟩) N scap) (segsL N l) → Below w.heap.size w w2 → Calls Tryd.prog 23 #[.slice (some ⟨sb, so, none⟩) N scap, .slice pa ps.length pc] w2 fun e W' => e = .returned (.tuple #[.agg #[.int .i64 0, .int .u32 0, .int .i64 0], .int .i64 1]) ∧ Below w2.heap.size w2 W') := fun sb so scap w2 h1 h2 => behind_no sb so N scap l p hp pa pc ps h w2 h1 (hpp.next h2)
  clear hp ha hpp hF h
  go_enter Tryd.func9, Tryd.ntmps9
  go_wp2_with fail
  refine HBS.mono ?_
  rintro e w2 ⟨r, rfl, hSg, b2⟩
  clear HBS
  obtain ⟨sb, so, scap, e3, hsb⟩ := hSg.shape
  rw [segsL_len] at e3
  subst e3
  have bb2 := b1.trans (b2.mono b1.size)
  have HBE := HB0.out sb so scap w2 hSg bb2
  clear hSg b2 b1
  go_wp2_with fail
  refine HBE.mono ?_
  rintro e w3 ⟨rfl, b3⟩
  clear HBE
  have bb4 : Below w.heap.size w (w3.alloc (.cells #[.int .i64 0, .int .u32 0, .int .i64 0] 66)) := (bb2.trans (b3.mono bb2.size)).alloc (by have := bb2.size; have := b3.size; omega) _
  go_wp2
  go_ret2
  exact ⟨rfl, bb4⟩

set_option maxRecDepth 100000 in
set_option maxHeartbeats 2000000 in
theorem Score_any (N : Nat) (p : Int) (a : Option Addr) (cap : Nat) (l : List (Int × Int)) (hp : PileOk (N : Int) p l) (pa : Option Addr) (pc : Nat) (ps : List Int) (hps : Path ps) (hlen : ps.length ≤ N) (d : Int) (w : World) (ha : Syms w.heap.size w (.slice a l.length cap) l) (hpp : Holds .i64 w.heap.size w (.slice pa ps.length pc) ps) (hF : Firsts w) :
    Calls Tryd.prog 9 #[.agg #[.int .i64 N, .int .i64 p, .slice a l.length cap], .slice pa ps.length pc, .int .i64 d] w fun e W' => ((1 ≤ d ∧ d ≤ 3) ∧ e = .returned (.tuple #[.int .i64 (scoB N l (d.toNat - 1) ps), .int .i64 0]) ∨ ¬ (1 ≤ d ∧ d ≤ 3) ∧ e = .returned (.tuple #[.int .i64 0, .int .i64 1])) ∧ Below w.heap.size w W' := by
  have hN2 : N < 65 := by have := hp.1.2.1; omega
  have b1 : Below w.heap.size w (w.alloc (.cells #[.int .i64 N, .int .i64 p, .slice a l.length cap] 24)) := (Below.refl w.heap.size w).alloc (Nat.le_refl _) _
  have HBS := bySegment_ok N p a cap l hp _ (ha.next b1) (hF.next b1)
  have HP : Hid (PileOk (N : Int) p l) := hp
  have HPS : Hid (Path ps) := hps
  have HPP : Hid (Holds .i64 w.heap.size w (.slice pa ps.length pc) ps) := hpp
  obtain ⟨s, hs, es⟩ := staB_nat N l ps
  have hm0 := metB_pos N l ps
  have hm1 := metB_le hp ps.length ps rfl
  have HSC : Hid (∀ a, lst stB (coB N l) N a (s : Int) ps.length (metB N l ps) = scoB N l a ps) := fun a => scoB_lst es a
  obtain ⟨n, hn⟩ : ∃ n, ps.length = n := ⟨_, rfl⟩
  have HN : Hid (ps.length = n) := hn
  rw [hn] at HPP hlen hm1 HSC ⊢
  obtain ⟨M, hM⟩ : ∃ M, metB N l ps = M := ⟨_, rfl⟩
  rw [hM] at hm0 hm1 HSC
  have HSS : Hid (staB N l ps = (s : Int)) := es
  have HMM : Hid (metB N l ps = M) := hM
  obtain ⟨V, hV⟩ : ∃ V, scoB N l (d.toNat - 1) ps = V := ⟨_, rfl⟩
  rw [hV]
  have HV : Hid (scoB N l (d.toNat - 1) ps = V) := hV
  clear hp ha hpp hF hps hn hM es hV
  go_enter Tryd.func9, Tryd.ntmps9
  go_wp2_with fail
  refine HBS.mono ?_
  rintro e w2 ⟨r, rfl, hSg, b2⟩
  clear HBS
  obtain ⟨sb, so, scap, e3, hsb⟩ := hSg.shape
  rw [segsL_len] at e3
  subst e3
  have bb2 := b1.trans (b2.mono b1.size)
  have HBE := behind_any sb so N scap l p HP.out pa pc ps (by rw [HN.out]; exact hlen) w2 hSg (by rw [HN.out]; exact HPP.out.next bb2)
  rw [HN.out, HSS.out, HMM.out] at HBE
  have HSG : Hid (Segs w2.heap.size w2 (.slice (some ⟨sb, so, none⟩) N scap) (segsL N l)) := hSg
  clear hSg b2 b1
  go_wp2_with fail
  refine HBE.mono ?_
  rintro e w3 ⟨he, b3⟩
  clear HBE
  rcases he with ⟨_, rfl⟩ | ⟨hno, _⟩
  case inr => exact absurd HPS.out hno
  have bb3 := bb2.trans (b3.mono bb2.size)
  have x8 := Box.new w3 66 #[.int .i64 (n : Int), .int .u32 (s : Int), .int .i64 M]
  have b4 : Below w3.heap.size w3 (w3.alloc (.cells #[.int .i64 (n : Int), .int .u32 (s : Int), .int .i64 M] 66)) := (Below.refl _ _).alloc (Nat.le_refl _) _
  have bb4 := bb3.trans (b4.mono bb3.size)
  have HS4 : Hid (Segs (w3.alloc (.cells #[.int .i64 (n : Int), .int .u32 (s : Int), .int .i64 M] 66)).heap.size (w3.alloc (.cells #[.int .i64 (n : Int), .int .u32 (s : Int), .int .i64 M] 66)) (.slice (some ⟨sb, so, none⟩) N scap) (segsL N l)) := (HSG.out.next b3).next b4
  clear b3
  by_cases hd : 1 ≤ d ∧ d ≤ 3
  · have HID := isDepth_yes d hd.1 hd.2 (w3.alloc (.cells #[.int .i64 (n : Int), .int .u32 (s : Int), .int .i64 M] 66))
    obtain ⟨D, hD⟩ : ∃ D : Nat, d = ((D + 1 : Nat) : Int) := ⟨d.toNat - 1, by omega⟩
    have HSO := score_ok sb so N scap l p HP.out D (by omega) n s hlen hs M hm0 (by omega) _ HS4.out
    rw [HSC.out, show scoB N l D ps = V by rw [← HV.out, show d.toNat - 1 = D by omega], ← hD] at HSO
    have HDD : Hid (1 ≤ d ∧ d ≤ 3) := hd
    clear hd hD
    go_wp2_with (first | (go_at_call 24; refine HID.mono ?_; rintro e wz ⟨rfl, rfl⟩) | (go_at_call 25; refine HSO.mono ?_; rintro e w5 ⟨rfl, b5⟩))
    go_ret2
    exact ⟨.inl ⟨HDD.out, rfl⟩, bb4.trans (b5.mono bb4.size)⟩
  · have HID := isDepth_no d (by omega) (w3.alloc (.cells #[.int .i64 (n : Int), .int .u32 (s : Int), .int .i64 M] 66))
    have HDD : Hid (¬ (1 ≤ d ∧ d ≤ 3)) := hd
    clear hd
    go_wp2_with (go_at_call 24; refine HID.mono ?_; rintro e wz ⟨rfl, rfl⟩)
    go_ret2
    exact ⟨.inr ⟨HDD.out, rfl⟩, bb4⟩

end Go.Proofs.YtdnhnnidlangiabDoor

/-
  Symbols of a state with some bits turned: what they cost. No program is spoken of.
-/
namespace Go.Proofs.YtdnhnnidlangiabDoor

/-- The place that a number stands for; the bits that are turned there. -/
def placeN (z : Int) : Nat := (z % 18446744073709551616 % 256).toNat
theorem placeN_lt (z : Int) : placeN z < 256 := by unfold placeN; omega
def turnAt (ts : List Int) (i : Nat) : Nat := (ts[i]?.getD 0).toNat
theorem turnAt_lt {ts : List Int} (h : ∀ t ∈ ts, 0 ≤ t ∧ t ≤ 255) (i : Nat) : turnAt ts i < 256 := by
  unfold turnAt
  cases e : ts[i]? with
  | none => simp
  | some t => have := h t (List.mem_of_getElem? e); simp; omega
/-- The symbols, what they should cost, and whether all are the state's own. -/
def turnSym (s : Nat) (z : Int) (t : Nat) : Int × Int := ((placeN z : Int), ((symN s (placeN z) ^^^ t : Nat) : Int))
def boundL (s : Nat) (zs ts : List Int) (k : Nat) : List (Int × Int) := (List.range k).map fun i => turnSym s (zs[i]?.getD 0) (turnAt ts i)
theorem boundL_len (s : Nat) (zs ts : List Int) (k : Nat) : (boundL s zs ts k).length = k := by simp [boundL]
theorem boundL_next (s : Nat) (zs ts : List Int) (k : Nat) : boundL s zs ts (k + 1) = boundL s zs ts k ++ [turnSym s (zs[k]?.getD 0) (turnAt ts k)] := by simp [boundL, List.range_succ]
def wantN (ts : List Int) : Nat → Nat
  | 0 => 0
  | k + 1 => wantN ts k + pcTo 8 (turnAt ts k)
def ownB (ts : List Int) : Nat → Bool
  | 0 => true
  | k + 1 => ownB ts k && (turnAt ts k == 0)
theorem wantN_le (ts : List Int) : ∀ k, wantN ts k ≤ 8 * k
  | 0 => Nat.le_refl _
  | k + 1 => by have h1 := wantN_le ts k; have h2 := pcTo_le 8 (turnAt ts k); rw [wantN]; omega
theorem pc8_zero : ∀ t, t < 256 → (pcTo 8 t = 0 ↔ t = 0) := by decide +kernel
theorem want_own {ts : List Int} (h : ∀ t ∈ ts, 0 ≤ t ∧ t ≤ 255) : ∀ k, (wantN ts k == 0) = ownB ts k
  | 0 => rfl
  | k + 1 => by
    have ih := want_own h k
    have h8 := pc8_zero _ (turnAt_lt h k)
    rw [wantN, ownB, ← ih, Bool.eq_iff_iff]
    simp only [beq_iff_eq, Bool.and_eq_true]
    omega
theorem oneCost_turn {s : Nat} {z : Int} {t : Nat} (ht : t < 256) : oneCost s (turnSym s z t) = pcTo 8 t := by
  unfold oneCost turnSym
  simp only [Int.toNat_natCast]
  rw [← Nat.xor_assoc, Nat.xor_self, Nat.zero_xor, pc_byte ht]
theorem cost_bound {s : Nat} {zs ts : List Int} (h : ∀ t ∈ ts, 0 ≤ t ∧ t ≤ 255) : ∀ k, costN s (boundL s zs ts k) = wantN ts k
  | 0 => rfl
  | k + 1 => by rw [boundL_next, costN_snoc, cost_bound h k, oneCost_turn (turnAt_lt h k), wantN]
theorem bound_ok {s : Nat} {zs ts : List Int} (h : ∀ t ∈ ts, 0 ≤ t ∧ t ≤ 255) (k : Nat) : CostOk (boundL s zs ts k) := by
  intro x hx
  obtain ⟨i, _, rfl⟩ := List.mem_map.1 hx
  have h1 := placeN_lt (zs[i]?.getD 0)
  have h2 := xor_byte (symN_lt s (placeN (zs[i]?.getD 0))) (turnAt_lt h i)
  unfold turnSym
  simp only
  omega

end Go.Proofs.YtdnhnnidlangiabDoor

/-
  By the first four symbols of each segment a block is told. No program is spoken of.
-/
namespace Go.Proofs.YtdnhnnidlangiabDoor

theorem costN_mem {s : Nat} {x : Int × Int} : ∀ {l : List (Int × Int)}, x ∈ l → oneCost s x ≤ costN s l
  | [], h => by simp at h
  | y :: l, h => by
    rw [costN]
    rcases List.mem_cons.1 h with rfl | h
    · exact Nat.le_add_right _ _
    · exact Nat.le_trans (costN_mem h) (Nat.le_add_left _ _)
theorem pc_pos {x y : Nat} (hx : x < 256) (hy : y < 256) (h : x ≠ y) : 0 < pcTo 32 (x ^^^ y) := by
  have hb := xor_byte hx hy
  rw [pc_byte hb]
  refine Nat.pos_of_ne_zero fun h0 => h ?_
  have h1 := (pc8_zero _ hb).1 h0
  have h2 : x ^^^ (x ^^^ y) = x := by rw [h1, Nat.xor_zero]
  rw [← Nat.xor_assoc, Nat.xor_self, Nat.zero_xor] at h2
  exact h2.symm
theorem hOut_nil (k : Nat) : hOut [] k = false := rfl
/-- Each other state costs something. -/
theorem four_cost {zs : List Int} {C : Nat} (hn : 2 * zs.length < 65) (hC : 4 * (2 * zs.length) ≤ C) {j s : Nat} (hj : j < 2 * zs.length) (hs : s < 4294967296) (hne : s ≠ stN zs j) : 0 < costN s (ofL (2 * zs.length) (heardL zs [] [] C) j) := by
  obtain ⟨i, hi, hd⟩ : ∃ i, i < 4 ∧ symN s i ≠ symN (stN zs j) i := by
    refine Classical.byContradiction fun h => hne (four_inj hs (stN_lt zs j) fun i hi => ?_)
    exact Classical.byContradiction fun h' => h ⟨i, hi, h'⟩
  have hpos := posN_lt hn hj
  have hk : i * (2 * zs.length) + posN (2 * zs.length) j < C := by
    have : i * (2 * zs.length) ≤ 3 * (2 * zs.length) := Nat.mul_le_mul_right _ (by omega)
    omega
  have hm := mem_heardL (zs := zs) (os := []) (ts := []) (hOut_nil _) hk
  rw [hvN_own, codeN_place hn hj] at hm
  have hx : (((i : Nat) : Int), ((symN (stN zs j) i : Nat) : Int)) ∈ ofL (2 * zs.length) (heardL zs [] [] C) j := by
    refine ofL_mem.2 ⟨_, hm, ?_, ?_⟩
    · rw [Int.toNat_natCast, segN_place hn hj]
    · rw [Int.toNat_natCast, place_div hpos]
  refine Nat.lt_of_lt_of_le ?_ (costN_mem hx)
  unfold oneCost
  simp only [Int.toNat_natCast]
  exact pc_pos (symN_lt _ _) (symN_lt _ _) hd
theorem step_inj {s k k' : Nat} (hs : s < 4294967296) (hk : k < 16) (hk' : k' < 16) (h : stepN s k = stepN s k') : k = k' := by
  unfold stepN at h
  have h1 := mix_inj (xorlt32 hs (by omega)) (xorlt32 hs (by omega)) h
  have h2 : s ^^^ (s ^^^ k) = s ^^^ (s ^^^ k') := by rw [h1]
  rwa [← Nat.xor_assoc, ← Nat.xor_assoc, Nat.xor_self, Nat.zero_xor, Nat.zero_xor] at h2
/-- It is told. -/
theorem told_four (zs : List Int) (C a b : Nat) (hb : 1 ≤ b) (h0 : 1 ≤ zs.length) (hn : 2 * zs.length < 65) (hC : 4 * (2 * zs.length) ≤ C) :
    ∃ n t, (walkTo stB (coB (2 * zs.length) (heardL zs [] [] C)) (2 * zs.length) (beginN : Int) b a (2 * zs.length)).1 = n :: t ∧ pathOf n = nibs zs ∧ n.2.1 = 0 ∧ (∀ u, t.head? = some u → u.2.1 ≠ n.2.1) ∧ ¬ (0 ≤ (walkTo stB (coB (2 * zs.length) (heardL zs [] [] C)) (2 * zs.length) (beginN : Int) b a (2 * zs.length)).2 ∧ (walkTo stB (coB (2 * zs.length) (heardL zs [] [] C)) (2 * zs.length) (beginN : Int) b a (2 * zs.length)).2 ≤ n.2.1) := by
  have hsta : ∀ i, sta stB (coB (2 * zs.length) (heardL zs [] [] C)) (beginN : Int) ((nibs zs).take (i + 1)) = ((stN zs i : Nat) : Int) := fun i => by rw [sta_last]; rfl
  have hT := own_met zs [] C (2 * zs.length) (Nat.le_refl _)
  rw [List.take_of_length_le (by rw [nibs_len]; exact Nat.le_refl _)] at hT
  obtain ⟨_, hpos⟩ := four_pos stB (coB (2 * zs.length) (heardL zs [] [] C)) (2 * zs.length) (beginN : Int) (coB_pos _ _) (nibs zs) (nibs_len zs) (nibs_nibs zs)
    (fun i _ => by rw [hsta]; unfold coB; rw [Int.toNat_natCast, own_zero]; rfl)
    (fun i Q k hi _ _ hne => by
      rw [hsta, sta_last] at hne
      rw [sta_last]
      unfold coB
      rw [Int.toNat_natCast]
      have := four_cost hn hC hi (lastOf_lt (Q ++ [k]) begin_lt) (fun e => hne (by rw [e]))
      omega)
    (fun i k k' hi hk hk' h => by
      rw [sta_last] at h
      unfold stB at h
      rw [Int.toNat_natCast] at h
      have := step_inj (lastOf_lt ((nibs zs).take i) begin_lt) (by omega) (by omega) (Int.ofNat.inj h)
      omega)
  have hU : ∀ P, Nibs P → P.length = 2 * zs.length → P ≠ nibs zs → met stB (coB (2 * zs.length) (heardL zs [] [] C)) (beginN : Int) (nibs zs) < met stB (coB (2 * zs.length) (heardL zs [] [] C)) (beginN : Int) P := fun P hP hl hne => by
    rw [hT]
    exact hpos _ P (Nat.le_refl _) hP hl (by rw [List.take_of_length_le (by rw [nibs_len]; exact Nat.le_refl _)]; exact hne)
  obtain ⟨n, t, h1, h2, h3, h4, h5⟩ := clear_told stB (coB (2 * zs.length) (heardL zs [] [] C)) (2 * zs.length) (beginN : Int) (coB_pos _ _) a b hb (by omega) (nibs zs) (nibs_nibs zs) (nibs_len zs) hU (fun i hi => .inl fun Q hQ hl hne => by
    rw [hT]
    have h6 := hpos (i + 1) Q (by omega) hQ hl hne
    have h7 := scA_ge stB (coB (2 * zs.length) (heardL zs [] [] C)) (2 * zs.length) (beginN : Int) (coB_pos _ _) a Q (by omega)
    omega)
  exact ⟨n, t, h1, h2, by rw [h3, hT], h4, h5⟩

end Go.Proofs.YtdnhnnidlangiabDoor
