/-
  Symbols of a state with some bits turned: what they cost. No program is spoken of.
-/
import Derived.Test.YtokejgoplalkhabGreatDoorM25
import Derived.Test.YtokejgoplalkhabGreatDoorM26
import Derived.Test.YtokejgoplalkhabGreatDoorM30
import Derived.Test.YtokejgoplalkhabGreatDoorM36
import Derived.Test.YtokejgoplalkhabGreatDoorM38
import Derived.Deep.RegionWith
import Derived.Lib.SmallJoins
namespace Go.Proofs.YtokejgoplalkhabGreatDoor

/-- The place that a number stands for; the bits that are turned there. -/
def placeN (z : Int) : Nat := (z % 18446744073709551616 % 256).toNat
theorem placeN_lt (z : Int) : placeN z < 256 := by unfold placeN; omega
def turnAt (ts : List Int) (i : Nat) : Nat := (ts[i]?.getD 0).toNat
theorem turnAt_lt {ts : List Int} (h : ∀ t ∈ ts, 0 ≤ t ∧ t ≤ 255) (i : Nat) : turnAt ts i < 256 := by
  unfold turnAt
  cases e : ts[i]? with
  | none => simp
  | some t => have := h t (List.mem_of_getElem? e); simp; omega
/-- The symbols, what they should cost, and whether all are the state's own. -/
def turnSym (s : Nat) (z : Int) (t : Nat) : Int × Int := ((placeN z : Int), ((symN s (placeN z) ^^^ t : Nat) : Int))
def boundL (s : Nat) (zs ts : List Int) (k : Nat) : List (Int × Int) := (List.range k).map fun i => turnSym s (zs[i]?.getD 0) (turnAt ts i)
theorem boundL_len (s : Nat) (zs ts : List Int) (k : Nat) : (boundL s zs ts k).length = k := by simp [boundL]
theorem boundL_next (s : Nat) (zs ts : List Int) (k : Nat) : boundL s zs ts (k + 1) = boundL s zs ts k ++ [turnSym s (zs[k]?.getD 0) (turnAt ts k)] := by simp [boundL, List.range_succ]
def wantN (ts : List Int) : Nat → Nat
  | 0 => 0
  | k + 1 => wantN ts k + pcTo 8 (turnAt ts k)
def ownB (ts : List Int) : Nat → Bool
  | 0 => true
  | k + 1 => ownB ts k && (turnAt ts k == 0)
theorem wantN_le (ts : List Int) : ∀ k, wantN ts k ≤ 8 * k
  | 0 => Nat.le_refl _
  | k + 1 => by have h1 := wantN_le ts k; have h2 := pcTo_le 8 (turnAt ts k); rw [wantN]; omega
theorem pc8_zero : ∀ t, t < 256 → (pcTo 8 t = 0 ↔ t = 0) := by decide +kernel
theorem want_own {ts : List Int} (h : ∀ t ∈ ts, 0 ≤ t ∧ t ≤ 255) : ∀ k, (wantN ts k == 0) = ownB ts k
  | 0 => rfl
  | k + 1 => by
    have ih := want_own h k
    have h8 := pc8_zero _ (turnAt_lt h k)
    rw [wantN, ownB, ← ih, Bool.eq_iff_iff]
    simp only [beq_iff_eq, Bool.and_eq_true]
    omega
theorem oneCost_turn {s : Nat} {z : Int} {t : Nat} (ht : t < 256) : oneCost s (turnSym s z t) = pcTo 8 t := by
  unfold oneCost turnSym
  simp only [Int.toNat_natCast]
  rw [← Nat.xor_assoc, Nat.xor_self, Nat.zero_xor, pc_byte ht]
theorem cost_bound {s : Nat} {zs ts : List Int} (h : ∀ t ∈ ts, 0 ≤ t ∧ t ≤ 255) : ∀ k, costN s (boundL s zs ts k) = wantN ts k
  | 0 => rfl
  | k + 1 => by rw [boundL_next, costN_snoc, cost_bound h k, oneCost_turn (turnAt_lt h k), wantN]
theorem bound_ok {s : Nat} {zs ts : List Int} (h : ∀ t ∈ ts, 0 ≤ t ∧ t ≤ 255) (k : Nat) : CostOk (boundL s zs ts k) := by
  intro x hx
  obtain ⟨i, _, rfl⟩ := List.mem_map.1 hx
  have h1 := placeN_lt (zs[i]?.getD 0)
  have h2 := xor_byte (symN_lt s (placeN (zs[i]?.getD 0))) (turnAt_lt h i)
  unfold turnSym
  simp only
  omega

end Go.Proofs.YtokejgoplalkhabGreatDoor

/-
  What the page's own Pick answers. (Written by tpl_refpick.py.)
-/
namespace Go.Proofs.YtokejgoplalkhabGreatDoor
open Go.RowKit

theorem leq_skip {cs : List Int} {tk : List Nat} {i : Nat} (hi : i ∈ tk) {z : Int} : (∃ j, j < i ∧ j ∉ tk ∧ at0 cs j = z) ↔ ∃ j, j < i + 1 ∧ j ∉ tk ∧ at0 cs j = z := by
  constructor
  · rintro ⟨j, h1, h2, h3⟩
    exact ⟨j, by omega, h2, h3⟩
  · rintro ⟨j, h1, h2, h3⟩
    rcases Nat.lt_or_eq_of_le (Nat.lt_succ_iff.1 h1) with h | h
    · exact ⟨j, h, h2, h3⟩
    · subst h; exact absurd hi h2
theorem leq_more {cs : List Int} {tk : List Nat} {i : Nat} {c : Int} (hi : i ∉ tk) (hc : at0 cs i = c) {z : Int} : ((∃ j, j < i ∧ j ∉ tk ∧ at0 cs j = z) ∨ z = c) ↔ ∃ j, j < i + 1 ∧ j ∉ tk ∧ at0 cs j = z := by
  constructor
  · rintro (⟨j, h1, h2, h3⟩ | h)
    · exact ⟨j, by omega, h2, h3⟩
    · exact ⟨i, by omega, hi, by rw [hc, h]⟩
  · rintro ⟨j, h1, h2, h3⟩
    rcases Nat.lt_or_eq_of_le (Nat.lt_succ_iff.1 h1) with h | h
    · exact .inl ⟨j, h, h2, h3⟩
    · subst h; exact .inr (by rw [← h3, hc])

end Go.Proofs.YtokejgoplalkhabGreatDoor

/-
  What the page's Walk answers: the list at the end, and the cut.
-/
namespace Go.Proofs.YtokejgoplalkhabGreatDoor
open Go.RowKit

/-- The walk over a pile. -/
def walkB (N : Nat) (l : List (Int × Int)) (b D i : Nat) : List Nd × Int := walkTo stB (coB N l) N (beginN : Int) b D i
def kidsB (N : Nat) (l : List (Int × Int)) (D i : Nat) (L : List Nd) : List Nd := kidsOf stB (coB N l) N D i L
def kidB (N : Nat) (l : List (Int × Int)) (D i : Nat) (n : Nd) (k : Int) : Nd := kidS stB (coB N l) N D i n k
theorem walkB_next (N : Nat) (l : List (Int × Int)) (b D i : Nat) : walkB N l b D (i + 1) = (keptN b (kidsB N l D i (walkB N l b D i).1), lmin (walkB N l b D i).2 (cutK sc b (kidsB N l D i (walkB N l b D i).1))) := rfl
theorem kidsB_snoc (N : Nat) (l : List (Int × Int)) (D i : Nat) (L : List Nd) (n : Nd) : kidsB N l D i (L ++ [n]) = kidsB N l D i L ++ nib16.map (kidB N l D i n) := by
  unfold kidsB kidsOf
  rw [List.flatMap_append]
  simp [kidB]
theorem kidB_eq {N : Nat} {l : List (Int × Int)} {D i s k : Nat} {n : Nd} (hs : n.1 = (s : Int)) (hl : n.2.2.2.length = i) : kidB N l D i n (k : Int) = (((stepN s k : Nat) : Int), n.2.1 + ((costN (stepN s k) (ofL N l i) : Nat) : Int), lst stB (coB N l) N D ((stepN s k : Nat) : Int) (i + 1) (n.2.1 + ((costN (stepN s k) (ofL N l i) : Nat) : Int)), n.2.2.2 ++ [(k : Int)]) := by
  unfold kidB kidS kid
  rw [hs, hl, stB_nat, coB_nat]
/-- What is known of the list's nodes. -/
theorem walkB_node {N : Nat} {p : Int} {l : List (Int × Int)} (hp : PileOk (N : Int) p l) {b D i : Nat} (hb : 1 ≤ b) {n : Nd} (h : n ∈ (walkB N l b D i).1) : (∃ s : Nat, s < 4294967296 ∧ n.1 = (s : Int)) ∧ 0 ≤ n.2.1 ∧ n.2.1 ≤ 8192 * (i : Int) ∧ n.2.2.2.length = i := by
  obtain ⟨P, h1, h2, h3, _⟩ := (walkTo_inv stB (coB N l) N (beginN : Int) D b hb i).node n h
  obtain ⟨s, hs, es⟩ := staB_nat N l P
  have e : n.2.1 = metB N l P := h3.2.1
  refine ⟨⟨s, hs, h3.1.trans es⟩, by rw [e]; exact metB_pos N l P, by rw [e]; exact metB_le hp i P h1, by rw [h3.2.2]; exact h1⟩
theorem walkB_len (N : Nat) (l : List (Int × Int)) {b D i : Nat} (hb : 1 ≤ b) (hb2 : b ≤ 16) : (walkB N l b D i).1.length ≤ 16 := by
  have := (walkTo_inv stB (coB N l) N (beginN : Int) D b hb i).most
  unfold walkB
  omega
theorem kidsB_ok {N : Nat} {p : Int} {l : List (Int × Int)} (hp : PileOk (N : Int) p l) {b D i : Nat} (hb : 1 ≤ b) : ∀ x ∈ kidsB N l D i (walkB N l b D i).1, 0 ≤ sc x ∧ x.2.2.2.length = i + 1 := by
  intro x hx
  obtain ⟨n, hn, k, hk, rfl⟩ := kidsOf_mem stB (coB N l) N hx
  obtain ⟨⟨s, hs, es⟩, h1, h2, h3⟩ := walkB_node hp hb hn
  obtain ⟨kn, rfl⟩ : ∃ kn : Nat, k = (kn : Int) := ⟨k.toNat, by omega⟩
  have e := kidB_eq (N := N) (l := l) (D := D) (k := kn) es h3
  unfold kidB at e
  rw [e]
  refine ⟨?_, by simp [h3]⟩
  show 0 ≤ lst stB (coB N l) N D _ _ _
  exact (lst_bd N l hp D _ _ _ (by omega)).1

end Go.Proofs.YtokejgoplalkhabGreatDoor

/-
  What the page's Decode answers. (Written by tpl_refdecode.py.)
-/
namespace Go.Proofs.YtokejgoplalkhabGreatDoor
open Go.RowKit

/-- What is told of a list and its cut: nothing, or the first one's path and metric. -/
def decB (L : List Nd) (cut : Int) : Option (List Int × Int) := match L with
  | [] => none
  | n :: t => if t.head?.map (fun u => u.2.1) = some n.2.1 ∨ (0 ≤ cut ∧ cut ≤ n.2.1) then none else some (n.2.2.2, n.2.1)
theorem decB_same {L : List Nd} {cut : Int} {n u : Nd} (h0 : L[0]? = some n) (h1 : L[1]? = some u) (h : u.2.1 = n.2.1) : decB L cut = none := by
  match L, h0, h1 with
  | n' :: u' :: t, h0, h1 =>
    simp at h0 h1
    subst h0 h1
    unfold decB
    simp [h]
theorem decB_cut {L : List Nd} {cut : Int} {n : Nd} (h0 : L[0]? = some n) {h1 : L[1]? = none ∨ ∃ u, L[1]? = some u ∧ u.2.1 ≠ n.2.1} (a : 0 ≤ cut) (b : cut ≤ n.2.1) : decB L cut = none := by
  match L, h0 with
  | n' :: t, h0 =>
    simp at h0
    subst h0
    unfold decB
    simp [a, b]
theorem decB_told {L : List Nd} {cut : Int} {n : Nd} (h0 : L[0]? = some n) {h1 : L[1]? = none ∨ ∃ u, L[1]? = some u ∧ u.2.1 ≠ n.2.1} (h : ¬ (0 ≤ cut ∧ cut ≤ n.2.1)) : decB L cut = some (n.2.2.2, n.2.1) := by
  match L, h0 with
  | n' :: t, h0 =>
    simp at h0
    subst h0
    simp only [decB]
    rw [if_neg]
    rintro (h2 | h2)
    · rcases h1 with h1 | ⟨u, hu, hne⟩
      · cases t with
        | nil => simp at h2
        | cons v t => simp at h1
      · cases t with
        | nil => simp at h2
        | cons v t => simp at h2 hu; subst hu; exact hne h2
    · exact h h2

end Go.Proofs.YtokejgoplalkhabGreatDoor

/-
  What pile.Put answers of a right pile and numbers that may be. (Written by tpl_pileput.py.)
-/
namespace Go.Proofs.YtokejgoplalkhabGreatDoor
open Go.RowKit

theorem Put_in (n p : Int) (k u : Int) (k0 : 0 ≤ k) (hk : k ≤ 9223372036854775807) (u0 : 0 ≤ u) (u1 : u ≤ 255) (a : Option Addr) (cap : Nat) (l : List (Int × Int)) (hp : PileOk n p l) (w : World) (ha : Syms w.heap.size w (.slice a l.length cap) l) (hc : RowCap a l.length cap) :
    Calls Tryz.prog 43 #[.agg #[.int .i64 n, .int .i64 p, .slice a l.length cap], .int .i64 k, .int .i64 u] w fun e W' => ∃ r, e = .returned (.tuple #[.agg #[.int .i64 n, .int .i64 p, r], .bool (freshN n p l k), .int .i64 0]) ∧ W'.ownsRow w.heap.size 78 2 r (putN n p l k u).length (symCells (putN n p l k u)) ∧ Below w.heap.size w W' := by
  have hql := aheadOf_le l k
  obtain ⟨q, hq⟩ : ∃ q, aheadOf l k = q := ⟨_, rfl⟩
  rw [hq] at hql
  cases ht : hasAt l k with
  | true =>
    have h1 : freshN n p l k = false := by unfold freshN; exact decide_eq_false (by simp [ht])
    have h2 : putN n p l k u = l := by unfold putN; rw [if_pos (.inr ht)]
    rw [h1, h2]
    exact Put_stands n p k u k0 hk u0 u1 a cap l q hq ht hp w ha
  | false =>
    by_cases hMk : n * p ≤ k
    · have h1 : freshN n p l k = false := by unfold freshN; exact decide_eq_false (by simp [hMk])
      have h2 : putN n p l k u = l := by unfold putN; rw [if_pos (.inl hMk)]
      rw [h1, h2]
      exact Put_beyond n p k u k0 hk u0 u1 a cap l q hq ht hMk hp w ha
    · have h1 : freshN n p l k = true := by unfold freshN; exact decide_eq_true (by rw [ht]; simp; omega)
      have h2 : putN n p l k u = putL l k u := by unfold putN; rw [if_neg (by rw [ht]; simp; omega)]
      rw [h1, h2, putL_len]
      cases a with
      | none => exact Put_fresh2 n p k u k0 hk u0 u1 cap l q hq ht (by omega) hp w ha
      | some ad =>
        obtain ⟨b, off, spot⟩ := ad
        obtain rfl : spot = none := hc.2 _ rfl
        have hlc := hc.1
        by_cases h3 : q < l.length
        · exact Put_fresh1 n p k u k0 hk u0 u1 b off cap l q hq ht (by omega) h3 (by omega) hp w ha
        · by_cases h4 : q < cap
          · exact Put_fresh3 n p k u k0 hk u0 u1 b off cap l q hq ht (by omega) (by omega) h4 hp w ha
          · exact Put_fresh4 n p k u k0 hk u0 u1 b off cap l q hq ht (by omega) (by omega) (by omega) hp w ha

end Go.Proofs.YtokejgoplalkhabGreatDoor

/-
  A configuration as an argument: its ten numbers. No function of the program is spoken of.
-/
namespace Go.Proofs.YtokejgoplalkhabGreatDoor
open Go.ChangeShapes Go.WideShapes Go.ChangeAt Go.RowKit

set_option maxRecDepth 100000 in
theorem array10 {α : Type} {cs : Array α} (h : cs.size = 10) : ∃ c0 c1 c2 c3 c4 c5 c6 c7 c8 c9, cs = #[c0, c1, c2, c3, c4, c5, c6, c7, c8, c9] := by
  obtain ⟨l⟩ := cs
  match l, h with
  | [c0, c1, c2, c3, c4, c5, c6, c7, c8, c9], _ => exact ⟨c0, c1, c2, c3, c4, c5, c6, c7, c8, c9, rfl⟩

set_option maxHeartbeats 1000000 in
set_option maxRecDepth 100000 in
theorem cfg_of_trod {H : Type} {enc : TypeId × Value → H} {W : World} {base : Nat} {spare : Nat → Bool} {held : Bool} {r : Reach} {b0 : Nat} {v : Value} {d : DataW H} {p : List MemPlace} (hv : Value.okWide Tryz.prog W r b0 23 v) (h : DataW.Trod enc Tryz.prog W base spare held 23 v d p) : ∃ c : Cfg, v = .agg #[.int .i64 c.cB, .int .i64 c.cBeam, .int .i64 c.cDepth, .int .i64 c.cWin, .int .i64 c.cQs, .int .i64 c.cQr, .int .i64 c.cBatch, .int .i64 c.cPass, .int .i64 c.cMsg, .int .i64 c.cSeqs] := by
  have hC : Tryz.prog.cellsOf 23 = 10 := by kernel_rfl
  have hI : Tryz.prog.cellsOf 3 = 1 := by kernel_rfl
  obtain ⟨cs, rfl, hsz⟩ := okWide_struct Tryz.underlying23 hv
  obtain ⟨c0, c1, c2, c3, c4, c5, c6, c7, c8, c9, rfl⟩ := array10 (hsz.trans hC)
  obtain ⟨fuel, hf⟩ := h
  obtain ⟨xs, n, _, _, _, hlen, hg⟩ := DataW.trod_struct Tryz.underlying23 hf
  have hl : xs.length = 10 := hlen
  have k0 : DataW.trod enc Tryz.prog W base spare held n 3 (((Value.agg #[c0, c1, c2, c3, c4, c5, c6, c7, c8, c9]).cells.toList.drop 0).take (Tryz.prog.cellsOf 3)) = xs[0]? := hg 0 _ rfl
  rw [List.getElem?_eq_getElem (show 0 < xs.length by omega), show ((Value.agg #[c0, c1, c2, c3, c4, c5, c6, c7, c8, c9]).cells.toList.drop 0).take (Tryz.prog.cellsOf 3) = [c0] by rw [hI]; rfl] at k0
  obtain ⟨n0, e0, _, _⟩ := DataW.trod_int Tryz.underlying3 k0
  have k1 : DataW.trod enc Tryz.prog W base spare held n 3 (((Value.agg #[c0, c1, c2, c3, c4, c5, c6, c7, c8, c9]).cells.toList.drop 1).take (Tryz.prog.cellsOf 3)) = xs[1]? := hg 1 _ rfl
  rw [List.getElem?_eq_getElem (show 1 < xs.length by omega), show ((Value.agg #[c0, c1, c2, c3, c4, c5, c6, c7, c8, c9]).cells.toList.drop 1).take (Tryz.prog.cellsOf 3) = [c1] by rw [hI]; rfl] at k1
  obtain ⟨n1, e1, _, _⟩ := DataW.trod_int Tryz.underlying3 k1
  have k2 : DataW.trod enc Tryz.prog W base spare held n 3 (((Value.agg #[c0, c1, c2, c3, c4, c5, c6, c7, c8, c9]).cells.toList.drop 2).take (Tryz.prog.cellsOf 3)) = xs[2]? := hg 2 _ rfl
  rw [List.getElem?_eq_getElem (show 2 < xs.length by omega), show ((Value.agg #[c0, c1, c2, c3, c4, c5, c6, c7, c8, c9]).cells.toList.drop 2).take (Tryz.prog.cellsOf 3) = [c2] by rw [hI]; rfl] at k2
  obtain ⟨n2, e2, _, _⟩ := DataW.trod_int Tryz.underlying3 k2
  have k3 : DataW.trod enc Tryz.prog W base spare held n 3 (((Value.agg #[c0, c1, c2, c3, c4, c5, c6, c7, c8, c9]).cells.toList.drop 3).take (Tryz.prog.cellsOf 3)) = xs[3]? := hg 3 _ rfl
  rw [List.getElem?_eq_getElem (show 3 < xs.length by omega), show ((Value.agg #[c0, c1, c2, c3, c4, c5, c6, c7, c8, c9]).cells.toList.drop 3).take (Tryz.prog.cellsOf 3) = [c3] by rw [hI]; rfl] at k3
  obtain ⟨n3, e3, _, _⟩ := DataW.trod_int Tryz.underlying3 k3
  have k4 : DataW.trod enc Tryz.prog W base spare held n 3 (((Value.agg #[c0, c1, c2, c3, c4, c5, c6, c7, c8, c9]).cells.toList.drop 4).take (Tryz.prog.cellsOf 3)) = xs[4]? := hg 4 _ rfl
  rw [List.getElem?_eq_getElem (show 4 < xs.length by omega), show ((Value.agg #[c0, c1, c2, c3, c4, c5, c6, c7, c8, c9]).cells.toList.drop 4).take (Tryz.prog.cellsOf 3) = [c4] by rw [hI]; rfl] at k4
  obtain ⟨n4, e4, _, _⟩ := DataW.trod_int Tryz.underlying3 k4
  have k5 : DataW.trod enc Tryz.prog W base spare held n 3 (((Value.agg #[c0, c1, c2, c3, c4, c5, c6, c7, c8, c9]).cells.toList.drop 5).take (Tryz.prog.cellsOf 3)) = xs[5]? := hg 5 _ rfl
  rw [List.getElem?_eq_getElem (show 5 < xs.length by omega), show ((Value.agg #[c0, c1, c2, c3, c4, c5, c6, c7, c8, c9]).cells.toList.drop 5).take (Tryz.prog.cellsOf 3) = [c5] by rw [hI]; rfl] at k5
  obtain ⟨n5, e5, _, _⟩ := DataW.trod_int Tryz.underlying3 k5
  have k6 : DataW.trod enc Tryz.prog W base spare held n 3 (((Value.agg #[c0, c1, c2, c3, c4, c5, c6, c7, c8, c9]).cells.toList.drop 6).take (Tryz.prog.cellsOf 3)) = xs[6]? := hg 6 _ rfl
  rw [List.getElem?_eq_getElem (show 6 < xs.length by omega), show ((Value.agg #[c0, c1, c2, c3, c4, c5, c6, c7, c8, c9]).cells.toList.drop 6).take (Tryz.prog.cellsOf 3) = [c6] by rw [hI]; rfl] at k6
  obtain ⟨n6, e6, _, _⟩ := DataW.trod_int Tryz.underlying3 k6
  have k7 : DataW.trod enc Tryz.prog W base spare held n 3 (((Value.agg #[c0, c1, c2, c3, c4, c5, c6, c7, c8, c9]).cells.toList.drop 7).take (Tryz.prog.cellsOf 3)) = xs[7]? := hg 7 _ rfl
  rw [List.getElem?_eq_getElem (show 7 < xs.length by omega), show ((Value.agg #[c0, c1, c2, c3, c4, c5, c6, c7, c8, c9]).cells.toList.drop 7).take (Tryz.prog.cellsOf 3) = [c7] by rw [hI]; rfl] at k7
  obtain ⟨n7, e7, _, _⟩ := DataW.trod_int Tryz.underlying3 k7
  have k8 : DataW.trod enc Tryz.prog W base spare held n 3 (((Value.agg #[c0, c1, c2, c3, c4, c5, c6, c7, c8, c9]).cells.toList.drop 8).take (Tryz.prog.cellsOf 3)) = xs[8]? := hg 8 _ rfl
  rw [List.getElem?_eq_getElem (show 8 < xs.length by omega), show ((Value.agg #[c0, c1, c2, c3, c4, c5, c6, c7, c8, c9]).cells.toList.drop 8).take (Tryz.prog.cellsOf 3) = [c8] by rw [hI]; rfl] at k8
  obtain ⟨n8, e8, _, _⟩ := DataW.trod_int Tryz.underlying3 k8
  have k9 : DataW.trod enc Tryz.prog W base spare held n 3 (((Value.agg #[c0, c1, c2, c3, c4, c5, c6, c7, c8, c9]).cells.toList.drop 9).take (Tryz.prog.cellsOf 3)) = xs[9]? := hg 9 _ rfl
  rw [List.getElem?_eq_getElem (show 9 < xs.length by omega), show ((Value.agg #[c0, c1, c2, c3, c4, c5, c6, c7, c8, c9]).cells.toList.drop 9).take (Tryz.prog.cellsOf 3) = [c9] by rw [hI]; rfl] at k9
  obtain ⟨n9, e9, _, _⟩ := DataW.trod_int Tryz.underlying3 k9
  simp only [List.cons.injEq, and_true] at e0 e1 e2 e3 e4 e5 e6 e7 e8 e9
  subst e0 e1 e2 e3 e4 e5 e6 e7 e8 e9
  exact ⟨⟨n0, n1, n2, n3, n4, n5, n6, n7, n8, n9⟩, rfl⟩

end Go.Proofs.YtokejgoplalkhabGreatDoor
