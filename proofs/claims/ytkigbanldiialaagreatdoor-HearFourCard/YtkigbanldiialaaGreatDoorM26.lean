/-
  The beam's numbers over a pile: its step, its cost, within their bounds. No program is spoken of.
-/
import Derived.Test.YtkigbanldiialaaGreatDoorM01
import Derived.Test.YtkigbanldiialaaGreatDoorM10
import Derived.Test.YtkigbanldiialaaGreatDoorM11
import Derived.Test.YtkigbanldiialaaGreatDoorM12
import Derived.Test.YtkigbanldiialaaGreatDoorM13
import Derived.Test.YtkigbanldiialaaGreatDoorM15
import Derived.Test.YtkigbanldiialaaGreatDoorM16
import Derived.Test.YtkigbanldiialaaGreatDoorM17
import Derived.Test.YtkigbanldiialaaGreatDoorM20
import Derived.Test.YtkigbanldiialaaGreatDoorM24
import Derived.Test.YtkigbanldiialaaGreatDoorM25
import Derived.BigQuiet
import Derived.Deep.AppendLies
import Derived.Deep.QuietTactic
import Derived.Deep.RegionHeldLaw
import Derived.Maps.AppendAt
import Derived.OwnWalk
namespace Go.Proofs.YtkigbanldiialaaGreatDoor

def stB (s k : Int) : Int := ((stepN s.toNat k.toNat : Nat) : Int)
def coB (N : Nat) (l : List (Int × Int)) (j : Nat) (s : Int) : Int := ((costN s.toNat (ofL N l j) : Nat) : Int)
theorem stB_nat (s k : Nat) : stB (s : Int) (k : Int) = ((stepN s k : Nat) : Int) := rfl
theorem coB_nat (N : Nat) (l : List (Int × Int)) (j s : Nat) : coB N l j (s : Int) = ((costN s (ofL N l j) : Nat) : Int) := rfl
theorem coB_pos (N : Nat) (l : List (Int × Int)) : ∀ (j : Nat) (s : Int), 0 ≤ coB N l j s := fun j s => by unfold coB; omega
theorem ofL_ok {N : Nat} {p : Int} {l : List (Int × Int)} (h : PileOk (N : Int) p l) (j : Nat) : CostOk (ofL N l j) := by
  intro x hx
  unfold ofL at hx
  obtain ⟨y, hy, rfl⟩ := List.mem_map.1 hx
  obtain ⟨h1, h2, h3, h4⟩ := h.2.1 y ((List.mem_filter.1 hy).1)
  have hp := h.1.2.2
  have hN := h.1.1
  have hlt : y.1.toNat / N < 256 := by
    rw [Nat.div_lt_iff_lt_mul (by omega)]
    have hm : (N : Int) * p ≤ (N : Int) * 16 := Int.mul_le_mul_of_nonneg_left hp.2 (by omega)
    have : y.1 < 256 * N := by omega
    omega
  refine ⟨Int.natCast_nonneg _, ?_, h3, h4⟩
  exact Int.ofNat_le.2 (Nat.le_of_lt_succ hlt)
theorem ofL_len {N : Nat} {p : Int} {l : List (Int × Int)} (h : PileOk (N : Int) p l) (j : Nat) : (ofL N l j).length ≤ 1024 := by
  have h1 := ofL_len_le N l j
  have h2 := pile_len h
  have h3 := h.1.prod
  omega
theorem costB_le {N : Nat} {p : Int} {l : List (Int × Int)} (h : PileOk (N : Int) p l) (j s : Nat) : costN s (ofL N l j) ≤ 8192 := by
  have h1 := costN_le (s := s) (ofL_ok h j)
  have h2 := ofL_len h j
  omega
theorem coB_le {N : Nat} {p : Int} {l : List (Int × Int)} (h : PileOk (N : Int) p l) (j : Nat) (s : Int) : coB N l j s ≤ 8192 := by
  have := costB_le h j s.toNat
  unfold coB
  omega

end Go.Proofs.YtkigbanldiialaaGreatDoor

/-
  What the page's Pile answers: may it be?
-/
namespace Go.Proofs.YtkigbanldiialaaGreatDoor
open Go.RowKit

end Go.Proofs.YtkigbanldiialaaGreatDoor

/-
  What the page's Of answers, of a right pile.
-/
namespace Go.Proofs.YtkigbanldiialaaGreatDoor
open Go.RowKit

end Go.Proofs.YtkigbanldiialaaGreatDoor

/-
  What the page's Symbol answers.
-/
namespace Go.Proofs.YtkigbanldiialaaGreatDoor
open Go.RowKit

end Go.Proofs.YtkigbanldiialaaGreatDoor

/-
  What the page's Cost answers, of symbols that may be asked.
-/
namespace Go.Proofs.YtkigbanldiialaaGreatDoor
open Go.RowKit

end Go.Proofs.YtkigbanldiialaaGreatDoor

/-
  What the page's Begin, Step, States answer.
-/
namespace Go.Proofs.YtkigbanldiialaaGreatDoor
open Go.RowKit

end Go.Proofs.YtkigbanldiialaaGreatDoor

/-
  What the page's Bits, Sum16, Sum32 answer, for every text in memory.
-/
namespace Go.Proofs.YtkigbanldiialaaGreatDoor
open Go.RowKit

end Go.Proofs.YtkigbanldiialaaGreatDoor

/-
  What the page's Sum32 answers, for every text in memory.
-/
namespace Go.Proofs.YtkigbanldiialaaGreatDoor
open Go.RowKit

end Go.Proofs.YtkigbanldiialaaGreatDoor

/-
  What the page's Seal and Sealed answer, for every text in memory.
-/
namespace Go.Proofs.YtkigbanldiialaaGreatDoor
open Go.RowKit

end Go.Proofs.YtkigbanldiialaaGreatDoor

/-
  What the page's Sealed answers, for every text in memory.
-/
namespace Go.Proofs.YtkigbanldiialaaGreatDoor
open Go.RowKit

end Go.Proofs.YtkigbanldiialaaGreatDoor

/-
  Packets of symbols as lists of numbers: which may be, which bytes they have, what bytes are read as. No function of the program is spoken of.
-/
namespace Go.Proofs.YtkigbanldiialaaGreatDoor
open Go.RowKit

/-- Data that may be. -/
def RightD (s r f : Int) (xs : List Int) : Prop := (0 ≤ s ∧ s < 1073741824) ∧ (0 ≤ r ∧ r ≤ 255) ∧ (0 ≤ f ∧ f ≤ 65535) ∧ 1 ≤ xs.length ∧ xs.length ≤ 64
/-- The head without its sum; the packet. -/
def headD (s r f : Int) (n : Nat) : List Int := 68 :: (beBytes 4 s ++ (r :: (beBytes 2 f ++ [(n : Int)])))
def packD (s r f : Int) (xs : List Int) : List Int := headD s r f xs.length ++ (beBytes 2 (sum16 (headD s r f xs.length) : Int) ++ xs)

theorem headD_len (s r f : Int) (n : Nat) : (headD s r f n).length = 9 := by simp [headD, beBytes_len]
theorem headD_bd {s r f : Int} {n : Nat} (hr : 0 ≤ r ∧ r ≤ 255) (hn : n ≤ 255) : ∀ z ∈ headD s r f n, 0 ≤ z ∧ z ≤ 255 := fun z hz => by
  unfold headD at hz
  rcases List.mem_cons.1 hz with rfl | hz
  · omega
  rcases List.mem_append.1 hz with h | h
  · exact beBytes_bd 4 s z h
  rcases List.mem_cons.1 h with rfl | h
  · exact hr
  rcases List.mem_append.1 h with h | h
  · exact beBytes_bd 2 f z h
  · simp at h
    omega
def dR (zs : List Int) : Int := zs[5]?.getD 0
def dN (zs : List Int) : Int := zs[8]?.getD 0
end Go.Proofs.YtkigbanldiialaaGreatDoor

/-
  What the page's Data (may it be?) and volutekeep.Data answer. (Written by tpl_refdata.py.)
-/
namespace Go.Proofs.YtkigbanldiialaaGreatDoor
open Go.RowKit

end Go.Proofs.YtkigbanldiialaaGreatDoor

/-
  The least metric so many depths further on, with what was found before. No program is spoken of.
-/
namespace Go.Proofs.YtkigbanldiialaaGreatDoor

section
variable (st : Int → Int → Int) (co : Nat → Int → Int) (N : Nat)
theorem lst_ge (hco : ∀ i s, 0 ≤ co i s) : ∀ (a : Nat) (s : Int) (i : Nat) (m : Int), 0 ≤ m → m ≤ lst st co N a s i m
  | 0, s, i, m, _ => Int.le_refl _
  | a + 1, s, i, m, hm => by
    simp only [lst]
    split
    · exact Int.le_refl _
    · have each : ∀ k, m ≤ lst st co N a (st s k) (i + 1) (m + co i (st s k)) := fun k => by
        have h1 := hco i (st s k)
        have := lst_ge hco a (st s k) (i + 1) (m + co i (st s k)) (by omega)
        omega
      obtain ⟨hm1, _⟩ := minF_mem (l := nib16.map fun k => lst st co N a (st s k) (i + 1) (m + co i (st s k))) (fun x hx => by obtain ⟨k, _, rfl⟩ := List.mem_map.1 hx; have := each k; omega) (by simp [nib16_ne])
      obtain ⟨k, _, e⟩ := List.mem_map.1 hm1
      rw [← e]
      exact each k
theorem lst_cap : ∀ (a : Nat) (s : Int) (i : Nat) (m : Int), i ≤ N → lst st co N a s i m = lst st co N (min a (N - i)) s i m
  | 0, s, i, m, _ => by rw [Nat.zero_min]
  | a + 1, s, i, m, hi => by
    by_cases he : i = N
    · subst he
      rw [Nat.sub_self, Nat.min_zero]
      simp [lst]
    · have e : min (a + 1) (N - i) = min a (N - (i + 1)) + 1 := by omega
      rw [e]
      simp only [lst]
      rw [if_neg he, if_neg he]
      congr 1
      refine List.map_congr_left fun k _ => ?_
      exact lst_cap a _ (i + 1) _ (by omega)
end

/-- What a child leads to. -/
def kidL (N : Nat) (l : List (Int × Int)) (a : Nat) (s : Int) (i : Nat) (m : Int) (k : Nat) : Int := lst stB (coB N l) N a (stB s (k : Int)) (i + 1) (m + coB N l i (stB s (k : Int)))
theorem kidL_ge (N : Nat) (l : List (Int × Int)) (a : Nat) (s : Int) (i : Nat) (m : Int) (hm : 0 ≤ m) (k : Nat) : m + coB N l i (stB s (k : Int)) ≤ kidL N l a s i m k := by
  have h := coB_pos N l i (stB s (k : Int))
  exact lst_ge stB (coB N l) N (coB_pos N l) a _ _ _ (by omega)
theorem kidL_ge' (N : Nat) (l : List (Int × Int)) (a : Nat) (s : Int) (i : Nat) (m : Int) (hm : 0 ≤ m) (k : Nat) : m ≤ kidL N l a s i m k := by
  have h := coB_pos N l i (stB s (k : Int))
  have := kidL_ge N l a s i m hm k
  omega

/-- The least of what was found, one by one. -/
def bestF (L : Nat → Int) (best : Int) (pre : List Nat) : Int := pre.foldl (fun b k => min (L k) b) best
theorem bestF_snoc (L : Nat → Int) (best : Int) (pre : List Nat) (k : Nat) : bestF L best (pre ++ [k]) = min (L k) (bestF L best pre) := by unfold bestF; rw [List.foldl_append]; rfl
theorem bestF_append (L : Nat → Int) (best : Int) (pre rest : List Nat) : bestF L best (pre ++ rest) = bestF L (bestF L best pre) rest := by unfold bestF; rw [List.foldl_append]
theorem bestF_spec (L : Nat → Int) : ∀ (pre : List Nat) (best : Int), (∀ k ∈ pre, bestF L best pre ≤ L k) ∧ bestF L best pre ≤ best ∧ (bestF L best pre = best ∨ ∃ k ∈ pre, bestF L best pre = L k)
  | [], best => ⟨fun k hk => by simp at hk, Int.le_refl _, .inl rfl⟩
  | x :: pre, best => by
    obtain ⟨h1, h2, h3⟩ := bestF_spec L pre (min (L x) best)
    have e : bestF L best (x :: pre) = bestF L (min (L x) best) pre := rfl
    rw [e]
    refine ⟨fun k hk => ?_, by omega, ?_⟩
    · rcases List.mem_cons.1 hk with rfl | hk
      · omega
      · exact h1 k hk
    · rcases h3 with h3 | ⟨k, hk, h3⟩
      · by_cases hx : L x ≤ best
        · exact .inr ⟨x, by simp, by rw [h3]; omega⟩
        · exact .inl (by rw [h3]; omega)
      · exact .inr ⟨k, by simp [hk], h3⟩
theorem bestF_low {L : Nat → Int} {m : Int} (hL : ∀ k, m ≤ L k) : ∀ (pre : List Nat), bestF L m pre = m := fun pre => by
  obtain ⟨_, h2, h3⟩ := bestF_spec L pre m
  rcases h3 with h3 | ⟨k, _, h3⟩
  · exact h3
  · have := hL k
    omega
theorem bestF_stop {L : Nat → Int} {m best : Int} (hL : ∀ k, m ≤ L k) {pre xs : List Nat} (hp : pre <+: xs) (h : bestF L best pre = m) : bestF L best xs = m := by
  obtain ⟨r, rfl⟩ := hp
  rw [bestF_append, h]
  exact bestF_low hL r
theorem bestF_all (N : Nat) (l : List (Int × Int)) (a : Nat) (s : Int) (i : Nat) (m best : Int) (hm : 0 ≤ m) (hi : i ≠ N) : bestF (kidL N l a s i m) best (List.range 16) = min (lst stB (coB N l) N (a + 1) s i m) best := by
  have e : lst stB (coB N l) N (a + 1) s i m = minF ((List.range 16).map (kidL N l a s i m)) := by
    simp only [lst]
    rw [if_neg hi]
    unfold nib16
    rw [List.map_map]
    rfl
  rw [e]
  obtain ⟨h1, h2⟩ := minF_mem (l := (List.range 16).map (kidL N l a s i m)) (fun x hx => by obtain ⟨k, _, rfl⟩ := List.mem_map.1 hx; have := kidL_ge' N l a s i m hm k; omega) (by simp)
  obtain ⟨k0, hk0, e0⟩ := List.mem_map.1 h1
  obtain ⟨g1, g2, g3⟩ := bestF_spec (kidL N l a s i m) (List.range 16) best
  have q1 := g1 k0 hk0
  rw [e0] at q1
  rcases g3 with g3 | ⟨k, hk, g3⟩
  · omega
  · have q2 := h2 _ (List.mem_map.2 ⟨k, hk, rfl⟩)
    omega

theorem ofL_16 {N s : Nat} {p : Int} {l : List (Int × Int)} (hp : PileOk (N : Int) p l) (hs : s < N) : (ofL N l s).length ≤ 16 := by
  obtain ⟨P, rfl⟩ := Int.eq_ofNat_of_zero_le (a := p) (by have := hp.1.2.2.1; omega)
  have h1 := ofP_len N l s P
  rw [ofP_eq hp hs] at h1
  have := hp.1.2.2.2
  omega

end Go.Proofs.YtkigbanldiialaaGreatDoor
