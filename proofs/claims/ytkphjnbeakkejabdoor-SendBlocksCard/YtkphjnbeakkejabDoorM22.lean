/-
  Packets that tell what was had, as lists of numbers: which may be, which bytes they have, what bytes are read as, what an ack has. No function of the program is spoken of.
-/
import Derived.Test.YtkphjnbeakkejabDoorM01
import Derived.Test.YtkphjnbeakkejabDoorM07
import Derived.Test.YtkphjnbeakkejabDoorM08
import Derived.Test.YtkphjnbeakkejabDoorM09
import Derived.Test.YtkphjnbeakkejabDoorM10
import Derived.Test.YtkphjnbeakkejabDoorM17
import Derived.Test.YtkphjnbeakkejabDoorM18
import Derived.Test.YtkphjnbeakkejabDoorM20
import Derived.BigQuiet
import Derived.Deep.AppendLies
import Derived.Deep.QuietTactic
import Derived.Deep.SlicePairs
import Derived.Laws.AppendOwnNone
import Derived.Laws.BitsAllLaws
import Derived.Maps.AppendAt
import Derived.OwnWalk
import Derived.WalkLawsBesides
import Derived.WalkSmall
import Derived.WalkSpells
namespace Go.Proofs.YtkphjnbeakkejabDoor
open Go.RowKit

/-- May Next be? -/
def aArg (n : Int) : Bool := decide (0 ≤ n) && decide (n ≤ 1073741824)
theorem aArg_iff (n : Int) : aArg n = true ↔ 0 ≤ n ∧ n ≤ 1073741824 := by simp [aArg]
theorem aArg_no {n : Int} (h : ¬ (0 ≤ n ∧ n ≤ 1073741824)) : aArg n = false := by
  rw [← Bool.not_eq_true, aArg_iff]; exact h

/-- Its bytes, without and with the seal. -/
def bodyA (n b : Int) : List Int := 65 :: (beBytes 4 n ++ beBytes 4 b)
def packA (n b : Int) : List Int := sealL (bodyA n b)
theorem bodyA_len (n b : Int) : (bodyA n b).length = 9 := by simp [bodyA, beBytes_len]
theorem packA_len (n b : Int) : (packA n b).length = 13 := by rw [packA, sealL_lenB, bodyA_len]
theorem bodyA_bd (n b : Int) : ∀ z ∈ bodyA n b, 0 ≤ z ∧ z ≤ 255 := fun z hz => by
  rcases List.mem_cons.1 hz with rfl | h
  · omega
  rcases List.mem_append.1 h with h | h
  · exact beBytes_bd 4 n z h
  · exact beBytes_bd 4 b z h
theorem packA_bd (n b : Int) : ∀ z ∈ packA n b, 0 ≤ z ∧ z ≤ 255 := sealL_bdB (bodyA_bd n b)

/-- What bytes say. -/
def aN (zs : List Int) : Int := beNum ((zs.drop 1).take 4)
def aB (zs : List Int) : Int := beNum ((zs.drop 5).take 4)
def okA (zs : List Int) : Prop := zs.length = 13 ∧ zs[0]?.getD 0 = 65 ∧ isSealed zs = true ∧ aN zs ≤ 1073741824
def badA (zs : List Int) (e : Int) : Prop :=
  (zs.length ≠ 13 ∧ e = 2) ∨ (zs.length = 13 ∧ zs[0]?.getD 0 ≠ 65 ∧ e = 12) ∨ (zs.length = 13 ∧ zs[0]?.getD 0 = 65 ∧ isSealed zs = false ∧ e = 4) ∨ (zs.length = 13 ∧ zs[0]?.getD 0 = 65 ∧ isSealed zs = true ∧ ¬ aN zs ≤ 1073741824 ∧ e = 1)
theorem aread_cases (zs : List Int) : (∃ e, 0 < e ∧ badA zs e) ∨ okA zs := by
  by_cases h1 : zs.length = 13
  · by_cases h2 : zs[0]?.getD 0 = 65
    · cases h3 : isSealed zs with
      | false => exact .inl ⟨4, by decide, .inr (.inr (.inl ⟨h1, h2, h3, rfl⟩))⟩
      | true =>
        by_cases h4 : aN zs ≤ 1073741824
        · exact .inr ⟨h1, h2, h3, h4⟩
        · exact .inl ⟨1, by decide, .inr (.inr (.inr ⟨h1, h2, h3, h4, rfl⟩))⟩
    · exact .inl ⟨12, by decide, .inr (.inl ⟨h1, h2, rfl⟩)⟩
  · exact .inl ⟨2, by decide, .inl ⟨h1, rfl⟩⟩

theorem packA_list (n b : Int) : packA n b = 65 :: n / 2 ^ 24 % 256 :: n / 2 ^ 16 % 256 :: n / 2 ^ 8 % 256 :: n / 2 ^ 0 % 256 :: b / 2 ^ 24 % 256 :: b / 2 ^ 16 % 256 :: b / 2 ^ 8 % 256 :: b / 2 ^ 0 % 256 :: four (sum32 (bodyA n b)) := by
  simp [packA, sealL, bodyA, beBytes_four]
theorem aN_pack {n b : Int} (h0 : 0 ≤ n) (h1 : n ≤ 1073741824) : aN (packA n b) = n := by
  unfold aN
  rw [packA_list]
  show beNum [n / 2 ^ 24 % 256, n / 2 ^ 16 % 256, n / 2 ^ 8 % 256, n / 2 ^ 0 % 256] = n
  rw [← beBytes_four]
  exact beNum_beBytes h0 (by omega)
theorem aB_pack {n b : Int} (h0 : 0 ≤ b) (h1 : b < 4294967296) : aB (packA n b) = b := by
  unfold aB
  rw [packA_list]
  show beNum [b / 2 ^ 24 % 256, b / 2 ^ 16 % 256, b / 2 ^ 8 % 256, b / 2 ^ 0 % 256] = b
  rw [← beBytes_four]
  exact beNum_beBytes h0 h1
theorem packA_head (n b : Int) : (packA n b)[0]?.getD 0 = 65 := by rw [packA_list]; rfl
theorem packA_sealed (n b : Int) : isSealed (packA n b) = true := isSealed_sealB _
theorem okA_pack {n b : Int} (h0 : 0 ≤ n) (h1 : n ≤ 1073741824) : okA (packA n b) := ⟨packA_len n b, packA_head n b, packA_sealed n b, by rw [aN_pack h0 h1]; exact h1⟩
theorem list_nine {zs : List Int} (h : zs.length = 13) : ∃ a s1 s2 s3 s4 b1 b2 b3 b4 t, zs = a :: s1 :: s2 :: s3 :: s4 :: b1 :: b2 :: b3 :: b4 :: t ∧ t.length = 4 := by
  match zs, h with
  | a :: s1 :: s2 :: s3 :: s4 :: b1 :: b2 :: b3 :: b4 :: t, h => exact ⟨a, s1, s2, s3, s4, b1, b2, b3, b4, t, rfl, by simpa using h⟩
  | [], h => simp at h
  | [_], h => simp at h
  | [_, _], h => simp at h
  | [_, _, _], h => simp at h
  | [_, _, _, _], h => simp at h
  | [_, _, _, _, _], h => simp at h
  | [_, _, _, _, _, _], h => simp at h
  | [_, _, _, _, _, _, _], h => simp at h
  | [_, _, _, _, _, _, _, _], h => simp at h
/-- What is read is made again. -/
theorem packA_read {zs : List Int} (bz : ∀ z ∈ zs, 0 ≤ z ∧ z ≤ 255) (h : okA zs) : (0 ≤ aN zs ∧ aN zs ≤ 1073741824) ∧ (0 ≤ aB zs ∧ aB zs < 4294967296) ∧ packA (aN zs) (aB zs) = zs := by
  obtain ⟨h1, h2, h3, h4⟩ := h
  have hs := (sealed_is h3).2
  rw [h1] at hs
  obtain ⟨a, s1, s2, s3, s4, b1, b2, b3, b4, t, rfl, ht⟩ := list_nine h1
  have c1 := bz s1 (by simp)
  have c2 := bz s2 (by simp)
  have c3 := bz s3 (by simp)
  have c4 := bz s4 (by simp)
  have d1 := bz b1 (by simp)
  have d2 := bz b2 (by simp)
  have d3 := bz b3 (by simp)
  have d4 := bz b4 (by simp)
  have en : aN (a :: s1 :: s2 :: s3 :: s4 :: b1 :: b2 :: b3 :: b4 :: t) = beNum [s1, s2, s3, s4] := rfl
  have eb : aB (a :: s1 :: s2 :: s3 :: s4 :: b1 :: b2 :: b3 :: b4 :: t) = beNum [b1, b2, b3, b4] := rfl
  have e0 : a = 65 := h2
  rw [en] at h4
  rw [en, eb]
  have hn0 : 0 ≤ beNum [s1, s2, s3, s4] := by rw [beNum_four]; omega
  have hb0 : 0 ≤ beNum [b1, b2, b3, b4] ∧ beNum [b1, b2, b3, b4] < 4294967296 := by rw [beNum_four]; omega
  refine ⟨⟨hn0, h4⟩, hb0, ?_⟩
  have e9 : (a :: s1 :: s2 :: s3 :: s4 :: b1 :: b2 :: b3 :: b4 :: t).take (13 - 4) = bodyA (beNum [s1, s2, s3, s4]) (beNum [b1, b2, b3, b4]) := by
    unfold bodyA
    rw [beBytes_beNum c1 c2 c3 c4, beBytes_beNum d1 d2 d3 d4, e0]
    rfl
  rw [e9] at hs
  exact hs

/-- Has an ack this one? -/
def hasA (n : Int) (b : Nat) (q : Int) : Bool := decide (0 ≤ q) && (decide (q < n) || (decide (0 ≤ n) && decide (q - n < 32) && (b / 2 ^ (q - n).toNat % 2 == 1)))
theorem hasA_neg {n : Int} {b : Nat} {q : Int} (h : q < 0) : hasA n b q = false := by
  unfold hasA; rw [decide_eq_false (by omega)]; rfl
theorem hasA_low {n : Int} {b : Nat} {q : Int} (h0 : 0 ≤ q) (h : q < n) : hasA n b q = true := by
  unfold hasA; rw [decide_eq_true h0, decide_eq_true h]; rfl
theorem hasA_none {n : Int} {b : Nat} {q : Int} (h0 : 0 ≤ q) (h : ¬ q < n) (hn : n < 0) : hasA n b q = false := by
  unfold hasA; rw [decide_eq_true h0, decide_eq_false h, decide_eq_false (by omega)]; rfl
theorem hasA_far {n : Int} {b : Nat} {q : Int} (h0 : 0 ≤ q) (h : ¬ q < n) (hf : ¬ q - n < 32) : hasA n b q = false := by
  unfold hasA; rw [decide_eq_true h0, decide_eq_false h, decide_eq_false hf]; simp
theorem hasA_bit {n : Int} {b : Nat} {i : Nat} (hn : 0 ≤ n) (hi : i < 32) : hasA n b (n + i) = (b / 2 ^ i % 2 == 1) := by
  unfold hasA
  rw [decide_eq_true (by omega), decide_eq_false (by omega), decide_eq_true hn, decide_eq_true (by omega), show n + (i : Int) - n = (i : Int) by omega, Int.toNat_natCast]
  simp

end Go.Proofs.YtkphjnbeakkejabDoor

/-
  What the page's Mix answers.
-/
namespace Go.Proofs.YtkphjnbeakkejabDoor
open Go.RowKit

end Go.Proofs.YtkphjnbeakkejabDoor

/-
  What the page's Begin, Step, States answer.
-/
namespace Go.Proofs.YtkphjnbeakkejabDoor
open Go.RowKit

end Go.Proofs.YtkphjnbeakkejabDoor

/-
  What the page's Symbol answers.
-/
namespace Go.Proofs.YtkphjnbeakkejabDoor
open Go.RowKit

end Go.Proofs.YtkphjnbeakkejabDoor

/-
  What the page's Data (may it be?) and volutekeep.Data answer. (Written by tpl_refdata.py.)
-/
namespace Go.Proofs.YtkphjnbeakkejabDoor
open Go.RowKit

end Go.Proofs.YtkphjnbeakkejabDoor

/-
  What the page's Bits, Sum16, Sum32 answer, for every text in memory.
-/
namespace Go.Proofs.YtkphjnbeakkejabDoor
open Go.RowKit

end Go.Proofs.YtkphjnbeakkejabDoor

/-
  Lists of symbols (a place and a value each) in memory. No function of the program is spoken of.
-/
namespace Go.Proofs.YtkphjnbeakkejabDoor
open Go.RowKit

/-- The slice v holds the symbols l in a block below n₀ (or it is of length 0, and they are none). -/
def Syms (n₀ : Nat) (W : World) (v : Value) (l : List (Int × Int)) : Prop :=
  ((∃ a cap, v = .slice a 0 cap ∧ (a = none → cap = 0)) ∧ l = []) ∨ ∃ b off cap, v = .slice (some ⟨b, off, none⟩) l.length cap ∧ b < n₀ ∧ ∀ (j : Nat) (x : Int × Int), l[j]? = some x → W.cell? ⟨b, off + j * 2, none⟩ = some (.int .i64 x.1) ∧ W.cell? ⟨b, off + j * 2 + 1, none⟩ = some (.int .i64 x.2)

theorem Syms.below {n₀ : Nat} {W W' : World} {v : Value} {l : List (Int × Int)} (h : Syms n₀ W v l) (hb : Below n₀ W W') : Syms n₀ W' v l := by
  rcases h with h | ⟨b, off, cap, hv, hlt, hc⟩
  · exact .inl h
  · exact .inr ⟨b, off, cap, hv, hlt, fun j x hj => ⟨(hb.cell (p := ⟨b, off + j * 2, none⟩) hlt).trans (hc j x hj).1, (hb.cell (p := ⟨b, off + j * 2 + 1, none⟩) hlt).trans (hc j x hj).2⟩⟩
theorem Syms.mono {n₀ n₁ : Nat} {W : World} {v : Value} {l : List (Int × Int)} (h : Syms n₀ W v l) (hn : n₀ ≤ n₁) : Syms n₁ W v l := by
  rcases h with h | ⟨b, off, cap, hv, hlt, hc⟩
  · exact .inl h
  · exact .inr ⟨b, off, cap, hv, by omega, hc⟩
theorem Syms.next {W W' : World} {v : Value} {l : List (Int × Int)} (h : Syms W.heap.size W v l) (hb : Below W.heap.size W W') : Syms W'.heap.size W' v l := (h.below hb).mono hb.size
theorem Syms.shape {n₀ : Nat} {W : World} {v : Value} {l : List (Int × Int)} (h : Syms n₀ W v l) : ∃ a cap, v = .slice a l.length cap := by
  rcases h with ⟨⟨a, cap, rfl, _⟩, rfl⟩ | ⟨b, off, cap, rfl, _, _⟩
  · exact ⟨_, _, rfl⟩
  · exact ⟨_, _, rfl⟩
end Go.Proofs.YtkphjnbeakkejabDoor

/-
  What volutekeep.Syms and volutekeep.TwinSyms answer, for all symbols in memory.
-/
namespace Go.Proofs.YtkphjnbeakkejabDoor
open Go.RowKit

end Go.Proofs.YtkphjnbeakkejabDoor

/-
  append to a row of symbols of the call's own: its run; parts of rows of symbols. No function of the program is spoken of.
-/
namespace Go.Proofs.YtkphjnbeakkejabDoor
open Go.RowKit

/-- append whose run is known: for the walk, guarded or not. -/
theorem wpList_append_known {P : Program} {w : World} {ops : Array Oper} {rest : List Oper} {o : Oper} {a : Act} {Q : Exit → Act → World → Prop} (hw : Region.wanted o (yielded ops a.tmps) = true) (s x : Operand) (t : TypeId)
    (ho : o.op = .call { callee := .builtin .append, args := #[s, x], argTypes := #[t, t] }) (v src : Value) (hs : a.eval s = v) (hx : a.eval x = src) (v' : Value) (w' : World)
    (hrun : (Builtin.append_ #[t, t] o.type #[v, src]).run P w = .ok v' w') (h : wpList P ops Q rest (a.put o.dst v') w') : wpList P ops Q (o :: rest) a w := by
  refine wpList_step fun K hK => ?_
  rw [if_pos hw]
  unfold Oper.wp
  simp [execOp, ho, resolve, invoke, builtin, hs, hx, hrun, Result.andThen]
  exact hK _ _ h

end Go.Proofs.YtkphjnbeakkejabDoor

/-
  Rows of numbers of the call's own: append of one number; a block that is written place by place. No function of the program is spoken of.
-/
namespace Go.Proofs.YtkphjnbeakkejabDoor
open Go.RowKit

theorem infoIntR : (Tryd.prog.info? 3).map (fun i => (i.zero, i.size, i.bytes)) = some (some (.int .i64 0), 1, 8) := by kernel_rfl

/-- append of one number, its run. -/
theorem run_append_int (v : Value) (n base : Nat) (xs : List Int) (x : Int) (ty : TypeId) (w : World) (hown : w.ownsRow base 3 1 v n (xs.map (Value.int .i64))) (hb : base ≤ w.heap.size) (h1 : n ≤ 4294967296) :
    ∃ v' w', (Builtin.append_ #[26, 26] ty #[v, .slice (some ⟨w.heap.size, 0, none⟩) 1 1]).run Tryd.prog (w.alloc (.cells #[.int .i64 x] 3)) = .ok v' w' ∧ w'.ownsRow base 3 1 v' (n + 1) ((xs ++ [x]).map (Value.int .i64)) ∧ (w.alloc (.cells #[.int .i64 x] 3)).grownBy w' v.ownBlock := by
  obtain ⟨i0, hi, hz0, hz1, hz2⟩ := info_parts infoIntR
  obtain ⟨v', w', hr, ho, hg, _⟩ := run_append_own (P := Tryd.prog) (w.alloc (.cells #[.int .i64 x] 3)) base 26 ty 3 i0 (.int .i64 0) 1 8 Tryd.underlying26 hi hz0 hz1 hz2 rfl (by decide) v n _ (hown.alloc _) ⟨w.heap.size, 0, none⟩ 1 1 [.int .i64 x] rfl (World.news_of_block (World.alloc_heap_new _ _)) (by simp [Value.oneCell']) (by unfold maxLen; omega) (by omega) (by simp; omega)
  exact ⟨v', w', hr, by rw [List.map_append]; exact ho, hg⟩

/-- Block g holds the numbers zs ahead of all; none of it is frozen. -/
def IntsAt (W : World) (g : Nat) (zs : List Int) : Prop := g < W.heap.size ∧ (∀ q, q < zs.length → W.cell? ⟨g, q, none⟩ = some (.int .i64 (zs[q]?.getD 0))) ∧ ∀ q, W.frozen? ⟨g, q, none⟩ = false

theorem IntsAt.set {W : World} {g : Nat} {zs : List Int} (h : IntsAt W g zs) (k : Nat) (hk : k < zs.length) (v : Int) : IntsAt (W.setCell ⟨g, k, none⟩ (.int .i64 v)) g (zs.set k v) := by
  refine ⟨by simpa [World.setCell] using h.1, fun q hq => ?_, fun q => by rw [World.frozen?_setCell]; exact h.2.2 q⟩
  rw [List.length_set] at hq
  by_cases e : q = k
  · subst e
    rw [World.cell?_setCell_same' _ _ _ (by rw [h.2.1 q hq]; rfl)]
    simp [hq]
  · rw [World.cell?_setCell_other _ _ _ _ (by intro e'; cases e'; exact e rfl), h.2.1 q hq, List.getElem?_set_ne (by omega)]
theorem IntsAt.cell {W : World} {g : Nat} {zs : List Int} (h : IntsAt W g zs) {q : Nat} {x : Int} (hq : zs[q]? = some x) : W.cell? ⟨g, q, none⟩ = some (.int .i64 x) := by
  rw [h.2.1 q (List.getElem?_eq_some_iff.1 hq).1, hq]; rfl
theorem IntsAt.below {W W' : World} {g n : Nat} {zs : List Int} (h : IntsAt W g zs) (hb : Below n W W') (hg : g < n) : IntsAt W' g zs := by
  refine ⟨Nat.lt_of_lt_of_le h.1 hb.size, fun q hq => (hb.cell (p := ⟨g, q, none⟩) hg).trans (h.2.1 q hq), fun q => ?_⟩
  have e : W'.frozen? ⟨g, q, none⟩ = W.frozen? ⟨g, q, none⟩ := by unfold World.frozen?; rw [hb.block g hg]
  rw [e]; exact h.2.2 q
theorem IntsAt.next {W W' : World} {g : Nat} {zs : List Int} (h : IntsAt W g zs) (hb : Below W.heap.size W W') : IntsAt W' g zs := h.below hb h.1
theorem IntsAt.other {W : World} {g : Nat} {zs : List Int} (h : IntsAt W g zs) {p : Addr} (hp : g ≠ p.block) (v : Value) : IntsAt (W.setCell p v) g zs := by
  refine ⟨by simpa [World.setCell] using h.1, fun q hq => ?_, fun q => by rw [World.frozen?_setCell]; exact h.2.2 q⟩
  rw [World.cell?_setCell_other _ _ _ _ (by intro e; cases e; exact hp rfl)]
  exact h.2.1 q hq
theorem IntsAt.drewN {W : World} {g : Nat} {zs : List Int} (h : IntsAt W g zs) (n : Nat) : IntsAt (W.drewN n) g zs := h

end Go.Proofs.YtkphjnbeakkejabDoor

/-
  What the page's Sum32 answers, for every text in memory.
-/
namespace Go.Proofs.YtkphjnbeakkejabDoor
open Go.RowKit

end Go.Proofs.YtkphjnbeakkejabDoor

/-
  What the page's Seal and Sealed answer, for every text in memory.
-/
namespace Go.Proofs.YtkphjnbeakkejabDoor
open Go.RowKit

end Go.Proofs.YtkphjnbeakkejabDoor

/-
  What the page's Sealed answers, for every text in memory.
-/
namespace Go.Proofs.YtkphjnbeakkejabDoor
open Go.RowKit

end Go.Proofs.YtkphjnbeakkejabDoor

/-
  What the page's Has, Ack and ReadAck and volutekeep.Ack answer. (Written by tpl_refack.py.)
-/
namespace Go.Proofs.YtkphjnbeakkejabDoor
open Go.RowKit

theorem row_shapeA {W : World} {base k : Nat} {e : TypeId} {v : Value} {xs : List Value} (h : W.ownsRow base e 1 v k xs) : ∃ a c, v = .slice a k c := by
  rcases h.2 with ⟨e, e0⟩ | ⟨g, c, cur, e, _⟩
  · exact ⟨_, _, by rw [e, e0]⟩
  · exact ⟨_, _, e⟩
theorem row_boxA {W : World} {B base : Nat} {x : Int} (h : Box W B 5 #[.int .u8 x]) (hb : base ≤ B) : W.ownsRow base 5 1 (.slice (some ⟨B, 0, none⟩) 1 1) 1 ([x].map (Value.int .u8)) :=
  ⟨rfl, .inr ⟨B, 1, #[.int .u8 x], rfl, hb, h, Nat.le_refl _, by unfold maxLen; omega, rfl, rfl⟩⟩
end Go.Proofs.YtkphjnbeakkejabDoor

/-
  What package ack answers (isNext, Make, take, Read, Has).
-/
namespace Go.Proofs.YtkphjnbeakkejabDoor
open Go.RowKit

set_option maxHeartbeats 400000 in
theorem isNext_any (z : Int) (w : World) : Calls Tryd.prog 31 #[.int .i64 z] w fun e w' => e = .returned (.bool (aArg z)) ∧ w = w' := by
  unfold aArg
  by_cases h1 : 0 ≤ z
  · have d1 : decide (0 ≤ z) = true := decide_eq_true h1
    rw [d1, Bool.true_and]
    go_enter Tryd.func31, Tryd.ntmps31
    go_wp2
    go_ret
    exact ⟨rfl, rfl⟩
  · have d1 : decide (0 ≤ z) = false := decide_eq_false h1
    rw [d1, Bool.false_and]
    go_enter Tryd.func31, Tryd.ntmps31
    go_wp2
    go_ret
    exact ⟨rfl, rfl⟩

theorem put_atA (a : Option Addr) (n cap : Nat) (zs : List Int) (hn : zs.length = n) (x : Int) (s : Nat) (w : World) (n₀ : Nat) (h1 : 1 ≤ s) (h2 : s ≤ 4) (h3 : 0 ≤ x) (h4 : x / 2 ^ (8 * s) = 0) (h5 : n ≤ 4096 - s) (hn₀ : n₀ ≤ w.heap.size) (hH : Holds .u8 n₀ w (.slice a n cap) zs) :
    Calls Tryd.prog 27 #[.slice a n cap, .int .i64 x, .int .i64 s] w fun e W' => ∃ ra rc, e = .returned (.tuple #[.slice ra (n + s) rc, .int .i64 0]) ∧ W'.ownsRow w.heap.size 5 1 (.slice ra (n + s) rc) (n + s) ((zs ++ beBytes s x).map (Value.int .u8)) ∧ Below w.heap.size w W' := by
  subst hn
  refine (put_ok a cap zs x s w n₀ h1 h2 h3 h4 h5 hn₀ hH).mono ?_
  rintro e W' ⟨r, rfl, o, b⟩
  obtain ⟨ra, rc, rfl⟩ := row_shapeA o
  exact ⟨ra, rc, rfl, o, b⟩
theorem seal_atA (a : Option Addr) (n cap : Nat) (xs : List Int) (hn : xs.length = n) (hl : n ≤ 4092) (bx : ∀ z ∈ xs, 0 ≤ z ∧ z ≤ 255) (w : World) (ha : Holds .u8 w.heap.size w (.slice a n cap) xs) :
    Calls Tryd.prog 28 #[.slice a n cap] w fun e W' => ∃ r, e = .returned (.tuple #[r, .int .i64 0]) ∧ W'.ownsRow w.heap.size 5 1 r (n + 4) ((sealL xs).map (Value.int .u8)) ∧ Below w.heap.size w W' := by
  subst hn
  exact Seal_any a cap xs hl bx w ha

set_option maxRecDepth 100000 in
set_option maxHeartbeats 2000000 in
theorem AckMake_ok (n b : Int) (h0 : 0 ≤ n) (h1 : n ≤ 1073741824) (hb0 : 0 ≤ b) (hb1 : b < 4294967296) (w : World) :
    Calls Tryd.prog 13 #[.agg #[.int .i64 n, .int .u32 b]] w fun e W' => ∃ q, e = .returned (.tuple #[q, .int .i64 0]) ∧ W'.ownsRow w.heap.size 5 1 q 13 ((packA n b).map (Value.int .u8)) ∧ Below w.heap.size w W' := by
  have b1 : Below w.heap.size w (w.alloc (.cells #[.int .i64 n, .int .u32 b] 51)) := (Below.refl w.heap.size w).alloc (Nat.le_refl _) _
  have x1 := Box.new w 51 #[.int .i64 n, .int .u32 b]
  have HN := isNext_any n (w.alloc (.cells #[.int .i64 n, .int .u32 b] 51))
  rw [(aArg_iff n).2 ⟨h0, h1⟩] at HN
  have d1 : n / 2 ^ (8 * 4) = 0 := by rw [show (2 : Int) ^ (8 * 4) = 4294967296 from rfl]; omega
  have d2 : b / 2 ^ (8 * 4) = 0 := by rw [show (2 : Int) ^ (8 * 4) = 4294967296 from rfl]; omega
  have D1 : Hid (0 ≤ n ∧ n / 2 ^ (8 * 4) = 0) := ⟨h0, d1⟩
  have D2 : Hid (0 ≤ b ∧ b / 2 ^ (8 * 4) = 0) := ⟨hb0, d2⟩
  have ewb : IntKind.i64.wrap b = b := by rw [IntKind.wrap_i64]; omega
  obtain ⟨l0, hl0⟩ : ∃ l : List Int, [65] = l := ⟨_, rfl⟩
  have K0 : Hid (l0.length = 1) := by show l0.length = 1; rw [← hl0]; rfl
  obtain ⟨l1, hl1⟩ : ∃ l, l0 ++ beBytes 4 n = l := ⟨_, rfl⟩
  have K1 : Hid (l1.length = 1 + 4) := by show l1.length = 5; rw [← hl1, List.length_append, beBytes_len, K0.out]
  obtain ⟨l2, hl2⟩ : ∃ l, l1 ++ beBytes 4 b = l := ⟨_, rfl⟩
  have K2 : Hid (l2.length = 1 + 4 + 4) := by show l2.length = 9; rw [← hl2, List.length_append, beBytes_len, K1.out]
  have E : l2 = bodyA n b := by rw [← hl2, ← hl1, ← hl0]; simp [bodyA]
  have HP : Hid (sealL l2 = packA n b) := by show sealL l2 = packA n b; rw [E]; rfl
  have HBD : Hid (∀ z ∈ l2, 0 ≤ z ∧ z ≤ 255) := by show ∀ z ∈ l2, 0 ≤ z ∧ z ≤ 255; rw [E]; exact bodyA_bd n b
  have E0 : Hid ([65] = l0) := hl0
  have E1 : Hid (l0 ++ beBytes 4 n = l1) := hl1
  have E2 : Hid (l1 ++ beBytes 4 b = l2) := hl2
  clear hl0 hl1 hl2 E h0 h1 hb0 hb1 d1 d2
  obtain ⟨w1, hw1⟩ : ∃ w1, w.alloc (.cells #[.int .i64 n, .int .u32 b] 51) = w1 := ⟨_, rfl⟩
  have HW : Hid (w.alloc (.cells #[.int .i64 n, .int .u32 b] 51) = w1) := hw1
  rw [hw1] at b1 x1
  clear hw1
  go_enter Tryd.func13, Tryd.ntmps13
  go_wp2_with fail
  refine HN.mono ?_
  rintro e w' ⟨rfl, rfl⟩
  clear HN
  rw [HW.out]
  clear HW
  have b2 : Below w1.heap.size w1 (w1.alloc (.cells #[.int .u8 65] 5)) := (Below.refl _ _).alloc (Nat.le_refl _) _
  have bb2 := b1.trans (b2.mono b1.size)
  have x2 := x1.next b2
  have h2 : Holds .u8 (w1.alloc (.cells #[.int .u8 65] 5)).heap.size (w1.alloc (.cells #[.int .u8 65] 5)) (.slice (some ⟨w1.heap.size, 0, none⟩) 1 1) l0 := by
    have := holds_of_row (row_boxA (base := 0) (Box.new w1 5 #[.int .u8 65]) (Nat.zero_le _))
    rw [E0.out] at this
    exact this
  have HP1 := put_atA (some ⟨w1.heap.size, 0, none⟩) 1 1 l0 K0.out n 4 (w1.alloc (.cells #[.int .u8 65] 5)) _ (by decide) (by decide) D1.out.1 D1.out.2 (by decide) (Nat.le_refl _) h2
  rw [E1.out] at HP1
  have c0 := x1.cell 0 _ rfl
  have c2 := x2.cell 0 _ rfl
  have hB := x1.lt
  clear h2
  go_wp2_with fail
  refine HP1.mono ?_
  rintro e w3 ⟨a3, c3, rfl, o3, b3⟩
  have bb3 := bb2.trans (b3.mono bb2.size)
  have x3 := x2.next b3
  have c1 := x3.cell 1 _ rfl
  have hB3 := x3.lt
  have HP2 := put_atA a3 (1 + 4) c3 l1 K1.out b 4 w3 _ (by decide) (by decide) D2.out.1 D2.out.2 (by decide) (Nat.le_refl _) (holds_of_row o3)
  rw [E2.out] at HP2
  clear HP1 b1 b2 x1 x2 b3 c0 c2 hB o3
  go_wp2_with fail
  refine HP2.mono ?_
  rintro e w4 ⟨a4, c4, rfl, o4, b4⟩
  have bb4 := bb3.trans (b4.mono bb3.size)
  have HS := seal_atA a4 (1 + 4 + 4) c4 l2 K2.out (by decide) HBD.out w4 (holds_of_row o4)
  rw [HP.out] at HS
  clear HP2 b4 bb3 x3 c1 hB3 o4
  go_wp2_with fail
  refine HS.mono ?_
  rintro e w5 ⟨q, rfl, o5, b5⟩
  have bb5 := bb4.trans (b5.mono bb4.size)
  have o6 := row_base o5 bb4.size
  clear HS o5 b5
  go_wp2
  go_ret2
  exact ⟨_, rfl, o6, bb5⟩

set_option maxRecDepth 100000 in
set_option maxHeartbeats 2000000 in
theorem atake_any (a : Option Addr) (cap : Nat) (zs : List Int) (hl : zs.length = 13) (hc : zs.length ≤ cap) (bz : ∀ z ∈ zs, 0 ≤ z ∧ z ≤ 255) (w : World) (ha : Holds .u8 w.heap.size w (.slice a 13 cap) zs) :
    Calls Tryd.prog 58 #[.slice a 13 cap] w fun e W' => e = .returned (.tuple #[.agg #[.int .i64 (aN zs), .int .u32 (aB zs)], .int .i64 0]) ∧ Below w.heap.size w W' := by
  have b0 := (Below.refl w.heap.size w).alloc (Nat.le_refl _) (.cells #[.int .i64 0, .int .u32 0] 51)
  have x0 := Box.new w 51 #[.int .i64 0, .int .u32 0]
  rw [← hl] at ha ⊢
  rcases id ha with ⟨_, e⟩ | ⟨b, off, cap', e, hb, hcs⟩
  · rw [e] at hl; simp at hl
  cases e
  have HG1 : Calls Tryd.prog 65 #[.slice (some ⟨b, off, none⟩) zs.length cap, .int .i64 1, .int .i64 4] (w.alloc (.cells #[.int .i64 0, .int .u32 0] 51)) fun e w' => e = .returned (.tuple #[.int .i64 (aN zs), .int .i64 0]) ∧ (w.alloc (.cells #[.int .i64 0, .int .u32 0] 51)) = w' := get_ok b off cap zs 1 4 _ (by decide) (by decide) (by omega) hc (by omega) bz (fun j hj => (b0.cell (p := ⟨b, off + j, none⟩) hb).trans (hcs j hj))
  have HG2 : Calls Tryd.prog 65 #[.slice (some ⟨b, off, none⟩) zs.length cap, .int .i64 5, .int .i64 4] (w.alloc (.cells #[.int .i64 0, .int .u32 0] 51)) fun e w' => e = .returned (.tuple #[.int .i64 (aB zs), .int .i64 0]) ∧ (w.alloc (.cells #[.int .i64 0, .int .u32 0] 51)) = w' := get_ok b off cap zs 5 4 _ (by decide) (by decide) (by omega) hc (by omega) bz (fun j hj => (b0.cell (p := ⟨b, off + j, none⟩) hb).trans (hcs j hj))
  have hB0 : 0 ≤ aB zs ∧ aB zs < 4294967296 := by
    have h := beNum_bd ((zs.drop 5).take 4) (fun z hz => bz z (List.mem_of_mem_drop (List.mem_of_mem_take hz)))
    have h4 : ((zs.drop 5).take 4).length = 4 := by rw [List.length_take, List.length_drop, hl]; rfl
    rw [h4] at h
    exact h
  obtain ⟨N, hN⟩ : ∃ N, aN zs = N := ⟨_, rfl⟩
  obtain ⟨B, hBe⟩ : ∃ B, aB zs = B := ⟨_, rfl⟩
  rw [hN] at HG1
  rw [hBe] at HG2 hB0
  rw [hN, hBe]
  have ewB : IntKind.u32.wrap B = B := by rw [IntKind.wrap_u32]; omega
  rw [hl] at HG1 HG2 ⊢
  have f0 := x0.free 0
  have f1 := x0.free 1
  have z0 := x0.cell 0 _ rfl
  have z1 := x0.cell 1 _ rfl
  clear bz hl hc hcs ha hN hBe
  go_enter Tryd.func58, Tryd.ntmps58
  go_wp2_with fail
  refine HG1.mono ?_
  rintro e w1 ⟨rfl, rfl⟩
  clear HG1
  go_wp2_with fail
  refine HG2.mono ?_
  rintro e w1 ⟨rfl, rfl⟩
  clear HG2
  go_wp2
  exact bodyPost_ret (v := .tuple #[.agg #[.int .i64 N, .int .u32 B], .int .i64 0]) (by simp [results, Tryd.results58, go_sem]) rfl ⟨rfl, (Below.refl w.heap.size w).alloc (Nat.le_refl _) _⟩

set_option maxRecDepth 100000 in
set_option maxHeartbeats 2000000 in
theorem aread_len (a : Option Addr) (n cap : Nat) (hn : n ≠ 13) (_hl : n ≤ 4096) (w : World) :
    Calls Tryd.prog 32 #[.slice a n cap] w fun e w' => e = .returned (.tuple #[.agg #[.int .i64 0, .int .u32 0], .int .i64 2]) ∧ Below w.heap.size w w' := by
  have b0 := (Below.refl w.heap.size w).alloc (Nat.le_refl _) (.cells #[.int .i64 0, .int .u32 0] 51)
  have d0 : ((n : Int) != 13) = true := by rw [bne_iff_ne]; omega
  clear hn
  go_enter Tryd.func32, Tryd.ntmps32
  go_wp2
  exact bodyPost_ret (v := .tuple #[.agg #[.int .i64 0, .int .u32 0], .int .i64 2]) (by simp [results, Tryd.results32, go_sem]) rfl ⟨rfl, b0⟩

set_option maxRecDepth 100000 in
set_option maxHeartbeats 2000000 in
theorem aread_kind (a : Option Addr) (cap : Nat) (zs : List Int) (hl : zs.length = 13) (_hc : zs.length ≤ cap) (_bz : ∀ z ∈ zs, 0 ≤ z ∧ z ≤ 255) (h0 : zs[0]?.getD 0 ≠ 65) (w : World) (ha : Holds .u8 w.heap.size w (.slice a 13 cap) zs) :
    Calls Tryd.prog 32 #[.slice a 13 cap] w fun e w' => e = .returned (.tuple #[.agg #[.int .i64 0, .int .u32 0], .int .i64 12]) ∧ Below w.heap.size w w' := by
  have b0 := (Below.refl w.heap.size w).alloc (Nat.le_refl _) (.cells #[.int .i64 0, .int .u32 0] 51)
  have x0 := Box.new w 51 #[.int .i64 0, .int .u32 0]
  have ha' : Holds .u8 w.heap.size w (.slice a zs.length cap) zs := by rw [hl]; exact ha
  rcases ha' with ⟨_, e⟩ | ⟨b, off, cap', e, hb, hcs⟩
  · rw [e] at hl; simp at hl
  cases e
  have e0 : (w.alloc (.cells #[.int .i64 0, .int .u32 0] 51)).cell? ⟨b, off, none⟩ = some (.int .u8 (zs[0]?.getD 0)) := (b0.cell (p := ⟨b, off, none⟩) hb).trans (hcs 0 (by omega))
  obtain ⟨K, hK⟩ : ∃ K, zs[0]?.getD 0 = K := ⟨_, rfl⟩
  rw [hK] at e0 h0
  have d0 : (K != 65) = true := by rw [bne_iff_ne]; exact h0
  clear hK h0 hcs ha hl  x0
  go_enter Tryd.func32, Tryd.ntmps32
  go_wp2
  exact bodyPost_ret (v := .tuple #[.agg #[.int .i64 0, .int .u32 0], .int .i64 12]) (by simp [results, Tryd.results32, go_sem]) rfl ⟨rfl, b0⟩

set_option maxRecDepth 100000 in
set_option maxHeartbeats 2000000 in
theorem aread_sum (a : Option Addr) (cap : Nat) (zs : List Int) (hl : zs.length = 13) (hc : zs.length ≤ cap) (bz : ∀ z ∈ zs, 0 ≤ z ∧ z ≤ 255) (h0 : zs[0]?.getD 0 = 65) (hS : isSealed zs = false) (w : World) (ha : Holds .u8 w.heap.size w (.slice a 13 cap) zs) :
    Calls Tryd.prog 32 #[.slice a 13 cap] w fun e w' => e = .returned (.tuple #[.agg #[.int .i64 0, .int .u32 0], .int .i64 4]) ∧ Below w.heap.size w w' := by
  have b0 := (Below.refl w.heap.size w).alloc (Nat.le_refl _) (.cells #[.int .i64 0, .int .u32 0] 51)
  have x0 := Box.new w 51 #[.int .i64 0, .int .u32 0]
  have ha' : Holds .u8 w.heap.size w (.slice a zs.length cap) zs := by rw [hl]; exact ha
  rcases ha' with ⟨_, e⟩ | ⟨b, off, cap', e, hb, hcs⟩
  · rw [e] at hl; simp at hl
  cases e
  have e0 : (w.alloc (.cells #[.int .i64 0, .int .u32 0] 51)).cell? ⟨b, off, none⟩ = some (.int .u8 (zs[0]?.getD 0)) := (b0.cell (p := ⟨b, off, none⟩) hb).trans (hcs 0 (by omega))
  have HHA := ha.next b0
  have HS := Sealed_at (some ⟨b, off, none⟩) 13 cap zs hl (by decide) (by omega) bz _ HHA
  rw [hS] at HS
  rw [h0] at e0
  clear h0 hcs hS
  clear HHA bz hc hl ha
  go_enter Tryd.func32, Tryd.ntmps32
  go_wp2_with fail
  refine HS.mono ?_
  rintro e w2 ⟨rfl, b2⟩
  clear HS
  have bb2 := b0.trans (b2.mono (by simp))
  have x2 := x0.next b2
  have f0 := x2.free 0
  have f1 := x2.free 1
  have z0 := x2.cell 0 _ rfl
  have z1 := x2.cell 1 _ rfl
  go_wp2
  exact bodyPost_ret (v := .tuple #[.agg #[.int .i64 0, .int .u32 0], .int .i64 4]) (by simp [results, Tryd.results32, go_sem, z0, z1]) rfl ⟨rfl, below_set2 bb2 (Nat.le_refl _) _ _⟩

set_option maxRecDepth 100000 in
set_option maxHeartbeats 2000000 in
theorem aread_seq (a : Option Addr) (cap : Nat) (zs : List Int) (hl : zs.length = 13) (hc : zs.length ≤ cap) (bz : ∀ z ∈ zs, 0 ≤ z ∧ z ≤ 255) (h0 : zs[0]?.getD 0 = 65) (hS : isSealed zs = true) (hq : ¬ aN zs ≤ 1073741824) (w : World) (ha : Holds .u8 w.heap.size w (.slice a 13 cap) zs) :
    Calls Tryd.prog 32 #[.slice a 13 cap] w fun e w' => e = .returned (.tuple #[.agg #[.int .i64 0, .int .u32 0], .int .i64 1]) ∧ Below w.heap.size w w' := by
  have b0 := (Below.refl w.heap.size w).alloc (Nat.le_refl _) (.cells #[.int .i64 0, .int .u32 0] 51)
  have x0 := Box.new w 51 #[.int .i64 0, .int .u32 0]
  have ha' : Holds .u8 w.heap.size w (.slice a zs.length cap) zs := by rw [hl]; exact ha
  rcases ha' with ⟨_, e⟩ | ⟨b, off, cap', e, hb, hcs⟩
  · rw [e] at hl; simp at hl
  cases e
  have e0 : (w.alloc (.cells #[.int .i64 0, .int .u32 0] 51)).cell? ⟨b, off, none⟩ = some (.int .u8 (zs[0]?.getD 0)) := (b0.cell (p := ⟨b, off, none⟩) hb).trans (hcs 0 (by omega))
  have HHA := ha.next b0
  have HS := Sealed_at (some ⟨b, off, none⟩) 13 cap zs hl (by decide) (by omega) bz _ HHA
  rw [hS] at HS
  rw [h0] at e0
  clear h0 hcs hS
  have HTT : Hid (∀ w2 : World, Holds .u8 w2.heap.size w2 (.slice (some ⟨b, off, none⟩) 13 cap) zs → Calls Tryd.prog 58 #[.slice (some ⟨b, off, none⟩) 13 cap] w2 fun e W' => e = .returned (.tuple #[.agg #[.int .i64 (aN zs), .int .u32 (aB zs)], .int .i64 0]) ∧ Below w2.heap.size w2 W') := fun w2 h => atake_any (some ⟨b, off, none⟩) cap zs hl hc bz w2 h
  have HA : Hid (Holds .u8 w.heap.size w (.slice (some ⟨b, off, none⟩) 13 cap) zs) := ha
  obtain ⟨N, hN⟩ : ∃ N, aN zs = N := ⟨_, rfl⟩
  obtain ⟨B, hBe⟩ : ∃ B, aB zs = B := ⟨_, rfl⟩
  rw [hN, hBe] at HTT
  rw [hN] at hq
  have HAN : Hid (aArg N = false) := aArg_no (fun h => hq h.2)
  clear hq hN hBe bz hc hl ha HHA
  go_enter Tryd.func32, Tryd.ntmps32
  go_wp2_with fail
  refine HS.mono ?_
  rintro e w2 ⟨rfl, b2⟩
  clear HS
  have bb2 := b0.trans (b2.mono (by simp))
  have x2 := x0.next b2
  clear b2
  have HT := HTT.out w2 ((HA.out.below bb2).mono bb2.size)
  go_wp2_with fail
  refine HT.mono ?_
  rintro e w3 ⟨rfl, b3⟩
  clear HT
  have bb3 := bb2.trans (b3.mono bb2.size)
  have x3 := x2.next b3
  have b4 : Below w3.heap.size w3 (w3.alloc (.cells #[.int .i64 N, .int .u32 B] 51)) := (Below.refl _ _).alloc (Nat.le_refl _) _
  have bb4 := bb3.trans (b4.mono bb3.size)
  have x4 := x3.next b4
  have y4 := Box.new w3 51 #[.int .i64 N, .int .u32 B]
  have HN := isNext_any N (w3.alloc (.cells #[.int .i64 N, .int .u32 B] 51))
  rw [HAN.out] at HN
  have f0 := x4.free 0
  have f1 := x4.free 1
  have z0 := x4.cell 0 _ rfl
  have z1 := x4.cell 1 _ rfl
  have y0 := y4.cell 0 _ rfl
  have y1 := y4.cell 1 _ rfl
  clear b3 b4 x2 x3
  go_wp2_with fail
  refine HN.mono ?_
  rintro e w' ⟨rfl, rfl⟩
  clear HN
  go_wp2
  exact bodyPost_ret (v := .tuple #[.agg #[.int .i64 0, .int .u32 0], .int .i64 1]) (by simp [results, Tryd.results32, go_sem, z0, z1]) rfl ⟨rfl, below_set2 bb4 (Nat.le_refl _) _ _⟩

set_option maxRecDepth 100000 in
set_option maxHeartbeats 2000000 in
theorem aread_ok (a : Option Addr) (cap : Nat) (zs : List Int) (hl : zs.length = 13) (hc : zs.length ≤ cap) (bz : ∀ z ∈ zs, 0 ≤ z ∧ z ≤ 255) (h0 : zs[0]?.getD 0 = 65) (hS : isSealed zs = true) (hq : aN zs ≤ 1073741824) (w : World) (ha : Holds .u8 w.heap.size w (.slice a 13 cap) zs) :
    Calls Tryd.prog 32 #[.slice a 13 cap] w fun e w' => e = .returned (.tuple #[.agg #[.int .i64 (aN zs), .int .u32 (aB zs)], .int .i64 0]) ∧ Below w.heap.size w w' := by
  have b0 := (Below.refl w.heap.size w).alloc (Nat.le_refl _) (.cells #[.int .i64 0, .int .u32 0] 51)
  have x0 := Box.new w 51 #[.int .i64 0, .int .u32 0]
  have ha' : Holds .u8 w.heap.size w (.slice a zs.length cap) zs := by rw [hl]; exact ha
  rcases ha' with ⟨_, e⟩ | ⟨b, off, cap', e, hb, hcs⟩
  · rw [e] at hl; simp at hl
  cases e
  have e0 : (w.alloc (.cells #[.int .i64 0, .int .u32 0] 51)).cell? ⟨b, off, none⟩ = some (.int .u8 (zs[0]?.getD 0)) := (b0.cell (p := ⟨b, off, none⟩) hb).trans (hcs 0 (by omega))
  have HHA := ha.next b0
  have HS := Sealed_at (some ⟨b, off, none⟩) 13 cap zs hl (by decide) (by omega) bz _ HHA
  rw [hS] at HS
  rw [h0] at e0
  clear h0 hcs hS
  have HTT : Hid (∀ w2 : World, Holds .u8 w2.heap.size w2 (.slice (some ⟨b, off, none⟩) 13 cap) zs → Calls Tryd.prog 58 #[.slice (some ⟨b, off, none⟩) 13 cap] w2 fun e W' => e = .returned (.tuple #[.agg #[.int .i64 (aN zs), .int .u32 (aB zs)], .int .i64 0]) ∧ Below w2.heap.size w2 W') := fun w2 h => atake_any (some ⟨b, off, none⟩) cap zs hl hc bz w2 h
  have HA : Hid (Holds .u8 w.heap.size w (.slice (some ⟨b, off, none⟩) 13 cap) zs) := ha
  obtain ⟨N, hN⟩ : ∃ N, aN zs = N := ⟨_, rfl⟩
  obtain ⟨B, hBe⟩ : ∃ B, aB zs = B := ⟨_, rfl⟩
  rw [hN, hBe] at HTT
  rw [hN] at hq
  rw [hN, hBe]
  have hq0 : 0 ≤ N := by rw [← hN, aN]; exact (beNum_bd _ (fun z hz => bz z (List.mem_of_mem_drop (List.mem_of_mem_take hz)))).1
  have HAN : Hid (aArg N = true) := (aArg_iff N).2 ⟨hq0, hq⟩
  clear hq hN hBe bz hc hl ha HHA
  go_enter Tryd.func32, Tryd.ntmps32
  go_wp2_with fail
  refine HS.mono ?_
  rintro e w2 ⟨rfl, b2⟩
  clear HS
  have bb2 := b0.trans (b2.mono (by simp))
  have x2 := x0.next b2
  clear b2
  have HT := HTT.out w2 ((HA.out.below bb2).mono bb2.size)
  go_wp2_with fail
  refine HT.mono ?_
  rintro e w3 ⟨rfl, b3⟩
  clear HT
  have bb3 := bb2.trans (b3.mono bb2.size)
  have x3 := x2.next b3
  have b4 : Below w3.heap.size w3 (w3.alloc (.cells #[.int .i64 N, .int .u32 B] 51)) := (Below.refl _ _).alloc (Nat.le_refl _) _
  have bb4 := bb3.trans (b4.mono bb3.size)
  have x4 := x3.next b4
  have y4 := Box.new w3 51 #[.int .i64 N, .int .u32 B]
  have HN := isNext_any N (w3.alloc (.cells #[.int .i64 N, .int .u32 B] 51))
  rw [HAN.out] at HN
  have f0 := x4.free 0
  have f1 := x4.free 1
  have z0 := x4.cell 0 _ rfl
  have z1 := x4.cell 1 _ rfl
  have y0 := y4.cell 0 _ rfl
  have y1 := y4.cell 1 _ rfl
  clear b3 b4 x2 x3
  go_wp2_with fail
  refine HN.mono ?_
  rintro e w' ⟨rfl, rfl⟩
  clear HN
  go_wp2
  exact bodyPost_ret (v := .tuple #[.agg #[.int .i64 N, .int .u32 B], .int .i64 0]) (by simp [results, Tryd.results32, go_sem, z0, z1]) rfl ⟨rfl, below_set2 bb4 (Nat.le_refl _) _ _⟩

theorem AckRead_no (a : Option Addr) (cap : Nat) (zs : List Int) (hl : zs.length ≤ 4096) (hc : zs.length ≤ cap) (bz : ∀ z ∈ zs, 0 ≤ z ∧ z ≤ 255) (E : Int) (h : badA zs E) (w : World) (ha : Holds .u8 w.heap.size w (.slice a zs.length cap) zs) :
    Calls Tryd.prog 32 #[.slice a zs.length cap] w fun e w' => e = .returned (.tuple #[.agg #[.int .i64 0, .int .u32 0], .int .i64 E]) ∧ Below w.heap.size w w' := by
  rcases h with ⟨h1, rfl⟩ | ⟨h1, h2, rfl⟩ | ⟨h1, h2, h3, rfl⟩ | ⟨h1, h2, h3, h4, rfl⟩
  · exact aread_len a zs.length cap h1 hl w
  · rw [h1] at ha ⊢; exact aread_kind a cap zs h1 hc bz h2 w ha
  · rw [h1] at ha ⊢; exact aread_sum a cap zs h1 hc bz h2 h3 w ha
  · rw [h1] at ha ⊢; exact aread_seq a cap zs h1 hc bz h2 h3 h4 w ha

theorem AckRead_ok (a : Option Addr) (cap : Nat) (zs : List Int) (hc : zs.length ≤ cap) (bz : ∀ z ∈ zs, 0 ≤ z ∧ z ≤ 255) (h : okA zs) (w : World) (ha : Holds .u8 w.heap.size w (.slice a zs.length cap) zs) :
    Calls Tryd.prog 32 #[.slice a zs.length cap] w fun e W' => e = .returned (.tuple #[.agg #[.int .i64 (aN zs), .int .u32 (aB zs)], .int .i64 0]) ∧ Below w.heap.size w W' := by
  obtain ⟨h1, h2, h3, h4⟩ := h
  rw [h1] at ha ⊢
  exact aread_ok a cap zs h1 hc bz h2 h3 h4 w ha

set_option maxRecDepth 100000 in
set_option maxHeartbeats 2000000 in
theorem AckHas_any (n : Int) (b : Nat) (q : Int) (hn : -9223372036854775808 ≤ n ∧ n ≤ 9223372036854775807) (hq : -9223372036854775808 ≤ q ∧ q ≤ 9223372036854775807) (hb : b < 4294967296) (w : World) :
    Calls Tryd.prog 59 #[.agg #[.int .i64 n, .int .u32 (b : Int)], .int .i64 q] w fun e w' => e = .returned (.bool (hasA n b q)) ∧ Below w.heap.size w w' := by
  have b1 : Below w.heap.size w (w.alloc (.cells #[.int .i64 n, .int .u32 (b : Int)] 51)) := (Below.refl w.heap.size w).alloc (Nat.le_refl _) _
  by_cases h0 : q < 0
  · have d0 : decide (q < 0) = true := decide_eq_true h0
    rw [hasA_neg h0]
    clear h0 hn hq
    go_enter Tryd.func59, Tryd.ntmps59
    go_wp2
    go_ret
    exact ⟨rfl, b1⟩
  have d0 : decide (q < 0) = false := decide_eq_false h0
  by_cases h2 : n < 0
  · rw [hasA_none (by omega) (by omega) h2]
    have d3 : decide (n < 0) = true := decide_eq_true h2
    clear h0 h2 hn hq
    go_enter Tryd.func59, Tryd.ntmps59
    go_wp2
    go_ret
    exact ⟨rfl, b1⟩
  have d3 : decide (n < 0) = false := decide_eq_false h2
  by_cases h1 : q < n
  · have d2 : decide (q < n) = true := decide_eq_true h1
    rw [hasA_low (by omega) h1]
    clear h0 h1 h2 hn hq
    go_enter Tryd.func59, Tryd.ntmps59
    go_wp2
    go_ret
    exact ⟨rfl, b1⟩
  have d2 : decide (q < n) = false := decide_eq_false h1
  obtain ⟨i, rfl⟩ : ∃ i : Nat, q = n + i := ⟨(q - n).toNat, by omega⟩
  have eI : n + (i : Int) - n = (i : Int) := by omega
  have ewi : wrap64 (i : Int) = (i : Int) := by unfold wrap64; omega
  have d4 : decide ((i : Int) < 0) = false := decide_eq_false (by omega)
  by_cases h4 : i < 32
  · rw [hasA_bit (by omega) h4]
    have d5 : decide ((i : Int) < 32) = true := decide_eq_true (by omega)
    have d5' : decide (i < 32) = true := decide_eq_true h4
    have hle : b / 2 ^ i ≤ b := Nat.div_le_self _ _
    have ed : (b : Int) / 2 ^ i = ((b / 2 ^ i : Nat) : Int) := by simp
    have ea : bits .and .u32 ((b / 2 ^ i : Nat) : Int) 1 = ((b / 2 ^ i % 2 : Nat) : Int) := zu32_and1 _ (by omega)
    obtain ⟨D, hD⟩ : ∃ D, b / 2 ^ i = D := ⟨_, rfl⟩
    rw [hD] at ed ea hle ⊢
    have HE : Hid ((((D % 2 : Nat) : Int) == 1) = (D % 2 == 1)) := by
      show (((D % 2 : Nat) : Int) == 1) = (D % 2 == 1)
      rcases Nat.mod_two_eq_zero_or_one D with h | h <;> rw [h] <;> rfl
    clear hD h0 h1 h2 hb hn hq
    go_enter Tryd.func59, Tryd.ntmps59
    go_wp2
    go_ret
    exact ⟨by rw [← HE.out]; rfl, b1⟩
  · rw [hasA_far (by omega) h1 (by omega)]
    have d5 : decide ((i : Int) < 32) = false := decide_eq_false (by omega)
    have d5' : decide (i < 32) = false := decide_eq_false h4
    clear h0 h1 h2 h4 hn hq
    go_enter Tryd.func59, Tryd.ntmps59
    go_wp2
    go_ret
    exact ⟨rfl, b1⟩

end Go.Proofs.YtkphjnbeakkejabDoor
