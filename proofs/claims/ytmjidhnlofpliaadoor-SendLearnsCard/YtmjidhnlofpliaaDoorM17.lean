/-
  Packets that tell what was had, as lists of numbers: which may be, which bytes they have, what bytes are read as, what an ack has. No function of the program is spoken of.
-/
import Derived.Test.YtmjidhnlofpliaaDoorM01
import Derived.Test.YtmjidhnlofpliaaDoorM02
import Derived.Test.YtmjidhnlofpliaaDoorM09
import Derived.Test.YtmjidhnlofpliaaDoorM10
import Derived.Test.YtmjidhnlofpliaaDoorM13
import Derived.Test.YtmjidhnlofpliaaDoorM14
import Derived.Test.YtmjidhnlofpliaaDoorM15
import Derived.Test.YtmjidhnlofpliaaDoorM16
import Derived.BigQuiet
import Derived.Deep.AppendLies
import Derived.Deep.QuietTactic
import Derived.Deep.SlicePairs
import Derived.Laws.AppendOwnNone
import Derived.OwnWalk
import Derived.WalkLawsBesides
import Derived.WalkSmall
import Derived.WalkSpells
namespace Go.Proofs.YtmjidhnlofpliaaDoor
open Go.RowKit

/-- May Next be? -/
def aArg (n : Int) : Bool := decide (0 ≤ n) && decide (n ≤ 1073741824)
theorem aArg_iff (n : Int) : aArg n = true ↔ 0 ≤ n ∧ n ≤ 1073741824 := by simp [aArg]
theorem aArg_no {n : Int} (h : ¬ (0 ≤ n ∧ n ≤ 1073741824)) : aArg n = false := by
  rw [← Bool.not_eq_true, aArg_iff]; exact h

/-- Its bytes, without and with the seal. -/
def bodyA (n b : Int) : List Int := 65 :: (beBytes 4 n ++ beBytes 4 b)
def packA (n b : Int) : List Int := sealL (bodyA n b)
theorem bodyA_len (n b : Int) : (bodyA n b).length = 9 := by simp [bodyA, beBytes_len]
theorem packA_len (n b : Int) : (packA n b).length = 13 := by rw [packA, sealL_lenB, bodyA_len]
theorem bodyA_bd (n b : Int) : ∀ z ∈ bodyA n b, 0 ≤ z ∧ z ≤ 255 := fun z hz => by
  rcases List.mem_cons.1 hz with rfl | h
  · omega
  rcases List.mem_append.1 h with h | h
  · exact beBytes_bd 4 n z h
  · exact beBytes_bd 4 b z h
theorem packA_bd (n b : Int) : ∀ z ∈ packA n b, 0 ≤ z ∧ z ≤ 255 := sealL_bdB (bodyA_bd n b)

/-- What bytes say. -/
def aN (zs : List Int) : Int := beNum ((zs.drop 1).take 4)
def aB (zs : List Int) : Int := beNum ((zs.drop 5).take 4)
def okA (zs : List Int) : Prop := zs.length = 13 ∧ zs[0]?.getD 0 = 65 ∧ isSealed zs = true ∧ aN zs ≤ 1073741824
def badA (zs : List Int) (e : Int) : Prop :=
  (zs.length ≠ 13 ∧ e = 2) ∨ (zs.length = 13 ∧ zs[0]?.getD 0 ≠ 65 ∧ e = 12) ∨ (zs.length = 13 ∧ zs[0]?.getD 0 = 65 ∧ isSealed zs = false ∧ e = 4) ∨ (zs.length = 13 ∧ zs[0]?.getD 0 = 65 ∧ isSealed zs = true ∧ ¬ aN zs ≤ 1073741824 ∧ e = 1)
theorem aread_cases (zs : List Int) : (∃ e, 0 < e ∧ badA zs e) ∨ okA zs := by
  by_cases h1 : zs.length = 13
  · by_cases h2 : zs[0]?.getD 0 = 65
    · cases h3 : isSealed zs with
      | false => exact .inl ⟨4, by decide, .inr (.inr (.inl ⟨h1, h2, h3, rfl⟩))⟩
      | true =>
        by_cases h4 : aN zs ≤ 1073741824
        · exact .inr ⟨h1, h2, h3, h4⟩
        · exact .inl ⟨1, by decide, .inr (.inr (.inr ⟨h1, h2, h3, h4, rfl⟩))⟩
    · exact .inl ⟨12, by decide, .inr (.inl ⟨h1, h2, rfl⟩)⟩
  · exact .inl ⟨2, by decide, .inl ⟨h1, rfl⟩⟩

theorem packA_list (n b : Int) : packA n b = 65 :: n / 2 ^ 24 % 256 :: n / 2 ^ 16 % 256 :: n / 2 ^ 8 % 256 :: n / 2 ^ 0 % 256 :: b / 2 ^ 24 % 256 :: b / 2 ^ 16 % 256 :: b / 2 ^ 8 % 256 :: b / 2 ^ 0 % 256 :: four (sum32 (bodyA n b)) := by
  simp [packA, sealL, bodyA, beBytes_four]
theorem aN_pack {n b : Int} (h0 : 0 ≤ n) (h1 : n ≤ 1073741824) : aN (packA n b) = n := by
  unfold aN
  rw [packA_list]
  show beNum [n / 2 ^ 24 % 256, n / 2 ^ 16 % 256, n / 2 ^ 8 % 256, n / 2 ^ 0 % 256] = n
  rw [← beBytes_four]
  exact beNum_beBytes h0 (by omega)
theorem aB_pack {n b : Int} (h0 : 0 ≤ b) (h1 : b < 4294967296) : aB (packA n b) = b := by
  unfold aB
  rw [packA_list]
  show beNum [b / 2 ^ 24 % 256, b / 2 ^ 16 % 256, b / 2 ^ 8 % 256, b / 2 ^ 0 % 256] = b
  rw [← beBytes_four]
  exact beNum_beBytes h0 h1
theorem packA_head (n b : Int) : (packA n b)[0]?.getD 0 = 65 := by rw [packA_list]; rfl
theorem packA_sealed (n b : Int) : isSealed (packA n b) = true := isSealed_sealB _
theorem okA_pack {n b : Int} (h0 : 0 ≤ n) (h1 : n ≤ 1073741824) : okA (packA n b) := ⟨packA_len n b, packA_head n b, packA_sealed n b, by rw [aN_pack h0 h1]; exact h1⟩
theorem list_nine {zs : List Int} (h : zs.length = 13) : ∃ a s1 s2 s3 s4 b1 b2 b3 b4 t, zs = a :: s1 :: s2 :: s3 :: s4 :: b1 :: b2 :: b3 :: b4 :: t ∧ t.length = 4 := by
  match zs, h with
  | a :: s1 :: s2 :: s3 :: s4 :: b1 :: b2 :: b3 :: b4 :: t, h => exact ⟨a, s1, s2, s3, s4, b1, b2, b3, b4, t, rfl, by simpa using h⟩
  | [], h => simp at h
  | [_], h => simp at h
  | [_, _], h => simp at h
  | [_, _, _], h => simp at h
  | [_, _, _, _], h => simp at h
  | [_, _, _, _, _], h => simp at h
  | [_, _, _, _, _, _], h => simp at h
  | [_, _, _, _, _, _, _], h => simp at h
  | [_, _, _, _, _, _, _, _], h => simp at h
/-- What is read is made again. -/
theorem packA_read {zs : List Int} (bz : ∀ z ∈ zs, 0 ≤ z ∧ z ≤ 255) (h : okA zs) : (0 ≤ aN zs ∧ aN zs ≤ 1073741824) ∧ (0 ≤ aB zs ∧ aB zs < 4294967296) ∧ packA (aN zs) (aB zs) = zs := by
  obtain ⟨h1, h2, h3, h4⟩ := h
  have hs := (sealed_is h3).2
  rw [h1] at hs
  obtain ⟨a, s1, s2, s3, s4, b1, b2, b3, b4, t, rfl, ht⟩ := list_nine h1
  have c1 := bz s1 (by simp)
  have c2 := bz s2 (by simp)
  have c3 := bz s3 (by simp)
  have c4 := bz s4 (by simp)
  have d1 := bz b1 (by simp)
  have d2 := bz b2 (by simp)
  have d3 := bz b3 (by simp)
  have d4 := bz b4 (by simp)
  have en : aN (a :: s1 :: s2 :: s3 :: s4 :: b1 :: b2 :: b3 :: b4 :: t) = beNum [s1, s2, s3, s4] := rfl
  have eb : aB (a :: s1 :: s2 :: s3 :: s4 :: b1 :: b2 :: b3 :: b4 :: t) = beNum [b1, b2, b3, b4] := rfl
  have e0 : a = 65 := h2
  rw [en] at h4
  rw [en, eb]
  have hn0 : 0 ≤ beNum [s1, s2, s3, s4] := by rw [beNum_four]; omega
  have hb0 : 0 ≤ beNum [b1, b2, b3, b4] ∧ beNum [b1, b2, b3, b4] < 4294967296 := by rw [beNum_four]; omega
  refine ⟨⟨hn0, h4⟩, hb0, ?_⟩
  have e9 : (a :: s1 :: s2 :: s3 :: s4 :: b1 :: b2 :: b3 :: b4 :: t).take (13 - 4) = bodyA (beNum [s1, s2, s3, s4]) (beNum [b1, b2, b3, b4]) := by
    unfold bodyA
    rw [beBytes_beNum c1 c2 c3 c4, beBytes_beNum d1 d2 d3 d4, e0]
    rfl
  rw [e9] at hs
  exact hs

/-- Has an ack this one? -/
def hasA (n : Int) (b : Nat) (q : Int) : Bool := decide (0 ≤ q) && (decide (q < n) || (decide (0 ≤ n) && decide (q - n < 32) && (b / 2 ^ (q - n).toNat % 2 == 1)))
theorem hasA_neg {n : Int} {b : Nat} {q : Int} (h : q < 0) : hasA n b q = false := by
  unfold hasA; rw [decide_eq_false (by omega)]; rfl
theorem hasA_low {n : Int} {b : Nat} {q : Int} (h0 : 0 ≤ q) (h : q < n) : hasA n b q = true := by
  unfold hasA; rw [decide_eq_true h0, decide_eq_true h]; rfl
theorem hasA_none {n : Int} {b : Nat} {q : Int} (h0 : 0 ≤ q) (h : ¬ q < n) (hn : n < 0) : hasA n b q = false := by
  unfold hasA; rw [decide_eq_true h0, decide_eq_false h, decide_eq_false (by omega)]; rfl
theorem hasA_far {n : Int} {b : Nat} {q : Int} (h0 : 0 ≤ q) (h : ¬ q < n) (hf : ¬ q - n < 32) : hasA n b q = false := by
  unfold hasA; rw [decide_eq_true h0, decide_eq_false h, decide_eq_false hf]; simp
theorem hasA_bit {n : Int} {b : Nat} {i : Nat} (hn : 0 ≤ n) (hi : i < 32) : hasA n b (n + i) = (b / 2 ^ i % 2 == 1) := by
  unfold hasA
  rw [decide_eq_true (by omega), decide_eq_false (by omega), decide_eq_true hn, decide_eq_true (by omega), show n + (i : Int) - n = (i : Int) by omega, Int.toNat_natCast]
  simp

end Go.Proofs.YtmjidhnlofpliaaDoor

/-
  What the page's Begin, Step, States answer.
-/
namespace Go.Proofs.YtmjidhnlofpliaaDoor
open Go.RowKit

end Go.Proofs.YtmjidhnlofpliaaDoor

/-
  What the page's Symbol answers.
-/
namespace Go.Proofs.YtmjidhnlofpliaaDoor
open Go.RowKit

end Go.Proofs.YtmjidhnlofpliaaDoor

/-
  What the page's Order and N answer.
-/
namespace Go.Proofs.YtmjidhnlofpliaaDoor
open Go.RowKit

end Go.Proofs.YtmjidhnlofpliaaDoor

/-
  What the page's Data (may it be?) and volutekeep.Data answer. (Written by tpl_refdata.py.)
-/
namespace Go.Proofs.YtmjidhnlofpliaaDoor
open Go.RowKit

end Go.Proofs.YtmjidhnlofpliaaDoor

/-
  Lists of symbols (a place and a value each) in memory. No function of the program is spoken of.
-/
namespace Go.Proofs.YtmjidhnlofpliaaDoor
open Go.RowKit

/-- The slice v holds the symbols l in a block below n₀ (or it is of length 0, and they are none). -/
def Syms (n₀ : Nat) (W : World) (v : Value) (l : List (Int × Int)) : Prop :=
  ((∃ a cap, v = .slice a 0 cap ∧ (a = none → cap = 0)) ∧ l = []) ∨ ∃ b off cap, v = .slice (some ⟨b, off, none⟩) l.length cap ∧ b < n₀ ∧ ∀ (j : Nat) (x : Int × Int), l[j]? = some x → W.cell? ⟨b, off + j * 2, none⟩ = some (.int .i64 x.1) ∧ W.cell? ⟨b, off + j * 2 + 1, none⟩ = some (.int .i64 x.2)

theorem Syms.below {n₀ : Nat} {W W' : World} {v : Value} {l : List (Int × Int)} (h : Syms n₀ W v l) (hb : Below n₀ W W') : Syms n₀ W' v l := by
  rcases h with h | ⟨b, off, cap, hv, hlt, hc⟩
  · exact .inl h
  · exact .inr ⟨b, off, cap, hv, hlt, fun j x hj => ⟨(hb.cell (p := ⟨b, off + j * 2, none⟩) hlt).trans (hc j x hj).1, (hb.cell (p := ⟨b, off + j * 2 + 1, none⟩) hlt).trans (hc j x hj).2⟩⟩
theorem Syms.mono {n₀ n₁ : Nat} {W : World} {v : Value} {l : List (Int × Int)} (h : Syms n₀ W v l) (hn : n₀ ≤ n₁) : Syms n₁ W v l := by
  rcases h with h | ⟨b, off, cap, hv, hlt, hc⟩
  · exact .inl h
  · exact .inr ⟨b, off, cap, hv, by omega, hc⟩
theorem Syms.next {W W' : World} {v : Value} {l : List (Int × Int)} (h : Syms W.heap.size W v l) (hb : Below W.heap.size W W') : Syms W'.heap.size W' v l := (h.below hb).mono hb.size
theorem Syms.shape {n₀ : Nat} {W : World} {v : Value} {l : List (Int × Int)} (h : Syms n₀ W v l) : ∃ a cap, v = .slice a l.length cap := by
  rcases h with ⟨⟨a, cap, rfl, _⟩, rfl⟩ | ⟨b, off, cap, rfl, _, _⟩
  · exact ⟨_, _, rfl⟩
  · exact ⟨_, _, rfl⟩
end Go.Proofs.YtmjidhnlofpliaaDoor

/-
  What volutekeep.Syms and volutekeep.TwinSyms answer, for all symbols in memory.
-/
namespace Go.Proofs.YtmjidhnlofpliaaDoor
open Go.RowKit

end Go.Proofs.YtmjidhnlofpliaaDoor

/-
  append to a row of symbols of the call's own: its run; parts of rows of symbols. No function of the program is spoken of.
-/
namespace Go.Proofs.YtmjidhnlofpliaaDoor
open Go.RowKit

/-- append whose run is known: for the walk, guarded or not. -/
theorem wpList_append_known {P : Program} {w : World} {ops : Array Oper} {rest : List Oper} {o : Oper} {a : Act} {Q : Exit → Act → World → Prop} (hw : Region.wanted o (yielded ops a.tmps) = true) (s x : Operand) (t : TypeId)
    (ho : o.op = .call { callee := .builtin .append, args := #[s, x], argTypes := #[t, t] }) (v src : Value) (hs : a.eval s = v) (hx : a.eval x = src) (v' : Value) (w' : World)
    (hrun : (Builtin.append_ #[t, t] o.type #[v, src]).run P w = .ok v' w') (h : wpList P ops Q rest (a.put o.dst v') w') : wpList P ops Q (o :: rest) a w := by
  refine wpList_step fun K hK => ?_
  rw [if_pos hw]
  unfold Oper.wp
  simp [execOp, ho, resolve, invoke, builtin, hs, hx, hrun, Result.andThen]
  exact hK _ _ h

end Go.Proofs.YtmjidhnlofpliaaDoor

/-
  Rows of numbers of the call's own: append of one number; a block that is written place by place. No function of the program is spoken of.
-/
namespace Go.Proofs.YtmjidhnlofpliaaDoor
open Go.RowKit

theorem infoIntR : (Tryd.prog.info? 3).map (fun i => (i.zero, i.size, i.bytes)) = some (some (.int .i64 0), 1, 8) := by kernel_rfl

/-- append of one number, its run. -/
theorem run_append_int (v : Value) (n base : Nat) (xs : List Int) (x : Int) (ty : TypeId) (w : World) (hown : w.ownsRow base 3 1 v n (xs.map (Value.int .i64))) (hb : base ≤ w.heap.size) (h1 : n ≤ 4294967296) :
    ∃ v' w', (Builtin.append_ #[27, 27] ty #[v, .slice (some ⟨w.heap.size, 0, none⟩) 1 1]).run Tryd.prog (w.alloc (.cells #[.int .i64 x] 3)) = .ok v' w' ∧ w'.ownsRow base 3 1 v' (n + 1) ((xs ++ [x]).map (Value.int .i64)) ∧ (w.alloc (.cells #[.int .i64 x] 3)).grownBy w' v.ownBlock := by
  obtain ⟨i0, hi, hz0, hz1, hz2⟩ := info_parts infoIntR
  obtain ⟨v', w', hr, ho, hg, _⟩ := run_append_own (P := Tryd.prog) (w.alloc (.cells #[.int .i64 x] 3)) base 27 ty 3 i0 (.int .i64 0) 1 8 Tryd.underlying27 hi hz0 hz1 hz2 rfl (by decide) v n _ (hown.alloc _) ⟨w.heap.size, 0, none⟩ 1 1 [.int .i64 x] rfl (World.news_of_block (World.alloc_heap_new _ _)) (by simp [Value.oneCell']) (by unfold maxLen; omega) (by omega) (by simp; omega)
  exact ⟨v', w', hr, by rw [List.map_append]; exact ho, hg⟩

/-- Block g holds the numbers zs ahead of all; none of it is frozen. -/
def IntsAt (W : World) (g : Nat) (zs : List Int) : Prop := g < W.heap.size ∧ (∀ q, q < zs.length → W.cell? ⟨g, q, none⟩ = some (.int .i64 (zs[q]?.getD 0))) ∧ ∀ q, W.frozen? ⟨g, q, none⟩ = false

theorem IntsAt.set {W : World} {g : Nat} {zs : List Int} (h : IntsAt W g zs) (k : Nat) (hk : k < zs.length) (v : Int) : IntsAt (W.setCell ⟨g, k, none⟩ (.int .i64 v)) g (zs.set k v) := by
  refine ⟨by simpa [World.setCell] using h.1, fun q hq => ?_, fun q => by rw [World.frozen?_setCell]; exact h.2.2 q⟩
  rw [List.length_set] at hq
  by_cases e : q = k
  · subst e
    rw [World.cell?_setCell_same' _ _ _ (by rw [h.2.1 q hq]; rfl)]
    simp [hq]
  · rw [World.cell?_setCell_other _ _ _ _ (by intro e'; cases e'; exact e rfl), h.2.1 q hq, List.getElem?_set_ne (by omega)]
theorem IntsAt.cell {W : World} {g : Nat} {zs : List Int} (h : IntsAt W g zs) {q : Nat} {x : Int} (hq : zs[q]? = some x) : W.cell? ⟨g, q, none⟩ = some (.int .i64 x) := by
  rw [h.2.1 q (List.getElem?_eq_some_iff.1 hq).1, hq]; rfl
theorem IntsAt.below {W W' : World} {g n : Nat} {zs : List Int} (h : IntsAt W g zs) (hb : Below n W W') (hg : g < n) : IntsAt W' g zs := by
  refine ⟨Nat.lt_of_lt_of_le h.1 hb.size, fun q hq => (hb.cell (p := ⟨g, q, none⟩) hg).trans (h.2.1 q hq), fun q => ?_⟩
  have e : W'.frozen? ⟨g, q, none⟩ = W.frozen? ⟨g, q, none⟩ := by unfold World.frozen?; rw [hb.block g hg]
  rw [e]; exact h.2.2 q
theorem IntsAt.next {W W' : World} {g : Nat} {zs : List Int} (h : IntsAt W g zs) (hb : Below W.heap.size W W') : IntsAt W' g zs := h.below hb h.1
theorem IntsAt.other {W : World} {g : Nat} {zs : List Int} (h : IntsAt W g zs) {p : Addr} (hp : g ≠ p.block) (v : Value) : IntsAt (W.setCell p v) g zs := by
  refine ⟨by simpa [World.setCell] using h.1, fun q hq => ?_, fun q => by rw [World.frozen?_setCell]; exact h.2.2 q⟩
  rw [World.cell?_setCell_other _ _ _ _ (by intro e; cases e; exact hp rfl)]
  exact h.2.1 q hq
theorem IntsAt.drewN {W : World} {g : Nat} {zs : List Int} (h : IntsAt W g zs) (n : Nat) : IntsAt (W.drewN n) g zs := h

end Go.Proofs.YtmjidhnlofpliaaDoor

/-
  What the page's Sealed answers, for every text in memory.
-/
namespace Go.Proofs.YtmjidhnlofpliaaDoor
open Go.RowKit

end Go.Proofs.YtmjidhnlofpliaaDoor

/-
  What the page's Has, Ack and ReadAck and volutekeep.Ack answer. (Written by tpl_refack.py.)
-/
namespace Go.Proofs.YtmjidhnlofpliaaDoor
open Go.RowKit

theorem row_shapeA {W : World} {base k : Nat} {e : TypeId} {v : Value} {xs : List Value} (h : W.ownsRow base e 1 v k xs) : ∃ a c, v = .slice a k c := by
  rcases h.2 with ⟨e, e0⟩ | ⟨g, c, cur, e, _⟩
  · exact ⟨_, _, by rw [e, e0]⟩
  · exact ⟨_, _, e⟩
theorem row_boxA {W : World} {B base : Nat} {x : Int} (h : Box W B 5 #[.int .u8 x]) (hb : base ≤ B) : W.ownsRow base 5 1 (.slice (some ⟨B, 0, none⟩) 1 1) 1 ([x].map (Value.int .u8)) :=
  ⟨rfl, .inr ⟨B, 1, #[.int .u8 x], rfl, hb, h, Nat.le_refl _, by unfold maxLen; omega, rfl, rfl⟩⟩
set_option maxRecDepth 100000 in
set_option maxHeartbeats 2000000 in
theorem refAck_any (n b : Int) (hb0 : 0 ≤ b) (hb1 : b < 4294967296) (w : World) :
    Calls Tryd.prog 28 #[.agg #[.int .i64 n, .int .u32 b]] w fun e W' => ∃ q, e = .returned q ∧ W'.ownsRow w.heap.size 5 1 q 13 ((packA n b).map (Value.int .u8)) ∧ Below w.heap.size w W' := by
  have ewb : IntKind.i64.wrap b = b := by rw [IntKind.wrap_i64]; omega
  have b1 : Below w.heap.size w (w.alloc (.cells #[.int .i64 n, .int .u32 b] 65)) := (Below.refl w.heap.size w).alloc (Nat.le_refl _) _
  have x1 := Box.new w 65 #[.int .i64 n, .int .u32 b]
  clear hb0 hb1
  go_enter Tryd.func28, Tryd.ntmps28
  go_wp2_with fail
  obtain ⟨W1, hW1⟩ : ∃ W, w.alloc (.cells #[.int .i64 n, .int .u32 b] 65) = W := ⟨_, rfl⟩
  have hs1 : W1.heap.size = w.heap.size + 1 := by rw [← hW1]; simp
  rw [hW1] at b1 x1 ⊢
  clear hW1
  obtain ⟨n1, hn1⟩ : ∃ n, w.heap.size + 1 = n := ⟨_, rfl⟩
  rw [hn1] at hs1 ⊢
  have hwn : w.heap.size ≤ n1 := by omega
  have hlt1 : w.heap.size < n1 := by omega
  clear hn1
  refine (refBe_any n 4 (by decide) _).mono ?_
  rintro e w2 ⟨q, rfl, oq, b2⟩
  have xA : Box w2 n1 5 #[.int .u8 65] := hs1 ▸ (Box.new W1 5 #[.int .u8 65]).next b2
  have bA : Below n1 W1 (W1.alloc (.cells #[.int .u8 65] 5)) := (Below.refl _ _).alloc (by omega) _
  have hS : Below n1 W1 w2 := bA.trans (b2.mono (by simp; omega))
  have hn2 : n1 ≤ w2.heap.size := by have := hS.size; omega
  obtain ⟨v3, w3, hr3, o3, hg3⟩ := run_append_u8 _ _ 1 n1 _ _ _ 35 w2 (row_boxA xA (Nat.le_refl _)) (holds_of_row oq) hn2 (by decide) (by simp [beBytes_len])
  replace hS := hS.trans ((Below.refl _ _).grown hg3 hn2 (fun z e => by cases e; exact Nat.le_refl _))
  have hn3 : n1 ≤ w3.heap.size := by have := hS.size; omega
  have k1 := (x1.below hS hlt1).cell 1 _ rfl
  clear xA bA hg3 oq b2 hn2
  go_wp2_with (at_builtin; refine wpList_append_run rfl _ _ 35 rfl _ _ rfl rfl _ _ hr3 ?_)
  clear hr3
  rw [beBytes_len] at o3
  refine (refBe_any b 4 (by decide) _).mono ?_
  rintro e w4 ⟨q4, rfl, oq4, b4⟩
  have o4 := row_below o3 b4 (Nat.le_refl _)
  have hn4 : n1 ≤ w4.heap.size := by have := b4.size; omega
  replace hS := hS.trans (b4.mono hn3)
  obtain ⟨v5, w5, hr5, o5, g5⟩ := run_append_u8 _ _ (1 + 4) n1 _ _ _ 35 w4 o4 (holds_of_row oq4) hn4 (by decide) (by simp [beBytes_len])
  replace hS := hS.trans ((Below.refl _ _).grown g5 hn4 (fun z e => (o4.lt z e).1))
  have hn5 : n1 ≤ w5.heap.size := by have := hS.size; omega
  rw [beBytes_len] at o5
  obtain ⟨va, vc, rfl⟩ := row_shapeA o5
  have o5' : w5.ownsRow n1 5 1 (.slice va 9 vc) 9 ((bodyA n b).map (Value.int .u8)) := o5
  have HS := refSeal_any va vc (bodyA n b) (by rw [bodyA_len]; decide) (bodyA_bd n b) w5 (by rw [bodyA_len]; exact holds_of_row o5')
  rw [bodyA_len] at HS
  clear o3 b4 o4 oq4 g5 o5 o5' k1
  go_wp2_with (at_builtin; refine wpList_append_run rfl _ _ 35 rfl _ _ rfl rfl _ _ hr5 ?_)
  refine HS.mono ?_
  rintro e w6 ⟨q6, rfl, o6, b6⟩
  have o7 : w6.ownsRow w.heap.size 5 1 q6 13 ((packA n b).map (Value.int .u8)) := row_base o6 (by omega)
  have b7 := b1.trans ((hS.trans (b6.mono hn5)).mono hwn)
  clear HS hr5 o6 b6
  go_wp2
  go_ret
  exact ⟨_, rfl, o7, b7⟩

end Go.Proofs.YtmjidhnlofpliaaDoor
