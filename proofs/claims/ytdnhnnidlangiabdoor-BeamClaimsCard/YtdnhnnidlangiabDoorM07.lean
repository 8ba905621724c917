/-
  What volutekeep.Syms and volutekeep.TwinSyms answer, for all symbols in memory.
-/
import Derived.Test.YtdnhnnidlangiabDoorM01
import Derived.Test.YtdnhnnidlangiabDoorM03
import Derived.BigQuiet
import Derived.Deep.QuietTactic
import Derived.Laws.AppendOwnNone
import Derived.OwnWalk
import Derived.WalkLawsBesides
import Derived.WalkSpells
namespace Go.Proofs.YtdnhnnidlangiabDoor
open Go.RowKit

theorem take_eq_syms {xs ys : List (Int × Int)} {k : Nat} {x y : Int × Int} (hx : xs[k]? = some x) (hy : ys[k]? = some y) (h : xs.take k = ys.take k) (e : x = y) : xs.take (k + 1) = ys.take (k + 1) := by
  rw [List.take_add_one, List.take_add_one, hx, hy, h, e]

theorem infoSym : (Tryd.prog.info? 60).map (fun i => (i.zero, i.size, i.bytes)) = some (some (.agg #[.int .i64 0, .int .i64 0]), 2, 16) := by kernel_rfl

theorem syms_cells {W : World} {b off : Nat} {l : List (Int × Int)} (h : ∀ (j : Nat) (x : Int × Int), l[j]? = some x → W.cell? ⟨b, off + j * 2, none⟩ = some (.int .i64 x.1) ∧ W.cell? ⟨b, off + j * 2 + 1, none⟩ = some (.int .i64 x.2)) :
    ∀ (j : Nat) (u : Value), (symCells l)[j]? = some u → W.cell? ((⟨b, off, none⟩ : Addr).add j) = some u := by
  intro j u hj
  rw [Go.WideShapes.add_plain]
  have hlt : j < l.length * 2 := by have := (List.getElem?_eq_some_iff.1 hj).1; rwa [symCells_len] at this
  have hq : j / 2 < l.length := by omega
  obtain ⟨x, hx⟩ : ∃ x, l[j / 2]? = some x := ⟨l[j / 2], by simp⟩
  have hc := h _ _ hx
  have hg := symCells_get hx
  by_cases h2 : j % 2 = 0
  · rw [show j / 2 * 2 = j by omega] at hc hg
    rw [hg.1] at hj
    cases hj
    exact hc.1
  · rw [show j / 2 * 2 + 1 = j by omega] at hg
    rw [show off + j / 2 * 2 + 1 = off + j by omega] at hc
    rw [hg.2] at hj
    cases hj
    exact hc.2

end Go.Proofs.YtdnhnnidlangiabDoor

/-
  append to a row of symbols of the call's own: its run; parts of rows of symbols. No function of the program is spoken of.
-/
namespace Go.Proofs.YtdnhnnidlangiabDoor
open Go.RowKit

/-- append whose run is known: for the walk, guarded or not. -/
theorem wpList_append_known {P : Program} {w : World} {ops : Array Oper} {rest : List Oper} {o : Oper} {a : Act} {Q : Exit → Act → World → Prop} (hw : Region.wanted o (yielded ops a.tmps) = true) (s x : Operand) (t : TypeId)
    (ho : o.op = .call { callee := .builtin .append, args := #[s, x], argTypes := #[t, t] }) (v src : Value) (hs : a.eval s = v) (hx : a.eval x = src) (v' : Value) (w' : World)
    (hrun : (Builtin.append_ #[t, t] o.type #[v, src]).run P w = .ok v' w') (h : wpList P ops Q rest (a.put o.dst v') w') : wpList P ops Q (o :: rest) a w := by
  refine wpList_step fun K hK => ?_
  rw [if_pos hw]
  unfold Oper.wp
  simp [execOp, ho, resolve, invoke, builtin, hs, hx, hrun, Result.andThen]
  exact hK _ _ h

theorem run_append_syms (v src : Value) (n base n₀ : Nat) (xs ys : List (Int × Int)) (ty : TypeId) (w : World) (hown : w.ownsRow base 60 2 v n (symCells xs)) (hH : Syms n₀ w src ys) (hb : base ≤ w.heap.size) (h1 : n ≤ 4294967296) (h2 : ys.length ≤ 4294967296) :
    ∃ v' w', (Builtin.append_ #[22, 22] ty #[v, src]).run Tryd.prog w = .ok v' w' ∧ w'.ownsRow base 60 2 v' (n + ys.length) (symCells (xs ++ ys)) ∧ w.grownBy w' v.ownBlock := by
  obtain ⟨i0, hi, hz0, hz1, hz2⟩ := info_parts infoSym
  rcases hH with ⟨⟨a, cap, rfl, ha⟩, rfl⟩ | ⟨b, off, cap, rfl, _, hcs⟩
  · cases a with
    | none =>
      obtain rfl := ha rfl
      exact ⟨v, w, run_append_owned_none w base 22 ty 60 i0 2 Tryd.underlying22 hi v n _ hown, by simpa using hown, World.grownBy.refl _ _⟩
    | some ad =>
      obtain ⟨v', w', hr, ho, hg, _⟩ := run_append_own (P := Tryd.prog) w base 22 ty 60 i0 (.agg #[.int .i64 0, .int .i64 0]) 2 16 Tryd.underlying22 hi hz0 hz1 hz2 rfl (by decide) v n _ hown ad 0 cap [] rfl (by simp) (by simp) (by unfold maxLen; omega) (by omega) hb
      exact ⟨v', w', hr, by simpa using ho, hg⟩
  · obtain ⟨v', w', hr, ho, hg, _⟩ := run_append_own (P := Tryd.prog) w base 22 ty 60 i0 (.agg #[.int .i64 0, .int .i64 0]) 2 16 Tryd.underlying22 hi hz0 hz1 hz2 rfl (by decide) v n _ hown ⟨b, off, none⟩ ys.length cap (symCells ys) (symCells_len ys) (syms_cells hcs) (symCells_one ys) (by unfold maxLen; omega) (by omega) hb
    exact ⟨v', w', hr, by rw [symCells_append]; exact ho, hg⟩

/-- The first k of symbols that are held; those from k on. -/
theorem syms_take {n₀ n cap : Nat} {W : World} {a : Option Addr} {l : List (Int × Int)} (h : Syms n₀ W (.slice a n cap) l) (hl : l.length = n) (k : Nat) (hk : k ≤ n) (c : Nat) (hc : a = none → c = 0) : Syms n₀ W (.slice a k c) (l.take k) := by
  have hkl : (l.take k).length = k := by rw [List.length_take]; omega
  by_cases h0 : 0 < n
  · obtain ⟨b, off, rfl, hb, hcs⟩ := syms_at h hl h0
    refine .inr ⟨b, off, c, by rw [hkl], hb, fun j x hj => hcs j x ?_⟩
    rw [List.getElem?_take] at hj
    split at hj
    · exact hj
    · cases hj
  · have : k = 0 := by omega
    subst this
    exact .inl ⟨⟨_, _, rfl, hc⟩, by simp⟩
theorem syms_drop {n₀ n cap : Nat} {W : World} {b off : Nat} {l : List (Int × Int)} (h : Syms n₀ W (.slice (some ⟨b, off, none⟩) n cap) l) (hl : l.length = n) (k : Nat) (hk : k < n) (c : Nat) : Syms n₀ W (.slice (some ⟨b, off + k * 2, none⟩) (n - k) c) (l.drop k) := by
  obtain ⟨b', off', e, hb, hcs⟩ := syms_at h hl (by omega)
  cases e
  have hkl : (l.drop k).length = n - k := by rw [List.length_drop]; omega
  refine .inr ⟨b, off + k * 2, c, by rw [hkl], hb, fun j x hj => ?_⟩
  rw [List.getElem?_drop] at hj
  have := hcs (k + j) x hj
  rw [show off + (k + j) * 2 = off + k * 2 + j * 2 by omega] at this
  exact this
theorem syms_empty {W : World} {n₀ : Nat} (ad : Addr) (c : Nat) : Syms n₀ W (.slice (some ad) 0 c) [] := .inl ⟨⟨_, _, rfl, fun e => by cases e⟩, rfl⟩

end Go.Proofs.YtdnhnnidlangiabDoor

/-
  What volutekeep.Pile, TwinPile, SpoilSyms answer, for all piles in memory.
-/
namespace Go.Proofs.YtdnhnnidlangiabDoor
open Go.RowKit

/-- A pile as a value. -/
def pileV (n p : Int) (v : Value) : Value := .agg #[.int .i64 n, .int .i64 p, v]

end Go.Proofs.YtdnhnnidlangiabDoor
