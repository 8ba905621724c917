/-
  What volutekeep.TwinInts answers: the same numbers in new memory.
-/
import Derived.Test.YtmjidhnlofpliabM01
import Derived.Laws.AppendOwnNone
import Derived.OwnWalk
import Derived.WalkLawsBesides
import Derived.WalkSpells
namespace Go.Proofs.Ytmjidhnlofpliab
open Go.RowKit

theorem holds_cells {kd : IntKind} {W : World} {b off : Nat} {zs : List Int} (h : ∀ j, j < zs.length → W.cell? ⟨b, off + j, none⟩ = some (.int kd (zs[j]?.getD 0))) :
    ∀ j u, (zs.map (Value.int kd))[j]? = some u → W.cell? ((⟨b, off, none⟩ : Addr).add j) = some u := by
  intro j u hu
  have hj : j < zs.length := by simpa using (List.getElem?_eq_some_iff.1 hu).1
  rw [Addr.add_lit, h j hj]
  simpa [hj] using hu

/-- append whose run is known: for the walk, guarded or not. -/
theorem wpList_append_run {P : Program} {w : World} {ops : Array Oper} {rest : List Oper} {o : Oper} {a : Act} {Q : Exit → Act → World → Prop} (hw : Region.wanted o (yielded ops a.tmps) = true) (s x : Operand) (t : TypeId)
    (ho : o.op = .call { callee := .builtin .append, args := #[s, x], argTypes := #[t, t] }) (v src : Value) (hs : a.eval s = v) (hx : a.eval x = src) (v' : Value) (w' : World)
    (hrun : (Builtin.append_ #[t, t] o.type #[v, src]).run P w = .ok v' w') (h : wpList P ops Q rest (a.put o.dst v') w') : wpList P ops Q (o :: rest) a w := by
  refine wpList_step fun K hK => ?_
  rw [if_pos hw]
  unfold Oper.wp
  simp [execOp, ho, resolve, invoke, builtin, hs, hx, hrun, Result.andThen]
  exact hK _ _ h

theorem oneCells (kd : IntKind) (zs : List Int) : ∀ u ∈ zs.map (Value.int kd), u.oneCell' = true := by
  intro u hu
  obtain ⟨z, _, rfl⟩ := List.mem_map.1 hu
  rfl

end Go.Proofs.Ytmjidhnlofpliab

/-
  What volutekeep.Twin, TwinInts answer (the same numbers in new memory), and what SpoilBytes, SpoilInts do (they write over the list that they are handed, and nothing else).
-/
namespace Go.Proofs.Ytmjidhnlofpliab
open Go.RowKit

theorem infoU8 : (Try.prog.info? 5).map (fun i => (i.zero, i.size, i.bytes)) = some (some (.int .u8 0), 1, 1) := by kernel_rfl
/-- append, onto a row of the call's own, from whatever list. -/
theorem run_append_u8 (v src : Value) (n base n₀ : Nat) (xs ys : List Int) (ty : TypeId) (w : World) (hown : w.ownsRow base 5 1 v n (xs.map (Value.int .u8))) (hH : Holds .u8 n₀ w src ys) (hb : base ≤ w.heap.size) (h1 : n ≤ 4294967296) (h2 : ys.length ≤ 4294967296) :
    ∃ v' w', (Builtin.append_ #[26, 26] ty #[v, src]).run Try.prog w = .ok v' w' ∧ w'.ownsRow base 5 1 v' (n + ys.length) ((xs ++ ys).map (Value.int .u8)) ∧ w.grownBy w' v.ownBlock := by
  obtain ⟨i0, hi, hz0, hz1, hz2⟩ := info_parts infoU8
  rcases hH with ⟨⟨a, cap, rfl, ha⟩, rfl⟩ | ⟨b, off, cap, rfl, _, hcs⟩
  · cases a with
    | none =>
      obtain rfl := ha rfl
      exact ⟨v, w, run_append_owned_none w base 26 ty 5 i0 1 Try.underlying26 hi v n _ hown, by simpa using hown, World.grownBy.refl _ _⟩
    | some ad =>
      obtain ⟨v', w', hr, ho, hg, _⟩ := run_append_own (P := Try.prog) w base 26 ty 5 i0 (.int .u8 0) 1 1 Try.underlying26 hi hz0 hz1 hz2 rfl (by decide) v n _ hown ad 0 cap [] rfl (by simp) (by simp) (by unfold maxLen; omega) (by omega) hb
      exact ⟨v', w', hr, by simpa using ho, hg⟩
  · obtain ⟨v', w', hr, ho, hg, _⟩ := run_append_own (P := Try.prog) w base 26 ty 5 i0 (.int .u8 0) 1 1 Try.underlying26 hi hz0 hz1 hz2 rfl (by decide) v n _ hown ⟨b, off, none⟩ ys.length cap (ys.map (Value.int .u8)) (by simp) (holds_cells hcs) (oneCells _ _) (by unfold maxLen; omega) (by omega) hb
    exact ⟨v', w', hr, by simpa using ho, hg⟩

end Go.Proofs.Ytmjidhnlofpliab
