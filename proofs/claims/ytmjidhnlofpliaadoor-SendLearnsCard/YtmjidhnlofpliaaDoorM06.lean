/-
  What volutekeep.TwinInts answers: the same numbers in new memory.
-/
import Derived.Test.YtmjidhnlofpliaaDoorM01
import Derived.Laws.AppendOwnNone
import Derived.OwnWalk
import Derived.WalkLawsBesides
import Derived.WalkSpells
namespace Go.Proofs.YtmjidhnlofpliaaDoor
open Go.RowKit

theorem infoI64 : (Tryd.prog.info? 3).map (fun i => (i.zero, i.size, i.bytes)) = some (some (.int .i64 0), 1, 8) := by kernel_rfl

theorem holds_cells {kd : IntKind} {W : World} {b off : Nat} {zs : List Int} (h : ∀ j, j < zs.length → W.cell? ⟨b, off + j, none⟩ = some (.int kd (zs[j]?.getD 0))) :
    ∀ j u, (zs.map (Value.int kd))[j]? = some u → W.cell? ((⟨b, off, none⟩ : Addr).add j) = some u := by
  intro j u hu
  have hj : j < zs.length := by simpa using (List.getElem?_eq_some_iff.1 hu).1
  rw [Addr.add_lit, h j hj]
  simpa [hj] using hu

/-- append whose run is known: for the walk, guarded or not. -/
theorem wpList_append_run {P : Program} {w : World} {ops : Array Oper} {rest : List Oper} {o : Oper} {a : Act} {Q : Exit → Act → World → Prop} (hw : Region.wanted o (yielded ops a.tmps) = true) (s x : Operand) (t : TypeId)
    (ho : o.op = .call { callee := .builtin .append, args := #[s, x], argTypes := #[t, t] }) (v src : Value) (hs : a.eval s = v) (hx : a.eval x = src) (v' : Value) (w' : World)
    (hrun : (Builtin.append_ #[t, t] o.type #[v, src]).run P w = .ok v' w') (h : wpList P ops Q rest (a.put o.dst v') w') : wpList P ops Q (o :: rest) a w := by
  refine wpList_step fun K hK => ?_
  rw [if_pos hw]
  unfold Oper.wp
  simp [execOp, ho, resolve, invoke, builtin, hs, hx, hrun, Result.andThen]
  exact hK _ _ h

theorem oneCells (kd : IntKind) (zs : List Int) : ∀ u ∈ zs.map (Value.int kd), u.oneCell' = true := by
  intro u hu
  obtain ⟨z, _, rfl⟩ := List.mem_map.1 hu
  rfl

/-- append, onto a row of the call's own, from whatever list. -/
theorem run_append_i64 (v src : Value) (n base n₀ : Nat) (xs ys : List Int) (ty : TypeId) (w : World) (hown : w.ownsRow base 3 1 v n (xs.map (Value.int .i64))) (hH : Holds .i64 n₀ w src ys) (hb : base ≤ w.heap.size) (h1 : n ≤ 4294967296) (h2 : ys.length ≤ 4294967296) :
    ∃ v' w', (Builtin.append_ #[27, 27] ty #[v, src]).run Tryd.prog w = .ok v' w' ∧ w'.ownsRow base 3 1 v' (n + ys.length) ((xs ++ ys).map (Value.int .i64)) ∧ w.grownBy w' v.ownBlock := by
  obtain ⟨i0, hi, hz0, hz1, hz2⟩ := info_parts infoI64
  rcases hH with ⟨⟨a, cap, rfl, ha⟩, rfl⟩ | ⟨b, off, cap, rfl, _, hcs⟩
  · cases a with
    | none =>
      obtain rfl := ha rfl
      exact ⟨v, w, run_append_owned_none w base 27 ty 3 i0 1 Tryd.underlying27 hi v n _ hown, by simpa using hown, World.grownBy.refl _ _⟩
    | some ad =>
      obtain ⟨v', w', hr, ho, hg, _⟩ := run_append_own (P := Tryd.prog) w base 27 ty 3 i0 (.int .i64 0) 1 8 Tryd.underlying27 hi hz0 hz1 hz2 rfl (by decide) v n _ hown ad 0 cap [] rfl (by simp) (by simp) (by unfold maxLen; omega) (by omega) hb
      exact ⟨v', w', hr, by simpa using ho, hg⟩
  · obtain ⟨v', w', hr, ho, hg, _⟩ := run_append_own (P := Tryd.prog) w base 27 ty 3 i0 (.int .i64 0) 1 8 Tryd.underlying27 hi hz0 hz1 hz2 rfl (by decide) v n _ hown ⟨b, off, none⟩ ys.length cap (ys.map (Value.int .i64)) (by simp) (holds_cells hcs) (oneCells _ _) (by unfold maxLen; omega) (by omega) hb
    exact ⟨v', w', hr, by simpa using ho, hg⟩

end Go.Proofs.YtmjidhnlofpliaaDoor

/-
  What volutekeep.Twin, TwinInts answer (the same numbers in new memory), and what SpoilBytes, SpoilInts do (they write over the list that they are handed, and nothing else).
-/
namespace Go.Proofs.YtmjidhnlofpliaaDoor
open Go.RowKit

theorem infoU8 : (Tryd.prog.info? 5).map (fun i => (i.zero, i.size, i.bytes)) = some (some (.int .u8 0), 1, 1) := by kernel_rfl
/-- append, onto a row of the call's own, from whatever list. -/
theorem run_append_u8 (v src : Value) (n base n₀ : Nat) (xs ys : List Int) (ty : TypeId) (w : World) (hown : w.ownsRow base 5 1 v n (xs.map (Value.int .u8))) (hH : Holds .u8 n₀ w src ys) (hb : base ≤ w.heap.size) (h1 : n ≤ 4294967296) (h2 : ys.length ≤ 4294967296) :
    ∃ v' w', (Builtin.append_ #[35, 35] ty #[v, src]).run Tryd.prog w = .ok v' w' ∧ w'.ownsRow base 5 1 v' (n + ys.length) ((xs ++ ys).map (Value.int .u8)) ∧ w.grownBy w' v.ownBlock := by
  obtain ⟨i0, hi, hz0, hz1, hz2⟩ := info_parts infoU8
  rcases hH with ⟨⟨a, cap, rfl, ha⟩, rfl⟩ | ⟨b, off, cap, rfl, _, hcs⟩
  · cases a with
    | none =>
      obtain rfl := ha rfl
      exact ⟨v, w, run_append_owned_none w base 35 ty 5 i0 1 Tryd.underlying35 hi v n _ hown, by simpa using hown, World.grownBy.refl _ _⟩
    | some ad =>
      obtain ⟨v', w', hr, ho, hg, _⟩ := run_append_own (P := Tryd.prog) w base 35 ty 5 i0 (.int .u8 0) 1 1 Tryd.underlying35 hi hz0 hz1 hz2 rfl (by decide) v n _ hown ad 0 cap [] rfl (by simp) (by simp) (by unfold maxLen; omega) (by omega) hb
      exact ⟨v', w', hr, by simpa using ho, hg⟩
  · obtain ⟨v', w', hr, ho, hg, _⟩ := run_append_own (P := Tryd.prog) w base 35 ty 5 i0 (.int .u8 0) 1 1 Tryd.underlying35 hi hz0 hz1 hz2 rfl (by decide) v n _ hown ⟨b, off, none⟩ ys.length cap (ys.map (Value.int .u8)) (by simp) (holds_cells hcs) (oneCells _ _) (by unfold maxLen; omega) (by omega) hb
    exact ⟨v', w', hr, by simpa using ho, hg⟩

set_option maxRecDepth 100000 in
set_option maxHeartbeats 1000000 in
theorem twin_any (v : Value) (zs : List Int) (n₀ : Nat) (hl : zs.length ≤ 4294967296) (w : World) (hH : Holds .u8 n₀ w v zs) :
    Calls Tryd.prog 70 #[v] w fun e W' => ∃ r, e = .returned r ∧ W'.ownsRow w.heap.size 5 1 r zs.length (zs.map (Value.int .u8)) ∧ Below w.heap.size w W' := by
  obtain ⟨i0, hi, hz0, hz1, hz2⟩ := info_parts infoU8
  rcases hH with ⟨⟨a, cap, rfl, ha⟩, rfl⟩ | ⟨b, off, cap, rfl, hb, hcs⟩
  · cases a with
    | none =>
      obtain rfl := ha rfl
      go_enter Tryd.func70, Tryd.ntmps70
      go_wp2_with (at_builtin; refine wpList_append_own_none rfl _ _ 35 rfl w.heap.size 5 i0 1 Tryd.underlying35 hi _ 0 [] rfl (World.ownsRow_nil _ _ _ _) rfl ?_)
      go_ret
      exact ⟨_, rfl, World.ownsRow_nil _ _ _ _, Below.refl _ _⟩
    | some ad =>
      go_enter Tryd.func70, Tryd.ntmps70
      go_wp2_with (at_builtin; refine wpList_append_own _ rfl _ _ 35 rfl w.heap.size 5 i0 (.int .u8 0) 1 1 Tryd.underlying35 hi hz0 hz1 hz2 rfl (by decide) _ 0 [] rfl (World.ownsRow_nil _ _ _ _) ad 0 cap [] rfl rfl (by simp) (by simp) (by unfold maxLen; omega) (by omega) (Nat.le_refl _) ?_; intro v' w1 hown hgrow hn)
      go_ret
      exact ⟨_, rfl, hown, (Below.refl _ w).grown hgrow (Nat.le_refl _) (fun k e => by cases e)⟩
  · go_enter Tryd.func70, Tryd.ntmps70
    go_wp2_with (at_builtin; refine wpList_append_own _ rfl _ _ 35 rfl w.heap.size 5 i0 (.int .u8 0) 1 1 Tryd.underlying35 hi hz0 hz1 hz2 rfl (by decide) _ 0 [] rfl (World.ownsRow_nil _ _ _ _) ⟨b, off, none⟩ zs.length cap (zs.map (Value.int .u8)) rfl (by simp) (holds_cells hcs) (oneCells _ _) (by unfold maxLen; omega) (by omega) (Nat.le_refl _) ?_; intro v' w1 hown hgrow hn)
    go_ret
    refine ⟨_, rfl, ?_, (Below.refl _ w).grown hgrow (Nat.le_refl _) (fun k e => by cases e)⟩
    simpa using hown

end Go.Proofs.YtmjidhnlofpliaaDoor
