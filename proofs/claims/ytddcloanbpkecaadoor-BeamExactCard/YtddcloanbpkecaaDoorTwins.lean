/-
  What volutekeep.Twin, TwinInts answer (the same numbers in new memory), and what SpoilBytes, SpoilInts do (they write over the list that they are handed, and nothing else).
-/
import Derived.Test.YtddcloanbpkecaaDoorTwinInts
import Derived.OwnWalk
import Derived.Laws.AppendOwnNone
import Derived.WalkSpells
import Derived.WalkLawsBesides
namespace Go.Proofs.YtddcloanbpkecaaDoor
open Go.RowKit

theorem infoU8 : (Tryd.prog.info? 5).map (fun i => (i.zero, i.size, i.bytes)) = some (some (.int .u8 0), 1, 1) := by kernel_rfl
/-- append, onto a row of the call's own, from whatever list. -/
theorem run_append_u8 (v src : Value) (n base n₀ : Nat) (xs ys : List Int) (ty : TypeId) (w : World) (hown : w.ownsRow base 5 1 v n (xs.map (Value.int .u8))) (hH : Holds .u8 n₀ w src ys) (hb : base ≤ w.heap.size) (h1 : n ≤ 4294967296) (h2 : ys.length ≤ 4294967296) :
    ∃ v' w', (Builtin.append_ #[79, 79] ty #[v, src]).run Tryd.prog w = .ok v' w' ∧ w'.ownsRow base 5 1 v' (n + ys.length) ((xs ++ ys).map (Value.int .u8)) ∧ w.grownBy w' v.ownBlock := by
  obtain ⟨i0, hi, hz0, hz1, hz2⟩ := info_parts infoU8
  rcases hH with ⟨⟨a, cap, rfl, ha⟩, rfl⟩ | ⟨b, off, cap, rfl, _, hcs⟩
  · cases a with
    | none =>
      obtain rfl := ha rfl
      exact ⟨v, w, run_append_owned_none w base 79 ty 5 i0 1 Tryd.underlying79 hi v n _ hown, by simpa using hown, World.grownBy.refl _ _⟩
    | some ad =>
      obtain ⟨v', w', hr, ho, hg, _⟩ := run_append_own (P := Tryd.prog) w base 79 ty 5 i0 (.int .u8 0) 1 1 Tryd.underlying79 hi hz0 hz1 hz2 rfl (by decide) v n _ hown ad 0 cap [] rfl (by simp) (by simp) (by unfold maxLen; omega) (by omega) hb
      exact ⟨v', w', hr, by simpa using ho, hg⟩
  · obtain ⟨v', w', hr, ho, hg, _⟩ := run_append_own (P := Tryd.prog) w base 79 ty 5 i0 (.int .u8 0) 1 1 Tryd.underlying79 hi hz0 hz1 hz2 rfl (by decide) v n _ hown ⟨b, off, none⟩ ys.length cap (ys.map (Value.int .u8)) (by simp) (holds_cells hcs) (oneCells _ _) (by unfold maxLen; omega) (by omega) hb
    exact ⟨v', w', hr, by simpa using ho, hg⟩

end Go.Proofs.YtddcloanbpkecaaDoor
