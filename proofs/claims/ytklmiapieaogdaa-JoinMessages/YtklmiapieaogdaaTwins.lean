/-
  What volutekeep.Twin, TwinInts answer (the same numbers in new memory), and what SpoilBytes, SpoilInts do (they write over the list that they are handed, and nothing else).
-/
import Derived.Test.YtklmiapieaogdaaTwinInts
import Derived.OwnWalk
import Derived.Laws.AppendOwnNone
import Derived.WalkSpells
import Derived.WalkLawsBesides
namespace Go.Proofs.Ytklmiapieaogdaa
open Go.RowKit

theorem infoU8 : (Try.prog.info? 5).map (fun i => (i.zero, i.size, i.bytes)) = some (some (.int .u8 0), 1, 1) := by kernel_rfl
/-- append, onto a row of the call's own, from whatever list. -/
theorem run_append_u8 (v src : Value) (n base n₀ : Nat) (xs ys : List Int) (ty : TypeId) (w : World) (hown : w.ownsRow base 5 1 v n (xs.map (Value.int .u8))) (hH : Holds .u8 n₀ w src ys) (hb : base ≤ w.heap.size) (h1 : n ≤ 4294967296) (h2 : ys.length ≤ 4294967296) :
    ∃ v' w', (Builtin.append_ #[22, 22] ty #[v, src]).run Try.prog w = .ok v' w' ∧ w'.ownsRow base 5 1 v' (n + ys.length) ((xs ++ ys).map (Value.int .u8)) ∧ w.grownBy w' v.ownBlock := by
  obtain ⟨i0, hi, hz0, hz1, hz2⟩ := info_parts infoU8
  rcases hH with ⟨⟨a, cap, rfl, ha⟩, rfl⟩ | ⟨b, off, cap, rfl, _, hcs⟩
  · cases a with
    | none =>
      obtain rfl := ha rfl
      exact ⟨v, w, run_append_owned_none w base 22 ty 5 i0 1 Try.underlying22 hi v n _ hown, by simpa using hown, World.grownBy.refl _ _⟩
    | some ad =>
      obtain ⟨v', w', hr, ho, hg, _⟩ := run_append_own (P := Try.prog) w base 22 ty 5 i0 (.int .u8 0) 1 1 Try.underlying22 hi hz0 hz1 hz2 rfl (by decide) v n _ hown ad 0 cap [] rfl (by simp) (by simp) (by unfold maxLen; omega) (by omega) hb
      exact ⟨v', w', hr, by simpa using ho, hg⟩
  · obtain ⟨v', w', hr, ho, hg, _⟩ := run_append_own (P := Try.prog) w base 22 ty 5 i0 (.int .u8 0) 1 1 Try.underlying22 hi hz0 hz1 hz2 rfl (by decide) v n _ hown ⟨b, off, none⟩ ys.length cap (ys.map (Value.int .u8)) (by simp) (holds_cells hcs) (oneCells _ _) (by unfold maxLen; omega) (by omega) hb
    exact ⟨v', w', hr, by simpa using ho, hg⟩

set_option maxRecDepth 100000 in
set_option maxHeartbeats 1000000 in
theorem twin_any (v : Value) (zs : List Int) (n₀ : Nat) (hl : zs.length ≤ 4294967296) (w : World) (hH : Holds .u8 n₀ w v zs) :
    Calls Try.prog 7 #[v] w fun e W' => ∃ r, e = .returned r ∧ W'.ownsRow w.heap.size 5 1 r zs.length (zs.map (Value.int .u8)) ∧ Below w.heap.size w W' := by
  obtain ⟨i0, hi, hz0, hz1, hz2⟩ := info_parts infoU8
  rcases hH with ⟨⟨a, cap, rfl, ha⟩, rfl⟩ | ⟨b, off, cap, rfl, hb, hcs⟩
  · cases a with
    | none =>
      obtain rfl := ha rfl
      go_enter Try.func7, Try.ntmps7
      go_wp2_with (at_builtin; refine wpList_append_own_none rfl _ _ 22 rfl w.heap.size 5 i0 1 Try.underlying22 hi _ 0 [] rfl (World.ownsRow_nil _ _ _ _) rfl ?_)
      go_ret
      exact ⟨_, rfl, World.ownsRow_nil _ _ _ _, Below.refl _ _⟩
    | some ad =>
      go_enter Try.func7, Try.ntmps7
      go_wp2_with (at_builtin; refine wpList_append_own _ rfl _ _ 22 rfl w.heap.size 5 i0 (.int .u8 0) 1 1 Try.underlying22 hi hz0 hz1 hz2 rfl (by decide) _ 0 [] rfl (World.ownsRow_nil _ _ _ _) ad 0 cap [] rfl rfl (by simp) (by simp) (by unfold maxLen; omega) (by omega) (Nat.le_refl _) ?_; intro v' w1 hown hgrow hn)
      go_ret
      exact ⟨_, rfl, hown, (Below.refl _ w).grown hgrow (Nat.le_refl _) (fun k e => by cases e)⟩
  · go_enter Try.func7, Try.ntmps7
    go_wp2_with (at_builtin; refine wpList_append_own _ rfl _ _ 22 rfl w.heap.size 5 i0 (.int .u8 0) 1 1 Try.underlying22 hi hz0 hz1 hz2 rfl (by decide) _ 0 [] rfl (World.ownsRow_nil _ _ _ _) ⟨b, off, none⟩ zs.length cap (zs.map (Value.int .u8)) rfl (by simp) (holds_cells hcs) (oneCells _ _) (by unfold maxLen; omega) (by omega) (Nat.le_refl _) ?_; intro v' w1 hown hgrow hn)
    go_ret
    refine ⟨_, rfl, ?_, (Below.refl _ w).grown hgrow (Nat.le_refl _) (fun k e => by cases e)⟩
    simpa using hown

set_option maxRecDepth 100000 in
set_option maxHeartbeats 2000000 in
/-- volutekeep.SpoilBytes writes over a row of the call's own, and turns nothing below it. -/
theorem spoilBytes_any (v : Value) (k base : Nat) (xs : List Int) (hl : k ≤ 4294967296) (w : World) (hown : w.ownsRow base 5 1 v k (xs.map (Value.int .u8))) :
    Calls Try.prog 15 #[v] w fun e W' => e = .returned (.tuple #[]) ∧ Below base w W' ∧ w.heap.size = W'.heap.size := by
  have hx : xs.length = k := by have := hown.1; simpa using this
  rcases hown.2 with ⟨rfl, rfl⟩ | ⟨g, cap, cur, rfl, hbs, hg, hk, _, hs, ht⟩
  · go_enter Try.func15, Try.ntmps15
    go_wp2
    go_loop [2] (fun i => i = .int .i64 0) (fun _ => 0)
    case atStart => rfl
    case round =>
      obtain rfl := hrel
      go_wp2
      go_end0
      exact ⟨rfl, Below.refl _ _, rfl⟩
  · have hc0 : ∀ j, j < k → ∃ z, w.cell? ⟨g, j, none⟩ = some (.int .u8 z) := fun j hj => by
      have := hown.cells (g := g) rfl j (.int .u8 (xs[j]?.getD 0)) (by simp [hx, hj])
      rw [Addr.add_lit] at this
      exact ⟨_, by simpa using this⟩
    have hf0 : ∀ j, w.frozen? ⟨g, j, none⟩ = false := fun j => by simp [World.frozen?, hg]
    clear hown hs ht hx hg
    go_enter Try.func15, Try.ntmps15
    go_wp2
    go_loopw [2] (fun i wr => ∃ j : Nat, j ≤ k ∧ i = .int .i64 j ∧ (∀ q, j ≤ q → q < k → ∃ z, wr.cell? ⟨g, q, none⟩ = some (.int .u8 z)) ∧ (∀ q, wr.frozen? ⟨g, q, none⟩ = false) ∧ Below base w wr ∧ w.heap.size = wr.heap.size) (fun i _ => k - (intOf i).toNat)
    case atStart => exact ⟨0, Nat.zero_le _, rfl, fun q _ h => hc0 q h, hf0, Below.refl _ _, rfl⟩
    case round =>
      obtain ⟨j, hj, rfl, hcq, hfq, hbw, hsz⟩ := hrel
      by_cases hlt : j < k
      · obtain ⟨z, hz⟩ := hcq j (Nat.le_refl _) hlt
        have hf := hfq j
        have hcq' : ∀ v' q, j + 1 ≤ q → q < k → ∃ z, (wr.setCell ⟨g, j, none⟩ v').cell? ⟨g, q, none⟩ = some (.int .u8 z) := fun v' q h1 h2 => by
          obtain ⟨y, hy⟩ := hcq q (by omega) h2
          exact ⟨y, by rw [World.cell?_setCell_other _ _ _ _ (by intro e; cases e; omega)]; exact hy⟩
        have hfq' : ∀ v' q, (wr.setCell ⟨g, j, none⟩ v').frozen? ⟨g, q, none⟩ = false := fun v' q => by rw [World.frozen?_setCell]; exact hfq q
        clear hcq hfq hc0 hf0
        go_wp2
        exact ⟨⟨j + 1, by omega, by go_num, hcq' _, hfq' _, hbw.setCell (p := ⟨g, j, none⟩) hbs _, hsz.trans (by simp [World.setCell])⟩, by simp [intOf]; omega⟩
      · obtain rfl : j = k := by omega
        clear hcq hfq hc0 hf0
        go_wp2
        go_end0
        exact ⟨rfl, hbw, hsz⟩

end Go.Proofs.Ytklmiapieaogdaa
