/-
  append to a row of symbols of the call's own: its run; parts of rows of symbols. No function of the program is spoken of.
-/
import Derived.Test.YtkhmcoeffaeppaaKeepSyms
namespace Go.Proofs.Ytkhmcoeffaeppaa
open Go.RowKit

/-- append whose run is known: for the walk, guarded or not. -/
theorem wpList_append_known {P : Program} {w : World} {ops : Array Oper} {rest : List Oper} {o : Oper} {a : Act} {Q : Exit → Act → World → Prop} (hw : Region.wanted o (yielded ops a.tmps) = true) (s x : Operand) (t : TypeId)
    (ho : o.op = .call { callee := .builtin .append, args := #[s, x], argTypes := #[t, t] }) (v src : Value) (hs : a.eval s = v) (hx : a.eval x = src) (v' : Value) (w' : World)
    (hrun : (Builtin.append_ #[t, t] o.type #[v, src]).run P w = .ok v' w') (h : wpList P ops Q rest (a.put o.dst v') w') : wpList P ops Q (o :: rest) a w := by
  refine wpList_step fun K hK => ?_
  rw [if_pos hw]
  unfold Oper.wp
  simp [execOp, ho, resolve, invoke, builtin, hs, hx, hrun, Result.andThen]
  exact hK _ _ h

/-- The first k of symbols that are held; those from k on. -/
theorem syms_take {n₀ n cap : Nat} {W : World} {a : Option Addr} {l : List (Int × Int)} (h : Syms n₀ W (.slice a n cap) l) (hl : l.length = n) (k : Nat) (hk : k ≤ n) (c : Nat) (hc : a = none → c = 0) : Syms n₀ W (.slice a k c) (l.take k) := by
  have hkl : (l.take k).length = k := by rw [List.length_take]; omega
  by_cases h0 : 0 < n
  · obtain ⟨b, off, rfl, hb, hcs⟩ := syms_at h hl h0
    refine .inr ⟨b, off, c, by rw [hkl], hb, fun j x hj => hcs j x ?_⟩
    rw [List.getElem?_take] at hj
    split at hj
    · exact hj
    · cases hj
  · have : k = 0 := by omega
    subst this
    exact .inl ⟨⟨_, _, rfl, hc⟩, by simp⟩
theorem syms_drop {n₀ n cap : Nat} {W : World} {b off : Nat} {l : List (Int × Int)} (h : Syms n₀ W (.slice (some ⟨b, off, none⟩) n cap) l) (hl : l.length = n) (k : Nat) (hk : k < n) (c : Nat) : Syms n₀ W (.slice (some ⟨b, off + k * 2, none⟩) (n - k) c) (l.drop k) := by
  obtain ⟨b', off', e, hb, hcs⟩ := syms_at h hl (by omega)
  cases e
  have hkl : (l.drop k).length = n - k := by rw [List.length_drop]; omega
  refine .inr ⟨b, off + k * 2, c, by rw [hkl], hb, fun j x hj => ?_⟩
  rw [List.getElem?_drop] at hj
  have := hcs (k + j) x hj
  rw [show off + (k + j) * 2 = off + k * 2 + j * 2 by omega] at this
  exact this
theorem syms_empty {W : World} {n₀ : Nat} (ad : Addr) (c : Nat) : Syms n₀ W (.slice (some ad) 0 c) [] := .inl ⟨⟨_, _, rfl, fun e => by cases e⟩, rfl⟩

end Go.Proofs.Ytkhmcoeffaeppaa
