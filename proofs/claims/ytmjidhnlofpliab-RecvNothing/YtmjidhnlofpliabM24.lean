/-
  What sched.Order, At, Place answer, as long as the package's table reads as it was laid.
-/
import Derived.Test.YtmjidhnlofpliabM06
import Derived.Test.YtmjidhnlofpliabM13
import Derived.Test.YtmjidhnlofpliabM19
import Derived.Test.YtmjidhnlofpliabM23
import Derived.BigQuiet
import Derived.Deep.QuietTactic
import Derived.OwnWalk
import Derived.RangeFuncBound
import Derived.RangeFuncBox
import Derived.RangeFuncCalls
import Derived.RangeFuncLeaves
import Derived.RangeFuncNested
import Derived.WalkLawsBesides
import Derived.WalkSpells
namespace Go.Proofs.Ytmjidhnlofpliab
open Go.RowKit Go.Shelf
attribute [local go_sem] Oper.semAt_some

end Go.Proofs.Ytmjidhnlofpliab

/-
  A range over a function whose body always goes on, whose iterator ranges over a function itself: the rounds keep all that lay beyond the loop's own blocks. No program is spoken of.
-/
namespace Go.Proofs.Ytmjidhnlofpliab
open Go.RowKit

/-- But for the blocks X all that lay lies as it lay. -/
structure Spared (X : Nat → Prop) (W W' : World) : Prop where
  os : W'.os = W.os
  tape : W'.tape = W.tape
  output : W'.output = W.output
  size : W.heap.size ≤ W'.heap.size
  block : ∀ k, k < W.heap.size → ¬ X k → W'.heap[k]? = W.heap[k]?
theorem Spared.refl (X : Nat → Prop) (W : World) : Spared X W W := ⟨rfl, rfl, rfl, Nat.le_refl _, fun _ _ _ => rfl⟩
theorem Spared.trans {X : Nat → Prop} {A B C : World} (h : Spared X A B) (k : Spared X B C) : Spared X A C := ⟨k.os.trans h.os, k.tape.trans h.tape, k.output.trans h.output, Nat.le_trans h.size k.size, fun j hj hx => (k.block j (Nat.lt_of_lt_of_le hj h.size) hx).trans (h.block j hj hx)⟩
theorem Spared.mono {X Y : Nat → Prop} {A B : World} (h : Spared X A B) (hX : ∀ k, X k → Y k) : Spared Y A B := ⟨h.os, h.tape, h.output, h.size, fun j hj hx => h.block j hj (fun hh => hx (hX j hh))⟩
theorem Spared.heap {X : Nat → Prop} {A B : World} (h : Spared X A B) {k : Nat} {o : Obj} (hk : ¬ X k) (ho : A.heap[k]? = some o) : B.heap[k]? = some o := (h.block k (Array.getElem?_eq_some_iff.1 ho).1 hk).trans ho
theorem Spared.below {X : Nat → Prop} {A B : World} (h : Spared X A B) {n : Nat} (hn : ∀ k, k < n → ¬ X k) (hA : n ≤ A.heap.size) : Below n A B := ⟨h.os, h.tape, h.output, h.size, fun k hk => h.block k (by omega) (hn k hk)⟩
theorem Spared.row {X : Nat → Prop} {base e size k : Nat} {A B : World} {v : Value} {xs : List Value} (h : Spared X A B) (hr : A.ownsRow base e size v k xs) (hX : ∀ j, base ≤ j → ¬ X j) : B.ownsRow base e size v k xs := by
  refine ⟨hr.1, ?_⟩
  rcases hr.2 with h0 | ⟨g, cap, cur, hv, hbs, hg, hk, hm, hs, ht⟩
  · exact .inl h0
  · exact .inr ⟨g, cap, cur, hv, hbs, h.heap (hX g hbs) hg, hk, hm, hs, ht⟩
theorem Spared.keeps {X : Nat → Prop} {B : Nat} {A C : World} (h : Spared X A C) (hB : ∀ k, B ≤ k → ¬ X k) : KeepsFrom B A C := ⟨h.size, fun k _ hk ho _ => h.heap (hB k hk) ho⟩
variable {F : Fence} {n : Nat} {P : Program}

end Go.Proofs.Ytmjidhnlofpliab

/-
  What volutekeep.Emit and the page's Emit (may it be sent?) answer. (Written by tpl_refemit.py.)
-/
namespace Go.Proofs.Ytmjidhnlofpliab
open Go.RowKit

end Go.Proofs.Ytmjidhnlofpliab
