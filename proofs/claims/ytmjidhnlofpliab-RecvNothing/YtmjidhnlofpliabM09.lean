/-
  What slices.Clone, slices.Grow (of nothing) and slices.Concat (of three) answer, of symbols.
-/
import Derived.Test.YtmjidhnlofpliabM01
import Derived.Test.YtmjidhnlofpliabM03
import Derived.Lib.AppendZerosOnto
import Derived.Lib.SliceRun
namespace Go.Proofs.Ytmjidhnlofpliab
open Go.RowKit

set_option maxRecDepth 100000 in
set_option maxHeartbeats 2000000 in
theorem clone_ok (a : Option Addr) (cap : Nat) (l : List (Int × Int)) (hl : l.length ≤ 4294967296) (w : World) (ha : Syms w.heap.size w (.slice a l.length cap) l) :
    Calls Try.prog 32 #[.slice a l.length cap] w fun e W' => ∃ r, e = .returned r ∧ W'.ownsRow w.heap.size 75 2 r l.length (symCells l) ∧ Below w.heap.size w W' := by
  have qS : ∀ (w : World) (a : Option Addr) (n c n' c' : Nat), (binOp .eql 42 (.slice a n c) (.slice none n' c')).run Try.prog w = .ok (.bool a.isNone) w := fun w a n c n' c' => Lib.run_eql_slice_nil w _ _ a n c n' c' Try.underlying42
  cases a with
  | none =>
    have h0 : l = [] := by
      rcases ha with ⟨_, h⟩ | ⟨b, off, c, e, _⟩
      · exact h
      · simp only [Value.slice.injEq] at e; exact absurd e.1 (by simp)
    subst h0
    clear ha
    go_enter Try.func32, Try.ntmps32
    go_wp2
    go_ret
    exact ⟨_, rfl, World.ownsRow_nil _ _ _ _, Below.refl _ _⟩
  | some ad =>
    have o0 : (w.alloc (.cells #[] 75)).ownsRow w.heap.size 75 2 (.slice (some ⟨w.heap.size, 0, none⟩) 0 0) 0 (symCells []) := World.ownsRow_made w #[] 0 (Nat.le_refl _) (Nat.zero_le _) rfl
    have b0 := (Below.refl w.heap.size w).alloc (Nat.le_refl _) (.cells #[] 75)
    obtain ⟨v3, w3, hr3, ho3, hg3⟩ := run_append_syms (.slice (some ⟨w.heap.size, 0, none⟩) 0 0) (.slice (some ad) l.length cap) 0 w.heap.size _ [] l 42 (w.alloc (.cells #[] 75)) o0 (ha.next b0) (by simp) (by omega) hl
    have b3 := b0.trans ((Below.refl w.heap.size _).grown hg3 (by simp) (fun q e => (o0.lt q e).1))
    have HR3 : Hid _ := hr3
    clear hr3 ha o0 hg3
    go_enter Try.func32, Try.ntmps32
    go_wp2_with (at_builtin; refine wpList_append_known rfl _ _ 42 rfl _ _ rfl rfl _ _ HR3.out ?_)
    go_ret
    refine ⟨_, rfl, ?_, b3⟩
    simpa using ho3

end Go.Proofs.Ytmjidhnlofpliab
