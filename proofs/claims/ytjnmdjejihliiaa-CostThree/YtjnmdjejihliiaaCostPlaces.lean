/-
  Small facts for laws over costs: a place out of any number; a new symbol's cells. No function of the program is spoken of.
-/
import Derived.Test.YtjnmdjejihliiaaCostBoundNums
import Derived.Test.YtjnmdjejihliiaaKept
namespace Go.Proofs.Ytjnmdjejihliiaa
open Go.RowKit

theorem cell_two_new (w : World) (x y : Value) (t : TypeId) : ∀ (j : Nat) (u : Value), [x, y][j]? = some u → (w.alloc (.cells #[x, y] t)).cell? ((⟨w.heap.size, 0, none⟩ : Addr).add j) = some u := World.news_of_block (World.alloc_heap_new w (.cells #[x, y] t))
theorem row_cap2' {w : World} {base e n cap : Nat} {a : Option Addr} {xs : List Value} (h : w.ownsRow base e 2 (.slice a n cap) n xs) : n ≤ cap := by
  rcases h.2 with ⟨e, _⟩ | ⟨g, c, cur, e, _, _, hk, _⟩
  · cases e; exact Nat.le_refl _
  · cases e; exact hk
theorem place_walk (z : Int) : (IntKind.u64.wrap z).tmod 256 = ((placeN z : Nat) : Int) := by
  have h0 : 0 ≤ IntKind.u64.wrap z := by rw [IntKind.wrap_u64]; omega
  rw [Int.tmod_eq_emod_of_nonneg h0, IntKind.wrap_u64]
  unfold placeN
  omega

end Go.Proofs.Ytjnmdjejihliiaa
