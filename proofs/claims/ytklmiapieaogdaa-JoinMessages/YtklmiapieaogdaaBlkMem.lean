/-
  Lists of blocks (a number, a mark, a text) in memory. No function of the program is spoken of.
-/
import Derived.Test.YtklmiapieaogdaaRowMem
import Derived.Test.YtklmiapieaogdaaCutNums
namespace Go.Proofs.Ytklmiapieaogdaa
open Go.RowKit

def blkK : Kind Bl where
  ty := 27
  k := 3
  lie := fun y ps => [.int .i64 y.1, .int .i64 y.2.1, ps.getD 0 (.slice none 0 0)]
  subs := fun y => [⟨5, 1, y.2.2.length, y.2.2.map (Value.int .u8)⟩]
  len := fun _ _ => rfl
  one := fun y ps h u hu => by
    simp only [List.mem_cons, List.not_mem_nil, or_false] at hu
    rcases hu with rfl | rfl | rfl
    · rfl
    · rfl
    · match ps, h with
      | [], _ => rfl
      | p :: _, h => obtain ⟨a, n, c, rfl⟩ := h p (by simp); rfl
theorem blkK_unlike : blkK.unlike := fun y t ht => by
  simp only [blkK, List.mem_cons, List.not_mem_nil, or_false] at ht
  subst ht
  show (5 : Nat) ≠ 27
  decide
abbrev Blks := Sts blkK
abbrev OwnBlks := OwnSts blkK
theorem infoBlk : (Try.prog.info? 27).map (fun i => (i.zero, i.size, i.bytes)) = some (some (.agg #[.int .i64 0, .int .i64 0, .slice none 0 0]), 3, 40) := by kernel_rfl
/-- Where blocks lie, and what. -/
theorem blks_at {n₀ n cap : Nat} {W : World} {a : Option Addr} {l : List Bl} (h : Blks n₀ W (.slice a n cap) l) (h0 : 0 < l.length) :
    ∃ b off, a = some ⟨b, off, none⟩ ∧ b < n₀ ∧ ∀ (j : Nat) (y : Bl), l[j]? = some y → ∃ p, Holds .u8 n₀ W p y.2.2 ∧ W.cell? ⟨b, off + j * 3, none⟩ = some (.int .i64 y.1) ∧ W.cell? ⟨b, off + j * 3 + 1, none⟩ = some (.int .i64 y.2.1) ∧ W.cell? ⟨b, off + j * 3 + 2, none⟩ = some p := by
  obtain ⟨b, off, rfl, hb, hc⟩ := h.at h0
  refine ⟨b, off, rfl, hb, fun j y hy => ?_⟩
  obtain ⟨ps, hs, hcell⟩ := hc j y hy
  obtain ⟨p, rfl, hp⟩ := hs.one
  exact ⟨p, hp.ints rfl, hcell 0 _ rfl, hcell 1 _ rfl, hcell 2 _ rfl⟩
/-- A block more, at the end of blocks of the call's own. -/
theorem run_append_blk (v : Value) (n base : Nat) (r : Lies Bl) (s m : Int) (xs : List Int) (p : Value) (hp : ∃ a n c, p = Value.slice a n c) (ty : TypeId) (w : World) (hown : w.ownsRow base 27 3 v n (cellsK blkK r)) (hb : base ≤ w.heap.size) (h1 : n ≤ 1048576) :
    ∃ v' w', (Builtin.append_ #[25, 25] ty #[v, .slice (some ⟨w.heap.size, 0, none⟩) 1 1]).run Try.prog (w.alloc (.cells #[.int .i64 s, .int .i64 m, p] 27)) = .ok v' w' ∧ w'.ownsRow base 27 3 v' (n + 1) (cellsK blkK (r ++ [((s, m, xs), [p])])) ∧ (w.alloc (.cells #[.int .i64 s, .int .i64 m, p] 27)).grownBy w' v.ownBlock :=
  run_append_st blkK 25 ty _ 40 Try.underlying25 infoBlk rfl (by decide) (by decide) v n base r ((s, m, xs), [p]) (fun q hq => by simp at hq; subst hq; exact hp) _ rfl w hown hb h1

end Go.Proofs.Ytklmiapieaogdaa
