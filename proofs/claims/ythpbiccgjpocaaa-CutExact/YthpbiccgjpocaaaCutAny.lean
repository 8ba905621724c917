/-
  What Cut answers, right or not, in one contract each: the code's, the page's. (Written by tpl_cutlaws.py.)
-/
import Derived.Test.YthpbiccgjpocaaaCutCode
import Derived.Test.YthpbiccgjpocaaaRefCut
import Derived.Test.YthpbiccgjpocaaaKeepBlocks
namespace Go.Proofs.Ythpbiccgjpocaaa
open Go.RowKit

/-- Why a message has no blocks; its blocks. -/
def cutE (c : Cfg) (s : Int) (n : Nat) : Int := if (n : Int) ≤ c.cMsg then (if 0 ≤ s ∧ s + (blocksN c.cB.toNat n : Int) ≤ 1073741824 then 0 else 1) else 2
def cutB (c : Cfg) (s : Int) (msg : List Int) : List Bl := if (msg.length : Int) ≤ c.cMsg then (if 0 ≤ s ∧ s + (blocksN c.cB.toNat msg.length : Int) ≤ 1073741824 then cutL c.cB.toNat s (blocksN c.cB.toNat msg.length) msg else []) else []
theorem cutB_bd {c : Cfg} (hC : okC c = true) (s : Int) (msg : List Int) : (cutB c s msg).length ≤ 200 ∧ ∀ y ∈ cutB c s msg, y.2.2.length ≤ 16 := by
  have h0 := (okC_iff c).1 hC
  unfold cutB
  split
  · split
    · rename_i h1 h2
      refine ⟨?_, fun y hy => ?_⟩
      · rw [cutL_len]
        have := blocksC_bd hC (n := msg.length) (by omega) (by omega)
        rw [blocks_nat (B := c.cB.toNat) (by omega) msg.length _ rfl (by omega)] at this
        omega
      · obtain ⟨i, hi, rfl⟩ := List.mem_map.1 hy
        have := textK_le c.cB.toNat msg i
        show (textK c.cB.toNat msg i).length ≤ 16
        omega
    · exact ⟨by simp, fun y hy => by simp at hy⟩
  · exact ⟨by simp, fun y hy => by simp at hy⟩
theorem Cut_any (c : Cfg) (s : Int) (a : Option Addr) (n cap : Nat) (hC : okC c = true) (hc : n ≤ cap) (msg : List Int) (hl : msg.length = n) (w : World) (ha : Holds .u8 w.heap.size w (.slice a n cap) msg) :
    Calls Try.prog 7 #[.agg #[.int .i64 c.cB, .int .i64 c.cBeam, .int .i64 c.cDepth, .int .i64 c.cWin, .int .i64 c.cQs, .int .i64 c.cQr, .int .i64 c.cBatch, .int .i64 c.cPass, .int .i64 c.cMsg, .int .i64 c.cSeqs], .int .i64 s, .slice a n cap] w fun e W' => ∃ v, e = .returned (.tuple #[v, .int .i64 (cutE c s n)]) ∧ OwnBlks w.heap.size W' v (cutB c s msg) ∧ Below w.heap.size w W' := by
  have hB : c.cB = (c.cB.toNat : Int) := by have := (okC_iff c).1 hC; omega
  unfold cutE cutB
  by_cases h1 : (n : Int) ≤ c.cMsg
  · by_cases h2 : 0 ≤ s ∧ s + (blocksN c.cB.toNat n : Int) ≤ 1073741824
    · rw [if_pos h1, if_pos h2, hl, if_pos h1, if_pos h2]
      exact Cut_ok c s a n cap hC h1 hc msg hl _ _ hB rfl h2.1 h2.2 w ha
    · rw [if_pos h1, if_neg h2, hl, if_pos h1, if_neg h2]
      exact (Cut_arg c s a n cap hC h1 _ _ hB rfl h2 w).mono fun e W' ⟨h, b⟩ => ⟨_, h, ownSts_nil _ _ _, b⟩
  · rw [if_neg h1, hl, if_neg h1]
    exact (Cut_len c s a n cap hC (by omega) w).mono fun e W' ⟨h, b⟩ => ⟨_, h, ownSts_nil _ _ _, b⟩

theorem refCut_any (c : Cfg) (s : Int) (a : Option Addr) (n cap : Nat) (hC : okC c = true) (hc : n ≤ cap) (msg : List Int) (hl : msg.length = n) (w : World) (ha : Holds .u8 w.heap.size w (.slice a n cap) msg) :
    Calls Try.prog 11 #[.agg #[.int .i64 c.cB, .int .i64 c.cBeam, .int .i64 c.cDepth, .int .i64 c.cWin, .int .i64 c.cQs, .int .i64 c.cQr, .int .i64 c.cBatch, .int .i64 c.cPass, .int .i64 c.cMsg, .int .i64 c.cSeqs], .int .i64 s, .slice a n cap] w fun e W' => ∃ v, e = .returned (.tuple #[v, .int .i64 (cutE c s n)]) ∧ OwnBlks w.heap.size W' v (cutB c s msg) ∧ Below w.heap.size w W' := by
  have hB : c.cB = (c.cB.toNat : Int) := by have := (okC_iff c).1 hC; omega
  unfold cutE cutB
  by_cases h1 : (n : Int) ≤ c.cMsg
  · by_cases h2 : 0 ≤ s ∧ s + (blocksN c.cB.toNat n : Int) ≤ 1073741824
    · rw [if_pos h1, if_pos h2, hl, if_pos h1, if_pos h2]
      exact refCut_ok c s a n cap hC h1 hc msg hl _ _ hB rfl h2.1 h2.2 w ha
    · rw [if_pos h1, if_neg h2, hl, if_pos h1, if_neg h2]
      exact (refCut_arg c s a n cap hC h1 _ _ hB rfl h2 w).mono fun e W' ⟨h, b⟩ => ⟨_, h, ownSts_nil _ _ _, b⟩
  · rw [if_neg h1, hl, if_neg h1]
    exact (refCut_len c s a n cap (by omega) w).mono fun e W' ⟨h, b⟩ => ⟨_, h, ownSts_nil _ _ _, b⟩

end Go.Proofs.Ythpbiccgjpocaaa
