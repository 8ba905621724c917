/-
  The laws' own Small and Heavy over hear: a configuration that may be. (Written by tpl_hearwakes.py.)
-/
import Derived.Test.YtmjidhnlofpliabM01
import Derived.Test.YtmjidhnlofpliabM04
import Derived.Test.YtmjidhnlofpliabM13
import Derived.Test.YtmjidhnlofpliabM19
import Derived.Test.YtmjidhnlofpliabM31
namespace Go.Proofs.Ytmjidhnlofpliab
open Go.RowKit

/-- A small configuration. -/
def SmallC (c : Cfg) : Prop := (1 ≤ c.cB ∧ c.cB ≤ 3) ∧ (1 ≤ c.cBeam ∧ c.cBeam ≤ 4) ∧ (1 ≤ c.cDepth ∧ c.cDepth ≤ 2) ∧ (1 ≤ c.cWin ∧ c.cWin ≤ 4) ∧ (1 ≤ c.cQs ∧ c.cQs ≤ 4) ∧ (1 ≤ c.cQr ∧ c.cQr ≤ 4) ∧ (1 ≤ c.cBatch ∧ c.cBatch ≤ 64) ∧ (4 ≤ c.cPass ∧ c.cPass ≤ 7) ∧ (0 ≤ c.cMsg ∧ c.cMsg ≤ 12) ∧ (0 ≤ c.cSeqs ∧ c.cSeqs ≤ 99)
theorem SmallC.ok {c : Cfg} (h : SmallC c) : okC c = true := by
  rw [okC_iff]
  unfold SmallC at h
  omega

set_option maxRecDepth 100000 in
set_option maxHeartbeats 2000000 in
theorem small_any (c : Cfg) (w : World) : Calls Try.prog 4 #[.agg #[.int .i64 c.cB, .int .i64 c.cBeam, .int .i64 c.cDepth, .int .i64 c.cWin, .int .i64 c.cQs, .int .i64 c.cQr, .int .i64 c.cBatch, .int .i64 c.cPass, .int .i64 c.cMsg, .int .i64 c.cSeqs]] w fun e w' => ∃ d : Cfg, e = .returned (.agg #[.int .i64 d.cB, .int .i64 d.cBeam, .int .i64 d.cDepth, .int .i64 d.cWin, .int .i64 d.cQs, .int .i64 d.cQr, .int .i64 d.cBatch, .int .i64 d.cPass, .int .i64 d.cMsg, .int .i64 d.cSeqs]) ∧ SmallC d ∧ Below w.heap.size w w' := by
  obtain ⟨t0, h0, l0, u0⟩ := mod_u64 c.cB 3 (by decide) (by decide)
  obtain ⟨t1, h1, l1, u1⟩ := mod_u64 c.cBeam 4 (by decide) (by decide)
  obtain ⟨t2, h2, l2, u2⟩ := mod_u64 c.cDepth 2 (by decide) (by decide)
  obtain ⟨t3, h3, l3, u3⟩ := mod_u64 c.cWin 4 (by decide) (by decide)
  obtain ⟨t4, h4, l4, u4⟩ := mod_u64 c.cQs 4 (by decide) (by decide)
  obtain ⟨t5, h5, l5, u5⟩ := mod_u64 c.cQr 4 (by decide) (by decide)
  obtain ⟨t6, h6, l6, u6⟩ := mod_u64 c.cBatch 64 (by decide) (by decide)
  obtain ⟨t7, h7, l7, u7⟩ := mod_u64 c.cPass 4 (by decide) (by decide)
  obtain ⟨t8, h8, l8, u8⟩ := mod_u64 c.cMsg 13 (by decide) (by decide)
  obtain ⟨t9, h9, l9, u9⟩ := mod_u64 c.cSeqs 100 (by decide) (by decide)
  have b1 := ((Below.refl w.heap.size w).alloc (Nat.le_refl _) (.cells #[.int .i64 c.cB, .int .i64 c.cBeam, .int .i64 c.cDepth, .int .i64 c.cWin, .int .i64 c.cQs, .int .i64 c.cQr, .int .i64 c.cBatch, .int .i64 c.cPass, .int .i64 c.cMsg, .int .i64 c.cSeqs] 23)).alloc (by simp) (.cells #[.int .i64 (1 + t0), .int .i64 (1 + t1), .int .i64 (1 + t2), .int .i64 (1 + t3), .int .i64 (1 + t4), .int .i64 (1 + t5), .int .i64 (1 + t6), .int .i64 (4 + t7), .int .i64 (t8), .int .i64 (t9)] 23)
  go_enter Try.func4, Try.ntmps4
  go_wp2
  refine bodyPost_ret (v := .agg #[.int .i64 (1 + t0), .int .i64 (1 + t1), .int .i64 (1 + t2), .int .i64 (1 + t3), .int .i64 (1 + t4), .int .i64 (1 + t5), .int .i64 (1 + t6), .int .i64 (4 + t7), .int .i64 (t8), .int .i64 (t9)]) (by simp [results, Try.results4, go_sem]) rfl ⟨(Cfg.mk (1 + t0) (1 + t1) (1 + t2) (1 + t3) (1 + t4) (1 + t5) (1 + t6) (4 + t7) (t8) (t9)), rfl, ?_, b1⟩
  unfold SmallC
  simp only
  omega

end Go.Proofs.Ytmjidhnlofpliab
