/-
  PileExact: the walk: whatever the pile and the numbers, the law answers true, and nothing that lay has turned. (Written by tpl_pileexact.py, a case a theorem.)
-/
import Derived.Test.YtifkjglhdppocaaDoorPileExactA
import Derived.Test.YtifkjglhdppocaaDoorPileExactB
import Derived.Test.YtifkjglhdppocaaDoorPileExactC
namespace Go.Proofs.YtifkjglhdppocaaDoor
open Go.RowKit

set_option maxRecDepth 100000 in
set_option maxHeartbeats 2000000 in
theorem pileExact_far (n p k u s : Int) (a : Option Addr) (len cap : Nat) (h : 2000 < len) (w : World) :
    Calls Tryd.prog 3 #[.agg #[.int .i64 n, .int .i64 p, .slice a len cap], .int .i64 k, .int .i64 u, .int .i64 s] w fun e w' => e = .returned (.bool true) ∧ Below w.heap.size w w' := by
  have b0 := (Below.refl w.heap.size w).alloc (Nat.le_refl _) (.cells #[.int .i64 n, .int .i64 p, .slice a len cap] 24)
  go_enter Tryd.func3, Tryd.ntmps3
  go_wp2
  go_ret
  exact ⟨rfl, b0⟩

/-- The law, of whatever pile and numbers. -/
theorem pileExact_walk (n p : Int) (a : Option Addr) (len cap : Nat) (l : List (Int × Int)) (k u s : Int) (w : World) (h0 : IsSyms w a len cap l) (hk : (Lit.int .i64 k).wf = true) (hF : Firsts w) :
    Calls Tryd.prog 3 #[.agg #[.int .i64 n, .int .i64 p, .slice a len cap], .int .i64 k, .int .i64 u, .int .i64 s] w fun e w' => e = .returned (.bool true) ∧ Below w.heap.size w w' := by
  obtain ⟨rfl, _, _, ha, _⟩ := h0
  have hk2 := (bounds_i64 hk).2
  by_cases hfar : 2000 < l.length
  · exact pileExact_far n p k u s a _ cap hfar w
  have hl : l.length ≤ 2000 := by omega
  by_cases hn : n < 1 ∨ 64 < n
  · exact pileExact_noneN n p k u s a cap l hl hn w ha
  obtain ⟨N, rfl⟩ := Int.eq_ofNat_of_zero_le (a := n) (by omega)
  by_cases hp1 : p < 1
  · exact pileExact_noneP N p k u s a cap l hl (by omega) (by omega) hp1 w ha
  by_cases hp2 : 16 < p
  · exact pileExact_noneQ N p k u s a cap l hl (by omega) (by omega) hp2 w ha
  have hh : HeadOk (N : Int) p := ⟨by omega, by omega, by omega, by omega⟩
  by_cases hp : PileOk (N : Int) p l
  · by_cases hA : k < 0 ∨ u < 0 ∨ 255 < u
    · by_cases hs : s < 0
      · exact pileExact_okArgNeg N p k u s a cap l hl hp hA hs w ha
      by_cases hs2 : (N : Int) ≤ s
      · exact pileExact_okArgHigh N p k u s a cap l hl hp hA (by omega) hs2 w ha
      obtain ⟨S, rfl⟩ := Int.eq_ofNat_of_zero_le (a := s) (by omega)
      exact pileExact_okArgMid N p k u S a cap l hl hp hA (by omega) w ha hF
    · by_cases hs : s < 0
      · exact pileExact_okInNeg N p k u s a cap l hl hp (by omega) hk2 (by omega) (by omega) hs w ha
      by_cases hs2 : (N : Int) ≤ s
      · exact pileExact_okInHigh N p k u s a cap l hl hp (by omega) hk2 (by omega) (by omega) (by omega) hs2 w ha
      obtain ⟨S, rfl⟩ := Int.eq_ofNat_of_zero_le (a := s) (by omega)
      exact pileExact_okInMid N p k u S a cap l hl hp (by omega) hk2 (by omega) (by omega) (by omega) w ha hF
  · exact pileExact_noneYes N p k u s a cap l hl hh hp w ha

end Go.Proofs.YtifkjglhdppocaaDoor
