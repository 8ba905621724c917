/-
  Counters that stay, as numbers. No function of the program is spoken of.
-/
import Derived.Test.YtgfepnaikannbaaMem
namespace Go.Proofs.Ytgfepnaikannbaa
open Go.RowKit

def clampS (n : Int) : Int := min (max n 0) 1073741824
def satN (n m : Int) : Int := min (clampS n + clampS m) 1073741824
theorem clampS_bd (n : Int) : 0 ≤ clampS n ∧ clampS n ≤ 1073741824 := by unfold clampS; omega
theorem clampS_in {n : Int} (h0 : 0 ≤ n) (h1 : n ≤ 1073741824) : clampS n = n := by unfold clampS; omega
theorem satN_bd (n m : Int) : 0 ≤ satN n m ∧ satN n m ≤ 1073741824 := by
  have := clampS_bd n
  have := clampS_bd m
  unfold satN; omega
theorem satN_comm (n m : Int) : satN n m = satN m n := by unfold satN; omega
theorem satN_ge {n : Int} (h0 : 0 ≤ n) (h1 : n ≤ 1073741824) (m : Int) : n ≤ satN n m := by
  have := clampS_bd m
  unfold satN; rw [clampS_in h0 h1]; omega
theorem satN_zero {n : Int} (h0 : 0 ≤ n) (h1 : n ≤ 1073741824) : satN n 0 = n := by
  unfold satN; rw [clampS_in h0 h1, clampS_in (n := 0) (by decide) (by decide)]; omega
theorem satN_top (m : Int) : satN 1073741824 m = 1073741824 := by
  have := clampS_bd m
  unfold satN; rw [clampS_in (n := 1073741824) (by decide) (by decide)]; omega
theorem satN_two (n a b : Int) : satN (satN n a) b = satN (satN n b) a := by
  have h1 := satN_bd n a
  have h2 := satN_bd n b
  have := clampS_bd n
  have := clampS_bd a
  have := clampS_bd b
  have e1 : satN (satN n a) b = min (satN n a + clampS b) 1073741824 := by
    show min (clampS (satN n a) + clampS b) 1073741824 = _
    rw [clampS_in h1.1 h1.2]
  have e2 : satN (satN n b) a = min (satN n b + clampS a) 1073741824 := by
    show min (clampS (satN n b) + clampS a) 1073741824 = _
    rw [clampS_in h2.1 h2.2]
  rw [e1, e2]
  unfold satN; omega
theorem satN_many {n : Int} (h0 : 0 ≤ n) (h1 : n ≤ 1073741824) {k : Nat} (hk : k ≤ 2000) : satN n (k : Int) = min (n + k) 1073741824 := by
  unfold satN; rw [clampS_in h0 h1, clampS_in (n := (k : Int)) (by omega) (by omega)]
theorem satN_next {n : Int} (h0 : 0 ≤ n) (h1 : n ≤ 1073741824) {k : Nat} (hk : k < 2000) : satN (satN n (k : Int)) 1 = satN n ((k + 1 : Nat) : Int) := by
  have hb := satN_bd n k
  rw [satN_many h0 h1 (by omega : k + 1 ≤ 2000)]
  show min (clampS (satN n k) + clampS 1) 1073741824 = _
  rw [clampS_in hb.1 hb.2, clampS_in (n := 1) (by decide) (by decide), satN_many h0 h1 (by omega)]
  omega

end Go.Proofs.Ytgfepnaikannbaa
