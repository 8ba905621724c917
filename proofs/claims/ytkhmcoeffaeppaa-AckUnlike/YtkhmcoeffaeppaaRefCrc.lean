/-
  What the page's Shift16, Shift32 answer.
-/
import Derived.Test.YtkhmcoeffaeppaaCrcDefs
import Derived.Laws.BitsAllLaws
import Derived.WalkSpells
import Derived.WalkLawsBesides
namespace Go.Proofs.Ytkhmcoeffaeppaa
open Go.RowKit

set_option maxRecDepth 100000 in
set_option maxHeartbeats 1000000 in
theorem refShift32_any (r b : Nat) (hr : r < 4294967296) (hb : b < 2) (w : World) :
    Calls Try.prog 35 #[.int .i64 r, .int .i64 b] w fun e w' => e = .returned (.int .i64 ((m32 (r ^^^ b) : Nat) : Int)) ∧ w = w' := by
  have HN : Hid (m32 (r ^^^ b) = r / 2 ^^^ (if r % 2 = b then 0 else 3988292384)) := shift32_num r b hb
  have ha : bits .and .i64 (r : Int) 1 = ((r % 2 : Nat) : Int) := zi_and1 r (by omega)
  have hd : (r : Int) / 2 = ((r / 2 : Nat) : Int) := by omega
  have hx : bits .xor .i64 ((r / 2 : Nat) : Int) 3988292384 = ((r / 2 ^^^ 3988292384 : Nat) : Int) := zi_xor _ 3988292384 (by omega) (by decide)
  obtain ⟨c, hc⟩ : ∃ c : Nat, r / 2 = c := ⟨_, rfl⟩
  rw [hc] at hd hx HN
  obtain ⟨d, hd2⟩ : ∃ d : Nat, r % 2 = d := ⟨_, rfl⟩
  rw [hd2] at ha HN
  clear hc hd2
  by_cases h : d = b
  · subst h
    have hq : ((d : Int) != (d : Int)) = false := by simp
    go_enter Try.func35, Try.ntmps35
    go_wp2
    go_ret
    refine ⟨?_, rfl⟩
    rw [HN.out, if_pos trivial, Nat.xor_zero]
    rfl
  · have HR : Hid (¬ d = b) := h
    have hq : ((d : Int) != (b : Int)) = true := by rw [bne_iff_ne]; omega
    clear h
    go_enter Try.func35, Try.ntmps35
    go_wp2
    go_ret
    refine ⟨?_, rfl⟩
    rw [HN.out, if_neg HR.out]
    rfl

end Go.Proofs.Ytkhmcoeffaeppaa
