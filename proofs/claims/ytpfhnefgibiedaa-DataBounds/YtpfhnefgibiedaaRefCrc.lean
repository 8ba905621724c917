/-
  What the page's Shift16, Shift32 answer.
-/
import Derived.Test.YtpfhnefgibiedaaCrcDefs
import Derived.Laws.BitsAllLaws
import Derived.WalkSpells
import Derived.WalkLawsBesides
namespace Go.Proofs.Ytpfhnefgibiedaa
open Go.RowKit

set_option maxRecDepth 100000 in
set_option maxHeartbeats 1000000 in
theorem refShift16_any (r b : Nat) (hr : r < 65536) (hb : b < 2) (w : World) :
    Calls Try.prog 36 #[.int .i64 r, .int .i64 b] w fun e w' => e = .returned (.int .i64 ((n16 (r ^^^ b * 32768) : Nat) : Int)) ∧ w = w' := by
  have HN : Hid (n16 (r ^^^ b * 32768) = 2 * r % 65536 ^^^ (if r / 32768 = b then 0 else 4129)) := shift16_num r b hr hb
  have ha : bits .and .i64 ((r : Int) * 2) 65535 = ((2 * r % 65536 : Nat) : Int) := by
    have := zi_and16 (2 * r) (by omega)
    rwa [show ((2 * r : Nat) : Int) = (r : Int) * 2 by omega] at this
  have hx : bits .xor .i64 ((2 * r % 65536 : Nat) : Int) 4129 = ((2 * r % 65536 ^^^ 4129 : Nat) : Int) := zi_xor _ 4129 (by omega) (by decide)
  obtain ⟨c, hc⟩ : ∃ c : Nat, 2 * r % 65536 = c := ⟨_, rfl⟩
  rw [hc] at ha hx HN
  clear hc
  by_cases h : (r : Int) / 32768 = (b : Int)
  · have HR : Hid (r / 32768 = b) := by have : ((r / 32768 : Nat) : Int) = b := by simpa using h
                                        exact_mod_cast this
    go_enter Try.func36, Try.ntmps36
    go_wp2
    go_ret
    refine ⟨?_, rfl⟩
    rw [HN.out, if_pos HR.out, Nat.xor_zero]
    rfl
  · have HR : Hid (¬ r / 32768 = b) := fun e => h (by rw [← e]; simp)
    have hq : ((r : Int) / 32768 != (b : Int)) = true := by simp only [bne_iff_ne]; exact h
    clear h
    go_enter Try.func36, Try.ntmps36
    go_wp2
    go_ret
    refine ⟨?_, rfl⟩
    rw [HN.out, if_neg HR.out]
    rfl

end Go.Proofs.Ytpfhnefgibiedaa
