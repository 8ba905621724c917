/-
  What the page's Block (may it be?), be and num, and volutekeep.Block answer, whatever they are asked. (Written by tpl_refblock.py.)
-/
import Derived.Test.YtkhmcoeffaeppaaBlockNums
import Derived.Test.YtkhmcoeffaeppaaKeepBytes
import Derived.Test.YtkhmcoeffaeppaaTwins
import Derived.Test.YtkhmcoeffaeppaaBoxMem
namespace Go.Proofs.Ytkhmcoeffaeppaa
open Go.RowKit

set_option maxRecDepth 100000 in
set_option maxHeartbeats 2000000 in
/-- voluteref13.be: a number in so many bytes, the highest first. -/
theorem refBe_any (n : Int) (s : Nat) (h2 : s ≤ 4) (w : World) :
    Calls Try.prog 21 #[.int .i64 n, .int .i64 s] w fun e W' => ∃ r, e = .returned r ∧ W'.ownsRow w.heap.size 5 1 r s ((beBytes s n).map (Value.int .u8)) ∧ Below w.heap.size w W' := by
  obtain ⟨i0, hi, hz0, hz1, hz2⟩ := info_parts infoU8
  go_enter Try.func21, Try.ntmps21
  go_wp2
  go_loopw [5, 6] (fun v i wr => ∃ l : Nat, l ≤ s ∧ i = .int .i64 ((l : Int) - 1) ∧ wr.ownsRow w.heap.size 5 1 v (s - l) (((beBytes s n).take (s - l)).map (Value.int .u8)) ∧ Below w.heap.size w wr) (fun _ i _ => (intOf i + 1).toNat)
  case atStart => exact ⟨s, Nat.le_refl _, rfl, by simpa using World.ownsRow_nil _ _ _ _, Below.refl _ _⟩
  case round =>
    obtain ⟨l, hl, rfl, ho, hbw⟩ := hrel
    cases l with
    | zero =>
      go_wp2
      go_ret
      refine ⟨_, rfl, ?_, hbw⟩
      simpa [List.take_of_length_le, beBytes_len] using ho
    | succ m =>
      have hm : ((m + 1 : Nat) : Int) - 1 = (m : Int) := by omega
      rw [hm]
      have HM : Hid _ := beBytes_next s m n (by omega)
      have hml : m ≤ 3 := by omega
      go_wp2_with (at_builtin; refine wpList_append_own _ rfl _ _ 25 rfl w.heap.size 5 i0 (.int .u8 0) 1 1 Try.underlying25 hi hz0 hz1 hz2 rfl (by decide) _ (s - (m + 1)) _ rfl (ho.alloc _) ⟨wr.heap.size, 0, none⟩ 1 1 [.int .u8 (n / 2 ^ (8 * m) % 256)] rfl rfl (cell_one_new _ _ _) (by simp [Value.oneCell']) (by unfold maxLen; omega) (by omega) (by have := hbw.size; simp; omega) ?_; intro v3 w3 hown3 hgrow3 _)
      have e1 : s - (m + 1) + 1 = s - m := by omega
      have b3 : Below w.heap.size w w3 := (hbw.alloc hbw.size _).trans ((Below.refl _ _).grown hgrow3 (by have := hbw.size; simp; omega) (fun k e => (ho.lt k e).1))
      refine ⟨⟨m, by omega, rfl, ?_, b3⟩, by simp [intOf]⟩
      rw [HM.out]
      rw [e1] at hown3
      simpa using hown3

set_option maxRecDepth 100000 in
set_option maxHeartbeats 2000000 in
/-- voluteref13.num: the number that four bytes make. -/
theorem refNum_any (b off cap : Nat) (zs : List Int) (h4 : zs.length ≤ 4) (bz : ∀ z ∈ zs, 0 ≤ z ∧ z ≤ 255) (w : World)
    (hc : ∀ j, j < zs.length → w.cell? ⟨b, off + j, none⟩ = some (.int .u8 (zs[j]?.getD 0))) :
    Calls Try.prog 26 #[.slice (some ⟨b, off, none⟩) zs.length cap] w fun e w' => e = .returned (.int .i64 (beNum zs)) ∧ w = w' := by
  go_enter Try.func26, Try.ntmps26
  go_wp2
  go_loop [3, 4] (fun v i => ∃ k : Nat, k ≤ zs.length ∧ i = .int .i64 k ∧ v = .int .i64 (beNum (zs.take k))) (fun _ i => zs.length - (intOf i).toNat)
  case atStart => exact ⟨0, Nat.zero_le _, rfl, rfl⟩
  case round =>
    obtain ⟨k, hk, rfl, rfl⟩ := hrel
    by_cases hlt : k < zs.length
    · obtain ⟨x, hx⟩ : ∃ x, zs[k]? = some x := ⟨zs[k]'hlt, by simp⟩
      have hcx : w.cell? ⟨b, off + k, none⟩ = some (.int .u8 x) := (hc k hlt).trans (by rw [hx]; rfl)
      have hx2 := bz x (List.mem_of_getElem? hx)
      have hb := take_bd zs bz 0 k 3 (by omega)
      rw [List.drop_zero] at hb
      have e3 : (256 : Int) ^ 3 = 16777216 := by decide
      rw [e3] at hb
      have HN : Hid (beNum (zs.take (k + 1)) = beNum (zs.take k) * 256 + x) := by
        show beNum (zs.take (k + 1)) = beNum (zs.take k) * 256 + x
        rw [List.take_add_one, hx]; exact beNum_snoc _ _
      obtain ⟨v, hv⟩ : ∃ v, beNum (zs.take k) = v := ⟨_, rfl⟩
      rw [hv] at hb HN ⊢
      have ej := or_join v x hb.1 (by omega) hx2.1 hx2.2
      have hwz : IntKind.i64.wrap x = x := by rw [IntKind.wrap_i64]; omega
      clear hv hx hc bz
      go_wp2
      exact ⟨⟨k + 1, by omega, by go_num, by rw [HN.out]⟩, by simp [intOf]; omega⟩
    · obtain rfl : k = zs.length := by omega
      rw [List.take_length]
      go_wp2
      go_ret
      exact ⟨rfl, rfl⟩

end Go.Proofs.Ytkhmcoeffaeppaa
