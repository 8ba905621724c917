/-
  What the page's Begin, Step, States answer.
-/
import Derived.Test.YtnecdbmdgpoogaaDoorM15
import Derived.OwnWalk
namespace Go.Proofs.YtnecdbmdgpoogaaDoor
open Go.RowKit

theorem infoU32 : (Tryd.prog.info? 77).map (fun i => (i.zero, i.size, i.bytes)) = some (some (.int .u32 0), 1, 4) := by kernel_rfl

set_option maxHeartbeats 400000 in
theorem refBegin_any (w : World) : Calls Tryd.prog 61 #[] w fun e w' => e = .returned (.int .u32 (beginN : Int)) ∧ w = w' := by
  go_enter Tryd.func61, Tryd.ntmps61
  go_wp2
  go_ret
  exact ⟨rfl, rfl⟩

set_option maxRecDepth 100000 in
set_option maxHeartbeats 1000000 in
theorem refStep_any (s n : Nat) (hs : s < 4294967296) (hn : n < 16) (w : World) : Calls Tryd.prog 62 #[.int .u32 s, .int .i64 n] w fun e w' => e = .returned (.int .u32 ((stepN s n : Nat) : Int)) ∧ w = w' := by
  have e1 : IntKind.u32.wrap (n : Int) = (n : Int) := by rw [IntKind.wrap_u32]; omega
  have e2 : bits .xor .u32 (s : Int) (n : Int) = ((s ^^^ n : Nat) : Int) := zu32_xor s n hs (by omega)
  have h3 : s ^^^ n < 4294967296 := xorlt32 hs (by omega)
  have HR : Hid (mixN (s ^^^ n) = stepN s n) := rfl
  obtain ⟨x, hx⟩ : ∃ x, s ^^^ n = x := ⟨_, rfl⟩
  rw [hx] at e2 h3 HR
  clear hx
  go_enter Tryd.func62, Tryd.ntmps62
  go_wp2_with fail
  refine (refMix_any x h3 w).mono ?_
  rw [HR.out]
  rintro e w1 ⟨rfl, rfl⟩
  go_wp2
  go_ret
  exact ⟨rfl, rfl⟩

set_option maxRecDepth 100000 in
set_option maxHeartbeats 2000000 in
theorem refStates_any (a : Option Addr) (cap : Nat) (zs : List Int) (hl : zs.length ≤ 4294967296) (hP : Path zs) (w : World) (ha : Holds .i64 w.heap.size w (.slice a zs.length cap) zs) :
    Calls Tryd.prog 45 #[.slice a zs.length cap] w fun e W' => ∃ r, e = .returned r ∧ W'.ownsRow w.heap.size 77 1 r zs.length ((statesOf beginN zs).map (Value.int .u32)) ∧ Below w.heap.size w W' := by
  obtain ⟨i0, hi, hz0, hz1, hz2⟩ := info_parts infoU32
  have HP : Hid (Path zs) := hP
  clear hP
  go_enter Tryd.func45, Tryd.ntmps45
  go_wp2_with fail
  refine (refBegin_any w).mono ?_
  rintro e w1 ⟨rfl, rfl⟩
  go_wp2
  go_loopw [3, 4, 5] (fun s v i wr => ∃ k : Nat, k ≤ zs.length ∧ i = .int .i64 k ∧ s = .int .u32 ((lastOf beginN (zs.take k) : Nat) : Int) ∧ wr.ownsRow w.heap.size 77 1 v k ((statesOf beginN (zs.take k)).map (Value.int .u32)) ∧ Below w.heap.size w wr) (fun _ _ i _ => zs.length - (intOf i).toNat)
  case atStart => exact ⟨0, Nat.zero_le _, rfl, rfl, World.ownsRow_nil _ _ _ _, Below.refl _ _⟩
  case round =>
    obtain ⟨k, hk, rfl, rfl, ho, hbw⟩ := hrel
    by_cases hlt : k < zs.length
    · obtain ⟨n, hnk, hn⟩ : ∃ n : Nat, zs[k]? = some (n : Int) ∧ n < 16 := by
        have := HP.out _ (List.getElem_mem hlt)
        exact ⟨zs[k].toNat, by rw [List.getElem?_eq_getElem hlt]; congr 1; omega, by omega⟩
      rcases ha with ⟨_, e⟩ | ⟨b, off, cap', e, hb, hcs⟩
      · rw [e] at hlt; exact absurd hlt (by simp)
      cases e
      have c1 : wr.cell? ⟨b, off + k, none⟩ = some (.int .i64 (n : Int)) := (hbw.cell (p := ⟨b, off + k, none⟩) hb).trans ((hcs k hlt).trans (by rw [hnk]; rfl))
      have hs := lastOf_lt (s := beginN) (zs.take k) (by decide)
      have HL : Hid (lastOf beginN (zs.take (k + 1)) = stepN (lastOf beginN (zs.take k)) n) := by
        have := lastOf_take (s := beginN) hnk
        rw [Int.toNat_natCast] at this
        exact this
      have HS : Hid (statesOf beginN (zs.take (k + 1)) = statesOf beginN (zs.take k) ++ [((stepN (lastOf beginN (zs.take k)) n : Nat) : Int)]) := by
        have := statesOf_snoc beginN (zs.take k) (n : Int)
        rw [← take_snoc hnk, Int.toNat_natCast] at this
        exact this
      obtain ⟨s, hse⟩ : ∃ s, lastOf beginN (zs.take k) = s := ⟨_, rfl⟩
      rw [hse] at hs HL HS ⊢
      clear hcs hnk hse
      go_wp2_with fail
      refine (refStep_any s n hs hn wr).mono ?_
      rintro e w2 ⟨rfl, rfl⟩
      obtain ⟨t, hte⟩ : ∃ t, stepN s n = t := ⟨_, rfl⟩
      rw [hte] at HL HS ⊢
      clear hte
      go_wp2_with (at_builtin; refine wpList_append_own _ rfl _ _ 61 rfl w.heap.size 77 i0 (.int .u32 0) 1 4 Tryd.underlying61 hi hz0 hz1 hz2 rfl (by decide) _ k _ rfl (ho.alloc _) ⟨wr.heap.size, 0, none⟩ 1 1 [.int .u32 t] rfl rfl (cell_one_new _ _ _) (by simp [Value.oneCell']) (by unfold maxLen; omega) (by omega) (by have := hbw.size; simp; omega) ?_; intro v3 w3 hown3 hgrow3 _)
      have b3 : Below w.heap.size w w3 := (hbw.alloc hbw.size _).trans ((Below.refl _ _).grown hgrow3 (by have := hbw.size; simp; omega) (fun q e => (ho.lt q e).1))
      refine ⟨⟨k + 1, by omega, by go_num, by rw [HL.out], ?_, b3⟩, by simp [intOf]; omega⟩
      rw [HS.out, List.map_append]
      exact hown3
    · obtain rfl : k = zs.length := by omega
      have HT : Hid (zs.take zs.length = zs) := List.take_length
      rw [HT.out] at ho ⊢
      clear ha
      go_wp2
      go_ret
      exact ⟨_, rfl, ho, hbw⟩

end Go.Proofs.YtnecdbmdgpoogaaDoor
