/-
  What gf2.Div answers of rows that are not too long.
-/
import Derived.Test.YtplobmkfmflkaaaG3Has
import Derived.Test.YtplobmkfmflkaaaDivFacts
import Derived.Lib.MinMax
namespace Go.Proofs.Ytplobmkfmflkaaa
open Go.RowKit

set_option maxRecDepth 100000 in
set_option maxHeartbeats 2000000 in
theorem div_arg (v v' : Value) (zs zs' : List Int) (hl : zs.length ≤ 32768) (hl' : zs'.length ≤ 32768) (hb : ¬ (Bin zs ∧ Bin zs')) (w : World) (hH : Has w v zs) (hH' : Has w v' zs') :
    Calls Try.prog 25 #[v, v'] w fun e W' => e = .returned (.tuple #[.slice none 0 0, .slice none 0 0, .int .i64 1]) ∧ Below w.heap.size w W' := by
  obtain ⟨a, cap, rfl⟩ := hH.1.shape
  obtain ⟨a', cap', rfl⟩ := hH'.1.shape
  have HR := rowsAt_two hH hH' hl hl'
  have b0 : Below w.heap.size w (w.alloc (.cells #[.slice a zs.length cap, .slice a' zs'.length cap'] 31)) := (Below.refl _ w).alloc (Nat.le_refl _) _
  clear hH hH'
  go_enter Try.func25, Try.ntmps25
  go_wp2_with fail
  refine (check_any w.heap.size w.heap.size 2 [_, _] [zs, zs'] rfl (by omega) _ HR).mono ?_
  rintro e w' ⟨⟨r, rfl, hr⟩, q, rfl⟩
  have b1 := below_drewN b0 q
  obtain rfl : r = 1 := by
    rcases hr with ⟨_, h⟩ | ⟨h, _⟩
    · exact absurd ⟨h zs (by simp), h zs' (by simp)⟩ hb
    · exact h
  clear HR hr b0
  go_wp2
  go_ret3
  exact ⟨rfl, b1⟩

set_option maxRecDepth 100000 in
set_option maxHeartbeats 2000000 in
theorem div_zero (v v' : Value) (zs zs' : List Int) (hl : zs.length ≤ 32768) (hl' : zs'.length ≤ 32768) (hb : Bin zs) (hb' : Bin zs') (h0 : val zs' = 0) (w : World) (hH : Has w v zs) (hH' : Has w v' zs') :
    Calls Try.prog 25 #[v, v'] w fun e W' => e = .returned (.tuple #[.slice none 0 0, .slice none 0 0, .int .i64 1]) ∧ Below w.heap.size w W' := by
  obtain ⟨a, cap, rfl⟩ := hH.1.shape
  obtain ⟨a', cap', rfl⟩ := hH'.1.shape
  have HR := rowsAt_two hH hH' hl hl'
  have b0 : Below w.heap.size w (w.alloc (.cells #[.slice a zs.length cap, .slice a' zs'.length cap'] 31)) := (Below.refl _ w).alloc (Nat.le_refl _) _
  go_enter Try.func25, Try.ntmps25
  go_wp2_with fail
  refine (check_any w.heap.size w.heap.size 2 [_, _] [zs, zs'] rfl (by omega) _ HR).mono ?_
  rintro e w' ⟨⟨r, rfl, hr⟩, q, rfl⟩
  have b1 := below_drewN b0 q
  obtain rfl : r = 0 := by
    rcases hr with ⟨h, _⟩ | ⟨_, h⟩
    · exact h
    · exact absurd (bins_two hb hb') h
  have h1 := hH.next b1
  have h1' := hH'.next b1
  obtain ⟨w1, hw1⟩ : ∃ w1, (w.alloc (.cells #[.slice a zs.length cap, .slice a' zs'.length cap'] 31)).drewN q = w1 := ⟨_, rfl⟩
  rw [hw1] at b1 h1 h1' ⊢
  clear HR hr b0 hH hH' hw1
  go_wp2_with fail
  refine (trimmed_bin _ zs _ (by omega) w1 h1.1 h1.2 hb).mono ?_
  rintro e w' ⟨⟨r, ys, rfl, h2, h3, h4, h5, h6⟩, q2, rfl⟩
  go_wp2_with fail
  refine (trimmed_bin _ zs' _ (by omega) (w1.drewN q2) h1'.1 h1'.2 hb').mono ?_
  rintro e w' ⟨⟨r', ys', rfl, h2', h3', h4', h5', h6'⟩, q3, rfl⟩
  obtain rfl := h4'.eq_nil (h5'.trans h0)
  obtain ⟨a1, cap1, rfl⟩ := h2.shape
  obtain ⟨a1', cap1', rfl⟩ := h2'.shape
  have b2 := below_drewN b1 (q2 + q3)
  clear h1 h1' h2 h3 h4 h5 h6 h2' h3' h4' h5' h6' b1
  go_wp2
  go_ret3
  exact ⟨rfl, b2⟩

/-- What stands behind k rounds, in memory: the rest in block g, the quotient in block g + 1. -/
def DivAt (w4 : World) (g g' : Nat) (ys ms : List Int) (nq k : Nat) (wr : World) : Prop :=
  (∃ L Q, Row wr g L ∧ Row wr g' Q ∧ Divided ys ms nq k L Q) ∧ Below g w4 wr

set_option maxRecDepth 100000 in
set_option maxHeartbeats 4000000 in
theorem div_ok (v v' : Value) (zs zs' : List Int) (hl : zs.length ≤ 32768) (hl' : zs'.length ≤ 32768) (hb : Bin zs) (hb' : Bin zs') (h0 : val zs' ≠ 0) (w : World) (hH : Has w v zs) (hH' : Has w v' zs') :
    Calls Try.prog 25 #[v, v'] w fun e W' => ∃ vq vr qs rs ms, e = .returned (.tuple #[vq, vr, .int .i64 0]) ∧ Has W' vq qs ∧ Has W' vr rs ∧ Tr qs ∧ Tr rs ∧ Tr ms ∧ val ms = val zs' ∧ val zs = cl (val qs) (val zs') ^^^ val rs ∧ val rs < 2 ^ (ms.length - 1) ∧ Below w.heap.size w W' := by
  obtain ⟨i0, hi, hz0, hz1, hz2⟩ := info_parts infoI64
  obtain ⟨a, cap, rfl⟩ := hH.1.shape
  obtain ⟨a', cap', rfl⟩ := hH'.1.shape
  have HR := rowsAt_two hH hH' hl hl'
  have b0 : Below w.heap.size w (w.alloc (.cells #[.slice a zs.length cap, .slice a' zs'.length cap'] 31)) := (Below.refl _ w).alloc (Nat.le_refl _) _
  go_enter Try.func25, Try.ntmps25
  go_wp2_with fail
  refine (check_any w.heap.size w.heap.size 2 [_, _] [zs, zs'] rfl (by omega) _ HR).mono ?_
  rintro e w' ⟨⟨r, rfl, hr⟩, q, rfl⟩
  have b1 := below_drewN b0 q
  obtain rfl : r = 0 := by
    rcases hr with ⟨h, _⟩ | ⟨_, h⟩
    · exact h
    · exact absurd (bins_two hb hb') h
  have h1 := hH.next b1
  have h1' := hH'.next b1
  obtain ⟨w1, hw1⟩ : ∃ w1, (w.alloc (.cells #[.slice a zs.length cap, .slice a' zs'.length cap'] 31)).drewN q = w1 := ⟨_, rfl⟩
  rw [hw1] at b1 h1 h1' ⊢
  clear HR hr b0 hH hH' hw1
  go_wp2_with fail
  refine (trimmed_bin _ zs _ (by omega) w1 h1.1 h1.2 hb).mono ?_
  rintro e w' ⟨⟨r, ys, rfl, h2, h3, h4, h5, h6⟩, q2, rfl⟩
  go_wp2_with fail
  refine (trimmed_bin _ zs' _ (by omega) (w1.drewN q2) h1'.1 h1'.2 hb').mono ?_
  rintro e w' ⟨⟨r', ms, rfl, h2', h3', h4', h5', h6'⟩, q3, rfl⟩
  have g1 : Has ((w1.drewN q2).drewN q3) r ys := ⟨h2, h3⟩
  have g1' : Has ((w1.drewN q2).drewN q3) r' ms := ⟨h2', h3'⟩
  have b2 := below_drewN (below_drewN b1 q2) q3
  obtain ⟨w2, hw2⟩ : ∃ w2, (w1.drewN q2).drewN q3 = w2 := ⟨_, rfl⟩
  rw [hw2] at b2 g1 g1' ⊢
  clear h1 h1' h2 h3 h2' h3' b1 hw2
  have HV : Hid (val ys = val zs ∧ val ms = val zs') := ⟨h5, h5'⟩
  have hm0 : ms ≠ [] := fun e => h0 (by rw [← h5', e]; rfl)
  have hmp : 0 < ms.length := List.length_pos_iff.2 hm0
  obtain ⟨a1, cap1, rfl⟩ := g1.1.shape
  obtain ⟨a1', cap1', rfl⟩ := g1'.1.shape
  have hla : ys.length ≤ 32768 := by omega
  have hlm : ms.length ≤ 32768 := by omega
  have HT : Hid (Tr ys ∧ Tr ms ∧ ms ≠ []) := ⟨h4, h4', hm0⟩
  have hme : ((ms.length : Int) == 0) = false := by simp; omega
  obtain ⟨nq, hn⟩ : ∃ nq, nq = ys.length + 1 - ms.length := ⟨_, rfl⟩
  have HN : Hid (nq = ys.length + 1 - ms.length) := hn
  have hn1 : nq ≤ ys.length := by omega
  have hmax : max 0 ((ys.length : Int) - (ms.length : Int) + 1) = (nq : Int) := by omega
  have hsz := b2.size
  clear h4 h4' h5 h5' h6 h6' hb hb' hl hl' hm0 h0 hn
  go_wp2_with fail
  refine (own_any _ ys _ (by omega) w2 g1.1 (Nat.le_refl _)).mono ?_
  rintro e w3 ⟨rfl, hrowL, b23⟩
  have g2' := g1'.1.below b23
  have b3 := b2.trans (b23.mono hsz)
  have hs3 : w2.heap.size < w3.heap.size := hrowL.lt
  clear g1 g1' b23 b2
  go_wp2_with (at_make; refine wpList_make_full _ rfl _ _ 31 rfl w3.heap.size 3 i0 (.int .i64 0) 1 Try.underlying31 hi hz0 hz1 .i64 .i64 _ _ nq rfl rfl rfl rfl (by rw [hz2]; omega) (by unfold maxLen; omega) (Nat.le_refl _) ?_; intro w4 hown hgrow)
  have b34 : Below w3.heap.size w3 w4 := (Below.refl _ w3).grown hgrow (Nat.le_refl _) (fun k e => by cases e)
  have hrowQ := row_made hown
  have hrowL4 := hrowL.below b34 hs3
  have g3' := g2'.below (b34.mono (Nat.le_of_lt hs3))
  have b4 := b3.trans (b34.mono b3.size)
  have HS : Hid (DivAt w4 w2.heap.size w3.heap.size ys ms nq 0 w4) := ⟨⟨_, _, hrowL4, hrowQ, Divided.start HT.out.1 nq⟩, Below.refl _ _⟩
  clear hown hgrow hrowQ hrowL hrowL4 b34 b3 g2'
  go_wp2
  go_loopw [36] (fun i wr => ∃ k : Nat, k ≤ nq ∧ i = .int .i64 k ∧ Hid (DivAt w4 w2.heap.size w3.heap.size ys ms nq k wr)) (fun i _ => nq - (intOf i).toNat)
  case atStart => exact ⟨0, Nat.zero_le _, rfl, HS⟩
  case round =>
    clear HS
    obtain ⟨k, hk, rfl, HM⟩ := hrel
    by_cases hlt : k < nq
    · obtain ⟨⟨L, Q, hL, hQ, hD⟩, hB⟩ := HM.out
      have hkl : k < L.length := by rw [hD.lenL]; omega
      obtain ⟨x, hxk⟩ : ∃ x, L[k]? = some x := ⟨L[k], by simp⟩
      have h01 := hD.binL.get hxk
      have c1 : wr.cell? ⟨w2.heap.size, k, none⟩ = some (.int .i64 x) := hL.cell k hxk
      have hkne : ¬ ys.length = k := by omega
      by_cases hx1 : x = 1
      · subst hx1
        have c2 : wr.cell? ⟨w3.heap.size, k, none⟩ = some (.int .i64 0) := hQ.cell k (hD.zero k (Nat.le_refl _) hlt)
        have f2 := hQ.frozen k
        have hO1 : Only w3.heap.size wr (wr.setCell ⟨w3.heap.size, k, none⟩ (.int .i64 1)) := (Only.refl _ _).set _ _
        have hQ1 := hQ.set k 1
        have hL1 := hO1.row (by omega) hL
        have hB1 : Below w2.heap.size w4 (wr.setCell ⟨w3.heap.size, k, none⟩ (.int .i64 1)) := hB.trans (hO1.1.mono (Nat.le_of_lt hs3))
        have g4' := g3'.below hB1
        have HD : Hid (Divided ys ms nq k L Q ∧ L[k]? = some 1) := ⟨hD, hxk⟩
        have hkL : L.length = ys.length := hD.lenL
        have HL : Hid (Row (wr.setCell ⟨w3.heap.size, k, none⟩ (.int .i64 1)) w2.heap.size L ∧ Row (wr.setCell ⟨w3.heap.size, k, none⟩ (.int .i64 1)) w3.heap.size (Q.set k 1) ∧ Below w2.heap.size w4 (wr.setCell ⟨w3.heap.size, k, none⟩ (.int .i64 1)) ∧ Holds .i64 w2.heap.size (wr.setCell ⟨w3.heap.size, k, none⟩ (.int .i64 1)) (.slice a1' ms.length cap1') ms ∧ L.length = ys.length) := ⟨hL1, hQ1, hB1, g4', hkL⟩
        clear hL hQ hD hB HM h01 hO1 hQ1 hL1 hB1 g4' hxk hkl g3' hkL
        go_wp2_with fail
        obtain ⟨hL1, hQ1, hB1, g4', hkL⟩ := HL.out
        have hN := HN.out
        refine (addTo_any w2.heap.size k w2.heap.size _ _ L ms HD.out.1.binL HT.out.2.1.1 (by omega) (by omega) (Nat.le_refl _) _ hL1 (fun _ => ⟨_, by rw [hkL]⟩) g4').mono ?_
        rintro e w5 ⟨rfl, ⟨R, s1, s2, s3, s4⟩, hO'⟩
        have HM' : Hid (DivAt w4 w2.heap.size w3.heap.size ys ms nq (k + 1) w5) := ⟨⟨R, Q.set k 1, s1, hO'.row (by omega) hQ1, HD.out.1.next HT.out.2.1 HT.out.2.2 hlt (by omega) HD.out.2 s2 s3 s4⟩, hB1.trans hO'.1⟩
        clear hL1 hQ1 hB1 g4' hkL s1 s2 s3 s4 hO' hN HL
        go_wp2
        go_roundw
        case rel => exact ⟨k + 1, by omega, by go_num, HM'⟩
        case measure => simp [intOf]; omega
      · obtain rfl : x = 0 := h01.resolve_right hx1
        have HM' : Hid (DivAt w4 w2.heap.size w3.heap.size ys ms nq (k + 1) wr) := ⟨⟨L, Q, hL, hQ, hD.pass HT.out.1 hxk⟩, hB⟩
        clear h01 hx1 hL hQ hD hB hxk hkl
        go_wp2
        go_roundw
        case rel => exact ⟨k + 1, by omega, by go_num, HM'⟩
        case measure => simp [intOf]; omega
    · obtain rfl : k = nq := by omega
      obtain ⟨⟨L, Q, hL, hQ, hD⟩, hB⟩ := HM.out
      have b5 := b4.trans (hB.mono hsz)
      have hN := HN.out
      obtain ⟨hTq, hlow⟩ := hD.done (by omega)
      have hsum := hD.sum
      have hLb := hD.binL
      have hLl := hD.lenL
      have hQl := hD.lenQ
      have h7 := hL.has (by omega)
      rw [hLl] at h7
      clear hlt HM hL hD hB b4 g3' hN
      go_wp2_with fail
      refine (trimmed_bin _ L _ (by omega) wr h7.1 h7.2 hLb).mono ?_
      rintro e w' ⟨⟨r, us, rfl, s1, s2, s3, s4, s5⟩, q, rfl⟩
      go_wp2_with fail
      refine (own_any r us _ (by omega) _ s1 (Nat.le_refl _)).mono ?_
      rintro e w6 ⟨rfl, hrow, b6⟩
      have b7 : Below w.heap.size w w6 := (below_drewN b5 q).trans (b6.mono b5.size)
      have hQ6 := (hQ.drewN q).below b6 hQ.lt
      have h8 := hQ6.has (by omega)
      rw [hQl] at h8
      clear h7 s1 s2 b6 b5 hQ hQ6
      go_wp2
      go_ret3
      exact ⟨_, _, Q, us, ms, rfl, h8, hrow.has (by omega), hTq, s3, HT.out.2.1, HV.out.2, by rw [← HV.out.1, ← HV.out.2, s4]; exact hsum, by rw [s4]; exact hlow, b7⟩

end Go.Proofs.Ytplobmkfmflkaaa
