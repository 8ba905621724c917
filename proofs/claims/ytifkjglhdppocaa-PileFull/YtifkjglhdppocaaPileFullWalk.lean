/-
  PileFull: the walk: whatever the numbers, the law answers true, and nothing that lay has turned. (Written by tpl_pilefull.py.)
-/
import Derived.Test.YtifkjglhdppocaaPileWakes
import Derived.Test.YtifkjglhdppocaaPileFullNums
import Derived.Test.YtifkjglhdppocaaPlaces
import Derived.Deep.RegionHeldLaw
namespace Go.Proofs.Ytifkjglhdppocaa
open Go.RowKit

theorem val_walk (v : Int) (j : Nat) : (IntKind.u64.wrap (v + (j : Int))).tmod 256 = valN v j := by
  have h0 : 0 ≤ IntKind.u64.wrap (v + (j : Int)) := by rw [IntKind.wrap_u64]; omega
  rw [Int.tmod_eq_emod_of_nonneg h0, IntKind.wrap_u64]
  rfl
theorem wrap_twice (z : Int) : IntKind.u64.wrap (IntKind.i64.wrap z) = IntKind.u64.wrap z := by
  rw [IntKind.wrap_u64, IntKind.wrap_u64, IntKind.wrap_i64]; omega

theorem val_all (v : Int) (j : Nat) : wrap64 ((IntKind.u64.wrap (wrap64 (v + (j : Int)))).tmod 256) = valN v j := by
  have e : ∀ z : Int, wrap64 z = IntKind.i64.wrap z := fun z => by unfold wrap64; exact (IntKind.wrap_i64 z).symm
  rw [e, e, wrap_twice, val_walk, IntKind.wrap_i64]
  have := valN_bd v j
  omega

set_option maxRecDepth 100000 in
set_option maxHeartbeats 4000000 in
theorem pileFull_any (a0 a1 a2 : Int) (w : World) : Calls Try.prog 4 #[.int .i64 a0, .int .i64 a1, .int .i64 a2] w fun e w' => e = .returned (.bool true) ∧ Below w.heap.size w w' := by
  obtain ⟨n', hn', en⟩ := at_place a0 30 (by decide)
  obtain ⟨p', hp', ep⟩ := at_place a1 8 (by decide)
  have ewn : IntKind.i64.wrap (n' : Int) = (n' : Int) := by rw [IntKind.wrap_i64]; omega
  have ewp : IntKind.i64.wrap (p' : Int) = (p' : Int) := by rw [IntKind.wrap_i64]; omega
  obtain ⟨N, hN⟩ : ∃ N, n' + 1 = N := ⟨_, rfl⟩
  obtain ⟨P, hP⟩ : ∃ P, p' + 1 = P := ⟨_, rfl⟩
  have e1n : 1 + (n' : Int) = (N : Int) := by omega
  have e1p : 1 + (p' : Int) = (P : Int) := by omega
  have HH : Hid (HeadOk (N : Int) (P : Int)) := ⟨by omega, by omega, by omega, by omega⟩
  have hpr := HH.out.prod
  obtain ⟨M, hM⟩ : ∃ M, N * P = M := ⟨_, rfl⟩
  have eM : (N : Int) * (P : Int) = (M : Int) := by rw [← hM]; simp
  have HM : Hid ((N : Int) * (P : Int) = (M : Int)) := eM
  rw [eM] at hpr
  have hNb : N ≤ 64 := by omega
  have hPb : P ≤ 16 := by omega
  have hMb : M ≤ 1024 := by omega
  clear hN hP hn' hp' hM
  go_enter Try.func4, Try.ntmps4
  have bb := Below.refl w.heap.size w
  go_wp2_with fail
  refine (New_ok N P HH.out w).mono ?_
  rintro e w2 ⟨rfl, b1⟩
  replace bb := bb.trans (b1.mono bb.size)
  clear b1
  have s0 := bb.size
  have b3 : Below w2.heap.size w2 (w2.alloc (.cells #[.int .i64 N, .int .i64 P, .slice none 0 0] 26)) := (Below.refl _ _).alloc (Nat.le_refl _) _
  have xp := Box.new w2 26 #[.int .i64 N, .int .i64 P, .slice none 0 0]
  replace bb := bb.trans (b3.mono bb.size)
  clear b3
  have cxp0m3 := xp.cell 0 _ rfl
  have cxp1m3 := xp.cell 1 _ rfl
  have cxp2m3 := xp.cell 2 _ rfl
  have fxp0m3 := xp.free 0
  have fxp1m3 := xp.free 1
  have fxp2m3 := xp.free 2
  go_wp2
  clear cxp0m3 cxp1m3 cxp2m3 fxp0m3 fxp1m3 fxp2m3
  obtain ⟨w4, hw4⟩ : ∃ W, (w2.alloc (.cells #[.int .i64 N, .int .i64 P, .slice none 0 0] 26)) = W := ⟨_, rfl⟩
  rw [hw4] at xp bb ⊢
  clear hw4
  have o0 : w4.ownsRow (w2.heap.size + 1) 43 2 (.slice none 0 0) 0 (symCells (fullL a2 0)) := World.ownsRow_nil _ _ _ _
  go_loopw [9] (fun i wr => ∃ (j : Nat) (a : Option Addr) (c : Nat), j ≤ M ∧ i = .int .i64 j ∧ Box wr w2.heap.size 26 #[.int .i64 N, .int .i64 P, .slice a j c] ∧ wr.ownsRow (w2.heap.size + 1) 43 2 (.slice a j c) j (symCells (fullL a2 j)) ∧ Below w.heap.size w wr) (fun i _ => M - (intOf i).toNat)
  case atStart => exact ⟨0, none, 0, Nat.zero_le _, rfl, xp, o0, bb⟩
  case round =>
    clear xp o0 bb
    obtain ⟨j, a, c, hj, rfl, xp, o1, bb⟩ := hrel
    have HLJ : Hid ((fullL a2 j).length = j) := fullL_len _ _
    by_cases hlt : j < M
    · have HOK : Hid (PileOk (N : Int) (P : Int) (fullL a2 j)) := fullL_ok HH.out (by rw [HM.out]; omega)
      have hvb := valN_bd a2 j
      have HPU : Hid (putN (N : Int) (P : Int) (fullL a2 j) j (valN a2 j) = fullL a2 (j + 1)) := fullL_put (by rw [HM.out]; omega)
      have HFR : Hid (freshN (N : Int) (P : Int) (fullL a2 j) j = true) := fullL_fresh (by rw [HM.out]; omega)
      have HLN : Hid ((fullL a2 (j + 1)).length = j + 1) := fullL_len _ _
      have ev := val_all a2 j
      obtain ⟨v, hv⟩ : ∃ v, valN a2 j = v := ⟨_, rfl⟩
      rw [hv] at hvb HPU ev
      have dlt : decide ((j : Int) < (M : Int)) = true := decide_eq_true (by omega)
      clear hv
      have hs1 : Syms wr.heap.size wr (.slice a (fullL a2 j).length c) (fullL a2 j) := by rw [HLJ.out]; exact syms_of_row o1
      have hrc : RowCap a (fullL a2 j).length c := by rw [HLJ.out]; exact rowCap_of o1
      have cxp0m1 := xp.cell 0 _ rfl
      have cxp1m1 := xp.cell 1 _ rfl
      have cxp2m1 := xp.cell 2 _ rfl
      have fxp0m1 := xp.free 0
      have fxp1m1 := xp.free 1
      have fxp2m1 := xp.free 2
      go_wp2_with fail
      clear cxp0m1 cxp1m1 cxp2m1 fxp0m1 fxp1m1 fxp2m1
      rw [show Value.slice a j c = Value.slice a (fullL a2 j).length c by rw [HLJ.out]]
      have cxp0m2 := xp.cell 0 _ rfl
      have cxp1m2 := xp.cell 1 _ rfl
      have cxp2m2 := xp.cell 2 _ rfl
      have fxp0m2 := xp.free 0
      have fxp1m2 := xp.free 1
      have fxp2m2 := xp.free 2
      skip
      clear cxp0m2 cxp1m2 cxp2m2 fxp0m2 fxp1m2 fxp2m2
      have lp := xp.lt
      refine (Put_in N P j v (by omega) (by omega) hvb.1 hvb.2 a c (fullL a2 j) HOK.out wr hs1 hrc).mono ?_
      rw [HPU.out, HFR.out]
      rintro e w52 ⟨r2, rfl, o2, b51⟩
      replace xp := xp.next b51
      replace o1 := symRow_below o1 b51 (Nat.le_refl _)
      replace bb := bb.trans (b51.mono bb.size)
      clear b51
      rw [HLN.out] at o2
      obtain ⟨a2r, c2r, rfl⟩ : ∃ a c, r2 = .slice a (j + 1) c := by have := (syms_of_row o2).shape; rwa [HLN.out] at this
      rw [HLJ.out]
      clear o1 hs1 hrc
      have lq := xp.lt
      have cxp0m3 := xp.cell 0 _ rfl
      have cxp1m3 := xp.cell 1 _ rfl
      have cxp2m3 := xp.cell 2 _ rfl
      have fxp0m3 := xp.free 0
      have fxp1m3 := xp.free 1
      have fxp2m3 := xp.free 2
      have b53 : Below w52.heap.size w52 (w52.alloc (.cells #[.int .i64 N, .int .i64 P, .slice a2r (j + 1) c2r] 26)) := (Below.refl _ _).alloc (Nat.le_refl _) _
      have xq := Box.new w52 26 #[.int .i64 N, .int .i64 P, .slice a2r (j + 1) c2r]
      replace xp := xp.next b53
      replace o2 := symRow_below o2 b53 (Nat.le_refl _)
      replace bb := bb.trans (b53.mono bb.size)
      clear b53
      obtain ⟨w54, hw54⟩ : ∃ W, (w52.alloc (.cells #[.int .i64 N, .int .i64 P, .slice a2r (j + 1) c2r] 26)) = W := ⟨_, rfl⟩
      rw [hw54] at xp xq o2 bb
      have cxp0m4 := xp.cell 0 _ rfl
      have cxp1m4 := xp.cell 1 _ rfl
      have cxp2m4 := xp.cell 2 _ rfl
      have fxp0m4 := xp.free 0
      have fxp1m4 := xp.free 1
      have fxp2m4 := xp.free 2
      have cxq0m4 := xq.cell 0 _ rfl
      have cxq1m4 := xq.cell 1 _ rfl
      have cxq2m4 := xq.cell 2 _ rfl
      replace xp := xp.set3 (.int .i64 N) (.int .i64 P) (.slice a2r (j + 1) c2r)
      replace xq := xq.other3 (D := w2.heap.size) (by omega) (.int .i64 N) (.int .i64 P) (.slice a2r (j + 1) c2r)
      replace o2 := row_set3 o2 (D := w2.heap.size) (by omega) (.int .i64 N) (.int .i64 P) (.slice a2r (j + 1) c2r)
      replace bb := below_set3 bb (D := w2.heap.size) (by omega) (.int .i64 N) (.int .i64 P) (.slice a2r (j + 1) c2r)
      have cxp0m5 := xp.cell 0 _ rfl
      have cxp1m5 := xp.cell 1 _ rfl
      have cxp2m5 := xp.cell 2 _ rfl
      have fxp0m5 := xp.free 0
      have fxp1m5 := xp.free 1
      have fxp2m5 := xp.free 2
      have cxq0m5 := xq.cell 0 _ rfl
      have cxq1m5 := xq.cell 1 _ rfl
      have cxq2m5 := xq.cell 2 _ rfl
      go_wp2
      clear cxp0m3 cxp1m3 cxp2m3 fxp0m3 fxp1m3 fxp2m3 cxp0m4 cxp1m4 cxp2m4 fxp0m4 fxp1m4 fxp2m4 cxq0m4 cxq1m4 cxq2m4 cxp0m5 cxp1m5 cxp2m5 fxp0m5 fxp1m5 fxp2m5 cxq0m5 cxq1m5 cxq2m5
      clear hw54
      obtain ⟨w55, hw55⟩ : ∃ W, (((w54.setCell ⟨w2.heap.size, 0, none⟩ (.int .i64 N)).setCell ⟨w2.heap.size, 1, none⟩ (.int .i64 P)).setCell ⟨w2.heap.size, 2, none⟩ (.slice a2r (j + 1) c2r)) = W := ⟨_, rfl⟩
      rw [hw55] at xp xq o2 bb ⊢
      clear hw55
      exact ⟨⟨j + 1, a2r, c2r, by omega, by go_num, xp, symRow_base o2 (by omega), bb⟩, by simp [intOf]; omega⟩
    · obtain rfl : j = M := by omega
      have dlt : decide ((j : Int) < (j : Int)) = false := decide_eq_false (by omega)
      have HOK : Hid (PileOk (N : Int) (P : Int) (fullL a2 j)) := fullL_ok HH.out (by rw [HM.out]; omega)
      obtain ⟨t, ht, et⟩ := at_place a2 ((j + 5 : Nat) : Int) (by omega)
      have ewt : IntKind.i64.wrap (t : Int) = (t : Int) := by rw [IntKind.wrap_i64]; omega
      obtain ⟨T5, hT5⟩ : ∃ T5, j + 5 = T5 := ⟨_, rfl⟩
      have e5 : (j : Int) + 5 = (T5 : Int) := by omega
      rw [hT5] at et
      have eu5 : IntKind.u64.wrap (T5 : Int) = (T5 : Int) := by rw [IntKind.wrap_u64]; omega
      have n5 : ¬ (T5 : Int) = 0 := by omega
      have n6 : ¬ T5 = 0 := by omega
      have ewj : IntKind.i64.wrap (j : Int) = (j : Int) := by rw [IntKind.wrap_i64]; omega
      have ew5 : IntKind.i64.wrap (T5 : Int) = (T5 : Int) := by rw [IntKind.wrap_i64]; omega
      obtain ⟨HPU', HFR'⟩ := fullL_full (v := a2) HM.out (k := (t : Int)) (by omega) 3
      have HPU : Hid _ := HPU'
      have HFR : Hid _ := HFR'
      have ht2 : t ≤ 2000 := by omega
      clear hT5 HPU' HFR' hlt hj ht
      have hs1 : Syms wr.heap.size wr (.slice a (fullL a2 j).length c) (fullL a2 j) := by rw [HLJ.out]; exact syms_of_row o1
      have hrc : RowCap a (fullL a2 j).length c := by rw [HLJ.out]; exact rowCap_of o1
      have cxp0m1 := xp.cell 0 _ rfl
      have cxp1m1 := xp.cell 1 _ rfl
      have cxp2m1 := xp.cell 2 _ rfl
      go_wp2
      clear cxp0m1 cxp1m1 cxp2m1
      have y0 := xp.cell 0 _ rfl
      have y1 := xp.cell 1 _ rfl
      have y2 := xp.cell 2 _ rfl
      have lp := xp.lt
      have hne1 : ¬ w2.heap.size = wr.heap.size := by omega
      have hne2 : ¬ wr.heap.size = w2.heap.size := by omega
      rw [← HLJ.out] at y2
      have hs1D : Syms wr.drew.heap.size wr.drew (.slice a (fullL a2 j).length c) (fullL a2 j) := hs1
      have bN : Below wr.heap.size wr (wr.alloc (.cells #[.int .i64 0, .int .i64 0, .slice none 0 0] 26)).drew := ((Below.refl _ wr).alloc (Nat.le_refl _) _).drew
      have hs1N : Syms (wr.alloc (.cells #[.int .i64 0, .int .i64 0, .slice none 0 0] 26)).drew.heap.size (wr.alloc (.cells #[.int .i64 0, .int .i64 0, .slice none 0 0] 26)).drew (.slice a (fullL a2 j).length c) (fullL a2 j) := hs1.next bN
      have xN : Box (wr.alloc (.cells #[.int .i64 0, .int .i64 0, .slice none 0 0] 26)).drew wr.heap.size 26 #[.int .i64 0, .int .i64 0, .slice none 0 0] := Box.new wr _ _
      have XN : Hid _ := xN
      have HS1 : Hid _ := hs1D
      have HSN : Hid _ := hs1N
      have HBN : Hid _ := bN
      have xpN := xp.next bN
      have XPN : Hid _ := xpN
      have xpD : Box wr.drew w2.heap.size 26 #[.int .i64 N, .int .i64 P, .slice a j c] := xp
      have XP : Hid _ := xpD
      clear xN hs1D hs1N bN xpN xpD
      go_region_held_law (fun w' => w'.cell? ⟨w2.heap.size, 0, none⟩ = some (.int .i64 N) ∧ w'.cell? ⟨w2.heap.size, 1, none⟩ = some (.int .i64 P) ∧ w'.cell? ⟨w2.heap.size, 2, none⟩ = some (.slice a (fullL a2 j).length c)) (go_keep) (first | (go_at_call 6; refine (Put_in N P t 3 (by omega) (by omega) (by decide) (by decide) a c (fullL a2 j) HOK.out wr.drew HS1.out hrc).mono ?_; rw [HPU.out, HFR.out]; rintro e w9 ⟨r9, rfl, o9, b9⟩; obtain ⟨a9, c9, rfl⟩ := (syms_of_row o9).shape; have x9 : Box w9 w2.heap.size 26 #[.int .i64 N, .int .i64 P, .slice a j c] := (b9.block _ lp).trans XP.out; have z0 := x9.cell 0 _ rfl; have z1 := x9.cell 1 _ rfl; have z2 := x9.cell 2 _ rfl; rw [← HLJ.out] at z2) | (go_at_call 6; refine (Put_in N P t 3 (by omega) (by omega) (by decide) (by decide) a c (fullL a2 j) HOK.out _ HSN.out hrc).mono ?_; rw [HPU.out, HFR.out]; rintro e w9 ⟨r9, rfl, o9, b9⟩; obtain ⟨a9, c9, rfl⟩ := (syms_of_row o9).shape; have x9 : Box w9 w2.heap.size 26 #[.int .i64 N, .int .i64 P, .slice a j c] := (b9.block _ (by simp; omega)).trans XPN.out; have y9 : Box w9 wr.heap.size 26 #[.int .i64 0, .int .i64 0, .slice none 0 0] := (b9.block _ (by simp)).trans XN.out; have z0 := x9.cell 0 _ rfl; have z1 := x9.cell 1 _ rfl; have z2 := x9.cell 2 _ rfl; rw [← HLJ.out] at z2; have n0 := y9.cell 0 _ rfl; have n1 := y9.cell 1 _ rfl; have n2 := y9.cell 2 _ rfl; have g0 := y9.free 0; have g1 := y9.free 1; have g2 := y9.free 2))
  
      all_goals first
        | (have yy := y9
           have bq : Below wr.heap.size wr w9 := HBN.out.trans (b9.mono HBN.out.size)
           have bb := bb.trans (bq.mono bb.size)
           have hsP := hs1.next bq
           replace o9 := symRow_base o9 (show wr.heap.size + 1 ≤ _ by simp)
           rw [← HLJ.out] at x9
           have lw := bb.size
           have lr := bq.size
           have bs := below_set3 (Below.refl wr.heap.size w9) (D := wr.heap.size) (Nat.le_refl _) (.int .i64 N) (.int .i64 P) (.slice a9 (fullL a2 j).length c9)
           replace hsP := ((hs1.below bq).below bs).mono (show wr.heap.size ≤ _ from Nat.le_trans bq.size bs.size)
           clear bs
           have cx90m1 := x9.cell 0 _ rfl
           have cx91m1 := x9.cell 1 _ rfl
           have cx92m1 := x9.cell 2 _ rfl
           have cy90m1 := y9.cell 0 _ rfl
           have cy91m1 := y9.cell 1 _ rfl
           have cy92m1 := y9.cell 2 _ rfl
           replace x9 := x9.other3 (D := wr.heap.size) (by omega) (.int .i64 N) (.int .i64 P) (.slice a9 (fullL a2 j).length c9)
           replace y9 := y9.set3 (.int .i64 N) (.int .i64 P) (.slice a9 (fullL a2 j).length c9)
           replace o9 := row_set3 o9 (D := wr.heap.size) (by omega) (.int .i64 N) (.int .i64 P) (.slice a9 (fullL a2 j).length c9)
           replace bb := below_set3 bb (D := wr.heap.size) (by omega) (.int .i64 N) (.int .i64 P) (.slice a9 (fullL a2 j).length c9)
           have cx90m2 := x9.cell 0 _ rfl
           have cx91m2 := x9.cell 1 _ rfl
           have cx92m2 := x9.cell 2 _ rfl
           have cy90m2 := y9.cell 0 _ rfl
           have cy91m2 := y9.cell 1 _ rfl
           have cy92m2 := y9.cell 2 _ rfl
           go_wp2_with fail
           clear cx90m1 cx91m1 cx92m1 cy90m1 cy91m1 cy92m1 cx90m2 cx91m2 cx92m2 cy90m2 cy91m2 cy92m2
           obtain ⟨w201, hw201⟩ : ∃ W, (((w9.setCell ⟨wr.heap.size, 0, none⟩ (.int .i64 N)).setCell ⟨wr.heap.size, 1, none⟩ (.int .i64 P)).setCell ⟨wr.heap.size, 2, none⟩ (.slice a9 (fullL a2 j).length c9)) = W := ⟨_, rfl⟩
           rw [hw201] at x9 y9 hsP o9 bb ⊢
           clear hw201
           refine (keepPile_any N P N P _ _ (fullL a2 j) (fullL a2 j) w201 (by rw [HLJ.out]; omega) (syms_of_row o9) hsP).mono ?_
           rw [decide_eq_true (⟨rfl, rfl, rfl⟩ : (N : Int) = N ∧ (P : Int) = P ∧ (fullL a2 j) = (fullL a2 j))]
           rintro e w203 ⟨rfl, b202⟩
           replace x9 := x9.next b202
           replace y9 := y9.next b202
           replace hsP := hsP.next b202
           replace o9 := symRow_below o9 b202 (Nat.le_refl _)
           replace bb := bb.trans (b202.mono bb.size)
           clear b202
           have elj : ((fullL a2 j).length : Int) = (j : Int) := by rw [HLJ.out]
           have cx90m3 := x9.cell 0 _ rfl
           have cx91m3 := x9.cell 1 _ rfl
           have cx92m3 := x9.cell 2 _ rfl
           have cy90m3 := y9.cell 0 _ rfl
           have cy91m3 := y9.cell 1 _ rfl
           have cy92m3 := y9.cell 2 _ rfl
           go_wp2_with fail
           clear cx90m3 cx91m3 cx92m3 cy90m3 cy91m3 cy92m3
           refine (Check_ok N P a c (fullL a2 j) (by rw [HLJ.out]; omega) HOK.out w203 hsP).mono ?_
           rintro e w205 ⟨rfl, b204⟩
           replace x9 := x9.next b204
           replace y9 := y9.next b204
           replace hsP := hsP.next b204
           replace o9 := symRow_below o9 b204 (Nat.le_refl _)
           replace bb := bb.trans (b204.mono bb.size)
           clear b204
           have cx90m4 := x9.cell 0 _ rfl
           have cx91m4 := x9.cell 1 _ rfl
           have cx92m4 := x9.cell 2 _ rfl
           have cy90m4 := y9.cell 0 _ rfl
           have cy91m4 := y9.cell 1 _ rfl
           have cy92m4 := y9.cell 2 _ rfl
           go_wp2_with fail
           clear cx90m4 cx91m4 cx92m4 cy90m4 cy91m4 cy92m4
           refine (pileWakes_any w205).mono ?_
           rintro e w207 ⟨rfl, b206⟩
           replace x9 := x9.next b206
           replace y9 := y9.next b206
           replace hsP := hsP.next b206
           replace o9 := symRow_below o9 b206 (Nat.le_refl _)
           replace bb := bb.trans (b206.mono bb.size)
           clear b206
           have cx90m5 := x9.cell 0 _ rfl
           have cx91m5 := x9.cell 1 _ rfl
           have cx92m5 := x9.cell 2 _ rfl
           have cy90m5 := y9.cell 0 _ rfl
           have cy91m5 := y9.cell 1 _ rfl
           have cy92m5 := y9.cell 2 _ rfl
           go_wp2
           clear cx90m5 cx91m5 cx92m5 cy90m5 cy91m5 cy92m5
           go_ret
           exact ⟨rfl, bb⟩)
        | (have bq : Below wr.heap.size wr w9 := ((Below.refl _ wr).drew).trans b9
           have bb := bb.trans (bq.mono bb.size)
           have hsP := hs1.next bq
           replace o9 := symRow_base o9 (show wr.heap.size ≤ _ by exact Nat.le_refl _)
           rw [← HLJ.out] at x9
           have cx90m1 := x9.cell 0 _ rfl
           have cx91m1 := x9.cell 1 _ rfl
           have cx92m1 := x9.cell 2 _ rfl
           have b201 : Below w9.heap.size w9 (w9.alloc (.cells #[.int .i64 N, .int .i64 P, .slice a9 (fullL a2 j).length c9] 26)) := (Below.refl _ _).alloc (Nat.le_refl _) _
           have xq := Box.new w9 26 #[.int .i64 N, .int .i64 P, .slice a9 (fullL a2 j).length c9]
           replace x9 := x9.next b201
           replace hsP := hsP.next b201
           replace o9 := symRow_below o9 b201 (Nat.le_refl _)
           replace bb := bb.trans (b201.mono bb.size)
           clear b201
           have cx90m2 := x9.cell 0 _ rfl
           have cx91m2 := x9.cell 1 _ rfl
           have cx92m2 := x9.cell 2 _ rfl
           have cxq0m2 := xq.cell 0 _ rfl
           have cxq1m2 := xq.cell 1 _ rfl
           have cxq2m2 := xq.cell 2 _ rfl
           go_wp2_with fail
           clear cx90m1 cx91m1 cx92m1 cx90m2 cx91m2 cx92m2 cxq0m2 cxq1m2 cxq2m2
           obtain ⟨w202, hw202⟩ : ∃ W, (w9.alloc (.cells #[.int .i64 N, .int .i64 P, .slice a9 (fullL a2 j).length c9] 26)) = W := ⟨_, rfl⟩
           rw [hw202] at x9 hsP xq o9 bb ⊢
           clear hw202
           refine (keepPile_any N P N P _ _ (fullL a2 j) (fullL a2 j) w202 (by rw [HLJ.out]; omega) (syms_of_row o9) hsP).mono ?_
           rw [decide_eq_true (⟨rfl, rfl, rfl⟩ : (N : Int) = N ∧ (P : Int) = P ∧ (fullL a2 j) = (fullL a2 j))]
           rintro e w204 ⟨rfl, b203⟩
           replace x9 := x9.next b203
           replace hsP := hsP.next b203
           replace xq := xq.next b203
           replace o9 := symRow_below o9 b203 (Nat.le_refl _)
           replace bb := bb.trans (b203.mono bb.size)
           clear b203
           have elj : ((fullL a2 j).length : Int) = (j : Int) := by rw [HLJ.out]
           have cx90m3 := x9.cell 0 _ rfl
           have cx91m3 := x9.cell 1 _ rfl
           have cx92m3 := x9.cell 2 _ rfl
           have cxq0m3 := xq.cell 0 _ rfl
           have cxq1m3 := xq.cell 1 _ rfl
           have cxq2m3 := xq.cell 2 _ rfl
           go_wp2_with fail
           clear cx90m3 cx91m3 cx92m3 cxq0m3 cxq1m3 cxq2m3
           refine (Check_ok N P a c (fullL a2 j) (by rw [HLJ.out]; omega) HOK.out w204 hsP).mono ?_
           rintro e w206 ⟨rfl, b205⟩
           replace x9 := x9.next b205
           replace hsP := hsP.next b205
           replace xq := xq.next b205
           replace o9 := symRow_below o9 b205 (Nat.le_refl _)
           replace bb := bb.trans (b205.mono bb.size)
           clear b205
           have cx90m4 := x9.cell 0 _ rfl
           have cx91m4 := x9.cell 1 _ rfl
           have cx92m4 := x9.cell 2 _ rfl
           have cxq0m4 := xq.cell 0 _ rfl
           have cxq1m4 := xq.cell 1 _ rfl
           have cxq2m4 := xq.cell 2 _ rfl
           go_wp2_with fail
           clear cx90m4 cx91m4 cx92m4 cxq0m4 cxq1m4 cxq2m4
           refine (pileWakes_any w206).mono ?_
           rintro e w208 ⟨rfl, b207⟩
           replace x9 := x9.next b207
           replace hsP := hsP.next b207
           replace xq := xq.next b207
           replace o9 := symRow_below o9 b207 (Nat.le_refl _)
           replace bb := bb.trans (b207.mono bb.size)
           clear b207
           have cx90m5 := x9.cell 0 _ rfl
           have cx91m5 := x9.cell 1 _ rfl
           have cx92m5 := x9.cell 2 _ rfl
           have cxq0m5 := xq.cell 0 _ rfl
           have cxq1m5 := xq.cell 1 _ rfl
           have cxq2m5 := xq.cell 2 _ rfl
           go_wp2
           clear cx90m5 cx91m5 cx92m5 cxq0m5 cxq1m5 cxq2m5
           go_ret
           exact ⟨rfl, bb⟩)

end Go.Proofs.Ytifkjglhdppocaa
