/-
  CostBounds: the walk: whatever the state, the places, the bits turned and the cut, the law answers true, and nothing that lay has turned. (Written by tpl_costbounds.py.)
-/
import Derived.Test.YtjnmdjejihliiaaCostWakes
import Derived.Test.YtjnmdjejihliiaaCostPlaces
import Derived.Test.YtjnmdjejihliiaaSymbolCode
import Derived.Test.YtjnmdjejihliiaaOnes
import Derived.Test.YtjnmdjejihliiaaIntBits
import Derived.Test.YtjnmdjejihliiaaPlaces
import Derived.Test.YtjnmdjejihliiaaSymAppend
namespace Go.Proofs.Ytjnmdjejihliiaa
open Go.RowKit

set_option maxRecDepth 100000 in
set_option maxHeartbeats 2000000 in
theorem costBounds_far (s : Nat) (a : Option Addr) (n cap : Nat) (a' : Option Addr) (n' cap' : Nat) (cut : Int) (h : 16 < n) (w : World) :
    Calls Try.prog 4 #[.int .u32 s, .slice a n cap, .slice a' n' cap', .int .i64 cut] w fun e w' => e = .returned (.bool true) ∧ Below w.heap.size w w' := by
  go_enter Try.func4, Try.ntmps4
  go_wp2
  go_ret
  exact ⟨rfl, Below.refl _ _⟩

set_option maxRecDepth 100000 in
set_option maxHeartbeats 4000000 in
theorem costBounds_in (s : Nat) (hs : s < 4294967296) (a : Option Addr) (cap : Nat) (zs : List Int) (h16 : zs.length ≤ 16) (a' : Option Addr) (cap' : Nat) (ts : List Int) (bt : ∀ t ∈ ts, 0 ≤ t ∧ t ≤ 255) (htl : ts.length ≤ 9223372036854775807) (cut : Int) (w : World) (hz : Holds .i64 w.heap.size w (.slice a zs.length cap) zs) (ht : Holds .u8 w.heap.size w (.slice a' ts.length cap') ts) :
    Calls Try.prog 4 #[.int .u32 s, .slice a zs.length cap, .slice a' ts.length cap', .int .i64 cut] w fun e w' => e = .returned (.bool true) ∧ Below w.heap.size w w' := by
  obtain ⟨i0, hi, hz0, hz1, hz2⟩ := info_parts infoSym
  have HBT : Hid (∀ t ∈ ts, 0 ≤ t ∧ t ≤ 255) := bt
  clear bt
  go_enter Try.func4, Try.ntmps4
  go_wp2
  go_loopw [9, 10, 11, 12] (fun v c o i wr => ∃ k : Nat, k ≤ zs.length ∧ i = .int .i64 k ∧ c = .int .i64 ((wantN ts k : Nat) : Int) ∧ o = .bool (ownB ts k) ∧ wr.ownsRow w.heap.size 31 2 v k (symCells (boundL s zs ts k)) ∧ Below w.heap.size w wr) (fun _ _ _ i _ => zs.length - (intOf i).toNat)
  case atStart => exact ⟨0, Nat.zero_le _, rfl, rfl, rfl, World.ownsRow_nil _ _ _ _, Below.refl _ _⟩
  case round =>
    obtain ⟨k, hk, rfl, rfl, rfl, ho, bb⟩ := hrel
    by_cases hlt : k < zs.length
    · obtain ⟨z, hzk⟩ : ∃ z, zs[k]? = some z := ⟨zs[k], by simp⟩
      obtain ⟨b, off, rfl, hb, hcell⟩ := holds_at hz rfl (by omega)
      have c1 : wr.cell? ⟨b, off + k, none⟩ = some (.int .i64 z) := (bb.cell (p := ⟨b, off + k, none⟩) hb).trans (hcell k z hzk)
      have ea := place_walk z
      have hAl := placeN_lt z
      have HWN : Hid (wantN ts (k + 1) = wantN ts k + pcTo 8 (turnAt ts k)) := rfl
      have HON : Hid (ownB ts (k + 1) = (ownB ts k && (turnAt ts k == 0))) := rfl
      have HBN : Hid (boundL s zs ts (k + 1) = boundL s zs ts k ++ [((placeN z : Int), ((symN s (placeN z) ^^^ turnAt ts k : Nat) : Int))]) := by
        show boundL s zs ts (k + 1) = _
        rw [boundL_next, hzk]
        rfl
      have hTl := turnAt_lt HBT.out k
      have hCl := wantN_le ts k
      have hTk : k < ts.length → ∃ b2 off2, a' = some ⟨b2, off2, none⟩ ∧ wr.cell? ⟨b2, off2 + k, none⟩ = some (.int .u8 ((turnAt ts k : Nat) : Int)) := by
        intro hkt
        obtain ⟨b2, off2, e2, hb2, hc2⟩ := holds_at ht rfl (by omega)
        obtain ⟨t, htk⟩ : ∃ t, ts[k]? = some t := ⟨ts[k], by simp⟩
        have h0 := HBT.out t (List.mem_of_getElem? htk)
        refine ⟨b2, off2, e2, (bb.cell (p := ⟨b2, off2 + k, none⟩) hb2).trans ((hc2 k t htk).trans ?_)⟩
        have : ((turnAt ts k : Nat) : Int) = t := by unfold turnAt; rw [htk]; simp; omega
        rw [this]
      have hTn : ¬ k < ts.length → turnAt ts k = 0 := by
        intro h
        unfold turnAt
        rw [List.getElem?_eq_none (by omega)]
        rfl
      obtain ⟨A, hA⟩ : ∃ A, placeN z = A := ⟨_, rfl⟩
      rw [hA] at ea hAl HBN
      have ewA : IntKind.i64.wrap (A : Int) = (A : Int) := by rw [IntKind.wrap_i64]; omega
      have hvl := symN_lt s A
      obtain ⟨v, hv⟩ : ∃ v, symN s A = v := ⟨_, rfl⟩
      have HV : Hid (symN s A = v) := hv
      rw [hv] at HBN hvl
      obtain ⟨T, hT⟩ : ∃ T, turnAt ts k = T := ⟨_, rfl⟩
      rw [hT] at HWN HON HBN hTl hTk hTn
      have hY := xor_byte hvl hTl
      have ex : bits .xor .i64 (v : Int) (T : Int) = ((v ^^^ T : Nat) : Int) := zi_xor _ _ (by omega) (by omega)
      have ey : bits .and .i64 ((v ^^^ T : Nat) : Int) 255 = ((v ^^^ T : Nat) : Int) := by rw [zi_and255 _ (by omega), Nat.mod_eq_of_lt hY]
      obtain ⟨Y, hYe⟩ : ∃ Y, v ^^^ T = Y := ⟨_, rfl⟩
      rw [hYe] at ex ey hY HBN
      obtain ⟨C, hC⟩ : ∃ C, wantN ts k = C := ⟨_, rfl⟩
      rw [hC] at HWN hCl ⊢
      obtain ⟨O, hO⟩ : ∃ O, ownB ts k = O := ⟨_, rfl⟩
      rw [hO] at HON ⊢
      have HTK : Hid _ := hTk
      have HTN : Hid _ := hTn
      have dk : decide ((k : Int) < (zs.length : Int)) = true := decide_eq_true (by omega)
      clear hcell hzk hA hv hT hYe hC hO hTk hTn
      go_wp2_with fail
      refine (Of_ok s A hs (by omega) wr).mono ?_
      rw [HV.out]
      rintro e wz ⟨rfl, rfl⟩
      by_cases hkt : k < ts.length
      · obtain ⟨b2, off2, rfl, c2⟩ := HTK.out hkt
        have dt : decide ((k : Int) < (ts.length : Int)) = true := decide_eq_true (by omega)
        clear HTK HTN
        go_wp2
        go_loop [10, 17] (fun v i => ∃ j : Nat, j ≤ 8 ∧ i = .int .i64 j ∧ v = .int .i64 ((C + pcTo j T : Nat) : Int)) (fun _ i => 8 - (intOf i).toNat)
        case atStart => exact ⟨0, by omega, rfl, by simp [pcTo]⟩
        case round =>
          obtain ⟨j, hj, rfl, rfl⟩ := hrel
          by_cases hj8 : j < 8
          · have eb : bits .and .i64 ((T : Int) / 2 ^ j) 1 = (((T.testBit j).toNat : Nat) : Int) := by
              have := bit_at (T : Int) j (by omega) (by omega)
              simpa using this
            have HPS : Hid (pcTo (j + 1) T = pcTo j T + (T.testBit j).toNat) := pcTo_succ j T
            have hpl := pcTo_le j T
            have hbl := Bool.toNat_le (T.testBit j)
            obtain ⟨B, hB⟩ : ∃ B, (T.testBit j).toNat = B := ⟨_, rfl⟩
            rw [hB] at eb HPS hbl
            obtain ⟨X, hX⟩ : ∃ X, C + pcTo j T = X := ⟨_, rfl⟩
            have HX2 : Hid (C + pcTo (j + 1) T = X + B) := by
              show C + pcTo (j + 1) T = X + B
              rw [HPS.out, ← hX]; omega
            have hXl : X ≤ 1000 := by omega
            rw [hX]
            clear hB hX HPS hpl
            go_wp2
            exact ⟨⟨j + 1, by omega, by go_num, by rw [HX2.out]; simp⟩, by simp [intOf]; omega⟩
          · obtain rfl : j = 8 := by omega
            rw [show C + pcTo 8 T = wantN ts (k + 1) by rw [HWN.out]]
            obtain ⟨C2, hC2⟩ : ∃ C2, wantN ts (k + 1) = C2 := ⟨_, rfl⟩
            have HC2 : Hid (wantN ts (k + 1) = C2) := hC2
            rw [hC2]
            clear hC2 hj8 hj
            cases O with
            | false =>
              have HO2 : Hid (ownB ts (k + 1) = false) := by
                show ownB ts (k + 1) = _
                rw [HON.out]; rfl
              have HT0 : Hid (((T : Int) == 0) = (T == 0)) := by
                show ((T : Int) == 0) = (T == 0)
                rw [Bool.eq_iff_iff]; simp only [beq_iff_eq]; omega
              go_wp2_with (at_builtin; refine wpList_append_own _ rfl _ _ 23 rfl w.heap.size 31 i0 (.agg #[.int .i64 0, .int .i64 0]) 2 16 Try.underlying23 hi hz0 hz1 hz2 rfl (by decide) _ k _ rfl (ho.alloc _) ⟨wr.heap.size, 0, none⟩ 1 1 [.int .i64 A, .int .i64 Y] rfl rfl (cell_two_new _ _ _ _) (by simp [Value.oneCell']) (by unfold maxLen; omega) (by omega) (by have := bb.size; simp; omega) ?_; intro v3 w3 hown3 hgrow3 _)
              have b3 : Below w.heap.size w w3 := (bb.alloc bb.size _).trans ((Below.refl _ _).grown hgrow3 (by have := bb.size; simp; omega) (fun q e => (ho.lt q e).1))
              refine ⟨⟨k + 1, by omega, by go_num, by rw [HC2.out], by rw [HO2.out], ?_, b3⟩, by simp [intOf]; omega⟩
              rw [HBN.out, symCells_snoc]
              exact hown3
            | true =>
              have HO2 : Hid (ownB ts (k + 1) = (T == 0)) := by
                show ownB ts (k + 1) = _
                rw [HON.out]; rfl
              have HT0 : Hid (((T : Int) == 0) = (T == 0)) := by
                show ((T : Int) == 0) = (T == 0)
                rw [Bool.eq_iff_iff]; simp only [beq_iff_eq]; omega
              go_wp2_with (at_builtin; refine wpList_append_own _ rfl _ _ 23 rfl w.heap.size 31 i0 (.agg #[.int .i64 0, .int .i64 0]) 2 16 Try.underlying23 hi hz0 hz1 hz2 rfl (by decide) _ k _ rfl (ho.alloc _) ⟨wr.heap.size, 0, none⟩ 1 1 [.int .i64 A, .int .i64 Y] rfl rfl (cell_two_new _ _ _ _) (by simp [Value.oneCell']) (by unfold maxLen; omega) (by omega) (by have := bb.size; simp; omega) ?_; intro v3 w3 hown3 hgrow3 _)
              have b3 : Below w.heap.size w w3 := (bb.alloc bb.size _).trans ((Below.refl _ _).grown hgrow3 (by have := bb.size; simp; omega) (fun q e => (ho.lt q e).1))
              refine ⟨⟨k + 1, by omega, by go_num, by rw [HC2.out], by rw [HO2.out]; exact (congrArg Value.bool HT0.out), ?_, b3⟩, by simp [intOf]; omega⟩
              rw [HBN.out, symCells_snoc]
              exact hown3
      · obtain rfl : T = 0 := HTN.out hkt
        have dt : decide ((k : Int) < (ts.length : Int)) = false := decide_eq_false (by omega)
        clear HTK HTN
        have HV0 : Hid (v ^^^ 0 = v) := Nat.xor_zero v
        have HW0 : Hid (wantN ts (k + 1) = C) := by
          show wantN ts (k + 1) = C
          rw [HWN.out, show pcTo 8 0 = 0 by decide, Nat.add_zero]
        have HO0 : Hid (ownB ts (k + 1) = O) := by
          show ownB ts (k + 1) = O
          rw [HON.out]; simp
        have exy : bits .xor .i64 (v : Int) 0 = (v : Int) := by
          have := zi_xor v 0 (by omega) (by omega)
          rwa [HV0.out] at this
        have eyy : bits .and .i64 (v : Int) 255 = (v : Int) := by rw [zi_and255 _ (by omega), Nat.mod_eq_of_lt hvl]
        have HYV : Hid (Y = v) := by
          show Y = v
          have := exy
          have h2 := ex
          rw [show ((0 : Nat) : Int) = 0 by rfl, exy] at h2
          omega
        have eb0 : bits .and .i64 0 1 = 0 := by decide
        have hYv := HYV.out
        subst hYv
        clear ex ey HWN HON HYV HV0
        go_wp2
        go_loop [10, 17] (fun u i => ∃ j : Nat, j ≤ 8 ∧ i = .int .i64 j ∧ u = .int .i64 (C : Int)) (fun _ i => 8 - (intOf i).toNat)
        case atStart => exact ⟨0, by omega, rfl, rfl⟩
        case round =>
          obtain ⟨j, hj, rfl, rfl⟩ := hrel
          by_cases hj8 : j < 8
          · go_wp2
            exact ⟨⟨j + 1, by omega, by go_num, by simp⟩, by simp [intOf]; omega⟩
          · obtain rfl : j = 8 := by omega
            clear hj8 hj
            cases O with
            | false =>
              go_wp2_with (at_builtin; refine wpList_append_own _ rfl _ _ 23 rfl w.heap.size 31 i0 (.agg #[.int .i64 0, .int .i64 0]) 2 16 Try.underlying23 hi hz0 hz1 hz2 rfl (by decide) _ k _ rfl (ho.alloc _) ⟨wr.heap.size, 0, none⟩ 1 1 [.int .i64 A, .int .i64 Y] rfl rfl (cell_two_new _ _ _ _) (by simp [Value.oneCell']) (by unfold maxLen; omega) (by omega) (by have := bb.size; simp; omega) ?_; intro v3 w3 hown3 hgrow3 _)
              have b3 : Below w.heap.size w w3 := (bb.alloc bb.size _).trans ((Below.refl _ _).grown hgrow3 (by have := bb.size; simp; omega) (fun q e => (ho.lt q e).1))
              refine ⟨⟨k + 1, by omega, by go_num, by rw [HW0.out], by rw [HO0.out], ?_, b3⟩, by simp [intOf]; omega⟩
              rw [HBN.out, symCells_snoc]
              exact hown3
            | true =>
              go_wp2_with (at_builtin; refine wpList_append_own _ rfl _ _ 23 rfl w.heap.size 31 i0 (.agg #[.int .i64 0, .int .i64 0]) 2 16 Try.underlying23 hi hz0 hz1 hz2 rfl (by decide) _ k _ rfl (ho.alloc _) ⟨wr.heap.size, 0, none⟩ 1 1 [.int .i64 A, .int .i64 Y] rfl rfl (cell_two_new _ _ _ _) (by simp [Value.oneCell']) (by unfold maxLen; omega) (by omega) (by have := bb.size; simp; omega) ?_; intro v3 w3 hown3 hgrow3 _)
              have b3 : Below w.heap.size w w3 := (bb.alloc bb.size _).trans ((Below.refl _ _).grown hgrow3 (by have := bb.size; simp; omega) (fun q e => (ho.lt q e).1))
              refine ⟨⟨k + 1, by omega, by go_num, by rw [HW0.out], by rw [HO0.out], ?_, b3⟩, by simp [intOf]; omega⟩
              rw [HBN.out, symCells_snoc]
              exact hown3
    · obtain rfl : k = zs.length := by omega
      obtain ⟨L, hL⟩ : ∃ L, boundL s zs ts zs.length = L := ⟨_, rfl⟩
      have HLL : Hid (L.length = zs.length) := by
        show L.length = zs.length
        rw [← hL, boundL_len]
      have HOKL : Hid (CostOk L) := hL ▸ bound_ok HBT.out _
      have HCO : Hid (costN s L = wantN ts zs.length) := hL ▸ cost_bound HBT.out _
      have HOW := want_own HBT.out zs.length
      have hCl := wantN_le ts zs.length
      rw [hL] at ho
      obtain ⟨C, hC⟩ : ∃ C, wantN ts zs.length = C := ⟨_, rfl⟩
      rw [hC] at HCO HOW hCl ⊢
      obtain ⟨O, hO⟩ : ∃ O, ownB ts zs.length = O := ⟨_, rfl⟩
      rw [hO] at HOW ⊢
      have e0 : ((C : Int) == 0) = O := by
        rw [← HOW, Bool.eq_iff_iff]; simp only [beq_iff_eq]; omega
      have eO : (O == O) = true := by simp
      have dC : ((C : Int) == (C : Int)) = true := by simp
      have d8 : decide ((C : Int) ≤ 8 * (zs.length : Int)) = true := decide_eq_true (by omega)
      have dk : decide ((zs.length : Int) < (zs.length : Int)) = false := decide_eq_false (by omega)
      obtain ⟨m, hm, em⟩ := at_place cut ((zs.length + 1 : Nat) : Int) (by omega)
      obtain ⟨D, hD⟩ : ∃ D, zs.length + 1 = D := ⟨_, rfl⟩
      have ed : (zs.length : Int) + 1 = (D : Int) := by omega
      rw [hD] at em
      have eu : IntKind.u64.wrap (D : Int) = (D : Int) := by rw [IntKind.wrap_u64]; omega
      have ewm : IntKind.i64.wrap (m : Int) = (m : Int) := by rw [IntKind.wrap_i64]; omega
      have nD : ¬ (D : Int) = 0 := by omega
      have nD2 : ¬ D = 0 := by omega
      have hml : m ≤ zs.length := by omega
      have hl0 := syms_of_row ho
      obtain ⟨ar, cr, hsh⟩ := hl0.shape
      rw [HLL.out] at hsh
      subst hsh
      have hl1 : Syms wr.heap.size wr (.slice ar zs.length cr) L := hl0
      have hcr := row_cap2' ho
      clear hlt hk hL hC hO HOW hD hm hl0 hz ht
      cases ar with
      | none =>
        have hz2' : zs.length = 0 ∧ cr = 0 := by
          rcases ho.2 with ⟨e, _⟩ | ⟨g, c, cur, e, _⟩
          · simp only [Value.slice.injEq] at e; exact e.2
          · simp only [Value.slice.injEq] at e; exact absurd e.1 (by simp)
        obtain ⟨hzl, rfl⟩ := hz2'
        obtain rfl : m = 0 := by omega
        have hLn : Hid (L = []) := List.length_eq_zero_iff.1 (HLL.out.trans hzl)
        have HZL : Hid (zs.length = 0) := hzl
        clear ho hcr hzl
        have hD : Syms wr.heap.size wr (.slice none zs.length 0) (L.drop 0) := by simpa using hl1
        have hT : Syms wr.heap.size wr (.slice none 0 0) (L.take 0) := syms_take hl1 HLL.out 0 (by omega) 0 (by exact fun _ => rfl)
        have HTL : Hid ((L.take 0).length = 0) := by
          show (L.take 0).length = 0
          rw [List.length_take, HLL.out]; omega
        have HDL : Hid ((L.drop 0).length = zs.length - 0) := by
          show (L.drop 0).length = zs.length - 0
          rw [List.length_drop, HLL.out]
        have HSUM : Hid (costN s (L.take 0) + costN s (L.drop 0) = C) := by
          show costN s (L.take 0) + costN s (L.drop 0) = C
          rw [← costN_append, List.take_append_drop, HCO.out]
        obtain ⟨P, hP⟩ : ∃ P, costN s (L.take 0) = P := ⟨_, rfl⟩
        obtain ⟨Q, hQ⟩ : ∃ Q, costN s (L.drop 0) = Q := ⟨_, rfl⟩
        have HPC : Hid (costN s (L.take 0) = P) := hP
        have HQC : Hid (costN s (L.drop 0) = Q) := hQ
        rw [hP, hQ] at HSUM
        have eS : (P : Int) + (Q : Int) = (C : Int) := by have := HSUM.out; omega
        clear hP hQ
        go_wp2_with fail
        rw [show Value.slice none zs.length 0 = Value.slice none L.length 0 by rw [HLL.out]]
        refine (CostOf_ok s hs none 0 L (by rw [HLL.out]; omega) HOKL.out wr (by rw [HLL.out]; exact hl1)).mono ?_
        rw [HCO.out, HLL.out]
        rintro e w1 ⟨rfl, b1⟩
        replace hT := hT.next b1
        replace hD := hD.next b1
        go_wp2_with fail
        rw [show Value.slice none 0 0 = Value.slice none (L.take 0).length 0 by rw [HTL.out]]
        refine (CostOf_ok s hs none 0 (L.take 0) (by rw [HTL.out]; omega) (HOKL.out.take 0) w1 (by rw [HTL.out]; exact hT)).mono ?_
        rw [HPC.out, HTL.out]
        rintro e w2 ⟨rfl, b2⟩
        replace hD := hD.next b2
        go_wp2_with fail
        rw [show Value.slice none zs.length 0 = Value.slice none (L.drop 0).length 0 by rw [HDL.out, Nat.sub_zero]]
        refine (CostOf_ok s hs none 0 (L.drop 0) (by rw [HDL.out]; omega) (HOKL.out.drop 0) w2 (by rw [HDL.out, Nat.sub_zero]; exact hD)).mono ?_
        rw [HQC.out, HDL.out, Nat.sub_zero]
        rintro e w3 ⟨rfl, b3⟩
        go_wp2_with fail
        refine (costWakes_any _).mono ?_
        rintro e w4 ⟨rfl, b4⟩
        go_wp2
        go_ret
        have bb1 := bb.trans (b1.mono bb.size)
        have bb2 := bb1.trans (b2.mono bb1.size)
        have bb3 := bb2.trans (b3.mono bb2.size)
        exact ⟨rfl, bb3.trans (b4.mono bb3.size)⟩
      | some ad =>
        obtain ⟨b, off, rfl⟩ : ∃ b off, ad = ⟨b, off, none⟩ := by
          rcases ho.2 with ⟨e, _⟩ | ⟨g, c, cur, e, _⟩
          · simp only [Value.slice.injEq] at e; exact absurd e.1 (by simp)
          · simp only [Value.slice.injEq, Option.some.injEq] at e; exact ⟨g, 0, e.1⟩
        have hmc : m ≤ cr := by omega
        clear ho
        by_cases hcm : cr = m
        · have hcm' : (cr = m) = True := eq_true hcm
          have hzm : zs.length - m = 0 := by omega
          have HZM : Hid (zs.length - m = 0) := hzm
          have HDN : Hid (L.drop m = []) := List.drop_of_length_le (by rw [HLL.out]; omega)
          clear hcm
          have hD : Syms wr.heap.size wr (.slice (some ⟨b, off, none⟩) 0 (cr - m)) (L.drop m) := by rw [HDN.out]; exact syms_empty _ _
          have hT : Syms wr.heap.size wr (.slice (some ⟨b, off, none⟩) m cr) (L.take m) := syms_take hl1 HLL.out m (by omega) cr (by intro e; cases e)
          have HTL : Hid ((L.take m).length = m) := by
            show (L.take m).length = m
            rw [List.length_take, HLL.out]; omega
          have HDL : Hid ((L.drop m).length = zs.length - m) := by
            show (L.drop m).length = zs.length - m
            rw [List.length_drop, HLL.out]
          have HSUM : Hid (costN s (L.take m) + costN s (L.drop m) = C) := by
            show costN s (L.take m) + costN s (L.drop m) = C
            rw [← costN_append, List.take_append_drop, HCO.out]
          obtain ⟨P, hP⟩ : ∃ P, costN s (L.take m) = P := ⟨_, rfl⟩
          obtain ⟨Q, hQ⟩ : ∃ Q, costN s (L.drop m) = Q := ⟨_, rfl⟩
          have HPC : Hid (costN s (L.take m) = P) := hP
          have HQC : Hid (costN s (L.drop m) = Q) := hQ
          rw [hP, hQ] at HSUM
          have eS : (P : Int) + (Q : Int) = (C : Int) := by have := HSUM.out; omega
          clear hP hQ
          go_wp2_with fail
          rw [show Value.slice (some ⟨b, off, none⟩) zs.length cr = Value.slice (some ⟨b, off, none⟩) L.length cr by rw [HLL.out]]
          refine (CostOf_ok s hs (some ⟨b, off, none⟩) cr L (by rw [HLL.out]; omega) HOKL.out wr (by rw [HLL.out]; exact hl1)).mono ?_
          rw [HCO.out, HLL.out]
          rintro e w1 ⟨rfl, b1⟩
          replace hT := hT.next b1
          replace hD := hD.next b1
          go_wp2_with fail
          rw [show Value.slice (some ⟨b, off, none⟩) m cr = Value.slice (some ⟨b, off, none⟩) (L.take m).length cr by rw [HTL.out]]
          refine (CostOf_ok s hs (some ⟨b, off, none⟩) cr (L.take m) (by rw [HTL.out]; omega) (HOKL.out.take m) w1 (by rw [HTL.out]; exact hT)).mono ?_
          rw [HPC.out, HTL.out]
          rintro e w2 ⟨rfl, b2⟩
          replace hD := hD.next b2
          go_wp2_with fail
          rw [show Value.slice (some ⟨b, off, none⟩) 0 (cr - m) = Value.slice (some ⟨b, off, none⟩) (L.drop m).length (cr - m) by rw [HDL.out, HZM.out]]
          refine (CostOf_ok s hs (some ⟨b, off, none⟩) (cr - m) (L.drop m) (by rw [HDL.out]; omega) (HOKL.out.drop m) w2 (by rw [HDL.out, HZM.out]; exact hD)).mono ?_
          rw [HQC.out, HDL.out, HZM.out]
          rintro e w3 ⟨rfl, b3⟩
          go_wp2_with fail
          refine (costWakes_any _).mono ?_
          rintro e w4 ⟨rfl, b4⟩
          go_wp2
          go_ret
          have bb1 := bb.trans (b1.mono bb.size)
          have bb2 := bb1.trans (b2.mono bb1.size)
          have bb3 := bb2.trans (b3.mono bb2.size)
          exact ⟨rfl, bb3.trans (b4.mono bb3.size)⟩
        · by_cases hmz : m = zs.length
          · have hzm : zs.length - m = 0 := by omega
            have HDN : Hid (L.drop m = []) := List.drop_of_length_le (by rw [HLL.out]; omega)
            have HZM : Hid (zs.length - m = 0) := hzm
            clear hmz
            have hD : Syms wr.heap.size wr (.slice (some ⟨b, off + m * 2, none⟩) 0 (cr - m)) (L.drop m) := by rw [HDN.out]; exact syms_empty _ _
            have hT : Syms wr.heap.size wr (.slice (some ⟨b, off, none⟩) m cr) (L.take m) := syms_take hl1 HLL.out m (by omega) cr (by intro e; cases e)
            have HTL : Hid ((L.take m).length = m) := by
              show (L.take m).length = m
              rw [List.length_take, HLL.out]; omega
            have HDL : Hid ((L.drop m).length = zs.length - m) := by
              show (L.drop m).length = zs.length - m
              rw [List.length_drop, HLL.out]
            have HSUM : Hid (costN s (L.take m) + costN s (L.drop m) = C) := by
              show costN s (L.take m) + costN s (L.drop m) = C
              rw [← costN_append, List.take_append_drop, HCO.out]
            obtain ⟨P, hP⟩ : ∃ P, costN s (L.take m) = P := ⟨_, rfl⟩
            obtain ⟨Q, hQ⟩ : ∃ Q, costN s (L.drop m) = Q := ⟨_, rfl⟩
            have HPC : Hid (costN s (L.take m) = P) := hP
            have HQC : Hid (costN s (L.drop m) = Q) := hQ
            rw [hP, hQ] at HSUM
            have eS : (P : Int) + (Q : Int) = (C : Int) := by have := HSUM.out; omega
            clear hP hQ
            go_wp2_with fail
            rw [show Value.slice (some ⟨b, off, none⟩) zs.length cr = Value.slice (some ⟨b, off, none⟩) L.length cr by rw [HLL.out]]
            refine (CostOf_ok s hs (some ⟨b, off, none⟩) cr L (by rw [HLL.out]; omega) HOKL.out wr (by rw [HLL.out]; exact hl1)).mono ?_
            rw [HCO.out, HLL.out]
            rintro e w1 ⟨rfl, b1⟩
            replace hT := hT.next b1
            replace hD := hD.next b1
            go_wp2_with fail
            rw [show Value.slice (some ⟨b, off, none⟩) m cr = Value.slice (some ⟨b, off, none⟩) (L.take m).length cr by rw [HTL.out]]
            refine (CostOf_ok s hs (some ⟨b, off, none⟩) cr (L.take m) (by rw [HTL.out]; omega) (HOKL.out.take m) w1 (by rw [HTL.out]; exact hT)).mono ?_
            rw [HPC.out, HTL.out]
            rintro e w2 ⟨rfl, b2⟩
            replace hD := hD.next b2
            go_wp2_with fail
            rw [show Value.slice (some ⟨b, off + m * 2, none⟩) 0 (cr - m) = Value.slice (some ⟨b, off + m * 2, none⟩) (L.drop m).length (cr - m) by rw [HDL.out, HZM.out]]
            refine (CostOf_ok s hs (some ⟨b, off + m * 2, none⟩) (cr - m) (L.drop m) (by rw [HDL.out]; omega) (HOKL.out.drop m) w2 (by rw [HDL.out, HZM.out]; exact hD)).mono ?_
            rw [HQC.out, HDL.out, HZM.out]
            rintro e w3 ⟨rfl, b3⟩
            go_wp2_with fail
            refine (costWakes_any _).mono ?_
            rintro e w4 ⟨rfl, b4⟩
            go_wp2
            go_ret
            have bb1 := bb.trans (b1.mono bb.size)
            have bb2 := bb1.trans (b2.mono bb1.size)
            have bb3 := bb2.trans (b3.mono bb2.size)
            exact ⟨rfl, bb3.trans (b4.mono bb3.size)⟩
          · have hmlt : m < zs.length := by omega
            have hD : Syms wr.heap.size wr (.slice (some ⟨b, off + m * 2, none⟩) (zs.length - m) (cr - m)) (L.drop m) := syms_drop hl1 HLL.out m hmlt _
            have hT : Syms wr.heap.size wr (.slice (some ⟨b, off, none⟩) m cr) (L.take m) := syms_take hl1 HLL.out m (by omega) cr (by intro e; cases e)
            have HTL : Hid ((L.take m).length = m) := by
              show (L.take m).length = m
              rw [List.length_take, HLL.out]; omega
            have HDL : Hid ((L.drop m).length = zs.length - m) := by
              show (L.drop m).length = zs.length - m
              rw [List.length_drop, HLL.out]
            have HSUM : Hid (costN s (L.take m) + costN s (L.drop m) = C) := by
              show costN s (L.take m) + costN s (L.drop m) = C
              rw [← costN_append, List.take_append_drop, HCO.out]
            obtain ⟨P, hP⟩ : ∃ P, costN s (L.take m) = P := ⟨_, rfl⟩
            obtain ⟨Q, hQ⟩ : ∃ Q, costN s (L.drop m) = Q := ⟨_, rfl⟩
            have HPC : Hid (costN s (L.take m) = P) := hP
            have HQC : Hid (costN s (L.drop m) = Q) := hQ
            rw [hP, hQ] at HSUM
            have eS : (P : Int) + (Q : Int) = (C : Int) := by have := HSUM.out; omega
            clear hP hQ
            go_wp2_with fail
            rw [show Value.slice (some ⟨b, off, none⟩) zs.length cr = Value.slice (some ⟨b, off, none⟩) L.length cr by rw [HLL.out]]
            refine (CostOf_ok s hs (some ⟨b, off, none⟩) cr L (by rw [HLL.out]; omega) HOKL.out wr (by rw [HLL.out]; exact hl1)).mono ?_
            rw [HCO.out, HLL.out]
            rintro e w1 ⟨rfl, b1⟩
            replace hT := hT.next b1
            replace hD := hD.next b1
            go_wp2_with fail
            rw [show Value.slice (some ⟨b, off, none⟩) m cr = Value.slice (some ⟨b, off, none⟩) (L.take m).length cr by rw [HTL.out]]
            refine (CostOf_ok s hs (some ⟨b, off, none⟩) cr (L.take m) (by rw [HTL.out]; omega) (HOKL.out.take m) w1 (by rw [HTL.out]; exact hT)).mono ?_
            rw [HPC.out, HTL.out]
            rintro e w2 ⟨rfl, b2⟩
            replace hD := hD.next b2
            go_wp2_with fail
            rw [show Value.slice (some ⟨b, off + m * 2, none⟩) (zs.length - m) (cr - m) = Value.slice (some ⟨b, off + m * 2, none⟩) (L.drop m).length (cr - m) by rw [HDL.out]]
            refine (CostOf_ok s hs (some ⟨b, off + m * 2, none⟩) (cr - m) (L.drop m) (by rw [HDL.out]; omega) (HOKL.out.drop m) w2 (by rw [HDL.out]; exact hD)).mono ?_
            rw [HQC.out, HDL.out]
            rintro e w3 ⟨rfl, b3⟩
            go_wp2_with fail
            refine (costWakes_any _).mono ?_
            rintro e w4 ⟨rfl, b4⟩
            go_wp2
            go_ret
            have bb1 := bb.trans (b1.mono bb.size)
            have bb2 := bb1.trans (b2.mono bb1.size)
            have bb3 := bb2.trans (b3.mono bb2.size)
            exact ⟨rfl, bb3.trans (b4.mono bb3.size)⟩

/-- The law, of whatever state, places, bits and cut. -/
theorem costBounds_walk (x : Int) (a1 : Option Addr) (len1 cap1 : Nat) (z1 : List Int) (a2 : Option Addr) (len2 cap2 : Nat) (z2 : List Int) (cut : Int) (w : World) (hx : (Lit.int .u32 x).wf = true) (w1 : IsRow .i64 w a1 len1 cap1 z1) (w2 : IsRow .u8 w a2 len2 cap2 z2) :
    Calls Try.prog 4 #[.int .u32 x, .slice a1 len1 cap1, .slice a2 len2 cap2, .int .i64 cut] w fun e w' => e = .returned (.bool true) ∧ Below w.heap.size w w' := by
  have hb := bounds_u32 hx
  obtain ⟨s, rfl⟩ := Int.eq_ofNat_of_zero_le (a := x) hb.1
  have hlen : len2 ≤ 9223372036854775807 := by
    rcases w2 with ⟨_, h, _⟩ | ⟨_, _, h1, h2, _⟩
    · omega
    · unfold maxLen at h2; omega
  obtain ⟨zs, rfl, hz, _⟩ := holds_of_isRow w1
  obtain ⟨ts, rfl, ht, bt⟩ := holds_of_isRow w2
  by_cases h16 : 16 < zs.length
  · exact costBounds_far s a1 _ cap1 a2 _ cap2 cut h16 w
  · exact costBounds_in s (by omega) a1 cap1 zs (by omega) a2 cap2 ts (bytes_bd bt) hlen cut w hz ht

end Go.Proofs.Ytjnmdjejihliiaa
