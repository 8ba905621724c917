/-
  BeamNothing: the walk: whatever the numbers, the law answers true, and nothing that lay has turned.
-/
import Derived.Test.YtdnhnnidlangiabDoorBeamWakes
import Derived.Test.YtdnhnnidlangiabDoorLight12
import Derived.Test.YtdnhnnidlangiabDoorRefOrder
import Derived.Test.YtdnhnnidlangiabDoorPileFullNums
import Derived.Deep.RegionHeldLaw
namespace Go.Proofs.YtdnhnnidlangiabDoor
open Go.RowKit

theorem at_place13 (at_ d : Int) (hd : 0 < d) : ∃ p : Nat, (p : Int) < d ∧ (IntKind.u64.wrap at_).tmod d = (p : Int) := by
  have h0 : 0 ≤ IntKind.u64.wrap at_ := by rw [IntKind.wrap_u64]; omega
  have h1 := Int.tmod_nonneg d h0
  have h2 := Int.tmod_lt_of_pos (IntKind.u64.wrap at_) hd
  exact ⟨((IntKind.u64.wrap at_).tmod d).toNat, by omega, by omega⟩
theorem val_walk13 (v : Int) (j : Nat) : (IntKind.u64.wrap (v + (j : Int))).tmod 256 = valN v j := by
  have h0 : 0 ≤ IntKind.u64.wrap (v + (j : Int)) := by rw [IntKind.wrap_u64]; omega
  rw [Int.tmod_eq_emod_of_nonneg h0, IntKind.wrap_u64]
  rfl
theorem wrap_twice13 (z : Int) : IntKind.u64.wrap (IntKind.i64.wrap z) = IntKind.u64.wrap z := by
  rw [IntKind.wrap_u64, IntKind.wrap_u64, IntKind.wrap_i64]; omega

/-- The pile without the last segment's symbols. -/
def nothL (N : Nat) (v : Int) : Nat → List (Int × Int)
  | 0 => []
  | k + 1 => if segN N k = N - 1 then nothL N v k else nothL N v k ++ [((k : Int), valN v k)]
theorem nothL_out {N : Nat} {v : Int} {k : Nat} (h : segN N k = N - 1) : nothL N v (k + 1) = nothL N v k := by simp only [nothL]; rw [if_pos h]
theorem nothL_in {N : Nat} {v : Int} {k : Nat} (h : segN N k ≠ N - 1) : nothL N v (k + 1) = nothL N v k ++ [((k : Int), valN v k)] := by simp only [nothL]; rw [if_neg h]
theorem nothL_mem {N : Nat} {v : Int} : ∀ {k : Nat} {x : Int × Int}, x ∈ nothL N v k → ∃ j, j < k ∧ segN N j ≠ N - 1 ∧ x = ((j : Int), valN v j)
  | 0, x, h => by simp [nothL] at h
  | k + 1, x, h => by
    by_cases hs : segN N k = N - 1
    · rw [nothL_out hs] at h
      obtain ⟨j, h1, h2, h3⟩ := nothL_mem h
      exact ⟨j, by omega, h2, h3⟩
    · rw [nothL_in hs] at h
      rcases List.mem_append.1 h with h | h
      · obtain ⟨j, h1, h2, h3⟩ := nothL_mem h
        exact ⟨j, by omega, h2, h3⟩
      · simp at h
        exact ⟨k, by omega, hs, h⟩
theorem nothL_lt {N : Nat} {v : Int} {k : Nat} : ∀ x ∈ nothL N v k, x.1 < (k : Int) := by
  intro x hx
  obtain ⟨j, hj, _, rfl⟩ := nothL_mem hx
  show (j : Int) < k
  omega
theorem nothL_rises (N : Nat) (v : Int) : ∀ k, Rises (nothL N v k)
  | 0 => List.Pairwise.nil
  | k + 1 => by
    by_cases hs : segN N k = N - 1
    · rw [nothL_out hs]; exact nothL_rises N v k
    · rw [nothL_in hs]
      unfold Rises
      rw [List.pairwise_append]
      refine ⟨nothL_rises N v k, List.pairwise_singleton _ _, fun x hx y hy => ?_⟩
      simp at hy; subst hy
      exact nothL_lt x hx
theorem nothL_ok {N : Nat} {p : Int} {v : Int} (hh : HeadOk (N : Int) p) {k : Nat} (h : (k : Int) ≤ (N : Int) * p) : PileOk (N : Int) p (nothL N v k) := by
  refine ⟨hh, fun x hx => ?_, nothL_rises N v k⟩
  obtain ⟨j, hj, _, rfl⟩ := nothL_mem hx
  have := valN_bd v j
  exact ⟨Int.natCast_nonneg _, by show (j : Int) < (N : Int) * p; omega, this.1, by show valN v j ≤ 255; omega⟩
theorem nothL_last (N : Nat) (v : Int) (k : Nat) : ofL N (nothL N v k) (N - 1) = [] := by
  refine List.eq_nil_iff_forall_not_mem.2 fun x hx => ?_
  obtain ⟨y, hy, h1, _⟩ := ofL_mem.1 hx
  obtain ⟨j, _, h2, rfl⟩ := nothL_mem hy
  exact h2 (by simpa using h1)
theorem putN_last {n p : Int} {L : List (Int × Int)} {k v : Int} (hL : ∀ x ∈ L, x.1 < k) (h : k < n * p) : putN n p L k v = L ++ [(k, v)] := putN_end hL h
/-- Of a pile in which the last segment has no symbols nothing is told. -/
theorem dec_none {N : Nat} {l : List (Int × Int)} {b D : Nat} (hb : 1 ≤ b) (hN : 1 ≤ N) (hno : ofL N l (N - 1) = []) : decB (walkB N l b D N).1 (walkB N l b D N).2 = none := by
  cases hd : decB (walkB N l b D N).1 (walkB N l b D N).2 with
  | none => rfl
  | some z =>
    exfalso
    obtain ⟨ps, M⟩ := z
    obtain ⟨n, t, h1, h2, h3, h4, h5⟩ := decB_inv hd
    obtain ⟨g1, g2, g3, g4⟩ := told_least stB (coB N l) N (beginN : Int) (coB_pos _ _) D b hb (by omega) h1 h4 h5
    obtain ⟨Q, k, hQ⟩ : ∃ Q k, pathOf n = Q ++ [k] := by
      refine ⟨(pathOf n).dropLast, (pathOf n).getLast (fun e => by rw [e] at g2; simp at g2; omega), ?_⟩
      exact (List.dropLast_concat_getLast _).symm
    have hQl : Q.length = N - 1 := by rw [hQ] at g2; simp at g2; omega
    have hz : ∀ k', met stB (coB N l) (beginN : Int) (Q ++ [k']) = met stB (coB N l) (beginN : Int) Q := fun k' => by
      have hc : ∀ s, coB N l (N - 1) s = 0 := fun s => by
        unfold coB
        rw [hno]
        rfl
      rw [met_snoc, hQl, hc, Int.add_zero]
    have hQn : Nibs Q := by rw [hQ] at g3; exact g3.left
    have hm : n.2.1 = met stB (coB N l) (beginN : Int) Q := by rw [g1.2.1, hQ]; exact hz k
    by_cases hk : k = 0
    · have := g4 (Q ++ [1]) (hQn.snoc (by decide)) (by simp; omega) (by rw [hQ, hk]; simp)
      rw [hz 1, hm] at this
      exact absurd this (Int.lt_irrefl _)
    · have := g4 (Q ++ [0]) (hQn.snoc (by decide)) (by simp; omega) (by rw [hQ]; simp; exact fun e => hk e.symm)
      rw [hz 0, hm] at this
      exact absurd this (Int.lt_irrefl _)

set_option maxRecDepth 100000 in
set_option maxHeartbeats 4000000 in
theorem beamNothing_any (a0 a1 a2 a3 a4 : Int) (w : World) (hF : Firsts w) :
    Calls Tryd.prog 5 #[.int .i64 a0, .int .i64 a1, .int .i64 a2, .int .i64 a3, .int .i64 a4] w fun e w' => e = .returned (.bool true) ∧ Below w.heap.size w w' := by
  have HFW : Hid (Firsts w) := hF
  obtain ⟨p0, q0, e0⟩ := at_place13 a0 12 (by decide)
  obtain ⟨p1, q1, e1⟩ := at_place13 a1 4 (by decide)
  obtain ⟨p2, q2, e2⟩ := at_place13 a2 4 (by decide)
  obtain ⟨D, q3, e3⟩ := at_place13 a3 2 (by decide)
  have ew0 : IntKind.i64.wrap (p0 : Int) = (p0 : Int) := by rw [IntKind.wrap_i64]; omega
  have ew1 : IntKind.i64.wrap (p1 : Int) = (p1 : Int) := by rw [IntKind.wrap_i64]; omega
  have ew2 : IntKind.i64.wrap (p2 : Int) = (p2 : Int) := by rw [IntKind.wrap_i64]; omega
  have ew3 : IntKind.i64.wrap (D : Int) = (D : Int) := by rw [IntKind.wrap_i64]; omega
  obtain ⟨N, hN⟩ : ∃ N, 1 + p0 = N := ⟨_, rfl⟩
  obtain ⟨P, hP⟩ : ∃ P, 1 + p1 = P := ⟨_, rfl⟩
  obtain ⟨B, hB⟩ : ∃ B, 1 + p2 = B := ⟨_, rfl⟩
  obtain ⟨D1, hD1⟩ : ∃ D1, D + 1 = D1 := ⟨_, rfl⟩
  have eN : 1 + (p0 : Int) = (N : Int) := by omega
  have eP : 1 + (p1 : Int) = (P : Int) := by omega
  have eB : 1 + (p2 : Int) = (B : Int) := by omega
  have eD : 1 + (D : Int) = (D1 : Int) := by omega
  have HH : Hid (HeadOk (N : Int) (P : Int)) := ⟨by omega, by omega, by omega, by omega⟩
  obtain ⟨T, hT⟩ : ∃ T, N * P = T := ⟨_, rfl⟩
  have eT : (N : Int) * (P : Int) = (T : Int) := by rw [← hT]; simp
  have hT48 : T ≤ 48 := by
    have h9 : N * P ≤ 12 * 4 := Nat.mul_le_mul (by omega) (by omega)
    omega
  have hN1 : 1 ≤ N := by omega
  have hN12 : N ≤ 12 := by omega
  have hP1 : 1 ≤ P := by omega
  have hP4 : P ≤ 4 := by omega
  have hB1 : 1 ≤ B := by omega
  have hB4 : B ≤ 4 := by omega
  have hD1b : D ≤ 1 := by omega
  have HD1 : Hid (D + 1 = D1) := hD1
  have HLT := light_any (N : Int) (B : Int) (D1 : Int)
  have HT : Hid ((N : Int) * (P : Int) = (T : Int)) := eT
  clear hF hN hP hB hD1 hT q0 q1 q2 q3
  go_enter Tryd.func5, Tryd.ntmps5
  go_wp2_with fail
  refine (HLT w).mono ?_
  rintro e wz ⟨he | he, rfl⟩
  · subst he
    go_wp2_with fail
    refine (New_ok (N : Int) (P : Int) HH.out w).mono ?_
    rintro e w1 ⟨rfl, b1⟩
    have hw1s := b1.size
    have xp := Box.new w1 24 #[.int .i64 (N : Int), .int .i64 (P : Int), .slice none 0 0]
    have b2 : Below w1.heap.size w1 (w1.alloc (.cells #[.int .i64 (N : Int), .int .i64 (P : Int), .slice none 0 0] 24)) := (Below.refl _ _).alloc (Nat.le_refl _) _
    have bb2 := b1.trans (b2.mono b1.size)
    have HDE := Decode_ok N (P : Int) none 0 [] (nothL_ok (v := 0) HH.out (k := 0) (by rw [HT.out]; omega)) B hB1 (by omega) D (by omega) (w1.alloc (.cells #[.int .i64 (N : Int), .int .i64 (P : Int), .slice none 0 0] 24)) (syms_nil _ _) (HFW.out.next bb2)
    rw [dec_none (l := []) hB1 hN1 (by simp [ofL]), HD1.out] at HDE
    clear b1 b2
    go_wp2_with fail
    refine HDE.mono ?_
    rintro e w3 ⟨he, b3⟩
    clear HDE
    rcases he with ⟨_, rfl⟩ | ⟨ps, M, hsm, _⟩
    case inr => cases hsm
    have xp3 := xp.next b3
    have bb3 := bb2.trans (b3.mono bb2.size)
    have hlp := xp3.lt
    clear xp b3 bb2
    go_wp2
    go_loopw [15] (fun s15 wr => ∃ (k : Nat) (ra : Option Addr) (rc : Nat), k ≤ T ∧ s15 = .int .i64 k ∧ Box wr w1.heap.size 24 #[.int .i64 (N : Int), .int .i64 (P : Int), .slice ra (nothL N a4 k).length rc] ∧ wr.ownsRow (w1.heap.size + 1) 60 2 (.slice ra (nothL N a4 k).length rc) (nothL N a4 k).length (symCells (nothL N a4 k)) ∧ Below w.heap.size w wr) (fun i _ => T - (intOf i).toNat)
    case atStart => exact ⟨0, none, 0, Nat.zero_le _, rfl, xp3, World.ownsRow_nil _ _ _ _, bb3⟩
    case round =>
      obtain ⟨k, ra, rc, hk, rfl, xr, ho, bw⟩ := hrel
      clear xp3
      have hsz := bw.size
      have hlr := xr.lt
      by_cases hlt : k < T
      · have dk : decide ((k : Int) < (T : Int)) = true := decide_eq_true (by omega)
        have dk' : decide (k < T) = true := decide_eq_true hlt
        have HPO : Hid (PileOk (N : Int) (P : Int) (nothL N a4 k)) := nothL_ok HH.out (by rw [HT.out]; omega)
        have HOR := refOrder_any N hN1 (by omega) wr
        have hsg := (segN_get hN1 (by omega) k).1
        have emd : (k : Int).tmod (N : Int) = ((k % N : Nat) : Int) := by rw [Int.tmod_eq_emod_of_nonneg (by omega)]; simp
        have hmd : k % N < N := Nat.mod_lt _ (by omega)
        obtain ⟨j, hj⟩ : ∃ j, k % N = j := ⟨_, rfl⟩
        rw [hj] at emd hmd hsg
        have hn0 : ¬ (N : Int) = 0 := by omega
        have hvb := valN_bd a4 k
        have eval : (IntKind.u64.wrap (wrap64 (a4 + (k : Int)))).tmod 256 = valN a4 k := by
          have e : wrap64 (a4 + (k : Int)) = IntKind.i64.wrap (a4 + (k : Int)) := by unfold wrap64; exact (IntKind.wrap_i64 _).symm
          rw [e, wrap_twice13, val_walk13]
        have ewv : IntKind.i64.wrap (valN a4 k) = valN a4 k := by rw [IntKind.wrap_i64]; omega
        obtain ⟨sg, hsge⟩ : ∃ sg, segN N k = sg := ⟨_, rfl⟩
        rw [hsge] at hsg
        have HSG : Hid (segN N k = sg) := hsge
        obtain ⟨vv, hvv⟩ : ∃ vv, valN a4 k = vv := ⟨_, rfl⟩
        rw [hvv] at hvb eval ewv
        have HVV : Hid (valN a4 k = vv) := hvv
        clear hj hsge hvv
        go_wp2_with fail
        refine HOR.mono ?_
        rintro e w4 ⟨r4, rfl, o4, b4⟩
        clear HOR
        obtain ⟨oa, oc, e4⟩ := rowN_shape o4
        subst e4
        have hO4 := holds_of_row o4
        have hol : (orderL N).length = N := by unfold orderL; rw [List.length_map, orderN_len N (by omega)]
        obtain ⟨ob, oof, rfl, _, hoc⟩ := holds_at hO4 hol (by omega)
        have cO := hoc j (sg : Int) (by unfold orderL; rw [List.getElem?_map, hsg]; rfl)
        have x4 := xr.next b4
        have ho4 := rowN_below ho b4 (Nat.le_refl _)
        have bw4 := bw.trans (b4.mono hsz)
        have hl4 := x4.lt
        obtain ⟨N1, hN1e⟩ : ∃ N1, N - 1 = N1 := ⟨_, rfl⟩
        have eN1 : (N : Int) - 1 = (N1 : Int) := by omega
        have HN1 : Hid (N - 1 = N1) := hN1e
        have hj12 : j < 12 := by omega
        have hoo : (0 : Int) ≤ (j : Int) := by omega
        have hoo2 : (j : Int) < (N : Int) := by omega
        clear o4 hO4 hoc hol hsg ho xr b4 hN1e
        by_cases hsN : sg = N1
        · have ds : ((sg : Int) == (N1 : Int)) = true := by rw [hsN]; simp
          have HHE : Hid (nothL N a4 (k + 1) = nothL N a4 k) := nothL_out (by rw [HSG.out, HN1.out]; exact hsN)
          clear hsN
          go_wp2
          go_roundw
          case rel => exact ⟨k + 1, ra, rc, by omega, by go_num, by rw [HHE.out]; exact x4, by rw [HHE.out]; exact ho4, bw4⟩
          case measure => simp [intOf]; omega
        · have ds : ((sg : Int) == (N1 : Int)) = false := by rw [beq_eq_false_iff_ne]; omega
          have HHE : Hid (nothL N a4 (k + 1) = nothL N a4 k ++ [((k : Int), vv)]) := by
            have h9 := nothL_in (v := a4) (show segN N k ≠ N - 1 by rw [HSG.out, HN1.out]; exact hsN)
            rw [HVV.out] at h9
            exact h9
          have HPT := Put_in (N : Int) (P : Int) (k : Int) vv (by omega) (by omega) (by omega) (by omega) ra rc (nothL N a4 k) HPO.out w4 (syms_of_row ho4) (rowCap_of ho4)
          rw [putN_last nothL_lt (by rw [HT.out]; omega), ← HHE.out] at HPT
          have c0 := x4.cell 0 _ rfl
          have c1 := x4.cell 1 _ rfl
          have c2 := x4.cell 2 _ rfl
          clear hsN
          go_wp2_with fail
          refine HPT.mono ?_
          rintro e w5 ⟨r5, rfl, o5, b5⟩
          clear HPT c0 c1 c2
          obtain ⟨r5a, r5c, e5⟩ := (syms_of_row o5).shape
          subst e5
          have x5 := x4.next b5
          have bw5 := bw4.trans (b5.mono bw4.size)
          obtain ⟨hl', hhl⟩ : ∃ hl', (nothL N a4 (k + 1)).length = hl' := ⟨_, rfl⟩
          rw [hhl] at o5 ⊢
          have HHL : Hid ((nothL N a4 (k + 1)).length = hl') := hhl
          have x6 := x5.alloc (.cells #[.int .i64 (N : Int), .int .i64 (P : Int), .slice r5a hl' r5c] 24)
          have xn := Box.new w5 24 #[.int .i64 (N : Int), .int .i64 (P : Int), .slice r5a hl' r5c]
          have k0 := x6.cell 0 _ rfl
          have k1 := x6.cell 1 _ rfl
          have k2 := x6.cell 2 _ rfl
          have f0 := x6.free 0
          have f1 := x6.free 1
          have f2 := x6.free 2
          have m0 := xn.cell 0 _ rfl
          have m1 := xn.cell 1 _ rfl
          have m2 := xn.cell 2 _ rfl
          have h5s := b5.size
          clear hhl HHE
          go_wp2
          exact ⟨⟨k + 1, r5a, r5c, by omega, by go_num, by rw [HHL.out]; exact x6.set3 _ _ _, by rw [HHL.out]; exact row_set3 ((rowN_base o5 hl4).alloc _) (D := w1.heap.size) (by omega) _ _ _, below_set3 (bw5.alloc bw5.size _) (D := w1.heap.size) hw1s _ _ _⟩, by simp [intOf]; omega⟩
      · obtain rfl : k = T := by omega
        have dk : decide ((k : Int) < (k : Int)) = false := decide_eq_false (by omega)
        have HDE := Decode_ok N (P : Int) ra rc (nothL N a4 k) (nothL_ok HH.out (by rw [HT.out]; omega)) B hB1 (by omega) D (by omega) wr (syms_of_row ho) (HFW.out.next bw)
        rw [dec_none hB1 hN1 (nothL_last N a4 k), HD1.out] at HDE
        have c0 := xr.cell 0 _ rfl
        have c1 := xr.cell 1 _ rfl
        have c2 := xr.cell 2 _ rfl
        obtain ⟨hl', hhl⟩ : ∃ hl', (nothL N a4 k).length = hl' := ⟨_, rfl⟩
        rw [hhl] at HDE c2
        clear hhl ho xr
        go_wp2_with fail
        refine HDE.mono ?_
        rintro e w7 ⟨he, b7⟩
        clear HDE
        rcases he with ⟨_, rfl⟩ | ⟨ps, M, hsm, _⟩
        case inr => cases hsm
        have bb7 := bw.trans (b7.mono bw.size)
        have HWK := beamWakes_any w7 (HFW.out.next bb7)
        go_wp2_with (go_at_call 11; refine HWK.mono ?_; rintro e w8 ⟨rfl, b8⟩)
        go_ret
        exact ⟨rfl, bb7.trans (b8.mono bb7.size)⟩
  · subst he
    go_wp2
    go_ret
    exact ⟨rfl, Below.refl _ _⟩

end Go.Proofs.YtdnhnnidlangiabDoor
