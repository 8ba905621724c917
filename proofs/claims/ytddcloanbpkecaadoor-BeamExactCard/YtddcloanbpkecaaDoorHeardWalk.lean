/-
  What volutelaw12.Heard answers: the pile that is heard.
-/
import Derived.Test.YtddcloanbpkecaaDoorHeardMem
namespace Go.Proofs.YtddcloanbpkecaaDoor
open Go.RowKit

set_option maxRecDepth 100000 in
set_option maxHeartbeats 2000000 in
theorem heard_any (a : Option Addr) (L cap : Nat) (zs : List Int) (hz : zs.length = L) (h1 : 1 ≤ L) (hL : L ≤ 32) (bz : ∀ z ∈ zs, 0 ≤ z ∧ z ≤ 255) (P C : Nat) (hP1 : 1 ≤ P) (hP : P ≤ 16) (hC : C ≤ 2 * L * P) (oa : Option Addr) (on oc : Nat) (os : List Bool) (hol : os.length = on) (hob : on ≤ 1048576) (ta : Option Addr) (tn tc : Nat) (ts : List Nat) (htl : ts.length = tn) (htb : tn ≤ 1048576) (bt : ∀ t ∈ ts, t < 256) (w : World) (hF : Firsts w)
    (ha : Holds .u8 w.heap.size w (.slice a L cap) zs) (hO : Flags w.heap.size w (.slice oa on oc) os) (hT : Holds .u8 w.heap.size w (.slice ta tn tc) (ts.map fun t : Nat => (t : Int))) :
    Calls Tryd.prog 39 #[.slice a L cap, .int .i64 (P : Int), .int .i64 (C : Int), .slice oa on oc, .slice ta tn tc] w fun e W' => ∃ r, e = .returned (.tuple #[.agg #[.int .i64 ((2 * L : Nat) : Int), .int .i64 (P : Int), r], .bool true]) ∧ W'.ownsRow w.heap.size 72 2 r (heardL zs os ts C).length (symCells (heardL zs os ts C)) ∧ Below w.heap.size w W' := by
  obtain ⟨n, hn⟩ : ∃ n, 2 * L = n := ⟨_, rfl⟩
  have e2 : 2 * (L : Int) = (n : Int) := by omega
  have hn64 : n ≤ 64 := by omega
  have HH : Hid (HeadOk (n : Int) (P : Int)) := ⟨by omega, by omega, by omega, by omega⟩
  have HCN : Hid (∀ k, codeN zs k < 256) := fun k => codeN_lt zs k
  have hnP : (C : Int) ≤ (n : Int) * (P : Int) := by
    have h9 : C ≤ n * P := by rw [← hn]; exact hC
    exact_mod_cast h9
  have hC2 : C ≤ 1024 := by
    have h9 : n * P ≤ 64 * 16 := Nat.mul_le_mul hn64 hP
    have h8 : C ≤ n * P := by rw [← hn]; exact hC
    omega
  have hC32 : C ≤ 32 * L := by
    have h9 : 2 * L * P ≤ 2 * L * 16 := Nat.mul_le_mul_left _ hP
    omega
  have HNP : Hid ((C : Int) ≤ (n : Int) * (P : Int)) := hnP
  have HZ : Hid (zs.length = L) := hz
  have HBZ : Hid (∀ z ∈ zs, 0 ≤ z ∧ z ≤ 255) := bz
  have HBT : Hid (∀ t ∈ ts, t < 256) := bt
  have HA : Hid (Holds .u8 w.heap.size w (.slice a L cap) zs) := ha
  have HO : Hid (Flags w.heap.size w (.slice oa on oc) os) := hO
  have HT : Hid (Holds .u8 w.heap.size w (.slice ta tn tc) (ts.map fun t : Nat => (t : Int))) := hT
  have HOL : Hid (os.length = on) := hol
  have HTL : Hid (ts.length = tn) := htl
  have HFW : Hid (Firsts w) := hF
  have b0 : Below w.heap.size w (w.alloc (.cells #[.int .i64 0, .int .i64 0, .slice none 0 0] 24)) := (Below.refl w.heap.size w).alloc (Nat.le_refl _) _
  have x0 := Box.new w 24 #[.int .i64 0, .int .i64 0, .slice none 0 0]
  rw [hn]
  clear hz bz bt ha hO hT hol htl hF hn hnP hC
  go_enter Tryd.func39, Tryd.ntmps39
  go_wp2_with fail
  refine (New_ok (n : Int) (P : Int) HH.out _).mono ?_
  rintro e w1 ⟨rfl, b1⟩
  have bb1 := b0.trans (b1.mono b0.size)
  have x01 := x0.next b1
  have xp := Box.new w1 24 #[.int .i64 (n : Int), .int .i64 (P : Int), .slice none 0 0]
  have b2 : Below w1.heap.size w1 (w1.alloc (.cells #[.int .i64 (n : Int), .int .i64 (P : Int), .slice none 0 0] 24)) := (Below.refl _ _).alloc (Nat.le_refl _) _
  go_wp2_with fail
  obtain ⟨W2, hW2⟩ : ∃ W, w1.alloc (.cells #[.int .i64 (n : Int), .int .i64 (P : Int), .slice none 0 0] 24) = W := ⟨_, rfl⟩
  rw [hW2] at xp b2 ⊢
  clear hW2
  have bb2 := bb1.trans (b2.mono bb1.size)
  have HEN := Encode_ok a L cap zs HZ.out h1 hL HBZ.out 0 C (by omega) W2 (HFW.out.next bb2) (HA.out.next bb2)
  refine HEN.mono ?_
  rintro e w3 ⟨r3, rfl, hK3, b3⟩
  clear HEN
  obtain ⟨hX3, xa, xc, e3, hxc⟩ := hK3
  rw [codeL_len] at e3 hxc
  subst e3
  have xp3 := xp.next b3
  have b23 := b2.trans (b3.mono b2.size)
  have hlp := xp3.lt
  have hcc : ((C : Int) != (C : Int)) = false := by simp
  clear xp b0 b1 b2 b3 x0
  go_wp2
  go_loopw [17] (fun s17 wr => ∃ (k : Nat) (ra : Option Addr) (rc : Nat), k ≤ C ∧ s17 = .int .i64 k ∧ Box wr w1.heap.size 24 #[.int .i64 (n : Int), .int .i64 (P : Int), .slice ra (heardL zs os ts k).length rc] ∧ wr.ownsRow (w1.heap.size + 1) 72 2 (.slice ra (heardL zs os ts k).length rc) (heardL zs os ts k).length (symCells (heardL zs os ts k)) ∧ Holds .u8 wr.heap.size wr (.slice xa C xc) (codeL zs 0 C) ∧ Below w1.heap.size w1 wr) (fun i _ => C - (intOf i).toNat)
  case atStart => exact ⟨0, none, 0, Nat.zero_le _, rfl, xp3, World.ownsRow_nil _ _ _ _, hX3, b23⟩
  case round =>
    obtain ⟨k, ra, rc, hk, rfl, xr, ho, hX, bw⟩ := hrel
    clear xp3 hX3 b23
    have hsz := bw.size
    by_cases hlt : k < C
    · have hcv := HCN.out k
      obtain ⟨xb, xo, rfl, _, hxx⟩ := holds_at hX (codeL_len _ _ _) (by omega)
      have cX := hxx k _ (codeL_get (zs := zs) (f := 0) hlt)
      rw [Nat.zero_add] at cX
      obtain ⟨cv, hcv'⟩ : ∃ cv, codeN zs k = cv := ⟨_, rfl⟩
      rw [hcv'] at cX hcv
      have HCV : Hid (codeN zs k = cv) := hcv'
      have HPO : Hid (PileOk (n : Int) (P : Int) (heardL zs os ts k)) := heardL_ok HH.out HBT.out HCN.out (by have := HNP.out; omega)
      clear hxx hcv'
      by_cases hon : k < on
      · have don : decide ((k : Int) < (on : Int)) = true := decide_eq_true (by omega)
        have donN : decide (k < on) = true := decide_eq_true hon
        obtain ⟨o, hoo⟩ : ∃ o, os[k]? = some o := ⟨os[k]'(by rw [HOL.out]; exact hon), by simp⟩
        obtain ⟨ob, oo, rfl, _, hoc⟩ := flags_at (HO.out.below (bb1.trans (bw.mono bb1.size))) HOL.out (by omega)
        have cO := hoc k o hoo
        have hoe : hOut os k = o := by unfold hOut; rw [hoo]; rfl
        have HOE : Hid (hOut os k = o) := hoe
        clear hoc hoo hoe
        cases o with
        | true =>
          have HHE : Hid (heardL zs os ts (k + 1) = heardL zs os ts k) := heardL_out HOE.out
          go_wp2
          go_roundw
          case rel => exact ⟨k + 1, ra, rc, by omega, by go_num, by rw [HHE.out]; exact xr, by rw [HHE.out]; exact ho, hX, bw⟩
          case measure => simp [intOf]; omega
        | false =>
          have HOUT : Hid (hOut os k = false) := HOE.out
          by_cases htn : k < tn
          · have dt : decide ((k : Int) < (tn : Int)) = true := decide_eq_true (by omega)
            have dtN : decide (k < tn) = true := decide_eq_true htn
            obtain ⟨tv, htv⟩ : ∃ tv, ts[k]? = some tv := ⟨ts[k]'(by rw [HTL.out]; exact htn), by simp⟩
            have ht256 := HBT.out tv (List.mem_of_getElem? htv)
            obtain ⟨tb, to, rfl, _, htc⟩ := holds_at (HT.out.below (bb1.trans (bw.mono bb1.size))) (by rw [List.length_map]; exact HTL.out) (by omega)
            have cT := htc k (tv : Int) (by rw [List.getElem?_map, htv]; rfl)
            obtain ⟨V, hV⟩ : ∃ V, cv ^^^ tv = V := ⟨_, rfl⟩
            have eX : bits .xor .u8 (cv : Int) (tv : Int) = (V : Int) := by rw [zu8_xor cv tv hcv ht256, hV]
            have hVb : V < 256 := by rw [← hV]; exact xor_byte hcv ht256
            have HVV : Hid (hvN zs ts k = V) := by
              show hvN zs ts k = V
              unfold hvN
              rw [HCV.out, htv, ← hV]
              rfl
            have ewV : IntKind.i64.wrap (V : Int) = (V : Int) := by rw [IntKind.wrap_i64]; omega
            clear htc htv hV
            have HPT := Put_in (n : Int) (P : Int) (k : Int) (V : Int) (by omega) (by omega) (by omega) (by omega) ra rc (heardL zs os ts k) HPO.out wr (syms_of_row ho) (rowCap_of ho)
            rw [show putN (n : Int) (P : Int) (heardL zs os ts k) (k : Int) (V : Int) = heardL zs os ts (k + 1) by rw [← HVV.out]; exact heardL_put HOUT.out (by have := HNP.out; omega)] at HPT
            have d0 := xr.cell 0 _ rfl
            have d1 := xr.cell 1 _ rfl
            have d2 := xr.cell 2 _ rfl
            go_wp2_with fail
            refine HPT.mono ?_
            rintro e w4 ⟨r4, rfl, o4, b4⟩
            clear HPT d0 d1 d2
            obtain ⟨r4a, r4c, e4⟩ := (syms_of_row o4).shape
            subst e4
            have x4 := xr.next b4
            have hX4 := hX.next b4
            have b5 : Below w1.heap.size w1 w4 := bw.trans (b4.mono hsz)
            obtain ⟨hl', hhl⟩ : ∃ hl', (heardL zs os ts (k + 1)).length = hl' := ⟨_, rfl⟩
            rw [hhl] at o4 ⊢
            have HHL : Hid ((heardL zs os ts (k + 1)).length = hl') := hhl
            have k0 := x4.cell 0 _ rfl
            have k1 := x4.cell 1 _ rfl
            have k2 := x4.cell 2 _ rfl
            have f0 := x4.free 0
            have f1 := x4.free 1
            have f2 := x4.free 2
            have xn := Box.new w4 24 #[.int .i64 (n : Int), .int .i64 (P : Int), .slice r4a hl' r4c]
            have x5 := x4.alloc (.cells #[.int .i64 (n : Int), .int .i64 (P : Int), .slice r4a hl' r4c] 24)
            have p0 := x5.cell 0 _ rfl
            have p1 := x5.cell 1 _ rfl
            have p2 := x5.cell 2 _ rfl
            have g0 := x5.free 0
            have g1 := x5.free 1
            have g2 := x5.free 2
            have hne : ¬ w1.heap.size = w4.heap.size := by have := x4.lt; omega
            have hne2 : ¬ w4.heap.size = w1.heap.size := by have := x4.lt; omega
            have m0 := xn.cell 0 _ rfl
            have m1 := xn.cell 1 _ rfl
            have m2 := xn.cell 2 _ rfl
            clear hhl
            go_wp2
            have hlr := xr.lt
            exact ⟨⟨k + 1, r4a, r4c, by omega, by go_num, by rw [HHL.out]; exact x5.set3 _ _ _, by rw [HHL.out]; exact row_set3 ((rowN_base o4 hlr).alloc _) (D := w1.heap.size) (by omega) _ _ _, (bytes_box (hX4.next ((Below.refl _ _).alloc (Nat.le_refl _) _)) x5 _ _ _).mono (by simp [World.setCell]), below_set3 (b5.alloc b5.size _) (D := w1.heap.size) (Nat.le_refl _) _ _ _⟩, by simp [intOf]; omega⟩
          · have dt : decide ((k : Int) < (tn : Int)) = false := decide_eq_false (by omega)
            have dtN : decide (k < tn) = false := decide_eq_false htn
            obtain ⟨V, hV⟩ : ∃ V, cv = V := ⟨_, rfl⟩
            subst hV
            have HVV : Hid (hvN zs ts k = cv) := by
              show hvN zs ts k = cv
              unfold hvN
              rw [HCV.out, List.getElem?_eq_none (by rw [HTL.out]; omega)]
              simp
            have ewV : IntKind.i64.wrap (cv : Int) = (cv : Int) := by rw [IntKind.wrap_i64]; omega
            have HPT := Put_in (n : Int) (P : Int) (k : Int) (cv : Int) (by omega) (by omega) (by omega) (by omega) ra rc (heardL zs os ts k) HPO.out wr (syms_of_row ho) (rowCap_of ho)
            rw [show putN (n : Int) (P : Int) (heardL zs os ts k) (k : Int) (cv : Int) = heardL zs os ts (k + 1) by rw [← HVV.out]; exact heardL_put HOUT.out (by have := HNP.out; omega)] at HPT
            have d0 := xr.cell 0 _ rfl
            have d1 := xr.cell 1 _ rfl
            have d2 := xr.cell 2 _ rfl
            go_wp2_with fail
            refine HPT.mono ?_
            rintro e w4 ⟨r4, rfl, o4, b4⟩
            clear HPT d0 d1 d2
            obtain ⟨r4a, r4c, e4⟩ := (syms_of_row o4).shape
            subst e4
            have x4 := xr.next b4
            have hX4 := hX.next b4
            have b5 : Below w1.heap.size w1 w4 := bw.trans (b4.mono hsz)
            obtain ⟨hl', hhl⟩ : ∃ hl', (heardL zs os ts (k + 1)).length = hl' := ⟨_, rfl⟩
            rw [hhl] at o4 ⊢
            have HHL : Hid ((heardL zs os ts (k + 1)).length = hl') := hhl
            have k0 := x4.cell 0 _ rfl
            have k1 := x4.cell 1 _ rfl
            have k2 := x4.cell 2 _ rfl
            have f0 := x4.free 0
            have f1 := x4.free 1
            have f2 := x4.free 2
            have xn := Box.new w4 24 #[.int .i64 (n : Int), .int .i64 (P : Int), .slice r4a hl' r4c]
            have x5 := x4.alloc (.cells #[.int .i64 (n : Int), .int .i64 (P : Int), .slice r4a hl' r4c] 24)
            have p0 := x5.cell 0 _ rfl
            have p1 := x5.cell 1 _ rfl
            have p2 := x5.cell 2 _ rfl
            have g0 := x5.free 0
            have g1 := x5.free 1
            have g2 := x5.free 2
            have hne : ¬ w1.heap.size = w4.heap.size := by have := x4.lt; omega
            have hne2 : ¬ w4.heap.size = w1.heap.size := by have := x4.lt; omega
            have m0 := xn.cell 0 _ rfl
            have m1 := xn.cell 1 _ rfl
            have m2 := xn.cell 2 _ rfl
            clear hhl
            go_wp2
            have hlr := xr.lt
            exact ⟨⟨k + 1, r4a, r4c, by omega, by go_num, by rw [HHL.out]; exact x5.set3 _ _ _, by rw [HHL.out]; exact row_set3 ((rowN_base o4 hlr).alloc _) (D := w1.heap.size) (by omega) _ _ _, (bytes_box (hX4.next ((Below.refl _ _).alloc (Nat.le_refl _) _)) x5 _ _ _).mono (by simp [World.setCell]), below_set3 (b5.alloc b5.size _) (D := w1.heap.size) (Nat.le_refl _) _ _ _⟩, by simp [intOf]; omega⟩
      · have don : decide ((k : Int) < (on : Int)) = false := decide_eq_false (by omega)
        have donN : decide (k < on) = false := decide_eq_false hon
        have HOUT : Hid (hOut os k = false) := by
          show hOut os k = false
          unfold hOut
          rw [List.getElem?_eq_none (by rw [HOL.out]; omega)]
          rfl
        by_cases htn : k < tn
        · have dt : decide ((k : Int) < (tn : Int)) = true := decide_eq_true (by omega)
          have dtN : decide (k < tn) = true := decide_eq_true htn
          obtain ⟨tv, htv⟩ : ∃ tv, ts[k]? = some tv := ⟨ts[k]'(by rw [HTL.out]; exact htn), by simp⟩
          have ht256 := HBT.out tv (List.mem_of_getElem? htv)
          obtain ⟨tb, to, rfl, _, htc⟩ := holds_at (HT.out.below (bb1.trans (bw.mono bb1.size))) (by rw [List.length_map]; exact HTL.out) (by omega)
          have cT := htc k (tv : Int) (by rw [List.getElem?_map, htv]; rfl)
          obtain ⟨V, hV⟩ : ∃ V, cv ^^^ tv = V := ⟨_, rfl⟩
          have eX : bits .xor .u8 (cv : Int) (tv : Int) = (V : Int) := by rw [zu8_xor cv tv hcv ht256, hV]
          have hVb : V < 256 := by rw [← hV]; exact xor_byte hcv ht256
          have HVV : Hid (hvN zs ts k = V) := by
            show hvN zs ts k = V
            unfold hvN
            rw [HCV.out, htv, ← hV]
            rfl
          have ewV : IntKind.i64.wrap (V : Int) = (V : Int) := by rw [IntKind.wrap_i64]; omega
          clear htc htv hV
          have HPT := Put_in (n : Int) (P : Int) (k : Int) (V : Int) (by omega) (by omega) (by omega) (by omega) ra rc (heardL zs os ts k) HPO.out wr (syms_of_row ho) (rowCap_of ho)
          rw [show putN (n : Int) (P : Int) (heardL zs os ts k) (k : Int) (V : Int) = heardL zs os ts (k + 1) by rw [← HVV.out]; exact heardL_put HOUT.out (by have := HNP.out; omega)] at HPT
          have d0 := xr.cell 0 _ rfl
          have d1 := xr.cell 1 _ rfl
          have d2 := xr.cell 2 _ rfl
          go_wp2_with fail
          refine HPT.mono ?_
          rintro e w4 ⟨r4, rfl, o4, b4⟩
          clear HPT d0 d1 d2
          obtain ⟨r4a, r4c, e4⟩ := (syms_of_row o4).shape
          subst e4
          have x4 := xr.next b4
          have hX4 := hX.next b4
          have b5 : Below w1.heap.size w1 w4 := bw.trans (b4.mono hsz)
          obtain ⟨hl', hhl⟩ : ∃ hl', (heardL zs os ts (k + 1)).length = hl' := ⟨_, rfl⟩
          rw [hhl] at o4 ⊢
          have HHL : Hid ((heardL zs os ts (k + 1)).length = hl') := hhl
          have k0 := x4.cell 0 _ rfl
          have k1 := x4.cell 1 _ rfl
          have k2 := x4.cell 2 _ rfl
          have f0 := x4.free 0
          have f1 := x4.free 1
          have f2 := x4.free 2
          have xn := Box.new w4 24 #[.int .i64 (n : Int), .int .i64 (P : Int), .slice r4a hl' r4c]
          have x5 := x4.alloc (.cells #[.int .i64 (n : Int), .int .i64 (P : Int), .slice r4a hl' r4c] 24)
          have p0 := x5.cell 0 _ rfl
          have p1 := x5.cell 1 _ rfl
          have p2 := x5.cell 2 _ rfl
          have g0 := x5.free 0
          have g1 := x5.free 1
          have g2 := x5.free 2
          have hne : ¬ w1.heap.size = w4.heap.size := by have := x4.lt; omega
          have hne2 : ¬ w4.heap.size = w1.heap.size := by have := x4.lt; omega
          have m0 := xn.cell 0 _ rfl
          have m1 := xn.cell 1 _ rfl
          have m2 := xn.cell 2 _ rfl
          clear hhl
          go_wp2
          have hlr := xr.lt
          exact ⟨⟨k + 1, r4a, r4c, by omega, by go_num, by rw [HHL.out]; exact x5.set3 _ _ _, by rw [HHL.out]; exact row_set3 ((rowN_base o4 hlr).alloc _) (D := w1.heap.size) (by omega) _ _ _, (bytes_box (hX4.next ((Below.refl _ _).alloc (Nat.le_refl _) _)) x5 _ _ _).mono (by simp [World.setCell]), below_set3 (b5.alloc b5.size _) (D := w1.heap.size) (Nat.le_refl _) _ _ _⟩, by simp [intOf]; omega⟩
        · have dt : decide ((k : Int) < (tn : Int)) = false := decide_eq_false (by omega)
          have dtN : decide (k < tn) = false := decide_eq_false htn
          obtain ⟨V, hV⟩ : ∃ V, cv = V := ⟨_, rfl⟩
          subst hV
          have HVV : Hid (hvN zs ts k = cv) := by
            show hvN zs ts k = cv
            unfold hvN
            rw [HCV.out, List.getElem?_eq_none (by rw [HTL.out]; omega)]
            simp
          have ewV : IntKind.i64.wrap (cv : Int) = (cv : Int) := by rw [IntKind.wrap_i64]; omega
          have HPT := Put_in (n : Int) (P : Int) (k : Int) (cv : Int) (by omega) (by omega) (by omega) (by omega) ra rc (heardL zs os ts k) HPO.out wr (syms_of_row ho) (rowCap_of ho)
          rw [show putN (n : Int) (P : Int) (heardL zs os ts k) (k : Int) (cv : Int) = heardL zs os ts (k + 1) by rw [← HVV.out]; exact heardL_put HOUT.out (by have := HNP.out; omega)] at HPT
          have d0 := xr.cell 0 _ rfl
          have d1 := xr.cell 1 _ rfl
          have d2 := xr.cell 2 _ rfl
          go_wp2_with fail
          refine HPT.mono ?_
          rintro e w4 ⟨r4, rfl, o4, b4⟩
          clear HPT d0 d1 d2
          obtain ⟨r4a, r4c, e4⟩ := (syms_of_row o4).shape
          subst e4
          have x4 := xr.next b4
          have hX4 := hX.next b4
          have b5 : Below w1.heap.size w1 w4 := bw.trans (b4.mono hsz)
          obtain ⟨hl', hhl⟩ : ∃ hl', (heardL zs os ts (k + 1)).length = hl' := ⟨_, rfl⟩
          rw [hhl] at o4 ⊢
          have HHL : Hid ((heardL zs os ts (k + 1)).length = hl') := hhl
          have k0 := x4.cell 0 _ rfl
          have k1 := x4.cell 1 _ rfl
          have k2 := x4.cell 2 _ rfl
          have f0 := x4.free 0
          have f1 := x4.free 1
          have f2 := x4.free 2
          have xn := Box.new w4 24 #[.int .i64 (n : Int), .int .i64 (P : Int), .slice r4a hl' r4c]
          have x5 := x4.alloc (.cells #[.int .i64 (n : Int), .int .i64 (P : Int), .slice r4a hl' r4c] 24)
          have p0 := x5.cell 0 _ rfl
          have p1 := x5.cell 1 _ rfl
          have p2 := x5.cell 2 _ rfl
          have g0 := x5.free 0
          have g1 := x5.free 1
          have g2 := x5.free 2
          have hne : ¬ w1.heap.size = w4.heap.size := by have := x4.lt; omega
          have hne2 : ¬ w4.heap.size = w1.heap.size := by have := x4.lt; omega
          have m0 := xn.cell 0 _ rfl
          have m1 := xn.cell 1 _ rfl
          have m2 := xn.cell 2 _ rfl
          clear hhl
          go_wp2
          have hlr := xr.lt
          exact ⟨⟨k + 1, r4a, r4c, by omega, by go_num, by rw [HHL.out]; exact x5.set3 _ _ _, by rw [HHL.out]; exact row_set3 ((rowN_base o4 hlr).alloc _) (D := w1.heap.size) (by omega) _ _ _, (bytes_box (hX4.next ((Below.refl _ _).alloc (Nat.le_refl _) _)) x5 _ _ _).mono (by simp [World.setCell]), below_set3 (b5.alloc b5.size _) (D := w1.heap.size) (Nat.le_refl _) _ _ _⟩, by simp [intOf]; omega⟩
    · obtain rfl : k = C := by omega
      have x0r : Box wr w.heap.size 24 #[.int .i64 0, .int .i64 0, .slice none 0 0] := x01.next bw
      have d0 := xr.cell 0 _ rfl
      have d1 := xr.cell 1 _ rfl
      have d2 := xr.cell 2 _ rfl
      have z0 := x0r.cell 0 _ rfl
      have z1 := x0r.cell 1 _ rfl
      have z2 := x0r.cell 2 _ rfl
      have f0 := x0r.free 0
      have f1 := x0r.free 1
      have f2 := x0r.free 2
      have hnn : ((n : Int) == (n : Int)) = true := by simp
      have hl01 := x01.lt
      have hlr := xr.lt
      have hne : ¬ w.heap.size = w1.heap.size := by omega
      have hne2 : ¬ w1.heap.size = w.heap.size := by omega
      go_wp2
      go_region
      have hb1 := bb1.size
      go_wp2
      refine bodyPost_ret (v := .tuple #[.agg #[.int .i64 (n : Int), .int .i64 (P : Int), .slice ra (heardL zs os ts k).length rc], .bool true]) (by simp [results, Tryd.results39, go_sem, z0, z1, z2]) rfl ⟨_, rfl, ?_, ?_⟩
      · exact rowN_base (row_set3 ho (D := w.heap.size) (by omega) _ _ _) (by omega)
      · exact (below_set3 (bb1.trans (bw.mono hb1)) (D := w.heap.size) (Nat.le_refl _) _ _ _).drew

end Go.Proofs.YtddcloanbpkecaaDoor
