/-
  DataCuts: the walk: whatever the data, the cut, the bytes more, the place and the turn, the law answers true, and nothing that lay has turned. (Written by tpl_datacuts.py.)
-/
import Derived.Test.YtpfhnefgibiedaaDataReadsWalk
import Derived.Test.YtpfhnefgibiedaaCrcBurstWalk
namespace Go.Proofs.Ytpfhnefgibiedaa
open Go.RowKit

theorem BRow.next {W W' : World} {g : Nat} {zs : List Int} (h : BRow W g zs) (hb : Below W.heap.size W W') : BRow W' g zs := h.below hb h.1
theorem BRow.take {W : World} {g : Nat} {zs : List Int} (h : BRow W g zs) (k cap : Nat) (hk : k ≤ zs.length) : Holds .u8 W.heap.size W (.slice (some ⟨g, 0, none⟩) k cap) (zs.take k) := by
  have hl : (zs.take k).length = k := by rw [List.length_take]; omega
  have := holds_takeB (h.holds h.1 cap) k hk
  rw [hl] at this
  exact this
/-- The symbols, with one turned about. -/
def turnedX (xs : List Int) (k : Nat) (x t : Nat) : List Int := xs.set k ((x ^^^ t : Nat) : Int)
theorem turnedX_len (xs : List Int) (k x t : Nat) : (turnedX xs k x t).length = xs.length := by unfold turnedX; rw [List.length_set]
theorem turnedX_bd {xs : List Int} (bx : ∀ z ∈ xs, 0 ≤ z ∧ z ≤ 255) (k : Nat) {x t : Nat} (hx : x < 256) (ht : t < 256) : ∀ z ∈ turnedX xs k x t, 0 ≤ z ∧ z ≤ 255 := fun z hz => by
  rcases List.mem_or_eq_of_mem_set hz with h | rfl
  · exact bx z h
  · have : x ^^^ t < 2 ^ 8 := xor_lt (by omega) (by omega)
    omega

set_option maxRecDepth 100000 in
set_option maxHeartbeats 4000000 in
theorem dataCuts_more (s r f : Int) (a : Option Addr) (cap : Nat) (xs : List Int) (hl : xs.length ≤ 200) (bx : ∀ z ∈ xs, 0 ≤ z ∧ z ≤ 255) (hR : RightD s r f xs) (cut at_ : Int) (am : Option Addr) (capm : Nat) (ms : List Int) (hlm : ms.length ≤ 100) (bm : ∀ z ∈ ms, 0 ≤ z ∧ z ≤ 255) (hm0 : 0 < ms.length) (tt : Nat) (htt : tt < 256) (w : World) (ha : Holds .u8 w.heap.size w (.slice a xs.length cap) xs) (hm : Holds .u8 w.heap.size w (.slice am ms.length capm) ms) :
    Calls Try.prog 5 #[.agg #[.int .i64 s, .int .i64 r, .int .i64 f, .slice a xs.length cap], .int .i64 cut, .slice am ms.length capm, .int .i64 at_, .int .u8 tt] w fun e w' => e = .returned (.bool true) ∧ Below w.heap.size w w' := by
  have HBX : Hid (∀ z ∈ xs, 0 ≤ z ∧ z ≤ 255) := bx
  have HBM : Hid (∀ z ∈ ms, 0 ≤ z ∧ z ≤ 255) := bm
  have HR : Hid (RightD s r f xs) := hR
  have hx1 := hR.2.2.2.1
  have hx64 := hR.2.2.2.2
  have dl : decide (200 < (xs.length : Int)) = false := decide_eq_false (by omega)
  have dk : decide (200 < xs.length) = false := decide_eq_false (by omega)
  have dlm : decide (100 < (ms.length : Int)) = false := decide_eq_false (by omega)
  have dkm : decide (100 < ms.length) = false := decide_eq_false (by omega)
  have dmm : decide (0 < (ms.length : Int)) = true := decide_eq_true (by omega)
  have dmn : decide (0 < ms.length) = true := decide_eq_true hm0
  obtain ⟨p, hp, et⟩ := at_place cut ((xs.length : Int) + 11) (by omega)
  have hn0 : ¬ (xs.length : Int) + 11 = 0 := by omega
  obtain ⟨q, hq, eq_⟩ := at_place at_ (xs.length : Int) (by omega)
  have hn1 : ¬ (xs.length : Int) = 0 := by omega
  have hn2 : ¬ xs.length = 0 := by omega
  have hq' : q < xs.length := by omega
  have hp' : p < xs.length + 11 := by omega
  have eq4 : ((xs.length : Int) + 11 != 11 + (xs.length : Int)) = false := by rw [bne_eq_false_iff_eq]; omega
  have eqx : ((xs.length : Int) != (xs.length : Int)) = false := by simp
  have eqs : (s != s) = false := by simp
  have eqr : (r != r) = false := by simp
  have eqf : (f != f) = false := by simp
  have H0 : Hid (Holds .u8 w.heap.size w (.slice a xs.length cap) xs) := ha
  have bb : Below w.heap.size w (w.alloc (.cells #[.int .i64 s, .int .i64 r, .int .i64 f, .slice a xs.length cap] 24)) := (Below.refl w.heap.size w).alloc (Nat.le_refl _) _
  have xa := Box.new w 24 #[.int .i64 s, .int .i64 r, .int .i64 f, .slice a xs.length cap]
  replace ha := ha.next bb
  replace hm := hm.next bb
  clear bx bm hR
  go_enter Try.func5, Try.ntmps5
  have HC := DataMake_ok s r f a cap xs HR.out HBX.out _ ha
  have cxa0 := xa.cell 0 _ rfl
  have cxa1 := xa.cell 1 _ rfl
  have cxa2 := xa.cell 2 _ rfl
  have cxa3 := xa.cell 3 _ rfl
  go_wp2_with fail
  refine (HC).mono ?_
  rintro e w1 ⟨q1, rfl, o9, b9⟩
  clear cxa0 cxa1 cxa2 cxa3
  replace xa := xa.next b9
  replace ha := ha.next b9
  replace hm := hm.next b9
  replace bb := bb.trans (b9.mono bb.size)
  clear b9
  clear HC
  obtain ⟨g, c1, rfl, hg0, hg'⟩ := own_block o9 (by omega)
  have hg : w.heap.size + 1 ≤ g := by simp at hg0; omega
  have hc1 := row_cap o9
  have hB : BRow w1 g (packD s r f xs) := .of_own o9
  clear o9 hg0 hg'
  have HPL : Hid ((packD s r f xs).length = xs.length + 11) := packD_len s r f xs
  have htl : ((packD s r f xs).take p).length = p := by rw [List.length_take, HPL.out]; omega
  have HC := DataRead_no (some ⟨g, 0, none⟩) c1 ((packD s r f xs).take p) (by rw [htl]; omega) (by rw [htl]; omega) (fun z hz => packD_bd HR.out HBX.out z (List.mem_of_mem_take hz)) 2 (badD_cut HR.out p hp') w1 (by rw [htl]; exact hB.take p c1 (by rw [HPL.out]; omega))
  rw [htl] at HC
  clear htl
  have hpc : (p : Int) ≤ (c1 : Int) := by omega
  have hpc' : p ≤ c1 := by omega
  have cxa0 := xa.cell 0 _ rfl
  have cxa1 := xa.cell 1 _ rfl
  have cxa2 := xa.cell 2 _ rfl
  have cxa3 := xa.cell 3 _ rfl
  go_wp2_with fail
  refine (HC).mono ?_
  rintro e w2 ⟨rfl, b9⟩
  clear cxa0 cxa1 cxa2 cxa3
  replace xa := xa.next b9
  replace ha := ha.next b9
  replace hm := hm.next b9
  replace hB := hB.next b9
  replace bb := bb.trans (b9.mono bb.size)
  clear b9
  clear HC
  obtain ⟨B, hBk⟩ : ∃ n, w2.heap.size = n := ⟨_, rfl⟩
  have hgB : g < B := by have := hB.1; omega
  have hwB : w.heap.size < B := by have := xa.lt; omega
  have b9 : Below w2.heap.size w2 (w2.alloc (.cells #[.int .i64 0, .int .i64 0, .int .i64 0, .slice none 0 0] 24)) := (Below.refl _ _).alloc (Nat.le_refl _) _
  have xx := Box.new w2 24 #[.int .i64 0, .int .i64 0, .int .i64 0, .slice none 0 0]
  replace xa := xa.next b9
  replace ha := ha.next b9
  replace hm := hm.next b9
  replace hB := hB.next b9
  replace bb := bb.trans (b9.mono bb.size)
  clear b9
  rw [hBk] at xx
  have HC := keepData_any 0 0 0 0 0 0 (.slice none 0 0) (.slice none 0 0) [] [] (w2.alloc (.cells #[.int .i64 0, .int .i64 0, .int .i64 0, .slice none 0 0] 24)) _ _ (Nat.le_refl _) (Nat.le_refl _) (by decide) (holds_nilB _ _) (holds_nilB _ _)
  rw [decide_eq_true ⟨rfl, rfl, rfl, rfl⟩] at HC
  have cxx0 := xx.cell 0 _ rfl
  have cxx1 := xx.cell 1 _ rfl
  have cxx2 := xx.cell 2 _ rfl
  have cxx3 := xx.cell 3 _ rfl
  go_wp2_with fail
  refine (HC).mono ?_
  rintro e w3 ⟨rfl, b9⟩
  clear cxx0 cxx1 cxx2 cxx3
  replace xa := xa.next b9
  replace ha := ha.next b9
  replace hm := hm.next b9
  replace hB := hB.next b9
  replace xx := xx.next b9
  replace bb := bb.trans (b9.mono bb.size)
  clear b9
  clear HC
  clear hBk
  have HC := twin_any (.slice (some ⟨g, 0, none⟩) (xs.length + 11) c1) (packD s r f xs) w3.heap.size (by rw [HPL.out]; omega) w3 (by have := hB.holds hB.1 c1; rw [HPL.out] at this; exact this)
  rw [HPL.out] at HC
  go_wp2_with fail
  refine (HC).mono ?_
  rintro e w4 ⟨q5, rfl, o5, bT⟩
  clear HC
  obtain ⟨v6, w5, hr6, o6, g6⟩ := run_append_u8 _ (.slice am ms.length capm) (xs.length + 11) w3.heap.size _ _ ms 22 w4 o5 (hm.next bT) bT.size (by omega) (by omega)
  have b9 : Below w3.heap.size w3 w5 := bT.trans ((Below.refl _ _).grown g6 bT.size (fun z e => (o5.lt z e).1))
  obtain ⟨va, vc, rfl⟩ := row_shapeP o6
  have hv := holds_of_row o6
  have hvc := row_cap o6
  replace xa := xa.next b9
  replace ha := ha.next b9
  replace hm := hm.next b9
  replace hB := hB.next b9
  replace xx := xx.next b9
  replace bb := bb.trans (b9.mono bb.size)
  clear b9 o5 g6 bT
  go_wp2_with (at_builtin; refine wpList_append_run rfl _ _ 22 rfl _ _ rfl rfl _ _ hr6 ?_)
  clear hr6 o6
  have hml : (packD s r f xs ++ ms).length = xs.length + 11 + ms.length := by rw [List.length_append, HPL.out]
  have HC := DataRead_no va vc (packD s r f xs ++ ms) (by rw [hml]; omega) (by rw [hml]; exact hvc) (fun z hz => (List.mem_append.1 hz).elim (packD_bd HR.out HBX.out z) (HBM.out z)) 2 (badD_more HR.out ms hm0) _ (by rw [hml]; exact hv)
  rw [hml] at HC
  clear hml hv hvc
  go_wp2_with fail
  refine (HC).mono ?_
  rintro e w6 ⟨rfl, b9⟩
  replace xa := xa.next b9
  replace ha := ha.next b9
  replace hm := hm.next b9
  replace hB := hB.next b9
  replace xx := xx.next b9
  replace bb := bb.trans (b9.mono bb.size)
  clear b9
  clear HC
  obtain ⟨x, hx, hx2⟩ : ∃ x : Nat, xs[q]? = some (x : Int) ∧ x < 256 := by
    have := HBX.out _ (List.getElem_mem hq')
    exact ⟨xs[q].toNat, by rw [List.getElem?_eq_getElem hq']; congr 1; omega, by omega⟩
  have hx3 : (packD s r f xs)[11 + q]? = some (x : Int) := by
    have : (packD s r f xs).drop 11 = xs := dX_pack s r f xs
    rw [← List.getElem?_drop, this]
    exact hx
  have cxa3 := xa.cell 3 _ rfl
  have c1q := hB.cell hx3
  have f1q := hB.2.2 (11 + q)
  have exx : bits .xor .u8 (x : Int) (tt : Int) = ((x ^^^ tt : Nat) : Int) := zu8_xor x tt hx2 htt
  have hB2 := hB.set (11 + q) (by rw [HPL.out]; omega) ((x ^^^ tt : Nat) : Int)
  rw [packD_set] at hB2
  change BRow _ g (packD s r f (turnedX xs q x tt)) at hB2
  have b9 : Below (w.heap.size + 1) w6 (w6.setCell ⟨g, 11 + q, none⟩ (.int .u8 ((x ^^^ tt : Nat) : Int))) := (Below.refl _ _).setCell (p := ⟨g, 11 + q, none⟩) hg _
  replace xa := xa.other (p := ⟨g, 11 + q, none⟩) (by show w.heap.size ≠ g; omega) (.int .u8 ((x ^^^ tt : Nat) : Int))
  replace xx := xx.other (p := ⟨g, 11 + q, none⟩) (by show B ≠ g; omega) (.int .u8 ((x ^^^ tt : Nat) : Int))
  replace bb := bb.setCell (p := ⟨g, 11 + q, none⟩) (by show w.heap.size ≤ g; omega) (.int .u8 ((x ^^^ tt : Nat) : Int))
  clear b9 ha hm hB
  have hQc : 11 + q < xs.length + 11 := by omega
  have hQd : (11 : Int) + (q : Int) < (xs.length : Int) + 11 := by omega
  have hX64 : RightD s r f (turnedX xs q x tt) := by
    have h := HR.out
    refine ⟨h.1, h.2.1, h.2.2.1, ?_, ?_⟩
    · rw [turnedX_len]; exact h.2.2.2.1
    · rw [turnedX_len]; exact h.2.2.2.2
  have HPL2 : Hid ((packD s r f (turnedX xs q x tt)).length = xs.length + 11) := by
    show (packD s r f (turnedX xs q x tt)).length = _
    rw [packD_len, turnedX_len]
  have HC := DataRead_ok (some ⟨g, 0, none⟩) c1 (packD s r f (turnedX xs q x tt)) (by rw [HPL2.out]; exact hc1) (packD_bd hX64 (turnedX_bd HBX.out q hx2 htt)) (okD_pack hX64) _ (by have := hB2.holds hB2.1 c1; exact this)
  rw [HPL2.out, dS_pack hX64, dR_pack, dF_pack hX64, dX_pack, turnedX_len] at HC
  clear hX64 HPL2 HPL
  go_wp2_with fail
  refine HC.mono ?_
  rintro e w7 ⟨ya, yc, rfl, oy, b9⟩
  clear HC cxa3 c1q f1q
  have hDB := xx.lt
  replace xa := xa.next b9
  replace xx := xx.next b9
  replace bb := bb.trans (b9.mono bb.size)
  clear b9 hB2
  obtain ⟨gy, cy, ey, hgy, hgy2⟩ := own_block oy (by omega)
  cases ey
  have HY := row_set4 oy hDB (.int .i64 s) (.int .i64 r) (.int .i64 f) (.slice (some ⟨gy, 0, none⟩) xs.length yc)
  have cxx0 := xx.cell 0 _ rfl
  have cxx1 := xx.cell 1 _ rfl
  have cxx2 := xx.cell 2 _ rfl
  have cxx3 := xx.cell 3 _ rfl
  have fxx0 := xx.free 0
  have fxx1 := xx.free 1
  have fxx2 := xx.free 2
  have fxx3 := xx.free 3
  replace xa := (((xa.other (p := ⟨B, 0, none⟩) (by show w.heap.size ≠ B; omega) (.int .i64 s)).other (p := ⟨B, 1, none⟩) (by show w.heap.size ≠ B; omega) (.int .i64 r)).other (p := ⟨B, 2, none⟩) (by show w.heap.size ≠ B; omega) (.int .i64 f)).other (p := ⟨B, 3, none⟩) (by show w.heap.size ≠ B; omega) (.slice (some ⟨gy, 0, none⟩) xs.length yc)
  replace xx := xx.set4 (.int .i64 s) (.int .i64 r) (.int .i64 f) (.slice (some ⟨gy, 0, none⟩) xs.length yc)
  replace bb := below_set4 bb (D := B) (by omega) (.int .i64 s) (.int .i64 r) (.int .i64 f) (.slice (some ⟨gy, 0, none⟩) xs.length yc)
  have ha := H0.out.below bb
  obtain ⟨b0, off0, ea0, hb0, hcs⟩ := holds_at ha rfl (by omega)
  subst ea0
  have kx0 := xx.cell 0 _ rfl
  have kx1 := xx.cell 1 _ rfl
  have kx2 := xx.cell 2 _ rfl
  have kx3 := xx.cell 3 _ rfl
  have ka0 := xa.cell 0 _ rfl
  have ka1 := xa.cell 1 _ rfl
  have ka2 := xa.cell 2 _ rfl
  have ka3 := xa.cell 3 _ rfl
  have HYC : Hid (∀ j, j < xs.length → ((((w7.setCell ⟨B, 0, none⟩ (.int .i64 s)).setCell ⟨B, 1, none⟩ (.int .i64 r)).setCell ⟨B, 2, none⟩ (.int .i64 f)).setCell ⟨B, 3, none⟩ (.slice (some ⟨gy, 0, none⟩) xs.length yc)).cell? ⟨gy, j, none⟩ = some (.int .u8 ((turnedX xs q x tt)[j]?.getD 0))) := fun j hj => by
    have := HY.cells (g := gy) rfl j (.int .u8 ((turnedX xs q x tt)[j]?.getD 0)) (by simp [turnedX_len, hj])
    rw [Addr.add_lit, Nat.zero_add] at this
    exact this
  have HCS : Hid (∀ (j : Nat) (z : Int), xs[j]? = some z → _) := hcs
  clear hcs ha oy HY
  go_wp2_with fail
  generalize ((((w7.setCell ⟨B, 0, none⟩ (.int .i64 s)).setCell ⟨B, 1, none⟩ (.int .i64 r)).setCell ⟨B, 2, none⟩ (.int .i64 f)).setCell ⟨B, 3, none⟩ (.slice (some ⟨gy, 0, none⟩) xs.length yc)) = W9 at *
  clear cxx0 cxx1 cxx2 cxx3 fxx0 fxx1 fxx2 fxx3
  go_loop [15, 16] (fun i _ => ∃ k : Nat, k ≤ xs.length ∧ i = .int .i64 k) (fun i _ => xs.length - (intOf i).toNat)
  case atStart => exact ⟨0, Nat.zero_le _, rfl⟩
  case round =>
    obtain ⟨k, hk, rfl⟩ := hrel
    by_cases hlt : k < xs.length
    · have hltI : decide ((k : Int) < (xs.length : Int)) = true := decide_eq_true (by omega)
      have hltN : decide (k < xs.length) = true := decide_eq_true hlt
      by_cases hkq : k = q
      · subst hkq
        have g1 := HCS.out k (x : Int) hx
        have g2 : W9.cell? ⟨gy, k, none⟩ = some (.int .u8 ((x ^^^ tt : Nat) : Int)) := by
          have := HYC.out k hlt
          unfold turnedX at this
          rw [List.getElem?_set_self hlt] at this
          exact this
        have ekk : ((k : Int) == (k : Int)) = true := by simp
        have eyy : (((x ^^^ tt : Nat) : Int) != ((x ^^^ tt : Nat) : Int)) = false := by simp
        clear hx
        go_wp2
        go_round
        case rel => exact ⟨k + 1, by omega, by go_num⟩
        case measure => simp [intOf]; omega
      · obtain ⟨z, hz⟩ : ∃ z, xs[k]? = some z := ⟨xs[k], List.getElem?_eq_getElem hlt⟩
        have g1 := HCS.out k z hz
        have g2 : W9.cell? ⟨gy, k, none⟩ = some (.int .u8 z) := by
          have := HYC.out k hlt
          unfold turnedX at this
          rw [List.getElem?_set_ne (by omega), hz] at this
          exact this
        have ekk : ((k : Int) == (q : Int)) = false := by rw [beq_eq_false_iff_ne]; omega
        have ekn : (k == q) = false := by rw [beq_eq_false_iff_ne]; exact hkq
        have eyy : (z != z) = false := by simp
        clear hz hx hkq
        go_wp2
        go_round
        case rel => exact ⟨k + 1, by omega, by go_num⟩
        case measure => simp [intOf]; omega
    · obtain rfl : k = xs.length := by omega
      have hltI : decide ((xs.length : Int) < (xs.length : Int)) = false := decide_eq_false (by omega)
      have hltN : decide (xs.length < xs.length) = false := decide_eq_false (by omega)
      have HWK := dataWakes_any W9
      clear hlt
      go_wp2_with (go_at_call 13; refine HWK.mono ?_; rintro e w99 ⟨rfl, b99⟩)
      go_ret
      exact ⟨rfl, bb.trans (b99.mono bb.size)⟩

set_option maxRecDepth 100000 in
set_option maxHeartbeats 4000000 in
theorem dataCuts_none (s r f : Int) (a : Option Addr) (cap : Nat) (xs : List Int) (hl : xs.length ≤ 200) (bx : ∀ z ∈ xs, 0 ≤ z ∧ z ≤ 255) (hR : RightD s r f xs) (cut at_ : Int) (am : Option Addr) (capm : Nat) (ms : List Int) (_hlm : ms.length ≤ 100) (bm : ∀ z ∈ ms, 0 ≤ z ∧ z ≤ 255) (hm0 : ms.length = 0) (tt : Nat) (htt : tt < 256) (w : World) (ha : Holds .u8 w.heap.size w (.slice a xs.length cap) xs) (hm : Holds .u8 w.heap.size w (.slice am ms.length capm) ms) :
    Calls Try.prog 5 #[.agg #[.int .i64 s, .int .i64 r, .int .i64 f, .slice a xs.length cap], .int .i64 cut, .slice am ms.length capm, .int .i64 at_, .int .u8 tt] w fun e w' => e = .returned (.bool true) ∧ Below w.heap.size w w' := by
  have HBX : Hid (∀ z ∈ xs, 0 ≤ z ∧ z ≤ 255) := bx
  have HBM : Hid (∀ z ∈ ms, 0 ≤ z ∧ z ≤ 255) := bm
  have HR : Hid (RightD s r f xs) := hR
  have hx1 := hR.2.2.2.1
  have hx64 := hR.2.2.2.2
  have dl : decide (200 < (xs.length : Int)) = false := decide_eq_false (by omega)
  have dk : decide (200 < xs.length) = false := decide_eq_false (by omega)
  have dlm : decide (100 < (ms.length : Int)) = false := decide_eq_false (by omega)
  have dkm : decide (100 < ms.length) = false := decide_eq_false (by omega)
  have dmm : decide (0 < (ms.length : Int)) = false := decide_eq_false (by omega)
  have dmn : decide (0 < ms.length) = false := decide_eq_false (by omega)
  obtain ⟨p, hp, et⟩ := at_place cut ((xs.length : Int) + 11) (by omega)
  have hn0 : ¬ (xs.length : Int) + 11 = 0 := by omega
  obtain ⟨q, hq, eq_⟩ := at_place at_ (xs.length : Int) (by omega)
  have hn1 : ¬ (xs.length : Int) = 0 := by omega
  have hn2 : ¬ xs.length = 0 := by omega
  have hq' : q < xs.length := by omega
  have hp' : p < xs.length + 11 := by omega
  have eq4 : ((xs.length : Int) + 11 != 11 + (xs.length : Int)) = false := by rw [bne_eq_false_iff_eq]; omega
  have eqx : ((xs.length : Int) != (xs.length : Int)) = false := by simp
  have eqs : (s != s) = false := by simp
  have eqr : (r != r) = false := by simp
  have eqf : (f != f) = false := by simp
  have H0 : Hid (Holds .u8 w.heap.size w (.slice a xs.length cap) xs) := ha
  have bb : Below w.heap.size w (w.alloc (.cells #[.int .i64 s, .int .i64 r, .int .i64 f, .slice a xs.length cap] 24)) := (Below.refl w.heap.size w).alloc (Nat.le_refl _) _
  have xa := Box.new w 24 #[.int .i64 s, .int .i64 r, .int .i64 f, .slice a xs.length cap]
  replace ha := ha.next bb
  replace hm := hm.next bb
  clear bx bm hR
  go_enter Try.func5, Try.ntmps5
  have HC := DataMake_ok s r f a cap xs HR.out HBX.out _ ha
  have cxa0 := xa.cell 0 _ rfl
  have cxa1 := xa.cell 1 _ rfl
  have cxa2 := xa.cell 2 _ rfl
  have cxa3 := xa.cell 3 _ rfl
  go_wp2_with fail
  refine (HC).mono ?_
  rintro e w1 ⟨q1, rfl, o9, b9⟩
  clear cxa0 cxa1 cxa2 cxa3
  replace xa := xa.next b9
  replace ha := ha.next b9
  replace hm := hm.next b9
  replace bb := bb.trans (b9.mono bb.size)
  clear b9
  clear HC
  obtain ⟨g, c1, rfl, hg0, hg'⟩ := own_block o9 (by omega)
  have hg : w.heap.size + 1 ≤ g := by simp at hg0; omega
  have hc1 := row_cap o9
  have hB : BRow w1 g (packD s r f xs) := .of_own o9
  clear o9 hg0 hg'
  have HPL : Hid ((packD s r f xs).length = xs.length + 11) := packD_len s r f xs
  have htl : ((packD s r f xs).take p).length = p := by rw [List.length_take, HPL.out]; omega
  have HC := DataRead_no (some ⟨g, 0, none⟩) c1 ((packD s r f xs).take p) (by rw [htl]; omega) (by rw [htl]; omega) (fun z hz => packD_bd HR.out HBX.out z (List.mem_of_mem_take hz)) 2 (badD_cut HR.out p hp') w1 (by rw [htl]; exact hB.take p c1 (by rw [HPL.out]; omega))
  rw [htl] at HC
  clear htl
  have hpc : (p : Int) ≤ (c1 : Int) := by omega
  have hpc' : p ≤ c1 := by omega
  have cxa0 := xa.cell 0 _ rfl
  have cxa1 := xa.cell 1 _ rfl
  have cxa2 := xa.cell 2 _ rfl
  have cxa3 := xa.cell 3 _ rfl
  go_wp2_with fail
  refine (HC).mono ?_
  rintro e w2 ⟨rfl, b9⟩
  clear cxa0 cxa1 cxa2 cxa3
  replace xa := xa.next b9
  replace ha := ha.next b9
  replace hm := hm.next b9
  replace hB := hB.next b9
  replace bb := bb.trans (b9.mono bb.size)
  clear b9
  clear HC
  obtain ⟨B, hBk⟩ : ∃ n, w2.heap.size = n := ⟨_, rfl⟩
  have hgB : g < B := by have := hB.1; omega
  have hwB : w.heap.size < B := by have := xa.lt; omega
  have b9 : Below w2.heap.size w2 (w2.alloc (.cells #[.int .i64 0, .int .i64 0, .int .i64 0, .slice none 0 0] 24)) := (Below.refl _ _).alloc (Nat.le_refl _) _
  have xx := Box.new w2 24 #[.int .i64 0, .int .i64 0, .int .i64 0, .slice none 0 0]
  replace xa := xa.next b9
  replace ha := ha.next b9
  replace hm := hm.next b9
  replace hB := hB.next b9
  replace bb := bb.trans (b9.mono bb.size)
  clear b9
  rw [hBk] at xx
  have HC := keepData_any 0 0 0 0 0 0 (.slice none 0 0) (.slice none 0 0) [] [] (w2.alloc (.cells #[.int .i64 0, .int .i64 0, .int .i64 0, .slice none 0 0] 24)) _ _ (Nat.le_refl _) (Nat.le_refl _) (by decide) (holds_nilB _ _) (holds_nilB _ _)
  rw [decide_eq_true ⟨rfl, rfl, rfl, rfl⟩] at HC
  have cxx0 := xx.cell 0 _ rfl
  have cxx1 := xx.cell 1 _ rfl
  have cxx2 := xx.cell 2 _ rfl
  have cxx3 := xx.cell 3 _ rfl
  go_wp2_with fail
  refine (HC).mono ?_
  rintro e w3 ⟨rfl, b9⟩
  clear cxx0 cxx1 cxx2 cxx3
  replace xa := xa.next b9
  replace ha := ha.next b9
  replace hm := hm.next b9
  replace hB := hB.next b9
  replace xx := xx.next b9
  replace bb := bb.trans (b9.mono bb.size)
  clear b9
  clear HC
  clear hBk
  obtain ⟨x, hx, hx2⟩ : ∃ x : Nat, xs[q]? = some (x : Int) ∧ x < 256 := by
    have := HBX.out _ (List.getElem_mem hq')
    exact ⟨xs[q].toNat, by rw [List.getElem?_eq_getElem hq']; congr 1; omega, by omega⟩
  have hx3 : (packD s r f xs)[11 + q]? = some (x : Int) := by
    have : (packD s r f xs).drop 11 = xs := dX_pack s r f xs
    rw [← List.getElem?_drop, this]
    exact hx
  have cxa3 := xa.cell 3 _ rfl
  have c1q := hB.cell hx3
  have f1q := hB.2.2 (11 + q)
  have exx : bits .xor .u8 (x : Int) (tt : Int) = ((x ^^^ tt : Nat) : Int) := zu8_xor x tt hx2 htt
  have hB2 := hB.set (11 + q) (by rw [HPL.out]; omega) ((x ^^^ tt : Nat) : Int)
  rw [packD_set] at hB2
  change BRow _ g (packD s r f (turnedX xs q x tt)) at hB2
  have b9 : Below (w.heap.size + 1) w3 (w3.setCell ⟨g, 11 + q, none⟩ (.int .u8 ((x ^^^ tt : Nat) : Int))) := (Below.refl _ _).setCell (p := ⟨g, 11 + q, none⟩) hg _
  replace xa := xa.other (p := ⟨g, 11 + q, none⟩) (by show w.heap.size ≠ g; omega) (.int .u8 ((x ^^^ tt : Nat) : Int))
  replace xx := xx.other (p := ⟨g, 11 + q, none⟩) (by show B ≠ g; omega) (.int .u8 ((x ^^^ tt : Nat) : Int))
  replace bb := bb.setCell (p := ⟨g, 11 + q, none⟩) (by show w.heap.size ≤ g; omega) (.int .u8 ((x ^^^ tt : Nat) : Int))
  clear b9 ha hm hB
  have hQc : 11 + q < xs.length + 11 := by omega
  have hQd : (11 : Int) + (q : Int) < (xs.length : Int) + 11 := by omega
  have hX64 : RightD s r f (turnedX xs q x tt) := by
    have h := HR.out
    refine ⟨h.1, h.2.1, h.2.2.1, ?_, ?_⟩
    · rw [turnedX_len]; exact h.2.2.2.1
    · rw [turnedX_len]; exact h.2.2.2.2
  have HPL2 : Hid ((packD s r f (turnedX xs q x tt)).length = xs.length + 11) := by
    show (packD s r f (turnedX xs q x tt)).length = _
    rw [packD_len, turnedX_len]
  have HC := DataRead_ok (some ⟨g, 0, none⟩) c1 (packD s r f (turnedX xs q x tt)) (by rw [HPL2.out]; exact hc1) (packD_bd hX64 (turnedX_bd HBX.out q hx2 htt)) (okD_pack hX64) _ (by have := hB2.holds hB2.1 c1; exact this)
  rw [HPL2.out, dS_pack hX64, dR_pack, dF_pack hX64, dX_pack, turnedX_len] at HC
  clear hX64 HPL2 HPL
  go_wp2_with fail
  refine HC.mono ?_
  rintro e w4 ⟨ya, yc, rfl, oy, b9⟩
  clear HC cxa3 c1q f1q
  have hDB := xx.lt
  replace xa := xa.next b9
  replace xx := xx.next b9
  replace bb := bb.trans (b9.mono bb.size)
  clear b9 hB2
  obtain ⟨gy, cy, ey, hgy, hgy2⟩ := own_block oy (by omega)
  cases ey
  have HY := row_set4 oy hDB (.int .i64 s) (.int .i64 r) (.int .i64 f) (.slice (some ⟨gy, 0, none⟩) xs.length yc)
  have cxx0 := xx.cell 0 _ rfl
  have cxx1 := xx.cell 1 _ rfl
  have cxx2 := xx.cell 2 _ rfl
  have cxx3 := xx.cell 3 _ rfl
  have fxx0 := xx.free 0
  have fxx1 := xx.free 1
  have fxx2 := xx.free 2
  have fxx3 := xx.free 3
  replace xa := (((xa.other (p := ⟨B, 0, none⟩) (by show w.heap.size ≠ B; omega) (.int .i64 s)).other (p := ⟨B, 1, none⟩) (by show w.heap.size ≠ B; omega) (.int .i64 r)).other (p := ⟨B, 2, none⟩) (by show w.heap.size ≠ B; omega) (.int .i64 f)).other (p := ⟨B, 3, none⟩) (by show w.heap.size ≠ B; omega) (.slice (some ⟨gy, 0, none⟩) xs.length yc)
  replace xx := xx.set4 (.int .i64 s) (.int .i64 r) (.int .i64 f) (.slice (some ⟨gy, 0, none⟩) xs.length yc)
  replace bb := below_set4 bb (D := B) (by omega) (.int .i64 s) (.int .i64 r) (.int .i64 f) (.slice (some ⟨gy, 0, none⟩) xs.length yc)
  have ha := H0.out.below bb
  obtain ⟨b0, off0, ea0, hb0, hcs⟩ := holds_at ha rfl (by omega)
  subst ea0
  have kx0 := xx.cell 0 _ rfl
  have kx1 := xx.cell 1 _ rfl
  have kx2 := xx.cell 2 _ rfl
  have kx3 := xx.cell 3 _ rfl
  have ka0 := xa.cell 0 _ rfl
  have ka1 := xa.cell 1 _ rfl
  have ka2 := xa.cell 2 _ rfl
  have ka3 := xa.cell 3 _ rfl
  have HYC : Hid (∀ j, j < xs.length → ((((w4.setCell ⟨B, 0, none⟩ (.int .i64 s)).setCell ⟨B, 1, none⟩ (.int .i64 r)).setCell ⟨B, 2, none⟩ (.int .i64 f)).setCell ⟨B, 3, none⟩ (.slice (some ⟨gy, 0, none⟩) xs.length yc)).cell? ⟨gy, j, none⟩ = some (.int .u8 ((turnedX xs q x tt)[j]?.getD 0))) := fun j hj => by
    have := HY.cells (g := gy) rfl j (.int .u8 ((turnedX xs q x tt)[j]?.getD 0)) (by simp [turnedX_len, hj])
    rw [Addr.add_lit, Nat.zero_add] at this
    exact this
  have HCS : Hid (∀ (j : Nat) (z : Int), xs[j]? = some z → _) := hcs
  clear hcs ha oy HY
  go_wp2_with fail
  generalize ((((w4.setCell ⟨B, 0, none⟩ (.int .i64 s)).setCell ⟨B, 1, none⟩ (.int .i64 r)).setCell ⟨B, 2, none⟩ (.int .i64 f)).setCell ⟨B, 3, none⟩ (.slice (some ⟨gy, 0, none⟩) xs.length yc)) = W9 at *
  clear cxx0 cxx1 cxx2 cxx3 fxx0 fxx1 fxx2 fxx3
  go_loop [15, 16] (fun i _ => ∃ k : Nat, k ≤ xs.length ∧ i = .int .i64 k) (fun i _ => xs.length - (intOf i).toNat)
  case atStart => exact ⟨0, Nat.zero_le _, rfl⟩
  case round =>
    obtain ⟨k, hk, rfl⟩ := hrel
    by_cases hlt : k < xs.length
    · have hltI : decide ((k : Int) < (xs.length : Int)) = true := decide_eq_true (by omega)
      have hltN : decide (k < xs.length) = true := decide_eq_true hlt
      by_cases hkq : k = q
      · subst hkq
        have g1 := HCS.out k (x : Int) hx
        have g2 : W9.cell? ⟨gy, k, none⟩ = some (.int .u8 ((x ^^^ tt : Nat) : Int)) := by
          have := HYC.out k hlt
          unfold turnedX at this
          rw [List.getElem?_set_self hlt] at this
          exact this
        have ekk : ((k : Int) == (k : Int)) = true := by simp
        have eyy : (((x ^^^ tt : Nat) : Int) != ((x ^^^ tt : Nat) : Int)) = false := by simp
        clear hx
        go_wp2
        go_round
        case rel => exact ⟨k + 1, by omega, by go_num⟩
        case measure => simp [intOf]; omega
      · obtain ⟨z, hz⟩ : ∃ z, xs[k]? = some z := ⟨xs[k], List.getElem?_eq_getElem hlt⟩
        have g1 := HCS.out k z hz
        have g2 : W9.cell? ⟨gy, k, none⟩ = some (.int .u8 z) := by
          have := HYC.out k hlt
          unfold turnedX at this
          rw [List.getElem?_set_ne (by omega), hz] at this
          exact this
        have ekk : ((k : Int) == (q : Int)) = false := by rw [beq_eq_false_iff_ne]; omega
        have ekn : (k == q) = false := by rw [beq_eq_false_iff_ne]; exact hkq
        have eyy : (z != z) = false := by simp
        clear hz hx hkq
        go_wp2
        go_round
        case rel => exact ⟨k + 1, by omega, by go_num⟩
        case measure => simp [intOf]; omega
    · obtain rfl : k = xs.length := by omega
      have hltI : decide ((xs.length : Int) < (xs.length : Int)) = false := decide_eq_false (by omega)
      have hltN : decide (xs.length < xs.length) = false := decide_eq_false (by omega)
      have HWK := dataWakes_any W9
      clear hlt
      go_wp2_with (go_at_call 13; refine HWK.mono ?_; rintro e w99 ⟨rfl, b99⟩)
      go_ret
      exact ⟨rfl, bb.trans (b99.mono bb.size)⟩

set_option maxRecDepth 100000 in
set_option maxHeartbeats 2000000 in
theorem dataCuts_no (s r f : Int) (a : Option Addr) (n cap : Nat) (hl : n ≤ 200) (hE : errD s r f n ≠ 0) (cut at_ : Int) (am : Option Addr) (nm capm : Nat) (hlm : nm ≤ 100) (tt : Int) (w : World) :
    Calls Try.prog 5 #[.agg #[.int .i64 s, .int .i64 r, .int .i64 f, .slice a n cap], .int .i64 cut, .slice am nm capm, .int .i64 at_, .int .u8 tt] w fun e w' => e = .returned (.bool true) ∧ Below w.heap.size w w' := by
  have dl : decide (200 < (n : Int)) = false := decide_eq_false (by omega)
  have dl' : decide (200 < n) = false := decide_eq_false (by omega)
  have dm : decide (100 < (nm : Int)) = false := decide_eq_false (by omega)
  have dm' : decide (100 < nm) = false := decide_eq_false (by omega)
  have b0 : Below w.heap.size w (w.alloc (.cells #[.int .i64 s, .int .i64 r, .int .i64 f, .slice a n cap] 24)) := (Below.refl w.heap.size w).alloc (Nat.le_refl _) _
  have HM := DataMake_no s r f a n cap hE (w.alloc (.cells #[.int .i64 s, .int .i64 r, .int .i64 f, .slice a n cap] 24))
  obtain ⟨E, hEe⟩ : ∃ E, errD s r f n = E := ⟨_, rfl⟩
  rw [hEe] at HM hE
  have dE : (E != 0) = true := by simp [hE]
  clear hE hEe hl hlm
  go_enter Try.func5, Try.ntmps5
  go_wp2_with fail
  refine HM.mono ?_
  rintro e w1 ⟨rfl, b1⟩
  have bb1 := b0.trans (b1.mono (by simp))
  have HWK := dataWakes_any w1
  clear HM b0 b1
  go_wp2_with (go_at_call 13; refine HWK.mono ?_; rintro e w99 ⟨rfl, b99⟩)
  go_ret
  exact ⟨rfl, bb1.trans (b99.mono bb1.size)⟩

set_option maxRecDepth 100000 in
set_option maxHeartbeats 2000000 in
theorem dataCuts_long (s r f : Int) (a : Option Addr) (n cap : Nat) (cut at_ : Int) (am : Option Addr) (nm capm : Nat) (h : 200 < n ∨ 100 < nm) (tt : Int) (w : World) :
    Calls Try.prog 5 #[.agg #[.int .i64 s, .int .i64 r, .int .i64 f, .slice a n cap], .int .i64 cut, .slice am nm capm, .int .i64 at_, .int .u8 tt] w fun e w' => e = .returned (.bool true) ∧ Below w.heap.size w w' := by
  have b0 : Below w.heap.size w (w.alloc (.cells #[.int .i64 s, .int .i64 r, .int .i64 f, .slice a n cap] 24)) := (Below.refl w.heap.size w).alloc (Nat.le_refl _) _
  by_cases h3 : 200 < n
  · have dl : decide (200 < (n : Int)) = true := decide_eq_true (by omega)
    have dl' : decide (200 < n) = true := decide_eq_true h3
    clear h h3
    go_enter Try.func5, Try.ntmps5
    go_wp2
    go_ret
    exact ⟨rfl, b0⟩
  · have dl : decide (200 < (n : Int)) = false := decide_eq_false (by omega)
    have dl' : decide (200 < n) = false := decide_eq_false (by omega)
    have dm : decide (100 < (nm : Int)) = true := decide_eq_true (by omega)
    have dm' : decide (100 < nm) = true := decide_eq_true (by omega)
    clear h h3
    go_enter Try.func5, Try.ntmps5
    go_wp2
    go_ret
    exact ⟨rfl, b0⟩

/-- The law, of whatever data, cut, bytes more, place, turn. -/
theorem dataCuts_walk (s r f : Int) (a : Option Addr) (len cap : Nat) (z1 : List Int) (cut : Int) (am : Option Addr) (lenm capm : Nat) (zm : List Int) (at_ tt : Int) (w : World) (h1 : IsRow .u8 w a len cap z1) (h2 : IsRow .u8 w am lenm capm zm) (h4 : (Lit.int .u8 tt).wf = true) :
    Calls Try.prog 5 #[.agg #[.int .i64 s, .int .i64 r, .int .i64 f, .slice a len cap], .int .i64 cut, .slice am lenm capm, .int .i64 at_, .int .u8 tt] w fun e w' => e = .returned (.bool true) ∧ Below w.heap.size w w' := by
  obtain ⟨xs, rfl, hx, bx⟩ := holds_of_isRow h1
  obtain ⟨ms, rfl, hm, bm⟩ := holds_of_isRow h2
  have h4 := bounds_u8 h4
  obtain ⟨t, rfl⟩ := Int.eq_ofNat_of_zero_le h4.1
  by_cases h : 200 < xs.length ∨ 100 < ms.length
  · exact dataCuts_long s r f a _ cap cut at_ am _ capm h t w
  by_cases hE : errD s r f xs.length = 0
  · have hR := (rightD_iff _ _ _ _).1 hE
    by_cases h0 : 0 < ms.length
    · exact dataCuts_more s r f a cap xs (by omega) (bytes_bd bx) hR cut at_ am capm ms (by omega) (bytes_bd bm) h0 t (by omega) w hx hm
    · exact dataCuts_none s r f a cap xs (by omega) (bytes_bd bx) hR cut at_ am capm ms (by omega) (bytes_bd bm) (by omega) t (by omega) w hx hm
  · exact dataCuts_no s r f a _ cap (by omega) hE cut at_ am _ capm (by omega) t w

end Go.Proofs.Ytpfhnefgibiedaa
