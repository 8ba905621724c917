/-
  CodeBegins: the walk: whatever the blocks, the law answers true, and nothing that lay has turned.
-/
import Derived.Test.YtehnplodfpljkaaDoorCodeWakes
import Derived.Test.YtehnplodfpljkaaDoorPlaces
import Derived.Lib.MinMax
import Derived.Deep.QuietTactic
import Derived.BigQuiet
namespace Go.Proofs.YtehnplodfpljkaaDoor
open Go.RowKit

/-- Are the first symbols of two states alike? -/
def sameTo (s t j : Nat) : Bool := (List.range j).all fun i => symN s i == symN t i
theorem sameTo_next (s t j : Nat) : sameTo s t (j + 1) = (sameTo s t j && (symN s j == symN t j)) := by simp [sameTo, List.range_succ]
theorem sameTo_four {s t : Nat} (hs : s < 4294967296) (ht : t < 4294967296) : sameTo s t 4 = decide (s = t) := by
  by_cases h : s = t
  · subst h; simp [sameTo]
  · rw [decide_eq_false h, Bool.eq_false_iff]
    intro e
    apply h
    apply four_inj hs ht
    intro i hi
    unfold sameTo at e
    rw [List.all_eq_true] at e
    simpa using e i (by simpa using hi)

set_option maxRecDepth 100000 in
set_option maxHeartbeats 2000000 in
theorem codeBegins_few (a : Option Addr) (n cap : Nat) (a' : Option Addr) (n' cap' : Nat) (w : World) (h : min n n' < 1) :
    Calls Tryd.prog 7 #[.slice a n cap, .slice a' n' cap'] w fun e w' => e = .returned (.bool true) ∧ Below w.heap.size w w' := by
  obtain ⟨m, hm⟩ : ∃ m, min n n' = m := ⟨_, rfl⟩
  have em : min (n : Int) (n' : Int) = (m : Int) := by omega
  have d0 : decide ((m : Int) < 1) = true := decide_eq_true (by omega)
  clear hm
  go_enter Tryd.func7, Tryd.ntmps7
  go_wp2
  go_ret
  exact ⟨rfl, Below.refl _ _⟩

set_option maxRecDepth 100000 in
set_option maxHeartbeats 2000000 in
theorem codeBegins_manyA (a : Option Addr) (n cap : Nat) (a' : Option Addr) (n' cap' : Nat) (w : World) (h : ¬ min n n' < 1) (hn : 32 < n) :
    Calls Tryd.prog 7 #[.slice a n cap, .slice a' n' cap'] w fun e w' => e = .returned (.bool true) ∧ Below w.heap.size w w' := by
  obtain ⟨m, hm⟩ : ∃ m, min n n' = m := ⟨_, rfl⟩
  have em : min (n : Int) (n' : Int) = (m : Int) := by omega
  have d0 : decide ((m : Int) < 1) = false := decide_eq_false (by omega)
  have d1 : decide (32 < (n : Int)) = true := decide_eq_true (by omega)
  clear hm
  go_enter Tryd.func7, Tryd.ntmps7
  go_wp2
  go_ret
  exact ⟨rfl, Below.refl _ _⟩

set_option maxRecDepth 100000 in
set_option maxHeartbeats 2000000 in
theorem codeBegins_manyB (a : Option Addr) (n cap : Nat) (a' : Option Addr) (n' cap' : Nat) (w : World) (h : ¬ min n n' < 1) (hn : n ≤ 32) (hn' : 32 < n') :
    Calls Tryd.prog 7 #[.slice a n cap, .slice a' n' cap'] w fun e w' => e = .returned (.bool true) ∧ Below w.heap.size w w' := by
  obtain ⟨m, hm⟩ : ∃ m, min n n' = m := ⟨_, rfl⟩
  have em : min (n : Int) (n' : Int) = (m : Int) := by omega
  have d0 : decide ((m : Int) < 1) = false := decide_eq_false (by omega)
  have d1 : decide (32 < (n : Int)) = false := decide_eq_false (by omega)
  have d2 : decide (32 < (n' : Int)) = true := decide_eq_true (by omega)
  clear hm
  go_enter Tryd.func7, Tryd.ntmps7
  go_wp2
  go_ret
  exact ⟨rfl, Below.refl _ _⟩

set_option maxRecDepth 100000 in
set_option maxHeartbeats 4000000 in
theorem codeBegins_in (a : Option Addr) (n1 cap : Nat) (a' : Option Addr) (n2 cap' : Nat) (m : Nat) (hm : min n1 n2 = m) (h1 : 1 ≤ m) (hn1 : n1 ≤ 32) (hn2 : n2 ≤ 32) (hc1 : n1 ≤ cap) (hc2 : n2 ≤ cap') (xs ys : List Int) (bx : ∀ z ∈ xs, 0 ≤ z ∧ z ≤ 255) (bt : ∀ z ∈ ys, 0 ≤ z ∧ z ≤ 255) (hxl : xs.length = m) (hyl : ys.length = m) (w : World) (hF : Firsts w) (ha : Holds .u8 w.heap.size w (.slice a m cap) xs) (hb : Holds .u8 w.heap.size w (.slice a' m cap') ys) :
    Calls Tryd.prog 7 #[.slice a n1 cap, .slice a' n2 cap'] w fun e w' => e = .returned (.bool true) ∧ Below w.heap.size w w' := by
  have em : min (n1 : Int) (n2 : Int) = (m : Int) := by omega
  have m32 : m ≤ 32 := by omega
  have hmc1 : m ≤ cap := by omega
  have hmc2 : m ≤ cap' := by omega
  have d0 : decide ((m : Int) < 1) = false := decide_eq_false (by omega)
  have d1 : decide (32 < (n1 : Int)) = false := decide_eq_false (by omega)
  have d2 : decide (32 < (n2 : Int)) = false := decide_eq_false (by omega)
  have HBX : Hid (∀ z ∈ xs, 0 ≤ z ∧ z ≤ 255) := bx
  have HBY : Hid (∀ z ∈ ys, 0 ≤ z ∧ z ≤ 255) := bt
  have HXL : Hid (xs.length = m) := hxl
  have HYL : Hid (ys.length = m) := hyl
  obtain ⟨n, hne⟩ : ∃ n, 2 * m = n := ⟨_, rfl⟩
  have HN : Hid (2 * m = n) := hne
  have en : 2 * (m : Int) = (n : Int) := by omega
  have n0 : 1 ≤ n := by omega
  have n65 : n < 65 := by omega
  obtain ⟨Q, hQ⟩ : ∃ Q, 8 * m = Q := ⟨_, rfl⟩
  have e8 : 8 * (m : Int) = (Q : Int) := by omega
  have HT4 : Hid (0 + Q ≤ 32 * m) := by
    show 0 + Q ≤ 32 * m
    omega
  have HQ : Hid (4 * n = Q) := by
    show 4 * n = Q
    omega
  have hQ1 : Q ≤ 256 := by omega
  have q5 : ((Q : Int) != (Q : Int)) = false := by simp
  have q6 : ((n : Int) != (n : Int)) = false := by simp
  clear hQ hne hm bx bt hxl hyl
  go_enter Tryd.func7, Tryd.ntmps7
  go_wp2
  go_quiet (fail)
  go_wp2_with fail
  have ha0 : Holds .u8 (w.drewN nq).heap.size (w.drewN nq) (.slice a m cap) xs := ha
  have hb0 : Holds .u8 (w.drewN nq).heap.size (w.drewN nq) (.slice a' m cap') ys := hb
  have b0 : Below w.heap.size w (w.drewN nq) := below_drewN (Below.refl _ _) nq
  obtain ⟨w0, hw0⟩ : ∃ w0, w.drewN nq = w0 := ⟨_, rfl⟩
  have hF0 := hF.next b0
  rw [hw0] at ha0 hb0 b0 hF0 ⊢
  clear ha hb hw0
  refine (Encode_ok a m cap xs HXL.out h1 m32 HBX.out 0 Q HT4.out w0 hF0 ha0).mono ?_
  rintro e w1 ⟨r1, rfl, ⟨hr1, ar1, cr1, rfl, _⟩, b1⟩
  have HL1 : Hid ((codeL xs 0 Q).length = Q) := codeL_len _ _ _
  rw [HL1.out] at hr1 ⊢
  have ha1 := ha0.next b1
  have hF1 := hF0.next b1
  have hb1 := hb0.next b1
  clear ha0 hb0
  go_wp2_with fail
  refine (Encode_ok a' m cap' ys HYL.out h1 m32 HBY.out 0 Q HT4.out w1 hF1 hb1).mono ?_
  rintro e w2 ⟨r2, rfl, ⟨hr2, ar2, cr2, rfl, _⟩, b2⟩
  have HL2 : Hid ((codeL ys 0 Q).length = Q) := codeL_len _ _ _
  rw [HL2.out] at hr2 ⊢
  have ha2 := ha1.next b2
  have hF2 := hF1.next b2
  have hb2 := hb1.next b2
  have hr12 := hr1.next b2
  clear ha1 hb1 hr1
  go_wp2_with fail
  refine (nibs_any _ xs (by rw [HXL.out]; omega) HBX.out w2 ha2).mono ?_
  rintro e w3 ⟨r3, rfl, o3, b3⟩
  have h3 : Holds .i64 w3.heap.size w3 r3 (nibs xs) := holds_of_row o3
  obtain ⟨a3, c3, rfl⟩ := h3.shape
  have HN3 : Hid ((nibs xs).length = n) := (nibs_len xs).trans (by rw [HXL.out]; exact HN.out)
  have hb3 := hb2.next b3
  have hr13 := hr12.next b3
  have hr23 := hr2.next b3
  rw [HN3.out] at h3 ⊢
  clear ha2 hb2 hr12 hr2 o3
  go_wp2_with fail
  refine (nibs_any _ ys (by rw [HYL.out]; omega) HBY.out w3 hb3).mono ?_
  rintro e w4 ⟨r4, rfl, o4, b4⟩
  have h4 : Holds .i64 w4.heap.size w4 r4 (nibs ys) := holds_of_row o4
  obtain ⟨a4, c4, rfl⟩ := h4.shape
  have HN4 : Hid ((nibs ys).length = n) := (nibs_len ys).trans (by rw [HYL.out]; exact HN.out)
  rw [HN4.out] at h4 ⊢
  obtain ⟨bx, ox, rfl, hbx, hcx⟩ := holds_at (hr13.next b4) HL1.out (by have := HQ.out; omega)
  obtain ⟨by', oy, rfl, hby, hcy⟩ := holds_at (hr23.next b4) HL2.out (by have := HQ.out; omega)
  obtain ⟨bp, op, rfl, hbp, hcp⟩ := holds_at (h3.next b4) HN3.out (by omega)
  obtain ⟨bq, oq, rfl, hbq, hcq⟩ := holds_at h4 HN4.out (by omega)
  have HCX : Hid _ := hcx
  have HCY : Hid _ := hcy
  have HCP : Hid _ := hcp
  have HCQ : Hid _ := hcq
  have hF4 := (hF2.next b3).next b4
  have bb1 := b0.trans (b1.mono b0.size)
  have bb2 := bb1.trans (b2.mono bb1.size)
  have bb3 := bb2.trans (b3.mono bb2.size)
  have bb4 := bb3.trans (b4.mono bb3.size)
  clear hb3 hr13 hr23 h3 h4 o4 hcx hcy hcp hcq b0 b1 b2 b3 b4 bb1 bb2 bb3
  go_wp2
  go_loopw [14] (fun i wr => ∃ k : Nat, k ≤ n ∧ i = .int .i64 k ∧ Hid ((nibs xs).take k = (nibs ys).take k) ∧ Below w4.heap.size w4 wr) (fun i _ => n - (intOf i).toNat)
  case atStart => exact ⟨0, Nat.zero_le _, rfl, rfl, Below.refl _ _⟩
  case round =>
    obtain ⟨k, hk, rfl, HPRE, hbw⟩ := hrel
    obtain ⟨V, hV⟩ : ∃ V, V = wr := ⟨_, rfl⟩
    subst hV
    by_cases hlt : k < n
    · have hk2 : k < 2 * xs.length := by have := HN.out; have := HXL.out; omega
      have hk3 : k < 2 * ys.length := by have := HN.out; have := HYL.out; omega
      obtain ⟨p, hp, hp16⟩ := nibs_get hk2
      obtain ⟨q, hq, hq16⟩ := nibs_get hk3
      have hst := stN_step hp
      have hsu := stN_step hq
      have hs := lastOf_lt (s := beginN) ((nibs xs).take k) begin_lt
      have HPQ : Hid (stN xs k = stN ys k ↔ p = q) := by
        show stN xs k = stN ys k ↔ p = q
        rw [hst, hsu, ← HPRE.out]
        exact step_nib hs hp16 hq16
      have HS4 : Hid (sameTo (stN xs k) (stN ys k) 4 = decide (p = q)) := by
        show sameTo (stN xs k) (stN ys k) 4 = decide (p = q)
        rw [sameTo_four (stN_lt _ _) (stN_lt _ _)]
        exact decide_eq_decide.2 HPQ.out
      have HTX : Hid (p = q → (nibs xs).take (k + 1) = (nibs ys).take (k + 1)) := by
        intro e
        rw [take_snoc hp, take_snoc hq, HPRE.out, e]
      have HPX : Hid (∀ j, j < 4 → (codeL xs 0 Q)[j * n + posN n k]? = some ((symN (stN xs k) j : Nat) : Int)) := by
        intro j hj
        have h5 := codeN_place (zs := xs) (s := k) (i := j) (by rw [HXL.out, HN.out]; exact n65) hk2
        rw [HXL.out, HN.out] at h5
        rw [codeL_get (by have := posN_lt n65 hlt; have := HQ.out; have : j * n ≤ 3 * n := Nat.mul_le_mul_right _ (by omega); omega), Nat.zero_add, h5]
      have HPY : Hid (∀ j, j < 4 → (codeL ys 0 Q)[j * n + posN n k]? = some ((symN (stN ys k) j : Nat) : Int)) := by
        intro j hj
        have h5 := codeN_place (zs := ys) (s := k) (i := j) (by rw [HYL.out, HN.out]; exact n65) hk3
        rw [HYL.out, HN.out] at h5
        rw [codeL_get (by have := posN_lt n65 hlt; have := HQ.out; have : j * n ≤ 3 * n := Nat.mul_le_mul_right _ (by omega); omega), Nat.zero_add, h5]
      have HKP : Hid ((nibs xs)[k]? = some (p : Int)) := hp
      have HKQ : Hid ((nibs ys)[k]? = some (q : Int)) := hq
      have hpl := posN_lt n65 hlt
      obtain ⟨s, hse⟩ : ∃ s, stN xs k = s := ⟨_, rfl⟩
      obtain ⟨t, hte⟩ : ∃ t, stN ys k = t := ⟨_, rfl⟩
      rw [hse, hte] at HS4
      rw [hse] at HPX
      rw [hte] at HPY
      have dk : decide ((k : Int) < (n : Int)) = true := decide_eq_true (by omega)
      clear hst hsu hs HPQ hse hte hp hq hk2 hk3
      go_wp2
      go_loopw [15, 16] (fun v i wq => ∃ j : Nat, j ≤ 4 ∧ i = .int .i64 j ∧ v = .bool (sameTo s t j) ∧ Below V.heap.size V wq) (fun _ i _ => 4 - (intOf i).toNat)
      case atStart => exact ⟨0, by omega, rfl, rfl, Below.refl _ _⟩
      case round =>
        obtain ⟨j, hj, rfl, rfl, hb4⟩ := hrel
        by_cases hj4 : j < 4
        · have hP : j * n + posN n k < Q := by
            have := HQ.out
            have : j * n ≤ 3 * n := Nat.mul_le_mul_right _ (by omega)
            omega
          have hcx := HCX.out _ _ (HPX.out j hj4)
          have hcy := HCY.out _ _ (HPY.out j hj4)
          have HNX : Hid (sameTo s t (j + 1) = (sameTo s t j && (symN s j == symN t j))) := sameTo_next s t j
          go_wp2_with fail
          refine (Place_ok n k j n0 n65 hlt (by omega) wr ((hF4.next hbw).next hb4)).mono ?_
          rintro e w5 ⟨rfl, b5⟩
          have hbV := hb4.size
          have hbv := hbw.size
          have cx : w5.cell? ⟨bx, ox + (j * n + posN n k), none⟩ = some (.int .u8 ((symN s j : Nat) : Int)) :=
            (b5.cell (p := ⟨bx, ox + (j * n + posN n k), none⟩) (by show bx < wr.heap.size; omega)).trans ((hb4.cell (p := ⟨bx, ox + (j * n + posN n k), none⟩) (by show bx < V.heap.size; omega)).trans ((hbw.cell (p := ⟨bx, ox + (j * n + posN n k), none⟩) hbx).trans hcx))
          have cy : w5.cell? ⟨by', oy + (j * n + posN n k), none⟩ = some (.int .u8 ((symN t j : Nat) : Int)) :=
            (b5.cell (p := ⟨by', oy + (j * n + posN n k), none⟩) (by show by' < wr.heap.size; omega)).trans ((hb4.cell (p := ⟨by', oy + (j * n + posN n k), none⟩) (by show by' < V.heap.size; omega)).trans ((hbw.cell (p := ⟨by', oy + (j * n + posN n k), none⟩) hby).trans hcy))
          have bV5 := hb4.trans (b5.mono hb4.size)
          obtain ⟨P, hPe⟩ : ∃ P, j * n + posN n k = P := ⟨_, rfl⟩
          obtain ⟨x, hxe⟩ : ∃ x, symN s j = x := ⟨_, rfl⟩
          obtain ⟨y, hye⟩ : ∃ y, symN t j = y := ⟨_, rfl⟩
          rw [hxe] at cx HNX
          rw [hye] at cy HNX
          rw [hPe] at cx cy hP ⊢
          have p0 : decide ((P : Int) < 0) = false := decide_eq_false (by omega)
          have p1 : decide ((Q : Int) ≤ (P : Int)) = false := decide_eq_false (by omega)
          have HXY : Hid (((x : Int) == (y : Int)) = (x == y)) := by
            show ((x : Int) == (y : Int)) = (x == y)
            rw [Bool.eq_iff_iff]
            simp only [beq_iff_eq]
            omega
          obtain ⟨sm, hsm⟩ : ∃ sm, sameTo s t j = sm := ⟨_, rfl⟩
          rw [hsm] at HNX ⊢
          clear hcx hcy hPe hxe hye hsm
          cases sm with
          | false =>
            go_wp2
            go_quiet (fail)
            go_wp2
            refine ⟨⟨j + 1, by omega, by go_num, by rw [HNX.out]; rfl, below_drewN bV5 _⟩, by simp [intOf]; omega⟩
          | true =>
            go_wp2
            go_quiet (fail)
            go_wp2
            refine ⟨⟨j + 1, by omega, by go_num, by rw [HNX.out, Bool.true_and, ← HXY.out], below_drewN bV5 _⟩, by simp [intOf]; omega⟩
        · obtain rfl : j = 4 := by omega
          rw [HS4.out]
          have hbV := hb4.size
          have hbv := hbw.size
          have cp : wr.cell? ⟨bp, op + k, none⟩ = some (.int .i64 (p : Int)) := (hb4.cell (p := ⟨bp, op + k, none⟩) (by show bp < V.heap.size; omega)).trans ((hbw.cell (p := ⟨bp, op + k, none⟩) hbp).trans (HCP.out _ _ HKP.out))
          have cq : wr.cell? ⟨bq, oq + k, none⟩ = some (.int .i64 (q : Int)) := (hb4.cell (p := ⟨bq, oq + k, none⟩) (by show bq < V.heap.size; omega)).trans ((hbw.cell (p := ⟨bq, oq + k, none⟩) hbq).trans (HCQ.out _ _ HKQ.out))
          have bV1 := hbw.trans (hb4.mono hbw.size)
          clear hj4 hj
          by_cases hpq : p = q
          · subst hpq
            have HT1 : Hid ((nibs xs).take (k + 1) = (nibs ys).take (k + 1)) := HTX.out rfl
            clear HTX
            have dd : decide (p = p) = true := decide_eq_true rfl
            have de : ((p : Int) == (p : Int)) = true := by simp
            rw [dd]
            clear dd
            go_wp2
            go_quiet (fail)
            go_wp2
            refine ⟨⟨k + 1, by omega, by go_num, HT1, below_drewN bV1 _⟩, by simp [intOf]; omega⟩
          · have dd : decide (p = q) = false := decide_eq_false hpq
            have de : ((p : Int) == (q : Int)) = false := by rw [beq_eq_false_iff_ne]; omega
            rw [dd]
            clear dd
            go_wp2
            go_quiet (fail)
            go_wp2_with fail
            refine (codeWakes_any _ ((hF4.next bV1).drewN nq)).mono ?_
            rintro e w6 ⟨rfl, b6⟩
            go_wp2
            go_ret
            have bb5 := bb4.trans (bV1.mono bb4.size)
            have bb6 := below_drewN bb5 nq
            exact ⟨rfl, bb6.trans (b6.mono bb6.size)⟩
    · obtain rfl : k = n := by omega
      have dk : decide ((k : Int) < (k : Int)) = false := decide_eq_false (by omega)
      clear hlt hk HPRE HCX HCY HCP HCQ
      go_wp2_with fail
      refine (codeWakes_any _ (hF4.next hbw)).mono ?_
      rintro e w6 ⟨rfl, b6⟩
      go_wp2
      go_ret
      have bb5 := bb4.trans (hbw.mono bb4.size)
      exact ⟨rfl, bb5.trans (b6.mono bb5.size)⟩

/-- The law, of whatever blocks. -/
theorem codeBegins_walk (a0 : Option Addr) (len0 cap0 : Nat) (z0 : List Int) (a1 : Option Addr) (len1 cap1 : Nat) (z1 : List Int) (w : World) (w0 : IsRow .u8 w a0 len0 cap0 z0) (w1 : IsRow .u8 w a1 len1 cap1 z1) (hF : Firsts w) :
    Calls Tryd.prog 7 #[.slice a0 len0 cap0, .slice a1 len1 cap1] w fun e w' => e = .returned (.bool true) ∧ Below w.heap.size w w' := by
  have hc0 := isRow_cap w0
  have hc1 := isRow_cap w1
  obtain ⟨xs, rfl, hx, bx⟩ := holds_of_isRow w0
  obtain ⟨ys, rfl, hy, bt⟩ := holds_of_isRow w1
  by_cases h0 : min xs.length ys.length < 1
  · exact codeBegins_few a0 _ cap0 a1 _ cap1 w h0
  by_cases h1 : 32 < xs.length
  · exact codeBegins_manyA a0 _ cap0 a1 _ cap1 w h0 h1
  by_cases h2 : 32 < ys.length
  · exact codeBegins_manyB a0 _ cap0 a1 _ cap1 w h0 (by omega) h2
  · have l1 : (xs.take (min xs.length ys.length)).length = min xs.length ys.length := by rw [List.length_take]; omega
    have l2 : (ys.take (min xs.length ys.length)).length = min xs.length ys.length := by rw [List.length_take]; omega
    exact codeBegins_in a0 _ cap0 a1 _ cap1 (min xs.length ys.length) rfl (by omega) (by omega) (by omega) hc0 hc1 (xs.take (min xs.length ys.length)) (ys.take (min xs.length ys.length)) (fun z hz => bytes_bd bx z (List.mem_of_mem_take hz)) (fun z hz => bytes_bd bt z (List.mem_of_mem_take hz)) l1 l2 w hF (holds_take rfl hx _ (by omega)) (holds_take rfl hy _ (by omega))

end Go.Proofs.YtehnplodfpljkaaDoor
