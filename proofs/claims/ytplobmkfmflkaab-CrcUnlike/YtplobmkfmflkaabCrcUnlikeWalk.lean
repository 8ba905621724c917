/-
  CrcUnlike: the walk: whatever the text, the place, the four bytes, the law answers true, and nothing that lay has turned.
-/
import Derived.Test.YtplobmkfmflkaabCrcWakes
import Derived.Test.YtplobmkfmflkaabCrcTurn
import Derived.Test.YtplobmkfmflkaabKeepBytes
import Derived.RegionTactic
import Derived.BigRegion
namespace Go.Proofs.Ytplobmkfmflkaab
open Go.RowKit

theorem at_place (at_ d : Int) (hd : 0 < d) : ∃ p : Nat, (p : Int) < d ∧ (IntKind.u64.wrap at_).tmod d = (p : Int) := by
  have h0 : 0 ≤ IntKind.u64.wrap at_ := by rw [IntKind.wrap_u64]; omega
  have h1 := Int.tmod_nonneg d h0
  have h2 := Int.tmod_lt_of_pos (IntKind.u64.wrap at_) hd
  exact ⟨((IntKind.u64.wrap at_).tmod d).toNat, by omega, by omega⟩

/-- A row that is not empty lies at a block of its own. -/
theorem own_block {W : World} {base n : Nat} {e : TypeId} {v : Value} {xs : List Value} (h : W.ownsRow base e 1 v n xs) (h0 : 0 < n) : ∃ g cap, v = .slice (some ⟨g, 0, none⟩) n cap ∧ base ≤ g ∧ g < W.heap.size := by
  rcases h.2 with ⟨_, e0⟩ | ⟨g, c, cur, e, hb, hg, _⟩
  · omega
  · exact ⟨g, c, e, hb, (Array.getElem?_eq_some_iff.1 hg).1⟩

set_option maxRecDepth 100000 in
set_option maxHeartbeats 4000000 in
theorem crcUnlike_short (a : Option Addr) (cap : Nat) (xs : List Int) (hl4 : 4 ≤ xs.length) (hl : xs.length ≤ 300) (bx : ∀ z ∈ xs, 0 ≤ z ∧ z ≤ 255) (at_ : Int) (t0 t1 t2 t3 : Nat) (h0 : t0 < 256) (h1 : t1 < 256) (h2 : t2 < 256) (h3 : t3 < 256) (w : World) (ha : Holds .u8 w.heap.size w (.slice a xs.length cap) xs) :
    Calls Try.prog 4 #[.slice a xs.length cap, .int .i64 at_, .agg #[.int .u8 t0, .int .u8 t1, .int .u8 t2, .int .u8 t3]] w fun e w' => e = .returned (.bool true) ∧ Below w.heap.size w w' := by
  have n3 : ¬ (xs.length : Int) - 3 = 0 := by omega
  obtain ⟨p, hp, et⟩ := at_place at_ ((xs.length : Int) - 3) (by omega)
  obtain ⟨T, hT⟩ : ∃ T : List Int, T = [(t0 : Int), (t1 : Int), (t2 : Int), (t3 : Int)] := ⟨_, rfl⟩
  obtain ⟨T2, hT2⟩ : ∃ T : List Int, T = [(t0 : Int), (t1 : Int)] := ⟨_, rfl⟩
  have HT : Hid (T.length = 4 ∧ ∀ z ∈ T, 0 ≤ z ∧ z ≤ 255) := by
    rw [hT]; exact ⟨rfl, by intro z hz; simp at hz; omega⟩
  have HT2 : Hid (T2.length = 2 ∧ ∀ z ∈ T2, 0 ≤ z ∧ z ≤ 255) := by
    rw [hT2]; exact ⟨rfl, by intro z hz; simp at hz; omega⟩
  have HC : Hid (∀ W : World, ∀ k : Nat, k < 4 → ∃ t : Nat, t < 256 ∧ T[k]? = some (t : Int) ∧ (k < 2 → T2[k]? = some (t : Int)) ∧ (Below (w.heap.size + 1) (w.alloc (.cells #[.int .u8 t0, .int .u8 t1, .int .u8 t2, .int .u8 t3] 28)) W → W.cell? ⟨w.heap.size, k, none⟩ = some (.int .u8 (t : Int)))) := by
    intro W k hk
    have hb : (w.alloc (.cells #[.int .u8 t0, .int .u8 t1, .int .u8 t2, .int .u8 t3] 28)).heap[w.heap.size]? = some (.cells #[.int .u8 t0, .int .u8 t1, .int .u8 t2, .int .u8 t3] 28) := World.alloc_heap_new _ _
    have hc := fun (h : Below (w.heap.size + 1) (w.alloc (.cells #[.int .u8 t0, .int .u8 t1, .int .u8 t2, .int .u8 t3] 28)) W) (j : Nat) => (h.cell (p := ⟨w.heap.size, j, none⟩) (Nat.lt_succ_self _)).trans (cell_of_row _ w.heap.size j _ _ _ hb)
    subst hT hT2
    match k, hk with
    | 0, _ => exact ⟨t0, h0, rfl, fun _ => rfl, fun h => hc h 0⟩
    | 1, _ => exact ⟨t1, h1, rfl, fun _ => rfl, fun h => hc h 1⟩
    | 2, _ => exact ⟨t2, h2, rfl, fun h => by omega, fun h => hc h 2⟩
    | 3, _ => exact ⟨t3, h3, rfl, fun h => by omega, fun h => hc h 3⟩
  have b0 : Below w.heap.size w (w.alloc (.cells #[.int .u8 t0, .int .u8 t1, .int .u8 t2, .int .u8 t3] 28)) := (Below.refl _ w).alloc (Nat.le_refl _) _
  have hs0 : (w.alloc (.cells #[.int .u8 t0, .int .u8 t1, .int .u8 t2, .int .u8 t3] 28)).heap.size = w.heap.size + 1 := by simp
  have ha0 := ha.next b0
  clear hT hT2
  go_enter Try.func4, Try.ntmps4
  go_wp2_with fail
  obtain ⟨w0, hw0⟩ : ∃ w0, w.alloc (.cells #[.int .u8 t0, .int .u8 t1, .int .u8 t2, .int .u8 t3] 28) = w0 := ⟨_, rfl⟩
  rw [hw0] at HC b0 hs0 ha0 ⊢
  clear hw0
  refine (twin_any _ xs _ (by omega) w0 ha0).mono ?_
  rintro e w1 ⟨r1, rfl, o1, b1⟩
  have ha1 := ha0.next b1
  go_wp2_with fail
  refine (twin_any _ xs _ (by omega) w1 ha1).mono ?_
  rintro e w2 ⟨r2, rfl, o2, b2⟩
  obtain ⟨g1, c1, rfl, hg1, hg1'⟩ := own_block o1 (by omega)
  obtain ⟨g2, c2, rfl, hg2, hg2'⟩ := own_block o2 (by omega)
  have hR1 : BRow w2 g1 xs := (BRow.of_own o1).below b2 hg1'
  have hR2 : BRow w2 g2 xs := .of_own o2
  have hB0 : Below w0.heap.size w0 w2 := b1.trans (b2.mono b1.size)
  have hg12 : g1 ≠ g2 := by omega
  have hg01 : w.heap.size < g1 := by omega
  have hg02 : w.heap.size < g2 := by have := b1.size; omega
  have hq1 : w0.heap.size ≤ g1 := hg1
  have hq2 : w0.heap.size ≤ g2 := by have := b1.size; omega
  have hp4 : p + 4 ≤ xs.length := by omega
  have HX : Hid (∀ k, k < 4 → ∃ x : Nat, x < 256 ∧ xs[p + k]? = some (x : Int)) := by
    intro k hk
    have hlt : p + k < xs.length := by omega
    have := bx _ (List.getElem_mem hlt)
    exact ⟨xs[p + k].toNat, by omega, by rw [List.getElem?_eq_getElem hlt]; congr 1; omega⟩
  have HBX : Hid (∀ z ∈ xs, 0 ≤ z ∧ z ≤ 255) := bx
  have hR1' : BRow w2 g1 (turnTo xs p T 0) := by rw [turnTo_zero bx (by omega)]; exact hR1
  have hR2' : BRow w2 g2 (turnTo xs p T2 (min 0 2)) := by rw [show min 0 2 = 0 from rfl, turnTo_zero bx (by omega)]; exact hR2
  clear o1 o2 ha1 bx hR1 hR2 h0 h1 h2 h3 n3 et b1 b2 hg1 hg2 hp
  go_wp2
  go_loopw [9] (fun i wr => ∃ k : Nat, k ≤ 4 ∧ i = .int .i64 k ∧ BRow wr g1 (turnTo xs p T k) ∧ BRow wr g2 (turnTo xs p T2 (min k 2)) ∧ Below w0.heap.size w0 wr) (fun i _ => 4 - (intOf i).toNat)
  case atStart => exact ⟨0, Nat.zero_le _, rfl, hR1', hR2', hB0⟩
  case round =>
    clear hR1' hR2' hB0 ha hg1' hg2'
    obtain ⟨k, hk, rfl, hR1, hR2, hbw⟩ := hrel
    by_cases hlt : k < 4
    · obtain ⟨x, hx2, hx⟩ := HX.out k hlt
      obtain ⟨t, ht2, ht, ht', hct⟩ := HC.out wr k hlt
      have c0 := hct (hs0 ▸ hbw)
      have hkT : k ≤ T.length := by rw [HT.out.1]; omega
      have c1 := hR1.cell (turnTo_get hkT hx)
      have f1 := hR1.2.2 (p + k)
      have xt : bits .xor .u8 (x : Int) (t : Int) = ((x ^^^ t : Nat) : Int) := zu8_xor x t hx2 ht2
      obtain ⟨u, hu⟩ : ∃ u, x ^^^ t = u := ⟨_, rfl⟩
      rw [hu] at xt
      have hn1 := turnTo_next (p := p) ht hx
      rw [hu] at hn1
      have HR1 : Hid (BRow (wr.setCell ⟨g1, p + k, none⟩ (.int .u8 (u : Int))) g1 (turnTo xs p T (k + 1))) := by
        have := hR1.set (p + k) (by rw [turnTo_len hkT (by omega)]; omega) (u : Int)
        rwa [hn1] at this
      have HR2 : Hid (BRow (wr.setCell ⟨g1, p + k, none⟩ (.int .u8 (u : Int))) g2 (turnTo xs p T2 (min k 2))) := hR2.other (Ne.symm hg12) _ _
      have hbw' : Below w0.heap.size w0 (wr.setCell ⟨g1, p + k, none⟩ (.int .u8 (u : Int))) := hbw.setCell (p := ⟨g1, p + k, none⟩) hq1 _
      by_cases hk2 : k < 2
      · have hkT2 : k ≤ T2.length := by rw [HT2.out.1]; omega
        have hn2 := turnTo_next (p := p) (ht' hk2) hx
        rw [hu] at hn2
        have hcx : BRow (wr.setCell ⟨g1, p + k, none⟩ (.int .u8 (u : Int))) g2 (turnTo xs p T2 k) := by
          have := HR2.out
          rwa [Nat.min_eq_left (by omega)] at this
        have HR3 : Hid (BRow ((wr.setCell ⟨g1, p + k, none⟩ (.int .u8 (u : Int))).setCell ⟨g2, p + k, none⟩ (.int .u8 (u : Int))) g2 (turnTo xs p T2 (min (k + 1) 2))) := by
          have := hcx.set (p + k) (by rw [turnTo_len hkT2 (by omega)]; omega) (u : Int)
          rw [hn2] at this
          rwa [Nat.min_eq_left (show k + 1 ≤ 2 by omega)]
        have HR4 : Hid (BRow ((wr.setCell ⟨g1, p + k, none⟩ (.int .u8 (u : Int))).setCell ⟨g2, p + k, none⟩ (.int .u8 (u : Int))) g1 (turnTo xs p T (k + 1))) := HR1.out.other hg12 _ _
        have c3 := hcx.cell (turnTo_get hkT2 hx)
        have f3 := hcx.2.2 (p + k)
        obtain ⟨t', _, ht3, _, hct'⟩ := HC.out (wr.setCell ⟨g1, p + k, none⟩ (.int .u8 (u : Int))) k hlt
        obtain rfl : t' = t := by rw [ht] at ht3; simp at ht3; omega
        have c4 := hct' (hs0 ▸ hbw')
        clear hct hct' ht ht' ht3 hx hn1 hn2 hu hR1 hR2 hcx
        go_wp2
        go_region
        go_wp2
        go_region
        go_wp2
        go_roundw
        case rel => exact ⟨k + 1, by omega, by go_num, HR4.out, HR3.out, ((hbw'.drew).setCell (p := ⟨g2, p + k, none⟩) hq2 _).drew⟩
        case measure => simp [intOf]; omega
      · have HR5 : Hid (BRow (wr.setCell ⟨g1, p + k, none⟩ (.int .u8 (u : Int))) g2 (turnTo xs p T2 (min (k + 1) 2))) := by
          have := HR2.out
          rwa [Nat.min_eq_right (by omega)] at this ⊢
        clear hct ht ht' hx hn1 hu hR1 hR2 HR2
        go_wp2
        go_region
        go_wp2
        go_roundw
        case rel => exact ⟨k + 1, by omega, by go_num, HR1.out, HR5.out, hbw'.drew⟩
        case measure => simp [intOf]; omega
    · obtain rfl : k = 4 := by omega
      obtain ⟨hlB, hbT⟩ := HT.out
      obtain ⟨hlC, hbT2⟩ := HT2.out
      have iB := sum32_turned HBX.out hbT (show T.length ≤ 4 by omega) (show p + T.length ≤ xs.length by omega)
      have iC := sum16_turned HBX.out hbT2 (show T2.length ≤ 2 by omega) (show p + T2.length ≤ xs.length by omega)
      rw [hlB] at iB
      rw [hlC] at iC
      rw [show min 4 2 = 2 from rfl] at hR2
      have lB : (turnTo xs p T 4).length = xs.length := turnTo_len (by omega) (by omega)
      have lC : (turnTo xs p T2 2).length = xs.length := turnTo_len (by omega) (by omega)
      have bB := turnTo_bd HBX.out (p := p) hbT 4
      have bC := turnTo_bd HBX.out (p := p) hbT2 2
      obtain ⟨B, hB⟩ : ∃ B, turnTo xs p T 4 = B := ⟨_, rfl⟩
      obtain ⟨C, hC⟩ : ∃ C, turnTo xs p T2 2 = C := ⟨_, rfl⟩
      rw [hB] at iB lB bB hR1
      rw [hC] at iC lC bC hR2
      have hHB : Holds .u8 wr.heap.size wr (.slice (some ⟨g1, 0, none⟩) xs.length c1) B := by have := hR1.holds hR1.1 c1; rwa [lB] at this
      have hHC : Holds .u8 wr.heap.size wr (.slice (some ⟨g2, 0, none⟩) xs.length c2) C := by have := hR2.holds hR2.1 c2; rwa [lC] at this
      have haW := ha0.next hbw
      obtain ⟨d1, hd1⟩ : ∃ d, decide (xs = B) = d := ⟨_, rfl⟩
      obtain ⟨d2, hd2⟩ : ∃ d, decide (xs = C) = d := ⟨_, rfl⟩
      have q1 : ((sum32 xs : Int) == (sum32 B : Int)) = d1 := by
        rw [← hd1]
        by_cases h : xs = B
        · rw [decide_eq_true h, ← h]; simp
        · rw [decide_eq_false h]
          have := mt iB.1 h
          simp only [beq_eq_false_iff_ne]; omega
      have q2 : ((sum16 xs : Int) == (sum16 C : Int)) = d2 := by
        rw [← hd2]
        by_cases h : xs = C
        · rw [decide_eq_true h, ← h]; simp
        · rw [decide_eq_false h]
          have := mt iC.1 h
          simp only [beq_eq_false_iff_ne]; omega
      have HQ1 : Hid _ := q1
      have HQ2 : Hid _ := q2
      have HLB : Hid (B.length = xs.length) := lB
      have HLC : Hid (C.length = xs.length) := lC
      have HBB : Hid (∀ z ∈ B, 0 ≤ z ∧ z ≤ 255) := bB
      have HBC : Hid (∀ z ∈ C, 0 ≤ z ∧ z ≤ 255) := bC
      clear iB iC hB hC q1 q2 lB lC bB bC hbT hbT2 HT HT2 HC HX hR1 hR2 hlt hk hlB hlC
      go_wp2_with fail
      refine (Sum32_at a xs.length cap xs rfl (by omega) HBX.out wr _ haW).mono ?_
      rintro e w3 ⟨rfl, rfl⟩
      go_wp2_with fail
      refine (Sum32_at _ xs.length c1 B HLB.out (by omega) HBB.out wr _ hHB).mono ?_
      rintro e w3 ⟨rfl, rfl⟩
      go_wp2_with fail
      refine (Sum16_at a xs.length cap xs rfl (by omega) HBX.out wr _ haW).mono ?_
      rintro e w3 ⟨rfl, rfl⟩
      go_wp2_with fail
      refine (Sum16_at _ xs.length c2 C HLC.out (by omega) HBC.out wr _ hHC).mono ?_
      rintro e w3 ⟨rfl, rfl⟩
      have q1 := HQ1.out
      have q2 := HQ2.out
      clear HQ1 HQ2
      obtain ⟨s1, hs1⟩ : ∃ s, sum32 xs = s := ⟨_, rfl⟩
      obtain ⟨s2, hs2⟩ : ∃ s, sum32 B = s := ⟨_, rfl⟩
      obtain ⟨s3, hs3⟩ : ∃ s, sum16 xs = s := ⟨_, rfl⟩
      obtain ⟨s4, hs4⟩ : ∃ s, sum16 C = s := ⟨_, rfl⟩
      rw [hs1, hs2] at q1
      rw [hs3, hs4] at q2
      rw [hs1, hs2, hs3, hs4]
      clear hs1 hs2 hs3 hs4
      go_wp2_with fail
      refine (bytes_any _ _ xs B _ _ wr (by have := HLB.out; omega) haW hHB).mono ?_
      rw [hd1]
      rintro e w3 ⟨rfl, n3, rfl⟩
      go_wp2_with fail
      refine (bytes_any _ _ xs C _ _ (wr.drewN n3) (by have := HLC.out; omega) haW hHC).mono ?_
      rw [hd2]
      rintro e w4 ⟨rfl, n4, rfl⟩
      go_wp2_with fail
      refine (wakes_any _).mono ?_
      rintro e w5 ⟨rfl, hw⟩
      go_wp2
      go_ret
      have bb : Below w.heap.size w wr := b0.trans (hbw.mono b0.size)
      exact ⟨rfl, (below_drewN bb (n3 + n4)).trans (hw.mono bb.size)⟩

set_option maxRecDepth 100000 in
set_option maxHeartbeats 2000000 in
theorem crcUnlike_long (a : Option Addr) (n cap : Nat) (at_ : Int) (t0 t1 t2 t3 : Nat) (w : World) (h : n < 4 ∨ 300 < n) :
    Calls Try.prog 4 #[.slice a n cap, .int .i64 at_, .agg #[.int .u8 t0, .int .u8 t1, .int .u8 t2, .int .u8 t3]] w fun e w' => e = .returned (.bool true) ∧ Below w.heap.size w w' := by
  have b0 : Below w.heap.size w (w.alloc (.cells #[.int .u8 t0, .int .u8 t1, .int .u8 t2, .int .u8 t3] 28)) := (Below.refl _ w).alloc (Nat.le_refl _) _
  by_cases h4 : n < 4
  · clear h
    go_enter Try.func4, Try.ntmps4
    go_wp2
    go_ret
    exact ⟨rfl, b0⟩
  · have h3 : 300 < n := by omega
    clear h
    go_enter Try.func4, Try.ntmps4
    go_wp2
    go_ret
    exact ⟨rfl, b0⟩

/-- The law, of whatever text, place, four bytes. -/
theorem crcUnlike_walk (a0 : Option Addr) (len0 cap0 : Nat) (z0 : List Int) (x1 y0 y1 y2 y3 : Int) (h0 : (Lit.int .u8 y0).wf = true) (h1 : (Lit.int .u8 y1).wf = true) (h2 : (Lit.int .u8 y2).wf = true) (h3 : (Lit.int .u8 y3).wf = true) (w : World) (w0 : IsRow .u8 w a0 len0 cap0 z0) :
    Calls Try.prog 4 #[.slice a0 len0 cap0, .int .i64 x1, .agg #[.int .u8 y0, .int .u8 y1, .int .u8 y2, .int .u8 y3]] w fun e w' => e = .returned (.bool true) ∧ Below w.heap.size w w' := by
  obtain ⟨xs, rfl, hx, bx⟩ := holds_of_isRow w0
  have h0 := bounds_u8 h0
  have h1 := bounds_u8 h1
  have h2 := bounds_u8 h2
  have h3 := bounds_u8 h3
  obtain ⟨t0, rfl⟩ := Int.eq_ofNat_of_zero_le h0.1
  obtain ⟨t1, rfl⟩ := Int.eq_ofNat_of_zero_le h1.1
  obtain ⟨t2, rfl⟩ := Int.eq_ofNat_of_zero_le h2.1
  obtain ⟨t3, rfl⟩ := Int.eq_ofNat_of_zero_le h3.1
  by_cases h : xs.length < 4 ∨ 300 < xs.length
  · exact crcUnlike_long a0 _ cap0 x1 t0 t1 t2 t3 w h
  · exact crcUnlike_short a0 cap0 xs (by omega) (by omega) (bytes_bd bx) x1 t0 t1 t2 t3 (by omega) (by omega) (by omega) (by omega) w hx

end Go.Proofs.Ytplobmkfmflkaab
