/-
  SymbolStates: the walk: whatever the state and the row, the law answers true, and nothing that lay has turned.
-/
import Derived.Test.YtanglpjledfbmaaSymbolWakes
import Derived.Test.YtanglpjledfbmaaKeepInts
import Derived.Test.YtanglpjledfbmaaTwinInts
import Derived.OwnWalk
namespace Go.Proofs.Ytanglpjledfbmaa
open Go.RowKit

theorem bytes_snoc {zs : List Int} {k : Nat} {x : Int} (h : Bytes4 (zs.take k)) (hx : zs[k]? = some x) (h01 : 0 ≤ x ∧ x ≤ 255) : Bytes4 (zs.take (k + 1)) := by
  rw [List.take_add_one, hx]
  intro y hy
  rcases List.mem_append.1 hy with h' | h'
  · exact h y h'
  · simp at h'; subst h'; exact h01

set_option maxRecDepth 100000 in
set_option maxHeartbeats 8000000 in
theorem symbolStates_len (s : Nat) (hs : s < 4294967296) (a : Option Addr) (cap : Nat) (zs : List Int) (hl : zs.length ≤ 20) (h4 : zs.length ≠ 4) (w : World) (ha : Holds .i64 w.heap.size w (.slice a zs.length cap) zs) :
    Calls Try.prog 4 #[.int .u32 s, .slice a zs.length cap] w fun e w' => e = .returned (.bool true) ∧ Below w.heap.size w w' := by
  obtain ⟨i0, hi, hz0, hz1, hz2⟩ := info_parts infoI64
  have HF : Hid (spellN (fourOf s 4) = s) := spell_four hs
  have n4 : ((zs.length : Int) != 4) = true := by rw [bne_iff_ne]; omega
  go_enter Try.func4, Try.ntmps4
  go_wp2
  go_loopw [5, 6] (fun v i wr => ∃ k : Nat, k ≤ 4 ∧ i = .int .i64 k ∧ wr.ownsRow w.heap.size 3 1 v k ((fourOf s k).map (Value.int .i64)) ∧ Below w.heap.size w wr) (fun _ i _ => 4 - (intOf i).toNat)
  case atStart => exact ⟨0, by omega, rfl, World.ownsRow_nil _ _ _ _, Below.refl _ _⟩
  case round =>
    obtain ⟨k, hk, rfl, ho, hbw⟩ := hrel
    by_cases hlt : k < 4
    · have HN : Hid _ := fourOf_next s k
      obtain ⟨x, hx⟩ : ∃ x, symN s k = x := ⟨_, rfl⟩
      have HX : Hid (symN s k = x) := hx
      rw [hx] at HN
      clear hx
      go_wp2_with fail
      refine (Of_ok s k hs (by omega) wr).mono ?_
      rw [HX.out]
      rintro e w1 ⟨rfl, rfl⟩
      go_wp2_with (at_builtin; refine wpList_append_own _ rfl _ _ 29 rfl w.heap.size 3 i0 (.int .i64 0) 1 8 Try.underlying29 hi hz0 hz1 hz2 rfl (by decide) _ k _ rfl (ho.alloc _) ⟨wr.heap.size, 0, none⟩ 1 1 [.int .i64 x] rfl rfl (cell_one_new _ _ _) (by simp [Value.oneCell']) (by unfold maxLen; omega) (by omega) (by have := hbw.size; simp; omega) ?_; intro v3 w3 hown3 hgrow3 _)
      have b3 : Below w.heap.size w w3 := (hbw.alloc hbw.size _).trans ((Below.refl _ _).grown hgrow3 (by have := hbw.size; simp; omega) (fun q e => (ho.lt q e).1))
      refine ⟨⟨k + 1, by omega, by go_num, ?_, b3⟩, by simp [intOf]; omega⟩
      rw [HN.out, List.map_append]
      exact hown3
    · obtain rfl : k = 4 := by omega
      have hH := holds_of_row ho
      obtain ⟨av, cv, hv⟩ : ∃ av cv, u5 = .slice av 4 cv := by
        rcases ho.2 with ⟨_, e0⟩ | ⟨g, c, cur, e, _⟩
        · omega
        · exact ⟨_, _, e⟩
      subst hv
      have ha1 := ha.next hbw
      have qs : ((s : Int) != (s : Int)) = false := by simp
      clear ho hlt hk ha
      go_wp2_with fail
      refine (State_ok av cv (fourOf s 4) (fourOf_len s 4) (fourOf_bytes s 4) wr _ hH).mono ?_
      rw [HF.out]
      rintro e w1 ⟨rfl, rfl⟩
      clear hH
      go_wp2_with fail
      refine (twinInts_any _ zs _ (by omega) wr ha1).mono ?_
      rintro e w2 ⟨r2, rfl, o2, b2⟩
      have h2 := holds_of_row o2
      obtain ⟨a2, c2, hr2⟩ := h2.shape
      subst hr2
      have ha2 := ha1.next b2
      have bb2 := hbw.trans (b2.mono hbw.size)
      clear o2 ha1
      go_wp2_with fail
      refine (State_len a2 zs.length c2 h4 w2).mono ?_
      rintro e w3 ⟨rfl, rfl⟩
      go_wp2_with fail
      refine (ints_any _ _ zs zs _ _ w2 (by omega) h2 ha2).mono ?_
      rw [decide_eq_true rfl]
      rintro e w4 ⟨rfl, q4, rfl⟩
      have bb4 := below_drewN bb2 q4
      have ha4 : Holds .i64 (w2.drewN q4).heap.size (w2.drewN q4) (.slice a zs.length cap) zs := ha2
      obtain ⟨V, hV⟩ : ∃ V, w2.drewN q4 = V := ⟨_, rfl⟩
      rw [hV] at bb4 ha4 ⊢
      clear hV h2 ha2 bb2 b2 hbw
      clear ha4
      go_wp2_with fail
      refine (symbolWakes_any V).mono ?_
      rintro e w6 ⟨rfl, hw⟩
      go_wp2
      go_ret
      exact ⟨rfl, bb4.trans (hw.mono bb4.size)⟩

set_option maxRecDepth 100000 in
set_option maxHeartbeats 8000000 in
theorem symbolStates_bad (s : Nat) (hs : s < 4294967296) (a : Option Addr) (cap : Nat) (zs : List Int) (h4 : zs.length = 4) (hB : ¬ Bytes4 zs) (w : World) (ha : Holds .i64 w.heap.size w (.slice a 4 cap) zs) :
    Calls Try.prog 4 #[.int .u32 s, .slice a 4 cap] w fun e w' => e = .returned (.bool true) ∧ Below w.heap.size w w' := by
  obtain ⟨i0, hi, hz0, hz1, hz2⟩ := info_parts infoI64
  have HF : Hid (spellN (fourOf s 4) = s) := spell_four hs
  have H4 : Hid (zs.length = 4) := h4
  have HB : Hid _ := hB
  clear h4 hB
  go_enter Try.func4, Try.ntmps4
  go_wp2
  go_loopw [5, 6] (fun v i wr => ∃ k : Nat, k ≤ 4 ∧ i = .int .i64 k ∧ wr.ownsRow w.heap.size 3 1 v k ((fourOf s k).map (Value.int .i64)) ∧ Below w.heap.size w wr) (fun _ i _ => 4 - (intOf i).toNat)
  case atStart => exact ⟨0, by omega, rfl, World.ownsRow_nil _ _ _ _, Below.refl _ _⟩
  case round =>
    obtain ⟨k, hk, rfl, ho, hbw⟩ := hrel
    by_cases hlt : k < 4
    · have HN : Hid _ := fourOf_next s k
      obtain ⟨x, hx⟩ : ∃ x, symN s k = x := ⟨_, rfl⟩
      have HX : Hid (symN s k = x) := hx
      rw [hx] at HN
      clear hx
      go_wp2_with fail
      refine (Of_ok s k hs (by omega) wr).mono ?_
      rw [HX.out]
      rintro e w1 ⟨rfl, rfl⟩
      go_wp2_with (at_builtin; refine wpList_append_own _ rfl _ _ 29 rfl w.heap.size 3 i0 (.int .i64 0) 1 8 Try.underlying29 hi hz0 hz1 hz2 rfl (by decide) _ k _ rfl (ho.alloc _) ⟨wr.heap.size, 0, none⟩ 1 1 [.int .i64 x] rfl rfl (cell_one_new _ _ _) (by simp [Value.oneCell']) (by unfold maxLen; omega) (by omega) (by have := hbw.size; simp; omega) ?_; intro v3 w3 hown3 hgrow3 _)
      have b3 : Below w.heap.size w w3 := (hbw.alloc hbw.size _).trans ((Below.refl _ _).grown hgrow3 (by have := hbw.size; simp; omega) (fun q e => (ho.lt q e).1))
      refine ⟨⟨k + 1, by omega, by go_num, ?_, b3⟩, by simp [intOf]; omega⟩
      rw [HN.out, List.map_append]
      exact hown3
    · obtain rfl : k = 4 := by omega
      have hH := holds_of_row ho
      obtain ⟨av, cv, hv⟩ : ∃ av cv, u5 = .slice av 4 cv := by
        rcases ho.2 with ⟨_, e0⟩ | ⟨g, c, cur, e, _⟩
        · omega
        · exact ⟨_, _, e⟩
      subst hv
      have ha1 := ha.next hbw
      have qs : ((s : Int) != (s : Int)) = false := by simp
      clear ho hlt hk ha
      go_wp2_with fail
      refine (State_ok av cv (fourOf s 4) (fourOf_len s 4) (fourOf_bytes s 4) wr _ hH).mono ?_
      rw [HF.out]
      rintro e w1 ⟨rfl, rfl⟩
      clear hH
      go_wp2_with fail
      refine (twinInts_any _ zs _ (by rw [H4.out]; omega) wr ha1).mono ?_
      rintro e w2 ⟨r2, rfl, o2, b2⟩
      have h2 := holds_of_row o2
      obtain ⟨a2, c2, hr2⟩ := h2.shape
      rw [H4.out] at hr2
      subst hr2
      have ha2 := ha1.next b2
      have bb2 := hbw.trans (b2.mono hbw.size)
      clear o2 ha1
      go_wp2_with fail
      refine (State_arg a2 c2 zs H4.out HB.out w2 _ h2).mono ?_
      rintro e w3 ⟨rfl, rfl⟩
      go_wp2_with fail
      refine (ints_any _ _ zs zs _ _ w2 (by rw [H4.out]; omega) h2 ha2).mono ?_
      rw [decide_eq_true rfl]
      rintro e w4 ⟨rfl, q4, rfl⟩
      have bb4 := below_drewN bb2 q4
      have ha4 : Holds .i64 (w2.drewN q4).heap.size (w2.drewN q4) (.slice a 4 cap) zs := ha2
      obtain ⟨V, hV⟩ : ∃ V, w2.drewN q4 = V := ⟨_, rfl⟩
      rw [hV] at bb4 ha4 ⊢
      clear hV h2 ha2 bb2 b2 hbw
      go_wp2
      go_loop [12] (fun i => ∃ j : Nat, j ≤ 4 ∧ i = .int .i64 j ∧ Hid (Bytes4 (zs.take j))) (fun i => 4 - (intOf i).toNat)
      case atStart => exact ⟨0, by omega, rfl, fun x hx => by simp at hx⟩
      case round =>
        obtain ⟨j, hj, rfl, HJ⟩ := hrel
        by_cases hge : 4 ≤ j
        · exfalso
          obtain rfl : j = 4 := by omega
          have := HJ.out
          rw [List.take_of_length_le (by rw [H4.out]; exact Nat.le_refl _)] at this
          exact HB.out this
        have hj4 : j < 4 := by omega
        clear hge
        obtain ⟨z, hzk⟩ : ∃ z, zs[j]? = some z := ⟨zs[j]'(by rw [H4.out]; exact hj4), by simp⟩
        rcases ha4 with ⟨_, e⟩ | ⟨b, off, cap', e, hb, hcs⟩
        · have := H4.out; rw [e] at this; simp at this
        rw [H4.out] at e hcs
        cases e
        have c1 : V.cell? ⟨b, off + j, none⟩ = some (.int .i64 z) := (hcs j hj4).trans (by rw [hzk]; rfl)
        have HZ : Hid (zs[j]? = some z) := hzk
        clear hcs hzk
        by_cases h0 : z < 0
        · clear HJ
          go_wp2_with fail
          refine (symbolWakes_any V).mono ?_
          rintro e w6 ⟨rfl, hw⟩
          go_wp2
          go_ret
          exact ⟨rfl, bb4.trans (hw.mono bb4.size)⟩
        by_cases h1 : 255 < z
        · clear HJ
          go_wp2_with fail
          refine (symbolWakes_any V).mono ?_
          rintro e w6 ⟨rfl, hw⟩
          go_wp2
          go_ret
          exact ⟨rfl, bb4.trans (hw.mono bb4.size)⟩
        have HJ' : Hid (Bytes4 (zs.take (j + 1))) := bytes_snoc HJ.out HZ.out (by omega)
        have d0 : decide (z < 0) = false := decide_eq_false h0
        have d1 : decide (255 < z) = false := decide_eq_false h1
        clear HJ
        go_wp2
        go_round
        case rel => exact ⟨j + 1, by omega, by go_num, HJ'⟩
        case measure => simp [intOf]; omega

set_option maxRecDepth 100000 in
set_option maxHeartbeats 8000000 in
theorem symbolStates_good (s : Nat) (hs : s < 4294967296) (a : Option Addr) (cap : Nat) (zs : List Int) (h4 : zs.length = 4) (hB : Bytes4 zs) (w : World) (ha : Holds .i64 w.heap.size w (.slice a 4 cap) zs) :
    Calls Try.prog 4 #[.int .u32 s, .slice a 4 cap] w fun e w' => e = .returned (.bool true) ∧ Below w.heap.size w w' := by
  obtain ⟨i0, hi, hz0, hz1, hz2⟩ := info_parts infoI64
  have HF : Hid (spellN (fourOf s 4) = s) := spell_four hs
  have H4 : Hid (zs.length = 4) := h4
  have HB : Hid _ := hB
  clear h4 hB
  go_enter Try.func4, Try.ntmps4
  go_wp2
  go_loopw [5, 6] (fun v i wr => ∃ k : Nat, k ≤ 4 ∧ i = .int .i64 k ∧ wr.ownsRow w.heap.size 3 1 v k ((fourOf s k).map (Value.int .i64)) ∧ Below w.heap.size w wr) (fun _ i _ => 4 - (intOf i).toNat)
  case atStart => exact ⟨0, by omega, rfl, World.ownsRow_nil _ _ _ _, Below.refl _ _⟩
  case round =>
    obtain ⟨k, hk, rfl, ho, hbw⟩ := hrel
    by_cases hlt : k < 4
    · have HN : Hid _ := fourOf_next s k
      obtain ⟨x, hx⟩ : ∃ x, symN s k = x := ⟨_, rfl⟩
      have HX : Hid (symN s k = x) := hx
      rw [hx] at HN
      clear hx
      go_wp2_with fail
      refine (Of_ok s k hs (by omega) wr).mono ?_
      rw [HX.out]
      rintro e w1 ⟨rfl, rfl⟩
      go_wp2_with (at_builtin; refine wpList_append_own _ rfl _ _ 29 rfl w.heap.size 3 i0 (.int .i64 0) 1 8 Try.underlying29 hi hz0 hz1 hz2 rfl (by decide) _ k _ rfl (ho.alloc _) ⟨wr.heap.size, 0, none⟩ 1 1 [.int .i64 x] rfl rfl (cell_one_new _ _ _) (by simp [Value.oneCell']) (by unfold maxLen; omega) (by omega) (by have := hbw.size; simp; omega) ?_; intro v3 w3 hown3 hgrow3 _)
      have b3 : Below w.heap.size w w3 := (hbw.alloc hbw.size _).trans ((Below.refl _ _).grown hgrow3 (by have := hbw.size; simp; omega) (fun q e => (ho.lt q e).1))
      refine ⟨⟨k + 1, by omega, by go_num, ?_, b3⟩, by simp [intOf]; omega⟩
      rw [HN.out, List.map_append]
      exact hown3
    · obtain rfl : k = 4 := by omega
      have hH := holds_of_row ho
      obtain ⟨av, cv, hv⟩ : ∃ av cv, u5 = .slice av 4 cv := by
        rcases ho.2 with ⟨_, e0⟩ | ⟨g, c, cur, e, _⟩
        · omega
        · exact ⟨_, _, e⟩
      subst hv
      have ha1 := ha.next hbw
      have qs : ((s : Int) != (s : Int)) = false := by simp
      clear ho hlt hk ha
      go_wp2_with fail
      refine (State_ok av cv (fourOf s 4) (fourOf_len s 4) (fourOf_bytes s 4) wr _ hH).mono ?_
      rw [HF.out]
      rintro e w1 ⟨rfl, rfl⟩
      clear hH
      go_wp2_with fail
      refine (twinInts_any _ zs _ (by rw [H4.out]; omega) wr ha1).mono ?_
      rintro e w2 ⟨r2, rfl, o2, b2⟩
      have h2 := holds_of_row o2
      obtain ⟨a2, c2, hr2⟩ := h2.shape
      rw [H4.out] at hr2
      subst hr2
      have ha2 := ha1.next b2
      have bb2 := hbw.trans (b2.mono hbw.size)
      clear o2 ha1
      go_wp2_with fail
      refine (State_ok a2 c2 zs H4.out HB.out w2 _ h2).mono ?_
      obtain ⟨t, hte⟩ : ∃ t, spellN zs = t := ⟨_, rfl⟩
      have HT : Hid (spellN zs = t) := hte
      have htl := spellN_lt HB.out
      rw [H4.out, hte] at htl
      have htl2 : t < 4294967296 := htl
      rw [hte]
      clear hte htl
      rintro e w3 ⟨rfl, rfl⟩
      go_wp2_with fail
      refine (ints_any _ _ zs zs _ _ w2 (by rw [H4.out]; omega) h2 ha2).mono ?_
      rw [decide_eq_true rfl]
      rintro e w4 ⟨rfl, q4, rfl⟩
      have bb4 := below_drewN bb2 q4
      have ha4 : Holds .i64 (w2.drewN q4).heap.size (w2.drewN q4) (.slice a 4 cap) zs := ha2
      obtain ⟨V, hV⟩ : ∃ V, w2.drewN q4 = V := ⟨_, rfl⟩
      rw [hV] at bb4 ha4 ⊢
      clear hV h2 ha2 bb2 b2 hbw
      go_wp2
      go_loop [12] (fun i => ∃ j : Nat, j ≤ 4 ∧ i = .int .i64 j) (fun i => 4 - (intOf i).toNat)
      case atStart => exact ⟨0, by omega, rfl⟩
      case round =>
        obtain ⟨j, hj, rfl⟩ := hrel
        by_cases hj4 : j < 4
        · obtain ⟨z, hzk⟩ : ∃ z, zs[j]? = some z := ⟨zs[j]'(by rw [H4.out]; exact hj4), by simp⟩
          rcases ha4 with ⟨_, e⟩ | ⟨b, off, cap', e, hb, hcs⟩
          · have := H4.out; rw [e] at this; simp at this
          rw [H4.out] at e hcs
          cases e
          have c1 : V.cell? ⟨b, off + j, none⟩ = some (.int .i64 z) := (hcs j hj4).trans (by rw [hzk]; rfl)
          have hzb := HB.out z (List.mem_of_getElem? hzk)
          have d0 : decide (z < 0) = false := decide_eq_false (by omega)
          have d1 : decide (255 < z) = false := decide_eq_false (by omega)
          clear hcs hzk
          go_wp2
          go_round
          case rel => exact ⟨j + 1, by omega, by go_num⟩
          case measure => simp [intOf]; omega
        · obtain rfl : j = 4 := by omega
          clear hj4 hj
          go_wp2
          go_loop [13] (fun i => ∃ j : Nat, j ≤ 4 ∧ i = .int .i64 j) (fun i => 4 - (intOf i).toNat)
          case atStart => exact ⟨0, by omega, rfl⟩
          case round =>
            obtain ⟨j, hj, rfl⟩ := hrel
            by_cases hj4 : j < 4
            · obtain ⟨z, hzk⟩ : ∃ z, zs[j]? = some z := ⟨zs[j]'(by rw [H4.out]; exact hj4), by simp⟩
              rcases ha4 with ⟨_, e⟩ | ⟨b, off, cap', e, hb, hcs⟩
              · have := H4.out; rw [e] at this; simp at this
              rw [H4.out] at e hcs
              cases e
              have c1 : V.cell? ⟨b, off + j, none⟩ = some (.int .i64 z) := (hcs j hj4).trans (by rw [hzk]; rfl)
              have hzb := HB.out z (List.mem_of_getElem? hzk)
              have hg := spellN_get HB.out hzk
              rw [HT.out] at hg
              have hsy : symN t j = z.toNat := (symN_low hj4).trans hg
              obtain ⟨m, rfl⟩ := Int.eq_ofNat_of_zero_le hzb.1
              rw [Int.toNat_natCast] at hsy
              have HS : Hid (symN t j = m) := hsy
              have qm : ((m : Int) != (m : Int)) = false := by simp
              clear hcs hzk hg hsy hzb
              go_wp2_with fail
              refine (Of_ok t j htl2 (by omega) V).mono ?_
              rw [HS.out]
              rintro e w6 ⟨rfl, rfl⟩
              go_wp2
              go_round
              case rel => exact ⟨j + 1, by omega, by go_num⟩
              case measure => simp [intOf]; omega
            · obtain rfl : j = 4 := by omega
              clear hj4 hj ha4
              go_wp2_with fail
              refine (symbolWakes_any V).mono ?_
              rintro e w6 ⟨rfl, hw⟩
              go_wp2
              go_ret
              exact ⟨rfl, bb4.trans (hw.mono bb4.size)⟩

set_option maxRecDepth 100000 in
set_option maxHeartbeats 2000000 in
theorem symbolStates_long (s : Nat) (a : Option Addr) (n cap : Nat) (w : World) (h : 20 < n) :
    Calls Try.prog 4 #[.int .u32 s, .slice a n cap] w fun e w' => e = .returned (.bool true) ∧ Below w.heap.size w w' := by
  go_enter Try.func4, Try.ntmps4
  go_wp2
  go_ret
  exact ⟨rfl, Below.refl _ _⟩

/-- The law, of whatever state and row. -/
theorem symbolStates_walk (a0 : Int) (a1 : Option Addr) (len1 cap1 : Nat) (z1 : List Int) (w : World) (w0 : (Lit.int .u32 a0).wf = true) (w1 : IsRow .i64 w a1 len1 cap1 z1) :
    Calls Try.prog 4 #[.int .u32 a0, .slice a1 len1 cap1] w fun e w' => e = .returned (.bool true) ∧ Below w.heap.size w w' := by
  obtain ⟨xs, rfl, hx, _⟩ := holds_of_isRow w1
  have h0 := bounds_u32 w0
  obtain ⟨s, rfl⟩ := Int.eq_ofNat_of_zero_le h0.1
  have hs : s < 4294967296 := by omega
  by_cases h : 20 < xs.length
  · exact symbolStates_long s a1 _ cap1 w h
  · by_cases h4 : xs.length = 4
    · by_cases hB : Bytes4 xs
      · rw [show (Value.slice a1 xs.length cap1 : Value) = .slice a1 4 cap1 by rw [h4]]
        exact symbolStates_good s hs a1 cap1 xs h4 hB w (by rw [← h4]; exact hx)
      · rw [show (Value.slice a1 xs.length cap1 : Value) = .slice a1 4 cap1 by rw [h4]]
        exact symbolStates_bad s hs a1 cap1 xs h4 hB w (by rw [← h4]; exact hx)
    · exact symbolStates_len s hs a1 cap1 xs (by omega) h4 w hx

end Go.Proofs.Ytanglpjledfbmaa
