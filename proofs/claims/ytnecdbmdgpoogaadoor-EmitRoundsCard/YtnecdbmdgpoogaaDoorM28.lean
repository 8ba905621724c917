/-
  What bytes.Equal, of two texts of four bytes, and crc.Sealed, of any text, answer.
-/
import Derived.Test.YtnecdbmdgpoogaaDoorM09
import Derived.Test.YtnecdbmdgpoogaaDoorM20
import Derived.BigQuiet
import Derived.Deep.RegionWith
import Derived.Laws.BytesArg
import Derived.Laws.CopyOwn
import Derived.Lib.AppendZerosOnto
import Derived.Lib.SliceRun
namespace Go.Proofs.YtnecdbmdgpoogaaDoor
open Go.RowKit

theorem ofNat_inj {x y : Int} (h0 : 0 ≤ x ∧ x ≤ 255) (h1 : 0 ≤ y ∧ y ≤ 255) (h : UInt8.ofNat x.toNat = UInt8.ofNat y.toNat) : x = y := by
  have := congrArg UInt8.toNat h
  simp at this
  omega

theorem str_inj : ∀ {xs ys : List Int}, (∀ z ∈ xs, 0 ≤ z ∧ z ≤ 255) → (∀ z ∈ ys, 0 ≤ z ∧ z ≤ 255) → xs.map (fun n => UInt8.ofNat n.toNat) = ys.map (fun n => UInt8.ofNat n.toNat) → xs = ys
  | [], [], _, _, _ => rfl
  | [], _ :: _, _, _, h => by simp at h
  | _ :: _, [], _, _, h => by simp at h
  | x :: l, y :: m, h1, h2, h => by
    simp only [List.map_cons, List.cons.injEq] at h
    rw [ofNat_inj (h1 x List.mem_cons_self) (h2 y List.mem_cons_self) h.1, str_inj (fun z hz => h1 z (List.mem_cons_of_mem _ hz)) (fun z hz => h2 z (List.mem_cons_of_mem _ hz)) h.2]

theorem str_eq {xs ys : List Int} (h1 : ∀ z ∈ xs, 0 ≤ z ∧ z ≤ 255) (h2 : ∀ z ∈ ys, 0 ≤ z ∧ z ≤ 255) : ((strOfNums xs).toList == (strOfNums ys).toList) = decide (xs = ys) := by
  rw [ByteArray.toList_eq, ByteArray.toList_eq, strOfNums_data, strOfNums_data]
  by_cases h : xs = ys
  · rw [decide_eq_true h, h, beq_iff_eq]
  · rw [decide_eq_false h, beq_eq_false_iff_ne]
    exact fun e => h (str_inj h1 h2 e)

theorem take_drop4 {xs : List Int} (h : 4 ≤ xs.length) : (xs.drop (xs.length - 4)).length = 4 := by rw [List.length_drop]; omega

theorem sealed_iff {xs : List Int} (h4 : 4 ≤ xs.length) : isSealed xs = decide (xs.drop (xs.length - 4) = four (sum32 (xs.take (xs.length - 4)))) := by
  show (decide (4 ≤ xs.length) && decide (sealL (xs.take (xs.length - 4)) = xs)) = _
  rw [decide_eq_true h4, Bool.true_and]
  have e : xs = xs.take (xs.length - 4) ++ xs.drop (xs.length - 4) := (List.take_append_drop _ _).symm
  apply decide_eq_decide.2
  unfold sealL
  constructor
  · intro h
    have h' := h.trans e
    exact (List.append_cancel_left h').symm
  · intro h
    rw [← h]
    exact e.symm

theorem isSealed_sealL (xs : List Int) : isSealed (sealL xs) = true := by
  have hl : (sealL xs).length = xs.length + 4 := by simp [sealL, four]
  have ht : (sealL xs).take ((sealL xs).length - 4) = xs := by
    rw [hl, Nat.add_sub_cancel]
    unfold sealL
    rw [List.take_append_of_le_length (Nat.le_refl _), List.take_length]
  unfold isSealed
  rw [ht, decide_eq_true rfl, decide_eq_true (show 4 ≤ (sealL xs).length by omega)]
  rfl

end Go.Proofs.YtnecdbmdgpoogaaDoor

/-
  What slices.Grow (of nothing), slices.Concat (of four) and slices.Equal answer, of bytes; copy over a row of noughts.
-/
namespace Go.Proofs.YtnecdbmdgpoogaaDoor
open Go.RowKit

set_option maxRecDepth 100000 in
set_option maxHeartbeats 2000000 in
theorem growB_new (k : Nat) (h0 : 0 < k) (hk : k ≤ 4294967296) (w : World) :
    Calls Tryd.prog 73 #[.slice none 0 0, .int .i64 (k : Int)] w fun e W' => ∃ r, e = .returned r ∧ W'.ownsRow w.heap.size 5 1 r 0 [] ∧ Below w.heap.size w W' := by
  obtain ⟨i0, hi, hz0, hz1, hz2⟩ := info_parts infoU8
  have hold : (Builtin.firstCells i0.size 0 (.slice none 0 0)).run Tryd.prog w.drew = .ok ([] : List Value).toArray w.drew := Go.run_firstCells_none w.drew i0.size 0 0 0
  have hrz := Lib.run_append_grow_zeros w 24 3 24 5 i0 (.int .u8 0) .i64 .i64 Tryd.underlying24 Tryd.underlying3 hi hz0 none 0 0 [] hold k h0 (by rw [hz1]; decide) (by omega) (by omega) (by rw [hz2]; omega) (growslice_fits (by omega) (by rw [hz2]; omega))
  have hGm := grownCap_le_maxLen w (0 + k) 0 5 (by unfold maxLen; omega)
  have hGn : 0 + k ≤ grownCap w (0 + k) 0 5 := grownCap_ge w _ _ _
  obtain ⟨G, hG⟩ : ∃ G, grownCap w (0 + k) 0 5 = G := ⟨_, rfl⟩
  rw [hG] at hrz hGm hGn
  obtain ⟨cur, hcur⟩ : ∃ cur, (([] : List Value).toArray ++ Builtin.zeroCells (Value.int .u8 0).cells k ++ Builtin.zeroCells (Value.int .u8 0).cells (G - (0 + k))) = cur := ⟨_, rfl⟩
  have hcs : cur.size = G * 1 := by
    rw [← hcur]
    simp only [Array.size_append, List.size_toArray, size_zeroCells, List.length_nil]
    have : (Value.int .u8 0).cells.size = 1 := rfl
    rw [this]
    omega
  rw [hcur] at hrz
  have o1 : (w.drew.alloc (.cells cur 5)).ownsRow w.heap.size 5 1 (.slice (some ⟨w.drew.heap.size, 0, none⟩) 0 G) 0 [] := World.ownsRow_made w.drew cur G (Nat.le_refl _) hGm hcs
  have b1 := (Below.refl w.heap.size w).drew.alloc (Nat.le_refl _) (.cells cur 5)
  have hG2 : G ≤ 9223372036854775807 := by unfold maxLen at hGm; omega
  have e0 : 0 + k = k := by omega
  rw [e0] at hrz
  clear hcur hG hGm hGn hold hcs
  go_enter Tryd.func73, Tryd.ntmps73
  go_wp2_with (at_builtin; refine Lib.wpList_append_run _ rfl _ _ _ _ rfl _ _ rfl rfl _ _ hrz ?_)
  all_goals (go_ret; exact ⟨_, rfl, o1, b1⟩)

set_option maxRecDepth 100000 in
set_option maxHeartbeats 4000000 in
/-- slices.Concat of four texts, not all of them without bytes. -/
theorem concat4_ok (g : Nat) (a1 a2 a3 a4 : Option Addr) (c1 c2 c3 c4 : Nat) (l1 l2 l3 l4 : List Int) (p1 : l1.length ≤ 1048576) (p2 : l2.length ≤ 1048576) (p3 : l3.length ≤ 1048576) (p4 : l4.length ≤ 1048576) (h0 : 0 < l1.length) (w : World)
    (k1 : w.cell? ⟨g, 0, none⟩ = some (.slice a1 l1.length c1)) (k2 : w.cell? ⟨g, 1, none⟩ = some (.slice a2 l2.length c2)) (k3 : w.cell? ⟨g, 2, none⟩ = some (.slice a3 l3.length c3)) (k4 : w.cell? ⟨g, 3, none⟩ = some (.slice a4 l4.length c4))
    (h1 : Holds .u8 w.heap.size w (.slice a1 l1.length c1) l1) (h2 : Holds .u8 w.heap.size w (.slice a2 l2.length c2) l2) (h3 : Holds .u8 w.heap.size w (.slice a3 l3.length c3) l3) (h4 : Holds .u8 w.heap.size w (.slice a4 l4.length c4) l4) :
    Calls Tryd.prog 58 #[.slice (some ⟨g, 0, none⟩) 4 4] w fun e W' => ∃ r, e = .returned r ∧ W'.ownsRow w.heap.size 5 1 r (l1.length + l2.length + l3.length + l4.length) ((l1 ++ l2 ++ l3 ++ l4).map (Value.int .u8)) ∧ Below w.heap.size w W' := by
  have hg : g < w.heap.size := cell_block_lt k1
  have H1 : Hid (Holds .u8 w.heap.size w (.slice a1 l1.length c1) l1) := h1
  have H2 : Hid (Holds .u8 w.heap.size w (.slice a2 l2.length c2) l2) := h2
  have H3 : Hid (Holds .u8 w.heap.size w (.slice a3 l3.length c3) l3) := h3
  have H4 : Hid (Holds .u8 w.heap.size w (.slice a4 l4.length c4) l4) := h4
  obtain ⟨n1, e1⟩ : ∃ n, l1.length = n := ⟨_, rfl⟩
  obtain ⟨n2, e2⟩ : ∃ n, l2.length = n := ⟨_, rfl⟩
  obtain ⟨n3, e3⟩ : ∃ n, l3.length = n := ⟨_, rfl⟩
  obtain ⟨n4, e4⟩ : ∃ n, l4.length = n := ⟨_, rfl⟩
  rw [e1] at H1 p1 h0 k1 ⊢
  rw [e2] at H2 p2 k2 ⊢
  rw [e3] at H3 p3 k3 ⊢
  rw [e4] at H4 p4 k4 ⊢
  have E1 : Hid (l1.length = n1) := e1
  have E2 : Hid (l2.length = n2) := e2
  have E3 : Hid (l3.length = n3) := e3
  have E4 : Hid (l4.length = n4) := e4
  clear e1 e2 e3 e4 h1 h2 h3 h4
  go_enter Tryd.func58, Tryd.ntmps58
  go_wp2
  go_loop [3, 11] (fun s i => (s = .int .i64 0 ∧ i = .int .i64 0) ∨ (s = .int .i64 n1 ∧ i = .int .i64 1) ∨ (s = .int .i64 ((n1 + n2 : Nat) : Int) ∧ i = .int .i64 2) ∨ (s = .int .i64 ((n1 + n2 + n3 : Nat) : Int) ∧ i = .int .i64 3) ∨ (s = .int .i64 ((n1 + n2 + n3 + n4 : Nat) : Int) ∧ i = .int .i64 4)) (fun _ i => 4 - (intOf i).toNat)
  case atStart => exact .inl ⟨rfl, rfl⟩
  case round =>
    rcases hrel with ⟨rfl, rfl⟩ | ⟨rfl, rfl⟩ | ⟨rfl, rfl⟩ | ⟨rfl, rfl⟩ | ⟨rfl, rfl⟩
    · go_wp2
      go_round
      case rel => exact .inr (.inl ⟨by go_num, by go_num⟩)
      case measure => simp [intOf]
    · go_wp2
      go_round
      case rel => exact .inr (.inr (.inl ⟨by go_num, by go_num⟩))
      case measure => simp [intOf]
    · go_wp2
      go_round
      case rel => exact .inr (.inr (.inr (.inl ⟨by go_num, by go_num⟩)))
      case measure => simp [intOf]
    · go_wp2
      go_round
      case rel => exact .inr (.inr (.inr (.inr ⟨by go_num, by go_num⟩)))
      case measure => simp [intOf]
    · obtain ⟨m, hm⟩ : ∃ m, n1 + n2 + n3 + n4 = m := ⟨_, rfl⟩
      have HG := growB_new m (by omega) (by omega) w
      rw [hm]
      have HM : Hid (n1 + n2 + n3 + n4 = m) := hm
      have hmp : 0 < m := by omega
      clear hm
      go_wp2_with fail
      refine HG.mono ?_
      rintro e w1 ⟨r, rfl, o1, b1⟩
      have hs1 := b1.size
      have q1 := (b1.cell (p := ⟨g, 0, none⟩) hg).trans k1
      have q2 := (b1.cell (p := ⟨g, 1, none⟩) hg).trans k2
      have q3 := (b1.cell (p := ⟨g, 2, none⟩) hg).trans k3
      have q4 := (b1.cell (p := ⟨g, 3, none⟩) hg).trans k4
      clear HG k1 k2 k3 k4
      go_wp2
      go_loopw [6, 27] (fun v i wr => ((i = .int .i64 0 ∧ wr.ownsRow w.heap.size 5 1 v 0 (([] : List Int).map (Value.int .u8))) ∨ (i = .int .i64 1 ∧ wr.ownsRow w.heap.size 5 1 v n1 (l1.map (Value.int .u8))) ∨ (i = .int .i64 2 ∧ wr.ownsRow w.heap.size 5 1 v (n1 + n2) ((l1 ++ l2).map (Value.int .u8))) ∨ (i = .int .i64 3 ∧ wr.ownsRow w.heap.size 5 1 v (n1 + n2 + n3) ((l1 ++ l2 ++ l3).map (Value.int .u8))) ∨ (i = .int .i64 4 ∧ wr.ownsRow w.heap.size 5 1 v (n1 + n2 + n3 + n4) ((l1 ++ l2 ++ l3 ++ l4).map (Value.int .u8)))) ∧ Below w.heap.size w wr) (fun _ i _ => 4 - (intOf i).toNat)
      case atStart => exact ⟨.inl ⟨rfl, o1⟩, b1⟩
      case round =>
        obtain ⟨hc, hbw⟩ := hrel
        have r1 := (hbw.cell (p := ⟨g, 0, none⟩) hg).trans ((b1.cell (p := ⟨g, 0, none⟩) hg).symm.trans q1)
        have r2 := (hbw.cell (p := ⟨g, 1, none⟩) hg).trans ((b1.cell (p := ⟨g, 1, none⟩) hg).symm.trans q2)
        have r3 := (hbw.cell (p := ⟨g, 2, none⟩) hg).trans ((b1.cell (p := ⟨g, 2, none⟩) hg).symm.trans q3)
        have r4 := (hbw.cell (p := ⟨g, 3, none⟩) hg).trans ((b1.cell (p := ⟨g, 3, none⟩) hg).symm.trans q4)
        clear q1 q2 q3 q4 o1
        rcases hc with ⟨rfl, ho⟩ | ⟨rfl, ho⟩ | ⟨rfl, ho⟩ | ⟨rfl, ho⟩ | ⟨rfl, ho⟩
        · obtain ⟨v3, w3, hr3, ho3, hg3⟩ := run_append_u8 _ (.slice a1 n1 c1) 0 w.heap.size _ [] l1 24 wr ho (H1.out.below hbw) hbw.size (by omega) (by rw [E1.out]; omega)
          rw [E1.out, List.nil_append, Nat.zero_add] at ho3
          have b3 := hbw.trans ((Below.refl w.heap.size _).grown hg3 hbw.size (fun q e => (ho.lt q e).1))
          have HR3 : Hid _ := hr3
          clear hr3 ho hg3
          go_wp2_with (at_builtin; refine wpList_append_run rfl _ _ 24 rfl _ _ rfl rfl _ _ HR3.out ?_)
          exact ⟨⟨.inr (.inl ⟨by go_num, ho3⟩), b3⟩, by simp [intOf]⟩
        · obtain ⟨v3, w3, hr3, ho3, hg3⟩ := run_append_u8 _ (.slice a2 n2 c2) n1 w.heap.size _ l1 l2 24 wr ho (H2.out.below hbw) hbw.size (by omega) (by rw [E2.out]; omega)
          rw [E2.out] at ho3
          have b3 := hbw.trans ((Below.refl w.heap.size _).grown hg3 hbw.size (fun q e => (ho.lt q e).1))
          have HR3 : Hid _ := hr3
          clear hr3 ho hg3
          go_wp2_with (at_builtin; refine wpList_append_run rfl _ _ 24 rfl _ _ rfl rfl _ _ HR3.out ?_)
          exact ⟨⟨.inr (.inr (.inl ⟨by go_num, ho3⟩)), b3⟩, by simp [intOf]⟩
        · obtain ⟨v3, w3, hr3, ho3, hg3⟩ := run_append_u8 _ (.slice a3 n3 c3) (n1 + n2) w.heap.size _ (l1 ++ l2) l3 24 wr ho (H3.out.below hbw) hbw.size (by omega) (by rw [E3.out]; omega)
          rw [E3.out] at ho3
          have b3 := hbw.trans ((Below.refl w.heap.size _).grown hg3 hbw.size (fun q e => (ho.lt q e).1))
          have HR3 : Hid _ := hr3
          clear hr3 ho hg3
          go_wp2_with (at_builtin; refine wpList_append_run rfl _ _ 24 rfl _ _ rfl rfl _ _ HR3.out ?_)
          exact ⟨⟨.inr (.inr (.inr (.inl ⟨by go_num, ho3⟩))), b3⟩, by simp [intOf]⟩
        · obtain ⟨v3, w3, hr3, ho3, hg3⟩ := run_append_u8 _ (.slice a4 n4 c4) (n1 + n2 + n3) w.heap.size _ (l1 ++ l2 ++ l3) l4 24 wr ho (H4.out.below hbw) hbw.size (by omega) (by rw [E4.out]; omega)
          rw [E4.out] at ho3
          have b3 := hbw.trans ((Below.refl w.heap.size _).grown hg3 hbw.size (fun q e => (ho.lt q e).1))
          have HR3 : Hid _ := hr3
          clear hr3 ho hg3
          go_wp2_with (at_builtin; refine wpList_append_run rfl _ _ 24 rfl _ _ rfl rfl _ _ HR3.out ?_)
          exact ⟨⟨.inr (.inr (.inr (.inr ⟨by go_num, ho3⟩))), b3⟩, by simp [intOf]⟩
        · go_wp2
          go_ret
          exact ⟨_, rfl, HM.out ▸ ho, hbw⟩

end Go.Proofs.YtnecdbmdgpoogaaDoor
