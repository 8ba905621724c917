/-
  The laws' own guard over pick (wakes) answers true; what is heavy. What lay lies as it lay.
-/
import Derived.Test.YtmjbphbjaedlpaaPickCode
namespace Go.Proofs.Ytmjbphbjaedlpaa
open Go.RowKit

/-- A new block of nodes is held. -/
theorem nodes_new (w : World) (r : List Rn) (l : List Nd) (cap : Nat) (t : TypeId) (h : RnsOf (w.alloc (.cells (rnCells r).toArray t)).heap.size (w.alloc (.cells (rnCells r).toArray t)) r l) : Nodes (w.alloc (.cells (rnCells r).toArray t)).heap.size (w.alloc (.cells (rnCells r).toArray t)) (.slice (some ⟨w.heap.size, 0, none⟩) r.length cap) l := by
  refine ⟨r, .inr ⟨w.heap.size, 0, cap, rfl, by simp, fun j x hx => ?_⟩, h⟩
  have hn := World.news_of_block (World.alloc_heap_new w (.cells (rnCells r).toArray t))
  obtain ⟨h1, h2, h3, h4⟩ := rnCells_get hx
  have c1 := hn (j * 4) _ (by simpa using h1)
  have c2 := hn (j * 4 + 1) _ (by simpa using h2)
  have c3 := hn (j * 4 + 2) _ (by simpa using h3)
  have c4 := hn (j * 4 + 3) _ (by simpa using h4)
  rw [Addr.add_lit] at c1 c2 c3 c4
  exact ⟨c1, c2, c3, c4⟩

def wakeL : List Nd := [(1, 0, 3, []), (2, 0, 1, []), (3, 0, 2, []), (4, 0, 1, [])]
def wakeR : List Rn := [(1, 0, 3, .slice none 0 0), (2, 0, 1, .slice none 0 0), (3, 0, 2, .slice none 0 0), (4, 0, 1, .slice none 0 0)]
theorem wake_rns (n₀ : Nat) (W : World) : RnsOf n₀ W wakeR wakeL := by
  have hn : Holds .i64 n₀ W (.slice none 0 0) [] := .inl ⟨⟨_, _, rfl, fun _ => rfl⟩, rfl⟩
  have h1 := ((((rnsOf_nil n₀ W).snoc (x := (1, 0, 3, .slice none 0 0)) (y := (1, 0, 3, [])) ⟨rfl, rfl, rfl, hn⟩).snoc (x := (2, 0, 1, .slice none 0 0)) (y := (2, 0, 1, [])) ⟨rfl, rfl, rfl, hn⟩).snoc (x := (3, 0, 2, .slice none 0 0)) (y := (3, 0, 2, [])) ⟨rfl, rfl, rfl, hn⟩).snoc (x := (4, 0, 1, .slice none 0 0)) (y := (4, 0, 1, [])) ⟨rfl, rfl, rfl, hn⟩
  exact h1

set_option maxRecDepth 100000 in
set_option maxHeartbeats 2000000 in
theorem pickWakes_any (w : World) : Calls Try.prog 10 #[] w fun e w' => e = .returned (.bool true) ∧ Below w.heap.size w w' := by
  have hN := nodes_new w wakeR wakeL 4 32 (wake_rns _ _)
  have b0 := (Below.refl w.heap.size w).alloc (Nat.le_refl _) (.cells (rnCells wakeR).toArray 32)
  have HC := Pick_ok (.slice (some ⟨w.heap.size, 0, none⟩) 4 4) wakeL (by decide) (by decide) 2 (by decide) (by decide) (by decide) _ hN
  rw [show cutK sc 2 wakeL = 2 by decide, show keptN 2 wakeL = [(2, 0, 1, []), (4, 0, 1, [])] by decide] at HC
  rw [show ((2 : Nat) : Int) = 2 from rfl] at HC
  clear hN
  go_enter Try.func10, Try.ntmps10
  go_wp2_with fail
  refine HC.mono ?_
  rintro e w2 ⟨r, rfl, o2, b2⟩
  obtain ⟨a, cap, rfl⟩ := o2.nodes.shape
  obtain ⟨b, off, rfl, _, hc⟩ := nodes_at o2.nodes rfl (by decide)
  obtain ⟨_, _, c0, _, _, _⟩ := hc 0 _ rfl
  obtain ⟨_, _, c1, _, _, _⟩ := hc 1 _ rfl
  rw [Nat.zero_mul, Nat.add_zero] at c0
  rw [Nat.one_mul] at c1
  have bb := b0.trans (b2.mono (by simp))
  clear hc o2 HC b2 b0
  go_wp2
  go_ret
  exact ⟨rfl, bb⟩

/-- More than is played. -/
def heavyB (l : List Nd) : Bool := decide (400 < l.length) || l.any fun x => decide (100 < x.2.2.2.length)
theorem heavyB_no {l : List Nd} (h : heavyB l = false) : l.length ≤ 400 ∧ ∀ x ∈ l, x.2.2.2.length ≤ 100 := by
  unfold heavyB at h
  rw [Bool.or_eq_false_iff] at h
  refine ⟨by have := of_decide_eq_false h.1; omega, fun x hx => ?_⟩
  have := List.any_eq_false.1 h.2 x hx
  simp at this
  exact this

set_option maxRecDepth 100000 in
set_option maxHeartbeats 2000000 in
theorem heavy_any (v : Value) (l : List Nd) (hl : l.length ≤ maxLen) (hm : ∀ x ∈ l, x.2.2.2.length ≤ maxLen) (w : World) (ha : Nodes w.heap.size w v l) :
    Calls Try.prog 6 #[v] w fun e w' => e = .returned (.bool (heavyB l)) ∧ w = w' := by
  unfold maxLen at hl hm
  obtain ⟨a, cap, rfl⟩ := ha.shape
  obtain ⟨n, hn⟩ : ∃ n, l.length = n := ⟨_, rfl⟩
  rw [hn] at ha hl ⊢
  have HN : Hid (l.length = n) := hn
  have HM : Hid (∀ x ∈ l, x.2.2.2.length ≤ 9223372036854775807) := fun x hx => by have := hm x hx; omega
  clear hn hm
  by_cases hbig : 400 < n
  · have HB : Hid (heavyB l = true) := by
      show heavyB l = true
      unfold heavyB
      rw [HN.out, decide_eq_true hbig]
      rfl
    go_enter Try.func6, Try.ntmps6
    go_wp2
    go_ret
    exact ⟨by rw [HB.out]; rfl, rfl⟩
  · go_enter Try.func6, Try.ntmps6
    go_wp2
    go_loop [3] (fun i => ∃ k : Nat, k ≤ n ∧ i = .int .i64 k ∧ ∀ x ∈ l.take k, x.2.2.2.length ≤ 100) (fun i => n - (intOf i).toNat)
    case atStart => exact ⟨0, Nat.zero_le _, rfl, fun x hx => by simp at hx⟩
    case round =>
      obtain ⟨k, hk, rfl, hall⟩ := hrel
      have HA : Hid (∀ x ∈ l.take k, x.2.2.2.length ≤ 100) := hall
      clear hall
      by_cases hlt : k < n
      · obtain ⟨b, off, rfl, hb, hc⟩ := nodes_at ha HN.out (by omega)
        obtain ⟨⟨s, m, c, ps⟩, hxk⟩ : ∃ x, l[k]? = some x := ⟨l[k]'(by rw [HN.out]; exact hlt), by simp⟩
        obtain ⟨p, hp, c1, c2, c3, c4⟩ := hc _ _ hxk
        obtain ⟨pa, pc, rfl⟩ := hp.shape
        have HXK : Hid (l[k]? = some (s, m, c, ps)) := hxk
        have hpl : ps.length ≤ 9223372036854775807 := HM.out _ (List.mem_of_getElem? hxk)
        obtain ⟨pn, hpn⟩ : ∃ pn, ps.length = pn := ⟨_, rfl⟩
        rw [hpn] at c4 hpl
        have HPN : Hid (ps.length = pn) := hpn
        clear hxk hc hp hpn ha
        by_cases h100 : 100 < pn
        · have HY : Hid (heavyB l = true) := by
            show heavyB l = true
            unfold heavyB
            rw [Bool.or_eq_true]
            refine .inr (List.any_eq_true.2 ⟨_, List.mem_of_getElem? HXK.out, decide_eq_true ?_⟩)
            show 100 < ps.length
            rw [HPN.out]; exact h100
          go_wp2
          go_ret
          exact ⟨by rw [HY.out]; rfl, rfl⟩
        · have HY : Hid (∀ x ∈ l.take (k + 1), x.2.2.2.length ≤ 100) := by
            show ∀ x ∈ l.take (k + 1), x.2.2.2.length ≤ 100
            intro x hx
            rw [List.take_add_one, HXK.out] at hx
            rcases List.mem_append.1 hx with h | h
            · exact HA.out x h
            · simp at h
              subst h
              show ps.length ≤ 100
              rw [HPN.out]; omega
          go_wp2
          go_round
          case rel => exact ⟨k + 1, by omega, by go_num, HY.out⟩
          case measure => simp [intOf]; omega
      · obtain rfl : n = k := by omega
        have HY : Hid (heavyB l = false) := by
          show heavyB l = false
          unfold heavyB
          rw [Bool.or_eq_false_iff, HN.out]
          refine ⟨decide_eq_false (by omega), List.any_eq_false.2 fun x hx => ?_⟩
          have := HA.out x (by rw [List.take_of_length_le (by rw [HN.out]; exact Nat.le_refl _)]; exact hx)
          simp
          exact this
        go_wp2
        go_ret
        exact ⟨by rw [HY.out]; rfl, rfl⟩

end Go.Proofs.Ytmjbphbjaedlpaa
