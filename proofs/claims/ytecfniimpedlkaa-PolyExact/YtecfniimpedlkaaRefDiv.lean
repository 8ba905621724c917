/-
  What the page's Div answers of rows of 0 and 1.
-/
import Derived.Test.YtecfniimpedlkaaRefMul
import Derived.Test.YtecfniimpedlkaaDivLaws
namespace Go.Proofs.Ytecfniimpedlkaa
open Go.RowKit

/-- Block g begins with the numbers zs. -/
def RowC (W : World) (g : Nat) (zs : List Int) : Prop := ∃ cur : Array Value, W.heap[g]? = some (.cells cur 3 (0, 0)) ∧ cur.toList.take zs.length = zs.map (Value.int .i64)

theorem RowC.lt {g : Nat} {W : World} {zs : List Int} (h : RowC W g zs) : g < W.heap.size := by
  obtain ⟨cur, h1, _⟩ := h
  exact (Array.getElem?_eq_some_iff.1 h1).1
theorem RowC.cell {g : Nat} {W : World} {zs : List Int} (h : RowC W g zs) (q : Nat) {x : Int} (hq : zs[q]? = some x) : W.cell? ⟨g, q, none⟩ = some (.int .i64 x) := by
  obtain ⟨cur, h1, h2⟩ := h
  have hlt : q < zs.length := (List.getElem?_eq_some_iff.1 hq).1
  have e : (cur.toList.take zs.length)[q]? = some (.int .i64 x) := by rw [h2]; simp [hq]
  rw [List.getElem?_take, if_pos hlt, Array.getElem?_toList] at e
  simp [World.cell?, h1, e]
theorem RowC.frozen {g : Nat} {W : World} {zs : List Int} (h : RowC W g zs) (q : Nat) : W.frozen? ⟨g, q, none⟩ = false := by
  obtain ⟨cur, h1, _⟩ := h
  simp [World.frozen?, h1]
theorem RowC.below {g n : Nat} {W W' : World} {zs : List Int} (h : RowC W g zs) (hb : Below n W W') (hg : g < n) : RowC W' g zs := by
  obtain ⟨cur, h1, h2⟩ := h
  exact ⟨cur, (hb.block g hg).trans h1, h2⟩
theorem RowC.set {g : Nat} {W : World} {zs : List Int} (h : RowC W g zs) (k : Nat) (z : Int) : RowC (W.setCell ⟨g, k, none⟩ (.int .i64 z)) g (zs.set k z) := by
  obtain ⟨cur, h1, h2⟩ := h
  refine ⟨cur.setIfInBounds k (.int .i64 z), ?_, ?_⟩
  · unfold World.setCell
    simp only [Array.getElem?_modify, if_true, h1, Option.map_some]
    simp
  · rw [Array.toList_setIfInBounds, List.length_set, List.take_set, h2, List.map_set]
theorem RowC.has {g : Nat} {W : World} {zs : List Int} {cap : Nat} (h : RowC W g zs) (hc : zs.length ≤ cap) (hc2 : cap ≤ maxLen) : Has W (.slice (some ⟨g, 0, none⟩) zs.length cap) zs := by
  refine ⟨.inr ⟨g, 0, cap, rfl, h.lt, fun j hj => ?_⟩, _, _, _, rfl, hc, by unfold maxLen at hc2; omega⟩
  rw [Nat.zero_add, h.cell j (x := zs[j]?.getD 0) (by simp [hj])]

/-- What stands behind k rounds of the page's division: the rest so far, the quotient so far. -/
structure RefDivided (A ms : List Int) (nq k : Nat) (L Q : List Int) : Prop where
  binL : Bin L
  binQ : Bin Q
  lenL : L.length = A.length
  lenQ : Q.length = k
  sum : val A = cl (val Q * 2 ^ (nq - k)) (val ms) ^^^ val L
  less : val L < 2 ^ (A.length - k)

theorem RefDivided.start {A ms : List Int} (hA : Bin A) (nq : Nat) : RefDivided A ms nq 0 A [] where
  binL := hA
  binQ := Bin.nil
  lenL := rfl
  lenQ := rfl
  sum := by rw [val_nil, Nat.zero_mul, cl_zero, Nat.zero_xor]
  less := val_lt hA

theorem RefDivided.bit {A ms L Q : List Int} {nq k : Nat} (h : RefDivided A ms nq k L Q) {x : Int} (hx : L[k]? = some x) : (x = 0 → val L < 2 ^ (A.length - (k + 1))) ∧ (x = 1 → 2 ^ (A.length - (k + 1)) ≤ val L) := by
  have hk : k < A.length := h.lenL ▸ (List.getElem?_eq_some_iff.1 hx).1
  have hb := val_bit h.binL hx
  have hl := h.less
  obtain ⟨s, hs⟩ : ∃ s, A.length - k = s + 1 := ⟨A.length - k - 1, by omega⟩
  have e1 : L.length - 1 - k = s := by rw [h.lenL]; omega
  have e2 : A.length - (k + 1) = s := by omega
  rw [e1] at hb
  rw [hs, Nat.pow_succ] at hl
  rw [e2]
  have hq : val L / 2 ^ s < 2 := (Nat.div_lt_iff_lt_mul (Nat.two_pow_pos s)).2 (by omega)
  constructor
  · intro h0
    rw [h0] at hb
    have : val L / 2 ^ s = 0 := by
      generalize val L / 2 ^ s = T at hb hq
      simp at hb
      omega
    exact (Nat.div_eq_zero_iff_lt (Nat.two_pow_pos s)).1 this
  · intro h1
    rw [h1] at hb
    have : 1 ≤ val L / 2 ^ s := by
      generalize val L / 2 ^ s = T at hb hq
      simp at hb
      omega
    have := (Nat.le_div_iff_mul_le (Nat.two_pow_pos s)).1 this
    omega

theorem quot_next {Q : List Int} {nq k : Nat} {x : Int} (hk : k < nq) (hx : x = 0 ∨ x = 1) : val (Q ++ [x]) * 2 ^ (nq - (k + 1)) = val Q * 2 ^ (nq - k) ^^^ x.toNat * 2 ^ (nq - (k + 1)) := by
  obtain ⟨s, hs⟩ : ∃ s, nq - k = s + 1 := ⟨nq - k - 1, by omega⟩
  have e5 : 2 * val Q + x.toNat = 2 * val Q ^^^ x.toNat := by
    have := push_xor (val Q) 0 x.toNat (by omega) (by rcases hx with rfl | rfl <;> decide)
    simpa using this
  rw [hs, show nq - (k + 1) = s by omega, val_snoc, e5, mul_pow_xor, Nat.pow_succ, Nat.mul_comm 2, Nat.mul_assoc, Nat.mul_comm 2]

theorem RefDivided.pass {A ms L Q : List Int} {nq k : Nat} (h : RefDivided A ms nq k L Q) (hk : k < nq) (hx : L[k]? = some 0) : RefDivided A ms nq (k + 1) L (Q ++ [0]) where
  binL := h.binL
  binQ := h.binQ.append (fun y hy => by simp at hy; exact .inl hy)
  lenL := h.lenL
  lenQ := by simp [h.lenQ]
  sum := by rw [quot_next hk (.inl rfl)]; simp; exact h.sum
  less := (h.bit hx).1 rfl

theorem RefDivided.next {A ms L Q L' : List Int} {nq k : Nat} (h : RefDivided A ms nq k L Q) (hm : Tr ms) (hm0 : ms ≠ []) (hk : k < nq) (hnq : nq + ms.length = A.length + 1) (hx : L[k]? = some 1)
    (hL : Bin L') (hlen : L'.length = L.length) (hval : val L' = val L ^^^ val ms * 2 ^ (L.length - k - ms.length)) : RefDivided A ms nq (k + 1) L' (Q ++ [1]) := by
  obtain ⟨t1, t2⟩ := hm.top hm0
  have hmp : 0 < ms.length := List.length_pos_iff.2 hm0
  have e1 : L.length - k - ms.length = nq - (k + 1) := by rw [h.lenL]; omega
  rw [e1] at hval
  refine ⟨hL, h.binQ.append (fun y hy => by simp at hy; exact .inr hy), hlen.trans h.lenL, by simp [h.lenQ], ?_, ?_⟩
  · rw [quot_next hk (.inr rfl), hval, show (1 : Int).toNat * 2 ^ (nq - (k + 1)) = 2 ^ (nq - (k + 1)) by simp, cl_xor_left, cl_comm (2 ^ _), cl_pow, xor4, Nat.xor_self, Nat.xor_zero]
    exact h.sum
  · rw [hval]
    obtain ⟨s, hs⟩ : ∃ s, A.length - k = s + 1 := ⟨A.length - k - 1, by omega⟩
    have hl := h.less
    rw [hs] at hl
    have hg := (h.bit hx).2 rfl
    have e2 : A.length - (k + 1) = s := by omega
    rw [e2] at hg ⊢
    have e3 : s = ms.length - 1 + (nq - (k + 1)) := by omega
    refine xor_top hg hl ?_ ?_
    · rw [e3, Nat.pow_add]
      exact Nat.mul_le_mul_right _ t1
    · rw [show s + 1 = ms.length - 1 + 1 + (nq - (k + 1)) by omega, Nat.pow_add]
      exact Nat.mul_lt_mul_of_pos_right t2 (Nat.two_pow_pos _)

theorem RefDivided.done {A ms L Q : List Int} {nq : Nat} (h : RefDivided A ms nq nq L Q) (hnq : A.length + 1 ≤ nq + ms.length) : val A = cl (val Q) (val ms) ^^^ val L ∧ val L < 2 ^ (ms.length - 1) := by
  refine ⟨?_, Nat.lt_of_lt_of_le h.less (Nat.pow_le_pow_right (by omega) (by omega))⟩
  have := h.sum
  rw [Nat.sub_self, Nat.pow_zero, Nat.mul_one] at this
  exact this

theorem Only.cellEq {g : Nat} {W W' : World} (h : Only g W W') {p : Addr} (hp : p.block ≠ g) : W'.cell? p = W.cell? p := by
  simp only [World.cell?, h.2.2 p.block hp]

theorem own_shape {W : World} {base n : Nat} {v : Value} {xs : List Value} (h : W.ownsRow base 3 1 v (n + 1) xs) : ∃ g cap, v = .slice (some ⟨g, 0, none⟩) (n + 1) cap ∧ base ≤ g := by
  rcases h.2 with ⟨_, e⟩ | ⟨g, cap, cur, e, hb, _⟩
  · omega
  · exact ⟨g, cap, e, hb⟩

theorem rowC_of_own {W : World} {base n g cap : Nat} {zs : List Int} (h : W.ownsRow base 3 1 (.slice (some ⟨g, 0, none⟩) n cap) n (zs.map (Value.int .i64))) : RowC W g zs := by
  have hl : zs.length = n := by have := h.1; simpa using this
  rcases h.2 with ⟨e, _⟩ | ⟨g', cap', cur, e, _, hg, _, _, _, ht⟩
  · cases e
  · cases e
    exact ⟨cur, hg, by rw [hl]; simpa using ht⟩

theorem row_only {W W' : World} {base n g gq cap : Nat} {xs : List Value} (h : W.ownsRow base 3 1 (.slice (some ⟨gq, 0, none⟩) n cap) n xs) (hO : Only g W W') (hne : gq ≠ g) : W'.ownsRow base 3 1 (.slice (some ⟨gq, 0, none⟩) n cap) n xs := by
  refine ⟨h.1, ?_⟩
  rcases h.2 with ⟨e, _⟩ | ⟨g', cap', cur, e, hb, hg, r⟩
  · cases e
  · cases e
    exact .inr ⟨gq, cap, cur, rfl, hb, (hO.2.2 gq hne).trans hg, r⟩

/-- What is kept through the rounds: of the blocks below B, all but g; below B0 all. -/
def Frame (w w2 : World) (g : Nat) (wr : World) : Prop := (∀ b, b < w2.heap.size → b ≠ g → wr.heap[b]? = w2.heap[b]?) ∧ Below w.heap.size w wr ∧ w2.heap.size ≤ wr.heap.size

theorem Frame.below {w w2 wr w3 : World} {g : Nat} (h : Frame w w2 g wr) (hb : Below w2.heap.size wr w3) (hs : w.heap.size ≤ w2.heap.size) : Frame w w2 g w3 :=
  ⟨fun b h1 h2 => (hb.block b h1).trans (h.1 b h1 h2), h.2.1.trans (hb.mono hs), Nat.le_trans h.2.2 hb.size⟩

theorem Frame.only {w w2 wr w3 : World} {g : Nat} (h : Frame w w2 g wr) (hb : Only g wr w3) (hs : w.heap.size ≤ g) : Frame w w2 g w3 :=
  ⟨fun b h1 h2 => (hb.2.2 b h2).trans (h.1 b h1 h2), h.2.1.trans (hb.1.mono hs), by rw [← hb.2.1]; exact h.2.2⟩

/-- The state behind k rounds. -/
def RDiv (w w2 : World) (g : Nat) (A ms : List Int) (nq k : Nat) (vq : Value) (wr : World) : Prop :=
  (∃ L Q, RowC wr g L ∧ wr.ownsRow w2.heap.size 3 1 vq k (Q.map (Value.int .i64)) ∧ RefDivided A ms nq k L Q) ∧ Frame w w2 g wr

set_option maxRecDepth 100000 in
set_option maxHeartbeats 4000000 in
theorem refDiv_any (v v' : Value) (zs zs' : List Int) (hl : zs.length ≤ 32768) (hl' : zs'.length ≤ 32768) (hb : Bin zs) (hb' : Bin zs') (h0 : val zs' ≠ 0) (w : World) (hH : Has w v zs) (hH' : Has w v' zs') :
    Calls Try.prog 19 #[v, v'] w fun e W' => ∃ vu vv U V ms, e = .returned (.tuple #[vu, vv]) ∧ Has W' vu U ∧ Has W' vv V ∧ (Tr ms ∧ val ms = val zs') ∧ Quot zs zs' U V ms ∧ Below w.heap.size w W' := by
  obtain ⟨i0, hi, hz0, hz1, hz2⟩ := info_parts infoI64
  go_enter Try.func19, Try.ntmps19
  go_wp2_with fail
  refine (twinInts_any _ zs _ (by omega) w hH.1).mono ?_
  rintro e w1 ⟨r1, rfl, o1, b1⟩
  have h1' := hH'.next b1
  clear hH hH'
  go_wp2_with fail
  refine (refTrim_own _ zs' (by omega) hb' w1 h1').mono ?_
  rintro e w2 ⟨r2, ms, rfl, o2, tm, em, b2⟩
  have b02 := b1.trans (b2.mono b1.size)
  have hlm : ms.length ≤ 32768 := Nat.le_trans (len_trim hb' (Nat.le_refl _) ⟨tm, em⟩) hl'
  have hne : ms ≠ [] := fun e => h0 (by rw [← em, e]; rfl)
  have hmp : 0 < ms.length := List.length_pos_iff.2 hne
  have HT : Hid (Tr ms ∧ val ms = val zs' ∧ ms ≠ [] ∧ Bin zs) := ⟨tm, em, hne, hb⟩
  have hs1 := b1.size
  have hs2 := b2.size
  have o1' := row_below o1 b2 (Nat.le_refl _)
  clear h1' tm em hb' hne h0 hb
  rcases o2.2 with ⟨_, e⟩ | ⟨g2, cap2, cur2, rfl, hg2, hh2, _, _, _, _⟩
  · exact absurd hmp (by rw [e]; omega)
  have hg2l : g2 < w2.heap.size := (Array.getElem?_eq_some_iff.1 hh2).1
  have HMC : Hid (∀ j y, ms[j]? = some y → w2.cell? ⟨g2, j, none⟩ = some (.int .i64 y)) := fun j y hy => (rowC_of_own o2).cell j hy
  clear hh2 o2
  rcases o1'.2 with ⟨rfl, e⟩ | ⟨g, cap, cur, rfl, hgb, hgh, hgk, hgm, _, _⟩
  · have e0 : zs = [] := List.length_eq_zero_iff.1 e
    subst e0
    clear o1 o1' e
    have hnil : Has w2 (.slice none 0 0) [] := ⟨.inl ⟨⟨_, _, rfl, fun _ => rfl⟩, rfl⟩, _, _, _, rfl, Nat.le_refl _, by omega⟩
    have hle : ¬ (ms.length : Int) ≤ 0 := by omega
    have hle2 : ¬ ms.length = 0 := by omega
    go_wp2
    go_loop [7, 8] (fun v i => v = .slice none 0 0 ∧ i = .int .i64 0) (fun _ _ => 0)
    case atStart => exact ⟨rfl, rfl⟩
    case round =>
      obtain ⟨rfl, rfl⟩ := hrel
      go_wp2_with fail
      refine (refTrim_any _ [] (by decide) Bin.nil w2 hnil).mono ?_
      rintro e w3 ⟨r3, U, rfl, g3, t3, v3, b3⟩
      have hnil3 := hnil.next b3
      go_wp2_with fail
      refine (refTrim_any _ [] (by decide) Bin.nil w3 hnil3).mono ?_
      rintro e w4 ⟨r4, V, rfl, g4, t4, v4, b4⟩
      have g5 := g3.next b4
      have b5 := (b02.trans (b3.mono b02.size)).trans (b4.mono (Nat.le_trans b02.size b3.size))
      have HQ : Hid (Quot [] zs' U V ms) := ⟨t3, t4, by rw [v3, v4, val_nil, cl_zero, Nat.zero_xor], by rw [v4]; exact Nat.two_pow_pos _⟩
      clear hnil hnil3 g3 t3 v3 t4 v4 b3 b4
      go_wp2
      go_ret2
      exact ⟨_, _, U, V, ms, rfl, g5, g4, ⟨HT.out.1, HT.out.2.1⟩, HQ.out, b5⟩
  · have hgl : g < w1.heap.size := by
      rcases o1.2 with ⟨e, _⟩ | ⟨g', _, _, e, _, hh, _⟩
      · cases e
      · cases e; exact (Array.getElem?_eq_some_iff.1 hh).1
    have hrow := rowC_of_own o1'
    obtain ⟨nq, hn⟩ : ∃ nq, nq = zs.length + 1 - ms.length := ⟨_, rfl⟩
    have HN : Hid (nq = zs.length + 1 - ms.length) := hn
    have HS : Hid (RDiv w w2 g zs ms nq 0 (.slice none 0 0) w2) := ⟨⟨zs, [], hrow, World.ownsRow_nil _ _ _ _, RefDivided.start HT.out.2.2.2 nq⟩, fun _ _ _ => rfl, b02, Nat.le_refl _⟩
    clear o1 o1' hn hrow hgh b1 b2 b02
    go_wp2
    go_loopw [7, 8] (fun v i wr => ∃ k : Nat, k ≤ nq ∧ i = .int .i64 k ∧ Hid (RDiv w w2 g zs ms nq k v wr)) (fun _ i _ => nq - (intOf i).toNat)
    case atStart => exact ⟨0, Nat.zero_le _, rfl, HS⟩
    case round =>
      clear HS
      obtain ⟨k, hk, rfl, HM⟩ := hrel
      obtain ⟨⟨L, Q, hL, ho, hD⟩, hF⟩ := HM.out
      have hN := HN.out
      by_cases hlt : k < nq
      · have hkm : k + ms.length ≤ zs.length := by omega
        have hkl : k < zs.length := by omega
        obtain ⟨x, hx⟩ : ∃ x, L[k]? = some x := ⟨L[k]'(by rw [hD.lenL]; exact hkl), by simp⟩
        have h01 := hD.binL.get hx
        have c0 : wr.cell? ⟨g, k, none⟩ = some (.int .i64 x) := hL.cell k hx
        have HD : Hid (RefDivided zs ms nq k L Q ∧ L[k]? = some x) := ⟨hD, hx⟩
        have hws := hF.2.2
        clear HM hD hx
        go_wp2_with (at_builtin; refine wpList_append_own _ rfl _ _ 22 rfl w2.heap.size 3 i0 (.int .i64 0) 1 8 Try.underlying22 hi hz0 hz1 hz2 rfl (by decide) _ k _ rfl (ho.alloc _) ⟨wr.heap.size, 0, none⟩ 1 1 [.int .i64 x] rfl rfl (cell_one_new _ _ _) (by simp [Value.oneCell']) (by unfold maxLen; omega) (by omega) (by simp; omega) ?_; intro v3 w3 hown3 hgrow3 _; obtain ⟨gq, cq, rfl, hgq⟩ := own_shape hown3)
        have b3 : Below w2.heap.size wr w3 := ((Below.refl _ wr).alloc hws _).trans ((Below.refl _ _).grown hgrow3 (by simp; omega) (fun q e => (ho.lt q e).1))
        have hown4 : w3.ownsRow w2.heap.size 3 1 (.slice (some ⟨gq, 0, none⟩) (k + 1) cq) (k + 1) ((Q ++ [x]).map (Value.int .i64)) := by simpa using hown3
        have hL3 := hL.below b3 (by omega)
        have hF3 := hF.below b3 (by omega)
        have hlQ : Q.length = k := HD.out.1.lenQ
        have cq3 : w3.cell? ⟨gq, k, none⟩ = some (.int .i64 x) := (rowC_of_own hown4).cell k (by rw [List.getElem?_append_right (by omega), hlQ, Nat.sub_self]; rfl)
        have hgne : gq ≠ g := by omega
        have HMC3 : Hid (∀ j y, ms[j]? = some y → w3.cell? ⟨g2, j, none⟩ = some (.int .i64 y)) := fun j y hy => by
          have h9 := HMC.out j y hy
          simp only [World.cell?] at h9 ⊢
          rw [hF3.1 g2 hg2l (by omega)]
          exact h9
        have H3 : Hid (w3.ownsRow w2.heap.size 3 1 (.slice (some ⟨gq, 0, none⟩) (k + 1) cq) (k + 1) ((Q ++ [x]).map (Value.int .i64)) ∧ Frame w w2 g w3) := ⟨hown4, hF3⟩
        clear hown3 hgrow3 hown4 b3 hL hF hF3 ho c0
        by_cases hx1 : x = 1
        · subst hx1
          clear h01
          go_wp2
          go_loopw [9] (fun i wq => ∃ j : Nat, j ≤ ms.length ∧ i = .int .i64 j ∧ (∃ S, RowC wq g S ∧ Hid (Added L ms k j S)) ∧ Only g w3 wq) (fun i _ => ms.length - (intOf i).toNat)
          case atStart => exact ⟨0, Nat.zero_le _, rfl, ⟨L, hL3, Added.start HD.out.1.binL k⟩, Only.refl _ _⟩
          case round =>
            clear hL3
            obtain ⟨j, hj, rfl, ⟨S, hS, HA⟩, hO⟩ := hrel
            have c0 : wr.cell? ⟨gq, k, none⟩ = some (.int .i64 1) := (hO.cellEq (p := ⟨gq, k, none⟩) hgne).trans cq3
            by_cases hjl : j < ms.length
            · obtain ⟨y, hy⟩ : ∃ y, ms[j]? = some y := ⟨ms[j], by simp⟩
              obtain ⟨z, hz⟩ : ∃ z, L[k + j]? = some z := ⟨L[k + j]'(by rw [HD.out.1.lenL]; omega), by simp⟩
              have hm := mod_xor_bin (HD.out.1.binL.get hz) (HT.out.1.1.get hy)
              obtain ⟨hSz, hA2⟩ := HA.out.stepz hz HT.out.1.1 hy hm.1 hm.2
              have c1 : wr.cell? ⟨g, k + j, none⟩ = some (.int .i64 z) := hS.cell _ hSz
              have c2 : wr.cell? ⟨g2, j, none⟩ = some (.int .i64 y) := (hO.cellEq (p := ⟨g2, j, none⟩) (by show g2 ≠ g; omega)).trans (HMC3.out j y hy)
              have f1 := hS.frozen (k + j)
              have hz0' : 0 ≤ z := by rcases HD.out.1.binL.get hz with h | h <;> omega
              have hz1' : z ≤ 1 := by rcases HD.out.1.binL.get hz with h | h <;> omega
              have hy0' : 0 ≤ y := by rcases HT.out.1.1.get hy with h | h <;> omega
              have hy1' : y ≤ 1 := by rcases HT.out.1.1.get hy with h | h <;> omega
              obtain ⟨u, hu⟩ : ∃ u, (z + y).tmod 2 = u := ⟨_, rfl⟩
              rw [hu] at hA2
              have HA' : Hid (Added L ms k (j + 1) (S.set (k + j) u)) := hA2
              have HR' : Hid (RowC (wr.setCell ⟨g, k + j, none⟩ (.int .i64 u)) g (S.set (k + j) u) ∧ Only g w3 (wr.setCell ⟨g, k + j, none⟩ (.int .i64 u))) := ⟨hS.set _ _, hO.set _ _⟩
              have hkj : k + j < zs.length := by omega
              clear hm hA2 hSz hy hz hS hO HA hN cq3
              go_wp2
              go_region
              go_wp2
              go_roundw
              case rel => exact ⟨j + 1, by omega, by go_num, ⟨_, HR'.out.1, HA'⟩, HR'.out.2.drewN 1⟩
              case measure => simp [intOf]; omega
            · obtain rfl : j = ms.length := by omega
              have hA := HA.out
              have HM' : Hid (RDiv w w2 g zs ms nq (k + 1) (.slice (some ⟨gq, 0, none⟩) (k + 1) cq) wr) := by
                have ho9 : wr.ownsRow w2.heap.size 3 1 (.slice (some ⟨gq, 0, none⟩) (k + 1) cq) (k + 1) ((Q ++ [1]).map (Value.int .i64)) := row_only H3.out.1 hO hgne
                have h3 := hA.2.2.1
                rw [List.take_length] at h3
                exact ⟨⟨S, Q ++ [1], hS, ho9, HD.out.1.next HT.out.1 HT.out.2.2.1 hlt (by omega) HD.out.2 hA.1 hA.2.1 h3⟩, H3.out.2.only hO hgb⟩
              clear hA hS hO HA cq3
              go_wp2
              go_roundw
              case rel => exact ⟨k + 1, by omega, by go_num, HM'⟩
              case measure => simp [intOf]; omega
        · obtain rfl : x = 0 := h01.resolve_right hx1
          have HM' : Hid (RDiv w w2 g zs ms nq (k + 1) (.slice (some ⟨gq, 0, none⟩) (k + 1) cq) w3) := ⟨⟨L, Q ++ [0], hL3, H3.out.1, HD.out.1.pass hlt HD.out.2⟩, H3.out.2⟩
          clear h01 hx1 hL3
          go_wp2
          go_loop [9] (fun i => i = .int .i64 0) (fun _ => 0)
          case atStart => rfl
          case round =>
            obtain rfl := hrel
            go_wp2
            go_roundw
            case rel => exact ⟨k + 1, by omega, by go_num, HM'⟩
            case measure => simp [intOf]; omega
      · obtain rfl : k = nq := by omega
        obtain ⟨d1, d2⟩ := hD.done (ms := ms) (by omega)
        have hlQ := hD.lenQ
        have hlL := hD.lenL
        have hbQ := hD.binQ
        have hbL := hD.binL
        have hq := row_has ho
        have hLh := hL.has (cap := cap) (by omega) hgm
        rw [hlL] at hLh
        have bF := hF.2.1
        have hkm : ¬ (k : Int) + (ms.length : Int) ≤ (zs.length : Int) := by omega
        have hkm2 : ¬ k + ms.length ≤ zs.length := by omega
        clear HM hL ho hD hF hlt
        go_wp2_with fail
        refine (refTrim_any _ Q (by omega) hbQ wr hq).mono ?_
        rintro e w3 ⟨r3, U, rfl, g3, t3, v3, b3⟩
        have hLh3 := hLh.next b3
        go_wp2_with fail
        refine (refTrim_any _ L (by omega) hbL w3 hLh3).mono ?_
        rintro e w4 ⟨r4, V, rfl, g4, t4, v4, b4⟩
        have g5 := g3.next b4
        have b5 := (bF.trans (b3.mono bF.size)).trans (b4.mono (Nat.le_trans bF.size b3.size))
        have HQ : Hid (Quot zs zs' U V ms) := ⟨t3, t4, by rw [v3, v4, ← HT.out.2.1]; exact d1, by rw [v4]; exact d2⟩
        clear hq hLh hLh3 g3 t3 v3 t4 v4 b3 b4 d1 d2
        go_wp2
        go_ret2
        exact ⟨_, _, U, V, ms, rfl, g5, g4, ⟨HT.out.1, HT.out.2.1⟩, HQ.out, b5⟩

end Go.Proofs.Ytecfniimpedlkaa
