/-
  What the page's Node answers: the node of a path.
-/
import Derived.Test.YtddcloanbpkecaaDoorRefChild
import Derived.Test.YtddcloanbpkecaaDoorRefLeast
namespace Go.Proofs.YtddcloanbpkecaaDoor
open Go.RowKit

/-- The beam over a pile: the state, the metric of a path. -/
def staB (N : Nat) (l : List (Int × Int)) (P : List Int) : Int := sta stB (coB N l) (beginN : Int) P
def metB (N : Nat) (l : List (Int × Int)) (P : List Int) : Int := met stB (coB N l) (beginN : Int) P
theorem staB_nat (N : Nat) (l : List (Int × Int)) (P : List Int) : ∃ s : Nat, s < 4294967296 ∧ staB N l P = (s : Int) := by
  unfold staB
  rcases List.eq_nil_or_concat P with rfl | ⟨Q, k, rfl⟩
  · exact ⟨beginN, by decide, rfl⟩
  · rw [List.concat_eq_append, sta_snoc]
    exact ⟨_, stepN_lt _ _, rfl⟩
theorem metB_le {N : Nat} {p : Int} {l : List (Int × Int)} (h : PileOk (N : Int) p l) : ∀ (n : Nat) (P : List Int), P.length = n → metB N l P ≤ 8192 * (n : Int)
  | 0, P, hP => by
    rw [List.length_eq_zero_iff.1 hP]
    unfold metB
    rw [met_nil]
    omega
  | n + 1, P, hP => by
    rcases List.eq_nil_or_concat P with rfl | ⟨Q, k, rfl⟩
    · simp at hP
    · rw [List.concat_eq_append] at hP ⊢
      have hQ : Q.length = n := by simpa using hP
      have ih := metB_le h n Q hQ
      unfold metB at ih ⊢
      rw [met_snoc]
      have := coB_le h Q.length (stB (sta stB (coB N l) (beginN : Int) Q) k)
      omega
theorem metB_pos (N : Nat) (l : List (Int × Int)) (P : List Int) : 0 ≤ metB N l P := met_pos stB (coB N l) _ (coB_pos N l) P

theorem Box.set4 {W : World} {B : Nat} {t : TypeId} {x y z u : Value} (h : Box W B t #[x, y, z, u]) (x' y' z' u' : Value) : Box ((((W.setCell ⟨B, 0, none⟩ x').setCell ⟨B, 1, none⟩ y').setCell ⟨B, 2, none⟩ z').setCell ⟨B, 3, none⟩ u') B t #[x', y', z', u'] := (((h.set 0 x').set 1 y').set 2 z').set 3 u'
theorem below_set4 {n : Nat} {a w : World} (h : Below n a w) {D : Nat} (hD : n ≤ D) (x y z u : Value) : Below n a ((((w.setCell ⟨D, 0, none⟩ x).setCell ⟨D, 1, none⟩ y).setCell ⟨D, 2, none⟩ z).setCell ⟨D, 3, none⟩ u) := (((h.setCell (p := ⟨D, 0, none⟩) hD x).setCell (p := ⟨D, 1, none⟩) hD y).setCell (p := ⟨D, 2, none⟩) hD z).setCell (p := ⟨D, 3, none⟩) hD u
theorem row_set4 {w : World} {base : Nat} {e : TypeId} {size : Nat} {v : Value} {n : Nat} {xs : List Value} (h : w.ownsRow base e size v n xs) {D : Nat} (hD : D < base) (x y z u : Value) : ((((w.setCell ⟨D, 0, none⟩ x).setCell ⟨D, 1, none⟩ y).setCell ⟨D, 2, none⟩ z).setCell ⟨D, 3, none⟩ u).ownsRow base e size v n xs := ownsRow_setCell_below (ownsRow_setCell_below (ownsRow_setCell_below (ownsRow_setCell_below h (a := ⟨D, 0, none⟩) hD x) (a := ⟨D, 1, none⟩) hD y) (a := ⟨D, 2, none⟩) hD z) (a := ⟨D, 3, none⟩) hD u

set_option maxRecDepth 100000 in
set_option maxHeartbeats 2000000 in
theorem refNode_any (N : Nat) (p : Int) (a : Option Addr) (cap : Nat) (l : List (Int × Int)) (hp : PileOk (N : Int) p l) (pa : Option Addr) (pc : Nat) (ps : List Int) (hps : Path ps) (hlen : ps.length ≤ N) (w : World) (ha : Syms w.heap.size w (.slice a l.length cap) l) (hpp : Holds .i64 w.heap.size w (.slice pa ps.length pc) ps) :
    Calls Tryd.prog 17 #[.agg #[.int .i64 N, .int .i64 p, .slice a l.length cap], .slice pa ps.length pc] w fun e W' => ∃ qa qc, e = .returned (.agg #[.int .u32 (staB N l ps), .int .i64 (metB N l ps), .int .i64 0, .slice qa ps.length qc]) ∧ W'.ownsRow w.heap.size 3 1 (.slice qa ps.length qc) ps.length (ps.map (Value.int .i64)) ∧ Below w.heap.size w W' := by
  have hN2 : N < 65 := by have := hp.1.2.1; omega
  have hN1 : 1 ≤ N := by have := hp.1.1; omega
  have b1 : Below w.heap.size w ((w.alloc (.cells #[.int .i64 N, .int .i64 p, .slice a l.length cap] 24)).alloc (.cells #[.int .u32 0, .int .i64 0, .int .i64 0, .slice none 0 0] 32)) := ((Below.refl w.heap.size w).alloc (Nat.le_refl _) _).alloc (by simp) _
  have x2 : Box ((w.alloc (.cells #[.int .i64 N, .int .i64 p, .slice a l.length cap] 24)).alloc (.cells #[.int .u32 0, .int .i64 0, .int .i64 0, .slice none 0 0] 32)) (w.heap.size + 1) 32 #[.int .u32 0, .int .i64 0, .int .i64 0, .slice none 0 0] := by
    have := Box.new (w.alloc (.cells #[.int .i64 N, .int .i64 p, .slice a l.length cap] 24)) 32 #[.int .u32 0, .int .i64 0, .int .i64 0, .slice none 0 0]
    simpa using this
  have HP : Hid (PileOk (N : Int) p l) := hp
  have HPS : Hid (Path ps) := hps
  have HPP : Hid (Holds .i64 w.heap.size w (.slice pa ps.length pc) ps) := hpp
  have HC := fun wx (b : Below w.heap.size w wx) => refPiles_any N p a cap l hp wx (ha.next b)
  obtain ⟨n, hn⟩ : ∃ n, ps.length = n := ⟨_, rfl⟩
  have HN : Hid (ps.length = n) := hn
  rw [hn] at hlen HPP ⊢
  clear hp hps hpp ha hn
  go_enter Tryd.func17, Tryd.ntmps17
  go_wp2_with fail
  refine (HC _ b1).mono ?_
  rintro e w2 ⟨r, rfl, hS, b2⟩
  clear HC
  obtain ⟨sb, so, scap, e3, hsb⟩ := hS.shape
  rw [segsL_len] at e3
  subst e3
  have bb2 := b1.trans (b2.mono b1.size)
  have x22 := x2.next b2
  have hl2 := x22.lt
  go_wp2_with (go_at_call 36; refine (refBegin_any w2).mono ?_; rintro e wz ⟨rfl, rfl⟩)
  have xD := Box.new w2 32 #[.int .u32 (beginN : Int), .int .i64 0, .int .i64 0, .slice none 0 0]
  have b3 : Below w2.heap.size w2 (w2.alloc (.cells #[.int .u32 (beginN : Int), .int .i64 0, .int .i64 0, .slice none 0 0] 32)) := (Below.refl _ _).alloc (Nat.le_refl _) _
  have HS : Hid (Segs w2.heap.size w2 (.slice (some ⟨sb, so, none⟩) N scap) (segsL N l)) := hS
  clear hS x2 b1 b2
  obtain ⟨W3, hW3⟩ : ∃ W, w2.alloc (.cells #[.int .u32 (beginN : Int), .int .i64 0, .int .i64 0, .slice none 0 0] 32) = W := ⟨_, rfl⟩
  rw [hW3] at xD b3 ⊢
  clear hW3
  go_loopw [7] (fun s7 wr => ∃ (k : Nat) (qa : Option Addr) (qc : Nat), k ≤ n ∧ s7 = .int .i64 k ∧ Box wr w2.heap.size 32 #[.int .u32 (staB N l (ps.take k)), .int .i64 (metB N l (ps.take k)), .int .i64 0, .slice qa k qc] ∧ wr.ownsRow (w2.heap.size + 1) 3 1 (.slice qa k qc) k ((ps.take k).map (Value.int .i64)) ∧ Below w2.heap.size w2 wr) (fun i _ => n - (intOf i).toNat)
  case atStart => exact ⟨0, none, 0, Nat.zero_le _, rfl, by rw [List.take_zero]; exact xD, by rw [List.take_zero]; exact World.ownsRow_nil _ _ _ _, b3⟩
  case round =>
    obtain ⟨k, qa, qc, hk, rfl, xr, ho, bw⟩ := hrel
    have hsz := bw.size
    have hlD := xr.lt
    clear xD b3
    by_cases hlt : k < n
    · obtain ⟨x, hx⟩ : ∃ x, ps[k]? = some x := ⟨ps[k]'(by rw [HN.out]; exact hlt), by simp⟩
      have hx16 := HPS.out x (List.mem_of_getElem? hx)
      obtain ⟨kn, rfl⟩ : ∃ kn : Nat, x = (kn : Int) := ⟨x.toNat, by omega⟩
      obtain ⟨pb, po, rfl, _, hpc⟩ := holds_at (HPP.out.below (bb2.trans (bw.mono bb2.size))) HN.out (by omega)
      have cP := hpc k _ hx
      obtain ⟨s, hs, es⟩ := staB_nat N l (ps.take k)
      have htl : (ps.take k).length = k := by rw [List.length_take, HN.out]; omega
      have hm0 := metB_pos N l (ps.take k)
      have hm1 := metB_le HP.out k (ps.take k) htl
      have HTK : Hid (ps.take (k + 1) = ps.take k ++ [(kn : Int)]) := by
        show ps.take (k + 1) = ps.take k ++ [(kn : Int)]
        rw [List.take_add_one, hx]; rfl
      have HS1 : Hid (staB N l (ps.take (k + 1)) = ((stepN s kn : Nat) : Int)) := by
        show staB N l (ps.take (k + 1)) = ((stepN s kn : Nat) : Int)
        rw [HTK.out]
        unfold staB at es ⊢
        rw [sta_snoc, es, stB_nat]
      have HM1 : Hid (metB N l (ps.take (k + 1)) = metB N l (ps.take k) + ((costN (stepN s kn) (ofL N l k) : Nat) : Int)) := by
        show metB N l (ps.take (k + 1)) = metB N l (ps.take k) + ((costN (stepN s kn) (ofL N l k) : Nat) : Int)
        rw [HTK.out]
        unfold metB
        unfold staB at es
        rw [met_snoc, es, htl, stB_nat, coB_nat]
      have hh : Holds .i64 wr.heap.size wr (.slice qa (ps.take k).length qc) (ps.take k) := by rw [htl]; exact holds_of_row ho
      have HCH := fun (wx : World) (e : wx.heap = wr.heap) (h1 : Segs wx.heap.size wx (.slice (some ⟨sb, so, none⟩) N scap) (segsL N l)) (h2 : Holds .i64 wx.heap.size wx (.slice qa (ps.take k).length qc) (ps.take k)) => refChild_any sb so N scap (segsL N l) s hs (metB N l (ps.take k)) 0 hm0 (by omega) qa qc (ps.take k) (by omega) (by omega) (by omega) kn (by omega) (ofL N l k) (by rw [htl]; exact segsL_get (by omega)) (by have := ofL_len HP.out k; omega) (ofL_ok HP.out k) (by have := costB_le HP.out k (stepN s kn); omega) (segsL_len N l) wx h1 h2
      rw [htl] at HCH hh
      rw [es] at xr
      obtain ⟨M, hM⟩ : ∃ M, metB N l (ps.take k) = M := ⟨_, rfl⟩
      rw [hM] at xr HCH HM1 hm0 hm1
      obtain ⟨ct, hct⟩ : ∃ ct, costN (stepN s kn) (ofL N l k) = ct := ⟨_, rfl⟩
      rw [hct] at HCH HM1
      obtain ⟨tt, htt⟩ : ∃ tt, stepN s kn = tt := ⟨_, rfl⟩
      rw [htt] at HCH HS1
      have HSW : Hid (Segs wr.heap.size wr (.slice (some ⟨sb, so, none⟩) N scap) (segsL N l)) := HS.out.next bw
      have HHH : Hid (Holds .i64 wr.heap.size wr (.slice qa k qc) (ps.take k)) := hh
      have HCC : Hid _ := HCH
      have d0 := xr.cell 0 _ rfl
      have d1 := xr.cell 1 _ rfl
      have d2 := xr.cell 2 _ rfl
      have d3 := xr.cell 3 _ rfl
      clear HCH hh hpc hx es hM hct htt hx16 htl
      go_wp2
      first | go_region_with (go_at_call 37; refine (HCC.out _ (by rfl) (by exact HSW.out) (by exact HHH.out)).mono ?_; rintro e w4 ⟨qa', qc', rfl, oq, b4⟩; have x4 : Box w4 w2.heap.size 32 #[.int .u32 (s : Int), .int .i64 M, .int .i64 0, .slice qa k qc] := (b4.block _ hlD).trans xr; have e0 := x4.cell 0 _ rfl; have e1 := x4.cell 1 _ rfl; have e2 := x4.cell 2 _ rfl; have e3 := x4.cell 3 _ rfl; have g0 := x4.free 0; have g1 := x4.free 1; have g2 := x4.free 2; have g3 := x4.free 3) | fail
      all_goals as_aux_lemma => (
        have b5 : Below w2.heap.size w2 w4 := bw.drew.trans (b4.mono hsz)
        have oq5 : w4.ownsRow (w2.heap.size + 1) 3 1 (.slice qa' (k + 1) qc') (k + 1) ((ps.take (k + 1)).map (Value.int .i64)) := by rw [HTK.out]; exact rowN_base oq hlD
        go_wp2
        go_roundw
        case rel => exact ⟨k + 1, qa', qc', by omega, by go_num, by rw [HS1.out, HM1.out]; exact x4.set4 _ _ _ _, row_set4 oq5 (by omega) _ _ _ _, below_set4 b5 (Nat.le_refl _) _ _ _ _⟩
        case measure => simp [intOf]; omega)
    · obtain rfl : n = k := by omega
      have xR : Box wr (w.heap.size + 1) 32 #[.int .u32 0, .int .i64 0, .int .i64 0, .slice none 0 0] := x22.next bw
      rw [List.take_of_length_le (by rw [HN.out]; exact Nat.le_refl _)] at xr ho
      have d0 := xr.cell 0 _ rfl
      have d1 := xr.cell 1 _ rfl
      have d2 := xr.cell 2 _ rfl
      have d3 := xr.cell 3 _ rfl
      have z0 := xR.cell 0 _ rfl
      have z1 := xR.cell 1 _ rfl
      have z2 := xR.cell 2 _ rfl
      have z3 := xR.cell 3 _ rfl
      have f0 := xR.free 0
      have f1 := xR.free 1
      have f2 := xR.free 2
      have f3 := xR.free 3
      go_wp2
      refine bodyPost_ret (v := .agg #[.int .u32 (staB N l ps), .int .i64 (metB N l ps), .int .i64 0, .slice qa n qc]) (by simp [results, Tryd.results17, go_sem, z0, z1, z2, z3]) rfl ⟨_, _, rfl, ?_, ?_⟩
      · exact rowN_base (row_set4 ho (by omega) _ _ _ _) (by have := bb2.size; omega)
      · exact below_set4 (bb2.trans (bw.mono bb2.size)) (by omega) _ _ _ _

end Go.Proofs.YtddcloanbpkecaaDoor
