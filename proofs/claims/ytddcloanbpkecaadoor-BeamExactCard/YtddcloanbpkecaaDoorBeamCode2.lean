/-
  What beam.bySegment and behind answer.
-/
import Derived.Test.YtddcloanbpkecaaDoorBeamCode1
namespace Go.Proofs.YtddcloanbpkecaaDoor
open Go.RowKit

/-- append of one list to a heard, its run. -/
theorem run_append_heard (v : Value) (n base : Nat) (vs : List Value) (x : Value) (hx : SliceV x) (ty : TypeId) (w : World) (hown : w.ownsRow base 22 1 v n vs) (hb : base ≤ w.heap.size) (h1 : n ≤ 1048576) :
    ∃ v' w', (Builtin.append_ #[57, 57] ty #[v, .slice (some ⟨w.heap.size, 0, none⟩) 1 1]).run Tryd.prog (w.alloc (.cells #[x] 22)) = .ok v' w' ∧ w'.ownsRow base 22 1 v' (n + 1) (vs ++ [x]) ∧ (w.alloc (.cells #[x] 22)).grownBy w' v.ownBlock := by
  obtain ⟨i0, hi, hz0, hz1, hz2⟩ := info_parts infoSegs
  obtain ⟨a, m, c, rfl⟩ := hx
  obtain ⟨v', w', hr, ho, hg, _⟩ := run_append_own (P := Tryd.prog) (w.alloc (.cells #[.slice a m c] 22)) base 57 ty 22 i0 (.slice none 0 0) 1 24 Tryd.underlying57 hi hz0 hz1 hz2 rfl (by decide) v n _ (hown.alloc _) ⟨w.heap.size, 0, none⟩ 1 1 [.slice a m c] rfl (World.news_of_block (World.alloc_heap_new _ _)) (by simp [Value.oneCell']) (by unfold maxLen; omega) (by omega) (by simp; omega)
  exact ⟨v', w', hr, ho, hg⟩

set_option maxRecDepth 100000 in
set_option maxHeartbeats 4000000 in
theorem bySegment_ok (N : Nat) (p : Int) (a : Option Addr) (cap : Nat) (l : List (Int × Int)) (hp : PileOk (N : Int) p l) (w : World) (ha : Syms w.heap.size w (.slice a l.length cap) l) (hF : Firsts w) :
    Calls Tryd.prog 24 #[.agg #[.int .i64 N, .int .i64 p, .slice a l.length cap]] w fun e W' => ∃ r, e = .returned (.tuple #[r, .int .i64 0]) ∧ Segs W'.heap.size W' r (segsL N l) ∧ Below w.heap.size w W' := by
  obtain ⟨i0, hi, hz0, hz1, hz2⟩ := info_parts infoSegs
  have hN1 : 1 ≤ N := by have := hp.1.1; omega
  have hN2 : N < 65 := by have := hp.1.2.1; omega
  have hll : l.length ≤ 4294967296 := by have := pile_len hp; have := hp.1.prod; omega
  have HP : Hid (PileOk (N : Int) p l) := hp
  have xB := Box.new w 24 #[.int .i64 N, .int .i64 p, .slice a l.length cap]
  have b0 : Below w.heap.size w (w.alloc (.cells #[.int .i64 N, .int .i64 p, .slice a l.length cap] 24)) := (Below.refl _ _).alloc (Nat.le_refl _) _
  have HC := Check_ok N p a cap l hll hp _ (ha.next b0)
  have HA : Hid (Syms w.heap.size w (.slice a l.length cap) l) := ha
  have HF : Hid (Firsts w) := hF
  clear hp ha hF
  go_enter Tryd.func24, Tryd.ntmps24
  go_wp2_with fail
  refine HC.mono ?_
  rintro e w1 ⟨rfl, b1⟩
  have x1 := xB.next b1
  have bb1 := b0.trans (b1.mono b0.size)
  have hx1 := x1.lt
  have c0 := x1.cell 0 _ rfl
  clear HC xB b0 b1
  go_wp2_with (at_make; refine wpList_make_own _ rfl _ _ 57 rfl w1.heap.size 22 i0 (.slice none 0 0) 1 Tryd.underlying57 hi hz0 hz1 .i64 .i64 _ N rfl rfl (by omega) (by rw [hz2]; omega) (by unfold maxLen; omega) (Nat.le_refl _) ?_; intro w2 hown2 hgrow2; have b2 : Below w1.heap.size w1 w2 := (Below.refl _ w1).grown hgrow2 (Nat.le_refl _) (fun q e => by cases e); have m0 := (b2.cell (p := ⟨w.heap.size, 0, none⟩) hx1).trans c0)
  clear c0 m0
  go_loopw [5, 19] (fun s3 s4 wr => ∃ (k : Nat) (vs : List Value), k ≤ N ∧ s4 = .int .i64 k ∧ wr.ownsRow w1.heap.size 22 1 s3 k vs ∧ (∀ (j : Nat) (q : Value), vs[j]? = some q → ∃ m, wr.ownsRow w1.heap.size 72 2 q m (symCells (ofL N l j))) ∧ Below w1.heap.size w1 wr) (fun _ i _ => N - (intOf i).toNat)
  case atStart => exact ⟨0, [], Nat.zero_le _, rfl, hown2, fun j q h => by simp at h, b2⟩
  case round =>
    obtain ⟨k, vs, hk, rfl, ho, hq, bw⟩ := hrel
    have hsz := bw.size
    have xr := x1.next bw
    have c0 := xr.cell 0 _ rfl
    have c1 := xr.cell 1 _ rfl
    have c2 := xr.cell 2 _ rfl
    have bbw := bb1.trans (bw.mono bb1.size)
    by_cases hlt : k < N
    · have hvl : vs.length = k := by have := ho.1; omega
      have HC := PileOf_in N p k hlt a cap l HP.out wr (HA.out.next bbw) (HF.out.next bbw)
      have HVL : Hid (vs.length = k) := hvl
      clear hvl
      go_wp2_with fail
      refine HC.mono ?_
      rintro e w3 ⟨r, rfl, o3, b3⟩
      clear HC
      have hsv : SliceV r := by obtain ⟨a2, c2, e2⟩ := (syms_of_row o3).shape; exact ⟨_, _, _, e2⟩
      obtain ⟨a2, n2, c2', rfl⟩ := hsv
      have ho3 := rowN_below ho b3 (Nat.le_refl _)
      obtain ⟨v4, w4, hr4, ho4, hg4⟩ := run_append_heard _ k w1.heap.size vs (.slice a2 n2 c2') ⟨_, _, _, rfl⟩ 57 w3 ho3 (Nat.le_trans hsz b3.size) (by omega)
      have b4 : Below w1.heap.size w1 w4 := ((bw.trans (b3.mono hsz)).alloc (Nat.le_trans hsz b3.size) _).grown hg4 (by have := b3.size; simp only [World.size_alloc]; omega) (fun z e => (ho3.lt z e).1)
      have HQ4 : Hid (∀ (j : Nat) (q : Value), (vs ++ [.slice a2 n2 c2'])[j]? = some q → ∃ m, w4.ownsRow w1.heap.size 72 2 q m (symCells (ofL N l j))) := by
        intro j q hjq
        by_cases hj : j < vs.length
        · rw [List.getElem?_append_left hj] at hjq
          obtain ⟨m, hm⟩ := hq j q hjq
          have h1 := (rowN_below hm b3 (Nat.le_refl _)).alloc (.cells #[.slice a2 n2 c2'] 22)
          exact ⟨m, h1.kept hg4 (rows_unlike h1 (ho3.alloc _) (by decide))⟩
        · rw [List.getElem?_append_right (by omega)] at hjq
          have h0 : j - vs.length = 0 := by have := (List.getElem?_eq_some_iff.1 hjq).1; simp at this; omega
          have ej : j = k := by rw [← HVL.out]; omega
          rw [h0] at hjq
          simp at hjq
          subst hjq
          have h1 := (rowN_base o3 hsz).alloc (.cells #[.slice a2 n2 c2'] 22)
          rw [ej]
          exact ⟨_, h1.kept hg4 (rows_unlike h1 (ho3.alloc _) (by decide))⟩
      have HR : Hid _ := hr4
      clear hr4 ho3 o3 b3 hg4 hq ho c0 c1 c2
      go_wp2_with (at_builtin; refine wpList_append_known rfl _ _ 57 rfl _ _ rfl rfl _ _ HR.out ?_)
      exact ⟨⟨k + 1, _, by omega, by go_num, ho4, HQ4.out, b4⟩, by simp [intOf]; omega⟩
    · obtain rfl : k = N := by omega
      go_wp2
      go_ret2
      refine ⟨_, rfl, segs_of_row ho (segsL_len _ _) (by omega) (fun j q l' hjq hl' => ?_), bbw⟩
      have hj : j < k := by have := (List.getElem?_eq_some_iff.1 hl').1; rwa [segsL_len] at this
      rw [segsL_get hj] at hl'
      cases hl'
      obtain ⟨m, hm⟩ := hq j q hjq
      exact syms_of_row hm

set_option maxHeartbeats 1000000 in
theorem bySegment_no (n p : Int) (a : Option Addr) (cap : Nat) (l : List (Int × Int)) (hl : l.length ≤ 4294967296) (hp : ¬ PileOk n p l) (w : World) (ha : Syms w.heap.size w (.slice a l.length cap) l) :
    Calls Tryd.prog 24 #[.agg #[.int .i64 n, .int .i64 p, .slice a l.length cap]] w fun e W' => e = .returned (.tuple #[.slice none 0 0, .int .i64 1]) ∧ Below w.heap.size w W' := by
  have b0 : Below w.heap.size w (w.alloc (.cells #[.int .i64 n, .int .i64 p, .slice a l.length cap] 24)) := (Below.refl _ _).alloc (Nat.le_refl _) _
  have HC := Check_no n p a cap l hl hp _ (ha.next b0)
  clear hp ha
  go_enter Tryd.func24, Tryd.ntmps24
  go_wp2_with fail
  refine HC.mono ?_
  rintro e w1 ⟨rfl, b1⟩
  go_wp2
  go_ret2
  exact ⟨rfl, b0.trans (b1.mono b0.size)⟩

theorem staB_snoc {N : Nat} {l : List (Int × Int)} {P : List Int} {s k : Nat} (hs : staB N l P = (s : Int)) : staB N l (P ++ [(k : Int)]) = ((stepN s k : Nat) : Int) := by
  unfold staB at hs ⊢
  rw [sta_snoc, hs, stB_nat]
theorem metB_snoc {N : Nat} {l : List (Int × Int)} {P : List Int} {s k : Nat} (hs : staB N l P = (s : Int)) : metB N l (P ++ [(k : Int)]) = metB N l P + ((costN (stepN s k) (ofL N l P.length) : Nat) : Int) := by
  unfold staB at hs
  unfold metB
  rw [met_snoc, hs, stB_nat, coB_nat]

set_option maxRecDepth 100000 in
set_option maxHeartbeats 4000000 in
theorem behind_any (b off N cap : Nat) (l : List (Int × Int)) (p : Int) (hp : PileOk (N : Int) p l) (pa : Option Addr) (pc : Nat) (ps : List Int) (hlen : ps.length ≤ N) (w : World)
    (hS : Segs w.heap.size w (.slice (some ⟨b, off, none⟩) N cap) (segsL N l)) (hpp : Holds .i64 w.heap.size w (.slice pa ps.length pc) ps) :
    Calls Tryd.prog 25 #[.slice (some ⟨b, off, none⟩) N cap, .slice pa ps.length pc] w fun e W' => (Path ps ∧ e = .returned (.tuple #[.agg #[.int .i64 (ps.length : Int), .int .u32 (staB N l ps), .int .i64 (metB N l ps)], .int .i64 0]) ∨ ¬ Path ps ∧ e = .returned (.tuple #[.agg #[.int .i64 0, .int .u32 0, .int .i64 0], .int .i64 1])) ∧ Below w.heap.size w W' := by
  have hN2 : N < 65 := by have := hp.1.2.1; omega
  have HP : Hid (PileOk (N : Int) p l) := hp
  have HS : Hid (Segs w.heap.size w (.slice (some ⟨b, off, none⟩) N cap) (segsL N l)) := hS
  have HPP : Hid (Holds .i64 w.heap.size w (.slice pa ps.length pc) ps) := hpp
  obtain ⟨n, hn⟩ : ∃ n, ps.length = n := ⟨_, rfl⟩
  rw [hn] at HPP hlen ⊢
  have HN : Hid (ps.length = n) := hn
  have d0 : decide ((N : Int) < (n : Int)) = false := decide_eq_false (by omega)
  have d0' : decide (N < n) = false := decide_eq_false (by omega)
  have x4 := Box.new w 61 #[.int .i64 0, .int .u32 0, .int .i64 0]
  have b1 : Below w.heap.size w (w.alloc (.cells #[.int .i64 0, .int .u32 0, .int .i64 0] 61)) := (Below.refl w.heap.size w).alloc (Nat.le_refl _) _
  have HR := root_any (w.alloc (.cells #[.int .i64 0, .int .u32 0, .int .i64 0] 61))
  clear hp hS hpp hn
  go_enter Tryd.func25, Tryd.ntmps25
  go_wp2_with fail
  refine HR.mono ?_
  rintro e w2 ⟨rfl, b2⟩
  clear HR
  have y4 := x4.next b2
  have bb2 := b1.trans (b2.mono b1.size)
  have hl4 := y4.lt
  clear x4 b1 b2
  have x6 := Box.new w2 61 #[.int .i64 0, .int .u32 (beginN : Int), .int .i64 0]
  have b3 : Below w2.heap.size w2 (w2.alloc (.cells #[.int .i64 0, .int .u32 (beginN : Int), .int .i64 0] 61)) := (Below.refl _ _).alloc (Nat.le_refl _) _
  go_wp2
  obtain ⟨W3, hW3⟩ : ∃ W, w2.alloc (.cells #[.int .i64 0, .int .u32 (beginN : Int), .int .i64 0] 61) = W := ⟨_, rfl⟩
  rw [hW3] at x6 b3 ⊢
  clear hW3
  go_loopw [20] (fun s7 wr => ∃ k : Nat, k ≤ n ∧ s7 = .int .i64 k ∧ Path (ps.take k) ∧ Box wr w2.heap.size 61 #[.int .i64 (k : Int), .int .u32 (staB N l (ps.take k)), .int .i64 (metB N l (ps.take k))] ∧ Below w2.heap.size w2 wr) (fun i _ => n - (intOf i).toNat)
  case atStart => exact ⟨0, Nat.zero_le _, rfl, by rw [List.take_zero]; exact fun z hz => by simp at hz, by rw [List.take_zero]; exact x6, b3⟩
  case round =>
    obtain ⟨k, hk, rfl, hpt, xr, bw⟩ := hrel
    have hsz := bw.size
    have hlD := xr.lt
    have HPT : Hid (Path (ps.take k)) := hpt
    clear x6 b3 hpt
    have hbb := bb2.trans (bw.mono bb2.size)
    by_cases hlt : k < n
    · obtain ⟨x, hx⟩ : ∃ x, ps[k]? = some x := ⟨ps[k]'(by rw [HN.out]; exact hlt), by simp⟩
      obtain ⟨pb, po, rfl, _, hpc⟩ := holds_at (HPP.out.below hbb) HN.out (by omega)
      have cP := hpc k _ hx
      obtain ⟨s, hs, es⟩ := staB_nat N l (ps.take k)
      have htl : (ps.take k).length = k := by rw [List.length_take, HN.out]; omega
      have hm0 := metB_pos N l (ps.take k)
      have hm1 := metB_le HP.out k (ps.take k) htl
      rw [es] at xr
      have HSW := HS.out.next hbb
      by_cases hx16 : 0 ≤ x ∧ x ≤ 15
      · obtain ⟨kn, rfl⟩ : ∃ kn : Nat, x = (kn : Int) := ⟨x.toNat, by omega⟩
        have HCH := child_ok b off N cap l p HP.out k s kn (by omega) hs (by omega) (metB N l (ps.take k)) hm0 (by omega) wr HSW
        have HTK : ps.take (k + 1) = ps.take k ++ [(kn : Int)] := by
          rw [List.take_add_one, hx]; rfl
        have HS1 : Hid (staB N l (ps.take (k + 1)) = ((stepN s kn : Nat) : Int)) := by
          show staB N l (ps.take (k + 1)) = ((stepN s kn : Nat) : Int)
          rw [HTK]
          exact staB_snoc es
        have HM1 : Hid (metB N l (ps.take (k + 1)) = metB N l (ps.take k) + ((costN (stepN s kn) (ofL N l k) : Nat) : Int)) := by
          show metB N l (ps.take (k + 1)) = metB N l (ps.take k) + ((costN (stepN s kn) (ofL N l k) : Nat) : Int)
          rw [HTK, metB_snoc es, htl]
        have HPT1 : Hid (Path (ps.take (k + 1))) := by
          show Path (ps.take (k + 1))
          rw [HTK]
          intro z hz
          rcases List.mem_append.1 hz with hz | hz
          · exact HPT.out z hz
          · simp at hz; subst hz; exact hx16
        obtain ⟨M, hM⟩ : ∃ M, metB N l (ps.take k) = M := ⟨_, rfl⟩
        rw [hM] at xr HCH HM1 hm0 hm1
        obtain ⟨ct, hct⟩ : ∃ ct, costN (stepN s kn) (ofL N l k) = ct := ⟨_, rfl⟩
        rw [hct] at HCH HM1
        obtain ⟨tt, htt⟩ : ∃ tt, stepN s kn = tt := ⟨_, rfl⟩
        rw [htt] at HCH HS1
        obtain ⟨K, hK⟩ : ∃ K, k + 1 = K := ⟨_, rfl⟩
        rw [hK] at HCH HS1 HM1 HPT1
        have e1k : (k : Int) + 1 = (K : Int) := by omega
        have hKn : K ≤ n := by omega
        have HMS : Hid (n - K < n - k) := by show n - K < n - k; omega
        have q0 := xr.cell 0 _ rfl
        have q1 := xr.cell 1 _ rfl
        have q2 := xr.cell 2 _ rfl
        clear hpc hx es hM hct htt hx16 htl HTK hK
        go_wp2_with fail
        refine HCH.mono ?_
        rintro e w4 ⟨rfl, b4⟩
        clear HCH q0 q1 q2
        have xn := Box.new w4 61 #[.int .i64 (K : Int), .int .u32 (tt : Int), .int .i64 (M + (ct : Int))]
        have x5 := (xr.next b4).alloc (.cells #[.int .i64 (K : Int), .int .u32 (tt : Int), .int .i64 (M + (ct : Int))] 61)
        have b5 : Below w2.heap.size w2 (w4.alloc (.cells #[.int .i64 (K : Int), .int .u32 (tt : Int), .int .i64 (M + (ct : Int))] 61)) := (bw.trans (b4.mono hsz)).alloc (by have := b4.size; omega) _
        have q0 := xn.cell 0 _ rfl
        have q1 := xn.cell 1 _ rfl
        have q2 := xn.cell 2 _ rfl
        have r0 := x5.cell 0 _ rfl
        have r1 := x5.cell 1 _ rfl
        have r2 := x5.cell 2 _ rfl
        have f0 := x5.free 0
        have f1 := x5.free 1
        have f2 := x5.free 2
        go_wp2
        go_roundw
        case rel => exact ⟨K, hKn, rfl, HPT1.out, by rw [HS1.out, HM1.out]; exact x5.set3 _ _ _, below_set3 b5 (Nat.le_refl _) _ _ _⟩
        case measure => simp [intOf]; exact HMS.out
      · have HCH := child_arg b off N cap k s x (by omega) (metB N l (ps.take k)) wr
        have HNP : Hid (¬ Path ps) := fun h => hx16 (h x (List.mem_of_getElem? hx))
        have q0 := xr.cell 0 _ rfl
        have q1 := xr.cell 1 _ rfl
        have q2 := xr.cell 2 _ rfl
        obtain ⟨M, hM⟩ : ∃ M, metB N l (ps.take k) = M := ⟨_, rfl⟩
        rw [hM] at HCH q2
        clear hpc hx es hM hx16 htl xr
        go_wp2_with fail
        refine HCH.mono ?_
        rintro e w4 ⟨rfl, b4⟩
        clear HCH q0 q1 q2
        have x5 := ((y4.next bw).next b4).alloc (.cells #[.int .i64 0, .int .u32 0, .int .i64 0] 61)
        have b5 : Below w2.heap.size w2 (w4.alloc (.cells #[.int .i64 0, .int .u32 0, .int .i64 0] 61)) := (bw.trans (b4.mono hsz)).alloc (by have := b4.size; omega) _
        have r0 := x5.cell 0 _ rfl
        have r1 := x5.cell 1 _ rfl
        have r2 := x5.cell 2 _ rfl
        have f0 := x5.free 0
        have f1 := x5.free 1
        have f2 := x5.free 2
        go_wp2
        refine bodyPost_ret (v := .tuple #[.agg #[.int .i64 0, .int .u32 0, .int .i64 0], .int .i64 1]) (by simp [results, Tryd.results25, go_sem, r0, r1, r2]) rfl ⟨.inr ⟨HNP.out, rfl⟩, ?_⟩
        exact below_set3 (bb2.trans (b5.mono bb2.size)) (Nat.le_refl _) _ _ _
    · obtain rfl : n = k := by omega
      have xR := y4.next bw
      have etk : ps.take n = ps := List.take_of_length_le (by rw [HN.out]; exact Nat.le_refl _)
      rw [etk] at xr
      have HPT1 : Hid (Path ps) := by have := HPT.out; rw [etk] at this; exact this
      clear etk
      have d0 := xr.cell 0 _ rfl
      have d1 := xr.cell 1 _ rfl
      have d2 := xr.cell 2 _ rfl
      have z0 := xR.cell 0 _ rfl
      have z1 := xR.cell 1 _ rfl
      have z2 := xR.cell 2 _ rfl
      have f0 := xR.free 0
      have f1 := xR.free 1
      have f2 := xR.free 2
      go_wp2
      refine bodyPost_ret (v := .tuple #[.agg #[.int .i64 (n : Int), .int .u32 (staB N l ps), .int .i64 (metB N l ps)], .int .i64 0]) (by simp [results, Tryd.results25, go_sem, z0, z1, z2]) rfl ⟨.inl ⟨HPT1.out, rfl⟩, ?_⟩
      exact below_set3 hbb (Nat.le_refl _) _ _ _

set_option maxRecDepth 100000 in
set_option maxHeartbeats 1000000 in
theorem behind_long (a : Option Addr) (N cap : Nat) (pa : Option Addr) (n pc : Nat) (h : N < n) (w : World) :
    Calls Tryd.prog 25 #[.slice a N cap, .slice pa n pc] w fun e W' => e = .returned (.tuple #[.agg #[.int .i64 0, .int .u32 0, .int .i64 0], .int .i64 1]) ∧ Below w.heap.size w W' := by
  have d0 : decide ((N : Int) < (n : Int)) = true := decide_eq_true (by omega)
  have d0' : decide (N < n) = true := decide_eq_true h
  have x4 := Box.new w 61 #[.int .i64 0, .int .u32 0, .int .i64 0]
  have b1 : Below w.heap.size w (w.alloc (.cells #[.int .i64 0, .int .u32 0, .int .i64 0] 61)) := (Below.refl w.heap.size w).alloc (Nat.le_refl _) _
  have z0 := x4.cell 0 _ rfl
  have z1 := x4.cell 1 _ rfl
  have z2 := x4.cell 2 _ rfl
  go_enter Tryd.func25, Tryd.ntmps25
  go_wp2
  refine bodyPost_ret (v := .tuple #[.agg #[.int .i64 0, .int .u32 0, .int .i64 0], .int .i64 1]) (by simp [results, Tryd.results25, go_sem, z0, z1, z2]) rfl ⟨rfl, ?_⟩
  exact b1

end Go.Proofs.YtddcloanbpkecaaDoor
