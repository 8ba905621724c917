/-
  PileOrder: the walk: whatever the numbers and rows, the law answers true, and nothing that lay has turned. (Written by tpl_pileorder.py.)
-/
import Derived.Test.YtifkjglhdppocaaPileWakes
import Derived.Test.YtifkjglhdppocaaPileOrderNums
import Derived.Test.YtifkjglhdppocaaIntRow
import Derived.Test.YtifkjglhdppocaaPlaces
import Derived.Deep.RegionHeldLaw
import Derived.OneCell
namespace Go.Proofs.Ytifkjglhdppocaa
open Go.RowKit

theorem row_other3 {w : World} {base : Nat} {e : TypeId} {size : Nat} {v : Value} {n : Nat} {xs : List Value} (h : w.ownsRow base e size v n xs) {D : Nat} (hp : v.ownBlock ≠ some D) (x y z : Value) : (((w.setCell ⟨D, 0, none⟩ x).setCell ⟨D, 1, none⟩ y).setCell ⟨D, 2, none⟩ z).ownsRow base e size v n xs := ownsRow_setCell_other (ownsRow_setCell_other (ownsRow_setCell_other h (a := ⟨D, 0, none⟩) hp x) (a := ⟨D, 1, none⟩) hp y) (a := ⟨D, 2, none⟩) hp z

/-- Behind j rounds of the first loop: the numbers kept, the pile a. -/
def OrdA (N P M BA BB : Nat) (zs : List Int) (w : World) (v : Value) (j : Nat) (wr : World) : Prop :=
  ∃ (K : List Nat) (lA : List (Int × Int)) (a : Option Addr) (c D : Nat), Box wr BA 26 #[.int .i64 N, .int .i64 P, .slice a lA.length c] ∧ Box wr BB 26 #[.int .i64 N, .int .i64 P, .slice none 0 0] ∧ wr.ownsRow D 43 2 (.slice a lA.length c) lA.length (symCells lA) ∧ wr.ownsRow (BB + 1) 3 1 v K.length ((nats K).map (Value.int .i64)) ∧ (∀ g, v.ownBlock = some g → g < D) ∧ BB + 1 ≤ D ∧ Made (N : Int) (P : Int) zs M K lA ∧ Unlike M K ∧ (∀ x ∈ K, x < j) ∧ Below w.heap.size w wr
/-- Behind some rounds of the second: the numbers, changed about. -/
def OrdS (BA BB D g : Nat) (cA cB : Array Value) (vA : Value) (lA : List (Int × Int)) (w : World) (K K2 : List Nat) (wr : World) : Prop :=
  K2.Perm K ∧ Box wr BA 26 cA ∧ Box wr BB 26 cB ∧ wr.ownsRow D 43 2 vA lA.length (symCells lA) ∧ IntsAt wr g (nats K2) ∧ Below w.heap.size w wr
/-- Behind j rounds of the third: the pile b. -/
def OrdT (N P M BA BB D g : Nat) (zs : List Int) (cA : Array Value) (vA : Value) (lA : List (Int × Int)) (w : World) (K2 : List Nat) (j : Nat) (wr : World) : Prop :=
  ∃ (lB : List (Int × Int)) (a : Option Addr) (c : Nat), Box wr BA 26 cA ∧ Box wr BB 26 #[.int .i64 N, .int .i64 P, .slice a lB.length c] ∧ wr.ownsRow D 43 2 vA lA.length (symCells lA) ∧ wr.ownsRow (BB + 1) 43 2 (.slice a lB.length c) lB.length (symCells lB) ∧ IntsAt wr g (nats K2) ∧ Made (N : Int) (P : Int) zs M (K2.take j) lB ∧ Below w.heap.size w wr

set_option maxRecDepth 100000 in
set_option maxHeartbeats 8000000 in
theorem pileOrder_any (a0 a1 : Int) (a2 : Option Addr) (cap2 : Nat) (zs : List Int) (a3 : Option Addr) (cap3 : Nat) (ys : List Int) (w : World) (hv : Holds .i64 w.heap.size w (.slice a2 zs.length cap2) zs) (ho : Holds .i64 w.heap.size w (.slice a3 ys.length cap3) ys) :
    Calls Try.prog 3 #[.int .i64 a0, .int .i64 a1, .slice a2 zs.length cap2, .slice a3 ys.length cap3] w fun e w' => e = .returned (.bool true) ∧ Below w.heap.size w w' := by
  obtain ⟨n', hn', en⟩ := at_place a0 20 (by decide)
  obtain ⟨p', hp', ep⟩ := at_place a1 6 (by decide)
  have ewn : IntKind.i64.wrap (n' : Int) = (n' : Int) := by rw [IntKind.wrap_i64]; omega
  have ewp : IntKind.i64.wrap (p' : Int) = (p' : Int) := by rw [IntKind.wrap_i64]; omega
  obtain ⟨N, hN⟩ : ∃ N, n' + 1 = N := ⟨_, rfl⟩
  obtain ⟨P, hP⟩ : ∃ P, p' + 1 = P := ⟨_, rfl⟩
  have e1n : 1 + (n' : Int) = (N : Int) := by omega
  have e1p : 1 + (p' : Int) = (P : Int) := by omega
  have HH : Hid (HeadOk (N : Int) (P : Int)) := ⟨by omega, by omega, by omega, by omega⟩
  have hpr := HH.out.prod
  obtain ⟨M, hM⟩ : ∃ M, N * P = M := ⟨_, rfl⟩
  have eM : (N : Int) * (P : Int) = (M : Int) := by rw [← hM]; simp
  have HM : Hid ((N : Int) * (P : Int) = (M : Int)) := eM
  rw [eM] at hpr
  have hNb : N ≤ 64 := by omega
  have hPb : P ≤ 16 := by omega
  have hM1 : 1 ≤ M := by omega
  have hMb : M ≤ 1024 := by omega
  clear hN hP hn' hp' hM
  by_cases hfar : M < zs.length
  · have dz : decide ((M : Int) < (zs.length : Int)) = true := decide_eq_true (by omega)
    clear hv ho
    go_enter Try.func3, Try.ntmps3
    go_wp2
    go_ret
    exact ⟨rfl, Below.refl _ _⟩
  have dz : decide ((M : Int) < (zs.length : Int)) = false := decide_eq_false (by omega)
  by_cases hfar2 : 300 < ys.length
  · have dy : decide (300 < (ys.length : Int)) = true := decide_eq_true (by omega)
    clear hv ho
    go_enter Try.func3, Try.ntmps3
    go_wp2
    go_ret
    exact ⟨rfl, Below.refl _ _⟩
  have dy : decide (300 < (ys.length : Int)) = false := decide_eq_false (by omega)
  have HV : Hid (Holds .i64 w.heap.size w (.slice a2 zs.length cap2) zs) := hv
  have HO : Hid (Holds .i64 w.heap.size w (.slice a3 ys.length cap3) ys) := ho
  have hzM : zs.length ≤ M := by omega
  have hy3 : ys.length ≤ 300 := by omega
  clear hfar hfar2 hv ho
  go_enter Try.func3, Try.ntmps3
  have bb := Below.refl w.heap.size w
  go_wp2_with fail
  refine (New_ok N P HH.out w).mono ?_
  rintro e w2 ⟨rfl, b1⟩
  replace bb := bb.trans (b1.mono bb.size)
  clear b1
  have s0 := bb.size
  have b3 : Below w2.heap.size w2 (w2.alloc (.cells #[.int .i64 N, .int .i64 P, .slice none 0 0] 26)) := (Below.refl _ _).alloc (Nat.le_refl _) _
  have xa := Box.new w2 26 #[.int .i64 N, .int .i64 P, .slice none 0 0]
  replace bb := bb.trans (b3.mono bb.size)
  clear b3
  have cxa0m3 := xa.cell 0 _ rfl
  have cxa1m3 := xa.cell 1 _ rfl
  have cxa2m3 := xa.cell 2 _ rfl
  have fxa0m3 := xa.free 0
  have fxa1m3 := xa.free 1
  have fxa2m3 := xa.free 2
  go_wp2_with fail
  clear cxa0m3 cxa1m3 cxa2m3 fxa0m3 fxa1m3 fxa2m3
  obtain ⟨w4, hw4⟩ : ∃ W, (w2.alloc (.cells #[.int .i64 N, .int .i64 P, .slice none 0 0] 26)) = W := ⟨_, rfl⟩
  rw [hw4] at xa bb ⊢
  clear hw4
  have lA0 := xa.lt
  refine (New_ok N P HH.out w4).mono ?_
  rintro e w6 ⟨rfl, b5⟩
  replace xa := xa.next b5
  replace bb := bb.trans (b5.mono bb.size)
  clear b5
  have s1 := bb.size
  have lA1 := xa.lt
  have cxa0m4 := xa.cell 0 _ rfl
  have cxa1m4 := xa.cell 1 _ rfl
  have cxa2m4 := xa.cell 2 _ rfl
  have fxa0m4 := xa.free 0
  have fxa1m4 := xa.free 1
  have fxa2m4 := xa.free 2
  have b7 : Below w6.heap.size w6 (w6.alloc (.cells #[.int .i64 N, .int .i64 P, .slice none 0 0] 26)) := (Below.refl _ _).alloc (Nat.le_refl _) _
  have xb := Box.new w6 26 #[.int .i64 N, .int .i64 P, .slice none 0 0]
  replace xa := xa.next b7
  replace bb := bb.trans (b7.mono bb.size)
  clear b7
  have cxa0m5 := xa.cell 0 _ rfl
  have cxa1m5 := xa.cell 1 _ rfl
  have cxa2m5 := xa.cell 2 _ rfl
  have fxa0m5 := xa.free 0
  have fxa1m5 := xa.free 1
  have fxa2m5 := xa.free 2
  have cxb0m5 := xb.cell 0 _ rfl
  have cxb1m5 := xb.cell 1 _ rfl
  have cxb2m5 := xb.cell 2 _ rfl
  have fxb0m5 := xb.free 0
  have fxb1m5 := xb.free 1
  have fxb2m5 := xb.free 2
  go_wp2
  clear cxa0m4 cxa1m4 cxa2m4 fxa0m4 fxa1m4 fxa2m4 cxa0m5 cxa1m5 cxa2m5 fxa0m5 fxa1m5 fxa2m5 cxb0m5 cxb1m5 cxb2m5 fxb0m5 fxb1m5 fxb2m5
  obtain ⟨w8, hw8⟩ : ∃ W, (w6.alloc (.cells #[.int .i64 N, .int .i64 P, .slice none 0 0] 26)) = W := ⟨_, rfl⟩
  rw [hw8] at xa xb bb ⊢
  clear hw8
  have hAB : w2.heap.size < w6.heap.size := by omega
  have hwA : w.heap.size ≤ w2.heap.size := by omega
  have lB0 := xb.lt
  clear dz dy
  clear ewn ewp e1n e1p en ep s0 s1 lA0 lA1
  go_loopw [14, 15] (fun v i wr => ∃ j : Nat, j ≤ zs.length ∧ i = .int .i64 j ∧ OrdA N P M w2.heap.size w6.heap.size zs w v j wr) (fun _ i _ => zs.length - (intOf i).toNat)
  case atStart => exact ⟨0, Nat.zero_le _, rfl, [], [], none, 0, w6.heap.size + 1, xa, xb, World.ownsRow_nil _ _ _ _, World.ownsRow_nil _ _ _ _, (fun g e => by cases e), Nat.le_refl _, made_nil zs M HH.out, List.Pairwise.nil, (fun x hx => by simp at hx), bb⟩
  case round =>
    clear xa xb bb lB0
    obtain ⟨j, hj, rfl, K, lA, a, c, D, xa, xb, oA, ol, hgD, hBD, hMd, hUn, hKl, bb⟩ := hrel
    have HMD : Hid (Made (N : Int) (P : Int) zs M K lA) := hMd
    have HUN : Hid (Unlike M K) := hUn
    have HKL : Hid (∀ x ∈ K, x < j) := hKl
    have HLK : Hid (lA.length = K.length) := hMd.2.2
    have hlM : lA.length ≤ M := by have h1 := pile_len hMd.1; rw [HM.out] at h1; omega
    have hKM : K.length ≤ M := by rw [← HLK.out]; exact hlM
    clear hMd hUn hKl
    by_cases hlt : j < zs.length

    · obtain ⟨z, hz⟩ : ∃ z, zs[j]? = some z := ⟨zs[j], by simp⟩
      have HZ : Hid (zs[j]?.getD 0 = z) := by
        show zs[j]?.getD 0 = z
        rw [hz]; rfl
      obtain ⟨b, off, rfl, hb, hcs⟩ := holds_at (HV.out.below bb) rfl (by omega)
      have cz0 := hcs j _ hz
      have hbs : w6.heap.size + 1 ≤ wr.heap.size := by have := xb.lt; omega
      obtain ⟨v5, w5, hr5, ho5, hg5⟩ := run_append_int u14 K.length (w6.heap.size + 1) (nats K) j 22 wr ol hbs (by omega)
      have bl : Below (w6.heap.size + 1) wr w5 := ((Below.refl _ wr).alloc hbs _).trans ((Below.refl _ _).grown hg5 (by simp; omega) (fun q e => (ol.lt q e).1))
      have oA5 : w5.ownsRow D 43 2 (.slice a lA.length c) lA.length (symCells lA) := (oA.alloc _).kept hg5 (by
        cases hq : (Value.slice a lA.length c).ownBlock with
        | none => exact .inl rfl
        | some q => exact .inr (fun e => by have h1 := (oA.lt q hq).1; have h2 := hgD q e.symm; omega))
      obtain ⟨g5, c5, rfl⟩ : ∃ g c, v5 = .slice (some ⟨g, 0, none⟩) (K.length + 1) c := by
        rcases ho5.2 with ⟨_, h⟩ | ⟨g, c, cur, e, _⟩
        · exact absurd h (by omega)
        · exact ⟨g, c, e⟩
      have hg5l := ho5.lt g5 rfl
      have hcap5 := row_cap ho5
      have xa5 := xa.below bl (by omega)
      have xb5 := xb.below bl (by omega)
      have bb5 := bb.trans (bl.mono (by omega))
      have cz : w5.cell? ⟨b, off + j, none⟩ = some (.int .i64 z) := (bl.cell (p := ⟨b, off + j, none⟩) (by show b < w6.heap.size + 1; omega)).trans cz0
      have hb5 : b < w5.heap.size := by have := bb5.size; omega
      have HR5 : Hid _ := hr5
      have hs5 := bl.size
      have y0 := xa5.cell 0 _ rfl
      have y1 := xa5.cell 1 _ rfl
      have y2 := xa5.cell 2 _ rfl
      have lp := xa5.lt
      have lq := xb5.lt
      have hKb : K.length ≤ 1024 := by omega
      have hjb : j ≤ 1024 := by omega
      obtain ⟨j7, hj7⟩ : ∃ j7, j * 7 = j7 := ⟨_, rfl⟩
      obtain ⟨t, ht⟩ : ∃ t, j7 % M = t := ⟨_, rfl⟩
      have HTK : Hid (j * 7 % M = t) := by
        show j * 7 % M = t
        rw [hj7, ht]
      have e7 : (j : Int) * 7 = (j7 : Int) := by omega
      have ew7 : IntKind.i64.wrap (j7 : Int) = (j7 : Int) := by rw [IntKind.wrap_i64]; omega
      have et : (j7 : Int).tmod (M : Int) = (t : Int) := by rw [← ht, Int.tmod_eq_emod_of_nonneg (by omega)]; simp
      have htb : t < M := by rw [← ht]; exact Nat.mod_lt _ (by omega)
      have ewt : IntKind.i64.wrap (t : Int) = (t : Int) := by rw [IntKind.wrap_i64]; omega
      have nM : ¬ (M : Int) = 0 := by omega
      have nM2 : ¬ M = 0 := by omega
      have hvb := vz_bd z
      have ev : (IntKind.u64.wrap z).tmod 256 = vz z := rfl
      obtain ⟨v, hvz⟩ : ∃ v, vz z = v := ⟨_, rfl⟩
      rw [hvz] at hvb ev
      have HVZ : Hid (vz z = v) := hvz
      have ewv : IntKind.i64.wrap v = v := by rw [IntKind.wrap_i64]; omega
      have HSL : Hid (Syms w5.heap.size w5 (.slice a lA.length c) lA) := syms_of_row oA5
      have hrc := rowCap_of oA5
      clear hcs cz0 hr5 hg5 oA ol xa xb bl hj7 ht hvz hz

      have bN : Below w5.heap.size w5 (w5.alloc (.cells #[.int .i64 0, .int .i64 0, .slice none 0 0] 26)).drew := ((Below.refl _ w5).alloc (Nat.le_refl _) _).drew
      have HSN : Hid (Syms (w5.alloc (.cells #[.int .i64 0, .int .i64 0, .slice none 0 0] 26)).drew.heap.size (w5.alloc (.cells #[.int .i64 0, .int .i64 0, .slice none 0 0] 26)).drew (.slice a lA.length c) lA) := HSL.out.next bN
      have XN : Hid (Box (w5.alloc (.cells #[.int .i64 0, .int .i64 0, .slice none 0 0] 26)).drew w5.heap.size 26 #[.int .i64 0, .int .i64 0, .slice none 0 0]) := Box.new w5 _ _
      have XPN : Hid (Box (w5.alloc (.cells #[.int .i64 0, .int .i64 0, .slice none 0 0] 26)).drew w2.heap.size 26 #[.int .i64 N, .int .i64 P, .slice a lA.length c]) := xa5.next bN
      have XD : Hid (Box w5.drew w2.heap.size 26 #[.int .i64 N, .int .i64 P, .slice a lA.length c]) := xa5
      have HBN : Hid _ := bN
      have hne1 : ¬ w2.heap.size = w5.heap.size := by omega
      have hne2 : ¬ w5.heap.size = w2.heap.size := by omega
      clear bN
      have hne3 : ¬ b = w5.heap.size := by omega
      have hne4 : ¬ w5.heap.size = b := by omega

      cases hh : hasAt lA ((j * 7 % M : Nat) : Int) with
      | true =>
        obtain ⟨h1, h2⟩ := made_stale (n := (N : Int)) (p := (P : Int)) v hh
        rw [HTK.out] at h1 h2
        obtain ⟨L, hL⟩ : ∃ L, lA = L := ⟨_, rfl⟩
        have HPU : Hid (putN (N : Int) (P : Int) lA (t : Int) v = L) := h2.trans hL
        have HFR : Hid (freshN (N : Int) (P : Int) lA (t : Int) = false) := h1
        have HMD2 : Hid (Made (N : Int) (P : Int) zs M K L) := by
          show Made (N : Int) (P : Int) zs M K L
          rw [← hL]; exact HMD.out
        have HUN2 : Hid (Unlike M K) := HUN.out
        have HKL2 : Hid (∀ x ∈ K, x < j + 1) := fun x hx => Nat.lt_succ_of_lt (HKL.out x hx)
        clear h1 h2 hL hh
        go_wp2_with (at_builtin; refine wpList_append_known rfl _ _ 22 rfl _ _ rfl rfl _ _ HR5.out ?_)
        go_region_held_law (fun w' => w'.cell? ⟨w2.heap.size, 0, none⟩ = some (.int .i64 N) ∧ w'.cell? ⟨w2.heap.size, 1, none⟩ = some (.int .i64 P) ∧ w'.cell? ⟨w2.heap.size, 2, none⟩ = some (.slice a lA.length c) ∧ w'.cell? ⟨b, off + j, none⟩ = some (.int .i64 z)) (go_keep) (first | (go_at_call 6; refine (Put_in N P t v (by omega) (by omega) hvb.1 hvb.2 a c lA HMD.out.1 w5.drew HSL.out hrc).mono ?_; rw [HPU.out, HFR.out]; rintro e w9 ⟨r9, rfl, o9, b9⟩; obtain ⟨a9, c9, rfl⟩ := (syms_of_row o9).shape; have x9 := (XD.out).next b9; have z0 := x9.cell 0 _ rfl; have z1 := x9.cell 1 _ rfl; have z2 := x9.cell 2 _ rfl; have zz := (b9.cell (p := ⟨b, off + j, none⟩) hb5).trans cz) | (go_at_call 6; refine (Put_in N P t v (by omega) (by omega) hvb.1 hvb.2 a c lA HMD.out.1 _ HSN.out hrc).mono ?_; rw [HPU.out, HFR.out]; rintro e w9 ⟨r9, rfl, o9, b9⟩; obtain ⟨a9, c9, rfl⟩ := (syms_of_row o9).shape; have x9 := (XPN.out).next b9; have y9 := (XN.out).next b9; have z0 := x9.cell 0 _ rfl; have z1 := x9.cell 1 _ rfl; have z2 := x9.cell 2 _ rfl; have zz := (b9.cell (p := ⟨b, off + j, none⟩) (by simp; omega)).trans ((HBN.out.cell (p := ⟨b, off + j, none⟩) hb5).trans cz); have n0 := y9.cell 0 _ rfl; have n1 := y9.cell 1 _ rfl; have n2 := y9.cell 2 _ rfl; have g0 := y9.free 0; have g1 := y9.free 1; have g2 := y9.free 2))
        all_goals first
          | (have yy := y9
             have bq : Below w5.heap.size w5 w9 := HBN.out.trans (b9.mono HBN.out.size)
             have bb := bb5.trans (bq.mono bb5.size)
             have lw := bb5.size
             have lr := bq.size
             replace o9 := symRow_base o9 (show w5.heap.size + 1 ≤ _ by simp)
             have xa9 := xa5.next bq
             have xb9 := xb5.next bq
             have ol9 := row_below ho5 bq (Nat.le_refl _)
             clear x9
             have cxa90m1 := xa9.cell 0 _ rfl
             have cxa91m1 := xa9.cell 1 _ rfl
             have cxa92m1 := xa9.cell 2 _ rfl
             have fxa90m1 := xa9.free 0
             have fxa91m1 := xa9.free 1
             have fxa92m1 := xa9.free 2
             have cxb90m1 := xb9.cell 0 _ rfl
             have cxb91m1 := xb9.cell 1 _ rfl
             have cxb92m1 := xb9.cell 2 _ rfl
             have cy90m1 := y9.cell 0 _ rfl
             have cy91m1 := y9.cell 1 _ rfl
             have cy92m1 := y9.cell 2 _ rfl
             have fy90m1 := y9.free 0
             have fy91m1 := y9.free 1
             have fy92m1 := y9.free 2
             replace xa9 := xa9.other3 (D := w5.heap.size) (by omega) (.int .i64 N) (.int .i64 P) (.slice a9 L.length c9)
             replace xb9 := xb9.other3 (D := w5.heap.size) (by omega) (.int .i64 N) (.int .i64 P) (.slice a9 L.length c9)
             replace y9 := y9.set3 (.int .i64 N) (.int .i64 P) (.slice a9 L.length c9)
             replace o9 := row_set3 o9 (D := w5.heap.size) (by omega) (.int .i64 N) (.int .i64 P) (.slice a9 L.length c9)
             replace ol9 := row_other3 ol9 (D := w5.heap.size) (by simp [Value.ownBlock]; omega) (.int .i64 N) (.int .i64 P) (.slice a9 L.length c9)
             replace bb := below_set3 bb (D := w5.heap.size) (by omega) (.int .i64 N) (.int .i64 P) (.slice a9 L.length c9)
             have cxa90m2 := xa9.cell 0 _ rfl
             have cxa91m2 := xa9.cell 1 _ rfl
             have cxa92m2 := xa9.cell 2 _ rfl
             have fxa90m2 := xa9.free 0
             have fxa91m2 := xa9.free 1
             have fxa92m2 := xa9.free 2
             have cxb90m2 := xb9.cell 0 _ rfl
             have cxb91m2 := xb9.cell 1 _ rfl
             have cxb92m2 := xb9.cell 2 _ rfl
             have cy90m2 := y9.cell 0 _ rfl
             have cy91m2 := y9.cell 1 _ rfl
             have cy92m2 := y9.cell 2 _ rfl
             have fy90m2 := y9.free 0
             have fy91m2 := y9.free 1
             have fy92m2 := y9.free 2
             replace xa9 := xa9.set3 (.int .i64 N) (.int .i64 P) (.slice a9 L.length c9)
             replace xb9 := xb9.other3 (D := w2.heap.size) (by omega) (.int .i64 N) (.int .i64 P) (.slice a9 L.length c9)
             replace y9 := y9.other3 (D := w2.heap.size) (by omega) (.int .i64 N) (.int .i64 P) (.slice a9 L.length c9)
             replace o9 := row_set3 o9 (D := w2.heap.size) (by omega) (.int .i64 N) (.int .i64 P) (.slice a9 L.length c9)
             replace ol9 := row_set3 ol9 (D := w2.heap.size) (by omega) (.int .i64 N) (.int .i64 P) (.slice a9 L.length c9)
             replace bb := below_set3 bb (D := w2.heap.size) (by omega) (.int .i64 N) (.int .i64 P) (.slice a9 L.length c9)
             have cxa90m3 := xa9.cell 0 _ rfl
             have cxa91m3 := xa9.cell 1 _ rfl
             have cxa92m3 := xa9.cell 2 _ rfl
             have fxa90m3 := xa9.free 0
             have fxa91m3 := xa9.free 1
             have fxa92m3 := xa9.free 2
             have cxb90m3 := xb9.cell 0 _ rfl
             have cxb91m3 := xb9.cell 1 _ rfl
             have cxb92m3 := xb9.cell 2 _ rfl
             have cy90m3 := y9.cell 0 _ rfl
             have cy91m3 := y9.cell 1 _ rfl
             have cy92m3 := y9.cell 2 _ rfl
             have fy90m3 := y9.free 0
             have fy91m3 := y9.free 1
             have fy92m3 := y9.free 2
             go_wp2
             clear cxa90m1 cxa91m1 cxa92m1 fxa90m1 fxa91m1 fxa92m1 cxb90m1 cxb91m1 cxb92m1 cy90m1 cy91m1 cy92m1 fy90m1 fy91m1 fy92m1 cxa90m2 cxa91m2 cxa92m2 fxa90m2 fxa91m2 fxa92m2 cxb90m2 cxb91m2 cxb92m2 cy90m2 cy91m2 cy92m2 fy90m2 fy91m2 fy92m2 cxa90m3 cxa91m3 cxa92m3 fxa90m3 fxa91m3 fxa92m3 cxb90m3 cxb91m3 cxb92m3 cy90m3 cy91m3 cy92m3 fy90m3 fy91m3 fy92m3
             obtain ⟨w301, hw301⟩ : ∃ W, ((((((w9.setCell ⟨w5.heap.size, 0, none⟩ (.int .i64 N)).setCell ⟨w5.heap.size, 1, none⟩ (.int .i64 P)).setCell ⟨w5.heap.size, 2, none⟩ (.slice a9 L.length c9)).setCell ⟨w2.heap.size, 0, none⟩ (.int .i64 N)).setCell ⟨w2.heap.size, 1, none⟩ (.int .i64 P)).setCell ⟨w2.heap.size, 2, none⟩ (.slice a9 L.length c9)) = W := ⟨_, rfl⟩
             rw [hw301] at xa9 xb9 y9 o9 ol9 bb ⊢
             clear hw301
             exact ⟨⟨j + 1, by omega, by go_num, K, L, a9, c9, w5.heap.size + 1, xa9, xb9, o9, ownsRow_pop (by simp [nats]) (by rw [List.map_append] at ol9; exact ol9), (fun g e => by cases e; exact Nat.lt_succ_of_lt hg5l.2), by omega, HMD2.out, HUN2.out, HKL2.out, bb⟩, by simp [intOf]; omega⟩)
          | (have bq : Below w5.heap.size w5 w9 := ((Below.refl _ w5).drew).trans b9
             have bb := bb5.trans (bq.mono bb5.size)
             have lw := bb5.size
             have lr := bq.size
             replace o9 := symRow_base o9 (show w5.heap.size ≤ _ by exact Nat.le_refl _)
             have xa9 := xa5.next bq
             have xb9 := xb5.next bq
             have ol9 := row_below ho5 bq (Nat.le_refl _)
             clear x9
             have cxa90m1 := xa9.cell 0 _ rfl
             have cxa91m1 := xa9.cell 1 _ rfl
             have cxa92m1 := xa9.cell 2 _ rfl
             have fxa90m1 := xa9.free 0
             have fxa91m1 := xa9.free 1
             have fxa92m1 := xa9.free 2
             have cxb90m1 := xb9.cell 0 _ rfl
             have cxb91m1 := xb9.cell 1 _ rfl
             have cxb92m1 := xb9.cell 2 _ rfl
             have b301 : Below w9.heap.size w9 (w9.alloc (.cells #[.int .i64 N, .int .i64 P, .slice a9 L.length c9] 26)) := (Below.refl _ _).alloc (Nat.le_refl _) _
             have xq := Box.new w9 26 #[.int .i64 N, .int .i64 P, .slice a9 L.length c9]
             replace xa9 := xa9.next b301
             replace xb9 := xb9.next b301
             replace o9 := symRow_below o9 b301 (Nat.le_refl _)
             replace ol9 := row_below ol9 b301 (Nat.le_refl _)
             replace bb := bb.trans (b301.mono bb.size)
             clear b301
             obtain ⟨w302, hw302⟩ : ∃ W, (w9.alloc (.cells #[.int .i64 N, .int .i64 P, .slice a9 L.length c9] 26)) = W := ⟨_, rfl⟩
             rw [hw302] at xa9 xb9 xq o9 ol9 bb
             have cxa90m2 := xa9.cell 0 _ rfl
             have cxa91m2 := xa9.cell 1 _ rfl
             have cxa92m2 := xa9.cell 2 _ rfl
             have fxa90m2 := xa9.free 0
             have fxa91m2 := xa9.free 1
             have fxa92m2 := xa9.free 2
             have cxb90m2 := xb9.cell 0 _ rfl
             have cxb91m2 := xb9.cell 1 _ rfl
             have cxb92m2 := xb9.cell 2 _ rfl
             have cxq0m2 := xq.cell 0 _ rfl
             have cxq1m2 := xq.cell 1 _ rfl
             have cxq2m2 := xq.cell 2 _ rfl
             replace xa9 := xa9.set3 (.int .i64 N) (.int .i64 P) (.slice a9 L.length c9)
             replace xb9 := xb9.other3 (D := w2.heap.size) (by omega) (.int .i64 N) (.int .i64 P) (.slice a9 L.length c9)
             replace xq := xq.other3 (D := w2.heap.size) (by omega) (.int .i64 N) (.int .i64 P) (.slice a9 L.length c9)
             replace o9 := row_set3 o9 (D := w2.heap.size) (by omega) (.int .i64 N) (.int .i64 P) (.slice a9 L.length c9)
             replace ol9 := row_set3 ol9 (D := w2.heap.size) (by omega) (.int .i64 N) (.int .i64 P) (.slice a9 L.length c9)
             replace bb := below_set3 bb (D := w2.heap.size) (by omega) (.int .i64 N) (.int .i64 P) (.slice a9 L.length c9)
             have cxa90m3 := xa9.cell 0 _ rfl
             have cxa91m3 := xa9.cell 1 _ rfl
             have cxa92m3 := xa9.cell 2 _ rfl
             have fxa90m3 := xa9.free 0
             have fxa91m3 := xa9.free 1
             have fxa92m3 := xa9.free 2
             have cxb90m3 := xb9.cell 0 _ rfl
             have cxb91m3 := xb9.cell 1 _ rfl
             have cxb92m3 := xb9.cell 2 _ rfl
             have cxq0m3 := xq.cell 0 _ rfl
             have cxq1m3 := xq.cell 1 _ rfl
             have cxq2m3 := xq.cell 2 _ rfl
             go_wp2
             clear cxa90m1 cxa91m1 cxa92m1 fxa90m1 fxa91m1 fxa92m1 cxb90m1 cxb91m1 cxb92m1 cxa90m2 cxa91m2 cxa92m2 fxa90m2 fxa91m2 fxa92m2 cxb90m2 cxb91m2 cxb92m2 cxq0m2 cxq1m2 cxq2m2 cxa90m3 cxa91m3 cxa92m3 fxa90m3 fxa91m3 fxa92m3 cxb90m3 cxb91m3 cxb92m3 cxq0m3 cxq1m3 cxq2m3
             clear hw302
             obtain ⟨w303, hw303⟩ : ∃ W, (((w302.setCell ⟨w2.heap.size, 0, none⟩ (.int .i64 N)).setCell ⟨w2.heap.size, 1, none⟩ (.int .i64 P)).setCell ⟨w2.heap.size, 2, none⟩ (.slice a9 L.length c9)) = W := ⟨_, rfl⟩
             rw [hw303] at xa9 xb9 xq o9 ol9 bb ⊢
             clear hw303
             exact ⟨⟨j + 1, by omega, by go_num, K, L, a9, c9, w5.heap.size, xa9, xb9, o9, ownsRow_pop (by simp [nats]) (by rw [List.map_append] at ol9; exact ol9), (fun g e => by cases e; exact hg5l.2), by omega, HMD2.out, HUN2.out, HKL2.out, bb⟩, by simp [intOf]; omega⟩)
      | false =>
        obtain ⟨h1, h2⟩ := made_fresh (n := (N : Int)) (p := (P : Int)) (l := lA) HM.out hM1 v hh
        have h3 := made_step HM.out hM1 HMD.out hh
        have h4 := unlike_step HMD.out HUN.out hh
        rw [HZ.out, HVZ.out] at h3
        rw [HTK.out] at h1 h2 h3
        obtain ⟨L, hL⟩ : ∃ L, putL lA (t : Int) v = L := ⟨_, rfl⟩
        rw [hL] at h2 h3
        have HPU : Hid (putN (N : Int) (P : Int) lA (t : Int) v = L) := h2
        have HFR : Hid (freshN (N : Int) (P : Int) lA (t : Int) = true) := h1
        have HMD2 : Hid (Made (N : Int) (P : Int) zs M (K ++ [j]) L) := h3
        have HUN2 : Hid (Unlike M (K ++ [j])) := h4
        have HKL2 : Hid (∀ x ∈ K ++ [j], x < j + 1) := fun x hx => by
          rcases List.mem_append.1 hx with h | h
          · exact Nat.lt_succ_of_lt (HKL.out x h)
          · simp at h; omega
        clear h1 h2 h3 h4 hL hh
        go_wp2_with (at_builtin; refine wpList_append_known rfl _ _ 22 rfl _ _ rfl rfl _ _ HR5.out ?_)
        go_region_held_law (fun w' => w'.cell? ⟨w2.heap.size, 0, none⟩ = some (.int .i64 N) ∧ w'.cell? ⟨w2.heap.size, 1, none⟩ = some (.int .i64 P) ∧ w'.cell? ⟨w2.heap.size, 2, none⟩ = some (.slice a lA.length c) ∧ w'.cell? ⟨b, off + j, none⟩ = some (.int .i64 z)) (go_keep) (first | (go_at_call 6; refine (Put_in N P t v (by omega) (by omega) hvb.1 hvb.2 a c lA HMD.out.1 w5.drew HSL.out hrc).mono ?_; rw [HPU.out, HFR.out]; rintro e w9 ⟨r9, rfl, o9, b9⟩; obtain ⟨a9, c9, rfl⟩ := (syms_of_row o9).shape; have x9 := (XD.out).next b9; have z0 := x9.cell 0 _ rfl; have z1 := x9.cell 1 _ rfl; have z2 := x9.cell 2 _ rfl; have zz := (b9.cell (p := ⟨b, off + j, none⟩) hb5).trans cz) | (go_at_call 6; refine (Put_in N P t v (by omega) (by omega) hvb.1 hvb.2 a c lA HMD.out.1 _ HSN.out hrc).mono ?_; rw [HPU.out, HFR.out]; rintro e w9 ⟨r9, rfl, o9, b9⟩; obtain ⟨a9, c9, rfl⟩ := (syms_of_row o9).shape; have x9 := (XPN.out).next b9; have y9 := (XN.out).next b9; have z0 := x9.cell 0 _ rfl; have z1 := x9.cell 1 _ rfl; have z2 := x9.cell 2 _ rfl; have zz := (b9.cell (p := ⟨b, off + j, none⟩) (by simp; omega)).trans ((HBN.out.cell (p := ⟨b, off + j, none⟩) hb5).trans cz); have n0 := y9.cell 0 _ rfl; have n1 := y9.cell 1 _ rfl; have n2 := y9.cell 2 _ rfl; have g0 := y9.free 0; have g1 := y9.free 1; have g2 := y9.free 2))
        all_goals first
          | (have yy := y9
             have bq : Below w5.heap.size w5 w9 := HBN.out.trans (b9.mono HBN.out.size)
             have bb := bb5.trans (bq.mono bb5.size)
             have lw := bb5.size
             have lr := bq.size
             replace o9 := symRow_base o9 (show w5.heap.size + 1 ≤ _ by simp)
             have xa9 := xa5.next bq
             have xb9 := xb5.next bq
             have ol9 := row_below ho5 bq (Nat.le_refl _)
             clear x9
             have cxa90m1 := xa9.cell 0 _ rfl
             have cxa91m1 := xa9.cell 1 _ rfl
             have cxa92m1 := xa9.cell 2 _ rfl
             have fxa90m1 := xa9.free 0
             have fxa91m1 := xa9.free 1
             have fxa92m1 := xa9.free 2
             have cxb90m1 := xb9.cell 0 _ rfl
             have cxb91m1 := xb9.cell 1 _ rfl
             have cxb92m1 := xb9.cell 2 _ rfl
             have cy90m1 := y9.cell 0 _ rfl
             have cy91m1 := y9.cell 1 _ rfl
             have cy92m1 := y9.cell 2 _ rfl
             have fy90m1 := y9.free 0
             have fy91m1 := y9.free 1
             have fy92m1 := y9.free 2
             replace xa9 := xa9.other3 (D := w5.heap.size) (by omega) (.int .i64 N) (.int .i64 P) (.slice a9 L.length c9)
             replace xb9 := xb9.other3 (D := w5.heap.size) (by omega) (.int .i64 N) (.int .i64 P) (.slice a9 L.length c9)
             replace y9 := y9.set3 (.int .i64 N) (.int .i64 P) (.slice a9 L.length c9)
             replace o9 := row_set3 o9 (D := w5.heap.size) (by omega) (.int .i64 N) (.int .i64 P) (.slice a9 L.length c9)
             replace ol9 := row_other3 ol9 (D := w5.heap.size) (by simp [Value.ownBlock]; omega) (.int .i64 N) (.int .i64 P) (.slice a9 L.length c9)
             replace bb := below_set3 bb (D := w5.heap.size) (by omega) (.int .i64 N) (.int .i64 P) (.slice a9 L.length c9)
             have cxa90m2 := xa9.cell 0 _ rfl
             have cxa91m2 := xa9.cell 1 _ rfl
             have cxa92m2 := xa9.cell 2 _ rfl
             have fxa90m2 := xa9.free 0
             have fxa91m2 := xa9.free 1
             have fxa92m2 := xa9.free 2
             have cxb90m2 := xb9.cell 0 _ rfl
             have cxb91m2 := xb9.cell 1 _ rfl
             have cxb92m2 := xb9.cell 2 _ rfl
             have cy90m2 := y9.cell 0 _ rfl
             have cy91m2 := y9.cell 1 _ rfl
             have cy92m2 := y9.cell 2 _ rfl
             have fy90m2 := y9.free 0
             have fy91m2 := y9.free 1
             have fy92m2 := y9.free 2
             replace xa9 := xa9.set3 (.int .i64 N) (.int .i64 P) (.slice a9 L.length c9)
             replace xb9 := xb9.other3 (D := w2.heap.size) (by omega) (.int .i64 N) (.int .i64 P) (.slice a9 L.length c9)
             replace y9 := y9.other3 (D := w2.heap.size) (by omega) (.int .i64 N) (.int .i64 P) (.slice a9 L.length c9)
             replace o9 := row_set3 o9 (D := w2.heap.size) (by omega) (.int .i64 N) (.int .i64 P) (.slice a9 L.length c9)
             replace ol9 := row_set3 ol9 (D := w2.heap.size) (by omega) (.int .i64 N) (.int .i64 P) (.slice a9 L.length c9)
             replace bb := below_set3 bb (D := w2.heap.size) (by omega) (.int .i64 N) (.int .i64 P) (.slice a9 L.length c9)
             have cxa90m3 := xa9.cell 0 _ rfl
             have cxa91m3 := xa9.cell 1 _ rfl
             have cxa92m3 := xa9.cell 2 _ rfl
             have fxa90m3 := xa9.free 0
             have fxa91m3 := xa9.free 1
             have fxa92m3 := xa9.free 2
             have cxb90m3 := xb9.cell 0 _ rfl
             have cxb91m3 := xb9.cell 1 _ rfl
             have cxb92m3 := xb9.cell 2 _ rfl
             have cy90m3 := y9.cell 0 _ rfl
             have cy91m3 := y9.cell 1 _ rfl
             have cy92m3 := y9.cell 2 _ rfl
             have fy90m3 := y9.free 0
             have fy91m3 := y9.free 1
             have fy92m3 := y9.free 2
             go_wp2
             clear cxa90m1 cxa91m1 cxa92m1 fxa90m1 fxa91m1 fxa92m1 cxb90m1 cxb91m1 cxb92m1 cy90m1 cy91m1 cy92m1 fy90m1 fy91m1 fy92m1 cxa90m2 cxa91m2 cxa92m2 fxa90m2 fxa91m2 fxa92m2 cxb90m2 cxb91m2 cxb92m2 cy90m2 cy91m2 cy92m2 fy90m2 fy91m2 fy92m2 cxa90m3 cxa91m3 cxa92m3 fxa90m3 fxa91m3 fxa92m3 cxb90m3 cxb91m3 cxb92m3 cy90m3 cy91m3 cy92m3 fy90m3 fy91m3 fy92m3
             obtain ⟨w301, hw301⟩ : ∃ W, ((((((w9.setCell ⟨w5.heap.size, 0, none⟩ (.int .i64 N)).setCell ⟨w5.heap.size, 1, none⟩ (.int .i64 P)).setCell ⟨w5.heap.size, 2, none⟩ (.slice a9 L.length c9)).setCell ⟨w2.heap.size, 0, none⟩ (.int .i64 N)).setCell ⟨w2.heap.size, 1, none⟩ (.int .i64 P)).setCell ⟨w2.heap.size, 2, none⟩ (.slice a9 L.length c9)) = W := ⟨_, rfl⟩
             rw [hw301] at xa9 xb9 y9 o9 ol9 bb ⊢
             clear hw301
             exact ⟨⟨j + 1, by omega, by go_num, K ++ [j], L, a9, c9, w5.heap.size + 1, xa9, xb9, o9, by rw [nats_snoc, List.length_append]; exact ol9, (fun g e => by cases e; exact Nat.lt_succ_of_lt hg5l.2), by omega, HMD2.out, HUN2.out, HKL2.out, bb⟩, by simp [intOf]; omega⟩)
          | (have bq : Below w5.heap.size w5 w9 := ((Below.refl _ w5).drew).trans b9
             have bb := bb5.trans (bq.mono bb5.size)
             have lw := bb5.size
             have lr := bq.size
             replace o9 := symRow_base o9 (show w5.heap.size ≤ _ by exact Nat.le_refl _)
             have xa9 := xa5.next bq
             have xb9 := xb5.next bq
             have ol9 := row_below ho5 bq (Nat.le_refl _)
             clear x9
             have cxa90m1 := xa9.cell 0 _ rfl
             have cxa91m1 := xa9.cell 1 _ rfl
             have cxa92m1 := xa9.cell 2 _ rfl
             have fxa90m1 := xa9.free 0
             have fxa91m1 := xa9.free 1
             have fxa92m1 := xa9.free 2
             have cxb90m1 := xb9.cell 0 _ rfl
             have cxb91m1 := xb9.cell 1 _ rfl
             have cxb92m1 := xb9.cell 2 _ rfl
             have b301 : Below w9.heap.size w9 (w9.alloc (.cells #[.int .i64 N, .int .i64 P, .slice a9 L.length c9] 26)) := (Below.refl _ _).alloc (Nat.le_refl _) _
             have xq := Box.new w9 26 #[.int .i64 N, .int .i64 P, .slice a9 L.length c9]
             replace xa9 := xa9.next b301
             replace xb9 := xb9.next b301
             replace o9 := symRow_below o9 b301 (Nat.le_refl _)
             replace ol9 := row_below ol9 b301 (Nat.le_refl _)
             replace bb := bb.trans (b301.mono bb.size)
             clear b301
             obtain ⟨w302, hw302⟩ : ∃ W, (w9.alloc (.cells #[.int .i64 N, .int .i64 P, .slice a9 L.length c9] 26)) = W := ⟨_, rfl⟩
             rw [hw302] at xa9 xb9 xq o9 ol9 bb
             have cxa90m2 := xa9.cell 0 _ rfl
             have cxa91m2 := xa9.cell 1 _ rfl
             have cxa92m2 := xa9.cell 2 _ rfl
             have fxa90m2 := xa9.free 0
             have fxa91m2 := xa9.free 1
             have fxa92m2 := xa9.free 2
             have cxb90m2 := xb9.cell 0 _ rfl
             have cxb91m2 := xb9.cell 1 _ rfl
             have cxb92m2 := xb9.cell 2 _ rfl
             have cxq0m2 := xq.cell 0 _ rfl
             have cxq1m2 := xq.cell 1 _ rfl
             have cxq2m2 := xq.cell 2 _ rfl
             replace xa9 := xa9.set3 (.int .i64 N) (.int .i64 P) (.slice a9 L.length c9)
             replace xb9 := xb9.other3 (D := w2.heap.size) (by omega) (.int .i64 N) (.int .i64 P) (.slice a9 L.length c9)
             replace xq := xq.other3 (D := w2.heap.size) (by omega) (.int .i64 N) (.int .i64 P) (.slice a9 L.length c9)
             replace o9 := row_set3 o9 (D := w2.heap.size) (by omega) (.int .i64 N) (.int .i64 P) (.slice a9 L.length c9)
             replace ol9 := row_set3 ol9 (D := w2.heap.size) (by omega) (.int .i64 N) (.int .i64 P) (.slice a9 L.length c9)
             replace bb := below_set3 bb (D := w2.heap.size) (by omega) (.int .i64 N) (.int .i64 P) (.slice a9 L.length c9)
             have cxa90m3 := xa9.cell 0 _ rfl
             have cxa91m3 := xa9.cell 1 _ rfl
             have cxa92m3 := xa9.cell 2 _ rfl
             have fxa90m3 := xa9.free 0
             have fxa91m3 := xa9.free 1
             have fxa92m3 := xa9.free 2
             have cxb90m3 := xb9.cell 0 _ rfl
             have cxb91m3 := xb9.cell 1 _ rfl
             have cxb92m3 := xb9.cell 2 _ rfl
             have cxq0m3 := xq.cell 0 _ rfl
             have cxq1m3 := xq.cell 1 _ rfl
             have cxq2m3 := xq.cell 2 _ rfl
             go_wp2
             clear cxa90m1 cxa91m1 cxa92m1 fxa90m1 fxa91m1 fxa92m1 cxb90m1 cxb91m1 cxb92m1 cxa90m2 cxa91m2 cxa92m2 fxa90m2 fxa91m2 fxa92m2 cxb90m2 cxb91m2 cxb92m2 cxq0m2 cxq1m2 cxq2m2 cxa90m3 cxa91m3 cxa92m3 fxa90m3 fxa91m3 fxa92m3 cxb90m3 cxb91m3 cxb92m3 cxq0m3 cxq1m3 cxq2m3
             clear hw302
             obtain ⟨w303, hw303⟩ : ∃ W, (((w302.setCell ⟨w2.heap.size, 0, none⟩ (.int .i64 N)).setCell ⟨w2.heap.size, 1, none⟩ (.int .i64 P)).setCell ⟨w2.heap.size, 2, none⟩ (.slice a9 L.length c9)) = W := ⟨_, rfl⟩
             rw [hw303] at xa9 xb9 xq o9 ol9 bb ⊢
             clear hw303
             exact ⟨⟨j + 1, by omega, by go_num, K ++ [j], L, a9, c9, w5.heap.size, xa9, xb9, o9, by rw [nats_snoc, List.length_append]; exact ol9, (fun g e => by cases e; exact hg5l.2), by omega, HMD2.out, HUN2.out, HKL2.out, bb⟩, by simp [intOf]; omega⟩)
    · obtain rfl : j = zs.length := by omega
      obtain ⟨al, cl, rfl⟩ : ∃ a c, u14 = .slice a K.length c := by
        have h := (holds_of_row ol).shape
        rwa [nats_len] at h
      have hKb : K.length ≤ 1024 := by omega
      have hlb : lA.length ≤ 1024 := by omega
      by_cases hK0 : K.length = 0
      · obtain rfl : lA = [] := List.length_eq_zero_iff.1 (HLK.out.trans hK0)
        clear ol hgD HMD HUN HKL HLK hlt hj
        rw [hK0]
        by_cases hy0 : ys.length = 0
        · have dy0 : decide ((0 : Int) < (ys.length : Int)) = false := decide_eq_false (by omega)

          go_wp2
          go_loop [19] (fun i => i = .int .i64 0) (fun _ => 0)
          case atStart => rfl
          case round =>
            obtain rfl := hrel
            go_wp2
            go_loop [22] (fun i => i = .int .i64 0) (fun _ => 0)
            case atStart => rfl
            case round =>
              obtain rfl := hrel
              have cxa0m1 := xa.cell 0 _ rfl
              have cxa1m1 := xa.cell 1 _ rfl
              have cxa2m1 := xa.cell 2 _ rfl
              have cxb0m1 := xb.cell 0 _ rfl
              have cxb1m1 := xb.cell 1 _ rfl
              have cxb2m1 := xb.cell 2 _ rfl
              go_wp2_with fail
              clear cxa0m1 cxa1m1 cxa2m1 cxb0m1 cxb1m1 cxb2m1
              refine (keepPile_any N P N P _ _ [] [] wr (by simp) (syms_of_row oA) (syms_nil _ _)).mono ?_
              rw [decide_eq_true (⟨rfl, rfl, rfl⟩ : (N : Int) = N ∧ (P : Int) = P ∧ [] = [])]
              rintro e w502 ⟨rfl, b501⟩
              replace xa := xa.next b501
              replace xb := xb.next b501
              replace oA := symRow_below oA b501 (Nat.le_refl _)
              replace bb := bb.trans (b501.mono bb.size)
              clear b501
              have cxa0m2 := xa.cell 0 _ rfl
              have cxa1m2 := xa.cell 1 _ rfl
              have cxa2m2 := xa.cell 2 _ rfl
              have cxb0m2 := xb.cell 0 _ rfl
              have cxb1m2 := xb.cell 1 _ rfl
              have cxb2m2 := xb.cell 2 _ rfl
              go_wp2_with fail
              clear cxa0m2 cxa1m2 cxa2m2 cxb0m2 cxb1m2 cxb2m2
              refine (pileWakes_any w502).mono ?_
              rintro e w504 ⟨rfl, b503⟩
              replace xa := xa.next b503
              replace xb := xb.next b503
              replace oA := symRow_below oA b503 (Nat.le_refl _)
              replace bb := bb.trans (b503.mono bb.size)
              clear b503
              have cxa0m3 := xa.cell 0 _ rfl
              have cxa1m3 := xa.cell 1 _ rfl
              have cxa2m3 := xa.cell 2 _ rfl
              have cxb0m3 := xb.cell 0 _ rfl
              have cxb1m3 := xb.cell 1 _ rfl
              have cxb2m3 := xb.cell 2 _ rfl
              go_wp2
              clear cxa0m3 cxa1m3 cxa2m3 cxb0m3 cxb1m3 cxb2m3
              go_ret
              exact ⟨rfl, bb⟩
        · have dy0 : decide ((0 : Int) < (ys.length : Int)) = true := decide_eq_true (by omega)
          have hy1 : 0 < ys.length := by omega
          go_wp2
          go_loop [19] (fun i => i = .int .i64 0) (fun _ => 0)
          case atStart => rfl
          case round =>
            obtain rfl := hrel
            go_wp2
            go_loop [22] (fun i => i = .int .i64 0) (fun _ => 0)
            case atStart => rfl
            case round =>
              obtain rfl := hrel
              have cxa0m1 := xa.cell 0 _ rfl
              have cxa1m1 := xa.cell 1 _ rfl
              have cxa2m1 := xa.cell 2 _ rfl
              have cxb0m1 := xb.cell 0 _ rfl
              have cxb1m1 := xb.cell 1 _ rfl
              have cxb2m1 := xb.cell 2 _ rfl
              go_wp2_with fail
              clear cxa0m1 cxa1m1 cxa2m1 cxb0m1 cxb1m1 cxb2m1
              refine (keepPile_any N P N P _ _ [] [] wr (by simp) (syms_of_row oA) (syms_nil _ _)).mono ?_
              rw [decide_eq_true (⟨rfl, rfl, rfl⟩ : (N : Int) = N ∧ (P : Int) = P ∧ [] = [])]
              rintro e w502 ⟨rfl, b501⟩
              replace xa := xa.next b501
              replace xb := xb.next b501
              replace oA := symRow_below oA b501 (Nat.le_refl _)
              replace bb := bb.trans (b501.mono bb.size)
              clear b501
              have cxa0m2 := xa.cell 0 _ rfl
              have cxa1m2 := xa.cell 1 _ rfl
              have cxa2m2 := xa.cell 2 _ rfl
              have cxb0m2 := xb.cell 0 _ rfl
              have cxb1m2 := xb.cell 1 _ rfl
              have cxb2m2 := xb.cell 2 _ rfl
              go_wp2_with fail
              clear cxa0m2 cxa1m2 cxa2m2 cxb0m2 cxb1m2 cxb2m2
              refine (pileWakes_any w502).mono ?_
              rintro e w504 ⟨rfl, b503⟩
              replace xa := xa.next b503
              replace xb := xb.next b503
              replace oA := symRow_below oA b503 (Nat.le_refl _)
              replace bb := bb.trans (b503.mono bb.size)
              clear b503
              have cxa0m3 := xa.cell 0 _ rfl
              have cxa1m3 := xa.cell 1 _ rfl
              have cxa2m3 := xa.cell 2 _ rfl
              have cxb0m3 := xb.cell 0 _ rfl
              have cxb1m3 := xb.cell 1 _ rfl
              have cxb2m3 := xb.cell 2 _ rfl
              go_wp2
              clear cxa0m3 cxa1m3 cxa2m3 cxb0m3 cxb1m3 cxb2m3
              go_ret
              exact ⟨rfl, bb⟩
      · have hK1 : 0 < K.length := by omega
        obtain ⟨g, rfl⟩ : ∃ g, al = some ⟨g, 0, none⟩ := by
          rcases ol.2 with ⟨_, h⟩ | ⟨g, c, cur, e, _⟩
          · exact absurd h hK0
          · simp only [Value.slice.injEq] at e; exact ⟨g, e.1⟩
        have hgl := (ol.lt g rfl).1
        have hgD2 := hgD g rfl
        have iK := IntsAt.of_own ol
        have dK : decide ((0 : Int) < (K.length : Int)) = true := decide_eq_true (by omega)
        clear ol hgD hlt hj
        go_wp2
        go_loopw [19] (fun i wr => ∃ (j : Nat) (K2 : List Nat), j ≤ ys.length ∧ i = .int .i64 j ∧ OrdS w2.heap.size w6.heap.size D g #[.int .i64 N, .int .i64 P, .slice a lA.length c] #[.int .i64 N, .int .i64 P, .slice none 0 0] (.slice a lA.length c) lA w K K2 wr) (fun i _ => ys.length - (intOf i).toNat)
        case atStart => exact ⟨0, K, Nat.zero_le _, rfl, List.Perm.refl _, xa, xb, oA, iK, bb⟩
        case round =>
          clear xa xb oA iK bb
          obtain ⟨j, K2, hj, rfl, hpm, xa, xb, oA, iK, bb⟩ := hrel
          have HPM : Hid (K2.Perm K) := hpm
          have HL2 : Hid (K2.length = K.length) := hpm.length_eq
          clear hpm
          by_cases hlt : j < ys.length
          · obtain ⟨y, hy⟩ : ∃ y, ys[j]? = some y := ⟨ys[j], by simp⟩
            obtain ⟨b3, off3, rfl, hb3, hcs⟩ := holds_at (HO.out.below bb) rfl (by omega)
            have cy := hcs j _ hy
            obtain ⟨kk, hkk, ekk⟩ := at_place y (K.length : Int) (by omega)
            have hkk2 : kk < K.length := by omega
            have ewk : IntKind.i64.wrap (kk : Int) = (kk : Int) := by rw [IntKind.wrap_i64]; omega
            have eun : IntKind.u64.wrap (K.length : Int) = (K.length : Int) := by rw [IntKind.wrap_u64]; omega
            obtain ⟨jj, hjj⟩ : ∃ jj, j % K.length = jj := ⟨_, rfl⟩
            have ejj : (j : Int).tmod (K.length : Int) = (jj : Int) := by rw [← hjj, Int.tmod_eq_emod_of_nonneg (by omega)]; simp
            have hjj2 : jj < K.length := by rw [← hjj]; exact Nat.mod_lt _ hK1
            have ewj : IntKind.i64.wrap (jj : Int) = (jj : Int) := by rw [IntKind.wrap_i64]; omega
            have nK : ¬ (K.length : Int) = 0 := by omega
            obtain ⟨xk, hxk⟩ : ∃ x, K2[kk]? = some x := ⟨K2[kk]'(by rw [HL2.out]; exact hkk2), by simp⟩
            obtain ⟨xj, hxj⟩ : ∃ x, K2[jj]? = some x := ⟨K2[jj]'(by rw [HL2.out]; exact hjj2), by simp⟩
            have ck : ∀ q, (wr.drewN q).cell? ⟨g, kk, none⟩ = some (.int .i64 (xk : Int)) := fun q => iK.cell (nats_get hxk)
            have cj : ∀ q, (wr.drewN q).cell? ⟨g, jj, none⟩ = some (.int .i64 (xj : Int)) := fun q => iK.cell (nats_get hxj)
            have cyq : ∀ q, (wr.drewN q).cell? ⟨b3, off3 + j, none⟩ = some (.int .i64 y) := fun q => cy
            have fk : ∀ q, (wr.drewN q).frozen? ⟨g, kk, none⟩ = false := fun q => iK.2.2 kk
            have fj : ∀ q, (wr.drewN q).frozen? ⟨g, jj, none⟩ = false := fun q => iK.2.2 jj
            have HPM2 : Hid (((K2.set kk xj).set jj xk).Perm K) := (swap_perm hxk hxj).trans HPM.out
            have HI2 : Hid (∀ V : World, IntsAt V g (nats K2) → IntsAt ((V.setCell ⟨g, kk, none⟩ (.int .i64 (xj : Int))).setCell ⟨g, jj, none⟩ (.int .i64 (xk : Int))) g (nats ((K2.set kk xj).set jj xk))) := fun V hV => by
              rw [nats_set, nats_set]
              exact (hV.set kk (by rw [nats_len, HL2.out]; exact hkk2) _).set jj (by rw [List.length_set, nats_len, HL2.out]; exact hjj2) _
            have hkl2 : (kk : Int) < (K.length : Int) := by omega
            have hjl2 : (jj : Int) < (K.length : Int) := by omega
            clear hcs cy hy hjj hxk hxj hkk
            go_wp2
            go_quiet (fail)
            go_wp2
            have xaV := xa.drewN nq
            have xbV := xb.drewN nq
            have oAV : (wr.drewN nq).ownsRow D 43 2 (.slice a lA.length c) lA.length (symCells lA) := oA
            have iKV := iK.drewN nq
            have bbV := below_drewN bb nq
            have ckV := ck nq
            have cjV := cj nq
            have fkV := fk nq
            have fjV := fj nq
            obtain ⟨V, hV⟩ : ∃ V, wr.drewN nq = V := ⟨_, rfl⟩
            rw [hV] at xaV xbV oAV iKV bbV ckV cjV fkV fjV ⊢
            clear hV ck cj fk fj cyq xa xb oA iK bb
            have hiS := iKV.set kk (by rw [nats_len, HL2.out]; exact hkk2) (xj : Int)
            obtain ⟨u, hu⟩ : ∃ u, (V.setCell ⟨g, kk, none⟩ (.int .i64 (xj : Int))).cell? ⟨g, jj, none⟩ = some u := ⟨_, hiS.2.1 jj (by rw [List.length_set, nats_len, HL2.out]; exact hjj2)⟩
            have hfu := hiS.2.2 jj
            clear hiS
            go_region
            all_goals (
              go_wp2
              exact ⟨⟨j + 1, (K2.set kk xj).set jj xk, by omega, by go_num, HPM2.out, (xaV.other (p := ⟨g, kk, none⟩) (by simp; omega) _).other (p := ⟨g, jj, none⟩) (by simp; omega) _, (xbV.other (p := ⟨g, kk, none⟩) (by simp; omega) _).other (p := ⟨g, jj, none⟩) (by simp; omega) _, ownsRow_setCell_below (ownsRow_setCell_below oAV (a := ⟨g, kk, none⟩) hgD2 _) (a := ⟨g, jj, none⟩) hgD2 _, HI2.out _ iKV, ((bbV.setCell (p := ⟨g, kk, none⟩) (by simp; omega) _).setCell (p := ⟨g, jj, none⟩) (by simp; omega) _).drew⟩, by simp [intOf]; omega⟩)
          · obtain rfl : j = ys.length := by omega
            have dys : decide ((ys.length : Int) < (ys.length : Int)) = false := decide_eq_false (by omega)
            have HUN2 : Hid (Unlike M K2) := unlike_perm HPM.out HUN.out
            have HKL2 : Hid (∀ x ∈ K2, x < zs.length) := fun x hx => HKL.out x (HPM.out.mem_iff.1 hx)
            clear hlt hj
            go_wp2
            clear dys
            go_loopw [22] (fun i wr => ∃ j : Nat, j ≤ K.length ∧ i = .int .i64 j ∧ OrdT N P M w2.heap.size w6.heap.size D g zs #[.int .i64 N, .int .i64 P, .slice a lA.length c] (.slice a lA.length c) lA w K2 j wr) (fun i _ => K.length - (intOf i).toNat)
            case atStart => exact ⟨0, Nat.zero_le _, rfl, [], none, 0, xa, xb, oA, World.ownsRow_nil _ _ _ _, iK, made_nil zs M HH.out, bb⟩
            case round =>
              clear xa xb oA iK bb
              obtain ⟨j, hj, rfl, lB, aB, cB, xa, xb, oA, oB, iK, hMB, bb⟩ := hrel
              have HMB : Hid (Made (N : Int) (P : Int) zs M (K2.take j) lB) := hMB
              have hlB : lB.length ≤ M := by have h1 := pile_len hMB.1; rw [HM.out] at h1; omega
              have lp := xa.lt
              have lq := xb.lt
              have lg := iK.1
              have lw := bb.size
              clear hMB
              by_cases hlt : j < K.length

              · obtain ⟨x, hx⟩ : ∃ x, K2[j]? = some x := ⟨K2[j]'(by rw [HL2.out]; exact hlt), by simp⟩
                have hxz : x < zs.length := HKL2.out x (List.mem_of_getElem? hx)
                obtain ⟨z, hz⟩ : ∃ z, zs[x]? = some z := ⟨zs[x], by simp⟩
                have HZ : Hid (zs[x]?.getD 0 = z) := by
                  show zs[x]?.getD 0 = z
                  rw [hz]; rfl
                obtain ⟨b, off, rfl, hb, hcs⟩ := holds_at (HV.out.below bb) rfl (by omega)
                have cz := hcs x _ hz
                have cx := iK.cell (nats_get hx)
                have hb5 : b < wr.heap.size := by omega
                have HT2 : Hid (K2.take (j + 1) = K2.take j ++ [x]) := by
                  show K2.take (j + 1) = K2.take j ++ [x]
                  rw [List.take_add_one, hx]; rfl
                have hh := made_new HMB.out (unlike_next HUN2.out hx)
                obtain ⟨x7, hx7⟩ : ∃ x7, x * 7 = x7 := ⟨_, rfl⟩
                obtain ⟨t, ht⟩ : ∃ t, x7 % M = t := ⟨_, rfl⟩
                have HTK : Hid (x * 7 % M = t) := by
                  show x * 7 % M = t
                  rw [hx7, ht]
                have e7 : (x : Int) * 7 = (x7 : Int) := by omega
                have ew7 : IntKind.i64.wrap (x7 : Int) = (x7 : Int) := by rw [IntKind.wrap_i64]; omega
                have et : (x7 : Int).tmod (M : Int) = (t : Int) := by rw [← ht, Int.tmod_eq_emod_of_nonneg (by omega)]; simp
                have htb : t < M := by rw [← ht]; exact Nat.mod_lt _ (by omega)
                have ewt : IntKind.i64.wrap (t : Int) = (t : Int) := by rw [IntKind.wrap_i64]; omega
                have nM : ¬ (M : Int) = 0 := by omega
                have nM2 : ¬ M = 0 := by omega
                have hvb := vz_bd z
                have ev : (IntKind.u64.wrap z).tmod 256 = vz z := rfl
                obtain ⟨v, hvz⟩ : ∃ v, vz z = v := ⟨_, rfl⟩
                rw [hvz] at hvb ev
                have HVZ : Hid (vz z = v) := hvz
                have ewv : IntKind.i64.wrap v = v := by rw [IntKind.wrap_i64]; omega
                have HSL : Hid (Syms wr.heap.size wr (.slice aB lB.length cB) lB) := syms_of_row oB
                have hrc := rowCap_of oB
                obtain ⟨h1, h2⟩ := made_fresh (n := (N : Int)) (p := (P : Int)) (l := lB) HM.out hM1 v hh
                have h3 := made_step HM.out hM1 HMB.out hh
                rw [HZ.out, HVZ.out, ← HT2.out] at h3
                rw [HTK.out] at h1 h2 h3
                obtain ⟨L, hL⟩ : ∃ L, putL lB (t : Int) v = L := ⟨_, rfl⟩
                rw [hL] at h2 h3
                have HPU : Hid (putN (N : Int) (P : Int) lB (t : Int) v = L) := h2
                have HFR : Hid (freshN (N : Int) (P : Int) lB (t : Int) = true) := h1
                have HMB2 : Hid (Made (N : Int) (P : Int) zs M (K2.take (j + 1)) L) := h3
                have hjK : (j : Int) < (K.length : Int) := by omega
                have hxz2 : (x : Int) < (zs.length : Int) := by omega
                have bN : Below wr.heap.size wr (wr.alloc (.cells #[.int .i64 0, .int .i64 0, .slice none 0 0] 26)).drew := ((Below.refl _ wr).alloc (Nat.le_refl _) _).drew
                have HSN : Hid (Syms (wr.alloc (.cells #[.int .i64 0, .int .i64 0, .slice none 0 0] 26)).drew.heap.size (wr.alloc (.cells #[.int .i64 0, .int .i64 0, .slice none 0 0] 26)).drew (.slice aB lB.length cB) lB) := HSL.out.next bN
                have XN : Hid (Box (wr.alloc (.cells #[.int .i64 0, .int .i64 0, .slice none 0 0] 26)).drew wr.heap.size 26 #[.int .i64 0, .int .i64 0, .slice none 0 0]) := Box.new wr _ _
                have XPN : Hid (Box (wr.alloc (.cells #[.int .i64 0, .int .i64 0, .slice none 0 0] 26)).drew w6.heap.size 26 #[.int .i64 N, .int .i64 P, .slice aB lB.length cB]) := xb.next bN
                have XD : Hid (Box wr.drew w6.heap.size 26 #[.int .i64 N, .int .i64 P, .slice aB lB.length cB]) := xb
                have HBN : Hid _ := bN
                have hne1 : ¬ w6.heap.size = wr.heap.size := by omega
                have hne2 : ¬ wr.heap.size = w6.heap.size := by omega
                clear bN
                have y0 := xb.cell 0 _ rfl
                have y1 := xb.cell 1 _ rfl
                have y2 := xb.cell 2 _ rfl
                have hne3 : ¬ b = wr.heap.size := by omega
                have hne4 : ¬ wr.heap.size = b := by omega
                have hne5 : ¬ g = wr.heap.size := by omega
                have hne6 : ¬ wr.heap.size = g := by omega
                clear hcs hx7 ht hvz hz hx h1 h2 h3 hL hh
                go_wp2
                go_region_held_law (fun w' => w'.cell? ⟨w6.heap.size, 0, none⟩ = some (.int .i64 N) ∧ w'.cell? ⟨w6.heap.size, 1, none⟩ = some (.int .i64 P) ∧ w'.cell? ⟨w6.heap.size, 2, none⟩ = some (.slice aB lB.length cB) ∧ w'.cell? ⟨b, off + x, none⟩ = some (.int .i64 z) ∧ w'.cell? ⟨g, j, none⟩ = some (.int .i64 (x : Int))) (go_keep) (first | (go_at_call 6; refine (Put_in N P t v (by omega) (by omega) hvb.1 hvb.2 aB cB lB HMB.out.1 wr.drew HSL.out hrc).mono ?_; rw [HPU.out, HFR.out]; rintro e w9 ⟨r9, rfl, o9, b9⟩; obtain ⟨a9, c9, rfl⟩ := (syms_of_row o9).shape; have x9 := (XD.out).next b9; have z0 := x9.cell 0 _ rfl; have z1 := x9.cell 1 _ rfl; have z2 := x9.cell 2 _ rfl; have zz := (b9.cell (p := ⟨b, off + x, none⟩) hb5).trans cz; have zx := (b9.cell (p := ⟨g, j, none⟩) lg).trans cx) | (go_at_call 6; refine (Put_in N P t v (by omega) (by omega) hvb.1 hvb.2 aB cB lB HMB.out.1 _ HSN.out hrc).mono ?_; rw [HPU.out, HFR.out]; rintro e w9 ⟨r9, rfl, o9, b9⟩; obtain ⟨a9, c9, rfl⟩ := (syms_of_row o9).shape; have x9 := (XPN.out).next b9; have y9 := (XN.out).next b9; have z0 := x9.cell 0 _ rfl; have z1 := x9.cell 1 _ rfl; have z2 := x9.cell 2 _ rfl; have zz := (b9.cell (p := ⟨b, off + x, none⟩) (by simp; omega)).trans ((HBN.out.cell (p := ⟨b, off + x, none⟩) hb5).trans cz); have zx := (b9.cell (p := ⟨g, j, none⟩) (by simp; omega)).trans ((HBN.out.cell (p := ⟨g, j, none⟩) lg).trans cx); have n0 := y9.cell 0 _ rfl; have n1 := y9.cell 1 _ rfl; have n2 := y9.cell 2 _ rfl; have g0 := y9.free 0; have g1 := y9.free 1; have g2 := y9.free 2))
                all_goals first
                  | (have yy := y9
                     have bq : Below wr.heap.size wr w9 := HBN.out.trans (b9.mono HBN.out.size)
                     have bb := bb.trans (bq.mono bb.size)
                     have lr := bq.size
                     replace o9 := symRow_base o9 (show wr.heap.size + 1 ≤ _ by simp)
                     have xa9 := xa.next bq
                     have xb9 := xb.next bq
                     have oA9 := symRow_below oA bq (Nat.le_refl _)
                     have i9 := iK.next bq
                     clear x9
                     have cxa90m1 := xa9.cell 0 _ rfl
                     have cxa91m1 := xa9.cell 1 _ rfl
                     have cxa92m1 := xa9.cell 2 _ rfl
                     have cxb90m1 := xb9.cell 0 _ rfl
                     have cxb91m1 := xb9.cell 1 _ rfl
                     have cxb92m1 := xb9.cell 2 _ rfl
                     have fxb90m1 := xb9.free 0
                     have fxb91m1 := xb9.free 1
                     have fxb92m1 := xb9.free 2
                     have cy90m1 := y9.cell 0 _ rfl
                     have cy91m1 := y9.cell 1 _ rfl
                     have cy92m1 := y9.cell 2 _ rfl
                     have fy90m1 := y9.free 0
                     have fy91m1 := y9.free 1
                     have fy92m1 := y9.free 2
                     replace xa9 := xa9.other3 (D := wr.heap.size) (by omega) (.int .i64 N) (.int .i64 P) (.slice a9 L.length c9)
                     replace xb9 := xb9.other3 (D := wr.heap.size) (by omega) (.int .i64 N) (.int .i64 P) (.slice a9 L.length c9)
                     replace i9 := i9.other3 (D := wr.heap.size) (by omega) (.int .i64 N) (.int .i64 P) (.slice a9 L.length c9)
                     replace y9 := y9.set3 (.int .i64 N) (.int .i64 P) (.slice a9 L.length c9)
                     replace o9 := row_set3 o9 (D := wr.heap.size) (by omega) (.int .i64 N) (.int .i64 P) (.slice a9 L.length c9)
                     replace oA9 := row_other3 oA9 (D := wr.heap.size) (fun e => by have := (oA.lt _ e).2; omega) (.int .i64 N) (.int .i64 P) (.slice a9 L.length c9)
                     replace bb := below_set3 bb (D := wr.heap.size) (by omega) (.int .i64 N) (.int .i64 P) (.slice a9 L.length c9)
                     have cxa90m2 := xa9.cell 0 _ rfl
                     have cxa91m2 := xa9.cell 1 _ rfl
                     have cxa92m2 := xa9.cell 2 _ rfl
                     have cxb90m2 := xb9.cell 0 _ rfl
                     have cxb91m2 := xb9.cell 1 _ rfl
                     have cxb92m2 := xb9.cell 2 _ rfl
                     have fxb90m2 := xb9.free 0
                     have fxb91m2 := xb9.free 1
                     have fxb92m2 := xb9.free 2
                     have cy90m2 := y9.cell 0 _ rfl
                     have cy91m2 := y9.cell 1 _ rfl
                     have cy92m2 := y9.cell 2 _ rfl
                     have fy90m2 := y9.free 0
                     have fy91m2 := y9.free 1
                     have fy92m2 := y9.free 2
                     replace xa9 := xa9.other3 (D := w6.heap.size) (by omega) (.int .i64 N) (.int .i64 P) (.slice a9 L.length c9)
                     replace xb9 := xb9.set3 (.int .i64 N) (.int .i64 P) (.slice a9 L.length c9)
                     replace i9 := i9.other3 (D := w6.heap.size) (by omega) (.int .i64 N) (.int .i64 P) (.slice a9 L.length c9)
                     replace y9 := y9.other3 (D := w6.heap.size) (by omega) (.int .i64 N) (.int .i64 P) (.slice a9 L.length c9)
                     replace o9 := row_set3 o9 (D := w6.heap.size) (by omega) (.int .i64 N) (.int .i64 P) (.slice a9 L.length c9)
                     replace oA9 := row_set3 oA9 (D := w6.heap.size) (by omega) (.int .i64 N) (.int .i64 P) (.slice a9 L.length c9)
                     replace bb := below_set3 bb (D := w6.heap.size) (by omega) (.int .i64 N) (.int .i64 P) (.slice a9 L.length c9)
                     have cxa90m3 := xa9.cell 0 _ rfl
                     have cxa91m3 := xa9.cell 1 _ rfl
                     have cxa92m3 := xa9.cell 2 _ rfl
                     have cxb90m3 := xb9.cell 0 _ rfl
                     have cxb91m3 := xb9.cell 1 _ rfl
                     have cxb92m3 := xb9.cell 2 _ rfl
                     have fxb90m3 := xb9.free 0
                     have fxb91m3 := xb9.free 1
                     have fxb92m3 := xb9.free 2
                     have cy90m3 := y9.cell 0 _ rfl
                     have cy91m3 := y9.cell 1 _ rfl
                     have cy92m3 := y9.cell 2 _ rfl
                     have fy90m3 := y9.free 0
                     have fy91m3 := y9.free 1
                     have fy92m3 := y9.free 2
                     go_wp2
                     clear cxa90m1 cxa91m1 cxa92m1 cxb90m1 cxb91m1 cxb92m1 fxb90m1 fxb91m1 fxb92m1 cy90m1 cy91m1 cy92m1 fy90m1 fy91m1 fy92m1 cxa90m2 cxa91m2 cxa92m2 cxb90m2 cxb91m2 cxb92m2 fxb90m2 fxb91m2 fxb92m2 cy90m2 cy91m2 cy92m2 fy90m2 fy91m2 fy92m2 cxa90m3 cxa91m3 cxa92m3 cxb90m3 cxb91m3 cxb92m3 fxb90m3 fxb91m3 fxb92m3 cy90m3 cy91m3 cy92m3 fy90m3 fy91m3 fy92m3
                     obtain ⟨w401, hw401⟩ : ∃ W, ((((((w9.setCell ⟨wr.heap.size, 0, none⟩ (.int .i64 N)).setCell ⟨wr.heap.size, 1, none⟩ (.int .i64 P)).setCell ⟨wr.heap.size, 2, none⟩ (.slice a9 L.length c9)).setCell ⟨w6.heap.size, 0, none⟩ (.int .i64 N)).setCell ⟨w6.heap.size, 1, none⟩ (.int .i64 P)).setCell ⟨w6.heap.size, 2, none⟩ (.slice a9 L.length c9)) = W := ⟨_, rfl⟩
                     rw [hw401] at xa9 xb9 i9 y9 o9 oA9 bb ⊢
                     clear hw401
                     exact ⟨⟨j + 1, by omega, by go_num, L, a9, c9, xa9, xb9, oA9, symRow_base o9 (by omega), i9, HMB2.out, bb⟩, by simp [intOf]; omega⟩)
                  | (have bq : Below wr.heap.size wr w9 := ((Below.refl _ wr).drew).trans b9
                     have bb := bb.trans (bq.mono bb.size)
                     have lr := bq.size
                     replace o9 := symRow_base o9 (show wr.heap.size ≤ _ by exact Nat.le_refl _)
                     have xa9 := xa.next bq
                     have xb9 := xb.next bq
                     have oA9 := symRow_below oA bq (Nat.le_refl _)
                     have i9 := iK.next bq
                     clear x9
                     have cxa90m1 := xa9.cell 0 _ rfl
                     have cxa91m1 := xa9.cell 1 _ rfl
                     have cxa92m1 := xa9.cell 2 _ rfl
                     have cxb90m1 := xb9.cell 0 _ rfl
                     have cxb91m1 := xb9.cell 1 _ rfl
                     have cxb92m1 := xb9.cell 2 _ rfl
                     have fxb90m1 := xb9.free 0
                     have fxb91m1 := xb9.free 1
                     have fxb92m1 := xb9.free 2
                     have b401 : Below w9.heap.size w9 (w9.alloc (.cells #[.int .i64 N, .int .i64 P, .slice a9 L.length c9] 26)) := (Below.refl _ _).alloc (Nat.le_refl _) _
                     have xq := Box.new w9 26 #[.int .i64 N, .int .i64 P, .slice a9 L.length c9]
                     replace xa9 := xa9.next b401
                     replace xb9 := xb9.next b401
                     replace i9 := i9.next b401
                     replace o9 := symRow_below o9 b401 (Nat.le_refl _)
                     replace oA9 := symRow_below oA9 b401 (Nat.le_refl _)
                     replace bb := bb.trans (b401.mono bb.size)
                     clear b401
                     obtain ⟨w402, hw402⟩ : ∃ W, (w9.alloc (.cells #[.int .i64 N, .int .i64 P, .slice a9 L.length c9] 26)) = W := ⟨_, rfl⟩
                     rw [hw402] at xa9 xb9 i9 xq o9 oA9 bb
                     have cxa90m2 := xa9.cell 0 _ rfl
                     have cxa91m2 := xa9.cell 1 _ rfl
                     have cxa92m2 := xa9.cell 2 _ rfl
                     have cxb90m2 := xb9.cell 0 _ rfl
                     have cxb91m2 := xb9.cell 1 _ rfl
                     have cxb92m2 := xb9.cell 2 _ rfl
                     have fxb90m2 := xb9.free 0
                     have fxb91m2 := xb9.free 1
                     have fxb92m2 := xb9.free 2
                     have cxq0m2 := xq.cell 0 _ rfl
                     have cxq1m2 := xq.cell 1 _ rfl
                     have cxq2m2 := xq.cell 2 _ rfl
                     replace xa9 := xa9.other3 (D := w6.heap.size) (by omega) (.int .i64 N) (.int .i64 P) (.slice a9 L.length c9)
                     replace xb9 := xb9.set3 (.int .i64 N) (.int .i64 P) (.slice a9 L.length c9)
                     replace i9 := i9.other3 (D := w6.heap.size) (by omega) (.int .i64 N) (.int .i64 P) (.slice a9 L.length c9)
                     replace xq := xq.other3 (D := w6.heap.size) (by omega) (.int .i64 N) (.int .i64 P) (.slice a9 L.length c9)
                     replace o9 := row_set3 o9 (D := w6.heap.size) (by omega) (.int .i64 N) (.int .i64 P) (.slice a9 L.length c9)
                     replace oA9 := row_set3 oA9 (D := w6.heap.size) (by omega) (.int .i64 N) (.int .i64 P) (.slice a9 L.length c9)
                     replace bb := below_set3 bb (D := w6.heap.size) (by omega) (.int .i64 N) (.int .i64 P) (.slice a9 L.length c9)
                     have cxa90m3 := xa9.cell 0 _ rfl
                     have cxa91m3 := xa9.cell 1 _ rfl
                     have cxa92m3 := xa9.cell 2 _ rfl
                     have cxb90m3 := xb9.cell 0 _ rfl
                     have cxb91m3 := xb9.cell 1 _ rfl
                     have cxb92m3 := xb9.cell 2 _ rfl
                     have fxb90m3 := xb9.free 0
                     have fxb91m3 := xb9.free 1
                     have fxb92m3 := xb9.free 2
                     have cxq0m3 := xq.cell 0 _ rfl
                     have cxq1m3 := xq.cell 1 _ rfl
                     have cxq2m3 := xq.cell 2 _ rfl
                     go_wp2
                     clear cxa90m1 cxa91m1 cxa92m1 cxb90m1 cxb91m1 cxb92m1 fxb90m1 fxb91m1 fxb92m1 cxa90m2 cxa91m2 cxa92m2 cxb90m2 cxb91m2 cxb92m2 fxb90m2 fxb91m2 fxb92m2 cxq0m2 cxq1m2 cxq2m2 cxa90m3 cxa91m3 cxa92m3 cxb90m3 cxb91m3 cxb92m3 fxb90m3 fxb91m3 fxb92m3 cxq0m3 cxq1m3 cxq2m3
                     clear hw402
                     obtain ⟨w403, hw403⟩ : ∃ W, (((w402.setCell ⟨w6.heap.size, 0, none⟩ (.int .i64 N)).setCell ⟨w6.heap.size, 1, none⟩ (.int .i64 P)).setCell ⟨w6.heap.size, 2, none⟩ (.slice a9 L.length c9)) = W := ⟨_, rfl⟩
                     rw [hw403] at xa9 xb9 i9 xq o9 oA9 bb ⊢
                     clear hw403
                     exact ⟨⟨j + 1, by omega, by go_num, L, a9, c9, xa9, xb9, oA9, symRow_base o9 (by omega), i9, HMB2.out, bb⟩, by simp [intOf]; omega⟩)
              · obtain rfl : j = K.length := by omega
                have hEQ : lA = lB := made_same HMD.out (by
                  have h := HMB.out
                  rw [← HL2.out, List.take_length] at h
                  exact h) HPM.out
                have HEQ : Hid (lA = lB) := hEQ
                clear hEQ hlt hj
                have cxa0m1 := xa.cell 0 _ rfl
                have cxa1m1 := xa.cell 1 _ rfl
                have cxa2m1 := xa.cell 2 _ rfl
                have cxb0m1 := xb.cell 0 _ rfl
                have cxb1m1 := xb.cell 1 _ rfl
                have cxb2m1 := xb.cell 2 _ rfl
                go_wp2_with fail
                clear cxa0m1 cxa1m1 cxa2m1 cxb0m1 cxb1m1 cxb2m1
                refine (keepPile_any N P N P _ _ lA lB wr (by omega) (syms_of_row oA) (syms_of_row oB)).mono ?_
                rw [decide_eq_true (⟨rfl, rfl, HEQ.out⟩ : (N : Int) = N ∧ (P : Int) = P ∧ lA = lB)]
                rintro e w502 ⟨rfl, b501⟩
                replace xa := xa.next b501
                replace xb := xb.next b501
                replace oA := symRow_below oA b501 (Nat.le_refl _)
                replace oB := symRow_below oB b501 (Nat.le_refl _)
                replace bb := bb.trans (b501.mono bb.size)
                clear b501
                have elk : ((lA.length : Int) == (K.length : Int)) = true := by rw [HLK.out]; simp
                have elk2 : (lA.length == K.length) = true := by rw [HLK.out]; simp
                have cxa0m2 := xa.cell 0 _ rfl
                have cxa1m2 := xa.cell 1 _ rfl
                have cxa2m2 := xa.cell 2 _ rfl
                have cxb0m2 := xb.cell 0 _ rfl
                have cxb1m2 := xb.cell 1 _ rfl
                have cxb2m2 := xb.cell 2 _ rfl
                go_wp2_with fail
                clear cxa0m2 cxa1m2 cxa2m2 cxb0m2 cxb1m2 cxb2m2
                refine (pileWakes_any w502).mono ?_
                rintro e w504 ⟨rfl, b503⟩
                replace xa := xa.next b503
                replace xb := xb.next b503
                replace oA := symRow_below oA b503 (Nat.le_refl _)
                replace oB := symRow_below oB b503 (Nat.le_refl _)
                replace bb := bb.trans (b503.mono bb.size)
                clear b503
                have cxa0m3 := xa.cell 0 _ rfl
                have cxa1m3 := xa.cell 1 _ rfl
                have cxa2m3 := xa.cell 2 _ rfl
                have cxb0m3 := xb.cell 0 _ rfl
                have cxb1m3 := xb.cell 1 _ rfl
                have cxb2m3 := xb.cell 2 _ rfl
                go_wp2
                clear cxa0m3 cxa1m3 cxa2m3 cxb0m3 cxb1m3 cxb2m3
                go_ret
                exact ⟨rfl, bb⟩


/-- The law, of whatever numbers and rows. -/
theorem pileOrder_walk (a0 a1 : Int) (a2 : Option Addr) (len2 cap2 : Nat) (z2 : List Int) (a3 : Option Addr) (len3 cap3 : Nat) (z3 : List Int) (w : World) (w2 : IsRow .i64 w a2 len2 cap2 z2) (w3 : IsRow .i64 w a3 len3 cap3 z3) :
    Calls Try.prog 3 #[.int .i64 a0, .int .i64 a1, .slice a2 len2 cap2, .slice a3 len3 cap3] w fun e w' => e = .returned (.bool true) ∧ Below w.heap.size w w' := by
  obtain ⟨xs, rfl, hx, _⟩ := holds_of_isRow w2
  obtain ⟨ys, rfl, hy, _⟩ := holds_of_isRow w3
  exact pileOrder_any a0 a1 a2 cap2 xs a3 cap3 ys w hx hy

end Go.Proofs.Ytifkjglhdppocaa
