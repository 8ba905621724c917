/-
  The walk of SendLearns. (Written by tpl_sendlaws.py.)
-/
import Derived.Test.YtmjidhnlofpliaaDoorM08
import Derived.Test.YtmjidhnlofpliaaDoorM24
import Derived.Test.YtmjidhnlofpliaaDoorM29
import Derived.Test.YtmjidhnlofpliaaDoorM30
import Derived.Test.YtmjidhnlofpliaaDoorM31
import Derived.Test.YtmjidhnlofpliaaDoorM33
import Derived.Test.YtmjidhnlofpliaaDoorM34
import Derived.Test.YtmjidhnlofpliaaDoorM35
import Derived.Test.YtmjidhnlofpliaaDoorM36
import Derived.Test.YtmjidhnlofpliaaDoorM37
import Derived.Deep.CutBlock
namespace Go.Proofs.YtmjidhnlofpliaaDoor
open Go.RowKit

theorem txsO_at {base n cap : Nat} {W : World} {a : Option Addr} {l : List (List Int)} (h : StsAt txK base W (.slice a n cap) l) {k : Nat} {xs : List Int} (hk : l[k]? = some xs) :
    ∃ gb off pa pc, a = some ⟨gb, off, none⟩ ∧ gb < W.heap.size ∧ W.cell? ⟨gb, off + k, none⟩ = some (.slice pa xs.length pc) ∧ Holds .u8 W.heap.size W (.slice pa xs.length pc) xs ∧ xs.length ≤ pc := by
  obtain ⟨r, h1, h2, h3⟩ := h
  obtain ⟨x, hx, rfl⟩ : ∃ x, r[k]? = some x ∧ x.1 = xs := by
    rw [← h1, List.getElem?_map] at hk
    cases hr : r[k]? with
    | none => rw [hr] at hk; simp at hk
    | some x => rw [hr] at hk; exact ⟨x, rfl, by simpa using hk⟩
  have hs := h3.subs x (List.mem_of_getElem? hx)
  obtain ⟨p, hp⟩ : ∃ p, x.2 = [p] := by
    have h4 : x.2.length = 1 := hs.1
    match h5 : x.2, h4 with
    | [p], _ => exact ⟨p, rfl⟩
  have ho : W.ownsRow base 5 1 p x.1.length (x.1.map (Value.int .u8)) := hs.2 0 p ⟨5, 1, x.1.length, x.1.map (Value.int .u8)⟩ (by rw [hp]; rfl) rfl
  obtain ⟨pa, pc, rfl⟩ := row_shapeS ho
  rcases h2.holds with ⟨_, e, _⟩ | ⟨b, off, c', e, hb, hc⟩
  · have := (List.getElem?_eq_some_iff.1 hk).1
    omega
  · cases e
    refine ⟨b, off, pa, pc, rfl, hb, ?_, holds_of_row ho, rowK_cap ho⟩
    have h6 := hc _ _ (cellsK_get txK hx 0 (.slice pa x.1.length pc) (by rw [hp]; rfl))
    rwa [show txK.k = 1 from rfl, Nat.mul_one, Nat.add_zero] at h6
theorem packS_few (s : Sn) : (packS s).length ≤ winS s := by
  unfold packS
  refine Nat.le_trans (List.length_filterMap_le _ _) ?_
  rw [List.length_take]
  omega
/-- The packet at k: which block it is of. -/
theorem pack_at {s : Sn} (h : okS s) {k : Nat} {zs : List Int} (hk : (packS s)[k]? = some zs) : ∃ j e, s.sW[j]? = some e ∧ j < winS s ∧ e.eA = false ∧ okD zs ∧ dS zs = s.sF + (j : Int) ∧ ∀ z ∈ zs, 0 ≤ z ∧ z ≤ 255 := by
  have hm := List.mem_of_getElem? hk
  unfold packS at hm
  rw [List.mem_filterMap] at hm
  obtain ⟨e, he, hp⟩ := hm
  obtain ⟨h2, rfl⟩ := packM_some.1 hp
  obtain ⟨j, hj, rfl⟩ := List.getElem_of_mem he
  have hjl : j < winS s ∧ j < s.sW.length := by rw [List.length_take] at hj; omega
  have hg : s.sW[j]? = some (s.sW.take (winS s))[j] := by simp [hjl.2]
  have h1 := h.all j _ hg
  have h3 := em_right h.conf h1.2
  exact ⟨j, _, hg, hjl.1, h2, okD_pack h3, (dS_pack h3).trans h1.1, packD_bd h3 (emX_bd _ _ _)⟩
theorem learn_err {s : Sn} {zs : List Int} (he : errL s zs ≠ 0) : (learnS s zs).sF = s.sF ∧ (learnS s zs).sE = s.sE ∧ (learnS s zs).sW = s.sW := by
  by_cases h1 : errA zs = 0
  · rw [learnS_far h1 he]; exact ⟨rfl, rfl, rfl⟩
  · rw [learnS_bad h1]; exact ⟨rfl, rfl, rfl⟩
theorem actB_bd {F win dd dn db : Int} {xs : List Int} (h1 : xs.length ≤ 400) (h2 : ∀ z ∈ xs, 0 ≤ z ∧ z ≤ 255) : (actB F win (dd, xs, dn, db)).length ≤ 4096 ∧ ∀ z ∈ actB F win (dd, xs, dn, db), 0 ≤ z ∧ z ≤ 255 := by
  unfold actB
  split
  · exact ⟨by show xs.length ≤ 4096; omega, h2⟩
  · exact ⟨by rw [packA_len]; omega, packA_bd _ _⟩
set_option maxRecDepth 100000 in
set_option maxHeartbeats 8000000 in
theorem sendLearns_walk (cq : Cfg) (ba : Option Addr) (mt kc : Nat) (l : List Ac) (w : World) (hF : Firsts w) (hT : Acts w.heap.size w ba mt l) :
    Calls Tryd.prog 3 #[.agg #[.int .i64 cq.cB, .int .i64 cq.cBeam, .int .i64 cq.cDepth, .int .i64 cq.cWin, .int .i64 cq.cQs, .int .i64 cq.cQr, .int .i64 cq.cBatch, .int .i64 cq.cPass, .int .i64 cq.cMsg, .int .i64 cq.cSeqs], .slice ba mt kc] w fun e w' => e = .returned (.bool true) ∧ Below w.heap.size w w' := by
  have bb : Below w.heap.size w (w.alloc (.cells #[.int .i64 cq.cB, .int .i64 cq.cBeam, .int .i64 cq.cDepth, .int .i64 cq.cWin, .int .i64 cq.cQs, .int .i64 cq.cQr, .int .i64 cq.cBatch, .int .i64 cq.cPass, .int .i64 cq.cMsg, .int .i64 cq.cSeqs] 23)) := (Below.refl _ _).alloc (Nat.le_refl _) _
  have xC := Box.new w 23 #[.int .i64 cq.cB, .int .i64 cq.cBeam, .int .i64 cq.cDepth, .int .i64 cq.cWin, .int .i64 cq.cQs, .int .i64 cq.cQr, .int .i64 cq.cBatch, .int .i64 cq.cPass, .int .i64 cq.cMsg, .int .i64 cq.cSeqs]
  have HT : Hid (Acts w.heap.size w ba mt l) := hT
  have HF0 : Hid (Firsts w) := hF
  clear hT hF
  go_enter Tryd.func3, Tryd.ntmps3
  go_wp2_with (first | (refine wpList_load_box xC rfl 23 _ rfl rfl _ Tryd.underlying23 rfl (by kernel_rfl) ?_))
  refine (small_any cq _).mono ?_
  rintro e w1 ⟨c, rfl, hSm, b9⟩
  replace xC := xC.next b9
  replace bb := bb.trans (b9.mono bb.size)
  clear b9
  go_upto_region 2 with (first | (refine wpList_store_box xC rfl 23 _ _ rfl rfl rfl rfl (by kernel_rfl) (by simp [Value.oneCell']) ?_))
  replace xC := xC.setRow #[.int .i64 c.cB, .int .i64 c.cBeam, .int .i64 c.cDepth, .int .i64 c.cWin, .int .i64 c.cQs, .int .i64 c.cQr, .int .i64 c.cBatch, .int .i64 c.cPass, .int .i64 c.cMsg, .int .i64 c.cSeqs]
  replace bb := below_setRow bb (Nat.le_refl _) #[.int .i64 c.cB, .int .i64 c.cBeam, .int .i64 c.cDepth, .int .i64 c.cWin, .int .i64 c.cQs, .int .i64 c.cQr, .int .i64 c.cBatch, .int .i64 c.cPass, .int .i64 c.cMsg, .int .i64 c.cSeqs]
  generalize w1.setRow w.heap.size #[.int .i64 c.cB, .int .i64 c.cBeam, .int .i64 c.cDepth, .int .i64 c.cWin, .int .i64 c.cQs, .int .i64 c.cQr, .int .i64 c.cBatch, .int .i64 c.cPass, .int .i64 c.cMsg, .int .i64 c.cSeqs] = w2 at *
  have hC := hSm.ok
  have HSM : Hid (SmallC c) := hSm
  clear hSm
  go_wp2_with fail
  refine (heavy_any ba mt kc l _ _ (HT.out.next bb)).mono ?_
  rintro e w3 ⟨rfl, rfl⟩
  cases hv : heavyA l
  case true =>
    clear hv HSM
    go_wp2
    go_ret
    exact ⟨rfl, bb⟩
  case false =>
    have HAV : Hid (l.length ≤ 160 ∧ ∀ (j : Nat) (d : Ac), j < 40 → l[j]? = some d → d.2.1.length ≤ 400) := heavyA_no hv
    clear hv
    go_wp2_with (first | (refine wpList_load_box xC rfl 23 _ rfl rfl _ Tryd.underlying23 rfl (by kernel_rfl) ?_))
    refine (sendNew_law c hC _).mono ?_
    rintro e w3 ⟨rfl, h1, b9⟩
    replace xC := xC.next b9
    replace bb := bb.trans (b9.mono bb.size)
    have HW : Hid (SnW (w3.heap.size + 1) w3 (newS c) c false 0 0 0 0 0 0 0 0 none 0 none 0 0) := (h1 _).out
    have bA : Below w3.heap.size w3 (w3.alloc (.cells #[.int .i64 0, .int .i64 0, .int .i64 0, .int .i64 0, .int .i64 0, .int .i64 0, .int .i64 0, .int .i64 0, .int .i64 0, .int .i64 0, .bool false, .int .i64 0, .int .i64 0, .int .i64 0, .int .i64 0, .int .i64 0, .int .i64 0, .slice none 0 0, .slice none 0 0] 30)) := (Below.refl _ _).alloc (Nat.le_refl _) _
    have xS := Box.new w3 30 #[.int .i64 0, .int .i64 0, .int .i64 0, .int .i64 0, .int .i64 0, .int .i64 0, .int .i64 0, .int .i64 0, .int .i64 0, .int .i64 0, .bool false, .int .i64 0, .int .i64 0, .int .i64 0, .int .i64 0, .int .i64 0, .int .i64 0, .slice none 0 0, .slice none 0 0]
    have HDC : Hid (w.heap.size < w3.heap.size) := xC.lt
    clear b9 h1
    go_upto_region 5 with (first | (refine wpList_store_box xS rfl 30 _ _ rfl rfl rfl rfl (by kernel_rfl) (by simp [Value.oneCell']) ?_))
    have bB := below_setRow bA (Nat.le_refl _) #[.int .i64 c.cB, .int .i64 c.cBeam, .int .i64 c.cDepth, .int .i64 c.cWin, .int .i64 c.cQs, .int .i64 c.cQr, .int .i64 c.cBatch, .int .i64 c.cPass, .int .i64 c.cMsg, .int .i64 c.cSeqs, .bool false, .int .i64 0, .int .i64 0, .int .i64 0, .int .i64 0, .int .i64 0, .int .i64 0, .slice none 0 0, .slice none 0 0]
    replace xS := xS.setRow #[.int .i64 c.cB, .int .i64 c.cBeam, .int .i64 c.cDepth, .int .i64 c.cWin, .int .i64 c.cQs, .int .i64 c.cQr, .int .i64 c.cBatch, .int .i64 c.cPass, .int .i64 c.cMsg, .int .i64 c.cSeqs, .bool false, .int .i64 0, .int .i64 0, .int .i64 0, .int .i64 0, .int .i64 0, .int .i64 0, .slice none 0 0, .slice none 0 0]
    replace xC := xC.next bB
    have hW := HW.out.next bB
    replace bb := bb.trans (bB.mono bb.size)
    obtain ⟨D, hD⟩ : ∃ D, w3.heap.size = D := ⟨_, rfl⟩
    rw [hD] at xS xC hW bb HDC ⊢
    clear bA bB hD HW
    generalize (w3.alloc (.cells #[.int .i64 0, .int .i64 0, .int .i64 0, .int .i64 0, .int .i64 0, .int .i64 0, .int .i64 0, .int .i64 0, .int .i64 0, .int .i64 0, .bool false, .int .i64 0, .int .i64 0, .int .i64 0, .int .i64 0, .int .i64 0, .int .i64 0, .slice none 0 0, .slice none 0 0] 30)).setRow D #[.int .i64 c.cB, .int .i64 c.cBeam, .int .i64 c.cDepth, .int .i64 c.cWin, .int .i64 c.cQs, .int .i64 c.cQr, .int .i64 c.cBatch, .int .i64 c.cPass, .int .i64 c.cMsg, .int .i64 c.cSeqs, .bool false, .int .i64 0, .int .i64 0, .int .i64 0, .int .i64 0, .int .i64 0, .int .i64 0, .slice none 0 0, .slice none 0 0] = w4 at *
    have HW4 : Hid (SnW (D + 1) w4 (newS c) c false 0 0 0 0 0 0 0 0 none 0 none 0 0) := hW
    have HC : Hid (okC c = true) := hC
    clear hC hW HSM
    go_wp2_with fail
    go_loopw [7] (fun i wr => ∃ k : Nat, k ≤ mt ∧ k ≤ 40 ∧ i = .int .i64 (k : Int) ∧ ∃ (s : Sn) (X : Bool) (KK R B N T F : Int) (E M : Nat) (ea : Option Addr) (ec : Nat) (wa : Option Addr) (wq : Nat), Hid (SnW (D + 1) wr s c X KK R B N T F E M ea ec wa wq (200 * k)) ∧ Box wr D 30 #[.int .i64 c.cB, .int .i64 c.cBeam, .int .i64 c.cDepth, .int .i64 c.cWin, .int .i64 c.cQs, .int .i64 c.cQr, .int .i64 c.cBatch, .int .i64 c.cPass, .int .i64 c.cMsg, .int .i64 c.cSeqs, .bool X, .int .i64 KK, .int .i64 R, .int .i64 B, .int .i64 N, .int .i64 T, .int .i64 F, .slice ea E ec, .slice wa M wq] ∧ Box wr w.heap.size 23 #[.int .i64 c.cB, .int .i64 c.cBeam, .int .i64 c.cDepth, .int .i64 c.cWin, .int .i64 c.cQs, .int .i64 c.cQr, .int .i64 c.cBatch, .int .i64 c.cPass, .int .i64 c.cMsg, .int .i64 c.cSeqs] ∧ Below w.heap.size w wr) (fun i _ => mt - (intOf i).toNat)
    case atStart => exact ⟨0, Nat.zero_le _, by omega, rfl, newS c, false, 0, 0, 0, 0, 0, 0, 0, 0, none, 0, none, 0, HW4, xS, xC, bb⟩
    case round =>
      clear HW4 xS xC bb
      obtain ⟨k, hk, hk4, rfl, s, X, KK, R, B, N, T, F, E, M, ea, ec, wa, wq, HSW, xS, xC, bb⟩ := hrel
      generalize hwr : wr = w5 at *
      clear hwr
      by_cases hlt : k < mt
      · have dk : decide (k < mt) = true := decide_eq_true hlt
        have dki : decide ((k : Int) < (mt : Int)) = true := decide_eq_true (by omega)
        by_cases h40 : k < 40
        · as_aux_lemma =>
            have d40 : decide ((k : Int) < 40) = true := decide_eq_true (by omega)
            obtain ⟨d, hd⟩ : ∃ d, l[k]? = some d := ⟨l[k]'(by rw [HT.out.1]; exact hlt), by simp⟩
            have hdl := HAV.out.2 k d h40 hd
            obtain ⟨bT, off, xa, xc, rfl, hbT, g0, g1, g2, g3, hX, hxc, hxb, hb0, hb1⟩ := HT.out.2 k d hd
            obtain ⟨dd, xs, dn, db⟩ := d
            dsimp only at *
            clear hd
            obtain ⟨xn, hxn⟩ : ∃ n, xs.length = n := ⟨_, rfl⟩
            have HXX : Hid (Holds .u8 w.heap.size w (.slice xa xs.length xc) xs ∧ xs.length = xn ∧ xs.length ≤ xc ∧ (∀ z ∈ xs, 0 ≤ z ∧ z ≤ 255) ∧ xs.length ≤ 400 ∧ 0 ≤ db ∧ db < 4294967296) := ⟨hX, hxn, hxc, hxb, hdl, hb0, hb1⟩
            rw [hxn] at g1
            replace g0 := (bb.cell (p := ⟨bT, off + k * 4, none⟩) hbT).trans g0
            replace g1 := (bb.cell (p := ⟨bT, off + k * 4 + 1, none⟩) hbT).trans g1
            replace g2 := (bb.cell (p := ⟨bT, off + k * 4 + 2, none⟩) hbT).trans g2
            replace g3 := (bb.cell (p := ⟨bT, off + k * 4 + 3, none⟩) hbT).trans g3
            have hbT5 : bT < w5.heap.size := Nat.lt_of_lt_of_le hbT bb.size
            have HG : Hid (w5.cell? ⟨bT, off + k * 4, none⟩ = some (.int .i64 dd) ∧ w5.cell? ⟨bT, off + k * 4 + 1, none⟩ = some (.slice xa xn xc) ∧ w5.cell? ⟨bT, off + k * 4 + 2, none⟩ = some (.int .i64 dn) ∧ w5.cell? ⟨bT, off + k * 4 + 3, none⟩ = some (.int .u32 db)) := ⟨g0, g1, g2, g3⟩
            clear hX hxn hxc hxb hdl hb0 hb1 hbT g1 g2 g3
            have bA : Below w5.heap.size w5 (w5.alloc (.cells #[.int .i64 0, .int .i64 0, .int .i64 0, .int .i64 0, .int .i64 0, .int .i64 0, .int .i64 0, .int .i64 0, .int .i64 0, .int .i64 0, .bool false, .int .i64 0, .int .i64 0, .int .i64 0, .int .i64 0, .int .i64 0, .int .i64 0, .slice none 0 0, .slice none 0 0] 30)) := (Below.refl _ _).alloc (Nat.le_refl _) _
            have xT := Box.new w5 30 #[.int .i64 0, .int .i64 0, .int .i64 0, .int .i64 0, .int .i64 0, .int .i64 0, .int .i64 0, .int .i64 0, .int .i64 0, .int .i64 0, .bool false, .int .i64 0, .int .i64 0, .int .i64 0, .int .i64 0, .int .i64 0, .int .i64 0, .slice none 0 0, .slice none 0 0]
            have hm9 : 200 * k ≤ 900000 := by omega
            go_upto_region 11 with fail
            replace g0 := (bA.cell (p := ⟨bT, off + k * 4, none⟩) hbT5).trans g0
            have hDT : D < w5.heap.size := xS.lt
            have hsz : w5.heap.size < (w5.alloc (.cells #[.int .i64 0, .int .i64 0, .int .i64 0, .int .i64 0, .int .i64 0, .int .i64 0, .int .i64 0, .int .i64 0, .int .i64 0, .int .i64 0, .bool false, .int .i64 0, .int .i64 0, .int .i64 0, .int .i64 0, .int .i64 0, .int .i64 0, .slice none 0 0, .slice none 0 0] 30)).heap.size := xT.lt
            have hbT6 : bT < (w5.alloc (.cells #[.int .i64 0, .int .i64 0, .int .i64 0, .int .i64 0, .int .i64 0, .int .i64 0, .int .i64 0, .int .i64 0, .int .i64 0, .int .i64 0, .bool false, .int .i64 0, .int .i64 0, .int .i64 0, .int .i64 0, .int .i64 0, .int .i64 0, .slice none 0 0, .slice none 0 0] 30)).heap.size := by omega
            generalize w5.alloc (.cells #[.int .i64 0, .int .i64 0, .int .i64 0, .int .i64 0, .int .i64 0, .int .i64 0, .int .i64 0, .int .i64 0, .int .i64 0, .int .i64 0, .bool false, .int .i64 0, .int .i64 0, .int .i64 0, .int .i64 0, .int .i64 0, .int .i64 0, .slice none 0 0, .slice none 0 0] 30) = w6 at *
            obtain ⟨v6, hv6⟩ : ∃ v, (IntKind.u64.wrap dd).tmod 6 = v := ⟨_, rfl⟩
            go_upto_block 2 with fail
            clear g0 dk dki d40 hbT6
            go_cut [57] (fun v0 wx => ∃ (t : Sn) (X1 : Bool) (K1 R1 B1 N1 T1 F1 : Int) (E1 M1 : Nat) (ia : Option Addr) (ic : Nat) (ja : Option Addr) (jc : Nat), Hid (Keeps s t) ∧ Hid (SnW (w5.heap.size + 1) wx t c X1 K1 R1 B1 N1 T1 F1 E1 M1 ia ic ja jc (200 * k + 200)) ∧ Box wx w5.heap.size 30 #[.int .i64 c.cB, .int .i64 c.cBeam, .int .i64 c.cDepth, .int .i64 c.cWin, .int .i64 c.cQs, .int .i64 c.cQr, .int .i64 c.cBatch, .int .i64 c.cPass, .int .i64 c.cMsg, .int .i64 c.cSeqs, .bool X1, .int .i64 K1, .int .i64 R1, .int .i64 B1, .int .i64 N1, .int .i64 T1, .int .i64 F1, .slice ia E1 ic, .slice ja M1 jc] ∧ Below w5.heap.size w5 wx)
            case first =>
              have hSW6 := HSW.out.next bA
              have HSW6 : Hid _ := hSW6
              have xS6 := xS.next bA
              have xC6 := xC.next bA
              have bb6 := bb.trans (bA.mono bb.size)
              clear hSW6
              by_cases h2 : v6 = 2
              · as_aux_lemma =>
                  have d2 : (v6 == 2) = true := by rw [beq_iff_eq]; exact h2
                  clear h2
                  go_wp2_with (first | (refine wpList_load_box xS6 rfl 30 _ rfl rfl _ Tryd.underlying30 rfl (by kernel_rfl) ?_))
                  refine (sendTick_law HSW6.out hm9 (HF0.out.next bb6)).mono ?_
                  rintro e w7 ⟨fa, fc, va, vc, pa, pn, pc, r, qq, rfl, hE, hS, b9⟩
                  obtain ⟨hPk, hPn⟩ := hE.out.packs
                  have hP := (StsAt.ofOwn hPk).lower (Nat.zero_le _)
                  have HPN : Hid ((packS s).length = pn) := hPn
                  have hSW := HSW6.out.next b9
                  replace xS6 := xS6.next b9
                  replace xC6 := xC6.next b9
                  replace xT := xT.next b9
                  have bA7 := bA.trans (b9.mono bA.size)
                  have hTn : w5.heap.size < w7.heap.size := xT.lt
                  clear b9 hE hPk hPn HSW6
                  have bB0 : Below w7.heap.size w7 (w7.alloc (.cells #[.int .i64 0, .int .i64 0, .int .i64 0, .int .i64 0, .int .i64 0, .int .i64 0, .int .i64 0, .int .i64 0, .int .i64 0, .int .i64 0, .bool false, .int .i64 0, .int .i64 0, .int .i64 0, .int .i64 0, .int .i64 0, .int .i64 0, .slice none 0 0, .slice none 0 0] 30)) := (Below.refl _ _).alloc (Nat.le_refl _) _
                  have xN := Box.new w7 30 #[.int .i64 0, .int .i64 0, .int .i64 0, .int .i64 0, .int .i64 0, .int .i64 0, .int .i64 0, .int .i64 0, .int .i64 0, .int .i64 0, .bool false, .int .i64 0, .int .i64 0, .int .i64 0, .int .i64 0, .int .i64 0, .int .i64 0, .slice none 0 0, .slice none 0 0]
                  go_upto_region 15 with (first | (refine wpList_store_box xN rfl 30 _ _ rfl rfl rfl rfl (by kernel_rfl) (by simp [Value.oneCell']) ?_))
                  have bB := below_setRow bB0 (Nat.le_refl _) #[.int .i64 c.cB, .int .i64 c.cBeam, .int .i64 c.cDepth, .int .i64 c.cWin, .int .i64 c.cQs, .int .i64 c.cQr, .int .i64 c.cBatch, .int .i64 c.cPass, .int .i64 c.cMsg, .int .i64 c.cSeqs, .bool X, .int .i64 (satN KK 1), .int .i64 R, .int .i64 B, .int .i64 N, .int .i64 T, .int .i64 F, .slice fa E fc, .slice va M vc]
                  replace xN := xN.setRow #[.int .i64 c.cB, .int .i64 c.cBeam, .int .i64 c.cDepth, .int .i64 c.cWin, .int .i64 c.cQs, .int .i64 c.cQr, .int .i64 c.cBatch, .int .i64 c.cPass, .int .i64 c.cMsg, .int .i64 c.cSeqs, .bool X, .int .i64 (satN KK 1), .int .i64 R, .int .i64 B, .int .i64 N, .int .i64 T, .int .i64 F, .slice fa E fc, .slice va M vc]
                  have hST := (hS.out.next bB).lower (base' := w5.heap.size + 1) (by omega)
                  replace hSW := hSW.next bB
                  replace hP := hP.next bB
                  replace xS6 := xS6.next bB
                  replace xC6 := xC6.next bB
                  replace xT := xT.next bB
                  have b58 := bA7.trans (bB.mono bA7.size)
                  obtain ⟨DN, hDN⟩ : ∃ D, w7.heap.size = D := ⟨_, rfl⟩
                  rw [hDN] at xN xS6 xC6 xT hSW hP hST b58 ⊢
                  clear bB0 bB hDN hS bA7 hTn bb6
                  generalize (w7.alloc (.cells #[.int .i64 0, .int .i64 0, .int .i64 0, .int .i64 0, .int .i64 0, .int .i64 0, .int .i64 0, .int .i64 0, .int .i64 0, .int .i64 0, .bool false, .int .i64 0, .int .i64 0, .int .i64 0, .int .i64 0, .int .i64 0, .int .i64 0, .slice none 0 0, .slice none 0 0] 30)).setRow DN #[.int .i64 c.cB, .int .i64 c.cBeam, .int .i64 c.cDepth, .int .i64 c.cWin, .int .i64 c.cQs, .int .i64 c.cQr, .int .i64 c.cBatch, .int .i64 c.cPass, .int .i64 c.cMsg, .int .i64 c.cSeqs, .bool X, .int .i64 (satN KK 1), .int .i64 R, .int .i64 B, .int .i64 N, .int .i64 T, .int .i64 F, .slice fa E fc, .slice va M vc] = w8 at *
                  have HST : Hid _ := hST
                  have HSW8 : Hid _ := hSW
                  clear hST hSW
                  have hpw := packS_few s
                  have hcs := HSW8.out.is.eC
                  rw [HPN.out] at hpw
                  unfold winS at hpw
                  rw [hcs] at hpw
                  have hcw := (okC_iff c).1 HC.out
                  have dpn : decide (c.cWin < (pn : Int)) = false := decide_eq_false (by omega)
                  have cc3 := xC6.cell 3 _ rfl
                  have lC := xC6.lt
                  clear hpw hcs hcw
                  go_wp2_with fail
                  clear dpn cc3 lC d2
                  go_loopw [12] (fun i wr => ∃ j : Nat, j ≤ pn ∧ i = .int .i64 (j : Int) ∧ Below w8.heap.size w8 wr) (fun i _ => pn - (intOf i).toNat)
                  case atStart => exact ⟨0, Nat.zero_le _, rfl, Below.refl _ _⟩
                  case round =>
                    obtain ⟨j, hj, rfl, bx⟩ := hrel
                    generalize hwr : wr = w9 at *
                    clear hwr
                    replace hP := hP.next bx
                    replace xS6 := xS6.next bx
                    replace xC6 := xC6.next bx
                    replace xT := xT.next bx
                    replace xN := xN.next bx
                    have hSW := HSW8.out.next bx
                    have hST := HST.out.next bx
                    have b59 := b58.trans (bx.mono b58.size)
                    clear b58 HSW8 HST
                    have HSW9 : Hid _ := hSW
                    have HST9 : Hid _ := hST
                    clear hSW hST
                    by_cases hjl : j < pn
                    · obtain ⟨zs, hzs⟩ : ∃ zs, (packS s)[j]? = some zs := ⟨(packS s)[j]'(by rw [HPN.out]; exact hjl), by simp⟩
                      obtain ⟨i, e, hi, hiw, heA, hok, hdS, hbd⟩ := pack_at HSW9.out.ok hzs
                      obtain ⟨gb, of5, ya, yc, rfl, t1, t2, t3, hyc⟩ := txsO_at hP hzs
                      have hiM : i < M := by rw [← HSW9.out.is.lW]; exact (List.getElem?_eq_some_iff.1 hi).1
                      obtain ⟨ga, of6, pa9, px, pc9, rfl, hA⟩ := atEm_of (HSW9.out.lies.2.holds) hi (Below.refl _ _) (Nat.le_refl _)
                      have m3 : Hid (w9.cell? ⟨ga, of6 + i * 5 + 3, none⟩ = some (.bool false)) := by
                        have h9 := hA.1.2.2.2.2.1
                        rw [heA] at h9
                        exact h9
                      have lA : ga < w9.heap.size := hA.lt
                      have hFe := HSW9.out.is.eF
                      have hTe := HSW9.out.is.eT
                      have hcs := HSW9.out.is.eC
                      skip
                      have hbd9 := snw_bounds HSW9.out
                      obtain ⟨q, hq⟩ : ∃ q : Int, F + (i : Int) = q := ⟨_, rfl⟩
                      rw [hFe, hq] at hdS
                      unfold winS at hiw
                      rw [hcs] at hiw
                      have hcw := (okC_iff c).1 HC.out
                      have HOKD : Hid (okD zs ∧ dS zs = q ∧ ∀ z ∈ zs, 0 ≤ z ∧ z ≤ 255) := ⟨hok, hdS, hbd⟩
                      have HY : Hid (Holds .u8 w9.heap.size w9 (.slice ya zs.length yc) zs) := t3
                      have e1 : decide (q < F) = false := decide_eq_false (by omega)
                      have wFw : IntKind.i64.wrap (F + c.cWin) = F + c.cWin := by rw [IntKind.wrap_i64]; omega
                      have e2 : decide (F + c.cWin ≤ q) = false := decide_eq_false (by omega)
                      have e3 : decide (T ≤ q) = false := decide_eq_false (by omega)
                      have wqF : IntKind.i64.wrap (q - F) = (i : Int) := by rw [IntKind.wrap_i64]; omega
                      have e4 : decide ((M : Int) ≤ (i : Int)) = false := decide_eq_false (by omega)
                      have e5 : decide (i < M) = true := decide_eq_true hiM
                      have e6 : decide ((i : Int) < (M : Int)) = true := decide_eq_true (by omega)
                      have djp : decide (j < pn) = true := decide_eq_true hjl
                      have djpi : decide ((j : Int) < (pn : Int)) = true := decide_eq_true (by omega)
                      have hpn1 : pn ≤ 16 := by
                        have h9 := packS_few s
                        rw [HPN.out] at h9
                        unfold winS at h9
                        rw [hcs] at h9
                        omega
                      clear hok hdS hbd t3 hi hiw heA hzs hA hFe hTe hcs hcw hbd9 hq
                      go_wp2_with fail
                      refine (DataRead_ok ya yc zs hyc HOKD.out.2.2 HOKD.out.1 _ HY.out).mono ?_
                      rintro e w10 ⟨ta, tc, rfl, o9, b9⟩
                      rw [HOKD.out.2.1]
                      clear o9 t2 HY djp djpi
                      replace xS6 := xS6.next b9
                      replace xC6 := xC6.next b9
                      have m3x := (b9.cell (p := ⟨ga, of6 + i * 5 + 3, none⟩) lA).trans m3.out
                      have lA1 : ga < w10.heap.size := Nat.lt_of_lt_of_le lA b9.size
                      have bA2 : Below w10.heap.size w10 (w10.alloc (.cells #[.int .i64 0, .int .i64 0, .int .i64 0, .slice none 0 0] 43)) := (Below.refl _ _).alloc (Nat.le_refl _) _
                      have xd := Box.new w10 43 #[.int .i64 0, .int .i64 0, .int .i64 0, .slice none 0 0]
                      go_upto_region 21 with (first | (refine wpList_store_box xd rfl 43 _ _ rfl rfl rfl rfl (by kernel_rfl) (by simp [Value.oneCell']) ?_))
                      have bB2 := below_setRow bA2 (Nat.le_refl _) #[.int .i64 q, .int .i64 (dR zs), .int .i64 (dF zs), .slice ta (dX zs).length tc]
                      replace xd := xd.setRow #[.int .i64 q, .int .i64 (dR zs), .int .i64 (dF zs), .slice ta (dX zs).length tc]
                      replace xS6 := xS6.next bB2
                      replace xC6 := xC6.next bB2
                      replace m3x := (bB2.cell (p := ⟨ga, of6 + i * 5 + 3, none⟩) lA1).trans m3x
                      have bx2 := (bx.trans (b9.mono bx.size)).trans (bB2.mono (bx.trans (b9.mono bx.size)).size)
                      have lA2 : ga < ((w10.alloc (.cells #[.int .i64 0, .int .i64 0, .int .i64 0, .slice none 0 0] 43)).setRow w10.heap.size #[.int .i64 q, .int .i64 (dR zs), .int .i64 (dF zs), .slice ta (dX zs).length tc]).heap.size := Nat.lt_of_lt_of_le lA1 bB2.size
                      generalize hw11 : (w10.alloc (.cells #[.int .i64 0, .int .i64 0, .int .i64 0, .slice none 0 0] 43)).setRow w10.heap.size #[.int .i64 q, .int .i64 (dR zs), .int .i64 (dF zs), .slice ta (dX zs).length tc] = w11 at *
                      clear hw11 bA2 bB2 b9 bx lA lA1 m3 HSW9 HST9 hP xT xN b59
                      have cd0 := xd.cell 0 _ rfl
                      have ld := xd.lt
                      have cs15 := xS6.cell 15 _ rfl
                      have cs16 := xS6.cell 16 _ rfl
                      have cs18 := xS6.cell 18 _ rfl
                      have lS := xS6.lt
                      have cc3 := xC6.cell 3 _ rfl
                      have lC := xC6.lt
                      go_wp2_with fail
                      exact ⟨⟨j + 1, hjl, by go_num, bx2⟩, by simp [intOf]; omega⟩
                    · obtain rfl : j = pn := by omega
                      clear hj hjl hP xS6 xC6 HSW9 bx
                      go_wp2_with (first | (refine wpList_load_box xN rfl 30 _ rfl rfl _ Tryd.underlying30 rfl (by kernel_rfl) ?_) | (refine wpList_store_box xT rfl 30 _ _ rfl rfl rfl rfl (by kernel_rfl) (by simp [Value.oneCell']) ?_))
                      go_meet
                      exact ⟨tickS s, X, satN KK 1, R, B, N, T, F, E, M, fa, fc, va, vc, keeps_tick s, (HST9.out.old (D := w5.heap.size) (Nat.lt_succ_self _) (fun g hg => setRow_other w9 w5.heap.size g #[.int .i64 c.cB, .int .i64 c.cBeam, .int .i64 c.cDepth, .int .i64 c.cWin, .int .i64 c.cQs, .int .i64 c.cQr, .int .i64 c.cBatch, .int .i64 c.cPass, .int .i64 c.cMsg, .int .i64 c.cSeqs, .bool X, .int .i64 (satN KK 1), .int .i64 R, .int .i64 B, .int .i64 N, .int .i64 T, .int .i64 F, .slice fa E fc, .slice va M vc] hg)).more (by omega), xT.setRow #[.int .i64 c.cB, .int .i64 c.cBeam, .int .i64 c.cDepth, .int .i64 c.cWin, .int .i64 c.cQs, .int .i64 c.cQr, .int .i64 c.cBatch, .int .i64 c.cPass, .int .i64 c.cMsg, .int .i64 c.cSeqs, .bool X, .int .i64 (satN KK 1), .int .i64 R, .int .i64 B, .int .i64 N, .int .i64 T, .int .i64 F, .slice fa E fc, .slice va M vc], below_setRow b59 (Nat.le_refl _) #[.int .i64 c.cB, .int .i64 c.cBeam, .int .i64 c.cDepth, .int .i64 c.cWin, .int .i64 c.cQs, .int .i64 c.cQr, .int .i64 c.cBatch, .int .i64 c.cPass, .int .i64 c.cMsg, .int .i64 c.cSeqs, .bool X, .int .i64 (satN KK 1), .int .i64 R, .int .i64 B, .int .i64 N, .int .i64 T, .int .i64 F, .slice fa E fc, .slice va M vc]⟩
              have d2 : (v6 == 2) = false := by rw [beq_eq_false_iff_ne]; exact h2
              clear h2
              by_cases h3 : v6 = 3
              · as_aux_lemma =>
                  have d3 : (v6 == 3) = true := by rw [beq_iff_eq]; exact h3
                  clear h3
                  obtain ⟨zs, hzs⟩ : ∃ zs, actB F c.cWin (dd, xs, dn, db) = zs := ⟨_, rfl⟩
                  have hbd9 := snw_bounds HSW6.out
                  have hcw := (okC_iff c).1 HC.out
                  have HBY := hid_imp fun (wx : World) (bx : Below w6.heap.size w6 wx) => (show Calls Tryd.prog 10 #[.agg #[.int .i64 c.cB, .int .i64 c.cBeam, .int .i64 c.cDepth, .int .i64 c.cWin, .int .i64 c.cQs, .int .i64 c.cQr, .int .i64 c.cBatch, .int .i64 c.cPass, .int .i64 c.cMsg, .int .i64 c.cSeqs, .bool X, .int .i64 KK, .int .i64 R, .int .i64 B, .int .i64 N, .int .i64 T, .int .i64 F, .slice ea E ec, .slice wa M wq], .agg #[.int .i64 dd, .slice xa xn xc, .int .i64 dn, .int .u32 db]] wx fun e w' => ∃ ya yc, e = .returned (.slice ya zs.length yc) ∧ Holds .u8 w'.heap.size w' (.slice ya zs.length yc) zs ∧ zs.length ≤ yc ∧ Below wx.heap.size wx w' from by
                    have h9 := HXX.out
                    have h := actBytes_any c X KK R B N T F E M ea ec wa wq (by omega) (by omega) (by omega) (by omega) (dd, xs, dn, db) xa xc h9.2.2.2.2.2.1 h9.2.2.2.2.2.2 h9.2.2.1 wx (((h9.1.below bb6).mono bb6.size).below bx |>.mono bx.size)
                    rw [hzs] at h
                    rw [← h9.2.1]
                    exact h)
                  have hzb : zs.length ≤ 4096 ∧ ∀ z ∈ zs, 0 ≤ z ∧ z ≤ 255 := by
                    rw [← hzs]
                    exact actB_bd HXX.out.2.2.2.2.1 HXX.out.2.2.2.1
                  have HZB : Hid _ := hzb
                  have HLE := hid_imp fun (wx : World) (bx : Below w6.heap.size w6 wx) (ya : Option Addr) (yc : Nat) (hy : Holds .u8 wx.heap.size wx (.slice ya zs.length yc) zs) (hyc : zs.length ≤ yc) => sendLearn_law (w := wx) (HSW6.out.next bx) hm9 ya zs.length yc zs rfl HZB.out.1 hyc HZB.out.2 hy
                  have hbT6 : bT < w6.heap.size := Nat.lt_of_lt_of_le hbT5 bA.size
                  have k0 : Hid (w6.cell? ⟨bT, off + k * 4, none⟩ = some (.int .i64 dd)) := (bA.cell (p := ⟨bT, off + k * 4, none⟩) hbT5).trans HG.out.1
                  have k1 : Hid (w6.cell? ⟨bT, off + k * 4 + 1, none⟩ = some (.slice xa xn xc)) := (bA.cell (p := ⟨bT, off + k * 4 + 1, none⟩) hbT5).trans HG.out.2.1
                  have k2 : Hid (w6.cell? ⟨bT, off + k * 4 + 2, none⟩ = some (.int .i64 dn)) := (bA.cell (p := ⟨bT, off + k * 4 + 2, none⟩) hbT5).trans HG.out.2.2.1
                  have k3 : Hid (w6.cell? ⟨bT, off + k * 4 + 3, none⟩ = some (.int .u32 db)) := (bA.cell (p := ⟨bT, off + k * 4 + 3, none⟩) hbT5).trans HG.out.2.2.2
                  have dk : decide (k < mt) = true := decide_eq_true hlt
                  have dki : decide ((k : Int) < (mt : Int)) = true := decide_eq_true (by omega)
                  clear hzs hbd9 hcw hzb
                  go_upto_region 26 with fail
                  go_cut [15, 16] (fun v0 v1 wx => ∃ (DN : Nat) (R9 B9 N9 T9 F9 : Int) (E9 M9 : Nat) (fa : Option Addr) (fc : Nat) (va : Option Addr) (vc : Nat), v0 = .pointer (some ⟨DN, 0, none⟩) ∧ v1 = .int .i64 (errL s zs) ∧ w6.heap.size ≤ DN ∧ Box wx DN 30 #[.int .i64 c.cB, .int .i64 c.cBeam, .int .i64 c.cDepth, .int .i64 c.cWin, .int .i64 c.cQs, .int .i64 c.cQr, .int .i64 c.cBatch, .int .i64 c.cPass, .int .i64 c.cMsg, .int .i64 c.cSeqs, .bool X, .int .i64 KK, .int .i64 R9, .int .i64 B9, .int .i64 N9, .int .i64 T9, .int .i64 F9, .slice fa E9 fc, .slice va M9 vc] ∧ Hid (SnW w6.heap.size wx (learnS s zs) c X KK R9 B9 N9 T9 F9 E9 M9 fa fc va vc (200 * k)) ∧ Below w6.heap.size w6 wx)
                  case first =>
                    as_aux_lemma =>
                      refine wp_region_held_drew (S := fun w' => Below w6.heap.size w6 w') (by kernel_rfl) ((Below.refl w6.heap.size w6).drew) (fun hHeld => ?_)
                      refine held_take (i := 0) (d := 142) (v := ?v1) rfl rfl (by kernel_rfl) (by kernel_rfl) (by kernel_rfl) (fun _ _ _ h => h) (Or.inl ⟨by kernel_rfl, ?hy1⟩) hHeld ?rest1
                      case hy1 =>
                        refine yields_box 30 ?yx1 ?yo1 ?yh1 _ (fun wx hSw => xS6.below hSw xS6.lt) Tryd.underlying30 rfl (by kernel_rfl)
                        case yo1 => rfl
                        case yh1 => rfl
                      simp only [List.setIfInBounds_toArray, List.set_cons_zero, List.set_cons_succ]
                      refine held_take (i := 1) (d := 143) (v := ?v2) rfl rfl (by kernel_rfl) (by kernel_rfl) (by kernel_rfl) (fun _ _ _ h => h) (Or.inl ⟨by kernel_rfl, ?hy2⟩) hHeld ?rest2
                      case hy2 =>
                        refine yields_box 30 ?yx2 ?yo2 ?yh2 _ (fun wx hSw => xS6.below hSw xS6.lt) Tryd.underlying30 rfl (by kernel_rfl)
                        case yo2 => rfl
                        case yh2 => rfl
                      simp only [List.setIfInBounds_toArray, List.set_cons_zero, List.set_cons_succ]
                      refine held_take (i := 2) (d := 144) (v := ?v3) rfl rfl (by kernel_rfl) (by kernel_rfl) (by kernel_rfl) (fun _ _ _ h => h) (Or.inl ⟨by kernel_rfl, ?hy3⟩) hHeld ?rest3
                      case hy3 =>
                        intro wx hSw
                        clear hSw
                        go_simp
                        with_reducible rfl
                      simp only [List.setIfInBounds_toArray, List.set_cons_zero, List.set_cons_succ]
                      refine held_take (i := 3) (d := 145) (v := ?v4) rfl rfl (by kernel_rfl) (by kernel_rfl) (by kernel_rfl) (fun _ _ _ h => h) (Or.inl ⟨by kernel_rfl, ?hy4⟩) hHeld ?rest4
                      case hy4 =>
                        intro wx hSw
                        clear hSw
                        go_simp
                        with_reducible rfl
                      simp only [List.setIfInBounds_toArray, List.set_cons_zero, List.set_cons_succ]
                      refine held_take (i := 4) (d := 146) (v := ?v5) rfl rfl (by kernel_rfl) (by kernel_rfl) (by kernel_rfl) (fun _ _ _ h => h) (Or.inl ⟨by kernel_rfl, ?hy5⟩) hHeld ?rest5
                      case hy5 =>
                        intro wx hSw
                        clear hSw
                        go_simp
                        with_reducible rfl
                      simp only [List.setIfInBounds_toArray, List.set_cons_zero, List.set_cons_succ]
                      refine held_take (i := 5) (d := 147) (v := ?v6) rfl rfl (by kernel_rfl) (by kernel_rfl) (by kernel_rfl) (fun _ _ _ h => h) (Or.inl ⟨by kernel_rfl, ?hy6⟩) hHeld ?rest6
                      case hy6 =>
                        intro wx hSw
                        have q0 := (hSw.cell (p := ⟨bT, off + k * 4, none⟩) hbT6).trans k0.out
                        have q1 := (hSw.cell (p := ⟨bT, off + k * 4 + 1, none⟩) hbT6).trans k1.out
                        have q2 := (hSw.cell (p := ⟨bT, off + k * 4 + 2, none⟩) hbT6).trans k2.out
                        have q3 := (hSw.cell (p := ⟨bT, off + k * 4 + 3, none⟩) hbT6).trans k3.out
                        clear hSw
                        go_simp
                        with_reducible rfl
                      simp only [List.setIfInBounds_toArray, List.set_cons_zero, List.set_cons_succ]
                      refine wpAnyH_ready (rs := [6, 11]) (by kernel_rfl) (by simp) ?_
                      refine AllReadyH.cons rfl (fun K hK => ?_) ?_
                      · go_simp
                        go_wp2_with (go_at_call 10; refine (HBY.out w6.drew ((Below.refl w6.heap.size w6).drew)).mono ?_; rintro e w7 ⟨ya, yc, rfl, hy, hyc, b7⟩)
                        have b7d : Below w6.heap.size w6 w7 := ((Below.refl w6.heap.size w6).drew).trans (b7.mono ((Below.refl w6.heap.size w6).drew).size)
                        refine hK.out _ _ (b7d) (fun hHeld => ?_)
                        clear hK K
                        refine wpAnyH_ready (rs := [7, 11]) (by kernel_rfl) (by simp) ?_
                        refine AllReadyH.cons rfl (fun K hK => ?_) ?_
                        · go_simp
                          go_wp2_with (go_at_call 9; refine (HLE.out w7 (b7d) ya yc (by exact hy) hyc).mono ?_; rintro e w8 ⟨R9, B9, N9, T9, F9, E9, M9, fa, fc, va, vc, rfl, hS, b8⟩)
                          have b8d : Below w6.heap.size w6 w8 := (b7d).trans (b8.mono (b7d).size)
                          refine hK.out _ _ (b8d) (fun hHeld => ?_)
                          clear hK K
                          refine held_take (i := 8) (d := 141) (v := ?v7) rfl rfl (by kernel_rfl) (by kernel_rfl) (by kernel_rfl) (fun _ _ _ h => h) (Or.inl ⟨by kernel_rfl, ?hy7⟩) hHeld ?rest7
                          case hy7 =>
                            intro wx hSw
                            clear hSw
                            go_simp
                            with_reducible rfl
                          simp only [List.setIfInBounds_toArray, List.set_cons_zero, List.set_cons_succ]
                          refine held_take (i := 9) (d := 150) (v := ?v8) rfl rfl (by kernel_rfl) (by kernel_rfl) (by kernel_rfl) (fun _ _ _ h => h) (Or.inl ⟨by kernel_rfl, ?hy8⟩) hHeld ?rest8
                          case hy8 =>
                            intro wx hSw
                            clear hSw
                            go_simp
                            with_reducible rfl
                          simp only [List.setIfInBounds_toArray, List.set_cons_zero, List.set_cons_succ]
                          refine held_take (i := 10) (d := 151) (v := ?v9) rfl rfl (by kernel_rfl) (by kernel_rfl) (by kernel_rfl) (fun _ _ _ h => h) (Or.inl ⟨by kernel_rfl, ?hy9⟩) hHeld ?rest9
                          case hy9 =>
                            intro wx hSw
                            clear hSw
                            go_simp
                            with_reducible rfl
                          simp only [List.setIfInBounds_toArray, List.set_cons_zero, List.set_cons_succ]
                          refine wpAnyH_ready (rs := [11]) (by kernel_rfl) (by simp) ?_
                          refine AllReadyH.cons rfl (fun K hK => ?_) AllReadyH.nil
                          go_simp
                          have bA0 : Below w8.heap.size w8 (w8.alloc (.cells #[.int .i64 0, .int .i64 0, .int .i64 0, .int .i64 0, .int .i64 0, .int .i64 0, .int .i64 0, .int .i64 0, .int .i64 0, .int .i64 0, .bool false, .int .i64 0, .int .i64 0, .int .i64 0, .int .i64 0, .int .i64 0, .int .i64 0, .slice none 0 0, .slice none 0 0] 30)) := (Below.refl _ _).alloc (Nat.le_refl _) _
                          have xN := Box.new w8 30 #[.int .i64 0, .int .i64 0, .int .i64 0, .int .i64 0, .int .i64 0, .int .i64 0, .int .i64 0, .int .i64 0, .int .i64 0, .int .i64 0, .bool false, .int .i64 0, .int .i64 0, .int .i64 0, .int .i64 0, .int .i64 0, .int .i64 0, .slice none 0 0, .slice none 0 0]
                          have hDN : w6.heap.size ≤ w8.heap.size := b8d.size
                          have bA9 := b8d.trans (bA0.mono b8d.size)
                          have hn9 := xN.lt
                          generalize hwa : w8.alloc (.cells #[.int .i64 0, .int .i64 0, .int .i64 0, .int .i64 0, .int .i64 0, .int .i64 0, .int .i64 0, .int .i64 0, .int .i64 0, .int .i64 0, .bool false, .int .i64 0, .int .i64 0, .int .i64 0, .int .i64 0, .int .i64 0, .int .i64 0, .slice none 0 0, .slice none 0 0] 30) = w8a at *
                          clear hwa
                          refine hK.out _ _ (bA9) (fun hHeld => ?_)
                          clear hK K
                          refine wpAnyH_ready (rs := [12]) (by kernel_rfl) (by simp) ?_
                          refine AllReadyH.cons rfl (fun K hK => ?_) AllReadyH.nil
                          refine step_store_boxn xN rfl 30 _ _ rfl rfl rfl rfl (by kernel_rfl) (by simp [Value.oneCell']) ?_
                          simp only [Act.put, List.setIfInBounds_toArray]
                          refine hK.out _ _ (below_setRow bA9 hDN #[.int .i64 c.cB, .int .i64 c.cBeam, .int .i64 c.cDepth, .int .i64 c.cWin, .int .i64 c.cQs, .int .i64 c.cQr, .int .i64 c.cBatch, .int .i64 c.cPass, .int .i64 c.cMsg, .int .i64 c.cSeqs, .bool X, .int .i64 KK, .int .i64 R9, .int .i64 B9, .int .i64 N9, .int .i64 T9, .int .i64 F9, .slice fa E9 fc, .slice va M9 vc]) (fun hHeld => ?_)
                          clear hK K
                          refine wpAnyH_ready (rs := [13]) (by kernel_rfl) (by simp) ?_
                          refine AllReadyH.cons rfl (fun K hK => ?_) AllReadyH.nil
                          go_simp
                          refine hK.out _ _ hHeld (fun hHeld => ?_)
                          clear hK K
                          refine wpAnyH_done (by kernel_rfl) ?_ _
                          go_wp2_with fail
                          go_meet
                          exact ⟨w8.heap.size, R9, B9, N9, T9, F9, E9, M9, fa, fc, va, vc, rfl, rfl, hDN, xN.setRow #[.int .i64 c.cB, .int .i64 c.cBeam, .int .i64 c.cDepth, .int .i64 c.cWin, .int .i64 c.cQs, .int .i64 c.cQr, .int .i64 c.cBatch, .int .i64 c.cPass, .int .i64 c.cMsg, .int .i64 c.cSeqs, .bool X, .int .i64 KK, .int .i64 R9, .int .i64 B9, .int .i64 N9, .int .i64 T9, .int .i64 F9, .slice fa E9 fc, .slice va M9 vc], (hS.out.next (below_setRow bA0 (Nat.le_refl _) #[.int .i64 c.cB, .int .i64 c.cBeam, .int .i64 c.cDepth, .int .i64 c.cWin, .int .i64 c.cQs, .int .i64 c.cQr, .int .i64 c.cBatch, .int .i64 c.cPass, .int .i64 c.cMsg, .int .i64 c.cSeqs, .bool X, .int .i64 KK, .int .i64 R9, .int .i64 B9, .int .i64 N9, .int .i64 T9, .int .i64 F9, .slice fa E9 fc, .slice va M9 vc])).lower (base' := w6.heap.size) b7d.size, hHeld⟩
                        refine AllReadyH.cons rfl (fun K hK => ?_) ?_
                        · go_simp
                          have bA0 : Below w7.heap.size w7 (w7.alloc (.cells #[.int .i64 0, .int .i64 0, .int .i64 0, .int .i64 0, .int .i64 0, .int .i64 0, .int .i64 0, .int .i64 0, .int .i64 0, .int .i64 0, .bool false, .int .i64 0, .int .i64 0, .int .i64 0, .int .i64 0, .int .i64 0, .int .i64 0, .slice none 0 0, .slice none 0 0] 30)) := (Below.refl _ _).alloc (Nat.le_refl _) _
                          have xN := Box.new w7 30 #[.int .i64 0, .int .i64 0, .int .i64 0, .int .i64 0, .int .i64 0, .int .i64 0, .int .i64 0, .int .i64 0, .int .i64 0, .int .i64 0, .bool false, .int .i64 0, .int .i64 0, .int .i64 0, .int .i64 0, .int .i64 0, .int .i64 0, .slice none 0 0, .slice none 0 0]
                          have hDN : w6.heap.size ≤ w7.heap.size := b7d.size
                          have bA9 := b7d.trans (bA0.mono b7d.size)
                          have hn9 := xN.lt
                          replace hy := Holds.next hy bA0
                          generalize hwa : w7.alloc (.cells #[.int .i64 0, .int .i64 0, .int .i64 0, .int .i64 0, .int .i64 0, .int .i64 0, .int .i64 0, .int .i64 0, .int .i64 0, .int .i64 0, .bool false, .int .i64 0, .int .i64 0, .int .i64 0, .int .i64 0, .int .i64 0, .int .i64 0, .slice none 0 0, .slice none 0 0] 30) = w7a at *
                          clear hwa
                          refine hK.out _ _ (bA9) (fun hHeld => ?_)
                          clear hK K
                          refine wpAnyH_ready (rs := [7]) (by kernel_rfl) (by simp) ?_
                          refine AllReadyH.cons rfl (fun K hK => ?_) AllReadyH.nil
                          go_simp
                          go_wp2_with (go_at_call 9; refine (HLE.out w7a (bA9) ya yc (by exact hy) hyc).mono ?_; rintro e w8 ⟨R9, B9, N9, T9, F9, E9, M9, fa, fc, va, vc, rfl, hS, b8⟩)
                          have b8d : Below w6.heap.size w6 w8 := (bA9).trans (b8.mono (bA9).size)
                          replace xN := xN.next b8
                          refine hK.out _ _ (b8d) (fun hHeld => ?_)
                          clear hK K
                          refine held_take (i := 8) (d := 141) (v := ?v10) rfl rfl (by kernel_rfl) (by kernel_rfl) (by kernel_rfl) (fun _ _ _ h => h) (Or.inl ⟨by kernel_rfl, ?hy10⟩) hHeld ?rest10
                          case hy10 =>
                            intro wx hSw
                            clear hSw
                            go_simp
                            with_reducible rfl
                          simp only [List.setIfInBounds_toArray, List.set_cons_zero, List.set_cons_succ]
                          refine held_take (i := 9) (d := 150) (v := ?v11) rfl rfl (by kernel_rfl) (by kernel_rfl) (by kernel_rfl) (fun _ _ _ h => h) (Or.inl ⟨by kernel_rfl, ?hy11⟩) hHeld ?rest11
                          case hy11 =>
                            intro wx hSw
                            clear hSw
                            go_simp
                            with_reducible rfl
                          simp only [List.setIfInBounds_toArray, List.set_cons_zero, List.set_cons_succ]
                          refine held_take (i := 10) (d := 151) (v := ?v12) rfl rfl (by kernel_rfl) (by kernel_rfl) (by kernel_rfl) (fun _ _ _ h => h) (Or.inl ⟨by kernel_rfl, ?hy12⟩) hHeld ?rest12
                          case hy12 =>
                            intro wx hSw
                            clear hSw
                            go_simp
                            with_reducible rfl
                          simp only [List.setIfInBounds_toArray, List.set_cons_zero, List.set_cons_succ]
                          refine wpAnyH_ready (rs := [12]) (by kernel_rfl) (by simp) ?_
                          refine AllReadyH.cons rfl (fun K hK => ?_) AllReadyH.nil
                          refine step_store_boxn xN rfl 30 _ _ rfl rfl rfl rfl (by kernel_rfl) (by simp [Value.oneCell']) ?_
                          simp only [Act.put, List.setIfInBounds_toArray]
                          refine hK.out _ _ (below_setRow b8d hDN #[.int .i64 c.cB, .int .i64 c.cBeam, .int .i64 c.cDepth, .int .i64 c.cWin, .int .i64 c.cQs, .int .i64 c.cQr, .int .i64 c.cBatch, .int .i64 c.cPass, .int .i64 c.cMsg, .int .i64 c.cSeqs, .bool X, .int .i64 KK, .int .i64 R9, .int .i64 B9, .int .i64 N9, .int .i64 T9, .int .i64 F9, .slice fa E9 fc, .slice va M9 vc]) (fun hHeld => ?_)
                          clear hK K
                          refine wpAnyH_ready (rs := [13]) (by kernel_rfl) (by simp) ?_
                          refine AllReadyH.cons rfl (fun K hK => ?_) AllReadyH.nil
                          go_simp
                          refine hK.out _ _ hHeld (fun hHeld => ?_)
                          clear hK K
                          refine wpAnyH_done (by kernel_rfl) ?_ _
                          go_wp2_with fail
                          go_meet
                          exact ⟨w7.heap.size, R9, B9, N9, T9, F9, E9, M9, fa, fc, va, vc, rfl, rfl, hDN, xN.setRow #[.int .i64 c.cB, .int .i64 c.cBeam, .int .i64 c.cDepth, .int .i64 c.cWin, .int .i64 c.cQs, .int .i64 c.cQr, .int .i64 c.cBatch, .int .i64 c.cPass, .int .i64 c.cMsg, .int .i64 c.cSeqs, .bool X, .int .i64 KK, .int .i64 R9, .int .i64 B9, .int .i64 N9, .int .i64 T9, .int .i64 F9, .slice fa E9 fc, .slice va M9 vc], (hS.out.old (D := w7.heap.size) hn9 (fun g hg => setRow_other w8 w7.heap.size g #[.int .i64 c.cB, .int .i64 c.cBeam, .int .i64 c.cDepth, .int .i64 c.cWin, .int .i64 c.cQs, .int .i64 c.cQr, .int .i64 c.cBatch, .int .i64 c.cPass, .int .i64 c.cMsg, .int .i64 c.cSeqs, .bool X, .int .i64 KK, .int .i64 R9, .int .i64 B9, .int .i64 N9, .int .i64 T9, .int .i64 F9, .slice fa E9 fc, .slice va M9 vc] hg)).lower (base' := w6.heap.size) bA9.size, hHeld⟩
                        exact AllReadyH.nil
                      refine AllReadyH.cons rfl (fun K hK => ?_) ?_
                      · go_simp
                        have bA9 : Below w6.heap.size w6 (w6.alloc (.cells #[.int .i64 0, .int .i64 0, .int .i64 0, .int .i64 0, .int .i64 0, .int .i64 0, .int .i64 0, .int .i64 0, .int .i64 0, .int .i64 0, .bool false, .int .i64 0, .int .i64 0, .int .i64 0, .int .i64 0, .int .i64 0, .int .i64 0, .slice none 0 0, .slice none 0 0] 30)).drew := ((Below.refl w6.heap.size w6).alloc (Nat.le_refl _) _).drew
                        have xN : Box (w6.alloc (.cells #[.int .i64 0, .int .i64 0, .int .i64 0, .int .i64 0, .int .i64 0, .int .i64 0, .int .i64 0, .int .i64 0, .int .i64 0, .int .i64 0, .bool false, .int .i64 0, .int .i64 0, .int .i64 0, .int .i64 0, .int .i64 0, .int .i64 0, .slice none 0 0, .slice none 0 0] 30)).drew w6.heap.size 30 #[.int .i64 0, .int .i64 0, .int .i64 0, .int .i64 0, .int .i64 0, .int .i64 0, .int .i64 0, .int .i64 0, .int .i64 0, .int .i64 0, .bool false, .int .i64 0, .int .i64 0, .int .i64 0, .int .i64 0, .int .i64 0, .int .i64 0, .slice none 0 0, .slice none 0 0] := (Box.new w6 30 #[.int .i64 0, .int .i64 0, .int .i64 0, .int .i64 0, .int .i64 0, .int .i64 0, .int .i64 0, .int .i64 0, .int .i64 0, .int .i64 0, .bool false, .int .i64 0, .int .i64 0, .int .i64 0, .int .i64 0, .int .i64 0, .int .i64 0, .slice none 0 0, .slice none 0 0]).next (Below.refl _ _).drew
                        have hDN : w6.heap.size ≤ w6.heap.size := Nat.le_refl _
                        have hn9 := xN.lt
                        generalize (w6.alloc (.cells #[.int .i64 0, .int .i64 0, .int .i64 0, .int .i64 0, .int .i64 0, .int .i64 0, .int .i64 0, .int .i64 0, .int .i64 0, .int .i64 0, .bool false, .int .i64 0, .int .i64 0, .int .i64 0, .int .i64 0, .int .i64 0, .int .i64 0, .slice none 0 0, .slice none 0 0] 30)).drew = w6a at *
                        refine hK.out _ _ (bA9) (fun hHeld => ?_)
                        clear hK K
                        refine wpAnyH_ready (rs := [6]) (by kernel_rfl) (by simp) ?_
                        refine AllReadyH.cons rfl (fun K hK => ?_) AllReadyH.nil
                        go_simp
                        go_wp2_with (go_at_call 10; refine (HBY.out w6a (bA9)).mono ?_; rintro e w7 ⟨ya, yc, rfl, hy, hyc, b7⟩)
                        have b7d : Below w6.heap.size w6 w7 := (bA9).trans (b7.mono (bA9).size)
                        replace xN := xN.next b7
                        refine hK.out _ _ (b7d) (fun hHeld => ?_)
                        clear hK K
                        refine wpAnyH_ready (rs := [7]) (by kernel_rfl) (by simp) ?_
                        refine AllReadyH.cons rfl (fun K hK => ?_) AllReadyH.nil
                        go_simp
                        go_wp2_with (go_at_call 9; refine (HLE.out w7 (b7d) ya yc (by exact hy) hyc).mono ?_; rintro e w8 ⟨R9, B9, N9, T9, F9, E9, M9, fa, fc, va, vc, rfl, hS, b8⟩)
                        have b8d : Below w6.heap.size w6 w8 := (b7d).trans (b8.mono (b7d).size)
                        replace xN := xN.next b8
                        refine hK.out _ _ (b8d) (fun hHeld => ?_)
                        clear hK K
                        refine held_take (i := 8) (d := 141) (v := ?v13) rfl rfl (by kernel_rfl) (by kernel_rfl) (by kernel_rfl) (fun _ _ _ h => h) (Or.inl ⟨by kernel_rfl, ?hy13⟩) hHeld ?rest13
                        case hy13 =>
                          intro wx hSw
                          clear hSw
                          go_simp
                          with_reducible rfl
                        simp only [List.setIfInBounds_toArray, List.set_cons_zero, List.set_cons_succ]
                        refine held_take (i := 9) (d := 150) (v := ?v14) rfl rfl (by kernel_rfl) (by kernel_rfl) (by kernel_rfl) (fun _ _ _ h => h) (Or.inl ⟨by kernel_rfl, ?hy14⟩) hHeld ?rest14
                        case hy14 =>
                          intro wx hSw
                          clear hSw
                          go_simp
                          with_reducible rfl
                        simp only [List.setIfInBounds_toArray, List.set_cons_zero, List.set_cons_succ]
                        refine held_take (i := 10) (d := 151) (v := ?v15) rfl rfl (by kernel_rfl) (by kernel_rfl) (by kernel_rfl) (fun _ _ _ h => h) (Or.inl ⟨by kernel_rfl, ?hy15⟩) hHeld ?rest15
                        case hy15 =>
                          intro wx hSw
                          clear hSw
                          go_simp
                          with_reducible rfl
                        simp only [List.setIfInBounds_toArray, List.set_cons_zero, List.set_cons_succ]
                        refine wpAnyH_ready (rs := [12]) (by kernel_rfl) (by simp) ?_
                        refine AllReadyH.cons rfl (fun K hK => ?_) AllReadyH.nil
                        refine step_store_boxn xN rfl 30 _ _ rfl rfl rfl rfl (by kernel_rfl) (by simp [Value.oneCell']) ?_
                        simp only [Act.put, List.setIfInBounds_toArray]
                        refine hK.out _ _ (below_setRow b8d hDN #[.int .i64 c.cB, .int .i64 c.cBeam, .int .i64 c.cDepth, .int .i64 c.cWin, .int .i64 c.cQs, .int .i64 c.cQr, .int .i64 c.cBatch, .int .i64 c.cPass, .int .i64 c.cMsg, .int .i64 c.cSeqs, .bool X, .int .i64 KK, .int .i64 R9, .int .i64 B9, .int .i64 N9, .int .i64 T9, .int .i64 F9, .slice fa E9 fc, .slice va M9 vc]) (fun hHeld => ?_)
                        clear hK K
                        refine wpAnyH_ready (rs := [13]) (by kernel_rfl) (by simp) ?_
                        refine AllReadyH.cons rfl (fun K hK => ?_) AllReadyH.nil
                        go_simp
                        refine hK.out _ _ hHeld (fun hHeld => ?_)
                        clear hK K
                        refine wpAnyH_done (by kernel_rfl) ?_ _
                        go_wp2_with fail
                        go_meet
                        exact ⟨w6.heap.size, R9, B9, N9, T9, F9, E9, M9, fa, fc, va, vc, rfl, rfl, hDN, xN.setRow #[.int .i64 c.cB, .int .i64 c.cBeam, .int .i64 c.cDepth, .int .i64 c.cWin, .int .i64 c.cQs, .int .i64 c.cQr, .int .i64 c.cBatch, .int .i64 c.cPass, .int .i64 c.cMsg, .int .i64 c.cSeqs, .bool X, .int .i64 KK, .int .i64 R9, .int .i64 B9, .int .i64 N9, .int .i64 T9, .int .i64 F9, .slice fa E9 fc, .slice va M9 vc], (hS.out.old (D := w6.heap.size) (Nat.lt_of_lt_of_le hn9 b7.size) (fun g hg => setRow_other w8 w6.heap.size g #[.int .i64 c.cB, .int .i64 c.cBeam, .int .i64 c.cDepth, .int .i64 c.cWin, .int .i64 c.cQs, .int .i64 c.cQr, .int .i64 c.cBatch, .int .i64 c.cPass, .int .i64 c.cMsg, .int .i64 c.cSeqs, .bool X, .int .i64 KK, .int .i64 R9, .int .i64 B9, .int .i64 N9, .int .i64 T9, .int .i64 F9, .slice fa E9 fc, .slice va M9 vc] hg)).lower (base' := w6.heap.size) b7d.size, hHeld⟩
                      exact AllReadyH.nil
                  case rest =>
                    as_aux_lemma =>
                      obtain ⟨DN, R9, B9, N9, T9, F9, E9, M9, fa, fc, va, vc, rfl, rfl, hDN, xN, hS, b9⟩ := hcut
                      generalize hwc : wc = w7 at *
                      replace xS6 := xS6.next b9
                      replace xT := xT.next b9
                      have b57 := bA.trans (b9.mono bA.size)
                      have HIS : Hid _ := HSW6.out.is
                      clear hwc HBY HLE k0 k1 k2 k3 hbT6 b9 HSW6
                      by_cases he : errL s zs = 0
                      · rw [he]
                        clear he
                        go_upto_region 29 with fail
                        go_wp2_with (first | (refine wpList_load_box xN rfl 30 _ rfl rfl _ Tryd.underlying30 rfl (by kernel_rfl) ?_) | (refine wpList_store_box xT rfl 30 _ _ rfl rfl rfl rfl (by kernel_rfl) (by simp [Value.oneCell']) ?_))
                        go_meet
                        exact ⟨learnS s zs, X, _, R9, B9, N9, T9, F9, E9, M9, fa, fc, va, vc, keeps_learn s zs, ((hS.out.old (D := w5.heap.size) hsz (fun g hg => setRow_other w7 w5.heap.size g #[.int .i64 c.cB, .int .i64 c.cBeam, .int .i64 c.cDepth, .int .i64 c.cWin, .int .i64 c.cQs, .int .i64 c.cQr, .int .i64 c.cBatch, .int .i64 c.cPass, .int .i64 c.cMsg, .int .i64 c.cSeqs, .bool X, .int .i64 KK, .int .i64 R9, .int .i64 B9, .int .i64 N9, .int .i64 T9, .int .i64 F9, .slice fa E9 fc, .slice va M9 vc] hg)).lower (base' := w5.heap.size + 1) hsz).more (by omega), xT.setRow #[.int .i64 c.cB, .int .i64 c.cBeam, .int .i64 c.cDepth, .int .i64 c.cWin, .int .i64 c.cQs, .int .i64 c.cQr, .int .i64 c.cBatch, .int .i64 c.cPass, .int .i64 c.cMsg, .int .i64 c.cSeqs, .bool X, .int .i64 KK, .int .i64 R9, .int .i64 B9, .int .i64 N9, .int .i64 T9, .int .i64 F9, .slice fa E9 fc, .slice va M9 vc], below_setRow b57 (Nat.le_refl _) #[.int .i64 c.cB, .int .i64 c.cBeam, .int .i64 c.cDepth, .int .i64 c.cWin, .int .i64 c.cQs, .int .i64 c.cQr, .int .i64 c.cBatch, .int .i64 c.cPass, .int .i64 c.cMsg, .int .i64 c.cSeqs, .bool X, .int .i64 KK, .int .i64 R9, .int .i64 B9, .int .i64 N9, .int .i64 T9, .int .i64 F9, .slice fa E9 fc, .slice va M9 vc]⟩
                      · obtain ⟨f1, f2, f3⟩ := learn_err he
                        have de : (errL s zs != 0) = true := by rw [bne_iff_ne]; exact he
                        obtain rfl : F9 = F := by rw [← hS.out.is.eF, f1]; exact HIS.out.eF
                        obtain rfl : E9 = E := by rw [← hS.out.is.lE, f2]; exact HIS.out.lE
                        obtain rfl : M9 = M := by rw [← hS.out.is.lW, f3]; exact HIS.out.lW
                        have cn16 := xN.cell 16 _ rfl
                        have cn17 := xN.cell 17 _ rfl
                        have cn18 := xN.cell 18 _ rfl
                        have lN := xN.lt
                        have cs16 := xS6.cell 16 _ rfl
                        have cs17 := xS6.cell 17 _ rfl
                        have cs18 := xS6.cell 18 _ rfl
                        have lS := xS6.lt
                        clear he f1 f2 f3
                        go_upto_region 29 with fail
                        go_wp2_with (first | (refine wpList_load_box xN rfl 30 _ rfl rfl _ Tryd.underlying30 rfl (by kernel_rfl) ?_) | (refine wpList_store_box xT rfl 30 _ _ rfl rfl rfl rfl (by kernel_rfl) (by simp [Value.oneCell']) ?_))
                        go_meet
                        exact ⟨learnS s zs, X, _, R9, B9, N9, T9, F9, E9, M9, fa, fc, va, vc, keeps_learn s zs, ((hS.out.old (D := w5.heap.size) hsz (fun g hg => setRow_other w7 w5.heap.size g #[.int .i64 c.cB, .int .i64 c.cBeam, .int .i64 c.cDepth, .int .i64 c.cWin, .int .i64 c.cQs, .int .i64 c.cQr, .int .i64 c.cBatch, .int .i64 c.cPass, .int .i64 c.cMsg, .int .i64 c.cSeqs, .bool X, .int .i64 KK, .int .i64 R9, .int .i64 B9, .int .i64 N9, .int .i64 T9, .int .i64 F9, .slice fa E9 fc, .slice va M9 vc] hg)).lower (base' := w5.heap.size + 1) hsz).more (by omega), xT.setRow #[.int .i64 c.cB, .int .i64 c.cBeam, .int .i64 c.cDepth, .int .i64 c.cWin, .int .i64 c.cQs, .int .i64 c.cQr, .int .i64 c.cBatch, .int .i64 c.cPass, .int .i64 c.cMsg, .int .i64 c.cSeqs, .bool X, .int .i64 KK, .int .i64 R9, .int .i64 B9, .int .i64 N9, .int .i64 T9, .int .i64 F9, .slice fa E9 fc, .slice va M9 vc], below_setRow b57 (Nat.le_refl _) #[.int .i64 c.cB, .int .i64 c.cBeam, .int .i64 c.cDepth, .int .i64 c.cWin, .int .i64 c.cQs, .int .i64 c.cQr, .int .i64 c.cBatch, .int .i64 c.cPass, .int .i64 c.cMsg, .int .i64 c.cSeqs, .bool X, .int .i64 KK, .int .i64 R9, .int .i64 B9, .int .i64 N9, .int .i64 T9, .int .i64 F9, .slice fa E9 fc, .slice va M9 vc]⟩
              have d3 : (v6 == 3) = false := by rw [beq_eq_false_iff_ne]; exact h3
              clear h3
              by_cases h4 : v6 = 4
              · as_aux_lemma =>
                  have d4 : (v6 == 4) = true := by rw [beq_iff_eq]; exact h4
                  clear h4
                  obtain ⟨zs, hzs⟩ : ∃ zs, actB F c.cWin (dd, xs, dn, db) = zs := ⟨_, rfl⟩
                  have hbd9 := snw_bounds HSW6.out
                  have hcw := (okC_iff c).1 HC.out
                  have HBY := hid_imp fun (wx : World) (bx : Below w6.heap.size w6 wx) => (show Calls Tryd.prog 10 #[.agg #[.int .i64 c.cB, .int .i64 c.cBeam, .int .i64 c.cDepth, .int .i64 c.cWin, .int .i64 c.cQs, .int .i64 c.cQr, .int .i64 c.cBatch, .int .i64 c.cPass, .int .i64 c.cMsg, .int .i64 c.cSeqs, .bool X, .int .i64 KK, .int .i64 R, .int .i64 B, .int .i64 N, .int .i64 T, .int .i64 F, .slice ea E ec, .slice wa M wq], .agg #[.int .i64 dd, .slice xa xn xc, .int .i64 dn, .int .u32 db]] wx fun e w' => ∃ ya yc, e = .returned (.slice ya zs.length yc) ∧ Holds .u8 w'.heap.size w' (.slice ya zs.length yc) zs ∧ zs.length ≤ yc ∧ Below wx.heap.size wx w' from by
                    have h9 := HXX.out
                    have h := actBytes_any c X KK R B N T F E M ea ec wa wq (by omega) (by omega) (by omega) (by omega) (dd, xs, dn, db) xa xc h9.2.2.2.2.2.1 h9.2.2.2.2.2.2 h9.2.2.1 wx (((h9.1.below bb6).mono bb6.size).below bx |>.mono bx.size)
                    rw [hzs] at h
                    rw [← h9.2.1]
                    exact h)
                  have hzb : zs.length ≤ 4096 ∧ ∀ z ∈ zs, 0 ≤ z ∧ z ≤ 255 := by
                    rw [← hzs]
                    exact actB_bd HXX.out.2.2.2.2.1 HXX.out.2.2.2.1
                  have HZB : Hid _ := hzb
                  have HLE := hid_imp fun (wx : World) (bx : Below w6.heap.size w6 wx) (ya : Option Addr) (yc : Nat) (hy : Holds .u8 wx.heap.size wx (.slice ya zs.length yc) zs) (hyc : zs.length ≤ yc) => sendLearn_law (w := wx) (HSW6.out.next bx) hm9 ya zs.length yc zs rfl HZB.out.1 hyc HZB.out.2 hy
                  have hbT6 : bT < w6.heap.size := Nat.lt_of_lt_of_le hbT5 bA.size
                  have k0 : Hid (w6.cell? ⟨bT, off + k * 4, none⟩ = some (.int .i64 dd)) := (bA.cell (p := ⟨bT, off + k * 4, none⟩) hbT5).trans HG.out.1
                  have k1 : Hid (w6.cell? ⟨bT, off + k * 4 + 1, none⟩ = some (.slice xa xn xc)) := (bA.cell (p := ⟨bT, off + k * 4 + 1, none⟩) hbT5).trans HG.out.2.1
                  have k2 : Hid (w6.cell? ⟨bT, off + k * 4 + 2, none⟩ = some (.int .i64 dn)) := (bA.cell (p := ⟨bT, off + k * 4 + 2, none⟩) hbT5).trans HG.out.2.2.1
                  have k3 : Hid (w6.cell? ⟨bT, off + k * 4 + 3, none⟩ = some (.int .u32 db)) := (bA.cell (p := ⟨bT, off + k * 4 + 3, none⟩) hbT5).trans HG.out.2.2.2
                  have dk : decide (k < mt) = true := decide_eq_true hlt
                  have dki : decide ((k : Int) < (mt : Int)) = true := decide_eq_true (by omega)
                  clear hzs hbd9 hcw hzb
                  go_upto_region 26 with fail
                  go_cut [15, 16] (fun v0 v1 wx => ∃ (DN : Nat) (R9 B9 N9 T9 F9 : Int) (E9 M9 : Nat) (fa : Option Addr) (fc : Nat) (va : Option Addr) (vc : Nat), v0 = .pointer (some ⟨DN, 0, none⟩) ∧ v1 = .int .i64 (errL s zs) ∧ w6.heap.size ≤ DN ∧ Box wx DN 30 #[.int .i64 c.cB, .int .i64 c.cBeam, .int .i64 c.cDepth, .int .i64 c.cWin, .int .i64 c.cQs, .int .i64 c.cQr, .int .i64 c.cBatch, .int .i64 c.cPass, .int .i64 c.cMsg, .int .i64 c.cSeqs, .bool X, .int .i64 KK, .int .i64 R9, .int .i64 B9, .int .i64 N9, .int .i64 T9, .int .i64 F9, .slice fa E9 fc, .slice va M9 vc] ∧ Hid (SnW w6.heap.size wx (learnS s zs) c X KK R9 B9 N9 T9 F9 E9 M9 fa fc va vc (200 * k)) ∧ Below w6.heap.size w6 wx)
                  case first =>
                    as_aux_lemma =>
                      refine wp_region_held_drew (S := fun w' => Below w6.heap.size w6 w') (by kernel_rfl) ((Below.refl w6.heap.size w6).drew) (fun hHeld => ?_)
                      refine held_take (i := 0) (d := 142) (v := ?v16) rfl rfl (by kernel_rfl) (by kernel_rfl) (by kernel_rfl) (fun _ _ _ h => h) (Or.inl ⟨by kernel_rfl, ?hy16⟩) hHeld ?rest16
                      case hy16 =>
                        refine yields_box 30 ?yx16 ?yo16 ?yh16 _ (fun wx hSw => xS6.below hSw xS6.lt) Tryd.underlying30 rfl (by kernel_rfl)
                        case yo16 => rfl
                        case yh16 => rfl
                      simp only [List.setIfInBounds_toArray, List.set_cons_zero, List.set_cons_succ]
                      refine held_take (i := 1) (d := 143) (v := ?v17) rfl rfl (by kernel_rfl) (by kernel_rfl) (by kernel_rfl) (fun _ _ _ h => h) (Or.inl ⟨by kernel_rfl, ?hy17⟩) hHeld ?rest17
                      case hy17 =>
                        refine yields_box 30 ?yx17 ?yo17 ?yh17 _ (fun wx hSw => xS6.below hSw xS6.lt) Tryd.underlying30 rfl (by kernel_rfl)
                        case yo17 => rfl
                        case yh17 => rfl
                      simp only [List.setIfInBounds_toArray, List.set_cons_zero, List.set_cons_succ]
                      refine held_take (i := 2) (d := 144) (v := ?v18) rfl rfl (by kernel_rfl) (by kernel_rfl) (by kernel_rfl) (fun _ _ _ h => h) (Or.inl ⟨by kernel_rfl, ?hy18⟩) hHeld ?rest18
                      case hy18 =>
                        intro wx hSw
                        clear hSw
                        go_simp
                        with_reducible rfl
                      simp only [List.setIfInBounds_toArray, List.set_cons_zero, List.set_cons_succ]
                      refine held_take (i := 3) (d := 145) (v := ?v19) rfl rfl (by kernel_rfl) (by kernel_rfl) (by kernel_rfl) (fun _ _ _ h => h) (Or.inl ⟨by kernel_rfl, ?hy19⟩) hHeld ?rest19
                      case hy19 =>
                        intro wx hSw
                        clear hSw
                        go_simp
                        with_reducible rfl
                      simp only [List.setIfInBounds_toArray, List.set_cons_zero, List.set_cons_succ]
                      refine held_take (i := 4) (d := 146) (v := ?v20) rfl rfl (by kernel_rfl) (by kernel_rfl) (by kernel_rfl) (fun _ _ _ h => h) (Or.inl ⟨by kernel_rfl, ?hy20⟩) hHeld ?rest20
                      case hy20 =>
                        intro wx hSw
                        clear hSw
                        go_simp
                        with_reducible rfl
                      simp only [List.setIfInBounds_toArray, List.set_cons_zero, List.set_cons_succ]
                      refine held_take (i := 5) (d := 147) (v := ?v21) rfl rfl (by kernel_rfl) (by kernel_rfl) (by kernel_rfl) (fun _ _ _ h => h) (Or.inl ⟨by kernel_rfl, ?hy21⟩) hHeld ?rest21
                      case hy21 =>
                        intro wx hSw
                        have q0 := (hSw.cell (p := ⟨bT, off + k * 4, none⟩) hbT6).trans k0.out
                        have q1 := (hSw.cell (p := ⟨bT, off + k * 4 + 1, none⟩) hbT6).trans k1.out
                        have q2 := (hSw.cell (p := ⟨bT, off + k * 4 + 2, none⟩) hbT6).trans k2.out
                        have q3 := (hSw.cell (p := ⟨bT, off + k * 4 + 3, none⟩) hbT6).trans k3.out
                        clear hSw
                        go_simp
                        with_reducible rfl
                      simp only [List.setIfInBounds_toArray, List.set_cons_zero, List.set_cons_succ]
                      refine wpAnyH_ready (rs := [6, 11]) (by kernel_rfl) (by simp) ?_
                      refine AllReadyH.cons rfl (fun K hK => ?_) ?_
                      · go_simp
                        go_wp2_with (go_at_call 10; refine (HBY.out w6.drew ((Below.refl w6.heap.size w6).drew)).mono ?_; rintro e w7 ⟨ya, yc, rfl, hy, hyc, b7⟩)
                        have b7d : Below w6.heap.size w6 w7 := ((Below.refl w6.heap.size w6).drew).trans (b7.mono ((Below.refl w6.heap.size w6).drew).size)
                        refine hK.out _ _ (b7d) (fun hHeld => ?_)
                        clear hK K
                        refine wpAnyH_ready (rs := [7, 11]) (by kernel_rfl) (by simp) ?_
                        refine AllReadyH.cons rfl (fun K hK => ?_) ?_
                        · go_simp
                          go_wp2_with (go_at_call 9; refine (HLE.out w7 (b7d) ya yc (by exact hy) hyc).mono ?_; rintro e w8 ⟨R9, B9, N9, T9, F9, E9, M9, fa, fc, va, vc, rfl, hS, b8⟩)
                          have b8d : Below w6.heap.size w6 w8 := (b7d).trans (b8.mono (b7d).size)
                          refine hK.out _ _ (b8d) (fun hHeld => ?_)
                          clear hK K
                          refine held_take (i := 8) (d := 141) (v := ?v22) rfl rfl (by kernel_rfl) (by kernel_rfl) (by kernel_rfl) (fun _ _ _ h => h) (Or.inl ⟨by kernel_rfl, ?hy22⟩) hHeld ?rest22
                          case hy22 =>
                            intro wx hSw
                            clear hSw
                            go_simp
                            with_reducible rfl
                          simp only [List.setIfInBounds_toArray, List.set_cons_zero, List.set_cons_succ]
                          refine held_take (i := 9) (d := 150) (v := ?v23) rfl rfl (by kernel_rfl) (by kernel_rfl) (by kernel_rfl) (fun _ _ _ h => h) (Or.inl ⟨by kernel_rfl, ?hy23⟩) hHeld ?rest23
                          case hy23 =>
                            intro wx hSw
                            clear hSw
                            go_simp
                            with_reducible rfl
                          simp only [List.setIfInBounds_toArray, List.set_cons_zero, List.set_cons_succ]
                          refine held_take (i := 10) (d := 151) (v := ?v24) rfl rfl (by kernel_rfl) (by kernel_rfl) (by kernel_rfl) (fun _ _ _ h => h) (Or.inl ⟨by kernel_rfl, ?hy24⟩) hHeld ?rest24
                          case hy24 =>
                            intro wx hSw
                            clear hSw
                            go_simp
                            with_reducible rfl
                          simp only [List.setIfInBounds_toArray, List.set_cons_zero, List.set_cons_succ]
                          refine wpAnyH_ready (rs := [11]) (by kernel_rfl) (by simp) ?_
                          refine AllReadyH.cons rfl (fun K hK => ?_) AllReadyH.nil
                          go_simp
                          have bA0 : Below w8.heap.size w8 (w8.alloc (.cells #[.int .i64 0, .int .i64 0, .int .i64 0, .int .i64 0, .int .i64 0, .int .i64 0, .int .i64 0, .int .i64 0, .int .i64 0, .int .i64 0, .bool false, .int .i64 0, .int .i64 0, .int .i64 0, .int .i64 0, .int .i64 0, .int .i64 0, .slice none 0 0, .slice none 0 0] 30)) := (Below.refl _ _).alloc (Nat.le_refl _) _
                          have xN := Box.new w8 30 #[.int .i64 0, .int .i64 0, .int .i64 0, .int .i64 0, .int .i64 0, .int .i64 0, .int .i64 0, .int .i64 0, .int .i64 0, .int .i64 0, .bool false, .int .i64 0, .int .i64 0, .int .i64 0, .int .i64 0, .int .i64 0, .int .i64 0, .slice none 0 0, .slice none 0 0]
                          have hDN : w6.heap.size ≤ w8.heap.size := b8d.size
                          have bA9 := b8d.trans (bA0.mono b8d.size)
                          have hn9 := xN.lt
                          generalize hwa : w8.alloc (.cells #[.int .i64 0, .int .i64 0, .int .i64 0, .int .i64 0, .int .i64 0, .int .i64 0, .int .i64 0, .int .i64 0, .int .i64 0, .int .i64 0, .bool false, .int .i64 0, .int .i64 0, .int .i64 0, .int .i64 0, .int .i64 0, .int .i64 0, .slice none 0 0, .slice none 0 0] 30) = w8a at *
                          clear hwa
                          refine hK.out _ _ (bA9) (fun hHeld => ?_)
                          clear hK K
                          refine wpAnyH_ready (rs := [12]) (by kernel_rfl) (by simp) ?_
                          refine AllReadyH.cons rfl (fun K hK => ?_) AllReadyH.nil
                          refine step_store_boxn xN rfl 30 _ _ rfl rfl rfl rfl (by kernel_rfl) (by simp [Value.oneCell']) ?_
                          simp only [Act.put, List.setIfInBounds_toArray]
                          refine hK.out _ _ (below_setRow bA9 hDN #[.int .i64 c.cB, .int .i64 c.cBeam, .int .i64 c.cDepth, .int .i64 c.cWin, .int .i64 c.cQs, .int .i64 c.cQr, .int .i64 c.cBatch, .int .i64 c.cPass, .int .i64 c.cMsg, .int .i64 c.cSeqs, .bool X, .int .i64 KK, .int .i64 R9, .int .i64 B9, .int .i64 N9, .int .i64 T9, .int .i64 F9, .slice fa E9 fc, .slice va M9 vc]) (fun hHeld => ?_)
                          clear hK K
                          refine wpAnyH_ready (rs := [13]) (by kernel_rfl) (by simp) ?_
                          refine AllReadyH.cons rfl (fun K hK => ?_) AllReadyH.nil
                          go_simp
                          refine hK.out _ _ hHeld (fun hHeld => ?_)
                          clear hK K
                          refine wpAnyH_done (by kernel_rfl) ?_ _
                          go_wp2_with fail
                          go_meet
                          exact ⟨w8.heap.size, R9, B9, N9, T9, F9, E9, M9, fa, fc, va, vc, rfl, rfl, hDN, xN.setRow #[.int .i64 c.cB, .int .i64 c.cBeam, .int .i64 c.cDepth, .int .i64 c.cWin, .int .i64 c.cQs, .int .i64 c.cQr, .int .i64 c.cBatch, .int .i64 c.cPass, .int .i64 c.cMsg, .int .i64 c.cSeqs, .bool X, .int .i64 KK, .int .i64 R9, .int .i64 B9, .int .i64 N9, .int .i64 T9, .int .i64 F9, .slice fa E9 fc, .slice va M9 vc], (hS.out.next (below_setRow bA0 (Nat.le_refl _) #[.int .i64 c.cB, .int .i64 c.cBeam, .int .i64 c.cDepth, .int .i64 c.cWin, .int .i64 c.cQs, .int .i64 c.cQr, .int .i64 c.cBatch, .int .i64 c.cPass, .int .i64 c.cMsg, .int .i64 c.cSeqs, .bool X, .int .i64 KK, .int .i64 R9, .int .i64 B9, .int .i64 N9, .int .i64 T9, .int .i64 F9, .slice fa E9 fc, .slice va M9 vc])).lower (base' := w6.heap.size) b7d.size, hHeld⟩
                        refine AllReadyH.cons rfl (fun K hK => ?_) ?_
                        · go_simp
                          have bA0 : Below w7.heap.size w7 (w7.alloc (.cells #[.int .i64 0, .int .i64 0, .int .i64 0, .int .i64 0, .int .i64 0, .int .i64 0, .int .i64 0, .int .i64 0, .int .i64 0, .int .i64 0, .bool false, .int .i64 0, .int .i64 0, .int .i64 0, .int .i64 0, .int .i64 0, .int .i64 0, .slice none 0 0, .slice none 0 0] 30)) := (Below.refl _ _).alloc (Nat.le_refl _) _
                          have xN := Box.new w7 30 #[.int .i64 0, .int .i64 0, .int .i64 0, .int .i64 0, .int .i64 0, .int .i64 0, .int .i64 0, .int .i64 0, .int .i64 0, .int .i64 0, .bool false, .int .i64 0, .int .i64 0, .int .i64 0, .int .i64 0, .int .i64 0, .int .i64 0, .slice none 0 0, .slice none 0 0]
                          have hDN : w6.heap.size ≤ w7.heap.size := b7d.size
                          have bA9 := b7d.trans (bA0.mono b7d.size)
                          have hn9 := xN.lt
                          replace hy := Holds.next hy bA0
                          generalize hwa : w7.alloc (.cells #[.int .i64 0, .int .i64 0, .int .i64 0, .int .i64 0, .int .i64 0, .int .i64 0, .int .i64 0, .int .i64 0, .int .i64 0, .int .i64 0, .bool false, .int .i64 0, .int .i64 0, .int .i64 0, .int .i64 0, .int .i64 0, .int .i64 0, .slice none 0 0, .slice none 0 0] 30) = w7a at *
                          clear hwa
                          refine hK.out _ _ (bA9) (fun hHeld => ?_)
                          clear hK K
                          refine wpAnyH_ready (rs := [7]) (by kernel_rfl) (by simp) ?_
                          refine AllReadyH.cons rfl (fun K hK => ?_) AllReadyH.nil
                          go_simp
                          go_wp2_with (go_at_call 9; refine (HLE.out w7a (bA9) ya yc (by exact hy) hyc).mono ?_; rintro e w8 ⟨R9, B9, N9, T9, F9, E9, M9, fa, fc, va, vc, rfl, hS, b8⟩)
                          have b8d : Below w6.heap.size w6 w8 := (bA9).trans (b8.mono (bA9).size)
                          replace xN := xN.next b8
                          refine hK.out _ _ (b8d) (fun hHeld => ?_)
                          clear hK K
                          refine held_take (i := 8) (d := 141) (v := ?v25) rfl rfl (by kernel_rfl) (by kernel_rfl) (by kernel_rfl) (fun _ _ _ h => h) (Or.inl ⟨by kernel_rfl, ?hy25⟩) hHeld ?rest25
                          case hy25 =>
                            intro wx hSw
                            clear hSw
                            go_simp
                            with_reducible rfl
                          simp only [List.setIfInBounds_toArray, List.set_cons_zero, List.set_cons_succ]
                          refine held_take (i := 9) (d := 150) (v := ?v26) rfl rfl (by kernel_rfl) (by kernel_rfl) (by kernel_rfl) (fun _ _ _ h => h) (Or.inl ⟨by kernel_rfl, ?hy26⟩) hHeld ?rest26
                          case hy26 =>
                            intro wx hSw
                            clear hSw
                            go_simp
                            with_reducible rfl
                          simp only [List.setIfInBounds_toArray, List.set_cons_zero, List.set_cons_succ]
                          refine held_take (i := 10) (d := 151) (v := ?v27) rfl rfl (by kernel_rfl) (by kernel_rfl) (by kernel_rfl) (fun _ _ _ h => h) (Or.inl ⟨by kernel_rfl, ?hy27⟩) hHeld ?rest27
                          case hy27 =>
                            intro wx hSw
                            clear hSw
                            go_simp
                            with_reducible rfl
                          simp only [List.setIfInBounds_toArray, List.set_cons_zero, List.set_cons_succ]
                          refine wpAnyH_ready (rs := [12]) (by kernel_rfl) (by simp) ?_
                          refine AllReadyH.cons rfl (fun K hK => ?_) AllReadyH.nil
                          refine step_store_boxn xN rfl 30 _ _ rfl rfl rfl rfl (by kernel_rfl) (by simp [Value.oneCell']) ?_
                          simp only [Act.put, List.setIfInBounds_toArray]
                          refine hK.out _ _ (below_setRow b8d hDN #[.int .i64 c.cB, .int .i64 c.cBeam, .int .i64 c.cDepth, .int .i64 c.cWin, .int .i64 c.cQs, .int .i64 c.cQr, .int .i64 c.cBatch, .int .i64 c.cPass, .int .i64 c.cMsg, .int .i64 c.cSeqs, .bool X, .int .i64 KK, .int .i64 R9, .int .i64 B9, .int .i64 N9, .int .i64 T9, .int .i64 F9, .slice fa E9 fc, .slice va M9 vc]) (fun hHeld => ?_)
                          clear hK K
                          refine wpAnyH_ready (rs := [13]) (by kernel_rfl) (by simp) ?_
                          refine AllReadyH.cons rfl (fun K hK => ?_) AllReadyH.nil
                          go_simp
                          refine hK.out _ _ hHeld (fun hHeld => ?_)
                          clear hK K
                          refine wpAnyH_done (by kernel_rfl) ?_ _
                          go_wp2_with fail
                          go_meet
                          exact ⟨w7.heap.size, R9, B9, N9, T9, F9, E9, M9, fa, fc, va, vc, rfl, rfl, hDN, xN.setRow #[.int .i64 c.cB, .int .i64 c.cBeam, .int .i64 c.cDepth, .int .i64 c.cWin, .int .i64 c.cQs, .int .i64 c.cQr, .int .i64 c.cBatch, .int .i64 c.cPass, .int .i64 c.cMsg, .int .i64 c.cSeqs, .bool X, .int .i64 KK, .int .i64 R9, .int .i64 B9, .int .i64 N9, .int .i64 T9, .int .i64 F9, .slice fa E9 fc, .slice va M9 vc], (hS.out.old (D := w7.heap.size) hn9 (fun g hg => setRow_other w8 w7.heap.size g #[.int .i64 c.cB, .int .i64 c.cBeam, .int .i64 c.cDepth, .int .i64 c.cWin, .int .i64 c.cQs, .int .i64 c.cQr, .int .i64 c.cBatch, .int .i64 c.cPass, .int .i64 c.cMsg, .int .i64 c.cSeqs, .bool X, .int .i64 KK, .int .i64 R9, .int .i64 B9, .int .i64 N9, .int .i64 T9, .int .i64 F9, .slice fa E9 fc, .slice va M9 vc] hg)).lower (base' := w6.heap.size) bA9.size, hHeld⟩
                        exact AllReadyH.nil
                      refine AllReadyH.cons rfl (fun K hK => ?_) ?_
                      · go_simp
                        have bA9 : Below w6.heap.size w6 (w6.alloc (.cells #[.int .i64 0, .int .i64 0, .int .i64 0, .int .i64 0, .int .i64 0, .int .i64 0, .int .i64 0, .int .i64 0, .int .i64 0, .int .i64 0, .bool false, .int .i64 0, .int .i64 0, .int .i64 0, .int .i64 0, .int .i64 0, .int .i64 0, .slice none 0 0, .slice none 0 0] 30)).drew := ((Below.refl w6.heap.size w6).alloc (Nat.le_refl _) _).drew
                        have xN : Box (w6.alloc (.cells #[.int .i64 0, .int .i64 0, .int .i64 0, .int .i64 0, .int .i64 0, .int .i64 0, .int .i64 0, .int .i64 0, .int .i64 0, .int .i64 0, .bool false, .int .i64 0, .int .i64 0, .int .i64 0, .int .i64 0, .int .i64 0, .int .i64 0, .slice none 0 0, .slice none 0 0] 30)).drew w6.heap.size 30 #[.int .i64 0, .int .i64 0, .int .i64 0, .int .i64 0, .int .i64 0, .int .i64 0, .int .i64 0, .int .i64 0, .int .i64 0, .int .i64 0, .bool false, .int .i64 0, .int .i64 0, .int .i64 0, .int .i64 0, .int .i64 0, .int .i64 0, .slice none 0 0, .slice none 0 0] := (Box.new w6 30 #[.int .i64 0, .int .i64 0, .int .i64 0, .int .i64 0, .int .i64 0, .int .i64 0, .int .i64 0, .int .i64 0, .int .i64 0, .int .i64 0, .bool false, .int .i64 0, .int .i64 0, .int .i64 0, .int .i64 0, .int .i64 0, .int .i64 0, .slice none 0 0, .slice none 0 0]).next (Below.refl _ _).drew
                        have hDN : w6.heap.size ≤ w6.heap.size := Nat.le_refl _
                        have hn9 := xN.lt
                        generalize (w6.alloc (.cells #[.int .i64 0, .int .i64 0, .int .i64 0, .int .i64 0, .int .i64 0, .int .i64 0, .int .i64 0, .int .i64 0, .int .i64 0, .int .i64 0, .bool false, .int .i64 0, .int .i64 0, .int .i64 0, .int .i64 0, .int .i64 0, .int .i64 0, .slice none 0 0, .slice none 0 0] 30)).drew = w6a at *
                        refine hK.out _ _ (bA9) (fun hHeld => ?_)
                        clear hK K
                        refine wpAnyH_ready (rs := [6]) (by kernel_rfl) (by simp) ?_
                        refine AllReadyH.cons rfl (fun K hK => ?_) AllReadyH.nil
                        go_simp
                        go_wp2_with (go_at_call 10; refine (HBY.out w6a (bA9)).mono ?_; rintro e w7 ⟨ya, yc, rfl, hy, hyc, b7⟩)
                        have b7d : Below w6.heap.size w6 w7 := (bA9).trans (b7.mono (bA9).size)
                        replace xN := xN.next b7
                        refine hK.out _ _ (b7d) (fun hHeld => ?_)
                        clear hK K
                        refine wpAnyH_ready (rs := [7]) (by kernel_rfl) (by simp) ?_
                        refine AllReadyH.cons rfl (fun K hK => ?_) AllReadyH.nil
                        go_simp
                        go_wp2_with (go_at_call 9; refine (HLE.out w7 (b7d) ya yc (by exact hy) hyc).mono ?_; rintro e w8 ⟨R9, B9, N9, T9, F9, E9, M9, fa, fc, va, vc, rfl, hS, b8⟩)
                        have b8d : Below w6.heap.size w6 w8 := (b7d).trans (b8.mono (b7d).size)
                        replace xN := xN.next b8
                        refine hK.out _ _ (b8d) (fun hHeld => ?_)
                        clear hK K
                        refine held_take (i := 8) (d := 141) (v := ?v28) rfl rfl (by kernel_rfl) (by kernel_rfl) (by kernel_rfl) (fun _ _ _ h => h) (Or.inl ⟨by kernel_rfl, ?hy28⟩) hHeld ?rest28
                        case hy28 =>
                          intro wx hSw
                          clear hSw
                          go_simp
                          with_reducible rfl
                        simp only [List.setIfInBounds_toArray, List.set_cons_zero, List.set_cons_succ]
                        refine held_take (i := 9) (d := 150) (v := ?v29) rfl rfl (by kernel_rfl) (by kernel_rfl) (by kernel_rfl) (fun _ _ _ h => h) (Or.inl ⟨by kernel_rfl, ?hy29⟩) hHeld ?rest29
                        case hy29 =>
                          intro wx hSw
                          clear hSw
                          go_simp
                          with_reducible rfl
                        simp only [List.setIfInBounds_toArray, List.set_cons_zero, List.set_cons_succ]
                        refine held_take (i := 10) (d := 151) (v := ?v30) rfl rfl (by kernel_rfl) (by kernel_rfl) (by kernel_rfl) (fun _ _ _ h => h) (Or.inl ⟨by kernel_rfl, ?hy30⟩) hHeld ?rest30
                        case hy30 =>
                          intro wx hSw
                          clear hSw
                          go_simp
                          with_reducible rfl
                        simp only [List.setIfInBounds_toArray, List.set_cons_zero, List.set_cons_succ]
                        refine wpAnyH_ready (rs := [12]) (by kernel_rfl) (by simp) ?_
                        refine AllReadyH.cons rfl (fun K hK => ?_) AllReadyH.nil
                        refine step_store_boxn xN rfl 30 _ _ rfl rfl rfl rfl (by kernel_rfl) (by simp [Value.oneCell']) ?_
                        simp only [Act.put, List.setIfInBounds_toArray]
                        refine hK.out _ _ (below_setRow b8d hDN #[.int .i64 c.cB, .int .i64 c.cBeam, .int .i64 c.cDepth, .int .i64 c.cWin, .int .i64 c.cQs, .int .i64 c.cQr, .int .i64 c.cBatch, .int .i64 c.cPass, .int .i64 c.cMsg, .int .i64 c.cSeqs, .bool X, .int .i64 KK, .int .i64 R9, .int .i64 B9, .int .i64 N9, .int .i64 T9, .int .i64 F9, .slice fa E9 fc, .slice va M9 vc]) (fun hHeld => ?_)
                        clear hK K
                        refine wpAnyH_ready (rs := [13]) (by kernel_rfl) (by simp) ?_
                        refine AllReadyH.cons rfl (fun K hK => ?_) AllReadyH.nil
                        go_simp
                        refine hK.out _ _ hHeld (fun hHeld => ?_)
                        clear hK K
                        refine wpAnyH_done (by kernel_rfl) ?_ _
                        go_wp2_with fail
                        go_meet
                        exact ⟨w6.heap.size, R9, B9, N9, T9, F9, E9, M9, fa, fc, va, vc, rfl, rfl, hDN, xN.setRow #[.int .i64 c.cB, .int .i64 c.cBeam, .int .i64 c.cDepth, .int .i64 c.cWin, .int .i64 c.cQs, .int .i64 c.cQr, .int .i64 c.cBatch, .int .i64 c.cPass, .int .i64 c.cMsg, .int .i64 c.cSeqs, .bool X, .int .i64 KK, .int .i64 R9, .int .i64 B9, .int .i64 N9, .int .i64 T9, .int .i64 F9, .slice fa E9 fc, .slice va M9 vc], (hS.out.old (D := w6.heap.size) (Nat.lt_of_lt_of_le hn9 b7.size) (fun g hg => setRow_other w8 w6.heap.size g #[.int .i64 c.cB, .int .i64 c.cBeam, .int .i64 c.cDepth, .int .i64 c.cWin, .int .i64 c.cQs, .int .i64 c.cQr, .int .i64 c.cBatch, .int .i64 c.cPass, .int .i64 c.cMsg, .int .i64 c.cSeqs, .bool X, .int .i64 KK, .int .i64 R9, .int .i64 B9, .int .i64 N9, .int .i64 T9, .int .i64 F9, .slice fa E9 fc, .slice va M9 vc] hg)).lower (base' := w6.heap.size) b7d.size, hHeld⟩
                      exact AllReadyH.nil
                  case rest =>
                    as_aux_lemma =>
                      obtain ⟨DN, R9, B9, N9, T9, F9, E9, M9, fa, fc, va, vc, rfl, rfl, hDN, xN, hS, b9⟩ := hcut
                      generalize hwc : wc = w7 at *
                      replace xS6 := xS6.next b9
                      replace xT := xT.next b9
                      have b57 := bA.trans (b9.mono bA.size)
                      have HIS : Hid _ := HSW6.out.is
                      clear hwc HBY HLE k0 k1 k2 k3 hbT6 b9 HSW6
                      by_cases he : errL s zs = 0
                      · rw [he]
                        clear he
                        go_upto_region 29 with fail
                        go_wp2_with (first | (refine wpList_load_box xN rfl 30 _ rfl rfl _ Tryd.underlying30 rfl (by kernel_rfl) ?_) | (refine wpList_store_box xT rfl 30 _ _ rfl rfl rfl rfl (by kernel_rfl) (by simp [Value.oneCell']) ?_))
                        go_meet
                        exact ⟨learnS s zs, X, _, R9, B9, N9, T9, F9, E9, M9, fa, fc, va, vc, keeps_learn s zs, ((hS.out.old (D := w5.heap.size) hsz (fun g hg => setRow_other w7 w5.heap.size g #[.int .i64 c.cB, .int .i64 c.cBeam, .int .i64 c.cDepth, .int .i64 c.cWin, .int .i64 c.cQs, .int .i64 c.cQr, .int .i64 c.cBatch, .int .i64 c.cPass, .int .i64 c.cMsg, .int .i64 c.cSeqs, .bool X, .int .i64 KK, .int .i64 R9, .int .i64 B9, .int .i64 N9, .int .i64 T9, .int .i64 F9, .slice fa E9 fc, .slice va M9 vc] hg)).lower (base' := w5.heap.size + 1) hsz).more (by omega), xT.setRow #[.int .i64 c.cB, .int .i64 c.cBeam, .int .i64 c.cDepth, .int .i64 c.cWin, .int .i64 c.cQs, .int .i64 c.cQr, .int .i64 c.cBatch, .int .i64 c.cPass, .int .i64 c.cMsg, .int .i64 c.cSeqs, .bool X, .int .i64 KK, .int .i64 R9, .int .i64 B9, .int .i64 N9, .int .i64 T9, .int .i64 F9, .slice fa E9 fc, .slice va M9 vc], below_setRow b57 (Nat.le_refl _) #[.int .i64 c.cB, .int .i64 c.cBeam, .int .i64 c.cDepth, .int .i64 c.cWin, .int .i64 c.cQs, .int .i64 c.cQr, .int .i64 c.cBatch, .int .i64 c.cPass, .int .i64 c.cMsg, .int .i64 c.cSeqs, .bool X, .int .i64 KK, .int .i64 R9, .int .i64 B9, .int .i64 N9, .int .i64 T9, .int .i64 F9, .slice fa E9 fc, .slice va M9 vc]⟩
                      · obtain ⟨f1, f2, f3⟩ := learn_err he
                        have de : (errL s zs != 0) = true := by rw [bne_iff_ne]; exact he
                        obtain rfl : F9 = F := by rw [← hS.out.is.eF, f1]; exact HIS.out.eF
                        obtain rfl : E9 = E := by rw [← hS.out.is.lE, f2]; exact HIS.out.lE
                        obtain rfl : M9 = M := by rw [← hS.out.is.lW, f3]; exact HIS.out.lW
                        have cn16 := xN.cell 16 _ rfl
                        have cn17 := xN.cell 17 _ rfl
                        have cn18 := xN.cell 18 _ rfl
                        have lN := xN.lt
                        have cs16 := xS6.cell 16 _ rfl
                        have cs17 := xS6.cell 17 _ rfl
                        have cs18 := xS6.cell 18 _ rfl
                        have lS := xS6.lt
                        clear he f1 f2 f3
                        go_upto_region 29 with fail
                        go_wp2_with (first | (refine wpList_load_box xN rfl 30 _ rfl rfl _ Tryd.underlying30 rfl (by kernel_rfl) ?_) | (refine wpList_store_box xT rfl 30 _ _ rfl rfl rfl rfl (by kernel_rfl) (by simp [Value.oneCell']) ?_))
                        go_meet
                        exact ⟨learnS s zs, X, _, R9, B9, N9, T9, F9, E9, M9, fa, fc, va, vc, keeps_learn s zs, ((hS.out.old (D := w5.heap.size) hsz (fun g hg => setRow_other w7 w5.heap.size g #[.int .i64 c.cB, .int .i64 c.cBeam, .int .i64 c.cDepth, .int .i64 c.cWin, .int .i64 c.cQs, .int .i64 c.cQr, .int .i64 c.cBatch, .int .i64 c.cPass, .int .i64 c.cMsg, .int .i64 c.cSeqs, .bool X, .int .i64 KK, .int .i64 R9, .int .i64 B9, .int .i64 N9, .int .i64 T9, .int .i64 F9, .slice fa E9 fc, .slice va M9 vc] hg)).lower (base' := w5.heap.size + 1) hsz).more (by omega), xT.setRow #[.int .i64 c.cB, .int .i64 c.cBeam, .int .i64 c.cDepth, .int .i64 c.cWin, .int .i64 c.cQs, .int .i64 c.cQr, .int .i64 c.cBatch, .int .i64 c.cPass, .int .i64 c.cMsg, .int .i64 c.cSeqs, .bool X, .int .i64 KK, .int .i64 R9, .int .i64 B9, .int .i64 N9, .int .i64 T9, .int .i64 F9, .slice fa E9 fc, .slice va M9 vc], below_setRow b57 (Nat.le_refl _) #[.int .i64 c.cB, .int .i64 c.cBeam, .int .i64 c.cDepth, .int .i64 c.cWin, .int .i64 c.cQs, .int .i64 c.cQr, .int .i64 c.cBatch, .int .i64 c.cPass, .int .i64 c.cMsg, .int .i64 c.cSeqs, .bool X, .int .i64 KK, .int .i64 R9, .int .i64 B9, .int .i64 N9, .int .i64 T9, .int .i64 F9, .slice fa E9 fc, .slice va M9 vc]⟩
              have d4 : (v6 == 4) = false := by rw [beq_eq_false_iff_ne]; exact h4
              clear h4
              by_cases h5 : v6 = 5
              · as_aux_lemma =>
                  have d5 : (v6 == 5) = true := by rw [beq_iff_eq]; exact h5
                  clear h5
                  go_wp2_with (first | (refine wpList_load_box xS6 rfl 30 _ rfl rfl _ Tryd.underlying30 rfl (by kernel_rfl) ?_))
                  refine (sendClose_law HSW6.out hm9).mono ?_
                  rintro e w7 ⟨R9, B9, N9, T9, F9, E9, M9, fa, fc, va, vc, rfl, hS, b9⟩
                  replace xT := xT.next b9
                  have b57 := bA.trans (b9.mono bA.size)
                  clear HSW6 xS6 b9
                  go_wp2_with (first | (refine wpList_store_box xT rfl 30 _ _ rfl rfl rfl rfl (by kernel_rfl) (by simp [Value.oneCell']) ?_))
                  go_meet
                  exact ⟨closeS s, true, _, R9, B9, N9, T9, F9, E9, M9, fa, fc, va, vc, keeps_close s, ((hS.out.old (D := w5.heap.size) hsz (fun g hg => setRow_other w7 w5.heap.size g #[.int .i64 c.cB, .int .i64 c.cBeam, .int .i64 c.cDepth, .int .i64 c.cWin, .int .i64 c.cQs, .int .i64 c.cQr, .int .i64 c.cBatch, .int .i64 c.cPass, .int .i64 c.cMsg, .int .i64 c.cSeqs, .bool true, .int .i64 KK, .int .i64 R9, .int .i64 B9, .int .i64 N9, .int .i64 T9, .int .i64 F9, .slice fa E9 fc, .slice va M9 vc] hg)).lower (base' := w5.heap.size + 1) hsz).more (by omega), xT.setRow #[.int .i64 c.cB, .int .i64 c.cBeam, .int .i64 c.cDepth, .int .i64 c.cWin, .int .i64 c.cQs, .int .i64 c.cQr, .int .i64 c.cBatch, .int .i64 c.cPass, .int .i64 c.cMsg, .int .i64 c.cSeqs, .bool true, .int .i64 KK, .int .i64 R9, .int .i64 B9, .int .i64 N9, .int .i64 T9, .int .i64 F9, .slice fa E9 fc, .slice va M9 vc], below_setRow b57 (Nat.le_refl _) #[.int .i64 c.cB, .int .i64 c.cBeam, .int .i64 c.cDepth, .int .i64 c.cWin, .int .i64 c.cQs, .int .i64 c.cQr, .int .i64 c.cBatch, .int .i64 c.cPass, .int .i64 c.cMsg, .int .i64 c.cSeqs, .bool true, .int .i64 KK, .int .i64 R9, .int .i64 B9, .int .i64 N9, .int .i64 T9, .int .i64 F9, .slice fa E9 fc, .slice va M9 vc]⟩
              · as_aux_lemma =>
                  have d5 : (v6 == 5) = false := by rw [beq_eq_false_iff_ne]; exact h5
                  clear h5
                  have HSD := hid_imp fun (wx : World) (bx : Below w6.heap.size w6 wx) => sendSend_law (w := wx) (HSW6.out.next bx) hm9 xa xn xc xs HXX.out.2.1 (by rw [← HXX.out.2.1]; exact HXX.out.2.2.1) HXX.out.2.2.2.1 (by rw [← HXX.out.2.1]; exact ((HXX.out.1.below bb6).mono bb6.size).below bx |>.mono bx.size)
                  have k1 : Hid (w5.cell? ⟨bT, off + k * 4 + 1, none⟩ = some (.slice xa xn xc)) := HG.out.2.1
                  have lS5 := xS.lt
                  have dk : decide (k < mt) = true := decide_eq_true hlt
                  have dki : decide ((k : Int) < (mt : Int)) = true := decide_eq_true (by omega)
                  go_upto_region 12 with fail
                  refine wp_region_held_drew (S := fun w' => Below w5.heap.size w5 w') (by kernel_rfl) (bA.drew) (fun hHeld => ?_)
                  refine held_take (i := 0) (d := 48) (v := ?v31) rfl rfl (by kernel_rfl) (by kernel_rfl) (by kernel_rfl) (fun _ _ _ h => h) (Or.inl ⟨by kernel_rfl, ?hy31⟩) hHeld ?rest31
                  case hy31 =>
                    refine yields_box 30 ?yx31 ?yo31 ?yh31 _ (fun wx hSw => xS.below hSw lS5) Tryd.underlying30 rfl (by kernel_rfl)
                    case yo31 => rfl
                    case yh31 => rfl
                  simp only [List.setIfInBounds_toArray, List.set_cons_zero, List.set_cons_succ]
                  refine held_take (i := 1) (d := 49) (v := ?v32) rfl rfl (by kernel_rfl) (by kernel_rfl) (by kernel_rfl) (fun _ _ _ h => h) (Or.inl ⟨by kernel_rfl, ?hy32⟩) hHeld ?rest32
                  case hy32 =>
                    intro wx hSw
                    clear hSw
                    go_simp
                    with_reducible rfl
                  simp only [List.setIfInBounds_toArray, List.set_cons_zero, List.set_cons_succ]
                  refine held_take (i := 2) (d := 50) (v := ?v33) rfl rfl (by kernel_rfl) (by kernel_rfl) (by kernel_rfl) (fun _ _ _ h => h) (Or.inl ⟨by kernel_rfl, ?hy33⟩) hHeld ?rest33
                  case hy33 =>
                    intro wx hSw
                    clear hSw
                    go_simp
                    with_reducible rfl
                  simp only [List.setIfInBounds_toArray, List.set_cons_zero, List.set_cons_succ]
                  refine held_take (i := 3) (d := 51) (v := ?v34) rfl rfl (by kernel_rfl) (by kernel_rfl) (by kernel_rfl) (fun _ _ _ h => h) (Or.inl ⟨by kernel_rfl, ?hy34⟩) hHeld ?rest34
                  case hy34 =>
                    intro wx hSw
                    clear hSw
                    go_simp
                    with_reducible rfl
                  simp only [List.setIfInBounds_toArray, List.set_cons_zero, List.set_cons_succ]
                  refine held_take (i := 4) (d := 52) (v := ?v35) rfl rfl (by kernel_rfl) (by kernel_rfl) (by kernel_rfl) (fun _ _ _ h => h) (Or.inl ⟨by kernel_rfl, ?hy35⟩) hHeld ?rest35
                  case hy35 =>
                    intro wx hSw
                    clear hSw
                    go_simp
                    with_reducible rfl
                  simp only [List.setIfInBounds_toArray, List.set_cons_zero, List.set_cons_succ]
                  refine held_take (i := 5) (d := 53) (v := ?v36) rfl rfl (by kernel_rfl) (by kernel_rfl) (by kernel_rfl) (fun _ _ _ h => h) (Or.inl ⟨by kernel_rfl, ?hy36⟩) hHeld ?rest36
                  case hy36 =>
                    intro wx hSw
                    have q0 := (hSw.cell (p := ⟨bT, off + k * 4 + 1, none⟩) hbT5).trans k1.out
                    clear hSw
                    go_simp
                    with_reducible rfl
                  simp only [List.setIfInBounds_toArray, List.set_cons_zero, List.set_cons_succ]
                  refine wpAnyH_ready (rs := [6]) (by kernel_rfl) (by simp) ?_
                  refine AllReadyH.cons rfl (fun K hK => ?_) AllReadyH.nil
                  go_simp
                  go_wp2_with (go_at_call 12; refine (HSD.out w6.drew (Below.refl w6.heap.size w6).drew).mono ?_; rintro e w7 ⟨R9, B9, N9, T9, F9, E9, M9, fa, fc, va, vc, rfl, hS, b9⟩)
                  have b96 : Below w6.heap.size w6 w7 := (Below.refl w6.heap.size w6).drew.trans b9
                  have b57 : Below w5.heap.size w5 w7 := bA.trans (b96.mono bA.size)
                  have xT7 := xT.next b96
                  refine hK.out _ _ (b57) (fun hHeld => ?_)
                  clear hK K
                  refine held_take (i := 7) (d := 47) (v := ?v37) rfl rfl (by kernel_rfl) (by kernel_rfl) (by kernel_rfl) (fun _ _ _ h => h) (Or.inl ⟨by kernel_rfl, ?hy37⟩) hHeld ?rest37
                  case hy37 =>
                    intro wx hSw
                    clear hSw
                    go_simp
                    with_reducible rfl
                  simp only [List.setIfInBounds_toArray, List.set_cons_zero, List.set_cons_succ]
                  refine held_take (i := 8) (d := 55) (v := ?v38) rfl rfl (by kernel_rfl) (by kernel_rfl) (by kernel_rfl) (fun _ _ _ h => h) (Or.inl ⟨by kernel_rfl, ?hy38⟩) hHeld ?rest38
                  case hy38 =>
                    intro wx hSw
                    clear hSw
                    go_simp
                    with_reducible rfl
                  simp only [List.setIfInBounds_toArray, List.set_cons_zero, List.set_cons_succ]
                  refine held_take (i := 9) (d := 56) (v := ?v39) rfl rfl (by kernel_rfl) (by kernel_rfl) (by kernel_rfl) (fun _ _ _ h => h) (Or.inl ⟨by kernel_rfl, ?hy39⟩) hHeld ?rest39
                  case hy39 =>
                    intro wx hSw
                    clear hSw
                    go_simp
                    with_reducible rfl
                  simp only [List.setIfInBounds_toArray, List.set_cons_zero, List.set_cons_succ]
                  refine wpAnyH_ready (rs := [10]) (by kernel_rfl) (by simp) ?_
                  refine AllReadyH.cons rfl (fun K hK => ?_) AllReadyH.nil
                  refine step_store_boxn xT7 rfl 30 _ _ rfl rfl rfl rfl (by kernel_rfl) (by simp [Value.oneCell']) ?_
                  simp only [Act.put, List.setIfInBounds_toArray]
                  refine hK.out _ _ (below_setRow b57 (Nat.le_refl _) #[.int .i64 c.cB, .int .i64 c.cBeam, .int .i64 c.cDepth, .int .i64 c.cWin, .int .i64 c.cQs, .int .i64 c.cQr, .int .i64 c.cBatch, .int .i64 c.cPass, .int .i64 c.cMsg, .int .i64 c.cSeqs, .bool X, .int .i64 KK, .int .i64 R9, .int .i64 B9, .int .i64 N9, .int .i64 T9, .int .i64 F9, .slice fa E9 fc, .slice va M9 vc]) (fun hHeld => ?_)
                  clear hK K
                  refine wpAnyH_done (by kernel_rfl) ?_ _
                  go_wp2_with fail
                  go_meet
                  exact ⟨sendS s xs, X, _, R9, B9, N9, T9, F9, E9, M9, fa, fc, va, vc, keeps_send s xs, ((hS.out.old (D := w5.heap.size) hsz (fun g hg => setRow_other w7 w5.heap.size g #[.int .i64 c.cB, .int .i64 c.cBeam, .int .i64 c.cDepth, .int .i64 c.cWin, .int .i64 c.cQs, .int .i64 c.cQr, .int .i64 c.cBatch, .int .i64 c.cPass, .int .i64 c.cMsg, .int .i64 c.cSeqs, .bool X, .int .i64 KK, .int .i64 R9, .int .i64 B9, .int .i64 N9, .int .i64 T9, .int .i64 F9, .slice fa E9 fc, .slice va M9 vc] hg)).lower (base' := w5.heap.size + 1) hsz), xT7.setRow #[.int .i64 c.cB, .int .i64 c.cBeam, .int .i64 c.cDepth, .int .i64 c.cWin, .int .i64 c.cQs, .int .i64 c.cQr, .int .i64 c.cBatch, .int .i64 c.cPass, .int .i64 c.cMsg, .int .i64 c.cSeqs, .bool X, .int .i64 KK, .int .i64 R9, .int .i64 B9, .int .i64 N9, .int .i64 T9, .int .i64 F9, .slice fa E9 fc, .slice va M9 vc], hHeld⟩
            case rest =>
              as_aux_lemma =>
                obtain ⟨t, X1, K1, R1, B1, N1, T1, F1, E1, M1, ia, ic, ja, jc, HK, HST, xT, b9⟩ := hcut
                generalize hwc : wc = w7 at *
                have hSW := HSW.out.next b9
                replace xS := xS.next b9
                replace xC := xC.next b9
                replace bb := bb.trans (b9.mono bb.size)
                clear hwc b9 HSW bA hbT5 HG HXX
                have HSW : Hid _ := hSW
                clear hSW
                go_step
                refine learns_tail hk4 hDT hm9 HDC HK HSW HST xS xT xC bb (fun _ _ _ _ _ h => h) (fun _ _ _ _ _ _ _ _ _ _ _ _ _ _ _ _ _ _ _ _ _ _ _ _ _ _ _ _ _ _ _ _ _ _ _ _ _ _ _ _ _ _ _ _ _ _ _ _ _ _ _ _ _ _ _ _ _ _ _ _ _ _ _ _ _ _ _ _ _ _ _ _ _ _ _ _ _ _ _ _ _ _ _ _ _ _ _ _ _ _ _ _ _ _ _ _ _ _ _ _ _ _ _ _ _ w' h => ?_)
                obtain ⟨HSN, xSn, xCn, bbn⟩ := h
                clear HSW HST xS xT xC bb HK
                go_wp2_with fail
                exact ⟨⟨k + 1, hlt, h40, by go_num, t, X1, K1, R1, B1, N1, T1, F1, E1, M1, ia, ic, ja, jc, HSN, xSn, xCn, bbn⟩, by simp [intOf]; omega⟩
        · have d40 : decide ((k : Int) < 40) = false := decide_eq_false (by omega)
          clear HSW xS xC
          go_wp2_with fail
          refine (sendWakes_any _ (HF0.out.next bb)).mono ?_
          rintro e w99 ⟨rfl, b99⟩
          go_wp2
          go_ret
          exact ⟨rfl, bb.trans (b99.mono bb.size)⟩
      · have dk : decide (k < mt) = false := decide_eq_false hlt
        have dki : decide ((k : Int) < (mt : Int)) = false := decide_eq_false (by omega)
        clear HSW xS xC
        go_wp2_with fail
        refine (sendWakes_any _ (HF0.out.next bb)).mono ?_
        rintro e w99 ⟨rfl, b99⟩
        go_wp2
        go_ret
        exact ⟨rfl, bb.trans (b99.mono bb.size)⟩

end Go.Proofs.YtmjidhnlofpliaaDoor
