/-
  What join.Take and the page's Join answer, by name; a block in a list, with what it holds.
-/
import Derived.Test.YtmjidhnlofpliabM01
import Derived.Test.YtmjidhnlofpliabM06
import Derived.Test.YtmjidhnlofpliabM07
import Derived.Test.YtmjidhnlofpliabM11
import Derived.Test.YtmjidhnlofpliabM13
import Derived.Test.YtmjidhnlofpliabM15
import Derived.Test.YtmjidhnlofpliabM18
import Derived.Test.YtmjidhnlofpliabM22
import Derived.Test.YtmjidhnlofpliabM25
import Derived.Test.YtmjidhnlofpliabM26
import Derived.Test.YtmjidhnlofpliabM28
import Derived.Test.YtmjidhnlofpliabM29
import Derived.Test.YtmjidhnlofpliabM30
import Derived.Test.YtmjidhnlofpliabM31
import Derived.Test.YtmjidhnlofpliabM32
import Derived.Test.YtmjidhnlofpliabM33
import Derived.ChangeAlike
import Derived.Deep.Cut
import Derived.Deep.CutRange
import Derived.Deep.DeepCutAuto
import Derived.Lib.SlBytesConst
import Derived.Lib.SmallJoins
import Derived.OneCell
namespace Go.Proofs.Ytmjidhnlofpliab
open Go.RowKit

/-- A block that lies in a list, and what its text holds. -/
def AtBlk (W : World) (gb off k : Nat) (s m : Int) (pa : Option Addr) (x pc : Nat) (xs : List Int) : Prop :=
  (gb < W.heap.size ∧ W.cell? ⟨gb, off + k * 3, none⟩ = some (.int .i64 s) ∧ W.cell? ⟨gb, off + k * 3 + 1, none⟩ = some (.int .i64 m) ∧ W.cell? ⟨gb, off + k * 3 + 2, none⟩ = some (.slice pa x pc)) ∧ Holds .u8 W.heap.size W (.slice pa x pc) xs
theorem AtBlk.next {W W' : World} {gb off k : Nat} {s m : Int} {pa : Option Addr} {x pc : Nat} {xs : List Int} (h : AtBlk W gb off k s m pa x pc xs) (hb : Below W.heap.size W W') : AtBlk W' gb off k s m pa x pc xs :=
  ⟨⟨Nat.lt_of_lt_of_le h.1.1 hb.size, (hb.cell (p := ⟨gb, off + k * 3, none⟩) h.1.1).trans h.1.2.1, (hb.cell (p := ⟨gb, off + k * 3 + 1, none⟩) h.1.1).trans h.1.2.2.1, (hb.cell (p := ⟨gb, off + k * 3 + 2, none⟩) h.1.1).trans h.1.2.2.2⟩, h.2.next hb⟩
theorem AtBlk.held {W : World} {gb off k : Nat} {s m : Int} {pa : Option Addr} {x pc : Nat} {xs : List Int} (h : AtBlk W gb off k s m pa x pc xs) : Holds .u8 W.heap.size W (.slice pa x pc) xs := h.2
theorem AtBlk.lt {W : World} {gb off k : Nat} {s m : Int} {pa : Option Addr} {x pc : Nat} {xs : List Int} (h : AtBlk W gb off k s m pa x pc xs) : gb < W.heap.size := h.1.1
theorem keepJoin_eq (o : Bool) (v v' : Value) (xs : List Int) (w : World) (hy : xs.length ≤ 4611686018427387904) (ha : Holds .u8 w.heap.size w v xs) (hb : Holds .u8 w.heap.size w v' xs) : Calls Try.prog 16 #[.agg #[.bool o, v], .agg #[.bool o, v']] w fun e w' => e = .returned (.bool true) ∧ Below w.heap.size w w' := by
  have h := keepJoin_any o o v v' xs xs w _ _ (Nat.le_refl _) (Nat.le_refl _) hy ha hb
  rw [decide_eq_true ⟨rfl, rfl⟩] at h
  exact h
end Go.Proofs.Ytmjidhnlofpliab

/-
  The laws' own guard over hear (wakes) answers true; what lay lies as it lay. (Written by tpl_hearwakes.py.)
-/
namespace Go.Proofs.Ytmjidhnlofpliab
open Go.RowKit

end Go.Proofs.Ytmjidhnlofpliab

/-
  Stores that leave a row as it lies; a block that is heard, compared with itself.
-/
namespace Go.Proofs.Ytmjidhnlofpliab
open Go.RowKit

theorem keepHear_same (h : Hr) (a b a' b' : Option Addr) (cap bc cap' bc' : Nat) (hl : h.hL.length ≤ 4611686018427387904) (hb : h.hB.length ≤ 4611686018427387904) (w : World) (H : HearAt w h a cap b bc) (H' : HearAt w h a' cap' b' bc') : Calls Try.prog 18 #[.agg #[.int .i64 h.hS, .int .i64 h.hR, .int .i64 h.hN, .int .i64 h.hP, .slice a h.hL.length cap, .bool h.hD, .slice b h.hB.length bc], .agg #[.int .i64 h.hS, .int .i64 h.hR, .int .i64 h.hN, .int .i64 h.hP, .slice a' h.hL.length cap', .bool h.hD, .slice b' h.hB.length bc']] w fun e w' => e = .returned (.bool true) ∧ Below w.heap.size w w' := by
  have := keepHear_any h.hS h.hR h.hN h.hP h.hS h.hR h.hN h.hP h.hD h.hD _ _ _ _ h.hL h.hL h.hB h.hB hl hb w H.syms H.byts H'.syms H'.byts
  rw [decide_eq_true ⟨rfl, rfl, rfl, ⟨rfl, rfl, rfl⟩, rfl⟩] at this
  exact this

end Go.Proofs.Ytmjidhnlofpliab

/-
  What volutekeep.Receiver answers, for what is the same. (Written by tpl_keeprecv.py.)
-/
namespace Go.Proofs.Ytmjidhnlofpliab
open Go.RowKit

set_option maxRecDepth 100000 in
set_option maxHeartbeats 8000000 in
theorem keepReceiver_same {r : Rc} {c : Cfg} {K B N T : Int} {M : Nat} {O : Bool} {J Q : Nat} (hs : RcIs r c K B N T M O J Q) (hM : M ≤ 1000000) (hJ : J ≤ 1000000) (hQ : Q ≤ 1000000) (hm : ∀ h ∈ r.rH, h.hL.length ≤ 4611686018427387904 ∧ h.hB.length ≤ 4611686018427387904) (hq : ∀ m ∈ r.rQ, m.length ≤ 4611686018427387904) (ha : Option Addr) (hc : Nat) (ja : Option Addr) (jc : Nat) (qa : Option Addr) (qc : Nat) (fa : Option Addr) (fc : Nat) (ga : Option Addr) (gc : Nat) (va : Option Addr) (vc : Nat) (w : World) (hr : RcAt w r ha M hc ja J jc qa Q qc) (hr2 : RcAt w r fa M fc ga J gc va Q vc) :
    Calls Try.prog 7 #[.agg #[.int .i64 c.cB, .int .i64 c.cBeam, .int .i64 c.cDepth, .int .i64 c.cWin, .int .i64 c.cQs, .int .i64 c.cQr, .int .i64 c.cBatch, .int .i64 c.cPass, .int .i64 c.cMsg, .int .i64 c.cSeqs, .int .i64 K, .int .i64 B, .int .i64 N, .int .i64 T, .slice ha M hc, .bool O, .slice ja J jc, .slice qa Q qc], .agg #[.int .i64 c.cB, .int .i64 c.cBeam, .int .i64 c.cDepth, .int .i64 c.cWin, .int .i64 c.cQs, .int .i64 c.cQr, .int .i64 c.cBatch, .int .i64 c.cPass, .int .i64 c.cMsg, .int .i64 c.cSeqs, .int .i64 K, .int .i64 B, .int .i64 N, .int .i64 T, .slice fa M fc, .bool O, .slice ga J gc, .slice va Q vc]] w fun e w' => e = .returned (.bool true) ∧ Below w.heap.size w w' := by
  have bb : Below w.heap.size w ((w.alloc (.cells #[.int .i64 c.cB, .int .i64 c.cBeam, .int .i64 c.cDepth, .int .i64 c.cWin, .int .i64 c.cQs, .int .i64 c.cQr, .int .i64 c.cBatch, .int .i64 c.cPass, .int .i64 c.cMsg, .int .i64 c.cSeqs, .int .i64 K, .int .i64 B, .int .i64 N, .int .i64 T, .slice ha M hc, .bool O, .slice ja J jc, .slice qa Q qc] 31)).alloc (.cells #[.int .i64 c.cB, .int .i64 c.cBeam, .int .i64 c.cDepth, .int .i64 c.cWin, .int .i64 c.cQs, .int .i64 c.cQr, .int .i64 c.cBatch, .int .i64 c.cPass, .int .i64 c.cMsg, .int .i64 c.cSeqs, .int .i64 K, .int .i64 B, .int .i64 N, .int .i64 T, .slice fa M fc, .bool O, .slice ga J gc, .slice va Q vc] 31)) := ((Below.refl _ _).alloc (Nat.le_refl _) _).alloc (by simp) _
  have x2 : Box ((w.alloc (.cells #[.int .i64 c.cB, .int .i64 c.cBeam, .int .i64 c.cDepth, .int .i64 c.cWin, .int .i64 c.cQs, .int .i64 c.cQr, .int .i64 c.cBatch, .int .i64 c.cPass, .int .i64 c.cMsg, .int .i64 c.cSeqs, .int .i64 K, .int .i64 B, .int .i64 N, .int .i64 T, .slice ha M hc, .bool O, .slice ja J jc, .slice qa Q qc] 31)).alloc (.cells #[.int .i64 c.cB, .int .i64 c.cBeam, .int .i64 c.cDepth, .int .i64 c.cWin, .int .i64 c.cQs, .int .i64 c.cQr, .int .i64 c.cBatch, .int .i64 c.cPass, .int .i64 c.cMsg, .int .i64 c.cSeqs, .int .i64 K, .int .i64 B, .int .i64 N, .int .i64 T, .slice fa M fc, .bool O, .slice ga J gc, .slice va Q vc] 31)) w.heap.size 31 #[.int .i64 c.cB, .int .i64 c.cBeam, .int .i64 c.cDepth, .int .i64 c.cWin, .int .i64 c.cQs, .int .i64 c.cQr, .int .i64 c.cBatch, .int .i64 c.cPass, .int .i64 c.cMsg, .int .i64 c.cSeqs, .int .i64 K, .int .i64 B, .int .i64 N, .int .i64 T, .slice ha M hc, .bool O, .slice ja J jc, .slice qa Q qc] := (Box.new w 31 #[.int .i64 c.cB, .int .i64 c.cBeam, .int .i64 c.cDepth, .int .i64 c.cWin, .int .i64 c.cQs, .int .i64 c.cQr, .int .i64 c.cBatch, .int .i64 c.cPass, .int .i64 c.cMsg, .int .i64 c.cSeqs, .int .i64 K, .int .i64 B, .int .i64 N, .int .i64 T, .slice ha M hc, .bool O, .slice ja J jc, .slice qa Q qc]).next ((Below.refl _ _).alloc (Nat.le_refl _) _)
  have x3 := Box.new (w.alloc (.cells #[.int .i64 c.cB, .int .i64 c.cBeam, .int .i64 c.cDepth, .int .i64 c.cWin, .int .i64 c.cQs, .int .i64 c.cQr, .int .i64 c.cBatch, .int .i64 c.cPass, .int .i64 c.cMsg, .int .i64 c.cSeqs, .int .i64 K, .int .i64 B, .int .i64 N, .int .i64 T, .slice ha M hc, .bool O, .slice ja J jc, .slice qa Q qc] 31)) 31 #[.int .i64 c.cB, .int .i64 c.cBeam, .int .i64 c.cDepth, .int .i64 c.cWin, .int .i64 c.cQs, .int .i64 c.cQr, .int .i64 c.cBatch, .int .i64 c.cPass, .int .i64 c.cMsg, .int .i64 c.cSeqs, .int .i64 K, .int .i64 B, .int .i64 N, .int .i64 T, .slice fa M fc, .bool O, .slice ga J gc, .slice va Q vc]
  replace hr := hr.next bb
  replace hr2 := hr2.next bb
  have HL : Hid (r.rH.length = M ∧ r.rJ.2.length = J ∧ r.rQ.length = Q) := ⟨hs.lH, hs.lJ, hs.lQ⟩
  have HM : Hid (∀ h ∈ r.rH, h.hL.length ≤ 4611686018427387904 ∧ h.hB.length ≤ 4611686018427387904) := hm
  have HQM : Hid (∀ m ∈ r.rQ, m.length ≤ 4611686018427387904) := hq
  clear hs hm hq
  go_enter Try.func7, Try.ntmps7
  go_wp2_with fail
  refine (keepConfig_same c _).mono ?_
  rintro e w1 ⟨rfl, b9⟩
  obtain ⟨n3, hn3⟩ : ∃ n, (w.alloc (.cells #[.int .i64 c.cB, .int .i64 c.cBeam, .int .i64 c.cDepth, .int .i64 c.cWin, .int .i64 c.cQs, .int .i64 c.cQr, .int .i64 c.cBatch, .int .i64 c.cPass, .int .i64 c.cMsg, .int .i64 c.cSeqs, .int .i64 K, .int .i64 B, .int .i64 N, .int .i64 T, .slice ha M hc, .bool O, .slice ja J jc, .slice qa Q qc] 31)).heap.size = n := ⟨_, rfl⟩
  rw [hn3] at x3
  have hn3s : w.heap.size + 1 = n3 := by rw [← hn3]; simp
  replace x2 := x2.next b9
  replace x3 := x3.next b9
  replace hr := hr.next b9
  replace hr2 := hr2.next b9
  replace bb := bb.trans (b9.mono bb.size)
  clear b9 hn3
  try rw [hn3s]
  clear hn3s
  have cx20 := x2.cell 0 _ rfl
  have cx21 := x2.cell 1 _ rfl
  have cx22 := x2.cell 2 _ rfl
  have cx23 := x2.cell 3 _ rfl
  have cx24 := x2.cell 4 _ rfl
  have cx25 := x2.cell 5 _ rfl
  have cx26 := x2.cell 6 _ rfl
  have cx27 := x2.cell 7 _ rfl
  have cx28 := x2.cell 8 _ rfl
  have cx29 := x2.cell 9 _ rfl
  have cx210 := x2.cell 10 _ rfl
  have cx211 := x2.cell 11 _ rfl
  have cx212 := x2.cell 12 _ rfl
  have cx213 := x2.cell 13 _ rfl
  have cx214 := x2.cell 14 _ rfl
  have cx215 := x2.cell 15 _ rfl
  have cx216 := x2.cell 16 _ rfl
  have cx217 := x2.cell 17 _ rfl
  have cx30 := x3.cell 0 _ rfl
  have cx31 := x3.cell 1 _ rfl
  have cx32 := x3.cell 2 _ rfl
  have cx33 := x3.cell 3 _ rfl
  have cx34 := x3.cell 4 _ rfl
  have cx35 := x3.cell 5 _ rfl
  have cx36 := x3.cell 6 _ rfl
  have cx37 := x3.cell 7 _ rfl
  have cx38 := x3.cell 8 _ rfl
  have cx39 := x3.cell 9 _ rfl
  have cx310 := x3.cell 10 _ rfl
  have cx311 := x3.cell 11 _ rfl
  have cx312 := x3.cell 12 _ rfl
  have cx313 := x3.cell 13 _ rfl
  have cx314 := x3.cell 14 _ rfl
  have cx315 := x3.cell 15 _ rfl
  have cx316 := x3.cell 16 _ rfl
  have cx317 := x3.cell 17 _ rfl
  have hl2 := x2.lt
  have hl3 := x3.lt
  go_wp2_with fail
  refine (keepJoin_eq O (.slice ja J jc) (.slice ga J gc) r.rJ.2 _ (by rw [HL.out.2.1]; omega) hr.2.1 hr2.2.1).mono ?_
  rintro e w2 ⟨rfl, b9⟩
  clear cx20 cx21 cx22 cx23 cx24 cx25 cx26 cx27 cx28 cx29 cx210 cx211 cx212 cx213 cx214 cx215 cx216 cx217
  clear cx30 cx31 cx32 cx33 cx34 cx35 cx36 cx37 cx38 cx39 cx310 cx311 cx312 cx313 cx314 cx315 cx316 cx317
  clear hl2 hl3
  replace x2 := x2.next b9
  replace x3 := x3.next b9
  replace hr := hr.next b9
  replace hr2 := hr2.next b9
  replace bb := bb.trans (b9.mono bb.size)
  clear b9
  have cx20 := x2.cell 0 _ rfl
  have cx21 := x2.cell 1 _ rfl
  have cx22 := x2.cell 2 _ rfl
  have cx23 := x2.cell 3 _ rfl
  have cx24 := x2.cell 4 _ rfl
  have cx25 := x2.cell 5 _ rfl
  have cx26 := x2.cell 6 _ rfl
  have cx27 := x2.cell 7 _ rfl
  have cx28 := x2.cell 8 _ rfl
  have cx29 := x2.cell 9 _ rfl
  have cx210 := x2.cell 10 _ rfl
  have cx211 := x2.cell 11 _ rfl
  have cx212 := x2.cell 12 _ rfl
  have cx213 := x2.cell 13 _ rfl
  have cx214 := x2.cell 14 _ rfl
  have cx215 := x2.cell 15 _ rfl
  have cx216 := x2.cell 16 _ rfl
  have cx217 := x2.cell 17 _ rfl
  have cx30 := x3.cell 0 _ rfl
  have cx31 := x3.cell 1 _ rfl
  have cx32 := x3.cell 2 _ rfl
  have cx33 := x3.cell 3 _ rfl
  have cx34 := x3.cell 4 _ rfl
  have cx35 := x3.cell 5 _ rfl
  have cx36 := x3.cell 6 _ rfl
  have cx37 := x3.cell 7 _ rfl
  have cx38 := x3.cell 8 _ rfl
  have cx39 := x3.cell 9 _ rfl
  have cx310 := x3.cell 10 _ rfl
  have cx311 := x3.cell 11 _ rfl
  have cx312 := x3.cell 12 _ rfl
  have cx313 := x3.cell 13 _ rfl
  have cx314 := x3.cell 14 _ rfl
  have cx315 := x3.cell 15 _ rfl
  have cx316 := x3.cell 16 _ rfl
  have cx317 := x3.cell 17 _ rfl
  have hl2 := x2.lt
  have hl3 := x3.lt
  go_wp2_with fail
  refine (keepRows_same r.rQ Q HL.out.2.2 (by omega) HQM.out qa qc va vc _ hr.2.2 hr2.2.2).mono ?_
  rintro e w3 ⟨rfl, b9⟩
  clear cx20 cx21 cx22 cx23 cx24 cx25 cx26 cx27 cx28 cx29 cx210 cx211 cx212 cx213 cx214 cx215 cx216 cx217
  clear cx30 cx31 cx32 cx33 cx34 cx35 cx36 cx37 cx38 cx39 cx310 cx311 cx312 cx313 cx314 cx315 cx316 cx317
  clear hl2 hl3
  replace x2 := x2.next b9
  replace x3 := x3.next b9
  replace hr := hr.next b9
  replace hr2 := hr2.next b9
  replace bb := bb.trans (b9.mono bb.size)
  clear b9
  have H2 : Hid (Hrs w3 (.slice ha M hc) r.rH) := hr.1
  have H4 : Hid (Hrs w3 (.slice fa M fc) r.rH) := hr2.1
  clear hr hr2
  have c29 := x2.cell 14 _ rfl
  have c39 := x3.cell 14 _ rfl
  have hl2 := x2.lt
  have hl3 := x3.lt
  go_wp2_with fail
  clear c29 c39 hl2 hl3
  go_loopw [5] (fun i wr => ∃ k : Nat, k ≤ M ∧ i = .int .i64 (k : Int) ∧ Below w3.heap.size w3 wr) (fun i _ => M - (intOf i).toNat)
  case atStart => exact ⟨0, Nat.zero_le _, rfl, Below.refl _ _⟩
  case round =>
    obtain ⟨k, hk, rfl, b4⟩ := hrel
    generalize hwr : wr = w4 at *
    clear hwr
    have HB3 : Hid (Below w3.heap.size w3 w4) := b4
    have bS : Since w4 w4 := Below.refl _ _
    replace x2 := x2.next b4
    replace x3 := x3.next b4
    replace bb := bb.trans (b4.mono bb.size)
    have c29 := x2.cell 14 _ rfl
    have c39 := x3.cell 14 _ rfl
    have hl2 := x2.lt
    have hl3 := x3.lt
    by_cases hlt : k < M
    rotate_left
    · obtain rfl : M = k := by omega
      go_wp2
      go_ret
      exact ⟨rfl, bb⟩
    as_aux_lemma =>
      obtain ⟨h, he⟩ : ∃ y, r.rH[k]? = some y := ⟨r.rH[k]'(by rw [HL.out.1]; exact hlt), by simp⟩
      obtain ⟨gb, off, pa, pc, qb, qd, rfl, y2⟩ := (H2.out.next b4).at he
      obtain ⟨gd, of2, p2, d2, q2, e2, rfl, y3⟩ := (H4.out.next b4).at he
      have HXM : Hid (h.hL.length ≤ 4611686018427387904 ∧ h.hB.length ≤ 4611686018427387904) := HM.out h (List.mem_of_getElem? he)
      clear H2 H4 he b4
      go_upto_region 6 with fail
      clear c29 c39 hl2 hl3
      obtain ⟨nq1, hnq1⟩ : ∃ n, w4.heap.size = n := ⟨_, rfl⟩
      have hl_x2 : w.heap.size < nq1 := hnq1 ▸ x2.lt
      have m_x20 : Hid (w4.cell? ⟨w.heap.size, 0, none⟩ = some (.int .i64 c.cB)) := x2.cell 0 _ rfl
      have m_x21 : Hid (w4.cell? ⟨w.heap.size, 1, none⟩ = some (.int .i64 c.cBeam)) := x2.cell 1 _ rfl
      have m_x22 : Hid (w4.cell? ⟨w.heap.size, 2, none⟩ = some (.int .i64 c.cDepth)) := x2.cell 2 _ rfl
      have m_x23 : Hid (w4.cell? ⟨w.heap.size, 3, none⟩ = some (.int .i64 c.cWin)) := x2.cell 3 _ rfl
      have m_x24 : Hid (w4.cell? ⟨w.heap.size, 4, none⟩ = some (.int .i64 c.cQs)) := x2.cell 4 _ rfl
      have m_x25 : Hid (w4.cell? ⟨w.heap.size, 5, none⟩ = some (.int .i64 c.cQr)) := x2.cell 5 _ rfl
      have m_x26 : Hid (w4.cell? ⟨w.heap.size, 6, none⟩ = some (.int .i64 c.cBatch)) := x2.cell 6 _ rfl
      have m_x27 : Hid (w4.cell? ⟨w.heap.size, 7, none⟩ = some (.int .i64 c.cPass)) := x2.cell 7 _ rfl
      have m_x28 : Hid (w4.cell? ⟨w.heap.size, 8, none⟩ = some (.int .i64 c.cMsg)) := x2.cell 8 _ rfl
      have m_x29 : Hid (w4.cell? ⟨w.heap.size, 9, none⟩ = some (.int .i64 c.cSeqs)) := x2.cell 9 _ rfl
      have m_x210 : Hid (w4.cell? ⟨w.heap.size, 10, none⟩ = some (.int .i64 K)) := x2.cell 10 _ rfl
      have m_x211 : Hid (w4.cell? ⟨w.heap.size, 11, none⟩ = some (.int .i64 B)) := x2.cell 11 _ rfl
      have m_x212 : Hid (w4.cell? ⟨w.heap.size, 12, none⟩ = some (.int .i64 N)) := x2.cell 12 _ rfl
      have m_x213 : Hid (w4.cell? ⟨w.heap.size, 13, none⟩ = some (.int .i64 T)) := x2.cell 13 _ rfl
      have m_x214 : Hid (w4.cell? ⟨w.heap.size, 14, none⟩ = some (.slice (some ⟨gb, off, none⟩) M hc)) := x2.cell 14 _ rfl
      have m_x215 : Hid (w4.cell? ⟨w.heap.size, 15, none⟩ = some (.bool O)) := x2.cell 15 _ rfl
      have m_x216 : Hid (w4.cell? ⟨w.heap.size, 16, none⟩ = some (.slice ja J jc)) := x2.cell 16 _ rfl
      have m_x217 : Hid (w4.cell? ⟨w.heap.size, 17, none⟩ = some (.slice qa Q qc)) := x2.cell 17 _ rfl
      have hl_x3 : n3 < nq1 := hnq1 ▸ x3.lt
      have m_x30 : Hid (w4.cell? ⟨n3, 0, none⟩ = some (.int .i64 c.cB)) := x3.cell 0 _ rfl
      have m_x31 : Hid (w4.cell? ⟨n3, 1, none⟩ = some (.int .i64 c.cBeam)) := x3.cell 1 _ rfl
      have m_x32 : Hid (w4.cell? ⟨n3, 2, none⟩ = some (.int .i64 c.cDepth)) := x3.cell 2 _ rfl
      have m_x33 : Hid (w4.cell? ⟨n3, 3, none⟩ = some (.int .i64 c.cWin)) := x3.cell 3 _ rfl
      have m_x34 : Hid (w4.cell? ⟨n3, 4, none⟩ = some (.int .i64 c.cQs)) := x3.cell 4 _ rfl
      have m_x35 : Hid (w4.cell? ⟨n3, 5, none⟩ = some (.int .i64 c.cQr)) := x3.cell 5 _ rfl
      have m_x36 : Hid (w4.cell? ⟨n3, 6, none⟩ = some (.int .i64 c.cBatch)) := x3.cell 6 _ rfl
      have m_x37 : Hid (w4.cell? ⟨n3, 7, none⟩ = some (.int .i64 c.cPass)) := x3.cell 7 _ rfl
      have m_x38 : Hid (w4.cell? ⟨n3, 8, none⟩ = some (.int .i64 c.cMsg)) := x3.cell 8 _ rfl
      have m_x39 : Hid (w4.cell? ⟨n3, 9, none⟩ = some (.int .i64 c.cSeqs)) := x3.cell 9 _ rfl
      have m_x310 : Hid (w4.cell? ⟨n3, 10, none⟩ = some (.int .i64 K)) := x3.cell 10 _ rfl
      have m_x311 : Hid (w4.cell? ⟨n3, 11, none⟩ = some (.int .i64 B)) := x3.cell 11 _ rfl
      have m_x312 : Hid (w4.cell? ⟨n3, 12, none⟩ = some (.int .i64 N)) := x3.cell 12 _ rfl
      have m_x313 : Hid (w4.cell? ⟨n3, 13, none⟩ = some (.int .i64 T)) := x3.cell 13 _ rfl
      have m_x314 : Hid (w4.cell? ⟨n3, 14, none⟩ = some (.slice (some ⟨gd, of2, none⟩) M fc)) := x3.cell 14 _ rfl
      have m_x315 : Hid (w4.cell? ⟨n3, 15, none⟩ = some (.bool O)) := x3.cell 15 _ rfl
      have m_x316 : Hid (w4.cell? ⟨n3, 16, none⟩ = some (.slice ga J gc)) := x3.cell 16 _ rfl
      have m_x317 : Hid (w4.cell? ⟨n3, 17, none⟩ = some (.slice va Q vc)) := x3.cell 17 _ rfl
      have hl_y2 : gb < nq1 := hnq1 ▸ y2.lt
      have m_y20 : Hid (w4.cell? ⟨gb, off + k * 7, none⟩ = some (.int .i64 h.hS)) := y2.1.2.1
      have m_y21 : Hid (w4.cell? ⟨gb, off + k * 7 + 1, none⟩ = some (.int .i64 h.hR)) := y2.1.2.2.1
      have m_y22 : Hid (w4.cell? ⟨gb, off + k * 7 + 2, none⟩ = some (.int .i64 h.hN)) := y2.1.2.2.2.1
      have m_y23 : Hid (w4.cell? ⟨gb, off + k * 7 + 3, none⟩ = some (.int .i64 h.hP)) := y2.1.2.2.2.2.1
      have m_y24 : Hid (w4.cell? ⟨gb, off + k * 7 + 4, none⟩ = some (.slice pa h.hL.length pc)) := y2.1.2.2.2.2.2.1
      have m_y25 : Hid (w4.cell? ⟨gb, off + k * 7 + 5, none⟩ = some (.bool h.hD)) := y2.1.2.2.2.2.2.2.1
      have m_y26 : Hid (w4.cell? ⟨gb, off + k * 7 + 6, none⟩ = some (.slice qb h.hB.length qd)) := y2.1.2.2.2.2.2.2.2
      have hl_y3 : gd < nq1 := hnq1 ▸ y3.lt
      have m_y30 : Hid (w4.cell? ⟨gd, of2 + k * 7, none⟩ = some (.int .i64 h.hS)) := y3.1.2.1
      have m_y31 : Hid (w4.cell? ⟨gd, of2 + k * 7 + 1, none⟩ = some (.int .i64 h.hR)) := y3.1.2.2.1
      have m_y32 : Hid (w4.cell? ⟨gd, of2 + k * 7 + 2, none⟩ = some (.int .i64 h.hN)) := y3.1.2.2.2.1
      have m_y33 : Hid (w4.cell? ⟨gd, of2 + k * 7 + 3, none⟩ = some (.int .i64 h.hP)) := y3.1.2.2.2.2.1
      have m_y34 : Hid (w4.cell? ⟨gd, of2 + k * 7 + 4, none⟩ = some (.slice p2 h.hL.length d2)) := y3.1.2.2.2.2.2.1
      have m_y35 : Hid (w4.cell? ⟨gd, of2 + k * 7 + 5, none⟩ = some (.bool h.hD)) := y3.1.2.2.2.2.2.2.1
      have m_y36 : Hid (w4.cell? ⟨gd, of2 + k * 7 + 6, none⟩ = some (.slice q2 h.hB.length e2)) := y3.1.2.2.2.2.2.2.2
      have HK : Hid (∀ wx : World, Below nq1 w4 wx → Calls Try.prog 18 #[.agg #[.int .i64 h.hS, .int .i64 h.hR, .int .i64 h.hN, .int .i64 h.hP, .slice pa h.hL.length pc, .bool h.hD, .slice qb h.hB.length qd], .agg #[.int .i64 h.hS, .int .i64 h.hR, .int .i64 h.hN, .int .i64 h.hP, .slice p2 h.hL.length d2, .bool h.hD, .slice q2 h.hB.length e2]] wx fun e w' => e = .returned (.bool true) ∧ Below nq1 w4 w') := fun wx hx => (keepHear_same h pa qb p2 q2 pc qd d2 e2 HXM.out.1 HXM.out.2 wx (y2.2.next (hnq1 ▸ hx)) (y3.2.next (hnq1 ▸ hx))).mono fun e w' ⟨h, b⟩ => ⟨h, hx.trans (b.mono (hnq1 ▸ hx.size))⟩
      go_cut [83] (fun v0 wx => v0 = .bool false ∧ Below nq1 w4 wx)
      case first =>
        as_aux_lemma =>
          refine wp_region_held_drew (S := fun w' => Below nq1 w4 w') (by kernel_rfl) (below_drewJ hnq1) (fun hHeld => ?_)
          refine ht0 0 72 (v := ?v1) (fun _ => ?y1) hHeld ?_
          case y1 => go_simp; with_reducible rfl
          simp only [sn]
          refine ht 1 73 (v := ?v2) (fun _ hSw => ?y2) hHeld ?_
          case y2 => have q0 := hSw.at m_x214.out hl_x2; clear hSw; go_simp; with_reducible rfl
          simp only [sn]
          refine ht0 2 74 (v := ?v3) (fun _ => ?y3) hHeld ?_
          case y3 => go_simp; with_reducible rfl
          simp only [sn]
          refine ht0 3 75 (v := ?v4) (fun _ => ?y4) hHeld ?_
          case y4 => go_simp; with_reducible rfl
          simp only [sn]
          refine ht 4 76 (v := ?v5) (fun _ hSw => ?y5) hHeld ?_
          case y5 => have q0 := hSw.at m_y20.out hl_y2; have q1 := hSw.at m_y21.out hl_y2; have q2 := hSw.at m_y22.out hl_y2; have q3 := hSw.at m_y23.out hl_y2; have q4 := hSw.at m_y24.out hl_y2; have q5 := hSw.at m_y25.out hl_y2; have q6 := hSw.at m_y26.out hl_y2; clear hSw; go_simp; with_reducible rfl
          simp only [sn]
          refine ht0 5 77 (v := ?v6) (fun _ => ?y6) hHeld ?_
          case y6 => go_simp; with_reducible rfl
          simp only [sn]
          refine ht 6 78 (v := ?v7) (fun _ hSw => ?y7) hHeld ?_
          case y7 => have q0 := hSw.at m_x314.out hl_x3; clear hSw; go_simp; with_reducible rfl
          simp only [sn]
          refine ht0 7 79 (v := ?v8) (fun _ => ?y8) hHeld ?_
          case y8 => go_simp; with_reducible rfl
          simp only [sn]
          refine ht0 8 80 (v := ?v9) (fun _ => ?y9) hHeld ?_
          case y9 => go_simp; with_reducible rfl
          simp only [sn]
          refine ht 9 81 (v := ?v10) (fun _ hSw => ?y10) hHeld ?_
          case y10 => have q0 := hSw.at m_y30.out hl_y3; have q1 := hSw.at m_y31.out hl_y3; have q2 := hSw.at m_y32.out hl_y3; have q3 := hSw.at m_y33.out hl_y3; have q4 := hSw.at m_y34.out hl_y3; have q5 := hSw.at m_y35.out hl_y3; have q6 := hSw.at m_y36.out hl_y3; clear hSw; go_simp; with_reducible rfl
          simp only [sn]
          refine wpAnyH_ready (rs := [10]) (by kernel_rfl) (by simp) ?_
          refine AllReadyH.cons rfl (fun K hK => ?_) AllReadyH.nil
          go_simp
          go_wp2_with (go_at_call 18; refine (HK.out _ (by exact hHeld)).mono ?_; rintro e wb ⟨rfl, b8⟩)
          refine hK.out _ _ (b8) (fun hHeld => ?_)
          clear hK K
          refine wpAnyH_ready (rs := [11]) (by kernel_rfl) (by simp) ?_
          refine AllReadyH.cons rfl (fun K hK => ?_) AllReadyH.nil
          go_simp
          refine hK.out _ _ hHeld (fun hHeld => ?_)
          clear hK K
          refine wpAnyH_done (by kernel_rfl) ?_ _
          go_wp2_with fail
          go_meet
          exact ⟨rfl, hHeld⟩
      case rest =>
        as_aux_lemma =>
          obtain ⟨rfl, b9⟩ := hcut
          replace b9 : Below w4.heap.size w4 wc := hnq1 ▸ b9
          generalize hwc : wc = w5 at *
          clear hwc hnq1 hl_x2 m_x20 m_x21 m_x22 m_x23 m_x24 m_x25 m_x26 m_x27 m_x28 m_x29 m_x210 m_x211 m_x212 m_x213 m_x214 m_x215 m_x216 m_x217 hl_x3 m_x30 m_x31 m_x32 m_x33 m_x34 m_x35 m_x36 m_x37 m_x38 m_x39 m_x310 m_x311 m_x312 m_x313 m_x314 m_x315 m_x316 m_x317 hl_y2 m_y20 m_y21 m_y22 m_y23 m_y24 m_y25 m_y26 hl_y3 m_y30 m_y31 m_y32 m_y33 m_y34 m_y35 m_y36 HK 
          replace x2 := x2.next b9
          replace x3 := x3.next b9
          replace bS := bS.next b9
          replace bb := bb.trans (b9.mono bb.size)
          clear b9
          replace bS : Below w4.heap.size w4 w5 := bS
          go_wp2
          exact ⟨⟨k + 1, hlt, by go_num, HB3.out.trans (bS.mono (by have := HB3.out.size; omega))⟩, by simp [intOf]; omega⟩

end Go.Proofs.Ytmjidhnlofpliab

/-
  The walk of RecvNothing. (Written by tpl_recvlaws.py.)
-/
namespace Go.Proofs.Ytmjidhnlofpliab
open Go.RowKit

theorem satN_up {k : Nat} (h : k ≤ 1000) : satN (k : Int) 1 = (k : Int) + 1 := by unfold satN clampS; omega
/-- A new receiver, k replies later. -/
def clockR (c : Cfg) (K : Int) : Rc := { newR c with rK := K }
theorem clockR_pack (c : Cfg) (K : Int) : packR (clockR c K) = packR (newR c) := rfl
theorem clockR_reply (c : Cfg) (k : Nat) (h : k ≤ 1000) : replyR (clockR c (k : Int)) = clockR c ((k : Int) + 1) := by
  unfold replyR clockR
  show ({ newR c with rK := satN (k : Int) 1 } : Rc) = _
  rw [satN_up h]
theorem RcW.zero {base : Nat} {W : World} {c : Cfg} {K : Int} {wn : Nat} {ha ja qa : Option Addr} {hc jc qc : Nat} (h : RcW base W (clockR c K) c K 0 0 0 wn false 0 0 ha hc ja jc qa qc) (hC : okC c = true) : RcW base W (newR c) c 0 0 0 0 wn false 0 0 ha hc ja jc qa qc :=
  ⟨⟨rfl, rfl, rfl, rfl, rfl, h.is.lH, rfl, rfl, rfl⟩, newR_ok hC, h.lies⟩
set_option maxRecDepth 100000 in
set_option maxHeartbeats 8000000 in
theorem recvNothing_walk (cq : Cfg) (rep : Int) (w : World) :
    Calls Try.prog 3 #[.agg #[.int .i64 cq.cB, .int .i64 cq.cBeam, .int .i64 cq.cDepth, .int .i64 cq.cWin, .int .i64 cq.cQs, .int .i64 cq.cQr, .int .i64 cq.cBatch, .int .i64 cq.cPass, .int .i64 cq.cMsg, .int .i64 cq.cSeqs], .int .i64 rep] w fun e w' => e = .returned (.bool true) ∧ Below w.heap.size w w' := by
  obtain ⟨q, hq, hq0, hq1⟩ := mod_u64 rep 50 (by decide) (by decide)
  obtain ⟨n, rfl⟩ : ∃ n : Nat, q = (n : Int) := ⟨q.toNat, by omega⟩
  have hn50 : n < 50 := by omega
  clear hq0 hq1
  have bb : Below w.heap.size w (w.alloc (.cells #[.int .i64 cq.cB, .int .i64 cq.cBeam, .int .i64 cq.cDepth, .int .i64 cq.cWin, .int .i64 cq.cQs, .int .i64 cq.cQr, .int .i64 cq.cBatch, .int .i64 cq.cPass, .int .i64 cq.cMsg, .int .i64 cq.cSeqs] 23)) := (Below.refl _ _).alloc (Nat.le_refl _) _
  have xC := Box.new w 23 #[.int .i64 cq.cB, .int .i64 cq.cBeam, .int .i64 cq.cDepth, .int .i64 cq.cWin, .int .i64 cq.cQs, .int .i64 cq.cQr, .int .i64 cq.cBatch, .int .i64 cq.cPass, .int .i64 cq.cMsg, .int .i64 cq.cSeqs]
  go_enter Try.func3, Try.ntmps3
  go_wp2_with (first | (refine wpList_load_box xC rfl 23 _ rfl rfl _ Try.underlying23 rfl (by kernel_rfl) ?_))
  refine (small_any cq _).mono ?_
  rintro e w1 ⟨c, rfl, hSm, b9⟩
  replace xC := xC.next b9
  replace bb := bb.trans (b9.mono bb.size)
  clear b9
  go_upto_region 2 with (first | (refine wpList_store_box xC rfl 23 _ _ rfl rfl rfl rfl (by kernel_rfl) (by simp [Value.oneCell']) ?_))
  replace xC := xC.setRow #[.int .i64 c.cB, .int .i64 c.cBeam, .int .i64 c.cDepth, .int .i64 c.cWin, .int .i64 c.cQs, .int .i64 c.cQr, .int .i64 c.cBatch, .int .i64 c.cPass, .int .i64 c.cMsg, .int .i64 c.cSeqs]
  replace bb := below_setRow bb (Nat.le_refl _) #[.int .i64 c.cB, .int .i64 c.cBeam, .int .i64 c.cDepth, .int .i64 c.cWin, .int .i64 c.cQs, .int .i64 c.cQr, .int .i64 c.cBatch, .int .i64 c.cPass, .int .i64 c.cMsg, .int .i64 c.cSeqs]
  generalize w1.setRow w.heap.size #[.int .i64 c.cB, .int .i64 c.cBeam, .int .i64 c.cDepth, .int .i64 c.cWin, .int .i64 c.cQs, .int .i64 c.cQr, .int .i64 c.cBatch, .int .i64 c.cPass, .int .i64 c.cMsg, .int .i64 c.cSeqs] = w2 at *
  have HC : Hid (okC c = true) := hSm.ok
  obtain ⟨wn, hwn⟩ : ∃ n : Nat, c.cWin = (n : Int) := ⟨c.cWin.toNat, by have := ((okC_iff _).1 HC.out).2.2.2.1; omega⟩
  have HN := recvNew_law c HC.out wn hwn w2
  have HWN : Hid (c.cWin = (wn : Int)) := hwn
  clear hSm hwn
  go_wp2_with (first | (refine wpList_load_box xC rfl 23 _ rfl rfl _ Try.underlying23 rfl (by kernel_rfl) ?_))
  refine HN.mono ?_
  rintro e w3 ⟨fa, fc, rfl, h1, b3⟩
  have HW := h1.out.lower (Nat.zero_le _)
  replace xC := xC.next b3
  replace bb := bb.trans (b3.mono bb.size)
  clear b3 h1 HN
  have bA : Below w3.heap.size w3 (w3.alloc (.cells #[.int .i64 0, .int .i64 0, .int .i64 0, .int .i64 0, .int .i64 0, .int .i64 0, .int .i64 0, .int .i64 0, .int .i64 0, .int .i64 0, .int .i64 0, .int .i64 0, .int .i64 0, .int .i64 0, .slice none 0 0, .bool false, .slice none 0 0, .slice none 0 0] 31)) := (Below.refl _ _).alloc (Nat.le_refl _) _
  have xR := Box.new w3 31 #[.int .i64 0, .int .i64 0, .int .i64 0, .int .i64 0, .int .i64 0, .int .i64 0, .int .i64 0, .int .i64 0, .int .i64 0, .int .i64 0, .int .i64 0, .int .i64 0, .int .i64 0, .int .i64 0, .slice none 0 0, .bool false, .slice none 0 0, .slice none 0 0]
  go_upto_region 3 with (first | (refine wpList_store_box xR rfl 31 _ _ rfl rfl rfl rfl (by kernel_rfl) (by simp [Value.oneCell']) ?_))
  have bB := below_setRow bA (Nat.le_refl _) #[.int .i64 c.cB, .int .i64 c.cBeam, .int .i64 c.cDepth, .int .i64 c.cWin, .int .i64 c.cQs, .int .i64 c.cQr, .int .i64 c.cBatch, .int .i64 c.cPass, .int .i64 c.cMsg, .int .i64 c.cSeqs, .int .i64 0, .int .i64 0, .int .i64 0, .int .i64 0, .slice fa wn fc, .bool false, .slice none 0 0, .slice none 0 0]
  replace xR := xR.setRow #[.int .i64 c.cB, .int .i64 c.cBeam, .int .i64 c.cDepth, .int .i64 c.cWin, .int .i64 c.cQs, .int .i64 c.cQr, .int .i64 c.cBatch, .int .i64 c.cPass, .int .i64 c.cMsg, .int .i64 c.cSeqs, .int .i64 0, .int .i64 0, .int .i64 0, .int .i64 0, .slice fa wn fc, .bool false, .slice none 0 0, .slice none 0 0]
  replace HW := HW.next bB
  replace xC := xC.next bB
  replace bb := bb.trans (bB.mono bb.size)
  obtain ⟨BR, hBR⟩ : ∃ D, w3.heap.size = D := ⟨_, rfl⟩
  have HBR : Hid (w3.heap.size = BR) := hBR
  rw [hBR] at xR bb HW xC ⊢
  clear bA bB hBR
  generalize (w3.alloc (.cells #[.int .i64 0, .int .i64 0, .int .i64 0, .int .i64 0, .int .i64 0, .int .i64 0, .int .i64 0, .int .i64 0, .int .i64 0, .int .i64 0, .int .i64 0, .int .i64 0, .int .i64 0, .int .i64 0, .slice none 0 0, .bool false, .slice none 0 0, .slice none 0 0] 31)).setRow BR #[.int .i64 c.cB, .int .i64 c.cBeam, .int .i64 c.cDepth, .int .i64 c.cWin, .int .i64 c.cQs, .int .i64 c.cQr, .int .i64 c.cBatch, .int .i64 c.cPass, .int .i64 c.cMsg, .int .i64 c.cSeqs, .int .i64 0, .int .i64 0, .int .i64 0, .int .i64 0, .slice fa wn fc, .bool false, .slice none 0 0, .slice none 0 0] = w4 at *
  have c14 := xR.cell 14 _ rfl
  have c3 := xC.cell 3 _ rfl
  rw [HWN.out] at c3
  have lR := xR.lt
  have lC := xC.lt
  have dw : ((wn : Int) != (wn : Int)) = false := by simp
  go_upto_region 5 with fail
  clear c14 c3 lR lC dw HBR
  have H2 := recvNil_law HW
  go_wp2_with (first | (refine wpList_load_box xR rfl 31 _ rfl rfl _ Try.underlying31 rfl (by kernel_rfl) ?_))
  refine H2.mono ?_
  rintro e w5 ⟨ha1, hc1, ja1, jc1, qa1, qc1, rfl, h2, b5⟩
  have HX := h2.out.lower (Nat.zero_le _)
  replace HW := HW.next b5
  replace xR := xR.next b5
  replace bb := bb.trans (b5.mono bb.size)
  clear b5 h2 H2 xC
  have hlR := xR.lt
  have hbs5 := bb.size
  have bA : Below w5.heap.size w5 (w5.alloc (.cells #[.int .i64 0, .int .i64 0, .int .i64 0, .int .i64 0, .int .i64 0, .int .i64 0, .int .i64 0, .int .i64 0, .int .i64 0, .int .i64 0, .int .i64 0, .int .i64 0, .int .i64 0, .int .i64 0, .slice none 0 0, .bool false, .slice none 0 0, .slice none 0 0] 31)) := (Below.refl _ _).alloc (Nat.le_refl _) _
  have xX := Box.new w5 31 #[.int .i64 0, .int .i64 0, .int .i64 0, .int .i64 0, .int .i64 0, .int .i64 0, .int .i64 0, .int .i64 0, .int .i64 0, .int .i64 0, .int .i64 0, .int .i64 0, .int .i64 0, .int .i64 0, .slice none 0 0, .bool false, .slice none 0 0, .slice none 0 0]
  go_upto_region 6 with (first | (refine wpList_store_box xX rfl 31 _ _ rfl rfl rfl rfl (by kernel_rfl) (by simp [Value.oneCell']) ?_))
  have bB := below_setRow bA (Nat.le_refl _) #[.int .i64 c.cB, .int .i64 c.cBeam, .int .i64 c.cDepth, .int .i64 c.cWin, .int .i64 c.cQs, .int .i64 c.cQr, .int .i64 c.cBatch, .int .i64 c.cPass, .int .i64 c.cMsg, .int .i64 c.cSeqs, .int .i64 0, .int .i64 0, .int .i64 0, .int .i64 0, .slice ha1 wn hc1, .bool false, .slice ja1 0 jc1, .slice qa1 0 qc1]
  replace xX := xX.setRow #[.int .i64 c.cB, .int .i64 c.cBeam, .int .i64 c.cDepth, .int .i64 c.cWin, .int .i64 c.cQs, .int .i64 c.cQr, .int .i64 c.cBatch, .int .i64 c.cPass, .int .i64 c.cMsg, .int .i64 c.cSeqs, .int .i64 0, .int .i64 0, .int .i64 0, .int .i64 0, .slice ha1 wn hc1, .bool false, .slice ja1 0 jc1, .slice qa1 0 qc1]
  replace HW := HW.next bB
  replace HX := HX.next bB
  replace xR := xR.next bB
  replace bb := bb.trans (bB.mono bb.size)
  obtain ⟨BX, hBX⟩ : ∃ D, w5.heap.size = D := ⟨_, rfl⟩
  have HBX : Hid (w5.heap.size = BX) := hBX
  rw [hBX] at xX bb HW HX xR ⊢
  clear bA bB hBX
  generalize (w5.alloc (.cells #[.int .i64 0, .int .i64 0, .int .i64 0, .int .i64 0, .int .i64 0, .int .i64 0, .int .i64 0, .int .i64 0, .int .i64 0, .int .i64 0, .int .i64 0, .int .i64 0, .int .i64 0, .int .i64 0, .slice none 0 0, .bool false, .slice none 0 0, .slice none 0 0] 31)).setRow BX #[.int .i64 c.cB, .int .i64 c.cBeam, .int .i64 c.cDepth, .int .i64 c.cWin, .int .i64 c.cQs, .int .i64 c.cQr, .int .i64 c.cBatch, .int .i64 c.cPass, .int .i64 c.cMsg, .int .i64 c.cSeqs, .int .i64 0, .int .i64 0, .int .i64 0, .int .i64 0, .slice ha1 wn hc1, .bool false, .slice ja1 0 jc1, .slice qa1 0 qc1] = w6 at *
  have hf := HW.few
  have H3 := keepReceiver_same HW.is (by omega) (by omega) (by omega) (fun y hy => by have := HW.syms y hy; omega) (fun m hm => by have := HW.ok.msgs m hm; omega) ha1 hc1 ja1 jc1 qa1 qc1 fa fc none 0 none 0 w6 HX.at HW.at
  clear hf
  go_wp2_with (first | (refine wpList_load_boxg xX rfl 31 _ rfl rfl _ Try.underlying31 rfl (by kernel_rfl) ?_) | (refine wpList_load_boxg xR rfl 31 _ rfl rfl _ Try.underlying31 rfl (by kernel_rfl) ?_))
  refine H3.mono ?_
  rintro e w7 ⟨rfl, b7⟩
  replace HW := HW.next b7
  replace HX := HX.next b7
  replace xR := xR.next b7
  replace xX := xX.next b7
  replace bb := bb.trans (b7.mono bb.size)
  have HNE : Hid (BX ≠ BR ∧ w.heap.size ≤ BX) := by have h1 := HBX.out; constructor <;> omega
  clear b7 H3 HBX hlR hbs5
  go_upto_region 11 with fail
  obtain ⟨P, hP⟩ : ∃ P, packR (newR c) = P := ⟨_, rfl⟩
  have HP : Hid (packR (newR c) = P ∧ P.length = 13 ∧ ∀ z ∈ P, 0 ≤ z ∧ z ≤ 255) := ⟨hP, by rw [← hP]; exact packA_len _ _, by rw [← hP]; exact packA_bd _ _⟩
  have HX0 : Hid (RcW 0 w7 (clockR c 0) c 0 0 0 0 wn false 0 0 ha1 hc1 ja1 jc1 qa1 qc1) := HX
  have HW0 : Hid (RcW 0 w7 (newR c) c 0 0 0 0 wn false 0 0 fa fc none 0 none 0) := HW
  clear hP HX HW
  go_loopw [10, 11] (fun s i wr => ∃ (k : Nat) (K : Int) (st : ByteArray) (ha2 : Option Addr) (hc2 : Nat) (ja2 : Option Addr) (jc2 : Nat) (qa2 : Option Addr) (qc2 : Nat), k ≤ n ∧ K = (k : Int) ∧ i = .int .i64 (k : Int) ∧ s = .string st ∧ Hid (0 < k → st = strOfNums P) ∧ Box wr BX 31 #[.int .i64 c.cB, .int .i64 c.cBeam, .int .i64 c.cDepth, .int .i64 c.cWin, .int .i64 c.cQs, .int .i64 c.cQr, .int .i64 c.cBatch, .int .i64 c.cPass, .int .i64 c.cMsg, .int .i64 c.cSeqs, .int .i64 K, .int .i64 0, .int .i64 0, .int .i64 0, .slice ha2 wn hc2, .bool false, .slice ja2 0 jc2, .slice qa2 0 qc2] ∧ Box wr BR 31 #[.int .i64 c.cB, .int .i64 c.cBeam, .int .i64 c.cDepth, .int .i64 c.cWin, .int .i64 c.cQs, .int .i64 c.cQr, .int .i64 c.cBatch, .int .i64 c.cPass, .int .i64 c.cMsg, .int .i64 c.cSeqs, .int .i64 0, .int .i64 0, .int .i64 0, .int .i64 0, .slice fa wn fc, .bool false, .slice none 0 0, .slice none 0 0] ∧ Hid (RcW 0 wr (clockR c K) c K 0 0 0 wn false 0 0 ha2 hc2 ja2 jc2 qa2 qc2) ∧ Hid (RcW 0 wr (newR c) c 0 0 0 0 wn false 0 0 fa fc none 0 none 0) ∧ Below w.heap.size w wr) (fun _ i _ => n - (intOf i).toNat)
  case atStart => exact ⟨0, 0, _, ha1, hc1, ja1, jc1, qa1, qc1, Nat.zero_le _, rfl, rfl, rfl, (fun h => absurd h (Nat.lt_irrefl _)), xX, xR, HX0, HW0, bb⟩
  case round =>
    clear xX xR HX0 HW0 bb
    obtain ⟨k, K, st, ha2, hc2, ja2, jc2, qa2, qc2, hk, hK, rfl, rfl, HST, xX, xR, HX, HW, bb⟩ := hrel
    have HK : Hid (K = (k : Int)) := hK
    clear hK
    generalize hwr : wr = w8 at *
    clear hwr
    by_cases hlt : k < n
    · have H4 := recvReply_law HX.out
      rw [clockR_pack, HP.out.1, HK.out, clockR_reply c k (by omega), satN_up (by omega)] at H4
      rw [← HK.out] at H4
      obtain ⟨k1, hk1⟩ : ∃ k1 : Int, (k : Int) + 1 = k1 := ⟨_, rfl⟩
      obtain ⟨K1, hK1⟩ : ∃ K1 : Int, K + 1 = K1 := ⟨_, rfl⟩
      rw [hK1] at H4
      have HH : Hid (K1 = k1 ∧ K + 1 = K1 ∧ (k : Int) + 1 = k1) := ⟨by rw [← hK1, ← hk1, HK.out], hK1, hk1⟩
      clear hk1 hK1
      go_wp2_with (first | (refine wpList_load_box xX rfl 31 _ rfl rfl _ Try.underlying31 rfl (by kernel_rfl) ?_))
      refine H4.mono ?_
      rintro e w9 ⟨ha3, hc3, ja3, jc3, qa3, qc3, ya, yc, rfl, h4, hy, b9⟩
      have hy2 : OwnR w9 w8.heap.size 5 1 (.slice ya 13 yc) 13 (P.map (Value.int .u8)) := hy
      have HY := h4.out.lower (Nat.zero_le _)
      have HW2 := HW.out.next b9
      replace xX := xX.next b9
      replace xR := xR.next b9
      replace bb := bb.trans (b9.mono bb.size)
      clear b9 h4 H4 hy HX HW
      have hlX := xX.lt
      have hlR := xR.lt
      have bA : Below w9.heap.size w9 (w9.alloc (.cells #[.int .i64 0, .int .i64 0, .int .i64 0, .int .i64 0, .int .i64 0, .int .i64 0, .int .i64 0, .int .i64 0, .int .i64 0, .int .i64 0, .int .i64 0, .int .i64 0, .int .i64 0, .int .i64 0, .slice none 0 0, .bool false, .slice none 0 0, .slice none 0 0] 31)) := (Below.refl _ _).alloc (Nat.le_refl _) _
      have xY := Box.new w9 31 #[.int .i64 0, .int .i64 0, .int .i64 0, .int .i64 0, .int .i64 0, .int .i64 0, .int .i64 0, .int .i64 0, .int .i64 0, .int .i64 0, .int .i64 0, .int .i64 0, .int .i64 0, .int .i64 0, .slice none 0 0, .bool false, .slice none 0 0, .slice none 0 0]
      go_upto_region 14 with (first | (refine wpList_store_box xY rfl 31 _ _ rfl rfl rfl rfl (by kernel_rfl) (by simp [Value.oneCell']) ?_))
      have bB := below_setRow bA (Nat.le_refl _) #[.int .i64 c.cB, .int .i64 c.cBeam, .int .i64 c.cDepth, .int .i64 c.cWin, .int .i64 c.cQs, .int .i64 c.cQr, .int .i64 c.cBatch, .int .i64 c.cPass, .int .i64 c.cMsg, .int .i64 c.cSeqs, .int .i64 K1, .int .i64 0, .int .i64 0, .int .i64 0, .slice ha3 wn hc3, .bool false, .slice ja3 0 jc3, .slice qa3 0 qc3]
      replace xY := xY.setRow #[.int .i64 c.cB, .int .i64 c.cBeam, .int .i64 c.cDepth, .int .i64 c.cWin, .int .i64 c.cQs, .int .i64 c.cQr, .int .i64 c.cBatch, .int .i64 c.cPass, .int .i64 c.cMsg, .int .i64 c.cSeqs, .int .i64 K1, .int .i64 0, .int .i64 0, .int .i64 0, .slice ha3 wn hc3, .bool false, .slice ja3 0 jc3, .slice qa3 0 qc3]
      replace HY := HY.next bB
      replace HW2 := HW2.next bB
      replace xX := xX.next bB
      replace xR := xR.next bB
      replace hy2 := hy2.next bB
      replace bb := bb.trans (bB.mono bb.size)
      obtain ⟨BY, hBY⟩ : ∃ D, w9.heap.size = D := ⟨_, rfl⟩
      have HBY : Hid (w9.heap.size = BY) := hBY
      rw [hBY] at xY bb HY HW2 xX xR hy2 ⊢
      clear bA bB hBY
      generalize (w9.alloc (.cells #[.int .i64 0, .int .i64 0, .int .i64 0, .int .i64 0, .int .i64 0, .int .i64 0, .int .i64 0, .int .i64 0, .int .i64 0, .int .i64 0, .int .i64 0, .int .i64 0, .int .i64 0, .int .i64 0, .slice none 0 0, .bool false, .slice none 0 0, .slice none 0 0] 31)).setRow BY #[.int .i64 c.cB, .int .i64 c.cBeam, .int .i64 c.cDepth, .int .i64 c.cWin, .int .i64 c.cQs, .int .i64 c.cQr, .int .i64 c.cBatch, .int .i64 c.cPass, .int .i64 c.cMsg, .int .i64 c.cSeqs, .int .i64 K1, .int .i64 0, .int .i64 0, .int .i64 0, .slice ha3 wn hc3, .bool false, .slice ja3 0 jc3, .slice qa3 0 qc3] = w10 at *
      have HNY : Hid (BY ≠ BX ∧ BY ≠ BR) := by have := HBY.out; constructor <;> omega
      clear hlX hlR HBY
      have HYY : Hid (RcW 0 w10 (clockR c K1) c K1 0 0 0 wn false 0 0 ha3 hc3 ja3 jc3 qa3 qc3) := HY
      have HWW : Hid (RcW 0 w10 (newR c) c 0 0 0 0 wn false 0 0 fa fc none 0 none 0) := HW2
      obtain ⟨gy, gc, hgy⟩ := row_form hy2.row (by decide)
      obtain ⟨rfl, _, rfl⟩ := Value.slice.inj hgy
      have kc := run_convert_bytes_arg (P := Try.prog) w10 26 5 Try.underlying26 Try.underlying5 gy 0 13 yc P HP.out.2.1 (fun i hi => by
        have := hy2.row.cells (g := gy) rfl i _ (by rw [List.getElem?_map, List.getElem?_eq_getElem (by rw [HP.out.2.1]; exact hi)]; rfl)
        rw [Addr.add_lit] at this
        rw [this]
        simp [List.getD, HP.out.2.1, hi]) 9 Try.underlying9
      obtain ⟨S, hS⟩ : ∃ S, strOfNums P = S := ⟨_, rfl⟩
      rw [hS] at kc HST
      have HS : Hid (strOfNums P = S) := hS
      have HY9 : Hid (OwnR w10 w8.heap.size 5 1 (.slice (some ⟨gy, 0, none⟩) 13 yc) 13 (P.map (Value.int .u8))) := hy2
      clear hS hy2 HY HW2 hgy
      have cY := xY.cell 10 _ rfl
      have lY := xY.lt
      have dK : (K1 != k1) = false := by have := HH.out.1; simp [this]
      have wK : IntKind.i64.wrap k1 = k1 := by have := HH.out.2.2; rw [IntKind.wrap_i64]; omega
      have hk1 := HH.out.2.2
      have xD : Box w10.drew BX 31 #[.int .i64 c.cB, .int .i64 c.cBeam, .int .i64 c.cDepth, .int .i64 c.cWin, .int .i64 c.cQs, .int .i64 c.cQr, .int .i64 c.cBatch, .int .i64 c.cPass, .int .i64 c.cMsg, .int .i64 c.cSeqs, .int .i64 K, .int .i64 0, .int .i64 0, .int .i64 0, .slice ha2 wn hc2, .bool false, .slice ja2 0 jc2, .slice qa2 0 qc2] := xX.next (Below.refl _ _).drew
      have yD : Box w10.drew BY 31 #[.int .i64 c.cB, .int .i64 c.cBeam, .int .i64 c.cDepth, .int .i64 c.cWin, .int .i64 c.cQs, .int .i64 c.cQr, .int .i64 c.cBatch, .int .i64 c.cPass, .int .i64 c.cMsg, .int .i64 c.cSeqs, .int .i64 K1, .int .i64 0, .int .i64 0, .int .i64 0, .slice ha3 wn hc3, .bool false, .slice ja3 0 jc3, .slice qa3 0 qc3] := xY.next (Below.refl _ _).drew
      have zY : Box (w10.drew.setRow BX #[.int .i64 c.cB, .int .i64 c.cBeam, .int .i64 c.cDepth, .int .i64 c.cWin, .int .i64 c.cQs, .int .i64 c.cQr, .int .i64 c.cBatch, .int .i64 c.cPass, .int .i64 c.cMsg, .int .i64 c.cSeqs, .int .i64 K1, .int .i64 0, .int .i64 0, .int .i64 0, .slice ha3 wn hc3, .bool false, .slice ja3 0 jc3, .slice qa3 0 qc3]) BY 31 #[.int .i64 c.cB, .int .i64 c.cBeam, .int .i64 c.cDepth, .int .i64 c.cWin, .int .i64 c.cQs, .int .i64 c.cQr, .int .i64 c.cBatch, .int .i64 c.cPass, .int .i64 c.cMsg, .int .i64 c.cSeqs, .int .i64 K1, .int .i64 0, .int .i64 0, .int .i64 0, .slice ha3 wn hc3, .bool false, .slice ja3 0 jc3, .slice qa3 0 qc3] := yD.otherRow HNY.out.1 _
      have HKC : Hid (∀ v : World, (v = w10.drew ∨ v = w10.drew.setRow BX #[.int .i64 c.cB, .int .i64 c.cBeam, .int .i64 c.cDepth, .int .i64 c.cWin, .int .i64 c.cQs, .int .i64 c.cQr, .int .i64 c.cBatch, .int .i64 c.cPass, .int .i64 c.cMsg, .int .i64 c.cSeqs, .int .i64 K1, .int .i64 0, .int .i64 0, .int .i64 0, .slice ha3 wn hc3, .bool false, .slice ja3 0 jc3, .slice qa3 0 qc3]) → (convert 26 9 (.slice (some ⟨gy, 0, none⟩) 13 yc)).run Try.prog v = .ok (.string S) v) := fun v hv => by
        have hrv : v.ownsRow w8.heap.size 5 1 (.slice (some ⟨gy, 0, none⟩) 13 yc) 13 (P.map (Value.int .u8)) := by
          rcases hv with rfl | rfl
          · exact (HY9.out.next (Below.refl _ _).drew)
          · exact row_put1 (HY9.out.next (Below.refl _ _).drew) xD (by decide) (fun g hg => setRow_other w10.drew BX g _ hg)
        have := run_convert_bytes_arg (P := Try.prog) v 26 5 Try.underlying26 Try.underlying5 gy 0 13 yc P HP.out.2.1 (fun i hi => by
          have := hrv.cells (g := gy) rfl i _ (by rw [List.getElem?_map, List.getElem?_eq_getElem (by rw [HP.out.2.1]; exact hi)]; rfl)
          rw [Addr.add_lit] at this
          rw [this]
          simp [List.getD, HP.out.2.1, hi]) 9 Try.underlying9
        rw [HS.out] at this
        exact this
      have HBY9 : Hid (∀ v : World, (v = w10.drew ∨ v = w10.drew.setRow BX #[.int .i64 c.cB, .int .i64 c.cBeam, .int .i64 c.cDepth, .int .i64 c.cWin, .int .i64 c.cQs, .int .i64 c.cQr, .int .i64 c.cBatch, .int .i64 c.cPass, .int .i64 c.cMsg, .int .i64 c.cSeqs, .int .i64 K1, .int .i64 0, .int .i64 0, .int .i64 0, .slice ha3 wn hc3, .bool false, .slice ja3 0 jc3, .slice qa3 0 qc3]) → Box v BY 31 #[.int .i64 c.cB, .int .i64 c.cBeam, .int .i64 c.cDepth, .int .i64 c.cWin, .int .i64 c.cQs, .int .i64 c.cQr, .int .i64 c.cBatch, .int .i64 c.cPass, .int .i64 c.cMsg, .int .i64 c.cSeqs, .int .i64 K1, .int .i64 0, .int .i64 0, .int .i64 0, .slice ha3 wn hc3, .bool false, .slice ja3 0 jc3, .slice qa3 0 qc3]) := fun v hv => by
        rcases hv with rfl | rfl
        · exact yD
        · exact zY
      have HNX : Hid (Box (w10.drew.setRow BX #[.int .i64 c.cB, .int .i64 c.cBeam, .int .i64 c.cDepth, .int .i64 c.cWin, .int .i64 c.cQs, .int .i64 c.cQr, .int .i64 c.cBatch, .int .i64 c.cPass, .int .i64 c.cMsg, .int .i64 c.cSeqs, .int .i64 K1, .int .i64 0, .int .i64 0, .int .i64 0, .slice ha3 wn hc3, .bool false, .slice ja3 0 jc3, .slice qa3 0 qc3]) BX 31 #[.int .i64 c.cB, .int .i64 c.cBeam, .int .i64 c.cDepth, .int .i64 c.cWin, .int .i64 c.cQs, .int .i64 c.cQr, .int .i64 c.cBatch, .int .i64 c.cPass, .int .i64 c.cMsg, .int .i64 c.cSeqs, .int .i64 K1, .int .i64 0, .int .i64 0, .int .i64 0, .slice ha3 wn hc3, .bool false, .slice ja3 0 jc3, .slice qa3 0 qc3] ∧ Box (w10.drew.setRow BX #[.int .i64 c.cB, .int .i64 c.cBeam, .int .i64 c.cDepth, .int .i64 c.cWin, .int .i64 c.cQs, .int .i64 c.cQr, .int .i64 c.cBatch, .int .i64 c.cPass, .int .i64 c.cMsg, .int .i64 c.cSeqs, .int .i64 K1, .int .i64 0, .int .i64 0, .int .i64 0, .slice ha3 wn hc3, .bool false, .slice ja3 0 jc3, .slice qa3 0 qc3]) BR 31 #[.int .i64 c.cB, .int .i64 c.cBeam, .int .i64 c.cDepth, .int .i64 c.cWin, .int .i64 c.cQs, .int .i64 c.cQr, .int .i64 c.cBatch, .int .i64 c.cPass, .int .i64 c.cMsg, .int .i64 c.cSeqs, .int .i64 0, .int .i64 0, .int .i64 0, .int .i64 0, .slice fa wn fc, .bool false, .slice none 0 0, .slice none 0 0] ∧ RcW 0 (w10.drew.setRow BX #[.int .i64 c.cB, .int .i64 c.cBeam, .int .i64 c.cDepth, .int .i64 c.cWin, .int .i64 c.cQs, .int .i64 c.cQr, .int .i64 c.cBatch, .int .i64 c.cPass, .int .i64 c.cMsg, .int .i64 c.cSeqs, .int .i64 K1, .int .i64 0, .int .i64 0, .int .i64 0, .slice ha3 wn hc3, .bool false, .slice ja3 0 jc3, .slice qa3 0 qc3]) (clockR c K1) c K1 0 0 0 wn false 0 0 ha3 hc3 ja3 jc3 qa3 qc3 ∧ RcW 0 (w10.drew.setRow BX #[.int .i64 c.cB, .int .i64 c.cBeam, .int .i64 c.cDepth, .int .i64 c.cWin, .int .i64 c.cQs, .int .i64 c.cQr, .int .i64 c.cBatch, .int .i64 c.cPass, .int .i64 c.cMsg, .int .i64 c.cSeqs, .int .i64 K1, .int .i64 0, .int .i64 0, .int .i64 0, .slice ha3 wn hc3, .bool false, .slice ja3 0 jc3, .slice qa3 0 qc3]) (newR c) c 0 0 0 0 wn false 0 0 fa fc none 0 none 0 ∧ Below w.heap.size w (w10.drew.setRow BX #[.int .i64 c.cB, .int .i64 c.cBeam, .int .i64 c.cDepth, .int .i64 c.cWin, .int .i64 c.cQs, .int .i64 c.cQr, .int .i64 c.cBatch, .int .i64 c.cPass, .int .i64 c.cMsg, .int .i64 c.cSeqs, .int .i64 K1, .int .i64 0, .int .i64 0, .int .i64 0, .slice ha3 wn hc3, .bool false, .slice ja3 0 jc3, .slice qa3 0 qc3])) :=
        ⟨xD.setRow _, (xR.next (Below.refl _ _).drew).otherRow HNE.out.1.symm _, (HYY.out.next (Below.refl _ _).drew).put xD (fun g hg => setRow_other _ _ g _ hg), (HWW.out.next (Below.refl _ _).drew).put xD (fun g hg => setRow_other _ _ g _ hg), below_setRow (bb.trans ((Below.refl _ _).drew.mono bb.size)) HNE.out.2 _⟩
      have HKK : Hid (K1 = ((k + 1 : Nat) : Int) ∧ K1 = k1) := ⟨by have := HH.out; push_cast; omega, HH.out.1⟩
      clear xX xR bb HYY HWW yD zY HY9
      by_cases hk0 : k = 0
      · have d0 : decide (0 < (k : Int)) = false := decide_eq_false (by omega)
        have d1 : decide (0 < k) = false := decide_eq_false (by omega)
        clear hk0
        go_upto_region 16 with fail
        clear kc cY lY dK wK hk1 xY d0 d1
        refine wp_region_held_drew (S := fun w' => w' = w10.drew ∨ w' = w10.drew.setRow BX #[.int .i64 c.cB, .int .i64 c.cBeam, .int .i64 c.cDepth, .int .i64 c.cWin, .int .i64 c.cQs, .int .i64 c.cQr, .int .i64 c.cBatch, .int .i64 c.cPass, .int .i64 c.cMsg, .int .i64 c.cSeqs, .int .i64 K1, .int .i64 0, .int .i64 0, .int .i64 0, .slice ha3 wn hc3, .bool false, .slice ja3 0 jc3, .slice qa3 0 qc3]) (by kernel_rfl) (Or.inl rfl) (fun hHeld => ?_)
        refine held_take (i := 0) (d := 90) (v := ?v1) rfl rfl (by kernel_rfl) (by kernel_rfl) (by kernel_rfl) (fun _ _ _ h => h) (Or.inl ⟨by kernel_rfl, ?hy1⟩) hHeld ?rest1
        case hy1 =>
          intro wx hSw
          clear hSw
          go_simp
          with_reducible rfl
        simp only [List.setIfInBounds_toArray, List.set_cons_zero, List.set_cons_succ]
        refine held_take (i := 1) (d := 91) (v := ?v2) rfl rfl (by kernel_rfl) (by kernel_rfl) (by kernel_rfl) (fun _ _ _ h => h) (Or.inl ⟨by kernel_rfl, ?hy2⟩) hHeld ?rest2
        case hy2 =>
          intro wx hSw
          have q0 := HKC.out _ hSw
          clear hSw
          go_simp
          with_reducible rfl
        simp only [List.setIfInBounds_toArray, List.set_cons_zero, List.set_cons_succ]
        refine held_take (i := 2) (d := 92) (v := ?v3) rfl rfl (by kernel_rfl) (by kernel_rfl) (by kernel_rfl) (fun _ _ _ h => h) (Or.inl ⟨by kernel_rfl, ?hy3⟩) hHeld ?rest3
        case hy3 =>
          refine yields_box 31 ?yx3 ?yo3 ?yh3 _ (fun wx hSw => HBY9.out _ hSw) Try.underlying31 rfl (by kernel_rfl)
          case yo3 => rfl
          case yh3 => rfl
        simp only [List.setIfInBounds_toArray, List.set_cons_zero, List.set_cons_succ]
        refine held_take (i := 3) (d := 10) (v := ?v4) rfl rfl (by kernel_rfl) (by kernel_rfl) (by kernel_rfl) (fun _ _ _ h => h) (Or.inl ⟨by kernel_rfl, ?hy4⟩) hHeld ?rest4
        case hy4 =>
          intro wx hSw
          clear hSw
          go_simp
          with_reducible rfl
        simp only [List.setIfInBounds_toArray, List.set_cons_zero, List.set_cons_succ]
        refine wpAnyH_ready (rs := [4]) (by kernel_rfl) (by simp) ?_
        refine AllReadyH.cons rfl (fun K hK => ?_) AllReadyH.nil
        refine step_store_boxn xD rfl 31 _ _ rfl rfl rfl rfl (by kernel_rfl) (by simp [Value.oneCell']) ?_
        simp only [Act.put, List.setIfInBounds_toArray]
        refine hK.out _ _ (Or.inr rfl) (fun hHeld => ?_)
        clear hK K
        refine wpAnyH_done (by kernel_rfl) ?_ _
        clear hHeld HKC HBY9 xD
        generalize w10.drew.setRow BX #[.int .i64 c.cB, .int .i64 c.cBeam, .int .i64 c.cDepth, .int .i64 c.cWin, .int .i64 c.cQs, .int .i64 c.cQr, .int .i64 c.cBatch, .int .i64 c.cPass, .int .i64 c.cMsg, .int .i64 c.cSeqs, .int .i64 K1, .int .i64 0, .int .i64 0, .int .i64 0, .slice ha3 wn hc3, .bool false, .slice ja3 0 jc3, .slice qa3 0 qc3] = w11 at *
        obtain ⟨xX, xR, HX, HW, bb⟩ := HNX.out
        clear HNX
        have wk : IntKind.i64.wrap ((k : Int) + 1) = (k : Int) + 1 := by rw [IntKind.wrap_i64]; omega
        go_wp2
        refine ⟨⟨_, _, _, ⟨k + 1, hlt, by push_cast; rfl, _, rfl, (fun _ => HS.out.symm), ha3, hc3, ja3, jc3, qa3, qc3, by rw [← HKK.out.1]; exact xX, by rw [← HKK.out.1]; exact HX, ?_⟩, rfl, rfl, rfl⟩, by simp [intOf]; omega⟩
        show True
        trivial
      · have d0 : decide (0 < (k : Int)) = true := decide_eq_true (by omega)
        have d1 : decide (0 < k) = true := decide_eq_true (by omega)
        obtain rfl : st = S := HST.out (by omega)
        clear hk0
        go_upto_region 16 with fail
        clear kc cY lY dK wK hk1 xY d0 d1
        refine wp_region_held_drew (S := fun w' => w' = w10.drew ∨ w' = w10.drew.setRow BX #[.int .i64 c.cB, .int .i64 c.cBeam, .int .i64 c.cDepth, .int .i64 c.cWin, .int .i64 c.cQs, .int .i64 c.cQr, .int .i64 c.cBatch, .int .i64 c.cPass, .int .i64 c.cMsg, .int .i64 c.cSeqs, .int .i64 K1, .int .i64 0, .int .i64 0, .int .i64 0, .slice ha3 wn hc3, .bool false, .slice ja3 0 jc3, .slice qa3 0 qc3]) (by kernel_rfl) (Or.inl rfl) (fun hHeld => ?_)
        refine held_take (i := 0) (d := 90) (v := ?v5) rfl rfl (by kernel_rfl) (by kernel_rfl) (by kernel_rfl) (fun _ _ _ h => h) (Or.inl ⟨by kernel_rfl, ?hy5⟩) hHeld ?rest5
        case hy5 =>
          intro wx hSw
          clear hSw
          go_simp
          with_reducible rfl
        simp only [List.setIfInBounds_toArray, List.set_cons_zero, List.set_cons_succ]
        refine held_take (i := 1) (d := 91) (v := ?v6) rfl rfl (by kernel_rfl) (by kernel_rfl) (by kernel_rfl) (fun _ _ _ h => h) (Or.inl ⟨by kernel_rfl, ?hy6⟩) hHeld ?rest6
        case hy6 =>
          intro wx hSw
          have q0 := HKC.out _ hSw
          clear hSw
          go_simp
          with_reducible rfl
        simp only [List.setIfInBounds_toArray, List.set_cons_zero, List.set_cons_succ]
        refine held_take (i := 2) (d := 92) (v := ?v7) rfl rfl (by kernel_rfl) (by kernel_rfl) (by kernel_rfl) (fun _ _ _ h => h) (Or.inl ⟨by kernel_rfl, ?hy7⟩) hHeld ?rest7
        case hy7 =>
          refine yields_box 31 ?yx7 ?yo7 ?yh7 _ (fun wx hSw => HBY9.out _ hSw) Try.underlying31 rfl (by kernel_rfl)
          case yo7 => rfl
          case yh7 => rfl
        simp only [List.setIfInBounds_toArray, List.set_cons_zero, List.set_cons_succ]
        refine held_take (i := 3) (d := 10) (v := ?v8) rfl rfl (by kernel_rfl) (by kernel_rfl) (by kernel_rfl) (fun _ _ _ h => h) (Or.inl ⟨by kernel_rfl, ?hy8⟩) hHeld ?rest8
        case hy8 =>
          intro wx hSw
          clear hSw
          go_simp
          with_reducible rfl
        simp only [List.setIfInBounds_toArray, List.set_cons_zero, List.set_cons_succ]
        refine wpAnyH_ready (rs := [4]) (by kernel_rfl) (by simp) ?_
        refine AllReadyH.cons rfl (fun K hK => ?_) AllReadyH.nil
        refine step_store_boxn xD rfl 31 _ _ rfl rfl rfl rfl (by kernel_rfl) (by simp [Value.oneCell']) ?_
        simp only [Act.put, List.setIfInBounds_toArray]
        refine hK.out _ _ (Or.inr rfl) (fun hHeld => ?_)
        clear hK K
        refine wpAnyH_done (by kernel_rfl) ?_ _
        clear hHeld HKC HBY9 xD
        generalize w10.drew.setRow BX #[.int .i64 c.cB, .int .i64 c.cBeam, .int .i64 c.cDepth, .int .i64 c.cWin, .int .i64 c.cQs, .int .i64 c.cQr, .int .i64 c.cBatch, .int .i64 c.cPass, .int .i64 c.cMsg, .int .i64 c.cSeqs, .int .i64 K1, .int .i64 0, .int .i64 0, .int .i64 0, .slice ha3 wn hc3, .bool false, .slice ja3 0 jc3, .slice qa3 0 qc3] = w11 at *
        obtain ⟨xX, xR, HX, HW, bb⟩ := HNX.out
        clear HNX
        have wk : IntKind.i64.wrap ((k : Int) + 1) = (k : Int) + 1 := by rw [IntKind.wrap_i64]; omega
        go_wp2
        refine ⟨⟨_, _, _, ⟨k + 1, hlt, by push_cast; rfl, _, rfl, (fun _ => HS.out.symm), ha3, hc3, ja3, jc3, qa3, qc3, by rw [← HKK.out.1]; exact xX, by rw [← HKK.out.1]; exact HX, ?_⟩, rfl, rfl, rfl⟩, by simp [intOf]; omega⟩
        show True
        trivial
    · obtain rfl : k = n := by omega
      have HZ := HX.out.zero HC.out
      have qz : ∀ g, g ≠ BX → (w8.setCell ⟨BX, 10, none⟩ (.int .i64 0)).heap[g]? = w8.heap[g]? := fun g hg => Below.heap_setCell _ _ _ g hg
      have hZ := HZ.put xX qz
      have hW := HW.out.put xX qz
      have xR2 := xR.other (p := ⟨BX, 10, none⟩) (show BR ≠ BX from HNE.out.1.symm) (.int .i64 0)
      have xX2 : Box (w8.setCell ⟨BX, 10, none⟩ (.int .i64 0)) BX 31 #[.int .i64 c.cB, .int .i64 c.cBeam, .int .i64 c.cDepth, .int .i64 c.cWin, .int .i64 c.cQs, .int .i64 c.cQr, .int .i64 c.cBatch, .int .i64 c.cPass, .int .i64 c.cMsg, .int .i64 c.cSeqs, .int .i64 0, .int .i64 0, .int .i64 0, .int .i64 0, .slice ha2 wn hc2, .bool false, .slice ja2 0 jc2, .slice qa2 0 qc2] := xX.set 10 _
      have b2 := bb.setCell (p := ⟨BX, 10, none⟩) (show w.heap.size ≤ BX from HNE.out.2) (.int .i64 0)
      have hf := hW.few
      have H3 := keepReceiver_same hW.is (by omega) (by omega) (by omega) (fun y hy => by have := hW.syms y hy; omega) (fun m hm => by have := hW.ok.msgs m hm; omega) ha2 hc2 ja2 jc2 qa2 qc2 fa fc none 0 none 0 _ hZ.at hW.at
      have c10 := xX.cell 10 _ rfl
      have g10 := xX.free 10
      have lX := xX.lt
      clear hf HZ hZ hW bb HX HW qz xR
      go_upto_region 18 with fail
      clear c10 g10 lX xX
      generalize w8.setCell ⟨BX, 10, none⟩ (.int .i64 0) = w9 at *
      go_wp2_with (first | (refine wpList_load_box xX2 rfl 31 _ rfl rfl _ Try.underlying31 rfl (by kernel_rfl) ?_) | (refine wpList_load_box xR2 rfl 31 _ rfl rfl _ Try.underlying31 rfl (by kernel_rfl) ?_))
      refine H3.mono ?_
      rintro e w10 ⟨rfl, b10⟩
      replace b2 := b2.trans (b10.mono b2.size)
      clear b10 H3 xX2 xR2
      go_wp2_with fail
      refine (recvWakes_any _).mono ?_
      rintro e w99 ⟨rfl, b99⟩
      go_wp2
      go_ret
      exact ⟨rfl, b2.trans (b99.mono b2.size)⟩

end Go.Proofs.Ytmjidhnlofpliab

/-
  A configuration as an argument: its ten numbers. No function of the program is spoken of.
-/
namespace Go.Proofs.Ytmjidhnlofpliab
open Go.ChangeShapes Go.WideShapes Go.ChangeAt Go.RowKit

set_option maxRecDepth 100000 in
theorem array10 {α : Type} {cs : Array α} (h : cs.size = 10) : ∃ c0 c1 c2 c3 c4 c5 c6 c7 c8 c9, cs = #[c0, c1, c2, c3, c4, c5, c6, c7, c8, c9] := by
  obtain ⟨l⟩ := cs
  match l, h with
  | [c0, c1, c2, c3, c4, c5, c6, c7, c8, c9], _ => exact ⟨c0, c1, c2, c3, c4, c5, c6, c7, c8, c9, rfl⟩

set_option maxHeartbeats 1000000 in
set_option maxRecDepth 100000 in
theorem cfg_of_trod {H : Type} {enc : TypeId × Value → H} {W : World} {base : Nat} {spare : Nat → Bool} {held : Bool} {r : Reach} {b0 : Nat} {v : Value} {d : DataW H} {p : List MemPlace} (hv : Value.okWide Try.prog W r b0 23 v) (h : DataW.Trod enc Try.prog W base spare held 23 v d p) : ∃ c : Cfg, v = .agg #[.int .i64 c.cB, .int .i64 c.cBeam, .int .i64 c.cDepth, .int .i64 c.cWin, .int .i64 c.cQs, .int .i64 c.cQr, .int .i64 c.cBatch, .int .i64 c.cPass, .int .i64 c.cMsg, .int .i64 c.cSeqs] := by
  have hC : Try.prog.cellsOf 23 = 10 := by kernel_rfl
  have hI : Try.prog.cellsOf 3 = 1 := by kernel_rfl
  obtain ⟨cs, rfl, hsz⟩ := okWide_struct Try.underlying23 hv
  obtain ⟨c0, c1, c2, c3, c4, c5, c6, c7, c8, c9, rfl⟩ := array10 (hsz.trans hC)
  obtain ⟨fuel, hf⟩ := h
  obtain ⟨xs, n, _, _, _, hlen, hg⟩ := DataW.trod_struct Try.underlying23 hf
  have hl : xs.length = 10 := hlen
  have k0 : DataW.trod enc Try.prog W base spare held n 3 (((Value.agg #[c0, c1, c2, c3, c4, c5, c6, c7, c8, c9]).cells.toList.drop 0).take (Try.prog.cellsOf 3)) = xs[0]? := hg 0 _ rfl
  rw [List.getElem?_eq_getElem (show 0 < xs.length by omega), show ((Value.agg #[c0, c1, c2, c3, c4, c5, c6, c7, c8, c9]).cells.toList.drop 0).take (Try.prog.cellsOf 3) = [c0] by rw [hI]; rfl] at k0
  obtain ⟨n0, e0, _, _⟩ := DataW.trod_int Try.underlying3 k0
  have k1 : DataW.trod enc Try.prog W base spare held n 3 (((Value.agg #[c0, c1, c2, c3, c4, c5, c6, c7, c8, c9]).cells.toList.drop 1).take (Try.prog.cellsOf 3)) = xs[1]? := hg 1 _ rfl
  rw [List.getElem?_eq_getElem (show 1 < xs.length by omega), show ((Value.agg #[c0, c1, c2, c3, c4, c5, c6, c7, c8, c9]).cells.toList.drop 1).take (Try.prog.cellsOf 3) = [c1] by rw [hI]; rfl] at k1
  obtain ⟨n1, e1, _, _⟩ := DataW.trod_int Try.underlying3 k1
  have k2 : DataW.trod enc Try.prog W base spare held n 3 (((Value.agg #[c0, c1, c2, c3, c4, c5, c6, c7, c8, c9]).cells.toList.drop 2).take (Try.prog.cellsOf 3)) = xs[2]? := hg 2 _ rfl
  rw [List.getElem?_eq_getElem (show 2 < xs.length by omega), show ((Value.agg #[c0, c1, c2, c3, c4, c5, c6, c7, c8, c9]).cells.toList.drop 2).take (Try.prog.cellsOf 3) = [c2] by rw [hI]; rfl] at k2
  obtain ⟨n2, e2, _, _⟩ := DataW.trod_int Try.underlying3 k2
  have k3 : DataW.trod enc Try.prog W base spare held n 3 (((Value.agg #[c0, c1, c2, c3, c4, c5, c6, c7, c8, c9]).cells.toList.drop 3).take (Try.prog.cellsOf 3)) = xs[3]? := hg 3 _ rfl
  rw [List.getElem?_eq_getElem (show 3 < xs.length by omega), show ((Value.agg #[c0, c1, c2, c3, c4, c5, c6, c7, c8, c9]).cells.toList.drop 3).take (Try.prog.cellsOf 3) = [c3] by rw [hI]; rfl] at k3
  obtain ⟨n3, e3, _, _⟩ := DataW.trod_int Try.underlying3 k3
  have k4 : DataW.trod enc Try.prog W base spare held n 3 (((Value.agg #[c0, c1, c2, c3, c4, c5, c6, c7, c8, c9]).cells.toList.drop 4).take (Try.prog.cellsOf 3)) = xs[4]? := hg 4 _ rfl
  rw [List.getElem?_eq_getElem (show 4 < xs.length by omega), show ((Value.agg #[c0, c1, c2, c3, c4, c5, c6, c7, c8, c9]).cells.toList.drop 4).take (Try.prog.cellsOf 3) = [c4] by rw [hI]; rfl] at k4
  obtain ⟨n4, e4, _, _⟩ := DataW.trod_int Try.underlying3 k4
  have k5 : DataW.trod enc Try.prog W base spare held n 3 (((Value.agg #[c0, c1, c2, c3, c4, c5, c6, c7, c8, c9]).cells.toList.drop 5).take (Try.prog.cellsOf 3)) = xs[5]? := hg 5 _ rfl
  rw [List.getElem?_eq_getElem (show 5 < xs.length by omega), show ((Value.agg #[c0, c1, c2, c3, c4, c5, c6, c7, c8, c9]).cells.toList.drop 5).take (Try.prog.cellsOf 3) = [c5] by rw [hI]; rfl] at k5
  obtain ⟨n5, e5, _, _⟩ := DataW.trod_int Try.underlying3 k5
  have k6 : DataW.trod enc Try.prog W base spare held n 3 (((Value.agg #[c0, c1, c2, c3, c4, c5, c6, c7, c8, c9]).cells.toList.drop 6).take (Try.prog.cellsOf 3)) = xs[6]? := hg 6 _ rfl
  rw [List.getElem?_eq_getElem (show 6 < xs.length by omega), show ((Value.agg #[c0, c1, c2, c3, c4, c5, c6, c7, c8, c9]).cells.toList.drop 6).take (Try.prog.cellsOf 3) = [c6] by rw [hI]; rfl] at k6
  obtain ⟨n6, e6, _, _⟩ := DataW.trod_int Try.underlying3 k6
  have k7 : DataW.trod enc Try.prog W base spare held n 3 (((Value.agg #[c0, c1, c2, c3, c4, c5, c6, c7, c8, c9]).cells.toList.drop 7).take (Try.prog.cellsOf 3)) = xs[7]? := hg 7 _ rfl
  rw [List.getElem?_eq_getElem (show 7 < xs.length by omega), show ((Value.agg #[c0, c1, c2, c3, c4, c5, c6, c7, c8, c9]).cells.toList.drop 7).take (Try.prog.cellsOf 3) = [c7] by rw [hI]; rfl] at k7
  obtain ⟨n7, e7, _, _⟩ := DataW.trod_int Try.underlying3 k7
  have k8 : DataW.trod enc Try.prog W base spare held n 3 (((Value.agg #[c0, c1, c2, c3, c4, c5, c6, c7, c8, c9]).cells.toList.drop 8).take (Try.prog.cellsOf 3)) = xs[8]? := hg 8 _ rfl
  rw [List.getElem?_eq_getElem (show 8 < xs.length by omega), show ((Value.agg #[c0, c1, c2, c3, c4, c5, c6, c7, c8, c9]).cells.toList.drop 8).take (Try.prog.cellsOf 3) = [c8] by rw [hI]; rfl] at k8
  obtain ⟨n8, e8, _, _⟩ := DataW.trod_int Try.underlying3 k8
  have k9 : DataW.trod enc Try.prog W base spare held n 3 (((Value.agg #[c0, c1, c2, c3, c4, c5, c6, c7, c8, c9]).cells.toList.drop 9).take (Try.prog.cellsOf 3)) = xs[9]? := hg 9 _ rfl
  rw [List.getElem?_eq_getElem (show 9 < xs.length by omega), show ((Value.agg #[c0, c1, c2, c3, c4, c5, c6, c7, c8, c9]).cells.toList.drop 9).take (Try.prog.cellsOf 3) = [c9] by rw [hI]; rfl] at k9
  obtain ⟨n9, e9, _, _⟩ := DataW.trod_int Try.underlying3 k9
  simp only [List.cons.injEq, and_true] at e0 e1 e2 e3 e4 e5 e6 e7 e8 e9
  subst e0 e1 e2 e3 e4 e5 e6 e7 e8 e9
  exact ⟨⟨n0, n1, n2, n3, n4, n5, n6, n7, n8, n9⟩, rfl⟩

end Go.Proofs.Ytmjidhnlofpliab
