/-
  The end that sends, ticked: what was told stays told; where each packet stands, which block it is of. No function of the program is spoken of.
-/
import Derived.Test.YtkphjnbeakkejabDoorM01
import Derived.Test.YtkphjnbeakkejabDoorM22
import Derived.Test.YtkphjnbeakkejabDoorM23
import Derived.Test.YtkphjnbeakkejabDoorM24
import Derived.Test.YtkphjnbeakkejabDoorM28
import Derived.Test.YtkphjnbeakkejabDoorM29
import Derived.Test.YtkphjnbeakkejabDoorM30
import Derived.Test.YtkphjnbeakkejabDoorM32
import Derived.Test.YtkphjnbeakkejabDoorM33
import Derived.Deep.Slices
import Derived.OpenShut
import Derived.ProofKit
import Derived.WalkKit
namespace Go.Proofs.YtkphjnbeakkejabDoor
open Go.RowKit

/-- Nothing is had; of the window, what was told is acked, nothing else. -/
structure TkI (c : Cfg) (b : Nat) (s : Sn) : Prop where
  ok : okS s
  same : s.sC = c
  base : s.sF = 0
  told : ∀ (k : Nat) (e : Em), s.sW[k]? = some e → k < winS s → e.eA = hasA 0 b (k : Int)
theorem tkI_learnt {c : Cfg} {M : List (List Int)} {s : Sn} (h : OnlyS c M s) (b : Nat) : TkI c b (learnt s 0 b) := by
  have hb := h.base
  refine ⟨learnt_ok h.ok (by omega) (by omega) b, h.same, rfl, fun k e hk hw => ?_⟩
  rw [learnt_get] at hk
  rw [show (0 - s.sF).toNat + k = k by omega] at hk
  cases hx : s.sW[k]? with
  | none => rw [hx] at hk; cases hk
  | some x =>
    rw [hx] at hk
    have h2 := (h.ok.all k x hx).1
    rw [h.waits, waitsB_get] at hx
    cases hz : (allB c M)[k]? with
    | none => rw [hz] at hx; cases hx
    | some z =>
      rw [hz] at hx
      simp only [Option.map_some, Option.some.injEq] at hk hx
      have hw' : k < winS s := hw
      rw [if_pos hw'] at hk
      subst hk
      subst hx
      show (false || hasA 0 b (0 + (k : Int))) = _
      rw [Bool.false_or, Int.zero_add]
theorem tkI_tick {c : Cfg} {b : Nat} {s : Sn} (h : TkI c b s) : TkI c b (tickS s) := by
  refine ⟨tickS_ok h.ok, h.same, h.base, fun k e hk hw => ?_⟩
  rw [tickS_get] at hk
  cases hx : s.sW[k]? with
  | none => rw [hx] at hk; cases hk
  | some x =>
    rw [hx] at hk
    have hw' : k < winS s := hw
    simp only [Option.map_some, Option.some.injEq] at hk
    rw [if_pos hw'] at hk
    subst hk
    rw [(tickM_same _ _).2.1]
    exact h.told k x hx hw'
/-- The packet of the block at k, if it is not acked: where it stands, what it is. -/
theorem tkI_pack {c : Cfg} {b : Nat} {s : Sn} (h : TkI c b s) {k : Nat} (hk : k < s.sW.length) (hw : k < winS s) (ha : hasA 0 b (k : Int) = false) :
    ∃ zs, (packS s)[(packUpS s k).length]? = some zs ∧ okD zs ∧ dS zs = (k : Int) ∧ (∀ z ∈ zs, 0 ≤ z ∧ z ≤ 255) ∧ (packUpS s (k + 1)).length = (packUpS s k).length + 1 := by
  obtain ⟨e, he⟩ : ∃ e, s.sW[k]? = some e := ⟨s.sW[k], by simp [hk]⟩
  have h1 := h.ok.all k e he
  have h2 := h.told k e he hw
  rw [ha] at h2
  have h3 := em_right h.ok.conf h1.2
  refine ⟨_, packUpS_get hw he h2, okD_pack h3, (dS_pack h3).trans ?_, packD_bd h3 (emX_bd _ _ _), ?_⟩
  · rw [h1.1, h.base, Int.zero_add]
  · rw [packUpS_step hw he, packM_some.2 ⟨h2, rfl⟩]
    simp
theorem tkI_skip {c : Cfg} {b : Nat} {s : Sn} (h : TkI c b s) {k : Nat} (hk : k < s.sW.length) (hw : k < winS s) (ha : hasA 0 b (k : Int) = true) : packUpS s (k + 1) = packUpS s k := by
  obtain ⟨e, he⟩ : ∃ e, s.sW[k]? = some e := ⟨s.sW[k], by simp [hk]⟩
  have h2 := h.told k e he hw
  rw [ha] at h2
  rw [packUpS_step hw he]
  have : packM s.sC e = none := if_pos h2
  rw [this]
  simp
theorem packUpS_le (s : Sn) (k : Nat) : (packUpS s k).length ≤ k := by
  unfold packUpS
  refine Nat.le_trans (List.length_filterMap_le _ _) ?_
  rw [List.length_take]
  omega
theorem hasA_zero {b k : Nat} (h : k < 32) : hasA 0 b (k : Int) = (b / 2 ^ k % 2 == 1) := by
  have := hasA_bit (n := 0) (b := b) (i := k) (Int.le_refl _) h
  rwa [Int.zero_add] at this

end Go.Proofs.YtkphjnbeakkejabDoor

/-
  Lists of texts, as they lie and as arguments.
-/
namespace Go.Proofs.YtkphjnbeakkejabDoor
open Go.RowKit

/-- The slice at a holds these texts, in a block below n₀. -/
def Texts (n₀ : Nat) (W : World) (a : Option Addr) (n : Nat) (l : List (List Int)) : Prop := l.length = n ∧ ∀ (j : Nat) (x : List Int), l[j]? = some x → ∃ b off xa xc, a = some ⟨b, off, none⟩ ∧ b < n₀ ∧ W.cell? ⟨b, off + j, none⟩ = some (.slice xa x.length xc) ∧ Holds .u8 n₀ W (.slice xa x.length xc) x ∧ x.length ≤ xc ∧ ∀ z ∈ x, 0 ≤ z ∧ z ≤ 255
theorem Texts.next {n₀ : Nat} {W W' : World} {a : Option Addr} {n : Nat} {l : List (List Int)} (h : Texts n₀ W a n l) (k : Below n₀ W W') : Texts n₀ W' a n l := by
  refine ⟨h.1, fun j x hj => ?_⟩
  obtain ⟨b, off, xa, xc, h0, h1, h2, h6, h7⟩ := h.2 j x hj
  exact ⟨b, off, xa, xc, h0, h1, (k.cell (p := ⟨b, off + j, none⟩) h1).trans h2, h6.below k, h7⟩
theorem cellsU8L : Tryd.prog.cellsOf 5 = 1 := by kernel_rfl
theorem cellsBytesL : Tryd.prog.cellsOf 33 = 1 := by kernel_rfl

/-- A text that came in, opened. -/
theorem text_of_trod {H : Type} {enc : TypeId × Value → H} {w : World} {base : Nat} {held : Bool} {fuel : Nat} {v : Value} {x : DataW H × List MemPlace}
    (h : DataW.trod enc Tryd.prog w base (fun _ => true) held fuel 33 [v] = some x) : ∃ a ys c, v = .slice a ys.length c ∧ Holds .u8 w.heap.size w v ys ∧ ys.length ≤ c ∧ ∀ z ∈ ys, 0 ≤ z ∧ z ≤ 255 := by
  rcases Go.ChangeShapes.open_ints Tryd.underlying33 Tryd.underlying5 cellsU8L h with ⟨hcs, _⟩ | ⟨x3, l3, c3', zs, hcs, _, hl3, hm3, hz, _, hcell3, hwz⟩
  · simp at hcs
    subst hcs
    exact ⟨_, [], _, rfl, .inl ⟨⟨_, _, rfl, fun _ => rfl⟩, rfl⟩, Nat.le_refl _, by simp⟩
  · simp at hcs
    subst hcs
    obtain ⟨ys, e, hy, hw⟩ := holds_of_isRow (kd := .u8) (w := w) (a := some x3) (len := l3) (cap := c3') (zs := zs) (.inr ⟨x3, rfl, hl3, hm3, by simpa using hz, hcell3, hwz⟩)
    subst e
    exact ⟨_, ys, _, rfl, hy, hl3, bytes_bd hw⟩

set_option maxRecDepth 100000 in
set_option maxHeartbeats 1000000 in
/-- A list of texts that came in, opened. -/
theorem texts_of_trod {H : Type} {enc : TypeId × Value → H} {w : World} {base : Nat} {held : Bool} {fuel : Nat} {a : Option Addr} {len cap : Nat} {x : DataW H × List MemPlace}
    (h : DataW.trod enc Tryd.prog w base (fun _ => true) held fuel 24 [.slice a len cap] = some x) : ∃ l, Texts w.heap.size w a len l := by
  rcases Go.Deep.open_slice Tryd.underlying24 h with ⟨hcs, _⟩ | ⟨ad, len', cap', m, n, D, Pl, hcs, _, hl, hc, hm, _, hx⟩
  · simp at hcs
    obtain ⟨rfl, rfl, rfl⟩ := hcs
    exact ⟨[], rfl, fun j x hj => by simp at hj⟩
  · simp at hcs
    obtain ⟨rfl, rfl, rfl⟩ := hcs
    have hlm : len ≤ m := by rw [hm]; split <;> omega
    have each : ∀ i, i < len → ∃ q : List Int × Option Addr × Nat, w.cell? (ad.add i) = some (.slice q.2.1 q.1.length q.2.2) ∧ Holds .u8 w.heap.size w (.slice q.2.1 q.1.length q.2.2) q.1 ∧ q.1.length ≤ q.2.2 ∧ ∀ z ∈ q.1, 0 ≤ z ∧ z ≤ 255 := by
      intro i hi
      obtain ⟨cs', h1, h2⟩ := hx i (by omega)
      rw [cellsBytesL] at h1
      obtain ⟨_, hlen, hcell⟩ := World.cells?_some h1
      match cs', hlen with
      | [v0], _ =>
        obtain ⟨a3, ys, c3, rfl, hy, h3, h5⟩ := text_of_trod h2
        have c0 := hcell 0 (by omega)
        simp at c0
        exact ⟨(ys, a3, c3), by simpa [Go.Deep.add_add] using c0, hy, h3, h5⟩
    by_cases h0 : len = 0
    · subst h0
      exact ⟨[], rfl, fun j x hj => by simp at hj⟩
    · haveI : Inhabited (List Int × Option Addr × Nat) := ⟨([], none, 0)⟩
      obtain ⟨q, hq⟩ := Go.Deep.choose_lt each
      obtain ⟨b, off, spot⟩ := ad
      have hspot : spot = none := by
        have := (hq 0 (by omega)).1
        simpa [Addr.add] using World.cell?_spot this
      subst hspot
      refine ⟨(List.range len).map fun i => (q i).1, by simp, fun j x hj => ?_⟩
      have hjl : j < len := by have := (List.getElem?_eq_some_iff.1 hj).1; simpa using this
      rw [List.getElem?_map, List.getElem?_range hjl] at hj
      simp at hj
      subst hj
      obtain ⟨g1, g2, g3, g5⟩ := hq j hjl
      rw [Go.WideShapes.add_plain] at g1
      exact ⟨b, off, (q j).2.1, (q j).2.2, rfl, by have := cell_block_lt g1; exact this, g1, g2, g3, g5⟩

end Go.Proofs.YtkphjnbeakkejabDoor

/-
  The walk of SendTicks. (Written by tpl_sendlaws.py.)
-/
namespace Go.Proofs.YtkphjnbeakkejabDoor
open Go.RowKit

/-- Bytes that are held, with .next. -/
def HB9 (W : World) (v : Value) (zs : List Int) : Prop := Holds .u8 W.heap.size W v zs
theorem HB9.out {W : World} {v : Value} {zs : List Int} (h : HB9 W v zs) : Holds .u8 W.heap.size W v zs := h
theorem hOld_of {W : World} {base n : Nat} {v : Value} {zs : List Int} (h : W.ownsRow base 5 1 v n (zs.map (Value.int .u8))) : HB9 W v zs := holds_of_row h
theorem txsO_at {base n cap : Nat} {W : World} {a : Option Addr} {l : List (List Int)} (h : StsAt txK base W (.slice a n cap) l) {k : Nat} {xs : List Int} (hk : l[k]? = some xs) :
    ∃ gb off pa pc, a = some ⟨gb, off, none⟩ ∧ gb < W.heap.size ∧ W.cell? ⟨gb, off + k, none⟩ = some (.slice pa xs.length pc) ∧ Holds .u8 W.heap.size W (.slice pa xs.length pc) xs ∧ xs.length ≤ pc := by
  obtain ⟨r, h1, h2, h3⟩ := h
  obtain ⟨x, hx, rfl⟩ : ∃ x, r[k]? = some x ∧ x.1 = xs := by
    rw [← h1, List.getElem?_map] at hk
    cases hr : r[k]? with
    | none => rw [hr] at hk; simp at hk
    | some x => rw [hr] at hk; exact ⟨x, rfl, by simpa using hk⟩
  have hs := h3.subs x (List.mem_of_getElem? hx)
  obtain ⟨p, hp⟩ : ∃ p, x.2 = [p] := by
    have h4 : x.2.length = 1 := hs.1
    match h5 : x.2, h4 with
    | [p], _ => exact ⟨p, rfl⟩
  have ho : W.ownsRow base 5 1 p x.1.length (x.1.map (Value.int .u8)) := hs.2 0 p ⟨5, 1, x.1.length, x.1.map (Value.int .u8)⟩ (by rw [hp]; rfl) rfl
  obtain ⟨pa, pc, rfl⟩ := row_shapeS ho
  rcases h2.holds with ⟨_, e, _⟩ | ⟨b, off, c', e, hb, hc⟩
  · have := (List.getElem?_eq_some_iff.1 hk).1
    omega
  · cases e
    refine ⟨b, off, pa, pc, rfl, hb, ?_, holds_of_row ho, rowK_cap ho⟩
    have h6 := hc _ _ (cellsK_get txK hx 0 (.slice pa x.1.length pc) (by rw [hp]; rfl))
    rwa [show txK.k = 1 from rfl, Nat.mul_one, Nat.add_zero] at h6
set_option maxRecDepth 100000 in
set_option maxHeartbeats 8000000 in
theorem sendTicks_walk (cq : Cfg) (ba : Option Addr) (mt kc : Nat) (l : List (List Int)) (bits ticks : Int) (hbits : 0 ≤ bits ∧ bits < 4294967296) (w : World) (hF : Firsts w) (hT : Texts w.heap.size w ba mt l) :
    Calls Tryd.prog 4 #[.agg #[.int .i64 cq.cB, .int .i64 cq.cBeam, .int .i64 cq.cDepth, .int .i64 cq.cWin, .int .i64 cq.cQs, .int .i64 cq.cQr, .int .i64 cq.cBatch, .int .i64 cq.cPass, .int .i64 cq.cMsg, .int .i64 cq.cSeqs], .slice ba mt kc, .int .u32 bits, .int .i64 ticks] w fun e w' => e = .returned (.bool true) ∧ Below w.heap.size w w' := by
  obtain ⟨b, rfl⟩ : ∃ b : Nat, bits = (b : Int) := ⟨bits.toNat, by omega⟩
  obtain ⟨q, hq, hq0, hq1⟩ := mod_u64 ticks 5 (by decide) (by decide)
  have bb : Below w.heap.size w (w.alloc (.cells #[.int .i64 cq.cB, .int .i64 cq.cBeam, .int .i64 cq.cDepth, .int .i64 cq.cWin, .int .i64 cq.cQs, .int .i64 cq.cQr, .int .i64 cq.cBatch, .int .i64 cq.cPass, .int .i64 cq.cMsg, .int .i64 cq.cSeqs] 23)) := (Below.refl _ _).alloc (Nat.le_refl _) _
  have xC := Box.new w 23 #[.int .i64 cq.cB, .int .i64 cq.cBeam, .int .i64 cq.cDepth, .int .i64 cq.cWin, .int .i64 cq.cQs, .int .i64 cq.cQr, .int .i64 cq.cBatch, .int .i64 cq.cPass, .int .i64 cq.cMsg, .int .i64 cq.cSeqs]
  have HT : Hid (Texts w.heap.size w ba mt l) := hT
  have HF0 : Hid (Firsts w) := hF
  clear hT hF
  go_enter Tryd.func4, Tryd.ntmps4
  go_wp2_with (first | (refine wpList_load_box xC rfl 23 _ rfl rfl _ Tryd.underlying23 rfl (by kernel_rfl) ?_))
  refine (small_any cq _).mono ?_
  rintro e w1 ⟨c, rfl, hSm, b9⟩
  replace xC := xC.next b9
  replace bb := bb.trans (b9.mono bb.size)
  clear b9
  go_upto_region 2 with (first | (refine wpList_store_box xC rfl 23 _ _ rfl rfl rfl rfl (by kernel_rfl) (by simp [Value.oneCell']) ?_))
  replace xC := xC.setRow #[.int .i64 c.cB, .int .i64 c.cBeam, .int .i64 c.cDepth, .int .i64 c.cWin, .int .i64 c.cQs, .int .i64 c.cQr, .int .i64 c.cBatch, .int .i64 c.cPass, .int .i64 c.cMsg, .int .i64 c.cSeqs]
  replace bb := below_setRow bb (Nat.le_refl _) #[.int .i64 c.cB, .int .i64 c.cBeam, .int .i64 c.cDepth, .int .i64 c.cWin, .int .i64 c.cQs, .int .i64 c.cQr, .int .i64 c.cBatch, .int .i64 c.cPass, .int .i64 c.cMsg, .int .i64 c.cSeqs]
  generalize w1.setRow w.heap.size #[.int .i64 c.cB, .int .i64 c.cBeam, .int .i64 c.cDepth, .int .i64 c.cWin, .int .i64 c.cQs, .int .i64 c.cQr, .int .i64 c.cBatch, .int .i64 c.cPass, .int .i64 c.cMsg, .int .i64 c.cSeqs] = w2 at *
  have hC := hSm.ok
  have HSM : Hid (SmallC c) := hSm
  clear hSm
  by_cases h10 : 10 < mt
  · have d1 : decide (10 < mt) = true := decide_eq_true h10
    have d1i : decide (10 < (mt : Int)) = true := decide_eq_true (by omega)
    clear h10
    go_wp2
    go_ret
    exact ⟨rfl, bb⟩
  have d1 : decide (10 < mt) = false := decide_eq_false h10
  have d1i : decide (10 < (mt : Int)) = false := decide_eq_false (by omega)
  have hm10 : mt ≤ 10 := by omega
  clear h10
  go_wp2_with (first | (refine wpList_load_box xC rfl 23 _ rfl rfl _ Tryd.underlying23 rfl (by kernel_rfl) ?_))
  refine (sendNew_law c hC _).mono ?_
  rintro e w3 ⟨rfl, h1, b9⟩
  replace xC := xC.next b9
  replace bb := bb.trans (b9.mono bb.size)
  have HW : Hid (SnW (w3.heap.size + 1) w3 (newS c) c false 0 0 0 0 0 0 0 0 none 0 none 0 0) := (h1 _).out
  have bA : Below w3.heap.size w3 (w3.alloc (.cells #[.int .i64 0, .int .i64 0, .int .i64 0, .int .i64 0, .int .i64 0, .int .i64 0, .int .i64 0, .int .i64 0, .int .i64 0, .int .i64 0, .bool false, .int .i64 0, .int .i64 0, .int .i64 0, .int .i64 0, .int .i64 0, .int .i64 0, .slice none 0 0, .slice none 0 0] 29)) := (Below.refl _ _).alloc (Nat.le_refl _) _
  have xS := Box.new w3 29 #[.int .i64 0, .int .i64 0, .int .i64 0, .int .i64 0, .int .i64 0, .int .i64 0, .int .i64 0, .int .i64 0, .int .i64 0, .int .i64 0, .bool false, .int .i64 0, .int .i64 0, .int .i64 0, .int .i64 0, .int .i64 0, .int .i64 0, .slice none 0 0, .slice none 0 0]
  have HDC : Hid (w.heap.size < w3.heap.size) := xC.lt
  clear b9 h1 d1 d1i
  go_upto_region 5 with (first | (refine wpList_store_box xS rfl 29 _ _ rfl rfl rfl rfl (by kernel_rfl) (by simp [Value.oneCell']) ?_))
  have bB := below_setRow bA (Nat.le_refl _) #[.int .i64 c.cB, .int .i64 c.cBeam, .int .i64 c.cDepth, .int .i64 c.cWin, .int .i64 c.cQs, .int .i64 c.cQr, .int .i64 c.cBatch, .int .i64 c.cPass, .int .i64 c.cMsg, .int .i64 c.cSeqs, .bool false, .int .i64 0, .int .i64 0, .int .i64 0, .int .i64 0, .int .i64 0, .int .i64 0, .slice none 0 0, .slice none 0 0]
  replace xS := xS.setRow #[.int .i64 c.cB, .int .i64 c.cBeam, .int .i64 c.cDepth, .int .i64 c.cWin, .int .i64 c.cQs, .int .i64 c.cQr, .int .i64 c.cBatch, .int .i64 c.cPass, .int .i64 c.cMsg, .int .i64 c.cSeqs, .bool false, .int .i64 0, .int .i64 0, .int .i64 0, .int .i64 0, .int .i64 0, .int .i64 0, .slice none 0 0, .slice none 0 0]
  replace xC := xC.next bB
  have hW := HW.out.next bB
  replace bb := bb.trans (bB.mono bb.size)
  obtain ⟨D, hD⟩ : ∃ D, w3.heap.size = D := ⟨_, rfl⟩
  rw [hD] at xS xC hW bb HDC ⊢
  clear bA bB hD HW
  generalize (w3.alloc (.cells #[.int .i64 0, .int .i64 0, .int .i64 0, .int .i64 0, .int .i64 0, .int .i64 0, .int .i64 0, .int .i64 0, .int .i64 0, .int .i64 0, .bool false, .int .i64 0, .int .i64 0, .int .i64 0, .int .i64 0, .int .i64 0, .int .i64 0, .slice none 0 0, .slice none 0 0] 29)).setRow D #[.int .i64 c.cB, .int .i64 c.cBeam, .int .i64 c.cDepth, .int .i64 c.cWin, .int .i64 c.cQs, .int .i64 c.cQr, .int .i64 c.cBatch, .int .i64 c.cPass, .int .i64 c.cMsg, .int .i64 c.cSeqs, .bool false, .int .i64 0, .int .i64 0, .int .i64 0, .int .i64 0, .int .i64 0, .int .i64 0, .slice none 0 0, .slice none 0 0] = w4 at *
  have HW4 : Hid (SnW (D + 1) w4 (newS c) c false 0 0 0 0 0 0 0 0 none 0 none 0 0) := hW
  have HON : Hid (OnlyS c [] (newS c)) := only_new hC
  have HC : Hid (okC c = true) := hC
  clear hC hW
  go_wp2_with fail
  go_loopw [11] (fun i wr => ∃ k : Nat, k ≤ mt ∧ i = .int .i64 (k : Int) ∧ ∃ (s : Sn) (P : List (List Int)) (R B N T F : Int) (E M : Nat) (ea : Option Addr) (ec : Nat) (wa : Option Addr) (wc : Nat), Hid (OnlyS c P s ∧ s.sX = false ∧ P.length ≤ k) ∧ Hid (SnW (D + 1) wr s c false 0 R B N T F E M ea ec wa wc (200 * k)) ∧ Box wr D 29 #[.int .i64 c.cB, .int .i64 c.cBeam, .int .i64 c.cDepth, .int .i64 c.cWin, .int .i64 c.cQs, .int .i64 c.cQr, .int .i64 c.cBatch, .int .i64 c.cPass, .int .i64 c.cMsg, .int .i64 c.cSeqs, .bool false, .int .i64 0, .int .i64 R, .int .i64 B, .int .i64 N, .int .i64 T, .int .i64 F, .slice ea E ec, .slice wa M wc] ∧ Box wr w.heap.size 23 #[.int .i64 c.cB, .int .i64 c.cBeam, .int .i64 c.cDepth, .int .i64 c.cWin, .int .i64 c.cQs, .int .i64 c.cQr, .int .i64 c.cBatch, .int .i64 c.cPass, .int .i64 c.cMsg, .int .i64 c.cSeqs] ∧ Below w.heap.size w wr) (fun i _ => mt - (intOf i).toNat)
  case atStart => exact ⟨0, Nat.zero_le _, rfl, newS c, [], 0, 0, 0, 0, 0, 0, 0, none, 0, none, 0, ⟨HON.out, rfl, Nat.le_refl _⟩, HW4, xS, xC, bb⟩
  case round =>
    clear HON HW4 xS xC bb
    obtain ⟨k, hk, rfl, s, P, R, B, N, T, F, E, M, ea, ec, wa, wc, HON, HSW, xS, xC, bb⟩ := hrel
    generalize hwr : wr = w5 at *
    clear hwr
    by_cases hlt : k < mt
    · obtain ⟨x, hx⟩ : ∃ x, l[k]? = some x := ⟨l[k]'(by rw [HT.out.1]; exact hlt), by simp⟩
      obtain ⟨bT, off, xa, xc, rfl, hbT, hcT, hHT, hxc, hxb⟩ := HT.out.2 k x hx
      obtain ⟨n, hn⟩ : ∃ n, x.length = n := ⟨_, rfl⟩
      rw [hn] at hcT hHT hxc
      have HTX : Hid (Holds .u8 w.heap.size w (.slice xa n xc) x) := hHT
      replace hcT := (bb.cell (p := ⟨bT, off + k, none⟩) hbT).trans hcT
      have dk : decide (k < mt) = true := decide_eq_true hlt
      have dki : decide ((k : Int) < (mt : Int)) = true := decide_eq_true (by omega)
      have HBT : Hid (bT < w.heap.size) := hbT
      clear hx hHT
      by_cases h4 : 400 < n
      · have d4 : decide (400 < n) = true := decide_eq_true h4
        have d4i : decide (400 < (n : Int)) = true := decide_eq_true (by omega)
        clear h4
        go_wp2
        go_ret
        exact ⟨rfl, bb⟩
      have d4 : decide (400 < n) = false := decide_eq_false h4
      have d4i : decide (400 < (n : Int)) = false := decide_eq_false (by omega)
      clear h4
      go_upto_region 12 with fail
      clear d4 d4i
      replace hbT : bT < D := by have := HDC.out; omega
      have HTD : Hid (Holds .u8 w5.drew.heap.size w5.drew (.slice xa n xc) x) := (HTX.out.below bb).mono bb.size
      have HSD : Hid (Holds .u8 w5.drew.heap.size w5.drew (.slice xa n xc) x → _) := fun hx => sendSend_law (w := w5.drew) (HSW.out.next (Below.refl _ _).drew) (by omega) xa n xc x hn hxc hxb hx
      have xSd : Box w5.drew D 29 #[.int .i64 c.cB, .int .i64 c.cBeam, .int .i64 c.cDepth, .int .i64 c.cWin, .int .i64 c.cQs, .int .i64 c.cQr, .int .i64 c.cBatch, .int .i64 c.cPass, .int .i64 c.cMsg, .int .i64 c.cSeqs, .bool false, .int .i64 0, .int .i64 R, .int .i64 B, .int .i64 N, .int .i64 T, .int .i64 F, .slice ea E ec, .slice wa M wc] := xS
      refine wp_region_held_drew (S := fun w' => Below D w5 w') (by kernel_rfl) ((Below.refl D w5).drew) (fun hHeld => ?_)
      refine held_take (i := 1) (d := 49) (v := ?v1) rfl rfl (by kernel_rfl) (by kernel_rfl) (by kernel_rfl) (fun _ _ _ h => h) (Or.inl ⟨by kernel_rfl, ?hy1⟩) hHeld ?rest1
      case hy1 =>
        intro wx hSw
        clear hSw
        go_simp
        with_reducible rfl
      simp only [List.setIfInBounds_toArray, List.set_cons_zero, List.set_cons_succ]
      refine held_take (i := 2) (d := 50) (v := ?v2) rfl rfl (by kernel_rfl) (by kernel_rfl) (by kernel_rfl) (fun _ _ _ h => h) (Or.inl ⟨by kernel_rfl, ?hy2⟩) hHeld ?rest2
      case hy2 =>
        intro wx hSw
        clear hSw
        go_simp
        with_reducible rfl
      simp only [List.setIfInBounds_toArray, List.set_cons_zero, List.set_cons_succ]
      refine held_take (i := 3) (d := 51) (v := ?v3) rfl rfl (by kernel_rfl) (by kernel_rfl) (by kernel_rfl) (fun _ _ _ h => h) (Or.inl ⟨by kernel_rfl, ?hy3⟩) hHeld ?rest3
      case hy3 =>
        intro wx hSw
        clear hSw
        go_simp
        with_reducible rfl
      simp only [List.setIfInBounds_toArray, List.set_cons_zero, List.set_cons_succ]
      refine held_take (i := 4) (d := 52) (v := ?v4) rfl rfl (by kernel_rfl) (by kernel_rfl) (by kernel_rfl) (fun _ _ _ h => h) (Or.inl ⟨by kernel_rfl, ?hy4⟩) hHeld ?rest4
      case hy4 =>
        intro wx hSw
        have q0 := (hSw.cell (p := ⟨bT, off + k, none⟩) hbT).trans hcT
        clear hSw
        go_simp
        with_reducible rfl
      simp only [List.setIfInBounds_toArray, List.set_cons_zero, List.set_cons_succ]
      refine wpAnyH_ready (rs := [0]) (by kernel_rfl) (by simp) ?_
      refine AllReadyH.cons rfl (fun K hK => ?_) AllReadyH.nil
      refine step_load_boxn xSd rfl 29 _ rfl rfl _ Tryd.underlying29 rfl (by kernel_rfl) ?_
      simp only [Act.put, List.setIfInBounds_toArray]
      refine hK.out _ _ (hHeld) (fun hHeld => ?_)
      clear hK K
      refine wpAnyH_ready (rs := [5]) (by kernel_rfl) (by simp) ?_
      refine AllReadyH.cons rfl (fun K hK => ?_) AllReadyH.nil
      go_simp
      go_wp2_with (go_at_call 7; refine (HSD.out (by exact HTD.out)).mono ?_; rintro e w9 ⟨R9, B9, N9, T9, F9, E9, M9, fa, fc, va, vc, rfl, hS, b9⟩)
      have b9d : Below w5.heap.size w5 w9 := (Below.refl w5.heap.size w5).drew.trans b9
      have xS9 := xS.next b9d
      refine hK.out _ _ (b9d.mono (Nat.le_of_lt xS.lt)) (fun hHeld => ?_)
      clear hK K
      refine held_take (i := 6) (d := 47) (v := ?v5) rfl rfl (by kernel_rfl) (by kernel_rfl) (by kernel_rfl) (fun _ _ _ h => h) (Or.inl ⟨by kernel_rfl, ?hy5⟩) hHeld ?rest5
      case hy5 =>
        intro wx hSw
        clear hSw
        go_simp
        with_reducible rfl
      simp only [List.setIfInBounds_toArray, List.set_cons_zero, List.set_cons_succ]
      refine held_take (i := 7) (d := 54) (v := ?v6) rfl rfl (by kernel_rfl) (by kernel_rfl) (by kernel_rfl) (fun _ _ _ h => h) (Or.inl ⟨by kernel_rfl, ?hy6⟩) hHeld ?rest6
      case hy6 =>
        intro wx hSw
        clear hSw
        go_simp
        with_reducible rfl
      simp only [List.setIfInBounds_toArray, List.set_cons_zero, List.set_cons_succ]
      refine held_take (i := 8) (d := 55) (v := ?v7) rfl rfl (by kernel_rfl) (by kernel_rfl) (by kernel_rfl) (fun _ _ _ h => h) (Or.inl ⟨by kernel_rfl, ?hy7⟩) hHeld ?rest7
      case hy7 =>
        intro wx hSw
        clear hSw
        go_simp
        with_reducible rfl
      simp only [List.setIfInBounds_toArray, List.set_cons_zero, List.set_cons_succ]
      refine wpAnyH_ready (rs := [9]) (by kernel_rfl) (by simp) ?_
      refine AllReadyH.cons rfl (fun K hK => ?_) AllReadyH.nil
      refine step_store_boxn xS9 rfl 29 _ _ rfl rfl rfl rfl (by kernel_rfl) (by simp [Value.oneCell']) ?_
      simp only [Act.put, List.setIfInBounds_toArray]
      refine hK.out _ _ (below_setRow (b9d.mono (Nat.le_of_lt xS.lt)) (Nat.le_refl D) #[.int .i64 c.cB, .int .i64 c.cBeam, .int .i64 c.cDepth, .int .i64 c.cWin, .int .i64 c.cQs, .int .i64 c.cQr, .int .i64 c.cBatch, .int .i64 c.cPass, .int .i64 c.cMsg, .int .i64 c.cSeqs, .bool false, .int .i64 0, .int .i64 R9, .int .i64 B9, .int .i64 N9, .int .i64 T9, .int .i64 F9, .slice fa E9 fc, .slice va M9 vc]) (fun hHeld => ?_)
      clear hK K
      refine wpAnyH_done (by kernel_rfl) ?_ _
      have hDb : D < w5.heap.size := xS.lt
      have HSN : Hid (SnW (D + 1) (w9.setRow D #[.int .i64 c.cB, .int .i64 c.cBeam, .int .i64 c.cDepth, .int .i64 c.cWin, .int .i64 c.cQs, .int .i64 c.cQr, .int .i64 c.cBatch, .int .i64 c.cPass, .int .i64 c.cMsg, .int .i64 c.cSeqs, .bool false, .int .i64 0, .int .i64 R9, .int .i64 B9, .int .i64 N9, .int .i64 T9, .int .i64 F9, .slice fa E9 fc, .slice va M9 vc]) (sendS s x) c false 0 R9 B9 N9 T9 F9 E9 M9 fa fc va vc (200 * (k + 1))) := ((hS.out.old hDb (fun g hg => setRow_other w9 D g #[.int .i64 c.cB, .int .i64 c.cBeam, .int .i64 c.cDepth, .int .i64 c.cWin, .int .i64 c.cQs, .int .i64 c.cQr, .int .i64 c.cBatch, .int .i64 c.cPass, .int .i64 c.cMsg, .int .i64 c.cSeqs, .bool false, .int .i64 0, .int .i64 R9, .int .i64 B9, .int .i64 N9, .int .i64 T9, .int .i64 F9, .slice fa E9 fc, .slice va M9 vc] hg)).lower (show D + 1 ≤ w5.heap.size from hDb)).more (by omega)
      have HON9 : Hid (OnlyS c (if errS s x = 0 then P ++ [x] else P) (sendS s x) ∧ (sendS s x).sX = false ∧ (if errS s x = 0 then P ++ [x] else P).length ≤ k + 1) := by
        have h := only_send HON.out.1 x
        refine ⟨h.1, h.2.trans HON.out.2.1, ?_⟩
        have := HON.out.2.2
        split
        · rw [List.length_append]; simp; omega
        · omega
      have xSn := xS9.setRow #[.int .i64 c.cB, .int .i64 c.cBeam, .int .i64 c.cDepth, .int .i64 c.cWin, .int .i64 c.cQs, .int .i64 c.cQr, .int .i64 c.cBatch, .int .i64 c.cPass, .int .i64 c.cMsg, .int .i64 c.cSeqs, .bool false, .int .i64 0, .int .i64 R9, .int .i64 B9, .int .i64 N9, .int .i64 T9, .int .i64 F9, .slice fa E9 fc, .slice va M9 vc]
      have xCn := (xC.next b9d).otherRow (D := D) (by have := HDC.out; omega) #[.int .i64 c.cB, .int .i64 c.cBeam, .int .i64 c.cDepth, .int .i64 c.cWin, .int .i64 c.cQs, .int .i64 c.cQr, .int .i64 c.cBatch, .int .i64 c.cPass, .int .i64 c.cMsg, .int .i64 c.cSeqs, .bool false, .int .i64 0, .int .i64 R9, .int .i64 B9, .int .i64 N9, .int .i64 T9, .int .i64 F9, .slice fa E9 fc, .slice va M9 vc]
      have bbn := below_setRow (bb.trans (b9d.mono bb.size)) (show w.heap.size ≤ D by have := HDC.out; omega) #[.int .i64 c.cB, .int .i64 c.cBeam, .int .i64 c.cDepth, .int .i64 c.cWin, .int .i64 c.cQs, .int .i64 c.cQr, .int .i64 c.cBatch, .int .i64 c.cPass, .int .i64 c.cMsg, .int .i64 c.cSeqs, .bool false, .int .i64 0, .int .i64 R9, .int .i64 B9, .int .i64 N9, .int .i64 T9, .int .i64 F9, .slice fa E9 fc, .slice va M9 vc]
      generalize w9.setRow D #[.int .i64 c.cB, .int .i64 c.cBeam, .int .i64 c.cDepth, .int .i64 c.cWin, .int .i64 c.cQs, .int .i64 c.cQr, .int .i64 c.cBatch, .int .i64 c.cPass, .int .i64 c.cMsg, .int .i64 c.cSeqs, .bool false, .int .i64 0, .int .i64 R9, .int .i64 B9, .int .i64 N9, .int .i64 T9, .int .i64 F9, .slice fa E9 fc, .slice va M9 vc] = w10 at *
      clear hS b9 b9d xS9 xS xC bb HSD HTD HTX xSd
      go_wp2
      exact ⟨⟨k + 1, hlt, by go_num, sendS s x, _, R9, B9, N9, T9, F9, E9, M9, fa, fc, va, vc, HON9, HSN, xSn, xCn, bbn⟩, by simp [intOf]; omega⟩
    · obtain rfl : k = mt := by omega
      clear hk hlt
      have HFF : Hid (s.sF = 0) := HON.out.1.base
      have HOK : Hid (okS s) := HSW.out.ok
      have HTK : Hid (TkI c b (learnt s 0 b)) := tkI_learnt HON.out.1 b
      have hlh := learn_here HOK.out hbits.1 hbits.2
      rw [HFF.out, Int.toNat_natCast] at hlh
      have HLH : Hid _ := hlh
      have hm9 : 200 * k ≤ 900000 := by omega
      have hDl : D < w5.heap.size := xS.lt
      clear hlh HON HSM
      go_wp2_with fail
      refine (AckMake_ok 0 (b : Int) (by omega) (by omega) hbits.1 hbits.2 _).mono ?_
      rintro e w6 ⟨q9, rfl, o8, b9⟩
      obtain ⟨ra, rc, rfl⟩ := row_shapeS o8
      have hcr := rowK_cap o8
      have hO8 := hOld_of o8
      have HSW := HSW.out.next b9
      replace xS := xS.next b9
      replace xC := xC.next b9
      replace bb := bb.trans (b9.mono bb.size)
      have hD6 : D + 1 ≤ w6.heap.size := xS.lt
      clear b9 o8 hDl
      go_wp2_with (first | (refine wpList_load_box xS rfl 29 _ rfl rfl _ Tryd.underlying29 rfl (by kernel_rfl) ?_))
      refine (sendLearn_law HSW hm9 ra 13 rc (packA 0 (b : Int)) (packA_len _ _) (by omega) hcr (packA_bd _ _) hO8.out).mono ?_
      rintro e w7 ⟨R2, B2, N2, T2, F2, E2, M2, fa2, fc2, va2, vc2, rfl, hS, b9⟩
      rw [HLH.out.1]
      rw [HLH.out.2] at hS
      replace xS := xS.next b9
      replace xC := xC.next b9
      replace bb := bb.trans (b9.mono bb.size)
      clear b9 HSW hO8 hcr
      have hl7 : D < w7.heap.size := xS.lt
      have bA : Below w7.heap.size w7 (w7.alloc (.cells #[.int .i64 0, .int .i64 0, .int .i64 0, .int .i64 0, .int .i64 0, .int .i64 0, .int .i64 0, .int .i64 0, .int .i64 0, .int .i64 0, .bool false, .int .i64 0, .int .i64 0, .int .i64 0, .int .i64 0, .int .i64 0, .int .i64 0, .slice none 0 0, .slice none 0 0] 29)) := (Below.refl _ _).alloc (Nat.le_refl _) _
      have xT := Box.new w7 29 #[.int .i64 0, .int .i64 0, .int .i64 0, .int .i64 0, .int .i64 0, .int .i64 0, .int .i64 0, .int .i64 0, .int .i64 0, .int .i64 0, .bool false, .int .i64 0, .int .i64 0, .int .i64 0, .int .i64 0, .int .i64 0, .int .i64 0, .slice none 0 0, .slice none 0 0]
      go_upto_region 15 with (first | (refine wpList_store_box xT rfl 29 _ _ rfl rfl rfl rfl (by kernel_rfl) (by simp [Value.oneCell']) ?_))
      have bB := below_setRow bA (Nat.le_refl _) #[.int .i64 c.cB, .int .i64 c.cBeam, .int .i64 c.cDepth, .int .i64 c.cWin, .int .i64 c.cQs, .int .i64 c.cQr, .int .i64 c.cBatch, .int .i64 c.cPass, .int .i64 c.cMsg, .int .i64 c.cSeqs, .bool false, .int .i64 0, .int .i64 R2, .int .i64 B2, .int .i64 N2, .int .i64 T2, .int .i64 F2, .slice fa2 E2 fc2, .slice va2 M2 vc2]
      replace xT := xT.setRow #[.int .i64 c.cB, .int .i64 c.cBeam, .int .i64 c.cDepth, .int .i64 c.cWin, .int .i64 c.cQs, .int .i64 c.cQr, .int .i64 c.cBatch, .int .i64 c.cPass, .int .i64 c.cMsg, .int .i64 c.cSeqs, .bool false, .int .i64 0, .int .i64 R2, .int .i64 B2, .int .i64 N2, .int .i64 T2, .int .i64 F2, .slice fa2 E2 fc2, .slice va2 M2 vc2]
      have sw2 := (hS.out.next bB).lower (base' := D + 1) hD6
      replace xS := xS.next bB
      replace xC := xC.next bB
      replace bb := bb.trans (bB.mono bb.size)
      obtain ⟨DT, hDT⟩ : ∃ D, w7.heap.size = D := ⟨_, rfl⟩
      have HLDT : Hid (D < DT) := by show D < DT; omega
      rw [hDT] at xT xS xC bb sw2  ⊢
      clear bA bB hDT hS
      generalize (w7.alloc (.cells #[.int .i64 0, .int .i64 0, .int .i64 0, .int .i64 0, .int .i64 0, .int .i64 0, .int .i64 0, .int .i64 0, .int .i64 0, .int .i64 0, .bool false, .int .i64 0, .int .i64 0, .int .i64 0, .int .i64 0, .int .i64 0, .int .i64 0, .slice none 0 0, .slice none 0 0] 29)).setRow DT #[.int .i64 c.cB, .int .i64 c.cBeam, .int .i64 c.cDepth, .int .i64 c.cWin, .int .i64 c.cQs, .int .i64 c.cQr, .int .i64 c.cBatch, .int .i64 c.cPass, .int .i64 c.cMsg, .int .i64 c.cSeqs, .bool false, .int .i64 0, .int .i64 R2, .int .i64 B2, .int .i64 N2, .int .i64 T2, .int .i64 F2, .slice fa2 E2 fc2, .slice va2 M2 vc2] = w8 at *
      go_upto_region 18 with (first | (refine wpList_load_box xT rfl 29 _ rfl rfl _ Tryd.underlying29 rfl (by kernel_rfl) ?_) | (refine wpList_store_box xS rfl 29 _ _ rfl rfl rfl rfl (by kernel_rfl) (by simp [Value.oneCell']) ?_))
      replace xS := xS.setRow #[.int .i64 c.cB, .int .i64 c.cBeam, .int .i64 c.cDepth, .int .i64 c.cWin, .int .i64 c.cQs, .int .i64 c.cQr, .int .i64 c.cBatch, .int .i64 c.cPass, .int .i64 c.cMsg, .int .i64 c.cSeqs, .bool false, .int .i64 0, .int .i64 R2, .int .i64 B2, .int .i64 N2, .int .i64 T2, .int .i64 F2, .slice fa2 E2 fc2, .slice va2 M2 vc2]
      have sw2n := sw2.old (D := D) (by omega) (fun g hg => setRow_other w8 D g #[.int .i64 c.cB, .int .i64 c.cBeam, .int .i64 c.cDepth, .int .i64 c.cWin, .int .i64 c.cQs, .int .i64 c.cQr, .int .i64 c.cBatch, .int .i64 c.cPass, .int .i64 c.cMsg, .int .i64 c.cSeqs, .bool false, .int .i64 0, .int .i64 R2, .int .i64 B2, .int .i64 N2, .int .i64 T2, .int .i64 F2, .slice fa2 E2 fc2, .slice va2 M2 vc2] hg)
      replace xC := xC.otherRow (D := D) (by have := HDC.out; omega) #[.int .i64 c.cB, .int .i64 c.cBeam, .int .i64 c.cDepth, .int .i64 c.cWin, .int .i64 c.cQs, .int .i64 c.cQr, .int .i64 c.cBatch, .int .i64 c.cPass, .int .i64 c.cMsg, .int .i64 c.cSeqs, .bool false, .int .i64 0, .int .i64 R2, .int .i64 B2, .int .i64 N2, .int .i64 T2, .int .i64 F2, .slice fa2 E2 fc2, .slice va2 M2 vc2]
      replace bb := below_setRow bb (show w.heap.size ≤ D by have := HDC.out; omega) #[.int .i64 c.cB, .int .i64 c.cBeam, .int .i64 c.cDepth, .int .i64 c.cWin, .int .i64 c.cQs, .int .i64 c.cQr, .int .i64 c.cBatch, .int .i64 c.cPass, .int .i64 c.cMsg, .int .i64 c.cSeqs, .bool false, .int .i64 0, .int .i64 R2, .int .i64 B2, .int .i64 N2, .int .i64 T2, .int .i64 F2, .slice fa2 E2 fc2, .slice va2 M2 vc2]
      generalize w8.setRow D #[.int .i64 c.cB, .int .i64 c.cBeam, .int .i64 c.cDepth, .int .i64 c.cWin, .int .i64 c.cQs, .int .i64 c.cQr, .int .i64 c.cBatch, .int .i64 c.cPass, .int .i64 c.cMsg, .int .i64 c.cSeqs, .bool false, .int .i64 0, .int .i64 R2, .int .i64 B2, .int .i64 N2, .int .i64 T2, .int .i64 F2, .slice fa2 E2 fc2, .slice va2 M2 vc2] = w9 at *
      clear sw2
      clear xT HLDT hl7 hD6 HLH HOK HFF
      have HSW2 : Hid _ := sw2n
      clear sw2n
      go_wp2_with fail
      go_loopw [15] (fun i wr => ∃ j : Nat, (j : Int) ≤ 1 + q ∧ i = .int .i64 (j : Int) ∧ ∃ (s : Sn) (R B N T F : Int) (E M : Nat) (ea : Option Addr) (ec : Nat) (wa : Option Addr) (wc : Nat), Hid (TkI c b s) ∧ Hid (SnW (D + 1) wr s c false ((j : Nat) : Int) R B N T F E M ea ec wa wc (200 * k)) ∧ Box wr D 29 #[.int .i64 c.cB, .int .i64 c.cBeam, .int .i64 c.cDepth, .int .i64 c.cWin, .int .i64 c.cQs, .int .i64 c.cQr, .int .i64 c.cBatch, .int .i64 c.cPass, .int .i64 c.cMsg, .int .i64 c.cSeqs, .bool false, .int .i64 ((j : Nat) : Int), .int .i64 R, .int .i64 B, .int .i64 N, .int .i64 T, .int .i64 F, .slice ea E ec, .slice wa M wc] ∧ Box wr w.heap.size 23 #[.int .i64 c.cB, .int .i64 c.cBeam, .int .i64 c.cDepth, .int .i64 c.cWin, .int .i64 c.cQs, .int .i64 c.cQr, .int .i64 c.cBatch, .int .i64 c.cPass, .int .i64 c.cMsg, .int .i64 c.cSeqs] ∧ Below w.heap.size w wr) (fun i _ => (1 + q - intOf i).toNat)
      case atStart => exact ⟨0, by show (0 : Int) ≤ 1 + q; omega, rfl, learnt s 0 b, R2, B2, N2, T2, F2, E2, M2, fa2, fc2, va2, vc2, HTK, HSW2, xS, xC, bb⟩
      case round =>
        clear HTK HSW2 xS xC bb
        skip
        skip
        obtain ⟨j, hj, rfl, s, R, B, N, T, F, E, M, ea, ec, wa, wc, HTK, HSW, xS, xC, bb⟩ := hrel
        generalize hwr : wr = w10 at *
        clear hwr
        have w1q : IntKind.i64.wrap (1 + q) = 1 + q := by rw [IntKind.wrap_i64]; omega
        by_cases hlt : (j : Int) < 1 + q
        · have dq : decide ((j : Int) < 1 + q) = true := decide_eq_true hlt
          have HJ : Hid ((j : Int) < 1 + q ∧ q < 5) := ⟨hlt, hq1⟩
          have hD10 : D + 1 ≤ w10.heap.size := xS.lt
          clear hj hlt
          go_wp2_with (first | (refine wpList_load_box xS rfl 29 _ rfl rfl _ Tryd.underlying29 rfl (by kernel_rfl) ?_))
          refine (sendTick_law HSW.out hm9 (HF0.out.next bb)).mono ?_
          rintro e w11 ⟨fa, fc, va, vc, pa, pn, pc, r, qq, rfl, hE, hS, b9⟩
          have hK1 : satN (j : Int) 1 = (j : Int) + 1 := satN_one (by omega) (by have := HJ.out; omega)
          rw [hK1] at hS ⊢
          obtain ⟨hPk, hPn⟩ := hE.out.packs
          have hP := (StsAt.ofOwn hPk).lower (Nat.zero_le _)
          have HPN : Hid ((packS s).length = pn) := hPn
          have hSW := HSW.out.next b9
          replace xS := xS.next b9
          replace xC := xC.next b9
          replace bb := bb.trans (b9.mono bb.size)
          clear b9 hE hPk hPn hK1 dq w1q HSW
          have hl11 : D < w11.heap.size := xS.lt
          have bA : Below w11.heap.size w11 (w11.alloc (.cells #[.int .i64 0, .int .i64 0, .int .i64 0, .int .i64 0, .int .i64 0, .int .i64 0, .int .i64 0, .int .i64 0, .int .i64 0, .int .i64 0, .bool false, .int .i64 0, .int .i64 0, .int .i64 0, .int .i64 0, .int .i64 0, .int .i64 0, .slice none 0 0, .slice none 0 0] 29)) := (Below.refl _ _).alloc (Nat.le_refl _) _
          have xT := Box.new w11 29 #[.int .i64 0, .int .i64 0, .int .i64 0, .int .i64 0, .int .i64 0, .int .i64 0, .int .i64 0, .int .i64 0, .int .i64 0, .int .i64 0, .bool false, .int .i64 0, .int .i64 0, .int .i64 0, .int .i64 0, .int .i64 0, .int .i64 0, .slice none 0 0, .slice none 0 0]
          go_upto_region 22 with (first | (refine wpList_store_box xT rfl 29 _ _ rfl rfl rfl rfl (by kernel_rfl) (by simp [Value.oneCell']) ?_))
          have bB := below_setRow bA (Nat.le_refl _) #[.int .i64 c.cB, .int .i64 c.cBeam, .int .i64 c.cDepth, .int .i64 c.cWin, .int .i64 c.cQs, .int .i64 c.cQr, .int .i64 c.cBatch, .int .i64 c.cPass, .int .i64 c.cMsg, .int .i64 c.cSeqs, .bool false, .int .i64 ((j : Int) + 1), .int .i64 R, .int .i64 B, .int .i64 N, .int .i64 T, .int .i64 F, .slice fa E fc, .slice va M vc]
          replace xT := xT.setRow #[.int .i64 c.cB, .int .i64 c.cBeam, .int .i64 c.cDepth, .int .i64 c.cWin, .int .i64 c.cQs, .int .i64 c.cQr, .int .i64 c.cBatch, .int .i64 c.cPass, .int .i64 c.cMsg, .int .i64 c.cSeqs, .bool false, .int .i64 ((j : Int) + 1), .int .i64 R, .int .i64 B, .int .i64 N, .int .i64 T, .int .i64 F, .slice fa E fc, .slice va M vc]
          have swT := (hS.out.next bB).lower (base' := D + 1) hD10
          replace xS := xS.next bB
          replace xC := xC.next bB
          replace hP := hP.next bB
          replace hSW := hSW.next bB
          replace bb := bb.trans (bB.mono bb.size)
          obtain ⟨DT, hDT⟩ : ∃ D, w11.heap.size = D := ⟨_, rfl⟩
          have HLDT : Hid (D < DT) := by show D < DT; omega
          rw [hDT] at xT xS xC bb swT hP hSW ⊢
          clear bA bB hDT hS
          generalize (w11.alloc (.cells #[.int .i64 0, .int .i64 0, .int .i64 0, .int .i64 0, .int .i64 0, .int .i64 0, .int .i64 0, .int .i64 0, .int .i64 0, .int .i64 0, .bool false, .int .i64 0, .int .i64 0, .int .i64 0, .int .i64 0, .int .i64 0, .int .i64 0, .slice none 0 0, .slice none 0 0] 29)).setRow DT #[.int .i64 c.cB, .int .i64 c.cBeam, .int .i64 c.cDepth, .int .i64 c.cWin, .int .i64 c.cQs, .int .i64 c.cQr, .int .i64 c.cBatch, .int .i64 c.cPass, .int .i64 c.cMsg, .int .i64 c.cSeqs, .bool false, .int .i64 ((j : Int) + 1), .int .i64 R, .int .i64 B, .int .i64 N, .int .i64 T, .int .i64 F, .slice fa E fc, .slice va M vc] = w12 at *
          have HST : Hid _ := swT
          have HSW : Hid _ := hSW
          clear swT hSW hl11 hD10
          have cs11 := xS.cell 11 _ rfl
          have ct11 := xT.cell 11 _ rfl
          have lS := xS.lt
          have lT := xT.lt
          have wj1 : IntKind.i64.wrap ((j : Int) + 1) = (j : Int) + 1 := by rw [IntKind.wrap_i64]; have := HJ.out; omega
          go_wp2_with fail
          clear cs11 ct11 lS lT
          have hcw := (okC_iff c).1 HC.out
          have HWI : Hid ((winS s : Int) = c.cWin ∧ winS s ≤ 16) := by
            have h1 := HTK.out.same
            unfold winS
            rw [h1]
            constructor <;> omega
          have HM : Hid (s.sW.length = M) := HSW.out.is.lW
          clear hcw
          go_loopw [19, 20] (fun at_ k_ wr => ∃ n : Nat, n ≤ M ∧ n ≤ winS s ∧ at_ = .int .i64 ((packUpS s n).length : Int) ∧ k_ = .int .i64 (n : Int) ∧ StsAt txK 0 wr (.slice pa pn pc) (packS s) ∧ Box wr D 29 #[.int .i64 c.cB, .int .i64 c.cBeam, .int .i64 c.cDepth, .int .i64 c.cWin, .int .i64 c.cQs, .int .i64 c.cQr, .int .i64 c.cBatch, .int .i64 c.cPass, .int .i64 c.cMsg, .int .i64 c.cSeqs, .bool false, .int .i64 (j : Int), .int .i64 R, .int .i64 B, .int .i64 N, .int .i64 T, .int .i64 F, .slice ea E ec, .slice wa M wc] ∧ Box wr DT 29 #[.int .i64 c.cB, .int .i64 c.cBeam, .int .i64 c.cDepth, .int .i64 c.cWin, .int .i64 c.cQs, .int .i64 c.cQr, .int .i64 c.cBatch, .int .i64 c.cPass, .int .i64 c.cMsg, .int .i64 c.cSeqs, .bool false, .int .i64 ((j : Int) + 1), .int .i64 R, .int .i64 B, .int .i64 N, .int .i64 T, .int .i64 F, .slice fa E fc, .slice va M vc] ∧ Box wr w.heap.size 23 #[.int .i64 c.cB, .int .i64 c.cBeam, .int .i64 c.cDepth, .int .i64 c.cWin, .int .i64 c.cQs, .int .i64 c.cQr, .int .i64 c.cBatch, .int .i64 c.cPass, .int .i64 c.cMsg, .int .i64 c.cSeqs] ∧ Hid (SnW (D + 1) wr (tickS s) c false ((j : Int) + 1) R B N T F E M fa fc va vc (200 * k)) ∧ Below w.heap.size w wr) (fun _ k_ _ => (M : Int).toNat - (intOf k_).toNat)
          case atStart => exact ⟨0, Nat.zero_le _, Nat.zero_le _, by rw [packUpS_zero]; rfl, rfl, hP, xS, xT, xC, HST, bb⟩
          case round =>
            clear hP xS xT xC HST bb HSW
            obtain ⟨n, hnM, hnW, rfl, rfl, hP, xS, xT, xC, HST, bb⟩ := hrel
            generalize hwr : wr = w13 at *
            clear hwr
            have hwi := HWI.out
            obtain ⟨x, hx⟩ : ∃ x, (packUpS s n).length = x := ⟨_, rfl⟩
            rw [hx]
            have hxle : x ≤ n := hx ▸ packUpS_le s n
            by_cases h1 : n < M
            · have d1 : decide ((n : Int) < (M : Int)) = true := decide_eq_true (by omega)
              have d1n : decide (n < M) = true := decide_eq_true h1
              by_cases h2 : n < winS s
              · have d2 : decide ((n : Int) < c.cWin) = true := decide_eq_true (by omega)
                have hn32 : n < 32 := by omega
                have hM := HM.out
                have hha := hasA_zero (b := b) hn32
                have wn : IntKind.u64.wrap (n : Int) = (n : Int) := by rw [IntKind.wrap_u64]; omega
                have hle : b / 2 ^ n ≤ b := Nat.div_le_self _ _
                have ed : (b : Int) / 2 ^ n = ((b / 2 ^ n : Nat) : Int) := by simp
                have hb32 : b < 4294967296 := by have := hbits.2; omega
                have ea9 : bits .and .u32 ((b / 2 ^ n : Nat) : Int) 1 = ((b / 2 ^ n % 2 : Nat) : Int) := zu32_and1 _ (by omega)
                obtain ⟨Q, hQ⟩ : ∃ D, b / 2 ^ n = D := ⟨_, rfl⟩
                rw [hQ] at ed ea9 hle hha
                have HREL : Hid (n + 1 ≤ M ∧ n + 1 ≤ winS s ∧ (M : Int).toNat - (n + 1) < (M : Int).toNat - n) := ⟨by omega, by omega, by omega⟩
                have wn1 : IntKind.i64.wrap ((n : Int) + 1) = (n : Int) + 1 := by rw [IntKind.wrap_i64]; omega
                have cs18 := xS.cell 18 _ rfl
                have cc3 := xC.cell 3 _ rfl
                have lS := xS.lt
                have lC := xC.lt
                rcases Nat.mod_two_eq_zero_or_one Q with hz | hz
                · rw [hz] at ea9 hha
                  obtain ⟨zs, hg, hok, hdS, hbd, hup⟩ := tkI_pack HTK.out (k := n) (by rw [hM]; exact h1) h2 hha
                  rw [hx] at hg hup
                  have hxl : x < pn := by rw [← HPN.out]; exact (List.getElem?_eq_some_iff.1 hg).1
                  have d3 : decide ((pn : Int) ≤ (x : Int)) = false := decide_eq_false (by omega)
                  obtain ⟨gb, off, ya, yc, rfl, g1, g2, g3, hyc⟩ := txsO_at hP hg
                  have HOKD : Hid (okD zs ∧ dS zs = (n : Int) ∧ ∀ z ∈ zs, 0 ≤ z ∧ z ≤ 255) := ⟨hok, hdS, hbd⟩
                  have HUP : Hid ((packUpS s (n + 1)).length = x + 1) := hup
                  have HY : Hid (Holds .u8 w13.heap.size w13 (.slice ya zs.length yc) zs) := g3
                  have wx1 : IntKind.i64.wrap ((x : Int) + 1) = (x : Int) + 1 := by rw [IntKind.wrap_i64]; omega
                  have dxp : decide (x < pn) = true := decide_eq_true hxl
                  clear hok hdS hbd hup g3 hg hha hx hxle hQ hz hle hM h1 h2 hwi hnM hnW
                  go_wp2_with fail
                  refine (DataRead_ok ya yc zs hyc HOKD.out.2.2 HOKD.out.1 _ HY.out).mono ?_
                  rintro e w14 ⟨ta, tc, rfl, o9, b9⟩
                  rw [HOKD.out.2.1]
                  clear o9 g2 cs18 cc3 lS lC HY d1 d1n d2 d3 dxp ed ea9 wn
                  have HST := HST.out.next b9
                  replace xS := xS.next b9
                  replace xC := xC.next b9
                  replace xT := xT.next b9
                  replace hP := hP.next b9
                  replace bb := bb.trans (b9.mono bb.size)
                  clear b9
                  have bA : Below w14.heap.size w14 (w14.alloc (.cells #[.int .i64 0, .int .i64 0, .int .i64 0, .slice none 0 0] 56)) := (Below.refl _ _).alloc (Nat.le_refl _) _
                  have xd := Box.new w14 56 #[.int .i64 0, .int .i64 0, .int .i64 0, .slice none 0 0]
                  go_upto_region 32 with (first | (refine wpList_store_box xd rfl 56 _ _ rfl rfl rfl rfl (by kernel_rfl) (by simp [Value.oneCell']) ?_))
                  have bB := below_setRow bA (Nat.le_refl _) #[.int .i64 (n : Int), .int .i64 (dR zs), .int .i64 (dF zs), .slice ta (dX zs).length tc]
                  replace xd := xd.setRow #[.int .i64 (n : Int), .int .i64 (dR zs), .int .i64 (dF zs), .slice ta (dX zs).length tc]
                  replace HST := HST.next bB
                  replace xS := xS.next bB
                  replace xC := xC.next bB
                  replace xT := xT.next bB
                  replace hP := hP.next bB
                  replace bb := bb.trans (bB.mono bb.size)
                  generalize hw15 : (w14.alloc (.cells #[.int .i64 0, .int .i64 0, .int .i64 0, .slice none 0 0] 56)).setRow w14.heap.size #[.int .i64 (n : Int), .int .i64 (dR zs), .int .i64 (dF zs), .slice ta (dX zs).length tc] = w15 at *
                  clear hw15 bA bB
                  have cd0 := xd.cell 0 _ rfl
                  have ld := xd.lt
                  have HST : Hid _ := HST
                  go_wp2_with fail
                  exact ⟨⟨n + 1, HREL.out.1, HREL.out.2.1, by rw [HUP.out]; go_num, by go_num, hP, xS, xT, xC, HST, bb⟩, by simpa [intOf] using HREL.out.2.2⟩
                · rw [hz] at ea9 hha
                  have HUP : Hid ((packUpS s (n + 1)).length = x) := by
                    show (packUpS s (n + 1)).length = x
                    rw [tkI_skip HTK.out (k := n) (by rw [hM]; exact h1) h2 hha]
                    exact hx
                  clear hha hx hxle hQ hz hle hM h1 h2 hwi hnM hnW
                  go_wp2_with fail
                  exact ⟨⟨n + 1, HREL.out.1, HREL.out.2.1, by rw [HUP.out], by go_num, hP, xS, xT, xC, HST, bb⟩, by simpa [intOf] using HREL.out.2.2⟩
              · have d2 : decide ((n : Int) < c.cWin) = false := decide_eq_false (by omega)
                have hend : packUpS s n = packS s := packUpS_end s (by omega)
                clear h1 h2
                have cs18 := xS.cell 18 _ rfl
                have cc3 := xC.cell 3 _ rfl
                have lS := xS.lt
                have lC := xC.lt
                have hxp : x = pn := by rw [← hx, hend]; exact HPN.out
                subst hxp
                clear hx hend hxle hnM hnW hwi hP
                go_wp2_with (first | (refine wpList_load_box xT rfl 29 _ rfl rfl _ Tryd.underlying29 rfl (by kernel_rfl) ?_) | (refine wpList_store_box xS rfl 29 _ _ rfl rfl rfl rfl (by kernel_rfl) (by simp [Value.oneCell']) ?_))
                have xSn := xS.setRow #[.int .i64 c.cB, .int .i64 c.cBeam, .int .i64 c.cDepth, .int .i64 c.cWin, .int .i64 c.cQs, .int .i64 c.cQr, .int .i64 c.cBatch, .int .i64 c.cPass, .int .i64 c.cMsg, .int .i64 c.cSeqs, .bool false, .int .i64 ((j : Int) + 1), .int .i64 R, .int .i64 B, .int .i64 N, .int .i64 T, .int .i64 F, .slice fa E fc, .slice va M vc]
                have hST := HST.out.old (D := D) (Nat.lt_succ_self _) (fun g hg => setRow_other w13 D g #[.int .i64 c.cB, .int .i64 c.cBeam, .int .i64 c.cDepth, .int .i64 c.cWin, .int .i64 c.cQs, .int .i64 c.cQr, .int .i64 c.cBatch, .int .i64 c.cPass, .int .i64 c.cMsg, .int .i64 c.cSeqs, .bool false, .int .i64 ((j : Int) + 1), .int .i64 R, .int .i64 B, .int .i64 N, .int .i64 T, .int .i64 F, .slice fa E fc, .slice va M vc] hg)
                have xCn := xC.otherRow (D := D) (by have := HDC.out; omega) #[.int .i64 c.cB, .int .i64 c.cBeam, .int .i64 c.cDepth, .int .i64 c.cWin, .int .i64 c.cQs, .int .i64 c.cQr, .int .i64 c.cBatch, .int .i64 c.cPass, .int .i64 c.cMsg, .int .i64 c.cSeqs, .bool false, .int .i64 ((j : Int) + 1), .int .i64 R, .int .i64 B, .int .i64 N, .int .i64 T, .int .i64 F, .slice fa E fc, .slice va M vc]
                have bbn := below_setRow bb (show w.heap.size ≤ D by have := HDC.out; omega) #[.int .i64 c.cB, .int .i64 c.cBeam, .int .i64 c.cDepth, .int .i64 c.cWin, .int .i64 c.cQs, .int .i64 c.cQr, .int .i64 c.cBatch, .int .i64 c.cPass, .int .i64 c.cMsg, .int .i64 c.cSeqs, .bool false, .int .i64 ((j : Int) + 1), .int .i64 R, .int .i64 B, .int .i64 N, .int .i64 T, .int .i64 F, .slice fa E fc, .slice va M vc]
                have hj9 := HJ.out
                exact ⟨⟨j + 1, by push_cast; omega, by go_num, tickS s, R, B, N, T, F, E, M, fa, fc, va, vc, tkI_tick HTK.out, by rw [Int.natCast_add]; exact hST, by rw [Int.natCast_add]; exact xSn, xCn, bbn⟩, by simp [intOf]; omega⟩
            · have d1 : decide ((n : Int) < (M : Int)) = false := decide_eq_false (by omega)
              have d1n : decide (n < M) = false := decide_eq_false h1
              have hend : packUpS s n = packS s := packUpS_long s (by have := HM.out; omega)
              clear h1
              have cs18 := xS.cell 18 _ rfl
              have cc3 := xC.cell 3 _ rfl
              have lS := xS.lt
              have lC := xC.lt
              have hxp : x = pn := by rw [← hx, hend]; exact HPN.out
              subst hxp
              clear hx hend hxle hnM hnW hwi hP
              go_wp2_with (first | (refine wpList_load_box xT rfl 29 _ rfl rfl _ Tryd.underlying29 rfl (by kernel_rfl) ?_) | (refine wpList_store_box xS rfl 29 _ _ rfl rfl rfl rfl (by kernel_rfl) (by simp [Value.oneCell']) ?_))
              have xSn := xS.setRow #[.int .i64 c.cB, .int .i64 c.cBeam, .int .i64 c.cDepth, .int .i64 c.cWin, .int .i64 c.cQs, .int .i64 c.cQr, .int .i64 c.cBatch, .int .i64 c.cPass, .int .i64 c.cMsg, .int .i64 c.cSeqs, .bool false, .int .i64 ((j : Int) + 1), .int .i64 R, .int .i64 B, .int .i64 N, .int .i64 T, .int .i64 F, .slice fa E fc, .slice va M vc]
              have hST := HST.out.old (D := D) (Nat.lt_succ_self _) (fun g hg => setRow_other w13 D g #[.int .i64 c.cB, .int .i64 c.cBeam, .int .i64 c.cDepth, .int .i64 c.cWin, .int .i64 c.cQs, .int .i64 c.cQr, .int .i64 c.cBatch, .int .i64 c.cPass, .int .i64 c.cMsg, .int .i64 c.cSeqs, .bool false, .int .i64 ((j : Int) + 1), .int .i64 R, .int .i64 B, .int .i64 N, .int .i64 T, .int .i64 F, .slice fa E fc, .slice va M vc] hg)
              have xCn := xC.otherRow (D := D) (by have := HDC.out; omega) #[.int .i64 c.cB, .int .i64 c.cBeam, .int .i64 c.cDepth, .int .i64 c.cWin, .int .i64 c.cQs, .int .i64 c.cQr, .int .i64 c.cBatch, .int .i64 c.cPass, .int .i64 c.cMsg, .int .i64 c.cSeqs, .bool false, .int .i64 ((j : Int) + 1), .int .i64 R, .int .i64 B, .int .i64 N, .int .i64 T, .int .i64 F, .slice fa E fc, .slice va M vc]
              have bbn := below_setRow bb (show w.heap.size ≤ D by have := HDC.out; omega) #[.int .i64 c.cB, .int .i64 c.cBeam, .int .i64 c.cDepth, .int .i64 c.cWin, .int .i64 c.cQs, .int .i64 c.cQr, .int .i64 c.cBatch, .int .i64 c.cPass, .int .i64 c.cMsg, .int .i64 c.cSeqs, .bool false, .int .i64 ((j : Int) + 1), .int .i64 R, .int .i64 B, .int .i64 N, .int .i64 T, .int .i64 F, .slice fa E fc, .slice va M vc]
              have hj9 := HJ.out
              exact ⟨⟨j + 1, by push_cast; omega, by go_num, tickS s, R, B, N, T, F, E, M, fa, fc, va, vc, tkI_tick HTK.out, by rw [Int.natCast_add]; exact hST, by rw [Int.natCast_add]; exact xSn, xCn, bbn⟩, by simp [intOf]; omega⟩
        · have dq : decide ((j : Int) < 1 + q) = false := decide_eq_false hlt
          obtain rfl : F = 0 := by rw [← HSW.out.is.eF]; exact HTK.out.base
          have cs16 := xS.cell 16 _ rfl
          have lS := xS.lt
          clear HTK HSW hj hlt
          go_wp2_with fail
          refine (sendWakes_any _ (HF0.out.next bb)).mono ?_
          rintro e w99 ⟨rfl, b99⟩
          go_wp2
          go_ret
          exact ⟨rfl, bb.trans (b99.mono bb.size)⟩

end Go.Proofs.YtkphjnbeakkejabDoor
