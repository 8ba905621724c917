/-
  Lists of texts, as they lie and as arguments.
-/
import Derived.Test.YtkphjnbeakkejabDoorM01
import Derived.Test.YtkphjnbeakkejabDoorM08
import Derived.Test.YtkphjnbeakkejabDoorM21
import Derived.Test.YtkphjnbeakkejabDoorM22
import Derived.Test.YtkphjnbeakkejabDoorM27
import Derived.Test.YtkphjnbeakkejabDoorM28
import Derived.Test.YtkphjnbeakkejabDoorM29
import Derived.Test.YtkphjnbeakkejabDoorM30
import Derived.Test.YtkphjnbeakkejabDoorM31
import Derived.Test.YtkphjnbeakkejabDoorM32
import Derived.Test.YtkphjnbeakkejabDoorM33
import Derived.Deep.Slices
import Derived.OpenShut
import Derived.ProofKit
import Derived.WalkKit
namespace Go.Proofs.YtkphjnbeakkejabDoor
open Go.RowKit

/-- The slice at a holds these texts, in a block below n₀. -/
def Texts (n₀ : Nat) (W : World) (a : Option Addr) (n : Nat) (l : List (List Int)) : Prop := l.length = n ∧ ∀ (j : Nat) (x : List Int), l[j]? = some x → ∃ b off xa xc, a = some ⟨b, off, none⟩ ∧ b < n₀ ∧ W.cell? ⟨b, off + j, none⟩ = some (.slice xa x.length xc) ∧ Holds .u8 n₀ W (.slice xa x.length xc) x ∧ x.length ≤ xc ∧ ∀ z ∈ x, 0 ≤ z ∧ z ≤ 255
theorem Texts.next {n₀ : Nat} {W W' : World} {a : Option Addr} {n : Nat} {l : List (List Int)} (h : Texts n₀ W a n l) (k : Below n₀ W W') : Texts n₀ W' a n l := by
  refine ⟨h.1, fun j x hj => ?_⟩
  obtain ⟨b, off, xa, xc, h0, h1, h2, h6, h7⟩ := h.2 j x hj
  exact ⟨b, off, xa, xc, h0, h1, (k.cell (p := ⟨b, off + j, none⟩) h1).trans h2, h6.below k, h7⟩
theorem cellsU8L : Tryd.prog.cellsOf 5 = 1 := by kernel_rfl
theorem cellsBytesL : Tryd.prog.cellsOf 33 = 1 := by kernel_rfl

/-- A text that came in, opened. -/
theorem text_of_trod {H : Type} {enc : TypeId × Value → H} {w : World} {base : Nat} {held : Bool} {fuel : Nat} {v : Value} {x : DataW H × List MemPlace}
    (h : DataW.trod enc Tryd.prog w base (fun _ => true) held fuel 33 [v] = some x) : ∃ a ys c, v = .slice a ys.length c ∧ Holds .u8 w.heap.size w v ys ∧ ys.length ≤ c ∧ ∀ z ∈ ys, 0 ≤ z ∧ z ≤ 255 := by
  rcases Go.ChangeShapes.open_ints Tryd.underlying33 Tryd.underlying5 cellsU8L h with ⟨hcs, _⟩ | ⟨x3, l3, c3', zs, hcs, _, hl3, hm3, hz, _, hcell3, hwz⟩
  · simp at hcs
    subst hcs
    exact ⟨_, [], _, rfl, .inl ⟨⟨_, _, rfl, fun _ => rfl⟩, rfl⟩, Nat.le_refl _, by simp⟩
  · simp at hcs
    subst hcs
    obtain ⟨ys, e, hy, hw⟩ := holds_of_isRow (kd := .u8) (w := w) (a := some x3) (len := l3) (cap := c3') (zs := zs) (.inr ⟨x3, rfl, hl3, hm3, by simpa using hz, hcell3, hwz⟩)
    subst e
    exact ⟨_, ys, _, rfl, hy, hl3, bytes_bd hw⟩

set_option maxRecDepth 100000 in
set_option maxHeartbeats 1000000 in
/-- A list of texts that came in, opened. -/
theorem texts_of_trod {H : Type} {enc : TypeId × Value → H} {w : World} {base : Nat} {held : Bool} {fuel : Nat} {a : Option Addr} {len cap : Nat} {x : DataW H × List MemPlace}
    (h : DataW.trod enc Tryd.prog w base (fun _ => true) held fuel 24 [.slice a len cap] = some x) : ∃ l, Texts w.heap.size w a len l := by
  rcases Go.Deep.open_slice Tryd.underlying24 h with ⟨hcs, _⟩ | ⟨ad, len', cap', m, n, D, Pl, hcs, _, hl, hc, hm, _, hx⟩
  · simp at hcs
    obtain ⟨rfl, rfl, rfl⟩ := hcs
    exact ⟨[], rfl, fun j x hj => by simp at hj⟩
  · simp at hcs
    obtain ⟨rfl, rfl, rfl⟩ := hcs
    have hlm : len ≤ m := by rw [hm]; split <;> omega
    have each : ∀ i, i < len → ∃ q : List Int × Option Addr × Nat, w.cell? (ad.add i) = some (.slice q.2.1 q.1.length q.2.2) ∧ Holds .u8 w.heap.size w (.slice q.2.1 q.1.length q.2.2) q.1 ∧ q.1.length ≤ q.2.2 ∧ ∀ z ∈ q.1, 0 ≤ z ∧ z ≤ 255 := by
      intro i hi
      obtain ⟨cs', h1, h2⟩ := hx i (by omega)
      rw [cellsBytesL] at h1
      obtain ⟨_, hlen, hcell⟩ := World.cells?_some h1
      match cs', hlen with
      | [v0], _ =>
        obtain ⟨a3, ys, c3, rfl, hy, h3, h5⟩ := text_of_trod h2
        have c0 := hcell 0 (by omega)
        simp at c0
        exact ⟨(ys, a3, c3), by simpa [Go.Deep.add_add] using c0, hy, h3, h5⟩
    by_cases h0 : len = 0
    · subst h0
      exact ⟨[], rfl, fun j x hj => by simp at hj⟩
    · haveI : Inhabited (List Int × Option Addr × Nat) := ⟨([], none, 0)⟩
      obtain ⟨q, hq⟩ := Go.Deep.choose_lt each
      obtain ⟨b, off, spot⟩ := ad
      have hspot : spot = none := by
        have := (hq 0 (by omega)).1
        simpa [Addr.add] using World.cell?_spot this
      subst hspot
      refine ⟨(List.range len).map fun i => (q i).1, by simp, fun j x hj => ?_⟩
      have hjl : j < len := by have := (List.getElem?_eq_some_iff.1 hj).1; simpa using this
      rw [List.getElem?_map, List.getElem?_range hjl] at hj
      simp at hj
      subst hj
      obtain ⟨g1, g2, g3, g5⟩ := hq j hjl
      rw [Go.WideShapes.add_plain] at g1
      exact ⟨b, off, (q j).2.1, (q j).2.2, rfl, by have := cell_block_lt g1; exact this, g1, g2, g3, g5⟩

end Go.Proofs.YtkphjnbeakkejabDoor

/-
  The walk of SendBlocks. (Written by tpl_sendlaws.py.)
-/
namespace Go.Proofs.YtkphjnbeakkejabDoor
open Go.RowKit

theorem hid_imp {p : Prop} (h : p) : Hid p := h
theorem txsO_at {base n cap : Nat} {W : World} {a : Option Addr} {l : List (List Int)} (h : StsAt txK base W (.slice a n cap) l) {k : Nat} {xs : List Int} (hk : l[k]? = some xs) :
    ∃ gb off pa pc, a = some ⟨gb, off, none⟩ ∧ gb < W.heap.size ∧ W.cell? ⟨gb, off + k, none⟩ = some (.slice pa xs.length pc) ∧ Holds .u8 W.heap.size W (.slice pa xs.length pc) xs ∧ xs.length ≤ pc := by
  obtain ⟨r, h1, h2, h3⟩ := h
  obtain ⟨x, hx, rfl⟩ : ∃ x, r[k]? = some x ∧ x.1 = xs := by
    rw [← h1, List.getElem?_map] at hk
    cases hr : r[k]? with
    | none => rw [hr] at hk; simp at hk
    | some x => rw [hr] at hk; exact ⟨x, rfl, by simpa using hk⟩
  have hs := h3.subs x (List.mem_of_getElem? hx)
  obtain ⟨p, hp⟩ : ∃ p, x.2 = [p] := by
    have h4 : x.2.length = 1 := hs.1
    match h5 : x.2, h4 with
    | [p], _ => exact ⟨p, rfl⟩
  have ho : W.ownsRow base 5 1 p x.1.length (x.1.map (Value.int .u8)) := hs.2 0 p ⟨5, 1, x.1.length, x.1.map (Value.int .u8)⟩ (by rw [hp]; rfl) rfl
  obtain ⟨pa, pc, rfl⟩ := row_shapeS ho
  rcases h2.holds with ⟨_, e, _⟩ | ⟨b, off, c', e, hb, hc⟩
  · have := (List.getElem?_eq_some_iff.1 hk).1
    omega
  · cases e
    refine ⟨b, off, pa, pc, rfl, hb, ?_, holds_of_row ho, rowK_cap ho⟩
    have h6 := hc _ _ (cellsK_get txK hx 0 (.slice pa x.1.length pc) (by rw [hp]; rfl))
    rwa [show txK.k = 1 from rfl, Nat.mul_one, Nat.add_zero] at h6
theorem row_sameB {W W' : World} {base e k size : Nat} {v : Value} {xs : List Value} (h : W.ownsRow base e size v k xs) (hq : ∀ g, base ≤ g → g < W.heap.size → W'.heap[g]? = W.heap[g]?) : W'.ownsRow base e size v k xs := by
  refine ⟨h.1, ?_⟩
  rcases h.2 with h0 | ⟨g, cap, cur, hv, hbs, hg, hk, hm, hs, ht⟩
  · exact .inl h0
  · exact .inr ⟨g, cap, cur, hv, hbs, (hq g hbs (Array.getElem?_eq_some_iff.1 hg).1).trans hg, hk, hm, hs, ht⟩
theorem rowLen {W : World} {base n : Nat} {v : Value} {r : Lies (List Int)} (h : W.ownsRow base 33 1 v n (cellsK txK r)) : r.length = n := by
  have h1 := h.1
  rw [cellsK_len] at h1
  have h2 : txK.k = 1 := rfl
  rw [h2] at h1
  omega
theorem setRow_otherCell (W : World) (D g i : Nat) (cs : Array Value) (hg : g ≠ D) : (W.setRow D cs).cell? ⟨g, i, none⟩ = W.cell? ⟨g, i, none⟩ := by
  unfold World.cell?
  rw [show (W.setRow D cs).heap[(⟨g, i, none⟩ : Addr).block]? = W.heap[(⟨g, i, none⟩ : Addr).block]? from setRow_other W D g cs hg]
theorem RowAt.keptT {base base' n n' k size : Nat} {W W' : World} {e e' : TypeId} {v v' : Value} {cs xs : List Value} (h : RowAt base W e k v n cs) (hv : W.ownsRow base' e' size v' n' xs) (he : e ≠ e') (hg : W.grownBy W' v'.ownBlock) : RowAt base W' e k v n cs := by
  refine ⟨h.1, ?_⟩
  rcases h.2 with h0 | ⟨g, o, cap, cur, hv9, hn, hb, hgc, hc⟩
  · exact .inl h0
  · refine .inr ⟨g, o, cap, cur, hv9, hn, hb, (hg.block g (Array.getElem?_eq_some_iff.1 hgc).1 fun e2 => ?_).trans hgc, hc⟩
    rcases hv.2 with ⟨rfl, _⟩ | ⟨g', cap', cur', rfl, _, hg', _⟩
    · cases e2
    · simp only [Value.ownBlock, Option.some.injEq] at e2
      subst e2
      rw [hgc] at hg'
      simp only [Option.some.injEq, Obj.cells.injEq] at hg'
      exact he hg'.2.1
theorem StsAt.keptT {α : Type} {K : Kind α} {base base' n' size : Nat} {W W' : World} {v v' : Value} {l : List α} {e' : TypeId} {xs : List Value} (h : StsAt K base W v l) (hv : W.ownsRow base' e' size v' n' xs) (he : K.ty ≠ e') (hu : ∀ (y : α) (u : Sub), u ∈ K.subs y → u.ty ≠ e') (hg : W.grownBy W' v'.ownBlock) : StsAt K base W' v l := by
  obtain ⟨r, h1, h2, h3⟩ := h
  exact ⟨r, h1, h2.keptT hv he hg, h3.keptT hv hu hg⟩
theorem emK_subsB {t : TypeId} (h : (5 : Nat) ≠ t) : ∀ (y : Em) (u : Sub), u ∈ emK.subs y → u.ty ≠ t := fun y u hu => by
  simp only [emK, List.mem_cons, List.not_mem_nil, or_false] at hu
  subst hu
  exact h
theorem blkK_subs {t : TypeId} (h : (5 : Nat) ≠ t) : ∀ (y : Bl) (u : Sub), u ∈ blkK.subs y → u.ty ≠ t := fun y u hu => by
  simp only [blkK, List.mem_cons, List.not_mem_nil, or_false] at hu
  subst hu
  exact h
section
variable {base m : Nat} {s : Sn} {c : Cfg} {X : Bool} {K R B N T F : Int} {E M : Nat} {ea : Option Addr} {ec : Nat} {wa : Option Addr} {wc : Nat} {W W' : World}
/-- A row of another kind has grown. -/
theorem SnW.keptX (h : SnW base W s c X K R B N T F E M ea ec wa wc m) {base' n' size : Nat} {e' : TypeId} {v' : Value} {xs : List Value} (hv : W.ownsRow base' e' size v' n' xs) (h1 : (3 : Nat) ≠ e') (h2 : (44 : Nat) ≠ e') (h3 : (5 : Nat) ≠ e') (hg : W.grownBy W' v'.ownBlock) : SnW base W' s c X K R B N T F E M ea ec wa wc m :=
  ⟨h.is, h.ok, h.byt, ⟨h.lies.1.keptT hv h1 hg, h.lies.2.keptT hv h2 (emK_subsB h3) hg⟩, h.few⟩
/-- A row that lay below has grown. -/
theorem SnW.grownOld (h : SnW base W s c X K R B N T F E M ea ec wa wc m) {v' : Value} (hg : W.grownBy W' v'.ownBlock) (hl : ∀ g, v'.ownBlock = some g → g < base) : SnW base W' s c X K R B N T F E M ea ec wa wc m :=
  ⟨h.is, h.ok, h.byt, h.lies.same fun g hb hlt => hg.block g hlt fun e => by have := hl g e.symm; omega, h.few⟩
end
theorem blk_no {s : Sn} {x : List Int} (he : errS s x ≠ 0) : (sendS s x).sE = s.sE ∧ (sendS s x).sW = s.sW := by
  unfold sendS
  rw [if_neg he]
  exact ⟨rfl, rfl⟩
theorem blk_yes {c : Cfg} {P : List (List Int)} {s : Sn} {x : List Int} (h : OnlyS c P s) (hX : s.sX = false) (he : errS s x = 0) :
    (x.length : Int) ≤ c.cMsg ∧ (sendS s x).sE = s.sE ++ [((s.sW.length + nB c x : Nat) : Int)] ∧ (sendS s x).sW.length = s.sW.length + nB c x ∧ (s.sW.length : Int) + (nB c x : Int) ≤ 1073741824 ∧ allB c (P ++ [x]) = allB c P ++ blocksB c (s.sW.length : Int) x := by
  have ht := errS_table s x hX
  rw [h.same] at ht
  have hC : okC c = true := h.same ▸ h.ok.conf
  have hcs := (okC_iff c).1 hC
  have hb : blocksC c (x.length : Int) = (nB c x : Int) := blocksC_nat hC _
  have hw : s.sW.length = sumB c P := by rw [h.waits, waitsB_len, allB_len]
  have hn := h.next
  have g1 : (x.length : Int) ≤ c.cMsg := by
    rw [he] at ht
    split at ht
    · cases ht
    · omega
  have g2 : s.sT + blocksC c x.length ≤ c.cSeqs := by
    rw [he, if_neg (by omega)] at ht
    split at ht
    · cases ht
    · omega
  refine ⟨g1, ?_, ?_, by omega, ?_⟩
  · unfold sendS
    rw [if_pos he]
    show s.sE ++ [s.sT + blocksC s.sC (x.length : Int)] = _
    rw [h.same, hb, hn, hw]
    rfl
  · unfold sendS
    rw [if_pos he]
    show (s.sW ++ waitsB s.sT (blocksB s.sC s.sT x)).length = _
    rw [List.length_append, waitsB_len, blocksB_len, h.same]
    rfl
  · rw [allB_snoc, hw]
set_option maxRecDepth 100000 in
set_option maxHeartbeats 8000000 in
theorem sendBlocks_walk (cq : Cfg) (ba : Option Addr) (mt kc : Nat) (l : List (List Int)) (w : World) (hF : Firsts w) (hT : Texts w.heap.size w ba mt l) :
    Calls Tryd.prog 3 #[.agg #[.int .i64 cq.cB, .int .i64 cq.cBeam, .int .i64 cq.cDepth, .int .i64 cq.cWin, .int .i64 cq.cQs, .int .i64 cq.cQr, .int .i64 cq.cBatch, .int .i64 cq.cPass, .int .i64 cq.cMsg, .int .i64 cq.cSeqs], .slice ba mt kc] w fun e w' => e = .returned (.bool true) ∧ Below w.heap.size w w' := by
  have bb : Below w.heap.size w (w.alloc (.cells #[.int .i64 cq.cB, .int .i64 cq.cBeam, .int .i64 cq.cDepth, .int .i64 cq.cWin, .int .i64 cq.cQs, .int .i64 cq.cQr, .int .i64 cq.cBatch, .int .i64 cq.cPass, .int .i64 cq.cMsg, .int .i64 cq.cSeqs] 23)) := (Below.refl _ _).alloc (Nat.le_refl _) _
  have xC := Box.new w 23 #[.int .i64 cq.cB, .int .i64 cq.cBeam, .int .i64 cq.cDepth, .int .i64 cq.cWin, .int .i64 cq.cQs, .int .i64 cq.cQr, .int .i64 cq.cBatch, .int .i64 cq.cPass, .int .i64 cq.cMsg, .int .i64 cq.cSeqs]
  have HT : Hid (Texts w.heap.size w ba mt l) := hT
  have HF0 : Hid (Firsts w) := hF
  clear hT hF
  go_enter Tryd.func3, Tryd.ntmps3
  go_wp2_with (first | (refine wpList_load_box xC rfl 23 _ rfl rfl _ Tryd.underlying23 rfl (by kernel_rfl) ?_))
  refine (small_any cq _).mono ?_
  rintro e w1 ⟨c, rfl, hSm, b9⟩
  replace xC := xC.next b9
  replace bb := bb.trans (b9.mono bb.size)
  clear b9
  go_upto_region 2 with (first | (refine wpList_store_box xC rfl 23 _ _ rfl rfl rfl rfl (by kernel_rfl) (by simp [Value.oneCell']) ?_))
  replace xC := xC.setRow #[.int .i64 c.cB, .int .i64 c.cBeam, .int .i64 c.cDepth, .int .i64 c.cWin, .int .i64 c.cQs, .int .i64 c.cQr, .int .i64 c.cBatch, .int .i64 c.cPass, .int .i64 c.cMsg, .int .i64 c.cSeqs]
  replace bb := below_setRow bb (Nat.le_refl _) #[.int .i64 c.cB, .int .i64 c.cBeam, .int .i64 c.cDepth, .int .i64 c.cWin, .int .i64 c.cQs, .int .i64 c.cQr, .int .i64 c.cBatch, .int .i64 c.cPass, .int .i64 c.cMsg, .int .i64 c.cSeqs]
  generalize w1.setRow w.heap.size #[.int .i64 c.cB, .int .i64 c.cBeam, .int .i64 c.cDepth, .int .i64 c.cWin, .int .i64 c.cQs, .int .i64 c.cQr, .int .i64 c.cBatch, .int .i64 c.cPass, .int .i64 c.cMsg, .int .i64 c.cSeqs] = w2 at *
  have hC := hSm.ok
  have HSM : Hid (SmallC c) := hSm
  clear hSm
  by_cases h10 : 10 < mt
  · have d1 : decide (10 < mt) = true := decide_eq_true h10
    have d1i : decide (10 < (mt : Int)) = true := decide_eq_true (by omega)
    clear h10
    go_wp2
    go_ret
    exact ⟨rfl, bb⟩
  have d1 : decide (10 < mt) = false := decide_eq_false h10
  have d1i : decide (10 < (mt : Int)) = false := decide_eq_false (by omega)
  have hm10 : mt ≤ 10 := by omega
  clear h10
  go_wp2_with (first | (refine wpList_load_box xC rfl 23 _ rfl rfl _ Tryd.underlying23 rfl (by kernel_rfl) ?_))
  refine (sendNew_law c hC _).mono ?_
  rintro e w3 ⟨rfl, h1, b9⟩
  replace xC := xC.next b9
  replace bb := bb.trans (b9.mono bb.size)
  have HW : Hid (SnW (w3.heap.size + 1) w3 (newS c) c false 0 0 0 0 0 0 0 0 none 0 none 0 0) := (h1 _).out
  have bA : Below w3.heap.size w3 (w3.alloc (.cells #[.int .i64 0, .int .i64 0, .int .i64 0, .int .i64 0, .int .i64 0, .int .i64 0, .int .i64 0, .int .i64 0, .int .i64 0, .int .i64 0, .bool false, .int .i64 0, .int .i64 0, .int .i64 0, .int .i64 0, .int .i64 0, .int .i64 0, .slice none 0 0, .slice none 0 0] 29)) := (Below.refl _ _).alloc (Nat.le_refl _) _
  have xS := Box.new w3 29 #[.int .i64 0, .int .i64 0, .int .i64 0, .int .i64 0, .int .i64 0, .int .i64 0, .int .i64 0, .int .i64 0, .int .i64 0, .int .i64 0, .bool false, .int .i64 0, .int .i64 0, .int .i64 0, .int .i64 0, .int .i64 0, .int .i64 0, .slice none 0 0, .slice none 0 0]
  have HDC : Hid (w.heap.size < w3.heap.size) := xC.lt
  clear b9 h1 d1 d1i
  go_upto_region 5 with (first | (refine wpList_store_box xS rfl 29 _ _ rfl rfl rfl rfl (by kernel_rfl) (by simp [Value.oneCell']) ?_))
  have bB := below_setRow bA (Nat.le_refl _) #[.int .i64 c.cB, .int .i64 c.cBeam, .int .i64 c.cDepth, .int .i64 c.cWin, .int .i64 c.cQs, .int .i64 c.cQr, .int .i64 c.cBatch, .int .i64 c.cPass, .int .i64 c.cMsg, .int .i64 c.cSeqs, .bool false, .int .i64 0, .int .i64 0, .int .i64 0, .int .i64 0, .int .i64 0, .int .i64 0, .slice none 0 0, .slice none 0 0]
  replace xS := xS.setRow #[.int .i64 c.cB, .int .i64 c.cBeam, .int .i64 c.cDepth, .int .i64 c.cWin, .int .i64 c.cQs, .int .i64 c.cQr, .int .i64 c.cBatch, .int .i64 c.cPass, .int .i64 c.cMsg, .int .i64 c.cSeqs, .bool false, .int .i64 0, .int .i64 0, .int .i64 0, .int .i64 0, .int .i64 0, .int .i64 0, .slice none 0 0, .slice none 0 0]
  replace xC := xC.next bB
  have hW := HW.out.next bB
  replace bb := bb.trans (bB.mono bb.size)
  obtain ⟨D, hD⟩ : ∃ D, w3.heap.size = D := ⟨_, rfl⟩
  rw [hD] at xS xC hW bb HDC ⊢
  clear bA bB hD HW
  generalize (w3.alloc (.cells #[.int .i64 0, .int .i64 0, .int .i64 0, .int .i64 0, .int .i64 0, .int .i64 0, .int .i64 0, .int .i64 0, .int .i64 0, .int .i64 0, .bool false, .int .i64 0, .int .i64 0, .int .i64 0, .int .i64 0, .int .i64 0, .int .i64 0, .slice none 0 0, .slice none 0 0] 29)).setRow D #[.int .i64 c.cB, .int .i64 c.cBeam, .int .i64 c.cDepth, .int .i64 c.cWin, .int .i64 c.cQs, .int .i64 c.cQr, .int .i64 c.cBatch, .int .i64 c.cPass, .int .i64 c.cMsg, .int .i64 c.cSeqs, .bool false, .int .i64 0, .int .i64 0, .int .i64 0, .int .i64 0, .int .i64 0, .int .i64 0, .slice none 0 0, .slice none 0 0] = w4 at *
  have HW4 : Hid (SnW (D + 1) w4 (newS c) c false 0 0 0 0 0 0 0 0 none 0 none 0 0) := hW
  have HON : Hid (OnlyS c [] (newS c)) := only_new hC
  have HC : Hid (okC c = true) := hC
  clear hC hW
  go_wp2_with fail
  go_loopw [7, 8, 9] (fun wt en i wr => ∃ k : Nat, k ≤ mt ∧ i = .int .i64 (k : Int) ∧ ∃ (s : Sn) (P : List (List Int)) (R B N T F : Int) (E M : Nat) (ea : Option Addr) (ec : Nat) (wa : Option Addr) (wc : Nat) (r : Lies (List Int)), Hid (OnlyS c P s ∧ s.sX = false ∧ P.length ≤ k) ∧ Hid (SnW (D + 1) wr s c false 0 R B N T F E M ea ec wa wc (200 * k)) ∧ Hid (r.map Prod.fst = allB c P) ∧ wr.ownsRow (D + 1) 33 1 wt M (cellsK txK r) ∧ OwnL txK (D + 1) wr r ∧ wr.ownsRow (D + 1) 3 1 en E (s.sE.map (Value.int .i64)) ∧ Box wr D 29 #[.int .i64 c.cB, .int .i64 c.cBeam, .int .i64 c.cDepth, .int .i64 c.cWin, .int .i64 c.cQs, .int .i64 c.cQr, .int .i64 c.cBatch, .int .i64 c.cPass, .int .i64 c.cMsg, .int .i64 c.cSeqs, .bool false, .int .i64 0, .int .i64 R, .int .i64 B, .int .i64 N, .int .i64 T, .int .i64 F, .slice ea E ec, .slice wa M wc] ∧ Box wr w.heap.size 23 #[.int .i64 c.cB, .int .i64 c.cBeam, .int .i64 c.cDepth, .int .i64 c.cWin, .int .i64 c.cQs, .int .i64 c.cQr, .int .i64 c.cBatch, .int .i64 c.cPass, .int .i64 c.cMsg, .int .i64 c.cSeqs] ∧ Below w.heap.size w wr) (fun _ _ i _ => mt - (intOf i).toNat)
  case atStart => exact ⟨0, Nat.zero_le _, rfl, newS c, [], 0, 0, 0, 0, 0, 0, 0, none, 0, none, 0, [], ⟨HON.out, rfl, Nat.le_refl _⟩, HW4, rfl, World.ownsRow_nil _ _ _ _, ownL_nil _ _ _, World.ownsRow_nil _ _ _ _, xS, xC, bb⟩
  case round =>
    clear HON HW4 xS xC bb
    obtain ⟨k, hk, rfl, s, P, R, B, N, T, F, E, M, ea, ec, wa, wc, r, HON, HSW, HR, hrow, hown, hend, xS, xC, bb⟩ := hrel
    generalize hwr : wr = w5 at *
    clear hwr
    obtain ⟨pa7, pc7, rfl⟩ := row_shapeS hrow
    obtain ⟨pa8, pc8, rfl⟩ := row_shapeS hend
    by_cases hlt : k < mt
    · obtain ⟨x, hx⟩ : ∃ x, l[k]? = some x := ⟨l[k]'(by rw [HT.out.1]; exact hlt), by simp⟩
      obtain ⟨bT, off, xa, xc, rfl, hbT, hcT, hHT, hxc, hxb⟩ := HT.out.2 k x hx
      obtain ⟨n, hn⟩ : ∃ n, x.length = n := ⟨_, rfl⟩
      rw [hn] at hcT hHT hxc
      have HTX : Hid (Holds .u8 w.heap.size w (.slice xa n xc) x) := hHT
      have HNX : Hid (x.length = n) := hn
      have HXB : Hid (∀ z ∈ x, 0 ≤ z ∧ z ≤ 255) := hxb
      replace hcT := (bb.cell (p := ⟨bT, off + k, none⟩) hbT).trans hcT
      have dk : decide (k < mt) = true := decide_eq_true hlt
      have dki : decide ((k : Int) < (mt : Int)) = true := decide_eq_true (by omega)
      clear hx hHT
      by_cases h4 : 400 < n
      · have d4 : decide (400 < n) = true := decide_eq_true h4
        have d4i : decide (400 < (n : Int)) = true := decide_eq_true (by omega)
        clear h4
        go_wp2
        go_ret
        exact ⟨rfl, bb⟩
      have d4 : decide (400 < n) = false := decide_eq_false h4
      have d4i : decide (400 < (n : Int)) = false := decide_eq_false (by omega)
      clear h4
      go_upto_region 14 with fail
      clear d4 d4i
      have hbT5 : bT < w5.heap.size := Nat.lt_of_lt_of_le hbT bb.size
      have hDw : D < w5.heap.size := xS.lt
      have HEL : Hid (∀ g, (Value.slice pa8 E pc8).ownBlock = some g → g < w5.heap.size) := fun g e => (hend.lt g e).2
      have HSD := hid_imp fun (wx : World) (bx : Below w5.heap.size w5 wx) => sendSend_law (w := wx) (HSW.out.next bx) (by omega) xa n xc x hn hxc hxb (((HTX.out.below bb).mono bb.size).below bx |>.mono bx.size)
      go_cut [10, 11] (fun v0 v1 wx => ∃ (DT : Nat) (R9 B9 N9 T9 F9 : Int) (E9 M9 : Nat) (fa : Option Addr) (fc : Nat) (va : Option Addr) (vc : Nat), v0 = .pointer (some ⟨DT, 0, none⟩) ∧ v1 = .int .i64 (errS s x) ∧ w5.heap.size ≤ DT ∧ Box wx DT 29 #[.int .i64 c.cB, .int .i64 c.cBeam, .int .i64 c.cDepth, .int .i64 c.cWin, .int .i64 c.cQs, .int .i64 c.cQr, .int .i64 c.cBatch, .int .i64 c.cPass, .int .i64 c.cMsg, .int .i64 c.cSeqs, .bool false, .int .i64 0, .int .i64 R9, .int .i64 B9, .int .i64 N9, .int .i64 T9, .int .i64 F9, .slice fa E9 fc, .slice va M9 vc] ∧ Hid (SnW w5.heap.size wx (sendS s x) c false 0 R9 B9 N9 T9 F9 E9 M9 fa fc va vc (200 * k + 200)) ∧ Below w5.heap.size w5 wx)
      case first =>
        as_aux_lemma =>
          refine wp_region_held_drew (S := fun w' => Below w5.heap.size w5 w') (by kernel_rfl) ((Below.refl _ _).drew) (fun hHeld => ?_)
          refine held_take (i := 0) (d := 43) (v := ?v1) rfl rfl (by kernel_rfl) (by kernel_rfl) (by kernel_rfl) (fun _ _ _ h => h) (Or.inl ⟨by kernel_rfl, ?hy1⟩) hHeld ?rest1
          case hy1 =>
            refine yields_box 29 ?yx1 ?yo1 ?yh1 _ (fun wx hSw => xS.below hSw xS.lt) Tryd.underlying29 rfl (by kernel_rfl)
            case yo1 => rfl
            case yh1 => rfl
          simp only [List.setIfInBounds_toArray, List.set_cons_zero, List.set_cons_succ]
          refine held_take (i := 1) (d := 44) (v := ?v2) rfl rfl (by kernel_rfl) (by kernel_rfl) (by kernel_rfl) (fun _ _ _ h => h) (Or.inl ⟨by kernel_rfl, ?hy2⟩) hHeld ?rest2
          case hy2 =>
            intro wx hSw
            clear hSw
            go_simp
            with_reducible rfl
          simp only [List.setIfInBounds_toArray, List.set_cons_zero, List.set_cons_succ]
          refine held_take (i := 2) (d := 45) (v := ?v3) rfl rfl (by kernel_rfl) (by kernel_rfl) (by kernel_rfl) (fun _ _ _ h => h) (Or.inl ⟨by kernel_rfl, ?hy3⟩) hHeld ?rest3
          case hy3 =>
            intro wx hSw
            clear hSw
            go_simp
            with_reducible rfl
          simp only [List.setIfInBounds_toArray, List.set_cons_zero, List.set_cons_succ]
          refine held_take (i := 3) (d := 46) (v := ?v4) rfl rfl (by kernel_rfl) (by kernel_rfl) (by kernel_rfl) (fun _ _ _ h => h) (Or.inl ⟨by kernel_rfl, ?hy4⟩) hHeld ?rest4
          case hy4 =>
            intro wx hSw
            clear hSw
            go_simp
            with_reducible rfl
          simp only [List.setIfInBounds_toArray, List.set_cons_zero, List.set_cons_succ]
          refine held_take (i := 4) (d := 47) (v := ?v5) rfl rfl (by kernel_rfl) (by kernel_rfl) (by kernel_rfl) (fun _ _ _ h => h) (Or.inl ⟨by kernel_rfl, ?hy5⟩) hHeld ?rest5
          case hy5 =>
            intro wx hSw
            have q0 := (hSw.cell (p := ⟨bT, off + k, none⟩) hbT5).trans hcT
            clear hSw
            go_simp
            with_reducible rfl
          simp only [List.setIfInBounds_toArray, List.set_cons_zero, List.set_cons_succ]
          refine wpAnyH_ready (rs := [5, 9]) (by kernel_rfl) (by simp) ?_
          refine AllReadyH.cons rfl (fun K hK => ?_) ?_
          · go_simp
            go_wp2_with (go_at_call 7; refine (HSD.out w5.drew (Below.refl w5.heap.size w5).drew).mono ?_; rintro e w9 ⟨R9, B9, N9, T9, F9, E9, M9, fa, fc, va, vc, rfl, hS, b9⟩)
            have b9d : Below w5.heap.size w5 w9 := ((Below.refl w5.heap.size w5).drew).trans (b9.mono ((Below.refl w5.heap.size w5).drew).size)
            refine hK.out _ _ (b9d) (fun hHeld => ?_)
            clear hK K
            refine held_take (i := 6) (d := 42) (v := ?v6) rfl rfl (by kernel_rfl) (by kernel_rfl) (by kernel_rfl) (fun _ _ _ h => h) (Or.inl ⟨by kernel_rfl, ?hy6⟩) hHeld ?rest6
            case hy6 =>
              intro wx hSw
              clear hSw
              go_simp
              with_reducible rfl
            simp only [List.setIfInBounds_toArray, List.set_cons_zero, List.set_cons_succ]
            refine held_take (i := 7) (d := 49) (v := ?v7) rfl rfl (by kernel_rfl) (by kernel_rfl) (by kernel_rfl) (fun _ _ _ h => h) (Or.inl ⟨by kernel_rfl, ?hy7⟩) hHeld ?rest7
            case hy7 =>
              intro wx hSw
              clear hSw
              go_simp
              with_reducible rfl
            simp only [List.setIfInBounds_toArray, List.set_cons_zero, List.set_cons_succ]
            refine held_take (i := 8) (d := 50) (v := ?v8) rfl rfl (by kernel_rfl) (by kernel_rfl) (by kernel_rfl) (fun _ _ _ h => h) (Or.inl ⟨by kernel_rfl, ?hy8⟩) hHeld ?rest8
            case hy8 =>
              intro wx hSw
              clear hSw
              go_simp
              with_reducible rfl
            simp only [List.setIfInBounds_toArray, List.set_cons_zero, List.set_cons_succ]
            refine wpAnyH_ready (rs := [9]) (by kernel_rfl) (by simp) ?_
            refine AllReadyH.cons rfl (fun K hK => ?_) AllReadyH.nil
            go_simp
            have bA9 : Below w9.heap.size w9 (w9.alloc (.cells #[.int .i64 0, .int .i64 0, .int .i64 0, .int .i64 0, .int .i64 0, .int .i64 0, .int .i64 0, .int .i64 0, .int .i64 0, .int .i64 0, .bool false, .int .i64 0, .int .i64 0, .int .i64 0, .int .i64 0, .int .i64 0, .int .i64 0, .slice none 0 0, .slice none 0 0] 29)) := (Below.refl _ _).alloc (Nat.le_refl _) _
            have xT := Box.new w9 29 #[.int .i64 0, .int .i64 0, .int .i64 0, .int .i64 0, .int .i64 0, .int .i64 0, .int .i64 0, .int .i64 0, .int .i64 0, .int .i64 0, .bool false, .int .i64 0, .int .i64 0, .int .i64 0, .int .i64 0, .int .i64 0, .int .i64 0, .slice none 0 0, .slice none 0 0]
            have hz9 : w5.heap.size ≤ w9.heap.size := b9d.size
            refine hK.out _ _ (b9d.trans (bA9.mono b9d.size)) (fun hHeld => ?_)
            clear hK K
            refine wpAnyH_ready (rs := [10]) (by kernel_rfl) (by simp) ?_
            refine AllReadyH.cons rfl (fun K hK => ?_) AllReadyH.nil
            refine step_store_boxn xT rfl 29 _ _ rfl rfl rfl rfl (by kernel_rfl) (by simp [Value.oneCell']) ?_
            simp only [Act.put, List.setIfInBounds_toArray]
            refine hK.out _ _ (below_setRow (b9d.trans (bA9.mono b9d.size)) hz9 #[.int .i64 c.cB, .int .i64 c.cBeam, .int .i64 c.cDepth, .int .i64 c.cWin, .int .i64 c.cQs, .int .i64 c.cQr, .int .i64 c.cBatch, .int .i64 c.cPass, .int .i64 c.cMsg, .int .i64 c.cSeqs, .bool false, .int .i64 0, .int .i64 R9, .int .i64 B9, .int .i64 N9, .int .i64 T9, .int .i64 F9, .slice fa E9 fc, .slice va M9 vc]) (fun hHeld => ?_)
            clear hK K
            refine wpAnyH_ready (rs := [11]) (by kernel_rfl) (by simp) ?_
            refine AllReadyH.cons rfl (fun K hK => ?_) AllReadyH.nil
            go_simp
            refine hK.out _ _ hHeld (fun hHeld => ?_)
            clear hK K
            refine wpAnyH_done (by kernel_rfl) ?_ _
            go_wp2_with fail
            go_meet
            exact ⟨w9.heap.size, R9, B9, N9, T9, F9, E9, M9, fa, fc, va, vc, rfl, rfl, hz9, xT.setRow #[.int .i64 c.cB, .int .i64 c.cBeam, .int .i64 c.cDepth, .int .i64 c.cWin, .int .i64 c.cQs, .int .i64 c.cQr, .int .i64 c.cBatch, .int .i64 c.cPass, .int .i64 c.cMsg, .int .i64 c.cSeqs, .bool false, .int .i64 0, .int .i64 R9, .int .i64 B9, .int .i64 N9, .int .i64 T9, .int .i64 F9, .slice fa E9 fc, .slice va M9 vc], (hS.out.next (below_setRow bA9 (Nat.le_refl _) #[.int .i64 c.cB, .int .i64 c.cBeam, .int .i64 c.cDepth, .int .i64 c.cWin, .int .i64 c.cQs, .int .i64 c.cQr, .int .i64 c.cBatch, .int .i64 c.cPass, .int .i64 c.cMsg, .int .i64 c.cSeqs, .bool false, .int .i64 0, .int .i64 R9, .int .i64 B9, .int .i64 N9, .int .i64 T9, .int .i64 F9, .slice fa E9 fc, .slice va M9 vc])).lower (base' := w5.heap.size) (Nat.le_refl w5.heap.size), hHeld⟩
          refine AllReadyH.cons rfl (fun K hK => ?_) ?_
          · go_simp
            have bA9 : Below w5.heap.size w5 (w5.alloc (.cells #[.int .i64 0, .int .i64 0, .int .i64 0, .int .i64 0, .int .i64 0, .int .i64 0, .int .i64 0, .int .i64 0, .int .i64 0, .int .i64 0, .bool false, .int .i64 0, .int .i64 0, .int .i64 0, .int .i64 0, .int .i64 0, .int .i64 0, .slice none 0 0, .slice none 0 0] 29)).drew := ((Below.refl w5.heap.size w5).alloc (Nat.le_refl _) _).drew
            have xT : Box (w5.alloc (.cells #[.int .i64 0, .int .i64 0, .int .i64 0, .int .i64 0, .int .i64 0, .int .i64 0, .int .i64 0, .int .i64 0, .int .i64 0, .int .i64 0, .bool false, .int .i64 0, .int .i64 0, .int .i64 0, .int .i64 0, .int .i64 0, .int .i64 0, .slice none 0 0, .slice none 0 0] 29)).drew w5.heap.size 29 #[.int .i64 0, .int .i64 0, .int .i64 0, .int .i64 0, .int .i64 0, .int .i64 0, .int .i64 0, .int .i64 0, .int .i64 0, .int .i64 0, .bool false, .int .i64 0, .int .i64 0, .int .i64 0, .int .i64 0, .int .i64 0, .int .i64 0, .slice none 0 0, .slice none 0 0] := (Box.new w5 29 #[.int .i64 0, .int .i64 0, .int .i64 0, .int .i64 0, .int .i64 0, .int .i64 0, .int .i64 0, .int .i64 0, .int .i64 0, .int .i64 0, .bool false, .int .i64 0, .int .i64 0, .int .i64 0, .int .i64 0, .int .i64 0, .int .i64 0, .slice none 0 0, .slice none 0 0]).next (Below.refl _ _).drew
            have h58 := xT.lt
            generalize (w5.alloc (.cells #[.int .i64 0, .int .i64 0, .int .i64 0, .int .i64 0, .int .i64 0, .int .i64 0, .int .i64 0, .int .i64 0, .int .i64 0, .int .i64 0, .bool false, .int .i64 0, .int .i64 0, .int .i64 0, .int .i64 0, .int .i64 0, .int .i64 0, .slice none 0 0, .slice none 0 0] 29)).drew = w8 at *
            refine hK.out _ _ (bA9) (fun hHeld => ?_)
            clear hK K
            refine wpAnyH_ready (rs := [5]) (by kernel_rfl) (by simp) ?_
            refine AllReadyH.cons rfl (fun K hK => ?_) AllReadyH.nil
            go_simp
            go_wp2_with (go_at_call 7; refine (HSD.out w8 bA9).mono ?_; rintro e w9 ⟨R9, B9, N9, T9, F9, E9, M9, fa, fc, va, vc, rfl, hS, b9⟩)
            have b9d : Below w5.heap.size w5 w9 := (bA9).trans (b9.mono (bA9).size)
            replace xT := xT.next b9
            refine hK.out _ _ (b9d) (fun hHeld => ?_)
            clear hK K
            refine held_take (i := 6) (d := 42) (v := ?v9) rfl rfl (by kernel_rfl) (by kernel_rfl) (by kernel_rfl) (fun _ _ _ h => h) (Or.inl ⟨by kernel_rfl, ?hy9⟩) hHeld ?rest9
            case hy9 =>
              intro wx hSw
              clear hSw
              go_simp
              with_reducible rfl
            simp only [List.setIfInBounds_toArray, List.set_cons_zero, List.set_cons_succ]
            refine held_take (i := 7) (d := 49) (v := ?v10) rfl rfl (by kernel_rfl) (by kernel_rfl) (by kernel_rfl) (fun _ _ _ h => h) (Or.inl ⟨by kernel_rfl, ?hy10⟩) hHeld ?rest10
            case hy10 =>
              intro wx hSw
              clear hSw
              go_simp
              with_reducible rfl
            simp only [List.setIfInBounds_toArray, List.set_cons_zero, List.set_cons_succ]
            refine held_take (i := 8) (d := 50) (v := ?v11) rfl rfl (by kernel_rfl) (by kernel_rfl) (by kernel_rfl) (fun _ _ _ h => h) (Or.inl ⟨by kernel_rfl, ?hy11⟩) hHeld ?rest11
            case hy11 =>
              intro wx hSw
              clear hSw
              go_simp
              with_reducible rfl
            simp only [List.setIfInBounds_toArray, List.set_cons_zero, List.set_cons_succ]
            refine wpAnyH_ready (rs := [10]) (by kernel_rfl) (by simp) ?_
            refine AllReadyH.cons rfl (fun K hK => ?_) AllReadyH.nil
            refine step_store_boxn xT rfl 29 _ _ rfl rfl rfl rfl (by kernel_rfl) (by simp [Value.oneCell']) ?_
            simp only [Act.put, List.setIfInBounds_toArray]
            refine hK.out _ _ (below_setRow b9d (Nat.le_refl w5.heap.size) #[.int .i64 c.cB, .int .i64 c.cBeam, .int .i64 c.cDepth, .int .i64 c.cWin, .int .i64 c.cQs, .int .i64 c.cQr, .int .i64 c.cBatch, .int .i64 c.cPass, .int .i64 c.cMsg, .int .i64 c.cSeqs, .bool false, .int .i64 0, .int .i64 R9, .int .i64 B9, .int .i64 N9, .int .i64 T9, .int .i64 F9, .slice fa E9 fc, .slice va M9 vc]) (fun hHeld => ?_)
            clear hK K
            refine wpAnyH_ready (rs := [11]) (by kernel_rfl) (by simp) ?_
            refine AllReadyH.cons rfl (fun K hK => ?_) AllReadyH.nil
            go_simp
            refine hK.out _ _ hHeld (fun hHeld => ?_)
            clear hK K
            refine wpAnyH_done (by kernel_rfl) ?_ _
            go_wp2_with fail
            go_meet
            exact ⟨w5.heap.size, R9, B9, N9, T9, F9, E9, M9, fa, fc, va, vc, rfl, rfl, Nat.le_refl _, xT.setRow #[.int .i64 c.cB, .int .i64 c.cBeam, .int .i64 c.cDepth, .int .i64 c.cWin, .int .i64 c.cQs, .int .i64 c.cQr, .int .i64 c.cBatch, .int .i64 c.cPass, .int .i64 c.cMsg, .int .i64 c.cSeqs, .bool false, .int .i64 0, .int .i64 R9, .int .i64 B9, .int .i64 N9, .int .i64 T9, .int .i64 F9, .slice fa E9 fc, .slice va M9 vc], (hS.out.old (D := w5.heap.size) (by omega) (fun g hg => setRow_other w9 w5.heap.size g #[.int .i64 c.cB, .int .i64 c.cBeam, .int .i64 c.cDepth, .int .i64 c.cWin, .int .i64 c.cQs, .int .i64 c.cQr, .int .i64 c.cBatch, .int .i64 c.cPass, .int .i64 c.cMsg, .int .i64 c.cSeqs, .bool false, .int .i64 0, .int .i64 R9, .int .i64 B9, .int .i64 N9, .int .i64 T9, .int .i64 F9, .slice fa E9 fc, .slice va M9 vc] hg)).lower (base' := w5.heap.size) (by omega), hHeld⟩
          exact AllReadyH.nil
      case rest =>
        as_aux_lemma =>
          obtain ⟨DT, R9, B9, N9, T9, F9, E9, M9, fa, fc, va, vc, rfl, rfl, hDT, xT, hS, b9⟩ := hcut
          generalize hwc : wc = w6 at *
          clear hwc HSD
          replace xS := xS.next b9
          replace xC := xC.next b9
          replace hrow := rowK_below hrow b9 (Nat.le_refl _)
          replace hown := hown.next b9
          replace hend := rowK_below hend b9 (Nat.le_refl _)
          replace bb := bb.trans (b9.mono bb.size)
          replace hcT := (b9.cell (p := ⟨bT, off + k, none⟩) hbT5).trans hcT
          have hbT6 : bT < w6.heap.size := Nat.lt_of_lt_of_le hbT5 b9.size
          have lT := xT.lt
          clear b9 hbT5
          go_upto_region 16 with (first | (refine wpList_load_box xT rfl 29 _ rfl rfl _ Tryd.underlying29 rfl (by kernel_rfl) ?_) | (refine wpList_store_box xS rfl 29 _ _ rfl rfl rfl rfl (by kernel_rfl) (by simp [Value.oneCell']) ?_))
          replace xS := xS.setRow #[.int .i64 c.cB, .int .i64 c.cBeam, .int .i64 c.cDepth, .int .i64 c.cWin, .int .i64 c.cQs, .int .i64 c.cQr, .int .i64 c.cBatch, .int .i64 c.cPass, .int .i64 c.cMsg, .int .i64 c.cSeqs, .bool false, .int .i64 0, .int .i64 R9, .int .i64 B9, .int .i64 N9, .int .i64 T9, .int .i64 F9, .slice fa E9 fc, .slice va M9 vc]
          have hS := hS.out.old (D := D) hDw (fun g hg => setRow_other w6 D g #[.int .i64 c.cB, .int .i64 c.cBeam, .int .i64 c.cDepth, .int .i64 c.cWin, .int .i64 c.cQs, .int .i64 c.cQr, .int .i64 c.cBatch, .int .i64 c.cPass, .int .i64 c.cMsg, .int .i64 c.cSeqs, .bool false, .int .i64 0, .int .i64 R9, .int .i64 B9, .int .i64 N9, .int .i64 T9, .int .i64 F9, .slice fa E9 fc, .slice va M9 vc] hg)
          replace xC := xC.otherRow (D := D) (by have := HDC.out; omega) #[.int .i64 c.cB, .int .i64 c.cBeam, .int .i64 c.cDepth, .int .i64 c.cWin, .int .i64 c.cQs, .int .i64 c.cQr, .int .i64 c.cBatch, .int .i64 c.cPass, .int .i64 c.cMsg, .int .i64 c.cSeqs, .bool false, .int .i64 0, .int .i64 R9, .int .i64 B9, .int .i64 N9, .int .i64 T9, .int .i64 F9, .slice fa E9 fc, .slice va M9 vc]
          have HQ : ∀ g, D + 1 ≤ g → g < w6.heap.size → (w6.setRow D #[.int .i64 c.cB, .int .i64 c.cBeam, .int .i64 c.cDepth, .int .i64 c.cWin, .int .i64 c.cQs, .int .i64 c.cQr, .int .i64 c.cBatch, .int .i64 c.cPass, .int .i64 c.cMsg, .int .i64 c.cSeqs, .bool false, .int .i64 0, .int .i64 R9, .int .i64 B9, .int .i64 N9, .int .i64 T9, .int .i64 F9, .slice fa E9 fc, .slice va M9 vc]).heap[g]? = w6.heap[g]? := fun g hg _ => setRow_other w6 D g #[.int .i64 c.cB, .int .i64 c.cBeam, .int .i64 c.cDepth, .int .i64 c.cWin, .int .i64 c.cQs, .int .i64 c.cQr, .int .i64 c.cBatch, .int .i64 c.cPass, .int .i64 c.cMsg, .int .i64 c.cSeqs, .bool false, .int .i64 0, .int .i64 R9, .int .i64 B9, .int .i64 N9, .int .i64 T9, .int .i64 F9, .slice fa E9 fc, .slice va M9 vc] (by omega)
          replace hrow := row_sameB hrow HQ
          replace hown := hown.since HQ
          replace hend := row_sameB hend HQ
          replace hcT := (setRow_otherCell w6 D bT (off + k) #[.int .i64 c.cB, .int .i64 c.cBeam, .int .i64 c.cDepth, .int .i64 c.cWin, .int .i64 c.cQs, .int .i64 c.cQr, .int .i64 c.cBatch, .int .i64 c.cPass, .int .i64 c.cMsg, .int .i64 c.cSeqs, .bool false, .int .i64 0, .int .i64 R9, .int .i64 B9, .int .i64 N9, .int .i64 T9, .int .i64 F9, .slice fa E9 fc, .slice va M9 vc] (by have := HDC.out; omega)).trans hcT
          replace bb := below_setRow bb (show w.heap.size ≤ D by have := HDC.out; omega) #[.int .i64 c.cB, .int .i64 c.cBeam, .int .i64 c.cDepth, .int .i64 c.cWin, .int .i64 c.cQs, .int .i64 c.cQr, .int .i64 c.cBatch, .int .i64 c.cPass, .int .i64 c.cMsg, .int .i64 c.cSeqs, .bool false, .int .i64 0, .int .i64 R9, .int .i64 B9, .int .i64 N9, .int .i64 T9, .int .i64 F9, .slice fa E9 fc, .slice va M9 vc]
          have hbT7 : bT < (w6.setRow D #[.int .i64 c.cB, .int .i64 c.cBeam, .int .i64 c.cDepth, .int .i64 c.cWin, .int .i64 c.cQs, .int .i64 c.cQr, .int .i64 c.cBatch, .int .i64 c.cPass, .int .i64 c.cMsg, .int .i64 c.cSeqs, .bool false, .int .i64 0, .int .i64 R9, .int .i64 B9, .int .i64 N9, .int .i64 T9, .int .i64 F9, .slice fa E9 fc, .slice va M9 vc]).heap.size := Nat.lt_of_lt_of_le hbT bb.size
          clear HQ xT lT hDT hbT6
          generalize w6.setRow D #[.int .i64 c.cB, .int .i64 c.cBeam, .int .i64 c.cDepth, .int .i64 c.cWin, .int .i64 c.cQs, .int .i64 c.cQr, .int .i64 c.cBatch, .int .i64 c.cPass, .int .i64 c.cMsg, .int .i64 c.cSeqs, .bool false, .int .i64 0, .int .i64 R9, .int .i64 B9, .int .i64 N9, .int .i64 T9, .int .i64 F9, .slice fa E9 fc, .slice va M9 vc] = w7 at *
          have HS9 : Hid _ := hS
          have HSWI : Hid _ := HSW.out.is
          clear hS HSW
          by_cases he : errS s x = 0
          · have HE0 : Hid (errS s x = 0) := he
            have HY : Hid _ := blk_yes HON.out.1 HON.out.2.1 he
            rw [he]
            have hy := HY.out
            rw [HNX.out] at hy
            obtain ⟨hle, hsE, hsW, hT1, hal⟩ := hy
            have hM : s.sW.length = M := HSWI.out.lW
            rw [hM] at hsE hsW hT1 hal
            obtain ⟨Z, hZ⟩ : ∃ Z, c.cB.toNat = Z := ⟨_, rfl⟩
            obtain ⟨hB1, hB2, hB3⟩ := conf_B HC.out
            rw [hZ] at hB1 hB2 hB3
            obtain ⟨Q, hQ⟩ : ∃ Q, nB c x = Q := ⟨_, rfl⟩
            have hQN : blocksN Z n = Q := by rw [← hQ, ← hZ, ← HNX.out]; rfl
            rw [hQ] at hsE hsW hT1
            have hQ1 : 1 ≤ Q := hQ ▸ nB_pos HC.out x
            have hQ2 : Q ≤ 200 := by
              have h9 := blocksC_nat HC.out n
              have h8 := (blocks_bd HC.out n hle).2.2
              rw [hZ, hQN] at h9
              omega
            have HZ : Hid (c.cB.toNat = Z ∧ (Z : Int) = c.cB ∧ 1 ≤ Z ∧ Z ≤ 16 ∧ blocksN Z x.length = Q ∧ (M : Int) + (Q : Int) ≤ 1073741824) := ⟨hZ, hB3, hB1, by omega, by rw [HNX.out]; exact hQN, hT1⟩
            have hM9 : M9 = M + Q := by have := HS9.out.is.lW; omega
            have HAL : Hid (allB c (P ++ [x]) = allB c P ++ blocksB c (M : Int) x) := hal
            have HSE : Hid ((sendS s x).sE = s.sE ++ [((M9 : Nat) : Int)]) := by
              show (sendS s x).sE = _
              rw [hsE, hM9]
            have HCU := hid_imp fun (wx : World) (bx : Below w7.heap.size w7 wx) => Cut_ok c (M : Int) xa n xc HC.out hle hxc x HNX.out Z Q hB3.symm hQN (by omega) hT1 wx (((HTX.out.below bb).mono bb.size).below bx |>.mono bx.size)
            have HM9 : Hid (M9 = M + Q ∧ 1 ≤ Q ∧ Q ≤ 200) := ⟨hM9, hQ1, hQ2⟩
            have dq0 : decide ((Q : Int) = 0) = false := decide_eq_false (by omega)
            have dq1 : ((Q : Int) == 0) = false := by rw [beq_eq_false_iff_ne]; omega
            have dq2 : (Q == 0) = false := by rw [beq_eq_false_iff_ne]; omega
            clear hle hsE hsW hT1 hal hM hZ hB1 hB2 hB3 hQ hQN hQ1 hQ2 hM9 HY he
            go_upto_region 17 with fail
            go_cut [12, 13] (fun v0 v1 wx => ∃ v, v0 = v ∧ v1 = .int .i64 0 ∧ OwnBlks w7.heap.size wx v (cutL Z (M : Int) Q x) ∧ Below w7.heap.size w7 wx)
            case first =>
              as_aux_lemma =>
                refine wp_region_held_drew (S := fun w' => Below w7.heap.size w7 w') (by kernel_rfl) ((Below.refl _ _).drew) (fun hHeld => ?_)
                refine held_take (i := 0) (d := 55) (v := ?v12) rfl rfl (by kernel_rfl) (by kernel_rfl) (by kernel_rfl) (fun _ _ _ h => h) (Or.inl ⟨by kernel_rfl, ?hy12⟩) hHeld ?rest12
                case hy12 =>
                  refine yields_box 23 ?yx12 ?yo12 ?yh12 _ (fun wx hSw => xC.below hSw xC.lt) Tryd.underlying23 rfl (by kernel_rfl)
                  case yo12 => rfl
                  case yh12 => rfl
                simp only [List.setIfInBounds_toArray, List.set_cons_zero, List.set_cons_succ]
                refine held_take (i := 1) (d := 56) (v := ?v13) rfl rfl (by kernel_rfl) (by kernel_rfl) (by kernel_rfl) (fun _ _ _ h => h) (Or.inl ⟨by kernel_rfl, ?hy13⟩) hHeld ?rest13
                case hy13 =>
                  intro wx hSw
                  clear hSw
                  go_simp
                  with_reducible rfl
                simp only [List.setIfInBounds_toArray, List.set_cons_zero, List.set_cons_succ]
                refine held_take (i := 2) (d := 57) (v := ?v14) rfl rfl (by kernel_rfl) (by kernel_rfl) (by kernel_rfl) (fun _ _ _ h => h) (Or.inl ⟨by kernel_rfl, ?hy14⟩) hHeld ?rest14
                case hy14 =>
                  intro wx hSw
                  clear hSw
                  go_simp
                  with_reducible rfl
                simp only [List.setIfInBounds_toArray, List.set_cons_zero, List.set_cons_succ]
                refine held_take (i := 3) (d := 58) (v := ?v15) rfl rfl (by kernel_rfl) (by kernel_rfl) (by kernel_rfl) (fun _ _ _ h => h) (Or.inl ⟨by kernel_rfl, ?hy15⟩) hHeld ?rest15
                case hy15 =>
                  intro wx hSw
                  clear hSw
                  go_simp
                  with_reducible rfl
                simp only [List.setIfInBounds_toArray, List.set_cons_zero, List.set_cons_succ]
                refine held_take (i := 4) (d := 59) (v := ?v16) rfl rfl (by kernel_rfl) (by kernel_rfl) (by kernel_rfl) (fun _ _ _ h => h) (Or.inl ⟨by kernel_rfl, ?hy16⟩) hHeld ?rest16
                case hy16 =>
                  intro wx hSw
                  clear hSw
                  go_simp
                  with_reducible rfl
                simp only [List.setIfInBounds_toArray, List.set_cons_zero, List.set_cons_succ]
                refine held_take (i := 5) (d := 60) (v := ?v17) rfl rfl (by kernel_rfl) (by kernel_rfl) (by kernel_rfl) (fun _ _ _ h => h) (Or.inl ⟨by kernel_rfl, ?hy17⟩) hHeld ?rest17
                case hy17 =>
                  intro wx hSw
                  clear hSw
                  go_simp
                  with_reducible rfl
                simp only [List.setIfInBounds_toArray, List.set_cons_zero, List.set_cons_succ]
                refine held_take (i := 6) (d := 61) (v := ?v18) rfl rfl (by kernel_rfl) (by kernel_rfl) (by kernel_rfl) (fun _ _ _ h => h) (Or.inl ⟨by kernel_rfl, ?hy18⟩) hHeld ?rest18
                case hy18 =>
                  intro wx hSw
                  have q0 := (hSw.cell (p := ⟨bT, off + k, none⟩) hbT7).trans hcT
                  clear hSw
                  go_simp
                  with_reducible rfl
                simp only [List.setIfInBounds_toArray, List.set_cons_zero, List.set_cons_succ]
                refine wpAnyH_ready (rs := [7]) (by kernel_rfl) (by simp) ?_
                refine AllReadyH.cons rfl (fun K hK => ?_) AllReadyH.nil
                go_simp
                go_wp2_with (go_at_call 8; refine (HCU.out _ (Below.refl w7.heap.size w7).drew).mono ?_; rintro e w8 ⟨v, rfl, hv, b8⟩)
                have b8d : Below w7.heap.size w7 w8 := (Below.refl w7.heap.size w7).drew.trans b8
                refine hK.out _ _ (b8d) (fun hHeld => ?_)
                clear hK K
                refine held_take (i := 8) (d := 54) (v := ?v19) rfl rfl (by kernel_rfl) (by kernel_rfl) (by kernel_rfl) (fun _ _ _ h => h) (Or.inl ⟨by kernel_rfl, ?hy19⟩) hHeld ?rest19
                case hy19 =>
                  intro wx hSw
                  clear hSw
                  go_simp
                  with_reducible rfl
                simp only [List.setIfInBounds_toArray, List.set_cons_zero, List.set_cons_succ]
                refine held_take (i := 9) (d := 63) (v := ?v20) rfl rfl (by kernel_rfl) (by kernel_rfl) (by kernel_rfl) (fun _ _ _ h => h) (Or.inl ⟨by kernel_rfl, ?hy20⟩) hHeld ?rest20
                case hy20 =>
                  intro wx hSw
                  clear hSw
                  go_simp
                  with_reducible rfl
                simp only [List.setIfInBounds_toArray, List.set_cons_zero, List.set_cons_succ]
                refine held_take (i := 10) (d := 64) (v := ?v21) rfl rfl (by kernel_rfl) (by kernel_rfl) (by kernel_rfl) (fun _ _ _ h => h) (Or.inl ⟨by kernel_rfl, ?hy21⟩) hHeld ?rest21
                case hy21 =>
                  intro wx hSw
                  clear hSw
                  go_simp
                  with_reducible rfl
                simp only [List.setIfInBounds_toArray, List.set_cons_zero, List.set_cons_succ]
                refine held_take (i := 11) (d := 12) (v := ?v22) rfl rfl (by kernel_rfl) (by kernel_rfl) (by kernel_rfl) (fun _ _ _ h => h) (Or.inl ⟨by kernel_rfl, ?hy22⟩) hHeld ?rest22
                case hy22 =>
                  intro wx hSw
                  clear hSw
                  go_simp
                  with_reducible rfl
                simp only [List.setIfInBounds_toArray, List.set_cons_zero, List.set_cons_succ]
                refine wpAnyH_ready (rs := [12]) (by kernel_rfl) (by simp) ?_
                refine AllReadyH.cons rfl (fun K hK => ?_) AllReadyH.nil
                go_simp
                refine hK.out _ _ hHeld (fun hHeld => ?_)
                clear hK K
                refine wpAnyH_done (by kernel_rfl) ?_ _
                have hq : w7.heap.size ≤ w8.heap.size := b8d.size
                go_wp2_with fail
                go_meet
                exact ⟨v, rfl, rfl, hv, b8d⟩
            case rest =>
              as_aux_lemma =>
                obtain ⟨v, hv0, rfl, hv, b9⟩ := hcut
                generalize hwc : wc = w8 at *
                clear hwc HCU
                obtain ⟨la, lc, rfl⟩ : ∃ la lc, v = .slice la Q lc := by
                  obtain ⟨r, _, h, _⟩ := hv
                  rw [cutL_len] at h
                  exact row_shapeS h
                subst hv0
                have hV := (StsAt.ofOwn hv).lower (Nat.zero_le _)
                have hS := HS9.out.next b9
                replace xS := xS.next b9
                replace xC := xC.next b9
                replace hrow := rowK_below hrow b9 (Nat.le_refl _)
                replace hown := hown.next b9
                replace hend := rowK_below hend b9 (Nat.le_refl _)
                replace bb := bb.trans (b9.mono bb.size)
                clear b9 hv hcT hbT7 hbT HS9
                have HS9 : Hid _ := hS
                clear hS
                have HIV : Hid (r.map Prod.fst = allB c P ++ (blocksB c (M : Int) x).take 0) := by
                  show r.map Prod.fst = _
                  rw [HR.out, List.take_zero, List.append_nil]
                go_wp2_with fail
                clear dq0 dq1 dq2
                go_loopw [7, 14] (fun wt k_ wr => ∃ (m : Nat) (r : Lies (List Int)), m ≤ Q ∧ k_ = .int .i64 (m : Int) ∧ Hid (r.map Prod.fst = allB c P ++ (blocksB c (M : Int) x).take m) ∧ wr.ownsRow (D + 1) 33 1 wt (M + m) (cellsK txK r) ∧ OwnL txK (D + 1) wr r ∧ wr.ownsRow (D + 1) 3 1 (.slice pa8 E pc8) E (s.sE.map (Value.int .i64)) ∧ Hid (SnW w5.heap.size wr (sendS s x) c false 0 R9 B9 N9 T9 F9 E9 M9 fa fc va vc (200 * k + 200)) ∧ StsAt blkK 0 wr (.slice la Q lc) (cutL Z (M : Int) Q x) ∧ Box wr D 29 #[.int .i64 c.cB, .int .i64 c.cBeam, .int .i64 c.cDepth, .int .i64 c.cWin, .int .i64 c.cQs, .int .i64 c.cQr, .int .i64 c.cBatch, .int .i64 c.cPass, .int .i64 c.cMsg, .int .i64 c.cSeqs, .bool false, .int .i64 0, .int .i64 R9, .int .i64 B9, .int .i64 N9, .int .i64 T9, .int .i64 F9, .slice fa E9 fc, .slice va M9 vc] ∧ Box wr w.heap.size 23 #[.int .i64 c.cB, .int .i64 c.cBeam, .int .i64 c.cDepth, .int .i64 c.cWin, .int .i64 c.cQs, .int .i64 c.cQr, .int .i64 c.cBatch, .int .i64 c.cPass, .int .i64 c.cMsg, .int .i64 c.cSeqs] ∧ Below w.heap.size w wr) (fun _ k_ _ => Q - (intOf k_).toNat)
                case atStart => exact ⟨0, r, Nat.zero_le _, rfl, HIV, hrow, hown, hend, HS9, hV, xS, xC, bb⟩
                case round =>
                  clear HIV hrow hown hend HS9 hV xS xC bb HR r
                  obtain ⟨m, r, hm, rfl, HR, hrow, hown, hend, HS9, hV, xS, xC, bb⟩ := hrel
                  generalize hwr : wr = w9 at *
                  clear hwr
                  obtain ⟨pa9, pc9, rfl⟩ := row_shapeS hrow
                  by_cases hltm : m < Q
                  · obtain ⟨b0, of0, rfl, hbl, hcs⟩ := blks_at hV.holds (by rw [cutL_len]; omega)
                    obtain ⟨p, hp, y0, y1, y2⟩ := hcs m _ (cutL_get hltm)
                    obtain ⟨z, hz⟩ : ∃ z, (textK Z x m).length = z := ⟨_, rfl⟩
                    obtain ⟨ta, tc, rfl⟩ : ∃ ta tc, p = .slice ta (textK Z x m).length tc := hp.shape
                    obtain ⟨mk, hmk⟩ : ∃ mk, markK Q m = mk := ⟨_, rfl⟩
                    obtain ⟨sq, hsq⟩ : ∃ sq : Int, (M : Int) + (m : Int) = sq := ⟨_, rfl⟩
                    obtain ⟨z1, z2, z3, z4, z5, z6⟩ := HZ.out
                    have hRi := cut_right z3 z4 (show (0 : Int) ≤ (M : Int) by omega) (by rw [z5]; exact z6) (i := m) (by rw [z5]; exact hltm)
                    rw [z5] at hRi
                    have hwb : (blocksB c (M : Int) x)[m]? = some (bytesB Z ((M : Int) + (m : Int)) (markK Q m) (textK Z x m)) := by
                      have h := blocksB_get (c := c) (s := (M : Int)) (msg := x) (i := m) (by rw [z1, z5]; exact hltm)
                      rwa [z1, z5] at h
                    rw [hmk, hsq] at hRi hwb
                    have hbx : ∀ z ∈ textK Z x m, 0 ≤ z ∧ z ≤ 255 := fun z hz => HXB.out z (by unfold textK at hz; exact List.mem_of_mem_drop (List.mem_of_mem_take hz))
                    have hyl : (bytesB Z sq mk (textK Z x m)).length = Z + 10 := bytesB_len (textK_le _ _ _)
                    rw [hz] at hp y2
                    rw [hmk] at y1
                    rw [hsq] at y0
                    have HMK := hid_imp fun (wx : World) (bx : Below w9.heap.size w9 wx) => (show Calls Tryd.prog 9 #[.int .i64 c.cB, .agg #[.int .i64 sq, .int .i64 mk, .slice ta z tc]] wx fun e W' => ∃ ya yc, e = .returned (.tuple #[.slice ya (Z + 10) yc, .int .i64 0]) ∧ W'.ownsRow wx.heap.size 5 1 (.slice ya (Z + 10) yc) (Z + 10) ((bytesB Z sq mk (textK Z x m)).map (Value.int .u8)) ∧ Below wx.heap.size wx W' from by
                      have h := Make_ok Z sq mk ta tc (textK Z x m) hRi hbx wx (by rw [hz]; exact (hp.below bx).mono bx.size)
                      rw [hz, z2] at h
                      refine h.mono ?_
                      rintro e W' ⟨r9, rfl, o9, b9⟩
                      obtain ⟨ya, yc, rfl⟩ := row_shapeS o9
                      exact ⟨ya, yc, rfl, o9, b9⟩)
                    have HY : Hid ((bytesB Z sq mk (textK Z x m)).length = Z + 10) := hyl
                    generalize bytesB Z sq mk (textK Z x m) = zs at *
                    have HWK : Hid ((blocksB c (M : Int) x)[m]? = some zs) := hwb
                    have kC0 : Hid (w9.cell? ⟨w.heap.size, 0, none⟩ = some (.int .i64 c.cB)) := xC.cell 0 _ rfl
                    have lC := xC.lt
                    have g0 : Hid (w9.cell? ⟨b0, of0 + m * 3, none⟩ = some (.int .i64 sq)) := y0
                    have g1 : Hid (w9.cell? ⟨b0, of0 + m * 3 + 1, none⟩ = some (.int .i64 mk)) := y1
                    have g2 : Hid (w9.cell? ⟨b0, of0 + m * 3 + 2, none⟩ = some (.slice ta z tc)) := y2
                    have HLM : Hid (m < Q) := hltm
                    have dmi : decide ((m : Int) < (Q : Int)) = true := decide_eq_true (by omega)
                    have dm : decide (m < Q) = true := decide_eq_true hltm
                    clear hz hp y0 y1 y2 hcs hmk hsq hRi hbx hyl hwb z1 z2 z3 z4 z5 z6
                    go_upto_region 23 with fail
                    go_cut [15, 16] (fun v0 v1 wx => ∃ ya yc, v0 = .slice ya (Z + 10) yc ∧ v1 = .int .i64 0 ∧ wx.ownsRow w9.heap.size 5 1 (.slice ya (Z + 10) yc) (Z + 10) (zs.map (Value.int .u8)) ∧ Below w9.heap.size w9 wx)
                    case first =>
                      as_aux_lemma =>
                        refine wp_region_held_drew (S := fun w' => Below w9.heap.size w9 w') (by kernel_rfl) ((Below.refl _ _).drew) (fun hHeld => ?_)
                        refine held_take (i := 0) (d := 79) (v := ?v23) rfl rfl (by kernel_rfl) (by kernel_rfl) (by kernel_rfl) (fun _ _ _ h => h) (Or.inl ⟨by kernel_rfl, ?hy23⟩) hHeld ?rest23
                        case hy23 =>
                          intro wx hSw
                          clear hSw
                          go_simp
                          with_reducible rfl
                        simp only [List.setIfInBounds_toArray, List.set_cons_zero, List.set_cons_succ]
                        refine held_take (i := 1) (d := 80) (v := ?v24) rfl rfl (by kernel_rfl) (by kernel_rfl) (by kernel_rfl) (fun _ _ _ h => h) (Or.inl ⟨by kernel_rfl, ?hy24⟩) hHeld ?rest24
                        case hy24 =>
                          intro wx hSw
                          have q0 := (hSw.cell (p := ⟨w.heap.size, 0, none⟩) lC).trans kC0.out
                          clear hSw
                          go_simp
                          with_reducible rfl
                        simp only [List.setIfInBounds_toArray, List.set_cons_zero, List.set_cons_succ]
                        refine held_take (i := 2) (d := 81) (v := ?v25) rfl rfl (by kernel_rfl) (by kernel_rfl) (by kernel_rfl) (fun _ _ _ h => h) (Or.inl ⟨by kernel_rfl, ?hy25⟩) hHeld ?rest25
                        case hy25 =>
                          intro wx hSw
                          clear hSw
                          go_simp
                          with_reducible rfl
                        simp only [List.setIfInBounds_toArray, List.set_cons_zero, List.set_cons_succ]
                        refine held_take (i := 3) (d := 82) (v := ?v26) rfl rfl (by kernel_rfl) (by kernel_rfl) (by kernel_rfl) (fun _ _ _ h => h) (Or.inl ⟨by kernel_rfl, ?hy26⟩) hHeld ?rest26
                        case hy26 =>
                          intro wx hSw
                          clear hSw
                          go_simp
                          with_reducible rfl
                        simp only [List.setIfInBounds_toArray, List.set_cons_zero, List.set_cons_succ]
                        refine held_take (i := 4) (d := 83) (v := ?v27) rfl rfl (by kernel_rfl) (by kernel_rfl) (by kernel_rfl) (fun _ _ _ h => h) (Or.inl ⟨by kernel_rfl, ?hy27⟩) hHeld ?rest27
                        case hy27 =>
                          intro wx hSw
                          clear hSw
                          go_simp
                          with_reducible rfl
                        simp only [List.setIfInBounds_toArray, List.set_cons_zero, List.set_cons_succ]
                        refine held_take (i := 5) (d := 84) (v := ?v28) rfl rfl (by kernel_rfl) (by kernel_rfl) (by kernel_rfl) (fun _ _ _ h => h) (Or.inl ⟨by kernel_rfl, ?hy28⟩) hHeld ?rest28
                        case hy28 =>
                          intro wx hSw
                          have q0 := (hSw.cell (p := ⟨b0, of0 + m * 3, none⟩) hbl).trans g0.out
                          have q1 := (hSw.cell (p := ⟨b0, of0 + m * 3 + 1, none⟩) hbl).trans g1.out
                          have q2 := (hSw.cell (p := ⟨b0, of0 + m * 3 + 2, none⟩) hbl).trans g2.out
                          clear hSw
                          go_simp
                          with_reducible rfl
                        simp only [List.setIfInBounds_toArray, List.set_cons_zero, List.set_cons_succ]
                        refine wpAnyH_ready (rs := [6]) (by kernel_rfl) (by simp) ?_
                        refine AllReadyH.cons rfl (fun K hK => ?_) AllReadyH.nil
                        go_simp
                        go_wp2_with (go_at_call 9; refine (HMK.out _ (Below.refl w9.heap.size w9).drew).mono ?_; rintro e w10 ⟨ya, yc, rfl, o9, b9⟩)
                        have b9d : Below w9.heap.size w9 w10 := (Below.refl w9.heap.size w9).drew.trans b9
                        refine hK.out _ _ (b9d) (fun hHeld => ?_)
                        clear hK K
                        refine held_take (i := 7) (d := 78) (v := ?v29) rfl rfl (by kernel_rfl) (by kernel_rfl) (by kernel_rfl) (fun _ _ _ h => h) (Or.inl ⟨by kernel_rfl, ?hy29⟩) hHeld ?rest29
                        case hy29 =>
                          intro wx hSw
                          clear hSw
                          go_simp
                          with_reducible rfl
                        simp only [List.setIfInBounds_toArray, List.set_cons_zero, List.set_cons_succ]
                        refine held_take (i := 8) (d := 86) (v := ?v30) rfl rfl (by kernel_rfl) (by kernel_rfl) (by kernel_rfl) (fun _ _ _ h => h) (Or.inl ⟨by kernel_rfl, ?hy30⟩) hHeld ?rest30
                        case hy30 =>
                          intro wx hSw
                          clear hSw
                          go_simp
                          with_reducible rfl
                        simp only [List.setIfInBounds_toArray, List.set_cons_zero, List.set_cons_succ]
                        refine held_take (i := 9) (d := 87) (v := ?v31) rfl rfl (by kernel_rfl) (by kernel_rfl) (by kernel_rfl) (fun _ _ _ h => h) (Or.inl ⟨by kernel_rfl, ?hy31⟩) hHeld ?rest31
                        case hy31 =>
                          intro wx hSw
                          clear hSw
                          go_simp
                          with_reducible rfl
                        simp only [List.setIfInBounds_toArray, List.set_cons_zero, List.set_cons_succ]
                        refine held_take (i := 10) (d := 15) (v := ?v32) rfl rfl (by kernel_rfl) (by kernel_rfl) (by kernel_rfl) (fun _ _ _ h => h) (Or.inl ⟨by kernel_rfl, ?hy32⟩) hHeld ?rest32
                        case hy32 =>
                          intro wx hSw
                          clear hSw
                          go_simp
                          with_reducible rfl
                        simp only [List.setIfInBounds_toArray, List.set_cons_zero, List.set_cons_succ]
                        refine wpAnyH_ready (rs := [11]) (by kernel_rfl) (by simp) ?_
                        refine AllReadyH.cons rfl (fun K hK => ?_) AllReadyH.nil
                        go_simp
                        refine hK.out _ _ hHeld (fun hHeld => ?_)
                        clear hK K
                        refine wpAnyH_done (by kernel_rfl) ?_ _
                        go_wp2_with fail
                        go_meet
                        exact ⟨ya, yc, rfl, rfl, o9, b9d⟩
                    case rest =>
                      as_aux_lemma =>
                        obtain ⟨ya, yc, rfl, rfl, o9, b9⟩ := hcut
                        generalize hwc : wc = w10 at *
                        have hbs : D + 1 ≤ w9.heap.size := xS.lt
                        have hlt4 : ∀ u ∈ r, ∀ p ∈ u.2, ∀ g, p.ownBlock = some g → g < w9.heap.size := fun u hu p hp g hg => (hown.lt u hu p hp g hg).2
                        have hS := HS9.out.next b9
                        clear hwc HMK lC kC0 g0 g1 g2 hbl HS9
                        replace xS := xS.next b9
                        replace xC := xC.next b9
                        replace hrow := rowK_below hrow b9 (Nat.le_refl _)
                        replace hown := hown.next b9
                        replace hend := rowK_below hend b9 (Nat.le_refl _)
                        replace hV := hV.next b9
                        replace bb := bb.trans (b9.mono bb.size)
                        obtain ⟨y, hy⟩ : ∃ y, Z + 10 = y := ⟨_, rfl⟩
                        rw [hy] at o9 HY ⊢
                        have own5 := hown.snoc (x := (zs, [.slice ya y yc])) (subsO_one (t := ⟨5, 1, zs.length, zs.map (Value.int .u8)⟩) (by rw [HY.out]; exact o9)) (List.pairwise_singleton _ _) hbs hlt4
                        skip
                        clear hown hlt4 o9 b9 hy
                        obtain ⟨v12, w12, hr12, o12, g12⟩ := run_append_tx _ (M + m) (D + 1) r zs (.slice ya y yc) ⟨_, _, _, rfl⟩ 24 w10 hrow xS.lt (by have h1 := HM9.out; have h2 := hS.few; omega)
                        have bA : Below w10.heap.size w10 (w10.alloc (.cells #[.slice ya y yc] 33)) := (Below.refl _ _).alloc (Nat.le_refl _) _
                        have rowA := rowK_below hrow bA (Nat.le_refl _)
                        have own12 := (own5.next bA).kept txK_unlike rowA g12
                        have end12 := (rowK_below hend bA (Nat.le_refl _)).kept g12 (rowsK_unlike (rowK_below hend bA (Nat.le_refl _)) rowA (by decide))
                        have hS12 := (hS.next bA).keptX rowA (by decide) (by decide) (by decide) g12
                        have hV12 := (hV.next bA).keptT rowA (by decide) (blkK_subs (by decide)) g12
                        have xS12 := (xS.next bA).grown g12 (row_neBox rowA (xS.next bA) (by decide))
                        have xC12 := (xC.next bA).grown g12 (row_neBox rowA (xC.next bA) (by decide))
                        have bb12 := (bb.trans (bA.mono bb.size)).grown g12 (bb.trans (bA.mono bb.size)).size (fun q e => by have h1 := (rowA.lt q e).1; have h2 := HDC.out; omega)
                        have hrn : (r ++ [(zs, [Value.slice ya y yc])]).map Prod.fst = allB c P ++ (blocksB c (M : Int) x).take (m + 1) := by
                          rw [List.map_append, HR.out, List.take_add_one, HWK.out, List.append_assoc]
                          rfl
                        have HRN : Hid ((r ++ [(zs, [Value.slice ya y yc])]).map Prod.fst = allB c P ++ (blocksB c (M : Int) x).take (m + 1)) := hrn
                        have HR12 : Hid _ := hr12
                        have HS12 : Hid _ := hS12
                        clear hr12 hrow own5 hend hS hV xS xC bb bA rowA g12 hrn hS12
                        have hq9 := HM9.out.2.2
                        have hq8 := HLM.out
                        go_wp2_with (at_builtin; refine wpList_append_k rfl _ _ 24 rfl _ _ rfl rfl _ _ HR12.out ?_)
                        exact ⟨⟨m + 1, _, HLM.out, by go_num, HRN, by rw [← Nat.add_assoc]; exact o12, own12, end12, HS12, hV12, xS12, xC12, bb12⟩, by have := HLM.out; simp [intOf]; omega⟩
                  · as_aux_lemma =>
                      obtain rfl : m = Q := by omega
                      have hM9 := HM9.out.1
                      rw [← hM9] at hrow ⊢
                      have HRX : Hid (r.map Prod.fst = allB c (P ++ [x])) := by
                        show r.map Prod.fst = _
                        rw [HR.out, HAL.out, List.take_of_length_le (by rw [blocksB_len, HZ.out.1, HZ.out.2.2.2.2.1]; exact Nat.le_refl _)]
                      have hE9 : E9 = E + 1 := by
                        have h1 := HS9.out.is.lE
                        have h2 := HSWI.out.lE
                        rw [HSE.out] at h1
                        simp at h1
                        omega
                      have hEE := HS9.out.fewE
                      have hbs : D + 1 ≤ w9.heap.size := xS.lt
                      obtain ⟨v12, w12, hr12, o12, g12⟩ := run_append_int _ E (D + 1) s.sE ((M9 : Nat) : Int) 26 w9 hend hbs (by omega)
                      have bA : Below w9.heap.size w9 (w9.alloc (.cells #[.int .i64 ((M9 : Nat) : Int)] 3)) := (Below.refl _ _).alloc (Nat.le_refl _) _
                      have endA := rowK_below hend bA (Nat.le_refl _)
                      have row12 := (rowK_below hrow bA (Nat.le_refl _)).kept g12 (rowsK_unlike (rowK_below hrow bA (Nat.le_refl _)) endA (by decide))
                      have own12 := (hown.next bA).keptT endA (txK_subs (by decide)) g12
                      have hS12 := ((HS9.out.next bA).grownOld g12 HEL.out).lower (base' := D + 1) (by omega)
                      have xS12 := (xS.next bA).grown g12 (row_neBox endA (xS.next bA) (by decide))
                      have xC12 := (xC.next bA).grown g12 (row_neBox endA (xC.next bA) (by decide))
                      have bb12 := (bb.trans (bA.mono bb.size)).grown g12 (bb.trans (bA.mono bb.size)).size (fun q e => by have h1 := (endA.lt q e).1; have h2 := HDC.out; omega)
                      have o13 : w12.ownsRow (D + 1) 3 1 v12 E9 ((sendS s x).sE.map (Value.int .i64)) := by rw [HSE.out, hE9]; exact o12
                      have HONX : Hid (OnlyS c (P ++ [x]) (sendS s x) ∧ (sendS s x).sX = false ∧ (P ++ [x]).length ≤ k + 1) := by
                        have h := only_send HON.out.1 x
                        rw [if_pos HE0.out] at h
                        refine ⟨h.1, h.2.trans HON.out.2.1, ?_⟩
                        have := HON.out.2.2
                        rw [List.length_append]
                        simp
                        omega
                      have HS12 : Hid (SnW (D + 1) w12 (sendS s x) c false 0 R9 B9 N9 T9 F9 E9 M9 fa fc va vc (200 * (k + 1))) := hS12.more (by omega)
                      have HR12 : Hid _ := hr12
                      clear hr12 hrow hown hend HS9 hV xS xC bb bA endA g12 hS12 o12 hE9 hEE hM9 hbs hltm hm
                      go_wp2_with (at_builtin; refine wpList_append_k rfl _ _ 26 rfl _ _ rfl rfl _ _ HR12.out ?_)
                      exact ⟨⟨k + 1, hlt, by go_num, sendS s x, P ++ [x], R9, B9, N9, T9, F9, E9, M9, fa, fc, va, vc, r, HONX, HS12, HRX, row12, own12, o13, xS12, xC12, bb12⟩, by simp [intOf]; omega⟩
          · obtain ⟨hsE, hsW⟩ := blk_no (s := s) (x := x) he
            have de : (errS s x != 0) = true := by rw [bne_iff_ne]; exact he
            obtain rfl : M9 = M := by rw [← HS9.out.is.lW, hsW]; exact HSWI.out.lW
            obtain rfl : E9 = E := by rw [← HS9.out.is.lE, hsE]; exact HSWI.out.lE
            have HONX : Hid (OnlyS c P (sendS s x) ∧ (sendS s x).sX = false ∧ P.length ≤ k + 1) := by
              have h := only_send HON.out.1 x
              rw [if_neg he] at h
              exact ⟨h.1, h.2.trans HON.out.2.1, Nat.le_succ_of_le HON.out.2.2⟩
            have HS12 : Hid (SnW (D + 1) w7 (sendS s x) c false 0 R9 B9 N9 T9 F9 E9 M9 fa fc va vc (200 * (k + 1))) := (HS9.out.lower hDw).more (by omega)
            rw [← hsE] at hend
            clear HS9 he hsW hsE hcT
            go_wp2_with fail
            exact ⟨⟨k + 1, hlt, by go_num, sendS s x, P, R9, B9, N9, T9, F9, E9, M9, fa, fc, va, vc, r, HONX, HS12, HR, hrow, hown, hend, xS, xC, bb⟩, by simp [intOf]; omega⟩
    · as_aux_lemma =>
        obtain rfl : k = mt := by omega
        clear hk hlt HT
        have hl := only_conf HON.out.1
        have hfE := HSW.out.fewE
        obtain rfl : N = (E : Int) := by rw [← HSW.out.is.eN, ← hl.2.1, HSW.out.is.lE]
        have HLE : Hid (s.sE.length = E ∧ E ≤ 1000000) := ⟨HSW.out.is.lE, hfE⟩
        have HLM : Hid (M ≤ 200 * k ∧ k ≤ 10 ∧ s.sW.length = M) := ⟨HSW.out.few, hm10, HSW.out.is.lW⟩
        have HIN := hid_imp fun (wx : World) (bx : Below w5.heap.size w5 wx) => (show Calls Tryd.prog 10 #[.slice ea E ec, .slice pa8 E pc8] wx fun e W' => e = .returned (.bool true) ∧ Below wx.heap.size wx W' from by
          have h := ints_any (.slice ea E ec) (.slice pa8 E pc8) s.sE s.sE wx.heap.size wx.heap.size wx (by have := HLE.out; omega) ((HSW.out.next bx).lies.at.1) ((RowAt.ofOwn (rowK_below hend bx (Nat.le_refl _))).holds.ints HLE.out.1)
          rw [decide_eq_true rfl] at h
          refine h.mono ?_
          rintro e W' ⟨rfl, n, rfl⟩
          exact ⟨rfl, below_drewN (Below.refl _ _) n⟩)
        have hP : StsAt txK (D + 1) w5 (.slice pa7 M pc7) (allB c P) := ⟨r, HR.out, by rw [← HR.out, List.length_map, rowLen hrow]; exact RowAt.ofOwn hrow, hown⟩
        have HWT : Hid (s.sW = waitsB 0 (allB c P)) := HON.out.1.waits
        clear hl hfE hrow hown hend HR HON xC HDC
        have c18 := xS.cell 18 _ rfl
        have c17 := xS.cell 17 _ rfl
        have c14 := xS.cell 14 _ rfl
        have lS := xS.lt
        go_wp2_with fail
        refine (HIN.out _ (Below.refl _ _)).mono ?_
        rintro e w6 ⟨rfl, b9⟩
        have hS := HSW.out.next b9
        replace xS := xS.next b9
        replace hP := hP.next b9
        replace bb := bb.trans (b9.mono bb.size)
        clear b9 HIN c18 c17 c14 lS HSW
        have HSW : Hid _ := hS
        clear hS
        have c18 := xS.cell 18 _ rfl
        have c17 := xS.cell 17 _ rfl
        have c14 := xS.cell 14 _ rfl
        have lS := xS.lt
        go_wp2_with fail
        clear c18 c17 c14 lS
        go_loopw [17] (fun i wr => ∃ j : Nat, j ≤ M ∧ i = .int .i64 (j : Int) ∧ Hid (SnW (D + 1) wr s c false 0 R B (E : Int) T F E M ea ec wa wc (200 * k)) ∧ StsAt txK (D + 1) wr (.slice pa7 M pc7) (allB c P) ∧ Box wr D 29 #[.int .i64 c.cB, .int .i64 c.cBeam, .int .i64 c.cDepth, .int .i64 c.cWin, .int .i64 c.cQs, .int .i64 c.cQr, .int .i64 c.cBatch, .int .i64 c.cPass, .int .i64 c.cMsg, .int .i64 c.cSeqs, .bool false, .int .i64 0, .int .i64 R, .int .i64 B, .int .i64 (E : Int), .int .i64 T, .int .i64 F, .slice ea E ec, .slice wa M wc] ∧ Below w.heap.size w wr) (fun i _ => M - (intOf i).toNat)
        case atStart => exact ⟨0, Nat.zero_le _, rfl, HSW, hP, xS, bb⟩
        case round =>
          clear HSW hP xS bb
          obtain ⟨j, hj, rfl, HSW, hP, xS, bb⟩ := hrel
          generalize hwr : wr = w7 at *
          clear hwr
          by_cases hlt : j < M
          · obtain ⟨b, hb⟩ : ∃ b, (allB c P)[j]? = some b := by
              have h1 := HLM.out.2.2
              rw [HWT.out, waitsB_len] at h1
              exact ⟨(allB c P)[j]'(by omega), by simp⟩
            have hw : s.sW[j]? = some (newM (j : Int) b) := by
              rw [HWT.out, waitsB_get, hb, Int.zero_add]
              rfl
            obtain ⟨gb, of5, pa, y, pc, rfl, hA⟩ := atEm_of (HSW.out.lies.2.holds) hw (Below.refl _ _) (Nat.le_refl _)
            obtain ⟨gc, of6, qa, qc, rfl, t1, t2, t3, _⟩ := txsO_at hP hb
            have m0 : Hid (w7.cell? ⟨gb, of5 + j * 5, none⟩ = some (.int .i64 (j : Int))) := hA.1.2.1
            have m1 : Hid (w7.cell? ⟨gb, of5 + j * 5 + 1, none⟩ = some (.int .i64 0)) := hA.1.2.2.1
            have m2 : Hid (w7.cell? ⟨gb, of5 + j * 5 + 2, none⟩ = some (.int .i64 0)) := hA.1.2.2.2.1
            have m3 : Hid (w7.cell? ⟨gb, of5 + j * 5 + 3, none⟩ = some (.bool false)) := hA.1.2.2.2.2.1
            have m4 : Hid (w7.cell? ⟨gb, of5 + j * 5 + 4, none⟩ = some (.slice pa y pc)) := hA.1.2.2.2.2.2
            have t2h : Hid (w7.cell? ⟨gc, of6 + j, none⟩ = some (.slice qa b.length qc)) := t2
            have lA : gb < w7.heap.size := hA.lt
            have hbb : Holds .u8 w7.heap.size w7 (.slice pa y pc) b := hA.held
            have hbl : b.length ≤ 4611686018427387904 := by
              have h1 := HSW.out.bytes _ (List.mem_of_getElem? hw)
              have h2 : (newM (j : Int) b).eB = b := rfl
              rw [h2] at h1
              omega
            have HBY : Hid (∀ wx : World, Below w7.heap.size w7 wx → Calls Tryd.prog 11 #[.slice pa y pc, .slice qa b.length qc] wx fun e W' => e = .returned (.bool true) ∧ Below w7.heap.size w7 W') := fun wx bx => by
              have h := bytes_any (.slice pa y pc) (.slice qa b.length qc) b b wx.heap.size wx.heap.size wx hbl ((hbb.below bx).mono bx.size) ((t3.below bx).mono bx.size)
              rw [decide_eq_true rfl] at h
              refine h.mono ?_
              rintro e W' ⟨rfl, n, rfl⟩
              exact ⟨rfl, below_drewN bx n⟩
            have k18 : Hid (w7.cell? ⟨D, 18, none⟩ = some (.slice (some ⟨gb, of5, none⟩) M wc)) := xS.cell 18 _ rfl
            have lS := xS.lt
            have dj : decide (j < M) = true := decide_eq_true hlt
            have dji : decide ((j : Int) < (M : Int)) = true := decide_eq_true (by omega)
            clear hA t2 t3 hbb hbl hw hb
            go_upto_region 33 with fail
            go_cut [172] (fun v0 wx => v0 = .bool false ∧ Below w7.heap.size w7 wx)
            case first =>
              as_aux_lemma =>
                refine wp_region_held_drew (S := fun w' => Below w7.heap.size w7 w') (by kernel_rfl) ((Below.refl _ _).drew) (fun hHeld => ?_)
                refine held_take (i := 0) (d := 125) (v := ?v33) rfl rfl (by kernel_rfl) (by kernel_rfl) (by kernel_rfl) (fun _ _ _ h => h) (Or.inl ⟨by kernel_rfl, ?hy33⟩) hHeld ?rest33
                case hy33 =>
                  intro wx hSw
                  clear hSw
                  go_simp
                  with_reducible rfl
                simp only [List.setIfInBounds_toArray, List.set_cons_zero, List.set_cons_succ]
                refine held_take (i := 1) (d := 126) (v := ?v34) rfl rfl (by kernel_rfl) (by kernel_rfl) (by kernel_rfl) (fun _ _ _ h => h) (Or.inl ⟨by kernel_rfl, ?hy34⟩) hHeld ?rest34
                case hy34 =>
                  intro wx hSw
                  have q0 := (hSw.cell (p := ⟨D, 18, none⟩) lS).trans k18.out
                  clear hSw
                  go_simp
                  with_reducible rfl
                simp only [List.setIfInBounds_toArray, List.set_cons_zero, List.set_cons_succ]
                refine held_take (i := 2) (d := 127) (v := ?v35) rfl rfl (by kernel_rfl) (by kernel_rfl) (by kernel_rfl) (fun _ _ _ h => h) (Or.inl ⟨by kernel_rfl, ?hy35⟩) hHeld ?rest35
                case hy35 =>
                  intro wx hSw
                  clear hSw
                  go_simp
                  with_reducible rfl
                simp only [List.setIfInBounds_toArray, List.set_cons_zero, List.set_cons_succ]
                refine held_take (i := 3) (d := 128) (v := ?v36) rfl rfl (by kernel_rfl) (by kernel_rfl) (by kernel_rfl) (fun _ _ _ h => h) (Or.inl ⟨by kernel_rfl, ?hy36⟩) hHeld ?rest36
                case hy36 =>
                  intro wx hSw
                  clear hSw
                  go_simp
                  with_reducible rfl
                simp only [List.setIfInBounds_toArray, List.set_cons_zero, List.set_cons_succ]
                refine held_take (i := 4) (d := 129) (v := ?v37) rfl rfl (by kernel_rfl) (by kernel_rfl) (by kernel_rfl) (fun _ _ _ h => h) (Or.inl ⟨by kernel_rfl, ?hy37⟩) hHeld ?rest37
                case hy37 =>
                  intro wx hSw
                  clear hSw
                  go_simp
                  with_reducible rfl
                simp only [List.setIfInBounds_toArray, List.set_cons_zero, List.set_cons_succ]
                refine held_take (i := 5) (d := 130) (v := ?v38) rfl rfl (by kernel_rfl) (by kernel_rfl) (by kernel_rfl) (fun _ _ _ h => h) (Or.inl ⟨by kernel_rfl, ?hy38⟩) hHeld ?rest38
                case hy38 =>
                  intro wx hSw
                  have q0 := (hSw.cell (p := ⟨gb, of5 + j * 5, none⟩) lA).trans m0.out
                  clear hSw
                  go_simp
                  with_reducible rfl
                simp only [List.setIfInBounds_toArray, List.set_cons_zero, List.set_cons_succ]
                refine held_take (i := 6) (d := 131) (v := ?v39) rfl rfl (by kernel_rfl) (by kernel_rfl) (by kernel_rfl) (fun _ _ _ h => h) (Or.inl ⟨by kernel_rfl, ?hy39⟩) hHeld ?rest39
                case hy39 =>
                  intro wx hSw
                  clear hSw
                  go_simp
                  with_reducible rfl
                simp only [List.setIfInBounds_toArray, List.set_cons_zero, List.set_cons_succ]
                refine held_take (i := 7) (d := 132) (v := ?v40) rfl rfl (by kernel_rfl) (by kernel_rfl) (by kernel_rfl) (fun _ _ _ h => h) (Or.inl ⟨by kernel_rfl, ?hy40⟩) hHeld ?rest40
                case hy40 =>
                  intro wx hSw
                  clear hSw
                  go_simp
                  with_reducible rfl
                simp only [List.setIfInBounds_toArray, List.set_cons_zero, List.set_cons_succ]
                refine held_take (i := 8) (d := 133) (v := ?v41) rfl rfl (by kernel_rfl) (by kernel_rfl) (by kernel_rfl) (fun _ _ _ h => h) (Or.inl ⟨by kernel_rfl, ?hy41⟩) hHeld ?rest41
                case hy41 =>
                  intro wx hSw
                  clear hSw
                  go_simp
                  with_reducible rfl
                simp only [List.setIfInBounds_toArray, List.set_cons_zero, List.set_cons_succ]
                refine held_take (i := 9) (d := 134) (v := ?v42) rfl rfl (by kernel_rfl) (by kernel_rfl) (by kernel_rfl) (fun _ _ _ h => h) (Or.inl ⟨by kernel_rfl, ?hy42⟩) hHeld ?rest42
                case hy42 =>
                  intro wx hSw
                  clear hSw
                  go_simp
                  with_reducible rfl
                simp only [List.setIfInBounds_toArray, List.set_cons_zero, List.set_cons_succ]
                refine held_take (i := 10) (d := 135) (v := ?v43) rfl rfl (by kernel_rfl) (by kernel_rfl) (by kernel_rfl) (fun _ _ _ h => h) (Or.inl ⟨by kernel_rfl, ?hy43⟩) hHeld ?rest43
                case hy43 =>
                  intro wx hSw
                  have q0 := (hSw.cell (p := ⟨D, 18, none⟩) lS).trans k18.out
                  clear hSw
                  go_simp
                  with_reducible rfl
                simp only [List.setIfInBounds_toArray, List.set_cons_zero, List.set_cons_succ]
                refine held_take (i := 11) (d := 136) (v := ?v44) rfl rfl (by kernel_rfl) (by kernel_rfl) (by kernel_rfl) (fun _ _ _ h => h) (Or.inl ⟨by kernel_rfl, ?hy44⟩) hHeld ?rest44
                case hy44 =>
                  intro wx hSw
                  clear hSw
                  go_simp
                  with_reducible rfl
                simp only [List.setIfInBounds_toArray, List.set_cons_zero, List.set_cons_succ]
                refine held_take (i := 12) (d := 137) (v := ?v45) rfl rfl (by kernel_rfl) (by kernel_rfl) (by kernel_rfl) (fun _ _ _ h => h) (Or.inl ⟨by kernel_rfl, ?hy45⟩) hHeld ?rest45
                case hy45 =>
                  intro wx hSw
                  clear hSw
                  go_simp
                  with_reducible rfl
                simp only [List.setIfInBounds_toArray, List.set_cons_zero, List.set_cons_succ]
                refine held_take (i := 13) (d := 138) (v := ?v46) rfl rfl (by kernel_rfl) (by kernel_rfl) (by kernel_rfl) (fun _ _ _ h => h) (Or.inl ⟨by kernel_rfl, ?hy46⟩) hHeld ?rest46
                case hy46 =>
                  intro wx hSw
                  clear hSw
                  go_simp
                  with_reducible rfl
                simp only [List.setIfInBounds_toArray, List.set_cons_zero, List.set_cons_succ]
                refine held_take (i := 14) (d := 139) (v := ?v47) rfl rfl (by kernel_rfl) (by kernel_rfl) (by kernel_rfl) (fun _ _ _ h => h) (Or.inl ⟨by kernel_rfl, ?hy47⟩) hHeld ?rest47
                case hy47 =>
                  intro wx hSw
                  have q0 := (hSw.cell (p := ⟨gb, of5 + j * 5 + 1, none⟩) lA).trans m1.out
                  clear hSw
                  go_simp
                  with_reducible rfl
                simp only [List.setIfInBounds_toArray, List.set_cons_zero, List.set_cons_succ]
                refine held_take (i := 15) (d := 140) (v := ?v48) rfl rfl (by kernel_rfl) (by kernel_rfl) (by kernel_rfl) (fun _ _ _ h => h) (Or.inl ⟨by kernel_rfl, ?hy48⟩) hHeld ?rest48
                case hy48 =>
                  intro wx hSw
                  clear hSw
                  go_simp
                  with_reducible rfl
                simp only [List.setIfInBounds_toArray, List.set_cons_zero, List.set_cons_succ]
                refine held_take (i := 16) (d := 141) (v := ?v49) rfl rfl (by kernel_rfl) (by kernel_rfl) (by kernel_rfl) (fun _ _ _ h => h) (Or.inl ⟨by kernel_rfl, ?hy49⟩) hHeld ?rest49
                case hy49 =>
                  intro wx hSw
                  clear hSw
                  go_simp
                  with_reducible rfl
                simp only [List.setIfInBounds_toArray, List.set_cons_zero, List.set_cons_succ]
                refine held_take (i := 17) (d := 142) (v := ?v50) rfl rfl (by kernel_rfl) (by kernel_rfl) (by kernel_rfl) (fun _ _ _ h => h) (Or.inl ⟨by kernel_rfl, ?hy50⟩) hHeld ?rest50
                case hy50 =>
                  intro wx hSw
                  clear hSw
                  go_simp
                  with_reducible rfl
                simp only [List.setIfInBounds_toArray, List.set_cons_zero, List.set_cons_succ]
                refine held_take (i := 18) (d := 143) (v := ?v51) rfl rfl (by kernel_rfl) (by kernel_rfl) (by kernel_rfl) (fun _ _ _ h => h) (Or.inl ⟨by kernel_rfl, ?hy51⟩) hHeld ?rest51
                case hy51 =>
                  intro wx hSw
                  clear hSw
                  go_simp
                  with_reducible rfl
                simp only [List.setIfInBounds_toArray, List.set_cons_zero, List.set_cons_succ]
                refine held_take (i := 19) (d := 144) (v := ?v52) rfl rfl (by kernel_rfl) (by kernel_rfl) (by kernel_rfl) (fun _ _ _ h => h) (Or.inl ⟨by kernel_rfl, ?hy52⟩) hHeld ?rest52
                case hy52 =>
                  intro wx hSw
                  have q0 := (hSw.cell (p := ⟨D, 18, none⟩) lS).trans k18.out
                  clear hSw
                  go_simp
                  with_reducible rfl
                simp only [List.setIfInBounds_toArray, List.set_cons_zero, List.set_cons_succ]
                refine held_take (i := 20) (d := 145) (v := ?v53) rfl rfl (by kernel_rfl) (by kernel_rfl) (by kernel_rfl) (fun _ _ _ h => h) (Or.inl ⟨by kernel_rfl, ?hy53⟩) hHeld ?rest53
                case hy53 =>
                  intro wx hSw
                  clear hSw
                  go_simp
                  with_reducible rfl
                simp only [List.setIfInBounds_toArray, List.set_cons_zero, List.set_cons_succ]
                refine held_take (i := 21) (d := 146) (v := ?v54) rfl rfl (by kernel_rfl) (by kernel_rfl) (by kernel_rfl) (fun _ _ _ h => h) (Or.inl ⟨by kernel_rfl, ?hy54⟩) hHeld ?rest54
                case hy54 =>
                  intro wx hSw
                  clear hSw
                  go_simp
                  with_reducible rfl
                simp only [List.setIfInBounds_toArray, List.set_cons_zero, List.set_cons_succ]
                refine held_take (i := 22) (d := 147) (v := ?v55) rfl rfl (by kernel_rfl) (by kernel_rfl) (by kernel_rfl) (fun _ _ _ h => h) (Or.inl ⟨by kernel_rfl, ?hy55⟩) hHeld ?rest55
                case hy55 =>
                  intro wx hSw
                  clear hSw
                  go_simp
                  with_reducible rfl
                simp only [List.setIfInBounds_toArray, List.set_cons_zero, List.set_cons_succ]
                refine held_take (i := 23) (d := 148) (v := ?v56) rfl rfl (by kernel_rfl) (by kernel_rfl) (by kernel_rfl) (fun _ _ _ h => h) (Or.inl ⟨by kernel_rfl, ?hy56⟩) hHeld ?rest56
                case hy56 =>
                  intro wx hSw
                  have q0 := (hSw.cell (p := ⟨gb, of5 + j * 5 + 2, none⟩) lA).trans m2.out
                  clear hSw
                  go_simp
                  with_reducible rfl
                simp only [List.setIfInBounds_toArray, List.set_cons_zero, List.set_cons_succ]
                refine held_take (i := 24) (d := 149) (v := ?v57) rfl rfl (by kernel_rfl) (by kernel_rfl) (by kernel_rfl) (fun _ _ _ h => h) (Or.inl ⟨by kernel_rfl, ?hy57⟩) hHeld ?rest57
                case hy57 =>
                  intro wx hSw
                  clear hSw
                  go_simp
                  with_reducible rfl
                simp only [List.setIfInBounds_toArray, List.set_cons_zero, List.set_cons_succ]
                refine held_take (i := 25) (d := 150) (v := ?v58) rfl rfl (by kernel_rfl) (by kernel_rfl) (by kernel_rfl) (fun _ _ _ h => h) (Or.inl ⟨by kernel_rfl, ?hy58⟩) hHeld ?rest58
                case hy58 =>
                  intro wx hSw
                  clear hSw
                  go_simp
                  with_reducible rfl
                simp only [List.setIfInBounds_toArray, List.set_cons_zero, List.set_cons_succ]
                refine held_take (i := 26) (d := 151) (v := ?v59) rfl rfl (by kernel_rfl) (by kernel_rfl) (by kernel_rfl) (fun _ _ _ h => h) (Or.inl ⟨by kernel_rfl, ?hy59⟩) hHeld ?rest59
                case hy59 =>
                  intro wx hSw
                  clear hSw
                  go_simp
                  with_reducible rfl
                simp only [List.setIfInBounds_toArray, List.set_cons_zero, List.set_cons_succ]
                refine held_take (i := 27) (d := 152) (v := ?v60) rfl rfl (by kernel_rfl) (by kernel_rfl) (by kernel_rfl) (fun _ _ _ h => h) (Or.inl ⟨by kernel_rfl, ?hy60⟩) hHeld ?rest60
                case hy60 =>
                  intro wx hSw
                  clear hSw
                  go_simp
                  with_reducible rfl
                simp only [List.setIfInBounds_toArray, List.set_cons_zero, List.set_cons_succ]
                refine held_take (i := 28) (d := 153) (v := ?v61) rfl rfl (by kernel_rfl) (by kernel_rfl) (by kernel_rfl) (fun _ _ _ h => h) (Or.inl ⟨by kernel_rfl, ?hy61⟩) hHeld ?rest61
                case hy61 =>
                  intro wx hSw
                  have q0 := (hSw.cell (p := ⟨D, 18, none⟩) lS).trans k18.out
                  clear hSw
                  go_simp
                  with_reducible rfl
                simp only [List.setIfInBounds_toArray, List.set_cons_zero, List.set_cons_succ]
                refine held_take (i := 29) (d := 154) (v := ?v62) rfl rfl (by kernel_rfl) (by kernel_rfl) (by kernel_rfl) (fun _ _ _ h => h) (Or.inl ⟨by kernel_rfl, ?hy62⟩) hHeld ?rest62
                case hy62 =>
                  intro wx hSw
                  clear hSw
                  go_simp
                  with_reducible rfl
                simp only [List.setIfInBounds_toArray, List.set_cons_zero, List.set_cons_succ]
                refine held_take (i := 30) (d := 155) (v := ?v63) rfl rfl (by kernel_rfl) (by kernel_rfl) (by kernel_rfl) (fun _ _ _ h => h) (Or.inl ⟨by kernel_rfl, ?hy63⟩) hHeld ?rest63
                case hy63 =>
                  intro wx hSw
                  clear hSw
                  go_simp
                  with_reducible rfl
                simp only [List.setIfInBounds_toArray, List.set_cons_zero, List.set_cons_succ]
                refine held_take (i := 31) (d := 156) (v := ?v64) rfl rfl (by kernel_rfl) (by kernel_rfl) (by kernel_rfl) (fun _ _ _ h => h) (Or.inl ⟨by kernel_rfl, ?hy64⟩) hHeld ?rest64
                case hy64 =>
                  intro wx hSw
                  clear hSw
                  go_simp
                  with_reducible rfl
                simp only [List.setIfInBounds_toArray, List.set_cons_zero, List.set_cons_succ]
                refine held_take (i := 32) (d := 157) (v := ?v65) rfl rfl (by kernel_rfl) (by kernel_rfl) (by kernel_rfl) (fun _ _ _ h => h) (Or.inl ⟨by kernel_rfl, ?hy65⟩) hHeld ?rest65
                case hy65 =>
                  intro wx hSw
                  have q0 := (hSw.cell (p := ⟨gb, of5 + j * 5 + 3, none⟩) lA).trans m3.out
                  clear hSw
                  go_simp
                  with_reducible rfl
                simp only [List.setIfInBounds_toArray, List.set_cons_zero, List.set_cons_succ]
                refine held_take (i := 33) (d := 158) (v := ?v66) rfl rfl (by kernel_rfl) (by kernel_rfl) (by kernel_rfl) (fun _ _ _ h => h) (Or.inl ⟨by kernel_rfl, ?hy66⟩) hHeld ?rest66
                case hy66 =>
                  intro wx hSw
                  clear hSw
                  go_simp
                  with_reducible rfl
                simp only [List.setIfInBounds_toArray, List.set_cons_zero, List.set_cons_succ]
                refine held_take (i := 34) (d := 159) (v := ?v67) rfl rfl (by kernel_rfl) (by kernel_rfl) (by kernel_rfl) (fun _ _ _ h => h) (Or.inl ⟨by kernel_rfl, ?hy67⟩) hHeld ?rest67
                case hy67 =>
                  intro wx hSw
                  clear hSw
                  go_simp
                  with_reducible rfl
                simp only [List.setIfInBounds_toArray, List.set_cons_zero, List.set_cons_succ]
                refine held_take (i := 35) (d := 160) (v := ?v68) rfl rfl (by kernel_rfl) (by kernel_rfl) (by kernel_rfl) (fun _ _ _ h => h) (Or.inl ⟨by kernel_rfl, ?hy68⟩) hHeld ?rest68
                case hy68 =>
                  intro wx hSw
                  clear hSw
                  go_simp
                  with_reducible rfl
                simp only [List.setIfInBounds_toArray, List.set_cons_zero, List.set_cons_succ]
                refine held_take (i := 36) (d := 161) (v := ?v69) rfl rfl (by kernel_rfl) (by kernel_rfl) (by kernel_rfl) (fun _ _ _ h => h) (Or.inl ⟨by kernel_rfl, ?hy69⟩) hHeld ?rest69
                case hy69 =>
                  intro wx hSw
                  have q0 := (hSw.cell (p := ⟨D, 18, none⟩) lS).trans k18.out
                  clear hSw
                  go_simp
                  with_reducible rfl
                simp only [List.setIfInBounds_toArray, List.set_cons_zero, List.set_cons_succ]
                refine held_take (i := 37) (d := 162) (v := ?v70) rfl rfl (by kernel_rfl) (by kernel_rfl) (by kernel_rfl) (fun _ _ _ h => h) (Or.inl ⟨by kernel_rfl, ?hy70⟩) hHeld ?rest70
                case hy70 =>
                  intro wx hSw
                  clear hSw
                  go_simp
                  with_reducible rfl
                simp only [List.setIfInBounds_toArray, List.set_cons_zero, List.set_cons_succ]
                refine held_take (i := 38) (d := 163) (v := ?v71) rfl rfl (by kernel_rfl) (by kernel_rfl) (by kernel_rfl) (fun _ _ _ h => h) (Or.inl ⟨by kernel_rfl, ?hy71⟩) hHeld ?rest71
                case hy71 =>
                  intro wx hSw
                  clear hSw
                  go_simp
                  with_reducible rfl
                simp only [List.setIfInBounds_toArray, List.set_cons_zero, List.set_cons_succ]
                refine held_take (i := 39) (d := 164) (v := ?v72) rfl rfl (by kernel_rfl) (by kernel_rfl) (by kernel_rfl) (fun _ _ _ h => h) (Or.inl ⟨by kernel_rfl, ?hy72⟩) hHeld ?rest72
                case hy72 =>
                  intro wx hSw
                  clear hSw
                  go_simp
                  with_reducible rfl
                simp only [List.setIfInBounds_toArray, List.set_cons_zero, List.set_cons_succ]
                refine held_take (i := 40) (d := 165) (v := ?v73) rfl rfl (by kernel_rfl) (by kernel_rfl) (by kernel_rfl) (fun _ _ _ h => h) (Or.inl ⟨by kernel_rfl, ?hy73⟩) hHeld ?rest73
                case hy73 =>
                  intro wx hSw
                  have q0 := (hSw.cell (p := ⟨gb, of5 + j * 5 + 4, none⟩) lA).trans m4.out
                  clear hSw
                  go_simp
                  with_reducible rfl
                simp only [List.setIfInBounds_toArray, List.set_cons_zero, List.set_cons_succ]
                refine held_take (i := 41) (d := 166) (v := ?v74) rfl rfl (by kernel_rfl) (by kernel_rfl) (by kernel_rfl) (fun _ _ _ h => h) (Or.inl ⟨by kernel_rfl, ?hy74⟩) hHeld ?rest74
                case hy74 =>
                  intro wx hSw
                  clear hSw
                  go_simp
                  with_reducible rfl
                simp only [List.setIfInBounds_toArray, List.set_cons_zero, List.set_cons_succ]
                refine held_take (i := 42) (d := 167) (v := ?v75) rfl rfl (by kernel_rfl) (by kernel_rfl) (by kernel_rfl) (fun _ _ _ h => h) (Or.inl ⟨by kernel_rfl, ?hy75⟩) hHeld ?rest75
                case hy75 =>
                  intro wx hSw
                  clear hSw
                  go_simp
                  with_reducible rfl
                simp only [List.setIfInBounds_toArray, List.set_cons_zero, List.set_cons_succ]
                refine held_take (i := 43) (d := 168) (v := ?v76) rfl rfl (by kernel_rfl) (by kernel_rfl) (by kernel_rfl) (fun _ _ _ h => h) (Or.inl ⟨by kernel_rfl, ?hy76⟩) hHeld ?rest76
                case hy76 =>
                  intro wx hSw
                  clear hSw
                  go_simp
                  with_reducible rfl
                simp only [List.setIfInBounds_toArray, List.set_cons_zero, List.set_cons_succ]
                refine held_take (i := 44) (d := 169) (v := ?v77) rfl rfl (by kernel_rfl) (by kernel_rfl) (by kernel_rfl) (fun _ _ _ h => h) (Or.inl ⟨by kernel_rfl, ?hy77⟩) hHeld ?rest77
                case hy77 =>
                  intro wx hSw
                  have q0 := (hSw.cell (p := ⟨gc, of6 + j, none⟩) t1).trans t2h.out
                  clear hSw
                  go_simp
                  with_reducible rfl
                simp only [List.setIfInBounds_toArray, List.set_cons_zero, List.set_cons_succ]
                refine wpAnyH_ready (rs := [45]) (by kernel_rfl) (by simp) ?_
                refine AllReadyH.cons rfl (fun K hK => ?_) AllReadyH.nil
                go_simp
                go_wp2_with (go_at_call 11; refine (HBY.out _ (by exact hHeld)).mono ?_; rintro e wb ⟨rfl, b8⟩)
                refine hK.out _ _ (b8) (fun hHeld => ?_)
                clear hK K
                refine held_take (i := 46) (d := 171) (v := ?v78) rfl rfl (by kernel_rfl) (by kernel_rfl) (by kernel_rfl) (fun _ _ _ h => h) (Or.inl ⟨by kernel_rfl, ?hy78⟩) hHeld ?rest78
                case hy78 =>
                  intro wx hSw
                  clear hSw
                  go_simp
                  with_reducible rfl
                simp only [List.setIfInBounds_toArray, List.set_cons_zero, List.set_cons_succ]
                refine wpAnyH_ready (rs := [47]) (by kernel_rfl) (by simp) ?_
                refine AllReadyH.cons rfl (fun K hK => ?_) AllReadyH.nil
                go_simp
                refine hK.out _ _ hHeld (fun hHeld => ?_)
                clear hK K
                refine wpAnyH_done (by kernel_rfl) ?_ _
                go_wp2_with fail
                go_meet
                exact ⟨rfl, hHeld⟩
            case rest =>
              as_aux_lemma =>
                obtain ⟨rfl, b9⟩ := hcut
                generalize hwc : wc = w8 at *
                have hS := HSW.out.next b9
                replace xS := xS.next b9
                replace hP := hP.next b9
                replace bb := bb.trans (b9.mono bb.size)
                clear hwc b9 HSW HBY m0 m1 m2 m3 m4 t2h k18 lS lA t1
                have HSW : Hid _ := hS
                clear hS
                have hm7 := HLM.out
                go_wp2_with fail
                exact ⟨⟨j + 1, hlt, by go_num, HSW, hP, xS, bb⟩, by simp [intOf]; omega⟩
          · obtain rfl : j = M := by omega
            clear hj hlt HSW hP xS
            go_wp2_with fail
            refine (sendWakes_any _ (HF0.out.next bb)).mono ?_
            rintro e w99 ⟨rfl, b99⟩
            go_wp2
            go_ret
            exact ⟨rfl, bb.trans (b99.mono bb.size)⟩

end Go.Proofs.YtkphjnbeakkejabDoor
