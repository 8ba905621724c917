/-
  Lists of texts, as they lie and as arguments.
-/
import Derived.Test.YtkphjnbeakkejaaDoorM01
import Derived.Test.YtkphjnbeakkejaaDoorM26
import Derived.Test.YtkphjnbeakkejaaDoorM31
import Derived.Test.YtkphjnbeakkejaaDoorM35
import Derived.Test.YtkphjnbeakkejaaDoorM37
import Derived.Test.YtkphjnbeakkejaaDoorM38
import Derived.Deep.Slices
import Derived.OpenShut
import Derived.ProofKit
import Derived.WalkKit
namespace Go.Proofs.YtkphjnbeakkejaaDoor
open Go.RowKit

/-- The slice at a holds these texts, in a block below n₀. -/
def Texts (n₀ : Nat) (W : World) (a : Option Addr) (n : Nat) (l : List (List Int)) : Prop := l.length = n ∧ ∀ (j : Nat) (x : List Int), l[j]? = some x → ∃ b off xa xc, a = some ⟨b, off, none⟩ ∧ b < n₀ ∧ W.cell? ⟨b, off + j, none⟩ = some (.slice xa x.length xc) ∧ Holds .u8 n₀ W (.slice xa x.length xc) x ∧ x.length ≤ xc ∧ ∀ z ∈ x, 0 ≤ z ∧ z ≤ 255
theorem Texts.next {n₀ : Nat} {W W' : World} {a : Option Addr} {n : Nat} {l : List (List Int)} (h : Texts n₀ W a n l) (k : Below n₀ W W') : Texts n₀ W' a n l := by
  refine ⟨h.1, fun j x hj => ?_⟩
  obtain ⟨b, off, xa, xc, h0, h1, h2, h6, h7⟩ := h.2 j x hj
  exact ⟨b, off, xa, xc, h0, h1, (k.cell (p := ⟨b, off + j, none⟩) h1).trans h2, h6.below k, h7⟩
theorem cellsU8L : Tryd.prog.cellsOf 5 = 1 := by kernel_rfl
theorem cellsBytesL : Tryd.prog.cellsOf 25 = 1 := by kernel_rfl

/-- A text that came in, opened. -/
theorem text_of_trod {H : Type} {enc : TypeId × Value → H} {w : World} {base : Nat} {held : Bool} {fuel : Nat} {v : Value} {x : DataW H × List MemPlace}
    (h : DataW.trod enc Tryd.prog w base (fun _ => true) held fuel 25 [v] = some x) : ∃ a ys c, v = .slice a ys.length c ∧ Holds .u8 w.heap.size w v ys ∧ ys.length ≤ c ∧ ∀ z ∈ ys, 0 ≤ z ∧ z ≤ 255 := by
  rcases Go.ChangeShapes.open_ints Tryd.underlying25 Tryd.underlying5 cellsU8L h with ⟨hcs, _⟩ | ⟨x3, l3, c3', zs, hcs, _, hl3, hm3, hz, _, hcell3, hwz⟩
  · simp at hcs
    subst hcs
    exact ⟨_, [], _, rfl, .inl ⟨⟨_, _, rfl, fun _ => rfl⟩, rfl⟩, Nat.le_refl _, by simp⟩
  · simp at hcs
    subst hcs
    obtain ⟨ys, e, hy, hw⟩ := holds_of_isRow (kd := .u8) (w := w) (a := some x3) (len := l3) (cap := c3') (zs := zs) (.inr ⟨x3, rfl, hl3, hm3, by simpa using hz, hcell3, hwz⟩)
    subst e
    exact ⟨_, ys, _, rfl, hy, hl3, bytes_bd hw⟩

set_option maxRecDepth 100000 in
set_option maxHeartbeats 1000000 in
/-- A list of texts that came in, opened. -/
theorem texts_of_trod {H : Type} {enc : TypeId × Value → H} {w : World} {base : Nat} {held : Bool} {fuel : Nat} {a : Option Addr} {len cap : Nat} {x : DataW H × List MemPlace}
    (h : DataW.trod enc Tryd.prog w base (fun _ => true) held fuel 24 [.slice a len cap] = some x) : ∃ l, Texts w.heap.size w a len l := by
  rcases Go.Deep.open_slice Tryd.underlying24 h with ⟨hcs, _⟩ | ⟨ad, len', cap', m, n, D, Pl, hcs, _, hl, hc, hm, _, hx⟩
  · simp at hcs
    obtain ⟨rfl, rfl, rfl⟩ := hcs
    exact ⟨[], rfl, fun j x hj => by simp at hj⟩
  · simp at hcs
    obtain ⟨rfl, rfl, rfl⟩ := hcs
    have hlm : len ≤ m := by rw [hm]; split <;> omega
    have each : ∀ i, i < len → ∃ q : List Int × Option Addr × Nat, w.cell? (ad.add i) = some (.slice q.2.1 q.1.length q.2.2) ∧ Holds .u8 w.heap.size w (.slice q.2.1 q.1.length q.2.2) q.1 ∧ q.1.length ≤ q.2.2 ∧ ∀ z ∈ q.1, 0 ≤ z ∧ z ≤ 255 := by
      intro i hi
      obtain ⟨cs', h1, h2⟩ := hx i (by omega)
      rw [cellsBytesL] at h1
      obtain ⟨_, hlen, hcell⟩ := World.cells?_some h1
      match cs', hlen with
      | [v0], _ =>
        obtain ⟨a3, ys, c3, rfl, hy, h3, h5⟩ := text_of_trod h2
        have c0 := hcell 0 (by omega)
        simp at c0
        exact ⟨(ys, a3, c3), by simpa [Go.Deep.add_add] using c0, hy, h3, h5⟩
    by_cases h0 : len = 0
    · subst h0
      exact ⟨[], rfl, fun j x hj => by simp at hj⟩
    · haveI : Inhabited (List Int × Option Addr × Nat) := ⟨([], none, 0)⟩
      obtain ⟨q, hq⟩ := Go.Deep.choose_lt each
      obtain ⟨b, off, spot⟩ := ad
      have hspot : spot = none := by
        have := (hq 0 (by omega)).1
        simpa [Addr.add] using World.cell?_spot this
      subst hspot
      refine ⟨(List.range len).map fun i => (q i).1, by simp, fun j x hj => ?_⟩
      have hjl : j < len := by have := (List.getElem?_eq_some_iff.1 hj).1; simpa using this
      rw [List.getElem?_map, List.getElem?_range hjl] at hj
      simp at hj
      subst hj
      obtain ⟨g1, g2, g3, g5⟩ := hq j hjl
      rw [Go.WideShapes.add_plain] at g1
      exact ⟨b, off, (q j).2.1, (q j).2.2, rfl, by have := cell_block_lt g1; exact this, g1, g2, g3, g5⟩

end Go.Proofs.YtkphjnbeakkejaaDoor

/-
  The walk of SendDone. (Written by tpl_sendlaws.py.)
-/
namespace Go.Proofs.YtkphjnbeakkejaaDoor
open Go.RowKit

theorem learn_here_at {s : Sn} (h : okS s) {b : Int} (h2 : 0 ≤ b) (h3 : b < 4294967296) (hF : s.sF = 0) : errL s (packA 0 b) = 0 := by
  have := (learn_here h h2 h3).1
  rwa [hF] at this
theorem learn_old_at {s : Sn} (_h : okS s) {b : Int} (h2 : 0 ≤ b) (h3 : b < 4294967296) (hlt : 0 < s.sF) : errL s (packA 0 b) = 13 ∧ learnS s (packA 0 b) = s := learn_old (by omega) (by omega) h2 h3 hlt
/-- Bytes that are held, with .next. -/
def HB8 (W : World) (v : Value) (zs : List Int) : Prop := Holds .u8 W.heap.size W v zs
theorem HB8.next {W W' : World} {v : Value} {zs : List Int} (h : HB8 W v zs) (b : Below W.heap.size W W') : HB8 W' v zs := Holds.next h b
theorem HB8.out {W : World} {v : Value} {zs : List Int} (h : HB8 W v zs) : Holds .u8 W.heap.size W v zs := h
theorem hOld_of {W : World} {base n : Nat} {v : Value} {zs : List Int} (h : W.ownsRow base 5 1 v n (zs.map (Value.int .u8))) : HB8 W v zs := holds_of_row h
set_option maxRecDepth 100000 in
set_option maxHeartbeats 8000000 in
theorem sendDone_walk (cq : Cfg) (ba : Option Addr) (mt kc : Nat) (l : List (List Int)) (first : Int) (hbits : 0 ≤ first ∧ first < 4294967296) (w : World) (hF : Firsts w) (hT : Texts w.heap.size w ba mt l) :
    Calls Tryd.prog 5 #[.agg #[.int .i64 cq.cB, .int .i64 cq.cBeam, .int .i64 cq.cDepth, .int .i64 cq.cWin, .int .i64 cq.cQs, .int .i64 cq.cQr, .int .i64 cq.cBatch, .int .i64 cq.cPass, .int .i64 cq.cMsg, .int .i64 cq.cSeqs], .slice ba mt kc, .int .u32 first] w fun e w' => e = .returned (.bool true) ∧ Below w.heap.size w w' := by
  have bb : Below w.heap.size w (w.alloc (.cells #[.int .i64 cq.cB, .int .i64 cq.cBeam, .int .i64 cq.cDepth, .int .i64 cq.cWin, .int .i64 cq.cQs, .int .i64 cq.cQr, .int .i64 cq.cBatch, .int .i64 cq.cPass, .int .i64 cq.cMsg, .int .i64 cq.cSeqs] 23)) := (Below.refl _ _).alloc (Nat.le_refl _) _
  have xC := Box.new w 23 #[.int .i64 cq.cB, .int .i64 cq.cBeam, .int .i64 cq.cDepth, .int .i64 cq.cWin, .int .i64 cq.cQs, .int .i64 cq.cQr, .int .i64 cq.cBatch, .int .i64 cq.cPass, .int .i64 cq.cMsg, .int .i64 cq.cSeqs]
  have HT : Hid (Texts w.heap.size w ba mt l) := hT
  have HF0 : Hid (Firsts w) := hF
  clear hT hF
  go_enter Tryd.func5, Tryd.ntmps5
  go_wp2_with (first | (refine wpList_load_box xC rfl 23 _ rfl rfl _ Tryd.underlying23 rfl (by kernel_rfl) ?_))
  refine (small_any cq _).mono ?_
  rintro e w1 ⟨c, rfl, hSm, b9⟩
  replace xC := xC.next b9
  replace bb := bb.trans (b9.mono bb.size)
  clear b9
  go_upto_region 2 with (first | (refine wpList_store_box xC rfl 23 _ _ rfl rfl rfl rfl (by kernel_rfl) (by simp [Value.oneCell']) ?_))
  replace xC := xC.setRow #[.int .i64 c.cB, .int .i64 c.cBeam, .int .i64 c.cDepth, .int .i64 c.cWin, .int .i64 c.cQs, .int .i64 c.cQr, .int .i64 c.cBatch, .int .i64 c.cPass, .int .i64 c.cMsg, .int .i64 c.cSeqs]
  replace bb := below_setRow bb (Nat.le_refl _) #[.int .i64 c.cB, .int .i64 c.cBeam, .int .i64 c.cDepth, .int .i64 c.cWin, .int .i64 c.cQs, .int .i64 c.cQr, .int .i64 c.cBatch, .int .i64 c.cPass, .int .i64 c.cMsg, .int .i64 c.cSeqs]
  generalize w1.setRow w.heap.size #[.int .i64 c.cB, .int .i64 c.cBeam, .int .i64 c.cDepth, .int .i64 c.cWin, .int .i64 c.cQs, .int .i64 c.cQr, .int .i64 c.cBatch, .int .i64 c.cPass, .int .i64 c.cMsg, .int .i64 c.cSeqs] = w2 at *
  have hC := hSm.ok
  have HSM : Hid (SmallC c) := hSm
  clear hSm
  by_cases h10 : 10 < mt
  · have d1 : decide (10 < mt) = true := decide_eq_true h10
    have d1i : decide (10 < (mt : Int)) = true := decide_eq_true (by omega)
    clear h10
    go_wp2
    go_ret
    exact ⟨rfl, bb⟩
  have d1 : decide (10 < mt) = false := decide_eq_false h10
  have d1i : decide (10 < (mt : Int)) = false := decide_eq_false (by omega)
  have hm10 : mt ≤ 10 := by omega
  clear h10
  go_wp2_with (first | (refine wpList_load_box xC rfl 23 _ rfl rfl _ Tryd.underlying23 rfl (by kernel_rfl) ?_))
  refine (sendNew_law c hC _).mono ?_
  rintro e w3 ⟨rfl, h1, b9⟩
  replace xC := xC.next b9
  replace bb := bb.trans (b9.mono bb.size)
  have HW : Hid (SnW (w3.heap.size + 1) w3 (newS c) c false 0 0 0 0 0 0 0 0 none 0 none 0 0) := (h1 _).out
  have bA : Below w3.heap.size w3 (w3.alloc (.cells #[.int .i64 0, .int .i64 0, .int .i64 0, .int .i64 0, .int .i64 0, .int .i64 0, .int .i64 0, .int .i64 0, .int .i64 0, .int .i64 0, .bool false, .int .i64 0, .int .i64 0, .int .i64 0, .int .i64 0, .int .i64 0, .int .i64 0, .slice none 0 0, .slice none 0 0] 30)) := (Below.refl _ _).alloc (Nat.le_refl _) _
  have xS := Box.new w3 30 #[.int .i64 0, .int .i64 0, .int .i64 0, .int .i64 0, .int .i64 0, .int .i64 0, .int .i64 0, .int .i64 0, .int .i64 0, .int .i64 0, .bool false, .int .i64 0, .int .i64 0, .int .i64 0, .int .i64 0, .int .i64 0, .int .i64 0, .slice none 0 0, .slice none 0 0]
  have HDC : Hid (w.heap.size < w3.heap.size) := xC.lt
  clear b9 h1 d1 d1i
  go_upto_region 5 with (first | (refine wpList_store_box xS rfl 30 _ _ rfl rfl rfl rfl (by kernel_rfl) (by simp [Value.oneCell']) ?_))
  have bB := below_setRow bA (Nat.le_refl _) #[.int .i64 c.cB, .int .i64 c.cBeam, .int .i64 c.cDepth, .int .i64 c.cWin, .int .i64 c.cQs, .int .i64 c.cQr, .int .i64 c.cBatch, .int .i64 c.cPass, .int .i64 c.cMsg, .int .i64 c.cSeqs, .bool false, .int .i64 0, .int .i64 0, .int .i64 0, .int .i64 0, .int .i64 0, .int .i64 0, .slice none 0 0, .slice none 0 0]
  replace xS := xS.setRow #[.int .i64 c.cB, .int .i64 c.cBeam, .int .i64 c.cDepth, .int .i64 c.cWin, .int .i64 c.cQs, .int .i64 c.cQr, .int .i64 c.cBatch, .int .i64 c.cPass, .int .i64 c.cMsg, .int .i64 c.cSeqs, .bool false, .int .i64 0, .int .i64 0, .int .i64 0, .int .i64 0, .int .i64 0, .int .i64 0, .slice none 0 0, .slice none 0 0]
  replace xC := xC.next bB
  have hW := HW.out.next bB
  replace bb := bb.trans (bB.mono bb.size)
  obtain ⟨D, hD⟩ : ∃ D, w3.heap.size = D := ⟨_, rfl⟩
  rw [hD] at xS xC hW bb HDC ⊢
  clear bA bB hD HW
  generalize (w3.alloc (.cells #[.int .i64 0, .int .i64 0, .int .i64 0, .int .i64 0, .int .i64 0, .int .i64 0, .int .i64 0, .int .i64 0, .int .i64 0, .int .i64 0, .bool false, .int .i64 0, .int .i64 0, .int .i64 0, .int .i64 0, .int .i64 0, .int .i64 0, .slice none 0 0, .slice none 0 0] 30)).setRow D #[.int .i64 c.cB, .int .i64 c.cBeam, .int .i64 c.cDepth, .int .i64 c.cWin, .int .i64 c.cQs, .int .i64 c.cQr, .int .i64 c.cBatch, .int .i64 c.cPass, .int .i64 c.cMsg, .int .i64 c.cSeqs, .bool false, .int .i64 0, .int .i64 0, .int .i64 0, .int .i64 0, .int .i64 0, .int .i64 0, .slice none 0 0, .slice none 0 0] = w4 at *
  have HW4 : Hid (SnW (D + 1) w4 (newS c) c false 0 0 0 0 0 0 0 0 none 0 none 0 0) := hW
  have HON : Hid (OnlyS c [] (newS c)) := only_new hC
  have HC : Hid (okC c = true) := hC
  clear hC hW
  go_wp2_with fail
  go_loopw [9] (fun i wr => ∃ k : Nat, k ≤ mt ∧ i = .int .i64 (k : Int) ∧ ∃ (s : Sn) (P : List (List Int)) (R B N T F : Int) (E M : Nat) (ea : Option Addr) (ec : Nat) (wa : Option Addr) (wc : Nat), Hid (OnlyS c P s ∧ s.sX = false ∧ P.length ≤ k) ∧ Hid (SnW (D + 1) wr s c false 0 R B N T F E M ea ec wa wc (200 * k)) ∧ Box wr D 30 #[.int .i64 c.cB, .int .i64 c.cBeam, .int .i64 c.cDepth, .int .i64 c.cWin, .int .i64 c.cQs, .int .i64 c.cQr, .int .i64 c.cBatch, .int .i64 c.cPass, .int .i64 c.cMsg, .int .i64 c.cSeqs, .bool false, .int .i64 0, .int .i64 R, .int .i64 B, .int .i64 N, .int .i64 T, .int .i64 F, .slice ea E ec, .slice wa M wc] ∧ Box wr w.heap.size 23 #[.int .i64 c.cB, .int .i64 c.cBeam, .int .i64 c.cDepth, .int .i64 c.cWin, .int .i64 c.cQs, .int .i64 c.cQr, .int .i64 c.cBatch, .int .i64 c.cPass, .int .i64 c.cMsg, .int .i64 c.cSeqs] ∧ Below w.heap.size w wr) (fun i _ => mt - (intOf i).toNat)
  case atStart => exact ⟨0, Nat.zero_le _, rfl, newS c, [], 0, 0, 0, 0, 0, 0, 0, none, 0, none, 0, ⟨HON.out, rfl, Nat.le_refl _⟩, HW4, xS, xC, bb⟩
  case round =>
    clear HON HW4 xS xC bb
    obtain ⟨k, hk, rfl, s, P, R, B, N, T, F, E, M, ea, ec, wa, wc, HON, HSW, xS, xC, bb⟩ := hrel
    generalize hwr : wr = w5 at *
    clear hwr
    by_cases hlt : k < mt
    · obtain ⟨x, hx⟩ : ∃ x, l[k]? = some x := ⟨l[k]'(by rw [HT.out.1]; exact hlt), by simp⟩
      obtain ⟨bT, off, xa, xc, rfl, hbT, hcT, hHT, hxc, hxb⟩ := HT.out.2 k x hx
      obtain ⟨n, hn⟩ : ∃ n, x.length = n := ⟨_, rfl⟩
      rw [hn] at hcT hHT hxc
      have HTX : Hid (Holds .u8 w.heap.size w (.slice xa n xc) x) := hHT
      replace hcT := (bb.cell (p := ⟨bT, off + k, none⟩) hbT).trans hcT
      have dk : decide (k < mt) = true := decide_eq_true hlt
      have dki : decide ((k : Int) < (mt : Int)) = true := decide_eq_true (by omega)
      have HBT : Hid (bT < w.heap.size) := hbT
      clear hx hHT
      by_cases h4 : 400 < n
      · have d4 : decide (400 < n) = true := decide_eq_true h4
        have d4i : decide (400 < (n : Int)) = true := decide_eq_true (by omega)
        clear h4
        go_wp2
        go_ret
        exact ⟨rfl, bb⟩
      have d4 : decide (400 < n) = false := decide_eq_false h4
      have d4i : decide (400 < (n : Int)) = false := decide_eq_false (by omega)
      clear h4
      go_upto_region 12 with fail
      clear d4 d4i
      replace hbT : bT < D := by have := HDC.out; omega
      have HTD : Hid (Holds .u8 w5.drew.heap.size w5.drew (.slice xa n xc) x) := (HTX.out.below bb).mono bb.size
      have HSD : Hid (Holds .u8 w5.drew.heap.size w5.drew (.slice xa n xc) x → _) := fun hx => sendSend_law (w := w5.drew) (HSW.out.next (Below.refl _ _).drew) (by omega) xa n xc x hn hxc hxb hx
      have xSd : Box w5.drew D 30 #[.int .i64 c.cB, .int .i64 c.cBeam, .int .i64 c.cDepth, .int .i64 c.cWin, .int .i64 c.cQs, .int .i64 c.cQr, .int .i64 c.cBatch, .int .i64 c.cPass, .int .i64 c.cMsg, .int .i64 c.cSeqs, .bool false, .int .i64 0, .int .i64 R, .int .i64 B, .int .i64 N, .int .i64 T, .int .i64 F, .slice ea E ec, .slice wa M wc] := xS
      refine wp_region_held_drew (S := fun w' => Below D w5 w') (by kernel_rfl) ((Below.refl D w5).drew) (fun hHeld => ?_)
      refine held_take (i := 1) (d := 46) (v := ?v38) rfl rfl (by kernel_rfl) (by kernel_rfl) (by kernel_rfl) (fun _ _ _ h => h) (Or.inl ⟨by kernel_rfl, ?hy38⟩) hHeld ?rest38
      case hy38 =>
        intro wx hSw
        clear hSw
        go_simp
        with_reducible rfl
      simp only [List.setIfInBounds_toArray, List.set_cons_zero, List.set_cons_succ]
      refine held_take (i := 2) (d := 47) (v := ?v39) rfl rfl (by kernel_rfl) (by kernel_rfl) (by kernel_rfl) (fun _ _ _ h => h) (Or.inl ⟨by kernel_rfl, ?hy39⟩) hHeld ?rest39
      case hy39 =>
        intro wx hSw
        clear hSw
        go_simp
        with_reducible rfl
      simp only [List.setIfInBounds_toArray, List.set_cons_zero, List.set_cons_succ]
      refine held_take (i := 3) (d := 48) (v := ?v40) rfl rfl (by kernel_rfl) (by kernel_rfl) (by kernel_rfl) (fun _ _ _ h => h) (Or.inl ⟨by kernel_rfl, ?hy40⟩) hHeld ?rest40
      case hy40 =>
        intro wx hSw
        clear hSw
        go_simp
        with_reducible rfl
      simp only [List.setIfInBounds_toArray, List.set_cons_zero, List.set_cons_succ]
      refine held_take (i := 4) (d := 49) (v := ?v41) rfl rfl (by kernel_rfl) (by kernel_rfl) (by kernel_rfl) (fun _ _ _ h => h) (Or.inl ⟨by kernel_rfl, ?hy41⟩) hHeld ?rest41
      case hy41 =>
        intro wx hSw
        have q0 := (hSw.cell (p := ⟨bT, off + k, none⟩) hbT).trans hcT
        clear hSw
        go_simp
        with_reducible rfl
      simp only [List.setIfInBounds_toArray, List.set_cons_zero, List.set_cons_succ]
      refine wpAnyH_ready (rs := [0]) (by kernel_rfl) (by simp) ?_
      refine AllReadyH.cons rfl (fun K hK => ?_) AllReadyH.nil
      refine step_load_boxn xSd rfl 30 _ rfl rfl _ Tryd.underlying30 rfl (by kernel_rfl) ?_
      simp only [Act.put, List.setIfInBounds_toArray]
      refine hK.out _ _ (hHeld) (fun hHeld => ?_)
      clear hK K
      refine wpAnyH_ready (rs := [5]) (by kernel_rfl) (by simp) ?_
      refine AllReadyH.cons rfl (fun K hK => ?_) AllReadyH.nil
      go_simp
      go_wp2_with (go_at_call 9; refine (HSD.out (by exact HTD.out)).mono ?_; rintro e w9 ⟨R9, B9, N9, T9, F9, E9, M9, fa, fc, va, vc, rfl, hS, b9⟩)
      have b9d : Below w5.heap.size w5 w9 := (Below.refl w5.heap.size w5).drew.trans b9
      have xS9 := xS.next b9d
      refine hK.out _ _ (b9d.mono (Nat.le_of_lt xS.lt)) (fun hHeld => ?_)
      clear hK K
      refine held_take (i := 6) (d := 44) (v := ?v42) rfl rfl (by kernel_rfl) (by kernel_rfl) (by kernel_rfl) (fun _ _ _ h => h) (Or.inl ⟨by kernel_rfl, ?hy42⟩) hHeld ?rest42
      case hy42 =>
        intro wx hSw
        clear hSw
        go_simp
        with_reducible rfl
      simp only [List.setIfInBounds_toArray, List.set_cons_zero, List.set_cons_succ]
      refine held_take (i := 7) (d := 51) (v := ?v43) rfl rfl (by kernel_rfl) (by kernel_rfl) (by kernel_rfl) (fun _ _ _ h => h) (Or.inl ⟨by kernel_rfl, ?hy43⟩) hHeld ?rest43
      case hy43 =>
        intro wx hSw
        clear hSw
        go_simp
        with_reducible rfl
      simp only [List.setIfInBounds_toArray, List.set_cons_zero, List.set_cons_succ]
      refine held_take (i := 8) (d := 52) (v := ?v44) rfl rfl (by kernel_rfl) (by kernel_rfl) (by kernel_rfl) (fun _ _ _ h => h) (Or.inl ⟨by kernel_rfl, ?hy44⟩) hHeld ?rest44
      case hy44 =>
        intro wx hSw
        clear hSw
        go_simp
        with_reducible rfl
      simp only [List.setIfInBounds_toArray, List.set_cons_zero, List.set_cons_succ]
      refine wpAnyH_ready (rs := [9]) (by kernel_rfl) (by simp) ?_
      refine AllReadyH.cons rfl (fun K hK => ?_) AllReadyH.nil
      refine step_store_boxn xS9 rfl 30 _ _ rfl rfl rfl rfl (by kernel_rfl) (by simp [Value.oneCell']) ?_
      simp only [Act.put, List.setIfInBounds_toArray]
      refine hK.out _ _ (below_setRow (b9d.mono (Nat.le_of_lt xS.lt)) (Nat.le_refl D) #[.int .i64 c.cB, .int .i64 c.cBeam, .int .i64 c.cDepth, .int .i64 c.cWin, .int .i64 c.cQs, .int .i64 c.cQr, .int .i64 c.cBatch, .int .i64 c.cPass, .int .i64 c.cMsg, .int .i64 c.cSeqs, .bool false, .int .i64 0, .int .i64 R9, .int .i64 B9, .int .i64 N9, .int .i64 T9, .int .i64 F9, .slice fa E9 fc, .slice va M9 vc]) (fun hHeld => ?_)
      clear hK K
      refine wpAnyH_done (by kernel_rfl) ?_ _
      have hDb : D < w5.heap.size := xS.lt
      have HSN : Hid (SnW (D + 1) (w9.setRow D #[.int .i64 c.cB, .int .i64 c.cBeam, .int .i64 c.cDepth, .int .i64 c.cWin, .int .i64 c.cQs, .int .i64 c.cQr, .int .i64 c.cBatch, .int .i64 c.cPass, .int .i64 c.cMsg, .int .i64 c.cSeqs, .bool false, .int .i64 0, .int .i64 R9, .int .i64 B9, .int .i64 N9, .int .i64 T9, .int .i64 F9, .slice fa E9 fc, .slice va M9 vc]) (sendS s x) c false 0 R9 B9 N9 T9 F9 E9 M9 fa fc va vc (200 * (k + 1))) := ((hS.out.old hDb (fun g hg => setRow_other w9 D g #[.int .i64 c.cB, .int .i64 c.cBeam, .int .i64 c.cDepth, .int .i64 c.cWin, .int .i64 c.cQs, .int .i64 c.cQr, .int .i64 c.cBatch, .int .i64 c.cPass, .int .i64 c.cMsg, .int .i64 c.cSeqs, .bool false, .int .i64 0, .int .i64 R9, .int .i64 B9, .int .i64 N9, .int .i64 T9, .int .i64 F9, .slice fa E9 fc, .slice va M9 vc] hg)).lower (show D + 1 ≤ w5.heap.size from hDb)).more (by omega)
      have HON9 : Hid (OnlyS c (if errS s x = 0 then P ++ [x] else P) (sendS s x) ∧ (sendS s x).sX = false ∧ (if errS s x = 0 then P ++ [x] else P).length ≤ k + 1) := by
        have h := only_send HON.out.1 x
        refine ⟨h.1, h.2.trans HON.out.2.1, ?_⟩
        have := HON.out.2.2
        split
        · rw [List.length_append]; simp; omega
        · omega
      have xSn := xS9.setRow #[.int .i64 c.cB, .int .i64 c.cBeam, .int .i64 c.cDepth, .int .i64 c.cWin, .int .i64 c.cQs, .int .i64 c.cQr, .int .i64 c.cBatch, .int .i64 c.cPass, .int .i64 c.cMsg, .int .i64 c.cSeqs, .bool false, .int .i64 0, .int .i64 R9, .int .i64 B9, .int .i64 N9, .int .i64 T9, .int .i64 F9, .slice fa E9 fc, .slice va M9 vc]
      have xCn := (xC.next b9d).otherRow (D := D) (by have := HDC.out; omega) #[.int .i64 c.cB, .int .i64 c.cBeam, .int .i64 c.cDepth, .int .i64 c.cWin, .int .i64 c.cQs, .int .i64 c.cQr, .int .i64 c.cBatch, .int .i64 c.cPass, .int .i64 c.cMsg, .int .i64 c.cSeqs, .bool false, .int .i64 0, .int .i64 R9, .int .i64 B9, .int .i64 N9, .int .i64 T9, .int .i64 F9, .slice fa E9 fc, .slice va M9 vc]
      have bbn := below_setRow (bb.trans (b9d.mono bb.size)) (show w.heap.size ≤ D by have := HDC.out; omega) #[.int .i64 c.cB, .int .i64 c.cBeam, .int .i64 c.cDepth, .int .i64 c.cWin, .int .i64 c.cQs, .int .i64 c.cQr, .int .i64 c.cBatch, .int .i64 c.cPass, .int .i64 c.cMsg, .int .i64 c.cSeqs, .bool false, .int .i64 0, .int .i64 R9, .int .i64 B9, .int .i64 N9, .int .i64 T9, .int .i64 F9, .slice fa E9 fc, .slice va M9 vc]
      generalize w9.setRow D #[.int .i64 c.cB, .int .i64 c.cBeam, .int .i64 c.cDepth, .int .i64 c.cWin, .int .i64 c.cQs, .int .i64 c.cQr, .int .i64 c.cBatch, .int .i64 c.cPass, .int .i64 c.cMsg, .int .i64 c.cSeqs, .bool false, .int .i64 0, .int .i64 R9, .int .i64 B9, .int .i64 N9, .int .i64 T9, .int .i64 F9, .slice fa E9 fc, .slice va M9 vc] = w10 at *
      clear hS b9 b9d xS9 xS xC bb HSD HTD HTX xSd
      go_wp2
      exact ⟨⟨k + 1, hlt, by go_num, sendS s x, _, R9, B9, N9, T9, F9, E9, M9, fa, fc, va, vc, HON9, HSN, xSn, xCn, bbn⟩, by simp [intOf]; omega⟩
    · obtain rfl : k = mt := by omega
      clear hk hlt
      have hT3 := HSW.out.ok.next_bd
      have hT4 : 0 ≤ T := by have h1 := HSW.out.ok.low; have h2 := HSW.out.ok.base; have h3 := HSW.out.is.eT; omega
      rw [HSW.out.is.eT] at hT3
      have HTT : Hid (s.sT = T) := HSW.out.is.eT
      have HFF : Hid (s.sF = 0) := HON.out.1.base
      have HOK : Hid (okS s) := HSW.out.ok
      have hla := learn_all HOK.out (b := 0) (by omega) (by omega)
      have hlh := learn_here HOK.out hbits.1 hbits.2
      have hl2 := learn_two HOK.out (a := 0) (b := first) (by omega) (by omega) hbits.1 hbits.2
      rw [HTT.out] at hla hl2
      rw [HFF.out] at hlh hl2
      have HLA : Hid _ := hla
      have HLH : Hid _ := hlh
      have HL2 : Hid _ := hl2
      have hm9 : 200 * k ≤ 900000 := by omega
      clear hla hlh hl2 HON HSM
      have c15 := xS.cell 15 _ rfl
      have lS := xS.lt
      go_wp2_with fail
      refine (AckMake_ok T 0 hT4 hT3 (by omega) (by omega) _).mono ?_
      rintro e w6 ⟨q9, rfl, o7, b9⟩
      obtain ⟨qa, qc, rfl⟩ := row_shapeS o7
      have hcq := rowK_cap o7
      have hO7 := hOld_of o7
      have HSW := HSW.out.next b9
      replace xS := xS.next b9
      replace bb := bb.trans (b9.mono bb.size)
      clear b9 o7 c15 lS
      go_wp2_with fail
      refine (AckMake_ok 0 first (by omega) (by omega) hbits.1 hbits.2 _).mono ?_
      rintro e w7 ⟨q9, rfl, o8, b9⟩
      obtain ⟨ra, rc, rfl⟩ := row_shapeS o8
      have hcr := rowK_cap o8
      have hO8 := hOld_of o8
      replace HSW := HSW.next b9
      replace hO7 := hO7.next b9
      replace xS := xS.next b9
      replace bb := bb.trans (b9.mono bb.size)
      clear b9 o8 HDC xC
      go_wp2_with (first | (refine wpList_load_box xS rfl 30 _ rfl rfl _ Tryd.underlying30 rfl (by kernel_rfl) ?_))
      refine (sendLearn_law HSW hm9 qa 13 qc (packA T 0) (packA_len _ _) (by omega) hcq (packA_bd _ _) hO7.out).mono ?_
      rintro e w8 ⟨R1, B1, N1, T1, F1, E1, M1, fa1, fc1, va1, vc1, rfl, hS, b9⟩
      rw [HLA.out.1]
      rw [HLA.out.2] at hS
      replace xS := xS.next b9
      replace HSW := HSW.next b9
      replace hO7 := hO7.next b9
      replace hO8 := hO8.next b9
      replace bb := bb.trans (b9.mono bb.size)
      clear b9
      have bA : Below w8.heap.size w8 (w8.alloc (.cells #[.int .i64 0, .int .i64 0, .int .i64 0, .int .i64 0, .int .i64 0, .int .i64 0, .int .i64 0, .int .i64 0, .int .i64 0, .int .i64 0, .bool false, .int .i64 0, .int .i64 0, .int .i64 0, .int .i64 0, .int .i64 0, .int .i64 0, .slice none 0 0, .slice none 0 0] 30)) := (Below.refl _ _).alloc (Nat.le_refl _) _
      have x1 := Box.new w8 30 #[.int .i64 0, .int .i64 0, .int .i64 0, .int .i64 0, .int .i64 0, .int .i64 0, .int .i64 0, .int .i64 0, .int .i64 0, .int .i64 0, .bool false, .int .i64 0, .int .i64 0, .int .i64 0, .int .i64 0, .int .i64 0, .int .i64 0, .slice none 0 0, .slice none 0 0]
      go_upto_region 18 with (first | (refine wpList_store_box x1 rfl 30 _ _ rfl rfl rfl rfl (by kernel_rfl) (by simp [Value.oneCell']) ?_))
      have bB := below_setRow bA (Nat.le_refl _) #[.int .i64 c.cB, .int .i64 c.cBeam, .int .i64 c.cDepth, .int .i64 c.cWin, .int .i64 c.cQs, .int .i64 c.cQr, .int .i64 c.cBatch, .int .i64 c.cPass, .int .i64 c.cMsg, .int .i64 c.cSeqs, .bool false, .int .i64 0, .int .i64 R1, .int .i64 B1, .int .i64 N1, .int .i64 T1, .int .i64 F1, .slice fa1 E1 fc1, .slice va1 M1 vc1]
      replace x1 := x1.setRow #[.int .i64 c.cB, .int .i64 c.cBeam, .int .i64 c.cDepth, .int .i64 c.cWin, .int .i64 c.cQs, .int .i64 c.cQr, .int .i64 c.cBatch, .int .i64 c.cPass, .int .i64 c.cMsg, .int .i64 c.cSeqs, .bool false, .int .i64 0, .int .i64 R1, .int .i64 B1, .int .i64 N1, .int .i64 T1, .int .i64 F1, .slice fa1 E1 fc1, .slice va1 M1 vc1]
      replace xS := xS.next bB
      replace HSW := HSW.next bB
      replace hO7 := hO7.next bB
      replace hO8 := hO8.next bB
      have sw1 := (hS.out.next bB).lower (base' := 0) (Nat.zero_le _)
      replace bb := bb.trans (bB.mono bb.size)
      obtain ⟨D1, hD1⟩ : ∃ D, w8.heap.size = D := ⟨_, rfl⟩
      rw [hD1] at x1 bb sw1 xS HSW hO7 hO8 ⊢
      clear bA bB hD1 hS
      generalize (w8.alloc (.cells #[.int .i64 0, .int .i64 0, .int .i64 0, .int .i64 0, .int .i64 0, .int .i64 0, .int .i64 0, .int .i64 0, .int .i64 0, .int .i64 0, .bool false, .int .i64 0, .int .i64 0, .int .i64 0, .int .i64 0, .int .i64 0, .int .i64 0, .slice none 0 0, .slice none 0 0] 30)).setRow D1 #[.int .i64 c.cB, .int .i64 c.cBeam, .int .i64 c.cDepth, .int .i64 c.cWin, .int .i64 c.cQs, .int .i64 c.cQr, .int .i64 c.cBatch, .int .i64 c.cPass, .int .i64 c.cMsg, .int .i64 c.cSeqs, .bool false, .int .i64 0, .int .i64 R1, .int .i64 B1, .int .i64 N1, .int .i64 T1, .int .i64 F1, .slice fa1 E1 fc1, .slice va1 M1 vc1] = w9 at *
      go_wp2_with (first | (refine wpList_load_box xS rfl 30 _ rfl rfl _ Tryd.underlying30 rfl (by kernel_rfl) ?_))
      refine (sendLearn_law HSW hm9 ra 13 rc (packA 0 first) (packA_len _ _) (by omega) hcr (packA_bd _ _) hO8.out).mono ?_
      rintro e w10 ⟨R2, B2, N2, T2, F2, E2, M2, fa2, fc2, va2, vc2, rfl, hS, b9⟩
      rw [HLH.out.1]
      replace xS := xS.next b9
      replace HSW := HSW.next b9
      replace hO7 := hO7.next b9
      replace hO8 := hO8.next b9
      replace x1 := x1.next b9
      replace sw1 := sw1.next b9
      replace bb := bb.trans (b9.mono bb.size)
      clear b9
      have bA : Below w10.heap.size w10 (w10.alloc (.cells #[.int .i64 0, .int .i64 0, .int .i64 0, .int .i64 0, .int .i64 0, .int .i64 0, .int .i64 0, .int .i64 0, .int .i64 0, .int .i64 0, .bool false, .int .i64 0, .int .i64 0, .int .i64 0, .int .i64 0, .int .i64 0, .int .i64 0, .slice none 0 0, .slice none 0 0] 30)) := (Below.refl _ _).alloc (Nat.le_refl _) _
      have x2 := Box.new w10 30 #[.int .i64 0, .int .i64 0, .int .i64 0, .int .i64 0, .int .i64 0, .int .i64 0, .int .i64 0, .int .i64 0, .int .i64 0, .int .i64 0, .bool false, .int .i64 0, .int .i64 0, .int .i64 0, .int .i64 0, .int .i64 0, .int .i64 0, .slice none 0 0, .slice none 0 0]
      go_upto_region 19 with (first | (refine wpList_store_box x2 rfl 30 _ _ rfl rfl rfl rfl (by kernel_rfl) (by simp [Value.oneCell']) ?_))
      have bB := below_setRow bA (Nat.le_refl _) #[.int .i64 c.cB, .int .i64 c.cBeam, .int .i64 c.cDepth, .int .i64 c.cWin, .int .i64 c.cQs, .int .i64 c.cQr, .int .i64 c.cBatch, .int .i64 c.cPass, .int .i64 c.cMsg, .int .i64 c.cSeqs, .bool false, .int .i64 0, .int .i64 R2, .int .i64 B2, .int .i64 N2, .int .i64 T2, .int .i64 F2, .slice fa2 E2 fc2, .slice va2 M2 vc2]
      replace x2 := x2.setRow #[.int .i64 c.cB, .int .i64 c.cBeam, .int .i64 c.cDepth, .int .i64 c.cWin, .int .i64 c.cQs, .int .i64 c.cQr, .int .i64 c.cBatch, .int .i64 c.cPass, .int .i64 c.cMsg, .int .i64 c.cSeqs, .bool false, .int .i64 0, .int .i64 R2, .int .i64 B2, .int .i64 N2, .int .i64 T2, .int .i64 F2, .slice fa2 E2 fc2, .slice va2 M2 vc2]
      replace xS := xS.next bB
      replace HSW := HSW.next bB
      replace hO7 := hO7.next bB
      replace hO8 := hO8.next bB
      replace x1 := x1.next bB
      replace sw1 := sw1.next bB
      have sw2 := (hS.out.next bB).lower (base' := 0) (Nat.zero_le _)
      replace bb := bb.trans (bB.mono bb.size)
      obtain ⟨D2, hD2⟩ : ∃ D, w10.heap.size = D := ⟨_, rfl⟩
      rw [hD2] at x2 bb sw2 xS HSW hO7 hO8 x1 sw1 ⊢
      clear bA bB hD2 hS
      generalize (w10.alloc (.cells #[.int .i64 0, .int .i64 0, .int .i64 0, .int .i64 0, .int .i64 0, .int .i64 0, .int .i64 0, .int .i64 0, .int .i64 0, .int .i64 0, .bool false, .int .i64 0, .int .i64 0, .int .i64 0, .int .i64 0, .int .i64 0, .int .i64 0, .slice none 0 0, .slice none 0 0] 30)).setRow D2 #[.int .i64 c.cB, .int .i64 c.cBeam, .int .i64 c.cDepth, .int .i64 c.cWin, .int .i64 c.cQs, .int .i64 c.cQr, .int .i64 c.cBatch, .int .i64 c.cPass, .int .i64 c.cMsg, .int .i64 c.cSeqs, .bool false, .int .i64 0, .int .i64 R2, .int .i64 B2, .int .i64 N2, .int .i64 T2, .int .i64 F2, .slice fa2 E2 fc2, .slice va2 M2 vc2] = w11 at *
      go_wp2_with (first | (refine wpList_load_box x2 rfl 30 _ rfl rfl _ Tryd.underlying30 rfl (by kernel_rfl) ?_))
      refine (sendLearn_law sw2 hm9 qa 13 qc (packA T 0) (packA_len _ _) (by omega) hcq (packA_bd _ _) hO7.out).mono ?_
      rintro e w12 ⟨R3, B3, N3, T3, F3, E3, M3, fa3, fc3, va3, vc3, rfl, hS, b9⟩
      rw [HL2.out.2]
      rw [HL2.out.1, HLA.out.2] at hS
      replace xS := xS.next b9
      replace HSW := HSW.next b9
      replace hO7 := hO7.next b9
      replace hO8 := hO8.next b9
      replace x1 := x1.next b9
      replace sw1 := sw1.next b9
      replace bb := bb.trans (b9.mono bb.size)
      clear b9
      have bA : Below w12.heap.size w12 (w12.alloc (.cells #[.int .i64 0, .int .i64 0, .int .i64 0, .int .i64 0, .int .i64 0, .int .i64 0, .int .i64 0, .int .i64 0, .int .i64 0, .int .i64 0, .bool false, .int .i64 0, .int .i64 0, .int .i64 0, .int .i64 0, .int .i64 0, .int .i64 0, .slice none 0 0, .slice none 0 0] 30)) := (Below.refl _ _).alloc (Nat.le_refl _) _
      have x3 := Box.new w12 30 #[.int .i64 0, .int .i64 0, .int .i64 0, .int .i64 0, .int .i64 0, .int .i64 0, .int .i64 0, .int .i64 0, .int .i64 0, .int .i64 0, .bool false, .int .i64 0, .int .i64 0, .int .i64 0, .int .i64 0, .int .i64 0, .int .i64 0, .slice none 0 0, .slice none 0 0]
      go_upto_region 20 with (first | (refine wpList_store_box x3 rfl 30 _ _ rfl rfl rfl rfl (by kernel_rfl) (by simp [Value.oneCell']) ?_))
      have bB := below_setRow bA (Nat.le_refl _) #[.int .i64 c.cB, .int .i64 c.cBeam, .int .i64 c.cDepth, .int .i64 c.cWin, .int .i64 c.cQs, .int .i64 c.cQr, .int .i64 c.cBatch, .int .i64 c.cPass, .int .i64 c.cMsg, .int .i64 c.cSeqs, .bool false, .int .i64 0, .int .i64 R3, .int .i64 B3, .int .i64 N3, .int .i64 T3, .int .i64 F3, .slice fa3 E3 fc3, .slice va3 M3 vc3]
      replace x3 := x3.setRow #[.int .i64 c.cB, .int .i64 c.cBeam, .int .i64 c.cDepth, .int .i64 c.cWin, .int .i64 c.cQs, .int .i64 c.cQr, .int .i64 c.cBatch, .int .i64 c.cPass, .int .i64 c.cMsg, .int .i64 c.cSeqs, .bool false, .int .i64 0, .int .i64 R3, .int .i64 B3, .int .i64 N3, .int .i64 T3, .int .i64 F3, .slice fa3 E3 fc3, .slice va3 M3 vc3]
      replace xS := xS.next bB
      replace HSW := HSW.next bB
      replace hO7 := hO7.next bB
      replace hO8 := hO8.next bB
      replace x1 := x1.next bB
      replace sw1 := sw1.next bB
      have sw3 := (hS.out.next bB).lower (base' := 0) (Nat.zero_le _)
      replace bb := bb.trans (bB.mono bb.size)
      obtain ⟨D3, hD3⟩ : ∃ D, w12.heap.size = D := ⟨_, rfl⟩
      rw [hD3] at x3 bb sw3 xS HSW hO7 hO8 x1 sw1 ⊢
      clear bA bB hD3 hS
      generalize (w12.alloc (.cells #[.int .i64 0, .int .i64 0, .int .i64 0, .int .i64 0, .int .i64 0, .int .i64 0, .int .i64 0, .int .i64 0, .int .i64 0, .int .i64 0, .bool false, .int .i64 0, .int .i64 0, .int .i64 0, .int .i64 0, .int .i64 0, .int .i64 0, .slice none 0 0, .slice none 0 0] 30)).setRow D3 #[.int .i64 c.cB, .int .i64 c.cBeam, .int .i64 c.cDepth, .int .i64 c.cWin, .int .i64 c.cQs, .int .i64 c.cQr, .int .i64 c.cBatch, .int .i64 c.cPass, .int .i64 c.cMsg, .int .i64 c.cSeqs, .bool false, .int .i64 0, .int .i64 R3, .int .i64 B3, .int .i64 N3, .int .i64 T3, .int .i64 F3, .slice fa3 E3 fc3, .slice va3 M3 vc3] = w13 at *
      obtain rfl : R1 = R3 := (sw1.is.eR.symm.trans sw3.is.eR)
      obtain rfl : B1 = B3 := (sw1.is.eB.symm.trans sw3.is.eB)
      obtain rfl : N1 = N3 := (sw1.is.eN.symm.trans sw3.is.eN)
      obtain rfl : T1 = T3 := (sw1.is.eT.symm.trans sw3.is.eT)
      obtain rfl : F1 = F3 := (sw1.is.eF.symm.trans sw3.is.eF)
      obtain rfl : E1 = E3 := (sw1.is.lE.symm.trans sw3.is.lE)
      obtain rfl : M1 = M3 := (sw1.is.lW.symm.trans sw3.is.lW)
      obtain rfl : E1 = 0 := sw1.is.lE.symm
      obtain rfl : M1 = 0 := sw1.is.lW.symm
      obtain rfl : T = F1 := sw1.is.eF
      clear sw2 x2
      have HW1 : Hid _ := sw1
      have HW3 : Hid _ := sw3
      have HT1 : Hid (T1 = T) := sw1.is.eT.symm
      have wN1 : N1 - ((0 : Nat) : Int) = N1 := Int.sub_zero _
      obtain ⟨nq1, hnq1⟩ : ∃ n, w13.heap.size = n := ⟨_, rfl⟩
      have hl_x1 : D1 < nq1 := hnq1 ▸ x1.lt
      have m_x10 : Hid (w13.cell? ⟨D1, 0, none⟩ = some (.int .i64 c.cB)) := x1.cell 0 _ rfl
      have m_x11 : Hid (w13.cell? ⟨D1, 1, none⟩ = some (.int .i64 c.cBeam)) := x1.cell 1 _ rfl
      have m_x12 : Hid (w13.cell? ⟨D1, 2, none⟩ = some (.int .i64 c.cDepth)) := x1.cell 2 _ rfl
      have m_x13 : Hid (w13.cell? ⟨D1, 3, none⟩ = some (.int .i64 c.cWin)) := x1.cell 3 _ rfl
      have m_x14 : Hid (w13.cell? ⟨D1, 4, none⟩ = some (.int .i64 c.cQs)) := x1.cell 4 _ rfl
      have m_x15 : Hid (w13.cell? ⟨D1, 5, none⟩ = some (.int .i64 c.cQr)) := x1.cell 5 _ rfl
      have m_x16 : Hid (w13.cell? ⟨D1, 6, none⟩ = some (.int .i64 c.cBatch)) := x1.cell 6 _ rfl
      have m_x17 : Hid (w13.cell? ⟨D1, 7, none⟩ = some (.int .i64 c.cPass)) := x1.cell 7 _ rfl
      have m_x18 : Hid (w13.cell? ⟨D1, 8, none⟩ = some (.int .i64 c.cMsg)) := x1.cell 8 _ rfl
      have m_x19 : Hid (w13.cell? ⟨D1, 9, none⟩ = some (.int .i64 c.cSeqs)) := x1.cell 9 _ rfl
      have m_x110 : Hid (w13.cell? ⟨D1, 10, none⟩ = some (.bool false)) := x1.cell 10 _ rfl
      have m_x111 : Hid (w13.cell? ⟨D1, 11, none⟩ = some (.int .i64 0)) := x1.cell 11 _ rfl
      have m_x112 : Hid (w13.cell? ⟨D1, 12, none⟩ = some (.int .i64 R1)) := x1.cell 12 _ rfl
      have m_x113 : Hid (w13.cell? ⟨D1, 13, none⟩ = some (.int .i64 B1)) := x1.cell 13 _ rfl
      have m_x114 : Hid (w13.cell? ⟨D1, 14, none⟩ = some (.int .i64 N1)) := x1.cell 14 _ rfl
      have m_x115 : Hid (w13.cell? ⟨D1, 15, none⟩ = some (.int .i64 T1)) := x1.cell 15 _ rfl
      have m_x116 : Hid (w13.cell? ⟨D1, 16, none⟩ = some (.int .i64 T)) := x1.cell 16 _ rfl
      have m_x117 : Hid (w13.cell? ⟨D1, 17, none⟩ = some (.slice fa1 0 fc1)) := x1.cell 17 _ rfl
      have m_x118 : Hid (w13.cell? ⟨D1, 18, none⟩ = some (.slice va1 0 vc1)) := x1.cell 18 _ rfl
      have hl_x3 : D3 < nq1 := hnq1 ▸ x3.lt
      have m_x30 : Hid (w13.cell? ⟨D3, 0, none⟩ = some (.int .i64 c.cB)) := x3.cell 0 _ rfl
      have m_x31 : Hid (w13.cell? ⟨D3, 1, none⟩ = some (.int .i64 c.cBeam)) := x3.cell 1 _ rfl
      have m_x32 : Hid (w13.cell? ⟨D3, 2, none⟩ = some (.int .i64 c.cDepth)) := x3.cell 2 _ rfl
      have m_x33 : Hid (w13.cell? ⟨D3, 3, none⟩ = some (.int .i64 c.cWin)) := x3.cell 3 _ rfl
      have m_x34 : Hid (w13.cell? ⟨D3, 4, none⟩ = some (.int .i64 c.cQs)) := x3.cell 4 _ rfl
      have m_x35 : Hid (w13.cell? ⟨D3, 5, none⟩ = some (.int .i64 c.cQr)) := x3.cell 5 _ rfl
      have m_x36 : Hid (w13.cell? ⟨D3, 6, none⟩ = some (.int .i64 c.cBatch)) := x3.cell 6 _ rfl
      have m_x37 : Hid (w13.cell? ⟨D3, 7, none⟩ = some (.int .i64 c.cPass)) := x3.cell 7 _ rfl
      have m_x38 : Hid (w13.cell? ⟨D3, 8, none⟩ = some (.int .i64 c.cMsg)) := x3.cell 8 _ rfl
      have m_x39 : Hid (w13.cell? ⟨D3, 9, none⟩ = some (.int .i64 c.cSeqs)) := x3.cell 9 _ rfl
      have m_x310 : Hid (w13.cell? ⟨D3, 10, none⟩ = some (.bool false)) := x3.cell 10 _ rfl
      have m_x311 : Hid (w13.cell? ⟨D3, 11, none⟩ = some (.int .i64 0)) := x3.cell 11 _ rfl
      have m_x312 : Hid (w13.cell? ⟨D3, 12, none⟩ = some (.int .i64 R1)) := x3.cell 12 _ rfl
      have m_x313 : Hid (w13.cell? ⟨D3, 13, none⟩ = some (.int .i64 B1)) := x3.cell 13 _ rfl
      have m_x314 : Hid (w13.cell? ⟨D3, 14, none⟩ = some (.int .i64 N1)) := x3.cell 14 _ rfl
      have m_x315 : Hid (w13.cell? ⟨D3, 15, none⟩ = some (.int .i64 T1)) := x3.cell 15 _ rfl
      have m_x316 : Hid (w13.cell? ⟨D3, 16, none⟩ = some (.int .i64 T)) := x3.cell 16 _ rfl
      have m_x317 : Hid (w13.cell? ⟨D3, 17, none⟩ = some (.slice fa3 0 fc3)) := x3.cell 17 _ rfl
      have m_x318 : Hid (w13.cell? ⟨D3, 18, none⟩ = some (.slice va3 0 vc3)) := x3.cell 18 _ rfl
      have hl_xS : D < nq1 := hnq1 ▸ xS.lt
      have m_xS0 : Hid (w13.cell? ⟨D, 0, none⟩ = some (.int .i64 c.cB)) := xS.cell 0 _ rfl
      have m_xS1 : Hid (w13.cell? ⟨D, 1, none⟩ = some (.int .i64 c.cBeam)) := xS.cell 1 _ rfl
      have m_xS2 : Hid (w13.cell? ⟨D, 2, none⟩ = some (.int .i64 c.cDepth)) := xS.cell 2 _ rfl
      have m_xS3 : Hid (w13.cell? ⟨D, 3, none⟩ = some (.int .i64 c.cWin)) := xS.cell 3 _ rfl
      have m_xS4 : Hid (w13.cell? ⟨D, 4, none⟩ = some (.int .i64 c.cQs)) := xS.cell 4 _ rfl
      have m_xS5 : Hid (w13.cell? ⟨D, 5, none⟩ = some (.int .i64 c.cQr)) := xS.cell 5 _ rfl
      have m_xS6 : Hid (w13.cell? ⟨D, 6, none⟩ = some (.int .i64 c.cBatch)) := xS.cell 6 _ rfl
      have m_xS7 : Hid (w13.cell? ⟨D, 7, none⟩ = some (.int .i64 c.cPass)) := xS.cell 7 _ rfl
      have m_xS8 : Hid (w13.cell? ⟨D, 8, none⟩ = some (.int .i64 c.cMsg)) := xS.cell 8 _ rfl
      have m_xS9 : Hid (w13.cell? ⟨D, 9, none⟩ = some (.int .i64 c.cSeqs)) := xS.cell 9 _ rfl
      have m_xS10 : Hid (w13.cell? ⟨D, 10, none⟩ = some (.bool false)) := xS.cell 10 _ rfl
      have m_xS11 : Hid (w13.cell? ⟨D, 11, none⟩ = some (.int .i64 0)) := xS.cell 11 _ rfl
      have m_xS12 : Hid (w13.cell? ⟨D, 12, none⟩ = some (.int .i64 R)) := xS.cell 12 _ rfl
      have m_xS13 : Hid (w13.cell? ⟨D, 13, none⟩ = some (.int .i64 B)) := xS.cell 13 _ rfl
      have m_xS14 : Hid (w13.cell? ⟨D, 14, none⟩ = some (.int .i64 N)) := xS.cell 14 _ rfl
      have m_xS15 : Hid (w13.cell? ⟨D, 15, none⟩ = some (.int .i64 T)) := xS.cell 15 _ rfl
      have m_xS16 : Hid (w13.cell? ⟨D, 16, none⟩ = some (.int .i64 F)) := xS.cell 16 _ rfl
      have m_xS17 : Hid (w13.cell? ⟨D, 17, none⟩ = some (.slice ea E ec)) := xS.cell 17 _ rfl
      have m_xS18 : Hid (w13.cell? ⟨D, 18, none⟩ = some (.slice wa M wc)) := xS.cell 18 _ rfl
      have HKS : Hid (∀ wx : World, Below nq1 w13 wx → Calls Tryd.prog 21 #[.agg #[.int .i64 c.cB, .int .i64 c.cBeam, .int .i64 c.cDepth, .int .i64 c.cWin, .int .i64 c.cQs, .int .i64 c.cQr, .int .i64 c.cBatch, .int .i64 c.cPass, .int .i64 c.cMsg, .int .i64 c.cSeqs, .bool false, .int .i64 0, .int .i64 R1, .int .i64 B1, .int .i64 N1, .int .i64 T1, .int .i64 T, .slice fa1 0 fc1, .slice va1 0 vc1], .agg #[.int .i64 c.cB, .int .i64 c.cBeam, .int .i64 c.cDepth, .int .i64 c.cWin, .int .i64 c.cQs, .int .i64 c.cQr, .int .i64 c.cBatch, .int .i64 c.cPass, .int .i64 c.cMsg, .int .i64 c.cSeqs, .bool false, .int .i64 0, .int .i64 R1, .int .i64 B1, .int .i64 N1, .int .i64 T1, .int .i64 T, .slice fa3 0 fc3, .slice va3 0 vc3]] wx fun e w' => e = .returned (.bool true) ∧ Below nq1 w13 w') := fun wx hx => (keepSender_same HW1.out.is HW1.out.fewE (by omega) (fun e he => by have := HW1.out.bytes e he; omega) fa1 fc1 va1 vc1 fa3 fc3 va3 vc3 wx (HW1.out.next (hnq1 ▸ hx)).lies.at (HW3.out.next (hnq1 ▸ hx)).lies.at).mono fun e w' ⟨h, b⟩ => ⟨h, hx.trans (b.mono (hnq1 ▸ hx.size))⟩
      have HCO : Hid (∀ wx : World, Below nq1 w13 wx → Calls Tryd.prog 11 #[.agg #[.int .i64 c.cB, .int .i64 c.cBeam, .int .i64 c.cDepth, .int .i64 c.cWin, .int .i64 c.cQs, .int .i64 c.cQr, .int .i64 c.cBatch, .int .i64 c.cPass, .int .i64 c.cMsg, .int .i64 c.cSeqs, .bool false, .int .i64 0, .int .i64 R1, .int .i64 B1, .int .i64 N1, .int .i64 T1, .int .i64 T, .slice fa1 0 fc1, .slice va1 0 vc1]] wx fun e w' => e = .returned (.int .i64 N1) ∧ Below nq1 w13 w') := fun wx hx => by
        have h := sendConfirmed_law (HW1.out.next (hnq1 ▸ hx)) hm9
        rw [wN1] at h
        exact h.mono fun e w' ⟨h, b⟩ => ⟨h, hx.trans (b.mono (hnq1 ▸ hx.size))⟩
      skip
      go_cut [129] (fun v0 wx => v0 = .bool false ∧ Below nq1 w13 wx)
      case first =>
        as_aux_lemma =>
          refine wp_region_held_drew (S := fun w' => Below nq1 w13 w') (by kernel_rfl) (below_drewJ hnq1) (fun hHeld => ?_)
          refine held_take (i := 0) (d := 90) (v := ?v1) rfl rfl (by kernel_rfl) (by kernel_rfl) (by kernel_rfl) (fun _ _ _ h => h) (Or.inl ⟨by kernel_rfl, ?hy1⟩) hHeld ?rest1
          case hy1 =>
            intro wx hSw
            clear hSw
            go_simp
            with_reducible rfl
          simp only [List.setIfInBounds_toArray, List.set_cons_zero, List.set_cons_succ]
          refine held_take (i := 1) (d := 91) (v := ?v2) rfl rfl (by kernel_rfl) (by kernel_rfl) (by kernel_rfl) (fun _ _ _ h => h) (Or.inl ⟨by kernel_rfl, ?hy2⟩) hHeld ?rest2
          case hy2 =>
            intro wx hSw
            clear hSw
            go_simp
            with_reducible rfl
          simp only [List.setIfInBounds_toArray, List.set_cons_zero, List.set_cons_succ]
          refine held_take (i := 2) (d := 92) (v := ?v3) rfl rfl (by kernel_rfl) (by kernel_rfl) (by kernel_rfl) (fun _ _ _ h => h) (Or.inl ⟨by kernel_rfl, ?hy3⟩) hHeld ?rest3
          case hy3 =>
            intro wx hSw
            clear hSw
            go_simp
            with_reducible rfl
          simp only [List.setIfInBounds_toArray, List.set_cons_zero, List.set_cons_succ]
          refine held_take (i := 3) (d := 93) (v := ?v4) rfl rfl (by kernel_rfl) (by kernel_rfl) (by kernel_rfl) (fun _ _ _ h => h) (Or.inl ⟨by kernel_rfl, ?hy4⟩) hHeld ?rest4
          case hy4 =>
            intro wx hSw
            clear hSw
            go_simp
            with_reducible rfl
          simp only [List.setIfInBounds_toArray, List.set_cons_zero, List.set_cons_succ]
          refine held_take (i := 4) (d := 94) (v := ?v5) rfl rfl (by kernel_rfl) (by kernel_rfl) (by kernel_rfl) (fun _ _ _ h => h) (Or.inl ⟨by kernel_rfl, ?hy5⟩) hHeld ?rest5
          case hy5 =>
            intro wx hSw
            clear hSw
            go_simp
            with_reducible rfl
          simp only [List.setIfInBounds_toArray, List.set_cons_zero, List.set_cons_succ]
          refine held_take (i := 5) (d := 95) (v := ?v6) rfl rfl (by kernel_rfl) (by kernel_rfl) (by kernel_rfl) (fun _ _ _ h => h) (Or.inl ⟨by kernel_rfl, ?hy6⟩) hHeld ?rest6
          case hy6 =>
            intro wx hSw
            clear hSw
            go_simp
            with_reducible rfl
          simp only [List.setIfInBounds_toArray, List.set_cons_zero, List.set_cons_succ]
          refine held_take (i := 6) (d := 96) (v := ?v7) rfl rfl (by kernel_rfl) (by kernel_rfl) (by kernel_rfl) (fun _ _ _ h => h) (Or.inl ⟨by kernel_rfl, ?hy7⟩) hHeld ?rest7
          case hy7 =>
            intro wx hSw
            clear hSw
            go_simp
            with_reducible rfl
          simp only [List.setIfInBounds_toArray, List.set_cons_zero, List.set_cons_succ]
          refine held_take (i := 7) (d := 97) (v := ?v8) rfl rfl (by kernel_rfl) (by kernel_rfl) (by kernel_rfl) (fun _ _ _ h => h) (Or.inl ⟨by kernel_rfl, ?hy8⟩) hHeld ?rest8
          case hy8 =>
            intro wx hSw
            clear hSw
            go_simp
            with_reducible rfl
          simp only [List.setIfInBounds_toArray, List.set_cons_zero, List.set_cons_succ]
          refine held_take (i := 8) (d := 98) (v := ?v9) rfl rfl (by kernel_rfl) (by kernel_rfl) (by kernel_rfl) (fun _ _ _ h => h) (Or.inl ⟨by kernel_rfl, ?hy9⟩) hHeld ?rest9
          case hy9 =>
            intro wx hSw
            clear hSw
            go_simp
            with_reducible rfl
          simp only [List.setIfInBounds_toArray, List.set_cons_zero, List.set_cons_succ]
          refine held_take (i := 9) (d := 99) (v := ?v10) rfl rfl (by kernel_rfl) (by kernel_rfl) (by kernel_rfl) (fun _ _ _ h => h) (Or.inl ⟨by kernel_rfl, ?hy10⟩) hHeld ?rest10
          case hy10 =>
            intro wx hSw
            clear hSw
            go_simp
            with_reducible rfl
          simp only [List.setIfInBounds_toArray, List.set_cons_zero, List.set_cons_succ]
          refine held_take (i := 10) (d := 100) (v := ?v11) rfl rfl (by kernel_rfl) (by kernel_rfl) (by kernel_rfl) (fun _ _ _ h => h) (Or.inl ⟨by kernel_rfl, ?hy11⟩) hHeld ?rest11
          case hy11 =>
            intro wx hSw
            clear hSw
            go_simp
            with_reducible rfl
          simp only [List.setIfInBounds_toArray, List.set_cons_zero, List.set_cons_succ]
          refine held_take (i := 11) (d := 101) (v := ?v12) rfl rfl (by kernel_rfl) (by kernel_rfl) (by kernel_rfl) (fun _ _ _ h => h) (Or.inl ⟨by kernel_rfl, ?hy12⟩) hHeld ?rest12
          case hy12 =>
            refine yields_box 30 ?yx12 ?yo12 ?yh12 _ (fun wx hSw => x1.below hSw hl_x1) Tryd.underlying30 rfl (by kernel_rfl)
            case yo12 => rfl
            case yh12 => rfl
          simp only [List.setIfInBounds_toArray, List.set_cons_zero, List.set_cons_succ]
          refine held_take (i := 12) (d := 102) (v := ?v13) rfl rfl (by kernel_rfl) (by kernel_rfl) (by kernel_rfl) (fun _ _ _ h => h) (Or.inl ⟨by kernel_rfl, ?hy13⟩) hHeld ?rest13
          case hy13 =>
            refine yields_box 30 ?yx13 ?yo13 ?yh13 _ (fun wx hSw => x3.below hSw hl_x3) Tryd.underlying30 rfl (by kernel_rfl)
            case yo13 => rfl
            case yh13 => rfl
          simp only [List.setIfInBounds_toArray, List.set_cons_zero, List.set_cons_succ]
          refine wpAnyH_ready (rs := [13]) (by kernel_rfl) (by simp) ?_
          refine AllReadyH.cons rfl (fun K hK => ?_) AllReadyH.nil
          go_simp
          go_wp2_with (go_at_call 21; refine (HKS.out _ (by exact hHeld)).mono ?_; rintro e wb ⟨rfl, b8⟩)
          refine hK.out _ _ (b8) (fun hHeld => ?_)
          clear hK K
          refine held_take (i := 14) (d := 104) (v := ?v14) rfl rfl (by kernel_rfl) (by kernel_rfl) (by kernel_rfl) (fun _ _ _ h => h) (Or.inl ⟨by kernel_rfl, ?hy14⟩) hHeld ?rest14
          case hy14 =>
            intro wx hSw
            clear hSw
            go_simp
            with_reducible rfl
          simp only [List.setIfInBounds_toArray, List.set_cons_zero, List.set_cons_succ]
          refine held_take (i := 15) (d := 105) (v := ?v15) rfl rfl (by kernel_rfl) (by kernel_rfl) (by kernel_rfl) (fun _ _ _ h => h) (Or.inl ⟨by kernel_rfl, ?hy15⟩) hHeld ?rest15
          case hy15 =>
            intro wx hSw
            clear hSw
            go_simp
            with_reducible rfl
          simp only [List.setIfInBounds_toArray, List.set_cons_zero, List.set_cons_succ]
          refine held_take (i := 16) (d := 106) (v := ?v16) rfl rfl (by kernel_rfl) (by kernel_rfl) (by kernel_rfl) (fun _ _ _ h => h) (Or.inl ⟨by kernel_rfl, ?hy16⟩) hHeld ?rest16
          case hy16 =>
            intro wx hSw
            clear hSw
            go_simp
            with_reducible rfl
          simp only [List.setIfInBounds_toArray, List.set_cons_zero, List.set_cons_succ]
          refine held_take (i := 17) (d := 107) (v := ?v17) rfl rfl (by kernel_rfl) (by kernel_rfl) (by kernel_rfl) (fun _ _ _ h => h) (Or.inl ⟨by kernel_rfl, ?hy17⟩) hHeld ?rest17
          case hy17 =>
            intro wx hSw
            clear hSw
            go_simp
            with_reducible rfl
          simp only [List.setIfInBounds_toArray, List.set_cons_zero, List.set_cons_succ]
          refine held_take (i := 18) (d := 108) (v := ?v18) rfl rfl (by kernel_rfl) (by kernel_rfl) (by kernel_rfl) (fun _ _ _ h => h) (Or.inl ⟨by kernel_rfl, ?hy18⟩) hHeld ?rest18
          case hy18 =>
            intro wx hSw
            have q0 := (hSw.cell (p := ⟨D1, 18, none⟩) hl_x1).trans m_x118.out
            clear hSw
            go_simp
            with_reducible rfl
          simp only [List.setIfInBounds_toArray, List.set_cons_zero, List.set_cons_succ]
          refine held_take (i := 19) (d := 109) (v := ?v19) rfl rfl (by kernel_rfl) (by kernel_rfl) (by kernel_rfl) (fun _ _ _ h => h) (Or.inl ⟨by kernel_rfl, ?hy19⟩) hHeld ?rest19
          case hy19 =>
            intro wx hSw
            clear hSw
            go_simp
            with_reducible rfl
          simp only [List.setIfInBounds_toArray, List.set_cons_zero, List.set_cons_succ]
          refine held_take (i := 20) (d := 110) (v := ?v20) rfl rfl (by kernel_rfl) (by kernel_rfl) (by kernel_rfl) (fun _ _ _ h => h) (Or.inl ⟨by kernel_rfl, ?hy20⟩) hHeld ?rest20
          case hy20 =>
            intro wx hSw
            clear hSw
            go_simp
            with_reducible rfl
          simp only [List.setIfInBounds_toArray, List.set_cons_zero, List.set_cons_succ]
          refine held_take (i := 21) (d := 111) (v := ?v21) rfl rfl (by kernel_rfl) (by kernel_rfl) (by kernel_rfl) (fun _ _ _ h => h) (Or.inl ⟨by kernel_rfl, ?hy21⟩) hHeld ?rest21
          case hy21 =>
            intro wx hSw
            have q0 := (hSw.cell (p := ⟨D1, 17, none⟩) hl_x1).trans m_x117.out
            clear hSw
            go_simp
            with_reducible rfl
          simp only [List.setIfInBounds_toArray, List.set_cons_zero, List.set_cons_succ]
          refine held_take (i := 22) (d := 112) (v := ?v22) rfl rfl (by kernel_rfl) (by kernel_rfl) (by kernel_rfl) (fun _ _ _ h => h) (Or.inl ⟨by kernel_rfl, ?hy22⟩) hHeld ?rest22
          case hy22 =>
            intro wx hSw
            clear hSw
            go_simp
            with_reducible rfl
          simp only [List.setIfInBounds_toArray, List.set_cons_zero, List.set_cons_succ]
          refine held_take (i := 23) (d := 113) (v := ?v23) rfl rfl (by kernel_rfl) (by kernel_rfl) (by kernel_rfl) (fun _ _ _ h => h) (Or.inl ⟨by kernel_rfl, ?hy23⟩) hHeld ?rest23
          case hy23 =>
            intro wx hSw
            clear hSw
            go_simp
            with_reducible rfl
          simp only [List.setIfInBounds_toArray, List.set_cons_zero, List.set_cons_succ]
          refine held_take (i := 24) (d := 114) (v := ?v24) rfl rfl (by kernel_rfl) (by kernel_rfl) (by kernel_rfl) (fun _ _ _ h => h) (Or.inl ⟨by kernel_rfl, ?hy24⟩) hHeld ?rest24
          case hy24 =>
            intro wx hSw
            clear hSw
            go_simp
            with_reducible rfl
          simp only [List.setIfInBounds_toArray, List.set_cons_zero, List.set_cons_succ]
          refine held_take (i := 25) (d := 115) (v := ?v25) rfl rfl (by kernel_rfl) (by kernel_rfl) (by kernel_rfl) (fun _ _ _ h => h) (Or.inl ⟨by kernel_rfl, ?hy25⟩) hHeld ?rest25
          case hy25 =>
            intro wx hSw
            clear hSw
            go_simp
            with_reducible rfl
          simp only [List.setIfInBounds_toArray, List.set_cons_zero, List.set_cons_succ]
          refine held_take (i := 26) (d := 116) (v := ?v26) rfl rfl (by kernel_rfl) (by kernel_rfl) (by kernel_rfl) (fun _ _ _ h => h) (Or.inl ⟨by kernel_rfl, ?hy26⟩) hHeld ?rest26
          case hy26 =>
            intro wx hSw
            clear hSw
            go_simp
            with_reducible rfl
          simp only [List.setIfInBounds_toArray, List.set_cons_zero, List.set_cons_succ]
          refine held_take (i := 27) (d := 117) (v := ?v27) rfl rfl (by kernel_rfl) (by kernel_rfl) (by kernel_rfl) (fun _ _ _ h => h) (Or.inl ⟨by kernel_rfl, ?hy27⟩) hHeld ?rest27
          case hy27 =>
            refine yields_box 30 ?yx27 ?yo27 ?yh27 _ (fun wx hSw => x1.below hSw hl_x1) Tryd.underlying30 rfl (by kernel_rfl)
            case yo27 => rfl
            case yh27 => rfl
          simp only [List.setIfInBounds_toArray, List.set_cons_zero, List.set_cons_succ]
          refine held_take (i := 29) (d := 119) (v := ?v28) rfl rfl (by kernel_rfl) (by kernel_rfl) (by kernel_rfl) (fun _ _ _ h => h) (Or.inl ⟨by kernel_rfl, ?hy28⟩) hHeld ?rest28
          case hy28 =>
            intro wx hSw
            clear hSw
            go_simp
            with_reducible rfl
          simp only [List.setIfInBounds_toArray, List.set_cons_zero, List.set_cons_succ]
          refine held_take (i := 30) (d := 120) (v := ?v29) rfl rfl (by kernel_rfl) (by kernel_rfl) (by kernel_rfl) (fun _ _ _ h => h) (Or.inl ⟨by kernel_rfl, ?hy29⟩) hHeld ?rest29
          case hy29 =>
            intro wx hSw
            have q0 := (hSw.cell (p := ⟨D1, 14, none⟩) hl_x1).trans m_x114.out
            clear hSw
            go_simp
            with_reducible rfl
          simp only [List.setIfInBounds_toArray, List.set_cons_zero, List.set_cons_succ]
          refine wpAnyH_ready (rs := [28]) (by kernel_rfl) (by simp) ?_
          refine AllReadyH.cons rfl (fun K hK => ?_) AllReadyH.nil
          go_simp
          go_wp2_with (go_at_call 11; refine (HCO.out _ (by exact hHeld)).mono ?_; rintro e wb ⟨rfl, b8⟩)
          refine hK.out _ _ (b8) (fun hHeld => ?_)
          clear hK K
          refine held_take (i := 31) (d := 121) (v := ?v30) rfl rfl (by kernel_rfl) (by kernel_rfl) (by kernel_rfl) (fun _ _ _ h => h) (Or.inl ⟨by kernel_rfl, ?hy30⟩) hHeld ?rest30
          case hy30 =>
            intro wx hSw
            clear hSw
            go_simp
            with_reducible rfl
          simp only [List.setIfInBounds_toArray, List.set_cons_zero, List.set_cons_succ]
          refine held_take (i := 32) (d := 122) (v := ?v31) rfl rfl (by kernel_rfl) (by kernel_rfl) (by kernel_rfl) (fun _ _ _ h => h) (Or.inl ⟨by kernel_rfl, ?hy31⟩) hHeld ?rest31
          case hy31 =>
            intro wx hSw
            clear hSw
            go_simp
            with_reducible rfl
          simp only [List.setIfInBounds_toArray, List.set_cons_zero, List.set_cons_succ]
          refine held_take (i := 33) (d := 123) (v := ?v32) rfl rfl (by kernel_rfl) (by kernel_rfl) (by kernel_rfl) (fun _ _ _ h => h) (Or.inl ⟨by kernel_rfl, ?hy32⟩) hHeld ?rest32
          case hy32 =>
            intro wx hSw
            clear hSw
            go_simp
            with_reducible rfl
          simp only [List.setIfInBounds_toArray, List.set_cons_zero, List.set_cons_succ]
          refine held_take (i := 34) (d := 124) (v := ?v33) rfl rfl (by kernel_rfl) (by kernel_rfl) (by kernel_rfl) (fun _ _ _ h => h) (Or.inl ⟨by kernel_rfl, ?hy33⟩) hHeld ?rest33
          case hy33 =>
            intro wx hSw
            clear hSw
            go_simp
            with_reducible rfl
          simp only [List.setIfInBounds_toArray, List.set_cons_zero, List.set_cons_succ]
          refine held_take (i := 35) (d := 125) (v := ?v34) rfl rfl (by kernel_rfl) (by kernel_rfl) (by kernel_rfl) (fun _ _ _ h => h) (Or.inl ⟨by kernel_rfl, ?hy34⟩) hHeld ?rest34
          case hy34 =>
            intro wx hSw
            have q0 := (hSw.cell (p := ⟨D1, 16, none⟩) hl_x1).trans m_x116.out
            clear hSw
            go_simp
            with_reducible rfl
          simp only [List.setIfInBounds_toArray, List.set_cons_zero, List.set_cons_succ]
          refine held_take (i := 36) (d := 126) (v := ?v35) rfl rfl (by kernel_rfl) (by kernel_rfl) (by kernel_rfl) (fun _ _ _ h => h) (Or.inl ⟨by kernel_rfl, ?hy35⟩) hHeld ?rest35
          case hy35 =>
            intro wx hSw
            clear hSw
            go_simp
            with_reducible rfl
          simp only [List.setIfInBounds_toArray, List.set_cons_zero, List.set_cons_succ]
          refine held_take (i := 37) (d := 127) (v := ?v36) rfl rfl (by kernel_rfl) (by kernel_rfl) (by kernel_rfl) (fun _ _ _ h => h) (Or.inl ⟨by kernel_rfl, ?hy36⟩) hHeld ?rest36
          case hy36 =>
            intro wx hSw
            have q0 := (hSw.cell (p := ⟨D, 15, none⟩) hl_xS).trans m_xS15.out
            clear hSw
            go_simp
            with_reducible rfl
          simp only [List.setIfInBounds_toArray, List.set_cons_zero, List.set_cons_succ]
          refine held_take (i := 38) (d := 128) (v := ?v37) rfl rfl (by kernel_rfl) (by kernel_rfl) (by kernel_rfl) (fun _ _ _ h => h) (Or.inl ⟨by kernel_rfl, ?hy37⟩) hHeld ?rest37
          case hy37 =>
            intro wx hSw
            clear hSw
            go_simp
            with_reducible rfl
          simp only [List.setIfInBounds_toArray, List.set_cons_zero, List.set_cons_succ]
          refine wpAnyH_ready (rs := [39]) (by kernel_rfl) (by simp) ?_
          refine AllReadyH.cons rfl (fun K hK => ?_) AllReadyH.nil
          go_simp
          refine hK.out _ _ hHeld (fun hHeld => ?_)
          clear hK K
          refine wpAnyH_done (by kernel_rfl) ?_ _
          go_wp2_with fail
          go_meet
          exact ⟨rfl, hHeld⟩
      case rest =>
        as_aux_lemma =>
          obtain ⟨rfl, b9⟩ := hcut
          replace b9 : Below w13.heap.size w13 wc := hnq1 ▸ b9
          generalize hwc : wc = w14 at *
          clear hwc hnq1 hl_x1 m_x10 m_x11 m_x12 m_x13 m_x14 m_x15 m_x16 m_x17 m_x18 m_x19 m_x110 m_x111 m_x112 m_x113 m_x114 m_x115 m_x116 m_x117 m_x118 hl_x3 m_x30 m_x31 m_x32 m_x33 m_x34 m_x35 m_x36 m_x37 m_x38 m_x39 m_x310 m_x311 m_x312 m_x313 m_x314 m_x315 m_x316 m_x317 m_x318 hl_xS m_xS0 m_xS1 m_xS2 m_xS3 m_xS4 m_xS5 m_xS6 m_xS7 m_xS8 m_xS9 m_xS10 m_xS11 m_xS12 m_xS13 m_xS14 m_xS15 m_xS16 m_xS17 m_xS18 HKS HCO 
          replace xS := xS.next b9
          replace x1 := x1.next b9
          replace x3 := x3.next b9
          replace HSW := HSW.next b9
          replace sw1 := sw1.next b9
          replace sw3 := sw3.next b9
          replace hO7 := hO7.next b9
          replace hO8 := hO8.next b9
          replace bb := bb.trans (b9.mono bb.size)
          clear b9
          clear HW1 HW3 wN1 x3 sw3 hO7
          have H9 := sendTick_law sw1 hm9 (HF0.out.next bb)
          go_wp2_with (first | (refine wpList_load_box x1 rfl 30 _ rfl rfl _ Tryd.underlying30 rfl (by kernel_rfl) ?_))
          refine H9.mono ?_
          rintro e w15 ⟨fa4, fc4, va4, vc4, pa, pn, pc, r, q, rfl, hE, hS, b9⟩
          obtain rfl : 0 = pn := by
            rw [← hE.out.packs.2, tick_none rfl]
            rfl
          replace xS := xS.next b9
          replace x1 := x1.next b9
          replace HSW := HSW.next b9
          replace sw1 := sw1.next b9
          replace hO8 := hO8.next b9
          replace bb := bb.trans (b9.mono bb.size)
          clear b9 H9 hE
          have bA : Below w15.heap.size w15 (w15.alloc (.cells #[.int .i64 0, .int .i64 0, .int .i64 0, .int .i64 0, .int .i64 0, .int .i64 0, .int .i64 0, .int .i64 0, .int .i64 0, .int .i64 0, .bool false, .int .i64 0, .int .i64 0, .int .i64 0, .int .i64 0, .int .i64 0, .int .i64 0, .slice none 0 0, .slice none 0 0] 30)) := (Below.refl _ _).alloc (Nat.le_refl _) _
          have x4 := Box.new w15 30 #[.int .i64 0, .int .i64 0, .int .i64 0, .int .i64 0, .int .i64 0, .int .i64 0, .int .i64 0, .int .i64 0, .int .i64 0, .int .i64 0, .bool false, .int .i64 0, .int .i64 0, .int .i64 0, .int .i64 0, .int .i64 0, .int .i64 0, .slice none 0 0, .slice none 0 0]
          go_upto_region 23 with (first | (refine wpList_store_box x4 rfl 30 _ _ rfl rfl rfl rfl (by kernel_rfl) (by simp [Value.oneCell']) ?_))
          have bB := below_setRow bA (Nat.le_refl _) #[.int .i64 c.cB, .int .i64 c.cBeam, .int .i64 c.cDepth, .int .i64 c.cWin, .int .i64 c.cQs, .int .i64 c.cQr, .int .i64 c.cBatch, .int .i64 c.cPass, .int .i64 c.cMsg, .int .i64 c.cSeqs, .bool false, .int .i64 (satN 0 1), .int .i64 R1, .int .i64 B1, .int .i64 N1, .int .i64 T1, .int .i64 T, .slice fa4 0 fc4, .slice va4 0 vc4]
          replace x4 := x4.setRow #[.int .i64 c.cB, .int .i64 c.cBeam, .int .i64 c.cDepth, .int .i64 c.cWin, .int .i64 c.cQs, .int .i64 c.cQr, .int .i64 c.cBatch, .int .i64 c.cPass, .int .i64 c.cMsg, .int .i64 c.cSeqs, .bool false, .int .i64 (satN 0 1), .int .i64 R1, .int .i64 B1, .int .i64 N1, .int .i64 T1, .int .i64 T, .slice fa4 0 fc4, .slice va4 0 vc4]
          replace xS := xS.next bB
          replace x1 := x1.next bB
          replace HSW := HSW.next bB
          replace sw1 := sw1.next bB
          replace hO8 := hO8.next bB
          replace bb := bb.trans (bB.mono bb.size)
          obtain ⟨D4, hD4⟩ : ∃ D, w15.heap.size = D := ⟨_, rfl⟩
          rw [hD4] at x4 bb xS x1 HSW sw1 hO8 ⊢
          clear bA bB hD4 hS
          generalize (w15.alloc (.cells #[.int .i64 0, .int .i64 0, .int .i64 0, .int .i64 0, .int .i64 0, .int .i64 0, .int .i64 0, .int .i64 0, .int .i64 0, .int .i64 0, .bool false, .int .i64 0, .int .i64 0, .int .i64 0, .int .i64 0, .int .i64 0, .int .i64 0, .slice none 0 0, .slice none 0 0] 30)).setRow D4 #[.int .i64 c.cB, .int .i64 c.cBeam, .int .i64 c.cDepth, .int .i64 c.cWin, .int .i64 c.cQs, .int .i64 c.cQr, .int .i64 c.cBatch, .int .i64 c.cPass, .int .i64 c.cMsg, .int .i64 c.cSeqs, .bool false, .int .i64 (satN 0 1), .int .i64 R1, .int .i64 B1, .int .i64 N1, .int .i64 T1, .int .i64 T, .slice fa4 0 fc4, .slice va4 0 vc4] = w16 at *
          go_wp2_with (first | (refine wpList_load_box x1 rfl 30 _ rfl rfl _ Tryd.underlying30 rfl (by kernel_rfl) ?_))
          refine (sendLearn_law sw1 hm9 ra 13 rc (packA 0 first) (packA_len _ _) (by omega) hcr (packA_bd _ _) hO8.out).mono ?_
          rintro e w17 ⟨R5, B5, N5, T5, F5, E5, M5, fa5, fc5, va5, vc5, rfl, hS, b9⟩
          replace xS := xS.next b9
          replace x1 := x1.next b9
          replace x4 := x4.next b9
          replace HSW := HSW.next b9
          replace sw1 := sw1.next b9
          replace bb := bb.trans (b9.mono bb.size)
          clear b9
          have bA : Below w17.heap.size w17 (w17.alloc (.cells #[.int .i64 0, .int .i64 0, .int .i64 0, .int .i64 0, .int .i64 0, .int .i64 0, .int .i64 0, .int .i64 0, .int .i64 0, .int .i64 0, .bool false, .int .i64 0, .int .i64 0, .int .i64 0, .int .i64 0, .int .i64 0, .int .i64 0, .slice none 0 0, .slice none 0 0] 30)) := (Below.refl _ _).alloc (Nat.le_refl _) _
          have x5 := Box.new w17 30 #[.int .i64 0, .int .i64 0, .int .i64 0, .int .i64 0, .int .i64 0, .int .i64 0, .int .i64 0, .int .i64 0, .int .i64 0, .int .i64 0, .bool false, .int .i64 0, .int .i64 0, .int .i64 0, .int .i64 0, .int .i64 0, .int .i64 0, .slice none 0 0, .slice none 0 0]
          go_upto_region 24 with (first | (refine wpList_store_box x5 rfl 30 _ _ rfl rfl rfl rfl (by kernel_rfl) (by simp [Value.oneCell']) ?_))
          have bB := below_setRow bA (Nat.le_refl _) #[.int .i64 c.cB, .int .i64 c.cBeam, .int .i64 c.cDepth, .int .i64 c.cWin, .int .i64 c.cQs, .int .i64 c.cQr, .int .i64 c.cBatch, .int .i64 c.cPass, .int .i64 c.cMsg, .int .i64 c.cSeqs, .bool false, .int .i64 0, .int .i64 R5, .int .i64 B5, .int .i64 N5, .int .i64 T5, .int .i64 F5, .slice fa5 E5 fc5, .slice va5 M5 vc5]
          replace x5 := x5.setRow #[.int .i64 c.cB, .int .i64 c.cBeam, .int .i64 c.cDepth, .int .i64 c.cWin, .int .i64 c.cQs, .int .i64 c.cQr, .int .i64 c.cBatch, .int .i64 c.cPass, .int .i64 c.cMsg, .int .i64 c.cSeqs, .bool false, .int .i64 0, .int .i64 R5, .int .i64 B5, .int .i64 N5, .int .i64 T5, .int .i64 F5, .slice fa5 E5 fc5, .slice va5 M5 vc5]
          replace xS := xS.next bB
          replace x1 := x1.next bB
          replace x4 := x4.next bB
          replace HSW := HSW.next bB
          replace sw1 := sw1.next bB
          have sw5 := (hS.out.next bB).lower (base' := 0) (Nat.zero_le _)
          replace bb := bb.trans (bB.mono bb.size)
          obtain ⟨D5, hD5⟩ : ∃ D, w17.heap.size = D := ⟨_, rfl⟩
          rw [hD5] at x5 bb sw5 xS x1 x4 HSW sw1 ⊢
          clear bA bB hD5 hS
          generalize (w17.alloc (.cells #[.int .i64 0, .int .i64 0, .int .i64 0, .int .i64 0, .int .i64 0, .int .i64 0, .int .i64 0, .int .i64 0, .int .i64 0, .int .i64 0, .bool false, .int .i64 0, .int .i64 0, .int .i64 0, .int .i64 0, .int .i64 0, .int .i64 0, .slice none 0 0, .slice none 0 0] 30)).setRow D5 #[.int .i64 c.cB, .int .i64 c.cBeam, .int .i64 c.cDepth, .int .i64 c.cWin, .int .i64 c.cQs, .int .i64 c.cQr, .int .i64 c.cBatch, .int .i64 c.cPass, .int .i64 c.cMsg, .int .i64 c.cSeqs, .bool false, .int .i64 0, .int .i64 R5, .int .i64 B5, .int .i64 N5, .int .i64 T5, .int .i64 F5, .slice fa5 E5 fc5, .slice va5 M5 vc5] = w18 at *
          have c15 := xS.cell 15 _ rfl
          have lS := xS.lt
          have hok1 := sw1.ok
          by_cases hT0 : T = 0
          · have dT : (T == 0) = true := by rw [beq_iff_eq]; exact hT0
            have hh2 := learn_here_at hok1 hbits.1 hbits.2 hT0
            rw [hh2]
            clear hh2 hok1 hT0 sw1 sw5 HSW
            go_wp2_with fail
            refine (sendWakes_any _ (HF0.out.next bb)).mono ?_
            rintro e w99 ⟨rfl, b99⟩
            go_wp2
            go_ret
            exact ⟨rfl, bb.trans (b99.mono bb.size)⟩
          · have dT : (T == 0) = false := by rw [beq_eq_false_iff_ne]; exact hT0
            have hlt9 : (0 : Int) < T := by omega
            have hh := learn_old_at hok1 hbits.1 hbits.2 hlt9
            rw [hh.2] at sw5
            rw [hh.1]
            clear hh hok1 hT0 hlt9
            obtain rfl : R5 = R1 := (sw5.is.eR.symm.trans sw1.is.eR)
            obtain rfl : B5 = B1 := (sw5.is.eB.symm.trans sw1.is.eB)
            obtain rfl : N5 = N1 := (sw5.is.eN.symm.trans sw1.is.eN)
            obtain rfl : T5 = T1 := (sw5.is.eT.symm.trans sw1.is.eT)
            obtain rfl : F5 = T := (sw5.is.eF.symm.trans sw1.is.eF)
            obtain rfl : E5 = 0 := (sw5.is.lE.symm.trans sw1.is.lE)
            obtain rfl : M5 = 0 := (sw5.is.lW.symm.trans sw1.is.lW)
            have HKX := keepSender_same sw5.is sw5.fewE (by omega) (fun e he => by have := sw5.bytes e he; omega) fa5 fc5 va5 vc5 fa1 fc1 va1 vc1 _ sw5.lies.at sw1.lies.at
            have c416 := x4.cell 16 _ rfl
            have l4 := x4.lt
            have c116 := x1.cell 16 _ rfl
            have l1 := x1.lt
            clear sw1 sw5 HSW
            go_wp2_with (first | (refine wpList_load_boxg x5 rfl 30 _ rfl rfl _ Tryd.underlying30 rfl (by kernel_rfl) ?_) | (refine wpList_load_boxg x1 rfl 30 _ rfl rfl _ Tryd.underlying30 rfl (by kernel_rfl) ?_))
            refine HKX.mono ?_
            rintro e w19 ⟨rfl, b9⟩
            replace bb := bb.trans (b9.mono bb.size)
            clear HKX b9 x5 x1 x4 c416 l4 c116 l1 c15 lS xS
            go_wp2_with fail
            refine (sendWakes_any _ (HF0.out.next bb)).mono ?_
            rintro e w99 ⟨rfl, b99⟩
            go_wp2
            go_ret
            exact ⟨rfl, bb.trans (b99.mono bb.size)⟩

end Go.Proofs.YtkphjnbeakkejaaDoor
