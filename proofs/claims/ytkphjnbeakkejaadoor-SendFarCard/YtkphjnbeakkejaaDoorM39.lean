/-
  Lists of texts, as they lie and as arguments.
-/
import Derived.Test.YtkphjnbeakkejaaDoorM01
import Derived.Test.YtkphjnbeakkejaaDoorM26
import Derived.Test.YtkphjnbeakkejaaDoorM31
import Derived.Test.YtkphjnbeakkejaaDoorM35
import Derived.Test.YtkphjnbeakkejaaDoorM37
import Derived.Test.YtkphjnbeakkejaaDoorM38
import Derived.Deep.Slices
import Derived.OpenShut
import Derived.ProofKit
import Derived.WalkKit
namespace Go.Proofs.YtkphjnbeakkejaaDoor
open Go.RowKit

/-- The slice at a holds these texts, in a block below n₀. -/
def Texts (n₀ : Nat) (W : World) (a : Option Addr) (n : Nat) (l : List (List Int)) : Prop := l.length = n ∧ ∀ (j : Nat) (x : List Int), l[j]? = some x → ∃ b off xa xc, a = some ⟨b, off, none⟩ ∧ b < n₀ ∧ W.cell? ⟨b, off + j, none⟩ = some (.slice xa x.length xc) ∧ Holds .u8 n₀ W (.slice xa x.length xc) x ∧ x.length ≤ xc ∧ ∀ z ∈ x, 0 ≤ z ∧ z ≤ 255
theorem Texts.next {n₀ : Nat} {W W' : World} {a : Option Addr} {n : Nat} {l : List (List Int)} (h : Texts n₀ W a n l) (k : Below n₀ W W') : Texts n₀ W' a n l := by
  refine ⟨h.1, fun j x hj => ?_⟩
  obtain ⟨b, off, xa, xc, h0, h1, h2, h6, h7⟩ := h.2 j x hj
  exact ⟨b, off, xa, xc, h0, h1, (k.cell (p := ⟨b, off + j, none⟩) h1).trans h2, h6.below k, h7⟩
theorem cellsU8L : Tryd.prog.cellsOf 5 = 1 := by kernel_rfl
theorem cellsBytesL : Tryd.prog.cellsOf 25 = 1 := by kernel_rfl

/-- A text that came in, opened. -/
theorem text_of_trod {H : Type} {enc : TypeId × Value → H} {w : World} {base : Nat} {held : Bool} {fuel : Nat} {v : Value} {x : DataW H × List MemPlace}
    (h : DataW.trod enc Tryd.prog w base (fun _ => true) held fuel 25 [v] = some x) : ∃ a ys c, v = .slice a ys.length c ∧ Holds .u8 w.heap.size w v ys ∧ ys.length ≤ c ∧ ∀ z ∈ ys, 0 ≤ z ∧ z ≤ 255 := by
  rcases Go.ChangeShapes.open_ints Tryd.underlying25 Tryd.underlying5 cellsU8L h with ⟨hcs, _⟩ | ⟨x3, l3, c3', zs, hcs, _, hl3, hm3, hz, _, hcell3, hwz⟩
  · simp at hcs
    subst hcs
    exact ⟨_, [], _, rfl, .inl ⟨⟨_, _, rfl, fun _ => rfl⟩, rfl⟩, Nat.le_refl _, by simp⟩
  · simp at hcs
    subst hcs
    obtain ⟨ys, e, hy, hw⟩ := holds_of_isRow (kd := .u8) (w := w) (a := some x3) (len := l3) (cap := c3') (zs := zs) (.inr ⟨x3, rfl, hl3, hm3, by simpa using hz, hcell3, hwz⟩)
    subst e
    exact ⟨_, ys, _, rfl, hy, hl3, bytes_bd hw⟩

set_option maxRecDepth 100000 in
set_option maxHeartbeats 1000000 in
/-- A list of texts that came in, opened. -/
theorem texts_of_trod {H : Type} {enc : TypeId × Value → H} {w : World} {base : Nat} {held : Bool} {fuel : Nat} {a : Option Addr} {len cap : Nat} {x : DataW H × List MemPlace}
    (h : DataW.trod enc Tryd.prog w base (fun _ => true) held fuel 24 [.slice a len cap] = some x) : ∃ l, Texts w.heap.size w a len l := by
  rcases Go.Deep.open_slice Tryd.underlying24 h with ⟨hcs, _⟩ | ⟨ad, len', cap', m, n, D, Pl, hcs, _, hl, hc, hm, _, hx⟩
  · simp at hcs
    obtain ⟨rfl, rfl, rfl⟩ := hcs
    exact ⟨[], rfl, fun j x hj => by simp at hj⟩
  · simp at hcs
    obtain ⟨rfl, rfl, rfl⟩ := hcs
    have hlm : len ≤ m := by rw [hm]; split <;> omega
    have each : ∀ i, i < len → ∃ q : List Int × Option Addr × Nat, w.cell? (ad.add i) = some (.slice q.2.1 q.1.length q.2.2) ∧ Holds .u8 w.heap.size w (.slice q.2.1 q.1.length q.2.2) q.1 ∧ q.1.length ≤ q.2.2 ∧ ∀ z ∈ q.1, 0 ≤ z ∧ z ≤ 255 := by
      intro i hi
      obtain ⟨cs', h1, h2⟩ := hx i (by omega)
      rw [cellsBytesL] at h1
      obtain ⟨_, hlen, hcell⟩ := World.cells?_some h1
      match cs', hlen with
      | [v0], _ =>
        obtain ⟨a3, ys, c3, rfl, hy, h3, h5⟩ := text_of_trod h2
        have c0 := hcell 0 (by omega)
        simp at c0
        exact ⟨(ys, a3, c3), by simpa [Go.Deep.add_add] using c0, hy, h3, h5⟩
    by_cases h0 : len = 0
    · subst h0
      exact ⟨[], rfl, fun j x hj => by simp at hj⟩
    · haveI : Inhabited (List Int × Option Addr × Nat) := ⟨([], none, 0)⟩
      obtain ⟨q, hq⟩ := Go.Deep.choose_lt each
      obtain ⟨b, off, spot⟩ := ad
      have hspot : spot = none := by
        have := (hq 0 (by omega)).1
        simpa [Addr.add] using World.cell?_spot this
      subst hspot
      refine ⟨(List.range len).map fun i => (q i).1, by simp, fun j x hj => ?_⟩
      have hjl : j < len := by have := (List.getElem?_eq_some_iff.1 hj).1; simpa using this
      rw [List.getElem?_map, List.getElem?_range hjl] at hj
      simp at hj
      subst hj
      obtain ⟨g1, g2, g3, g5⟩ := hq j hjl
      rw [Go.WideShapes.add_plain] at g1
      exact ⟨b, off, (q j).2.1, (q j).2.2, rfl, by have := cell_block_lt g1; exact this, g1, g2, g3, g5⟩

end Go.Proofs.YtkphjnbeakkejaaDoor

/-
  The walk of SendFar. (Written by tpl_sendlaws.py.)
-/
namespace Go.Proofs.YtkphjnbeakkejaaDoor
open Go.RowKit

set_option maxRecDepth 100000 in
set_option maxHeartbeats 8000000 in
theorem sendFar_walk (cq : Cfg) (ba : Option Addr) (mt kc : Nat) (l : List (List Int)) (more : Int) (bits : Int) (hbits : 0 ≤ bits ∧ bits < 4294967296) (w : World) (hF : Firsts w) (hT : Texts w.heap.size w ba mt l) :
    Calls Tryd.prog 6 #[.agg #[.int .i64 cq.cB, .int .i64 cq.cBeam, .int .i64 cq.cDepth, .int .i64 cq.cWin, .int .i64 cq.cQs, .int .i64 cq.cQr, .int .i64 cq.cBatch, .int .i64 cq.cPass, .int .i64 cq.cMsg, .int .i64 cq.cSeqs], .slice ba mt kc, .int .i64 more, .int .u32 bits] w fun e w' => e = .returned (.bool true) ∧ Below w.heap.size w w' := by
  obtain ⟨q, hq, hq0, hq1⟩ := mod_u64 more 40 (by decide) (by decide)
  have bb : Below w.heap.size w (w.alloc (.cells #[.int .i64 cq.cB, .int .i64 cq.cBeam, .int .i64 cq.cDepth, .int .i64 cq.cWin, .int .i64 cq.cQs, .int .i64 cq.cQr, .int .i64 cq.cBatch, .int .i64 cq.cPass, .int .i64 cq.cMsg, .int .i64 cq.cSeqs] 23)) := (Below.refl _ _).alloc (Nat.le_refl _) _
  have xC := Box.new w 23 #[.int .i64 cq.cB, .int .i64 cq.cBeam, .int .i64 cq.cDepth, .int .i64 cq.cWin, .int .i64 cq.cQs, .int .i64 cq.cQr, .int .i64 cq.cBatch, .int .i64 cq.cPass, .int .i64 cq.cMsg, .int .i64 cq.cSeqs]
  have HT : Hid (Texts w.heap.size w ba mt l) := hT
  have HF0 : Hid (Firsts w) := hF
  clear hT hF
  go_enter Tryd.func6, Tryd.ntmps6
  go_wp2_with (first | (refine wpList_load_box xC rfl 23 _ rfl rfl _ Tryd.underlying23 rfl (by kernel_rfl) ?_))
  refine (small_any cq _).mono ?_
  rintro e w1 ⟨c, rfl, hSm, b9⟩
  replace xC := xC.next b9
  replace bb := bb.trans (b9.mono bb.size)
  clear b9
  go_upto_region 2 with (first | (refine wpList_store_box xC rfl 23 _ _ rfl rfl rfl rfl (by kernel_rfl) (by simp [Value.oneCell']) ?_))
  replace xC := xC.setRow #[.int .i64 c.cB, .int .i64 c.cBeam, .int .i64 c.cDepth, .int .i64 c.cWin, .int .i64 c.cQs, .int .i64 c.cQr, .int .i64 c.cBatch, .int .i64 c.cPass, .int .i64 c.cMsg, .int .i64 c.cSeqs]
  replace bb := below_setRow bb (Nat.le_refl _) #[.int .i64 c.cB, .int .i64 c.cBeam, .int .i64 c.cDepth, .int .i64 c.cWin, .int .i64 c.cQs, .int .i64 c.cQr, .int .i64 c.cBatch, .int .i64 c.cPass, .int .i64 c.cMsg, .int .i64 c.cSeqs]
  generalize w1.setRow w.heap.size #[.int .i64 c.cB, .int .i64 c.cBeam, .int .i64 c.cDepth, .int .i64 c.cWin, .int .i64 c.cQs, .int .i64 c.cQr, .int .i64 c.cBatch, .int .i64 c.cPass, .int .i64 c.cMsg, .int .i64 c.cSeqs] = w2 at *
  have hC := hSm.ok
  have HSM : Hid (SmallC c) := hSm
  clear hSm
  by_cases h10 : 10 < mt
  · have d1 : decide (10 < mt) = true := decide_eq_true h10
    have d1i : decide (10 < (mt : Int)) = true := decide_eq_true (by omega)
    clear h10
    go_wp2
    go_ret
    exact ⟨rfl, bb⟩
  have d1 : decide (10 < mt) = false := decide_eq_false h10
  have d1i : decide (10 < (mt : Int)) = false := decide_eq_false (by omega)
  have hm10 : mt ≤ 10 := by omega
  clear h10
  go_wp2_with (first | (refine wpList_load_box xC rfl 23 _ rfl rfl _ Tryd.underlying23 rfl (by kernel_rfl) ?_))
  refine (sendNew_law c hC _).mono ?_
  rintro e w3 ⟨rfl, h1, b9⟩
  replace xC := xC.next b9
  replace bb := bb.trans (b9.mono bb.size)
  have HW : Hid (SnW (w3.heap.size + 1) w3 (newS c) c false 0 0 0 0 0 0 0 0 none 0 none 0 0) := (h1 _).out
  have bA : Below w3.heap.size w3 (w3.alloc (.cells #[.int .i64 0, .int .i64 0, .int .i64 0, .int .i64 0, .int .i64 0, .int .i64 0, .int .i64 0, .int .i64 0, .int .i64 0, .int .i64 0, .bool false, .int .i64 0, .int .i64 0, .int .i64 0, .int .i64 0, .int .i64 0, .int .i64 0, .slice none 0 0, .slice none 0 0] 30)) := (Below.refl _ _).alloc (Nat.le_refl _) _
  have xS := Box.new w3 30 #[.int .i64 0, .int .i64 0, .int .i64 0, .int .i64 0, .int .i64 0, .int .i64 0, .int .i64 0, .int .i64 0, .int .i64 0, .int .i64 0, .bool false, .int .i64 0, .int .i64 0, .int .i64 0, .int .i64 0, .int .i64 0, .int .i64 0, .slice none 0 0, .slice none 0 0]
  have HDC : Hid (w.heap.size < w3.heap.size) := xC.lt
  clear b9 h1 d1 d1i
  go_upto_region 5 with (first | (refine wpList_store_box xS rfl 30 _ _ rfl rfl rfl rfl (by kernel_rfl) (by simp [Value.oneCell']) ?_))
  have bB := below_setRow bA (Nat.le_refl _) #[.int .i64 c.cB, .int .i64 c.cBeam, .int .i64 c.cDepth, .int .i64 c.cWin, .int .i64 c.cQs, .int .i64 c.cQr, .int .i64 c.cBatch, .int .i64 c.cPass, .int .i64 c.cMsg, .int .i64 c.cSeqs, .bool false, .int .i64 0, .int .i64 0, .int .i64 0, .int .i64 0, .int .i64 0, .int .i64 0, .slice none 0 0, .slice none 0 0]
  replace xS := xS.setRow #[.int .i64 c.cB, .int .i64 c.cBeam, .int .i64 c.cDepth, .int .i64 c.cWin, .int .i64 c.cQs, .int .i64 c.cQr, .int .i64 c.cBatch, .int .i64 c.cPass, .int .i64 c.cMsg, .int .i64 c.cSeqs, .bool false, .int .i64 0, .int .i64 0, .int .i64 0, .int .i64 0, .int .i64 0, .int .i64 0, .slice none 0 0, .slice none 0 0]
  replace xC := xC.next bB
  have hW := HW.out.next bB
  replace bb := bb.trans (bB.mono bb.size)
  obtain ⟨D, hD⟩ : ∃ D, w3.heap.size = D := ⟨_, rfl⟩
  rw [hD] at xS xC hW bb HDC ⊢
  clear bA bB hD HW
  generalize (w3.alloc (.cells #[.int .i64 0, .int .i64 0, .int .i64 0, .int .i64 0, .int .i64 0, .int .i64 0, .int .i64 0, .int .i64 0, .int .i64 0, .int .i64 0, .bool false, .int .i64 0, .int .i64 0, .int .i64 0, .int .i64 0, .int .i64 0, .int .i64 0, .slice none 0 0, .slice none 0 0] 30)).setRow D #[.int .i64 c.cB, .int .i64 c.cBeam, .int .i64 c.cDepth, .int .i64 c.cWin, .int .i64 c.cQs, .int .i64 c.cQr, .int .i64 c.cBatch, .int .i64 c.cPass, .int .i64 c.cMsg, .int .i64 c.cSeqs, .bool false, .int .i64 0, .int .i64 0, .int .i64 0, .int .i64 0, .int .i64 0, .int .i64 0, .slice none 0 0, .slice none 0 0] = w4 at *
  have HW4 : Hid (SnW (D + 1) w4 (newS c) c false 0 0 0 0 0 0 0 0 none 0 none 0 0) := hW
  have HON : Hid (OnlyS c [] (newS c)) := only_new hC
  have HC : Hid (okC c = true) := hC
  clear hC hW
  go_wp2_with fail
  go_loopw [11] (fun i wr => ∃ k : Nat, k ≤ mt ∧ i = .int .i64 (k : Int) ∧ ∃ (s : Sn) (P : List (List Int)) (R B N T F : Int) (E M : Nat) (ea : Option Addr) (ec : Nat) (wa : Option Addr) (wc : Nat), Hid (OnlyS c P s ∧ s.sX = false ∧ P.length ≤ k) ∧ Hid (SnW (D + 1) wr s c false 0 R B N T F E M ea ec wa wc (200 * k)) ∧ Box wr D 30 #[.int .i64 c.cB, .int .i64 c.cBeam, .int .i64 c.cDepth, .int .i64 c.cWin, .int .i64 c.cQs, .int .i64 c.cQr, .int .i64 c.cBatch, .int .i64 c.cPass, .int .i64 c.cMsg, .int .i64 c.cSeqs, .bool false, .int .i64 0, .int .i64 R, .int .i64 B, .int .i64 N, .int .i64 T, .int .i64 F, .slice ea E ec, .slice wa M wc] ∧ Box wr w.heap.size 23 #[.int .i64 c.cB, .int .i64 c.cBeam, .int .i64 c.cDepth, .int .i64 c.cWin, .int .i64 c.cQs, .int .i64 c.cQr, .int .i64 c.cBatch, .int .i64 c.cPass, .int .i64 c.cMsg, .int .i64 c.cSeqs] ∧ Below w.heap.size w wr) (fun i _ => mt - (intOf i).toNat)
  case atStart => exact ⟨0, Nat.zero_le _, rfl, newS c, [], 0, 0, 0, 0, 0, 0, 0, none, 0, none, 0, ⟨HON.out, rfl, Nat.le_refl _⟩, HW4, xS, xC, bb⟩
  case round =>
    clear HON HW4 xS xC bb
    obtain ⟨k, hk, rfl, s, P, R, B, N, T, F, E, M, ea, ec, wa, wc, HON, HSW, xS, xC, bb⟩ := hrel
    generalize hwr : wr = w5 at *
    clear hwr
    by_cases hlt : k < mt
    · obtain ⟨x, hx⟩ : ∃ x, l[k]? = some x := ⟨l[k]'(by rw [HT.out.1]; exact hlt), by simp⟩
      obtain ⟨bT, off, xa, xc, rfl, hbT, hcT, hHT, hxc, hxb⟩ := HT.out.2 k x hx
      obtain ⟨n, hn⟩ : ∃ n, x.length = n := ⟨_, rfl⟩
      rw [hn] at hcT hHT hxc
      have HTX : Hid (Holds .u8 w.heap.size w (.slice xa n xc) x) := hHT
      replace hcT := (bb.cell (p := ⟨bT, off + k, none⟩) hbT).trans hcT
      have dk : decide (k < mt) = true := decide_eq_true hlt
      have dki : decide ((k : Int) < (mt : Int)) = true := decide_eq_true (by omega)
      have HBT : Hid (bT < w.heap.size) := hbT
      clear hx hHT
      by_cases h4 : 400 < n
      · have d4 : decide (400 < n) = true := decide_eq_true h4
        have d4i : decide (400 < (n : Int)) = true := decide_eq_true (by omega)
        clear h4
        go_wp2
        go_ret
        exact ⟨rfl, bb⟩
      have d4 : decide (400 < n) = false := decide_eq_false h4
      have d4i : decide (400 < (n : Int)) = false := decide_eq_false (by omega)
      clear h4
      go_upto_region 12 with fail
      clear d4 d4i
      replace hbT : bT < D := by have := HDC.out; omega
      have HTD : Hid (Holds .u8 w5.drew.heap.size w5.drew (.slice xa n xc) x) := (HTX.out.below bb).mono bb.size
      have HSD : Hid (Holds .u8 w5.drew.heap.size w5.drew (.slice xa n xc) x → _) := fun hx => sendSend_law (w := w5.drew) (HSW.out.next (Below.refl _ _).drew) (by omega) xa n xc x hn hxc hxb hx
      have xSd : Box w5.drew D 30 #[.int .i64 c.cB, .int .i64 c.cBeam, .int .i64 c.cDepth, .int .i64 c.cWin, .int .i64 c.cQs, .int .i64 c.cQr, .int .i64 c.cBatch, .int .i64 c.cPass, .int .i64 c.cMsg, .int .i64 c.cSeqs, .bool false, .int .i64 0, .int .i64 R, .int .i64 B, .int .i64 N, .int .i64 T, .int .i64 F, .slice ea E ec, .slice wa M wc] := xS
      refine wp_region_held_drew (S := fun w' => Below D w5 w') (by kernel_rfl) ((Below.refl D w5).drew) (fun hHeld => ?_)
      refine held_take (i := 1) (d := 40) (v := ?v1) rfl rfl (by kernel_rfl) (by kernel_rfl) (by kernel_rfl) (fun _ _ _ h => h) (Or.inl ⟨by kernel_rfl, ?hy1⟩) hHeld ?rest1
      case hy1 =>
        intro wx hSw
        clear hSw
        go_simp
        with_reducible rfl
      simp only [List.setIfInBounds_toArray, List.set_cons_zero, List.set_cons_succ]
      refine held_take (i := 2) (d := 41) (v := ?v2) rfl rfl (by kernel_rfl) (by kernel_rfl) (by kernel_rfl) (fun _ _ _ h => h) (Or.inl ⟨by kernel_rfl, ?hy2⟩) hHeld ?rest2
      case hy2 =>
        intro wx hSw
        clear hSw
        go_simp
        with_reducible rfl
      simp only [List.setIfInBounds_toArray, List.set_cons_zero, List.set_cons_succ]
      refine held_take (i := 3) (d := 42) (v := ?v3) rfl rfl (by kernel_rfl) (by kernel_rfl) (by kernel_rfl) (fun _ _ _ h => h) (Or.inl ⟨by kernel_rfl, ?hy3⟩) hHeld ?rest3
      case hy3 =>
        intro wx hSw
        clear hSw
        go_simp
        with_reducible rfl
      simp only [List.setIfInBounds_toArray, List.set_cons_zero, List.set_cons_succ]
      refine held_take (i := 4) (d := 43) (v := ?v4) rfl rfl (by kernel_rfl) (by kernel_rfl) (by kernel_rfl) (fun _ _ _ h => h) (Or.inl ⟨by kernel_rfl, ?hy4⟩) hHeld ?rest4
      case hy4 =>
        intro wx hSw
        have q0 := (hSw.cell (p := ⟨bT, off + k, none⟩) hbT).trans hcT
        clear hSw
        go_simp
        with_reducible rfl
      simp only [List.setIfInBounds_toArray, List.set_cons_zero, List.set_cons_succ]
      refine wpAnyH_ready (rs := [0]) (by kernel_rfl) (by simp) ?_
      refine AllReadyH.cons rfl (fun K hK => ?_) AllReadyH.nil
      refine step_load_boxn xSd rfl 30 _ rfl rfl _ Tryd.underlying30 rfl (by kernel_rfl) ?_
      simp only [Act.put, List.setIfInBounds_toArray]
      refine hK.out _ _ (hHeld) (fun hHeld => ?_)
      clear hK K
      refine wpAnyH_ready (rs := [5]) (by kernel_rfl) (by simp) ?_
      refine AllReadyH.cons rfl (fun K hK => ?_) AllReadyH.nil
      go_simp
      go_wp2_with (go_at_call 9; refine (HSD.out (by exact HTD.out)).mono ?_; rintro e w9 ⟨R9, B9, N9, T9, F9, E9, M9, fa, fc, va, vc, rfl, hS, b9⟩)
      have b9d : Below w5.heap.size w5 w9 := (Below.refl w5.heap.size w5).drew.trans b9
      have xS9 := xS.next b9d
      refine hK.out _ _ (b9d.mono (Nat.le_of_lt xS.lt)) (fun hHeld => ?_)
      clear hK K
      refine held_take (i := 6) (d := 38) (v := ?v5) rfl rfl (by kernel_rfl) (by kernel_rfl) (by kernel_rfl) (fun _ _ _ h => h) (Or.inl ⟨by kernel_rfl, ?hy5⟩) hHeld ?rest5
      case hy5 =>
        intro wx hSw
        clear hSw
        go_simp
        with_reducible rfl
      simp only [List.setIfInBounds_toArray, List.set_cons_zero, List.set_cons_succ]
      refine held_take (i := 7) (d := 45) (v := ?v6) rfl rfl (by kernel_rfl) (by kernel_rfl) (by kernel_rfl) (fun _ _ _ h => h) (Or.inl ⟨by kernel_rfl, ?hy6⟩) hHeld ?rest6
      case hy6 =>
        intro wx hSw
        clear hSw
        go_simp
        with_reducible rfl
      simp only [List.setIfInBounds_toArray, List.set_cons_zero, List.set_cons_succ]
      refine held_take (i := 8) (d := 46) (v := ?v7) rfl rfl (by kernel_rfl) (by kernel_rfl) (by kernel_rfl) (fun _ _ _ h => h) (Or.inl ⟨by kernel_rfl, ?hy7⟩) hHeld ?rest7
      case hy7 =>
        intro wx hSw
        clear hSw
        go_simp
        with_reducible rfl
      simp only [List.setIfInBounds_toArray, List.set_cons_zero, List.set_cons_succ]
      refine wpAnyH_ready (rs := [9]) (by kernel_rfl) (by simp) ?_
      refine AllReadyH.cons rfl (fun K hK => ?_) AllReadyH.nil
      refine step_store_boxn xS9 rfl 30 _ _ rfl rfl rfl rfl (by kernel_rfl) (by simp [Value.oneCell']) ?_
      simp only [Act.put, List.setIfInBounds_toArray]
      refine hK.out _ _ (below_setRow (b9d.mono (Nat.le_of_lt xS.lt)) (Nat.le_refl D) #[.int .i64 c.cB, .int .i64 c.cBeam, .int .i64 c.cDepth, .int .i64 c.cWin, .int .i64 c.cQs, .int .i64 c.cQr, .int .i64 c.cBatch, .int .i64 c.cPass, .int .i64 c.cMsg, .int .i64 c.cSeqs, .bool false, .int .i64 0, .int .i64 R9, .int .i64 B9, .int .i64 N9, .int .i64 T9, .int .i64 F9, .slice fa E9 fc, .slice va M9 vc]) (fun hHeld => ?_)
      clear hK K
      refine wpAnyH_done (by kernel_rfl) ?_ _
      have hDb : D < w5.heap.size := xS.lt
      have HSN : Hid (SnW (D + 1) (w9.setRow D #[.int .i64 c.cB, .int .i64 c.cBeam, .int .i64 c.cDepth, .int .i64 c.cWin, .int .i64 c.cQs, .int .i64 c.cQr, .int .i64 c.cBatch, .int .i64 c.cPass, .int .i64 c.cMsg, .int .i64 c.cSeqs, .bool false, .int .i64 0, .int .i64 R9, .int .i64 B9, .int .i64 N9, .int .i64 T9, .int .i64 F9, .slice fa E9 fc, .slice va M9 vc]) (sendS s x) c false 0 R9 B9 N9 T9 F9 E9 M9 fa fc va vc (200 * (k + 1))) := ((hS.out.old hDb (fun g hg => setRow_other w9 D g #[.int .i64 c.cB, .int .i64 c.cBeam, .int .i64 c.cDepth, .int .i64 c.cWin, .int .i64 c.cQs, .int .i64 c.cQr, .int .i64 c.cBatch, .int .i64 c.cPass, .int .i64 c.cMsg, .int .i64 c.cSeqs, .bool false, .int .i64 0, .int .i64 R9, .int .i64 B9, .int .i64 N9, .int .i64 T9, .int .i64 F9, .slice fa E9 fc, .slice va M9 vc] hg)).lower (show D + 1 ≤ w5.heap.size from hDb)).more (by omega)
      have HON9 : Hid (OnlyS c (if errS s x = 0 then P ++ [x] else P) (sendS s x) ∧ (sendS s x).sX = false ∧ (if errS s x = 0 then P ++ [x] else P).length ≤ k + 1) := by
        have h := only_send HON.out.1 x
        refine ⟨h.1, h.2.trans HON.out.2.1, ?_⟩
        have := HON.out.2.2
        split
        · rw [List.length_append]; simp; omega
        · omega
      have xSn := xS9.setRow #[.int .i64 c.cB, .int .i64 c.cBeam, .int .i64 c.cDepth, .int .i64 c.cWin, .int .i64 c.cQs, .int .i64 c.cQr, .int .i64 c.cBatch, .int .i64 c.cPass, .int .i64 c.cMsg, .int .i64 c.cSeqs, .bool false, .int .i64 0, .int .i64 R9, .int .i64 B9, .int .i64 N9, .int .i64 T9, .int .i64 F9, .slice fa E9 fc, .slice va M9 vc]
      have xCn := (xC.next b9d).otherRow (D := D) (by have := HDC.out; omega) #[.int .i64 c.cB, .int .i64 c.cBeam, .int .i64 c.cDepth, .int .i64 c.cWin, .int .i64 c.cQs, .int .i64 c.cQr, .int .i64 c.cBatch, .int .i64 c.cPass, .int .i64 c.cMsg, .int .i64 c.cSeqs, .bool false, .int .i64 0, .int .i64 R9, .int .i64 B9, .int .i64 N9, .int .i64 T9, .int .i64 F9, .slice fa E9 fc, .slice va M9 vc]
      have bbn := below_setRow (bb.trans (b9d.mono bb.size)) (show w.heap.size ≤ D by have := HDC.out; omega) #[.int .i64 c.cB, .int .i64 c.cBeam, .int .i64 c.cDepth, .int .i64 c.cWin, .int .i64 c.cQs, .int .i64 c.cQr, .int .i64 c.cBatch, .int .i64 c.cPass, .int .i64 c.cMsg, .int .i64 c.cSeqs, .bool false, .int .i64 0, .int .i64 R9, .int .i64 B9, .int .i64 N9, .int .i64 T9, .int .i64 F9, .slice fa E9 fc, .slice va M9 vc]
      generalize w9.setRow D #[.int .i64 c.cB, .int .i64 c.cBeam, .int .i64 c.cDepth, .int .i64 c.cWin, .int .i64 c.cQs, .int .i64 c.cQr, .int .i64 c.cBatch, .int .i64 c.cPass, .int .i64 c.cMsg, .int .i64 c.cSeqs, .bool false, .int .i64 0, .int .i64 R9, .int .i64 B9, .int .i64 N9, .int .i64 T9, .int .i64 F9, .slice fa E9 fc, .slice va M9 vc] = w10 at *
      clear hS b9 b9d xS9 xS xC bb HSD HTD HTX xSd
      go_wp2
      exact ⟨⟨k + 1, hlt, by go_num, sendS s x, _, R9, B9, N9, T9, F9, E9, M9, fa, fc, va, vc, HON9, HSN, xSn, xCn, bbn⟩, by simp [intOf]; omega⟩
    · obtain rfl : k = mt := by omega
      clear hk hlt
      have hcs := (okC_iff c).1 HC.out
      have hsm := HSM.out
      have hT2 := HSW.out.ok.seqs
      have hT0 := HSW.out.ok.base
      have hT1 := HSW.out.ok.low
      rw [HSW.out.is.eT] at hT2 hT0
      rw [HSW.out.is.eC] at hT2
      have hT3 : T ≤ 99 := by unfold SmallC at hsm; omega
      have hT4 : 0 ≤ T := by omega
      have wTq : IntKind.i64.wrap (T + q) = T + q := by rw [IntKind.wrap_i64]; omega
      have HTT : Hid (s.sT = T) := HSW.out.is.eT
      clear hcs hsm hT2 hT0 hT1 HON HSM
      have c15 := xS.cell 15 _ rfl
      have lS := xS.lt
      go_wp2_with fail
      refine (AckMake_ok (T + q) bits (by omega) (by omega) hbits.1 hbits.2 _).mono ?_
      rintro e w6 ⟨q9, rfl, o7, b9⟩
      obtain ⟨qa, qc, rfl⟩ := row_shapeS o7
      have HSW6 := HSW.out.next b9
      replace xS := xS.next b9
      replace bb := bb.trans (b9.mono bb.size)
      have H5 := sendLearn_law HSW6 (by omega) qa 13 qc (packA (T + q) bits) (packA_len _ _) (by omega) (rowK_cap o7) (packA_bd _ _) (holds_of_row o7)
      clear b9 o7 c15 lS HSW
      go_wp2_with (first | (refine wpList_load_box xS rfl 30 _ rfl rfl _ Tryd.underlying30 rfl (by kernel_rfl) ?_))
      refine H5.mono ?_
      rintro e w7 ⟨R9, B9, N9, T9, F9, E9, M9, fa, fc, va, vc, rfl, hS, b9⟩
      have HSW7 := HSW6.next b9
      replace xS := xS.next b9
      replace bb := bb.trans (b9.mono bb.size)
      clear b9 H5 HSW6
      have bA : Below w7.heap.size w7 (w7.alloc (.cells #[.int .i64 0, .int .i64 0, .int .i64 0, .int .i64 0, .int .i64 0, .int .i64 0, .int .i64 0, .int .i64 0, .int .i64 0, .int .i64 0, .bool false, .int .i64 0, .int .i64 0, .int .i64 0, .int .i64 0, .int .i64 0, .int .i64 0, .slice none 0 0, .slice none 0 0] 30)) := (Below.refl _ _).alloc (Nat.le_refl _) _
      have xT := Box.new w7 30 #[.int .i64 0, .int .i64 0, .int .i64 0, .int .i64 0, .int .i64 0, .int .i64 0, .int .i64 0, .int .i64 0, .int .i64 0, .int .i64 0, .bool false, .int .i64 0, .int .i64 0, .int .i64 0, .int .i64 0, .int .i64 0, .int .i64 0, .slice none 0 0, .slice none 0 0]
      go_upto_region 18 with (first | (refine wpList_store_box xT rfl 30 _ _ rfl rfl rfl rfl (by kernel_rfl) (by simp [Value.oneCell']) ?_))
      have bB := below_setRow bA (Nat.le_refl _) #[.int .i64 c.cB, .int .i64 c.cBeam, .int .i64 c.cDepth, .int .i64 c.cWin, .int .i64 c.cQs, .int .i64 c.cQr, .int .i64 c.cBatch, .int .i64 c.cPass, .int .i64 c.cMsg, .int .i64 c.cSeqs, .bool false, .int .i64 0, .int .i64 R9, .int .i64 B9, .int .i64 N9, .int .i64 T9, .int .i64 F9, .slice fa E9 fc, .slice va M9 vc]
      replace xT := xT.setRow #[.int .i64 c.cB, .int .i64 c.cBeam, .int .i64 c.cDepth, .int .i64 c.cWin, .int .i64 c.cQs, .int .i64 c.cQr, .int .i64 c.cBatch, .int .i64 c.cPass, .int .i64 c.cMsg, .int .i64 c.cSeqs, .bool false, .int .i64 0, .int .i64 R9, .int .i64 B9, .int .i64 N9, .int .i64 T9, .int .i64 F9, .slice fa E9 fc, .slice va M9 vc]
      replace xS := xS.next bB
      have hsw8 := HSW7.next bB
      have htw8 := (hS.out.next bB).lower (base' := 0) (Nat.zero_le _)
      replace bb := bb.trans (bB.mono bb.size)
      obtain ⟨D2, hD2⟩ : ∃ D, w7.heap.size = D := ⟨_, rfl⟩
      rw [hD2] at xT xS bb hsw8 htw8 ⊢
      clear bA bB hD2 HSW7 hS xC HDC
      generalize (w7.alloc (.cells #[.int .i64 0, .int .i64 0, .int .i64 0, .int .i64 0, .int .i64 0, .int .i64 0, .int .i64 0, .int .i64 0, .int .i64 0, .int .i64 0, .bool false, .int .i64 0, .int .i64 0, .int .i64 0, .int .i64 0, .int .i64 0, .int .i64 0, .slice none 0 0, .slice none 0 0] 30)).setRow D2 #[.int .i64 c.cB, .int .i64 c.cBeam, .int .i64 c.cDepth, .int .i64 c.cWin, .int .i64 c.cQs, .int .i64 c.cQr, .int .i64 c.cBatch, .int .i64 c.cPass, .int .i64 c.cMsg, .int .i64 c.cSeqs, .bool false, .int .i64 0, .int .i64 R9, .int .i64 B9, .int .i64 N9, .int .i64 T9, .int .i64 F9, .slice fa E9 fc, .slice va M9 vc] = w8 at *
      have HSW8 : Hid _ := hsw8
      have HTW : Hid _ := htw8
      clear hsw8 htw8
      by_cases hqz : 0 < q
      · have dq : decide (0 < q) = true := decide_eq_true hqz
        obtain ⟨e1, e2⟩ := learn_far HSW8.out.ok (n := T + q) (b := bits) (by omega) hbits.1 hbits.2 (by rw [HTT.out]; omega)
        rw [e2] at HTW
        rw [e1]
        obtain rfl : R9 = R := HTW.out.is.eR.symm.trans HSW8.out.is.eR
        obtain rfl : B9 = B := HTW.out.is.eB.symm.trans HSW8.out.is.eB
        obtain rfl : N9 = N := HTW.out.is.eN.symm.trans HSW8.out.is.eN
        obtain rfl : T9 = T := HTW.out.is.eT.symm.trans HSW8.out.is.eT
        obtain rfl : F9 = F := HTW.out.is.eF.symm.trans HSW8.out.is.eF
        obtain rfl : E9 = E := HTW.out.is.lE.symm.trans HSW8.out.is.lE
        obtain rfl : M9 = M := HTW.out.is.lW.symm.trans HSW8.out.is.lW
        have hf := HTW.out.few
        have HKS := keepSender_same HTW.out.is HTW.out.fewE (by omega) (fun e he => by have := HTW.out.bytes e he; omega) fa fc va vc ea ec wa wc w8 HTW.out.lies.at HSW8.out.lies.at
        clear e1 e2 hqz hf HTW HSW8
        go_wp2_with (first | (refine wpList_load_boxg xT rfl 30 _ rfl rfl _ Tryd.underlying30 rfl (by kernel_rfl) ?_) | (refine wpList_load_boxg xS rfl 30 _ rfl rfl _ Tryd.underlying30 rfl (by kernel_rfl) ?_))
        refine HKS.mono ?_
        rintro e w9 ⟨rfl, b9⟩
        replace bb := bb.trans (b9.mono bb.size)
        clear HKS xT xS b9
        go_wp2_with fail
        refine (sendWakes_any _ (HF0.out.next bb)).mono ?_
        rintro e w99 ⟨rfl, b99⟩
        go_wp2
        go_ret
        exact ⟨rfl, bb.trans (b99.mono bb.size)⟩
      · have dq : decide (0 < q) = false := decide_eq_false hqz
        obtain rfl : q = 0 := by omega
        have hla := learn_all HSW8.out.ok hbits.1 hbits.2
        rw [HTT.out] at hla
        rw [Int.add_zero] at *
        rw [hla.2] at HTW
        rw [hla.1]
        obtain rfl : T = F9 := HTW.out.is.eF
        have cT := xT.cell 16 _ rfl
        have cS := xS.cell 15 _ rfl
        have lT := xT.lt
        have lS := xS.lt
        clear hla HTW HSW8 hqz
        go_wp2_with fail
        refine (sendWakes_any _ (HF0.out.next bb)).mono ?_
        rintro e w99 ⟨rfl, b99⟩
        go_wp2
        go_ret
        exact ⟨rfl, bb.trans (b99.mono bb.size)⟩

end Go.Proofs.YtkphjnbeakkejaaDoor
