/-
  Lists of texts, as they lie and as arguments.
-/
import Derived.Test.YtkphjnbeakkejaaDoorM01
import Derived.Test.YtkphjnbeakkejaaDoorM24
import Derived.Test.YtkphjnbeakkejaaDoorM30
import Derived.Test.YtkphjnbeakkejaaDoorM32
import Derived.Test.YtkphjnbeakkejaaDoorM33
import Derived.Deep.Slices
import Derived.OpenShut
import Derived.ProofKit
import Derived.WalkKit
namespace Go.Proofs.YtkphjnbeakkejaaDoor
open Go.RowKit

/-- The slice at a holds these texts, in a block below n₀. -/
def Texts (n₀ : Nat) (W : World) (a : Option Addr) (n : Nat) (l : List (List Int)) : Prop := l.length = n ∧ ∀ (j : Nat) (x : List Int), l[j]? = some x → ∃ b off xa xc, a = some ⟨b, off, none⟩ ∧ b < n₀ ∧ W.cell? ⟨b, off + j, none⟩ = some (.slice xa x.length xc) ∧ Holds .u8 n₀ W (.slice xa x.length xc) x ∧ x.length ≤ xc ∧ ∀ z ∈ x, 0 ≤ z ∧ z ≤ 255
theorem Texts.next {n₀ : Nat} {W W' : World} {a : Option Addr} {n : Nat} {l : List (List Int)} (h : Texts n₀ W a n l) (k : Below n₀ W W') : Texts n₀ W' a n l := by
  refine ⟨h.1, fun j x hj => ?_⟩
  obtain ⟨b, off, xa, xc, h0, h1, h2, h6, h7⟩ := h.2 j x hj
  exact ⟨b, off, xa, xc, h0, h1, (k.cell (p := ⟨b, off + j, none⟩) h1).trans h2, h6.below k, h7⟩
theorem cellsU8L : Tryd.prog.cellsOf 5 = 1 := by kernel_rfl
theorem cellsBytesL : Tryd.prog.cellsOf 25 = 1 := by kernel_rfl

/-- A text that came in, opened. -/
theorem text_of_trod {H : Type} {enc : TypeId × Value → H} {w : World} {base : Nat} {held : Bool} {fuel : Nat} {v : Value} {x : DataW H × List MemPlace}
    (h : DataW.trod enc Tryd.prog w base (fun _ => true) held fuel 25 [v] = some x) : ∃ a ys c, v = .slice a ys.length c ∧ Holds .u8 w.heap.size w v ys ∧ ys.length ≤ c ∧ ∀ z ∈ ys, 0 ≤ z ∧ z ≤ 255 := by
  rcases Go.ChangeShapes.open_ints Tryd.underlying25 Tryd.underlying5 cellsU8L h with ⟨hcs, _⟩ | ⟨x3, l3, c3', zs, hcs, _, hl3, hm3, hz, _, hcell3, hwz⟩
  · simp at hcs
    subst hcs
    exact ⟨_, [], _, rfl, .inl ⟨⟨_, _, rfl, fun _ => rfl⟩, rfl⟩, Nat.le_refl _, by simp⟩
  · simp at hcs
    subst hcs
    obtain ⟨ys, e, hy, hw⟩ := holds_of_isRow (kd := .u8) (w := w) (a := some x3) (len := l3) (cap := c3') (zs := zs) (.inr ⟨x3, rfl, hl3, hm3, by simpa using hz, hcell3, hwz⟩)
    subst e
    exact ⟨_, ys, _, rfl, hy, hl3, bytes_bd hw⟩

set_option maxRecDepth 100000 in
set_option maxHeartbeats 1000000 in
/-- A list of texts that came in, opened. -/
theorem texts_of_trod {H : Type} {enc : TypeId × Value → H} {w : World} {base : Nat} {held : Bool} {fuel : Nat} {a : Option Addr} {len cap : Nat} {x : DataW H × List MemPlace}
    (h : DataW.trod enc Tryd.prog w base (fun _ => true) held fuel 24 [.slice a len cap] = some x) : ∃ l, Texts w.heap.size w a len l := by
  rcases Go.Deep.open_slice Tryd.underlying24 h with ⟨hcs, _⟩ | ⟨ad, len', cap', m, n, D, Pl, hcs, _, hl, hc, hm, _, hx⟩
  · simp at hcs
    obtain ⟨rfl, rfl, rfl⟩ := hcs
    exact ⟨[], rfl, fun j x hj => by simp at hj⟩
  · simp at hcs
    obtain ⟨rfl, rfl, rfl⟩ := hcs
    have hlm : len ≤ m := by rw [hm]; split <;> omega
    have each : ∀ i, i < len → ∃ q : List Int × Option Addr × Nat, w.cell? (ad.add i) = some (.slice q.2.1 q.1.length q.2.2) ∧ Holds .u8 w.heap.size w (.slice q.2.1 q.1.length q.2.2) q.1 ∧ q.1.length ≤ q.2.2 ∧ ∀ z ∈ q.1, 0 ≤ z ∧ z ≤ 255 := by
      intro i hi
      obtain ⟨cs', h1, h2⟩ := hx i (by omega)
      rw [cellsBytesL] at h1
      obtain ⟨_, hlen, hcell⟩ := World.cells?_some h1
      match cs', hlen with
      | [v0], _ =>
        obtain ⟨a3, ys, c3, rfl, hy, h3, h5⟩ := text_of_trod h2
        have c0 := hcell 0 (by omega)
        simp at c0
        exact ⟨(ys, a3, c3), by simpa [Go.Deep.add_add] using c0, hy, h3, h5⟩
    by_cases h0 : len = 0
    · subst h0
      exact ⟨[], rfl, fun j x hj => by simp at hj⟩
    · haveI : Inhabited (List Int × Option Addr × Nat) := ⟨([], none, 0)⟩
      obtain ⟨q, hq⟩ := Go.Deep.choose_lt each
      obtain ⟨b, off, spot⟩ := ad
      have hspot : spot = none := by
        have := (hq 0 (by omega)).1
        simpa [Addr.add] using World.cell?_spot this
      subst hspot
      refine ⟨(List.range len).map fun i => (q i).1, by simp, fun j x hj => ?_⟩
      have hjl : j < len := by have := (List.getElem?_eq_some_iff.1 hj).1; simpa using this
      rw [List.getElem?_map, List.getElem?_range hjl] at hj
      simp at hj
      subst hj
      obtain ⟨g1, g2, g3, g5⟩ := hq j hjl
      rw [Go.WideShapes.add_plain] at g1
      exact ⟨b, off, (q j).2.1, (q j).2.2, rfl, by have := cell_block_lt g1; exact this, g1, g2, g3, g5⟩

end Go.Proofs.YtkphjnbeakkejaaDoor

/-
  The walk of SendTable. (Written by tpl_sendlaws.py.)
-/
namespace Go.Proofs.YtkphjnbeakkejaaDoor
open Go.RowKit

theorem hid_imp {p : Prop} (h : p) : Hid p := h
theorem sendS_no {s : Sn} {x : List Int} {e : Int} (he : errS s x = e) (hne : e ≠ 0) : (sendS s x).sN = s.sN ∧ (sendS s x).sT = s.sT ∧ (sendS s x).sR = satN s.sR 1 := by
  unfold sendS
  rw [he, if_neg hne]
  exact ⟨rfl, rfl, rfl⟩
theorem sendS_yes {s : Sn} {x : List Int} (he : errS s x = 0) : (sendS s x).sN = s.sN + 1 ∧ (sendS s x).sT = s.sT + blocksC s.sC x.length ∧ (sendS s x).sR = s.sR := by
  unfold sendS
  rw [if_pos he]
  exact ⟨rfl, rfl, rfl⟩
theorem sendS_R (s : Sn) (x : List Int) (h0 : 0 ≤ s.sR) (h1 : s.sR < 1073741824) : 0 ≤ (sendS s x).sR ∧ (sendS s x).sR ≤ s.sR + 1 := by
  by_cases he : errS s x = 0
  · rw [(sendS_yes he).2.2]; omega
  · rw [(sendS_no rfl he).2.2, satN_one h0 h1]; omega
set_option maxRecDepth 100000 in
set_option maxHeartbeats 8000000 in
theorem sendTable_walk (cq : Cfg) (ba : Option Addr) (mt kc : Nat) (l : List (List Int)) (closed : Bool) (a : Option Addr) (len cap : Nat) (zs : List Int) (hz : zs.length = len) (hcap : len ≤ cap) (bz : ∀ z ∈ zs, 0 ≤ z ∧ z ≤ 255) (w : World) (hF : Firsts w) (hT : Texts w.heap.size w ba mt l) (ha : Holds .u8 w.heap.size w (.slice a len cap) zs) :
    Calls Tryd.prog 3 #[.agg #[.int .i64 cq.cB, .int .i64 cq.cBeam, .int .i64 cq.cDepth, .int .i64 cq.cWin, .int .i64 cq.cQs, .int .i64 cq.cQr, .int .i64 cq.cBatch, .int .i64 cq.cPass, .int .i64 cq.cMsg, .int .i64 cq.cSeqs], .slice ba mt kc, .bool closed, .slice a len cap] w fun e w' => e = .returned (.bool true) ∧ Below w.heap.size w w' := by
  have bb : Below w.heap.size w (w.alloc (.cells #[.int .i64 cq.cB, .int .i64 cq.cBeam, .int .i64 cq.cDepth, .int .i64 cq.cWin, .int .i64 cq.cQs, .int .i64 cq.cQr, .int .i64 cq.cBatch, .int .i64 cq.cPass, .int .i64 cq.cMsg, .int .i64 cq.cSeqs] 23)) := (Below.refl _ _).alloc (Nat.le_refl _) _
  have xC := Box.new w 23 #[.int .i64 cq.cB, .int .i64 cq.cBeam, .int .i64 cq.cDepth, .int .i64 cq.cWin, .int .i64 cq.cQs, .int .i64 cq.cQr, .int .i64 cq.cBatch, .int .i64 cq.cPass, .int .i64 cq.cMsg, .int .i64 cq.cSeqs]
  have HT : Hid (Texts w.heap.size w ba mt l) := hT
  have HF0 : Hid (Firsts w) := hF
  have HMS : Hid (Holds .u8 w.heap.size w (.slice a len cap) zs ∧ zs.length = len ∧ len ≤ cap ∧ ∀ z ∈ zs, 0 ≤ z ∧ z ≤ 255) := ⟨ha, hz, hcap, bz⟩
  clear hT hF ha hz hcap bz
  go_enter Tryd.func3, Tryd.ntmps3
  go_wp2_with (first | (refine wpList_load_box xC rfl 23 _ rfl rfl _ Tryd.underlying23 rfl (by kernel_rfl) ?_))
  refine (small_any cq _).mono ?_
  rintro e w1 ⟨c, rfl, hSm, b9⟩
  replace xC := xC.next b9
  replace bb := bb.trans (b9.mono bb.size)
  clear b9
  go_upto_region 2 with (first | (refine wpList_store_box xC rfl 23 _ _ rfl rfl rfl rfl (by kernel_rfl) (by simp [Value.oneCell']) ?_))
  replace xC := xC.setRow #[.int .i64 c.cB, .int .i64 c.cBeam, .int .i64 c.cDepth, .int .i64 c.cWin, .int .i64 c.cQs, .int .i64 c.cQr, .int .i64 c.cBatch, .int .i64 c.cPass, .int .i64 c.cMsg, .int .i64 c.cSeqs]
  replace bb := below_setRow bb (Nat.le_refl _) #[.int .i64 c.cB, .int .i64 c.cBeam, .int .i64 c.cDepth, .int .i64 c.cWin, .int .i64 c.cQs, .int .i64 c.cQr, .int .i64 c.cBatch, .int .i64 c.cPass, .int .i64 c.cMsg, .int .i64 c.cSeqs]
  generalize w1.setRow w.heap.size #[.int .i64 c.cB, .int .i64 c.cBeam, .int .i64 c.cDepth, .int .i64 c.cWin, .int .i64 c.cQs, .int .i64 c.cQr, .int .i64 c.cBatch, .int .i64 c.cPass, .int .i64 c.cMsg, .int .i64 c.cSeqs] = w2 at *
  have hC := hSm.ok
  have HSM : Hid (SmallC c) := hSm
  clear hSm
  by_cases h10 : 10 < mt
  · have d1 : decide (10 < mt) = true := decide_eq_true h10
    have d1i : decide (10 < (mt : Int)) = true := decide_eq_true (by omega)
    clear h10
    go_wp2
    go_ret
    exact ⟨rfl, bb⟩
  have d1 : decide (10 < mt) = false := decide_eq_false h10
  have d1i : decide (10 < (mt : Int)) = false := decide_eq_false (by omega)
  have hm10 : mt ≤ 10 := by omega
  clear h10
  by_cases h40 : 400 < len
  · have d2 : decide (400 < len) = true := decide_eq_true h40
    have d2i : decide (400 < (len : Int)) = true := decide_eq_true (by omega)
    clear h40
    go_wp2
    go_ret
    exact ⟨rfl, bb⟩
  have d2 : decide (400 < len) = false := decide_eq_false h40
  have d2i : decide (400 < (len : Int)) = false := decide_eq_false (by omega)
  clear h40
  go_wp2_with (first | (refine wpList_load_box xC rfl 23 _ rfl rfl _ Tryd.underlying23 rfl (by kernel_rfl) ?_))
  refine (sendNew_law c hC _).mono ?_
  rintro e w3 ⟨rfl, h1, b9⟩
  replace xC := xC.next b9
  replace bb := bb.trans (b9.mono bb.size)
  have HW : Hid (SnW (w3.heap.size + 1) w3 (newS c) c false 0 0 0 0 0 0 0 0 none 0 none 0 0) := (h1 _).out
  have bA : Below w3.heap.size w3 (w3.alloc (.cells #[.int .i64 0, .int .i64 0, .int .i64 0, .int .i64 0, .int .i64 0, .int .i64 0, .int .i64 0, .int .i64 0, .int .i64 0, .int .i64 0, .bool false, .int .i64 0, .int .i64 0, .int .i64 0, .int .i64 0, .int .i64 0, .int .i64 0, .slice none 0 0, .slice none 0 0] 30)) := (Below.refl _ _).alloc (Nat.le_refl _) _
  have xS := Box.new w3 30 #[.int .i64 0, .int .i64 0, .int .i64 0, .int .i64 0, .int .i64 0, .int .i64 0, .int .i64 0, .int .i64 0, .int .i64 0, .int .i64 0, .bool false, .int .i64 0, .int .i64 0, .int .i64 0, .int .i64 0, .int .i64 0, .int .i64 0, .slice none 0 0, .slice none 0 0]
  have HDC : Hid (w.heap.size < w3.heap.size) := xC.lt
  clear b9 h1 d1 d1i d2 d2i
  go_upto_region 5 with (first | (refine wpList_store_box xS rfl 30 _ _ rfl rfl rfl rfl (by kernel_rfl) (by simp [Value.oneCell']) ?_))
  have bB := below_setRow bA (Nat.le_refl _) #[.int .i64 c.cB, .int .i64 c.cBeam, .int .i64 c.cDepth, .int .i64 c.cWin, .int .i64 c.cQs, .int .i64 c.cQr, .int .i64 c.cBatch, .int .i64 c.cPass, .int .i64 c.cMsg, .int .i64 c.cSeqs, .bool false, .int .i64 0, .int .i64 0, .int .i64 0, .int .i64 0, .int .i64 0, .int .i64 0, .slice none 0 0, .slice none 0 0]
  replace xS := xS.setRow #[.int .i64 c.cB, .int .i64 c.cBeam, .int .i64 c.cDepth, .int .i64 c.cWin, .int .i64 c.cQs, .int .i64 c.cQr, .int .i64 c.cBatch, .int .i64 c.cPass, .int .i64 c.cMsg, .int .i64 c.cSeqs, .bool false, .int .i64 0, .int .i64 0, .int .i64 0, .int .i64 0, .int .i64 0, .int .i64 0, .slice none 0 0, .slice none 0 0]
  replace xC := xC.next bB
  have hW := HW.out.next bB
  replace bb := bb.trans (bB.mono bb.size)
  obtain ⟨D, hD⟩ : ∃ D, w3.heap.size = D := ⟨_, rfl⟩
  rw [hD] at xS xC hW bb HDC ⊢
  clear bA bB hD HW
  generalize (w3.alloc (.cells #[.int .i64 0, .int .i64 0, .int .i64 0, .int .i64 0, .int .i64 0, .int .i64 0, .int .i64 0, .int .i64 0, .int .i64 0, .int .i64 0, .bool false, .int .i64 0, .int .i64 0, .int .i64 0, .int .i64 0, .int .i64 0, .int .i64 0, .slice none 0 0, .slice none 0 0] 30)).setRow D #[.int .i64 c.cB, .int .i64 c.cBeam, .int .i64 c.cDepth, .int .i64 c.cWin, .int .i64 c.cQs, .int .i64 c.cQr, .int .i64 c.cBatch, .int .i64 c.cPass, .int .i64 c.cMsg, .int .i64 c.cSeqs, .bool false, .int .i64 0, .int .i64 0, .int .i64 0, .int .i64 0, .int .i64 0, .int .i64 0, .slice none 0 0, .slice none 0 0] = w4 at *
  have HW4 : Hid (SnW (D + 1) w4 (newS c) c false 0 0 0 0 0 0 0 0 none 0 none 0 0) := hW
  have HON : Hid (OnlyS c [] (newS c)) := only_new hC
  have HC : Hid (okC c = true) := hC
  clear hC hW
  go_wp2_with fail
  go_loopw [11, 12, 13] (fun nx en i wr => ∃ k : Nat, k ≤ mt ∧ i = .int .i64 (k : Int) ∧ ∃ (s : Sn) (P : List (List Int)) (R B N T F : Int) (E M : Nat) (ea : Option Addr) (ec : Nat) (wa : Option Addr) (wc : Nat), nx = .int .i64 T ∧ en = .int .i64 N ∧ Hid (OnlyS c P s ∧ s.sX = false ∧ P.length ≤ k ∧ 0 ≤ R ∧ R ≤ k) ∧ Hid (SnW (D + 1) wr s c false 0 R B N T F E M ea ec wa wc (200 * k)) ∧ Box wr D 30 #[.int .i64 c.cB, .int .i64 c.cBeam, .int .i64 c.cDepth, .int .i64 c.cWin, .int .i64 c.cQs, .int .i64 c.cQr, .int .i64 c.cBatch, .int .i64 c.cPass, .int .i64 c.cMsg, .int .i64 c.cSeqs, .bool false, .int .i64 0, .int .i64 R, .int .i64 B, .int .i64 N, .int .i64 T, .int .i64 F, .slice ea E ec, .slice wa M wc] ∧ Box wr w.heap.size 23 #[.int .i64 c.cB, .int .i64 c.cBeam, .int .i64 c.cDepth, .int .i64 c.cWin, .int .i64 c.cQs, .int .i64 c.cQr, .int .i64 c.cBatch, .int .i64 c.cPass, .int .i64 c.cMsg, .int .i64 c.cSeqs] ∧ Below w.heap.size w wr) (fun _ _ i _ => mt - (intOf i).toNat)
  case atStart => exact ⟨0, Nat.zero_le _, rfl, newS c, [], 0, 0, 0, 0, 0, 0, 0, none, 0, none, 0, rfl, rfl, ⟨HON.out, rfl, Nat.le_refl _, Int.le_refl _, Int.le_refl _⟩, HW4, xS, xC, bb⟩
  case round =>
    clear HON HW4 xS xC bb
    obtain ⟨k, hk, rfl, s, P, R, B, N, T, F, E, M, ea, ec, wa, wc, rfl, rfl, HON, HSW, xS, xC, bb⟩ := hrel
    generalize hwr : wr = w5 at *
    clear hwr
    by_cases hlt : k < mt
    · obtain ⟨x, hx⟩ : ∃ x, l[k]? = some x := ⟨l[k]'(by rw [HT.out.1]; exact hlt), by simp⟩
      obtain ⟨bT, off, xa, xc, rfl, hbT, hcT, hHT, hxc, hxb⟩ := HT.out.2 k x hx
      obtain ⟨n, hn⟩ : ∃ n, x.length = n := ⟨_, rfl⟩
      rw [hn] at hcT hHT hxc
      have HTX : Hid (Holds .u8 w.heap.size w (.slice xa n xc) x) := hHT
      have HNX : Hid (x.length = n) := hn
      replace hcT := (bb.cell (p := ⟨bT, off + k, none⟩) hbT).trans hcT
      have dk : decide (k < mt) = true := decide_eq_true hlt
      have dki : decide ((k : Int) < (mt : Int)) = true := decide_eq_true (by omega)
      clear hx hHT
      by_cases h4 : 400 < n
      · have d4 : decide (400 < n) = true := decide_eq_true h4
        have d4i : decide (400 < (n : Int)) = true := decide_eq_true (by omega)
        clear h4
        go_wp2
        go_ret
        exact ⟨rfl, bb⟩
      have d4 : decide (400 < n) = false := decide_eq_false h4
      have d4i : decide (400 < (n : Int)) = false := decide_eq_false (by omega)
      have HN4 : Hid (n ≤ 400) := by show n ≤ 400; omega
      clear h4
      go_upto_region 13 with fail
      clear d4 d4i
      have hbT5 : bT < w5.heap.size := Nat.lt_of_lt_of_le hbT bb.size
      have hDw : D < w5.heap.size := xS.lt
      have HSD := hid_imp fun (wx : World) (bx : Below w5.heap.size w5 wx) => sendSend_law (w := wx) (HSW.out.next bx) (by omega) xa n xc x hn hxc hxb (((HTX.out.below bb).mono bb.size).below bx |>.mono bx.size)
      refine wp_region_held_drew (S := fun w' => Below w5.heap.size w5 w') (by kernel_rfl) ((Below.refl _ _).drew) (fun hHeld => ?_)
      refine held_take (i := 0) (d := 51) (v := ?v1) rfl rfl (by kernel_rfl) (by kernel_rfl) (by kernel_rfl) (fun _ _ _ h => h) (Or.inl ⟨by kernel_rfl, ?hy1⟩) hHeld ?rest1
      case hy1 =>
        refine yields_box 30 ?yx1 ?yo1 ?yh1 _ (fun wx hSw => xS.below hSw xS.lt) Tryd.underlying30 rfl (by kernel_rfl)
        case yo1 => rfl
        case yh1 => rfl
      simp only [List.setIfInBounds_toArray, List.set_cons_zero, List.set_cons_succ]
      refine held_take (i := 1) (d := 52) (v := ?v2) rfl rfl (by kernel_rfl) (by kernel_rfl) (by kernel_rfl) (fun _ _ _ h => h) (Or.inl ⟨by kernel_rfl, ?hy2⟩) hHeld ?rest2
      case hy2 =>
        intro wx hSw
        clear hSw
        go_simp
        with_reducible rfl
      simp only [List.setIfInBounds_toArray, List.set_cons_zero, List.set_cons_succ]
      refine held_take (i := 2) (d := 53) (v := ?v3) rfl rfl (by kernel_rfl) (by kernel_rfl) (by kernel_rfl) (fun _ _ _ h => h) (Or.inl ⟨by kernel_rfl, ?hy3⟩) hHeld ?rest3
      case hy3 =>
        intro wx hSw
        clear hSw
        go_simp
        with_reducible rfl
      simp only [List.setIfInBounds_toArray, List.set_cons_zero, List.set_cons_succ]
      refine held_take (i := 3) (d := 54) (v := ?v4) rfl rfl (by kernel_rfl) (by kernel_rfl) (by kernel_rfl) (fun _ _ _ h => h) (Or.inl ⟨by kernel_rfl, ?hy4⟩) hHeld ?rest4
      case hy4 =>
        intro wx hSw
        clear hSw
        go_simp
        with_reducible rfl
      simp only [List.setIfInBounds_toArray, List.set_cons_zero, List.set_cons_succ]
      refine held_take (i := 4) (d := 55) (v := ?v5) rfl rfl (by kernel_rfl) (by kernel_rfl) (by kernel_rfl) (fun _ _ _ h => h) (Or.inl ⟨by kernel_rfl, ?hy5⟩) hHeld ?rest5
      case hy5 =>
        intro wx hSw
        have q0 := (hSw.cell (p := ⟨bT, off + k, none⟩) hbT5).trans hcT
        clear hSw
        go_simp
        with_reducible rfl
      simp only [List.setIfInBounds_toArray, List.set_cons_zero, List.set_cons_succ]
      refine wpAnyH_ready (rs := [5, 9]) (by kernel_rfl) (by simp) ?_
      refine AllReadyH.cons rfl (fun K hK => ?_) ?_
      · go_simp
        go_wp2_with (go_at_call 9; refine (HSD.out w5.drew (Below.refl w5.heap.size w5).drew).mono ?_; rintro e w9 ⟨R9, B9, N9, T9, F9, E9, M9, fa, fc, va, vc, rfl, hS, b9⟩)
        have b9d : Below w5.heap.size w5 w9 := ((Below.refl w5.heap.size w5).drew).trans (b9.mono ((Below.refl w5.heap.size w5).drew).size)
        refine hK.out _ _ (b9d) (fun hHeld => ?_)
        clear hK K
        refine held_take (i := 6) (d := 50) (v := ?v6) rfl rfl (by kernel_rfl) (by kernel_rfl) (by kernel_rfl) (fun _ _ _ h => h) (Or.inl ⟨by kernel_rfl, ?hy6⟩) hHeld ?rest6
        case hy6 =>
          intro wx hSw
          clear hSw
          go_simp
          with_reducible rfl
        simp only [List.setIfInBounds_toArray, List.set_cons_zero, List.set_cons_succ]
        refine held_take (i := 7) (d := 57) (v := ?v7) rfl rfl (by kernel_rfl) (by kernel_rfl) (by kernel_rfl) (fun _ _ _ h => h) (Or.inl ⟨by kernel_rfl, ?hy7⟩) hHeld ?rest7
        case hy7 =>
          intro wx hSw
          clear hSw
          go_simp
          with_reducible rfl
        simp only [List.setIfInBounds_toArray, List.set_cons_zero, List.set_cons_succ]
        refine held_take (i := 8) (d := 58) (v := ?v8) rfl rfl (by kernel_rfl) (by kernel_rfl) (by kernel_rfl) (fun _ _ _ h => h) (Or.inl ⟨by kernel_rfl, ?hy8⟩) hHeld ?rest8
        case hy8 =>
          intro wx hSw
          clear hSw
          go_simp
          with_reducible rfl
        simp only [List.setIfInBounds_toArray, List.set_cons_zero, List.set_cons_succ]
        refine wpAnyH_ready (rs := [9]) (by kernel_rfl) (by simp) ?_
        refine AllReadyH.cons rfl (fun K hK => ?_) AllReadyH.nil
        go_simp
        have bA9 : Below w9.heap.size w9 (w9.alloc (.cells #[.int .i64 0, .int .i64 0, .int .i64 0, .int .i64 0, .int .i64 0, .int .i64 0, .int .i64 0, .int .i64 0, .int .i64 0, .int .i64 0, .bool false, .int .i64 0, .int .i64 0, .int .i64 0, .int .i64 0, .int .i64 0, .int .i64 0, .slice none 0 0, .slice none 0 0] 30)) := (Below.refl _ _).alloc (Nat.le_refl _) _
        have xT := Box.new w9 30 #[.int .i64 0, .int .i64 0, .int .i64 0, .int .i64 0, .int .i64 0, .int .i64 0, .int .i64 0, .int .i64 0, .int .i64 0, .int .i64 0, .bool false, .int .i64 0, .int .i64 0, .int .i64 0, .int .i64 0, .int .i64 0, .int .i64 0, .slice none 0 0, .slice none 0 0]
        have hz9 : w5.heap.size ≤ w9.heap.size := b9d.size
        refine hK.out _ _ (b9d.trans (bA9.mono b9d.size)) (fun hHeld => ?_)
        clear hK K
        refine wpAnyH_ready (rs := [10]) (by kernel_rfl) (by simp) ?_
        refine AllReadyH.cons rfl (fun K hK => ?_) AllReadyH.nil
        refine step_store_boxn xT rfl 30 _ _ rfl rfl rfl rfl (by kernel_rfl) (by simp [Value.oneCell']) ?_
        simp only [Act.put, List.setIfInBounds_toArray]
        refine hK.out _ _ (below_setRow (b9d.trans (bA9.mono b9d.size)) hz9 #[.int .i64 c.cB, .int .i64 c.cBeam, .int .i64 c.cDepth, .int .i64 c.cWin, .int .i64 c.cQs, .int .i64 c.cQr, .int .i64 c.cBatch, .int .i64 c.cPass, .int .i64 c.cMsg, .int .i64 c.cSeqs, .bool false, .int .i64 0, .int .i64 R9, .int .i64 B9, .int .i64 N9, .int .i64 T9, .int .i64 F9, .slice fa E9 fc, .slice va M9 vc]) (fun hHeld => ?_)
        clear hK K
        refine wpAnyH_ready (rs := [11]) (by kernel_rfl) (by simp) ?_
        refine AllReadyH.cons rfl (fun K hK => ?_) AllReadyH.nil
        go_simp
        refine hK.out _ _ hHeld (fun hHeld => ?_)
        clear hK K
        refine wpAnyH_done (by kernel_rfl) ?_ _
        have bq : Below w5.heap.size w5 ((w9.alloc (.cells #[.int .i64 0, .int .i64 0, .int .i64 0, .int .i64 0, .int .i64 0, .int .i64 0, .int .i64 0, .int .i64 0, .int .i64 0, .int .i64 0, .bool false, .int .i64 0, .int .i64 0, .int .i64 0, .int .i64 0, .int .i64 0, .int .i64 0, .slice none 0 0, .slice none 0 0] 30)).setRow w9.heap.size #[.int .i64 c.cB, .int .i64 c.cBeam, .int .i64 c.cDepth, .int .i64 c.cWin, .int .i64 c.cQs, .int .i64 c.cQr, .int .i64 c.cBatch, .int .i64 c.cPass, .int .i64 c.cMsg, .int .i64 c.cSeqs, .bool false, .int .i64 0, .int .i64 R9, .int .i64 B9, .int .i64 N9, .int .i64 T9, .int .i64 F9, .slice fa E9 fc, .slice va M9 vc]) := hHeld
        replace xT := xT.setRow #[.int .i64 c.cB, .int .i64 c.cBeam, .int .i64 c.cDepth, .int .i64 c.cWin, .int .i64 c.cQs, .int .i64 c.cQr, .int .i64 c.cBatch, .int .i64 c.cPass, .int .i64 c.cMsg, .int .i64 c.cSeqs, .bool false, .int .i64 0, .int .i64 R9, .int .i64 B9, .int .i64 N9, .int .i64 T9, .int .i64 F9, .slice fa E9 fc, .slice va M9 vc]
        have hW9 := (hS.out.next (below_setRow bA9 (Nat.le_refl _) #[.int .i64 c.cB, .int .i64 c.cBeam, .int .i64 c.cDepth, .int .i64 c.cWin, .int .i64 c.cQs, .int .i64 c.cQr, .int .i64 c.cBatch, .int .i64 c.cPass, .int .i64 c.cMsg, .int .i64 c.cSeqs, .bool false, .int .i64 0, .int .i64 R9, .int .i64 B9, .int .i64 N9, .int .i64 T9, .int .i64 F9, .slice fa E9 fc, .slice va M9 vc])).lower (base' := D + 1) (show D + 1 ≤ w5.heap.size by omega)
        replace xS := xS.next bq
        replace xC := xC.next bq
        have hW5 := HSW.out.next bq
        replace bb := bb.trans (bq.mono bb.size)
        replace hcT := (bq.cell (p := ⟨bT, off + k, none⟩) hbT5).trans hcT
        obtain ⟨DT, hDT⟩ : ∃ D, w9.heap.size = D := ⟨_, rfl⟩
        have HDT : Hid (D < DT ∧ w.heap.size < DT) := by
          have h1 := hDw
          have h2 := HDC.out
          have h3 := b9d.size
          constructor <;> omega
        rw [hDT] at xT xS xC hW5 hW9 bb hcT ⊢
        clear bq bA9 b9d b9 hz9 hDT hS HSD hHeld
        generalize ((w9.alloc (.cells #[.int .i64 0, .int .i64 0, .int .i64 0, .int .i64 0, .int .i64 0, .int .i64 0, .int .i64 0, .int .i64 0, .int .i64 0, .int .i64 0, .bool false, .int .i64 0, .int .i64 0, .int .i64 0, .int .i64 0, .int .i64 0, .int .i64 0, .slice none 0 0, .slice none 0 0] 30)).setRow DT #[.int .i64 c.cB, .int .i64 c.cBeam, .int .i64 c.cDepth, .int .i64 c.cWin, .int .i64 c.cQs, .int .i64 c.cQr, .int .i64 c.cBatch, .int .i64 c.cPass, .int .i64 c.cMsg, .int .i64 c.cSeqs, .bool false, .int .i64 0, .int .i64 R9, .int .i64 B9, .int .i64 N9, .int .i64 T9, .int .i64 F9, .slice fa E9 fc, .slice va M9 vc]) = w6 at *
        have HW5 : Hid _ := hW5
        have HW9 : Hid _ := hW9
        clear hW5 hW9
        obtain ⟨q, hq⟩ : ∃ q, blocksA c n = q := ⟨_, rfl⟩
        have HBL := fun wx => ConfBlocks_any c n wx
        rw [hq] at HBL
        have HQ : Hid (blocksA c n = q) := hq
        clear hq
        have hbT6 : bT < w6.heap.size := Nat.lt_of_lt_of_le hbT (by have := bb.size; omega)
        go_wp2_with fail
        refine wp_region_held_drew (S := fun w' => Below w6.heap.size w6 w') (by kernel_rfl) ((Below.refl _ _).drew) (fun hHeld => ?_)
        refine held_take (i := 0) (d := 59) (v := ?v9) rfl rfl (by kernel_rfl) (by kernel_rfl) (by kernel_rfl) (fun _ _ _ h => h) (Or.inl ⟨by kernel_rfl, ?hy9⟩) hHeld ?rest9
        case hy9 =>
          refine yields_box 23 ?yx9 ?yo9 ?yh9 _ (fun wx hSw => xC.below hSw xC.lt) Tryd.underlying23 rfl (by kernel_rfl)
          case yo9 => rfl
          case yh9 => rfl
        simp only [List.setIfInBounds_toArray, List.set_cons_zero, List.set_cons_succ]
        refine held_take (i := 1) (d := 60) (v := ?v10) rfl rfl (by kernel_rfl) (by kernel_rfl) (by kernel_rfl) (fun _ _ _ h => h) (Or.inl ⟨by kernel_rfl, ?hy10⟩) hHeld ?rest10
        case hy10 =>
          intro wx hSw
          clear hSw
          go_simp
          with_reducible rfl
        simp only [List.setIfInBounds_toArray, List.set_cons_zero, List.set_cons_succ]
        refine held_take (i := 2) (d := 61) (v := ?v11) rfl rfl (by kernel_rfl) (by kernel_rfl) (by kernel_rfl) (fun _ _ _ h => h) (Or.inl ⟨by kernel_rfl, ?hy11⟩) hHeld ?rest11
        case hy11 =>
          intro wx hSw
          clear hSw
          go_simp
          with_reducible rfl
        simp only [List.setIfInBounds_toArray, List.set_cons_zero, List.set_cons_succ]
        refine held_take (i := 3) (d := 62) (v := ?v12) rfl rfl (by kernel_rfl) (by kernel_rfl) (by kernel_rfl) (fun _ _ _ h => h) (Or.inl ⟨by kernel_rfl, ?hy12⟩) hHeld ?rest12
        case hy12 =>
          intro wx hSw
          clear hSw
          go_simp
          with_reducible rfl
        simp only [List.setIfInBounds_toArray, List.set_cons_zero, List.set_cons_succ]
        refine held_take (i := 4) (d := 63) (v := ?v13) rfl rfl (by kernel_rfl) (by kernel_rfl) (by kernel_rfl) (fun _ _ _ h => h) (Or.inl ⟨by kernel_rfl, ?hy13⟩) hHeld ?rest13
        case hy13 =>
          intro wx hSw
          have q0 := (hSw.cell (p := ⟨bT, off + k, none⟩) hbT6).trans hcT
          clear hSw
          go_simp
          with_reducible rfl
        simp only [List.setIfInBounds_toArray, List.set_cons_zero, List.set_cons_succ]
        refine held_take (i := 5) (d := 64) (v := ?v14) rfl rfl (by kernel_rfl) (by kernel_rfl) (by kernel_rfl) (fun _ _ _ h => h) (Or.inl ⟨by kernel_rfl, ?hy14⟩) hHeld ?rest14
        case hy14 =>
          intro wx hSw
          clear hSw
          go_simp
          with_reducible rfl
        simp only [List.setIfInBounds_toArray, List.set_cons_zero, List.set_cons_succ]
        refine wpAnyH_ready (rs := [6]) (by kernel_rfl) (by simp) ?_
        refine AllReadyH.cons rfl (fun K hK => ?_) AllReadyH.nil
        go_simp
        go_wp2_with (go_at_call 10; refine (HBL _).mono ?_; rintro e w7 ⟨rfl, b7⟩)
        have b7d : Below w6.heap.size w6 w7 := (Below.refl w6.heap.size w6).drew.trans b7
        refine hK.out _ _ (b7d) (fun hHeld => ?_)
        clear hK K
        refine wpAnyH_ready (rs := [7]) (by kernel_rfl) (by simp) ?_
        refine AllReadyH.cons rfl (fun K hK => ?_) AllReadyH.nil
        go_simp
        refine hK.out _ _ hHeld (fun hHeld => ?_)
        clear hK K
        refine wpAnyH_done (by kernel_rfl) ?_ _
        replace xT := xT.next b7d
        replace xS := xS.next b7d
        replace xC := xC.next b7d
        have HW5 := HW5.out.next b7d
        have HW9 := HW9.out.next b7d
        replace bb := bb.trans (b7d.mono bb.size)
        replace hcT := (b7d.cell (p := ⟨bT, off + k, none⟩) hbT6).trans hcT
        have hbT7 : bT < w7.heap.size := Nat.lt_of_lt_of_le hbT6 b7d.size
        have kC8 : Hid (w7.cell? ⟨w.heap.size, 8, none⟩ = some (.int .i64 c.cMsg)) := xC.cell 8 _ rfl
        have lC := xC.lt
        have HW5 : Hid _ := HW5
        have HW9 : Hid _ := HW9
        clear b7 b7d HBL hHeld
        have HX0 : s.sX = false := HON.out.2.1
        have hsC : s.sC = c := HON.out.1.same
        have heT := HW5.out.is.eT
        have heN := HW5.out.is.eN
        have heR := HW5.out.is.eR
        have heE := HW5.out.is.lE
        have hEN := (only_conf HON.out.1).2.1
        rw [heE, heN] at hEN
        have hon9 := only_send HON.out.1 x
        have hcf := only_conf hon9.1
        obtain rfl : N9 = (E9 : Int) := by rw [← HW9.out.is.eN, ← HW9.out.is.lE]; exact hcf.2.1.symm
        obtain rfl : T9 = (M9 : Int) := by rw [← HW9.out.is.eT, ← HW9.out.is.lW]; exact hcf.2.2.symm
        have ht := errS_table s x HX0
        rw [hsC, heT, heE, HNX.out, hEN] at ht
        have hcs := (okC_iff c).1 HC.out
        have hT0 : 0 ≤ T := by have h1 := HW5.out.ok.low; have h2 := HW5.out.ok.base; omega
        have hT3 : T ≤ 1073741824 := by have h1 := HW5.out.ok.next_bd; omega
        have hN0 : N ≤ 1000000 := by have := HW5.out.fewE; omega
        have hn4 := HN4.out
        have hD1 : D < DT := HDT.out.1
        by_cases g1 : c.cMsg < (n : Int)
        · have he : errS s x = 7 := by rw [ht, if_pos g1]
          have hno := sendS_no he (by decide)
          have hr := sendS_R s x (by rw [heR]; exact HON.out.2.2.2.1) (by rw [heR]; have := HON.out.2.2.2.2; omega)
          have HON9 : Hid (OnlyS c (P) (sendS s x) ∧ (sendS s x).sX = false ∧ (P).length ≤ k + 1 ∧ 0 ≤ R9 ∧ R9 ≤ ((k + 1 : Nat) : Int)) := by
            have h1 := HON.out
            have h2 := HW9.out.is.eR
            refine ⟨?_, hon9.2.trans h1.2.1, ?_, ?_, ?_⟩
            · have h3 := hon9.1
              rw [he] at h3
              simpa using h3
            · omega
            · omega
            · push_cast; omega
          obtain rfl : T = (M9 : Int) := by have h9N := HW9.out.is.eN; have h9T := HW9.out.is.eT; omega
          obtain rfl : N = (E9 : Int) := by have h9N := HW9.out.is.eN; have h9T := HW9.out.is.eT; omega
          rw [he]
          have d1 : decide (c.cMsg < (n : Int)) = true := decide_eq_true g1
          clear heT heN heR heE hEN hon9 hcf g1 hn4 HX0 hsC
          clear he hno hr ht hcs hT0 hT3 hN0
          go_upto_region 17 with fail
          refine wp_region_held_drew (S := fun w' => Below w7.heap.size w7 w') (by kernel_rfl) ((Below.refl _ _).drew) (fun hHeld => ?_)
          refine held_take (i := 0) (d := 72) (v := ?v15) rfl rfl (by kernel_rfl) (by kernel_rfl) (by kernel_rfl) (fun _ _ _ h => h) (Or.inl ⟨by kernel_rfl, ?hy15⟩) hHeld ?rest15
          case hy15 =>
            intro wx hSw
            clear hSw
            go_simp
            with_reducible rfl
          simp only [List.setIfInBounds_toArray, List.set_cons_zero, List.set_cons_succ]
          refine held_take (i := 1) (d := 73) (v := ?v16) rfl rfl (by kernel_rfl) (by kernel_rfl) (by kernel_rfl) (fun _ _ _ h => h) (Or.inl ⟨by kernel_rfl, ?hy16⟩) hHeld ?rest16
          case hy16 =>
            intro wx hSw
            clear hSw
            go_simp
            with_reducible rfl
          simp only [List.setIfInBounds_toArray, List.set_cons_zero, List.set_cons_succ]
          refine held_take (i := 2) (d := 74) (v := ?v17) rfl rfl (by kernel_rfl) (by kernel_rfl) (by kernel_rfl) (fun _ _ _ h => h) (Or.inl ⟨by kernel_rfl, ?hy17⟩) hHeld ?rest17
          case hy17 =>
            intro wx hSw
            clear hSw
            go_simp
            with_reducible rfl
          simp only [List.setIfInBounds_toArray, List.set_cons_zero, List.set_cons_succ]
          refine held_take (i := 3) (d := 75) (v := ?v18) rfl rfl (by kernel_rfl) (by kernel_rfl) (by kernel_rfl) (fun _ _ _ h => h) (Or.inl ⟨by kernel_rfl, ?hy18⟩) hHeld ?rest18
          case hy18 =>
            intro wx hSw
            have q0 := (hSw.cell (p := ⟨bT, off + k, none⟩) hbT7).trans hcT
            clear hSw
            go_simp
            with_reducible rfl
          simp only [List.setIfInBounds_toArray, List.set_cons_zero, List.set_cons_succ]
          refine held_take (i := 4) (d := 76) (v := ?v19) rfl rfl (by kernel_rfl) (by kernel_rfl) (by kernel_rfl) (fun _ _ _ h => h) (Or.inl ⟨by kernel_rfl, ?hy19⟩) hHeld ?rest19
          case hy19 =>
            intro wx hSw
            clear hSw
            go_simp
            with_reducible rfl
          simp only [List.setIfInBounds_toArray, List.set_cons_zero, List.set_cons_succ]
          refine held_take (i := 5) (d := 77) (v := ?v20) rfl rfl (by kernel_rfl) (by kernel_rfl) (by kernel_rfl) (fun _ _ _ h => h) (Or.inl ⟨by kernel_rfl, ?hy20⟩) hHeld ?rest20
          case hy20 =>
            intro wx hSw
            clear hSw
            go_simp
            with_reducible rfl
          simp only [List.setIfInBounds_toArray, List.set_cons_zero, List.set_cons_succ]
          refine held_take (i := 6) (d := 78) (v := ?v21) rfl rfl (by kernel_rfl) (by kernel_rfl) (by kernel_rfl) (fun _ _ _ h => h) (Or.inl ⟨by kernel_rfl, ?hy21⟩) hHeld ?rest21
          case hy21 =>
            intro wx hSw
            have q0 := (hSw.cell (p := ⟨w.heap.size, 8, none⟩) lC).trans kC8.out
            clear hSw
            go_simp
            with_reducible rfl
          simp only [List.setIfInBounds_toArray, List.set_cons_zero, List.set_cons_succ]
          refine held_take (i := 7) (d := 79) (v := ?v22) rfl rfl (by kernel_rfl) (by kernel_rfl) (by kernel_rfl) (fun _ _ _ h => h) (Or.inl ⟨by kernel_rfl, ?hy22⟩) hHeld ?rest22
          case hy22 =>
            intro wx hSw
            clear hSw
            go_simp
            with_reducible rfl
          simp only [List.setIfInBounds_toArray, List.set_cons_zero, List.set_cons_succ]
          refine wpAnyH_ready (rs := [8]) (by kernel_rfl) (by simp) ?_
          refine AllReadyH.cons rfl (fun K hK => ?_) AllReadyH.nil
          go_simp
          refine hK.out _ _ hHeld (fun hHeld => ?_)
          clear hK K
          refine wpAnyH_done (by kernel_rfl) ?_ _
          have bq := hHeld
          replace xT := xT.next bq
          replace xS := xS.next bq
          replace xC := xC.next bq
          have HW9 := HW9.out.next bq
          replace bb := bb.trans (bq.mono bb.size)
          have HW9 : Hid _ := HW9
          generalize w7.drew = w8 at *
          clear bq hHeld kC8 lC hcT
          have c15 := xT.cell 15 _ rfl
          have c14 := xT.cell 14 _ rfl
          have c18 := xT.cell 18 _ rfl
          have lT := xT.lt
          have kC9 := xC.cell 9 _ rfl
          have kC4 := xC.cell 4 _ rfl
          have lC := xC.lt
          go_wp2_with (first | (refine wpList_load_boxg xT rfl 30 _ rfl rfl _ Tryd.underlying30 rfl (by kernel_rfl) ?_))
          refine (sendConfirmed_law HW9.out (by omega)).mono ?_
          rintro e w9 ⟨rfl, b9⟩
          replace xT := xT.next b9
          replace xS := xS.next b9
          replace xC := xC.next b9
          have HW9 := HW9.out.next b9
          replace bb := bb.trans (b9.mono bb.size)
          clear b9 c15 c14 c18 lT kC9 kC4 lC
          go_wp2_with (first | (refine wpList_load_box xT rfl 30 _ rfl rfl _ Tryd.underlying30 rfl (by kernel_rfl) ?_) | (refine wpList_store_box xS rfl 30 _ _ rfl rfl rfl rfl (by kernel_rfl) (by simp [Value.oneCell']) ?_))
          have xSn := xS.setRow #[.int .i64 c.cB, .int .i64 c.cBeam, .int .i64 c.cDepth, .int .i64 c.cWin, .int .i64 c.cQs, .int .i64 c.cQr, .int .i64 c.cBatch, .int .i64 c.cPass, .int .i64 c.cMsg, .int .i64 c.cSeqs, .bool false, .int .i64 0, .int .i64 R9, .int .i64 B9, .int .i64 (E9 : Int), .int .i64 (M9 : Int), .int .i64 F9, .slice fa E9 fc, .slice va M9 vc]
          have xCn := xC.otherRow (D := D) (by have := HDC.out; omega) #[.int .i64 c.cB, .int .i64 c.cBeam, .int .i64 c.cDepth, .int .i64 c.cWin, .int .i64 c.cQs, .int .i64 c.cQr, .int .i64 c.cBatch, .int .i64 c.cPass, .int .i64 c.cMsg, .int .i64 c.cSeqs, .bool false, .int .i64 0, .int .i64 R9, .int .i64 B9, .int .i64 (E9 : Int), .int .i64 (M9 : Int), .int .i64 F9, .slice fa E9 fc, .slice va M9 vc]
          have bbn := below_setRow bb (show w.heap.size ≤ D by have := HDC.out; omega) #[.int .i64 c.cB, .int .i64 c.cBeam, .int .i64 c.cDepth, .int .i64 c.cWin, .int .i64 c.cQs, .int .i64 c.cQr, .int .i64 c.cBatch, .int .i64 c.cPass, .int .i64 c.cMsg, .int .i64 c.cSeqs, .bool false, .int .i64 0, .int .i64 R9, .int .i64 B9, .int .i64 (E9 : Int), .int .i64 (M9 : Int), .int .i64 F9, .slice fa E9 fc, .slice va M9 vc]
          have HSN := (HW9.old (D := D) (by omega) (fun g hg => setRow_other w9 D g #[.int .i64 c.cB, .int .i64 c.cBeam, .int .i64 c.cDepth, .int .i64 c.cWin, .int .i64 c.cQs, .int .i64 c.cQr, .int .i64 c.cBatch, .int .i64 c.cPass, .int .i64 c.cMsg, .int .i64 c.cSeqs, .bool false, .int .i64 0, .int .i64 R9, .int .i64 B9, .int .i64 (E9 : Int), .int .i64 (M9 : Int), .int .i64 F9, .slice fa E9 fc, .slice va M9 vc] hg)).more (show 200 * k + 200 ≤ 200 * (k + 1) by omega)
          exact ⟨⟨k + 1, hlt, by go_num, sendS s x, P, R9, B9, E9, M9, F9, E9, M9, fa, fc, va, vc, rfl, rfl, HON9, HSN, xSn, xCn, bbn⟩, by simp [intOf]; omega⟩
        have hq : blocksC c (n : Int) = q := by
          have h := HQ.out
          unfold blocksA at h
          rwa [if_pos ⟨HC.out, by omega, by omega⟩] at h
        have hqb := blocksC_bd HC.out (n := (n : Int)) (by omega) (by omega)
        rw [hq] at hqb ht
        have d1 : decide (c.cMsg < (n : Int)) = false := decide_eq_false g1
        by_cases g2 : c.cSeqs < T + q
        · have he : errS s x = 8 := by rw [ht, if_neg g1, if_pos g2]
          have hno := sendS_no he (by decide)
          have hr := sendS_R s x (by rw [heR]; exact HON.out.2.2.2.1) (by rw [heR]; have := HON.out.2.2.2.2; omega)
          have HON9 : Hid (OnlyS c (P) (sendS s x) ∧ (sendS s x).sX = false ∧ (P).length ≤ k + 1 ∧ 0 ≤ R9 ∧ R9 ≤ ((k + 1 : Nat) : Int)) := by
            have h1 := HON.out
            have h2 := HW9.out.is.eR
            refine ⟨?_, hon9.2.trans h1.2.1, ?_, ?_, ?_⟩
            · have h3 := hon9.1
              rw [he] at h3
              simpa using h3
            · omega
            · omega
            · push_cast; omega
          have wTq : IntKind.i64.wrap (T + q) = T + q := by rw [IntKind.wrap_i64]; omega
          obtain rfl : T = (M9 : Int) := by have h9N := HW9.out.is.eN; have h9T := HW9.out.is.eT; omega
          obtain rfl : N = (E9 : Int) := by have h9N := HW9.out.is.eN; have h9T := HW9.out.is.eT; omega
          rw [he]
          have d2 : decide (c.cSeqs < (M9 : Int) + q) = true := decide_eq_true g2
          clear heT heN heR heE hEN hon9 hcf g1 g2 hn4 HX0 hsC hq hqb
          clear he hno hr ht hcs hT0 hT3 hN0
          go_upto_region 17 with fail
          refine wp_region_held_drew (S := fun w' => Below w7.heap.size w7 w') (by kernel_rfl) ((Below.refl _ _).drew) (fun hHeld => ?_)
          refine held_take (i := 0) (d := 72) (v := ?v23) rfl rfl (by kernel_rfl) (by kernel_rfl) (by kernel_rfl) (fun _ _ _ h => h) (Or.inl ⟨by kernel_rfl, ?hy23⟩) hHeld ?rest23
          case hy23 =>
            intro wx hSw
            clear hSw
            go_simp
            with_reducible rfl
          simp only [List.setIfInBounds_toArray, List.set_cons_zero, List.set_cons_succ]
          refine held_take (i := 1) (d := 73) (v := ?v24) rfl rfl (by kernel_rfl) (by kernel_rfl) (by kernel_rfl) (fun _ _ _ h => h) (Or.inl ⟨by kernel_rfl, ?hy24⟩) hHeld ?rest24
          case hy24 =>
            intro wx hSw
            clear hSw
            go_simp
            with_reducible rfl
          simp only [List.setIfInBounds_toArray, List.set_cons_zero, List.set_cons_succ]
          refine held_take (i := 2) (d := 74) (v := ?v25) rfl rfl (by kernel_rfl) (by kernel_rfl) (by kernel_rfl) (fun _ _ _ h => h) (Or.inl ⟨by kernel_rfl, ?hy25⟩) hHeld ?rest25
          case hy25 =>
            intro wx hSw
            clear hSw
            go_simp
            with_reducible rfl
          simp only [List.setIfInBounds_toArray, List.set_cons_zero, List.set_cons_succ]
          refine held_take (i := 3) (d := 75) (v := ?v26) rfl rfl (by kernel_rfl) (by kernel_rfl) (by kernel_rfl) (fun _ _ _ h => h) (Or.inl ⟨by kernel_rfl, ?hy26⟩) hHeld ?rest26
          case hy26 =>
            intro wx hSw
            have q0 := (hSw.cell (p := ⟨bT, off + k, none⟩) hbT7).trans hcT
            clear hSw
            go_simp
            with_reducible rfl
          simp only [List.setIfInBounds_toArray, List.set_cons_zero, List.set_cons_succ]
          refine held_take (i := 4) (d := 76) (v := ?v27) rfl rfl (by kernel_rfl) (by kernel_rfl) (by kernel_rfl) (fun _ _ _ h => h) (Or.inl ⟨by kernel_rfl, ?hy27⟩) hHeld ?rest27
          case hy27 =>
            intro wx hSw
            clear hSw
            go_simp
            with_reducible rfl
          simp only [List.setIfInBounds_toArray, List.set_cons_zero, List.set_cons_succ]
          refine held_take (i := 5) (d := 77) (v := ?v28) rfl rfl (by kernel_rfl) (by kernel_rfl) (by kernel_rfl) (fun _ _ _ h => h) (Or.inl ⟨by kernel_rfl, ?hy28⟩) hHeld ?rest28
          case hy28 =>
            intro wx hSw
            clear hSw
            go_simp
            with_reducible rfl
          simp only [List.setIfInBounds_toArray, List.set_cons_zero, List.set_cons_succ]
          refine held_take (i := 6) (d := 78) (v := ?v29) rfl rfl (by kernel_rfl) (by kernel_rfl) (by kernel_rfl) (fun _ _ _ h => h) (Or.inl ⟨by kernel_rfl, ?hy29⟩) hHeld ?rest29
          case hy29 =>
            intro wx hSw
            have q0 := (hSw.cell (p := ⟨w.heap.size, 8, none⟩) lC).trans kC8.out
            clear hSw
            go_simp
            with_reducible rfl
          simp only [List.setIfInBounds_toArray, List.set_cons_zero, List.set_cons_succ]
          refine held_take (i := 7) (d := 79) (v := ?v30) rfl rfl (by kernel_rfl) (by kernel_rfl) (by kernel_rfl) (fun _ _ _ h => h) (Or.inl ⟨by kernel_rfl, ?hy30⟩) hHeld ?rest30
          case hy30 =>
            intro wx hSw
            clear hSw
            go_simp
            with_reducible rfl
          simp only [List.setIfInBounds_toArray, List.set_cons_zero, List.set_cons_succ]
          refine wpAnyH_ready (rs := [8]) (by kernel_rfl) (by simp) ?_
          refine AllReadyH.cons rfl (fun K hK => ?_) AllReadyH.nil
          go_simp
          refine hK.out _ _ hHeld (fun hHeld => ?_)
          clear hK K
          refine wpAnyH_done (by kernel_rfl) ?_ _
          have bq := hHeld
          replace xT := xT.next bq
          replace xS := xS.next bq
          replace xC := xC.next bq
          have HW9 := HW9.out.next bq
          replace bb := bb.trans (bq.mono bb.size)
          have HW9 : Hid _ := HW9
          generalize w7.drew = w8 at *
          clear bq hHeld kC8 lC hcT
          have c15 := xT.cell 15 _ rfl
          have c14 := xT.cell 14 _ rfl
          have c18 := xT.cell 18 _ rfl
          have lT := xT.lt
          have kC9 := xC.cell 9 _ rfl
          have kC4 := xC.cell 4 _ rfl
          have lC := xC.lt
          go_wp2_with (first | (refine wpList_load_boxg xT rfl 30 _ rfl rfl _ Tryd.underlying30 rfl (by kernel_rfl) ?_))
          refine (sendConfirmed_law HW9.out (by omega)).mono ?_
          rintro e w9 ⟨rfl, b9⟩
          replace xT := xT.next b9
          replace xS := xS.next b9
          replace xC := xC.next b9
          have HW9 := HW9.out.next b9
          replace bb := bb.trans (b9.mono bb.size)
          clear b9 c15 c14 c18 lT kC9 kC4 lC
          go_wp2_with (first | (refine wpList_load_box xT rfl 30 _ rfl rfl _ Tryd.underlying30 rfl (by kernel_rfl) ?_) | (refine wpList_store_box xS rfl 30 _ _ rfl rfl rfl rfl (by kernel_rfl) (by simp [Value.oneCell']) ?_))
          have xSn := xS.setRow #[.int .i64 c.cB, .int .i64 c.cBeam, .int .i64 c.cDepth, .int .i64 c.cWin, .int .i64 c.cQs, .int .i64 c.cQr, .int .i64 c.cBatch, .int .i64 c.cPass, .int .i64 c.cMsg, .int .i64 c.cSeqs, .bool false, .int .i64 0, .int .i64 R9, .int .i64 B9, .int .i64 (E9 : Int), .int .i64 (M9 : Int), .int .i64 F9, .slice fa E9 fc, .slice va M9 vc]
          have xCn := xC.otherRow (D := D) (by have := HDC.out; omega) #[.int .i64 c.cB, .int .i64 c.cBeam, .int .i64 c.cDepth, .int .i64 c.cWin, .int .i64 c.cQs, .int .i64 c.cQr, .int .i64 c.cBatch, .int .i64 c.cPass, .int .i64 c.cMsg, .int .i64 c.cSeqs, .bool false, .int .i64 0, .int .i64 R9, .int .i64 B9, .int .i64 (E9 : Int), .int .i64 (M9 : Int), .int .i64 F9, .slice fa E9 fc, .slice va M9 vc]
          have bbn := below_setRow bb (show w.heap.size ≤ D by have := HDC.out; omega) #[.int .i64 c.cB, .int .i64 c.cBeam, .int .i64 c.cDepth, .int .i64 c.cWin, .int .i64 c.cQs, .int .i64 c.cQr, .int .i64 c.cBatch, .int .i64 c.cPass, .int .i64 c.cMsg, .int .i64 c.cSeqs, .bool false, .int .i64 0, .int .i64 R9, .int .i64 B9, .int .i64 (E9 : Int), .int .i64 (M9 : Int), .int .i64 F9, .slice fa E9 fc, .slice va M9 vc]
          have HSN := (HW9.old (D := D) (by omega) (fun g hg => setRow_other w9 D g #[.int .i64 c.cB, .int .i64 c.cBeam, .int .i64 c.cDepth, .int .i64 c.cWin, .int .i64 c.cQs, .int .i64 c.cQr, .int .i64 c.cBatch, .int .i64 c.cPass, .int .i64 c.cMsg, .int .i64 c.cSeqs, .bool false, .int .i64 0, .int .i64 R9, .int .i64 B9, .int .i64 (E9 : Int), .int .i64 (M9 : Int), .int .i64 F9, .slice fa E9 fc, .slice va M9 vc] hg)).more (show 200 * k + 200 ≤ 200 * (k + 1) by omega)
          exact ⟨⟨k + 1, hlt, by go_num, sendS s x, P, R9, B9, E9, M9, F9, E9, M9, fa, fc, va, vc, rfl, rfl, HON9, HSN, xSn, xCn, bbn⟩, by simp [intOf]; omega⟩
        have d2 : decide (c.cSeqs < T + q) = false := decide_eq_false g2
        have wTq : IntKind.i64.wrap (T + q) = T + q := by rw [IntKind.wrap_i64]; omega
        by_cases g3 : c.cQs ≤ N
        · have he : errS s x = 9 := by rw [ht, if_neg g1, if_neg g2, if_pos g3]
          have hno := sendS_no he (by decide)
          have hr := sendS_R s x (by rw [heR]; exact HON.out.2.2.2.1) (by rw [heR]; have := HON.out.2.2.2.2; omega)
          have HON9 : Hid (OnlyS c (P) (sendS s x) ∧ (sendS s x).sX = false ∧ (P).length ≤ k + 1 ∧ 0 ≤ R9 ∧ R9 ≤ ((k + 1 : Nat) : Int)) := by
            have h1 := HON.out
            have h2 := HW9.out.is.eR
            refine ⟨?_, hon9.2.trans h1.2.1, ?_, ?_, ?_⟩
            · have h3 := hon9.1
              rw [he] at h3
              simpa using h3
            · omega
            · omega
            · push_cast; omega
          obtain rfl : T = (M9 : Int) := by have h9N := HW9.out.is.eN; have h9T := HW9.out.is.eT; omega
          obtain rfl : N = (E9 : Int) := by have h9N := HW9.out.is.eN; have h9T := HW9.out.is.eT; omega
          rw [he]
          have d3 : decide (c.cQs ≤ (E9 : Int)) = true := decide_eq_true g3
          clear heT heN heR heE hEN hon9 hcf g1 g2 g3 hn4 HX0 hsC hq hqb
          clear he hno hr ht hcs hT0 hT3 hN0
          go_upto_region 17 with fail
          refine wp_region_held_drew (S := fun w' => Below w7.heap.size w7 w') (by kernel_rfl) ((Below.refl _ _).drew) (fun hHeld => ?_)
          refine held_take (i := 0) (d := 72) (v := ?v31) rfl rfl (by kernel_rfl) (by kernel_rfl) (by kernel_rfl) (fun _ _ _ h => h) (Or.inl ⟨by kernel_rfl, ?hy31⟩) hHeld ?rest31
          case hy31 =>
            intro wx hSw
            clear hSw
            go_simp
            with_reducible rfl
          simp only [List.setIfInBounds_toArray, List.set_cons_zero, List.set_cons_succ]
          refine held_take (i := 1) (d := 73) (v := ?v32) rfl rfl (by kernel_rfl) (by kernel_rfl) (by kernel_rfl) (fun _ _ _ h => h) (Or.inl ⟨by kernel_rfl, ?hy32⟩) hHeld ?rest32
          case hy32 =>
            intro wx hSw
            clear hSw
            go_simp
            with_reducible rfl
          simp only [List.setIfInBounds_toArray, List.set_cons_zero, List.set_cons_succ]
          refine held_take (i := 2) (d := 74) (v := ?v33) rfl rfl (by kernel_rfl) (by kernel_rfl) (by kernel_rfl) (fun _ _ _ h => h) (Or.inl ⟨by kernel_rfl, ?hy33⟩) hHeld ?rest33
          case hy33 =>
            intro wx hSw
            clear hSw
            go_simp
            with_reducible rfl
          simp only [List.setIfInBounds_toArray, List.set_cons_zero, List.set_cons_succ]
          refine held_take (i := 3) (d := 75) (v := ?v34) rfl rfl (by kernel_rfl) (by kernel_rfl) (by kernel_rfl) (fun _ _ _ h => h) (Or.inl ⟨by kernel_rfl, ?hy34⟩) hHeld ?rest34
          case hy34 =>
            intro wx hSw
            have q0 := (hSw.cell (p := ⟨bT, off + k, none⟩) hbT7).trans hcT
            clear hSw
            go_simp
            with_reducible rfl
          simp only [List.setIfInBounds_toArray, List.set_cons_zero, List.set_cons_succ]
          refine held_take (i := 4) (d := 76) (v := ?v35) rfl rfl (by kernel_rfl) (by kernel_rfl) (by kernel_rfl) (fun _ _ _ h => h) (Or.inl ⟨by kernel_rfl, ?hy35⟩) hHeld ?rest35
          case hy35 =>
            intro wx hSw
            clear hSw
            go_simp
            with_reducible rfl
          simp only [List.setIfInBounds_toArray, List.set_cons_zero, List.set_cons_succ]
          refine held_take (i := 5) (d := 77) (v := ?v36) rfl rfl (by kernel_rfl) (by kernel_rfl) (by kernel_rfl) (fun _ _ _ h => h) (Or.inl ⟨by kernel_rfl, ?hy36⟩) hHeld ?rest36
          case hy36 =>
            intro wx hSw
            clear hSw
            go_simp
            with_reducible rfl
          simp only [List.setIfInBounds_toArray, List.set_cons_zero, List.set_cons_succ]
          refine held_take (i := 6) (d := 78) (v := ?v37) rfl rfl (by kernel_rfl) (by kernel_rfl) (by kernel_rfl) (fun _ _ _ h => h) (Or.inl ⟨by kernel_rfl, ?hy37⟩) hHeld ?rest37
          case hy37 =>
            intro wx hSw
            have q0 := (hSw.cell (p := ⟨w.heap.size, 8, none⟩) lC).trans kC8.out
            clear hSw
            go_simp
            with_reducible rfl
          simp only [List.setIfInBounds_toArray, List.set_cons_zero, List.set_cons_succ]
          refine held_take (i := 7) (d := 79) (v := ?v38) rfl rfl (by kernel_rfl) (by kernel_rfl) (by kernel_rfl) (fun _ _ _ h => h) (Or.inl ⟨by kernel_rfl, ?hy38⟩) hHeld ?rest38
          case hy38 =>
            intro wx hSw
            clear hSw
            go_simp
            with_reducible rfl
          simp only [List.setIfInBounds_toArray, List.set_cons_zero, List.set_cons_succ]
          refine wpAnyH_ready (rs := [8]) (by kernel_rfl) (by simp) ?_
          refine AllReadyH.cons rfl (fun K hK => ?_) AllReadyH.nil
          go_simp
          refine hK.out _ _ hHeld (fun hHeld => ?_)
          clear hK K
          refine wpAnyH_done (by kernel_rfl) ?_ _
          have bq := hHeld
          replace xT := xT.next bq
          replace xS := xS.next bq
          replace xC := xC.next bq
          have HW9 := HW9.out.next bq
          replace bb := bb.trans (bq.mono bb.size)
          have HW9 : Hid _ := HW9
          generalize w7.drew = w8 at *
          clear bq hHeld kC8 lC hcT
          have c15 := xT.cell 15 _ rfl
          have c14 := xT.cell 14 _ rfl
          have c18 := xT.cell 18 _ rfl
          have lT := xT.lt
          have kC9 := xC.cell 9 _ rfl
          have kC4 := xC.cell 4 _ rfl
          have lC := xC.lt
          go_wp2_with (first | (refine wpList_load_boxg xT rfl 30 _ rfl rfl _ Tryd.underlying30 rfl (by kernel_rfl) ?_))
          refine (sendConfirmed_law HW9.out (by omega)).mono ?_
          rintro e w9 ⟨rfl, b9⟩
          replace xT := xT.next b9
          replace xS := xS.next b9
          replace xC := xC.next b9
          have HW9 := HW9.out.next b9
          replace bb := bb.trans (b9.mono bb.size)
          clear b9 c15 c14 c18 lT kC9 kC4 lC
          go_wp2_with (first | (refine wpList_load_box xT rfl 30 _ rfl rfl _ Tryd.underlying30 rfl (by kernel_rfl) ?_) | (refine wpList_store_box xS rfl 30 _ _ rfl rfl rfl rfl (by kernel_rfl) (by simp [Value.oneCell']) ?_))
          have xSn := xS.setRow #[.int .i64 c.cB, .int .i64 c.cBeam, .int .i64 c.cDepth, .int .i64 c.cWin, .int .i64 c.cQs, .int .i64 c.cQr, .int .i64 c.cBatch, .int .i64 c.cPass, .int .i64 c.cMsg, .int .i64 c.cSeqs, .bool false, .int .i64 0, .int .i64 R9, .int .i64 B9, .int .i64 (E9 : Int), .int .i64 (M9 : Int), .int .i64 F9, .slice fa E9 fc, .slice va M9 vc]
          have xCn := xC.otherRow (D := D) (by have := HDC.out; omega) #[.int .i64 c.cB, .int .i64 c.cBeam, .int .i64 c.cDepth, .int .i64 c.cWin, .int .i64 c.cQs, .int .i64 c.cQr, .int .i64 c.cBatch, .int .i64 c.cPass, .int .i64 c.cMsg, .int .i64 c.cSeqs, .bool false, .int .i64 0, .int .i64 R9, .int .i64 B9, .int .i64 (E9 : Int), .int .i64 (M9 : Int), .int .i64 F9, .slice fa E9 fc, .slice va M9 vc]
          have bbn := below_setRow bb (show w.heap.size ≤ D by have := HDC.out; omega) #[.int .i64 c.cB, .int .i64 c.cBeam, .int .i64 c.cDepth, .int .i64 c.cWin, .int .i64 c.cQs, .int .i64 c.cQr, .int .i64 c.cBatch, .int .i64 c.cPass, .int .i64 c.cMsg, .int .i64 c.cSeqs, .bool false, .int .i64 0, .int .i64 R9, .int .i64 B9, .int .i64 (E9 : Int), .int .i64 (M9 : Int), .int .i64 F9, .slice fa E9 fc, .slice va M9 vc]
          have HSN := (HW9.old (D := D) (by omega) (fun g hg => setRow_other w9 D g #[.int .i64 c.cB, .int .i64 c.cBeam, .int .i64 c.cDepth, .int .i64 c.cWin, .int .i64 c.cQs, .int .i64 c.cQr, .int .i64 c.cBatch, .int .i64 c.cPass, .int .i64 c.cMsg, .int .i64 c.cSeqs, .bool false, .int .i64 0, .int .i64 R9, .int .i64 B9, .int .i64 (E9 : Int), .int .i64 (M9 : Int), .int .i64 F9, .slice fa E9 fc, .slice va M9 vc] hg)).more (show 200 * k + 200 ≤ 200 * (k + 1) by omega)
          exact ⟨⟨k + 1, hlt, by go_num, sendS s x, P, R9, B9, E9, M9, F9, E9, M9, fa, fc, va, vc, rfl, rfl, HON9, HSN, xSn, xCn, bbn⟩, by simp [intOf]; omega⟩
        · have he : errS s x = 0 := by rw [ht, if_neg g1, if_neg g2, if_neg g3]
          have hno := sendS_yes he
          have hr := sendS_R s x (by rw [heR]; exact HON.out.2.2.2.1) (by rw [heR]; have := HON.out.2.2.2.2; omega)
          have HON9 : Hid (OnlyS c (P ++ [x]) (sendS s x) ∧ (sendS s x).sX = false ∧ (P ++ [x]).length ≤ k + 1 ∧ 0 ≤ R9 ∧ R9 ≤ ((k + 1 : Nat) : Int)) := by
            have h1 := HON.out
            have h2 := HW9.out.is.eR
            refine ⟨?_, hon9.2.trans h1.2.1, ?_, ?_, ?_⟩
            · have h3 := hon9.1
              rw [he] at h3
              simpa using h3
            · simp only [List.length_append, List.length_singleton]; omega
            · omega
            · push_cast; omega
          have hTq : T + q = (M9 : Int) := by
            have h := hno.2.1
            rw [hsC, HNX.out, hq] at h
            have := HW9.out.is.eT
            omega
          have hN1 : N + 1 = (E9 : Int) := by have h9N := HW9.out.is.eN; have h9T := HW9.out.is.eT; have := hno.1; omega
          have wN1 : IntKind.i64.wrap (N + 1) = (E9 : Int) := by rw [IntKind.wrap_i64]; omega
          rw [hTq] at d2
          replace wTq := wTq.trans hTq
          rw [he]
          have d3 : decide (c.cQs ≤ N) = false := decide_eq_false g3
          clear heT heN heR heE hEN hon9 hcf g1 g2 g3 hn4 HX0 hsC hq hqb hTq hN1
          clear he hno hr ht hcs hT0 hT3 hN0
          go_upto_region 17 with fail
          refine wp_region_held_drew (S := fun w' => Below w7.heap.size w7 w') (by kernel_rfl) ((Below.refl _ _).drew) (fun hHeld => ?_)
          refine held_take (i := 0) (d := 72) (v := ?v39) rfl rfl (by kernel_rfl) (by kernel_rfl) (by kernel_rfl) (fun _ _ _ h => h) (Or.inl ⟨by kernel_rfl, ?hy39⟩) hHeld ?rest39
          case hy39 =>
            intro wx hSw
            clear hSw
            go_simp
            with_reducible rfl
          simp only [List.setIfInBounds_toArray, List.set_cons_zero, List.set_cons_succ]
          refine held_take (i := 1) (d := 73) (v := ?v40) rfl rfl (by kernel_rfl) (by kernel_rfl) (by kernel_rfl) (fun _ _ _ h => h) (Or.inl ⟨by kernel_rfl, ?hy40⟩) hHeld ?rest40
          case hy40 =>
            intro wx hSw
            clear hSw
            go_simp
            with_reducible rfl
          simp only [List.setIfInBounds_toArray, List.set_cons_zero, List.set_cons_succ]
          refine held_take (i := 2) (d := 74) (v := ?v41) rfl rfl (by kernel_rfl) (by kernel_rfl) (by kernel_rfl) (fun _ _ _ h => h) (Or.inl ⟨by kernel_rfl, ?hy41⟩) hHeld ?rest41
          case hy41 =>
            intro wx hSw
            clear hSw
            go_simp
            with_reducible rfl
          simp only [List.setIfInBounds_toArray, List.set_cons_zero, List.set_cons_succ]
          refine held_take (i := 3) (d := 75) (v := ?v42) rfl rfl (by kernel_rfl) (by kernel_rfl) (by kernel_rfl) (fun _ _ _ h => h) (Or.inl ⟨by kernel_rfl, ?hy42⟩) hHeld ?rest42
          case hy42 =>
            intro wx hSw
            have q0 := (hSw.cell (p := ⟨bT, off + k, none⟩) hbT7).trans hcT
            clear hSw
            go_simp
            with_reducible rfl
          simp only [List.setIfInBounds_toArray, List.set_cons_zero, List.set_cons_succ]
          refine held_take (i := 4) (d := 76) (v := ?v43) rfl rfl (by kernel_rfl) (by kernel_rfl) (by kernel_rfl) (fun _ _ _ h => h) (Or.inl ⟨by kernel_rfl, ?hy43⟩) hHeld ?rest43
          case hy43 =>
            intro wx hSw
            clear hSw
            go_simp
            with_reducible rfl
          simp only [List.setIfInBounds_toArray, List.set_cons_zero, List.set_cons_succ]
          refine held_take (i := 5) (d := 77) (v := ?v44) rfl rfl (by kernel_rfl) (by kernel_rfl) (by kernel_rfl) (fun _ _ _ h => h) (Or.inl ⟨by kernel_rfl, ?hy44⟩) hHeld ?rest44
          case hy44 =>
            intro wx hSw
            clear hSw
            go_simp
            with_reducible rfl
          simp only [List.setIfInBounds_toArray, List.set_cons_zero, List.set_cons_succ]
          refine held_take (i := 6) (d := 78) (v := ?v45) rfl rfl (by kernel_rfl) (by kernel_rfl) (by kernel_rfl) (fun _ _ _ h => h) (Or.inl ⟨by kernel_rfl, ?hy45⟩) hHeld ?rest45
          case hy45 =>
            intro wx hSw
            have q0 := (hSw.cell (p := ⟨w.heap.size, 8, none⟩) lC).trans kC8.out
            clear hSw
            go_simp
            with_reducible rfl
          simp only [List.setIfInBounds_toArray, List.set_cons_zero, List.set_cons_succ]
          refine held_take (i := 7) (d := 79) (v := ?v46) rfl rfl (by kernel_rfl) (by kernel_rfl) (by kernel_rfl) (fun _ _ _ h => h) (Or.inl ⟨by kernel_rfl, ?hy46⟩) hHeld ?rest46
          case hy46 =>
            intro wx hSw
            clear hSw
            go_simp
            with_reducible rfl
          simp only [List.setIfInBounds_toArray, List.set_cons_zero, List.set_cons_succ]
          refine wpAnyH_ready (rs := [8]) (by kernel_rfl) (by simp) ?_
          refine AllReadyH.cons rfl (fun K hK => ?_) AllReadyH.nil
          go_simp
          refine hK.out _ _ hHeld (fun hHeld => ?_)
          clear hK K
          refine wpAnyH_done (by kernel_rfl) ?_ _
          have bq := hHeld
          replace xT := xT.next bq
          replace xS := xS.next bq
          replace xC := xC.next bq
          have HW9 := HW9.out.next bq
          replace bb := bb.trans (bq.mono bb.size)
          have HW9 : Hid _ := HW9
          generalize w7.drew = w8 at *
          clear bq hHeld kC8 lC hcT
          have c15 := xT.cell 15 _ rfl
          have c14 := xT.cell 14 _ rfl
          have c18 := xT.cell 18 _ rfl
          have lT := xT.lt
          have kC9 := xC.cell 9 _ rfl
          have kC4 := xC.cell 4 _ rfl
          have lC := xC.lt
          go_wp2_with (first | (refine wpList_load_boxg xT rfl 30 _ rfl rfl _ Tryd.underlying30 rfl (by kernel_rfl) ?_))
          refine (sendConfirmed_law HW9.out (by omega)).mono ?_
          rintro e w9 ⟨rfl, b9⟩
          replace xT := xT.next b9
          replace xS := xS.next b9
          replace xC := xC.next b9
          have HW9 := HW9.out.next b9
          replace bb := bb.trans (b9.mono bb.size)
          clear b9 c15 c14 c18 lT kC9 kC4 lC
          go_wp2_with (first | (refine wpList_load_box xT rfl 30 _ rfl rfl _ Tryd.underlying30 rfl (by kernel_rfl) ?_) | (refine wpList_store_box xS rfl 30 _ _ rfl rfl rfl rfl (by kernel_rfl) (by simp [Value.oneCell']) ?_))
          have xSn := xS.setRow #[.int .i64 c.cB, .int .i64 c.cBeam, .int .i64 c.cDepth, .int .i64 c.cWin, .int .i64 c.cQs, .int .i64 c.cQr, .int .i64 c.cBatch, .int .i64 c.cPass, .int .i64 c.cMsg, .int .i64 c.cSeqs, .bool false, .int .i64 0, .int .i64 R9, .int .i64 B9, .int .i64 (E9 : Int), .int .i64 (M9 : Int), .int .i64 F9, .slice fa E9 fc, .slice va M9 vc]
          have xCn := xC.otherRow (D := D) (by have := HDC.out; omega) #[.int .i64 c.cB, .int .i64 c.cBeam, .int .i64 c.cDepth, .int .i64 c.cWin, .int .i64 c.cQs, .int .i64 c.cQr, .int .i64 c.cBatch, .int .i64 c.cPass, .int .i64 c.cMsg, .int .i64 c.cSeqs, .bool false, .int .i64 0, .int .i64 R9, .int .i64 B9, .int .i64 (E9 : Int), .int .i64 (M9 : Int), .int .i64 F9, .slice fa E9 fc, .slice va M9 vc]
          have bbn := below_setRow bb (show w.heap.size ≤ D by have := HDC.out; omega) #[.int .i64 c.cB, .int .i64 c.cBeam, .int .i64 c.cDepth, .int .i64 c.cWin, .int .i64 c.cQs, .int .i64 c.cQr, .int .i64 c.cBatch, .int .i64 c.cPass, .int .i64 c.cMsg, .int .i64 c.cSeqs, .bool false, .int .i64 0, .int .i64 R9, .int .i64 B9, .int .i64 (E9 : Int), .int .i64 (M9 : Int), .int .i64 F9, .slice fa E9 fc, .slice va M9 vc]
          have HSN := (HW9.old (D := D) (by omega) (fun g hg => setRow_other w9 D g #[.int .i64 c.cB, .int .i64 c.cBeam, .int .i64 c.cDepth, .int .i64 c.cWin, .int .i64 c.cQs, .int .i64 c.cQr, .int .i64 c.cBatch, .int .i64 c.cPass, .int .i64 c.cMsg, .int .i64 c.cSeqs, .bool false, .int .i64 0, .int .i64 R9, .int .i64 B9, .int .i64 (E9 : Int), .int .i64 (M9 : Int), .int .i64 F9, .slice fa E9 fc, .slice va M9 vc] hg)).more (show 200 * k + 200 ≤ 200 * (k + 1) by omega)
          exact ⟨⟨k + 1, hlt, by go_num, sendS s x, P ++ [x], R9, B9, E9, M9, F9, E9, M9, fa, fc, va, vc, rfl, rfl, HON9, HSN, xSn, xCn, bbn⟩, by simp [intOf]; omega⟩
      refine AllReadyH.cons rfl (fun K hK => ?_) ?_
      · go_simp
        have bA9 : Below w5.heap.size w5 (w5.alloc (.cells #[.int .i64 0, .int .i64 0, .int .i64 0, .int .i64 0, .int .i64 0, .int .i64 0, .int .i64 0, .int .i64 0, .int .i64 0, .int .i64 0, .bool false, .int .i64 0, .int .i64 0, .int .i64 0, .int .i64 0, .int .i64 0, .int .i64 0, .slice none 0 0, .slice none 0 0] 30)).drew := ((Below.refl w5.heap.size w5).alloc (Nat.le_refl _) _).drew
        have xT : Box (w5.alloc (.cells #[.int .i64 0, .int .i64 0, .int .i64 0, .int .i64 0, .int .i64 0, .int .i64 0, .int .i64 0, .int .i64 0, .int .i64 0, .int .i64 0, .bool false, .int .i64 0, .int .i64 0, .int .i64 0, .int .i64 0, .int .i64 0, .int .i64 0, .slice none 0 0, .slice none 0 0] 30)).drew w5.heap.size 30 #[.int .i64 0, .int .i64 0, .int .i64 0, .int .i64 0, .int .i64 0, .int .i64 0, .int .i64 0, .int .i64 0, .int .i64 0, .int .i64 0, .bool false, .int .i64 0, .int .i64 0, .int .i64 0, .int .i64 0, .int .i64 0, .int .i64 0, .slice none 0 0, .slice none 0 0] := (Box.new w5 30 #[.int .i64 0, .int .i64 0, .int .i64 0, .int .i64 0, .int .i64 0, .int .i64 0, .int .i64 0, .int .i64 0, .int .i64 0, .int .i64 0, .bool false, .int .i64 0, .int .i64 0, .int .i64 0, .int .i64 0, .int .i64 0, .int .i64 0, .slice none 0 0, .slice none 0 0]).next (Below.refl _ _).drew
        have h58 := xT.lt
        generalize (w5.alloc (.cells #[.int .i64 0, .int .i64 0, .int .i64 0, .int .i64 0, .int .i64 0, .int .i64 0, .int .i64 0, .int .i64 0, .int .i64 0, .int .i64 0, .bool false, .int .i64 0, .int .i64 0, .int .i64 0, .int .i64 0, .int .i64 0, .int .i64 0, .slice none 0 0, .slice none 0 0] 30)).drew = w8 at *
        refine hK.out _ _ (bA9) (fun hHeld => ?_)
        clear hK K
        refine wpAnyH_ready (rs := [5]) (by kernel_rfl) (by simp) ?_
        refine AllReadyH.cons rfl (fun K hK => ?_) AllReadyH.nil
        go_simp
        go_wp2_with (go_at_call 9; refine (HSD.out w8 bA9).mono ?_; rintro e w9 ⟨R9, B9, N9, T9, F9, E9, M9, fa, fc, va, vc, rfl, hS, b9⟩)
        have b9d : Below w5.heap.size w5 w9 := (bA9).trans (b9.mono (bA9).size)
        replace xT := xT.next b9
        refine hK.out _ _ (b9d) (fun hHeld => ?_)
        clear hK K
        refine held_take (i := 6) (d := 50) (v := ?v47) rfl rfl (by kernel_rfl) (by kernel_rfl) (by kernel_rfl) (fun _ _ _ h => h) (Or.inl ⟨by kernel_rfl, ?hy47⟩) hHeld ?rest47
        case hy47 =>
          intro wx hSw
          clear hSw
          go_simp
          with_reducible rfl
        simp only [List.setIfInBounds_toArray, List.set_cons_zero, List.set_cons_succ]
        refine held_take (i := 7) (d := 57) (v := ?v48) rfl rfl (by kernel_rfl) (by kernel_rfl) (by kernel_rfl) (fun _ _ _ h => h) (Or.inl ⟨by kernel_rfl, ?hy48⟩) hHeld ?rest48
        case hy48 =>
          intro wx hSw
          clear hSw
          go_simp
          with_reducible rfl
        simp only [List.setIfInBounds_toArray, List.set_cons_zero, List.set_cons_succ]
        refine held_take (i := 8) (d := 58) (v := ?v49) rfl rfl (by kernel_rfl) (by kernel_rfl) (by kernel_rfl) (fun _ _ _ h => h) (Or.inl ⟨by kernel_rfl, ?hy49⟩) hHeld ?rest49
        case hy49 =>
          intro wx hSw
          clear hSw
          go_simp
          with_reducible rfl
        simp only [List.setIfInBounds_toArray, List.set_cons_zero, List.set_cons_succ]
        refine wpAnyH_ready (rs := [10]) (by kernel_rfl) (by simp) ?_
        refine AllReadyH.cons rfl (fun K hK => ?_) AllReadyH.nil
        refine step_store_boxn xT rfl 30 _ _ rfl rfl rfl rfl (by kernel_rfl) (by simp [Value.oneCell']) ?_
        simp only [Act.put, List.setIfInBounds_toArray]
        refine hK.out _ _ (below_setRow b9d (Nat.le_refl w5.heap.size) #[.int .i64 c.cB, .int .i64 c.cBeam, .int .i64 c.cDepth, .int .i64 c.cWin, .int .i64 c.cQs, .int .i64 c.cQr, .int .i64 c.cBatch, .int .i64 c.cPass, .int .i64 c.cMsg, .int .i64 c.cSeqs, .bool false, .int .i64 0, .int .i64 R9, .int .i64 B9, .int .i64 N9, .int .i64 T9, .int .i64 F9, .slice fa E9 fc, .slice va M9 vc]) (fun hHeld => ?_)
        clear hK K
        refine wpAnyH_ready (rs := [11]) (by kernel_rfl) (by simp) ?_
        refine AllReadyH.cons rfl (fun K hK => ?_) AllReadyH.nil
        go_simp
        refine hK.out _ _ hHeld (fun hHeld => ?_)
        clear hK K
        refine wpAnyH_done (by kernel_rfl) ?_ _
        have bq : Below w5.heap.size w5 (w9.setRow w5.heap.size #[.int .i64 c.cB, .int .i64 c.cBeam, .int .i64 c.cDepth, .int .i64 c.cWin, .int .i64 c.cQs, .int .i64 c.cQr, .int .i64 c.cBatch, .int .i64 c.cPass, .int .i64 c.cMsg, .int .i64 c.cSeqs, .bool false, .int .i64 0, .int .i64 R9, .int .i64 B9, .int .i64 N9, .int .i64 T9, .int .i64 F9, .slice fa E9 fc, .slice va M9 vc]) := hHeld
        replace xT := xT.setRow #[.int .i64 c.cB, .int .i64 c.cBeam, .int .i64 c.cDepth, .int .i64 c.cWin, .int .i64 c.cQs, .int .i64 c.cQr, .int .i64 c.cBatch, .int .i64 c.cPass, .int .i64 c.cMsg, .int .i64 c.cSeqs, .bool false, .int .i64 0, .int .i64 R9, .int .i64 B9, .int .i64 N9, .int .i64 T9, .int .i64 F9, .slice fa E9 fc, .slice va M9 vc]
        have hW9 := (hS.out.old (D := w5.heap.size) (by omega) (fun g hg => setRow_other w9 w5.heap.size g #[.int .i64 c.cB, .int .i64 c.cBeam, .int .i64 c.cDepth, .int .i64 c.cWin, .int .i64 c.cQs, .int .i64 c.cQr, .int .i64 c.cBatch, .int .i64 c.cPass, .int .i64 c.cMsg, .int .i64 c.cSeqs, .bool false, .int .i64 0, .int .i64 R9, .int .i64 B9, .int .i64 N9, .int .i64 T9, .int .i64 F9, .slice fa E9 fc, .slice va M9 vc] hg)).lower (base' := D + 1) (by omega)
        replace xS := xS.next bq
        replace xC := xC.next bq
        have hW5 := HSW.out.next bq
        replace bb := bb.trans (bq.mono bb.size)
        replace hcT := (bq.cell (p := ⟨bT, off + k, none⟩) hbT5).trans hcT
        obtain ⟨DT, hDT⟩ : ∃ D, w5.heap.size = D := ⟨_, rfl⟩
        have HDT : Hid (D < DT ∧ w.heap.size < DT) := by
          have h1 := hDw
          have h2 := HDC.out
          have h3 := b9d.size
          constructor <;> omega
        rw [hDT] at xT xS xC hW5 hW9 bb hcT ⊢
        clear bq bA9 b9d b9 h58 hDT hS HSD hHeld
        generalize (w9.setRow DT #[.int .i64 c.cB, .int .i64 c.cBeam, .int .i64 c.cDepth, .int .i64 c.cWin, .int .i64 c.cQs, .int .i64 c.cQr, .int .i64 c.cBatch, .int .i64 c.cPass, .int .i64 c.cMsg, .int .i64 c.cSeqs, .bool false, .int .i64 0, .int .i64 R9, .int .i64 B9, .int .i64 N9, .int .i64 T9, .int .i64 F9, .slice fa E9 fc, .slice va M9 vc]) = w6 at *
        have HW5 : Hid _ := hW5
        have HW9 : Hid _ := hW9
        clear hW5 hW9
        obtain ⟨q, hq⟩ : ∃ q, blocksA c n = q := ⟨_, rfl⟩
        have HBL := fun wx => ConfBlocks_any c n wx
        rw [hq] at HBL
        have HQ : Hid (blocksA c n = q) := hq
        clear hq
        have hbT6 : bT < w6.heap.size := Nat.lt_of_lt_of_le hbT (by have := bb.size; omega)
        go_wp2_with fail
        refine wp_region_held_drew (S := fun w' => Below w6.heap.size w6 w') (by kernel_rfl) ((Below.refl _ _).drew) (fun hHeld => ?_)
        refine held_take (i := 0) (d := 59) (v := ?v50) rfl rfl (by kernel_rfl) (by kernel_rfl) (by kernel_rfl) (fun _ _ _ h => h) (Or.inl ⟨by kernel_rfl, ?hy50⟩) hHeld ?rest50
        case hy50 =>
          refine yields_box 23 ?yx50 ?yo50 ?yh50 _ (fun wx hSw => xC.below hSw xC.lt) Tryd.underlying23 rfl (by kernel_rfl)
          case yo50 => rfl
          case yh50 => rfl
        simp only [List.setIfInBounds_toArray, List.set_cons_zero, List.set_cons_succ]
        refine held_take (i := 1) (d := 60) (v := ?v51) rfl rfl (by kernel_rfl) (by kernel_rfl) (by kernel_rfl) (fun _ _ _ h => h) (Or.inl ⟨by kernel_rfl, ?hy51⟩) hHeld ?rest51
        case hy51 =>
          intro wx hSw
          clear hSw
          go_simp
          with_reducible rfl
        simp only [List.setIfInBounds_toArray, List.set_cons_zero, List.set_cons_succ]
        refine held_take (i := 2) (d := 61) (v := ?v52) rfl rfl (by kernel_rfl) (by kernel_rfl) (by kernel_rfl) (fun _ _ _ h => h) (Or.inl ⟨by kernel_rfl, ?hy52⟩) hHeld ?rest52
        case hy52 =>
          intro wx hSw
          clear hSw
          go_simp
          with_reducible rfl
        simp only [List.setIfInBounds_toArray, List.set_cons_zero, List.set_cons_succ]
        refine held_take (i := 3) (d := 62) (v := ?v53) rfl rfl (by kernel_rfl) (by kernel_rfl) (by kernel_rfl) (fun _ _ _ h => h) (Or.inl ⟨by kernel_rfl, ?hy53⟩) hHeld ?rest53
        case hy53 =>
          intro wx hSw
          clear hSw
          go_simp
          with_reducible rfl
        simp only [List.setIfInBounds_toArray, List.set_cons_zero, List.set_cons_succ]
        refine held_take (i := 4) (d := 63) (v := ?v54) rfl rfl (by kernel_rfl) (by kernel_rfl) (by kernel_rfl) (fun _ _ _ h => h) (Or.inl ⟨by kernel_rfl, ?hy54⟩) hHeld ?rest54
        case hy54 =>
          intro wx hSw
          have q0 := (hSw.cell (p := ⟨bT, off + k, none⟩) hbT6).trans hcT
          clear hSw
          go_simp
          with_reducible rfl
        simp only [List.setIfInBounds_toArray, List.set_cons_zero, List.set_cons_succ]
        refine held_take (i := 5) (d := 64) (v := ?v55) rfl rfl (by kernel_rfl) (by kernel_rfl) (by kernel_rfl) (fun _ _ _ h => h) (Or.inl ⟨by kernel_rfl, ?hy55⟩) hHeld ?rest55
        case hy55 =>
          intro wx hSw
          clear hSw
          go_simp
          with_reducible rfl
        simp only [List.setIfInBounds_toArray, List.set_cons_zero, List.set_cons_succ]
        refine wpAnyH_ready (rs := [6]) (by kernel_rfl) (by simp) ?_
        refine AllReadyH.cons rfl (fun K hK => ?_) AllReadyH.nil
        go_simp
        go_wp2_with (go_at_call 10; refine (HBL _).mono ?_; rintro e w7 ⟨rfl, b7⟩)
        have b7d : Below w6.heap.size w6 w7 := (Below.refl w6.heap.size w6).drew.trans b7
        refine hK.out _ _ (b7d) (fun hHeld => ?_)
        clear hK K
        refine wpAnyH_ready (rs := [7]) (by kernel_rfl) (by simp) ?_
        refine AllReadyH.cons rfl (fun K hK => ?_) AllReadyH.nil
        go_simp
        refine hK.out _ _ hHeld (fun hHeld => ?_)
        clear hK K
        refine wpAnyH_done (by kernel_rfl) ?_ _
        replace xT := xT.next b7d
        replace xS := xS.next b7d
        replace xC := xC.next b7d
        have HW5 := HW5.out.next b7d
        have HW9 := HW9.out.next b7d
        replace bb := bb.trans (b7d.mono bb.size)
        replace hcT := (b7d.cell (p := ⟨bT, off + k, none⟩) hbT6).trans hcT
        have hbT7 : bT < w7.heap.size := Nat.lt_of_lt_of_le hbT6 b7d.size
        have kC8 : Hid (w7.cell? ⟨w.heap.size, 8, none⟩ = some (.int .i64 c.cMsg)) := xC.cell 8 _ rfl
        have lC := xC.lt
        have HW5 : Hid _ := HW5
        have HW9 : Hid _ := HW9
        clear b7 b7d HBL hHeld
        have HX0 : s.sX = false := HON.out.2.1
        have hsC : s.sC = c := HON.out.1.same
        have heT := HW5.out.is.eT
        have heN := HW5.out.is.eN
        have heR := HW5.out.is.eR
        have heE := HW5.out.is.lE
        have hEN := (only_conf HON.out.1).2.1
        rw [heE, heN] at hEN
        have hon9 := only_send HON.out.1 x
        have hcf := only_conf hon9.1
        obtain rfl : N9 = (E9 : Int) := by rw [← HW9.out.is.eN, ← HW9.out.is.lE]; exact hcf.2.1.symm
        obtain rfl : T9 = (M9 : Int) := by rw [← HW9.out.is.eT, ← HW9.out.is.lW]; exact hcf.2.2.symm
        have ht := errS_table s x HX0
        rw [hsC, heT, heE, HNX.out, hEN] at ht
        have hcs := (okC_iff c).1 HC.out
        have hT0 : 0 ≤ T := by have h1 := HW5.out.ok.low; have h2 := HW5.out.ok.base; omega
        have hT3 : T ≤ 1073741824 := by have h1 := HW5.out.ok.next_bd; omega
        have hN0 : N ≤ 1000000 := by have := HW5.out.fewE; omega
        have hn4 := HN4.out
        have hD1 : D < DT := HDT.out.1
        by_cases g1 : c.cMsg < (n : Int)
        · have he : errS s x = 7 := by rw [ht, if_pos g1]
          have hno := sendS_no he (by decide)
          have hr := sendS_R s x (by rw [heR]; exact HON.out.2.2.2.1) (by rw [heR]; have := HON.out.2.2.2.2; omega)
          have HON9 : Hid (OnlyS c (P) (sendS s x) ∧ (sendS s x).sX = false ∧ (P).length ≤ k + 1 ∧ 0 ≤ R9 ∧ R9 ≤ ((k + 1 : Nat) : Int)) := by
            have h1 := HON.out
            have h2 := HW9.out.is.eR
            refine ⟨?_, hon9.2.trans h1.2.1, ?_, ?_, ?_⟩
            · have h3 := hon9.1
              rw [he] at h3
              simpa using h3
            · omega
            · omega
            · push_cast; omega
          obtain rfl : T = (M9 : Int) := by have h9N := HW9.out.is.eN; have h9T := HW9.out.is.eT; omega
          obtain rfl : N = (E9 : Int) := by have h9N := HW9.out.is.eN; have h9T := HW9.out.is.eT; omega
          rw [he]
          have d1 : decide (c.cMsg < (n : Int)) = true := decide_eq_true g1
          clear heT heN heR heE hEN hon9 hcf g1 hn4 HX0 hsC
          clear he hno hr ht hcs hT0 hT3 hN0
          go_upto_region 17 with fail
          refine wp_region_held_drew (S := fun w' => Below w7.heap.size w7 w') (by kernel_rfl) ((Below.refl _ _).drew) (fun hHeld => ?_)
          refine held_take (i := 0) (d := 72) (v := ?v56) rfl rfl (by kernel_rfl) (by kernel_rfl) (by kernel_rfl) (fun _ _ _ h => h) (Or.inl ⟨by kernel_rfl, ?hy56⟩) hHeld ?rest56
          case hy56 =>
            intro wx hSw
            clear hSw
            go_simp
            with_reducible rfl
          simp only [List.setIfInBounds_toArray, List.set_cons_zero, List.set_cons_succ]
          refine held_take (i := 1) (d := 73) (v := ?v57) rfl rfl (by kernel_rfl) (by kernel_rfl) (by kernel_rfl) (fun _ _ _ h => h) (Or.inl ⟨by kernel_rfl, ?hy57⟩) hHeld ?rest57
          case hy57 =>
            intro wx hSw
            clear hSw
            go_simp
            with_reducible rfl
          simp only [List.setIfInBounds_toArray, List.set_cons_zero, List.set_cons_succ]
          refine held_take (i := 2) (d := 74) (v := ?v58) rfl rfl (by kernel_rfl) (by kernel_rfl) (by kernel_rfl) (fun _ _ _ h => h) (Or.inl ⟨by kernel_rfl, ?hy58⟩) hHeld ?rest58
          case hy58 =>
            intro wx hSw
            clear hSw
            go_simp
            with_reducible rfl
          simp only [List.setIfInBounds_toArray, List.set_cons_zero, List.set_cons_succ]
          refine held_take (i := 3) (d := 75) (v := ?v59) rfl rfl (by kernel_rfl) (by kernel_rfl) (by kernel_rfl) (fun _ _ _ h => h) (Or.inl ⟨by kernel_rfl, ?hy59⟩) hHeld ?rest59
          case hy59 =>
            intro wx hSw
            have q0 := (hSw.cell (p := ⟨bT, off + k, none⟩) hbT7).trans hcT
            clear hSw
            go_simp
            with_reducible rfl
          simp only [List.setIfInBounds_toArray, List.set_cons_zero, List.set_cons_succ]
          refine held_take (i := 4) (d := 76) (v := ?v60) rfl rfl (by kernel_rfl) (by kernel_rfl) (by kernel_rfl) (fun _ _ _ h => h) (Or.inl ⟨by kernel_rfl, ?hy60⟩) hHeld ?rest60
          case hy60 =>
            intro wx hSw
            clear hSw
            go_simp
            with_reducible rfl
          simp only [List.setIfInBounds_toArray, List.set_cons_zero, List.set_cons_succ]
          refine held_take (i := 5) (d := 77) (v := ?v61) rfl rfl (by kernel_rfl) (by kernel_rfl) (by kernel_rfl) (fun _ _ _ h => h) (Or.inl ⟨by kernel_rfl, ?hy61⟩) hHeld ?rest61
          case hy61 =>
            intro wx hSw
            clear hSw
            go_simp
            with_reducible rfl
          simp only [List.setIfInBounds_toArray, List.set_cons_zero, List.set_cons_succ]
          refine held_take (i := 6) (d := 78) (v := ?v62) rfl rfl (by kernel_rfl) (by kernel_rfl) (by kernel_rfl) (fun _ _ _ h => h) (Or.inl ⟨by kernel_rfl, ?hy62⟩) hHeld ?rest62
          case hy62 =>
            intro wx hSw
            have q0 := (hSw.cell (p := ⟨w.heap.size, 8, none⟩) lC).trans kC8.out
            clear hSw
            go_simp
            with_reducible rfl
          simp only [List.setIfInBounds_toArray, List.set_cons_zero, List.set_cons_succ]
          refine held_take (i := 7) (d := 79) (v := ?v63) rfl rfl (by kernel_rfl) (by kernel_rfl) (by kernel_rfl) (fun _ _ _ h => h) (Or.inl ⟨by kernel_rfl, ?hy63⟩) hHeld ?rest63
          case hy63 =>
            intro wx hSw
            clear hSw
            go_simp
            with_reducible rfl
          simp only [List.setIfInBounds_toArray, List.set_cons_zero, List.set_cons_succ]
          refine wpAnyH_ready (rs := [8]) (by kernel_rfl) (by simp) ?_
          refine AllReadyH.cons rfl (fun K hK => ?_) AllReadyH.nil
          go_simp
          refine hK.out _ _ hHeld (fun hHeld => ?_)
          clear hK K
          refine wpAnyH_done (by kernel_rfl) ?_ _
          have bq := hHeld
          replace xT := xT.next bq
          replace xS := xS.next bq
          replace xC := xC.next bq
          have HW9 := HW9.out.next bq
          replace bb := bb.trans (bq.mono bb.size)
          have HW9 : Hid _ := HW9
          generalize w7.drew = w8 at *
          clear bq hHeld kC8 lC hcT
          have c15 := xT.cell 15 _ rfl
          have c14 := xT.cell 14 _ rfl
          have c18 := xT.cell 18 _ rfl
          have lT := xT.lt
          have kC9 := xC.cell 9 _ rfl
          have kC4 := xC.cell 4 _ rfl
          have lC := xC.lt
          go_wp2_with (first | (refine wpList_load_boxg xT rfl 30 _ rfl rfl _ Tryd.underlying30 rfl (by kernel_rfl) ?_))
          refine (sendConfirmed_law HW9.out (by omega)).mono ?_
          rintro e w9 ⟨rfl, b9⟩
          replace xT := xT.next b9
          replace xS := xS.next b9
          replace xC := xC.next b9
          have HW9 := HW9.out.next b9
          replace bb := bb.trans (b9.mono bb.size)
          clear b9 c15 c14 c18 lT kC9 kC4 lC
          go_wp2_with (first | (refine wpList_load_box xT rfl 30 _ rfl rfl _ Tryd.underlying30 rfl (by kernel_rfl) ?_) | (refine wpList_store_box xS rfl 30 _ _ rfl rfl rfl rfl (by kernel_rfl) (by simp [Value.oneCell']) ?_))
          have xSn := xS.setRow #[.int .i64 c.cB, .int .i64 c.cBeam, .int .i64 c.cDepth, .int .i64 c.cWin, .int .i64 c.cQs, .int .i64 c.cQr, .int .i64 c.cBatch, .int .i64 c.cPass, .int .i64 c.cMsg, .int .i64 c.cSeqs, .bool false, .int .i64 0, .int .i64 R9, .int .i64 B9, .int .i64 (E9 : Int), .int .i64 (M9 : Int), .int .i64 F9, .slice fa E9 fc, .slice va M9 vc]
          have xCn := xC.otherRow (D := D) (by have := HDC.out; omega) #[.int .i64 c.cB, .int .i64 c.cBeam, .int .i64 c.cDepth, .int .i64 c.cWin, .int .i64 c.cQs, .int .i64 c.cQr, .int .i64 c.cBatch, .int .i64 c.cPass, .int .i64 c.cMsg, .int .i64 c.cSeqs, .bool false, .int .i64 0, .int .i64 R9, .int .i64 B9, .int .i64 (E9 : Int), .int .i64 (M9 : Int), .int .i64 F9, .slice fa E9 fc, .slice va M9 vc]
          have bbn := below_setRow bb (show w.heap.size ≤ D by have := HDC.out; omega) #[.int .i64 c.cB, .int .i64 c.cBeam, .int .i64 c.cDepth, .int .i64 c.cWin, .int .i64 c.cQs, .int .i64 c.cQr, .int .i64 c.cBatch, .int .i64 c.cPass, .int .i64 c.cMsg, .int .i64 c.cSeqs, .bool false, .int .i64 0, .int .i64 R9, .int .i64 B9, .int .i64 (E9 : Int), .int .i64 (M9 : Int), .int .i64 F9, .slice fa E9 fc, .slice va M9 vc]
          have HSN := (HW9.old (D := D) (by omega) (fun g hg => setRow_other w9 D g #[.int .i64 c.cB, .int .i64 c.cBeam, .int .i64 c.cDepth, .int .i64 c.cWin, .int .i64 c.cQs, .int .i64 c.cQr, .int .i64 c.cBatch, .int .i64 c.cPass, .int .i64 c.cMsg, .int .i64 c.cSeqs, .bool false, .int .i64 0, .int .i64 R9, .int .i64 B9, .int .i64 (E9 : Int), .int .i64 (M9 : Int), .int .i64 F9, .slice fa E9 fc, .slice va M9 vc] hg)).more (show 200 * k + 200 ≤ 200 * (k + 1) by omega)
          exact ⟨⟨k + 1, hlt, by go_num, sendS s x, P, R9, B9, E9, M9, F9, E9, M9, fa, fc, va, vc, rfl, rfl, HON9, HSN, xSn, xCn, bbn⟩, by simp [intOf]; omega⟩
        have hq : blocksC c (n : Int) = q := by
          have h := HQ.out
          unfold blocksA at h
          rwa [if_pos ⟨HC.out, by omega, by omega⟩] at h
        have hqb := blocksC_bd HC.out (n := (n : Int)) (by omega) (by omega)
        rw [hq] at hqb ht
        have d1 : decide (c.cMsg < (n : Int)) = false := decide_eq_false g1
        by_cases g2 : c.cSeqs < T + q
        · have he : errS s x = 8 := by rw [ht, if_neg g1, if_pos g2]
          have hno := sendS_no he (by decide)
          have hr := sendS_R s x (by rw [heR]; exact HON.out.2.2.2.1) (by rw [heR]; have := HON.out.2.2.2.2; omega)
          have HON9 : Hid (OnlyS c (P) (sendS s x) ∧ (sendS s x).sX = false ∧ (P).length ≤ k + 1 ∧ 0 ≤ R9 ∧ R9 ≤ ((k + 1 : Nat) : Int)) := by
            have h1 := HON.out
            have h2 := HW9.out.is.eR
            refine ⟨?_, hon9.2.trans h1.2.1, ?_, ?_, ?_⟩
            · have h3 := hon9.1
              rw [he] at h3
              simpa using h3
            · omega
            · omega
            · push_cast; omega
          have wTq : IntKind.i64.wrap (T + q) = T + q := by rw [IntKind.wrap_i64]; omega
          obtain rfl : T = (M9 : Int) := by have h9N := HW9.out.is.eN; have h9T := HW9.out.is.eT; omega
          obtain rfl : N = (E9 : Int) := by have h9N := HW9.out.is.eN; have h9T := HW9.out.is.eT; omega
          rw [he]
          have d2 : decide (c.cSeqs < (M9 : Int) + q) = true := decide_eq_true g2
          clear heT heN heR heE hEN hon9 hcf g1 g2 hn4 HX0 hsC hq hqb
          clear he hno hr ht hcs hT0 hT3 hN0
          go_upto_region 17 with fail
          refine wp_region_held_drew (S := fun w' => Below w7.heap.size w7 w') (by kernel_rfl) ((Below.refl _ _).drew) (fun hHeld => ?_)
          refine held_take (i := 0) (d := 72) (v := ?v64) rfl rfl (by kernel_rfl) (by kernel_rfl) (by kernel_rfl) (fun _ _ _ h => h) (Or.inl ⟨by kernel_rfl, ?hy64⟩) hHeld ?rest64
          case hy64 =>
            intro wx hSw
            clear hSw
            go_simp
            with_reducible rfl
          simp only [List.setIfInBounds_toArray, List.set_cons_zero, List.set_cons_succ]
          refine held_take (i := 1) (d := 73) (v := ?v65) rfl rfl (by kernel_rfl) (by kernel_rfl) (by kernel_rfl) (fun _ _ _ h => h) (Or.inl ⟨by kernel_rfl, ?hy65⟩) hHeld ?rest65
          case hy65 =>
            intro wx hSw
            clear hSw
            go_simp
            with_reducible rfl
          simp only [List.setIfInBounds_toArray, List.set_cons_zero, List.set_cons_succ]
          refine held_take (i := 2) (d := 74) (v := ?v66) rfl rfl (by kernel_rfl) (by kernel_rfl) (by kernel_rfl) (fun _ _ _ h => h) (Or.inl ⟨by kernel_rfl, ?hy66⟩) hHeld ?rest66
          case hy66 =>
            intro wx hSw
            clear hSw
            go_simp
            with_reducible rfl
          simp only [List.setIfInBounds_toArray, List.set_cons_zero, List.set_cons_succ]
          refine held_take (i := 3) (d := 75) (v := ?v67) rfl rfl (by kernel_rfl) (by kernel_rfl) (by kernel_rfl) (fun _ _ _ h => h) (Or.inl ⟨by kernel_rfl, ?hy67⟩) hHeld ?rest67
          case hy67 =>
            intro wx hSw
            have q0 := (hSw.cell (p := ⟨bT, off + k, none⟩) hbT7).trans hcT
            clear hSw
            go_simp
            with_reducible rfl
          simp only [List.setIfInBounds_toArray, List.set_cons_zero, List.set_cons_succ]
          refine held_take (i := 4) (d := 76) (v := ?v68) rfl rfl (by kernel_rfl) (by kernel_rfl) (by kernel_rfl) (fun _ _ _ h => h) (Or.inl ⟨by kernel_rfl, ?hy68⟩) hHeld ?rest68
          case hy68 =>
            intro wx hSw
            clear hSw
            go_simp
            with_reducible rfl
          simp only [List.setIfInBounds_toArray, List.set_cons_zero, List.set_cons_succ]
          refine held_take (i := 5) (d := 77) (v := ?v69) rfl rfl (by kernel_rfl) (by kernel_rfl) (by kernel_rfl) (fun _ _ _ h => h) (Or.inl ⟨by kernel_rfl, ?hy69⟩) hHeld ?rest69
          case hy69 =>
            intro wx hSw
            clear hSw
            go_simp
            with_reducible rfl
          simp only [List.setIfInBounds_toArray, List.set_cons_zero, List.set_cons_succ]
          refine held_take (i := 6) (d := 78) (v := ?v70) rfl rfl (by kernel_rfl) (by kernel_rfl) (by kernel_rfl) (fun _ _ _ h => h) (Or.inl ⟨by kernel_rfl, ?hy70⟩) hHeld ?rest70
          case hy70 =>
            intro wx hSw
            have q0 := (hSw.cell (p := ⟨w.heap.size, 8, none⟩) lC).trans kC8.out
            clear hSw
            go_simp
            with_reducible rfl
          simp only [List.setIfInBounds_toArray, List.set_cons_zero, List.set_cons_succ]
          refine held_take (i := 7) (d := 79) (v := ?v71) rfl rfl (by kernel_rfl) (by kernel_rfl) (by kernel_rfl) (fun _ _ _ h => h) (Or.inl ⟨by kernel_rfl, ?hy71⟩) hHeld ?rest71
          case hy71 =>
            intro wx hSw
            clear hSw
            go_simp
            with_reducible rfl
          simp only [List.setIfInBounds_toArray, List.set_cons_zero, List.set_cons_succ]
          refine wpAnyH_ready (rs := [8]) (by kernel_rfl) (by simp) ?_
          refine AllReadyH.cons rfl (fun K hK => ?_) AllReadyH.nil
          go_simp
          refine hK.out _ _ hHeld (fun hHeld => ?_)
          clear hK K
          refine wpAnyH_done (by kernel_rfl) ?_ _
          have bq := hHeld
          replace xT := xT.next bq
          replace xS := xS.next bq
          replace xC := xC.next bq
          have HW9 := HW9.out.next bq
          replace bb := bb.trans (bq.mono bb.size)
          have HW9 : Hid _ := HW9
          generalize w7.drew = w8 at *
          clear bq hHeld kC8 lC hcT
          have c15 := xT.cell 15 _ rfl
          have c14 := xT.cell 14 _ rfl
          have c18 := xT.cell 18 _ rfl
          have lT := xT.lt
          have kC9 := xC.cell 9 _ rfl
          have kC4 := xC.cell 4 _ rfl
          have lC := xC.lt
          go_wp2_with (first | (refine wpList_load_boxg xT rfl 30 _ rfl rfl _ Tryd.underlying30 rfl (by kernel_rfl) ?_))
          refine (sendConfirmed_law HW9.out (by omega)).mono ?_
          rintro e w9 ⟨rfl, b9⟩
          replace xT := xT.next b9
          replace xS := xS.next b9
          replace xC := xC.next b9
          have HW9 := HW9.out.next b9
          replace bb := bb.trans (b9.mono bb.size)
          clear b9 c15 c14 c18 lT kC9 kC4 lC
          go_wp2_with (first | (refine wpList_load_box xT rfl 30 _ rfl rfl _ Tryd.underlying30 rfl (by kernel_rfl) ?_) | (refine wpList_store_box xS rfl 30 _ _ rfl rfl rfl rfl (by kernel_rfl) (by simp [Value.oneCell']) ?_))
          have xSn := xS.setRow #[.int .i64 c.cB, .int .i64 c.cBeam, .int .i64 c.cDepth, .int .i64 c.cWin, .int .i64 c.cQs, .int .i64 c.cQr, .int .i64 c.cBatch, .int .i64 c.cPass, .int .i64 c.cMsg, .int .i64 c.cSeqs, .bool false, .int .i64 0, .int .i64 R9, .int .i64 B9, .int .i64 (E9 : Int), .int .i64 (M9 : Int), .int .i64 F9, .slice fa E9 fc, .slice va M9 vc]
          have xCn := xC.otherRow (D := D) (by have := HDC.out; omega) #[.int .i64 c.cB, .int .i64 c.cBeam, .int .i64 c.cDepth, .int .i64 c.cWin, .int .i64 c.cQs, .int .i64 c.cQr, .int .i64 c.cBatch, .int .i64 c.cPass, .int .i64 c.cMsg, .int .i64 c.cSeqs, .bool false, .int .i64 0, .int .i64 R9, .int .i64 B9, .int .i64 (E9 : Int), .int .i64 (M9 : Int), .int .i64 F9, .slice fa E9 fc, .slice va M9 vc]
          have bbn := below_setRow bb (show w.heap.size ≤ D by have := HDC.out; omega) #[.int .i64 c.cB, .int .i64 c.cBeam, .int .i64 c.cDepth, .int .i64 c.cWin, .int .i64 c.cQs, .int .i64 c.cQr, .int .i64 c.cBatch, .int .i64 c.cPass, .int .i64 c.cMsg, .int .i64 c.cSeqs, .bool false, .int .i64 0, .int .i64 R9, .int .i64 B9, .int .i64 (E9 : Int), .int .i64 (M9 : Int), .int .i64 F9, .slice fa E9 fc, .slice va M9 vc]
          have HSN := (HW9.old (D := D) (by omega) (fun g hg => setRow_other w9 D g #[.int .i64 c.cB, .int .i64 c.cBeam, .int .i64 c.cDepth, .int .i64 c.cWin, .int .i64 c.cQs, .int .i64 c.cQr, .int .i64 c.cBatch, .int .i64 c.cPass, .int .i64 c.cMsg, .int .i64 c.cSeqs, .bool false, .int .i64 0, .int .i64 R9, .int .i64 B9, .int .i64 (E9 : Int), .int .i64 (M9 : Int), .int .i64 F9, .slice fa E9 fc, .slice va M9 vc] hg)).more (show 200 * k + 200 ≤ 200 * (k + 1) by omega)
          exact ⟨⟨k + 1, hlt, by go_num, sendS s x, P, R9, B9, E9, M9, F9, E9, M9, fa, fc, va, vc, rfl, rfl, HON9, HSN, xSn, xCn, bbn⟩, by simp [intOf]; omega⟩
        have d2 : decide (c.cSeqs < T + q) = false := decide_eq_false g2
        have wTq : IntKind.i64.wrap (T + q) = T + q := by rw [IntKind.wrap_i64]; omega
        by_cases g3 : c.cQs ≤ N
        · have he : errS s x = 9 := by rw [ht, if_neg g1, if_neg g2, if_pos g3]
          have hno := sendS_no he (by decide)
          have hr := sendS_R s x (by rw [heR]; exact HON.out.2.2.2.1) (by rw [heR]; have := HON.out.2.2.2.2; omega)
          have HON9 : Hid (OnlyS c (P) (sendS s x) ∧ (sendS s x).sX = false ∧ (P).length ≤ k + 1 ∧ 0 ≤ R9 ∧ R9 ≤ ((k + 1 : Nat) : Int)) := by
            have h1 := HON.out
            have h2 := HW9.out.is.eR
            refine ⟨?_, hon9.2.trans h1.2.1, ?_, ?_, ?_⟩
            · have h3 := hon9.1
              rw [he] at h3
              simpa using h3
            · omega
            · omega
            · push_cast; omega
          obtain rfl : T = (M9 : Int) := by have h9N := HW9.out.is.eN; have h9T := HW9.out.is.eT; omega
          obtain rfl : N = (E9 : Int) := by have h9N := HW9.out.is.eN; have h9T := HW9.out.is.eT; omega
          rw [he]
          have d3 : decide (c.cQs ≤ (E9 : Int)) = true := decide_eq_true g3
          clear heT heN heR heE hEN hon9 hcf g1 g2 g3 hn4 HX0 hsC hq hqb
          clear he hno hr ht hcs hT0 hT3 hN0
          go_upto_region 17 with fail
          refine wp_region_held_drew (S := fun w' => Below w7.heap.size w7 w') (by kernel_rfl) ((Below.refl _ _).drew) (fun hHeld => ?_)
          refine held_take (i := 0) (d := 72) (v := ?v72) rfl rfl (by kernel_rfl) (by kernel_rfl) (by kernel_rfl) (fun _ _ _ h => h) (Or.inl ⟨by kernel_rfl, ?hy72⟩) hHeld ?rest72
          case hy72 =>
            intro wx hSw
            clear hSw
            go_simp
            with_reducible rfl
          simp only [List.setIfInBounds_toArray, List.set_cons_zero, List.set_cons_succ]
          refine held_take (i := 1) (d := 73) (v := ?v73) rfl rfl (by kernel_rfl) (by kernel_rfl) (by kernel_rfl) (fun _ _ _ h => h) (Or.inl ⟨by kernel_rfl, ?hy73⟩) hHeld ?rest73
          case hy73 =>
            intro wx hSw
            clear hSw
            go_simp
            with_reducible rfl
          simp only [List.setIfInBounds_toArray, List.set_cons_zero, List.set_cons_succ]
          refine held_take (i := 2) (d := 74) (v := ?v74) rfl rfl (by kernel_rfl) (by kernel_rfl) (by kernel_rfl) (fun _ _ _ h => h) (Or.inl ⟨by kernel_rfl, ?hy74⟩) hHeld ?rest74
          case hy74 =>
            intro wx hSw
            clear hSw
            go_simp
            with_reducible rfl
          simp only [List.setIfInBounds_toArray, List.set_cons_zero, List.set_cons_succ]
          refine held_take (i := 3) (d := 75) (v := ?v75) rfl rfl (by kernel_rfl) (by kernel_rfl) (by kernel_rfl) (fun _ _ _ h => h) (Or.inl ⟨by kernel_rfl, ?hy75⟩) hHeld ?rest75
          case hy75 =>
            intro wx hSw
            have q0 := (hSw.cell (p := ⟨bT, off + k, none⟩) hbT7).trans hcT
            clear hSw
            go_simp
            with_reducible rfl
          simp only [List.setIfInBounds_toArray, List.set_cons_zero, List.set_cons_succ]
          refine held_take (i := 4) (d := 76) (v := ?v76) rfl rfl (by kernel_rfl) (by kernel_rfl) (by kernel_rfl) (fun _ _ _ h => h) (Or.inl ⟨by kernel_rfl, ?hy76⟩) hHeld ?rest76
          case hy76 =>
            intro wx hSw
            clear hSw
            go_simp
            with_reducible rfl
          simp only [List.setIfInBounds_toArray, List.set_cons_zero, List.set_cons_succ]
          refine held_take (i := 5) (d := 77) (v := ?v77) rfl rfl (by kernel_rfl) (by kernel_rfl) (by kernel_rfl) (fun _ _ _ h => h) (Or.inl ⟨by kernel_rfl, ?hy77⟩) hHeld ?rest77
          case hy77 =>
            intro wx hSw
            clear hSw
            go_simp
            with_reducible rfl
          simp only [List.setIfInBounds_toArray, List.set_cons_zero, List.set_cons_succ]
          refine held_take (i := 6) (d := 78) (v := ?v78) rfl rfl (by kernel_rfl) (by kernel_rfl) (by kernel_rfl) (fun _ _ _ h => h) (Or.inl ⟨by kernel_rfl, ?hy78⟩) hHeld ?rest78
          case hy78 =>
            intro wx hSw
            have q0 := (hSw.cell (p := ⟨w.heap.size, 8, none⟩) lC).trans kC8.out
            clear hSw
            go_simp
            with_reducible rfl
          simp only [List.setIfInBounds_toArray, List.set_cons_zero, List.set_cons_succ]
          refine held_take (i := 7) (d := 79) (v := ?v79) rfl rfl (by kernel_rfl) (by kernel_rfl) (by kernel_rfl) (fun _ _ _ h => h) (Or.inl ⟨by kernel_rfl, ?hy79⟩) hHeld ?rest79
          case hy79 =>
            intro wx hSw
            clear hSw
            go_simp
            with_reducible rfl
          simp only [List.setIfInBounds_toArray, List.set_cons_zero, List.set_cons_succ]
          refine wpAnyH_ready (rs := [8]) (by kernel_rfl) (by simp) ?_
          refine AllReadyH.cons rfl (fun K hK => ?_) AllReadyH.nil
          go_simp
          refine hK.out _ _ hHeld (fun hHeld => ?_)
          clear hK K
          refine wpAnyH_done (by kernel_rfl) ?_ _
          have bq := hHeld
          replace xT := xT.next bq
          replace xS := xS.next bq
          replace xC := xC.next bq
          have HW9 := HW9.out.next bq
          replace bb := bb.trans (bq.mono bb.size)
          have HW9 : Hid _ := HW9
          generalize w7.drew = w8 at *
          clear bq hHeld kC8 lC hcT
          have c15 := xT.cell 15 _ rfl
          have c14 := xT.cell 14 _ rfl
          have c18 := xT.cell 18 _ rfl
          have lT := xT.lt
          have kC9 := xC.cell 9 _ rfl
          have kC4 := xC.cell 4 _ rfl
          have lC := xC.lt
          go_wp2_with (first | (refine wpList_load_boxg xT rfl 30 _ rfl rfl _ Tryd.underlying30 rfl (by kernel_rfl) ?_))
          refine (sendConfirmed_law HW9.out (by omega)).mono ?_
          rintro e w9 ⟨rfl, b9⟩
          replace xT := xT.next b9
          replace xS := xS.next b9
          replace xC := xC.next b9
          have HW9 := HW9.out.next b9
          replace bb := bb.trans (b9.mono bb.size)
          clear b9 c15 c14 c18 lT kC9 kC4 lC
          go_wp2_with (first | (refine wpList_load_box xT rfl 30 _ rfl rfl _ Tryd.underlying30 rfl (by kernel_rfl) ?_) | (refine wpList_store_box xS rfl 30 _ _ rfl rfl rfl rfl (by kernel_rfl) (by simp [Value.oneCell']) ?_))
          have xSn := xS.setRow #[.int .i64 c.cB, .int .i64 c.cBeam, .int .i64 c.cDepth, .int .i64 c.cWin, .int .i64 c.cQs, .int .i64 c.cQr, .int .i64 c.cBatch, .int .i64 c.cPass, .int .i64 c.cMsg, .int .i64 c.cSeqs, .bool false, .int .i64 0, .int .i64 R9, .int .i64 B9, .int .i64 (E9 : Int), .int .i64 (M9 : Int), .int .i64 F9, .slice fa E9 fc, .slice va M9 vc]
          have xCn := xC.otherRow (D := D) (by have := HDC.out; omega) #[.int .i64 c.cB, .int .i64 c.cBeam, .int .i64 c.cDepth, .int .i64 c.cWin, .int .i64 c.cQs, .int .i64 c.cQr, .int .i64 c.cBatch, .int .i64 c.cPass, .int .i64 c.cMsg, .int .i64 c.cSeqs, .bool false, .int .i64 0, .int .i64 R9, .int .i64 B9, .int .i64 (E9 : Int), .int .i64 (M9 : Int), .int .i64 F9, .slice fa E9 fc, .slice va M9 vc]
          have bbn := below_setRow bb (show w.heap.size ≤ D by have := HDC.out; omega) #[.int .i64 c.cB, .int .i64 c.cBeam, .int .i64 c.cDepth, .int .i64 c.cWin, .int .i64 c.cQs, .int .i64 c.cQr, .int .i64 c.cBatch, .int .i64 c.cPass, .int .i64 c.cMsg, .int .i64 c.cSeqs, .bool false, .int .i64 0, .int .i64 R9, .int .i64 B9, .int .i64 (E9 : Int), .int .i64 (M9 : Int), .int .i64 F9, .slice fa E9 fc, .slice va M9 vc]
          have HSN := (HW9.old (D := D) (by omega) (fun g hg => setRow_other w9 D g #[.int .i64 c.cB, .int .i64 c.cBeam, .int .i64 c.cDepth, .int .i64 c.cWin, .int .i64 c.cQs, .int .i64 c.cQr, .int .i64 c.cBatch, .int .i64 c.cPass, .int .i64 c.cMsg, .int .i64 c.cSeqs, .bool false, .int .i64 0, .int .i64 R9, .int .i64 B9, .int .i64 (E9 : Int), .int .i64 (M9 : Int), .int .i64 F9, .slice fa E9 fc, .slice va M9 vc] hg)).more (show 200 * k + 200 ≤ 200 * (k + 1) by omega)
          exact ⟨⟨k + 1, hlt, by go_num, sendS s x, P, R9, B9, E9, M9, F9, E9, M9, fa, fc, va, vc, rfl, rfl, HON9, HSN, xSn, xCn, bbn⟩, by simp [intOf]; omega⟩
        · have he : errS s x = 0 := by rw [ht, if_neg g1, if_neg g2, if_neg g3]
          have hno := sendS_yes he
          have hr := sendS_R s x (by rw [heR]; exact HON.out.2.2.2.1) (by rw [heR]; have := HON.out.2.2.2.2; omega)
          have HON9 : Hid (OnlyS c (P ++ [x]) (sendS s x) ∧ (sendS s x).sX = false ∧ (P ++ [x]).length ≤ k + 1 ∧ 0 ≤ R9 ∧ R9 ≤ ((k + 1 : Nat) : Int)) := by
            have h1 := HON.out
            have h2 := HW9.out.is.eR
            refine ⟨?_, hon9.2.trans h1.2.1, ?_, ?_, ?_⟩
            · have h3 := hon9.1
              rw [he] at h3
              simpa using h3
            · simp only [List.length_append, List.length_singleton]; omega
            · omega
            · push_cast; omega
          have hTq : T + q = (M9 : Int) := by
            have h := hno.2.1
            rw [hsC, HNX.out, hq] at h
            have := HW9.out.is.eT
            omega
          have hN1 : N + 1 = (E9 : Int) := by have h9N := HW9.out.is.eN; have h9T := HW9.out.is.eT; have := hno.1; omega
          have wN1 : IntKind.i64.wrap (N + 1) = (E9 : Int) := by rw [IntKind.wrap_i64]; omega
          rw [hTq] at d2
          replace wTq := wTq.trans hTq
          rw [he]
          have d3 : decide (c.cQs ≤ N) = false := decide_eq_false g3
          clear heT heN heR heE hEN hon9 hcf g1 g2 g3 hn4 HX0 hsC hq hqb hTq hN1
          clear he hno hr ht hcs hT0 hT3 hN0
          go_upto_region 17 with fail
          refine wp_region_held_drew (S := fun w' => Below w7.heap.size w7 w') (by kernel_rfl) ((Below.refl _ _).drew) (fun hHeld => ?_)
          refine held_take (i := 0) (d := 72) (v := ?v80) rfl rfl (by kernel_rfl) (by kernel_rfl) (by kernel_rfl) (fun _ _ _ h => h) (Or.inl ⟨by kernel_rfl, ?hy80⟩) hHeld ?rest80
          case hy80 =>
            intro wx hSw
            clear hSw
            go_simp
            with_reducible rfl
          simp only [List.setIfInBounds_toArray, List.set_cons_zero, List.set_cons_succ]
          refine held_take (i := 1) (d := 73) (v := ?v81) rfl rfl (by kernel_rfl) (by kernel_rfl) (by kernel_rfl) (fun _ _ _ h => h) (Or.inl ⟨by kernel_rfl, ?hy81⟩) hHeld ?rest81
          case hy81 =>
            intro wx hSw
            clear hSw
            go_simp
            with_reducible rfl
          simp only [List.setIfInBounds_toArray, List.set_cons_zero, List.set_cons_succ]
          refine held_take (i := 2) (d := 74) (v := ?v82) rfl rfl (by kernel_rfl) (by kernel_rfl) (by kernel_rfl) (fun _ _ _ h => h) (Or.inl ⟨by kernel_rfl, ?hy82⟩) hHeld ?rest82
          case hy82 =>
            intro wx hSw
            clear hSw
            go_simp
            with_reducible rfl
          simp only [List.setIfInBounds_toArray, List.set_cons_zero, List.set_cons_succ]
          refine held_take (i := 3) (d := 75) (v := ?v83) rfl rfl (by kernel_rfl) (by kernel_rfl) (by kernel_rfl) (fun _ _ _ h => h) (Or.inl ⟨by kernel_rfl, ?hy83⟩) hHeld ?rest83
          case hy83 =>
            intro wx hSw
            have q0 := (hSw.cell (p := ⟨bT, off + k, none⟩) hbT7).trans hcT
            clear hSw
            go_simp
            with_reducible rfl
          simp only [List.setIfInBounds_toArray, List.set_cons_zero, List.set_cons_succ]
          refine held_take (i := 4) (d := 76) (v := ?v84) rfl rfl (by kernel_rfl) (by kernel_rfl) (by kernel_rfl) (fun _ _ _ h => h) (Or.inl ⟨by kernel_rfl, ?hy84⟩) hHeld ?rest84
          case hy84 =>
            intro wx hSw
            clear hSw
            go_simp
            with_reducible rfl
          simp only [List.setIfInBounds_toArray, List.set_cons_zero, List.set_cons_succ]
          refine held_take (i := 5) (d := 77) (v := ?v85) rfl rfl (by kernel_rfl) (by kernel_rfl) (by kernel_rfl) (fun _ _ _ h => h) (Or.inl ⟨by kernel_rfl, ?hy85⟩) hHeld ?rest85
          case hy85 =>
            intro wx hSw
            clear hSw
            go_simp
            with_reducible rfl
          simp only [List.setIfInBounds_toArray, List.set_cons_zero, List.set_cons_succ]
          refine held_take (i := 6) (d := 78) (v := ?v86) rfl rfl (by kernel_rfl) (by kernel_rfl) (by kernel_rfl) (fun _ _ _ h => h) (Or.inl ⟨by kernel_rfl, ?hy86⟩) hHeld ?rest86
          case hy86 =>
            intro wx hSw
            have q0 := (hSw.cell (p := ⟨w.heap.size, 8, none⟩) lC).trans kC8.out
            clear hSw
            go_simp
            with_reducible rfl
          simp only [List.setIfInBounds_toArray, List.set_cons_zero, List.set_cons_succ]
          refine held_take (i := 7) (d := 79) (v := ?v87) rfl rfl (by kernel_rfl) (by kernel_rfl) (by kernel_rfl) (fun _ _ _ h => h) (Or.inl ⟨by kernel_rfl, ?hy87⟩) hHeld ?rest87
          case hy87 =>
            intro wx hSw
            clear hSw
            go_simp
            with_reducible rfl
          simp only [List.setIfInBounds_toArray, List.set_cons_zero, List.set_cons_succ]
          refine wpAnyH_ready (rs := [8]) (by kernel_rfl) (by simp) ?_
          refine AllReadyH.cons rfl (fun K hK => ?_) AllReadyH.nil
          go_simp
          refine hK.out _ _ hHeld (fun hHeld => ?_)
          clear hK K
          refine wpAnyH_done (by kernel_rfl) ?_ _
          have bq := hHeld
          replace xT := xT.next bq
          replace xS := xS.next bq
          replace xC := xC.next bq
          have HW9 := HW9.out.next bq
          replace bb := bb.trans (bq.mono bb.size)
          have HW9 : Hid _ := HW9
          generalize w7.drew = w8 at *
          clear bq hHeld kC8 lC hcT
          have c15 := xT.cell 15 _ rfl
          have c14 := xT.cell 14 _ rfl
          have c18 := xT.cell 18 _ rfl
          have lT := xT.lt
          have kC9 := xC.cell 9 _ rfl
          have kC4 := xC.cell 4 _ rfl
          have lC := xC.lt
          go_wp2_with (first | (refine wpList_load_boxg xT rfl 30 _ rfl rfl _ Tryd.underlying30 rfl (by kernel_rfl) ?_))
          refine (sendConfirmed_law HW9.out (by omega)).mono ?_
          rintro e w9 ⟨rfl, b9⟩
          replace xT := xT.next b9
          replace xS := xS.next b9
          replace xC := xC.next b9
          have HW9 := HW9.out.next b9
          replace bb := bb.trans (b9.mono bb.size)
          clear b9 c15 c14 c18 lT kC9 kC4 lC
          go_wp2_with (first | (refine wpList_load_box xT rfl 30 _ rfl rfl _ Tryd.underlying30 rfl (by kernel_rfl) ?_) | (refine wpList_store_box xS rfl 30 _ _ rfl rfl rfl rfl (by kernel_rfl) (by simp [Value.oneCell']) ?_))
          have xSn := xS.setRow #[.int .i64 c.cB, .int .i64 c.cBeam, .int .i64 c.cDepth, .int .i64 c.cWin, .int .i64 c.cQs, .int .i64 c.cQr, .int .i64 c.cBatch, .int .i64 c.cPass, .int .i64 c.cMsg, .int .i64 c.cSeqs, .bool false, .int .i64 0, .int .i64 R9, .int .i64 B9, .int .i64 (E9 : Int), .int .i64 (M9 : Int), .int .i64 F9, .slice fa E9 fc, .slice va M9 vc]
          have xCn := xC.otherRow (D := D) (by have := HDC.out; omega) #[.int .i64 c.cB, .int .i64 c.cBeam, .int .i64 c.cDepth, .int .i64 c.cWin, .int .i64 c.cQs, .int .i64 c.cQr, .int .i64 c.cBatch, .int .i64 c.cPass, .int .i64 c.cMsg, .int .i64 c.cSeqs, .bool false, .int .i64 0, .int .i64 R9, .int .i64 B9, .int .i64 (E9 : Int), .int .i64 (M9 : Int), .int .i64 F9, .slice fa E9 fc, .slice va M9 vc]
          have bbn := below_setRow bb (show w.heap.size ≤ D by have := HDC.out; omega) #[.int .i64 c.cB, .int .i64 c.cBeam, .int .i64 c.cDepth, .int .i64 c.cWin, .int .i64 c.cQs, .int .i64 c.cQr, .int .i64 c.cBatch, .int .i64 c.cPass, .int .i64 c.cMsg, .int .i64 c.cSeqs, .bool false, .int .i64 0, .int .i64 R9, .int .i64 B9, .int .i64 (E9 : Int), .int .i64 (M9 : Int), .int .i64 F9, .slice fa E9 fc, .slice va M9 vc]
          have HSN := (HW9.old (D := D) (by omega) (fun g hg => setRow_other w9 D g #[.int .i64 c.cB, .int .i64 c.cBeam, .int .i64 c.cDepth, .int .i64 c.cWin, .int .i64 c.cQs, .int .i64 c.cQr, .int .i64 c.cBatch, .int .i64 c.cPass, .int .i64 c.cMsg, .int .i64 c.cSeqs, .bool false, .int .i64 0, .int .i64 R9, .int .i64 B9, .int .i64 (E9 : Int), .int .i64 (M9 : Int), .int .i64 F9, .slice fa E9 fc, .slice va M9 vc] hg)).more (show 200 * k + 200 ≤ 200 * (k + 1) by omega)
          exact ⟨⟨k + 1, hlt, by go_num, sendS s x, P ++ [x], R9, B9, E9, M9, F9, E9, M9, fa, fc, va, vc, rfl, rfl, HON9, HSN, xSn, xCn, bbn⟩, by simp [intOf]; omega⟩
      exact AllReadyH.nil
    · obtain rfl : k = mt := by omega
      clear hk hlt HT
      cases closed with
      | false =>
        clear xC HDC HON HSW
        go_wp2_with fail
        refine (sendWakes_any _ (HF0.out.next bb)).mono ?_
        rintro e w99 ⟨rfl, b99⟩
        go_wp2
        go_ret
        exact ⟨rfl, bb.trans (b99.mono bb.size)⟩
      | true =>
        have hm9 : 200 * k ≤ 900000 := by omega
        have hD5 : D + 1 ≤ w5.heap.size := xS.lt
        have hRb := HON.out.2.2.2
        have heR := HSW.out.is.eR
        have HOKS : Hid (okS s) := HSW.out.ok
        go_wp2_with (first | (refine wpList_load_box xS rfl 30 _ rfl rfl _ Tryd.underlying30 rfl (by kernel_rfl) ?_))
        refine (sendClose_law HSW.out hm9).mono ?_
        rintro e w6 ⟨R9, B9, N9, T9, F9, E9, M9, fa9, fc9, va9, vc9, rfl, hS, b9⟩
        replace xS := xS.next b9
        replace bb := bb.trans (b9.mono bb.size)
        clear b9 HSW HON xC
        have hDl := xS.lt
        have bA : Below w6.heap.size w6 (w6.alloc (.cells #[.int .i64 0, .int .i64 0, .int .i64 0, .int .i64 0, .int .i64 0, .int .i64 0, .int .i64 0, .int .i64 0, .int .i64 0, .int .i64 0, .bool false, .int .i64 0, .int .i64 0, .int .i64 0, .int .i64 0, .int .i64 0, .int .i64 0, .slice none 0 0, .slice none 0 0] 30)) := (Below.refl _ _).alloc (Nat.le_refl _) _
        have xT := Box.new w6 30 #[.int .i64 0, .int .i64 0, .int .i64 0, .int .i64 0, .int .i64 0, .int .i64 0, .int .i64 0, .int .i64 0, .int .i64 0, .int .i64 0, .bool false, .int .i64 0, .int .i64 0, .int .i64 0, .int .i64 0, .int .i64 0, .int .i64 0, .slice none 0 0, .slice none 0 0]
        go_upto_region 28 with (first | (refine wpList_store_box xT rfl 30 _ _ rfl rfl rfl rfl (by kernel_rfl) (by simp [Value.oneCell']) ?_))
        have bB := below_setRow bA (Nat.le_refl _) #[.int .i64 c.cB, .int .i64 c.cBeam, .int .i64 c.cDepth, .int .i64 c.cWin, .int .i64 c.cQs, .int .i64 c.cQr, .int .i64 c.cBatch, .int .i64 c.cPass, .int .i64 c.cMsg, .int .i64 c.cSeqs, .bool true, .int .i64 0, .int .i64 R9, .int .i64 B9, .int .i64 N9, .int .i64 T9, .int .i64 F9, .slice fa9 E9 fc9, .slice va9 M9 vc9]
        replace xT := xT.setRow #[.int .i64 c.cB, .int .i64 c.cBeam, .int .i64 c.cDepth, .int .i64 c.cWin, .int .i64 c.cQs, .int .i64 c.cQr, .int .i64 c.cBatch, .int .i64 c.cPass, .int .i64 c.cMsg, .int .i64 c.cSeqs, .bool true, .int .i64 0, .int .i64 R9, .int .i64 B9, .int .i64 N9, .int .i64 T9, .int .i64 F9, .slice fa9 E9 fc9, .slice va9 M9 vc9]
        replace xS := xS.next bB
        have sw7 := (hS.out.next bB).lower (base' := D + 1) (hD5)
        replace bb := bb.trans (bB.mono bb.size)
        have hlDT := xS.lt
        obtain ⟨DT, hDT⟩ : ∃ D, w6.heap.size = D := ⟨_, rfl⟩
        rw [hDT] at xT xS bb sw7 ⊢
        clear bA bB hDT hS hlDT
        generalize (w6.alloc (.cells #[.int .i64 0, .int .i64 0, .int .i64 0, .int .i64 0, .int .i64 0, .int .i64 0, .int .i64 0, .int .i64 0, .int .i64 0, .int .i64 0, .bool false, .int .i64 0, .int .i64 0, .int .i64 0, .int .i64 0, .int .i64 0, .int .i64 0, .slice none 0 0, .slice none 0 0] 30)).setRow DT #[.int .i64 c.cB, .int .i64 c.cBeam, .int .i64 c.cDepth, .int .i64 c.cWin, .int .i64 c.cQs, .int .i64 c.cQr, .int .i64 c.cBatch, .int .i64 c.cPass, .int .i64 c.cMsg, .int .i64 c.cSeqs, .bool true, .int .i64 0, .int .i64 R9, .int .i64 B9, .int .i64 N9, .int .i64 T9, .int .i64 F9, .slice fa9 E9 fc9, .slice va9 M9 vc9] = w7 at *
        have c10 := xT.cell 10 _ rfl
        have lT := xT.lt
        obtain rfl : R9 = R := sw7.is.eR.symm.trans heR
        have hX9 : (closeS s).sX = true := rfl
        go_upto_region 31 with (first | (refine wpList_load_box xT rfl 30 _ rfl rfl _ Tryd.underlying30 rfl (by kernel_rfl) ?_) | (refine wpList_store_box xS rfl 30 _ _ rfl rfl rfl rfl (by kernel_rfl) (by simp [Value.oneCell']) ?_))
        clear c10 lT xT
        replace xS := xS.setRow #[.int .i64 c.cB, .int .i64 c.cBeam, .int .i64 c.cDepth, .int .i64 c.cWin, .int .i64 c.cQs, .int .i64 c.cQr, .int .i64 c.cBatch, .int .i64 c.cPass, .int .i64 c.cMsg, .int .i64 c.cSeqs, .bool true, .int .i64 0, .int .i64 R9, .int .i64 B9, .int .i64 N9, .int .i64 T9, .int .i64 F9, .slice fa9 E9 fc9, .slice va9 M9 vc9]
        have sw8 := sw7.old (D := D) (by omega) (fun g hg => setRow_other w7 D g #[.int .i64 c.cB, .int .i64 c.cBeam, .int .i64 c.cDepth, .int .i64 c.cWin, .int .i64 c.cQs, .int .i64 c.cQr, .int .i64 c.cBatch, .int .i64 c.cPass, .int .i64 c.cMsg, .int .i64 c.cSeqs, .bool true, .int .i64 0, .int .i64 R9, .int .i64 B9, .int .i64 N9, .int .i64 T9, .int .i64 F9, .slice fa9 E9 fc9, .slice va9 M9 vc9] hg)
        replace bb := below_setRow bb (show w.heap.size ≤ D by have := HDC.out; omega) #[.int .i64 c.cB, .int .i64 c.cBeam, .int .i64 c.cDepth, .int .i64 c.cWin, .int .i64 c.cQs, .int .i64 c.cQr, .int .i64 c.cBatch, .int .i64 c.cPass, .int .i64 c.cMsg, .int .i64 c.cSeqs, .bool true, .int .i64 0, .int .i64 R9, .int .i64 B9, .int .i64 N9, .int .i64 T9, .int .i64 F9, .slice fa9 E9 fc9, .slice va9 M9 vc9]
        generalize w7.setRow D #[.int .i64 c.cB, .int .i64 c.cBeam, .int .i64 c.cDepth, .int .i64 c.cWin, .int .i64 c.cQs, .int .i64 c.cQr, .int .i64 c.cBatch, .int .i64 c.cPass, .int .i64 c.cMsg, .int .i64 c.cSeqs, .bool true, .int .i64 0, .int .i64 R9, .int .i64 B9, .int .i64 N9, .int .i64 T9, .int .i64 F9, .slice fa9 E9 fc9, .slice va9 M9 vc9] = w8 at *
        clear sw7
        go_wp2_with (first | (refine wpList_load_box xS rfl 30 _ rfl rfl _ Tryd.underlying30 rfl (by kernel_rfl) ?_))
        have hmb : 200 * k ≤ 900000 := by omega
        have HMB := (HMS.out.1.below bb).mono bb.size
        have HSS := sendSend_law sw8 hmb a len cap zs HMS.out.2.1 HMS.out.2.2.1 HMS.out.2.2.2 HMB
        refine HSS.mono ?_
        rintro e w9 ⟨R8, B8, N8, T8, F8, E8, M8, fa8, fc8, va8, vc8, rfl, hS, b9⟩
        rw [(errS_closed hX9 zs).2] at hS
        rw [(errS_closed hX9 zs).1]
        replace xS := xS.next b9
        replace bb := bb.trans (b9.mono bb.size)
        clear b9
        have bA : Below w9.heap.size w9 (w9.alloc (.cells #[.int .i64 0, .int .i64 0, .int .i64 0, .int .i64 0, .int .i64 0, .int .i64 0, .int .i64 0, .int .i64 0, .int .i64 0, .int .i64 0, .bool false, .int .i64 0, .int .i64 0, .int .i64 0, .int .i64 0, .int .i64 0, .int .i64 0, .slice none 0 0, .slice none 0 0] 30)) := (Below.refl _ _).alloc (Nat.le_refl _) _
        have xU := Box.new w9 30 #[.int .i64 0, .int .i64 0, .int .i64 0, .int .i64 0, .int .i64 0, .int .i64 0, .int .i64 0, .int .i64 0, .int .i64 0, .int .i64 0, .bool false, .int .i64 0, .int .i64 0, .int .i64 0, .int .i64 0, .int .i64 0, .int .i64 0, .slice none 0 0, .slice none 0 0]
        go_upto_region 32 with (first | (refine wpList_store_box xU rfl 30 _ _ rfl rfl rfl rfl (by kernel_rfl) (by simp [Value.oneCell']) ?_))
        have bB := below_setRow bA (Nat.le_refl _) #[.int .i64 c.cB, .int .i64 c.cBeam, .int .i64 c.cDepth, .int .i64 c.cWin, .int .i64 c.cQs, .int .i64 c.cQr, .int .i64 c.cBatch, .int .i64 c.cPass, .int .i64 c.cMsg, .int .i64 c.cSeqs, .bool true, .int .i64 0, .int .i64 R8, .int .i64 B8, .int .i64 N8, .int .i64 T8, .int .i64 F8, .slice fa8 E8 fc8, .slice va8 M8 vc8]
        replace xU := xU.setRow #[.int .i64 c.cB, .int .i64 c.cBeam, .int .i64 c.cDepth, .int .i64 c.cWin, .int .i64 c.cQs, .int .i64 c.cQr, .int .i64 c.cBatch, .int .i64 c.cPass, .int .i64 c.cMsg, .int .i64 c.cSeqs, .bool true, .int .i64 0, .int .i64 R8, .int .i64 B8, .int .i64 N8, .int .i64 T8, .int .i64 F8, .slice fa8 E8 fc8, .slice va8 M8 vc8]
        replace xS := xS.next bB
        have sw10 := (hS.out.next bB).lower (base' := 0) (Nat.zero_le _)
        replace bb := bb.trans (bB.mono bb.size)
        have hlDU := xS.lt
        obtain ⟨DU, hDU⟩ : ∃ D, w9.heap.size = D := ⟨_, rfl⟩
        rw [hDU] at xU xS bb sw10 ⊢
        clear bA bB hDU hS hlDU
        generalize (w9.alloc (.cells #[.int .i64 0, .int .i64 0, .int .i64 0, .int .i64 0, .int .i64 0, .int .i64 0, .int .i64 0, .int .i64 0, .int .i64 0, .int .i64 0, .bool false, .int .i64 0, .int .i64 0, .int .i64 0, .int .i64 0, .int .i64 0, .int .i64 0, .slice none 0 0, .slice none 0 0] 30)).setRow DU #[.int .i64 c.cB, .int .i64 c.cBeam, .int .i64 c.cDepth, .int .i64 c.cWin, .int .i64 c.cQs, .int .i64 c.cQr, .int .i64 c.cBatch, .int .i64 c.cPass, .int .i64 c.cMsg, .int .i64 c.cSeqs, .bool true, .int .i64 0, .int .i64 R8, .int .i64 B8, .int .i64 N8, .int .i64 T8, .int .i64 F8, .slice fa8 E8 fc8, .slice va8 M8 vc8] = w10 at *
        have hR8 : R8 = R9 + 1 := by
          have h : satN s.sR 1 = R8 := sw10.is.eR
          rw [heR, satN_one hRb.1 (by have := hRb.2; omega)] at h
          exact h.symm
        obtain rfl : T8 = T9 := sw10.is.eT.symm.trans sw8.is.eT
        subst hR8
        have wR : IntKind.i64.wrap (R9 + 1) = R9 + 1 := by rw [IntKind.wrap_i64]; have := hRb; omega
        have cu12 := xU.cell 12 _ rfl
        have cu15 := xU.cell 15 _ rfl
        have cs12 := xS.cell 12 _ rfl
        have cs15 := xS.cell 15 _ rfl
        have lU := xU.lt
        have lS := xS.lt
        clear sw8 sw10 heR hX9 hRb HOKS
        go_wp2_with fail
        refine (sendWakes_any _ (HF0.out.next bb)).mono ?_
        rintro e w99 ⟨rfl, b99⟩
        go_wp2
        go_ret
        exact ⟨rfl, bb.trans (b99.mono bb.size)⟩

end Go.Proofs.YtkphjnbeakkejaaDoor
