/-
  Lists of texts, as they lie and as arguments.
-/
import Derived.Test.YtmjidhnlofpliaaDoorM01
import Derived.Test.YtmjidhnlofpliaaDoorM17
import Derived.Test.YtmjidhnlofpliaaDoorM33
import Derived.Test.YtmjidhnlofpliaaDoorM34
import Derived.Deep.Slices
import Derived.Lib.SmallJoins
import Derived.OpenShut
import Derived.ProofKit
import Derived.WalkKit
namespace Go.Proofs.YtmjidhnlofpliaaDoor
open Go.RowKit

/-- The slice at a holds these texts, in a block below n₀. -/
def Texts (n₀ : Nat) (W : World) (a : Option Addr) (n : Nat) (l : List (List Int)) : Prop := l.length = n ∧ ∀ (j : Nat) (x : List Int), l[j]? = some x → ∃ b off xa xc, a = some ⟨b, off, none⟩ ∧ b < n₀ ∧ W.cell? ⟨b, off + j, none⟩ = some (.slice xa x.length xc) ∧ Holds .u8 n₀ W (.slice xa x.length xc) x ∧ x.length ≤ xc ∧ ∀ z ∈ x, 0 ≤ z ∧ z ≤ 255
theorem Texts.next {n₀ : Nat} {W W' : World} {a : Option Addr} {n : Nat} {l : List (List Int)} (h : Texts n₀ W a n l) (k : Below n₀ W W') : Texts n₀ W' a n l := by
  refine ⟨h.1, fun j x hj => ?_⟩
  obtain ⟨b, off, xa, xc, h0, h1, h2, h6, h7⟩ := h.2 j x hj
  exact ⟨b, off, xa, xc, h0, h1, (k.cell (p := ⟨b, off + j, none⟩) h1).trans h2, h6.below k, h7⟩
theorem cellsU8L : Tryd.prog.cellsOf 5 = 1 := by kernel_rfl
theorem cellsBytesL : Tryd.prog.cellsOf 35 = 1 := by kernel_rfl

/-- A text that came in, opened. -/
theorem text_of_trod {H : Type} {enc : TypeId × Value → H} {w : World} {base : Nat} {held : Bool} {fuel : Nat} {v : Value} {x : DataW H × List MemPlace}
    (h : DataW.trod enc Tryd.prog w base (fun _ => true) held fuel 35 [v] = some x) : ∃ a ys c, v = .slice a ys.length c ∧ Holds .u8 w.heap.size w v ys ∧ ys.length ≤ c ∧ ∀ z ∈ ys, 0 ≤ z ∧ z ≤ 255 := by
  rcases Go.ChangeShapes.open_ints Tryd.underlying35 Tryd.underlying5 cellsU8L h with ⟨hcs, _⟩ | ⟨x3, l3, c3', zs, hcs, _, hl3, hm3, hz, _, hcell3, hwz⟩
  · simp at hcs
    subst hcs
    exact ⟨_, [], _, rfl, .inl ⟨⟨_, _, rfl, fun _ => rfl⟩, rfl⟩, Nat.le_refl _, by simp⟩
  · simp at hcs
    subst hcs
    obtain ⟨ys, e, hy, hw⟩ := holds_of_isRow (kd := .u8) (w := w) (a := some x3) (len := l3) (cap := c3') (zs := zs) (.inr ⟨x3, rfl, hl3, hm3, by simpa using hz, hcell3, hwz⟩)
    subst e
    exact ⟨_, ys, _, rfl, hy, hl3, bytes_bd hw⟩

end Go.Proofs.YtmjidhnlofpliaaDoor

/-
  Lists of acts (what is done, a text, a number, bits), as they lie and as arguments. (Written by tpl_sendacts.py.)
-/
namespace Go.Proofs.YtmjidhnlofpliaaDoor
open Go.RowKit

/-- What is done, its text, its number, its bits. -/
abbrev Ac := Int × List Int × Int × Int
/-- The slice at a holds these, in a block below n₀. -/
def Acts (n₀ : Nat) (W : World) (a : Option Addr) (n : Nat) (l : List Ac) : Prop := l.length = n ∧ ∀ (j : Nat) (d : Ac), l[j]? = some d → ∃ b off xa xc, a = some ⟨b, off, none⟩ ∧ b < n₀ ∧ W.cell? ⟨b, off + j * 4, none⟩ = some (.int .i64 d.1) ∧ W.cell? ⟨b, off + j * 4 + 1, none⟩ = some (.slice xa d.2.1.length xc) ∧ W.cell? ⟨b, off + j * 4 + 2, none⟩ = some (.int .i64 d.2.2.1) ∧ W.cell? ⟨b, off + j * 4 + 3, none⟩ = some (.int .u32 d.2.2.2) ∧ Holds .u8 n₀ W (.slice xa d.2.1.length xc) d.2.1 ∧ d.2.1.length ≤ xc ∧ (∀ z ∈ d.2.1, 0 ≤ z ∧ z ≤ 255) ∧ 0 ≤ d.2.2.2 ∧ d.2.2.2 < 4294967296
theorem Acts.next {n₀ : Nat} {W W' : World} {a : Option Addr} {n : Nat} {l : List Ac} (h : Acts n₀ W a n l) (k : Below n₀ W W') : Acts n₀ W' a n l := by
  refine ⟨h.1, fun j d hj => ?_⟩
  obtain ⟨b, off, xa, xc, h0, h1, h2, h3, h4, h5, h6, h7⟩ := h.2 j d hj
  exact ⟨b, off, xa, xc, h0, h1, (k.cell (p := ⟨b, off + j * 4, none⟩) h1).trans h2, (k.cell (p := ⟨b, off + j * 4 + 1, none⟩) h1).trans h3, (k.cell (p := ⟨b, off + j * 4 + 2, none⟩) h1).trans h4, (k.cell (p := ⟨b, off + j * 4 + 3, none⟩) h1).trans h5, h6.below k, h7⟩
theorem cellsAct : Tryd.prog.cellsOf 38 = 4 := by kernel_rfl
theorem cellsIntA : Tryd.prog.cellsOf 3 = 1 := by kernel_rfl
theorem cellsU32A : Tryd.prog.cellsOf 36 = 1 := by kernel_rfl
set_option maxRecDepth 100000 in
set_option maxHeartbeats 1000000 in
/-- A list of acts that came in, opened. -/
theorem acts_of_trod {H : Type} {enc : TypeId × Value → H} {w : World} {base : Nat} {held : Bool} {fuel : Nat} {a : Option Addr} {len cap : Nat} {x : DataW H × List MemPlace}
    (h : DataW.trod enc Tryd.prog w base (fun _ => true) held fuel 24 [.slice a len cap] = some x) : ∃ l, Acts w.heap.size w a len l := by
  rcases Go.Deep.open_slice Tryd.underlying24 h with ⟨hcs, _⟩ | ⟨ad, len', cap', m, n, D, Pl, hcs, _, hl, hc, hm, _, hx⟩
  · simp at hcs
    obtain ⟨rfl, rfl, rfl⟩ := hcs
    exact ⟨[], rfl, fun j x hj => by simp at hj⟩
  · simp at hcs
    obtain ⟨rfl, rfl, rfl⟩ := hcs
    have hlm : len ≤ m := by rw [hm]; split <;> omega
    have each : ∀ i, i < len → ∃ q : Ac × Option Addr × Nat, w.cell? (ad.add (i * 4)) = some (.int .i64 q.1.1) ∧ w.cell? (ad.add (i * 4 + 1)) = some (.slice q.2.1 q.1.2.1.length q.2.2) ∧ w.cell? (ad.add (i * 4 + 2)) = some (.int .i64 q.1.2.2.1) ∧ w.cell? (ad.add (i * 4 + 3)) = some (.int .u32 q.1.2.2.2) ∧ Holds .u8 w.heap.size w (.slice q.2.1 q.1.2.1.length q.2.2) q.1.2.1 ∧ q.1.2.1.length ≤ q.2.2 ∧ (∀ z ∈ q.1.2.1, 0 ≤ z ∧ z ≤ 255) ∧ 0 ≤ q.1.2.2.2 ∧ q.1.2.2.2 < 4294967296 := by
      intro i hi
      obtain ⟨cs', h1, h2⟩ := hx i (by omega)
      rw [cellsAct] at h1
      obtain ⟨_, hlen, hcell⟩ := World.cells?_some h1
      match cs', hlen with
      | [v0, v1, v2, v3], _ =>
        obtain ⟨y0, y1, y2, y3, k, _, _, t0, t1, t2, t3⟩ := Go.Joins.trod_struct4 Tryd.underlying38 h2
        simp only [cellsIntA, cellsBytesL, cellsU32A] at t0 t1 t2 t3
        obtain ⟨z0, e0, _, _⟩ := DataW.trod_int Tryd.underlying3 t0
        obtain ⟨z2, e2, _, _⟩ := DataW.trod_int Tryd.underlying3 t2
        obtain ⟨z3, e3, _, wf3⟩ := DataW.trod_int Tryd.underlying36 t3
        simp at e0 e2 e3
        have c0 := hcell 0 (by omega)
        have c1 := hcell 1 (by omega)
        have c2 := hcell 2 (by omega)
        have c3 := hcell 3 (by omega)
        rw [Go.Deep.add_add] at c0 c1 c2 c3
        simp at c0 c1 c2 c3
        obtain ⟨a3, ys, cc, hv3, hy, h3, h5⟩ := text_of_trod (show DataW.trod enc Tryd.prog w base (fun _ => true) held k 35 [v1] = some y1 by simpa using t1)
        subst hv3
        have hw3 := bounds_u32 wf3
        exact ⟨((z0, ys, z2, z3), a3, cc), by rw [c0, e0], c1, by rw [c2, e2], by rw [c3, e3], hy, h3, h5, show 0 ≤ z3 by omega, show z3 < 4294967296 by omega⟩
    by_cases h0 : len = 0
    · subst h0
      exact ⟨[], rfl, fun j x hj => by simp at hj⟩
    · haveI : Inhabited (Ac × Option Addr × Nat) := ⟨((0, [], 0, 0), none, 0)⟩
      obtain ⟨q, hq⟩ := Go.Deep.choose_lt each
      obtain ⟨b, off, spot⟩ := ad
      have hspot : spot = none := by
        have := (hq 0 (by omega)).1
        simpa [Addr.add] using World.cell?_spot this
      subst hspot
      refine ⟨(List.range len).map fun i => (q i).1, by simp, fun j x hj => ?_⟩
      have hjl : j < len := by have := (List.getElem?_eq_some_iff.1 hj).1; simpa using this
      rw [List.getElem?_map, List.getElem?_range hjl] at hj
      simp at hj
      subst hj
      obtain ⟨g1, g2, g3, g4, g5⟩ := hq j hjl
      rw [Go.WideShapes.add_plain] at g1 g2 g3 g4
      exact ⟨b, off, (q j).2.1, (q j).2.2, rfl, by have := cell_block_lt g1; exact this, g1, by rw [Nat.add_assoc]; exact g2, by rw [Nat.add_assoc]; exact g3, by rw [Nat.add_assoc]; exact g4, g5⟩

end Go.Proofs.YtmjidhnlofpliaaDoor

/-
  What the laws over acts call: Heavy (more than is played?), bytes (an act's ack). (Written by tpl_sendacts.py.)
-/
namespace Go.Proofs.YtmjidhnlofpliaaDoor
open Go.RowKit

/-- More than is played: too many acts, or a text too long among the first forty. -/
def heavyA (l : List Ac) : Bool := decide (160 < l.length) || (l.take 40).any fun d => decide (400 < d.2.1.length)
theorem heavyA_no {l : List Ac} (h : heavyA l = false) : l.length ≤ 160 ∧ ∀ (j : Nat) (d : Ac), j < 40 → l[j]? = some d → d.2.1.length ≤ 400 := by
  unfold heavyA at h
  rw [Bool.or_eq_false_iff] at h
  refine ⟨by have := of_decide_eq_false h.1; omega, fun j d hj hd => ?_⟩
  have h2 := h.2
  rw [List.any_eq_false] at h2
  have h3 := h2 d (List.mem_of_getElem? (i := j) (by rw [List.getElem?_take, if_pos hj]; exact hd))
  simpa using h3
theorem heavyA_at {l : List Ac} {j : Nat} {d : Ac} (hj : j < 40) (hd : l[j]? = some d) (h : 400 < d.2.1.length) : heavyA l = true := by
  unfold heavyA
  rw [Bool.or_eq_true]
  right
  rw [List.any_eq_true]
  exact ⟨d, List.mem_of_getElem? (i := j) (by rw [List.getElem?_take, if_pos hj]; exact hd), decide_eq_true h⟩
theorem heavyA_none {l : List Ac} {k : Nat} (h1 : l.length ≤ 160) (hk : l.length ≤ k ∨ 40 ≤ k) (h2 : ∀ (j : Nat) (d : Ac), j < k → l[j]? = some d → d.2.1.length ≤ 400) : heavyA l = false := by
  unfold heavyA
  rw [Bool.or_eq_false_iff]
  refine ⟨decide_eq_false (by omega), ?_⟩
  rw [List.any_eq_false]
  intro d hd
  obtain ⟨j, hj, rfl⟩ := List.getElem_of_mem hd
  have hjl : j < l.length ∧ j < 40 := by rw [List.length_take] at hj; omega
  have h3 := h2 j l[j] (by omega) (by simp [hjl.1])
  simpa using h3
set_option maxRecDepth 100000 in
set_option maxHeartbeats 4000000 in
theorem heavy_any (a : Option Addr) (n cap : Nat) (l : List Ac) (n₀ : Nat) (w : World) (hl : Acts n₀ w a n l) : Calls Tryd.prog 5 #[.slice a n cap] w fun e w' => e = .returned (.bool (heavyA l)) ∧ w' = w := by
  have HL : Hid (Acts n₀ w a n l) := hl
  have HN : Hid (l.length = n) := hl.1
  clear hl
  go_enter Tryd.func5, Tryd.ntmps5
  by_cases h1 : 160 < n
  · have e : heavyA l = true := by
      unfold heavyA
      rw [HN.out, decide_eq_true h1]
      rfl
    have d1 : decide (160 < n) = true := decide_eq_true h1
    have d1i : decide (160 < (n : Int)) = true := decide_eq_true (by omega)
    rw [e]
    clear e h1
    go_wp2
    go_ret
    exact ⟨rfl, rfl⟩
  have d1 : decide (160 < n) = false := decide_eq_false h1
  have d1i : decide (160 < (n : Int)) = false := decide_eq_false (by omega)
  have HN1 : Hid (n ≤ 160) := by show n ≤ 160; omega
  clear h1
  go_wp2_with fail
  clear d1 d1i
  go_loopw [3] (fun i wr => ∃ k : Nat, k ≤ n ∧ k ≤ 40 ∧ i = .int .i64 (k : Int) ∧ Hid (∀ (j : Nat) (d : Ac), j < k → l[j]? = some d → d.2.1.length ≤ 400) ∧ wr = w) (fun i _ => n - (intOf i).toNat)
  case atStart => exact ⟨0, Nat.zero_le _, by omega, rfl, fun j d hj _ => by omega, rfl⟩
  case round =>
    obtain ⟨k, hk, hk40, rfl, HA, rfl⟩ := hrel
    by_cases hlt : k < n
    · have dk : decide (k < n) = true := decide_eq_true hlt
      have dki : decide ((k : Int) < (n : Int)) = true := decide_eq_true (by omega)
      by_cases h40 : k < 40
      · have d40 : decide ((k : Int) < 40) = true := decide_eq_true (by omega)
        obtain ⟨d, hd⟩ : ∃ d, l[k]? = some d := ⟨l[k]'(by rw [HN.out]; exact hlt), by simp⟩
        obtain ⟨b, off, xa, xc, rfl, g0, _, g2, _⟩ := HL.out.2 k d hd
        obtain ⟨x, hx⟩ : ∃ x, d.2.1.length = x := ⟨_, rfl⟩
        rw [hx] at g2
        by_cases h4 : 400 < x
        · have e : heavyA l = true := heavyA_at h40 hd (by omega)
          have d4 : decide (400 < (x : Int)) = true := decide_eq_true (by omega)
          have d4n : decide (400 < x) = true := decide_eq_true h4
          have HE : Hid (heavyA l = true) := e
          clear e hd hx
          go_wp2
          go_ret
          exact ⟨by rw [HE.out]; rfl, rfl⟩
        have d4 : decide (400 < (x : Int)) = false := decide_eq_false (by omega)
        have d4n : decide (400 < x) = false := decide_eq_false h4
        have HA' : Hid (∀ (j : Nat) (d : Ac), j < k + 1 → l[j]? = some d → d.2.1.length ≤ 400) := fun j y hj hy => by
          by_cases e : j < k
          · exact HA.out j y e hy
          · obtain rfl : j = k := by omega
            rw [hd] at hy
            cases hy
            omega
        have hn1 := HN1.out
        clear hd hx h4
        go_wp2_with fail
        exact ⟨⟨k + 1, hlt, h40, by go_num, HA', by first | rfl | trivial⟩, by simp [intOf]; omega⟩
      · have d40 : decide ((k : Int) < 40) = false := decide_eq_false (by omega)
        have e : heavyA l = false := heavyA_none (by rw [HN.out]; exact HN1.out) (.inr (by omega)) HA.out
        have HE : Hid (heavyA l = false) := e
        clear e
        go_wp2
        go_ret
        exact ⟨by rw [HE.out]; rfl, rfl⟩
    · have dk : decide (k < n) = false := decide_eq_false hlt
      have dki : decide ((k : Int) < (n : Int)) = false := decide_eq_false (by omega)
      have e : heavyA l = false := heavyA_none (by rw [HN.out]; exact HN1.out) (.inl (by rw [HN.out]; omega)) HA.out
      have HE : Hid (heavyA l = false) := e
      clear e
      go_wp2
      go_ret
      exact ⟨by rw [HE.out]; rfl, rfl⟩

/-- The number in an act's ack. -/
def actN (F win N : Int) : Int := if 1073741824 < F + (IntKind.u64.wrap N).tmod (win + 2) then F else F + (IntKind.u64.wrap N).tmod (win + 2)
/-- The bytes of an act's ack. -/
def actB (F win : Int) (d : Ac) : List Int := if (IntKind.u64.wrap d.1).tmod 6 = 4 then d.2.1 else packA (actN F win d.2.2.1) d.2.2.2
theorem actN_bd {F win N : Int} (h0 : 0 ≤ F) (h1 : F ≤ 1073741824) (hw : 1 ≤ win) (_hw2 : win ≤ 16) : 0 ≤ actN F win N ∧ actN F win N ≤ 1073741824 := by
  have hu : 0 ≤ IntKind.u64.wrap N := by simp [IntKind.wrap, IntKind.bits, IntKind.signed]; omega
  have ht : 0 ≤ (IntKind.u64.wrap N).tmod (win + 2) := by
    rw [Int.tmod_eq_emod_of_nonneg hu]
    exact Int.emod_nonneg _ (by omega)
  unfold actN
  split <;> omega
set_option maxRecDepth 100000 in
set_option maxHeartbeats 4000000 in
theorem actBytes_any (c : Cfg) (X : Bool) (K R B N T F : Int) (E M : Nat) (ea : Option Addr) (ec : Nat) (wa : Option Addr) (wc : Nat) (hF0 : 0 ≤ F) (hF1 : F ≤ 1073741824) (hw1 : 1 ≤ c.cWin) (hw2 : c.cWin ≤ 16) (d : Ac) (xa : Option Addr) (xc : Nat) (hb0 : 0 ≤ d.2.2.2) (hb1 : d.2.2.2 < 4294967296) (hxc : d.2.1.length ≤ xc) (w : World) (hx : Holds .u8 w.heap.size w (.slice xa d.2.1.length xc) d.2.1) :
    Calls Tryd.prog 10 #[.agg #[.int .i64 c.cB, .int .i64 c.cBeam, .int .i64 c.cDepth, .int .i64 c.cWin, .int .i64 c.cQs, .int .i64 c.cQr, .int .i64 c.cBatch, .int .i64 c.cPass, .int .i64 c.cMsg, .int .i64 c.cSeqs, .bool X, .int .i64 K, .int .i64 R, .int .i64 B, .int .i64 N, .int .i64 T, .int .i64 F, .slice ea E ec, .slice wa M wc], .agg #[.int .i64 d.1, .slice xa d.2.1.length xc, .int .i64 d.2.2.1, .int .u32 d.2.2.2]] w fun e w' => ∃ ya yc, e = .returned (.slice ya (actB F c.cWin d).length yc) ∧ Holds .u8 w'.heap.size w' (.slice ya (actB F c.cWin d).length yc) (actB F c.cWin d) ∧ (actB F c.cWin d).length ≤ yc ∧ Below w.heap.size w w' := by
  obtain ⟨dd, xs, dn, db⟩ := d
  dsimp only at *
  obtain ⟨xn, hxn⟩ : ∃ n, xs.length = n := ⟨_, rfl⟩
  rw [hxn] at hx hxc ⊢
  have bb : Below w.heap.size w ((w.alloc (.cells #[.int .i64 c.cB, .int .i64 c.cBeam, .int .i64 c.cDepth, .int .i64 c.cWin, .int .i64 c.cQs, .int .i64 c.cQr, .int .i64 c.cBatch, .int .i64 c.cPass, .int .i64 c.cMsg, .int .i64 c.cSeqs, .bool X, .int .i64 K, .int .i64 R, .int .i64 B, .int .i64 N, .int .i64 T, .int .i64 F, .slice ea E ec, .slice wa M wc] 30)).alloc (.cells #[.int .i64 dd, .slice xa xn xc, .int .i64 dn, .int .u32 db] 38)) := ((Below.refl w.heap.size w).alloc (Nat.le_refl _) _).alloc (by simp) _
  have b1 : Below w.heap.size w (w.alloc (.cells #[.int .i64 c.cB, .int .i64 c.cBeam, .int .i64 c.cDepth, .int .i64 c.cWin, .int .i64 c.cQs, .int .i64 c.cQr, .int .i64 c.cBatch, .int .i64 c.cPass, .int .i64 c.cMsg, .int .i64 c.cSeqs, .bool X, .int .i64 K, .int .i64 R, .int .i64 B, .int .i64 N, .int .i64 T, .int .i64 F, .slice ea E ec, .slice wa M wc] 30)) := (Below.refl w.heap.size w).alloc (Nat.le_refl _) _
  have b2 : Below (w.alloc (.cells #[.int .i64 c.cB, .int .i64 c.cBeam, .int .i64 c.cDepth, .int .i64 c.cWin, .int .i64 c.cQs, .int .i64 c.cQr, .int .i64 c.cBatch, .int .i64 c.cPass, .int .i64 c.cMsg, .int .i64 c.cSeqs, .bool X, .int .i64 K, .int .i64 R, .int .i64 B, .int .i64 N, .int .i64 T, .int .i64 F, .slice ea E ec, .slice wa M wc] 30)).heap.size (w.alloc (.cells #[.int .i64 c.cB, .int .i64 c.cBeam, .int .i64 c.cDepth, .int .i64 c.cWin, .int .i64 c.cQs, .int .i64 c.cQr, .int .i64 c.cBatch, .int .i64 c.cPass, .int .i64 c.cMsg, .int .i64 c.cSeqs, .bool X, .int .i64 K, .int .i64 R, .int .i64 B, .int .i64 N, .int .i64 T, .int .i64 F, .slice ea E ec, .slice wa M wc] 30)) ((w.alloc (.cells #[.int .i64 c.cB, .int .i64 c.cBeam, .int .i64 c.cDepth, .int .i64 c.cWin, .int .i64 c.cQs, .int .i64 c.cQr, .int .i64 c.cBatch, .int .i64 c.cPass, .int .i64 c.cMsg, .int .i64 c.cSeqs, .bool X, .int .i64 K, .int .i64 R, .int .i64 B, .int .i64 N, .int .i64 T, .int .i64 F, .slice ea E ec, .slice wa M wc] 30)).alloc (.cells #[.int .i64 dd, .slice xa xn xc, .int .i64 dn, .int .u32 db] 38)) := (Below.refl _ _).alloc (Nat.le_refl _) _
  have x1 := (Box.new w 30 #[.int .i64 c.cB, .int .i64 c.cBeam, .int .i64 c.cDepth, .int .i64 c.cWin, .int .i64 c.cQs, .int .i64 c.cQr, .int .i64 c.cBatch, .int .i64 c.cPass, .int .i64 c.cMsg, .int .i64 c.cSeqs, .bool X, .int .i64 K, .int .i64 R, .int .i64 B, .int .i64 N, .int .i64 T, .int .i64 F, .slice ea E ec, .slice wa M wc]).next b2
  have x2 := Box.new (w.alloc (.cells #[.int .i64 c.cB, .int .i64 c.cBeam, .int .i64 c.cDepth, .int .i64 c.cWin, .int .i64 c.cQs, .int .i64 c.cQr, .int .i64 c.cBatch, .int .i64 c.cPass, .int .i64 c.cMsg, .int .i64 c.cSeqs, .bool X, .int .i64 K, .int .i64 R, .int .i64 B, .int .i64 N, .int .i64 T, .int .i64 F, .slice ea E ec, .slice wa M wc] 30)) 38 #[.int .i64 dd, .slice xa xn xc, .int .i64 dn, .int .u32 db]
  have hsz : (w.alloc (.cells #[.int .i64 c.cB, .int .i64 c.cBeam, .int .i64 c.cDepth, .int .i64 c.cWin, .int .i64 c.cQs, .int .i64 c.cQr, .int .i64 c.cBatch, .int .i64 c.cPass, .int .i64 c.cMsg, .int .i64 c.cSeqs, .bool X, .int .i64 K, .int .i64 R, .int .i64 B, .int .i64 N, .int .i64 T, .int .i64 F, .slice ea E ec, .slice wa M wc] 30)).heap.size = w.heap.size + 1 := by simp
  rw [hsz] at x2
  have HX : Hid (Holds .u8 w.heap.size w (.slice xa xn xc) xs) := hx
  clear b1 b2 hsz hx
  go_enter Tryd.func10, Tryd.ntmps10
  go_upto_region 1 with fail
  generalize (w.alloc (.cells #[.int .i64 c.cB, .int .i64 c.cBeam, .int .i64 c.cDepth, .int .i64 c.cWin, .int .i64 c.cQs, .int .i64 c.cQr, .int .i64 c.cBatch, .int .i64 c.cPass, .int .i64 c.cMsg, .int .i64 c.cSeqs, .bool X, .int .i64 K, .int .i64 R, .int .i64 B, .int .i64 N, .int .i64 T, .int .i64 F, .slice ea E ec, .slice wa M wc] 30)).alloc (.cells #[.int .i64 dd, .slice xa xn xc, .int .i64 dn, .int .u32 db] 38) = w2 at *
  have c0 := x2.cell 0 _ rfl
  have c1 := x2.cell 1 _ rfl
  have l2 := x2.lt
  by_cases h4 : (IntKind.u64.wrap dd).tmod 6 = 4
  · have e : actB F c.cWin (dd, xs, dn, db) = xs := if_pos h4
    have HE : Hid (actB F c.cWin (dd, xs, dn, db) = xs) := e
    have HXN : Hid (xs.length = xn) := hxn
    have d4 : ((IntKind.u64.wrap dd).tmod 6 == 4) = true := by rw [beq_iff_eq]; exact h4
    clear e hxn
    go_wp2_with fail
    go_ret
    refine ⟨xa, xc, ?_⟩
    rw [HE.out, HXN.out]
    exact ⟨rfl, (HX.out.below bb).mono bb.size, hxc, bb⟩
  · have e : actB F c.cWin (dd, xs, dn, db) = packA (actN F c.cWin dn) db := if_neg h4
    have d4 : ((IntKind.u64.wrap dd).tmod 6 == 4) = false := by rw [beq_eq_false_iff_ne]; exact h4
    have hN := actN_bd (N := dn) hF0 hF1 hw1 hw2
    have hu : 0 ≤ IntKind.u64.wrap dn := by simp [IntKind.wrap, IntKind.bits, IntKind.signed]; omega
    obtain ⟨q, hq⟩ : ∃ q, (IntKind.u64.wrap dn).tmod (c.cWin + 2) = q := ⟨_, rfl⟩
    have hq0 : 0 ≤ q ∧ q < c.cWin + 2 := by
      rw [← hq, Int.tmod_eq_emod_of_nonneg hu]
      exact ⟨Int.emod_nonneg _ (by omega), Int.emod_lt_of_pos _ (by omega)⟩
    have hN2 : actN F c.cWin dn = if 1073741824 < F + q then F else F + q := by
      unfold actN
      rw [hq]
    obtain ⟨zs, hzs⟩ : ∃ zs, packA (actN F c.cWin dn) db = zs := ⟨_, rfl⟩
    have hzl : zs.length = 13 := by rw [← hzs]; exact packA_len _ _
    have HE : Hid (actB F c.cWin (dd, xs, dn, db) = zs ∧ zs.length = 13) := ⟨e.trans hzs, hzl⟩
    have HRA := fun wx => refAck_any (actN F c.cWin dn) db hb0 hb1 wx
    rw [hzs] at HRA
    clear hzs hzl
    generalize actN F c.cWin dn = m at *
    have c3 := x2.cell 3 _ rfl
    have c2 := x2.cell 2 _ rfl
    have s3 := x1.cell 3 _ rfl
    have s16 := x1.cell 16 _ rfl
    have l1 := x1.lt
    have w2c : IntKind.i64.wrap (c.cWin + 2) = c.cWin + 2 := by rw [IntKind.wrap_i64]; omega
    have w2u : IntKind.u64.wrap (c.cWin + 2) = c.cWin + 2 := by rw [IntKind.wrap_u64]; omega
    have wq : IntKind.i64.wrap q = q := by rw [IntKind.wrap_i64]; omega
    have wFq : IntKind.i64.wrap (F + q) = F + q := by rw [IntKind.wrap_i64]; omega
    have hne : c.cWin + 2 ≠ 0 := by omega
    have dz : ((c.cWin + 2) == 0) = false := by rw [beq_eq_false_iff_ne]; exact hne
    have k16 : Hid (w2.cell? ⟨w.heap.size, 16, none⟩ = some (.int .i64 F)) := s16
    have k3 : Hid (w2.cell? ⟨w.heap.size, 3, none⟩ = some (.int .i64 c.cWin)) := s3
    have k2 : Hid (w2.cell? ⟨w.heap.size + 1, 2, none⟩ = some (.int .i64 dn)) := c2
    clear e hu h4
    go_upto_region 3 with fail
    go_cut [5] (fun v wx => v = .int .i64 (F + q) ∧ Below w2.heap.size w2 wx)
    case first =>
      as_aux_lemma =>
        refine wp_region_held_drew (S := fun w' => Below w2.heap.size w2 w') (by kernel_rfl) ((Below.refl w2.heap.size w2).drew) (fun hHeld => ?_)
        refine held_take (i := 0) (d := 13) (v := ?v1) rfl rfl (by kernel_rfl) (by kernel_rfl) (by kernel_rfl) (fun _ _ _ h => h) (Or.inl ⟨by kernel_rfl, ?hy1⟩) hHeld ?rest1
        case hy1 =>
          intro wx hSw
          clear hSw
          go_simp
          with_reducible rfl
        simp only [List.setIfInBounds_toArray, List.set_cons_zero, List.set_cons_succ]
        refine held_take (i := 1) (d := 14) (v := ?v2) rfl rfl (by kernel_rfl) (by kernel_rfl) (by kernel_rfl) (fun _ _ _ h => h) (Or.inl ⟨by kernel_rfl, ?hy2⟩) hHeld ?rest2
        case hy2 =>
          intro wx hSw
          have q0 := (hSw.cell (p := ⟨w.heap.size, 16, none⟩) l1).trans k16.out
          clear hSw
          go_simp
          with_reducible rfl
        simp only [List.setIfInBounds_toArray, List.set_cons_zero, List.set_cons_succ]
        refine held_take (i := 2) (d := 15) (v := ?v3) rfl rfl (by kernel_rfl) (by kernel_rfl) (by kernel_rfl) (fun _ _ _ h => h) (Or.inl ⟨by kernel_rfl, ?hy3⟩) hHeld ?rest3
        case hy3 =>
          intro wx hSw
          clear hSw
          go_simp
          with_reducible rfl
        simp only [List.setIfInBounds_toArray, List.set_cons_zero, List.set_cons_succ]
        refine held_take (i := 3) (d := 16) (v := ?v4) rfl rfl (by kernel_rfl) (by kernel_rfl) (by kernel_rfl) (fun _ _ _ h => h) (Or.inl ⟨by kernel_rfl, ?hy4⟩) hHeld ?rest4
        case hy4 =>
          intro wx hSw
          have q0 := (hSw.cell (p := ⟨w.heap.size + 1, 2, none⟩) l2).trans k2.out
          clear hSw
          go_simp
          with_reducible rfl
        simp only [List.setIfInBounds_toArray, List.set_cons_zero, List.set_cons_succ]
        refine held_take (i := 4) (d := 17) (v := ?v5) rfl rfl (by kernel_rfl) (by kernel_rfl) (by kernel_rfl) (fun _ _ _ h => h) (Or.inl ⟨by kernel_rfl, ?hy5⟩) hHeld ?rest5
        case hy5 =>
          intro wx hSw
          clear hSw
          go_simp
          with_reducible rfl
        simp only [List.setIfInBounds_toArray, List.set_cons_zero, List.set_cons_succ]
        refine held_take (i := 5) (d := 18) (v := ?v6) rfl rfl (by kernel_rfl) (by kernel_rfl) (by kernel_rfl) (fun _ _ _ h => h) (Or.inl ⟨by kernel_rfl, ?hy6⟩) hHeld ?rest6
        case hy6 =>
          intro wx hSw
          clear hSw
          go_simp
          with_reducible rfl
        simp only [List.setIfInBounds_toArray, List.set_cons_zero, List.set_cons_succ]
        refine held_take (i := 6) (d := 19) (v := ?v7) rfl rfl (by kernel_rfl) (by kernel_rfl) (by kernel_rfl) (fun _ _ _ h => h) (Or.inl ⟨by kernel_rfl, ?hy7⟩) hHeld ?rest7
        case hy7 =>
          intro wx hSw
          clear hSw
          go_simp
          with_reducible rfl
        simp only [List.setIfInBounds_toArray, List.set_cons_zero, List.set_cons_succ]
        refine held_take (i := 7) (d := 20) (v := ?v8) rfl rfl (by kernel_rfl) (by kernel_rfl) (by kernel_rfl) (fun _ _ _ h => h) (Or.inl ⟨by kernel_rfl, ?hy8⟩) hHeld ?rest8
        case hy8 =>
          intro wx hSw
          have q0 := (hSw.cell (p := ⟨w.heap.size, 3, none⟩) l1).trans k3.out
          clear hSw
          go_simp
          with_reducible rfl
        simp only [List.setIfInBounds_toArray, List.set_cons_zero, List.set_cons_succ]
        refine held_take (i := 8) (d := 21) (v := ?v9) rfl rfl (by kernel_rfl) (by kernel_rfl) (by kernel_rfl) (fun _ _ _ h => h) (Or.inl ⟨by kernel_rfl, ?hy9⟩) hHeld ?rest9
        case hy9 =>
          intro wx hSw
          clear hSw
          go_simp
          with_reducible rfl
        simp only [List.setIfInBounds_toArray, List.set_cons_zero, List.set_cons_succ]
        refine held_take (i := 9) (d := 22) (v := ?v10) rfl rfl (by kernel_rfl) (by kernel_rfl) (by kernel_rfl) (fun _ _ _ h => h) (Or.inl ⟨by kernel_rfl, ?hy10⟩) hHeld ?rest10
        case hy10 =>
          intro wx hSw
          clear hSw
          go_simp
          with_reducible rfl
        simp only [List.setIfInBounds_toArray, List.set_cons_zero, List.set_cons_succ]
        refine held_take (i := 10) (d := 23) (v := ?v11) rfl rfl (by kernel_rfl) (by kernel_rfl) (by kernel_rfl) (fun _ _ _ h => h) (Or.inl ⟨by kernel_rfl, ?hy11⟩) hHeld ?rest11
        case hy11 =>
          intro wx hSw
          clear hSw
          go_simp
          with_reducible rfl
        simp only [List.setIfInBounds_toArray, List.set_cons_zero, List.set_cons_succ]
        refine held_take (i := 11) (d := 24) (v := ?v12) rfl rfl (by kernel_rfl) (by kernel_rfl) (by kernel_rfl) (fun _ _ _ h => h) (Or.inl ⟨by kernel_rfl, ?hy12⟩) hHeld ?rest12
        case hy12 =>
          intro wx hSw
          clear hSw
          go_simp
          with_reducible rfl
        simp only [List.setIfInBounds_toArray, List.set_cons_zero, List.set_cons_succ]
        refine held_take (i := 12) (d := 25) (v := ?v13) rfl rfl (by kernel_rfl) (by kernel_rfl) (by kernel_rfl) (fun _ _ _ h => h) (Or.inl ⟨by kernel_rfl, ?hy13⟩) hHeld ?rest13
        case hy13 =>
          intro wx hSw
          clear hSw
          go_simp
          with_reducible rfl
        simp only [List.setIfInBounds_toArray, List.set_cons_zero, List.set_cons_succ]
        refine wpAnyH_ready (rs := [13]) (by kernel_rfl) (by simp) ?_
        refine AllReadyH.cons rfl (fun K hK => ?_) AllReadyH.nil
        go_simp
        refine hK.out _ _ hHeld (fun hHeld => ?_)
        clear hK K
        refine wpAnyH_done (by kernel_rfl) ?_ _
        go_wp2_with fail
        go_meet
        exact ⟨rfl, hHeld⟩
    case rest =>
      obtain ⟨rfl, b9⟩ := hcut
      generalize hwc : wc = w3 at *
      replace x1 := x1.next b9
      replace x2 := x2.next b9
      replace bb := bb.trans (b9.mono bb.size)
      clear hwc b9 c0 c1 c2 c3 s3 s16 l1 l2
      have c3 := x2.cell 3 _ rfl
      have s16 := x1.cell 16 _ rfl
      have l2 := x2.lt
      have l1 := x1.lt
      by_cases hg : 1073741824 < F + q
      · have dg : decide (1073741824 < F + q) = true := decide_eq_true hg
        obtain rfl : m = F := by rw [hN2, if_pos hg]
        clear hN2
        go_wp2_with fail
        refine (HRA _).mono ?_
        rintro e w4 ⟨q9, rfl, o9, b9⟩
        obtain ⟨ya, yc, rfl⟩ := row_shapeA o9
        go_wp2
        go_ret
        refine ⟨ya, yc, ?_⟩
        rw [HE.out.1, HE.out.2]
        exact ⟨rfl, holds_of_row o9, rowK_cap o9, bb.trans (b9.mono bb.size)⟩
      · have dg : decide (1073741824 < F + q) = false := decide_eq_false hg
        obtain rfl : m = F + q := by rw [hN2, if_neg hg]
        clear hN2
        go_wp2_with fail
        refine (HRA _).mono ?_
        rintro e w4 ⟨q9, rfl, o9, b9⟩
        obtain ⟨ya, yc, rfl⟩ := row_shapeA o9
        go_wp2
        go_ret
        refine ⟨ya, yc, ?_⟩
        rw [HE.out.1, HE.out.2]
        exact ⟨rfl, holds_of_row o9, rowK_cap o9, bb.trans (b9.mono bb.size)⟩

end Go.Proofs.YtmjidhnlofpliaaDoor
