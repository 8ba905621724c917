/-
  Lists of blocks that are sent (numbers, acked, bytes) in memory; lists of texts in memory of the call's own. No function of the program is spoken of.
-/
import Derived.Test.YtmjidhnlofpliaaDoorM10
import Derived.Test.YtmjidhnlofpliaaDoorM26
import Derived.Test.YtmjidhnlofpliaaDoorM27
import Derived.Test.YtmjidhnlofpliaaDoorM28
import Derived.Deep.Cut
import Derived.Deep.CutRange
import Derived.Deep.DeepCutAuto
namespace Go.Proofs.YtmjidhnlofpliaaDoor
open Go.RowKit

def emK : Kind Em where
  ty := 47
  k := 5
  lie := fun y ps => [.int .i64 y.eS, .int .i64 y.eR, .int .i64 y.eF, .bool y.eA, ps.getD 0 (.slice none 0 0)]
  subs := fun y => [⟨5, 1, y.eB.length, y.eB.map (Value.int .u8)⟩]
  len := fun _ _ => rfl
  one := fun y ps h u hu => by
    simp only [List.mem_cons, List.not_mem_nil, or_false] at hu
    rcases hu with rfl | rfl | rfl | rfl | rfl
    · rfl
    · rfl
    · rfl
    · rfl
    · match ps, h with
      | [], _ => rfl
      | p :: _, h => obtain ⟨a, n, c, rfl⟩ := h p (by simp); rfl
theorem emK_unlike : emK.unlike := fun y t ht => by
  simp only [emK, List.mem_cons, List.not_mem_nil, or_false] at ht
  subst ht
  show (5 : Nat) ≠ 47
  decide
abbrev Ems := Sts emK
abbrev OwnEms := OwnSts emK
theorem infoEm : (Tryd.prog.info? 47).map (fun i => (i.zero, i.size, i.bytes)) = some (some (.agg #[.int .i64 0, .int .i64 0, .int .i64 0, .bool false, .slice none 0 0]), 5, 56) := by kernel_rfl
/-- The k-th block that is sent, where it lies, with its bytes. -/
def AtEm (W : World) (gb o : Nat) (e : Em) (pa : Option Addr) (x pc : Nat) : Prop :=
  (gb < W.heap.size ∧ W.cell? ⟨gb, o, none⟩ = some (.int .i64 e.eS) ∧ W.cell? ⟨gb, o + 1, none⟩ = some (.int .i64 e.eR) ∧ W.cell? ⟨gb, o + 2, none⟩ = some (.int .i64 e.eF) ∧ W.cell? ⟨gb, o + 3, none⟩ = some (.bool e.eA) ∧ W.cell? ⟨gb, o + 4, none⟩ = some (.slice pa x pc)) ∧ Holds .u8 W.heap.size W (.slice pa x pc) e.eB ∧ e.eB.length = x
theorem AtEm.next {W W' : World} {gb o : Nat} {e : Em} {pa : Option Addr} {x pc : Nat} (h : AtEm W gb o e pa x pc) (b : Below W.heap.size W W') : AtEm W' gb o e pa x pc := by
  obtain ⟨⟨h0, h1, h2, h3, h4, h5⟩, h6, h7⟩ := h
  exact ⟨⟨Nat.lt_of_lt_of_le h0 b.size, (b.cell (p := ⟨gb, o, none⟩) h0).trans h1, (b.cell (p := ⟨gb, o + 1, none⟩) h0).trans h2, (b.cell (p := ⟨gb, o + 2, none⟩) h0).trans h3, (b.cell (p := ⟨gb, o + 3, none⟩) h0).trans h4, (b.cell (p := ⟨gb, o + 4, none⟩) h0).trans h5⟩, h6.next b, h7⟩
theorem AtEm.lt {W : World} {gb o : Nat} {e : Em} {pa : Option Addr} {x pc : Nat} (h : AtEm W gb o e pa x pc) : gb < W.heap.size := h.1.1
theorem AtEm.held {W : World} {gb o : Nat} {e : Em} {pa : Option Addr} {x pc : Nat} (h : AtEm W gb o e pa x pc) : Holds .u8 W.heap.size W (.slice pa x pc) e.eB := h.2.1
theorem atEm_of {n₀ n cap : Nat} {W W' : World} {a : Option Addr} {l : List Em} (h : Ems n₀ W (.slice a n cap) l) {k : Nat} {e : Em} (hk : l[k]? = some e) (hb : Below n₀ W W') (hn : n₀ ≤ W.heap.size) :
    ∃ gb off pa x pc, a = some ⟨gb, off, none⟩ ∧ AtEm W' gb (off + k * 5) e pa x pc := by
  have h0 : 0 < l.length := by
    have := (List.getElem?_eq_some_iff.1 hk).1
    omega
  obtain ⟨b, off, rfl, hlt, hc⟩ := h.at h0
  obtain ⟨ps, hs, hcell⟩ := hc k e hk
  obtain ⟨p, rfl, hp⟩ := hs.one
  have hp' := hp.ints rfl
  obtain ⟨pa, pc, rfl⟩ : ∃ pa pc, p = .slice pa e.eB.length pc := hp'.shape
  have hs := hb.size
  exact ⟨b, off, pa, _, pc, rfl, ⟨by omega, (hb.cell (p := ⟨b, off + k * 5, none⟩) hlt).trans (hcell 0 _ rfl), (hb.cell (p := ⟨b, off + k * 5 + 1, none⟩) hlt).trans (hcell 1 _ rfl), (hb.cell (p := ⟨b, off + k * 5 + 2, none⟩) hlt).trans (hcell 2 _ rfl), (hb.cell (p := ⟨b, off + k * 5 + 3, none⟩) hlt).trans (hcell 3 _ rfl), (hb.cell (p := ⟨b, off + k * 5 + 4, none⟩) hlt).trans (hcell 4 _ rfl)⟩, (hp'.below hb).mono (by omega), rfl⟩
/-- One more, at the end of those of the call's own. -/
theorem run_append_em (v : Value) (n base : Nat) (r : Lies Em) (e : Em) (p : Value) (hp : ∃ a n c, p = Value.slice a n c) (ty : TypeId) (w : World) (hown : w.ownsRow base 47 5 v n (cellsK emK r)) (hb : base ≤ w.heap.size) (h1 : n ≤ 1048576) :
    ∃ v' w', (Builtin.append_ #[28, 28] ty #[v, .slice (some ⟨w.heap.size, 0, none⟩) 1 1]).run Tryd.prog (w.alloc (.cells #[.int .i64 e.eS, .int .i64 e.eR, .int .i64 e.eF, .bool e.eA, p] 47)) = .ok v' w' ∧ w'.ownsRow base 47 5 v' (n + 1) (cellsK emK (r ++ [(e, [p])])) ∧ (w.alloc (.cells #[.int .i64 e.eS, .int .i64 e.eR, .int .i64 e.eF, .bool e.eA, p] 47)).grownBy w' v.ownBlock :=
  run_append_st emK 28 ty _ 56 Tryd.underlying28 infoEm rfl (by decide) (by decide) v n base r (e, [p]) (fun q hq => by simp at hq; subst hq; exact hp) _ rfl w hown hb h1

/-- Lists of texts. -/
def txK : Kind (List Int) where
  ty := 35
  k := 1
  lie := fun _ ps => [ps.getD 0 (.slice none 0 0)]
  subs := fun y => [⟨5, 1, y.length, y.map (Value.int .u8)⟩]
  len := fun _ _ => rfl
  one := fun y ps h u hu => by
    simp only [List.mem_cons, List.not_mem_nil, or_false] at hu
    subst hu
    match ps, h with
    | [], _ => rfl
    | p :: _, h => obtain ⟨a, n, c, rfl⟩ := h p (by simp); rfl
theorem txK_unlike : txK.unlike := fun y t ht => by
  simp only [txK, List.mem_cons, List.not_mem_nil, or_false] at ht
  subst ht
  show (5 : Nat) ≠ 35
  decide
abbrev OwnTxs := OwnSts txK
theorem infoTx : (Tryd.prog.info? 35).map (fun i => (i.zero, i.size, i.bytes)) = some (some (.slice none 0 0), 1, 24) := by kernel_rfl
theorem run_append_tx (v : Value) (n base : Nat) (r : Lies (List Int)) (xs : List Int) (p : Value) (hp : ∃ a n c, p = Value.slice a n c) (ty : TypeId) (w : World) (hown : w.ownsRow base 35 1 v n (cellsK txK r)) (hb : base ≤ w.heap.size) (h1 : n ≤ 1048576) :
    ∃ v' w', (Builtin.append_ #[39, 39] ty #[v, .slice (some ⟨w.heap.size, 0, none⟩) 1 1]).run Tryd.prog (w.alloc (.cells #[p] 35)) = .ok v' w' ∧ w'.ownsRow base 35 1 v' (n + 1) (cellsK txK (r ++ [(xs, [p])])) ∧ (w.alloc (.cells #[p] 35)).grownBy w' v.ownBlock :=
  run_append_st txK 39 ty _ 24 Tryd.underlying39 infoTx rfl (by decide) (by decide) v n base r (xs, [p]) (fun q hq => by simp at hq; subst hq; exact hp) _ rfl w hown hb h1

end Go.Proofs.YtmjidhnlofpliaaDoor

/-
  Whether a sender's numbers are right: isCount, areRightNumbers. (Written by tpl_sendcode.py.)
-/
namespace Go.Proofs.YtmjidhnlofpliaaDoor
open Go.RowKit

/-- Whether its numbers are right, as the code asks it. -/
def numsB (c : Cfg) (K R B N T F : Int) (E : Nat) : Bool := isCn K && isCn R && isCn B && decide (0 ≤ F) && decide (F ≤ T) && decide (T ≤ c.cSeqs) && decide ((E : Int) ≤ N) && decide (N ≤ T)
set_option maxRecDepth 100000 in
set_option maxHeartbeats 4000000 in
theorem sendNums_any (c : Cfg) (X : Bool) (K R B N T F : Int) (ea : Option Addr) (E ec : Nat) (wa : Option Addr) (M wc : Nat) (w : World) :
    Calls Tryd.prog 34 #[.agg #[.int .i64 c.cB, .int .i64 c.cBeam, .int .i64 c.cDepth, .int .i64 c.cWin, .int .i64 c.cQs, .int .i64 c.cQr, .int .i64 c.cBatch, .int .i64 c.cPass, .int .i64 c.cMsg, .int .i64 c.cSeqs, .bool X, .int .i64 K, .int .i64 R, .int .i64 B, .int .i64 N, .int .i64 T, .int .i64 F, .slice ea E ec, .slice wa M wc]] w fun e w' => e = .returned (.bool (numsB c K R B N T F E)) ∧ Below w.heap.size w w' := by
  have bb : Below w.heap.size w (w.alloc (.cells #[.int .i64 c.cB, .int .i64 c.cBeam, .int .i64 c.cDepth, .int .i64 c.cWin, .int .i64 c.cQs, .int .i64 c.cQr, .int .i64 c.cBatch, .int .i64 c.cPass, .int .i64 c.cMsg, .int .i64 c.cSeqs, .bool X, .int .i64 K, .int .i64 R, .int .i64 B, .int .i64 N, .int .i64 T, .int .i64 F, .slice ea E ec, .slice wa M wc] 30)) := (Below.refl _ _).alloc (Nat.le_refl _) _
  go_enter Tryd.func34, Tryd.ntmps34
  go_wp2
  all_goals go_ret
  all_goals refine ⟨?_, bb⟩
  all_goals first | (simp [numsB, isCn, *]; done) | (simp [numsB, isCn, *]; intros; omega)

set_option maxRecDepth 100000 in
set_option maxHeartbeats 4000000 in
theorem sendEnds_any (c : Cfg) (X : Bool) (K R B N T F : Int) (ea : Option Addr) (E ec : Nat) (wa : Option Addr) (M wc : Nat) (l : List Int) (hl : l.length = E) (hE : E ≤ 1000000) (w : World) (ha : Holds .i64 w.heap.size w (.slice ea E ec) l) :
    Calls Tryd.prog 35 #[.agg #[.int .i64 c.cB, .int .i64 c.cBeam, .int .i64 c.cDepth, .int .i64 c.cWin, .int .i64 c.cQs, .int .i64 c.cQr, .int .i64 c.cBatch, .int .i64 c.cPass, .int .i64 c.cMsg, .int .i64 c.cSeqs, .bool X, .int .i64 K, .int .i64 R, .int .i64 B, .int .i64 N, .int .i64 T, .int .i64 F, .slice ea E ec, .slice wa M wc]] w fun e w' => AnsB e (upTo F l T ∧ (E : Int) ≤ c.cQs) ∧ Below w.heap.size w w' := by
  have bb : Below w.heap.size w (w.alloc (.cells #[.int .i64 c.cB, .int .i64 c.cBeam, .int .i64 c.cDepth, .int .i64 c.cWin, .int .i64 c.cQs, .int .i64 c.cQr, .int .i64 c.cBatch, .int .i64 c.cPass, .int .i64 c.cMsg, .int .i64 c.cSeqs, .bool X, .int .i64 K, .int .i64 R, .int .i64 B, .int .i64 N, .int .i64 T, .int .i64 F, .slice ea E ec, .slice wa M wc] 30)) := (Below.refl _ _).alloc (Nat.le_refl _) _
  have x1 := Box.new w 30 #[.int .i64 c.cB, .int .i64 c.cBeam, .int .i64 c.cDepth, .int .i64 c.cWin, .int .i64 c.cQs, .int .i64 c.cQr, .int .i64 c.cBatch, .int .i64 c.cPass, .int .i64 c.cMsg, .int .i64 c.cSeqs, .bool X, .int .i64 K, .int .i64 R, .int .i64 B, .int .i64 N, .int .i64 T, .int .i64 F, .slice ea E ec, .slice wa M wc]
  replace ha := ha.below bb
  have HL : Hid (l.length = E) := hl
  have HU : Hid (upTo F l T ↔ (∀ (k : Nat) (x : Int), l[k]? = some x → lastE F l k < x) ∧ lastE F l E = T) := hl ▸ upTo_iff
  clear hl
  go_enter Tryd.func35, Tryd.ntmps35
  go_wp2
  obtain ⟨W1, hW1⟩ : ∃ W, w.alloc (.cells #[.int .i64 c.cB, .int .i64 c.cBeam, .int .i64 c.cDepth, .int .i64 c.cWin, .int .i64 c.cQs, .int .i64 c.cQr, .int .i64 c.cBatch, .int .i64 c.cPass, .int .i64 c.cMsg, .int .i64 c.cSeqs, .bool X, .int .i64 K, .int .i64 R, .int .i64 B, .int .i64 N, .int .i64 T, .int .i64 F, .slice ea E ec, .slice wa M wc] 30) = W := ⟨_, rfl⟩
  rw [hW1] at bb x1 ha ⊢
  have HA : Hid (∀ k x, l[k]? = some x → ∃ b off, ea = some ⟨b, off, none⟩ ∧ W1.cell? ⟨b, off + k, none⟩ = some (.int .i64 x)) := fun k x hx => by
    have hk := (List.getElem?_eq_some_iff.1 hx).1
    rcases ha with ⟨_, e⟩ | ⟨b, off, cap, e, _, hc⟩
    · rw [e] at hk; simp at hk
    · cases e
      refine ⟨b, off, rfl, ?_⟩
      rw [hc k hk, hx]
      rfl
  have c15 := x1.cell 15 _ rfl
  have c16 := x1.cell 16 _ rfl
  have c17 := x1.cell 17 _ rfl
  have c4 := x1.cell 4 _ rfl
  have l1 := x1.lt
  clear hW1 ha x1
  go_loopw [3, 11] (fun t i wr => ∃ k : Nat, k ≤ E ∧ i = .int .i64 (k : Int) ∧ t = .int .i64 (lastE F l k) ∧ Hid (∀ (j : Nat) (x : Int), j < k → l[j]? = some x → lastE F l j < x) ∧ wr = W1) (fun _ i _ => E - (intOf i).toNat)
  case atStart => exact ⟨0, Nat.zero_le _, rfl, rfl, (fun j x hj => absurd hj (Nat.not_lt_zero _)), rfl⟩
  case round =>
    obtain ⟨k, hk, rfl, rfl, HR, rfl⟩ := hrel
    by_cases hlt : k < E
    · obtain ⟨x, hx⟩ : ∃ x, l[k]? = some x := ⟨l[k]'(by rw [HL.out]; exact hlt), by simp⟩
      obtain ⟨b, off, rfl, hc⟩ := HA.out k x hx
      obtain ⟨p, hp⟩ : ∃ p, lastE F l k = p := ⟨_, rfl⟩
      have HX : Hid (l[k]? = some x) := hx
      have HP : Hid (lastE F l k = p) := hp
      rw [hp]
      clear hx hp
      by_cases hq : x ≤ p
      · have dq : decide (x ≤ p) = true := decide_eq_true hq
        have HN : Hid (x ≤ p) := hq
        clear hq
        go_wp2
        go_ret
        exact ⟨⟨false, rfl, ⟨fun h => (by cases h), fun h => absurd (HP.out ▸ (HU.out.1 h.1).1 k x HX.out) (Int.not_lt.2 HN.out)⟩⟩, bb⟩
      · have dq : decide (x ≤ p) = false := decide_eq_false hq
        have HN : Hid (p < x) := by show p < x; omega
        clear hq
        go_wp2
        refine ⟨⟨k + 1, hlt, by go_num, by rw [lastE_succ HX.out], ?_, (by trivial)⟩, by simp [intOf]; omega⟩
        intro j y hj hy
        by_cases hjk : j = k
        · subst hjk
          rw [HX.out] at hy
          cases hy
          rw [HP.out]
          exact HN.out
        · exact HR.out j y (by omega) hy
    · obtain rfl : k = E := by omega
      have HR2 : Hid (∀ (j : Nat) (x : Int), l[j]? = some x → lastE F l j < x) := fun j x hx => HR.out j x (by have := (List.getElem?_eq_some_iff.1 hx).1; have := HL.out; omega) hx
      obtain ⟨p, hp⟩ : ∃ p, lastE F l k = p := ⟨_, rfl⟩
      have HP : Hid (lastE F l k = p) := hp
      rw [hp]
      clear hp HR HA
      by_cases h1 : p = T
      · subst h1
        by_cases h2 : (k : Int) ≤ c.cQs
        · have d2 : decide ((k : Int) ≤ c.cQs) = true := decide_eq_true h2
          have H2 : Hid ((k : Int) ≤ c.cQs) := h2
          clear h2
          go_wp2
          go_ret
          exact ⟨⟨true, rfl, ⟨fun _ => ⟨HU.out.2 ⟨HR2.out, HP.out⟩, H2.out⟩, fun _ => rfl⟩⟩, bb⟩
        · have d2 : decide ((k : Int) ≤ c.cQs) = false := decide_eq_false h2
          have H2 : Hid (c.cQs < (k : Int)) := Int.not_le.1 h2
          clear h2
          go_wp2
          go_ret
          exact ⟨⟨false, rfl, ⟨fun h => (by cases h), fun h => absurd h.2 (Int.not_le.2 H2.out)⟩⟩, bb⟩
      · have d1 : (p == T) = false := by rw [beq_eq_false_iff_ne]; exact h1
        have H1 : Hid (¬ p = T) := h1
        clear h1
        go_wp2
        go_ret
        exact ⟨⟨false, rfl, ⟨fun h => (by cases h), fun h => absurd (HP.out ▸ (HU.out.1 h.1).2) H1.out⟩⟩, bb⟩

set_option maxRecDepth 100000 in
set_option maxHeartbeats 4000000 in
theorem sendWaits_any (c : Cfg) (hC : okC c = true) (X : Bool) (K R B N T F : Int) (hF0 : 0 ≤ F) (hFT : F ≤ T) (hT : T ≤ 1073741824) (ea : Option Addr) (E ec : Nat) (wa : Option Addr) (M wc : Nat) (l : List Em) (hl : l.length = M) (hM : M ≤ 1000000) (hm : ∀ e ∈ l, e.eB.length ≤ 4096) (w : World) (ha : Ems w.heap.size w (.slice wa M wc) l) :
    Calls Tryd.prog 36 #[.agg #[.int .i64 c.cB, .int .i64 c.cBeam, .int .i64 c.cDepth, .int .i64 c.cWin, .int .i64 c.cQs, .int .i64 c.cQr, .int .i64 c.cBatch, .int .i64 c.cPass, .int .i64 c.cMsg, .int .i64 c.cSeqs, .bool X, .int .i64 K, .int .i64 R, .int .i64 B, .int .i64 N, .int .i64 T, .int .i64 F, .slice ea E ec, .slice wa M wc]] w fun e w' => AnsB e ((M : Int) = T - F ∧ ∀ (i : Nat) (e : Em), l[i]? = some e → e.eS = F + (i : Int) ∧ okM c e) ∧ Below w.heap.size w w' := by
  have bb : Below w.heap.size w (w.alloc (.cells #[.int .i64 c.cB, .int .i64 c.cBeam, .int .i64 c.cDepth, .int .i64 c.cWin, .int .i64 c.cQs, .int .i64 c.cQr, .int .i64 c.cBatch, .int .i64 c.cPass, .int .i64 c.cMsg, .int .i64 c.cSeqs, .bool X, .int .i64 K, .int .i64 R, .int .i64 B, .int .i64 N, .int .i64 T, .int .i64 F, .slice ea E ec, .slice wa M wc] 30)) := (Below.refl _ _).alloc (Nat.le_refl _) _
  have x1 := Box.new w 30 #[.int .i64 c.cB, .int .i64 c.cBeam, .int .i64 c.cDepth, .int .i64 c.cWin, .int .i64 c.cQs, .int .i64 c.cQr, .int .i64 c.cBatch, .int .i64 c.cPass, .int .i64 c.cMsg, .int .i64 c.cSeqs, .bool X, .int .i64 K, .int .i64 R, .int .i64 B, .int .i64 N, .int .i64 T, .int .i64 F, .slice ea E ec, .slice wa M wc]
  replace ha := ha.next bb
  have HL : Hid (l.length = M) := hl
  have HM : Hid (∀ e ∈ l, e.eB.length ≤ 4096) := hm
  have HC : Hid (okC c = true) := hC
  clear hl hm hC
  have wTF : IntKind.i64.wrap (T - F) = T - F := by rw [IntKind.wrap_i64]; omega
  go_enter Tryd.func36, Tryd.ntmps36
  by_cases h0 : (M : Int) = T - F
  · have d0 : ((M : Int) != T - F) = false := by simpa using h0
    have H0 : Hid ((M : Int) = T - F) := h0
    clear h0
    go_wp2
    obtain ⟨W1, hW1⟩ : ∃ W, w.alloc (.cells #[.int .i64 c.cB, .int .i64 c.cBeam, .int .i64 c.cDepth, .int .i64 c.cWin, .int .i64 c.cQs, .int .i64 c.cQr, .int .i64 c.cBatch, .int .i64 c.cPass, .int .i64 c.cMsg, .int .i64 c.cSeqs, .bool X, .int .i64 K, .int .i64 R, .int .i64 B, .int .i64 N, .int .i64 T, .int .i64 F, .slice ea E ec, .slice wa M wc] 30) = W := ⟨_, rfl⟩
    rw [hW1] at bb x1 ha ⊢
    have HA : Hid (Ems W1.heap.size W1 (.slice wa M wc) l) := ha
    clear hW1 ha d0 wTF
    go_loopw [17] (fun i wr => ∃ k : Nat, k ≤ M ∧ i = .int .i64 (k : Int) ∧ Hid (∀ (j : Nat) (e : Em), j < k → l[j]? = some e → e.eS = F + (j : Int) ∧ okM c e) ∧ Box wr w.heap.size 30 #[.int .i64 c.cB, .int .i64 c.cBeam, .int .i64 c.cDepth, .int .i64 c.cWin, .int .i64 c.cQs, .int .i64 c.cQr, .int .i64 c.cBatch, .int .i64 c.cPass, .int .i64 c.cMsg, .int .i64 c.cSeqs, .bool X, .int .i64 K, .int .i64 R, .int .i64 B, .int .i64 N, .int .i64 T, .int .i64 F, .slice ea E ec, .slice wa M wc] ∧ Below W1.heap.size W1 wr ∧ Below w.heap.size w wr) (fun i _ => M - (intOf i).toNat)
    case atStart => exact ⟨0, Nat.zero_le _, rfl, (fun j x hj => absurd hj (Nat.not_lt_zero _)), x1, Below.refl _ _, bb⟩
    case round =>
      clear x1 bb
      obtain ⟨k, hk, rfl, HR, x1, b4, bb⟩ := hrel
      generalize hwr : wr = w4 at *
      clear hwr
      by_cases hlt : k < M
      · obtain ⟨e, he⟩ : ∃ y, l[k]? = some y := ⟨l[k]'(by rw [HL.out]; exact hlt), by simp⟩
        obtain ⟨gb, off, pa, x, pc, rfl, y2⟩ := atEm_of HA.out he b4 (Nat.le_refl _)
        have HX : Hid (e.eB.length = x) := y2.2.2
        have HE : Hid (l[k]? = some e) := he
        have hx4 : x ≤ 4096 := HX.out ▸ HM.out e (List.mem_of_getElem? he)
        have HB4 : Hid (Below W1.heap.size W1 w4) := b4
        clear he b4
        have b5 : Below w4.heap.size w4 (w4.alloc (.cells #[.int .i64 e.eS, .int .i64 e.eR, .int .i64 e.eF, .bool e.eA, .slice pa x pc] 47)) := (Below.refl _ _).alloc (Nat.le_refl _) _
        have x5 := Box.new w4 47 #[.int .i64 e.eS, .int .i64 e.eR, .int .i64 e.eF, .bool e.eA, .slice pa x pc]
        have y20 := y2.1.2.1
        have y21 := y2.1.2.2.1
        have y22 := y2.1.2.2.2.1
        have y23 := y2.1.2.2.2.2.1
        have y24 := y2.1.2.2.2.2.2
        have yl := y2.lt
        have c18 := x1.cell 18 _ rfl
        have l1 := x1.lt
        go_upto_region 6 with fail
        clear c18 l1 y20 y21 y22 y23 y24 yl y2
        replace x1 := x1.next b5
        replace bb := bb.trans (b5.mono bb.size)
        have HB5 : Hid (Below W1.heap.size W1 (w4.alloc (.cells #[.int .i64 e.eS, .int .i64 e.eR, .int .i64 e.eF, .bool e.eA, .slice pa x pc] 47))) := HB4.out.trans (b5.mono HB4.out.size)
        obtain ⟨w5, hw5⟩ : ∃ W, w4.alloc (.cells #[.int .i64 e.eS, .int .i64 e.eR, .int .i64 e.eF, .bool e.eA, .slice pa x pc] 47) = W := ⟨_, rfl⟩
        obtain ⟨B5, hB5⟩ : ∃ n, w4.heap.size = n := ⟨_, rfl⟩
        rw [hw5] at x1 x5 bb HB5 ⊢
        rw [hB5] at x5 ⊢
        clear hw5 hB5 b5 HB4
        have l1 := x1.lt
        have l5 := x5.lt
        have c16 := x1.cell 16 _ rfl
        have c50 := x5.cell 0 _ rfl
        have wFk : IntKind.i64.wrap (F + (k : Int)) = F + (k : Int) := by rw [IntKind.wrap_i64]; omega
        obtain ⟨q, hq⟩ : ∃ q, F + (k : Int) = q := ⟨_, rfl⟩
        rw [hq] at wFk
        have HQ : Hid (F + (k : Int) = q) := hq
        by_cases h1 : e.eS = q
        · have d1 : (e.eS != q) = false := by simpa using h1
          have H1 : Hid (e.eS = q) := h1
          clear h1
          have c51 := x5.cell 1 _ rfl
          have c52 := x5.cell 2 _ rfl
          have c53 := x5.cell 3 _ rfl
          have c54 := x5.cell 4 _ rfl
          have c10 := x1.cell 0 _ rfl
          have c11 := x1.cell 1 _ rfl
          have c12 := x1.cell 2 _ rfl
          have c13 := x1.cell 3 _ rfl
          have c14 := x1.cell 4 _ rfl
          have c15 := x1.cell 5 _ rfl
          have c16 := x1.cell 6 _ rfl
          have c17 := x1.cell 7 _ rfl
          have c18 := x1.cell 8 _ rfl
          have c19 := x1.cell 9 _ rfl
          have HK := fun wx => EmitCheck_any c e.eS e.eR e.eF e.eA pa x pc hx4 wx
          obtain ⟨z, hz⟩ : ∃ z, errE c e.eS e.eR e.eF x = z := ⟨_, rfl⟩
          rw [hz] at HK
          have HZ : Hid (errE c e.eS e.eR e.eF x = z) := hz
          clear hz
          go_wp2_with fail
          refine (HK _).mono ?_
          rintro e9 w6 ⟨rfl, b6⟩
          replace x1 := x1.next b6
          replace bb := bb.trans (b6.mono bb.size)
          have HB6 : Hid (Below W1.heap.size W1 w6) := HB5.out.trans (b6.mono HB5.out.size)
          clear HB5 b6 HK x5 l5 c50 c51 c52 c53 c54
          by_cases h2 : z = 0
          · have H2 : Hid (okM c e) := by
              have := errE_zero.1 (HZ.out.trans h2)
              unfold okM
              rw [HX.out]
              exact this.2
            subst h2
            go_wp2
            refine ⟨⟨k + 1, hlt, by go_num, ?_, x1, HB6.out, bb⟩, by simp [intOf]; omega⟩
            intro j y hj hy
            by_cases hjk : j = k
            · subst hjk
              rw [HE.out] at hy
              cases hy
              exact ⟨H1.out.trans HQ.out.symm, H2.out⟩
            · exact HR.out j y (by omega) hy
          · have d2 : (z != 0) = true := by simpa using h2
            have H2 : Hid (okM c e → False) := fun h => by
              refine h2 (HZ.out.symm.trans (errE_zero.2 ⟨HC.out, ?_⟩))
              unfold okM at h
              rw [HX.out] at h
              exact h
            clear h2
            go_wp2
            go_ret
            exact ⟨⟨false, rfl, ⟨fun h => (by cases h), fun h => (H2.out (h.2 k e HE.out).2).elim⟩⟩, bb⟩
        · have d1 : (e.eS != q) = true := by simpa using h1
          have H1 : Hid (e.eS = q → False) := h1
          clear h1
          go_wp2
          go_ret
          exact ⟨⟨false, rfl, ⟨fun h => (by cases h), fun h => (H1.out ((h.2 k e HE.out).1.trans HQ.out)).elim⟩⟩, bb⟩
      · obtain rfl : k = M := by omega
        have HR2 : Hid (∀ (j : Nat) (e : Em), l[j]? = some e → e.eS = F + (j : Int) ∧ okM c e) := fun j e hj => HR.out j e (by have := (List.getElem?_eq_some_iff.1 hj).1; have := HL.out; omega) hj
        clear HR
        go_wp2
        go_ret
        exact ⟨⟨true, rfl, ⟨fun _ => ⟨H0.out, HR2.out⟩, fun _ => rfl⟩⟩, bb⟩
  · have d0 : ((M : Int) != T - F) = true := by simpa using h0
    have H0 : Hid ((M : Int) = T - F → False) := h0
    clear h0
    go_wp2
    go_ret
    exact ⟨⟨false, rfl, ⟨fun h => (by cases h), fun h => (H0.out h.1).elim⟩⟩, bb⟩

end Go.Proofs.YtmjidhnlofpliaaDoor
