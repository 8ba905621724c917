/-
  Blocks that are sent, as numbers: which may be, what a tick makes of them. No function of the program is spoken of.
-/
import Derived.Test.YtmjidhnlofpliaaDoorM01
import Derived.Test.YtmjidhnlofpliaaDoorM02
import Derived.Test.YtmjidhnlofpliaaDoorM04
import Derived.Test.YtmjidhnlofpliaaDoorM06
import Derived.Test.YtmjidhnlofpliaaDoorM08
import Derived.Test.YtmjidhnlofpliaaDoorM09
import Derived.Test.YtmjidhnlofpliaaDoorM10
import Derived.Test.YtmjidhnlofpliaaDoorM11
import Derived.Test.YtmjidhnlofpliaaDoorM12
import Derived.Test.YtmjidhnlofpliaaDoorM17
import Derived.Test.YtmjidhnlofpliaaDoorM21
import Derived.Test.YtmjidhnlofpliaaDoorM24
import Derived.Test.YtmjidhnlofpliaaDoorM25
import Derived.Deep.AppendLies
import Derived.Deep.RegionHeldLaw
import Derived.Lib.MinMax
import Derived.Maps.AppendAt
namespace Go.Proofs.YtmjidhnlofpliaaDoor
open Go.RowKit

/-- May it be sent (of a right configuration)? -/
def okE (c : Cfg) (s r f : Int) (n : Nat) : Bool := decide ((n : Int) = c.cB + 10) && decide (0 ≤ s) && decide (s < 1073741824) && inC r 0 255 && inC f 0 (mostC c)
theorem okE_iff (c : Cfg) (s r f : Int) (n : Nat) : okE c s r f n = true ↔ (n : Int) = c.cB + 10 ∧ (0 ≤ s ∧ s < 1073741824) ∧ (0 ≤ r ∧ r ≤ 255) ∧ (0 ≤ f ∧ f ≤ mostC c) := by
  simp only [okE, Bool.and_eq_true, inC_iff, decide_eq_true_eq]
  omega
/-- What the calls ask of it: the configuration too. -/
def errE (c : Cfg) (s r f : Int) (n : Nat) : Int := if okC c && okE c s r f n then 0 else 1
theorem errE_zero {c : Cfg} {s r f : Int} {n : Nat} : errE c s r f n = 0 ↔ okC c = true ∧ okE c s r f n = true := by
  unfold errE
  rw [← Bool.and_eq_true]
  split <;> simp_all
theorem errE_one {c : Cfg} {s r f : Int} {n : Nat} (h : ¬ (okC c = true ∧ okE c s r f n = true)) : errE c s r f n = 1 := by
  unfold errE
  rw [← Bool.and_eq_true] at h
  rw [if_neg h]

/-- A tick: the round, where it begins, how many symbols. -/
def emR (c : Cfg) (r f : Int) : Int := if f = mostC c then (r + 1) % 256 else r
def emF (c : Cfg) (f : Int) : Int := if f = mostC c then 0 else f
def emN (c : Cfg) (f : Int) : Int := min c.cBatch (mostC c - emF c f)
/-- The symbols of a tick, its packet. -/
def emX (c : Cfg) (f : Int) (zs : List Int) : List Int := codeL zs (emF c f).toNat (emN c f).toNat
def emP (c : Cfg) (s r f : Int) (zs : List Int) : List Int := packD s (emR c r f) (emF c f) (emX c f zs)

theorem mostC_le {c : Cfg} (h : okC c = true) {n : Nat} (hn : (n : Int) = c.cB + 10) : mostC c ≤ 32 * (n : Int) := by
  have h2 := ((okC_iff c).1 h).2.2.2.2.2.2.2.1
  have h1 := ((okC_iff c).1 h).1
  unfold mostC segsC
  rw [← hn]
  have : 2 * (n : Int) * c.cPass ≤ 2 * (n : Int) * 16 := Int.mul_le_mul_of_nonneg_left (by omega) (by omega)
  omega
theorem emF_bd {c : Cfg} (h : okC c = true) {f : Int} (h0 : 0 ≤ f) (h1 : f ≤ mostC c) : 0 ≤ emF c f ∧ emF c f < mostC c := by
  have := mostC_bd h
  unfold emF
  split <;> omega
theorem emN_bd {c : Cfg} (h : okC c = true) {f : Int} (h0 : 0 ≤ f) (h1 : f ≤ mostC c) : 1 ≤ emN c f ∧ emN c f ≤ c.cBatch ∧ emN c f ≤ 64 ∧ emF c f + emN c f ≤ mostC c := by
  have hb := ((okC_iff c).1 h).2.2.2.2.2.2.1
  have := emF_bd h h0 h1
  unfold emN
  omega
theorem emR_bd {c : Cfg} {r f : Int} (h0 : 0 ≤ r ∧ r ≤ 255) : 0 ≤ emR c r f ∧ emR c r f ≤ 255 := by
  unfold emR
  split <;> omega
theorem emX_len (c : Cfg) (f : Int) (zs : List Int) : (emX c f zs).length = (emN c f).toNat := codeL_len _ _ _
theorem emX_bd (c : Cfg) (f : Int) (zs : List Int) : ∀ z ∈ emX c f zs, 0 ≤ z ∧ z ≤ 255 := codeL_bd _ _ _
theorem em_right {c : Cfg} (h : okC c = true) {s r f : Int} {zs : List Int} (hE : okE c s r f zs.length = true) : RightD s (emR c r f) (emF c f) (emX c f zs) := by
  obtain ⟨hn, hs, hr, hf⟩ := (okE_iff _ _ _ _ _).1 hE
  have h1 := emF_bd h hf.1 hf.2
  have h2 := emN_bd h hf.1 hf.2
  have h3 := mostC_bd h
  refine ⟨hs, emR_bd hr, by omega, ?_, ?_⟩
  · rw [emX_len]; omega
  · rw [emX_len]; omega
theorem em_ok {c : Cfg} (h : okC c = true) {s r f : Int} {n : Nat} (hE : okE c s r f n = true) : okE c s (emR c r f) (emF c f + emN c f) n = true := by
  obtain ⟨hn, hs, hr, hf⟩ := (okE_iff _ _ _ _ _).1 hE
  have h1 := emF_bd h hf.1 hf.2
  have h2 := emN_bd h hf.1 hf.2
  exact (okE_iff _ _ _ _ _).2 ⟨hn, hs, emR_bd hr, by omega, by omega⟩

end Go.Proofs.YtmjidhnlofpliaaDoor

/-
  The end that sends, as numbers: which may be, what becomes of it by messages, ticks, acks. No function of the program is spoken of.
-/
namespace Go.Proofs.YtmjidhnlofpliaaDoor
open Go.RowKit

/-- A block that is sent. -/
structure Em where
  eS : Int
  eR : Int
  eF : Int
  eA : Bool
  eB : List Int
/-- May it be (of a right configuration)? A new one; what a tick makes of it, and its packet. -/
def okM (c : Cfg) (e : Em) : Prop := okE c e.eS e.eR e.eF e.eB.length = true
def newM (s : Int) (b : List Int) : Em := ⟨s, 0, 0, false, b⟩
def tickM (c : Cfg) (e : Em) : Em := if e.eA = true then e else ⟨e.eS, emR c e.eR e.eF, emF c e.eF + emN c e.eF, false, e.eB⟩
def packM (c : Cfg) (e : Em) : Option (List Int) := if e.eA = true then none else some (emP c e.eS e.eR e.eF e.eB)
theorem tickM_acked {c : Cfg} {e : Em} (h : e.eA = true) : tickM c e = e := if_pos h
theorem tickM_more {c : Cfg} {e : Em} (h : e.eA = false) : tickM c e = ⟨e.eS, emR c e.eR e.eF, emF c e.eF + emN c e.eF, false, e.eB⟩ := if_neg (by simp [h])
theorem tickM_ok {c : Cfg} (hC : okC c = true) {e : Em} (h : okM c e) : okM c (tickM c e) := by
  cases ha : e.eA with
  | true => rw [tickM_acked ha]; exact h
  | false => rw [tickM_more ha]; exact em_ok hC h
theorem tickM_same (c : Cfg) (e : Em) : (tickM c e).eS = e.eS ∧ (tickM c e).eA = e.eA ∧ (tickM c e).eB = e.eB := by
  cases ha : e.eA with
  | true => rw [tickM_acked ha]; exact ⟨rfl, ha, rfl⟩
  | false => rw [tickM_more ha]; exact ⟨rfl, rfl, rfl⟩
theorem packM_some {c : Cfg} {e : Em} {p : List Int} : packM c e = some p ↔ e.eA = false ∧ p = emP c e.eS e.eR e.eF e.eB := by
  unfold packM
  cases e.eA <;> simp [eq_comm]

/-- Rising numbers above a, the last one t (a itself, if there are none). -/
def upTo : Int → List Int → Int → Prop
  | a, [], t => a = t
  | a, x :: l, t => a < x ∧ upTo x l t
theorem upTo_le : ∀ {l : List Int} {a t : Int}, upTo a l t → a ≤ t
  | [], _, _, h => Int.le_of_eq h
  | _ :: l, _, _, h => by have := upTo_le (l := l) h.2; have := h.1; omega
theorem upTo_snoc : ∀ {l : List Int} {a t u : Int}, upTo a l t → t < u → upTo a (l ++ [u]) u
  | [], _, _, _, h, h' => ⟨by have e : _ = _ := h; omega, rfl⟩
  | _ :: l, _, _, _, h, h' => ⟨h.1, upTo_snoc (l := l) h.2 h'⟩
theorem upTo_drop : ∀ {l : List Int} {a t n : Int}, upTo a l t → a ≤ n → n ≤ t → upTo n (l.dropWhile fun x => decide (x ≤ n)) t
  | [], a, t, n, h, h1, h2 => by have e : a = t := h; show n = t; omega
  | x :: l, a, t, n, h, h1, h2 => by
    rw [List.dropWhile_cons]
    by_cases hx : x ≤ n
    · rw [if_pos (by simpa using hx)]
      exact upTo_drop (l := l) h.2 hx h2
    · rw [if_neg (by simpa using hx)]
      exact ⟨by omega, h.2⟩
theorem upTo_mem : ∀ {l : List Int} {a t : Int}, upTo a l t → ∀ x ∈ l, a < x ∧ x ≤ t
  | [], _, _, _, x, hx => by cases hx
  | y :: l, a, t, h, x, hx => by
    rcases List.mem_cons.1 hx with rfl | hx
    · exact ⟨h.1, upTo_le h.2⟩
    · have := upTo_mem (l := l) h.2 x hx
      have := h.1
      exact ⟨by omega, by omega⟩

/-- An end that sends: its configuration, closed, clock, refused calls, bad packets, messages, next block, base, ends, what waits. -/
structure Sn where
  sC : Cfg
  sX : Bool
  sK : Int
  sR : Int
  sB : Int
  sN : Int
  sT : Int
  sF : Int
  sE : List Int
  sW : List Em
def inN (n : Int) : Prop := 0 ≤ n ∧ n ≤ 1073741824
/-- May it be? -/
structure okS (s : Sn) : Prop where
  conf : okC s.sC = true
  clock : inN s.sK
  refd : inN s.sR
  bads : inN s.sB
  low : 0 ≤ s.sF
  base : s.sF ≤ s.sT
  seqs : s.sT ≤ s.sC.cSeqs
  room : (s.sE.length : Int) ≤ s.sC.cQs
  sent : (s.sE.length : Int) ≤ s.sN
  most : s.sN ≤ s.sT
  ends : upTo s.sF s.sE s.sT
  long : (s.sW.length : Int) = s.sT - s.sF
  all : ∀ (i : Nat) (e : Em), s.sW[i]? = some e → e.eS = s.sF + (i : Int) ∧ okM s.sC e
def newS (c : Cfg) : Sn := ⟨c, false, 0, 0, 0, 0, 0, 0, [], []⟩
theorem newS_ok {c : Cfg} (h : okC c = true) : okS (newS c) := by
  have hc := (okC_iff c).1 h
  exact { conf := h, clock := ⟨Int.le_refl _, by show (0 : Int) ≤ _; omega⟩, refd := ⟨Int.le_refl _, by show (0 : Int) ≤ _; omega⟩, bads := ⟨Int.le_refl _, by show (0 : Int) ≤ _; omega⟩, low := Int.le_refl _, base := Int.le_refl _, seqs := hc.2.2.2.2.2.2.2.2.2.1, room := by show ((0 : Nat) : Int) ≤ c.cQs; omega, sent := Int.le_refl _, most := Int.le_refl _, ends := rfl, long := rfl, all := fun i e he => by simp [newS] at he }
def confS (s : Sn) : Int := s.sN - (s.sE.length : Int)
def winS (s : Sn) : Nat := s.sC.cWin.toNat
theorem okS.next_bd {s : Sn} (h : okS s) : s.sT ≤ 1073741824 := by
  have := h.seqs
  have := (okC_iff _).1 h.conf
  omega

/-- How many blocks, in both words. -/
theorem blocksC_nat {c : Cfg} (h : okC c = true) (L : Nat) : blocksC c (L : Int) = (blocksN c.cB.toNat L : Int) := by
  have hb := ((okC_iff c).1 h).1
  obtain ⟨B, hB⟩ := Int.eq_ofNat_of_zero_le (show 0 ≤ c.cB by omega)
  unfold blocksC blocksN
  rw [hB] at hb ⊢
  rw [Int.toNat_natCast, show ((L : Int) + (B : Int) - 1) = ((L + B - 1 : Nat) : Int) by omega, ← Int.natCast_ediv]
  omega
theorem conf_B {c : Cfg} (h : okC c = true) : 1 ≤ c.cB.toNat ∧ c.cB.toNat ≤ 16 ∧ ((c.cB.toNat : Nat) : Int) = c.cB := by
  have hb := ((okC_iff c).1 h).1
  omega

/-- The bytes of a message's blocks, numbered from s on. -/
def blocksB (c : Cfg) (s : Int) (msg : List Int) : List (List Int) := (List.range (blocksN c.cB.toNat msg.length)).map fun i : Nat => bytesB c.cB.toNat (s + (i : Int)) (markK (blocksN c.cB.toNat msg.length) i) (textK c.cB.toNat msg i)
def waitsB (s : Int) (l : List (List Int)) : List Em := l.mapIdx fun i b => newM (s + (i : Int)) b
theorem blocksB_len (c : Cfg) (s : Int) (msg : List Int) : (blocksB c s msg).length = blocksN c.cB.toNat msg.length := by simp [blocksB]
theorem blocksB_get {c : Cfg} {s : Int} {msg : List Int} {i : Nat} (h : i < blocksN c.cB.toNat msg.length) : (blocksB c s msg)[i]? = some (bytesB c.cB.toNat (s + (i : Int)) (markK (blocksN c.cB.toNat msg.length) i) (textK c.cB.toNat msg i)) := by simp [blocksB, h]
theorem waitsB_len (s : Int) (l : List (List Int)) : (waitsB s l).length = l.length := by simp [waitsB]
theorem waitsB_get (s : Int) (l : List (List Int)) (i : Nat) : (waitsB s l)[i]? = l[i]?.map fun b => newM (s + (i : Int)) b := by simp [waitsB]
theorem newM_ok {c : Cfg} (h : okC c = true) {s : Int} {b : List Int} (hs : 0 ≤ s) (hs2 : s < 1073741824) (hb : (b.length : Int) = c.cB + 10) : okM c (newM s b) := by
  have := mostC_bd h
  exact (okE_iff _ _ _ _ _).2 ⟨hb, ⟨hs, hs2⟩, by show (0 : Int) ≤ 0 ∧ (0 : Int) ≤ 255; omega, by show (0 : Int) ≤ 0 ∧ (0 : Int) ≤ mostC c; omega⟩
theorem blocksB_bytes {c : Cfg} (h : okC c = true) {s : Int} {msg : List Int} {b : List Int} (hb : b ∈ blocksB c s msg) : (b.length : Int) = c.cB + 10 := by
  obtain ⟨i, _, rfl⟩ := List.mem_map.1 hb
  have hB := conf_B h
  rw [bytesB_len (textK_le _ _ _)]
  omega

/-- What a Send makes of it, and its error. -/
def refuse (s : Sn) : Sn := { s with sR := satN s.sR 1 }
def accept (s : Sn) (msg : List Int) : Sn := { s with sN := s.sN + 1, sT := s.sT + blocksC s.sC msg.length, sE := s.sE ++ [s.sT + blocksC s.sC msg.length], sW := s.sW ++ waitsB s.sT (blocksB s.sC s.sT msg) }
def errS (s : Sn) (msg : List Int) : Int :=
  if s.sX = true then 6 else if s.sC.cMsg < (msg.length : Int) then 7 else if s.sC.cSeqs < s.sT + blocksC s.sC msg.length then 8 else if s.sC.cQs ≤ (s.sE.length : Int) then 9 else 0
def sendS (s : Sn) (msg : List Int) : Sn := if errS s msg = 0 then accept s msg else refuse s
theorem errS_zero {s : Sn} {msg : List Int} : errS s msg = 0 ↔ s.sX = false ∧ (msg.length : Int) ≤ s.sC.cMsg ∧ s.sT + blocksC s.sC msg.length ≤ s.sC.cSeqs ∧ (s.sE.length : Int) < s.sC.cQs := by
  unfold errS
  cases hx : s.sX with
  | true => simp
  | false =>
    simp only [Bool.false_eq_true, if_false]
    split
    · constructor
      · intro h; cases h
      · rintro ⟨_, h, _⟩; omega
    · split
      · constructor
        · intro h; cases h
        · rintro ⟨_, _, h, _⟩; omega
      · split
        · constructor
          · intro h; cases h
          · rintro ⟨_, _, _, h⟩; omega
        · simp
          omega
theorem satN_in (n m : Int) : inN (satN n m) := satN_bd n m
theorem refuse_ok {s : Sn} (h : okS s) : okS (refuse s) := { h with refd := satN_in _ _ }
theorem blocksC_one {c : Cfg} (h : okC c = true) (L : Nat) : 1 ≤ blocksC c (L : Int) := by
  rw [blocksC_nat h]
  have := (blocksN_bd (L := L) (conf_B h).1).1
  omega
theorem accept_ok {s : Sn} (h : okS s) {msg : List Int} (he : errS s msg = 0) : okS (accept s msg) := by
  obtain ⟨_, h1, h2, h3⟩ := errS_zero.1 he
  have hn := blocksC_one h.conf msg.length
  have hl : ((blocksB s.sC s.sT msg).length : Int) = blocksC s.sC msg.length := by rw [blocksB_len, blocksC_nat h.conf]
  have hb := h.base
  have h0 := h.low
  have hlo := h.long
  have hT := h.next_bd
  have hq := (okC_iff _).1 h.conf
  exact
    { conf := h.conf, clock := h.clock, refd := h.refd, bads := h.bads, low := h.low
      base := by show s.sF ≤ s.sT + blocksC s.sC msg.length; omega
      seqs := h2
      room := by
        show (((s.sE ++ [s.sT + blocksC s.sC msg.length]).length : Nat) : Int) ≤ s.sC.cQs
        rw [List.length_append, List.length_cons, List.length_nil]; omega
      sent := by
        show (((s.sE ++ [s.sT + blocksC s.sC msg.length]).length : Nat) : Int) ≤ s.sN + 1
        have := h.sent
        rw [List.length_append, List.length_cons, List.length_nil]; omega
      most := by show s.sN + 1 ≤ s.sT + blocksC s.sC msg.length; have := h.most; omega
      ends := upTo_snoc h.ends (by omega)
      long := by
        show (((s.sW ++ waitsB s.sT (blocksB s.sC s.sT msg)).length : Nat) : Int) = s.sT + blocksC s.sC msg.length - s.sF
        rw [List.length_append, waitsB_len]; omega
      all := fun i e hi => by
        have hi : (s.sW ++ waitsB s.sT (blocksB s.sC s.sT msg))[i]? = some e := hi
        show e.eS = s.sF + (i : Int) ∧ okM s.sC e
        by_cases hlt : i < s.sW.length
        · rw [List.getElem?_append_left hlt] at hi
          exact h.all i e hi
        · rw [List.getElem?_append_right (by omega), waitsB_get] at hi
          cases hg : (blocksB s.sC s.sT msg)[i - s.sW.length]? with
          | none => rw [hg] at hi; cases hi
          | some b =>
            rw [hg] at hi
            have hi : newM (s.sT + ((i - s.sW.length : Nat) : Int)) b = e := by simpa using hi
            have hlt2 := (List.getElem?_eq_some_iff.1 hg).1
            subst hi
            refine ⟨by show s.sT + ((i - s.sW.length : Nat) : Int) = s.sF + (i : Int); omega, newM_ok h.conf (by omega) (by omega) (blocksB_bytes h.conf (List.mem_of_getElem? hg))⟩ }
theorem sendS_ok {s : Sn} (h : okS s) (msg : List Int) : okS (sendS s msg) := by
  unfold sendS
  split
  · exact accept_ok h ‹_›
  · exact refuse_ok h
def closeS (s : Sn) : Sn := { s with sX := true }
theorem closeS_ok {s : Sn} (h : okS s) : okS (closeS s) := { h with }

/-- A tick: what becomes of it, its packets. -/
def tickS (s : Sn) : Sn := { s with sK := satN s.sK 1, sW := s.sW.mapIdx fun i e => if i < winS s then tickM s.sC e else e }
def packS (s : Sn) : List (List Int) := (s.sW.take (winS s)).filterMap (packM s.sC)
theorem tickS_get (s : Sn) (i : Nat) : (tickS s).sW[i]? = s.sW[i]?.map fun e => if i < winS s then tickM s.sC e else e := by
  show (s.sW.mapIdx fun i e => if i < winS s then tickM s.sC e else e)[i]? = _
  rw [List.getElem?_mapIdx]
theorem tickS_len (s : Sn) : (tickS s).sW.length = s.sW.length := by
  show (s.sW.mapIdx fun i e => if i < winS s then tickM s.sC e else e).length = _
  rw [List.length_mapIdx]
theorem tickS_ok {s : Sn} (h : okS s) : okS (tickS s) :=
  { conf := h.conf, clock := satN_in _ _, refd := h.refd, bads := h.bads, low := h.low, base := h.base, seqs := h.seqs, room := h.room, sent := h.sent, most := h.most, ends := h.ends
    long := by rw [tickS_len]; exact h.long
    all := fun i e hi => by
      rw [tickS_get] at hi
      cases hg : s.sW[i]? with
      | none => rw [hg] at hi; cases hi
      | some e' =>
        rw [hg] at hi
        have hi : (if i < winS s then tickM s.sC e' else e') = e := by simpa using hi
        have ha := h.all i e' hg
        show e.eS = s.sF + (i : Int) ∧ okM s.sC e
        split at hi
        · subst hi
          exact ⟨by rw [(tickM_same _ _).1]; exact ha.1, tickM_ok h.conf ha.2⟩
        · subst hi
          exact ha }

/-- Why an ack can't be read, as a number; 0: it can. -/
def errA (zs : List Int) : Int := if zs.length = 13 then (if zs[0]?.getD 0 = 65 then (if isSealed zs = true then (if aN zs ≤ 1073741824 then 0 else 1) else 4) else 12) else 2
theorem errA_ok {zs : List Int} (h : okA zs) : errA zs = 0 := by
  obtain ⟨h1, h2, h3, h4⟩ := h
  unfold errA
  rw [if_pos h1, if_pos h2, if_pos h3, if_pos h4]
theorem errA_bad {zs : List Int} {e : Int} (h : badA zs e) : errA zs = e := by
  unfold errA
  rcases h with ⟨h1, rfl⟩ | ⟨h1, h2, rfl⟩ | ⟨h1, h2, h3, rfl⟩ | ⟨h1, h2, h3, h4, rfl⟩
  · rw [if_neg h1]
  · rw [if_pos h1, if_neg h2]
  · rw [if_pos h1, if_pos h2, if_neg (by simp [h3])]
  · rw [if_pos h1, if_pos h2, if_pos h3, if_neg h4]
theorem errA_zero {zs : List Int} : errA zs = 0 ↔ okA zs := by
  constructor
  · intro h
    rcases aread_cases zs with ⟨e, he, hb⟩ | ho
    · rw [errA_bad hb] at h; omega
    · exact ho
  · exact errA_ok
/-- What an ack makes of it, and its error. -/
def ackM (n : Int) (b : Nat) (e : Em) : Em := { e with eA := e.eA || hasA n b e.eS }
def learnt (s : Sn) (n : Int) (b : Nat) : Sn := { s with sF := n, sE := s.sE.dropWhile fun x => decide (x ≤ n), sW := (s.sW.drop (n - s.sF).toNat).mapIdx fun i e => if i < winS s then ackM n b e else e }
def errL (s : Sn) (zs : List Int) : Int := if errA zs = 0 then (if aN zs < s.sF then 13 else if (s.sW.length : Int) < aN zs - s.sF then 14 else 0) else errA zs
def learnS (s : Sn) (zs : List Int) : Sn := if errA zs = 0 then (if errL s zs = 0 then learnt s (aN zs) (aB zs).toNat else s) else { s with sB := satN s.sB 1 }
theorem learnt_get (s : Sn) (n : Int) (b : Nat) (i : Nat) : (learnt s n b).sW[i]? = s.sW[(n - s.sF).toNat + i]?.map fun e => if i < winS s then ackM n b e else e := by
  show ((s.sW.drop (n - s.sF).toNat).mapIdx fun i e => if i < winS s then ackM n b e else e)[i]? = _
  rw [List.getElem?_mapIdx, List.getElem?_drop]
theorem learnt_len (s : Sn) (n : Int) (b : Nat) : (learnt s n b).sW.length = s.sW.length - (n - s.sF).toNat := by
  show ((s.sW.drop (n - s.sF).toNat).mapIdx fun i e => if i < winS s then ackM n b e else e).length = _
  rw [List.length_mapIdx, List.length_drop]
theorem drop_len {α : Type} (p : α → Bool) : ∀ l : List α, (l.dropWhile p).length ≤ l.length
  | [] => Nat.le_refl _
  | x :: l => by
    rw [List.dropWhile_cons]
    split
    · have := drop_len p l
      simp only [List.length_cons]
      omega
    · exact Nat.le_refl _
theorem learnt_ok {s : Sn} (h : okS s) {n : Int} (h1 : s.sF ≤ n) (h2 : n - s.sF ≤ (s.sW.length : Int)) (b : Nat) : okS (learnt s n b) := by
  have hl := h.long
  have hd := drop_len (fun x => decide (x ≤ n)) s.sE
  exact
    { conf := h.conf, clock := h.clock, refd := h.refd, bads := h.bads
      low := by show 0 ≤ n; have := h.low; omega
      base := by show n ≤ s.sT; omega
      seqs := h.seqs
      room := by
        show (((s.sE.dropWhile fun x => decide (x ≤ n)).length : Nat) : Int) ≤ s.sC.cQs
        have := h.room; omega
      sent := by
        show (((s.sE.dropWhile fun x => decide (x ≤ n)).length : Nat) : Int) ≤ s.sN
        have := h.sent; omega
      most := h.most
      ends := upTo_drop h.ends h1 (show n ≤ s.sT by omega)
      long := by
        rw [learnt_len]
        show ((s.sW.length - (n - s.sF).toNat : Nat) : Int) = s.sT - n
        omega
      all := fun i e hi => by
        rw [learnt_get] at hi
        cases hg : s.sW[(n - s.sF).toNat + i]? with
        | none => rw [hg] at hi; cases hi
        | some e' =>
          rw [hg] at hi
          have hi : (if i < winS s then ackM n b e' else e') = e := by simpa using hi
          have ha := h.all _ e' hg
          show e.eS = n + (i : Int) ∧ okM s.sC e
          have e1 : e.eS = e'.eS := by split at hi <;> subst hi <;> rfl
          refine ⟨by rw [e1, ha.1]; omega, ?_⟩
          split at hi
          · subst hi
            exact ha.2
          · subst hi
            exact ha.2 }
theorem errL_zero {s : Sn} {zs : List Int} : errL s zs = 0 ↔ errA zs = 0 ∧ s.sF ≤ aN zs ∧ aN zs - s.sF ≤ (s.sW.length : Int) := by
  unfold errL
  by_cases h : errA zs = 0
  · rw [if_pos h]
    split
    · constructor
      · intro h; cases h
      · rintro ⟨_, h, _⟩; omega
    · split
      · constructor
        · intro h; cases h
        · rintro ⟨_, _, h⟩; omega
      · constructor
        · intro _; exact ⟨h, by omega, by omega⟩
        · intro _; rfl
  · rw [if_neg h]
    constructor
    · intro h'; exact absurd h' h
    · rintro ⟨h', _⟩; exact absurd h' h
theorem learnS_bad {s : Sn} {zs : List Int} (h : errA zs ≠ 0) : learnS s zs = { s with sB := satN s.sB 1 } := if_neg h
theorem learnS_far {s : Sn} {zs : List Int} (h : errA zs = 0) (h' : errL s zs ≠ 0) : learnS s zs = s := by unfold learnS; rw [if_pos h, if_neg h']
theorem learnS_in {s : Sn} {zs : List Int} (h : errL s zs = 0) : learnS s zs = learnt s (aN zs) (aB zs).toNat := by unfold learnS; rw [if_pos (errL_zero.1 h).1, if_pos h]
theorem learnS_ok {s : Sn} (h : okS s) (zs : List Int) : okS (learnS s zs) := by
  by_cases h1 : errA zs = 0
  · by_cases h2 : errL s zs = 0
    · rw [learnS_in h2]
      exact learnt_ok h (errL_zero.1 h2).2.1 (errL_zero.1 h2).2.2 _
    · rw [learnS_far h1 h2]; exact h
  · rw [learnS_bad h1]
    exact { h with bads := satN_in _ _ }

end Go.Proofs.YtmjidhnlofpliaaDoor

/-
  Answers that say whether something holds. No function of the program is spoken of.
-/
namespace Go.Proofs.YtmjidhnlofpliaaDoor
open Go.RowKit

/-- It answers whether P. -/
def AnsB (e : Ending) (P : Prop) : Prop := ∃ b : Bool, e = .returned (.bool b) ∧ (b = true ↔ P)
/-- It answers 0 if P, and 1 if not. -/
def AnsZ (e : Ending) (P : Prop) : Prop := ∃ z : Int, e = .returned (.int .i64 z) ∧ (z = 0 ∧ P ∨ z = 1 ∧ ¬ P)
def isCn (n : Int) : Bool := decide (0 ≤ n) && decide (n ≤ 1073741824)
theorem isCn_iff (n : Int) : isCn n = true ↔ inN n := by unfold isCn inN; simp

end Go.Proofs.YtmjidhnlofpliaaDoor

/-
  Whether an end that sends may be, in the parts that the code asks: its numbers, its ends, what waits. No function of the program is spoken of.
-/
namespace Go.Proofs.YtmjidhnlofpliaaDoor
open Go.RowKit

def lastE (a : Int) (l : List Int) (k : Nat) : Int := if k = 0 then a else l[k - 1]?.getD 0
theorem lastE_succ {a x : Int} {l : List Int} {k : Nat} (h : l[k]? = some x) : lastE a l (k + 1) = x := by
  unfold lastE
  rw [if_neg (by omega), Nat.add_sub_cancel, h]
  rfl
theorem lastE_cons (a x : Int) (l : List Int) (k : Nat) : lastE a (x :: l) (k + 1) = lastE x l k := by
  unfold lastE
  rw [if_neg (by omega), Nat.add_sub_cancel]
  cases k with
  | zero => rfl
  | succ k => rw [if_neg (by omega), Nat.add_sub_cancel]; rfl
theorem upTo_iff : ∀ {l : List Int} {a t : Int}, upTo a l t ↔ (∀ (k : Nat) (x : Int), l[k]? = some x → lastE a l k < x) ∧ lastE a l l.length = t
  | [], a, t => by
    constructor
    · intro h
      exact ⟨fun k x hx => by simp at hx, h⟩
    · rintro ⟨_, h⟩
      exact h
  | y :: l, a, t => by
    have ih := upTo_iff (l := l) (a := y) (t := t)
    constructor
    · rintro ⟨h1, h2⟩
      obtain ⟨h3, h4⟩ := ih.1 h2
      refine ⟨fun k x hx => ?_, ?_⟩
      · cases k with
        | zero => simp at hx; subst hx; exact h1
        | succ k => rw [lastE_cons]; exact h3 k x (by simpa using hx)
      · rw [List.length_cons, lastE_cons]; exact h4
    · rintro ⟨h1, h2⟩
      refine ⟨h1 0 y rfl, ih.2 ⟨fun k x hx => ?_, ?_⟩⟩
      · have := h1 (k + 1) x (by simpa using hx)
        rwa [lastE_cons] at this
      · rw [List.length_cons, lastE_cons] at h2; exact h2
def numsS (s : Sn) : Prop := (inN s.sK ∧ inN s.sR ∧ inN s.sB) ∧ 0 ≤ s.sF ∧ s.sF ≤ s.sT ∧ s.sT ≤ s.sC.cSeqs ∧ (s.sE.length : Int) ≤ s.sN ∧ s.sN ≤ s.sT
def endsS (s : Sn) : Prop := upTo s.sF s.sE s.sT ∧ (s.sE.length : Int) ≤ s.sC.cQs
def waitsS (s : Sn) : Prop := (s.sW.length : Int) = s.sT - s.sF ∧ ∀ (i : Nat) (e : Em), s.sW[i]? = some e → e.eS = s.sF + (i : Int) ∧ okM s.sC e
theorem okS_iff {s : Sn} : okS s ↔ okC s.sC = true ∧ numsS s ∧ endsS s ∧ waitsS s :=
  ⟨fun h => ⟨h.conf, ⟨⟨h.clock, h.refd, h.bads⟩, h.low, h.base, h.seqs, h.sent, h.most⟩, ⟨h.ends, h.room⟩, h.long, h.all⟩,
   fun ⟨h0, ⟨⟨h1, h2, h3⟩, h4, h5, h6, h7, h8⟩, ⟨h9, h10⟩, h11, h12⟩ => { conf := h0, clock := h1, refd := h2, bads := h3, low := h4, base := h5, seqs := h6, room := h10, sent := h7, most := h8, ends := h9, long := h11, all := h12 }⟩

end Go.Proofs.YtmjidhnlofpliaaDoor

/-
  What volutekeep.Emit and the page's Emit (may it be sent?) answer. (Written by tpl_refemit.py.)
-/
namespace Go.Proofs.YtmjidhnlofpliaaDoor
open Go.RowKit

end Go.Proofs.YtmjidhnlofpliaaDoor

/-
  What the page's Bits and Nibbles answer, for every text in memory.
-/
namespace Go.Proofs.YtmjidhnlofpliaaDoor
open Go.RowKit

end Go.Proofs.YtmjidhnlofpliaaDoor

/-
  What the page's Encode answers.
-/
namespace Go.Proofs.YtmjidhnlofpliaaDoor
open Go.RowKit

end Go.Proofs.YtmjidhnlofpliaaDoor

/-
  What the page's Tick answers, of a right one. (Written by tpl_refemit.py.)
-/
namespace Go.Proofs.YtmjidhnlofpliaaDoor
open Go.RowKit

end Go.Proofs.YtmjidhnlofpliaaDoor
