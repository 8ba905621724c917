/-
  Blocks that are heard, as numbers: what becomes of one by data. No function of the program is spoken of.
-/
import Derived.Test.YtkigbanldiialaaGreatDoorM07
import Derived.Test.YtkigbanldiialaaGreatDoorM10
import Derived.Test.YtkigbanldiialaaGreatDoorM13
import Derived.Test.YtkigbanldiialaaGreatDoorM23
import Derived.Test.YtkigbanldiialaaGreatDoorM24
import Derived.Test.YtkigbanldiialaaGreatDoorM26
import Derived.Test.YtkigbanldiialaaGreatDoorM27
import Derived.Test.YtkigbanldiialaaGreatDoorM29
import Derived.Test.YtkigbanldiialaaGreatDoorM39
namespace Go.Proofs.YtkigbanldiialaaGreatDoor
open Go.RowKit

/-- A block that is heard. -/
structure Hr where
  hS : Int
  hR : Int
  hN : Int
  hP : Int
  hL : List (Int × Int)
  hD : Bool
  hB : List Int

/-- Are the bytes those of a block of that number? -/
def blockB (c : Cfg) (s : Int) (b : List Int) : Bool := decide ((b.length : Int) = c.cB + 10) && isSealed b && decide (rdN b ≤ c.cB.toNat) && decide (errB (c.cB.toNat : Int) (rdS b) (rdM b) (rdX b).length = 0) && decide (bytesB c.cB.toNat (rdS b) (rdM b) (rdX b) = b) && decide (rdS b = s)
theorem blockB_iff (c : Cfg) (s : Int) (b : List Int) : blockB c s b = true ↔ (b.length : Int) = c.cB + 10 ∧ isSealed b = true ∧ readOk c.cB.toNat b ∧ rdS b = s := by
  simp only [blockB, Bool.and_eq_true, decide_eq_true_eq, readOk, right_iff]
  constructor
  · rintro ⟨⟨⟨⟨⟨h1, h2⟩, h3⟩, h4⟩, h5⟩, h6⟩
    exact ⟨h1, h2, ⟨h3, h4, h5⟩, h6⟩
  · rintro ⟨h1, h2, ⟨h3, h4, h5⟩, h6⟩
    exact ⟨⟨⟨⟨⟨h1, h2⟩, h3⟩, h4⟩, h5⟩, h6⟩

/-- May it be (of a right configuration)? -/
def okH (c : Cfg) (h : Hr) : Prop := 0 ≤ h.hS ∧ (-1 ≤ h.hR ∧ h.hR ≤ 255) ∧ PileOk h.hN h.hP h.hL ∧ h.hN = segsC c ∧ h.hP = c.cPass ∧ (h.hR = -1 → h.hL = []) ∧ (h.hD = true → blockB c h.hS h.hB = true) ∧ (h.hD = false → h.hB = [])
def newH (c : Cfg) (s : Int) : Hr := ⟨s, -1, segsC c, c.cPass, [], false, []⟩
theorem headOk_conf {c : Cfg} (h : okC c = true) : HeadOk (segsC c) c.cPass := by
  have h1 := segsC_bd h
  have h2 := ((okC_iff c).1 h).2.2.2.2.2.2.2.1
  exact ⟨by omega, by omega, by omega, by omega⟩
theorem newH_ok {c : Cfg} (h : okC c = true) {s : Int} (hs : 0 ≤ s) : okH c (newH c s) := ⟨hs, ⟨by show (-1 : Int) ≤ -1; omega, by show (-1 : Int) ≤ 255; omega⟩, pileOk_nil (headOk_conf h), rfl, rfl, fun _ => rfl, (fun e => by cases e), fun _ => rfl⟩

/-- What stands when data of a round comes. -/
def flushH (h : Hr) (r : Int) : List (Int × Int) := if r = h.hR then h.hL else []
/-- The pile with the data's symbols. -/
def pileH (h : Hr) (r f : Int) (xs : List Int) : List (Int × Int) := putsL h.hN h.hP (flushH h r) f xs
/-- The bytes of a path. -/
def joinH (ps : List Int) : List Int := wholesOf 4 2 ps (ps.length / 2)
/-- What is accepted, if anything. -/
def gotH (c : Cfg) (h : Hr) (r f : Int) (xs : List Int) : Option (List Int) :=
  if freshL h.hN h.hP (flushH h r) f xs = true then
    match toldL h.hN.toNat (pileH h r f xs) c.cBeam.toNat (c.cDepth - 1).toNat with
    | none => none
    | some ps => if blockB c h.hS (joinH ps) = true then some (joinH ps) else none
  else none
def stayH (h : Hr) (r f : Int) (xs : List Int) : Hr := ⟨h.hS, r, h.hN, h.hP, pileH h r f xs, false, h.hB⟩
def doneH (h : Hr) (r : Int) (b : List Int) : Hr := ⟨h.hS, r, h.hN, h.hP, [], true, b⟩
def takeH (c : Cfg) (h : Hr) (r f : Int) (xs : List Int) : Hr × Bool :=
  if h.hD = true then (h, false) else match gotH c h r f xs with
    | none => (stayH h r f xs, false)
    | some b => (doneH h r b, true)
theorem takeH_done {c : Cfg} {h : Hr} (hd : h.hD = true) (r f : Int) (xs : List Int) : takeH c h r f xs = (h, false) := by unfold takeH; rw [if_pos hd]
theorem takeH_none {c : Cfg} {h : Hr} (hd : h.hD = false) {r f : Int} {xs : List Int} (hg : gotH c h r f xs = none) : takeH c h r f xs = (stayH h r f xs, false) := by unfold takeH; rw [if_neg (by simp [hd]), hg]
theorem takeH_some {c : Cfg} {h : Hr} (hd : h.hD = false) {r f : Int} {xs : List Int} {b : List Int} (hg : gotH c h r f xs = some b) : takeH c h r f xs = (doneH h r b, true) := by unfold takeH; rw [if_neg (by simp [hd]), hg]
theorem gotH_some {c : Cfg} {h : Hr} {r f : Int} {xs b : List Int} (hg : gotH c h r f xs = some b) : freshL h.hN h.hP (flushH h r) f xs = true ∧ ∃ ps, toldL h.hN.toNat (pileH h r f xs) c.cBeam.toNat (c.cDepth - 1).toNat = some ps ∧ b = joinH ps ∧ blockB c h.hS b = true := by
  unfold gotH at hg
  split at hg
  · rename_i hf
    split at hg
    · cases hg
    · rename_i ps hps
      split at hg
      · rename_i hb
        cases hg
        exact ⟨hf, ps, hps, rfl, hb⟩
      · cases hg
  · cases hg
theorem gotH_stale {c : Cfg} {h : Hr} {r f : Int} {xs : List Int} (hf : freshL h.hN h.hP (flushH h r) f xs = false) : gotH c h r f xs = none := by unfold gotH; rw [if_neg (by simp [hf])]

/-- Data that may be heard: its round, where it begins, its symbols. -/
def okX (r f : Int) (xs : List Int) : Prop := (0 ≤ r ∧ r ≤ 255) ∧ 0 ≤ f ∧ ∀ z ∈ xs, 0 ≤ z ∧ z ≤ 255
theorem flushH_ok {c : Cfg} {h : Hr} (hk : okH c h) (r : Int) : PileOk h.hN h.hP (flushH h r) := by
  unfold flushH
  split
  · exact hk.2.2.1
  · exact pileOk_nil hk.2.2.1.1
theorem pileH_ok {c : Cfg} {h : Hr} (hk : okH c h) {r f : Int} {xs : List Int} (hx : okX r f xs) : PileOk h.hN h.hP (pileH h r f xs) := putsL_ok (flushH_ok hk r) hx.2.1 hx.2.2
/-- What is heard is a right one all the time. -/
theorem takeH_ok {c : Cfg} {h : Hr} (hk : okH c h) {r f : Int} {xs : List Int} (hx : okX r f xs) : okH c (takeH c h r f xs).1 := by
  cases hd : h.hD with
  | true => rw [takeH_done hd]; exact hk
  | false =>
    cases hg : gotH c h r f xs with
    | none =>
      rw [takeH_none hd hg]
      exact ⟨hk.1, ⟨by show -1 ≤ r; have := hx.1; omega, hx.1.2⟩, pileH_ok hk hx, hk.2.2.2.1, hk.2.2.2.2.1, (fun e => by have h1 : r = -1 := e; have := hx.1; omega), (fun e => by cases e), fun _ => hk.2.2.2.2.2.2.2 hd⟩
    | some b =>
      rw [takeH_some hd hg]
      obtain ⟨_, _, _, _, hb⟩ := gotH_some hg
      exact ⟨hk.1, ⟨by show -1 ≤ r; have := hx.1; omega, hx.1.2⟩, pileOk_nil hk.2.2.1.1, hk.2.2.2.1, hk.2.2.2.2.1, fun _ => rfl, fun _ => hb, (fun e => by cases e)⟩
theorem takeH_is {c : Cfg} {h : Hr} (r f : Int) (xs : List Int) : (takeH c h r f xs).2 = ((takeH c h r f xs).1.hD && !h.hD) := by
  cases hd : h.hD with
  | true => rw [takeH_done hd]; simp [hd]
  | false =>
    cases hg : gotH c h r f xs with
    | none => rw [takeH_none hd hg]; rfl
    | some b => rw [takeH_some hd hg]; rfl
/-- What is heard twice changes nothing the second time. -/
theorem takeH_twice {c : Cfg} {h : Hr} (hk : okH c h) {r f : Int} {xs : List Int} (hx : okX r f xs) : takeH c (takeH c h r f xs).1 r f xs = ((takeH c h r f xs).1, false) := by
  cases hd : h.hD with
  | true => rw [takeH_done hd]; exact takeH_done hd r f xs
  | false =>
    cases hg : gotH c h r f xs with
    | some b => rw [takeH_some hd hg]; exact takeH_done rfl r f xs
    | none =>
      rw [takeH_none hd hg]
      have e : flushH (stayH h r f xs) r = pileH h r f xs := by unfold flushH; exact if_pos rfl
      have ht := puts_twice (n := h.hN) (p := h.hP) (l := flushH h r) (k := f) (xs := xs) (flushH_ok hk r) hx.2.1 hx.2.2
      have hf : freshL (stayH h r f xs).hN (stayH h r f xs).hP (flushH (stayH h r f xs) r) f xs = false := by rw [e]; exact ht.2
      have hp : pileH (stayH h r f xs) r f xs = pileH h r f xs := by
        show putsL h.hN h.hP (flushH (stayH h r f xs) r) f xs = pileH h r f xs
        rw [e]
        exact ht.1
      rw [takeH_none (show (stayH h r f xs).hD = false from rfl) (gotH_stale hf)]
      show (stayH (stayH h r f xs) r f xs, false) = (stayH h r f xs, false)
      unfold stayH at hp ⊢
      rw [hp]

/-- All symbols are a block's own. -/
def OwnL (zs : List Int) (l : List (Int × Int)) : Prop := ∀ x ∈ l, x.2 = ((codeN zs x.1.toNat : Nat) : Int)
theorem ownL_puts {zs : List Int} {n p : Int} {l : List (Int × Int)} {f m : Nat} (h : OwnL zs l) : OwnL zs (putsL n p l (f : Int) (codeL zs f m)) := fun x hx => by
  rcases putsL_mem hx with hx | ⟨j, v, hv, rfl⟩
  · exact h x hx
  · have hj : j < m := by have := (List.getElem?_eq_some_iff.1 hv).1; rwa [codeL_len] at this
    rw [codeL_get hj] at hv
    cases hv
    show ((codeN zs (f + j) : Nat) : Int) = ((codeN zs ((f : Int) + (j : Int)).toNat : Nat) : Int)
    rw [show ((f : Int) + (j : Int)).toNat = f + j by omega]
/-- Such a pile is what was heard of the block, but for what was left out. -/
theorem own_heard {zs : List Int} {n p : Int} {l : List (Int × Int)} (hp : PileOk n p l) (h : OwnL zs l) : ∃ os, l = heardL zs os [] (n * p).toNat := by
  have hM := hp.1.prod
  refine ⟨(List.range (n * p).toNat).map fun k : Nat => !hasAt l (k : Int), ?_⟩
  have hout : ∀ k, k < (n * p).toNat → hOut ((List.range (n * p).toNat).map fun k : Nat => !hasAt l (k : Int)) k = !hasAt l (k : Int) := fun k hk => by
    unfold hOut
    simp [hk]
  refine rises_ext hp.2.2 (heardL_rises _ _ _ _) fun x => ⟨fun hx => ?_, fun hx => ?_⟩
  · have hs := hp.2.1 x hx
    have hlt : x.1.toNat < (n * p).toNat := by have := hs.2.1; have := hs.1; omega
    have he : ((x.1.toNat : Nat) : Int) = x.1 := Int.toNat_of_nonneg hs.1
    have hh : hasAt l ((x.1.toNat : Nat) : Int) = true := (hasAt_iff hp.2.2).2 ⟨x.2, by rw [he]; exact hx⟩
    have := mem_heardL (zs := zs) (ts := []) (j := x.1.toNat) (os := (List.range (n * p).toNat).map fun k : Nat => !hasAt l (k : Int)) (by rw [hout _ hlt, hh]; rfl) hlt
    rw [hvN_own, he, ← h x hx] at this
    exact this
  · obtain ⟨j, hj, ho, rfl⟩ := heardL_mem hx
    rw [hout j hj] at ho
    obtain ⟨v, hv⟩ := (hasAt_iff hp.2.2).1 (show hasAt l (j : Int) = true by simpa using ho)
    have := h _ hv
    simp only [Int.toNat_natCast] at this
    rw [hvN_own, ← this]
    exact hv
theorem joinH_nibs {zs : List Int} (bz : ∀ z ∈ zs, 0 ≤ z ∧ z ≤ 255) : joinH (nibs zs) = zs := by
  unfold joinH
  rw [nibs_len, show 2 * zs.length / 2 = zs.length by omega]
  exact nibs_back bz
/-- Of a block's own symbols no other block is told. -/
theorem told_ownL {zs : List Int} {N b D : Nat} {p : Int} {l : List (Int × Int)} (hN : N = 2 * zs.length) (h0 : 1 ≤ zs.length) (hb : 1 ≤ b) (hp : PileOk (N : Int) p l) (h : OwnL zs l) {ps : List Int} (ht : toldL N l b D = some ps) : ps = nibs zs := by
  subst hN
  obtain ⟨os, e⟩ := own_heard hp h
  obtain ⟨n, t, h1, rfl, h2, h3⟩ := toldL_some ht
  rw [e] at h1 h3
  exact (told_own zs os _ D b hb h0 h1 h2 h3).1

end Go.Proofs.YtkigbanldiialaaGreatDoor

/-
  A block that is heard, in memory: how its symbols and its bytes lie. No function of the program is spoken of.
-/
namespace Go.Proofs.YtkigbanldiialaaGreatDoor
open Go.RowKit

/-- It lies in W: its symbols at a, its bytes at b. -/
structure HearAt (W : World) (h : Hr) (a : Option Addr) (cap : Nat) (b : Option Addr) (bc : Nat) : Prop where
  syms : Syms W.heap.size W (.slice a h.hL.length cap) h.hL
  byts : Holds .u8 W.heap.size W (.slice b h.hB.length bc) h.hB
  lies : RowCap a h.hL.length cap
  fits : h.hB.length ≤ bc
  byte : ∀ z ∈ h.hB, 0 ≤ z ∧ z ≤ 255
theorem HearAt.next {W W' : World} {h : Hr} {a b : Option Addr} {cap bc : Nat} (H : HearAt W h a cap b bc) (k : Below W.heap.size W W') : HearAt W' h a cap b bc := ⟨H.syms.next k, H.byts.next k, H.lies, H.fits, H.byte⟩

/-- It lies in memory of the call's own. -/
structure OwnHear (base : Nat) (W : World) (h : Hr) (a : Option Addr) (cap : Nat) (b : Option Addr) (bc : Nat) : Prop where
  syms : W.ownsRow base 79 2 (.slice a h.hL.length cap) h.hL.length (symCells h.hL)
  byts : W.ownsRow base 5 1 (.slice b h.hB.length bc) h.hB.length (h.hB.map (Value.int .u8))
  byte : ∀ z ∈ h.hB, 0 ≤ z ∧ z ≤ 255
theorem row_cap1 {w : World} {base e n cap : Nat} {a : Option Addr} {xs : List Value} (h : w.ownsRow base e 1 (.slice a n cap) n xs) : n ≤ cap := by
  rcases h.2 with ⟨e, e0⟩ | ⟨g, c, cur, e, _, _, hc, _⟩
  · rw [e0]; exact Nat.zero_le _
  · cases e; exact hc
theorem OwnHear.at {base : Nat} {W : World} {h : Hr} {a b : Option Addr} {cap bc : Nat} (H : OwnHear base W h a cap b bc) : HearAt W h a cap b bc := ⟨syms_of_row H.syms, holds_of_row H.byts, rowCap_of H.syms, row_cap1 H.byts, H.byte⟩
theorem OwnHear.next {base n₀ : Nat} {W W' : World} {h : Hr} {a b : Option Addr} {cap bc : Nat} (H : OwnHear base W h a cap b bc) (k : Below n₀ W W') (hn : W.heap.size ≤ n₀) : OwnHear base W' h a cap b bc := ⟨symRow_below H.syms k hn, row_below H.byts k hn, H.byte⟩
theorem OwnHear.base {base base' : Nat} {W : World} {h : Hr} {a b : Option Addr} {cap bc : Nat} (H : OwnHear base W h a cap b bc) (hb : base' ≤ base) : OwnHear base' W h a cap b bc := ⟨symRow_base H.syms hb, row_base H.byts hb, H.byte⟩
theorem ownHear_new (base : Nat) (W : World) (c : Cfg) (s : Int) : OwnHear base W (newH c s) none 0 none 0 := ⟨⟨rfl, .inl ⟨rfl, rfl⟩⟩, ⟨rfl, .inl ⟨rfl, rfl⟩⟩, fun z hz => by cases hz⟩

end Go.Proofs.YtkigbanldiialaaGreatDoor

/-
  Symbols that are put side by side, as numbers: in pieces; up to a round's end. No function of the program is spoken of.
-/
namespace Go.Proofs.YtkigbanldiialaaGreatDoor
open Go.RowKit

theorem putsL_append (n p : Int) : ∀ (xs ys : List Int) (l : List (Int × Int)) (k : Int), putsL n p l k (xs ++ ys) = putsL n p (putsL n p l k xs) (k + (xs.length : Int)) ys
  | [], ys, l, k => by simp [putsL]
  | x :: xs, ys, l, k => by
    rw [List.cons_append, putsL, putsL, putsL_append n p xs]
    congr 1
    rw [List.length_cons]
    omega
theorem freshL_append (n p : Int) : ∀ (xs ys : List Int) (l : List (Int × Int)) (k : Int), freshL n p l k (xs ++ ys) = (freshL n p l k xs || freshL n p (putsL n p l k xs) (k + (xs.length : Int)) ys)
  | [], ys, l, k => by simp [freshL, putsL]
  | x :: xs, ys, l, k => by
    rw [List.cons_append, freshL, freshL, putsL, freshL_append n p xs, Bool.or_assoc]
    congr 3
    rw [List.length_cons]
    omega
/-- One more of them. -/
theorem puts_step (n p : Int) (l : List (Int × Int)) (f : Int) {xs : List Int} {i : Nat} {x : Int} (hx : xs[i]? = some x) : putsL n p l f (xs.take (i + 1)) = putN n p (putsL n p l f (xs.take i)) (f + (i : Int)) x ∧ freshL n p l f (xs.take (i + 1)) = (freshL n p l f (xs.take i) || freshN n p (putsL n p l f (xs.take i)) (f + (i : Int))) := by
  have hl : i < xs.length := (List.getElem?_eq_some_iff.1 hx).1
  have ht : (xs.take i).length = i := by rw [List.length_take]; omega
  rw [List.take_add_one, hx, Option.toList_some, putsL_snoc, freshL_snoc, ht]
  exact ⟨rfl, rfl⟩
/-- What comes from a round's end on changes nothing. -/
theorem puts_upto {n p : Int} {l : List (Int × Int)} {f : Int} {xs : List Int} {i : Nat} (h : PileOk n p l) (hf : 0 ≤ f) (hx : ∀ z ∈ xs, 0 ≤ z ∧ z ≤ 255) (hi : i ≤ xs.length) (hb : n * p ≤ f + (i : Int)) : putsL n p l f xs = putsL n p l f (xs.take i) ∧ freshL n p l f xs = freshL n p l f (xs.take i) := by
  have ht : (xs.take i).length = i := by rw [List.length_take]; omega
  have hs := puts_stale (n := n) (p := p) (xs := xs.drop i) (l := putsL n p l f (xs.take i)) (k := f + (i : Int)) (putsL_ok h hf (fun z hz => hx z (List.mem_of_mem_take hz))) (fun j _ => .inl (by omega))
  have e1 := putsL_append n p (xs.take i) (xs.drop i) l f
  have e2 := freshL_append n p (xs.take i) (xs.drop i) l f
  rw [List.take_append_drop, ht] at e1 e2
  rw [e1, e2, hs.1, hs.2, Bool.or_false]
  exact ⟨rfl, rfl⟩

end Go.Proofs.YtkigbanldiialaaGreatDoor

/-
  Blocks that are heard, as numbers: by the first passes of a round; how long piles become. No function of the program is spoken of.
-/
namespace Go.Proofs.YtkigbanldiialaaGreatDoor
open Go.RowKit

/-- The symbols of a row, put in order. -/
theorem puts_heard {n p : Int} {zs : List Int} {at_ : Nat} : ∀ {k : Nat}, ((at_ + k : Nat) : Int) ≤ n * p → putsL n p (heardL zs [] [] at_) (at_ : Int) (codeL zs at_ k) = heardL zs [] [] (at_ + k)
  | 0, _ => rfl
  | k + 1, h => by
    rw [codeL_next, putsL_snoc, puts_heard (k := k) (by omega), codeL_len, show ((at_ : Int) + (k : Int)) = ((at_ + k : Nat) : Int) by omega, ← hvN_own]
    exact heardL_put rfl (by omega)
theorem heard_fresh {n p : Int} {zs : List Int} {at_ : Nat} (hp : PileOk n p (heardL zs [] [] at_)) (h : (at_ : Int) < n * p) : freshN n p (heardL zs [] [] at_) (at_ : Int) = true := by
  rw [← Bool.not_eq_false, stale_iff hp]
  rintro (h1 | ⟨v, hv⟩)
  · omega
  · have := heardL_lt _ hv
    simp at this
theorem puts_fresh {n p : Int} {zs : List Int} {at_ k : Nat} (hp : PileOk n p (heardL zs [] [] at_)) (h : (at_ : Int) < n * p) (hk : 0 < k) : freshL n p (heardL zs [] [] at_) (at_ : Int) (codeL zs at_ k) = true := by
  cases hc : codeL zs at_ k with
  | nil => have := codeL_len zs at_ k; rw [hc] at this; simp at this; omega
  | cons x xs => rw [freshL, heard_fresh hp h, Bool.true_or]
/-- By four passes a block is told. -/
theorem told_fourL {zs : List Int} {N b D C : Nat} (hN : N = 2 * zs.length) (h0 : 1 ≤ zs.length) (hn : N < 65) (hb : 1 ≤ b) (hC : 4 * N ≤ C) : toldL N (heardL zs [] [] C) b D = some (nibs zs) := by
  subst hN
  obtain ⟨n, t, h1, h2, _, h4, h5⟩ := told_four zs C D b hb h0 hn hC
  rw [← h2]
  exact toldL_of h1 h4 h5

/-- How many of the places from k on, m of them, lie from a on, below b. -/
def within (a b k : Int) : Nat → Nat
  | 0 => 0
  | m + 1 => within a b k m + (if a ≤ k + (m : Int) ∧ k + (m : Int) < b then 1 else 0)
end Go.Proofs.YtkigbanldiialaaGreatDoor

/-
  Blocks that are heard, as numbers: of a block's own symbols. No function of the program is spoken of.
-/
namespace Go.Proofs.YtkigbanldiialaaGreatDoor
open Go.RowKit

theorem okX_code {zs : List Int} {r : Int} (hr : 0 ≤ r ∧ r ≤ 255) (f m : Nat) : okX r (f : Int) (codeL zs f m) := ⟨hr, by omega, codeL_bd zs f m⟩
theorem segs_len {c : Cfg} {zs : List Int} (hl : (zs.length : Int) = c.cB + 10) : (segsC c).toNat = 2 * zs.length := by
  unfold segsC
  omega
theorem beam_pos {c : Cfg} (h : okC c = true) : 1 ≤ c.cBeam.toNat := by
  have := ((okC_iff c).1 h).2.1
  omega
theorem gotH_own {c : Cfg} {h : Hr} {zs : List Int} (hC : okC c = true) (hk : okH c h) (hl : (zs.length : Int) = c.cB + 10) (bz : ∀ z ∈ zs, 0 ≤ z ∧ z ≤ 255) {r : Int} (hr : 0 ≤ r ∧ r ≤ 255) {f m : Nat} (hw : OwnL zs (flushH h r)) {b : List Int} (hg : gotH c h r (f : Int) (codeL zs f m) = some b) : b = zs := by
  obtain ⟨_, ps, hps, rfl, _⟩ := gotH_some hg
  have hN : h.hN.toNat = 2 * zs.length := by rw [hk.2.2.2.1]; exact segs_len hl
  have hNi : ((h.hN.toNat : Nat) : Int) = h.hN := Int.toNat_of_nonneg (by have := hk.2.2.1.1.1; omega)
  have hp := pileH_ok hk (okX_code (zs := zs) hr f m)
  have := told_ownL (p := h.hP) hN (by have := ((okC_iff c).1 hC).1; omega) (beam_pos hC) (by rw [hNi]; exact hp) (ownL_puts hw) hps
  rw [this]
  exact joinH_nibs bz
theorem takeH_seq (c : Cfg) (h : Hr) (r f : Int) (xs : List Int) : (takeH c h r f xs).1.hS = h.hS := by
  cases hd : h.hD with
  | true => rw [takeH_done hd]
  | false =>
    cases hg : gotH c h r f xs with
    | none => rw [takeH_none hd hg]; rfl
    | some b => rw [takeH_some hd hg]; rfl

/-- Behind so many symbols of a round, in order: it is accepted, or all of them are heard. -/
def Along (zs : List Int) (r : Int) (k : Nat) (h : Hr) : Prop := (h.hD = true ∧ h.hB = zs) ∨ (h.hD = false ∧ flushH h r = heardL zs [] [] k)
theorem along_new {zs : List Int} {h : Hr} {r : Int} (hd : h.hD = false) (hr : r ≠ h.hR) : Along zs r 0 h := .inr ⟨hd, by unfold flushH; rw [if_neg hr]; rfl⟩
theorem along_take {c : Cfg} {h : Hr} {zs : List Int} (hC : okC c = true) (hk : okH c h) (hb : blockB c h.hS zs = true) (bz : ∀ z ∈ zs, 0 ≤ z ∧ z ≤ 255) {r : Int} (hr : 0 ≤ r ∧ r ≤ 255) {k m : Nat} (hm : 0 < m) (hkm : ((k + m : Nat) : Int) ≤ mostC c) (ha : Along zs r k h) :
    Along zs r (k + m) (takeH c h r (k : Int) (codeL zs k m)).1 ∧ (4 * segsC c ≤ ((k + m : Nat) : Int) → (takeH c h r (k : Int) (codeL zs k m)).1.hD = true) := by
  have hl := ((blockB_iff _ _ _).1 hb).1
  have hnp : h.hN * h.hP = mostC c := by rw [hk.2.2.2.1, hk.2.2.2.2.1]; rfl
  rcases ha with ⟨hd, hB⟩ | ⟨hd, hL⟩
  · rw [takeH_done hd]
    exact ⟨.inl ⟨hd, hB⟩, fun _ => hd⟩
  · have hf := flushH_ok hk r
    rw [hL] at hf
    have hpile : pileH h r (k : Int) (codeL zs k m) = heardL zs [] [] (k + m) := by
      unfold pileH
      rw [hL]
      exact puts_heard (by rw [hnp]; exact hkm)
    have hfr : freshL h.hN h.hP (flushH h r) (k : Int) (codeL zs k m) = true := by
      rw [hL]
      exact puts_fresh hf (by rw [hnp]; omega) hm
    have hOL : OwnL zs (flushH h r) := by
      rw [hL]
      intro x hx
      obtain ⟨j, _, _, rfl⟩ := heardL_mem hx
      show ((hvN zs [] j : Nat) : Int) = ((codeN zs ((j : Int)).toNat : Nat) : Int)
      rw [hvN_own]
      rfl
    cases hg : gotH c h r (k : Int) (codeL zs k m) with
    | some b =>
      rw [takeH_some hd hg]
      have := gotH_own hC hk hl bz hr hOL hg
      exact ⟨.inl ⟨rfl, this⟩, fun _ => rfl⟩
    | none =>
      rw [takeH_none hd hg]
      refine ⟨.inr ⟨rfl, ?_⟩, fun h4 => ?_⟩
      · show (if r = r then pileH h r (k : Int) (codeL zs k m) else []) = _
        rw [if_pos rfl, hpile]
      · exfalso
        have hN : h.hN.toNat = 2 * zs.length := by rw [hk.2.2.2.1]; exact segs_len hl
        have hs := segsC_bd hC
        have hsN : segsC c = ((h.hN.toNat : Nat) : Int) := by rw [hk.2.2.2.1]; exact (Int.toNat_of_nonneg (by omega)).symm
        have ht := told_fourL (b := c.cBeam.toNat) (D := (c.cDepth - 1).toNat) (C := k + m) hN (by have := ((okC_iff c).1 hC).1; omega) (by omega) (beam_pos hC) (by omega)
        unfold gotH at hg
        rw [if_pos hfr, hpile, ht] at hg
        simp only at hg
        rw [joinH_nibs bz, if_pos hb] at hg
        cases hg

/-- How long the pile is that is heard. -/
theorem takeH_len {c : Cfg} {h : Hr} (hk : okH c h) {r f : Int} {xs : List Int} (hx : okX r f xs) : ((takeH c h r f xs).1.hL.length : Int) ≤ mostC c := by
  have h1 := takeH_ok hk hx
  have := pile_len h1.2.2.1
  rw [h1.2.2.2.1, h1.2.2.2.2.1] at this
  exact this
theorem stayH_len {c : Cfg} {h : Hr} (hk : okH c h) {r f : Int} {xs : List Int} (hx : okX r f xs) : (pileH h r f xs).length ≤ h.hL.length + xs.length := by
  have h1 := putsL_len_le (k := f) (flushH_ok hk r) hx.2.1 hx.2.2
  have h2 : (flushH h r).length ≤ h.hL.length := by
    unfold flushH
    split
    · exact Nat.le_refl _
    · exact Nat.zero_le _
  show (putsL h.hN h.hP (flushH h r) f xs).length ≤ _
  omega

end Go.Proofs.YtkigbanldiialaaGreatDoor

/-
  What volutekeep.TwinHear and Hear and the page's NewHear and Hear (may it be heard?) answer. (Written by tpl_refhear.py.)
-/
namespace Go.Proofs.YtkigbanldiialaaGreatDoor
open Go.RowKit

theorem row_set7 {w : World} {base : Nat} {e : TypeId} {size : Nat} {v : Value} {n : Nat} {xs : List Value} (h : w.ownsRow base e size v n xs) {D : Nat} (hD : D < base) (a b c d e' f g : Value) : (((((((w.setCell ⟨D, 0, none⟩ a).setCell ⟨D, 1, none⟩ b).setCell ⟨D, 2, none⟩ c).setCell ⟨D, 3, none⟩ d).setCell ⟨D, 4, none⟩ e').setCell ⟨D, 5, none⟩ f).setCell ⟨D, 6, none⟩ g).ownsRow base e size v n xs := ownsRow_setCell_below (ownsRow_setCell_below (ownsRow_setCell_below (ownsRow_setCell_below (ownsRow_setCell_below (ownsRow_setCell_below (ownsRow_setCell_below h (a := ⟨D, 0, none⟩) hD a) (a := ⟨D, 1, none⟩) hD b) (a := ⟨D, 2, none⟩) hD c) (a := ⟨D, 3, none⟩) hD d) (a := ⟨D, 4, none⟩) hD e') (a := ⟨D, 5, none⟩) hD f) (a := ⟨D, 6, none⟩) hD g
theorem below_set7 {W V : World} {n : Nat} (h : Below n W V) {D : Nat} (hD : n ≤ D) (a b c d e' f g : Value) : Below n W (((((((V.setCell ⟨D, 0, none⟩ a).setCell ⟨D, 1, none⟩ b).setCell ⟨D, 2, none⟩ c).setCell ⟨D, 3, none⟩ d).setCell ⟨D, 4, none⟩ e').setCell ⟨D, 5, none⟩ f).setCell ⟨D, 6, none⟩ g) := ((((((h.setCell (p := ⟨D, 0, none⟩) hD a).setCell (p := ⟨D, 1, none⟩) hD b).setCell (p := ⟨D, 2, none⟩) hD c).setCell (p := ⟨D, 3, none⟩) hD d).setCell (p := ⟨D, 4, none⟩) hD e').setCell (p := ⟨D, 5, none⟩) hD f).setCell (p := ⟨D, 6, none⟩) hD g

set_option maxRecDepth 100000 in
set_option maxHeartbeats 4000000 in
/-- volutekeep.Hear. -/
theorem keepHear_any (s q N P s' q' N' P' : Int) (k k' : Bool) (vl vb vl' vb' : Value) (l l' : List (Int × Int)) (zs zs' : List Int) (hl : l'.length ≤ 4611686018427387904) (hz : zs'.length ≤ 4611686018427387904) (w : World) (hA : Syms w.heap.size w vl l) (hB : Holds .u8 w.heap.size w vb zs) (hA' : Syms w.heap.size w vl' l') (hB' : Holds .u8 w.heap.size w vb' zs') :
    Calls Tryz.prog 19 #[.agg #[.int .i64 s, .int .i64 q, .int .i64 N, .int .i64 P, vl, .bool k, vb], .agg #[.int .i64 s', .int .i64 q', .int .i64 N', .int .i64 P', vl', .bool k', vb']] w fun e w' => e = .returned (.bool (decide (s = s' ∧ q = q' ∧ k = k' ∧ (N = N' ∧ P = P' ∧ l = l') ∧ zs = zs'))) ∧ Below w.heap.size w w' := by
  have b1 := ((Below.refl w.heap.size w).alloc (Nat.le_refl _) (.cells #[.int .i64 s, .int .i64 q, .int .i64 N, .int .i64 P, vl, .bool k, vb] 39)).alloc (by simp) (.cells #[.int .i64 s', .int .i64 q', .int .i64 N', .int .i64 P', vl', .bool k', vb'] 39)
  have x1 := (Box.new w 39 #[.int .i64 s, .int .i64 q, .int .i64 N, .int .i64 P, vl, .bool k, vb]).alloc (.cells #[.int .i64 s', .int .i64 q', .int .i64 N', .int .i64 P', vl', .bool k', vb'] 39)
  have x2 := Box.new (w.alloc (.cells #[.int .i64 s, .int .i64 q, .int .i64 N, .int .i64 P, vl, .bool k, vb] 39)) 39 #[.int .i64 s', .int .i64 q', .int .i64 N', .int .i64 P', vl', .bool k', vb']
  rw [show (w.alloc (.cells #[.int .i64 s, .int .i64 q, .int .i64 N, .int .i64 P, vl, .bool k, vb] 39)).heap.size = w.heap.size + 1 by simp] at x2
  have HC := keepPile_any N P N' P' vl vl' l l' _ hl (hA.next b1) (hA'.next b1)
  have HBB : Hid (∀ wx : World, Below ((w.alloc (.cells #[.int .i64 s, .int .i64 q, .int .i64 N, .int .i64 P, vl, .bool k, vb] 39)).alloc (.cells #[.int .i64 s', .int .i64 q', .int .i64 N', .int .i64 P', vl', .bool k', vb'] 39)).heap.size ((w.alloc (.cells #[.int .i64 s, .int .i64 q, .int .i64 N, .int .i64 P, vl, .bool k, vb] 39)).alloc (.cells #[.int .i64 s', .int .i64 q', .int .i64 N', .int .i64 P', vl', .bool k', vb'] 39)) wx → Calls Tryz.prog 17 #[vb, vb'] wx fun e w' => e = .returned (.bool (decide (zs = zs'))) ∧ ∃ n, w' = wx.drewN n) := fun wx hx => bytes_any vb vb' zs zs' _ _ wx hz ((hB.next b1).next hx) ((hB'.next b1).next hx)
  clear hA hB hA' hB'
  by_cases e0 : ¬ s = s'
  · have d0 : (s == s') = false := by simp [e0]
    rw [decide_eq_false (fun h => e0 h.1)]
    clear e0 HC HBB x1 x2
    go_enter Tryz.func19, Tryz.ntmps19
    go_wp2
    go_ret
    exact ⟨rfl, b1⟩
  obtain rfl := Classical.not_not.1 e0
  clear e0
  by_cases e1 : ¬ q = q'
  · have d1 : (q == q') = false := by simp [e1]
    rw [decide_eq_false (fun h => e1 h.2.1)]
    clear e1 HC HBB x1 x2
    go_enter Tryz.func19, Tryz.ntmps19
    go_wp2
    go_ret
    exact ⟨rfl, b1⟩
  obtain rfl := Classical.not_not.1 e1
  clear e1
  by_cases e2 : ¬ k = k'
  · have d2 : (k == k') = false := by simp [e2]
    rw [decide_eq_false (fun h => e2 h.2.2.1)]
    clear e2 HC HBB x1 x2
    go_enter Tryz.func19, Tryz.ntmps19
    go_wp2
    go_ret
    exact ⟨rfl, b1⟩
  obtain rfl := Classical.not_not.1 e2
  clear e2
  by_cases e3 : ¬ (N = N' ∧ P = P' ∧ l = l')
  · rw [decide_eq_false e3] at HC
    rw [decide_eq_false (fun h => e3 h.2.2.2.1)]
    clear e3 HBB x1 x2
    go_enter Tryz.func19, Tryz.ntmps19
    go_wp2_with fail
    refine HC.mono ?_
    rintro e w2 ⟨rfl, b2⟩
    go_wp2
    go_ret
    exact ⟨rfl, b1.trans (b2.mono (by simp; omega))⟩
  have e3 := Classical.not_not.1 e3
  rw [decide_eq_true e3] at HC
  have HE : Hid (decide (s = s ∧ q = q ∧ k = k ∧ (N = N' ∧ P = P' ∧ l = l') ∧ zs = zs') = decide (zs = zs')) := by
    show decide (s = s ∧ q = q ∧ k = k ∧ (N = N' ∧ P = P' ∧ l = l') ∧ zs = zs') = decide (zs = zs')
    exact decide_eq_decide.2 ⟨fun h => h.2.2.2.2, fun h => ⟨rfl, rfl, rfl, e3, h⟩⟩
  rw [HE.out]
  clear e3
  go_enter Tryz.func19, Tryz.ntmps19
  go_wp2_with fail
  refine HC.mono ?_
  rintro e w2 ⟨rfl, b2⟩
  have y1 := x1.next b2
  have y2 := x2.next b2
  have c1 := y1.cell 6 _ rfl
  have c2 := y2.cell 6 _ rfl
  have hl1 := y1.lt
  have hl2 := y2.lt
  have HB2 := HBB.out w2 b2
  clear HC HBB x1 x2
  go_wp2_with fail
  refine HB2.mono ?_
  rintro e w3 ⟨rfl, nd, rfl⟩
  go_wp2
  go_ret
  exact ⟨rfl, below_drewN (b1.trans (b2.mono (by simp; omega))) nd⟩

end Go.Proofs.YtkigbanldiialaaGreatDoor
