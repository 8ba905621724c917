/-
  The blocks of a message, in order, put together, as numbers: what is behind each of them. A text in a list of texts. No function of the program is spoken of.
-/
import Derived.Test.YtklmiapieaogdaaJoinNums
import Derived.Test.YtklmiapieaogdaaJoinBase
import Derived.Test.YtklmiapieaogdaaTextsOpen
import Derived.Test.YtklmiapieaogdaaBlkMem
namespace Go.Proofs.Ytklmiapieaogdaa
open Go.RowKit

/-- What is open behind q of M blocks. -/
def jAt (B : Nat) (msg : List Int) (j0 : Jn) (M q : Nat) : Jn := if q = M then (false, []) else along B msg j0 q
theorem jAt_lt {B : Nat} {msg : List Int} {j0 : Jn} {M q : Nat} (h : q < M) : jAt B msg j0 M q = along B msg j0 q := by unfold jAt; rw [if_neg (by omega)]
theorem msgs_step {B : Nat} {msg : List Int} {j0 : Jn} {M q : Nat} (hB : 1 ≤ B) (hB2 : B ≤ 16) (hM : blocksN B msg.length = M) (hl : msg.length ≤ 200) (h1 : j0.2.length ≤ 4096) (h2 : j0.1 = false → j0.2.length = 0) (hq : q < M) {o : Bool} {t : List Int} (hj : (o, t) = jAt B msg j0 M q) :
    endsA o (markK M q) = decide (q + 1 = M) ∧ errJ (o, t) (markK M q) (textK B msg q) = 0 ∧ takeJ (o, t) (markK M q) (textK B msg q) = (jAt B msg j0 M (q + 1), (if q + 1 = M then msg else []), decide (q + 1 = M)) := by
  rw [jAt_lt hq] at hj
  have hb := markK_bd M q
  have hf := mark_first M q
  have hla := mark_last M q
  have hx : (textK B msg q).length ≤ 16 := Nat.le_trans (textK_le _ _ _) hB2
  have hoj : openJ (o, t) (markK M q) = (true, msg.take (q * B)) := by
    rw [hj]
    unfold openJ along
    rw [hf]
    by_cases h : q = 0
    · subst h; simp
    · simp [h]
  have htl : t.length ≤ 4096 ∧ (o = true ∨ t.length = 0) := by
    unfold along at hj
    by_cases h : q = 0
    · rw [if_pos h] at hj
      subst hj
      refine ⟨h1, ?_⟩
      cases o with
      | true => exact .inl rfl
      | false => exact .inr (h2 rfl)
    · rw [if_neg h] at hj
      cases hj
      exact ⟨by rw [List.length_take]; omega, .inl rfl⟩
  have ha : argJ (o, t) (markK M q) = true := (argJ_iff _ _).2 ⟨htl.1, htl.2, hb.1, hb.2⟩
  have he : errJ (o, t) (markK M q) (textK B msg q) = 0 := by
    unfold errJ
    rw [if_pos ha, if_pos hx, hoj, if_neg]
    rintro ⟨_, h⟩
    simp only [List.length_take] at h
    omega
  refine ⟨?_, he, ?_⟩
  · have e := endsA_right (j := (o, t)) hb.1 hb.2
    rw [show (o, t).1 = o from rfl] at e
    rw [e]
    unfold endsJ
    rw [hla, hf]
    by_cases h : q = 0
    · simp [h]
    · have : o = true := by
        unfold along at hj
        rw [if_neg h] at hj
        cases hj
        rfl
      simp [this]
  · unfold takeJ
    rw [if_pos he, hj]
    by_cases h : q + 1 = M
    · subst hM
      rw [along_last hB h, if_pos h]
      simp [jAt, h]
    · rw [along_next (by omega), if_neg h]
      simp [jAt, h]
theorem jAt_zero {B : Nat} {msg : List Int} {j0 : Jn} {M : Nat} (h : 1 ≤ M) : jAt B msg j0 M 0 = j0 := by
  rw [jAt_lt (by omega)]
  unfold along
  rw [if_pos rfl]

/-- A text that lies in a list. -/
def AtTx (W : World) (gb i : Nat) (a : Option Addr) (n c : Nat) (xs : List Int) : Prop := (gb < W.heap.size ∧ W.cell? ⟨gb, i, none⟩ = some (.slice a n c)) ∧ Holds .u8 W.heap.size W (.slice a n c) xs
theorem AtTx.next {W W' : World} {gb i : Nat} {a : Option Addr} {n c : Nat} {xs : List Int} (h : AtTx W gb i a n c xs) (hb : Below W.heap.size W W') : AtTx W' gb i a n c xs :=
  ⟨⟨Nat.lt_of_lt_of_le h.1.1 hb.size, (hb.cell (p := ⟨gb, i, none⟩) h.1.1).trans h.1.2⟩, h.2.next hb⟩
theorem AtTx.lt {W : World} {gb i : Nat} {a : Option Addr} {n c : Nat} {xs : List Int} (h : AtTx W gb i a n c xs) : gb < W.heap.size := h.1.1
theorem AtTx.cell {W : World} {gb i : Nat} {a : Option Addr} {n c : Nat} {xs : List Int} (h : AtTx W gb i a n c xs) : W.cell? ⟨gb, i, none⟩ = some (.slice a n c) := h.1.2
theorem AtTx.held {W : World} {gb i : Nat} {a : Option Addr} {n c : Nat} {xs : List Int} (h : AtTx W gb i a n c xs) : Holds .u8 W.heap.size W (.slice a n c) xs := h.2
theorem atTx_of {n₀ n : Nat} {W W' : World} {a : Option Addr} {l : List (List Int)} (h : Texts n₀ W a n l) {k : Nat} {xs : List Int} (hk : l[k]? = some xs) (hb : Below n₀ W W') (hn : n₀ ≤ W.heap.size) :
    ∃ gb off pa pc, a = some ⟨gb, off, none⟩ ∧ AtTx W' gb (off + k) pa xs.length pc xs ∧ xs.length ≤ pc := by
  obtain ⟨b, off, xa, xc, h0, h1, h2, h6, h7, _⟩ := h.2 k xs hk
  have hs := hb.size
  exact ⟨b, off, xa, xc, h0, ⟨⟨by omega, (hb.cell (p := ⟨b, off + k, none⟩) h1).trans h2⟩, (h6.below hb).mono (by omega)⟩, h7⟩
/-- A store into an older variable leaves a list of the call's own. -/
theorem ownSts_setOld2 {α : Type} {K : Kind α} {base : Nat} {W : World} {v : Value} {l : List α} (h : OwnSts K base W v l) {B : Nat} (hB : B < base) (x y : Value) : OwnSts K base ((W.setCell ⟨B, 0, none⟩ x).setCell ⟨B, 1, none⟩ y) v l := by
  obtain ⟨r, h1, h2, h3⟩ := h
  exact ⟨r, h1, row_setNe2 h2 (row_neOld h2 hB) x y, h3.same fun u hu p hp g hg => by
    have hg' := (h3.lt u hu p hp g hg).1
    have ne : ∀ j, g ≠ (Addr.mk B j none).block := fun j e => by
      have : g = B := e
      omega
    rw [Below.heap_setCell _ _ _ g (ne 1), Below.heap_setCell _ _ _ g (ne 0)]⟩
theorem box_other2J {W : World} {B : Nat} {t : TypeId} {cs : Array Value} (h : Box W B t cs) {D : Nat} (hp : B ≠ D) (x y : Value) : Box ((W.setCell ⟨D, 0, none⟩ x).setCell ⟨D, 1, none⟩ y) B t cs := (h.other (p := ⟨D, 0, none⟩) hp x).other (p := ⟨D, 1, none⟩) hp y

end Go.Proofs.Ytklmiapieaogdaa
