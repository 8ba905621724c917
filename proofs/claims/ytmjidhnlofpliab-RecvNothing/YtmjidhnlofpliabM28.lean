/-
  Lists of blocks that are sent (numbers, acked, bytes) in memory; lists of texts in memory of the call's own. No function of the program is spoken of.
-/
import Derived.Test.YtmjidhnlofpliabM06
import Derived.Test.YtmjidhnlofpliabM07
import Derived.Test.YtmjidhnlofpliabM13
import Derived.Test.YtmjidhnlofpliabM21
import Derived.Test.YtmjidhnlofpliabM23
import Derived.Deep.Cut
import Derived.Deep.CutRange
import Derived.Deep.DeepCutAuto
namespace Go.Proofs.Ytmjidhnlofpliab
open Go.RowKit

/-- The k-th block that is sent, where it lies, with its bytes. -/
def AtEm (W : World) (gb o : Nat) (e : Em) (pa : Option Addr) (x pc : Nat) : Prop :=
  (gb < W.heap.size ∧ W.cell? ⟨gb, o, none⟩ = some (.int .i64 e.eS) ∧ W.cell? ⟨gb, o + 1, none⟩ = some (.int .i64 e.eR) ∧ W.cell? ⟨gb, o + 2, none⟩ = some (.int .i64 e.eF) ∧ W.cell? ⟨gb, o + 3, none⟩ = some (.bool e.eA) ∧ W.cell? ⟨gb, o + 4, none⟩ = some (.slice pa x pc)) ∧ Holds .u8 W.heap.size W (.slice pa x pc) e.eB ∧ e.eB.length = x
theorem AtEm.next {W W' : World} {gb o : Nat} {e : Em} {pa : Option Addr} {x pc : Nat} (h : AtEm W gb o e pa x pc) (b : Below W.heap.size W W') : AtEm W' gb o e pa x pc := by
  obtain ⟨⟨h0, h1, h2, h3, h4, h5⟩, h6, h7⟩ := h
  exact ⟨⟨Nat.lt_of_lt_of_le h0 b.size, (b.cell (p := ⟨gb, o, none⟩) h0).trans h1, (b.cell (p := ⟨gb, o + 1, none⟩) h0).trans h2, (b.cell (p := ⟨gb, o + 2, none⟩) h0).trans h3, (b.cell (p := ⟨gb, o + 3, none⟩) h0).trans h4, (b.cell (p := ⟨gb, o + 4, none⟩) h0).trans h5⟩, h6.next b, h7⟩
theorem AtEm.lt {W : World} {gb o : Nat} {e : Em} {pa : Option Addr} {x pc : Nat} (h : AtEm W gb o e pa x pc) : gb < W.heap.size := h.1.1
theorem AtEm.held {W : World} {gb o : Nat} {e : Em} {pa : Option Addr} {x pc : Nat} (h : AtEm W gb o e pa x pc) : Holds .u8 W.heap.size W (.slice pa x pc) e.eB := h.2.1
/-- Lists of texts. -/
def txK : Kind (List Int) where
  ty := 26
  k := 1
  lie := fun _ ps => [ps.getD 0 (.slice none 0 0)]
  subs := fun y => [⟨5, 1, y.length, y.map (Value.int .u8)⟩]
  len := fun _ _ => rfl
  one := fun y ps h u hu => by
    simp only [List.mem_cons, List.not_mem_nil, or_false] at hu
    subst hu
    match ps, h with
    | [], _ => rfl
    | p :: _, h => obtain ⟨a, n, c, rfl⟩ := h p (by simp); rfl
theorem txK_unlike : txK.unlike := fun y t ht => by
  simp only [txK, List.mem_cons, List.not_mem_nil, or_false] at ht
  subst ht
  show (5 : Nat) ≠ 26
  decide
abbrev Txs := Sts txK
theorem infoTx : (Try.prog.info? 26).map (fun i => (i.zero, i.size, i.bytes)) = some (some (.slice none 0 0), 1, 24) := by kernel_rfl
theorem txs_at {n₀ n cap : Nat} {W W' : World} {a : Option Addr} {l : List (List Int)} (h : Txs n₀ W (.slice a n cap) l) {k : Nat} {xs : List Int} (hk : l[k]? = some xs) (hb : Below n₀ W W') (hn : n₀ ≤ W.heap.size) :
    ∃ gb off pa pc, a = some ⟨gb, off, none⟩ ∧ gb < n₀ ∧ W'.cell? ⟨gb, off + k, none⟩ = some (.slice pa xs.length pc) ∧ Holds .u8 W'.heap.size W' (.slice pa xs.length pc) xs := by
  have h0 : 0 < l.length := by
    have := (List.getElem?_eq_some_iff.1 hk).1
    omega
  obtain ⟨b, off, rfl, hlt, hc⟩ := h.at h0
  obtain ⟨ps, hs, hcell⟩ := hc k xs hk
  obtain ⟨p, rfl, hp⟩ := hs.one
  have hp' := hp.ints rfl
  obtain ⟨pa, pc, rfl⟩ : ∃ pa pc, p = .slice pa xs.length pc := hp'.shape
  have hs := hb.size
  have h1 := hcell 0 _ rfl
  rw [show txK.k = 1 from rfl, Nat.mul_one, Nat.add_zero] at h1
  exact ⟨b, off, pa, pc, rfl, hlt, (hb.cell (p := ⟨b, off + k, none⟩) hlt).trans h1, (hp'.below hb).mono (by omega)⟩
end Go.Proofs.Ytmjidhnlofpliab

/-
  Small facts of memory: stores into a variable side by side; rows and variables that lie in unlike blocks. No function of the program is spoken of.
-/
namespace Go.Proofs.Ytmjidhnlofpliab
open Go.RowKit

/-- A row lies in another block than a variable of another type. -/
theorem row_neBox {W : World} {base size n B : Nat} {e t : TypeId} {v : Value} {l : List Value} {cs : Array Value} (h : W.ownsRow base e size v n l) (hb : Box W B t cs) (he : e ≠ t) : v.ownBlock ≠ some B := fun hv => by
  rcases h.2 with ⟨rfl, _⟩ | ⟨g, cap, cur, rfl, _, hg, _⟩
  · cases hv
  · simp only [Value.ownBlock, Option.some.injEq] at hv
    subst hv
    have hb' : W.heap[g]? = _ := hb
    rw [hg] at hb'
    simp only [Option.some.injEq, Obj.cells.injEq] at hb'
    exact he hb'.2.1
theorem below_drewJ {n : Nat} {W : World} (h : W.heap.size = n) : Below n W W.drew := h ▸ (Below.refl _ _).drew
end Go.Proofs.Ytmjidhnlofpliab

/-
  An end that sends, as it lies in memory: its numbers, its lists. No function of the program is spoken of.
-/
namespace Go.Proofs.Ytmjidhnlofpliab
open Go.RowKit

/-- What lies in other blocks than a variable of another type stays, whatever becomes of that variable. -/
theorem OwnSts.put {α : Type} {K : Kind α} {base : Nat} {W W' : World} {v : Value} {l : List α} (h : OwnSts K base W v l) {D : Nat} {t : TypeId} {cs : Array Value} (hb : Box W D t cs) (h1 : K.ty ≠ t) (h2 : ∀ (y : α) (u : Sub), u ∈ K.subs y → u.ty ≠ t) (hq : ∀ g, g ≠ D → W'.heap[g]? = W.heap[g]?) : OwnSts K base W' v l := by
  obtain ⟨r, e, h3, h4⟩ := h
  refine ⟨r, e, rowK_same h3 fun g hg => hq g fun e => row_neBox h3 hb h1 (by rw [hg, e]), h4.same fun x hx p hp g hg => hq g fun e => ?_⟩
  subst e
  have h5 := h4.subs x hx
  obtain ⟨i, hi, ep⟩ := List.getElem_of_mem hp
  have hl : i < (K.subs x.1).length := by rw [← h5.1]; exact hi
  exact row_neBox (h5.2 i p (K.subs x.1)[i] (by rw [← ep]; simp) (by simp)) hb (h2 x.1 _ (by simp)) hg
theorem row_put1 {W W' : World} {base size n : Nat} {e t : TypeId} {v : Value} {xs : List Value} (h : W.ownsRow base e size v n xs) {D : Nat} {cs : Array Value} (hb : Box W D t cs) (he : e ≠ t) (hq : ∀ g, g ≠ D → W'.heap[g]? = W.heap[g]?) : W'.ownsRow base e size v n xs :=
  rowK_same h fun g hg => hq g fun e => row_neBox h hb he (by rw [hg, e])
/-- A row of the call's own, with .next. -/
def OwnR (W : World) (base : Nat) (e : TypeId) (size : Nat) (v : Value) (n : Nat) (xs : List Value) : Prop := W.ownsRow base e size v n xs
theorem OwnR.next {W W' : World} {base : Nat} {e : TypeId} {size : Nat} {v : Value} {n : Nat} {xs : List Value} (h : OwnR W base e size v n xs) (b : Below W.heap.size W W') : OwnR W' base e size v n xs := rowK_below h b (Nat.le_refl _)
theorem OwnR.row {W : World} {base : Nat} {e : TypeId} {size : Nat} {v : Value} {n : Nat} {xs : List Value} (h : OwnR W base e size v n xs) : W.ownsRow base e size v n xs := h
theorem row_shapeS {W : World} {base k size : Nat} {e : TypeId} {v : Value} {xs : List Value} (h : W.ownsRow base e size v k xs) : ∃ a c, v = .slice a k c := by
  rcases h.2 with ⟨e, e0⟩ | ⟨g, c, cur, e, _⟩
  · exact ⟨_, _, by rw [e, e0]⟩
  · exact ⟨_, _, e⟩

end Go.Proofs.Ytmjidhnlofpliab

/-
  What volutekeep.Rows answers, for what is the same; what SpoilRows does. (Written by tpl_keepsend.py.)
-/
namespace Go.Proofs.Ytmjidhnlofpliab
open Go.RowKit

/-- A text in a list of texts. -/
structure AtTxt (W : World) (gb o : Nat) (xs : List Int) (pa : Option Addr) (x pc : Nat) : Prop where
  lt : gb < W.heap.size
  cell : W.cell? ⟨gb, o, none⟩ = some (.slice pa x pc)
  held : Holds .u8 W.heap.size W (.slice pa x pc) xs
set_option maxRecDepth 100000 in
set_option maxHeartbeats 4000000 in
theorem keepRows_same (l : List (List Int)) (M : Nat) (hl : l.length = M) (hM : M ≤ 4611686018427387904) (hm : ∀ x ∈ l, x.length ≤ 4611686018427387904) (wa : Option Addr) (wc : Nat) (va : Option Addr) (vc : Nat) (w1 : World) (ha : Txs w1.heap.size w1 (.slice wa M wc) l) (hb : Txs w1.heap.size w1 (.slice va M vc) l) :
    Calls Try.prog 17 #[.slice wa M wc, .slice va M vc] w1 fun e w' => e = .returned (.bool true) ∧ Below w1.heap.size w1 w' := by
  have HL : Hid (l.length = M) := hl
  have HM : Hid (∀ x ∈ l, x.length ≤ 4611686018427387904) := hm
  have H2 : Hid (Txs w1.heap.size w1 (.slice wa M wc) l) := ha
  have H4 : Hid (Txs w1.heap.size w1 (.slice va M vc) l) := hb
  clear hl hm ha hb
  have dM : ((M : Int) != (M : Int)) = false := by simp
  go_enter Try.func17, Try.ntmps17
  go_wp2_with fail
  clear dM
  go_loopw [5] (fun i wr => ∃ k : Nat, k ≤ M ∧ i = .int .i64 (k : Int) ∧ Below w1.heap.size w1 wr) (fun i _ => M - (intOf i).toNat)
  case atStart => exact ⟨0, Nat.zero_le _, rfl, Below.refl _ _⟩
  case round =>
    obtain ⟨k, hk, rfl, b4⟩ := hrel
    generalize hwr : wr = w4 at *
    clear hwr
    by_cases hlt : k < M
    rotate_left
    · obtain rfl : M = k := by omega
      go_wp2
      go_ret
      exact ⟨rfl, b4⟩
    obtain ⟨xs, hx⟩ : ∃ y, l[k]? = some y := ⟨l[k]'(by rw [HL.out]; exact hlt), by simp⟩
    obtain ⟨gb, off, pa, pc, rfl, g1, g2, g3⟩ := txs_at H2.out hx b4 (Nat.le_refl _)
    obtain ⟨gc, of2, qa, qc, rfl, g4, g5, g6⟩ := txs_at H4.out hx b4 (Nat.le_refl _)
    have hxm := HM.out xs (List.mem_of_getElem? hx)
    obtain ⟨x, hxl⟩ : ∃ x, xs.length = x := ⟨_, rfl⟩
    rw [hxl] at g2 g3 g5 g6 hxm
    have HX : Hid (xs.length = x) := hxl
    have y2 : AtTxt w4 gb (off + k) xs pa x pc := ⟨Nat.lt_of_lt_of_le g1 b4.size, g2, g3⟩
    have y3 : AtTxt w4 gc (of2 + k) xs qa x qc := ⟨Nat.lt_of_lt_of_le g4 b4.size, g5, g6⟩
    have HB3 : Hid (Below w1.heap.size w1 w4) := b4
    have bb : Below w4.heap.size w4 w4 := Below.refl _ _
    clear g1 g2 g3 g4 g5 g6 hx hxl H2 H4 b4
    have dk : decide (k < M) = true := decide_eq_true hlt
    go_upto_region 6 with fail
    obtain ⟨nq1, hnq1⟩ : ∃ n, w4.heap.size = n := ⟨_, rfl⟩
    have hl_y2 : gb < nq1 := hnq1 ▸ y2.lt
    have m_y2 : Hid (w4.cell? ⟨gb, off + k, none⟩ = some (.slice pa x pc)) := y2.cell
    have hl_y3 : gc < nq1 := hnq1 ▸ y3.lt
    have m_y3 : Hid (w4.cell? ⟨gc, of2 + k, none⟩ = some (.slice qa x qc)) := y3.cell
    have HK : Hid (∀ wx : World, Below nq1 w4 wx → Calls Try.prog 38 #[.slice pa x pc, .slice qa x qc] wx fun e w' => e = .returned (.bool true) ∧ Below nq1 w4 w') := fun wx hx => by
      refine (bytes_any _ _ xs xs _ _ wx (by rw [HX.out]; exact hxm) (y2.held.next (hnq1 ▸ hx)) (y3.held.next (hnq1 ▸ hx))).mono ?_
      rintro e w' ⟨rfl, q, rfl⟩
      exact ⟨by rw [decide_eq_true rfl], below_drewN hx q⟩
    go_cut [26] (fun v0 wx => v0 = .bool false ∧ Below nq1 w4 wx)
    case first =>
      as_aux_lemma =>
        refine wp_region_held_drew (S := fun w' => Below nq1 w4 w') (by kernel_rfl) (below_drewJ hnq1) (fun hHeld => ?_)
        refine ht0 0 17 (v := ?v1) (fun _ => ?y1) hHeld ?_
        case y1 => go_simp; with_reducible rfl
        simp only [sn]
        refine ht0 1 18 (v := ?v2) (fun _ => ?y2) hHeld ?_
        case y2 => go_simp; with_reducible rfl
        simp only [sn]
        refine ht0 2 19 (v := ?v3) (fun _ => ?y3) hHeld ?_
        case y3 => go_simp; with_reducible rfl
        simp only [sn]
        refine ht 3 20 (v := ?v4) (fun _ hSw => ?y4) hHeld ?_
        case y4 => have q0 := hSw.at m_y2.out hl_y2; clear hSw; go_simp; with_reducible rfl
        simp only [sn]
        refine ht0 4 21 (v := ?v5) (fun _ => ?y5) hHeld ?_
        case y5 => go_simp; with_reducible rfl
        simp only [sn]
        refine ht0 5 22 (v := ?v6) (fun _ => ?y6) hHeld ?_
        case y6 => go_simp; with_reducible rfl
        simp only [sn]
        refine ht0 6 23 (v := ?v7) (fun _ => ?y7) hHeld ?_
        case y7 => go_simp; with_reducible rfl
        simp only [sn]
        refine ht 7 24 (v := ?v8) (fun _ hSw => ?y8) hHeld ?_
        case y8 => have q0 := hSw.at m_y3.out hl_y3; clear hSw; go_simp; with_reducible rfl
        simp only [sn]
        refine wpAnyH_ready (rs := [8]) (by kernel_rfl) (by simp) ?_
        refine AllReadyH.cons rfl (fun K hK => ?_) AllReadyH.nil
        go_simp
        go_wp2_with (go_at_call 38; refine (HK.out _ (by exact hHeld)).mono ?_; rintro e wb ⟨rfl, b8⟩)
        refine hK.out _ _ (b8) (fun hHeld => ?_)
        clear hK K
        refine wpAnyH_ready (rs := [9]) (by kernel_rfl) (by simp) ?_
        refine AllReadyH.cons rfl (fun K hK => ?_) AllReadyH.nil
        go_simp
        refine hK.out _ _ hHeld (fun hHeld => ?_)
        clear hK K
        refine wpAnyH_done (by kernel_rfl) ?_ _
        go_wp2_with fail
        go_meet
        exact ⟨rfl, hHeld⟩
    case rest =>
      as_aux_lemma =>
        obtain ⟨rfl, b9⟩ := hcut
        replace b9 : Below w4.heap.size w4 wc := hnq1 ▸ b9
        generalize hwc : wc = w5 at *
        clear hwc hnq1 hl_y2 m_y2 hl_y3 m_y3 HK 
        replace bb := bb.trans (b9.mono bb.size)
        clear b9
        have b9 := HB3.out.trans (bb.mono HB3.out.size)
        go_wp2
        exact ⟨⟨k + 1, hlt, by go_num, b9⟩, by simp [intOf]; omega⟩

end Go.Proofs.Ytmjidhnlofpliab
