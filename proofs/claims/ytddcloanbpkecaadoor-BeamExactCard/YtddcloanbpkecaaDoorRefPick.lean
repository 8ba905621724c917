/-
  What the page's own Pick answers. (Written by tpl_refpick.py.)
-/
import Derived.Test.YtddcloanbpkecaaDoorPickLeast1
namespace Go.Proofs.YtddcloanbpkecaaDoor
open Go.RowKit

theorem leq_skip {cs : List Int} {tk : List Nat} {i : Nat} (hi : i ∈ tk) {z : Int} : (∃ j, j < i ∧ j ∉ tk ∧ at0 cs j = z) ↔ ∃ j, j < i + 1 ∧ j ∉ tk ∧ at0 cs j = z := by
  constructor
  · rintro ⟨j, h1, h2, h3⟩
    exact ⟨j, by omega, h2, h3⟩
  · rintro ⟨j, h1, h2, h3⟩
    rcases Nat.lt_or_eq_of_le (Nat.lt_succ_iff.1 h1) with h | h
    · exact ⟨j, h, h2, h3⟩
    · subst h; exact absurd hi h2
theorem leq_more {cs : List Int} {tk : List Nat} {i : Nat} {c : Int} (hi : i ∉ tk) (hc : at0 cs i = c) {z : Int} : ((∃ j, j < i ∧ j ∉ tk ∧ at0 cs j = z) ∨ z = c) ↔ ∃ j, j < i + 1 ∧ j ∉ tk ∧ at0 cs j = z := by
  constructor
  · rintro (⟨j, h1, h2, h3⟩ | h)
    · exact ⟨j, by omega, h2, h3⟩
    · exact ⟨i, by omega, hi, by rw [hc, h]⟩
  · rintro ⟨j, h1, h2, h3⟩
    rcases Nat.lt_or_eq_of_le (Nat.lt_succ_iff.1 h1) with h | h
    · exact .inl ⟨j, h, h2, h3⟩
    · subst h; exact .inr (by rw [← h3, hc])

set_option maxRecDepth 100000 in
set_option maxHeartbeats 8000000 in
theorem refPick_some (b off cap n : Nat) (l : List Nd) (hn : l.length = n) (hpos : 0 < n) (hl : n ≤ 1048576) (h0 : ∀ x ∈ l, 0 ≤ sc x) (hp : ∀ x ∈ l, x.2.2.2.length ≤ 4294967296) (B : Nat) (hB : 1 ≤ B) (hB2 : B ≤ 1048576) (w : World) (ha : Nodes w.heap.size w (.slice (some ⟨b, off, none⟩) n cap) l) :
    Calls Tryd.prog 40 #[.slice (some ⟨b, off, none⟩) n cap, .int .i64 (B : Int)] w fun e W' => ∃ r, e = .returned (.tuple #[r, .int .i64 (cutOf (scores l) B)]) ∧ OwnNodes w.heap.size W' r (pickAt l ((ord (scores l)).take B)) ∧ Below w.heap.size w W' := by
  have hmk := run_make_row' (P := Tryd.prog) 97 4 (.bool false) 1 Tryd.underlying97 infoBool rfl .i64 .i64 n (by omega) (by omega)
  have HN : Hid (l.length = n) := hn
  have HCELL : Hid (∀ (W : World), Below w.heap.size w W → ∀ (j : Nat) (y : Nd), l[j]? = some y → ∃ p, Holds .i64 w.heap.size W p y.2.2.2 ∧ W.cell? ⟨b, off + j * 4, none⟩ = some (.int .u32 y.1) ∧ W.cell? ⟨b, off + j * 4 + 1, none⟩ = some (.int .i64 y.2.1) ∧ W.cell? ⟨b, off + j * 4 + 2, none⟩ = some (.int .i64 y.2.2.1) ∧ W.cell? ⟨b, off + j * 4 + 3, none⟩ = some p) := by
    intro W hW j y hy
    obtain ⟨b', off', e, _, hc⟩ := nodes_at (ha.below hW) hn hpos
    cases e
    exact hc j y hy
  have hblt : b < w.heap.size := by
    obtain ⟨b', off', e, hb', _⟩ := nodes_at ha hn hpos
    cases e
    exact hb'
  have hrow0 := World.rowIs_made w (.bool false) n 4
  have b00 := (Below.refl w.heap.size w).alloc (Nat.le_refl _) (.cells (madeCells #[.bool false] n) 4)
  obtain ⟨cs, hcs⟩ : ∃ cs, scores l = cs := ⟨_, rfl⟩
  have HCS : Hid (cs.length = n) := by
    show cs.length = n
    rw [← hcs, scores_len, hn]
  have HAT : Hid (∀ (j : Nat) (x : Nd), l[j]? = some x → at0 cs j = sc x) := by
    intro j x hx
    rw [← hcs]
    exact at0_scores hx
  have H0 : Hid (∀ j, j < cs.length → 0 ≤ at0 cs j) := by
    intro j hj
    have hj' : j < l.length := by rw [HCS.out] at hj; omega
    rw [HAT.out j (l[j]) (by simp)]
    exact h0 _ (List.getElem_mem hj')
  have HP : Hid (∀ x ∈ l, x.2.2.2.length ≤ 4294967296) := hp
  rw [hcs]
  clear hn h0 ha hcs hp
  go_enter Tryd.func40, Tryd.ntmps40
  go_wp2
  clear hmk
  obtain ⟨W0, hW0⟩ : ∃ W, w.alloc (.cells (madeCells #[.bool false] n) 4) = W := ⟨_, rfl⟩
  rw [hW0] at hrow0 b00 ⊢
  clear hW0
  go_loopg [7] B (fun gk s7 wr => ∃ (k : Nat) (r : List Rn), k + gk = B ∧ k ≤ n ∧ wr.ownsRow w.heap.size 32 4 s7 k (rnCells r) ∧ RnsOf w.heap.size wr r (pickAt l ((ord cs).take k)) ∧ wr.rowIs w.heap.size 4 n (fun j => .bool (decide (j ∈ (ord cs).take k))) ∧ Below w.heap.size w wr)
  case atStart => exact ⟨0, [], by omega, Nat.zero_le _, World.ownsRow_nil _ _ _ _, by rw [List.take_zero]; exact rnsOf_nil _ _, hrow0.congr (fun j _ => by simp), b00⟩
  case round =>
    obtain ⟨k, r, hkB, hkn, ho, hr, hrow, bw⟩ := hrel
    have hsz := bw.size
    obtain ⟨a7, c7, rfl⟩ := rowN_shape ho
    obtain ⟨tk, htk⟩ : ∃ tk, (ord cs).take k = tk := ⟨_, rfl⟩
    rw [htk] at hr hrow
    have HTK : Hid ((ord cs).take k = tk) := htk
    have HTL : Hid (tk.length = k) := by
      show tk.length = k
      rw [← htk, List.length_take, ord_len, HCS.out]
      omega
    have HPL : Hid ((pickAt l tk).length = k) := by
      show (pickAt l tk).length = k
      unfold pickAt
      rw [List.length_map, HTL.out]
    have HPP : Hid (∀ y ∈ pickAt l tk, y.2.2.2.length ≤ 4294967296) := by
      intro y hy
      unfold pickAt at hy
      obtain ⟨i, hi, e⟩ := List.mem_map.1 hy
      have hil : i < l.length := by
        rw [← htk] at hi
        have := ord_take_lt hi
        rw [HCS.out] at this
        rw [HN.out]; exact this
      rw [← e]
      simp [hil]
      exact HP.out _ (List.getElem_mem hil)
    clear htk b00 hrow0
    generalize hgk : gk = G at *
    generalize hwr : wr = wo at *
    clear hgk hwr gk wr
    by_cases hk1 : k < B
    · have d1 : decide ((k : Int) < (B : Int)) = true := decide_eq_true (by omega)
      by_cases hk2 : k < n
      · have d2 : decide ((k : Int) < (n : Int)) = true := decide_eq_true (by omega)
        obtain ⟨g, rfl⟩ : ∃ g, G = g + 1 := ⟨G - 1, by omega⟩
        go_wp2
        go_loopg [8, 9] n (fun g s8 s9 wx => ∃ (i : Nat) (o : Option Nat) (nd : Nat), i + g = n ∧ s9 = .int .i64 i ∧ s8 = .int .i64 (bestV o) ∧ Sofar cs tk (-1) i o ∧ wx = wo.drewN nd)
        case atStart => exact ⟨0, none, 0, by omega, rfl, rfl, Sofar.start _ _ _, rfl⟩
        case round =>
          obtain ⟨i, o, nd, hig, rfl, rfl, hso, rfl⟩ := hrel
          have HSO : Hid (Sofar cs tk (-1) i o) := hso
          clear hso
          have bx : Below wo.heap.size wo (wo.drewN nd) := below_drewN (Below.refl _ _) nd
          cases gk with
          | zero =>
            obtain rfl : n = i := by omega
            have hiz : ¬ ((n : Int) < (n : Int)) := by omega
            obtain ⟨q, rfl⟩ : ∃ q, o = some q := by
              cases o with
              | some q => exact ⟨q, rfl⟩
              | none =>
                have := none_next (cs := cs) (n := k) (by rw [HTK.out, HCS.out]; exact HSO.out.2)
                have := List.getElem?_eq_none_iff.1 this
                rw [ord_len, HCS.out] at this
                omega
            rw [show bestV (some q) = (q : Int) from rfl]
            have HB : Hid (Best cs tk q) := Sofar.done (by rw [HCS.out]; exact HSO.out)
            have HQ : Hid ((ord cs)[k]? = some q) := best_next (by rw [HTK.out]; exact HB.out)
            have hqn : q < n := by have := HB.out.1; rw [HCS.out] at this; exact this
            obtain ⟨⟨sq, mq, cq, psq⟩, hxq⟩ : ∃ x, l[q]? = some x := ⟨l[q]'(by rw [HN.out]; exact hqn), by simp⟩
            have HXQ : Hid (l[q]? = some (sq, mq, cq, psq)) := hxq
            have rowW : (wo.drewN nd).rowIs w.heap.size 4 n (fun j => .bool (decide (j ∈ tk))) := hrow
            have hoW : (wo.drewN nd).ownsRow w.heap.size 32 4 (.slice a7 k c7) k (rnCells r) := ho
            have t0 := rowW.cell hqn
            have t1 := rowW.frozen q
            rw [decide_eq_false HB.out.2.1] at t0
            have bW1 : Below w.heap.size w ((wo.drewN nd).setCell ⟨w.heap.size, q, none⟩ (.bool true)) := (bw.trans (bx.mono hsz)).setCell (p := ⟨w.heap.size, q, none⟩) (Nat.le_refl _) _
            have bW2 : Below w.heap.size wo ((wo.drewN nd).setCell ⟨w.heap.size, q, none⟩ (.bool true)) := (bx.mono hsz).setCell (p := ⟨w.heap.size, q, none⟩) (Nat.le_refl _) _
            have hoW1 := own_setCell hoW (p := ⟨w.heap.size, q, none⟩) (row_unlike_is hoW rowW (by decide)) (.bool true)
            have rowW1 := taken_more (z := q) rowW
            obtain ⟨pq, hpq, q0, q1, q2, q3⟩ := HCELL.out _ bW1 q _ hxq
            obtain ⟨qa, qc, rfl⟩ := hpq.shape
            obtain ⟨v5, w5, hr5, ho5, hg5⟩ := run_append_node (.slice a7 k c7) k w.heap.size r sq mq cq (.slice qa psq.length qc) ⟨_, _, _, rfl⟩ 38 _ hoW1 bW1.size (by omega)
            have b5 : Below w.heap.size w w5 := (bW1.alloc bW1.size _).grown hg5 (by have := bW1.size; simp only [World.size_alloc]; omega) (fun z e => (hoW1.lt z e).1)
            have b51 : Below w.heap.size ((wo.drewN nd).setCell ⟨w.heap.size, q, none⟩ (.bool true)) w5 := ((Below.refl _ _).alloc bW1.size _).grown hg5 (by have := bW1.size; simp only [World.size_alloc]; omega) (fun z e => (hoW1.lt z e).1)
            have row5 : w5.rowIs w.heap.size 4 n (fun j => .bool (decide (j ∈ tk ++ [q]))) := (rowW1.alloc (.cells #[.int .u32 sq, .int .i64 mq, .int .i64 cq, .slice qa psq.length qc] 32)).of_block (hg5.block _ (rowW1.alloc _).lt (fun e => row_unlike_is hoW1 rowW1 (by decide) _ e.symm rfl))
            have hr6 : RnsOf w.heap.size w5 (r ++ [(sq, mq, cq, .slice qa psq.length qc)]) (pickAt l (tk ++ [q])) := by
              have e1 : pickAt l (tk ++ [q]) = pickAt l tk ++ [(sq, mq, cq, psq)] := by
                unfold pickAt
                rw [List.map_append]
                simp [HXQ.out]
              rw [e1]
              exact (hr.below (bW2.trans b51)).snoc ⟨rfl, rfl, rfl, hpq.below b51⟩
            rw [show ((wo.drewN nd).setCell ⟨w.heap.size, q, none⟩ (.bool true)).heap.size = wo.heap.size by simp [World.setCell]] at hr5
            have HR5 : Hid _ := hr5
            clear hr5 hoW hoW1 rowW rowW1 hg5 bW1 bW2 b51 hr ho hpq hxq
            go_wp2_with (at_builtin; refine wpList_append_known rfl _ _ 38 rfl _ _ rfl rfl _ _ HR5.out ?_)
            go_roundg g
            case measure => omega
            case rel =>
              have e1 : (ord cs).take (k + 1) = tk ++ [q] := by rw [take_next HQ.out, HTK.out]
              exact ⟨k + 1, _, by omega, by omega, ho5, by rw [e1]; exact hr6, by rw [e1]; exact row5, b5⟩
          | succ g2 =>
            have hilt : (i : Int) < (n : Int) := by omega
            have hin : i < n := by omega
            obtain ⟨⟨s, m, c, ps⟩, hxi⟩ : ∃ x, l[i]? = some x := ⟨l[i]'(by rw [HN.out]; exact hin), by simp⟩
            have HSC : Hid (at0 cs i = c) := HAT.out _ _ hxi
            have c2 : ∀ e, (wo.drewN e).cell? ⟨b, off + i * 4 + 2, none⟩ = some (.int .i64 c) := fun e => by
              obtain ⟨p, _, _, _, c2, _⟩ := HCELL.out wo bw i _ hxi
              exact c2
            have HCF : Hid (at0 cs i ≠ -1) := by
              show at0 cs i ≠ -1
              have := H0.out i (by rw [HCS.out]; exact hin)
              omega
            clear hxi
            have t9 : ∀ e, (wo.drewN e).cell? ⟨w.heap.size, i, none⟩ = some (.bool (decide (i ∈ tk))) := fun e => hrow.cell hin
            by_cases hi : i ∈ tk
            · rw [decide_eq_true hi] at t9
              have HI : Hid (i ∈ tk) := hi
              clear hi
              go_wp2
              go_quiet (fail)
              go_wp2
              go_roundg g2
              case measure => omega
              case rel => exact ⟨i + 1, o, nd + nq, by omega, by go_num, rfl, HSO.out.skip HI.out, by simp⟩
            · rw [decide_eq_false hi] at t9
              have HI : Hid (i ∉ tk) := hi
              clear hi
              cases o with
              | none =>
                rw [show bestV none = -1 from rfl]
                go_wp2
                go_quiet (fail)
                go_wp2
                go_roundg g2
                case measure => omega
                case rel => exact ⟨i + 1, some i, nd + nq, by omega, by go_num, rfl, HSO.out.take HI.out HCF.out (fun q e => by cases e), by simp⟩
              | some q =>
                rw [show bestV (some q) = (q : Int) from rfl]
                have hqi : q < i := HSO.out.2.1
                have hqn : q < n := by omega
                have hq1 : decide ((q : Int) < 0) = false := decide_eq_false (by omega)
                obtain ⟨⟨sq, mq, cq, psq⟩, hxq⟩ : ∃ x, l[q]? = some x := ⟨l[q]'(by rw [HN.out]; exact hqn), by simp⟩
                have HSQ : Hid (at0 cs q = cq) := HAT.out _ _ hxq
                have q2 : ∀ e, (wo.drewN e).cell? ⟨b, off + q * 4 + 2, none⟩ = some (.int .i64 cq) := fun e => by
                  obtain ⟨p, _, _, _, c2, _⟩ := HCELL.out wo bw q _ hxq
                  exact c2
                clear hxq
                by_cases hlt : c < cq
                · have hd : decide (c < cq) = true := decide_eq_true hlt
                  have HLT : Hid (at0 cs i < at0 cs q) := by
                    show at0 cs i < at0 cs q
                    rw [HSC.out, HSQ.out]; exact hlt
                  clear hlt
                  go_wp2
                  go_quiet (fail)
                  go_wp2
                  go_roundg g2
                  case measure => omega
                  case rel => exact ⟨i + 1, some i, nd + nq, by omega, by go_num, rfl, HSO.out.take HI.out HCF.out (fun q' e => by cases e; exact HLT.out), by simp⟩
                · have hd : decide (c < cq) = false := decide_eq_false hlt
                  have HLT : Hid (at0 cs q ≤ at0 cs i) := by
                    show at0 cs q ≤ at0 cs i
                    rw [HSC.out, HSQ.out]; omega
                  clear hlt
                  go_wp2
                  go_quiet (fail)
                  go_wp2
                  go_roundg g2
                  case measure => omega
                  case rel => exact ⟨i + 1, some q, nd + nq, by omega, by go_num, rfl, HSO.out.keep HCF.out (Int.not_lt.2 HLT.out), by simp⟩
      · have d2 : decide ((k : Int) < (n : Int)) = false := decide_eq_false (by omega)
        have HTB : Hid (tk = (ord cs).take B) := by
          show tk = (ord cs).take B
          rw [← HTK.out]
          rcases Nat.lt_or_ge k B with h | h
          · rw [List.take_of_length_le (by rw [ord_len, HCS.out]; omega), List.take_of_length_le (by rw [ord_len, HCS.out]; omega)]
          · rw [show k = B by omega]
        go_wp2
        go_loop [10, 11] (fun s10 s11 => ∃ (i : Nat) (c : Int), i ≤ n ∧ s11 = .int .i64 i ∧ s10 = .int .i64 c ∧ Least (fun z => ∃ j, j < i ∧ j ∉ tk ∧ at0 cs j = z) c) (fun _ i => n - (intOf i).toNat)
        case atStart => exact ⟨0, -1, Nat.zero_le _, rfl, rfl, .inl ⟨rfl, fun z ⟨j, hj, _⟩ => by omega⟩⟩
        case round =>
          obtain ⟨i, cu, hi, rfl, rfl, hle⟩ := hrel
          have HLE : Hid (Least (fun z => ∃ j, j < i ∧ j ∉ tk ∧ at0 cs j = z) cu) := hle
          clear hle
          by_cases hlt : i < n
          · obtain ⟨⟨s, m, c, ps⟩, hxi⟩ : ∃ x, l[i]? = some x := ⟨l[i]'(by rw [HN.out]; exact hlt), by simp⟩
            have HSC : Hid (at0 cs i = c) := HAT.out _ _ hxi
            obtain ⟨p, _, c0, c1, c2, c3⟩ := HCELL.out wo bw i _ hxi
            have hc0 : 0 ≤ c := by rw [← HSC.out]; exact H0.out i (by rw [HCS.out]; exact hlt)
            have t9 := hrow.cell hlt
            have HZ : Hid (∀ z, (∃ j, j < i ∧ j ∉ tk ∧ at0 cs j = z) → 0 ≤ z) := fun z ⟨j, hj, _, e⟩ => by rw [← e]; exact H0.out j (by rw [HCS.out]; omega)
            clear hxi c0 c1 c3
            by_cases hit : i ∈ tk
            · rw [decide_eq_true hit] at t9
              have HIT : Hid (i ∈ tk) := hit
              clear hit
              go_wp2
              go_round
              case rel => exact ⟨i + 1, cu, by omega, by go_num, rfl, HLE.out.congr fun z => (leq_skip HIT.out)⟩
              case measure => simp [intOf]; omega
            · rw [decide_eq_false hit] at t9
              have HIT : Hid (i ∉ tk) := hit
              clear hit
              by_cases hneg : cu < 0
              · have d1 : decide (cu < 0) = true := decide_eq_true hneg
                go_wp2
                go_round
                case rel => exact ⟨i + 1, c, by omega, by go_num, rfl, (HLE.out.more HZ.out (.inl hneg)).congr fun z => leq_more HIT.out HSC.out⟩
                case measure => simp [intOf]; omega
              · have d1 : decide (cu < 0) = false := decide_eq_false hneg
                by_cases hcc : c < cu
                · have d2 : decide (c < cu) = true := decide_eq_true hcc
                  go_wp2
                  go_round
                  case rel => exact ⟨i + 1, c, by omega, by go_num, rfl, (HLE.out.more HZ.out (.inr hcc)).congr fun z => leq_more HIT.out HSC.out⟩
                  case measure => simp [intOf]; omega
                · have d2 : decide (c < cu) = false := decide_eq_false hcc
                  go_wp2
                  go_round
                  case rel => exact ⟨i + 1, cu, by omega, by go_num, rfl, (HLE.out.same (by omega) (by omega)).congr fun z => leq_more HIT.out HSC.out⟩
                  case measure => simp [intOf]; omega
          · obtain rfl : n = i := by omega
            have HCU : Hid (cutOf cs B = cu) := by
              show cutOf cs B = cu
              refine Least.uniq (cutOf_least cs B) ?_
              rw [← HTB.out, HCS.out]
              exact HLE.out
            have HT := twinNodes_any (.slice a7 k c7) (pickAt l tk) (by rw [HPL.out]; omega) (fun y hy => HPP.out y hy) wo ⟨r, raw_of_row ho, hr.mono bw.size⟩
            clear hr ho
            go_wp2_with fail
            refine HT.mono ?_
            rintro e w5 ⟨r5, rfl, o5, b5⟩
            go_wp2
            go_ret2
            refine ⟨r5, by rw [HCU.out]; rfl, ?_, bw.trans (b5.mono bw.size)⟩
            rw [← HTB.out]
            obtain ⟨q, hq1, hq2⟩ := o5
            exact ⟨q, rowN_base hq1 bw.size, hq2.1, fun j x y hx hy => by obtain ⟨e1, e2, e3, e4⟩ := hq2.2.1 j x y hx hy; exact ⟨e1, e2, e3, rowN_base e4 bw.size⟩, hq2.2.2⟩
    · have d1 : decide ((k : Int) < (B : Int)) = false := decide_eq_false (by omega)
      have HTB : Hid (tk = (ord cs).take B) := by
        show tk = (ord cs).take B
        rw [← HTK.out]
        rcases Nat.lt_or_ge k B with h | h
        · rw [List.take_of_length_le (by rw [ord_len, HCS.out]; omega), List.take_of_length_le (by rw [ord_len, HCS.out]; omega)]
        · rw [show k = B by omega]
      go_wp2
      go_loop [10, 11] (fun s10 s11 => ∃ (i : Nat) (c : Int), i ≤ n ∧ s11 = .int .i64 i ∧ s10 = .int .i64 c ∧ Least (fun z => ∃ j, j < i ∧ j ∉ tk ∧ at0 cs j = z) c) (fun _ i => n - (intOf i).toNat)
      case atStart => exact ⟨0, -1, Nat.zero_le _, rfl, rfl, .inl ⟨rfl, fun z ⟨j, hj, _⟩ => by omega⟩⟩
      case round =>
        obtain ⟨i, cu, hi, rfl, rfl, hle⟩ := hrel
        have HLE : Hid (Least (fun z => ∃ j, j < i ∧ j ∉ tk ∧ at0 cs j = z) cu) := hle
        clear hle
        by_cases hlt : i < n
        · obtain ⟨⟨s, m, c, ps⟩, hxi⟩ : ∃ x, l[i]? = some x := ⟨l[i]'(by rw [HN.out]; exact hlt), by simp⟩
          have HSC : Hid (at0 cs i = c) := HAT.out _ _ hxi
          obtain ⟨p, _, c0, c1, c2, c3⟩ := HCELL.out wo bw i _ hxi
          have hc0 : 0 ≤ c := by rw [← HSC.out]; exact H0.out i (by rw [HCS.out]; exact hlt)
          have t9 := hrow.cell hlt
          have HZ : Hid (∀ z, (∃ j, j < i ∧ j ∉ tk ∧ at0 cs j = z) → 0 ≤ z) := fun z ⟨j, hj, _, e⟩ => by rw [← e]; exact H0.out j (by rw [HCS.out]; omega)
          clear hxi c0 c1 c3
          by_cases hit : i ∈ tk
          · rw [decide_eq_true hit] at t9
            have HIT : Hid (i ∈ tk) := hit
            clear hit
            go_wp2
            go_round
            case rel => exact ⟨i + 1, cu, by omega, by go_num, rfl, HLE.out.congr fun z => (leq_skip HIT.out)⟩
            case measure => simp [intOf]; omega
          · rw [decide_eq_false hit] at t9
            have HIT : Hid (i ∉ tk) := hit
            clear hit
            by_cases hneg : cu < 0
            · have d1 : decide (cu < 0) = true := decide_eq_true hneg
              go_wp2
              go_round
              case rel => exact ⟨i + 1, c, by omega, by go_num, rfl, (HLE.out.more HZ.out (.inl hneg)).congr fun z => leq_more HIT.out HSC.out⟩
              case measure => simp [intOf]; omega
            · have d1 : decide (cu < 0) = false := decide_eq_false hneg
              by_cases hcc : c < cu
              · have d2 : decide (c < cu) = true := decide_eq_true hcc
                go_wp2
                go_round
                case rel => exact ⟨i + 1, c, by omega, by go_num, rfl, (HLE.out.more HZ.out (.inr hcc)).congr fun z => leq_more HIT.out HSC.out⟩
                case measure => simp [intOf]; omega
              · have d2 : decide (c < cu) = false := decide_eq_false hcc
                go_wp2
                go_round
                case rel => exact ⟨i + 1, cu, by omega, by go_num, rfl, (HLE.out.same (by omega) (by omega)).congr fun z => leq_more HIT.out HSC.out⟩
                case measure => simp [intOf]; omega
        · obtain rfl : n = i := by omega
          have HCU : Hid (cutOf cs B = cu) := by
            show cutOf cs B = cu
            refine Least.uniq (cutOf_least cs B) ?_
            rw [← HTB.out, HCS.out]
            exact HLE.out
          have HT := twinNodes_any (.slice a7 k c7) (pickAt l tk) (by rw [HPL.out]; omega) (fun y hy => HPP.out y hy) wo ⟨r, raw_of_row ho, hr.mono bw.size⟩
          clear hr ho
          go_wp2_with fail
          refine HT.mono ?_
          rintro e w5 ⟨r5, rfl, o5, b5⟩
          go_wp2
          go_ret2
          refine ⟨r5, by rw [HCU.out]; rfl, ?_, bw.trans (b5.mono bw.size)⟩
          rw [← HTB.out]
          obtain ⟨q, hq1, hq2⟩ := o5
          exact ⟨q, rowN_base hq1 bw.size, hq2.1, fun j x y hx hy => by obtain ⟨e1, e2, e3, e4⟩ := hq2.2.1 j x y hx hy; exact ⟨e1, e2, e3, rowN_base e4 bw.size⟩, hq2.2.2⟩

set_option maxRecDepth 100000 in
set_option maxHeartbeats 4000000 in
theorem refPick_none (a : Option Addr) (cap B : Nat) (hB : 1 ≤ B) (w : World) :
    Calls Tryd.prog 40 #[.slice a 0 cap, .int .i64 (B : Int)] w fun e W' => ∃ r, e = .returned (.tuple #[r, .int .i64 (-1)]) ∧ OwnNodes w.heap.size W' r [] ∧ Below w.heap.size w W' := by
  have hmk := run_make_row' (P := Tryd.prog) 97 4 (.bool false) 1 Tryd.underlying97 infoBool rfl .i64 .i64 0 (by omega) (by omega)
  rw [show ((0 : Nat) : Int) = 0 from rfl] at hmk
  have b00 := (Below.refl w.heap.size w).alloc (Nat.le_refl _) (.cells (madeCells #[.bool false] 0) 4)
  have d1 : decide ((0 : Int) < (B : Int)) = true := decide_eq_true (by omega)
  go_enter Tryd.func40, Tryd.ntmps40
  go_wp2
  clear hmk
  obtain ⟨W0, hW0⟩ : ∃ W, w.alloc (.cells (madeCells #[.bool false] 0) 4) = W := ⟨_, rfl⟩
  rw [hW0] at b00 ⊢
  clear hW0
  go_loopg [7] 1 (fun gk s7 wr => s7 = .slice none 0 0 ∧ W0 = wr)
  case atStart => exact ⟨rfl, rfl⟩
  case round =>
    obtain ⟨rfl, rfl⟩ := hrel
    go_wp2
    go_loop [10, 11] (fun s10 s11 => s10 = .int .i64 (-1) ∧ s11 = .int .i64 0) (fun _ _ => 0)
    case atStart => exact ⟨rfl, rfl⟩
    case round =>
      obtain ⟨rfl, rfl⟩ := hrel
      go_wp2_with fail
      refine (twinNodes_any (.slice none 0 0) [] (by simp) (fun y hy => by simp at hy) _ (nodes_nil _ _)).mono ?_
      rintro e w5 ⟨r5, rfl, o5, b5⟩
      go_wp2
      go_ret2
      refine ⟨r5, rfl, ?_, b00.trans (b5.mono b00.size)⟩
      obtain ⟨q, hq1, hq2⟩ := o5
      exact ⟨q, rowN_base hq1 b00.size, hq2.1, fun j x y hx hy => by simp at hy, hq2.2.2⟩

/-- The page's Pick. -/
theorem refPick_ok (v : Value) (l : List Nd) (hl : l.length ≤ 1048576) (h0 : ∀ x ∈ l, 0 ≤ sc x) (hp : ∀ x ∈ l, x.2.2.2.length ≤ 4294967296) (B : Nat) (hB : 1 ≤ B) (hB2 : B ≤ 1048576) (w : World) (ha : Nodes w.heap.size w v l) :
    Calls Tryd.prog 40 #[v, .int .i64 (B : Int)] w fun e W' => ∃ r, e = .returned (.tuple #[r, .int .i64 (cutK sc B l)]) ∧ OwnNodes w.heap.size W' r (keptN B l) ∧ Below w.heap.size w W' := by
  obtain ⟨a, cap, rfl⟩ := ha.shape
  rw [← cut_ord, kept_ord]
  rcases Nat.eq_zero_or_pos l.length with hz | hz
  · obtain rfl : l = [] := List.length_eq_zero_iff.1 hz
    refine (refPick_none a cap B hB w).mono ?_
    rintro e W' ⟨r, rfl, o, b⟩
    refine ⟨r, rfl, ?_, b⟩
    rw [show pickAt [] ((ord (scores [])).take B) = [] by
      have : ord (scores []) = [] := rfl
      rw [this]
      simp [pickAt]]
    exact o
  · obtain ⟨b, off, rfl, _, _⟩ := nodes_at ha rfl hz
    exact refPick_some b off cap l.length l rfl hz hl h0 hp B hB hB2 w ha

end Go.Proofs.YtddcloanbpkecaaDoor
