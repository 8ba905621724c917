/-
  The walk of PickLeast. (Written by tpl_pickleast.py.)
-/
import Derived.Test.YtmjbphbjaedlpaaPickWakes
import Derived.Test.YtmjbphbjaedlpaaRefPick
import Derived.Test.YtmjbphbjaedlpaaPickLeastNums
import Derived.Test.YtmjbphbjaedlpaaPlaces
import Derived.Lib.MinMax
namespace Go.Proofs.Ytmjbphbjaedlpaa
open Go.RowKit

set_option maxRecDepth 100000 in
set_option maxHeartbeats 1000000 in
theorem PickLeast_long (a : Option Addr) (n cap : Nat) (b : Int) (w : World) (hn : 256 < n) (hm : n ≤ 9223372036854775807) :
    Calls Try.prog 4 #[.slice a n cap, .int .i64 b] w fun e W' => e = .returned (.bool true) ∧ Below w.heap.size w W' := by
  go_enter Try.func4, Try.ntmps4
  go_wp2
  go_ret
  exact ⟨rfl, Below.refl _ _⟩

set_option maxRecDepth 100000 in
set_option maxHeartbeats 8000000 in
theorem PickLeast_short (a : Option Addr) (n cap : Nat) (zs : List Int) (b : Int) (w : World) (HN : Hid (zs.length = n)) (hn : n ≤ 256) (HZ : Hid (Holds .i64 w.heap.size w (.slice a n cap) zs)) :
    Calls Try.prog 4 #[.slice a n cap, .int .i64 b] w fun e W' => e = .returned (.bool true) ∧ Below w.heap.size w W' := by
  obtain ⟨b', hb', eb⟩ := at_place b 16 (by decide)
  have ewb : IntKind.i64.wrap (b' : Int) = (b' : Int) := by rw [IntKind.wrap_i64]; omega
  obtain ⟨B, hB⟩ : ∃ B, b' + 1 = B := ⟨_, rfl⟩
  have e1b : 1 + (b' : Int) = (B : Int) := by omega
  have hB1 : 1 ≤ B := by omega
  have hB2 : B ≤ 16 := by omega
  clear hB hb'
  obtain ⟨cs, hcs⟩ : ∃ cs, sL 50 zs = cs := ⟨_, rfl⟩
  have HCS : Hid (cs.length = n) := by
    show cs.length = n
    rw [← hcs, sL_len, HN.out]
  have HAT : Hid (∀ (j : Nat) (z : Int), zs[j]? = some z → at0 cs j = sN 50 z) := by
    intro j z hz
    rw [← hcs]
    exact sL_at hz
  have HBD : Hid (∀ i, i < cs.length → 0 ≤ at0 cs i ∧ at0 cs i < 50) := by
    rw [← hcs]
    exact sL_bd (by decide)
  clear hcs
  go_enter Try.func4, Try.ntmps4
  go_wp2
  clear eb ewb e1b
  go_loopw [5, 6] (fun s5 s6 wr => ∃ k : Nat, k ≤ n ∧ s6 = .int .i64 k ∧ wr.ownsRow w.heap.size 32 4 s5 k (rnCells (rawL 0 cs k)) ∧ Below w.heap.size w wr) (fun _ i _ => n - (intOf i).toNat)
  case atStart => exact ⟨0, Nat.zero_le _, rfl, World.ownsRow_nil _ _ _ _, Below.refl _ _⟩
  case round =>
    obtain ⟨k, hk, rfl, ho, bw⟩ := hrel
    have hsz := bw.size
    by_cases hlt : k < n
    · obtain ⟨z, hz⟩ : ∃ z, zs[k]? = some z := ⟨zs[k]'(by rw [HN.out]; exact hlt), by simp⟩
      obtain ⟨bz, oz, rfl, _, hcz⟩ := holds_at (HZ.out.below bw) HN.out (by omega)
      have cz := hcz k z hz
      have HSN : Hid (at0 cs k = sN 50 z) := HAT.out k z hz
      have ez : (IntKind.u64.wrap z).tmod 50 = sN 50 z := rfl
      obtain ⟨hs0, hs1⟩ := sN_bd 50 z (by decide)
      obtain ⟨v, hv⟩ : ∃ v, sN 50 z = v := ⟨_, rfl⟩
      rw [hv] at ez hs0 hs1 HSN
      have ewv : IntKind.i64.wrap v = v := by rw [IntKind.wrap_i64]; omega
      have ewk : IntKind.u32.wrap (k : Int) = (k : Int) := by rw [IntKind.wrap_u32]; omega
      clear hv hcz hz
      obtain ⟨v4, w4, hr4, ho4, hg4⟩ := run_append_node _ k w.heap.size _ (k : Int) 0 v (.slice none 0 0) ⟨_, _, _, rfl⟩ 22 _ ho hsz (by omega)
      have b4 : Below w.heap.size w w4 := (bw.alloc hsz _).grown hg4 (by simp only [World.size_alloc]; omega) (fun q e => (ho.lt q e).1)
      have ho5 : w4.ownsRow w.heap.size 32 4 v4 (k + 1) (rnCells (rawL 0 cs (k + 1))) := by
        rw [rawL_snoc]
        unfold rawAt
        rw [HSN.out, Nat.zero_add]
        exact ho4
      have HR : Hid _ := hr4
      clear hr4 ho4 hg4 ho
      go_wp2_with (at_builtin; refine wpList_append_known rfl _ _ 22 rfl _ _ rfl rfl _ _ HR.out ?_)
      exact ⟨⟨k + 1, by omega, by go_num, ho5, b4⟩, by simp [intOf]; omega⟩
    · obtain rfl : n = k := by omega
      obtain ⟨a5, c5, rfl⟩ := rowN_shape ho
      have hL : Nodes wr.heap.size wr (.slice a5 n c5) (mkL 0 cs) := ⟨_, raw_of_row ho, by have := rawL_rns 0 cs wr.heap.size wr; rwa [HCS.out] at this⟩
      have HP1 := Pick_ok (.slice a5 n c5) (mkL 0 cs) (by rw [mkL_len, HCS.out]; exact hn) (fun x hx => by rw [mkL_path x hx]; simp) B hB1 hB2 (mkL_sc fun i hi => (HBD.out i hi).1) wr hL
      have HKA : Hid (keptN B (mkL 0 cs) = keptN B (keptN B (mkL 0 cs)) ∧ cutK sc B (keptN B (mkL 0 cs)) = -1 ∧ ∀ x ∈ keptN B (mkL 0 cs), 0 ≤ sc x ∧ x.2.2.2 = []) := ⟨(kept_again B _).symm, cut_again B _, fun x hx => ⟨mkL_sc (fun i hi => (HBD.out i hi).1) x ((sortK_perm sc _).mem_iff.1 (List.mem_of_mem_take hx)), mkL_path x ((sortK_perm sc _).mem_iff.1 (List.mem_of_mem_take hx))⟩⟩
      rw [cut_mkL] at HP1
      rw [kept_mkL] at HP1 HKA
      obtain ⟨T, hT⟩ : ∃ T, (ord cs).take B = T := ⟨_, rfl⟩
      have HT : Hid ((ord cs).take B = T) := hT
      rw [hT] at HP1 HKA
      obtain ⟨m, hm⟩ : ∃ m, min B n = m := ⟨_, rfl⟩
      have HTL : Hid (T.length = m) := by
        show T.length = m
        rw [← hT, List.length_take, ord_len, HCS.out, hm]
      have emin : min (B : Int) (n : Int) = (m : Int) := by omega
      have hmB : m ≤ B := by omega
      have hmpos : 0 < n → 0 < m := by omega
      obtain ⟨K, hK⟩ : ∃ K, T.map (ndAt 0 cs) = K := ⟨_, rfl⟩
      rw [hK] at HP1 HKA
      have HKG : Hid (∀ (i s : Nat), T[i]? = some s → K[i]? = some ((s : Int), 0, at0 cs s, [])) := by
        intro i s hs
        rw [← hK, List.getElem?_map, hs]
        simp [ndAt]
      have HKL : Hid (K.length = m) := by
        show K.length = m
        rw [← hK, List.length_map, HTL.out]
      obtain ⟨C, hC⟩ : ∃ C, cutOf cs B = C := ⟨_, rfl⟩
      have HC : Hid (cutOf cs B = C) := hC
      rw [hC] at HP1
      have hmk := run_make_row' (P := Try.prog) 39 4 (.bool false) 1 Try.underlying39 infoBool rfl .i64 .i64 n (by omega) (by omega)
      have hmm : ((m : Int) != (m : Int)) = false := by simp
      clear hT hm hK hC ho
      go_wp2_with fail
      refine HP1.mono ?_
      rintro e w2 ⟨kr, rfl, oK, b2⟩
      obtain ⟨ka, kc, e2⟩ := oK.nodes.shape
      rw [HKL.out] at e2
      subst e2
      have HKN : Hid (Nodes w2.heap.size w2 (.slice ka m kc) K) := oK.nodes
      have HL2 : Hid (Nodes w2.heap.size w2 (.slice a5 n c5) (mkL 0 cs)) := hL.next b2
      have bb := bw.trans (b2.mono hsz)
      have hrow0 := World.rowIs_made w2 (.bool false) n 4
      have b00 := (Below.refl w2.heap.size w2).alloc (Nat.le_refl _) (.cells (madeCells #[.bool false] n) 4)
      clear HP1 oK hL b2 bw
      go_wp2
      clear hmk
      obtain ⟨W3, hW3⟩ : ∃ W, w2.alloc (.cells (madeCells #[.bool false] n) 4) = W := ⟨_, rfl⟩
      rw [hW3] at hrow0 b00 ⊢
      clear hW3
      go_loopw [11] (fun s11 wx => ∃ i : Nat, i ≤ m ∧ s11 = .int .i64 i ∧ wx.rowIs w2.heap.size 4 n (fun j => .bool (decide (j ∈ T.take i))) ∧ Below w2.heap.size w2 wx) (fun i _ => m - (intOf i).toNat)
      case atStart => exact ⟨0, Nat.zero_le _, rfl, hrow0.congr (fun j _ => by simp), b00⟩
      case round =>
        generalize hwo : wr = wo at *
        obtain ⟨i, hi, rfl, hrow, bx⟩ := hrel
        clear hrow0 b00
        by_cases hlt2 : i < m
        · obtain ⟨s, hs⟩ : ∃ s, T[i]? = some s := ⟨T[i]'(by rw [HTL.out]; exact hlt2), by simp⟩
          have hsn : s < n := by
            have := ord_take_lt (cs := cs) (n := B) (i := s) (by rw [HT.out]; exact List.mem_of_getElem? hs)
            rwa [HCS.out] at this
          obtain ⟨c, hc⟩ : ∃ c, at0 cs s = c := ⟨_, rfl⟩
          obtain ⟨kb, ko, rfl, _, hkc⟩ := nodes_at (HKN.out.below bx) HKL.out (by omega)
          obtain ⟨_, _, k0, _, k2, _⟩ := hkc i _ (HKG.out i s hs)
          obtain ⟨lb, lo, rfl, _, hlc⟩ := nodes_at (HL2.out.below bx) (by rw [mkL_len]; exact HCS.out) (by omega)
          obtain ⟨_, _, _, _, l2, _⟩ := hlc s _ (mkL_get (by rw [HCS.out]; exact hsn))
          have l2' : wo.cell? ⟨lb, lo + s * 4 + 2, none⟩ = some (.int .i64 c) := by rw [← hc]; exact l2
          have k2' : wo.cell? ⟨kb, ko + i * 4 + 2, none⟩ = some (.int .i64 c) := by rw [← hc]; exact k2
          have k0' : wo.cell? ⟨kb, ko + i * 4, none⟩ = some (.int .u32 (s : Int)) := k0
          have t9 := hrow.cell hsn
          have HNEW : Hid (s ∉ T.take i) := by
            show s ∉ T.take i
            rw [← HT.out] at hs ⊢
            exact take_new hs
          rw [decide_eq_false HNEW.out] at t9
          have t8 := hrow.frozen s
          have ds0 : decide ((s : Int) < 0) = false := decide_eq_false (by omega)
          have dsn : decide ((n : Int) ≤ (s : Int)) = false := decide_eq_false (by omega)
          have dsnN : decide (n ≤ s) = false := decide_eq_false (by omega)
          have ews : IntKind.i64.wrap (s : Int) = (s : Int) := by rw [IntKind.wrap_i64]; omega
          have hcc : (c != c) = false := by simp
          have HROW : Hid (∀ e : Nat, ((wo.drewN e).setCell ⟨w2.heap.size, s, none⟩ (.bool true)).rowIs w2.heap.size 4 n (fun j => .bool (decide (j ∈ T.take (i + 1))))) := by
            intro e
            have := taken_more (z := s) (w := wo.drewN e) hrow
            rw [show T.take i ++ [s] = T.take (i + 1) by rw [List.take_add_one, hs]; rfl] at this
            exact this
          by_cases h0 : i = 0
          · have di : decide (0 < (i : Int)) = false := decide_eq_false (by omega)
            have diN : decide (0 < i) = false := decide_eq_false (by omega)
            clear hkc hlc k0 k2 l2 hs hc hrow h0
            as_aux_lemma =>
              go_wp2
              go_quiet (fail)
              go_wp2
              go_roundw
              case rel => exact ⟨i + 1, by omega, by go_num, HROW.out nq, (below_drewN bx nq).setCell (p := ⟨w2.heap.size, s, none⟩) (Nat.le_refl _) _⟩
              case measure => simp [intOf]; omega
          · have di : decide (0 < (i : Int)) = true := decide_eq_true (by omega)
            have diN : decide (0 < i) = true := decide_eq_true (by omega)
            obtain ⟨j, hj⟩ : ∃ j, i = j + 1 := ⟨i - 1, by omega⟩
            have hij : (i : Int) - 1 = (j : Int) := by omega
            have hji : j < i := by omega
            obtain ⟨p, hp⟩ : ∃ p, T[j]? = some p := ⟨T[j]'(by rw [HTL.out]; omega), by simp⟩
            obtain ⟨cp, hcp⟩ : ∃ cp, at0 cs p = cp := ⟨_, rfl⟩
            obtain ⟨_, _, q0, _, q2, _⟩ := hkc j _ (HKG.out j p hp)
            have q2' : wo.cell? ⟨kb, ko + j * 4 + 2, none⟩ = some (.int .i64 cp) := by rw [← hcp]; exact q2
            have q0' : wo.cell? ⟨kb, ko + j * 4, none⟩ = some (.int .u32 (p : Int)) := q0
            have hlex : cp < c ∨ (cp = c ∧ p < s) := by
              have := take_lex (cs := cs) (B := B) (i := j) (j := i) (x := p) (y := s) (by rw [HT.out]; exact hp) (by rw [HT.out]; exact hs) hji
              rwa [hc, hcp] at this
            clear hkc hlc k0 k2 l2 hs hc hrow h0 hcp hp q0 q2 hj
            rcases hlex with hlex | ⟨hlex, hps⟩
            · have dc : decide (c < cp) = false := decide_eq_false (by omega)
              have de : (c == cp) = false := by rw [beq_eq_false_iff_ne]; omega
              clear hlex
              as_aux_lemma =>
                go_wp2
                go_quiet (fail)
                go_wp2
                go_roundw
                case rel => exact ⟨i + 1, by omega, by go_num, HROW.out nq, (below_drewN bx nq).setCell (p := ⟨w2.heap.size, s, none⟩) (Nat.le_refl _) _⟩
                case measure => simp [intOf]; omega
            · subst hlex
              have dc : decide (cp < cp) = false := decide_eq_false (by omega)
              have de : (cp == cp) = true := by simp
              have dp : decide ((s : Int) < (p : Int)) = false := decide_eq_false (by omega)
              have dpN : decide (s < p) = false := decide_eq_false (by omega)
              as_aux_lemma =>
                go_wp2
                go_quiet (fail)
                go_wp2
                go_roundw
                case rel => exact ⟨i + 1, by omega, by go_num, HROW.out nq, (below_drewN bx nq).setCell (p := ⟨w2.heap.size, s, none⟩) (Nat.le_refl _) _⟩
                case measure => simp [intOf]; omega
        · obtain rfl : m = i := by omega
          have hrw : wo.rowIs w2.heap.size 4 n (fun j => .bool (decide (j ∈ T))) := by
            rw [List.take_of_length_le (by rw [HTL.out]; exact Nat.le_refl _)] at hrow
            exact hrow
          clear hrow
          go_wp2
          go_loopw [13, 14] (fun s13 s14 wx => ∃ (i : Nat) (c : Int) (nd : Nat), i ≤ n ∧ s14 = .int .i64 i ∧ s13 = .int .i64 c ∧ Least (fun z => ∃ j, j < i ∧ j ∉ T ∧ at0 cs j = z) c ∧ wx = wo.drewN nd) (fun _ i _ => n - (intOf i).toNat)
          case atStart => exact ⟨0, -1, 0, Nat.zero_le _, rfl, rfl, .inl ⟨rfl, fun z ⟨j, hj, _⟩ => by omega⟩, rfl⟩
          case round =>
            obtain ⟨i, cu, nd, hi3, rfl, rfl, hle, rfl⟩ := hrel
            have HLE : Hid (Least (fun z => ∃ j, j < i ∧ j ∉ T ∧ at0 cs j = z) cu) := hle
            clear hle
            by_cases hlt3 : i < n
            · obtain ⟨ci, hci⟩ : ∃ ci, at0 cs i = ci := ⟨_, rfl⟩
              have HSC : Hid (at0 cs i = ci) := hci
              have hcb := HBD.out i (by rw [HCS.out]; exact hlt3)
              rw [hci] at hcb
              obtain ⟨hcb0, hcb1⟩ := hcb
              have HZP : Hid (∀ z, (∃ j, j < i ∧ j ∉ T ∧ at0 cs j = z) → 0 ≤ z) := fun z ⟨j, hj, _, e⟩ => by rw [← e]; exact (HBD.out j (by rw [HCS.out]; omega)).1
              obtain ⟨lb, lo, rfl, _, hlc⟩ := nodes_at (HL2.out.below bx) (by rw [mkL_len]; exact HCS.out) (by omega)
              obtain ⟨_, _, _, _, l2, _⟩ := hlc i _ (mkL_get (by rw [HCS.out]; exact hlt3))
              have l2' : ∀ e, (wo.drewN e).cell? ⟨lb, lo + i * 4 + 2, none⟩ = some (.int .i64 ci) := fun e => by rw [← hci]; exact l2
              have t9 : ∀ e, (wo.drewN e).cell? ⟨w2.heap.size, i, none⟩ = some (.bool (decide (i ∈ T))) := fun e => hrw.cell hlt3
              clear hlc l2 hci
              by_cases hit : i ∈ T
              · rw [decide_eq_true hit] at t9
                have HIT : Hid (i ∈ T) := hit
                clear hit
                go_wp2
                go_roundw
                case rel => exact ⟨i + 1, cu, nd, by omega, by go_num, rfl, HLE.out.congr fun z => (leq_skip HIT.out), rfl⟩
                case measure => simp [intOf]; omega
              · rw [decide_eq_false hit] at t9
                have HIT : Hid (i ∉ T) := hit
                clear hit
                have hmp := hmpos (by omega)
                obtain ⟨m1, hm1⟩ : ∃ m1, m = m1 + 1 := ⟨m - 1, by omega⟩
                have hmi : (m : Int) - 1 = (m1 : Int) := by omega
                have hm1l : m1 < m := by omega
                have ewm : IntKind.i64.wrap (m1 : Int) = (m1 : Int) := by rw [IntKind.wrap_i64]; omega
                have ewi : IntKind.u32.wrap (i : Int) = (i : Int) := by rw [IntKind.wrap_u32]; omega
                obtain ⟨q, hq⟩ : ∃ q, T[m1]? = some q := ⟨T[m1]'(by rw [HTL.out]; omega), by simp⟩
                obtain ⟨cq, hcq⟩ : ∃ cq, at0 cs q = cq := ⟨_, rfl⟩
                obtain ⟨kb, ko, rfl, _, hkc⟩ := nodes_at (HKN.out.below bx) HKL.out (by omega)
                obtain ⟨_, _, q0, _, q2, _⟩ := hkc m1 _ (HKG.out m1 q hq)
                have q2' : ∀ e, (wo.drewN e).cell? ⟨kb, ko + m1 * 4 + 2, none⟩ = some (.int .i64 cq) := fun e => by rw [← hcq]; exact q2
                have q0' : ∀ e, (wo.drewN e).cell? ⟨kb, ko + m1 * 4, none⟩ = some (.int .u32 (q : Int)) := fun e => q0
                have hlex : cq < ci ∨ (cq = ci ∧ q < i) := by
                  have := out_lex (cs := cs) (B := B) (x := q) (y := i) (by rw [HT.out]; exact List.mem_of_getElem? hq) (by rw [HCS.out]; exact hlt3) (by rw [HT.out]; exact HIT.out)
                  rwa [HSC.out, hcq] at this
                clear hkc q0 q2 hcq hq hm1
                rcases hlex with hlex | ⟨hlex, hqi⟩
                · have dc : decide (ci < cq) = false := decide_eq_false (by omega)
                  have de : (ci == cq) = false := by rw [beq_eq_false_iff_ne]; omega
                  clear hlex
                  by_cases hneg : cu < 0
                  · have d1 : decide (cu < 0) = true := decide_eq_true hneg
                    as_aux_lemma =>
                      go_wp2
                      go_quiet (fail)
                      go_wp2
                      go_roundw
                      case rel => exact ⟨i + 1, ci, nd + nq, by omega, by go_num, rfl, (HLE.out.more HZP.out (.inl hneg)).congr fun z => leq_more HIT.out HSC.out, by simp⟩
                      case measure => simp [intOf]; omega
                  · have d1 : decide (cu < 0) = false := decide_eq_false hneg
                    by_cases hcl : ci < cu
                    · have d2 : decide (ci < cu) = true := decide_eq_true hcl
                      as_aux_lemma =>
                        go_wp2
                        go_quiet (fail)
                        go_wp2
                        go_roundw
                        case rel => exact ⟨i + 1, ci, nd + nq, by omega, by go_num, rfl, (HLE.out.more HZP.out (.inr hcl)).congr fun z => leq_more HIT.out HSC.out, by simp⟩
                        case measure => simp [intOf]; omega
                    · have d2 : decide (ci < cu) = false := decide_eq_false hcl
                      as_aux_lemma =>
                        go_wp2
                        go_quiet (fail)
                        go_wp2
                        go_roundw
                        case rel => exact ⟨i + 1, cu, nd + nq, by omega, by go_num, rfl, (HLE.out.same (by omega) (by omega)).congr fun z => leq_more HIT.out HSC.out, by simp⟩
                        case measure => simp [intOf]; omega
                · subst hlex
                  have dc : decide (cq < cq) = false := decide_eq_false (by omega)
                  have de : (cq == cq) = true := by simp
                  have dp : decide ((i : Int) < (q : Int)) = false := decide_eq_false (by omega)
                  by_cases hneg : cu < 0
                  · have d1 : decide (cu < 0) = true := decide_eq_true hneg
                    as_aux_lemma =>
                      go_wp2
                      go_quiet (fail)
                      go_wp2
                      go_roundw
                      case rel => exact ⟨i + 1, cq, nd + nq, by omega, by go_num, rfl, (HLE.out.more HZP.out (.inl hneg)).congr fun z => leq_more HIT.out HSC.out, by simp⟩
                      case measure => simp [intOf]; omega
                  · have d1 : decide (cu < 0) = false := decide_eq_false hneg
                    by_cases hcl : cq < cu
                    · have d2 : decide (cq < cu) = true := decide_eq_true hcl
                      as_aux_lemma =>
                        go_wp2
                        go_quiet (fail)
                        go_wp2
                        go_roundw
                        case rel => exact ⟨i + 1, cq, nd + nq, by omega, by go_num, rfl, (HLE.out.more HZP.out (.inr hcl)).congr fun z => leq_more HIT.out HSC.out, by simp⟩
                        case measure => simp [intOf]; omega
                    · have d2 : decide (cq < cu) = false := decide_eq_false hcl
                      as_aux_lemma =>
                        go_wp2
                        go_quiet (fail)
                        go_wp2
                        go_roundw
                        case rel => exact ⟨i + 1, cu, nd + nq, by omega, by go_num, rfl, (HLE.out.same (by omega) (by omega)).congr fun z => leq_more HIT.out HSC.out, by simp⟩
                        case measure => simp [intOf]; omega
            · obtain rfl : n = i := by omega
              have HCU : Hid (C = cu) := by
                show C = cu
                rw [← HC.out]
                refine Least.uniq (cutOf_least cs B) ?_
                rw [HT.out, HCS.out]
                exact HLE.out
              have hcu : (cu != cu) = false := by simp
              rw [HCU.out]
              have bx2 : Below w2.heap.size w2 (wo.drewN nd) := below_drewN bx nd
              have HP2 := Pick_ok (.slice ka m kc) K (by rw [HKL.out]; omega) (fun x hx => by rw [(HKA.out.2.2 x hx).2]; simp) B hB1 hB2 (fun x hx => (HKA.out.2.2 x hx).1) (wo.drewN nd) (HKN.out.next bx2)
              rw [← HKA.out.1, HKA.out.2.1] at HP2
              clear hrw
              go_wp2_with fail
              refine HP2.mono ?_
              rintro e w6 ⟨xr, rfl, oX, b6⟩
              have b7 := bx2.trans (b6.mono bx2.size)
              have HC7 := nodes_any xr (.slice ka m kc) K K w6 (by rw [HKL.out]; omega) (fun x hx => by rw [(HKA.out.2.2 x hx).2]; simp) oX.nodes (HKN.out.next b7)
              rw [decide_eq_true rfl] at HC7
              obtain ⟨xa, xc, e3⟩ := oX.nodes.shape
              subst e3
              go_wp2_with fail
              refine HC7.mono ?_
              rintro e w8 ⟨rfl, b8⟩
              have b9 := bb.trans (b7.mono bb.size)
              have b10 := b9.trans (b8.mono b9.size)
              go_wp2_with fail
              refine (pickWakes_any _).mono ?_
              rintro e w9 ⟨rfl, b11⟩
              go_wp2
              go_ret
              exact ⟨rfl, b10.trans (b11.mono b10.size)⟩

/-- PickLeast answers true. -/
theorem PickLeast_walk (a : Option Addr) (n cap : Nat) (zs : List Int) (b : Int) (w : World) (h : IsRow .i64 w a n cap zs) :
    Calls Try.prog 4 #[.slice a n cap, .int .i64 b] w fun e W' => e = .returned (.bool true) ∧ Below w.heap.size w W' := by
  obtain ⟨ys, hy, hH, _⟩ := holds_of_isRow h
  by_cases hn : 256 < n
  · have hm : n ≤ maxLen := by
      rcases h with ⟨_, rfl, _⟩ | ⟨x, _, h1, h2, _⟩
      · omega
      · omega
    exact PickLeast_long a n cap b w hn (by unfold maxLen at hm; omega)
  · exact PickLeast_short a n cap ys b w hy (by omega) hH

end Go.Proofs.Ytmjbphbjaedlpaa
