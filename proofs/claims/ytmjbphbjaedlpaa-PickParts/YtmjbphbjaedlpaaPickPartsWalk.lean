/-
  The walk of PickParts. (Written by tpl_pickparts.py.)
-/
import Derived.Test.YtmjbphbjaedlpaaPickWakes
import Derived.Test.YtmjbphbjaedlpaaPickLeastNums
import Derived.Test.YtmjbphbjaedlpaaPlaces
namespace Go.Proofs.Ytmjbphbjaedlpaa
open Go.RowKit

/-- The least of the first i cuts. -/
def lminTo (l : List Int) (i : Nat) : Int := (l.take i).foldl lmin (-1)
theorem lminTo_next {l : List Int} {i : Nat} {c : Int} (h : l[i]? = some c) : lminTo l (i + 1) = lmin (lminTo l i) c := by
  unfold lminTo
  rw [List.take_add_one, h, List.foldl_append]
  rfl
theorem lmin_take {v c : Int} (h : 0 ≤ c) (hv : v < 0 ∨ c < v) : lmin v c = c := by unfold lmin; rw [if_pos ⟨h, hv⟩]
theorem lmin_keep {v c : Int} (h : 0 ≤ v) (hv : v ≤ c) : lmin v c = v := by unfold lmin; rw [if_neg (by omega)]
theorem lmin_neg {v c : Int} (h : c < 0) : lmin v c = v := by unfold lmin; rw [if_neg (by omega)]

set_option maxRecDepth 100000 in
set_option maxHeartbeats 1000000 in
theorem PickParts_long (a0 : Option Addr) (n cap0 : Nat) (a1 : Option Addr) (m cap1 : Nat) (b : Int) (w : World) (hn : n ≤ 9223372036854775807) (hm : m ≤ 9223372036854775807) (h : 120 < n ∨ 120 < m) :
    Calls Try.prog 5 #[.slice a0 n cap0, .slice a1 m cap1, .int .i64 b] w fun e W' => e = .returned (.bool true) ∧ Below w.heap.size w W' := by
  by_cases h1 : 120 < n
  · have d1 : decide (120 < (n : Int)) = true := decide_eq_true (by omega)
    go_enter Try.func5, Try.ntmps5
    go_wp2
    go_ret
    exact ⟨rfl, Below.refl _ _⟩
  · have d1 : decide (120 < (n : Int)) = false := decide_eq_false (by omega)
    have d2 : decide (120 < (m : Int)) = true := decide_eq_true (by omega)
    go_enter Try.func5, Try.ntmps5
    go_wp2
    go_ret
    exact ⟨rfl, Below.refl _ _⟩

set_option maxRecDepth 100000 in
set_option maxHeartbeats 8000000 in
theorem PickParts_short (a0 : Option Addr) (n cap0 : Nat) (zs : List Int) (a1 : Option Addr) (m cap1 : Nat) (ys : List Int) (b : Int) (w : World) (HN : Hid (zs.length = n)) (hn : n ≤ 120) (HZ : Hid (Holds .i64 w.heap.size w (.slice a0 n cap0) zs)) (HM : Hid (ys.length = m)) (hm : m ≤ 120) (HY : Hid (Holds .i64 w.heap.size w (.slice a1 m cap1) ys)) :
    Calls Try.prog 5 #[.slice a0 n cap0, .slice a1 m cap1, .int .i64 b] w fun e W' => e = .returned (.bool true) ∧ Below w.heap.size w W' := by
  obtain ⟨b', hb', eb⟩ := at_place b 16 (by decide)
  have ewb : IntKind.i64.wrap (b' : Int) = (b' : Int) := by rw [IntKind.wrap_i64]; omega
  obtain ⟨B, hB⟩ : ∃ B, b' + 1 = B := ⟨_, rfl⟩
  have e1b : 1 + (b' : Int) = (B : Int) := by omega
  have hB1 : 1 ≤ B := by omega
  have hB2 : B ≤ 16 := by omega
  clear hB hb'
  obtain ⟨cs, hcs⟩ : ∃ cs, sL 30 zs = cs := ⟨_, rfl⟩
  have HCS : Hid (cs.length = n) := by
    show cs.length = n
    rw [← hcs, sL_len, HN.out]
  have HAT : Hid (∀ (j : Nat) (z : Int), zs[j]? = some z → at0 cs j = sN 30 z) := by
    intro j z hz
    rw [← hcs]
    exact sL_at hz
  have HBD : Hid (∀ i, i < cs.length → 0 ≤ at0 cs i ∧ at0 cs i < 30) := by
    rw [← hcs]
    exact sL_bd (by decide)
  obtain ⟨ds, hds⟩ : ∃ ds, sL 30 ys = ds := ⟨_, rfl⟩
  have HDS : Hid (ds.length = m) := by
    show ds.length = m
    rw [← hds, sL_len, HM.out]
  have HAU : Hid (∀ (j : Nat) (z : Int), ys[j]? = some z → at0 ds j = sN 30 z) := by
    intro j z hz
    rw [← hds]
    exact sL_at hz
  have HBE : Hid (∀ i, i < ds.length → 0 ≤ at0 ds i ∧ at0 ds i < 30) := by
    rw [← hds]
    exact sL_bd (by decide)
  clear hcs hds
  have d1 : decide (120 < (n : Int)) = false := decide_eq_false (by omega)
  have d2 : decide (120 < (m : Int)) = false := decide_eq_false (by omega)
  go_enter Try.func5, Try.ntmps5
  go_wp2
  clear eb ewb e1b
  go_loopw [7, 9] (fun so si wr => ∃ k : Nat, k ≤ n ∧ si = .int .i64 k ∧ wr.ownsRow w.heap.size 32 4 so k (rnCells (rawL 0 cs k)) ∧ Below w.heap.size w wr) (fun _ i _ => n - (intOf i).toNat)
  case atStart => exact ⟨0, Nat.zero_le _, rfl, World.ownsRow_nil _ _ _ _, Below.refl _ _⟩
  case round =>
    obtain ⟨k, hk, rfl, ho, bw⟩ := hrel
    have hsz := bw.size
    by_cases hlt : k < n
    · obtain ⟨z, hz⟩ : ∃ z, zs[k]? = some z := ⟨zs[k]'(by rw [HN.out]; exact hlt), by simp⟩
      obtain ⟨bz, oz, rfl, _, hcz⟩ := holds_at ((HZ.out).below (bw)) HN.out (by omega)
      have cz := hcz k z hz
      have HSN : Hid (at0 cs k = sN 30 z) := HAT.out k z hz
      have ez : (IntKind.u64.wrap z).tmod 30 = sN 30 z := rfl
      obtain ⟨hs0, hs1⟩ := sN_bd 30 z (by decide)
      obtain ⟨v, hv⟩ : ∃ v, sN 30 z = v := ⟨_, rfl⟩
      rw [hv] at ez hs0 hs1 HSN
      have ewv : IntKind.i64.wrap v = v := by rw [IntKind.wrap_i64]; omega
      have ewk : IntKind.u32.wrap (k : Int) = (k : Int) := by rw [IntKind.wrap_u32]; omega
      clear hv hcz hz
      obtain ⟨v4, w4, hr4, ho4, hg4⟩ := run_append_node _ k w.heap.size _ (k : Int) 0 v (.slice none 0 0) ⟨_, _, _, rfl⟩ 22 _ ho hsz (by omega)
      have b4 : Below w.heap.size w w4 := (bw.alloc hsz _).grown hg4 (by simp only [World.size_alloc]; omega) (fun q e => (ho.lt q e).1)
      have ho5 : w4.ownsRow w.heap.size 32 4 v4 (k + 1) (rnCells (rawL 0 cs (k + 1))) := by
        rw [rawL_snoc]
        unfold rawAt
        rw [HSN.out, Nat.zero_add]
        exact ho4
      have HR : Hid _ := hr4
      clear hr4 ho4 hg4 ho
      go_wp2_with (at_builtin; refine wpList_append_known rfl _ _ 22 rfl _ _ rfl rfl _ _ HR.out ?_)
      exact ⟨⟨k + 1, by omega, by go_num, ho5, b4⟩, by simp [intOf]; omega⟩
    · obtain rfl : n = k := by omega
      have ho1 := ho
      have bwa := bw
      generalize hwa : wr = wa at *
      clear hwa wr ho bw hsz
      go_wp2
      go_loopw [8, 10] (fun so si wr => ∃ k : Nat, k ≤ m ∧ si = .int .i64 k ∧ wr.ownsRow wa.heap.size 32 4 so k (rnCells (rawL 1000 ds k)) ∧ Below wa.heap.size wa wr) (fun _ i _ => m - (intOf i).toNat)
      case atStart => exact ⟨0, Nat.zero_le _, rfl, World.ownsRow_nil _ _ _ _, Below.refl _ _⟩
      case round =>
        obtain ⟨k, hk, rfl, ho, bw⟩ := hrel
        have hsz := bw.size
        by_cases hlt : k < m
        · obtain ⟨z, hz⟩ : ∃ z, ys[k]? = some z := ⟨ys[k]'(by rw [HM.out]; exact hlt), by simp⟩
          obtain ⟨bz, oz, rfl, _, hcz⟩ := holds_at ((HY.out.below bwa).below (bw.mono bwa.size)) HM.out (by omega)
          have cz := hcz k z hz
          have HSN : Hid (at0 ds k = sN 30 z) := HAU.out k z hz
          have ez : (IntKind.u64.wrap z).tmod 30 = sN 30 z := rfl
          obtain ⟨hs0, hs1⟩ := sN_bd 30 z (by decide)
          obtain ⟨v, hv⟩ : ∃ v, sN 30 z = v := ⟨_, rfl⟩
          rw [hv] at ez hs0 hs1 HSN
          have ewv : IntKind.i64.wrap v = v := by rw [IntKind.wrap_i64]; omega
          have ewk : IntKind.u32.wrap ((1000 : Int) + (k : Int)) = ((1000 + k : Nat) : Int) := by rw [IntKind.wrap_u32]; omega
          clear hv hcz hz
          obtain ⟨v4, w4, hr4, ho4, hg4⟩ := run_append_node _ k wa.heap.size _ ((1000 + k : Nat) : Int) 0 v (.slice none 0 0) ⟨_, _, _, rfl⟩ 22 _ ho hsz (by omega)
          have b4 : Below wa.heap.size wa w4 := (bw.alloc hsz _).grown hg4 (by simp only [World.size_alloc]; omega) (fun q e => (ho.lt q e).1)
          have ho5 : w4.ownsRow wa.heap.size 32 4 v4 (k + 1) (rnCells (rawL 1000 ds (k + 1))) := by
            rw [rawL_snoc]
            unfold rawAt
            rw [HSN.out]
            exact ho4
          have HR : Hid _ := hr4
          clear hr4 ho4 hg4 ho
          go_wp2_with (at_builtin; refine wpList_append_known rfl _ _ 22 rfl _ _ rfl rfl _ _ HR.out ?_)
          exact ⟨⟨k + 1, by omega, by go_num, ho5, b4⟩, by simp [intOf]; omega⟩
        · obtain rfl : m = k := by omega
          generalize hwb : wr = wb at *
          clear hwb wr

          obtain ⟨a7, c7, rfl⟩ := rowN_shape ho1
          obtain ⟨a8, c8, rfl⟩ := rowN_shape ho
          have hL : Nodes wa.heap.size wa (.slice a7 n c7) (mkL 0 cs) := ⟨_, raw_of_row ho1, by have := rawL_rns 0 cs wa.heap.size wa; rwa [HCS.out] at this⟩
          have hM : Nodes wb.heap.size wb (.slice a8 m c8) (mkL 1000 ds) := ⟨_, raw_of_row ho, by have := rawL_rns 1000 ds wb.heap.size wb; rwa [HDS.out] at this⟩
          have hL2 := hL.next bw
          have bb := bwa.trans (bw.mono bwa.size)
          have HLM : Hid (∀ x ∈ mkL 0 cs ++ mkL 1000 ds, 0 ≤ sc x ∧ x.2.2.2 = []) := by
            intro x hx
            rcases List.mem_append.1 hx with h | h
            · exact ⟨mkL_sc (fun i hi => (HBD.out i hi).1) x h, mkL_path x h⟩
            · exact ⟨mkL_sc (fun i hi => (HBE.out i hi).1) x h, mkL_path x h⟩
          have HLL : Hid ((mkL 0 cs).length = n) := by
            show (mkL 0 cs).length = n
            rw [mkL_len]; exact HCS.out
          have HML : Hid ((mkL 1000 ds).length = m) := by
            show (mkL 1000 ds).length = m
            rw [mkL_len]; exact HDS.out
          clear ho ho1 hL
          obtain ⟨L, hLL⟩ : ∃ L, mkL 0 cs = L := ⟨_, rfl⟩
          obtain ⟨M, hMM⟩ : ∃ M, mkL 1000 ds = M := ⟨_, rfl⟩
          rw [hLL] at HLM HLL hL2
          rw [hMM] at HLM HML hM
          clear hLL hMM
          have H0L : Hid (∀ x ∈ L, 0 ≤ sc x ∧ x.2.2.2 = []) := fun x hx => HLM.out x (List.mem_append.2 (.inl hx))
          have H0M : Hid (∀ x ∈ M, 0 ≤ sc x ∧ x.2.2.2 = []) := fun x hx => HLM.out x (List.mem_append.2 (.inr hx))
          have HPT : Hid (keptN B (keptN B L ++ keptN B M) = keptN B (L ++ M)) := sortK_parts sc B L M
          have HCT : Hid (cutK sc B (L ++ M) = lmin (lmin (lmin (-1) (cutK sc B L)) (cutK sc B M)) (cutK sc B (keptN B L ++ keptN B M))) := cutK_parts sc B L M (fun x hx => (H0L.out x hx).1) (fun x hx => (H0M.out x hx).1)
          have H0X : Hid (∀ x ∈ keptN B L, 0 ≤ sc x ∧ x.2.2.2 = []) := fun x hx => H0L.out x ((sortK_perm sc L).mem_iff.1 (List.mem_of_mem_take hx))
          have H0Y : Hid (∀ x ∈ keptN B M, 0 ≤ sc x ∧ x.2.2.2 = []) := fun x hx => H0M.out x ((sortK_perm sc M).mem_iff.1 (List.mem_of_mem_take hx))
          have HXL : Hid ((keptN B L).length ≤ 16) := by
            show (keptN B L).length ≤ 16
            rw [kept_len]; omega
          have HYL : Hid ((keptN B M).length ≤ 16) := by
            show (keptN B M).length ≤ 16
            rw [kept_len]; omega
          have HWK : Hid (∀ x ∈ keptN B (L ++ M), x.2.2.2 = []) := fun x hx => (HLM.out x ((sortK_perm sc (L ++ M)).mem_iff.1 (List.mem_of_mem_take hx))).2
          have HWL : Hid ((keptN B (L ++ M)).length ≤ 16) := by
            show (keptN B (L ++ M)).length ≤ 16
            rw [kept_len]; omega
          -- x, p, e := pick.Pick(l, many)
          have HP1 := Pick_ok (.slice a7 n c7) L (by rw [HLL.out]; omega) (fun x hx => by rw [(H0L.out x hx).2]; simp) B hB1 hB2 (fun x hx => (H0L.out x hx).1) wb hL2
          obtain ⟨p, hp⟩ : ∃ p, cutK sc B L = p := ⟨_, rfl⟩
          obtain ⟨q, hq⟩ : ∃ q, cutK sc B M = q := ⟨_, rfl⟩
          obtain ⟨r, hr⟩ : ∃ r, cutK sc B (keptN B L ++ keptN B M) = r := ⟨_, rfl⟩
          obtain ⟨s, hs⟩ : ∃ s, cutK sc B (L ++ M) = s := ⟨_, rfl⟩
          rw [hp, hq, hr, hs] at HCT
          rw [hp] at HP1
          go_wp2_with fail
          refine HP1.mono ?_
          rintro e w1 ⟨xv, rfl, oX, b1⟩
          clear HP1
          obtain ⟨xa, xc, e1⟩ := oX.nodes.shape
          subst e1
          have bb1 := bb.trans (b1.mono bb.size)
          -- y, q, f := pick.Pick(m, many)
          have HP2 := Pick_ok (.slice a8 m c8) M (by rw [HML.out]; omega) (fun x hx => by rw [(H0M.out x hx).2]; simp) B hB1 hB2 (fun x hx => (H0M.out x hx).1) w1 (hM.next b1)
          rw [hq] at HP2
          go_wp2_with fail
          refine HP2.mono ?_
          rintro e w2 ⟨yv, rfl, oY, b2⟩
          clear HP2
          obtain ⟨ya, yc, e2⟩ := oY.nodes.shape
          subst e2
          have bb2 := bb1.trans (b2.mono bb1.size)
          have oX2 := oX.next b2
          have hL3 := (hL2.next b1).next b2
          have hM3 := (hM.next b1).next b2
          clear oX hL2 hM b1 b2
          -- append(volutekeep.TwinNodes(x), y...)
          have HT3 := twinNodes_any (.slice xa (keptN B L).length xc) (keptN B L) (by have := HXL.out; omega) (fun y hy => by rw [(H0X.out y hy).2]; simp) w2 oX2.nodes
          go_wp2_with fail
          refine HT3.mono ?_
          rintro e w3 ⟨tv, rfl, oT, b3⟩
          clear HT3
          have oY3 := oY.next b3
          have bb3 := bb2.trans (b3.mono bb2.size)
          obtain ⟨rt, hrt, hot⟩ := oT
          obtain ⟨ry, hry1, hry2⟩ := oY3
          obtain ⟨v4, w4, hr4, ho4, hg4⟩ := run_append_nodes tv (.slice ya (keptN B M).length yc) (keptN B L).length w2.heap.size w3.heap.size rt ry hry2.rns.slices 22 w3 hrt (raw_of_row hry1) b3.size (by have := HXL.out; omega) (by rw [hry2.1]; have := HYL.out; omega)
          have b4 : Below w2.heap.size w3 w4 := (Below.refl _ _).grown hg4 b3.size (fun z e => (hrt.lt z e).1)
          have bb4 := bb3.trans (b4.mono bb2.size)
          have hN4 : Nodes w4.heap.size w4 v4 (keptN B L ++ keptN B M) := by
            refine ⟨rt ++ ry, raw_of_row ho4, ?_⟩
            have z1 : RnsOf w4.heap.size w4 rt (keptN B L) := (hot.kept hrt hg4).rns
            have z2 : RnsOf w4.heap.size w4 ry (keptN B M) := (hry2.kept hrt hg4).rns
            exact z1.append z2
          have hL4 := (hL3.below (b3.trans b4)).mono (Nat.le_trans b3.size b4.size)
          have hM4 := (hM3.below (b3.trans b4)).mono (Nat.le_trans b3.size b4.size)
          have HP5 := Pick_ok v4 (keptN B L ++ keptN B M) (by rw [List.length_append]; have := HXL.out; have := HYL.out; omega) (fun x hx => by rcases List.mem_append.1 hx with h | h; rw [(H0X.out x h).2]; simp; rw [(H0Y.out x h).2]; simp) B hB1 hB2 (fun x hx => by rcases List.mem_append.1 hx with h | h; exact (H0X.out x h).1; exact (H0Y.out x h).1) w4 hN4
          rw [hr, HPT.out] at HP5
          have HR4 : Hid _ := hr4
          clear hr4 oY hrt hot hry1 hry2 hL3 hM3 hg4 ho4 oX2
          go_wp2_with (at_builtin; refine wpList_append_known rfl _ _ 22 rfl _ _ rfl rfl _ _ HR4.out ?_)
          refine HP5.mono ?_
          rintro e w5 ⟨zv, rfl, oZ, b5⟩
          clear HP5 HR4 hN4
          obtain ⟨za, zc, e5⟩ := oZ.nodes.shape
          subst e5
          have bb5 := bb4.trans (b5.mono bb4.size)
          have hL5 := hL4.next b5
          have hM5 := hM4.next b5
          clear hL4 hM4 b4 b3
          -- append(volutekeep.TwinNodes(l), m...)
          have HT6 := twinNodes_any (.slice a7 n c7) L (by rw [HLL.out]; omega) (fun y hy => by rw [(H0L.out y hy).2]; simp) w5 hL5
          go_wp2_with fail
          refine HT6.mono ?_
          rintro e w6 ⟨uv, rfl, oU, b6⟩
          clear HT6
          have bb6 := bb5.trans (b6.mono bb5.size)
          have oZ6 := oZ.next b6
          obtain ⟨ru, hru, hou⟩ := oU
          obtain ⟨rm, hrm1, hrm2⟩ := hM5.next b6
          rw [HLL.out] at hru
          obtain ⟨v7, w7, hr7, ho7, hg7⟩ := run_append_nodes uv (.slice a8 m c8) n w5.heap.size w6.heap.size ru rm hrm2.slices 22 w6 hru hrm1 b6.size (by omega) (by rw [hrm2.1, HML.out]; omega)
          have b7 : Below w5.heap.size w6 w7 := (Below.refl _ _).grown hg7 b6.size (fun z e => (hru.lt z e).1)
          have bb7 := bb6.trans (b7.mono bb5.size)
          have hN7 : Nodes w7.heap.size w7 v7 (L ++ M) := by
            refine ⟨ru ++ rm, raw_of_row ho7, ?_⟩
            have z1 : RnsOf w7.heap.size w7 ru L := (hou.kept hru hg7).rns
            obtain ⟨rm', hz1, hz2⟩ := hM5
            have z2 : RnsOf w7.heap.size w7 rm M := by
              refine ⟨hrm2.1, fun j x y hx hy => ?_⟩
              obtain ⟨e1, e2, e3, _⟩ := hrm2.2 j x y hx hy
              have hpy : y.2.2.2 = [] := (H0M.out y (List.mem_of_getElem? hy)).2
              obtain ⟨pa, pc, hpv, hpn⟩ : ∃ pa pc, x.2.2.2 = .slice pa 0 pc ∧ (pa = none → pc = 0) := by
                have hh := (hrm2.2 j x y hx hy).2.2.2
                rw [hpy] at hh
                rcases hh with ⟨⟨pa, pc, e, hn⟩, _⟩ | ⟨b, off, cap, e, _⟩
                · exact ⟨pa, pc, e, hn⟩
                · exact ⟨_, _, e, fun h => by cases h⟩
              exact ⟨e1, e2, e3, by rw [hpy]; exact .inl ⟨⟨pa, pc, hpv, hpn⟩, rfl⟩⟩
            exact z1.append z2
          have HP8 := Pick_ok v7 (L ++ M) (by rw [List.length_append, HLL.out, HML.out]; omega) (fun x hx => by rw [(HLM.out x hx).2]; simp) B hB1 hB2 (fun x hx => (HLM.out x hx).1) w7 hN7
          rw [hs] at HP8
          have HR7 : Hid _ := hr7
          have bZ7 : OwnNodes w4.heap.size w7 (.slice za (keptN B (L ++ M)).length zc) (keptN B (L ++ M)) := by
            obtain ⟨rz, hz1, hz2⟩ := oZ
            refine ⟨rz, ?_, hz2.1, fun j x y hx hy => ?_, hz2.2.2⟩
            · exact rowN_below hz1 (b6.trans b7) (Nat.le_refl _)
            · obtain ⟨e1, e2, e3, e4⟩ := hz2.2.1 j x y hx hy
              exact ⟨e1, e2, e3, rowN_below e4 (b6.trans b7) (Nat.le_refl _)⟩
          clear hr7 hru hou hrm1 hrm2 hg7 ho7 hL5 hM5 oZ oZ6 b6 b7
          go_wp2_with (at_builtin; refine wpList_append_known rfl _ _ 22 rfl _ _ rfl rfl _ _ HR7.out ?_)
          refine HP8.mono ?_
          rintro e w8 ⟨wv, rfl, oW, b8⟩
          clear HP8 HR7 hN7
          have bb8 := bb7.trans (b8.mono bb7.size)
          have oZ8 := bZ7.next b8
          have HC9 := nodes_any (.slice za (keptN B (L ++ M)).length zc) wv (keptN B (L ++ M)) (keptN B (L ++ M)) w8 (by have := HWL.out; omega) (fun y hy => by rw [HWK.out y hy]; simp) oZ8.nodes oW.nodes
          rw [decide_eq_true rfl] at HC9
          go_wp2_with fail
          refine HC9.mono ?_
          rintro e w9 ⟨rfl, b9⟩
          have bb9 := bb8.trans (b9.mono bb8.size)
          clear HC9 oZ8 oW bZ7 b8 b9
          have HTO : Hid (lminTo [p, q, r] 3 = s) := HCT.out.symm
          have hH := held_new .i64 w9 [p, q, r] 3 3 (0, 0)
          obtain ⟨g, og, eg, _, hcg⟩ := holds_at hH rfl (by simp)
          cases eg
          have bA : Below w9.heap.size w9 (w9.alloc (.cells #[.int .i64 p, .int .i64 q, .int .i64 r] 3)) := (Below.refl _ _).alloc (Nat.le_refl _) _
          have HCG : Hid (∀ (j : Nat) (x : Int), [p, q, r][j]? = some x → (w9.alloc (.cells #[.int .i64 p, .int .i64 q, .int .i64 r] 3)).cell? ⟨w9.heap.size, j, none⟩ = some (.int .i64 x)) := fun j x hj => by
            have := hcg j x hj
            rw [Nat.zero_add] at this
            exact this
          have bb10 := bb9.trans (bA.mono bb9.size)
          clear hcg hH bA HCT hp hq hr hs
          go_wp2
          obtain ⟨W10, hW10⟩ : ∃ W, w9.alloc (.cells #[.int .i64 p, .int .i64 q, .int .i64 r] 3) = W := ⟨_, rfl⟩
          rw [hW10] at HCG bb10 ⊢
          clear hW10
          go_loop [23, 137] (fun s23 si => ∃ (i : Nat) (v : Int), i ≤ 3 ∧ si = .int .i64 i ∧ s23 = .int .i64 v ∧ lminTo [p, q, r] i = v) (fun _ i => 3 - (intOf i).toNat)
          case atStart => exact ⟨0, -1, by omega, rfl, rfl, rfl⟩
          case round =>
            obtain ⟨i, v, hi, rfl, rfl, hv⟩ := hrel
            have HV : Hid (lminTo [p, q, r] i = v) := hv
            clear hv
            by_cases hi3 : i < 3
            · obtain ⟨c, hc⟩ : ∃ c, [p, q, r][i]? = some c := ⟨[p, q, r][i]'(by simpa using hi3), by simp⟩
              have x9 := HCG.out i c hc
              have HST : Hid (lminTo [p, q, r] (i + 1) = lmin v c) := by
                show lminTo [p, q, r] (i + 1) = lmin v c
                rw [lminTo_next hc, HV.out]
              clear hc
              by_cases hc0 : 0 ≤ c
              · have d0 : decide (0 ≤ c) = true := decide_eq_true hc0
                by_cases hv0 : v < 0
                · have d3 : decide (v < 0) = true := decide_eq_true hv0
                  go_wp2
                  go_round
                  case rel => exact ⟨i + 1, c, by omega, by go_num, rfl, by rw [HST.out]; exact lmin_take hc0 (.inl hv0)⟩
                  case measure => simp [intOf]; omega
                · have d3 : decide (v < 0) = false := decide_eq_false hv0
                  by_cases hcv : c < v
                  · have d4 : decide (c < v) = true := decide_eq_true hcv
                    go_wp2
                    go_round
                    case rel => exact ⟨i + 1, c, by omega, by go_num, rfl, by rw [HST.out]; exact lmin_take hc0 (.inr hcv)⟩
                    case measure => simp [intOf]; omega
                  · have d4 : decide (c < v) = false := decide_eq_false hcv
                    go_wp2
                    go_round
                    case rel => exact ⟨i + 1, v, by omega, by go_num, rfl, by rw [HST.out]; exact lmin_keep (by omega) (by omega)⟩
                    case measure => simp [intOf]; omega
              · have d0 : decide (0 ≤ c) = false := decide_eq_false hc0
                go_wp2
                go_round
                case rel => exact ⟨i + 1, v, by omega, by go_num, rfl, by rw [HST.out]; exact lmin_neg (by omega)⟩
                case measure => simp [intOf]; omega
            · obtain rfl : i = 3 := by omega
              obtain rfl : s = v := by rw [← HTO.out, ← HV.out]
              have hss : (s == s) = true := by simp
              go_wp2_with fail
              refine (pickWakes_any _).mono ?_
              rintro e w11 ⟨rfl, b11⟩
              go_wp2
              go_ret
              exact ⟨rfl, bb10.trans (b11.mono bb10.size)⟩

/-- PickParts answers true. -/
theorem PickParts_walk (a0 : Option Addr) (n cap0 : Nat) (zs : List Int) (a1 : Option Addr) (m cap1 : Nat) (ys : List Int) (b : Int) (w : World) (h : IsRow .i64 w a0 n cap0 zs) (k : IsRow .i64 w a1 m cap1 ys) :
    Calls Try.prog 5 #[.slice a0 n cap0, .slice a1 m cap1, .int .i64 b] w fun e W' => e = .returned (.bool true) ∧ Below w.heap.size w W' := by
  obtain ⟨xs, hx, hX, _⟩ := holds_of_isRow h
  obtain ⟨us, hu, hU, _⟩ := holds_of_isRow k
  by_cases hl : 120 < n ∨ 120 < m
  · have hn : n ≤ maxLen := by
      rcases h with ⟨_, rfl, _⟩ | ⟨x, _, h1, h2, _⟩
      · omega
      · omega
    have hm : m ≤ maxLen := by
      rcases k with ⟨_, rfl, _⟩ | ⟨x, _, h1, h2, _⟩
      · omega
      · omega
    unfold maxLen at hn hm
    exact PickParts_long a0 n cap0 a1 m cap1 b w (by omega) (by omega) hl
  · exact PickParts_short a0 n cap0 xs a1 m cap1 us b w hx (by omega) hX hu (by omega) hU

end Go.Proofs.Ytmjbphbjaedlpaa
