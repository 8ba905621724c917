/-
  CrcRest: the walk: whatever the text, the law answers true, and nothing that lay has turned.
-/
import Derived.Test.YtplobmkfmflkaaaCrcWakes
import Derived.Test.YtplobmkfmflkaaaCrcDiv
import Derived.Test.YtplobmkfmflkaaaRefSums
import Derived.Test.YtplobmkfmflkaaaCrcNumber
import Derived.Test.YtplobmkfmflkaaaG3Div
import Derived.Test.YtplobmkfmflkaaaB3Put
namespace Go.Proofs.Ytplobmkfmflkaaa
open Go.RowKit

theorem run_copy_part (a : Option Addr) (cap g n₀ N : Nat) (xs : List Int) (w : World) (hR : Row w g (List.replicate N 0)) (hN : xs.length ≤ N) (hH : Holds .i64 n₀ w (.slice a xs.length cap) xs) :
    ∃ w2, (Builtin.copy_ #[31, 31] 3 #[.slice (some ⟨g, 0, none⟩) N N, .slice a xs.length cap]).run Try.prog w = .ok (.int .i64 xs.length) w2 ∧ Row w2 g (xs ++ List.replicate (N - xs.length) 0) ∧ Below g w w2 := by
  obtain ⟨i0, hi, hz0, hz1, hz2⟩ := info_parts infoI64
  have hsz : (Try.prog.info? 3).map (·.size) = some 1 := by rw [hi]; simp [hz1]
  rcases hH with ⟨_, rfl⟩ | ⟨b, off, cap', e, _, hc⟩
  · exact ⟨w, run_copy_none w _ _ _ 3 _ _ _ _ _ _ Try.underlying31 hsz (by simp), by simpa using hR, Below.refl _ _⟩
  · cases e
    have hr := run_copy_row (P := Try.prog) w 31 31 3 3 g 0 N N ⟨b, off, none⟩ xs.length cap _ 3 (xs.map (Value.int .i64)) Try.underlying31 hsz hR (by rw [List.length_map]; exact (Nat.min_eq_left hN).symm) (holds_cells hc) (by simp; omega) (oneCells _ _)
    have e0 : (((List.replicate N (0 : Int)).map (Value.int .i64)).toArray.toList.take 0 ++ xs.map (Value.int .i64) ++ ((List.replicate N (0 : Int)).map (Value.int .i64)).toArray.toList.drop (0 + (xs.map (Value.int .i64)).length)) = (xs ++ List.replicate (N - xs.length) 0).map (Value.int .i64) := by
      simp
    rw [e0, List.length_map] at hr
    exact ⟨_, hr, setRow_heap w g _ _ _ _ hR, below_setRow (Below.refl g w) (Nat.le_refl _) _⟩

theorem intsOf_cells (l : List Nat) : l.map cellN = (intsOf l).map (Value.int .i64) := by
  unfold intsOf
  rw [List.map_map]
  rfl

theorem has_of_row {W : World} {base n : Nat} {v : Value} {zs : List Int} (h : W.ownsRow base 3 1 v n (zs.map (Value.int .i64))) : Has W v zs := by
  refine ⟨holds_of_row h, ?_⟩
  rcases h.2 with ⟨rfl, rfl⟩ | ⟨g, cap, cur, rfl, _, _, hk, hm, _, _⟩
  · exact ⟨_, _, _, rfl, by omega, by omega⟩
  · exact ⟨_, _, _, rfl, hk, by unfold maxLen at hm; omega⟩

theorem one_less (b : Nat) (hb : b < 2) : (1 : Int) - (b : Int) = ((b ^^^ 1 : Nat) : Int) := by
  obtain rfl | rfl : b = 0 ∨ b = 1 := by omega
  · rfl
  · rfl

theorem tr_len {ms : List Int} (h : Tr ms) {d : Nat} (h1 : 2 ^ d ≤ val ms) (h2 : val ms < 2 ^ (d + 1)) : ms.length = d + 1 := by
  have hle := h.len_le h2
  have hlt := val_lt h.1
  have : 2 ^ d < 2 ^ ms.length := Nat.lt_of_le_of_lt h1 hlt
  have := (Nat.pow_lt_pow_iff_right (a := 2) (by omega)).1 this
  omega

theorem has_at {W : World} {v : Value} {zs : List Int} (h : Has W v zs) {n : Nat} (hn : zs.length = n) : ∃ a c, v = .slice a n c := by
  obtain ⟨a, c, e⟩ := h.1.shape
  exact ⟨a, c, by rw [e, hn]⟩

set_option maxRecDepth 100000 in
set_option maxHeartbeats 8000000 in
theorem crcRest_short (a : Option Addr) (cap : Nat) (xs : List Int) (hl : xs.length ≤ 60) (bx : ∀ z ∈ xs, 0 ≤ z ∧ z ≤ 255) (w : World) (ha : Holds .u8 w.heap.size w (.slice a xs.length cap) xs) :
    Calls Try.prog 7 #[.slice a xs.length cap] w fun e w' => e = .returned (.bool true) ∧ Below w.heap.size w w' := by
  obtain ⟨i0, hi, hz0, hz1, hz2⟩ := info_parts infoI64
  have HB : Hid (∀ z ∈ xs, 0 ≤ z ∧ z ≤ 255) := bx
  clear bx
  go_enter Try.func7, Try.ntmps7
  go_wp2_with fail
  refine (refBits_any a cap xs (by omega) HB.out w ha).mono ?_
  rintro e w1 ⟨r1, rfl, o1, b1⟩
  rw [intsOf_cells] at o1
  obtain ⟨D, hD⟩ : ∃ D, 8 * xs.length = D := ⟨_, rfl⟩
  have HD : Hid (8 * xs.length = D) := hD
  rw [hD] at o1
  have hD2 : D ≤ 480 := by omega
  have HL : Hid ((textHigh xs).length = D) := (textHigh_len xs).trans hD
  have HLL : Hid ((textLow xs).length = D) := (textLow_len xs).trans hD
  have hH1 := holds_of_row o1
  obtain ⟨al, cl1, hr1⟩ := hH1.shape
  rw [intsOf_len, HL.out] at hr1
  subst hr1
  have ha1 := ha.next b1
  clear o1 ha hD
  go_wp2_with (at_make; refine wpList_make_full _ rfl _ _ 31 rfl w1.heap.size 3 i0 (.int .i64 0) 1 Try.underlying31 hi hz0 hz1 .i64 .i64 _ _ (D + 16) rfl rfl rfl rfl (by rw [hz2]; omega) (by unfold maxLen; omega) (Nat.le_refl _) ?_; intro w2 hown2 hgrow2)
  have b2 : Below w1.heap.size w1 w2 := (Below.refl _ w1).grown hgrow2 (Nat.le_refl _) (fun k e => by cases e)
  obtain ⟨w3, hrun3, hR3, b3⟩ := run_copy_part al cl1 w1.heap.size _ (D + 16) (intsOf (textHigh xs)) w2 (row_made hown2) (by rw [intsOf_len, HL.out]; omega) (by rw [intsOf_len, HL.out]; exact hH1.below b2)
  rw [intsOf_len, HL.out] at hrun3 hR3
  have hM3 : Row w3 w1.heap.size (intsOf (flips (textHigh xs ++ List.replicate 16 0) 16 0)) := by
    rw [flips_zero]
    unfold intsOf at hR3 ⊢
    rw [List.map_append, List.map_replicate]
    rw [Nat.add_sub_cancel_left] at hR3
    exact hR3
  have b13 : Below w1.heap.size w1 w3 := b2.trans b3
  rw [hrun3]
  obtain ⟨M, hM⟩ : ∃ M, textHigh xs ++ List.replicate 16 0 = M := ⟨_, rfl⟩
  have HML : Hid (M.length = D + 16) := by show M.length = D + 16; rw [← hM, List.length_append, List.length_replicate, HL.out]
  have HM1 : Hid (Bits01 M) := by rw [← hM]; exact (textHigh_01 xs).append (Bits01.noughts 16)
  have HMV : Hid (∀ q r, r < 2 ^ 16 → high (flips M 16 16) = cl q (2 ^ 16 + 4129) ^^^ r → r = sum16 xs) := by rw [← hM]; exact rest16 xs
  rw [hM] at hM3
  clear hrun3 hR3 b2 b3 hown2 hgrow2 hM
  go_wp2
  go_loopw [5] (fun i wr => ∃ k : Nat, k ≤ 16 ∧ i = .int .i64 k ∧ Row wr w1.heap.size (intsOf (flips M 16 k)) ∧ Below w1.heap.size w1 wr) (fun i _ => 16 - (intOf i).toNat)
  case atStart => exact ⟨0, by omega, rfl, hM3, b13⟩
  case round =>
    clear hM3 b13
    obtain ⟨k, hk, rfl, hR, hbw⟩ := hrel
    by_cases hlt : k < 16
    · have hfl := flips_len (M := M) (d := 16) (k := k) (by omega) (by rw [HML.out]; omega)
      obtain ⟨b, hb⟩ : ∃ b, (flips M 16 k)[k]? = some b := ⟨(flips M 16 k)[k]'(by rw [hfl, HML.out]; omega), by simp⟩
      have hb2 : b < 2 := flips_01 HM1.out 16 k b (List.mem_of_getElem? hb)
      have c1 := hR.cell k (intsOf_get hb)
      have f1 := hR.frozen k
      have e1 := one_less b hb2
      have HR : Hid (Row (wr.setCell ⟨w1.heap.size, k, none⟩ (.int .i64 ((b ^^^ 1 : Nat) : Int))) w1.heap.size (intsOf (flips M 16 (k + 1)))) := by
        have := hR.set k ((b ^^^ 1 : Nat) : Int)
        rwa [intsOf_set, flips_next hlt (by rw [HML.out]; omega) hb] at this
      obtain ⟨c, hc⟩ : ∃ c, b ^^^ 1 = c := ⟨_, rfl⟩
      rw [hc] at e1 HR
      have HBW : Hid (Below w1.heap.size w1 (wr.setCell ⟨w1.heap.size, k, none⟩ (.int .i64 (c : Int)))) := hbw.setCell (p := ⟨w1.heap.size, k, none⟩) (Nat.le_refl _) _
      clear hfl hb hR hc hbw
      go_wp2
      go_roundw
      case rel => exact ⟨k + 1, by omega, by go_num, HR.out, HBW.out⟩
      case measure => simp [intOf]; omega
    · obtain rfl : k = 16 := by omega
      have hfl := flips_len (M := M) (d := 16) (k := 16) (by omega) (by rw [HML.out]; omega)
      rw [HML.out] at hfl
      have HFL : Hid ((flips M 16 16).length = D + 16) := hfl
      have HF1 : Hid (Bits01 (flips M 16 16)) := flips_01 HM1.out 16 16
      obtain ⟨F, hF⟩ : ∃ F, flips M 16 16 = F := ⟨_, rfl⟩
      rw [hF] at HFL HF1 HMV hR
      clear hlt hk hfl hF HM1 HML
      go_wp2_with fail
      refine (refBits_any _ 4 [0, 1, 16, 33] (by decide) (by decide) _ (holds_new .u8 wr [0, 1, 16, 33] 4 5 _)).mono ?_
      rintro e w5 ⟨r5, rfl, o5, b5⟩
      have b45 : Below wr.heap.size wr w5 := ((Below.refl _ wr).alloc (Nat.le_refl _) _).trans (b5.mono (by simp))
      rw [intsOf_cells] at o5
      have hd5 := has_of_row o5
      have hm5 : Has w5 (.slice (some ⟨w1.heap.size, 0, none⟩) (D + 16) (D + 16)) (intsOf F) := by
        have := (hR.below b45 hR.lt).has (by rw [intsOf_len, HFL.out]; omega)
        rwa [intsOf_len, HFL.out] at this
      have bb5 : Below w1.heap.size w1 w5 := hbw.trans (b45.mono hbw.size)
      clear o5 b5 b45 hR hbw
      go_wp2_with fail
      refine (div_ok _ _ (intsOf F) (intsOf (textHigh [0, 1, 16, 33])) (by rw [intsOf_len, HFL.out]; omega) (by decide) (intsOf_bin HF1.out) (intsOf_bin (textHigh_01 _)) (by rw [val_ints, high_div16]; decide) w5 hm5 hd5).mono ?_
      rintro e w6 ⟨vq, vr, qs, rs, ms, rfl, _, hrs, _, trs, tms, vms, vdiv, vlt, b6⟩
      rw [val_ints, high_div16] at vms
      rw [val_ints, val_ints, high_div16] at vdiv
      have hml := tr_len (d := 16) tms (by rw [vms]; decide) (by rw [vms]; decide)
      rw [hml, Nat.add_sub_cancel] at vlt
      have hv := HMV.out _ _ vlt vdiv
      have HRS : Hid (rs.length ≤ 40 ∧ Bin rs ∧ val rs = sum16 xs) := ⟨by have := trs.len_le vlt; omega, trs.1, hv⟩
      have bb6 : Below w1.heap.size w1 w6 := bb5.trans (b6.mono bb5.size)
      have ha6 := ha1.next bb6
      have hL6 := hH1.next bb6
      obtain ⟨hrs1, _⟩ := hrs
      clear tms vms vdiv vlt hml hv trs hm5 hd5 b6 bb5 ha1 hH1 HMV HFL HF1
      go_wp2_with fail
      refine (Sum16_any a cap xs (by omega) HB.out w6 _ ha6).mono ?_
      rintro e w7 ⟨rfl, rfl⟩
      go_wp2_with fail
      refine (number_any vr rs HRS.out.1 HRS.out.2.1 _ w6 hrs1).mono ?_
      rw [HRS.out.2.2]
      rintro e w7 ⟨rfl, q7, rfl⟩
      have n1 : ((sum16 xs : Int) != (sum16 xs : Int)) = false := by simp
      have bb7 := below_drewN bb6 q7
      have ha7 : Holds .u8 (w6.drewN q7).heap.size (w6.drewN q7) _ xs := ha6
      have hL7 : Holds .i64 (w6.drewN q7).heap.size (w6.drewN q7) _ _ := hL6
      obtain ⟨V, hV⟩ : ∃ V, w6.drewN q7 = V := ⟨_, rfl⟩
      rw [hV] at bb7 ha7 hL7 ⊢
      obtain ⟨s16, hs16⟩ : ∃ s, sum16 xs = s := ⟨_, rfl⟩
      rw [hs16] at n1 ⊢
      clear hV ha6 hL6 hrs1 bb6 HRS hs16
      obtain ⟨l, hl'⟩ : ∃ l, textLow xs = l := ⟨_, rfl⟩
      have HG : Hid (∀ k, k < D → ∃ b, b < 2 ∧ (textHigh xs)[k / 8 * 8 + 7 - k % 8]? = some b ∧ l[k]? = some b ∧ k / 8 * 8 + 7 - k % 8 < D) := by
        intro k hk
        obtain ⟨b, h1, h2, h3⟩ := high_low_get (xs := xs) (k := k) (by rw [HD.out]; exact hk)
        refine ⟨b, h1, h2, by rw [← hl']; exact h3, ?_⟩
        have := (List.getElem?_eq_some_iff.1 h2).1
        rw [HL.out] at this
        exact this
      have HV32 : Hid (∀ q r, r < 2 ^ 32 → high (flips (l ++ List.replicate 32 0) 32 32) = cl q (2 ^ 32 + 79764919) ^^^ r → rev 32 r = reg32 xs) := by rw [← hl']; exact rest32 xs
      have Hl1 : Hid (Bits01 l) := by rw [← hl']; exact textLow_01 xs
      rw [hl'] at HLL
      clear hl'
      go_wp2_with (at_make; refine wpList_make_full _ rfl _ _ 31 rfl V.heap.size 3 i0 (.int .i64 0) 1 Try.underlying31 hi hz0 hz1 .i64 .i64 _ _ (D + 32) rfl rfl rfl rfl (by rw [hz2]; omega) (by unfold maxLen; omega) (Nat.le_refl _) ?_; intro w8 hown8 hgrow8)
      have b8 : Below V.heap.size V w8 := (Below.refl _ V).grown hgrow8 (Nat.le_refl _) (fun k e => by cases e)
      have hR8 : Row w8 V.heap.size (intsOf (l.take 0 ++ List.replicate (D + 32 - 0) 0)) := by
        rw [List.take_zero, List.nil_append, Nat.sub_zero]
        unfold intsOf
        rw [List.map_replicate]
        exact row_made hown8
      clear hown8 hgrow8
      go_loopw [11] (fun i wr => ∃ k : Nat, k ≤ D ∧ i = .int .i64 k ∧ Row wr V.heap.size (intsOf (l.take k ++ List.replicate (D + 32 - k) 0)) ∧ Below V.heap.size V wr) (fun i _ => D - (intOf i).toNat)
      case atStart => exact ⟨0, by omega, rfl, hR8, b8⟩
      case round =>
        clear hR8 b8
        obtain ⟨k, hk, rfl, hR, hbw⟩ := hrel
        by_cases hlt : k < D
        · obtain ⟨b, hb2, hbh, hbl, hj⟩ := HG.out k hlt
          rcases hL7 with ⟨_, e⟩ | ⟨bl, ol, cl', e, hbl', hcs⟩
          · have := intsOf_get hbh
            rw [e] at this
            simp at this
          rw [intsOf_len, HL.out] at e hcs
          cases e
          have ej : (k : Int) / 8 * 8 + 7 - (k : Int) % 8 = ((k / 8 * 8 + 7 - k % 8 : Nat) : Int) := by omega
          have c1 : wr.cell? ⟨bl, ol + (k / 8 * 8 + 7 - k % 8), none⟩ = some (.int .i64 (b : Int)) := (hbw.cell (p := ⟨bl, ol + (k / 8 * 8 + 7 - k % 8), none⟩) hbl').trans ((hcs _ hj).trans (by rw [intsOf_get hbh]; rfl))
          have hlen : (l.take k ++ List.replicate (D + 32 - k) 0).length = D + 32 := by rw [List.length_append, List.length_take, List.length_replicate, HLL.out]; omega
          obtain ⟨v0, hv0⟩ : ∃ v0, (l.take k ++ List.replicate (D + 32 - k) 0)[k]? = some v0 := ⟨(l.take k ++ List.replicate (D + 32 - k) 0)[k]'(by rw [hlen]; omega), by simp⟩
          have c2 := hR.cell k (intsOf_get hv0)
          have f1 := hR.frozen k
          have HR : Hid (Row (wr.setCell ⟨V.heap.size, k, none⟩ (.int .i64 (b : Int))) V.heap.size (intsOf (l.take (k + 1) ++ List.replicate (D + 32 - (k + 1)) 0))) := by
            have := hR.set k (b : Int)
            rwa [intsOf_set, over_noughtsN hbl (by omega)] at this
          have HBW : Hid (Below V.heap.size V (wr.setCell ⟨V.heap.size, k, none⟩ (.int .i64 (b : Int)))) := hbw.setCell (p := ⟨V.heap.size, k, none⟩) (Nat.le_refl _) _
          obtain ⟨j, hje⟩ : ∃ j, k / 8 * 8 + 7 - k % 8 = j := ⟨_, rfl⟩
          rw [hje] at ej c1 hj
          clear hbh hbl hcs hlen hv0 hR hbw hje
          go_wp2
          go_roundw
          case rel => exact ⟨k + 1, by omega, by go_num, HR.out, HBW.out⟩
          case measure => simp [intOf]; omega
        · obtain rfl : k = D := by omega
          have hM : Row wr V.heap.size (intsOf (flips (l ++ List.replicate 32 0) 32 0)) := by
            rw [flips_zero]
            rw [List.take_of_length_le (by rw [HLL.out]; exact Nat.le_refl _), Nat.add_sub_cancel_left] at hR
            exact hR
          obtain ⟨M2, hM2⟩ : ∃ M2, l ++ List.replicate 32 0 = M2 := ⟨_, rfl⟩
          have HML : Hid (M2.length = k + 32) := by show M2.length = k + 32; rw [← hM2, List.length_append, List.length_replicate, HLL.out]
          have HM1 : Hid (Bits01 M2) := by rw [← hM2]; exact Hl1.out.append (Bits01.noughts 32)
          rw [hM2] at hM HV32
          clear hR hM2 HG Hl1 hlt hk hL7
          go_wp2
          go_loopw [12] (fun i wr => ∃ j : Nat, j ≤ 32 ∧ i = .int .i64 j ∧ Row wr V.heap.size (intsOf (flips M2 32 j)) ∧ Below V.heap.size V wr) (fun i _ => 32 - (intOf i).toNat)
          case atStart => exact ⟨0, by omega, rfl, hM, hbw⟩
          case round =>
            clear hM hbw
            obtain ⟨j, hj, rfl, hR, hbw⟩ := hrel
            by_cases hlt : j < 32
            · have hfl := flips_len (M := M2) (d := 32) (k := j) (by omega) (by rw [HML.out]; omega)
              obtain ⟨b, hb⟩ : ∃ b, (flips M2 32 j)[j]? = some b := ⟨(flips M2 32 j)[j]'(by rw [hfl, HML.out]; omega), by simp⟩
              have hb2 : b < 2 := flips_01 HM1.out 32 j b (List.mem_of_getElem? hb)
              have c1 := hR.cell j (intsOf_get hb)
              have f1 := hR.frozen j
              have e1 := one_less b hb2
              have HR : Hid (Row (wr.setCell ⟨V.heap.size, j, none⟩ (.int .i64 ((b ^^^ 1 : Nat) : Int))) V.heap.size (intsOf (flips M2 32 (j + 1)))) := by
                have := hR.set j ((b ^^^ 1 : Nat) : Int)
                rwa [intsOf_set, flips_next hlt (by rw [HML.out]; omega) hb] at this
              obtain ⟨c, hc⟩ : ∃ c, b ^^^ 1 = c := ⟨_, rfl⟩
              rw [hc] at e1 HR
              have HBW : Hid (Below V.heap.size V (wr.setCell ⟨V.heap.size, j, none⟩ (.int .i64 (c : Int)))) := hbw.setCell (p := ⟨V.heap.size, j, none⟩) (Nat.le_refl _) _
              clear hfl hb hR hc hbw
              go_wp2
              go_roundw
              case rel => exact ⟨j + 1, by omega, by go_num, HR.out, HBW.out⟩
              case measure => simp [intOf]; omega
            · obtain rfl : j = 32 := by omega
              have hfl := flips_len (M := M2) (d := 32) (k := 32) (by omega) (by rw [HML.out]; omega)
              rw [HML.out] at hfl
              have HFL : Hid ((flips M2 32 32).length = k + 32) := hfl
              have HF1 : Hid (Bits01 (flips M2 32 32)) := flips_01 HM1.out 32 32
              obtain ⟨F2, hF2⟩ : ∃ F, flips M2 32 32 = F := ⟨_, rfl⟩
              rw [hF2] at HFL HF1 HV32 hR
              clear hlt hj hfl hF2 HM1 HML
              go_wp2_with fail
              refine (refBits_any _ 8 [0, 0, 0, 1, 4, 193, 29, 183] (by decide) (by decide) _ (holds_new .u8 wr [0, 0, 0, 1, 4, 193, 29, 183] 8 5 _)).mono ?_
              rintro e w9 ⟨r9, rfl, o9, b9⟩
              have b89 : Below wr.heap.size wr w9 := ((Below.refl _ wr).alloc (Nat.le_refl _) _).trans (b9.mono (by simp))
              rw [intsOf_cells] at o9
              have hd9 := has_of_row o9
              have hm9 : Has w9 (.slice (some ⟨V.heap.size, 0, none⟩) (k + 32) (k + 32)) (intsOf F2) := by
                have := (hR.below b89 hR.lt).has (by rw [intsOf_len, HFL.out]; omega)
                rwa [intsOf_len, HFL.out] at this
              have bb9 : Below V.heap.size V w9 := hbw.trans (b89.mono hbw.size)
              clear o9 b9 b89 hR hbw
              go_wp2_with fail
              refine (div_ok _ _ (intsOf F2) (intsOf (textHigh [0, 0, 0, 1, 4, 193, 29, 183])) (by rw [intsOf_len, HFL.out]; omega) (by decide) (intsOf_bin HF1.out) (intsOf_bin (textHigh_01 _)) (by rw [val_ints, high_div32]; decide) w9 hm9 hd9).mono ?_
              rintro e w10 ⟨vq2, vr2, qs2, rs2, ms2, rfl, _, hrs, _, trs, tms, vms, vdiv, vlt, b10⟩
              rw [val_ints, high_div32] at vms
              rw [val_ints, val_ints, high_div32] at vdiv
              have hml := tr_len (d := 32) tms (by rw [vms]; decide) (by rw [vms]; decide)
              rw [hml, Nat.add_sub_cancel] at vlt
              have hv := HV32.out _ _ vlt vdiv
              have HRS : Hid (rs2.length ≤ 40 ∧ Bin rs2) := ⟨by have := trs.len_le vlt; omega, trs.1⟩
              obtain ⟨n, hn⟩ : ∃ n, val rs2 = n := ⟨_, rfl⟩
              have HVN : Hid (val rs2 = n) := hn
              rw [hn] at vlt hv
              have hn32 : n < 4294967296 := vlt
              have HRV : Hid (rev 32 n = reg32 xs) := hv
              have bb10 : Below V.heap.size V w10 := bb9.trans (b10.mono bb9.size)
              have ha10 := ha7.next bb10
              obtain ⟨hrs1, _⟩ := hrs
              clear tms vms vdiv vlt hml hv trs hm9 hd9 b10 bb9 ha7 HV32 HFL HF1 hn
              go_wp2_with fail
              refine (Sum32_any a cap xs (by omega) HB.out w10 _ ha10).mono ?_
              rintro e w11 ⟨rfl, rfl⟩
              go_wp2_with fail
              refine (number_any vr2 rs2 HRS.out.1 HRS.out.2 _ w10 hrs1).mono ?_
              rw [HVN.out]
              rintro e w11 ⟨rfl, q11, rfl⟩
              have bb11 := below_drewN bb10 q11
              obtain ⟨U, hU⟩ : ∃ U, w10.drewN q11 = U := ⟨_, rfl⟩
              rw [hU] at bb11 ⊢
              have hsl := sum32_lt xs
              have HSR : Hid (sum32 xs = reg32 xs ^^^ 4294967295) := rfl
              obtain ⟨s32, hs32⟩ : ∃ s, sum32 xs = s := ⟨_, rfl⟩
              rw [hs32] at HSR hsl ⊢
              clear hU ha10 hrs1 bb10 HRS HVN hs32
              go_wp2
              go_loop [15, 16] (fun v i => ∃ j : Nat, j ≤ 32 ∧ i = .int .i64 j ∧ v = .int .i64 ((rev j n : Nat) : Int)) (fun _ i => 32 - (intOf i).toNat)
              case atStart => exact ⟨0, by omega, rfl, rfl⟩
              case round =>
                obtain ⟨j, hj, rfl, rfl⟩ := hrel
                by_cases hlt : j < 32
                · have hrl := rev_lt j n
                  have hp : 2 ^ j ≤ 2 ^ 32 := Nat.pow_le_pow_right (by omega) (by omega)
                  have hrl' : rev j n < 4294967296 := Nat.lt_of_lt_of_le hrl hp
                  have HN : Hid (rev (j + 1) n = 2 * rev j n + n / 2 ^ j % 2) := rfl
                  have hle : n / 2 ^ j ≤ n := Nat.div_le_self _ _
                  have ed : (n : Int) / 2 ^ j = ((n / 2 ^ j : Nat) : Int) := by simp
                  have ea : bits .and .i64 ((n / 2 ^ j : Nat) : Int) 1 = ((n / 2 ^ j % 2 : Nat) : Int) := zi_and1 _ (by omega)
                  have hb2 : n / 2 ^ j % 2 < 2 := Nat.mod_lt _ (by decide)
                  obtain ⟨t, ht⟩ : ∃ t, n / 2 ^ j % 2 = t := ⟨_, rfl⟩
                  obtain ⟨y, hy⟩ : ∃ y, n / 2 ^ j = y := ⟨_, rfl⟩
                  obtain ⟨r, hr⟩ : ∃ r, rev j n = r := ⟨_, rfl⟩
                  rw [ht] at ea hb2 HN
                  rw [hy] at ed ea hle
                  rw [hr] at HN hrl' ⊢
                  have eo : bits .or .i64 ((r : Int) * 2) (t : Int) = ((2 * r + t : Nat) : Int) := by
                    have := zi_or (r * 2) t (by omega) (by omega)
                    rw [or_bit r t hb2] at this
                    rwa [show ((r * 2 : Nat) : Int) = (r : Int) * 2 by omega] at this
                  obtain ⟨m, hm⟩ : ∃ m, 2 * r + t = m := ⟨_, rfl⟩
                  rw [hm] at eo HN
                  clear hrl hp ht hy hr hm
                  go_wp2
                  go_round
                  case rel => exact ⟨j + 1, by omega, by go_num, by rw [HN.out]⟩
                  case measure => simp [intOf]; omega
                · obtain rfl : j = 32 := by omega
                  rw [HRV.out]
                  have hrg := reg32_lt xs
                  have hx : bits .xor .i64 (reg32 xs : Int) 4294967295 = ((s32 : Nat) : Int) := (zi_xor _ 4294967295 (by omega) (by decide)).trans (by rw [HSR.out])
                  have n2 : ((s32 : Int) == (s32 : Int)) = true := by simp
                  have hs0 : (s32 : Int) / 2 ^ (8 * 4) = 0 := by
                    have : (s32 : Int) < 4294967296 := by omega
                    exact Int.ediv_eq_zero_of_lt (by omega) this
                  clear hj hlt
                  go_wp2_with fail
                  refine (put_ok none 0 [] (s32 : Int) 4 U U.heap.size (by omega) (by omega) (by omega) hs0 (by simp) (Nat.le_refl _) (.inl ⟨⟨none, 0, rfl, fun _ => rfl⟩, rfl⟩)).mono ?_
                  rintro e w12 ⟨r12, rfl, o12, b12⟩
                  obtain ⟨a12, c12, hr12⟩ : ∃ a c, r12 = .slice a 4 c := by
                    rcases o12.2 with ⟨_, e0⟩ | ⟨g, c, cur, e, _⟩
                    · simp at e0
                    · exact ⟨_, _, e⟩
                  subst hr12
                  have bb12 := bb11.trans (b12.mono bb11.size)
                  clear o12 hs0
                  go_wp2_with fail
                  refine (wakes_any _).mono ?_
                  rintro e w13 ⟨rfl, hw⟩
                  go_wp2
                  go_ret
                  have bA : Below w.heap.size w V := b1.trans (bb7.mono b1.size)
                  have bB := bA.trans (bb12.mono bA.size)
                  exact ⟨rfl, bB.trans (hw.mono bB.size)⟩

set_option maxRecDepth 100000 in
set_option maxHeartbeats 2000000 in
theorem crcRest_long (a : Option Addr) (n cap : Nat) (w : World) (h : 60 < n) :
    Calls Try.prog 7 #[.slice a n cap] w fun e w' => e = .returned (.bool true) ∧ Below w.heap.size w w' := by
  go_enter Try.func7, Try.ntmps7
  go_wp2
  go_ret
  exact ⟨rfl, Below.refl _ _⟩

/-- The law, of whatever text. -/
theorem crcRest_walk (a0 : Option Addr) (len0 cap0 : Nat) (z0 : List Int) (w : World) (w0 : IsRow .u8 w a0 len0 cap0 z0) :
    Calls Try.prog 7 #[.slice a0 len0 cap0] w fun e w' => e = .returned (.bool true) ∧ Below w.heap.size w w' := by
  obtain ⟨xs, rfl, hx, bx⟩ := holds_of_isRow w0
  by_cases h : 60 < xs.length
  · exact crcRest_long a0 _ cap0 w h
  · exact crcRest_short a0 cap0 xs (by omega) (bytes_bd bx) w hx

end Go.Proofs.Ytplobmkfmflkaaa
