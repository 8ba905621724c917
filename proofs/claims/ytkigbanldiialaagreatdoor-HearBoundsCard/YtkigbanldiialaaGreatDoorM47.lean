/-
  The laws' own guard over hear (wakes) answers true; what lay lies as it lay. (Written by tpl_hearwakes.py.)
-/
import Derived.Test.YtkigbanldiialaaGreatDoorM13
import Derived.Test.YtkigbanldiialaaGreatDoorM22
import Derived.Test.YtkigbanldiialaaGreatDoorM38
import Derived.Test.YtkigbanldiialaaGreatDoorM43
import Derived.Test.YtkigbanldiialaaGreatDoorM45
import Derived.Lib.SlBytesConst
namespace Go.Proofs.YtkigbanldiialaaGreatDoor
open Go.RowKit

theorem block_right {Z : Nat} {c : Cfg} {s m : Int} {xs : List Int} (hc : c.cB = (Z : Int)) (h : Right Z s m xs) : blockB c s (bytesB Z s m xs) = true := by
  refine (blockB_iff c s _).2 ⟨?_, isSealed_sealB _, ?_, rdS_bytes h⟩
  · rw [bytesB_len h.2.2.2.1, hc]; omega
  · rw [show c.cB.toNat = Z by rw [hc]; rfl]; exact readOk_bytes h

set_option maxRecDepth 100000 in
set_option maxHeartbeats 4000000 in
theorem hearWakes_any (w : World) (hF : Firsts w) : Calls Tryz.prog 10 #[] w fun e w' => e = .returned (.bool true) ∧ Below w.heap.size w w' := by
  have hR : Right 1 3 3 [120] := ⟨by decide, by decide, by decide, by decide, by decide⟩
  have bX : ∀ z ∈ ([120] : List Int), 0 ≤ z ∧ z ≤ 255 := by decide
  have hs1 : (w.alloc (.cells #[.int .i64 1, .int .i64 2, .int .i64 1, .int .i64 1, .int .i64 1, .int .i64 1, .int .i64 64, .int .i64 4, .int .i64 0, .int .i64 9] 23)).heap.size = w.heap.size + 1 := by simp
  have kc : (convert 24 24 (.slice (some ⟨w.heap.size + 1, 0, none⟩) 1 1)).run Tryz.prog ((w.alloc (.cells #[.int .i64 1, .int .i64 2, .int .i64 1, .int .i64 1, .int .i64 1, .int .i64 1, .int .i64 64, .int .i64 4, .int .i64 0, .int .i64 9] 23)).alloc (.cells #[.int .u8 120] 5)) = .ok (.slice (some ⟨w.heap.size + 1, 0, none⟩) 1 1) ((w.alloc (.cells #[.int .i64 1, .int .i64 2, .int .i64 1, .int .i64 1, .int .i64 1, .int .i64 1, .int .i64 64, .int .i64 4, .int .i64 0, .int .i64 9] 23)).alloc (.cells #[.int .u8 120] 5 (1, 2))) := by
    have := Lib.run_convert_bytes_const (P := Tryz.prog) (w.alloc (.cells #[.int .i64 1, .int .i64 2, .int .i64 1, .int .i64 1, .int .i64 1, .int .i64 1, .int .i64 64, .int .i64 4, .int .i64 0, .int .i64 9] 23)) 24 5 #[.int .u8 120] 1 1 Tryz.underlying24 Tryz.underlying5
    rw [hs1] at this
    exact this
  have HF0 : Hid (Firsts w) := hF
  have b2 := ((Below.refl w.heap.size w).alloc (Nat.le_refl _) (.cells #[.int .i64 1, .int .i64 2, .int .i64 1, .int .i64 1, .int .i64 1, .int .i64 1, .int .i64 64, .int .i64 4, .int .i64 0, .int .i64 9] 23)).alloc (by simp) (.cells #[.int .u8 120] 5 (1, 2))
  have xC := (Box.new w 23 #[.int .i64 1, .int .i64 2, .int .i64 1, .int .i64 1, .int .i64 1, .int .i64 1, .int .i64 64, .int .i64 4, .int .i64 0, .int .i64 9]).alloc (.cells #[.int .u8 120] 5 (1, 2))
  have HM : Calls Tryz.prog 9 #[.int .i64 1, .agg #[.int .i64 3, .int .i64 3, .slice (some ⟨w.heap.size + 1, 0, none⟩) 1 1]] ((w.alloc (.cells #[.int .i64 1, .int .i64 2, .int .i64 1, .int .i64 1, .int .i64 1, .int .i64 1, .int .i64 64, .int .i64 4, .int .i64 0, .int .i64 9] 23)).alloc (.cells #[.int .u8 120] 5 (1, 2))) fun e W' => ∃ r, e = .returned (.tuple #[r, .int .i64 0]) ∧ W'.ownsRow ((w.alloc (.cells #[.int .i64 1, .int .i64 2, .int .i64 1, .int .i64 1, .int .i64 1, .int .i64 1, .int .i64 64, .int .i64 4, .int .i64 0, .int .i64 9] 23)).alloc (.cells #[.int .u8 120] 5 (1, 2))).heap.size 5 1 r 11 ((bytesB 1 3 3 [120]).map (Value.int .u8)) ∧ Below ((w.alloc (.cells #[.int .i64 1, .int .i64 2, .int .i64 1, .int .i64 1, .int .i64 1, .int .i64 1, .int .i64 64, .int .i64 4, .int .i64 0, .int .i64 9] 23)).alloc (.cells #[.int .u8 120] 5 (1, 2))).heap.size ((w.alloc (.cells #[.int .i64 1, .int .i64 2, .int .i64 1, .int .i64 1, .int .i64 1, .int .i64 1, .int .i64 64, .int .i64 4, .int .i64 0, .int .i64 9] 23)).alloc (.cells #[.int .u8 120] 5 (1, 2))) W' := by
    have := Make_ok 1 3 3 (some ⟨(w.alloc (.cells #[.int .i64 1, .int .i64 2, .int .i64 1, .int .i64 1, .int .i64 1, .int .i64 1, .int .i64 64, .int .i64 4, .int .i64 0, .int .i64 9] 23)).heap.size, 0, none⟩) 1 [120] hR bX _ (holds_new .u8 (w.alloc (.cells #[.int .i64 1, .int .i64 2, .int .i64 1, .int .i64 1, .int .i64 1, .int .i64 1, .int .i64 64, .int .i64 4, .int .i64 0, .int .i64 9] 23)) [120] 1 5 (1, 2))
    rw [hs1] at this
    exact this
  have HBB : Hid (∀ z ∈ bytesB 1 3 3 [120], 0 ≤ z ∧ z ≤ 255) := bytesB_bd hR bX
  have HLL : Hid ((bytesB 1 3 3 [120]).length = 11) := bytesB_len (by decide)
  have HBK : Hid (blockB (Cfg.mk 1 2 1 1 1 1 64 4 0 9) 3 (bytesB 1 3 3 [120]) = true) := block_right (Z := 1) rfl hR
  obtain ⟨zs, hzs⟩ : ∃ zs, bytesB 1 3 3 [120] = zs := ⟨_, rfl⟩
  rw [hzs] at HM HBB HLL HBK
  have HN : Hid (∀ wx : World, Calls Tryz.prog 11 #[.agg #[.int .i64 1, .int .i64 2, .int .i64 1, .int .i64 1, .int .i64 1, .int .i64 1, .int .i64 64, .int .i64 4, .int .i64 0, .int .i64 9], .int .i64 3] wx fun e W' => ∃ a cap b bc, e = .returned (.tuple #[.agg #[.int .i64 3, .int .i64 (-1), .int .i64 22, .int .i64 4, .slice a 0 cap, .bool false, .slice b 0 bc], .int .i64 0]) ∧ OwnHear wx.heap.size W' (newH (Cfg.mk 1 2 1 1 1 1 64 4 0 9) 3) a cap b bc ∧ Below wx.heap.size wx W') := fun wx => by
    have := HearNew_ok (Cfg.mk 1 2 1 1 1 1 64 4 0 9) 3 rfl (by decide) wx
    rw [show segsC (Cfg.mk 1 2 1 1 1 1 64 4 0 9) = 22 by decide] at this
    exact this
  have he0 : newH (Cfg.mk 1 2 1 1 1 1 64 4 0 9) 3 = (Hr.mk 3 (-1) 22 4 [] false []) := by unfold newH; rw [show segsC (Cfg.mk 1 2 1 1 1 1 64 4 0 9) = 22 by decide]
  rw [he0] at HN
  have hk0 : okH (Cfg.mk 1 2 1 1 1 1 64 4 0 9) (Hr.mk 3 (-1) 22 4 [] false []) := by rw [← he0]; exact newH_ok rfl (by decide)
  have HK0 : Hid (okH (Cfg.mk 1 2 1 1 1 1 64 4 0 9) (Hr.mk 3 (-1) 22 4 [] false [])) := hk0
  clear he0 hk0
  have HT1 : Hid (∀ (h : Hr) (hk : okH (Cfg.mk 1 2 1 1 1 1 64 4 0 9) h) (hs : h.hS = 3) (a : Option Addr) (cap : Nat) (b : Option Addr) (bc : Nat) (xa : Option Addr) (xc : Nat) (wx : World), HearAt wx h a cap b bc → Holds .u8 wx.heap.size wx (.slice xa 64 xc) (codeL zs 0 64) → 64 ≤ xc → Firsts wx → Calls Tryz.prog 15 #[.agg #[.int .i64 1, .int .i64 2, .int .i64 1, .int .i64 1, .int .i64 1, .int .i64 1, .int .i64 64, .int .i64 4, .int .i64 0, .int .i64 9], .agg #[.int .i64 h.hS, .int .i64 h.hR, .int .i64 h.hN, .int .i64 h.hP, .slice a h.hL.length cap, .bool h.hD, .slice b h.hB.length bc], .agg #[.int .i64 3, .int .i64 0, .int .i64 0, .slice xa 64 xc]] wx fun e W' => ∃ g i a' cap' b' bc', takeH (Cfg.mk 1 2 1 1 1 1 64 4 0 9) h 0 0 (codeL zs 0 64) = (g, i) ∧ e = .returned (.tuple #[.agg #[.int .i64 g.hS, .int .i64 g.hR, .int .i64 g.hN, .int .i64 g.hP, .slice a' g.hL.length cap', .bool g.hD, .slice b' g.hB.length bc'], .bool i, .int .i64 0]) ∧ OwnHear wx.heap.size W' g a' cap' b' bc' ∧ Below wx.heap.size wx W') := fun h hk hs a cap b bc xa xc wx ha hx hxc hf => by
    have := HearTake_ok (Cfg.mk 1 2 1 1 1 1 64 4 0 9) h 0 0 (codeL zs 0 64) rfl hk ⟨by rw [hs]; decide, by decide, by decide, by rw [codeL_len]; decide, by rw [codeL_len]; decide⟩ a b cap bc xa xc wx ha (by rw [codeL_len]; exact hx) (by rw [codeL_len]; exact hxc) (codeL_bd _ _ _) hf
    rw [codeL_len, hs] at this
    rw [hs]
    refine this.mono ?_
    rintro e W' ⟨a', cap', b', bc', he, ho, hb⟩
    exact ⟨_, _, a', cap', b', bc', rfl, he, ho, hb⟩
  have HT2 : Hid (∀ (h : Hr) (hk : okH (Cfg.mk 1 2 1 1 1 1 64 4 0 9) h) (hs : h.hS = 3) (a : Option Addr) (cap : Nat) (b : Option Addr) (bc : Nat) (xa : Option Addr) (xc : Nat) (wx : World), HearAt wx h a cap b bc → Holds .u8 wx.heap.size wx (.slice xa 24 xc) (codeL zs 64 24) → 24 ≤ xc → Firsts wx → Calls Tryz.prog 15 #[.agg #[.int .i64 1, .int .i64 2, .int .i64 1, .int .i64 1, .int .i64 1, .int .i64 1, .int .i64 64, .int .i64 4, .int .i64 0, .int .i64 9], .agg #[.int .i64 h.hS, .int .i64 h.hR, .int .i64 h.hN, .int .i64 h.hP, .slice a h.hL.length cap, .bool h.hD, .slice b h.hB.length bc], .agg #[.int .i64 3, .int .i64 0, .int .i64 64, .slice xa 24 xc]] wx fun e W' => ∃ g i a' cap' b' bc', takeH (Cfg.mk 1 2 1 1 1 1 64 4 0 9) h 0 64 (codeL zs 64 24) = (g, i) ∧ e = .returned (.tuple #[.agg #[.int .i64 g.hS, .int .i64 g.hR, .int .i64 g.hN, .int .i64 g.hP, .slice a' g.hL.length cap', .bool g.hD, .slice b' g.hB.length bc'], .bool i, .int .i64 0]) ∧ OwnHear wx.heap.size W' g a' cap' b' bc' ∧ Below wx.heap.size wx W') := fun h hk hs a cap b bc xa xc wx ha hx hxc hf => by
    have := HearTake_ok (Cfg.mk 1 2 1 1 1 1 64 4 0 9) h 0 64 (codeL zs 64 24) rfl hk ⟨by rw [hs]; decide, by decide, by decide, by rw [codeL_len]; decide, by rw [codeL_len]; decide⟩ a b cap bc xa xc wx ha (by rw [codeL_len]; exact hx) (by rw [codeL_len]; exact hxc) (codeL_bd _ _ _) hf
    rw [codeL_len, hs] at this
    rw [hs]
    refine this.mono ?_
    rintro e W' ⟨a', cap', b', bc', he, ho, hb⟩
    exact ⟨_, _, a', cap', b', bc', rfl, he, ho, hb⟩
  clear hzs hR bX hs1
  replace hF := hF.next b2
  go_enter Tryz.func10, Tryz.ntmps10
  go_wp2_with fail
  refine HM.mono ?_
  rintro e w3 ⟨r3, rfl, o3, b3⟩
  obtain ⟨ra, rc, rfl⟩ := row_shapeB o3
  have bb := b2.trans (b3.mono (by simp; omega))
  replace xC := xC.next b3
  replace hF := hF.next b3
  have hZ := holds_of_row o3
  clear HM b2 b3 o3 kc
  have c0 := xC.cell 0 _ rfl
  have c1 := xC.cell 1 _ rfl
  have c2 := xC.cell 2 _ rfl
  have c3 := xC.cell 3 _ rfl
  have c4 := xC.cell 4 _ rfl
  have c5 := xC.cell 5 _ rfl
  have c6 := xC.cell 6 _ rfl
  have c7 := xC.cell 7 _ rfl
  have c8 := xC.cell 8 _ rfl
  have c9 := xC.cell 9 _ rfl
  have hltC := xC.lt
  go_wp2_with fail
  refine (HN.out _).mono ?_
  rintro e w4 ⟨a, cap, b, bc, rfl, o4, b4⟩
  clear c0 c1 c2 c3 c4 c5 c6 c7 c8 c9 hltC
  replace bb := bb.trans (b4.mono bb.size)
  replace xC := xC.next b4
  replace hF := hF.next b4
  replace hZ := hZ.next b4
  have xC4 := xC
  have hZ4 := hZ
  have b5 : Below w4.heap.size w4 (w4.alloc (.cells #[.int .i64 3, .int .i64 (-1), .int .i64 22, .int .i64 4, .slice a 0 cap, .bool false, .slice b 0 bc] 39)) := (Below.refl _ _).alloc (Nat.le_refl _) _
  have xH := Box.new w4 39 #[.int .i64 3, .int .i64 (-1), .int .i64 22, .int .i64 4, .slice a 0 cap, .bool false, .slice b 0 bc]
  replace bb := bb.trans (b5.mono bb.size)
  replace xC := xC.next b5
  replace hF := hF.next b5
  replace hZ := hZ.next b5
  have hA := (o4.next b5 (Nat.le_refl _)).at
  have hCH : w.heap.size < w4.heap.size := xC4.lt
  have hne : ¬ w4.heap.size = w.heap.size := by omega
  have hne2 : ¬ w.heap.size = w4.heap.size := by omega
  have bH : Below w4.heap.size w4 (w4.alloc (.cells #[.int .i64 3, .int .i64 (-1), .int .i64 22, .int .i64 4, .slice a 0 cap, .bool false, .slice b 0 bc] 39)) := b5
  clear b4 b5 o4 xC4
  have HE1 := Encode_row ra 11 rc zs HLL.out (by decide) (by decide) HBB.out 0 64 (by decide) _ hF hZ
  go_wp2_with fail
  refine HE1.mono ?_
  rintro e w5 ⟨r5, rfl, o5, b5⟩
  obtain ⟨xa, xc, rfl⟩ := row_shapeB o5
  replace xC := xC.next b5
  replace hF := hF.next b5
  replace xH := xH.next b5
  replace hZ := hZ.next b5
  replace hA := hA.next b5
  replace bb := bb.trans (b5.mono bb.size)
  replace bH := bH.trans (b5.mono bH.size)
  clear HE1 b5
  have hlt5 : w4.heap.size < w5.heap.size := xH.lt
  have HE2 := Encode_row ra 11 rc zs HLL.out (by decide) (by decide) HBB.out 64 24 (by decide) _ hF hZ
  go_wp2_with fail
  refine HE2.mono ?_
  rintro e w6 ⟨r6, rfl, o6, b6⟩
  obtain ⟨ya, yc, rfl⟩ := row_shapeB o6
  replace xC := xC.next b6
  replace hF := hF.next b6
  replace xH := xH.next b6
  replace hZ := hZ.next b6
  replace hA := hA.next b6
  replace bb := bb.trans (b6.mono bb.size)
  replace bH := bH.trans (b6.mono bH.size)
  have hX := (holds_of_row o5).next b6
  have hXc := row_cap1 o5
  have hs6 := b6.size
  clear HE2 b6
  have HK1 := HT1.out (Hr.mk 3 (-1) 22 4 [] false []) HK0.out rfl a cap b bc xa xc w6 hA hX hXc hF
  have c0 := xC.cell 0 _ rfl
  have c1 := xC.cell 1 _ rfl
  have c2 := xC.cell 2 _ rfl
  have c3 := xC.cell 3 _ rfl
  have c4 := xC.cell 4 _ rfl
  have c5 := xC.cell 5 _ rfl
  have c6 := xC.cell 6 _ rfl
  have c7 := xC.cell 7 _ rfl
  have c8 := xC.cell 8 _ rfl
  have c9 := xC.cell 9 _ rfl
  have h0 := xH.cell 0 _ rfl
  have h1 := xH.cell 1 _ rfl
  have h2 := xH.cell 2 _ rfl
  have h3 := xH.cell 3 _ rfl
  have h4 := xH.cell 4 _ rfl
  have h5 := xH.cell 5 _ rfl
  have h6 := xH.cell 6 _ rfl
  have hltC := xC.lt
  have hltH := xH.lt
  go_wp2_with fail
  refine HK1.mono ?_
  rintro e w7 ⟨g, i1, a7, cap7, b7, bc7, ht7, rfl, o7, k7⟩
  clear c0 c1 c2 c3 c4 c5 c6 c7 c8 c9 h0 h1 h2 h3 h4 h5 h6 hltC hltH HK1 HT1 hX hXc hA o5
  have hk7 : okH (Cfg.mk 1 2 1 1 1 1 64 4 0 9) g := by
    have := takeH_ok HK0.out (okX_code (zs := zs) (r := 0) (by decide) 0 64)
    rw [show ((0 : Nat) : Int) = 0 from rfl, ht7] at this
    exact this
  have hs7 : g.hS = 3 := by
    have := takeH_seq (Cfg.mk 1 2 1 1 1 1 64 4 0 9) (Hr.mk 3 (-1) 22 4 [] false []) 0 0 (codeL zs 0 64)
    rw [ht7] at this
    exact this
  have hi7 : i1 = (g.hD && !false) := by
    have := takeH_is (c := (Cfg.mk 1 2 1 1 1 1 64 4 0 9)) (h := Hr.mk 3 (-1) 22 4 [] false []) 0 0 (codeL zs 0 64)
    rw [ht7] at this
    exact this
  have hl7 : Along zs 0 64 g := by
    have := (along_take rfl HK0.out HBK.out HBB.out (r := 0) (by decide) (k := 0) (m := 64) (by decide) (by decide) (along_new rfl (by decide))).1
    rw [show ((0 : Nat) : Int) = 0 from rfl, ht7] at this
    exact this
  replace xC := xC.next k7
  replace hF := hF.next k7
  replace xH := xH.next k7
  replace hZ := hZ.next k7
  replace bb := bb.trans (k7.mono bb.size)
  replace bH := bH.trans (k7.mono bH.size)
  have hY := row_below o6 k7 (Nat.le_refl _)
  have hs7b := k7.size
  obtain ⟨s1, q1, N1, P1, l1, k1, z1⟩ := g
  obtain rfl : s1 = 3 := hs7
  obtain rfl : i1 = k1 := by simpa using hi7
  clear hi7 ht7 k7 o6
  have c0 := xC.cell 0 _ rfl
  have c1 := xC.cell 1 _ rfl
  have c2 := xC.cell 2 _ rfl
  have c3 := xC.cell 3 _ rfl
  have c4 := xC.cell 4 _ rfl
  have c5 := xC.cell 5 _ rfl
  have c6 := xC.cell 6 _ rfl
  have c7 := xC.cell 7 _ rfl
  have c8 := xC.cell 8 _ rfl
  have c9 := xC.cell 9 _ rfl
  have h0 := xH.cell 0 _ rfl
  have h1 := xH.cell 1 _ rfl
  have h2 := xH.cell 2 _ rfl
  have h3 := xH.cell 3 _ rfl
  have h4 := xH.cell 4 _ rfl
  have h5 := xH.cell 5 _ rfl
  have h6 := xH.cell 6 _ rfl
  have hltC := xC.lt
  have hltH := xH.lt
  have u0 := xH.free 0
  have u1 := xH.free 1
  have u2 := xH.free 2
  have u3 := xH.free 3
  have u4 := xH.free 4
  have u5 := xH.free 5
  have u6 := xH.free 6
  go_wp2_with fail
  obtain ⟨W8, hW8⟩ : ∃ W, (((((((w7.setCell ⟨w4.heap.size, 0, none⟩ (.int .i64 3)).setCell ⟨w4.heap.size, 1, none⟩ (.int .i64 q1)).setCell ⟨w4.heap.size, 2, none⟩ (.int .i64 N1)).setCell ⟨w4.heap.size, 3, none⟩ (.int .i64 P1)).setCell ⟨w4.heap.size, 4, none⟩ (.slice a7 l1.length cap7)).setCell ⟨w4.heap.size, 5, none⟩ (.bool i1)).setCell ⟨w4.heap.size, 6, none⟩ (.slice b7 z1.length bc7)) = W := ⟨_, rfl⟩
  have xC8 : Box W8 w.heap.size 23 #[.int .i64 1, .int .i64 2, .int .i64 1, .int .i64 1, .int .i64 1, .int .i64 1, .int .i64 64, .int .i64 4, .int .i64 0, .int .i64 9] := by rw [← hW8]; exact (((((((xC.other (p := ⟨w4.heap.size, 0, none⟩) (by show w.heap.size ≠ w4.heap.size; omega) _).other (p := ⟨w4.heap.size, 1, none⟩) (by show w.heap.size ≠ w4.heap.size; omega) _).other (p := ⟨w4.heap.size, 2, none⟩) (by show w.heap.size ≠ w4.heap.size; omega) _).other (p := ⟨w4.heap.size, 3, none⟩) (by show w.heap.size ≠ w4.heap.size; omega) _).other (p := ⟨w4.heap.size, 4, none⟩) (by show w.heap.size ≠ w4.heap.size; omega) _).other (p := ⟨w4.heap.size, 5, none⟩) (by show w.heap.size ≠ w4.heap.size; omega) _).other (p := ⟨w4.heap.size, 6, none⟩) (by show w.heap.size ≠ w4.heap.size; omega) _)
  have xH8 : Box W8 w4.heap.size 39 #[.int .i64 3, .int .i64 q1, .int .i64 N1, .int .i64 P1, .slice a7 l1.length cap7, .bool i1, .slice b7 z1.length bc7] := by
    rw [← hW8]
    have q9 := (((((((xH.set 0 (.int .i64 3)).set 1 (.int .i64 q1)).set 2 (.int .i64 N1)).set 3 (.int .i64 P1)).set 4 (.slice a7 l1.length cap7)).set 5 (.bool i1)).set 6 (.slice b7 z1.length bc7))
    simp only [List.setIfInBounds_toArray, List.set_cons_zero, List.set_cons_succ] at q9
    exact q9
  have bb8 : Below w.heap.size w W8 := by rw [← hW8]; exact below_set7 bb (by omega) _ _ _ _ _ _ _
  have bH8 : Below w4.heap.size w4 W8 := by rw [← hW8]; exact below_set7 bH (Nat.le_refl _) _ _ _ _ _ _ _
  have hF8 := HF0.out.next bb8
  have o8 : OwnHear w6.heap.size W8 (Hr.mk 3 q1 N1 P1 l1 i1 z1) a7 cap7 b7 bc7 := by rw [← hW8]; exact ⟨row_set7 o7.syms (by omega) _ _ _ _ _ _ _, row_set7 o7.byts (by omega) _ _ _ _ _ _ _, o7.byte⟩
  have hY8 : W8.ownsRow w5.heap.size 5 1 (.slice ya 24 yc) 24 ((codeL zs 64 24).map (Value.int .u8)) := by rw [← hW8]; exact row_set7 hY hlt5 _ _ _ _ _ _ _
  rw [hW8]
  clear c0 c1 c2 c3 c4 c5 c6 c7 c8 c9 h0 h1 h2 h3 h4 h5 h6 hltC hltH u0 u1 u2 u3 u4 u5 u6 hW8 xC xH bb bH hF hZ hY o7
  have HK2 := HT2.out (Hr.mk 3 q1 N1 P1 l1 i1 z1) hk7 rfl a7 cap7 b7 bc7 ya yc W8 o8.at (holds_of_row hY8) (row_cap1 hY8) hF8
  refine HK2.mono ?_
  rintro e w9 ⟨g, i2, a9, cap9, b9, bc9, ht9, rfl, o9, k9⟩
  have hi9 : i2 = (g.hD && !i1) := by
    have := takeH_is (c := (Cfg.mk 1 2 1 1 1 1 64 4 0 9)) (h := Hr.mk 3 q1 N1 P1 l1 i1 z1) 0 64 (codeL zs 64 24)
    rw [ht9] at this
    exact this
  have hl9 := along_take rfl hk7 HBK.out HBB.out (r := 0) (by decide) (k := 64) (m := 24) (by decide) (by decide) hl7
  rw [show ((64 : Nat) : Int) = 64 from rfl, ht9] at hl9
  have hd9 : g.hD = true := hl9.2 (by decide)
  have hB9 : g.hB = zs := hl9.1.elim (fun h => h.2) (fun h => by rw [hd9] at h; exact absurd h.1 (by simp))
  obtain ⟨s2, q2, N2, P2, l2, k2, z2⟩ := g
  obtain rfl : k2 = true := hd9
  obtain rfl : z2 = zs := hB9
  obtain rfl : i2 = !i1 := by simpa using hi9
  have xH := xH8.next k9
  have hltB : w4.heap.size < W8.heap.size := xH8.lt
  have bb9 := bb8.trans (k9.mono bb8.size)
  have bH9 := bH8.trans (k9.mono bH8.size)
  obtain ⟨W10, hW10⟩ : ∃ W, (((((((w9.setCell ⟨w4.heap.size, 0, none⟩ (.int .i64 s2)).setCell ⟨w4.heap.size, 1, none⟩ (.int .i64 q2)).setCell ⟨w4.heap.size, 2, none⟩ (.int .i64 N2)).setCell ⟨w4.heap.size, 3, none⟩ (.int .i64 P2)).setCell ⟨w4.heap.size, 4, none⟩ (.slice a9 l2.length cap9)).setCell ⟨w4.heap.size, 5, none⟩ (.bool true)).setCell ⟨w4.heap.size, 6, none⟩ (.slice b9 z2.length bc9)) = W := ⟨_, rfl⟩
  have bb10 : Below w.heap.size w W10 := by rw [← hW10]; exact below_set7 bb9 (by omega) _ _ _ _ _ _ _
  have bH10 : Below w4.heap.size w4 W10 := by rw [← hW10]; exact below_set7 bH9 (Nat.le_refl _) _ _ _ _ _ _ _
  have oB : W10.ownsRow W8.heap.size 5 1 (.slice b9 z2.length bc9) z2.length (z2.map (Value.int .u8)) := by rw [← hW10]; exact row_set7 o9.byts hltB _ _ _ _ _ _ _
  have HBY := bytes_any (.slice b9 z2.length bc9) (.slice ra 11 rc) z2 z2 _ _ W10 (by rw [HLL.out]; decide) (holds_of_row oB) (hZ4.below bH10)
  rw [decide_eq_true rfl] at HBY
  have hzl := HLL.out
  rw [hzl] at HBY hW10
  have HW10 : Hid ((((((((w9.setCell ⟨w4.heap.size, 0, none⟩ (.int .i64 s2)).setCell ⟨w4.heap.size, 1, none⟩ (.int .i64 q2)).setCell ⟨w4.heap.size, 2, none⟩ (.int .i64 N2)).setCell ⟨w4.heap.size, 3, none⟩ (.int .i64 P2)).setCell ⟨w4.heap.size, 4, none⟩ (.slice a9 l2.length cap9)).setCell ⟨w4.heap.size, 5, none⟩ (.bool true)).setCell ⟨w4.heap.size, 6, none⟩ (.slice b9 11 bc9)) = W10) := hW10
  clear hW10 oB bb9 bH9 bb8 bH8 hl9 hi9 ht9 hk7 hl7 o9 k9 o8 hY8 hF8 xH8 xC8 HT2 HK2 HN
  have h0 := xH.cell 0 _ rfl
  have h1 := xH.cell 1 _ rfl
  have h2 := xH.cell 2 _ rfl
  have h3 := xH.cell 3 _ rfl
  have h4 := xH.cell 4 _ rfl
  have h5 := xH.cell 5 _ rfl
  have h6 := xH.cell 6 _ rfl
  have hltH := xH.lt
  have u0 := xH.free 0
  have u1 := xH.free 1
  have u2 := xH.free 2
  have u3 := xH.free 3
  have u4 := xH.free 4
  have u5 := xH.free 5
  have u6 := xH.free 6
  rw [hzl]
  clear hzl
  cases i1
  all_goals
    go_wp2_with fail
    rw [HW10.out]
    refine HBY.mono ?_
    rintro e w11 ⟨rfl, nd, rfl⟩
    go_wp2
    go_ret
    exact ⟨rfl, below_drewN bb10 nd⟩

end Go.Proofs.YtkigbanldiialaaGreatDoor
