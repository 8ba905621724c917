/-
  CrcLinear: the walk: whatever the three texts, the law answers true, and nothing that lay has turned.
-/
import Derived.Test.YtplobmkfmflkaabCrcWakes
import Derived.Test.YtplobmkfmflkaabCrcText
import Derived.Test.YtplobmkfmflkaabByteRow
import Derived.RegionTactic
import Derived.BigRegion
import Derived.Lib.MinMax
namespace Go.Proofs.Ytplobmkfmflkaab
open Go.RowKit

theorem isRow_cap {k : IntKind} {w : World} {a : Option Addr} {len cap : Nat} {zs : List Int} (h : IsRow k w a len cap zs) : len ≤ cap := by
  rcases h with ⟨_, rfl, _, _⟩ | ⟨_, _, h, _⟩
  · omega
  · exact h

set_option maxRecDepth 100000 in
set_option maxHeartbeats 4000000 in
theorem crcLinear_short (a b c : Option Addr) (la lb lc ca cb cc n : Nat) (A B C : List Int) (h1 : la ≤ 300) (h2 : lb ≤ 300) (h3 : lc ≤ 300) (e1 : la ≤ ca) (e2 : lb ≤ cb) (e3 : lc ≤ cc) (hn : n = min la (min lb lc))
    (hA : A.length = n) (hB : B.length = n) (hC : C.length = n) (bA : ∀ z ∈ A, 0 ≤ z ∧ z ≤ 255) (bB : ∀ z ∈ B, 0 ≤ z ∧ z ≤ 255) (bC : ∀ z ∈ C, 0 ≤ z ∧ z ≤ 255) (w : World)
    (ha : Holds .u8 w.heap.size w (.slice a n ca) A) (hb : Holds .u8 w.heap.size w (.slice b n cb) B) (hc : Holds .u8 w.heap.size w (.slice c n cc) C) :
    Calls Try.prog 3 #[.slice a la ca, .slice b lb cb, .slice c lc cc] w fun e w' => e = .returned (.bool true) ∧ Below w.heap.size w w' := by
  obtain ⟨i0, hi, hz0, hz1, hz2⟩ := info_parts infoU8
  have emin : min (la : Int) (min (lb : Int) (lc : Int)) = (n : Int) := by omega
  have k1 : n ≤ la := by omega
  have k2 : n ≤ lb := by omega
  have k3 : n ≤ lc := by omega
  have HLA : Hid (A.length = n) := hA
  have HLB : Hid (B.length = n) := hB
  have HLC : Hid (C.length = n) := hC
  have HBA : Hid (∀ z ∈ A, 0 ≤ z ∧ z ≤ 255) := bA
  have HBB : Hid (∀ z ∈ B, 0 ≤ z ∧ z ≤ 255) := bB
  have HBC : Hid (∀ z ∈ C, 0 ≤ z ∧ z ≤ 255) := bC
  have s16 := sum16_linear A B C (hA.trans hB.symm) (hB.trans hC.symm)
  have s32 := sum32_linear A B C (hA.trans hB.symm) (hB.trans hC.symm)
  obtain ⟨Z, hZ⟩ : ∃ Z, xorText (xorText A B) C = Z := ⟨_, rfl⟩
  have HZL : Hid (Z.length = n) := by
    have := xorText_len (xorText A B) C ((xorText_len A B (hA.trans hB.symm)).trans (hB.trans hC.symm))
    rw [hZ] at this; exact this.trans hC
  have bZ : ∀ z ∈ Z, 0 ≤ z ∧ z ≤ 255 := hZ ▸ xorText_bd (xorText_bd bA bB) bC
  have HBZ : Hid (∀ z ∈ Z, 0 ≤ z ∧ z ≤ 255) := bZ
  have l16 : Hid (sum16 A < 65536 ∧ sum16 B < 65536 ∧ sum16 C < 65536) := ⟨sum16_lt _, sum16_lt _, sum16_lt _⟩
  have l32 : Hid (sum32 A < 4294967296 ∧ sum32 B < 4294967296 ∧ sum32 C < 4294967296) := ⟨sum32_lt _, sum32_lt _, sum32_lt _⟩
  have HZG : Hid (∀ k x y z : Nat, A[k]? = some (x : Int) → B[k]? = some (y : Int) → C[k]? = some (z : Int) → Z[k]? = some (((x ^^^ y) ^^^ z : Nat) : Int)) := by
    intro k x y z hx hy hz
    rw [← hZ]
    exact xorText_get (xorText_get hx hy) hz
  rw [hZ] at s16 s32
  have HS16 : Hid _ := s16
  have HS32 : Hid _ := s32
  clear hA hB hC bA bB bC hn s16 s32 hZ bZ
  go_enter Try.func3, Try.ntmps3
  go_wp2_with (at_make; refine wpList_make_full _ rfl _ _ 22 rfl w.heap.size 5 i0 (.int .u8 0) 1 Try.underlying22 hi hz0 hz1 .i64 .i64 _ _ n rfl rfl rfl rfl (by rw [hz2]; omega) (by unfold maxLen; omega) (Nat.le_refl _) ?_; intro w1 hown1 hgrow1)
  have b1 : Below w.heap.size w w1 := (Below.refl _ w).grown hgrow1 (Nat.le_refl _) (fun k e => by cases e)
  have hown2 : w1.ownsRow w.heap.size 5 1 (.slice (some ⟨w.heap.size, 0, none⟩) n n) n ((List.replicate n (0 : Int)).map (Value.int .u8)) := by
    rw [show (Value.int IntKind.u8 0).cells = #[.int .u8 0] from rfl, toList_madeCells_one, Nat.mul_one] at hown1
    rw [List.map_replicate]; exact hown1
  have hr1 : BRow w1 w.heap.size (Z.take 0 ++ List.replicate (n - 0) 0) := by
    rw [List.take_zero, List.nil_append, Nat.sub_zero]
    exact .of_own hown2
  clear hown1 hown2 hgrow1
  go_loopw [9] (fun i wr => ∃ k : Nat, k ≤ n ∧ i = .int .i64 k ∧ BRow wr w.heap.size (Z.take k ++ List.replicate (n - k) 0) ∧ Below w.heap.size w wr) (fun i _ => n - (intOf i).toNat)
  case atStart => exact ⟨0, Nat.zero_le _, rfl, hr1, b1⟩
  case round =>
    obtain ⟨k, hk, rfl, hR, hbw⟩ := hrel
    by_cases hlt : k < n
    · obtain ⟨x, hx, hx2⟩ : ∃ x : Nat, A[k]? = some (x : Int) ∧ x < 256 := by
        have hk' : k < A.length := by rw [HLA.out]; exact hlt
        have := HBA.out _ (List.getElem_mem hk')
        exact ⟨A[k].toNat, by rw [List.getElem?_eq_getElem hk']; congr 1; omega, by omega⟩
      obtain ⟨y, hy, hy2⟩ : ∃ x : Nat, B[k]? = some (x : Int) ∧ x < 256 := by
        have hk' : k < B.length := by rw [HLB.out]; exact hlt
        have := HBB.out _ (List.getElem_mem hk')
        exact ⟨B[k].toNat, by rw [List.getElem?_eq_getElem hk']; congr 1; omega, by omega⟩
      obtain ⟨z, hz, hz2'⟩ : ∃ x : Nat, C[k]? = some (x : Int) ∧ x < 256 := by
        have hk' : k < C.length := by rw [HLC.out]; exact hlt
        have := HBC.out _ (List.getElem_mem hk')
        exact ⟨C[k].toNat, by rw [List.getElem?_eq_getElem hk']; congr 1; omega, by omega⟩
      rcases ha with ⟨_, e⟩ | ⟨ba, oa, ca', e, hba, hca⟩
      · rw [e] at hx; simp at hx
      rcases hb with ⟨_, e'⟩ | ⟨bb, ob, cb', e', hbb, hcb⟩
      · rw [e'] at hy; simp at hy
      rcases hc with ⟨_, e''⟩ | ⟨bc, oc, cc', e'', hbc, hcc⟩
      · rw [e''] at hz; simp at hz
      rw [HLA.out] at e hca
      rw [HLB.out] at e' hcb
      rw [HLC.out] at e'' hcc
      cases e
      cases e'
      cases e''
      have c1 : wr.cell? ⟨ba, oa + k, none⟩ = some (.int .u8 (x : Int)) := (hbw.cell (p := ⟨ba, oa + k, none⟩) hba).trans ((hca k hlt).trans (by rw [hx]; rfl))
      have c2 : wr.cell? ⟨bb, ob + k, none⟩ = some (.int .u8 (y : Int)) := (hbw.cell (p := ⟨bb, ob + k, none⟩) hbb).trans ((hcb k hlt).trans (by rw [hy]; rfl))
      have c3 : wr.cell? ⟨bc, oc + k, none⟩ = some (.int .u8 (z : Int)) := (hbw.cell (p := ⟨bc, oc + k, none⟩) hbc).trans ((hcc k hlt).trans (by rw [hz]; rfl))
      have hZk := HZG.out k x y z hx hy hz
      have x1 : bits .xor .u8 (x : Int) (y : Int) = ((x ^^^ y : Nat) : Int) := zu8_xor x y hx2 hy2
      have x2 : bits .xor .u8 ((x ^^^ y : Nat) : Int) (z : Int) = (((x ^^^ y) ^^^ z : Nat) : Int) := zu8_xor _ z (xor_lt (k := 8) hx2 hy2) hz2'
      obtain ⟨t, ht⟩ : ∃ t, x ^^^ y = t := ⟨_, rfl⟩
      rw [ht] at x1 x2 hZk
      obtain ⟨u, hu⟩ : ∃ u, t ^^^ z = u := ⟨_, rfl⟩
      rw [hu] at x2 hZk
      have hlen : (Z.take k ++ List.replicate (n - k) (0 : Int)).length = n := by rw [List.length_append, List.length_take, List.length_replicate, HZL.out]; omega
      have HR : Hid (BRow (wr.setCell ⟨w.heap.size, k, none⟩ (.int .u8 (u : Int))) w.heap.size (Z.take (k + 1) ++ List.replicate (n - (k + 1)) 0)) := by
        have := hR.set k (by rw [hlen]; exact hlt) (u : Int)
        rwa [over_noughts hZk hlt] at this
      obtain ⟨v0, c4⟩ : ∃ v0, wr.cell? ⟨w.heap.size, k, none⟩ = some (.int .u8 v0) := ⟨_, hR.2.1 k (by rw [hlen]; exact hlt)⟩
      have f1 := hR.2.2 k
      clear hca hcb hcc hx hy hz hZk ht hu hR hr1 b1 hlen
      go_wp2
      go_region
      go_wp2
      go_roundw
      case rel => exact ⟨k + 1, by omega, by go_num, HR.out.drewN 1, (hbw.setCell (p := ⟨w.heap.size, k, none⟩) (Nat.le_refl _) _).drew⟩
      case measure => simp [intOf]; omega
    · obtain rfl : k = n := by omega
      have hR' : BRow wr w.heap.size Z := by
        rw [List.take_of_length_le (by rw [HZL.out]; exact Nat.le_refl _), Nat.sub_self, List.replicate_zero, List.append_nil] at hR
        exact hR
      have hZ : Holds .u8 wr.heap.size wr (.slice (some ⟨w.heap.size, 0, none⟩) k k) Z := by
        have := hR'.holds hR'.1 k
        rwa [HZL.out] at this
      have ha' := ha.below hbw
      have hb' := hb.below hbw
      have hc' := hc.below hbw
      have k4 : k ≤ 4096 := by omega
      clear hR hR' ha hb hc hr1 hlt HZG b1
      go_wp2_with fail
      refine (Sum16_at a k ca A HLA.out k4 HBA.out wr _ ha').mono ?_
      rintro e w2 ⟨rfl, rfl⟩
      go_wp2_with fail
      refine (Sum16_at b k cb B HLB.out k4 HBB.out wr _ hb').mono ?_
      rintro e w2 ⟨rfl, rfl⟩
      go_wp2_with fail
      refine (Sum16_at c k cc C HLC.out k4 HBC.out wr _ hc').mono ?_
      rintro e w2 ⟨rfl, rfl⟩
      go_wp2_with fail
      refine (Sum16_at _ k k Z HZL.out k4 HBZ.out wr _ hZ).mono ?_
      rintro e w2 ⟨rfl, rfl⟩
      have p1 : bits .xor .i64 (sum16 A : Int) (sum16 B : Int) = ((sum16 A ^^^ sum16 B : Nat) : Int) := zi_xor _ _ (by have := l16.out.1; omega) (by have := l16.out.2.1; omega)
      have p2 : bits .xor .i64 ((sum16 A ^^^ sum16 B : Nat) : Int) (sum16 C : Int) = ((sum16 A ^^^ sum16 B ^^^ sum16 C : Nat) : Int) := zi_xor _ _ (by have := xor_lt (k := 16) l16.out.1 l16.out.2.1; omega) (by have := l16.out.2.2; omega)
      rw [← HS16.out] at p2
      have p3 : bits .xor .i64 (sum32 A : Int) (sum32 B : Int) = ((sum32 A ^^^ sum32 B : Nat) : Int) := zi_xor _ _ (by have := l32.out.1; omega) (by have := l32.out.2.1; omega)
      have p4 : bits .xor .i64 ((sum32 A ^^^ sum32 B : Nat) : Int) (sum32 C : Int) = ((sum32 A ^^^ sum32 B ^^^ sum32 C : Nat) : Int) := zi_xor _ _ (by have := xor_lt (k := 32) l32.out.1 l32.out.2.1; omega) (by have := l32.out.2.2; omega)
      rw [← HS32.out] at p4
      clear HS16 HS32 l16 l32
      obtain ⟨t, ht⟩ : ∃ t, sum16 A ^^^ sum16 B = t := ⟨_, rfl⟩
      rw [ht] at p1 p2
      obtain ⟨u, hu⟩ : ∃ u, sum32 A ^^^ sum32 B = u := ⟨_, rfl⟩
      rw [hu] at p3 p4
      have q1 : ((sum16 Z : Int) != (sum16 Z : Int)) = false := by simp
      clear ht hu
      go_wp2_with fail
      refine (Sum32_at a k ca A HLA.out k4 HBA.out wr _ ha').mono ?_
      rintro e w2 ⟨rfl, rfl⟩
      go_wp2_with fail
      refine (Sum32_at b k cb B HLB.out k4 HBB.out wr _ hb').mono ?_
      rintro e w2 ⟨rfl, rfl⟩
      go_wp2_with fail
      refine (Sum32_at c k cc C HLC.out k4 HBC.out wr _ hc').mono ?_
      rintro e w2 ⟨rfl, rfl⟩
      go_wp2_with fail
      refine (Sum32_at _ k k Z HZL.out k4 HBZ.out wr _ hZ).mono ?_
      rintro e w2 ⟨rfl, rfl⟩
      have q2 : ((sum32 Z : Int) == (sum32 Z : Int)) = true := by simp
      clear ha' hb' hc' hZ
      go_wp2_with fail
      refine (wakes_any _).mono ?_
      rintro e w2 ⟨rfl, hw⟩
      go_wp2
      go_ret
      exact ⟨rfl, hbw.trans (hw.mono hbw.size)⟩

set_option maxRecDepth 100000 in
set_option maxHeartbeats 2000000 in
theorem crcLinear_long (a b c : Option Addr) (la lb lc ca cb cc : Nat) (w : World) (h : 300 < la ∨ 300 < lb ∨ 300 < lc) :
    Calls Try.prog 3 #[.slice a la ca, .slice b lb cb, .slice c lc cc] w fun e w' => e = .returned (.bool true) ∧ Below w.heap.size w w' := by
  obtain ⟨n, emin⟩ : ∃ n : Int, min (la : Int) (min (lb : Int) (lc : Int)) = n := ⟨_, rfl⟩
  by_cases h1 : 300 < la
  · go_enter Try.func3, Try.ntmps3
    go_wp2
    go_ret
    exact ⟨rfl, Below.refl _ _⟩
  · by_cases h2 : 300 < lb
    · go_enter Try.func3, Try.ntmps3
      go_wp2
      go_ret
      exact ⟨rfl, Below.refl _ _⟩
    · have h3 : 300 < lc := by omega
      clear h
      go_enter Try.func3, Try.ntmps3
      go_wp2
      go_ret
      exact ⟨rfl, Below.refl _ _⟩

/-- The law, of whatever three texts. -/
theorem crcLinear_walk (a0 : Option Addr) (len0 cap0 : Nat) (z0 : List Int) (a1 : Option Addr) (len1 cap1 : Nat) (z1 : List Int) (a2 : Option Addr) (len2 cap2 : Nat) (z2 : List Int) (w : World) (w0 : IsRow .u8 w a0 len0 cap0 z0) (w1 : IsRow .u8 w a1 len1 cap1 z1) (w2 : IsRow .u8 w a2 len2 cap2 z2) :
    Calls Try.prog 3 #[.slice a0 len0 cap0, .slice a1 len1 cap1, .slice a2 len2 cap2] w fun e w' => e = .returned (.bool true) ∧ Below w.heap.size w w' := by
  obtain ⟨xs, rfl, hx, bx⟩ := holds_of_isRow w0
  obtain ⟨ys, rfl, hy, bY⟩ := holds_of_isRow w1
  obtain ⟨zs, rfl, hz, bz⟩ := holds_of_isRow w2
  by_cases h : 300 < xs.length ∨ 300 < ys.length ∨ 300 < zs.length
  · exact crcLinear_long a0 a1 a2 _ _ _ cap0 cap1 cap2 w h
  · obtain ⟨n, hn⟩ : ∃ n, n = min xs.length (min ys.length zs.length) := ⟨_, rfl⟩
    have lx : (xs.take n).length = n := by rw [List.length_take]; omega
    have ly : (ys.take n).length = n := by rw [List.length_take]; omega
    have lz : (zs.take n).length = n := by rw [List.length_take]; omega
    have tx := holds_takeB hx n (by omega)
    have ty := holds_takeB hy n (by omega)
    have tz := holds_takeB hz n (by omega)
    rw [lx] at tx
    rw [ly] at ty
    rw [lz] at tz
    exact crcLinear_short a0 a1 a2 _ _ _ cap0 cap1 cap2 n _ _ _ (by omega) (by omega) (by omega) (isRow_cap w0) (isRow_cap w1) (isRow_cap w2) hn lx ly lz (fun z hz => bytes_bd bx z (List.mem_of_mem_take hz)) (fun z hz => bytes_bd bY z (List.mem_of_mem_take hz)) (fun z hz => bytes_bd bz z (List.mem_of_mem_take hz)) w tx ty tz

end Go.Proofs.Ytplobmkfmflkaab
