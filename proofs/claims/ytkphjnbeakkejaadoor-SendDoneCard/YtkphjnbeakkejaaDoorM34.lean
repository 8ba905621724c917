/-
  What package cut answers (mark, part, Cut). (Written by tpl_cutcode.py.)
-/
import Derived.Test.YtkphjnbeakkejaaDoorM06
import Derived.Test.YtkphjnbeakkejaaDoorM13
import Derived.Test.YtkphjnbeakkejaaDoorM30
import Derived.Deep.RegionHeldLaw
import Derived.Lib.SliceRun
namespace Go.Proofs.YtkphjnbeakkejaaDoor
open Go.RowKit

set_option maxRecDepth 100000 in
set_option maxHeartbeats 2000000 in
theorem cloneB_ok (a : Option Addr) (n cap : Nat) (zs : List Int) (hn : zs.length = n) (hl : n ≤ 4096) (w : World) (ha : Holds .u8 w.heap.size w (.slice a n cap) zs) :
    Calls Tryd.prog 52 #[.slice a n cap] w fun e W' => ∃ r, e = .returned r ∧ W'.ownsRow w.heap.size 5 1 r n (zs.map (Value.int .u8)) ∧ Below w.heap.size w W' := by
  subst hn
  have qS : ∀ (w : World) (a : Option Addr) (n c n' c' : Nat), (binOp .eql 25 (.slice a n c) (.slice none n' c')).run Tryd.prog w = .ok (.bool a.isNone) w := fun w a n c n' c' => Lib.run_eql_slice_nil w _ _ a n c n' c' Tryd.underlying25
  cases a with
  | none =>
    have h0 : zs = [] := by
      rcases ha with ⟨_, h⟩ | ⟨b, off, c, e, _⟩
      · exact h
      · simp only [Value.slice.injEq] at e; exact absurd e.1 (by simp)
    subst h0
    clear ha
    go_enter Tryd.func52, Tryd.ntmps52
    go_wp2
    go_ret
    exact ⟨_, rfl, World.ownsRow_nil _ _ _ _, Below.refl _ _⟩
  | some ad =>
    have o0 : (w.alloc (.cells #[] 5)).ownsRow w.heap.size 5 1 (.slice (some ⟨w.heap.size, 0, none⟩) 0 0) 0 (([] : List Int).map (Value.int .u8)) := World.ownsRow_made w #[] 0 (Nat.le_refl _) (Nat.zero_le _) rfl
    have b0 := (Below.refl w.heap.size w).alloc (Nat.le_refl _) (.cells #[] 5)
    obtain ⟨v3, w3, hr3, ho3, hg3⟩ := run_append_u8 (.slice (some ⟨w.heap.size, 0, none⟩) 0 0) (.slice (some ad) zs.length cap) 0 w.heap.size _ [] zs 25 (w.alloc (.cells #[] 5)) o0 (ha.below b0) (by simp) (by omega) (by omega)
    have b3 := b0.trans ((Below.refl w.heap.size _).grown hg3 (by simp) (fun q e => (o0.lt q e).1))
    have HR3 : Hid _ := hr3
    clear hr3 ha o0 hg3
    go_enter Tryd.func52, Tryd.ntmps52
    go_wp2_with (at_builtin; refine wpList_append_k rfl _ _ 25 rfl _ _ rfl rfl _ _ HR3.out ?_)
    go_ret
    refine ⟨_, rfl, ?_, b3⟩
    simpa using ho3

set_option maxRecDepth 100000 in
set_option maxHeartbeats 1000000 in
theorem cutMark_any (i n : Nat) (h : i < n) (hn : n ≤ 4096) (w : World) : Calls Tryd.prog 72 #[.int .i64 (i : Int), .int .i64 (n : Int)] w fun e w' => e = .returned (.int .i64 (markK n i)) ∧ w = w' := by
  have q1 : bits .or .i64 0 1 = 1 := by decide
  have q2 : bits .or .i64 0 2 = 2 := by decide
  have q3 : bits .or .i64 1 2 = 3 := by decide
  have HM : Hid (markK n i = (if i = 0 then 1 else 0) + (if i + 1 = n then 2 else 0)) := rfl
  generalize markK n i = M at *
  by_cases h0 : i = 0
  · subst h0
    by_cases h1 : n = 1
    · subst h1
      obtain rfl : M = 3 := HM.out
      go_enter Tryd.func72, Tryd.ntmps72
      go_wp2
      go_ret
      exact ⟨rfl, rfl⟩
    · obtain rfl : M = 1 := by rw [HM.out, if_pos rfl, if_neg (by omega)]; rfl
      have d1 : ((0 : Int) == (n : Int) - 1) = false := by simp; omega
      clear h1
      go_enter Tryd.func72, Tryd.ntmps72
      go_wp2
      go_ret
      exact ⟨rfl, rfl⟩
  · have d0 : ((i : Int) == 0) = false := by simp; omega
    by_cases h1 : i + 1 = n
    · obtain rfl : M = 2 := by rw [HM.out, if_neg h0, if_pos h1]; rfl
      have d1 : ((i : Int) == (n : Int) - 1) = true := by simp; omega
      clear h1 h0
      go_enter Tryd.func72, Tryd.ntmps72
      go_wp2
      go_ret
      exact ⟨rfl, rfl⟩
    · obtain rfl : M = 0 := by rw [HM.out, if_neg h0, if_neg h1]; rfl
      have d1 : ((i : Int) == (n : Int) - 1) = false := by simp; omega
      clear h1 h0
      go_enter Tryd.func72, Tryd.ntmps72
      go_wp2
      go_ret
      exact ⟨rfl, rfl⟩

/-- Where a text begins. -/
theorem text_from {B n i : Nat} (hB : 1 ≤ B) (h : i < blocksN B n) : n = 0 ∧ i = 0 ∨ i * B < n := by
  obtain ⟨h1, h2, h3⟩ := blocksN_bd (B := B) (L := n) hB
  by_cases h4 : 1 < blocksN B n
  · have h5 := h3 h4
    have h6 : i * B ≤ (blocksN B n - 1) * B := Nat.mul_le_mul_right _ (by omega)
    exact .inr (by omega)
  · have : i = 0 := by omega
    subst this
    rw [Nat.zero_mul]
    omega

set_option maxRecDepth 100000 in
set_option maxHeartbeats 2000000 in
theorem cutPart_ok (a : Option Addr) (n cap : Nat) (msg : List Int) (hn : msg.length = n) (hl : n ≤ 4000) (hc : n ≤ cap) (B i : Nat) (hB : 1 ≤ B) (hB2 : B ≤ 16) (hi : i < blocksN B n) (w : World) (ha : Holds .u8 w.heap.size w (.slice a n cap) msg) :
    Calls Tryd.prog 73 #[.slice a n cap, .int .i64 (i : Int), .int .i64 (B : Int)] w fun e W' => ∃ r, e = .returned r ∧ W'.ownsRow w.heap.size 5 1 r (textK B msg i).length ((textK B msg i).map (Value.int .u8)) ∧ Below w.heap.size w W' := by
  obtain ⟨X, hX⟩ : ∃ X, textK B msg i = X := ⟨_, rfl⟩
  obtain ⟨m, hm⟩ : ∃ m, X.length = m := ⟨_, rfl⟩
  have hm2 : m = min B (n - i * B) := by rw [← hm, ← hX, textK_len, hn]
  rw [hX, hm]
  rcases text_from hB hi with ⟨h0, h1⟩ | hlt
  · subst h0 h1
    obtain rfl : m = 0 := by omega
    obtain rfl : X = [] := List.length_eq_zero_iff.1 hm
    have hz : min (B : Int) 0 = 0 := by omega
    obtain rfl : msg = [] := List.length_eq_zero_iff.1 hn
    clear hX hm hm2 hn hi hl hc
    go_enter Tryd.func73, Tryd.ntmps73
    cases a with
    | none =>
      obtain rfl : cap = 0 := by
        rcases ha with ⟨⟨a, c, e, h⟩, _⟩ | ⟨b, off, c, e, _⟩
        · cases e; exact h rfl
        · simp only [Value.slice.injEq] at e; exact absurd e.1 (by simp)
      go_wp2_with fail
      refine (cloneB_ok none 0 0 [] rfl (by omega) w ha).mono ?_
      rintro e w2 ⟨r, rfl, o2, b2⟩
      go_wp2
      go_ret
      exact ⟨_, rfl, o2, b2⟩
    | some ad =>
      go_wp2_with fail
      refine (cloneB_ok (some ad) 0 cap [] rfl (by omega) w ha).mono ?_
      rintro e w2 ⟨r, rfl, o2, b2⟩
      go_wp2
      go_ret
      exact ⟨_, rfl, o2, b2⟩
  · obtain ⟨F, hF⟩ : ∃ F, i * B = F := ⟨_, rfl⟩
    rw [hF] at hlt hm2
    have e1 : (i : Int) * (B : Int) = (F : Int) := by rw [← hF]; push_cast; rfl
    have n1 : ¬ cap = F := by omega
    obtain ⟨b, off, rfl, hb, hcs⟩ : ∃ b off, a = some ⟨b, off, none⟩ ∧ b < w.heap.size ∧ ∀ j, j < n → w.cell? ⟨b, off + j, none⟩ = some (.int .u8 (msg[j]?.getD 0)) := by
      rcases ha with ⟨_, e⟩ | ⟨b, off, c, e, h1, h2⟩
      · rw [e] at hn; simp at hn; omega
      · cases e
        exact ⟨b, off, rfl, h1, fun j hj => h2 j (by omega)⟩
    have hH : ∀ c, Holds .u8 w.heap.size w (.slice (some ⟨b, off + F, none⟩) m c) X := fun c => by
      refine .inr ⟨b, off + F, c, by rw [hm], hb, fun j hj => ?_⟩
      rw [Nat.add_assoc, hcs (F + j) (by omega), ← hX]
      unfold textK
      rw [hF, List.getElem?_take, if_pos (by omega), List.getElem?_drop]
    have HC := cloneB_ok (some ⟨b, off + F, none⟩) m (cap - F) X hm (by omega) w (hH _)
    have HM : Hid (m = min B (n - F)) := hm2
    clear hm2 hX hm hn ha hH hcs hF hi
    by_cases hE : F + B ≤ n
    · obtain rfl : m = B := by have := HM.out; omega
      have z1 : min ((F : Int) + (m : Int)) (n : Int) = (F : Int) + m := by omega
      have z2 : ((F : Int) + (m : Int)).toNat - F = m := by omega
      have z3 : (F + m) - F = m := by omega
      go_enter Tryd.func73, Tryd.ntmps73
      go_wp2_with fail
      refine HC.mono ?_
      rintro e w2 ⟨r, rfl, o2, b2⟩
      go_wp2
      go_ret
      exact ⟨_, rfl, o2, b2⟩
    · obtain rfl : m = n - F := by have := HM.out; omega
      have z1 : min ((F : Int) + (B : Int)) (n : Int) = n := by omega
      go_enter Tryd.func73, Tryd.ntmps73
      go_wp2_with fail
      refine HC.mono ?_
      rintro e w2 ⟨r, rfl, o2, b2⟩
      go_wp2
      go_ret
      exact ⟨_, rfl, o2, b2⟩

/-- How many blocks, as the code counts them. -/
theorem blocks_nat {c : Cfg} {B : Nat} (hB : c.cB = (B : Int)) (n M : Nat) (hM : blocksN B n = M) (h1 : 1 ≤ B) : blocksC c n = (M : Int) := by
  subst hM
  unfold blocksC blocksN
  rw [hB]
  have : ((n : Int) + B - 1) / B = (((n + B - 1) / B : Nat) : Int) := by
    rw [show (n : Int) + B - 1 = ((n + B - 1 : Nat) : Int) by omega]
    exact (Int.natCast_ediv _ _).symm
  rw [this]
  omega

set_option maxRecDepth 100000 in
set_option maxHeartbeats 4000000 in
theorem Cut_ok (c : Cfg) (s : Int) (a : Option Addr) (n cap : Nat) (hC : okC c = true) (hn : (n : Int) ≤ c.cMsg) (hc : n ≤ cap) (msg : List Int) (hl : msg.length = n) (B M : Nat) (hCB : c.cB = (B : Int)) (hM : blocksN B n = M) (hs0 : 0 ≤ s) (hs1 : s + M ≤ 1073741824) (w : World) (ha : Holds .u8 w.heap.size w (.slice a n cap) msg) :
    Calls Tryd.prog 54 #[.agg #[.int .i64 c.cB, .int .i64 c.cBeam, .int .i64 c.cDepth, .int .i64 c.cWin, .int .i64 c.cQs, .int .i64 c.cQr, .int .i64 c.cBatch, .int .i64 c.cPass, .int .i64 c.cMsg, .int .i64 c.cSeqs], .int .i64 s, .slice a n cap] w fun e W' => ∃ v, e = .returned (.tuple #[v, .int .i64 0]) ∧ OwnBlks w.heap.size W' v (cutL B s M msg) ∧ Below w.heap.size w W' := by
  have HCB : Hid (c.cB = (B : Int)) := hCB
  have HM : Hid (blocksN B n = M) := hM
  clear hCB hM
  have b1 := (Below.refl w.heap.size w).alloc (Nat.le_refl _) (.cells #[.int .i64 c.cB, .int .i64 c.cBeam, .int .i64 c.cDepth, .int .i64 c.cWin, .int .i64 c.cQs, .int .i64 c.cQr, .int .i64 c.cBatch, .int .i64 c.cPass, .int .i64 c.cMsg, .int .i64 c.cSeqs] 23)
  have xC := Box.new w 23 #[.int .i64 c.cB, .int .i64 c.cBeam, .int .i64 c.cDepth, .int .i64 c.cWin, .int .i64 c.cQs, .int .i64 c.cQr, .int .i64 c.cBatch, .int .i64 c.cPass, .int .i64 c.cMsg, .int .i64 c.cSeqs]
  have H1 := ConfCheck_any c (w.alloc (.cells #[.int .i64 c.cB, .int .i64 c.cBeam, .int .i64 c.cDepth, .int .i64 c.cWin, .int .i64 c.cQs, .int .i64 c.cQr, .int .i64 c.cBatch, .int .i64 c.cPass, .int .i64 c.cMsg, .int .i64 c.cSeqs] 23))
  unfold checkA at H1
  rw [if_pos hC] at H1
  go_enter Tryd.func54, Tryd.ntmps54
  go_wp2_with fail
  refine H1.mono ?_
  rintro e W1 ⟨rfl, b2⟩
  have yC := xC.next b2
  have bb := b1.trans (b2.mono b1.size)
  clear H1 b1 b2 xC
  have HB := ConfBlocks_any c n W1
  have eB : blocksA c n = (M : Int) := by
    obtain ⟨h1, _, _, _, _, _, _, _, h9, _⟩ := (okC_iff c).1 hC
    unfold blocksA
    rw [if_pos ⟨hC, by omega, by omega⟩]
    have h0 := HCB.out
    exact blocks_nat HCB.out n M HM.out (by omega)
  rw [eB] at HB
  clear eB
  have d1 : decide (c.cMsg < (n : Int)) = false := decide_eq_false (by omega)
  obtain ⟨hB1, hB2, hn2, hM1, hM2⟩ : 1 ≤ B ∧ B ≤ 16 ∧ n ≤ 200 ∧ 1 ≤ M ∧ M ≤ 200 := by
    obtain ⟨h1, _, _, _, _, _, _, _, h9, _⟩ := (okC_iff c).1 hC
    have := blocksC_bd hC (n := n) (by omega) (by omega)
    have h0 := HCB.out
    rw [blocks_nat HCB.out n M HM.out (by omega)] at this
    omega
  have HL : Hid (msg.length = n) := hl
  have d2 : decide (s < 0) = false := decide_eq_false (by omega)
  have d3 : decide (1073741824 - (M : Int) < s) = false := decide_eq_false (by omega)
  obtain ⟨D, hD⟩ : ∃ D, w.heap.size = D := ⟨_, rfl⟩
  rw [hD] at yC bb ha ⊢
  have k0 := yC.cell 0 _ rfl
  have k1 := yC.cell 1 _ rfl
  have k2 := yC.cell 2 _ rfl
  have k3 := yC.cell 3 _ rfl
  have k4 := yC.cell 4 _ rfl
  have k5 := yC.cell 5 _ rfl
  have k6 := yC.cell 6 _ rfl
  have k7 := yC.cell 7 _ rfl
  have k8 := yC.cell 8 _ rfl
  have k9 := yC.cell 9 _ rfl
  obtain ⟨i0, hi0, hz0, hz1, hz2⟩ := info_parts infoBlk
  clear hn hC hl
  go_wp2_with fail
  refine HB.mono ?_
  rintro e W2 ⟨rfl, b2⟩
  have zC := yC.next b2
  replace bb := bb.trans (b2.mono (by have := bb.size; omega))
  clear b2 yC HB
  clear k0 k1 k2 k3 k4 k5 k6 k7 k8 k9
  have hlt := zC.lt
  rw [HCB.out] at zC
  go_wp2_with (at_make; refine wpList_make_full _ rfl _ _ 93 rfl (D + 1) 97 i0 _ 3 Tryd.underlying93 hi0 hz0 hz1 .i64 .i64 _ _ M rfl rfl rfl rfl (by rw [hz2]; omega) (by unfold maxLen; omega) (by omega) ?_; intro W3 hown3 hgrow3)
  have q3 : Below W2.heap.size W2 W3 := (Below.refl _ _).grown hgrow3 (Nat.le_refl _) (fun k e => by cases e)
  clear hgrow3
  have tC := zC.below q3 hlt
  generalize W2.heap.size = G at *
  have hDG : D < G := hlt
  replace hown3 : W3.ownsRow (D + 1) 97 3 (.slice (some ⟨G, 0, none⟩) M M) M (cellsK blkK (List.replicate M ((0, 0, []), [.slice none 0 0]))) := by
    have e := made_cells blkK (0, 0, []) [.slice none 0 0] #[.int .i64 0, .int .i64 0, .slice none 0 0] rfl (by decide) M
    rw [← e]
    exact hown3
  have bb3 := bb.trans (q3.mono (by omega))
  clear q3 zC bb
  go_loopw [38] (fun i wr => ∃ (k : Nat) (r : Lies Bl), k ≤ M ∧ i = .int .i64 (k : Int) ∧ r.length = M ∧ (r.take k).map Prod.fst = (cutL B s M msg).take k ∧ wr.ownsRow (D + 1) 97 3 (.slice (some ⟨G, 0, none⟩) M M) M (cellsK blkK r) ∧ OwnL blkK (D + 1) wr (r.take k) ∧ Box wr D 23 #[.int .i64 (B : Int), .int .i64 c.cBeam, .int .i64 c.cDepth, .int .i64 c.cWin, .int .i64 c.cQs, .int .i64 c.cQr, .int .i64 c.cBatch, .int .i64 c.cPass, .int .i64 c.cMsg, .int .i64 c.cSeqs] ∧ Below D w wr) (fun i _ => M - (intOf i).toNat)
  case atStart => exact ⟨0, _, Nat.zero_le _, rfl, List.length_replicate, rfl, hown3, ownL_nil _ _ _, tC, bb3⟩
  case round =>
    obtain ⟨k, r, hk, rfl, hrl, hrc, hrow, hown, xC, bw⟩ := hrel
    have HRL : Hid (r.length = M) := hrl
    have HRC : Hid ((r.take k).map Prod.fst = (cutL B s M msg).take k) := hrc
    clear hrl hrc
    by_cases hlt2 : k < M
    · have hDl : D < D + 1 := Nat.lt_succ_self _
      have hD1 : D + 1 ≤ wr.heap.size := xC.lt
      have k0 := xC.cell 0 _ rfl
      have HMK : Hid (∀ wx : World, Calls Tryd.prog 72 #[.int .i64 (k : Int), .int .i64 (M : Int)] wx fun e w' => e = .returned (.int .i64 (markK M k)) ∧ wx = w') := fun wx => cutMark_any k M hlt2 (by omega) wx
      have HPT : Hid (∀ wx : World, Below wr.heap.size wr wx → Calls Tryd.prog 73 #[.slice a n cap, .int .i64 (k : Int), .int .i64 (B : Int)] wx fun e w' => ∃ ra rc, e = .returned (.slice ra (textK B msg k).length rc) ∧ w'.ownsRow wr.heap.size 5 1 (.slice ra (textK B msg k).length rc) (textK B msg k).length ((textK B msg k).map (Value.int .u8)) ∧ Below wr.heap.size wr w') := fun wx hx => by
        refine (cutPart_ok a n cap msg HL.out (by omega) hc B k hB1 hB2 (by rw [HM.out]; exact hlt2) wx (((ha.below bw).mono (by omega)).next hx)).mono ?_
        rintro e w' ⟨r, rfl, o, b⟩
        obtain ⟨ra, rc, rfl, _⟩ := (kept_of_row o).2
        exact ⟨ra, rc, rfl, rowK_base o hx.size, hx.trans (b.mono hx.size)⟩
      have wq : IntKind.i64.wrap (s + (k : Int)) = s + (k : Int) := wraps_i64 _ (by omega) (by omega)
      go_wp2_with fail
      refine wp_region_held_drew (S := fun w' => Below (D + 1) wr w') (by kernel_rfl) ((Below.refl _ _).drew) (fun hHeld => ?_)
      refine held_take (i := 0) (d := 41) (v := ?v1) rfl rfl (by kernel_rfl) (by kernel_rfl) (by kernel_rfl) (fun _ _ _ h => h) (Or.inl ⟨by kernel_rfl, ?hy1⟩) hHeld ?rest1
      case hy1 =>
        intro wx hSw
        clear hSw
        go_simp
        with_reducible rfl
      simp only [List.setIfInBounds_toArray, List.set_cons_zero, List.set_cons_succ]
      refine held_take (i := 1) (d := 42) (v := ?v2) rfl rfl (by kernel_rfl) (by kernel_rfl) (by kernel_rfl) (fun _ _ _ h => h) (Or.inl ⟨by kernel_rfl, ?hy2⟩) hHeld ?rest2
      case hy2 =>
        intro wx hSw
        clear hSw
        go_simp
        with_reducible rfl
      simp only [List.setIfInBounds_toArray, List.set_cons_zero, List.set_cons_succ]
      refine held_take (i := 2) (d := 43) (v := ?v3) rfl rfl (by kernel_rfl) (by kernel_rfl) (by kernel_rfl) (fun _ _ _ h => h) (Or.inl ⟨by kernel_rfl, ?hy3⟩) hHeld ?rest3
      case hy3 =>
        intro wx hSw
        clear hSw
        go_simp
        with_reducible rfl
      simp only [List.setIfInBounds_toArray, List.set_cons_zero, List.set_cons_succ]
      refine held_take (i := 3) (d := 44) (v := ?v4) rfl rfl (by kernel_rfl) (by kernel_rfl) (by kernel_rfl) (fun _ _ _ h => h) (Or.inl ⟨by kernel_rfl, ?hy4⟩) hHeld ?rest4
      case hy4 =>
        intro wx hSw
        clear hSw
        go_simp
        with_reducible rfl
      simp only [List.setIfInBounds_toArray, List.set_cons_zero, List.set_cons_succ]
      refine held_take (i := 4) (d := 45) (v := ?v5) rfl rfl (by kernel_rfl) (by kernel_rfl) (by kernel_rfl) (fun _ _ _ h => h) (Or.inl ⟨by kernel_rfl, ?hy5⟩) hHeld ?rest5
      case hy5 =>
        intro wx hSw
        clear hSw
        go_simp
        with_reducible rfl
      simp only [List.setIfInBounds_toArray, List.set_cons_zero, List.set_cons_succ]
      refine held_take (i := 5) (d := 46) (v := ?v6) rfl rfl (by kernel_rfl) (by kernel_rfl) (by kernel_rfl) (fun _ _ _ h => h) (Or.inl ⟨by kernel_rfl, ?hy6⟩) hHeld ?rest6
      case hy6 =>
        intro wx hSw
        clear hSw
        go_simp
        with_reducible rfl
      simp only [List.setIfInBounds_toArray, List.set_cons_zero, List.set_cons_succ]
      refine held_take (i := 6) (d := 47) (v := ?v7) rfl rfl (by kernel_rfl) (by kernel_rfl) (by kernel_rfl) (fun _ _ _ h => h) (Or.inl ⟨by kernel_rfl, ?hy7⟩) hHeld ?rest7
      case hy7 =>
        intro wx hSw
        clear hSw
        go_simp
        with_reducible rfl
      simp only [List.setIfInBounds_toArray, List.set_cons_zero, List.set_cons_succ]
      refine held_take (i := 8) (d := 49) (v := ?v8) rfl rfl (by kernel_rfl) (by kernel_rfl) (by kernel_rfl) (fun _ _ _ h => h) (Or.inl ⟨by kernel_rfl, ?hy8⟩) hHeld ?rest8
      case hy8 =>
        intro wx hSw
        clear hSw
        go_simp
        with_reducible rfl
      simp only [List.setIfInBounds_toArray, List.set_cons_zero, List.set_cons_succ]
      refine held_take (i := 9) (d := 50) (v := ?v9) rfl rfl (by kernel_rfl) (by kernel_rfl) (by kernel_rfl) (fun _ _ _ h => h) (Or.inl ⟨by kernel_rfl, ?hy9⟩) hHeld ?rest9
      case hy9 =>
        intro wx hSw
        clear hSw
        go_simp
        with_reducible rfl
      simp only [List.setIfInBounds_toArray, List.set_cons_zero, List.set_cons_succ]
      refine held_take (i := 10) (d := 51) (v := ?v10) rfl rfl (by kernel_rfl) (by kernel_rfl) (by kernel_rfl) (fun _ _ _ h => h) (Or.inl ⟨by kernel_rfl, ?hy10⟩) hHeld ?rest10
      case hy10 =>
        intro wx hSw
        clear hSw
        go_simp
        with_reducible rfl
      simp only [List.setIfInBounds_toArray, List.set_cons_zero, List.set_cons_succ]
      refine held_take (i := 11) (d := 52) (v := ?v11) rfl rfl (by kernel_rfl) (by kernel_rfl) (by kernel_rfl) (fun _ _ _ h => h) (Or.inl ⟨by kernel_rfl, ?hy11⟩) hHeld ?rest11
      case hy11 =>
        intro wx hSw
        have q0 := (hSw.cell (p := ⟨D, 0, none⟩) hDl).trans k0
        clear hSw
        go_simp
        with_reducible rfl
      simp only [List.setIfInBounds_toArray, List.set_cons_zero, List.set_cons_succ]
      refine wpAnyH_ready (rs := [7]) (by kernel_rfl) (by simp) ?_
      refine AllReadyH.cons rfl (fun K hK => ?_) AllReadyH.nil
      go_simp
      go_wp2_with (go_at_call 72; refine (HMK.out _).mono ?_; rintro e wb ⟨rfl, rfl⟩)
      refine hK.out _ _ (hHeld) (fun hHeld => ?_)
      clear hK K
      refine wpAnyH_ready (rs := [12]) (by kernel_rfl) (by simp) ?_
      refine AllReadyH.cons rfl (fun K hK => ?_) AllReadyH.nil
      go_simp
      go_wp2_with (go_at_call 73; refine (HPT.out _ (by exact (Below.refl _ _).drew)).mono ?_; rintro e w5 ⟨ra, rc, rfl, o5, b5⟩)
      have hr5 := rowK_below hrow b5 (Nat.le_refl _)
      refine hK.out _ _ (b5.mono hD1) (fun hHeld => ?_)
      clear hK K
      refine held_take (i := 13) (d := 54) (v := ?v12) rfl rfl (by kernel_rfl) (by kernel_rfl) (by kernel_rfl) (fun _ _ _ h => h) (Or.inl ⟨by kernel_rfl, ?hy12⟩) hHeld ?rest12
      case hy12 =>
        intro wx hSw
        clear hSw
        go_simp
        with_reducible rfl
      simp only [List.setIfInBounds_toArray, List.set_cons_zero, List.set_cons_succ]
      refine held_take (i := 14) (d := 55) (v := ?v13) rfl rfl (by kernel_rfl) (by kernel_rfl) (by kernel_rfl) (fun _ _ _ h => h) (Or.inl ⟨by kernel_rfl, ?hy13⟩) hHeld ?rest13
      case hy13 =>
        intro wx hSw
        clear hSw
        go_simp
        with_reducible rfl
      simp only [List.setIfInBounds_toArray, List.set_cons_zero, List.set_cons_succ]
      refine wpAnyH_ready (rs := [15]) (by kernel_rfl) (by simp) ?_
      refine AllReadyH.cons rfl (fun K hK => ?_) AllReadyH.nil
      obtain ⟨u0, z0⟩ := row_some hr5 (k * 3) (by omega)
      obtain ⟨u1, z1⟩ := row_some hr5 (k * 3 + 1) (by omega)
      obtain ⟨u2, z2⟩ := row_some hr5 (k * 3 + 2) (by omega)
      have v0 := hr5.frozenAt (k * 3)
      have v1 := hr5.frozenAt (k * 3 + 1)
      have v2 := hr5.frozenAt (k * 3 + 2)
      go_simp
      refine hK.out _ _ (below_setCells (by omega) [.int .i64 (s + (k : Int)), .int .i64 (markK M k), .slice ra (textK B msg k).length rc] (k * 3) w5 (b5.mono hD1)) (fun hHeld => ?_)
      clear hK K
      refine wpAnyH_done (by kernel_rfl) ?_ _
      go_wp2
      refine ⟨?_, (by simp [intOf]; omega)⟩
      ·
        have hp := row_put (K := blkK) hr5 HRL.out k hlt2 ((s + (k : Int), markK M k, textK B msg k), [.slice ra (textK B msg k).length rc])
        refine ⟨k + 1, r.set k ((s + (k : Int), markK M k, textK B msg k), [.slice ra (textK B msg k).length rc]), hlt2, by go_num, (by rw [List.length_set]; exact HRL.out), ?_, hp.1, ?_, ?_, ?_⟩
        · rw [take_set_snoc (by rw [HRL.out]; exact hlt2), List.map_append, HRC.out, List.take_add_one, cutL_get hlt2]
          rfl
        · rw [take_set_snoc (by rw [HRL.out]; exact hlt2)]
          exact ((hown.next b5).snoc (x := ((s + (k : Int), markK M k, textK B msg k), [.slice ra (textK B msg k).length rc])) (subsO_one o5) (List.pairwise_singleton _ _) hD1 (fun u hu p hq g hg => (hown.lt u hu p hq g hg).2)).kept blkK_unlike hr5 hp.2
        · exact Box.cellsOther (Nat.ne_of_lt hDG) [.int .i64 (s + (k : Int)), .int .i64 (markK M k), .slice ra (textK B msg k).length rc] (k * 3) w5 (xC.next b5)
        · exact below_setCells (Nat.le_of_lt hDG) [.int .i64 (s + (k : Int)), .int .i64 (markK M k), .slice ra (textK B msg k).length rc] (k * 3) w5 (bw.trans (b5.mono (by omega)))
    · obtain rfl : k = M := by omega
      go_wp2
      go_ret2
      have e1 : r.take k = r := List.take_of_length_le (by rw [HRL.out]; exact Nat.le_refl _)
      have e2 : (cutL B s k msg).take k = cutL B s k msg := List.take_of_length_le (by rw [cutL_len]; exact Nat.le_refl _)
      rw [e1] at hown
      have e3 := HRC.out
      rw [e1, e2] at e3
      exact ⟨_, rfl, ⟨r, e3, by rw [cutL_len]; exact rowK_base (base' := w.heap.size) hrow (by omega), hown.lower (base' := w.heap.size) (by omega)⟩, by rw [hD]; exact bw⟩

end Go.Proofs.YtkphjnbeakkejaaDoor
