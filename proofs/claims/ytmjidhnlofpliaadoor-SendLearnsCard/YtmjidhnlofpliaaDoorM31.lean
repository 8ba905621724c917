/-
  What the page's Cut answers. (Written by tpl_refcut.py.)
-/
import Derived.Test.YtmjidhnlofpliaaDoorM09
import Derived.Test.YtmjidhnlofpliaaDoorM11
import Derived.Test.YtmjidhnlofpliaaDoorM17
import Derived.Test.YtmjidhnlofpliaaDoorM23
import Derived.Test.YtmjidhnlofpliaaDoorM25
import Derived.Test.YtmjidhnlofpliaaDoorM26
import Derived.Test.YtmjidhnlofpliaaDoorM27
import Derived.Test.YtmjidhnlofpliaaDoorM28
import Derived.Test.YtmjidhnlofpliaaDoorM30
import Derived.BigRegion
import Derived.Deep.RegionWith
import Derived.RegionTactic
namespace Go.Proofs.YtmjidhnlofpliaaDoor
open Go.RowKit

end Go.Proofs.YtmjidhnlofpliaaDoor

/-
  What volutekeep.Blocks answers, for all lists of blocks in memory.
-/
namespace Go.Proofs.YtmjidhnlofpliaaDoor
open Go.RowKit

end Go.Proofs.YtmjidhnlofpliaaDoor

/-
  What Cut answers, right or not, in one contract each: the code's, the page's. (Written by tpl_cutlaws.py.)
-/
namespace Go.Proofs.YtmjidhnlofpliaaDoor
open Go.RowKit

end Go.Proofs.YtmjidhnlofpliaaDoor

/-
  What send.New, Close, Confirmed answer; why a message is refused (refusal). (Written by tpl_sendcode.py.)
-/
namespace Go.Proofs.YtmjidhnlofpliaaDoor
open Go.RowKit

theorem blocks_bd {c : Cfg} (hC : okC c = true) (n : Nat) (hn : (n : Int) ≤ c.cMsg) : blocksA c n = blocksC c n ∧ 1 ≤ blocksC c n ∧ blocksC c n ≤ 200 := by
  have h := (okC_iff c).1 hC
  have hb := blocksC_bd hC (n := (n : Int)) (by omega) (by omega)
  refine ⟨?_, hb.1, hb.2.1⟩
  unfold blocksA
  rw [if_pos ⟨hC, by omega, by omega⟩]
set_option maxRecDepth 100000 in
set_option maxHeartbeats 2000000 in
theorem sendNew_ok (c : Cfg) (hC : okC c = true) (w : World) :
    Calls Tryd.prog 6 #[.agg #[.int .i64 c.cB, .int .i64 c.cBeam, .int .i64 c.cDepth, .int .i64 c.cWin, .int .i64 c.cQs, .int .i64 c.cQr, .int .i64 c.cBatch, .int .i64 c.cPass, .int .i64 c.cMsg, .int .i64 c.cSeqs]] w fun e w' => e = .returned (.tuple #[.agg #[.int .i64 c.cB, .int .i64 c.cBeam, .int .i64 c.cDepth, .int .i64 c.cWin, .int .i64 c.cQs, .int .i64 c.cQr, .int .i64 c.cBatch, .int .i64 c.cPass, .int .i64 c.cMsg, .int .i64 c.cSeqs, .bool false, .int .i64 0, .int .i64 0, .int .i64 0, .int .i64 0, .int .i64 0, .int .i64 0, .slice none 0 0, .slice none 0 0], .int .i64 0]) ∧ Below w.heap.size w w' := by
  have bb : Below w.heap.size w ((w.alloc (.cells #[.int .i64 c.cB, .int .i64 c.cBeam, .int .i64 c.cDepth, .int .i64 c.cWin, .int .i64 c.cQs, .int .i64 c.cQr, .int .i64 c.cBatch, .int .i64 c.cPass, .int .i64 c.cMsg, .int .i64 c.cSeqs] 23)).alloc (.cells #[.int .i64 0, .int .i64 0, .int .i64 0, .int .i64 0, .int .i64 0, .int .i64 0, .int .i64 0, .int .i64 0, .int .i64 0, .int .i64 0, .bool false, .int .i64 0, .int .i64 0, .int .i64 0, .int .i64 0, .int .i64 0, .int .i64 0, .slice none 0 0, .slice none 0 0] 30)) := ((Below.refl _ _).alloc (Nat.le_refl _) _).alloc (by simp) _
  have x1 : Box ((w.alloc (.cells #[.int .i64 c.cB, .int .i64 c.cBeam, .int .i64 c.cDepth, .int .i64 c.cWin, .int .i64 c.cQs, .int .i64 c.cQr, .int .i64 c.cBatch, .int .i64 c.cPass, .int .i64 c.cMsg, .int .i64 c.cSeqs] 23)).alloc (.cells #[.int .i64 0, .int .i64 0, .int .i64 0, .int .i64 0, .int .i64 0, .int .i64 0, .int .i64 0, .int .i64 0, .int .i64 0, .int .i64 0, .bool false, .int .i64 0, .int .i64 0, .int .i64 0, .int .i64 0, .int .i64 0, .int .i64 0, .slice none 0 0, .slice none 0 0] 30)) w.heap.size 23 #[.int .i64 c.cB, .int .i64 c.cBeam, .int .i64 c.cDepth, .int .i64 c.cWin, .int .i64 c.cQs, .int .i64 c.cQr, .int .i64 c.cBatch, .int .i64 c.cPass, .int .i64 c.cMsg, .int .i64 c.cSeqs] := (Box.new w 23 #[.int .i64 c.cB, .int .i64 c.cBeam, .int .i64 c.cDepth, .int .i64 c.cWin, .int .i64 c.cQs, .int .i64 c.cQr, .int .i64 c.cBatch, .int .i64 c.cPass, .int .i64 c.cMsg, .int .i64 c.cSeqs]).next ((Below.refl _ _).alloc (Nat.le_refl _) _)
  have x2 := Box.new (w.alloc (.cells #[.int .i64 c.cB, .int .i64 c.cBeam, .int .i64 c.cDepth, .int .i64 c.cWin, .int .i64 c.cQs, .int .i64 c.cQr, .int .i64 c.cBatch, .int .i64 c.cPass, .int .i64 c.cMsg, .int .i64 c.cSeqs] 23)) 30 #[.int .i64 0, .int .i64 0, .int .i64 0, .int .i64 0, .int .i64 0, .int .i64 0, .int .i64 0, .int .i64 0, .int .i64 0, .int .i64 0, .bool false, .int .i64 0, .int .i64 0, .int .i64 0, .int .i64 0, .int .i64 0, .int .i64 0, .slice none 0 0, .slice none 0 0]
  have H1 := fun wx => ConfCheck_any c wx
  unfold checkA at H1
  rw [if_pos hC] at H1
  go_enter Tryd.func6, Tryd.ntmps6
  go_wp2_with (first | (refine wpList_load_box x1 rfl 23 _ rfl rfl _ Tryd.underlying23 rfl (by kernel_rfl) ?_))
  refine (H1 _).mono ?_
  rintro e w1 ⟨rfl, b1⟩
  obtain ⟨n2, hn2⟩ : ∃ n, (w.alloc (.cells #[.int .i64 c.cB, .int .i64 c.cBeam, .int .i64 c.cDepth, .int .i64 c.cWin, .int .i64 c.cQs, .int .i64 c.cQr, .int .i64 c.cBatch, .int .i64 c.cPass, .int .i64 c.cMsg, .int .i64 c.cSeqs] 23)).heap.size = n := ⟨_, rfl⟩
  have hn2s : w.heap.size + 1 = n2 := by rw [← hn2]; simp
  replace x1 := x1.next b1
  replace x2 := x2.next b1
  replace bb := bb.trans (b1.mono bb.size)
  rw [hn2] at x2
  try rw [hn2s]
  have x2e := x2.setRow #[.int .i64 c.cB, .int .i64 c.cBeam, .int .i64 c.cDepth, .int .i64 c.cWin, .int .i64 c.cQs, .int .i64 c.cQr, .int .i64 c.cBatch, .int .i64 c.cPass, .int .i64 c.cMsg, .int .i64 c.cSeqs, .bool false, .int .i64 0, .int .i64 0, .int .i64 0, .int .i64 0, .int .i64 0, .int .i64 0, .slice none 0 0, .slice none 0 0]
  have bE := below_setRow bb (show w.heap.size ≤ n2 by omega) #[.int .i64 c.cB, .int .i64 c.cBeam, .int .i64 c.cDepth, .int .i64 c.cWin, .int .i64 c.cQs, .int .i64 c.cQr, .int .i64 c.cBatch, .int .i64 c.cPass, .int .i64 c.cMsg, .int .i64 c.cSeqs, .bool false, .int .i64 0, .int .i64 0, .int .i64 0, .int .i64 0, .int .i64 0, .int .i64 0, .slice none 0 0, .slice none 0 0]
  clear hn2 hn2s b1 H1 bb
  go_wp2_with (first | (refine wpList_load_box x1 rfl 23 _ rfl rfl _ Tryd.underlying23 rfl (by kernel_rfl) ?_) | (refine wpList_store_box x2 rfl 30 _ _ rfl rfl rfl rfl (by kernel_rfl) (by simp [Value.oneCell']) ?_))
  exact bodyPost_ret (results_boxR2 rfl _ _ rfl x2e Tryd.underlying30 rfl (by kernel_rfl)) rfl ⟨rfl, bE⟩
set_option maxRecDepth 100000 in
set_option maxHeartbeats 4000000 in
theorem sendClose_any {s : Sn} {c : Cfg} {X : Bool} {K R B N T F : Int} {E M : Nat} (hs : SnIs s c X K R B N T F E M) (hE : E ≤ 1000000) (hM : M ≤ 1000000) (hm : ∀ e ∈ s.sW, e.eB.length ≤ 4096) (ea : Option Addr) (ec : Nat) (wa : Option Addr) (wc : Nat) (w : World) (ha : SnAt w s ea E ec wa M wc) (hOK : okS s) :
    Calls Tryd.prog 11 #[.agg #[.int .i64 c.cB, .int .i64 c.cBeam, .int .i64 c.cDepth, .int .i64 c.cWin, .int .i64 c.cQs, .int .i64 c.cQr, .int .i64 c.cBatch, .int .i64 c.cPass, .int .i64 c.cMsg, .int .i64 c.cSeqs, .bool X, .int .i64 K, .int .i64 R, .int .i64 B, .int .i64 N, .int .i64 T, .int .i64 F, .slice ea E ec, .slice wa M wc]] w fun e W' => ∃ fa fc va vc, e = .returned (.tuple #[.agg #[.int .i64 c.cB, .int .i64 c.cBeam, .int .i64 c.cDepth, .int .i64 c.cWin, .int .i64 c.cQs, .int .i64 c.cQr, .int .i64 c.cBatch, .int .i64 c.cPass, .int .i64 c.cMsg, .int .i64 c.cSeqs, .bool true, .int .i64 K, .int .i64 R, .int .i64 B, .int .i64 N, .int .i64 T, .int .i64 F, .slice fa E fc, .slice va M vc], .int .i64 0]) ∧ SnOwn w.heap.size W' s fa E fc va M vc ∧ Below w.heap.size w W' := by
  have bb : Below w.heap.size w ((w.alloc (.cells #[.int .i64 c.cB, .int .i64 c.cBeam, .int .i64 c.cDepth, .int .i64 c.cWin, .int .i64 c.cQs, .int .i64 c.cQr, .int .i64 c.cBatch, .int .i64 c.cPass, .int .i64 c.cMsg, .int .i64 c.cSeqs, .bool X, .int .i64 K, .int .i64 R, .int .i64 B, .int .i64 N, .int .i64 T, .int .i64 F, .slice ea E ec, .slice wa M wc] 30)).alloc (.cells #[.int .i64 0, .int .i64 0, .int .i64 0, .int .i64 0, .int .i64 0, .int .i64 0, .int .i64 0, .int .i64 0, .int .i64 0, .int .i64 0, .bool false, .int .i64 0, .int .i64 0, .int .i64 0, .int .i64 0, .int .i64 0, .int .i64 0, .slice none 0 0, .slice none 0 0] 30)) := ((Below.refl _ _).alloc (Nat.le_refl _) _).alloc (by simp) _
  have x1 : Box ((w.alloc (.cells #[.int .i64 c.cB, .int .i64 c.cBeam, .int .i64 c.cDepth, .int .i64 c.cWin, .int .i64 c.cQs, .int .i64 c.cQr, .int .i64 c.cBatch, .int .i64 c.cPass, .int .i64 c.cMsg, .int .i64 c.cSeqs, .bool X, .int .i64 K, .int .i64 R, .int .i64 B, .int .i64 N, .int .i64 T, .int .i64 F, .slice ea E ec, .slice wa M wc] 30)).alloc (.cells #[.int .i64 0, .int .i64 0, .int .i64 0, .int .i64 0, .int .i64 0, .int .i64 0, .int .i64 0, .int .i64 0, .int .i64 0, .int .i64 0, .bool false, .int .i64 0, .int .i64 0, .int .i64 0, .int .i64 0, .int .i64 0, .int .i64 0, .slice none 0 0, .slice none 0 0] 30)) w.heap.size 30 #[.int .i64 c.cB, .int .i64 c.cBeam, .int .i64 c.cDepth, .int .i64 c.cWin, .int .i64 c.cQs, .int .i64 c.cQr, .int .i64 c.cBatch, .int .i64 c.cPass, .int .i64 c.cMsg, .int .i64 c.cSeqs, .bool X, .int .i64 K, .int .i64 R, .int .i64 B, .int .i64 N, .int .i64 T, .int .i64 F, .slice ea E ec, .slice wa M wc] := (Box.new w 30 #[.int .i64 c.cB, .int .i64 c.cBeam, .int .i64 c.cDepth, .int .i64 c.cWin, .int .i64 c.cQs, .int .i64 c.cQr, .int .i64 c.cBatch, .int .i64 c.cPass, .int .i64 c.cMsg, .int .i64 c.cSeqs, .bool X, .int .i64 K, .int .i64 R, .int .i64 B, .int .i64 N, .int .i64 T, .int .i64 F, .slice ea E ec, .slice wa M wc]).next ((Below.refl _ _).alloc (Nat.le_refl _) _)
  have x2 := Box.new (w.alloc (.cells #[.int .i64 c.cB, .int .i64 c.cBeam, .int .i64 c.cDepth, .int .i64 c.cWin, .int .i64 c.cQs, .int .i64 c.cQr, .int .i64 c.cBatch, .int .i64 c.cPass, .int .i64 c.cMsg, .int .i64 c.cSeqs, .bool X, .int .i64 K, .int .i64 R, .int .i64 B, .int .i64 N, .int .i64 T, .int .i64 F, .slice ea E ec, .slice wa M wc] 30)) 30 #[.int .i64 0, .int .i64 0, .int .i64 0, .int .i64 0, .int .i64 0, .int .i64 0, .int .i64 0, .int .i64 0, .int .i64 0, .int .i64 0, .bool false, .int .i64 0, .int .i64 0, .int .i64 0, .int .i64 0, .int .i64 0, .int .i64 0, .slice none 0 0, .slice none 0 0]
  replace ha := ha.next bb
  have H1 := fun wx hx => sendCheck_any hs hE hM hm ea ec wa wc wx hx
  have H2 := fun wx hx => sendApart_any hs hE hM hm ea ec wa wc wx hx
  have HOK : Hid (okS s) := hOK
  clear hs hm hOK
  go_enter Tryd.func11, Tryd.ntmps11
  go_wp2_with (first | (refine wpList_load_box x1 rfl 30 _ rfl rfl _ Tryd.underlying30 rfl (by kernel_rfl) ?_))
  refine (H1 _ ha).mono ?_
  rintro e w1 ⟨⟨z, rfl, hz⟩, b1⟩
  obtain rfl : z = 0 := by
    rcases hz with ⟨h, _⟩ | ⟨_, h⟩
    · exact h
    · exact (h HOK.out).elim
  obtain ⟨n2, hn2⟩ : ∃ n, (w.alloc (.cells #[.int .i64 c.cB, .int .i64 c.cBeam, .int .i64 c.cDepth, .int .i64 c.cWin, .int .i64 c.cQs, .int .i64 c.cQr, .int .i64 c.cBatch, .int .i64 c.cPass, .int .i64 c.cMsg, .int .i64 c.cSeqs, .bool X, .int .i64 K, .int .i64 R, .int .i64 B, .int .i64 N, .int .i64 T, .int .i64 F, .slice ea E ec, .slice wa M wc] 30)).heap.size = n := ⟨_, rfl⟩
  have hn2s : w.heap.size + 1 = n2 := by rw [← hn2]; simp
  rw [hn2] at x2
  try rw [hn2s]
  have HN2 : Hid (w.heap.size + 1 = n2) := hn2s
  clear hn2 hn2s
  replace x1 := x1.next b1
  replace x2 := x2.next b1
  replace ha := ha.next b1
  replace bb := bb.trans (b1.mono bb.size)
  clear b1 H1 hz
  go_wp2_with (first | (refine wpList_load_box x1 rfl 30 _ rfl rfl _ Tryd.underlying30 rfl (by kernel_rfl) ?_))
  refine (H2 _ ha).mono ?_
  rintro e w2 ⟨fa, fc, va, vc, rfl, o2, b1⟩
  have hbs := bb.size
  replace x2 := x2.next b1
  replace bb := bb.trans (b1.mono bb.size)
  replace o2 := o2.lower (base' := w.heap.size) hbs
  clear b1 H2 ha hbs x1
  have bA : Below w2.heap.size w2 (w2.alloc (.cells #[.int .i64 0, .int .i64 0, .int .i64 0, .int .i64 0, .int .i64 0, .int .i64 0, .int .i64 0, .int .i64 0, .int .i64 0, .int .i64 0, .bool false, .int .i64 0, .int .i64 0, .int .i64 0, .int .i64 0, .int .i64 0, .int .i64 0, .slice none 0 0, .slice none 0 0] 30)) := (Below.refl _ _).alloc (Nat.le_refl _) _
  have x3 := Box.new w2 30 #[.int .i64 0, .int .i64 0, .int .i64 0, .int .i64 0, .int .i64 0, .int .i64 0, .int .i64 0, .int .i64 0, .int .i64 0, .int .i64 0, .bool false, .int .i64 0, .int .i64 0, .int .i64 0, .int .i64 0, .int .i64 0, .int .i64 0, .slice none 0 0, .slice none 0 0]
  have HLx3 : Hid (n2 < w2.heap.size ∧ w.heap.size ≤ w2.heap.size) := ⟨x2.lt, bb.size⟩
  go_upto_region 5 with (first | (refine wpList_store_box x3 rfl 30 _ _ rfl rfl rfl rfl (by kernel_rfl) (by simp [Value.oneCell']) ?_))
  have bB := below_setRow bA (Nat.le_refl _) #[.int .i64 c.cB, .int .i64 c.cBeam, .int .i64 c.cDepth, .int .i64 c.cWin, .int .i64 c.cQs, .int .i64 c.cQr, .int .i64 c.cBatch, .int .i64 c.cPass, .int .i64 c.cMsg, .int .i64 c.cSeqs, .bool X, .int .i64 K, .int .i64 R, .int .i64 B, .int .i64 N, .int .i64 T, .int .i64 F, .slice fa E fc, .slice va M vc]
  replace x3 := x3.setRow #[.int .i64 c.cB, .int .i64 c.cBeam, .int .i64 c.cDepth, .int .i64 c.cWin, .int .i64 c.cQs, .int .i64 c.cQr, .int .i64 c.cBatch, .int .i64 c.cPass, .int .i64 c.cMsg, .int .i64 c.cSeqs, .bool X, .int .i64 K, .int .i64 R, .int .i64 B, .int .i64 N, .int .i64 T, .int .i64 F, .slice fa E fc, .slice va M vc]
  replace x2 := x2.next bB
  replace o2 := o2.next bB
  replace bb := bb.trans (bB.mono bb.size)
  clear bA bB
  obtain ⟨B3, hB3⟩ : ∃ k, w2.heap.size = k := ⟨_, rfl⟩
  rw [hB3] at x3 HLx3 x2 o2 bb ⊢
  clear hB3
  generalize ((w2.alloc (.cells #[.int .i64 0, .int .i64 0, .int .i64 0, .int .i64 0, .int .i64 0, .int .i64 0, .int .i64 0, .int .i64 0, .int .i64 0, .int .i64 0, .bool false, .int .i64 0, .int .i64 0, .int .i64 0, .int .i64 0, .int .i64 0, .int .i64 0, .slice none 0 0, .slice none 0 0] 30)).setRow B3 #[.int .i64 c.cB, .int .i64 c.cBeam, .int .i64 c.cDepth, .int .i64 c.cWin, .int .i64 c.cQs, .int .i64 c.cQr, .int .i64 c.cBatch, .int .i64 c.cPass, .int .i64 c.cMsg, .int .i64 c.cSeqs, .bool X, .int .i64 K, .int .i64 R, .int .i64 B, .int .i64 N, .int .i64 T, .int .i64 F, .slice fa E fc, .slice va M vc]) = w3 at *
  have cz := x3.cell 10 _ rfl
  have gz := x3.free 10
  have lz := x3.lt
  go_upto_region 6 with fail
  clear cz gz lz
  have qz : ∀ g, g ≠ B3 → (w3.setCell ⟨B3, 10, none⟩ (.bool true)).heap[g]? = w3.heap[g]? := fun g hg => Below.heap_setCell _ _ _ g hg
  replace o2 := o2.put x3 (by decide) (by decide) (by decide) qz
  replace x2 := x2.other (p := ⟨B3, 10, none⟩) (show n2 ≠ B3 by have := HLx3.out; omega) (.bool true)
  replace x3 : Box (w3.setCell ⟨B3, 10, none⟩ (.bool true)) B3 30 #[.int .i64 c.cB, .int .i64 c.cBeam, .int .i64 c.cDepth, .int .i64 c.cWin, .int .i64 c.cQs, .int .i64 c.cQr, .int .i64 c.cBatch, .int .i64 c.cPass, .int .i64 c.cMsg, .int .i64 c.cSeqs, .bool true, .int .i64 K, .int .i64 R, .int .i64 B, .int .i64 N, .int .i64 T, .int .i64 F, .slice fa E fc, .slice va M vc] := x3.set 10 _
  replace bb := bb.setCell (p := ⟨B3, 10, none⟩) (show w.heap.size ≤ B3 by have := HLx3.out; omega) (.bool true)
  clear qz
  generalize (w3.setCell ⟨B3, 10, none⟩ (.bool true)) = w4 at *
  have xE := x2.setRow #[.int .i64 c.cB, .int .i64 c.cBeam, .int .i64 c.cDepth, .int .i64 c.cWin, .int .i64 c.cQs, .int .i64 c.cQr, .int .i64 c.cBatch, .int .i64 c.cPass, .int .i64 c.cMsg, .int .i64 c.cSeqs, .bool true, .int .i64 K, .int .i64 R, .int .i64 B, .int .i64 N, .int .i64 T, .int .i64 F, .slice fa E fc, .slice va M vc]
  have bE := below_setRow bb (show w.heap.size ≤ n2 by have := HN2.out; omega) #[.int .i64 c.cB, .int .i64 c.cBeam, .int .i64 c.cDepth, .int .i64 c.cWin, .int .i64 c.cQs, .int .i64 c.cQr, .int .i64 c.cBatch, .int .i64 c.cPass, .int .i64 c.cMsg, .int .i64 c.cSeqs, .bool true, .int .i64 K, .int .i64 R, .int .i64 B, .int .i64 N, .int .i64 T, .int .i64 F, .slice fa E fc, .slice va M vc]
  have o2E := o2.put x2 (by decide) (by decide) (by decide) (fun g hg => setRow_other w4 n2 g #[.int .i64 c.cB, .int .i64 c.cBeam, .int .i64 c.cDepth, .int .i64 c.cWin, .int .i64 c.cQs, .int .i64 c.cQr, .int .i64 c.cBatch, .int .i64 c.cPass, .int .i64 c.cMsg, .int .i64 c.cSeqs, .bool true, .int .i64 K, .int .i64 R, .int .i64 B, .int .i64 N, .int .i64 T, .int .i64 F, .slice fa E fc, .slice va M vc] hg)
  clear bb o2
  go_wp2_with (first | (refine wpList_load_box x3 rfl 30 _ rfl rfl _ Tryd.underlying30 rfl (by kernel_rfl) ?_) | (refine wpList_store_box x2 rfl 30 _ _ rfl rfl rfl rfl (by kernel_rfl) (by simp [Value.oneCell']) ?_))
  exact bodyPost_ret (results_boxR2 rfl _ _ rfl xE Tryd.underlying30 rfl (by kernel_rfl)) rfl ⟨fa, fc, va, vc, rfl, o2E, bE⟩

set_option maxRecDepth 100000 in
set_option maxHeartbeats 4000000 in
theorem sendConfirmed_any {s : Sn} {c : Cfg} {X : Bool} {K R B N T F : Int} {E M : Nat} (hs : SnIs s c X K R B N T F E M) (hE : E ≤ 1000000) (hM : M ≤ 1000000) (hm : ∀ e ∈ s.sW, e.eB.length ≤ 4096) (ea : Option Addr) (ec : Nat) (wa : Option Addr) (wc : Nat) (w : World) (ha : SnAt w s ea E ec wa M wc) (v : Int) (hv : okS s ∧ v = N - (E : Int) ∨ ¬ okS s ∧ v = 0) :
    Calls Tryd.prog 13 #[.agg #[.int .i64 c.cB, .int .i64 c.cBeam, .int .i64 c.cDepth, .int .i64 c.cWin, .int .i64 c.cQs, .int .i64 c.cQr, .int .i64 c.cBatch, .int .i64 c.cPass, .int .i64 c.cMsg, .int .i64 c.cSeqs, .bool X, .int .i64 K, .int .i64 R, .int .i64 B, .int .i64 N, .int .i64 T, .int .i64 F, .slice ea E ec, .slice wa M wc]] w fun e w' => e = .returned (.int .i64 v) ∧ Below w.heap.size w w' := by
  have bb : Below w.heap.size w (w.alloc (.cells #[.int .i64 c.cB, .int .i64 c.cBeam, .int .i64 c.cDepth, .int .i64 c.cWin, .int .i64 c.cQs, .int .i64 c.cQr, .int .i64 c.cBatch, .int .i64 c.cPass, .int .i64 c.cMsg, .int .i64 c.cSeqs, .bool X, .int .i64 K, .int .i64 R, .int .i64 B, .int .i64 N, .int .i64 T, .int .i64 F, .slice ea E ec, .slice wa M wc] 30)) := (Below.refl _ _).alloc (Nat.le_refl _) _
  have x1 := Box.new w 30 #[.int .i64 c.cB, .int .i64 c.cBeam, .int .i64 c.cDepth, .int .i64 c.cWin, .int .i64 c.cQs, .int .i64 c.cQr, .int .i64 c.cBatch, .int .i64 c.cPass, .int .i64 c.cMsg, .int .i64 c.cSeqs, .bool X, .int .i64 K, .int .i64 R, .int .i64 B, .int .i64 N, .int .i64 T, .int .i64 F, .slice ea E ec, .slice wa M wc]
  replace ha := ha.next bb
  have H1 := fun wx hx => sendCheck_any hs hE hM hm ea ec wa wc wx hx
  have HNB : Hid (okS s → 0 ≤ N ∧ N ≤ 1073741824) := fun h => by
    have h1 := h.sent
    have h2 := h.most
    have h3 := h.next_bd
    rw [hs.eN] at h1 h2
    omega
  have HV : Hid (okS s ∧ v = N - (E : Int) ∨ ¬ okS s ∧ v = 0) := hv
  clear hs hm hv
  go_enter Tryd.func13, Tryd.ntmps13
  go_wp2_with (first | (refine wpList_load_box x1 rfl 30 _ rfl rfl _ Tryd.underlying30 rfl (by kernel_rfl) ?_))
  refine (H1 _ ha).mono ?_
  rintro e w1 ⟨⟨z, rfl, hz⟩, b1⟩
  replace x1 := x1.next b1
  replace bb := bb.trans (b1.mono bb.size)
  clear b1 H1
  rcases hz with ⟨rfl, h⟩ | ⟨rfl, h⟩
  · obtain ⟨_, rfl⟩ : okS s ∧ v = N - (E : Int) := by
      rcases HV.out with h' | ⟨h', _⟩
      · exact h'
      · exact (h' h).elim
    have hn := HNB.out h
    have wz : IntKind.i64.wrap (N - (E : Int)) = N - (E : Int) := by rw [IntKind.wrap_i64]; omega
    have c14 := x1.cell 14 _ rfl
    have c17 := x1.cell 17 _ rfl
    have l1 := x1.lt
    clear hn h
    go_wp2
    go_ret
    exact ⟨rfl, bb⟩
  · obtain ⟨_, rfl⟩ : ¬ okS s ∧ v = 0 := by
      rcases HV.out with ⟨h', _⟩ | h'
      · exact (h h').elim
      · exact h'
    clear h
    go_wp2
    go_ret
    exact ⟨rfl, bb⟩

/-- Why a message is refused, in the code's own numbers. -/
def errN (c : Cfg) (X : Bool) (T : Int) (E n : Nat) : Int := if X = true then 6 else if c.cMsg < (n : Int) then 7 else if c.cSeqs < T + blocksC c n then 8 else if c.cQs = (E : Int) then 9 else 0
theorem errN_iff {s : Sn} {c : Cfg} {X : Bool} {K R B N T F : Int} {E M : Nat} (hs : SnIs s c X K R B N T F E M) (hOK : okS s) (msg : List Int) (n : Nat) (hn : msg.length = n) : errN c X T E n = errS s msg := by
  have hr := hOK.room
  unfold errN errS
  rw [hs.eC, hs.lE] at *
  rw [hs.eX, hs.eT, hn]
  have : (c.cQs = (E : Int)) = (c.cQs ≤ (E : Int)) := propext ⟨fun h => by omega, fun h => by omega⟩
  simp only [this]
set_option maxRecDepth 100000 in
set_option maxHeartbeats 4000000 in
theorem sendRefusal_any (c : Cfg) (hC : okC c = true) (X : Bool) (K R B N T F : Int) (hT0 : 0 ≤ T) (hT1 : T ≤ 1073741824) (ea : Option Addr) (E ec : Nat) (wa : Option Addr) (M wc : Nat) (b : Option Addr) (n bc : Nat) (w : World) :
    Calls Tryd.prog 29 #[.agg #[.int .i64 c.cB, .int .i64 c.cBeam, .int .i64 c.cDepth, .int .i64 c.cWin, .int .i64 c.cQs, .int .i64 c.cQr, .int .i64 c.cBatch, .int .i64 c.cPass, .int .i64 c.cMsg, .int .i64 c.cSeqs, .bool X, .int .i64 K, .int .i64 R, .int .i64 B, .int .i64 N, .int .i64 T, .int .i64 F, .slice ea E ec, .slice wa M wc], .slice b n bc] w fun e w' => e = .returned (.int .i64 (errN c X T E n)) ∧ Below w.heap.size w w' := by
  have bb : Below w.heap.size w (w.alloc (.cells #[.int .i64 c.cB, .int .i64 c.cBeam, .int .i64 c.cDepth, .int .i64 c.cWin, .int .i64 c.cQs, .int .i64 c.cQr, .int .i64 c.cBatch, .int .i64 c.cPass, .int .i64 c.cMsg, .int .i64 c.cSeqs, .bool X, .int .i64 K, .int .i64 R, .int .i64 B, .int .i64 N, .int .i64 T, .int .i64 F, .slice ea E ec, .slice wa M wc] 30)) := (Below.refl _ _).alloc (Nat.le_refl _) _
  have x1 := Box.new w 30 #[.int .i64 c.cB, .int .i64 c.cBeam, .int .i64 c.cDepth, .int .i64 c.cWin, .int .i64 c.cQs, .int .i64 c.cQr, .int .i64 c.cBatch, .int .i64 c.cPass, .int .i64 c.cMsg, .int .i64 c.cSeqs, .bool X, .int .i64 K, .int .i64 R, .int .i64 B, .int .i64 N, .int .i64 T, .int .i64 F, .slice ea E ec, .slice wa M wc]
  have HC : Hid (okC c = true) := hC
  obtain ⟨f, hf⟩ : ∃ f, errN c X T E n = f := ⟨_, rfl⟩
  rw [hf]
  have HF : Hid (errN c X T E n = f) := hf
  clear hC hf
  have c10 := x1.cell 10 _ rfl
  have l1 := x1.lt
  go_enter Tryd.func29, Tryd.ntmps29
  cases X with
  | true =>
    obtain rfl : 6 = f := by rw [← HF.out]; rfl
    go_wp2
    go_ret
    exact ⟨rfl, bb⟩
  | false =>
    have c8 := x1.cell 8 _ rfl
    by_cases h1 : c.cMsg < (n : Int)
    · obtain rfl : 7 = f := by rw [← HF.out]; unfold errN; rw [if_neg (by decide), if_pos h1]
      have d1 : decide (c.cMsg < (n : Int)) = true := decide_eq_true h1
      clear h1
      go_wp2
      go_ret
      exact ⟨rfl, bb⟩
    · have d1 : decide (c.cMsg < (n : Int)) = false := decide_eq_false h1
      have H1 : Hid (c.cMsg < (n : Int) → False) := h1
      obtain ⟨e1, hB0, hB1⟩ := blocks_bd HC.out n (by omega)
      have HB := fun wx => ConfBlocks_any c (n : Int) wx
      rw [e1] at HB
      obtain ⟨q, hq⟩ : ∃ q, blocksC c (n : Int) = q := ⟨_, rfl⟩
      rw [hq] at HB hB0 hB1
      have HQ : Hid (blocksC c (n : Int) = q) := hq
      have wq : IntKind.i64.wrap (T + q) = T + q := by rw [IntKind.wrap_i64]; omega
      clear h1 e1 hq
      go_wp2
      obtain ⟨w1, hw1⟩ : ∃ W, w.alloc (.cells #[.int .i64 c.cB, .int .i64 c.cBeam, .int .i64 c.cDepth, .int .i64 c.cWin, .int .i64 c.cQs, .int .i64 c.cQr, .int .i64 c.cBatch, .int .i64 c.cPass, .int .i64 c.cMsg, .int .i64 c.cSeqs, .bool false, .int .i64 K, .int .i64 R, .int .i64 B, .int .i64 N, .int .i64 T, .int .i64 F, .slice ea E ec, .slice wa M wc] 30) = W := ⟨_, rfl⟩
      rw [hw1] at bb x1 l1 ⊢
      clear hw1 c10 c8
      have HX1 : Hid (Box w1 w.heap.size 30 #[.int .i64 c.cB, .int .i64 c.cBeam, .int .i64 c.cDepth, .int .i64 c.cWin, .int .i64 c.cQs, .int .i64 c.cQr, .int .i64 c.cBatch, .int .i64 c.cPass, .int .i64 c.cMsg, .int .i64 c.cSeqs, .bool false, .int .i64 K, .int .i64 R, .int .i64 B, .int .i64 N, .int .i64 T, .int .i64 F, .slice ea E ec, .slice wa M wc]) := x1
      have k0 : Hid (w1.cell? ⟨w.heap.size, 0, none⟩ = some (.int .i64 c.cB)) := x1.cell 0 _ rfl
      have k1 : Hid (w1.cell? ⟨w.heap.size, 1, none⟩ = some (.int .i64 c.cBeam)) := x1.cell 1 _ rfl
      have k2 : Hid (w1.cell? ⟨w.heap.size, 2, none⟩ = some (.int .i64 c.cDepth)) := x1.cell 2 _ rfl
      have k3 : Hid (w1.cell? ⟨w.heap.size, 3, none⟩ = some (.int .i64 c.cWin)) := x1.cell 3 _ rfl
      have k4 : Hid (w1.cell? ⟨w.heap.size, 4, none⟩ = some (.int .i64 c.cQs)) := x1.cell 4 _ rfl
      have k5 : Hid (w1.cell? ⟨w.heap.size, 5, none⟩ = some (.int .i64 c.cQr)) := x1.cell 5 _ rfl
      have k6 : Hid (w1.cell? ⟨w.heap.size, 6, none⟩ = some (.int .i64 c.cBatch)) := x1.cell 6 _ rfl
      have k7 : Hid (w1.cell? ⟨w.heap.size, 7, none⟩ = some (.int .i64 c.cPass)) := x1.cell 7 _ rfl
      have k8 : Hid (w1.cell? ⟨w.heap.size, 8, none⟩ = some (.int .i64 c.cMsg)) := x1.cell 8 _ rfl
      have k9 : Hid (w1.cell? ⟨w.heap.size, 9, none⟩ = some (.int .i64 c.cSeqs)) := x1.cell 9 _ rfl
      have k15 : Hid (w1.cell? ⟨w.heap.size, 15, none⟩ = some (.int .i64 T)) := x1.cell 15 _ rfl
      have hDS : w.heap.size ≤ w1.heap.size := bb.size
      have HBS : Hid (∀ wx : World, Below w1.heap.size w1 wx → Calls Tryd.prog 53 #[.agg #[.int .i64 c.cB, .int .i64 c.cBeam, .int .i64 c.cDepth, .int .i64 c.cWin, .int .i64 c.cQs, .int .i64 c.cQr, .int .i64 c.cBatch, .int .i64 c.cPass, .int .i64 c.cMsg, .int .i64 c.cSeqs], .int .i64 (n : Int)] wx fun e w' => e = .returned (.int .i64 q) ∧ Below w1.heap.size w1 w') := fun wx hx => (HB wx).mono fun e w' ⟨h, b⟩ => ⟨h, hx.trans (b.mono hx.size)⟩
      clear x1 HB
      by_cases h2 : c.cSeqs < T + q
      · obtain rfl : 8 = f := by rw [← HF.out]; unfold errN; rw [if_neg (by decide), if_neg H1.out, HQ.out, if_pos h2]
        have d2 : decide (c.cSeqs < T + q) = true := decide_eq_true h2
        clear h2
        refine wp_region_held_drew (S := fun w' => Below w1.heap.size w1 w') (by kernel_rfl) ((Below.refl _ _).drew) (fun hHeld => ?_)
        refine held_take (i := 0) (d := 16) (v := ?v1) rfl rfl (by kernel_rfl) (by kernel_rfl) (by kernel_rfl) (fun _ _ _ h => h) (Or.inl ⟨by kernel_rfl, ?hy1⟩) hHeld ?rest1
        case hy1 =>
          intro wx hSw
          clear hSw
          go_simp
          with_reducible rfl
        simp only [List.setIfInBounds_toArray, List.set_cons_zero, List.set_cons_succ]
        refine held_take (i := 1) (d := 17) (v := ?v2) rfl rfl (by kernel_rfl) (by kernel_rfl) (by kernel_rfl) (fun _ _ _ h => h) (Or.inl ⟨by kernel_rfl, ?hy2⟩) hHeld ?rest2
        case hy2 =>
          intro wx hSw
          have q0 := (hSw.cell (p := ⟨w.heap.size, 15, none⟩) l1).trans k15.out
          clear hSw
          go_simp
          with_reducible rfl
        simp only [List.setIfInBounds_toArray, List.set_cons_zero, List.set_cons_succ]
        refine held_take (i := 2) (d := 18) (v := ?v3) rfl rfl (by kernel_rfl) (by kernel_rfl) (by kernel_rfl) (fun _ _ _ h => h) (Or.inl ⟨by kernel_rfl, ?hy3⟩) hHeld ?rest3
        case hy3 =>
          intro wx hSw
          clear hSw
          go_simp
          with_reducible rfl
        simp only [List.setIfInBounds_toArray, List.set_cons_zero, List.set_cons_succ]
        refine held_take (i := 3) (d := 19) (v := ?v4) rfl rfl (by kernel_rfl) (by kernel_rfl) (by kernel_rfl) (fun _ _ _ h => h) (Or.inl ⟨by kernel_rfl, ?hy4⟩) hHeld ?rest4
        case hy4 =>
          intro wx hSw
          have q0 := (hSw.cell (p := ⟨w.heap.size, 0, none⟩) l1).trans k0.out
          have q1 := (hSw.cell (p := ⟨w.heap.size, 1, none⟩) l1).trans k1.out
          have q2 := (hSw.cell (p := ⟨w.heap.size, 2, none⟩) l1).trans k2.out
          have q3 := (hSw.cell (p := ⟨w.heap.size, 3, none⟩) l1).trans k3.out
          have q4 := (hSw.cell (p := ⟨w.heap.size, 4, none⟩) l1).trans k4.out
          have q5 := (hSw.cell (p := ⟨w.heap.size, 5, none⟩) l1).trans k5.out
          have q6 := (hSw.cell (p := ⟨w.heap.size, 6, none⟩) l1).trans k6.out
          have q7 := (hSw.cell (p := ⟨w.heap.size, 7, none⟩) l1).trans k7.out
          have q8 := (hSw.cell (p := ⟨w.heap.size, 8, none⟩) l1).trans k8.out
          have q9 := (hSw.cell (p := ⟨w.heap.size, 9, none⟩) l1).trans k9.out
          clear hSw
          go_simp
          with_reducible rfl
        simp only [List.setIfInBounds_toArray, List.set_cons_zero, List.set_cons_succ]
        refine held_take (i := 4) (d := 20) (v := ?v5) rfl rfl (by kernel_rfl) (by kernel_rfl) (by kernel_rfl) (fun _ _ _ h => h) (Or.inl ⟨by kernel_rfl, ?hy5⟩) hHeld ?rest5
        case hy5 =>
          intro wx hSw
          clear hSw
          go_simp
          with_reducible rfl
        simp only [List.setIfInBounds_toArray, List.set_cons_zero, List.set_cons_succ]
        refine held_take (i := 5) (d := 21) (v := ?v6) rfl rfl (by kernel_rfl) (by kernel_rfl) (by kernel_rfl) (fun _ _ _ h => h) (Or.inl ⟨by kernel_rfl, ?hy6⟩) hHeld ?rest6
        case hy6 =>
          intro wx hSw
          clear hSw
          go_simp
          with_reducible rfl
        simp only [List.setIfInBounds_toArray, List.set_cons_zero, List.set_cons_succ]
        refine held_take (i := 8) (d := 24) (v := ?v7) rfl rfl (by kernel_rfl) (by kernel_rfl) (by kernel_rfl) (fun _ _ _ h => h) (Or.inl ⟨by kernel_rfl, ?hy7⟩) hHeld ?rest7
        case hy7 =>
          intro wx hSw
          clear hSw
          go_simp
          with_reducible rfl
        simp only [List.setIfInBounds_toArray, List.set_cons_zero, List.set_cons_succ]
        refine held_take (i := 9) (d := 25) (v := ?v8) rfl rfl (by kernel_rfl) (by kernel_rfl) (by kernel_rfl) (fun _ _ _ h => h) (Or.inl ⟨by kernel_rfl, ?hy8⟩) hHeld ?rest8
        case hy8 =>
          intro wx hSw
          clear hSw
          go_simp
          with_reducible rfl
        simp only [List.setIfInBounds_toArray, List.set_cons_zero, List.set_cons_succ]
        refine held_take (i := 10) (d := 26) (v := ?v9) rfl rfl (by kernel_rfl) (by kernel_rfl) (by kernel_rfl) (fun _ _ _ h => h) (Or.inl ⟨by kernel_rfl, ?hy9⟩) hHeld ?rest9
        case hy9 =>
          intro wx hSw
          have q0 := (hSw.cell (p := ⟨w.heap.size, 9, none⟩) l1).trans k9.out
          clear hSw
          go_simp
          with_reducible rfl
        simp only [List.setIfInBounds_toArray, List.set_cons_zero, List.set_cons_succ]
        refine wpAnyH_ready (rs := [6]) (by kernel_rfl) (by simp) ?_
        refine AllReadyH.cons rfl (fun K hK => ?_) AllReadyH.nil
        go_simp
        go_wp2_with (go_at_call 53; refine (HBS.out _ (by exact hHeld)).mono ?_; rintro e wb ⟨rfl, b8⟩)
        refine hK.out _ _ (b8) (fun hHeld => ?_)
        clear hK K
        refine held_take (i := 7) (d := 23) (v := ?v10) rfl rfl (by kernel_rfl) (by kernel_rfl) (by kernel_rfl) (fun _ _ _ h => h) (Or.inl ⟨by kernel_rfl, ?hy10⟩) hHeld ?rest10
        case hy10 =>
          intro wx hSw
          clear hSw
          go_simp
          with_reducible rfl
        simp only [List.setIfInBounds_toArray, List.set_cons_zero, List.set_cons_succ]
        refine held_take (i := 11) (d := 27) (v := ?v11) rfl rfl (by kernel_rfl) (by kernel_rfl) (by kernel_rfl) (fun _ _ _ h => h) (Or.inl ⟨by kernel_rfl, ?hy11⟩) hHeld ?rest11
        case hy11 =>
          intro wx hSw
          clear hSw
          go_simp
          with_reducible rfl
        simp only [List.setIfInBounds_toArray, List.set_cons_zero, List.set_cons_succ]
        refine wpAnyH_ready (rs := [12]) (by kernel_rfl) (by simp) ?_
        refine AllReadyH.cons rfl (fun K hK => ?_) AllReadyH.nil
        go_simp
        refine hK.out _ _ hHeld (fun hHeld => ?_)
        clear hK K
        refine wpAnyH_done (by kernel_rfl) ?_ _
        go_wp2
        go_ret
        exact ⟨rfl, bb.trans (hHeld.mono hDS)⟩
      · have d2 : decide (c.cSeqs < T + q) = false := decide_eq_false h2
        have H2 : Hid (c.cSeqs < T + q → False) := h2
        clear h2
        refine wp_region_held_drew (S := fun w' => Below w1.heap.size w1 w') (by kernel_rfl) ((Below.refl _ _).drew) (fun hHeld => ?_)
        refine held_take (i := 0) (d := 16) (v := ?v12) rfl rfl (by kernel_rfl) (by kernel_rfl) (by kernel_rfl) (fun _ _ _ h => h) (Or.inl ⟨by kernel_rfl, ?hy12⟩) hHeld ?rest12
        case hy12 =>
          intro wx hSw
          clear hSw
          go_simp
          with_reducible rfl
        simp only [List.setIfInBounds_toArray, List.set_cons_zero, List.set_cons_succ]
        refine held_take (i := 1) (d := 17) (v := ?v13) rfl rfl (by kernel_rfl) (by kernel_rfl) (by kernel_rfl) (fun _ _ _ h => h) (Or.inl ⟨by kernel_rfl, ?hy13⟩) hHeld ?rest13
        case hy13 =>
          intro wx hSw
          have q0 := (hSw.cell (p := ⟨w.heap.size, 15, none⟩) l1).trans k15.out
          clear hSw
          go_simp
          with_reducible rfl
        simp only [List.setIfInBounds_toArray, List.set_cons_zero, List.set_cons_succ]
        refine held_take (i := 2) (d := 18) (v := ?v14) rfl rfl (by kernel_rfl) (by kernel_rfl) (by kernel_rfl) (fun _ _ _ h => h) (Or.inl ⟨by kernel_rfl, ?hy14⟩) hHeld ?rest14
        case hy14 =>
          intro wx hSw
          clear hSw
          go_simp
          with_reducible rfl
        simp only [List.setIfInBounds_toArray, List.set_cons_zero, List.set_cons_succ]
        refine held_take (i := 3) (d := 19) (v := ?v15) rfl rfl (by kernel_rfl) (by kernel_rfl) (by kernel_rfl) (fun _ _ _ h => h) (Or.inl ⟨by kernel_rfl, ?hy15⟩) hHeld ?rest15
        case hy15 =>
          intro wx hSw
          have q0 := (hSw.cell (p := ⟨w.heap.size, 0, none⟩) l1).trans k0.out
          have q1 := (hSw.cell (p := ⟨w.heap.size, 1, none⟩) l1).trans k1.out
          have q2 := (hSw.cell (p := ⟨w.heap.size, 2, none⟩) l1).trans k2.out
          have q3 := (hSw.cell (p := ⟨w.heap.size, 3, none⟩) l1).trans k3.out
          have q4 := (hSw.cell (p := ⟨w.heap.size, 4, none⟩) l1).trans k4.out
          have q5 := (hSw.cell (p := ⟨w.heap.size, 5, none⟩) l1).trans k5.out
          have q6 := (hSw.cell (p := ⟨w.heap.size, 6, none⟩) l1).trans k6.out
          have q7 := (hSw.cell (p := ⟨w.heap.size, 7, none⟩) l1).trans k7.out
          have q8 := (hSw.cell (p := ⟨w.heap.size, 8, none⟩) l1).trans k8.out
          have q9 := (hSw.cell (p := ⟨w.heap.size, 9, none⟩) l1).trans k9.out
          clear hSw
          go_simp
          with_reducible rfl
        simp only [List.setIfInBounds_toArray, List.set_cons_zero, List.set_cons_succ]
        refine held_take (i := 4) (d := 20) (v := ?v16) rfl rfl (by kernel_rfl) (by kernel_rfl) (by kernel_rfl) (fun _ _ _ h => h) (Or.inl ⟨by kernel_rfl, ?hy16⟩) hHeld ?rest16
        case hy16 =>
          intro wx hSw
          clear hSw
          go_simp
          with_reducible rfl
        simp only [List.setIfInBounds_toArray, List.set_cons_zero, List.set_cons_succ]
        refine held_take (i := 5) (d := 21) (v := ?v17) rfl rfl (by kernel_rfl) (by kernel_rfl) (by kernel_rfl) (fun _ _ _ h => h) (Or.inl ⟨by kernel_rfl, ?hy17⟩) hHeld ?rest17
        case hy17 =>
          intro wx hSw
          clear hSw
          go_simp
          with_reducible rfl
        simp only [List.setIfInBounds_toArray, List.set_cons_zero, List.set_cons_succ]
        refine held_take (i := 8) (d := 24) (v := ?v18) rfl rfl (by kernel_rfl) (by kernel_rfl) (by kernel_rfl) (fun _ _ _ h => h) (Or.inl ⟨by kernel_rfl, ?hy18⟩) hHeld ?rest18
        case hy18 =>
          intro wx hSw
          clear hSw
          go_simp
          with_reducible rfl
        simp only [List.setIfInBounds_toArray, List.set_cons_zero, List.set_cons_succ]
        refine held_take (i := 9) (d := 25) (v := ?v19) rfl rfl (by kernel_rfl) (by kernel_rfl) (by kernel_rfl) (fun _ _ _ h => h) (Or.inl ⟨by kernel_rfl, ?hy19⟩) hHeld ?rest19
        case hy19 =>
          intro wx hSw
          clear hSw
          go_simp
          with_reducible rfl
        simp only [List.setIfInBounds_toArray, List.set_cons_zero, List.set_cons_succ]
        refine held_take (i := 10) (d := 26) (v := ?v20) rfl rfl (by kernel_rfl) (by kernel_rfl) (by kernel_rfl) (fun _ _ _ h => h) (Or.inl ⟨by kernel_rfl, ?hy20⟩) hHeld ?rest20
        case hy20 =>
          intro wx hSw
          have q0 := (hSw.cell (p := ⟨w.heap.size, 9, none⟩) l1).trans k9.out
          clear hSw
          go_simp
          with_reducible rfl
        simp only [List.setIfInBounds_toArray, List.set_cons_zero, List.set_cons_succ]
        refine wpAnyH_ready (rs := [6]) (by kernel_rfl) (by simp) ?_
        refine AllReadyH.cons rfl (fun K hK => ?_) AllReadyH.nil
        go_simp
        go_wp2_with (go_at_call 53; refine (HBS.out _ (by exact hHeld)).mono ?_; rintro e wb ⟨rfl, b8⟩)
        refine hK.out _ _ (b8) (fun hHeld => ?_)
        clear hK K
        refine held_take (i := 7) (d := 23) (v := ?v21) rfl rfl (by kernel_rfl) (by kernel_rfl) (by kernel_rfl) (fun _ _ _ h => h) (Or.inl ⟨by kernel_rfl, ?hy21⟩) hHeld ?rest21
        case hy21 =>
          intro wx hSw
          clear hSw
          go_simp
          with_reducible rfl
        simp only [List.setIfInBounds_toArray, List.set_cons_zero, List.set_cons_succ]
        refine held_take (i := 11) (d := 27) (v := ?v22) rfl rfl (by kernel_rfl) (by kernel_rfl) (by kernel_rfl) (fun _ _ _ h => h) (Or.inl ⟨by kernel_rfl, ?hy22⟩) hHeld ?rest22
        case hy22 =>
          intro wx hSw
          clear hSw
          go_simp
          with_reducible rfl
        simp only [List.setIfInBounds_toArray, List.set_cons_zero, List.set_cons_succ]
        refine wpAnyH_ready (rs := [12]) (by kernel_rfl) (by simp) ?_
        refine AllReadyH.cons rfl (fun K hK => ?_) AllReadyH.nil
        go_simp
        refine hK.out _ _ hHeld (fun hHeld => ?_)
        clear hK K
        refine wpAnyH_done (by kernel_rfl) ?_ _
        replace bb := bb.trans (hHeld.mono hDS)
        have x2 := HX1.out.next hHeld
        have m17 := x2.cell 17 _ rfl
        have m4 := x2.cell 4 _ rfl
        have l2 := x2.lt
        clear hHeld x2
        by_cases h3 : c.cQs = (E : Int)
        · obtain rfl : 9 = f := by rw [← HF.out]; unfold errN; rw [if_neg (by decide), if_neg H1.out, HQ.out, if_neg H2.out, if_pos h3]
          have d3 : ((E : Int) == c.cQs) = true := by rw [beq_iff_eq]; exact h3.symm
          clear h3
          go_wp2
          go_ret
          exact ⟨rfl, bb⟩
        · obtain rfl : 0 = f := by rw [← HF.out]; unfold errN; rw [if_neg (by decide), if_neg H1.out, HQ.out, if_neg H2.out, if_neg h3]
          have d3 : ((E : Int) == c.cQs) = false := by rw [beq_eq_false_iff_ne]; exact fun h => h3 h.symm
          clear h3
          go_wp2
          go_ret
          exact ⟨rfl, bb⟩

end Go.Proofs.YtmjidhnlofpliaaDoor

/-
  What send.emits answers: the blocks of a message, of which nothing was sent. (Written by tpl_sendcode.py.)
-/
namespace Go.Proofs.YtmjidhnlofpliaaDoor
open Go.RowKit

theorem okM_new {c : Cfg} (hC : okC c = true) {s : Int} {b : List Int} {n : Nat} (hn : b.length = n) (hs : 0 ≤ s) (hs2 : s < 1073741824) (hb : (b.length : Int) = c.cB + 10) : errE c s 0 0 n = 0 := by
  have h := newM_ok hC hs hs2 hb
  unfold okM newM at h
  rw [← hn]
  exact errE_zero.2 ⟨hC, h⟩
set_option maxRecDepth 100000 in
set_option maxHeartbeats 8000000 in
theorem sendEmits_ok (c : Cfg) (hC : okC c = true) (X : Bool) (K R B N T F : Int) (hT0 : 0 ≤ T) (ea : Option Addr) (E ec : Nat) (wa : Option Addr) (M wc : Nat) (b : Option Addr) (n bc : Nat) (msg : List Int) (hn : msg.length = n) (hle : (n : Int) ≤ c.cMsg) (hcap : n ≤ bc) (bm : ∀ z ∈ msg, 0 ≤ z ∧ z ≤ 255) (Q : Nat) (hQ : blocksN c.cB.toNat n = Q) (hT1 : T + (Q : Int) ≤ 1073741824) (w : World) (hb : Holds .u8 w.heap.size w (.slice b n bc) msg) :
    Calls Tryd.prog 30 #[.agg #[.int .i64 c.cB, .int .i64 c.cBeam, .int .i64 c.cDepth, .int .i64 c.cWin, .int .i64 c.cQs, .int .i64 c.cQr, .int .i64 c.cBatch, .int .i64 c.cPass, .int .i64 c.cMsg, .int .i64 c.cSeqs, .bool X, .int .i64 K, .int .i64 R, .int .i64 B, .int .i64 N, .int .i64 T, .int .i64 F, .slice ea E ec, .slice wa M wc], .slice b n bc] w fun e W' => ∃ va vc, e = .returned (.tuple #[.slice va Q vc, .int .i64 0]) ∧ OwnEms w.heap.size W' (.slice va Q vc) (waitsB T (blocksB c T msg)) ∧ Below w.heap.size w W' := by
  have bb : Below w.heap.size w (w.alloc (.cells #[.int .i64 c.cB, .int .i64 c.cBeam, .int .i64 c.cDepth, .int .i64 c.cWin, .int .i64 c.cQs, .int .i64 c.cQr, .int .i64 c.cBatch, .int .i64 c.cPass, .int .i64 c.cMsg, .int .i64 c.cSeqs, .bool X, .int .i64 K, .int .i64 R, .int .i64 B, .int .i64 N, .int .i64 T, .int .i64 F, .slice ea E ec, .slice wa M wc] 30)) := (Below.refl _ _).alloc (Nat.le_refl _) _
  have x1 := Box.new w 30 #[.int .i64 c.cB, .int .i64 c.cBeam, .int .i64 c.cDepth, .int .i64 c.cWin, .int .i64 c.cQs, .int .i64 c.cQr, .int .i64 c.cBatch, .int .i64 c.cPass, .int .i64 c.cMsg, .int .i64 c.cSeqs, .bool X, .int .i64 K, .int .i64 R, .int .i64 B, .int .i64 N, .int .i64 T, .int .i64 F, .slice ea E ec, .slice wa M wc]
  have hcs := (okC_iff c).1 hC
  obtain ⟨hB1, hB2, hB3⟩ := conf_B hC
  obtain ⟨Z, hZ⟩ : ∃ Z, c.cB.toNat = Z := ⟨_, rfl⟩
  rw [hZ] at hQ hB1 hB2 hB3
  have hQ1 : Q ≤ 200 := by
    have := (blocksN_bd (B := Z) (L := n) hB1)
    have h9 := blocksC_nat hC n
    have h8 := (blocks_bd hC n hle).2.2
    rw [hZ, hQ] at h9
    omega
  have HCU := fun wx hx => Cut_ok c T b n bc hC hle hcap msg hn Z Q hB3.symm hQ hT0 hT1 wx hx
  have HQN : Hid (blocksN Z msg.length = Q) := by
    show blocksN Z msg.length = Q
    rw [hn]
    exact hQ
  have HC : Hid (okC c = true) := hC
  have HZ : Hid (c.cB.toNat = Z ∧ (Z : Int) = c.cB) := ⟨hZ, hB3⟩
  have HBM : Hid (∀ z ∈ msg, 0 ≤ z ∧ z ≤ 255) := bm
  have HWB : Hid (∀ k, k < Q → (waitsB T (blocksB c T msg))[k]? = some (newM (T + (k : Int)) (bytesB Z (T + (k : Int)) (markK Q k) (textK Z msg k)))) := fun k hk => by
    have h := blocksB_get (c := c) (s := T) (msg := msg) (i := k) (by rw [hZ, HQN.out]; exact hk)
    rw [hZ, HQN.out] at h
    rw [waitsB_get, h]
    rfl
  have HWL : Hid ((waitsB T (blocksB c T msg)).length = Q) := by
    show (waitsB T (blocksB c T msg)).length = Q
    rw [waitsB_len, blocksB_len, hZ, HQN.out]
  replace hb := hb.next bb
  clear hcs hZ hC bm hQ hle hB3 hcap
  have c0 := x1.cell 0 _ rfl
  have c1 := x1.cell 1 _ rfl
  have c2 := x1.cell 2 _ rfl
  have c3 := x1.cell 3 _ rfl
  have c4 := x1.cell 4 _ rfl
  have c5 := x1.cell 5 _ rfl
  have c6 := x1.cell 6 _ rfl
  have c7 := x1.cell 7 _ rfl
  have c8 := x1.cell 8 _ rfl
  have c9 := x1.cell 9 _ rfl
  have c15 := x1.cell 15 _ rfl
  have l1 := x1.lt
  go_enter Tryd.func30, Tryd.ntmps30
  go_wp2_with fail
  refine (HCU _ hb).mono ?_
  rintro e w1 ⟨v, rfl, hv, b1⟩
  obtain ⟨la, lc, rfl⟩ : ∃ la lc, v = .slice la Q lc := by
    obtain ⟨r, _, h, _⟩ := hv
    rw [cutL_len] at h
    exact row_shapeS h
  have hW := bb.size
  replace x1 := x1.next b1
  replace bb := bb.trans (b1.mono hW)
  have HV : Hid (Blks w1.heap.size w1 (.slice la Q lc) (cutL Z T Q msg)) := hv.rows
  clear b1 HCU hv hb hW l1 c0 c1 c2 c3 c4 c5 c6 c7 c8 c9 c15
  go_wp2_with fail
  go_loopw [8, 28] (fun v i wr => ∃ (k : Nat) (r : Lies Em), k ≤ Q ∧ i = .int .i64 (k : Int) ∧ Hid (r.map Prod.fst = (waitsB T (blocksB c T msg)).take k) ∧ wr.ownsRow w1.heap.size 47 5 v k (cellsK emK r) ∧ OwnL emK w1.heap.size wr r ∧ Below w1.heap.size w1 wr) (fun _ i _ => Q - (intOf i).toNat)
  case atStart => exact ⟨0, [], Nat.zero_le _, rfl, rfl, World.ownsRow_nil _ _ _ _, ownL_nil _ _ _, Below.refl _ _⟩
  case round =>
    obtain ⟨k, r, hk, rfl, HR, hrow, hown, bw⟩ := hrel
    generalize hwr : wr = w2 at *
    clear hwr
    by_cases hlt : k < Q
    · obtain ⟨b0, off, rfl, hbl, hcs⟩ := blks_at HV.out (by rw [cutL_len]; omega)
      obtain ⟨p, hp, y0, y1, y2⟩ := hcs k _ (cutL_get hlt)
      obtain ⟨z, hz⟩ : ∃ z, (textK Z msg k).length = z := ⟨_, rfl⟩
      obtain ⟨pa, pc, rfl⟩ : ∃ pa pc, p = .slice pa (textK Z msg k).length pc := hp.shape
      obtain ⟨mk, hmk⟩ : ∃ mk, markK Q k = mk := ⟨_, rfl⟩
      obtain ⟨sq, hsq⟩ : ∃ sq : Int, T + (k : Int) = sq := ⟨_, rfl⟩
      have hR := cut_right hB1 hB2 hT0 (by rw [HQN.out]; exact hT1) (i := k) (by rw [HQN.out]; exact hlt)
      rw [HQN.out] at hR
      have hwb := HWB.out k hlt
      rw [hmk, hsq] at hR hwb
      have hbx : ∀ z ∈ textK Z msg k, 0 ≤ z ∧ z ≤ 255 := fun z hz => HBM.out z (by unfold textK at hz; exact List.mem_of_mem_drop (List.mem_of_mem_take hz))
      have hy : (bytesB Z sq mk (textK Z msg k)).length = Z + 10 := bytesB_len (textK_le _ _ _)
      have hsq1 : 0 ≤ sq ∧ sq < 1073741824 := by omega
      have HER : Hid (errE c sq 0 0 (Z + 10) = 0) := okM_new HC.out hy hsq1.1 hsq1.2 (by rw [hy]; have := HZ.out.2; omega)
      have HY : Hid ((bytesB Z sq mk (textK Z msg k)).length = Z + 10) := hy
      replace hp := (hp.below bw).mono bw.size
      rw [hz] at hp y2
      rw [hmk] at y1
      rw [hsq] at y0
      have HMK : Hid (∀ wx : World, Holds .u8 wx.heap.size wx (.slice pa z pc) (textK Z msg k) → Calls Tryd.prog 55 #[.int .i64 c.cB, .agg #[.int .i64 sq, .int .i64 mk, .slice pa z pc]] wx fun e W' => ∃ xa xc, e = .returned (.tuple #[.slice xa (Z + 10) xc, .int .i64 0]) ∧ Holds .u8 W'.heap.size W' (.slice xa (Z + 10) xc) (bytesB Z sq mk (textK Z msg k)) ∧ Below wx.heap.size wx W') := fun wx hx => by
        have h := Make_ok Z sq mk pa pc (textK Z msg k) hR hbx wx (by rw [hz]; exact hx)
        rw [hz, HZ.out.2] at h
        refine h.mono ?_
        rintro e W' ⟨r9, rfl, o9, b9⟩
        obtain ⟨xa, xc, rfl⟩ := row_shapeS o9
        exact ⟨xa, xc, rfl, holds_of_row o9, b9⟩
      generalize bytesB Z sq mk (textK Z msg k) = zs at *
      have HWK : Hid ((waitsB T (blocksB c T msg))[k]? = some (newM sq zs)) := hwb
      have d0 := (bw.cell (p := ⟨b0, off + k * 3, none⟩) hbl).trans y0
      have d1 := (bw.cell (p := ⟨b0, off + k * 3 + 1, none⟩) hbl).trans y1
      have d2 := (bw.cell (p := ⟨b0, off + k * 3 + 2, none⟩) hbl).trans y2
      have hbl2 : b0 < w2.heap.size := Nat.lt_of_lt_of_le hbl bw.size
      have HPT : Hid (Holds .u8 w2.heap.size w2 (.slice pa z pc) (textK Z msg k)) := hp
      clear hz hp y0 y1 y2 hcs hmk hsq hR hbx hy hwb
      have hp : Holds .u8 w2.heap.size w2 (.slice pa z pc) (textK Z msg k) := HPT.out
      clear HPT
      have bA : Below w2.heap.size w2 (w2.alloc (.cells #[.int .i64 sq, .int .i64 mk, .slice pa z pc] 96)) := (Below.refl _ _).alloc (Nat.le_refl _) _
      have x5 := Box.new w2 96 #[.int .i64 sq, .int .i64 mk, .slice pa z pc]
      go_upto_region 8 with fail
      clear d0 d1 d2 hbl hbl2
      replace hrow := rowK_below hrow bA (Nat.le_refl _)
      replace hown := hown.next bA
      replace hp := hp.next bA
      replace bw := bw.trans (bA.mono bw.size)
      obtain ⟨B5, hB5⟩ : ∃ k, w2.heap.size = k := ⟨_, rfl⟩
      rw [hB5] at x5 ⊢
      clear bA hB5
      generalize w2.alloc (.cells #[.int .i64 sq, .int .i64 mk, .slice pa z pc] 96) = w3 at *
      have y1 := x1.next bw
      have c0 := y1.cell 0 _ rfl
      have l1 := y1.lt
      go_wp2_with (first | (refine wpList_load_box x5 rfl 96 _ rfl rfl _ Tryd.underlying96 rfl (by kernel_rfl) ?_))
      refine (HMK.out _ hp).mono ?_
      rintro e w4 ⟨xa, xc, rfl, hx, b1⟩
      replace hrow := rowK_below hrow b1 (Nat.le_refl _)
      replace hown := hown.next b1
      replace x5 := x5.next b1
      replace bw := bw.trans (b1.mono bw.size)
      clear b1 HMK hp c0 l1 y1
      have HEN : Hid (∀ wx : World, Holds .u8 wx.heap.size wx (.slice xa (Z + 10) xc) zs → Calls Tryd.prog 56 #[.agg #[.int .i64 c.cB, .int .i64 c.cBeam, .int .i64 c.cDepth, .int .i64 c.cWin, .int .i64 c.cQs, .int .i64 c.cQr, .int .i64 c.cBatch, .int .i64 c.cPass, .int .i64 c.cMsg, .int .i64 c.cSeqs], .int .i64 sq, .slice xa (Z + 10) xc] wx fun e W' => ∃ ra rc, e = .returned (.tuple #[.agg #[.int .i64 sq, .int .i64 0, .int .i64 0, .bool false, .slice ra (Z + 10) rc], .int .i64 0]) ∧ W'.ownsRow wx.heap.size 5 1 (.slice ra (Z + 10) rc) (Z + 10) (zs.map (Value.int .u8)) ∧ Below wx.heap.size wx W') := fun wx hx => EmitNew_ok c sq xa (Z + 10) xc HER.out zs HY.out (by omega) wx hx
      have y1 := x1.next bw
      have c0 := y1.cell 0 _ rfl
      have c1 := y1.cell 1 _ rfl
      have c2 := y1.cell 2 _ rfl
      have c3 := y1.cell 3 _ rfl
      have c4 := y1.cell 4 _ rfl
      have c5 := y1.cell 5 _ rfl
      have c6 := y1.cell 6 _ rfl
      have c7 := y1.cell 7 _ rfl
      have c8 := y1.cell 8 _ rfl
      have c9 := y1.cell 9 _ rfl
      have l1 := y1.lt
      have c50 := x5.cell 0 _ rfl
      have l5 := x5.lt
      go_wp2_with fail
      refine (HEN.out _ hx).mono ?_
      rintro e w5 ⟨ra, rc, rfl, o5, b1⟩
      obtain ⟨y, hy⟩ : ∃ y, Z + 10 = y := ⟨_, rfl⟩
      rw [hy] at o5 HY ⊢
      have hbs : w1.heap.size ≤ w4.heap.size := bw.size
      have hlt4 : ∀ u ∈ r, ∀ p ∈ u.2, ∀ g, p.ownBlock = some g → g < w4.heap.size := fun u hu p hp g hg => (hown.lt u hu p hp g hg).2
      replace hrow := rowK_below hrow b1 (Nat.le_refl _)
      replace hown := hown.next b1
      replace bw := bw.trans (b1.mono bw.size)
      clear b1 HEN hx y1 l1 c50 l5 x5 c0 c1 c2 c3 c4 c5 c6 c7 c8 c9
      have own5 := hown.snoc (x := (newM sq zs, [.slice ra y rc])) (subsO_one (t := ⟨5, 1, zs.length, zs.map (Value.int .u8)⟩) (by rw [HY.out]; exact o5)) (List.pairwise_singleton _ _) hbs hlt4
      have bA : Below w5.heap.size w5 (w5.alloc (.cells #[.int .i64 sq, .int .i64 0, .int .i64 0, .bool false, .slice ra y rc] 47)) := (Below.refl _ _).alloc (Nat.le_refl _) _
      have x6 := Box.new w5 47 #[.int .i64 sq, .int .i64 0, .int .i64 0, .bool false, .slice ra y rc]
      go_upto_region 14 with fail
      replace hrow := rowK_below hrow bA (Nat.le_refl _)
      replace own5 := own5.next bA
      replace bw := bw.trans (bA.mono bw.size)
      obtain ⟨B6, hB6⟩ : ∃ k, w5.heap.size = k := ⟨_, rfl⟩
      rw [hB6] at x6 ⊢
      clear bA hB6 hown o5 hbs hlt4 hy
      generalize w5.alloc (.cells #[.int .i64 sq, .int .i64 0, .int .i64 0, .bool false, .slice ra y rc] 47) = w6 at *
      obtain ⟨v8, w8, hr8, ho8, hg8⟩ := run_append_em _ k w1.heap.size r (newM sq zs) (.slice ra y rc) ⟨_, _, _, rfl⟩ 28 w6 hrow bw.size (by omega)
      have own8 := (own5.next ((Below.refl _ _).alloc (Nat.le_refl _) _)).kept emK_unlike (hrow.alloc _) hg8
      have b8 := (bw.alloc bw.size _).grown hg8 (by have := bw.size; simp only [World.size_alloc]; omega) (fun q e => (hrow.lt q e).1)
      have hrn : (r ++ [(newM sq zs, [Value.slice ra y rc])]).map Prod.fst = (waitsB T (blocksB c T msg)).take (k + 1) := by
        rw [List.map_append, HR.out, List.take_add_one, HWK.out]
        rfl
      have HR8 : Hid _ := hr8
      have HRN : Hid ((r ++ [(newM sq zs, [Value.slice ra y rc])]).map Prod.fst = (waitsB T (blocksB c T msg)).take (k + 1)) := hrn
      have c60 := x6.cell 0 _ rfl
      have c61 := x6.cell 1 _ rfl
      have c62 := x6.cell 2 _ rfl
      have c63 := x6.cell 3 _ rfl
      have c64 := x6.cell 4 _ rfl
      have l6 := x6.lt
      clear hr8 hrow own5 bw hg8 hrn x6
      go_wp2_with (at_builtin; refine wpList_append_k rfl _ _ 28 rfl _ _ rfl rfl _ _ HR8.out ?_)
      exact ⟨⟨k + 1, _, hlt, by go_num, HRN, ho8, own8, b8⟩, by simp [intOf]; omega⟩
    · obtain rfl : k = Q := by omega
      obtain ⟨va, vc, rfl⟩ := row_shapeS hrow
      have HO : Hid (OwnEms w.heap.size w2 (.slice va k vc) (waitsB T (blocksB c T msg))) := ⟨r, by rw [HR.out]; exact List.take_of_length_le (by rw [HWL.out]; exact Nat.le_refl _), by rw [HWL.out]; exact rowK_base hrow bb.size, hown.lower bb.size⟩
      have HBE : Hid (Below w.heap.size w w2) := bb.trans (bw.mono bb.size)
      clear hrow hown bw
      go_wp2
      go_ret2
      exact ⟨va, vc, rfl, HO.out, HBE.out⟩

end Go.Proofs.YtmjidhnlofpliaaDoor

/-
  What send.Send answers. (Written by tpl_sendcode.py.)
-/
namespace Go.Proofs.YtmjidhnlofpliaaDoor
open Go.RowKit

set_option maxRecDepth 100000 in
set_option maxHeartbeats 4000000 in
theorem sendSend_ref {s : Sn} {c : Cfg} {X : Bool} {K R B N T F : Int} {E M : Nat} (hs : SnIs s c X K R B N T F E M) (hE : E ≤ 1000000) (hM : M ≤ 1000000) (hm : ∀ e ∈ s.sW, e.eB.length ≤ 4096) (ea : Option Addr) (ec : Nat) (wa : Option Addr) (wc : Nat) (b : Option Addr) (n bc : Nat) (msg : List Int) (hn : msg.length = n) (w : World) (ha : SnAt w s ea E ec wa M wc) (hOK : okS s) (f : Int) (hf : errS s msg = f) (hf0 : f ≠ 0) :
    Calls Tryd.prog 12 #[.agg #[.int .i64 c.cB, .int .i64 c.cBeam, .int .i64 c.cDepth, .int .i64 c.cWin, .int .i64 c.cQs, .int .i64 c.cQr, .int .i64 c.cBatch, .int .i64 c.cPass, .int .i64 c.cMsg, .int .i64 c.cSeqs, .bool X, .int .i64 K, .int .i64 R, .int .i64 B, .int .i64 N, .int .i64 T, .int .i64 F, .slice ea E ec, .slice wa M wc], .slice b n bc] w fun e W' => ∃ fa fc va vc, e = .returned (.tuple #[.agg #[.int .i64 c.cB, .int .i64 c.cBeam, .int .i64 c.cDepth, .int .i64 c.cWin, .int .i64 c.cQs, .int .i64 c.cQr, .int .i64 c.cBatch, .int .i64 c.cPass, .int .i64 c.cMsg, .int .i64 c.cSeqs, .bool X, .int .i64 K, .int .i64 (satN R 1), .int .i64 B, .int .i64 N, .int .i64 T, .int .i64 F, .slice fa E fc, .slice va M vc], .int .i64 f]) ∧ SnOwn w.heap.size W' s fa E fc va M vc ∧ Below w.heap.size w W' := by
  have HF : Hid (errN c X T E n = f) := by
    show errN c X T E n = f
    rw [errN_iff hs hOK msg n hn, hf]
  have HC : Hid (okC c = true) := by have := hOK.conf; rw [hs.eC] at this; exact this
  have d0 : (f != 0) = true := by simpa using hf0
  clear hf hf0
  have bb : Below w.heap.size w ((w.alloc (.cells #[.int .i64 c.cB, .int .i64 c.cBeam, .int .i64 c.cDepth, .int .i64 c.cWin, .int .i64 c.cQs, .int .i64 c.cQr, .int .i64 c.cBatch, .int .i64 c.cPass, .int .i64 c.cMsg, .int .i64 c.cSeqs, .bool X, .int .i64 K, .int .i64 R, .int .i64 B, .int .i64 N, .int .i64 T, .int .i64 F, .slice ea E ec, .slice wa M wc] 30)).alloc (.cells #[.int .i64 0, .int .i64 0, .int .i64 0, .int .i64 0, .int .i64 0, .int .i64 0, .int .i64 0, .int .i64 0, .int .i64 0, .int .i64 0, .bool false, .int .i64 0, .int .i64 0, .int .i64 0, .int .i64 0, .int .i64 0, .int .i64 0, .slice none 0 0, .slice none 0 0] 30)) := ((Below.refl _ _).alloc (Nat.le_refl _) _).alloc (by simp) _
  have x1 : Box ((w.alloc (.cells #[.int .i64 c.cB, .int .i64 c.cBeam, .int .i64 c.cDepth, .int .i64 c.cWin, .int .i64 c.cQs, .int .i64 c.cQr, .int .i64 c.cBatch, .int .i64 c.cPass, .int .i64 c.cMsg, .int .i64 c.cSeqs, .bool X, .int .i64 K, .int .i64 R, .int .i64 B, .int .i64 N, .int .i64 T, .int .i64 F, .slice ea E ec, .slice wa M wc] 30)).alloc (.cells #[.int .i64 0, .int .i64 0, .int .i64 0, .int .i64 0, .int .i64 0, .int .i64 0, .int .i64 0, .int .i64 0, .int .i64 0, .int .i64 0, .bool false, .int .i64 0, .int .i64 0, .int .i64 0, .int .i64 0, .int .i64 0, .int .i64 0, .slice none 0 0, .slice none 0 0] 30)) w.heap.size 30 #[.int .i64 c.cB, .int .i64 c.cBeam, .int .i64 c.cDepth, .int .i64 c.cWin, .int .i64 c.cQs, .int .i64 c.cQr, .int .i64 c.cBatch, .int .i64 c.cPass, .int .i64 c.cMsg, .int .i64 c.cSeqs, .bool X, .int .i64 K, .int .i64 R, .int .i64 B, .int .i64 N, .int .i64 T, .int .i64 F, .slice ea E ec, .slice wa M wc] := (Box.new w 30 #[.int .i64 c.cB, .int .i64 c.cBeam, .int .i64 c.cDepth, .int .i64 c.cWin, .int .i64 c.cQs, .int .i64 c.cQr, .int .i64 c.cBatch, .int .i64 c.cPass, .int .i64 c.cMsg, .int .i64 c.cSeqs, .bool X, .int .i64 K, .int .i64 R, .int .i64 B, .int .i64 N, .int .i64 T, .int .i64 F, .slice ea E ec, .slice wa M wc]).next ((Below.refl _ _).alloc (Nat.le_refl _) _)
  have x2 := Box.new (w.alloc (.cells #[.int .i64 c.cB, .int .i64 c.cBeam, .int .i64 c.cDepth, .int .i64 c.cWin, .int .i64 c.cQs, .int .i64 c.cQr, .int .i64 c.cBatch, .int .i64 c.cPass, .int .i64 c.cMsg, .int .i64 c.cSeqs, .bool X, .int .i64 K, .int .i64 R, .int .i64 B, .int .i64 N, .int .i64 T, .int .i64 F, .slice ea E ec, .slice wa M wc] 30)) 30 #[.int .i64 0, .int .i64 0, .int .i64 0, .int .i64 0, .int .i64 0, .int .i64 0, .int .i64 0, .int .i64 0, .int .i64 0, .int .i64 0, .bool false, .int .i64 0, .int .i64 0, .int .i64 0, .int .i64 0, .int .i64 0, .int .i64 0, .slice none 0 0, .slice none 0 0]
  replace ha := ha.next bb
  have H1 := fun wx hx => sendCheck_any hs hE hM hm ea ec wa wc wx hx
  have H2 := fun wx hx => sendApart_any hs hE hM hm ea ec wa wc wx hx
  have HOK : Hid (okS s) := hOK
  have HS : Hid (SnIs s c X K R B N T F E M) := hs
  have HM9 : Hid (∀ e ∈ s.sW, e.eB.length ≤ 4096) := hm
  clear hs hm hOK
  go_enter Tryd.func12, Tryd.ntmps12
  go_wp2_with (first | (refine wpList_load_box x1 rfl 30 _ rfl rfl _ Tryd.underlying30 rfl (by kernel_rfl) ?_))
  refine (H1 _ ha).mono ?_
  rintro e w1 ⟨⟨z, rfl, hz⟩, b1⟩
  obtain rfl : z = 0 := by
    rcases hz with ⟨h, _⟩ | ⟨_, h⟩
    · exact h
    · exact (h HOK.out).elim
  obtain ⟨n2, hn2⟩ : ∃ n, (w.alloc (.cells #[.int .i64 c.cB, .int .i64 c.cBeam, .int .i64 c.cDepth, .int .i64 c.cWin, .int .i64 c.cQs, .int .i64 c.cQr, .int .i64 c.cBatch, .int .i64 c.cPass, .int .i64 c.cMsg, .int .i64 c.cSeqs, .bool X, .int .i64 K, .int .i64 R, .int .i64 B, .int .i64 N, .int .i64 T, .int .i64 F, .slice ea E ec, .slice wa M wc] 30)).heap.size = n := ⟨_, rfl⟩
  have hn2s : w.heap.size + 1 = n2 := by rw [← hn2]; simp
  rw [hn2] at x2
  try rw [hn2s]
  have HN2 : Hid (w.heap.size + 1 = n2) := hn2s
  clear hn2 hn2s
  replace x1 := x1.next b1
  replace x2 := x2.next b1
  replace ha := ha.next b1
  replace bb := bb.trans (b1.mono bb.size)
  clear b1 H1 hz
  go_wp2_with (first | (refine wpList_load_box x1 rfl 30 _ rfl rfl _ Tryd.underlying30 rfl (by kernel_rfl) ?_))
  refine (H2 _ ha).mono ?_
  rintro e w2 ⟨fa, fc, va, vc, rfl, o2, b1⟩
  have hbs := bb.size
  replace x1 := x1.next b1
  replace x2 := x2.next b1
  replace bb := bb.trans (b1.mono bb.size)
  replace o2 := o2.lower (base' := w.heap.size) hbs
  clear b1 H2 ha hbs
  have bA : Below w2.heap.size w2 (w2.alloc (.cells #[.int .i64 0, .int .i64 0, .int .i64 0, .int .i64 0, .int .i64 0, .int .i64 0, .int .i64 0, .int .i64 0, .int .i64 0, .int .i64 0, .bool false, .int .i64 0, .int .i64 0, .int .i64 0, .int .i64 0, .int .i64 0, .int .i64 0, .slice none 0 0, .slice none 0 0] 30)) := (Below.refl _ _).alloc (Nat.le_refl _) _
  have x3 := Box.new w2 30 #[.int .i64 0, .int .i64 0, .int .i64 0, .int .i64 0, .int .i64 0, .int .i64 0, .int .i64 0, .int .i64 0, .int .i64 0, .int .i64 0, .bool false, .int .i64 0, .int .i64 0, .int .i64 0, .int .i64 0, .int .i64 0, .int .i64 0, .slice none 0 0, .slice none 0 0]
  have HLx3 : Hid (w.heap.size < w2.heap.size ∧ n2 < w2.heap.size ∧ w.heap.size ≤ w2.heap.size) := ⟨x1.lt, x2.lt, bb.size⟩
  go_upto_region 5 with (first | (refine wpList_store_box x3 rfl 30 _ _ rfl rfl rfl rfl (by kernel_rfl) (by simp [Value.oneCell']) ?_))
  have bB := below_setRow bA (Nat.le_refl _) #[.int .i64 c.cB, .int .i64 c.cBeam, .int .i64 c.cDepth, .int .i64 c.cWin, .int .i64 c.cQs, .int .i64 c.cQr, .int .i64 c.cBatch, .int .i64 c.cPass, .int .i64 c.cMsg, .int .i64 c.cSeqs, .bool X, .int .i64 K, .int .i64 R, .int .i64 B, .int .i64 N, .int .i64 T, .int .i64 F, .slice fa E fc, .slice va M vc]
  replace x3 := x3.setRow #[.int .i64 c.cB, .int .i64 c.cBeam, .int .i64 c.cDepth, .int .i64 c.cWin, .int .i64 c.cQs, .int .i64 c.cQr, .int .i64 c.cBatch, .int .i64 c.cPass, .int .i64 c.cMsg, .int .i64 c.cSeqs, .bool X, .int .i64 K, .int .i64 R, .int .i64 B, .int .i64 N, .int .i64 T, .int .i64 F, .slice fa E fc, .slice va M vc]
  replace x1 := x1.next bB
  replace x2 := x2.next bB
  replace o2 := o2.next bB
  replace bb := bb.trans (bB.mono bb.size)
  clear bA bB
  obtain ⟨B3, hB3⟩ : ∃ k, w2.heap.size = k := ⟨_, rfl⟩
  rw [hB3] at x3 HLx3 x1 x2 o2 bb ⊢
  clear hB3
  generalize ((w2.alloc (.cells #[.int .i64 0, .int .i64 0, .int .i64 0, .int .i64 0, .int .i64 0, .int .i64 0, .int .i64 0, .int .i64 0, .int .i64 0, .int .i64 0, .bool false, .int .i64 0, .int .i64 0, .int .i64 0, .int .i64 0, .int .i64 0, .int .i64 0, .slice none 0 0, .slice none 0 0] 30)).setRow B3 #[.int .i64 c.cB, .int .i64 c.cBeam, .int .i64 c.cDepth, .int .i64 c.cWin, .int .i64 c.cQs, .int .i64 c.cQr, .int .i64 c.cBatch, .int .i64 c.cPass, .int .i64 c.cMsg, .int .i64 c.cSeqs, .bool X, .int .i64 K, .int .i64 R, .int .i64 B, .int .i64 N, .int .i64 T, .int .i64 F, .slice fa E fc, .slice va M vc]) = w3 at *
  have hcz := (okC_iff c).1 HC.out
  have hT := HOK.out.next_bd
  have hT0 := HOK.out.low
  have hT9 := HOK.out.base
  rw [HS.out.eT] at hT hT9
  rw [HS.out.eF] at hT0 hT9
  have H3 := fun wx => sendRefusal_any c HC.out X K R B N T F (by omega) hT ea E ec wa M wc b n bc wx
  rw [HF.out] at H3
  clear hcz hT hT0 hT9
  go_wp2_with (first | (refine wpList_load_box x1 rfl 30 _ rfl rfl _ Tryd.underlying30 rfl (by kernel_rfl) ?_))
  refine (H3 _).mono ?_
  rintro e w4 ⟨rfl, b1⟩
  replace x1 := x1.next b1
  replace x2 := x2.next b1
  replace x3 := x3.next b1
  replace o2 := o2.next b1
  replace bb := bb.trans (b1.mono bb.size)
  clear b1 H3 x1
  have c12 := x3.cell 12 _ rfl
  have l3 := x3.lt
  go_wp2_with fail
  refine (SatAdd_any R 1 _).mono ?_
  rintro e w5 ⟨rfl, rfl⟩
  clear c12 l3
  have cz := x3.cell 12 _ rfl
  have gz := x3.free 12
  have lz := x3.lt
  go_upto_region 8 with fail
  clear cz gz lz
  have qz : ∀ g, g ≠ B3 → (w4.setCell ⟨B3, 12, none⟩ (.int .i64 (satN R 1))).heap[g]? = w4.heap[g]? := fun g hg => Below.heap_setCell _ _ _ g hg
  replace o2 := o2.put x3 (by decide) (by decide) (by decide) qz
  replace x2 := x2.other (p := ⟨B3, 12, none⟩) (show n2 ≠ B3 by have := HLx3.out; omega) (.int .i64 (satN R 1))
  replace x3 : Box (w4.setCell ⟨B3, 12, none⟩ (.int .i64 (satN R 1))) B3 30 #[.int .i64 c.cB, .int .i64 c.cBeam, .int .i64 c.cDepth, .int .i64 c.cWin, .int .i64 c.cQs, .int .i64 c.cQr, .int .i64 c.cBatch, .int .i64 c.cPass, .int .i64 c.cMsg, .int .i64 c.cSeqs, .bool X, .int .i64 K, .int .i64 (satN R 1), .int .i64 B, .int .i64 N, .int .i64 T, .int .i64 F, .slice fa E fc, .slice va M vc] := x3.set 12 _
  replace bb := bb.setCell (p := ⟨B3, 12, none⟩) (show w.heap.size ≤ B3 by have := HLx3.out; omega) (.int .i64 (satN R 1))
  clear qz
  generalize (w4.setCell ⟨B3, 12, none⟩ (.int .i64 (satN R 1))) = w5 at *
  have xE := x2.setRow #[.int .i64 c.cB, .int .i64 c.cBeam, .int .i64 c.cDepth, .int .i64 c.cWin, .int .i64 c.cQs, .int .i64 c.cQr, .int .i64 c.cBatch, .int .i64 c.cPass, .int .i64 c.cMsg, .int .i64 c.cSeqs, .bool X, .int .i64 K, .int .i64 (satN R 1), .int .i64 B, .int .i64 N, .int .i64 T, .int .i64 F, .slice fa E fc, .slice va M vc]
  have bE := below_setRow bb (show w.heap.size ≤ n2 by have := HN2.out; omega) #[.int .i64 c.cB, .int .i64 c.cBeam, .int .i64 c.cDepth, .int .i64 c.cWin, .int .i64 c.cQs, .int .i64 c.cQr, .int .i64 c.cBatch, .int .i64 c.cPass, .int .i64 c.cMsg, .int .i64 c.cSeqs, .bool X, .int .i64 K, .int .i64 (satN R 1), .int .i64 B, .int .i64 N, .int .i64 T, .int .i64 F, .slice fa E fc, .slice va M vc]
  have o2E := o2.put x2 (by decide) (by decide) (by decide) (fun g hg => setRow_other w5 n2 g #[.int .i64 c.cB, .int .i64 c.cBeam, .int .i64 c.cDepth, .int .i64 c.cWin, .int .i64 c.cQs, .int .i64 c.cQr, .int .i64 c.cBatch, .int .i64 c.cPass, .int .i64 c.cMsg, .int .i64 c.cSeqs, .bool X, .int .i64 K, .int .i64 (satN R 1), .int .i64 B, .int .i64 N, .int .i64 T, .int .i64 F, .slice fa E fc, .slice va M vc] hg)
  clear bb o2
  go_wp2_with (first | (refine wpList_load_box x3 rfl 30 _ rfl rfl _ Tryd.underlying30 rfl (by kernel_rfl) ?_) | (refine wpList_store_box x2 rfl 30 _ _ rfl rfl rfl rfl (by kernel_rfl) (by simp [Value.oneCell']) ?_))
  exact bodyPost_ret (results_boxR2 rfl _ _ rfl xE Tryd.underlying30 rfl (by kernel_rfl)) rfl ⟨fa, fc, va, vc, rfl, o2E, bE⟩

theorem snIs_send {s : Sn} {c : Cfg} {X : Bool} {K R B N T F : Int} {E M : Nat} (hs : SnIs s c X K R B N T F E M) (hOK : okS s) {msg : List Int} {Q : Nat} (hQ : blocksN c.cB.toNat msg.length = Q) (hf : errS s msg = 0) : SnIs (sendS s msg) c X K R B (N + 1) (T + (Q : Int)) F (E + 1) (M + Q) := by
  have hC : okC c = true := by have := hOK.conf; rw [hs.eC] at this; exact this
  have hb := blocksC_nat hC msg.length
  rw [hQ] at hb
  unfold sendS
  rw [if_pos hf]
  refine ⟨hs.eC, hs.eX, hs.eK, hs.eR, hs.eB, by show s.sN + 1 = _; rw [hs.eN], by show s.sT + blocksC s.sC msg.length = _; rw [hs.eT, hs.eC, hb], hs.eF, ?_, ?_⟩
  · show (s.sE ++ [_]).length = _
    rw [List.length_append, hs.lE]
    rfl
  · show (s.sW ++ waitsB s.sT (blocksB s.sC s.sT msg)).length = _
    rw [List.length_append, hs.lW, waitsB_len, blocksB_len, hs.eC, hQ]
theorem snIs_ref {s : Sn} {c : Cfg} {X : Bool} {K R B N T F : Int} {E M : Nat} (hs : SnIs s c X K R B N T F E M) {msg : List Int} (hf : errS s msg ≠ 0) : SnIs (sendS s msg) c X K (satN R 1) B N T F E M := by
  unfold sendS
  rw [if_neg hf]
  exact ⟨hs.eC, hs.eX, hs.eK, by show satN s.sR 1 = _; rw [hs.eR], hs.eB, hs.eN, hs.eT, hs.eF, hs.lE, hs.lW⟩
theorem OwnSts.keptI {α : Type} {K : Kind α} {base base' n size : Nat} {W W' : World} {v v' : Value} {l : List α} {e : TypeId} {xs : List Value} (h : OwnSts K base W v l) (hv : W.ownsRow base' e size v' n xs) (h1 : K.ty ≠ e) (h2 : ∀ (y : α) (u : Sub), u ∈ K.subs y → u.ty ≠ e) (o : Obj) (hg : (W.alloc o).grownBy W' v'.ownBlock) : OwnSts K base W' v l := by
  obtain ⟨r, e1, h3, h4⟩ := h
  refine ⟨r, e1, row_keptS h3 hv h1 o hg, h4.same fun x hx p hp g hgp => ?_⟩
  have h5 := h4.subs x hx
  obtain ⟨i, hi, ep⟩ := List.getElem_of_mem hp
  have hl : i < (K.subs x.1).length := by rw [← h5.1]; exact hi
  have hlt := (h4.lt x hx p hp g hgp).2
  refine (hg.block g (by simp; omega) fun e2 => ?_).trans (Below.heap_alloc W o g hlt)
  rcases rowsK_unlike (h5.2 i p (K.subs x.1)[i] (by rw [← ep]; simp) (by simp)) hv (h2 x.1 _ (by simp)) with h6 | h6
  · rw [h6] at hgp; cases hgp
  · exact h6 (by rw [hgp, e2])
theorem box_grown {W W' : World} {B base size n : Nat} {e t : TypeId} {v : Value} {xs : List Value} {cs : Array Value} (h : Box W B t cs) (hv : W.ownsRow base e size v n xs) (he : e ≠ t) (hg : W.grownBy W' v.ownBlock) : Box W' B t cs :=
  (hg.block B h.lt fun e => row_neBox hv h he e.symm).trans h
set_option maxRecDepth 100000 in
set_option maxHeartbeats 8000000 in
theorem sendSend_ok {s : Sn} {c : Cfg} {X : Bool} {K R B N T F : Int} {E M : Nat} (hs : SnIs s c X K R B N T F E M) (hE : E ≤ 1000000) (hM : M ≤ 1000000) (hm : ∀ e ∈ s.sW, e.eB.length ≤ 4096) (ea : Option Addr) (ec : Nat) (wa : Option Addr) (wc : Nat) (b : Option Addr) (n bc : Nat) (msg : List Int) (hn : msg.length = n) (hcap : n ≤ bc) (bm : ∀ z ∈ msg, 0 ≤ z ∧ z ≤ 255) (w : World) (ha : SnAt w s ea E ec wa M wc) (hb : Holds .u8 w.heap.size w (.slice b n bc) msg) (hOK : okS s) (hf : errS s msg = 0) (Q : Nat) (hQ : blocksN c.cB.toNat n = Q) :
    Calls Tryd.prog 12 #[.agg #[.int .i64 c.cB, .int .i64 c.cBeam, .int .i64 c.cDepth, .int .i64 c.cWin, .int .i64 c.cQs, .int .i64 c.cQr, .int .i64 c.cBatch, .int .i64 c.cPass, .int .i64 c.cMsg, .int .i64 c.cSeqs, .bool X, .int .i64 K, .int .i64 R, .int .i64 B, .int .i64 N, .int .i64 T, .int .i64 F, .slice ea E ec, .slice wa M wc], .slice b n bc] w fun e W' => ∃ ya yc za zc, e = .returned (.tuple #[.agg #[.int .i64 c.cB, .int .i64 c.cBeam, .int .i64 c.cDepth, .int .i64 c.cWin, .int .i64 c.cQs, .int .i64 c.cQr, .int .i64 c.cBatch, .int .i64 c.cPass, .int .i64 c.cMsg, .int .i64 c.cSeqs, .bool X, .int .i64 K, .int .i64 R, .int .i64 B, .int .i64 (N + 1), .int .i64 (T + (Q : Int)), .int .i64 F, .slice ya (E + 1) yc, .slice za (M + Q) zc], .int .i64 0]) ∧ SnOwn w.heap.size W' (sendS s msg) ya (E + 1) yc za (M + Q) zc ∧ Below w.heap.size w W' := by
  have HF : Hid (errN c X T E n = 0) := by
    show errN c X T E n = 0
    rw [errN_iff hs hOK msg n hn, hf]
  have hC0 : okC c = true := by have := hOK.conf; rw [hs.eC] at this; exact this
  have HC : Hid (okC c = true) := hC0
  obtain ⟨hz1, hz2, hz3, hz4⟩ := errS_zero.1 hf
  rw [hs.eC] at hz2 hz3
  rw [hs.eT] at hz3
  rw [hn] at hz2 hz3
  have hcs := (okC_iff c).1 hC0
  have hq9 := blocksC_nat hC0 n
  rw [hQ] at hq9
  have hT1 : T + (Q : Int) ≤ 1073741824 := by omega
  have hQ2 : Q ≤ 200 := by have := (blocks_bd hC0 n hz2).2.2; omega
  have hT0 : 0 ≤ T := by have h1 := hOK.low; have h2 := hOK.base; rw [hs.eT] at h2; omega
  have hN0 : 0 ≤ N ∧ N ≤ T := by have h1 := hOK.sent; have h2 := hOK.most; rw [hs.eN] at h1 h2; rw [hs.eT] at h2; omega
  have wT : IntKind.i64.wrap (T + (Q : Int)) = T + (Q : Int) := by rw [IntKind.wrap_i64]; omega
  have wN : IntKind.i64.wrap (N + 1) = N + 1 := by rw [IntKind.wrap_i64]; omega
  have HEM := fun wx hx => sendEmits_ok c hC0 X K R B N T F hT0 ea E ec wa M wc b n bc msg hn hz2 hcap bm Q hQ hT1 wx hx
  have HSE : Hid ((sendS s msg).sE = s.sE ++ [T + (Q : Int)] ∧ (sendS s msg).sW = s.sW ++ waitsB T (blocksB c T msg)) := by
    unfold sendS
    rw [if_pos hf]
    show s.sE ++ [s.sT + blocksC s.sC msg.length] = _ ∧ s.sW ++ waitsB s.sT (blocksB s.sC s.sT msg) = _
    rw [hs.eT, hs.eC, hn, hq9]
    exact ⟨rfl, rfl⟩
  have HBL : Hid (Holds .u8 w.heap.size w (.slice b n bc) msg) := hb
  clear hz1 hz2 hz3 hz4 hcs hq9 hC0 hf hb bm hcap hQ
  have bb : Below w.heap.size w ((w.alloc (.cells #[.int .i64 c.cB, .int .i64 c.cBeam, .int .i64 c.cDepth, .int .i64 c.cWin, .int .i64 c.cQs, .int .i64 c.cQr, .int .i64 c.cBatch, .int .i64 c.cPass, .int .i64 c.cMsg, .int .i64 c.cSeqs, .bool X, .int .i64 K, .int .i64 R, .int .i64 B, .int .i64 N, .int .i64 T, .int .i64 F, .slice ea E ec, .slice wa M wc] 30)).alloc (.cells #[.int .i64 0, .int .i64 0, .int .i64 0, .int .i64 0, .int .i64 0, .int .i64 0, .int .i64 0, .int .i64 0, .int .i64 0, .int .i64 0, .bool false, .int .i64 0, .int .i64 0, .int .i64 0, .int .i64 0, .int .i64 0, .int .i64 0, .slice none 0 0, .slice none 0 0] 30)) := ((Below.refl _ _).alloc (Nat.le_refl _) _).alloc (by simp) _
  have x1 : Box ((w.alloc (.cells #[.int .i64 c.cB, .int .i64 c.cBeam, .int .i64 c.cDepth, .int .i64 c.cWin, .int .i64 c.cQs, .int .i64 c.cQr, .int .i64 c.cBatch, .int .i64 c.cPass, .int .i64 c.cMsg, .int .i64 c.cSeqs, .bool X, .int .i64 K, .int .i64 R, .int .i64 B, .int .i64 N, .int .i64 T, .int .i64 F, .slice ea E ec, .slice wa M wc] 30)).alloc (.cells #[.int .i64 0, .int .i64 0, .int .i64 0, .int .i64 0, .int .i64 0, .int .i64 0, .int .i64 0, .int .i64 0, .int .i64 0, .int .i64 0, .bool false, .int .i64 0, .int .i64 0, .int .i64 0, .int .i64 0, .int .i64 0, .int .i64 0, .slice none 0 0, .slice none 0 0] 30)) w.heap.size 30 #[.int .i64 c.cB, .int .i64 c.cBeam, .int .i64 c.cDepth, .int .i64 c.cWin, .int .i64 c.cQs, .int .i64 c.cQr, .int .i64 c.cBatch, .int .i64 c.cPass, .int .i64 c.cMsg, .int .i64 c.cSeqs, .bool X, .int .i64 K, .int .i64 R, .int .i64 B, .int .i64 N, .int .i64 T, .int .i64 F, .slice ea E ec, .slice wa M wc] := (Box.new w 30 #[.int .i64 c.cB, .int .i64 c.cBeam, .int .i64 c.cDepth, .int .i64 c.cWin, .int .i64 c.cQs, .int .i64 c.cQr, .int .i64 c.cBatch, .int .i64 c.cPass, .int .i64 c.cMsg, .int .i64 c.cSeqs, .bool X, .int .i64 K, .int .i64 R, .int .i64 B, .int .i64 N, .int .i64 T, .int .i64 F, .slice ea E ec, .slice wa M wc]).next ((Below.refl _ _).alloc (Nat.le_refl _) _)
  have x2 := Box.new (w.alloc (.cells #[.int .i64 c.cB, .int .i64 c.cBeam, .int .i64 c.cDepth, .int .i64 c.cWin, .int .i64 c.cQs, .int .i64 c.cQr, .int .i64 c.cBatch, .int .i64 c.cPass, .int .i64 c.cMsg, .int .i64 c.cSeqs, .bool X, .int .i64 K, .int .i64 R, .int .i64 B, .int .i64 N, .int .i64 T, .int .i64 F, .slice ea E ec, .slice wa M wc] 30)) 30 #[.int .i64 0, .int .i64 0, .int .i64 0, .int .i64 0, .int .i64 0, .int .i64 0, .int .i64 0, .int .i64 0, .int .i64 0, .int .i64 0, .bool false, .int .i64 0, .int .i64 0, .int .i64 0, .int .i64 0, .int .i64 0, .int .i64 0, .slice none 0 0, .slice none 0 0]
  replace ha := ha.next bb
  have H1 := fun wx hx => sendCheck_any hs hE hM hm ea ec wa wc wx hx
  have H2 := fun wx hx => sendApart_any hs hE hM hm ea ec wa wc wx hx
  have HOK : Hid (okS s) := hOK
  have HS : Hid (SnIs s c X K R B N T F E M) := hs
  have HM9 : Hid (∀ e ∈ s.sW, e.eB.length ≤ 4096) := hm
  clear hs hm hOK
  go_enter Tryd.func12, Tryd.ntmps12
  go_wp2_with (first | (refine wpList_load_box x1 rfl 30 _ rfl rfl _ Tryd.underlying30 rfl (by kernel_rfl) ?_))
  refine (H1 _ ha).mono ?_
  rintro e w1 ⟨⟨z, rfl, hz⟩, b1⟩
  obtain rfl : z = 0 := by
    rcases hz with ⟨h, _⟩ | ⟨_, h⟩
    · exact h
    · exact (h HOK.out).elim
  obtain ⟨n2, hn2⟩ : ∃ n, (w.alloc (.cells #[.int .i64 c.cB, .int .i64 c.cBeam, .int .i64 c.cDepth, .int .i64 c.cWin, .int .i64 c.cQs, .int .i64 c.cQr, .int .i64 c.cBatch, .int .i64 c.cPass, .int .i64 c.cMsg, .int .i64 c.cSeqs, .bool X, .int .i64 K, .int .i64 R, .int .i64 B, .int .i64 N, .int .i64 T, .int .i64 F, .slice ea E ec, .slice wa M wc] 30)).heap.size = n := ⟨_, rfl⟩
  have hn2s : w.heap.size + 1 = n2 := by rw [← hn2]; simp
  rw [hn2] at x2
  try rw [hn2s]
  have HN2 : Hid (w.heap.size + 1 = n2) := hn2s
  clear hn2 hn2s
  replace x1 := x1.next b1
  replace x2 := x2.next b1
  replace ha := ha.next b1
  replace bb := bb.trans (b1.mono bb.size)
  clear b1 H1 hz
  go_wp2_with (first | (refine wpList_load_box x1 rfl 30 _ rfl rfl _ Tryd.underlying30 rfl (by kernel_rfl) ?_))
  refine (H2 _ ha).mono ?_
  rintro e w2 ⟨fa, fc, va, vc, rfl, o2, b1⟩
  have hbs := bb.size
  replace x1 := x1.next b1
  replace x2 := x2.next b1
  replace bb := bb.trans (b1.mono bb.size)
  replace o2 := o2.lower (base' := w.heap.size) hbs
  clear b1 H2 ha hbs
  have bA : Below w2.heap.size w2 (w2.alloc (.cells #[.int .i64 0, .int .i64 0, .int .i64 0, .int .i64 0, .int .i64 0, .int .i64 0, .int .i64 0, .int .i64 0, .int .i64 0, .int .i64 0, .bool false, .int .i64 0, .int .i64 0, .int .i64 0, .int .i64 0, .int .i64 0, .int .i64 0, .slice none 0 0, .slice none 0 0] 30)) := (Below.refl _ _).alloc (Nat.le_refl _) _
  have x3 := Box.new w2 30 #[.int .i64 0, .int .i64 0, .int .i64 0, .int .i64 0, .int .i64 0, .int .i64 0, .int .i64 0, .int .i64 0, .int .i64 0, .int .i64 0, .bool false, .int .i64 0, .int .i64 0, .int .i64 0, .int .i64 0, .int .i64 0, .int .i64 0, .slice none 0 0, .slice none 0 0]
  have HLx3 : Hid (w.heap.size < w2.heap.size ∧ n2 < w2.heap.size ∧ w.heap.size ≤ w2.heap.size) := ⟨x1.lt, x2.lt, bb.size⟩
  go_upto_region 5 with (first | (refine wpList_store_box x3 rfl 30 _ _ rfl rfl rfl rfl (by kernel_rfl) (by simp [Value.oneCell']) ?_))
  have bB := below_setRow bA (Nat.le_refl _) #[.int .i64 c.cB, .int .i64 c.cBeam, .int .i64 c.cDepth, .int .i64 c.cWin, .int .i64 c.cQs, .int .i64 c.cQr, .int .i64 c.cBatch, .int .i64 c.cPass, .int .i64 c.cMsg, .int .i64 c.cSeqs, .bool X, .int .i64 K, .int .i64 R, .int .i64 B, .int .i64 N, .int .i64 T, .int .i64 F, .slice fa E fc, .slice va M vc]
  replace x3 := x3.setRow #[.int .i64 c.cB, .int .i64 c.cBeam, .int .i64 c.cDepth, .int .i64 c.cWin, .int .i64 c.cQs, .int .i64 c.cQr, .int .i64 c.cBatch, .int .i64 c.cPass, .int .i64 c.cMsg, .int .i64 c.cSeqs, .bool X, .int .i64 K, .int .i64 R, .int .i64 B, .int .i64 N, .int .i64 T, .int .i64 F, .slice fa E fc, .slice va M vc]
  replace x1 := x1.next bB
  replace x2 := x2.next bB
  replace o2 := o2.next bB
  replace bb := bb.trans (bB.mono bb.size)
  clear bA bB
  obtain ⟨B3, hB3⟩ : ∃ k, w2.heap.size = k := ⟨_, rfl⟩
  rw [hB3] at x3 HLx3 x1 x2 o2 bb ⊢
  clear hB3
  generalize ((w2.alloc (.cells #[.int .i64 0, .int .i64 0, .int .i64 0, .int .i64 0, .int .i64 0, .int .i64 0, .int .i64 0, .int .i64 0, .int .i64 0, .int .i64 0, .bool false, .int .i64 0, .int .i64 0, .int .i64 0, .int .i64 0, .int .i64 0, .int .i64 0, .slice none 0 0, .slice none 0 0] 30)).setRow B3 #[.int .i64 c.cB, .int .i64 c.cBeam, .int .i64 c.cDepth, .int .i64 c.cWin, .int .i64 c.cQs, .int .i64 c.cQr, .int .i64 c.cBatch, .int .i64 c.cPass, .int .i64 c.cMsg, .int .i64 c.cSeqs, .bool X, .int .i64 K, .int .i64 R, .int .i64 B, .int .i64 N, .int .i64 T, .int .i64 F, .slice fa E fc, .slice va M vc]) = w3 at *
  have hcz := (okC_iff c).1 HC.out
  have hT := HOK.out.next_bd
  have hT0 := HOK.out.low
  have hT9 := HOK.out.base
  rw [HS.out.eT] at hT hT9
  rw [HS.out.eF] at hT0 hT9
  have H3 := fun wx => sendRefusal_any c HC.out X K R B N T F (by omega) hT ea E ec wa M wc b n bc wx
  rw [HF.out] at H3
  clear hcz hT hT0 hT9
  go_wp2_with (first | (refine wpList_load_box x1 rfl 30 _ rfl rfl _ Tryd.underlying30 rfl (by kernel_rfl) ?_))
  refine (H3 _).mono ?_
  rintro e w4 ⟨rfl, b1⟩
  replace x1 := x1.next b1
  replace x2 := x2.next b1
  replace x3 := x3.next b1
  replace o2 := o2.next b1
  replace bb := bb.trans (b1.mono bb.size)
  clear b1 H3
  have hbm := (HBL.out.below bb).mono bb.size
  go_wp2_with (first | (refine wpList_load_box x1 rfl 30 _ rfl rfl _ Tryd.underlying30 rfl (by kernel_rfl) ?_))
  refine (HEM _ hbm).mono ?_
  rintro e w5 ⟨qa, qc, rfl, o5, b1⟩
  have HLE : Hid (∀ r : Lies Em, OwnL emK w.heap.size w4 r → ∀ u ∈ r, ∀ p ∈ u.2, ∀ g, p.ownBlock = some g → g < w4.heap.size) := fun r h u hu p hp g hg => (h.lt u hu p hp g hg).2
  have hbs := bb.size
  obtain ⟨o21, r1, hr1, o22, o23⟩ := o2
  have hlt4 := HLE.out r1 o23
  have o23b := o23.next b1
  rw [HS.out.lW] at o22
  replace o21 := rowK_below o21 b1 (Nat.le_refl _)
  replace o22 := rowK_below o22 b1 (Nat.le_refl _)
  replace x2 := x2.next b1
  replace x3 := x3.next b1
  replace bb := bb.trans (b1.mono bb.size)
  obtain ⟨r2, hr2, o52, o53⟩ := o5
  have HW2 : Hid ((waitsB T (blocksB c T msg)).length = Q) := by
    show (waitsB T (blocksB c T msg)).length = Q
    have h := o52.1
    rw [cellsK_len] at h
    have h5 : emK.k = 5 := rfl
    rw [← hr2, List.length_map] at h ⊢
    rw [h5] at h
    have h2 := (row_shapeS o52)
    obtain ⟨_, _, h3⟩ := h2
    simp only [Value.slice.injEq] at h3
    rw [← hr2, List.length_map] at h3
    exact h3.2.1.symm
  rw [HW2.out] at o52
  have HR1 : Hid (r1.map Prod.fst = s.sW) := hr1
  have HR2 : Hid (r2.map Prod.fst = waitsB T (blocksB c T msg)) := hr2
  have hl2 : r2.length = Q := by rw [← HW2.out, ← hr2, List.length_map]
  obtain ⟨v6, w6, hr6, o6, g6⟩ := run_append_sts emK 28 28 _ 56 Tryd.underlying28 infoEm rfl (by decide) (by decide) _ (.slice qa Q qc) M Q w.heap.size _ r1 r2 hl2 (fun x hx => (o53.subs x hx).held.slices) w5 o22 (holdsC_of_row o52) bb.size (by omega) (by omega)
  obtain ⟨za, zc, rfl⟩ := row_shapeS o6
  have own6 := (o23b.append o53 hbs hlt4).kept emK_unlike o22 g6
  have x2n := box_grown x2 o22 (by decide) g6
  have x3n := box_grown x3 o22 (by decide) g6
  have o21n := o21.kept g6 (rowsK_unlike o21 o22 (by decide))
  have bbn := bb.grown g6 bb.size (fun q e => (o22.lt q e).1)
  have HR6 : Hid _ := hr6
  clear hr6 g6 o22 o23b o23 o52 o53 hlt4 hbs hr1 hr2 hl2 b1 HEM HLE hbm x1 x2 o21 bb
  have c18 := x3.cell 18 _ rfl
  have l3 := x3.lt
  have c18n := x3n.cell 18 _ rfl
  have g18n := x3n.free 18
  have l3n := x3n.lt
  go_upto_region 13 with (at_builtin; refine wpList_append_k rfl _ _ 28 rfl _ _ rfl rfl _ _ HR6.out ?_)
  have oW : OwnEms w.heap.size w6 (.slice za (M + Q) zc) (sendS s msg).sW := ⟨r1 ++ r2, by rw [List.map_append, HR1.out, HR2.out, HSE.out.2], by rw [HSE.out.2, List.length_append, HS.out.lW, HW2.out]; exact o6, own6⟩
  have qz : ∀ g, g ≠ B3 → (w6.setCell ⟨B3, 18, none⟩ (.slice za (M + Q) zc)).heap[g]? = w6.heap[g]? := fun g hg => Below.heap_setCell _ _ _ g hg
  replace oW := oW.put x3n (by decide) (emK_subs (by decide)) qz
  have oE := row_put1 o21n x3n (by decide) qz
  have x2 := x2n.other (p := ⟨B3, 18, none⟩) (show n2 ≠ B3 by have := HLx3.out; omega) (.slice za (M + Q) zc)
  have x3 : Box (w6.setCell ⟨B3, 18, none⟩ (.slice za (M + Q) zc)) B3 30 #[.int .i64 c.cB, .int .i64 c.cBeam, .int .i64 c.cDepth, .int .i64 c.cWin, .int .i64 c.cQs, .int .i64 c.cQr, .int .i64 c.cBatch, .int .i64 c.cPass, .int .i64 c.cMsg, .int .i64 c.cSeqs, .bool X, .int .i64 K, .int .i64 R, .int .i64 B, .int .i64 N, .int .i64 T, .int .i64 F, .slice fa E fc, .slice za (M + Q) zc] := x3n.set 18 _
  have bb := bbn.setCell (p := ⟨B3, 18, none⟩) (show w.heap.size ≤ B3 by have := HLx3.out; omega) (.slice za (M + Q) zc)
  clear qz o6 own6 o21n x2n x3n bbn c18 l3 c18n g18n l3n
  generalize w6.setCell ⟨B3, 18, none⟩ (.slice za (M + Q) zc) = w7 at *
  have cz := x3.cell 15 _ rfl
  have gz := x3.free 15
  have lz := x3.lt
  go_upto_region 14 with fail
  clear cz gz lz
  have qz : ∀ g, g ≠ B3 → (w7.setCell ⟨B3, 15, none⟩ (.int .i64 (T + (Q : Int)))).heap[g]? = w7.heap[g]? := fun g hg => Below.heap_setCell _ _ _ g hg
  replace oW := oW.put x3 (by decide) (emK_subs (by decide)) qz
  replace oE := row_put1 oE x3 (by decide) qz
  replace x2 := x2.other (p := ⟨B3, 15, none⟩) (show n2 ≠ B3 by have := HLx3.out; omega) (.int .i64 (T + (Q : Int)))
  replace x3 : Box (w7.setCell ⟨B3, 15, none⟩ (.int .i64 (T + (Q : Int)))) B3 30 #[.int .i64 c.cB, .int .i64 c.cBeam, .int .i64 c.cDepth, .int .i64 c.cWin, .int .i64 c.cQs, .int .i64 c.cQr, .int .i64 c.cBatch, .int .i64 c.cPass, .int .i64 c.cMsg, .int .i64 c.cSeqs, .bool X, .int .i64 K, .int .i64 R, .int .i64 B, .int .i64 N, .int .i64 (T + (Q : Int)), .int .i64 F, .slice fa E fc, .slice za (M + Q) zc] := x3.set 15 _
  replace bb := bb.setCell (p := ⟨B3, 15, none⟩) (show w.heap.size ≤ B3 by have := HLx3.out; omega) (.int .i64 (T + (Q : Int)))
  clear qz
  generalize (w7.setCell ⟨B3, 15, none⟩ (.int .i64 (T + (Q : Int)))) = w8 at *
  obtain ⟨v9, w9, hr9, o9, g9⟩ := run_append_int _ E w.heap.size s.sE (T + (Q : Int)) 27 w8 oE bb.size (by omega)
  obtain ⟨ya, yc, rfl⟩ := row_shapeS o9
  have x2n := box_keptS x2 oE (by decide) _ g9
  have x3n := box_keptS x3 oE (by decide) _ g9
  have oWn := oW.keptI oE (by decide) (emK_subs (by decide)) _ g9
  have bbn := (bb.alloc bb.size _).grown g9 (by have := bb.size; simp only [World.size_alloc]; omega) (fun q e => (oE.lt q e).1)
  have HR9 : Hid _ := hr9
  have c17 := x3.cell 17 _ rfl
  have c15 := x3.cell 15 _ rfl
  have l3 := x3.lt
  have c17n := x3n.cell 17 _ rfl
  have g17n := x3n.free 17
  have l3n := x3n.lt
  clear hr9 g9 oE oW x2 x3 bb
  go_upto_region 15 with (at_builtin; refine wpList_append_k rfl _ _ 27 rfl _ _ rfl rfl _ _ HR9.out ?_)
  have o2 : SnOwn w.heap.size w9 (sendS s msg) ya (E + 1) yc za (M + Q) zc := ⟨by rw [HSE.out.1]; exact o9, oWn⟩
  have qz : ∀ g, g ≠ B3 → (w9.setCell ⟨B3, 17, none⟩ (.slice ya (E + 1) yc)).heap[g]? = w9.heap[g]? := fun g hg => Below.heap_setCell _ _ _ g hg
  replace o2 := o2.put x3n (by decide) (by decide) (by decide) qz
  have x2 := x2n.other (p := ⟨B3, 17, none⟩) (show n2 ≠ B3 by have := HLx3.out; omega) (.slice ya (E + 1) yc)
  have x3 : Box (w9.setCell ⟨B3, 17, none⟩ (.slice ya (E + 1) yc)) B3 30 #[.int .i64 c.cB, .int .i64 c.cBeam, .int .i64 c.cDepth, .int .i64 c.cWin, .int .i64 c.cQs, .int .i64 c.cQr, .int .i64 c.cBatch, .int .i64 c.cPass, .int .i64 c.cMsg, .int .i64 c.cSeqs, .bool X, .int .i64 K, .int .i64 R, .int .i64 B, .int .i64 N, .int .i64 (T + (Q : Int)), .int .i64 F, .slice ya (E + 1) yc, .slice za (M + Q) zc] := x3n.set 17 _
  have bb := bbn.setCell (p := ⟨B3, 17, none⟩) (show w.heap.size ≤ B3 by have := HLx3.out; omega) (.slice ya (E + 1) yc)
  clear qz o9 oWn x2n x3n bbn c17 c15 l3 c17n g17n l3n
  generalize w9.setCell ⟨B3, 17, none⟩ (.slice ya (E + 1) yc) = w10 at *
  have cz := x3.cell 14 _ rfl
  have gz := x3.free 14
  have lz := x3.lt
  go_upto_region 16 with fail
  clear cz gz lz
  have qz : ∀ g, g ≠ B3 → (w10.setCell ⟨B3, 14, none⟩ (.int .i64 (N + 1))).heap[g]? = w10.heap[g]? := fun g hg => Below.heap_setCell _ _ _ g hg
  replace o2 := o2.put x3 (by decide) (by decide) (by decide) qz
  replace x2 := x2.other (p := ⟨B3, 14, none⟩) (show n2 ≠ B3 by have := HLx3.out; omega) (.int .i64 (N + 1))
  replace x3 : Box (w10.setCell ⟨B3, 14, none⟩ (.int .i64 (N + 1))) B3 30 #[.int .i64 c.cB, .int .i64 c.cBeam, .int .i64 c.cDepth, .int .i64 c.cWin, .int .i64 c.cQs, .int .i64 c.cQr, .int .i64 c.cBatch, .int .i64 c.cPass, .int .i64 c.cMsg, .int .i64 c.cSeqs, .bool X, .int .i64 K, .int .i64 R, .int .i64 B, .int .i64 (N + 1), .int .i64 (T + (Q : Int)), .int .i64 F, .slice ya (E + 1) yc, .slice za (M + Q) zc] := x3.set 14 _
  replace bb := bb.setCell (p := ⟨B3, 14, none⟩) (show w.heap.size ≤ B3 by have := HLx3.out; omega) (.int .i64 (N + 1))
  clear qz
  generalize (w10.setCell ⟨B3, 14, none⟩ (.int .i64 (N + 1))) = w11 at *
  have xE := x2.setRow #[.int .i64 c.cB, .int .i64 c.cBeam, .int .i64 c.cDepth, .int .i64 c.cWin, .int .i64 c.cQs, .int .i64 c.cQr, .int .i64 c.cBatch, .int .i64 c.cPass, .int .i64 c.cMsg, .int .i64 c.cSeqs, .bool X, .int .i64 K, .int .i64 R, .int .i64 B, .int .i64 (N + 1), .int .i64 (T + (Q : Int)), .int .i64 F, .slice ya (E + 1) yc, .slice za (M + Q) zc]
  have bE := below_setRow bb (show w.heap.size ≤ n2 by have := HN2.out; omega) #[.int .i64 c.cB, .int .i64 c.cBeam, .int .i64 c.cDepth, .int .i64 c.cWin, .int .i64 c.cQs, .int .i64 c.cQr, .int .i64 c.cBatch, .int .i64 c.cPass, .int .i64 c.cMsg, .int .i64 c.cSeqs, .bool X, .int .i64 K, .int .i64 R, .int .i64 B, .int .i64 (N + 1), .int .i64 (T + (Q : Int)), .int .i64 F, .slice ya (E + 1) yc, .slice za (M + Q) zc]
  have o2E := o2.put x2 (by decide) (by decide) (by decide) (fun g hg => setRow_other w11 n2 g #[.int .i64 c.cB, .int .i64 c.cBeam, .int .i64 c.cDepth, .int .i64 c.cWin, .int .i64 c.cQs, .int .i64 c.cQr, .int .i64 c.cBatch, .int .i64 c.cPass, .int .i64 c.cMsg, .int .i64 c.cSeqs, .bool X, .int .i64 K, .int .i64 R, .int .i64 B, .int .i64 (N + 1), .int .i64 (T + (Q : Int)), .int .i64 F, .slice ya (E + 1) yc, .slice za (M + Q) zc] hg)
  clear bb o2
  go_wp2_with (first | (refine wpList_load_box x3 rfl 30 _ rfl rfl _ Tryd.underlying30 rfl (by kernel_rfl) ?_) | (refine wpList_store_box x2 rfl 30 _ _ rfl rfl rfl rfl (by kernel_rfl) (by simp [Value.oneCell']) ?_))
  exact bodyPost_ret (results_boxR2 rfl _ _ rfl xE Tryd.underlying30 rfl (by kernel_rfl)) rfl ⟨ya, yc, za, zc, rfl, o2E, bE⟩

end Go.Proofs.YtmjidhnlofpliaaDoor

/-
  Messages and all their blocks, numbered from 0 on; where messages end. No function of the program is spoken of.
-/
namespace Go.Proofs.YtmjidhnlofpliaaDoor
open Go.RowKit

end Go.Proofs.YtmjidhnlofpliaaDoor

/-
  The end that sends, as numbers: what is never taken back; what waits behind messages alone; what is learned of all. No function of the program is spoken of.
-/
namespace Go.Proofs.YtmjidhnlofpliaaDoor
open Go.RowKit

/-- What was stays: the base, what is confirmed, sent; what waits, and is acked. -/
structure Keeps (s t : Sn) : Prop where
  base : s.sF ≤ t.sF
  conf : confS s ≤ confS t
  sent : s.sN ≤ t.sN
  waits : ∀ (k : Nat) (e : Em), s.sW[k]? = some e → t.sF ≤ s.sF + (k : Int) → ∃ e', t.sW[(s.sF + (k : Int) - t.sF).toNat]? = some e' ∧ (e.eA = true → e'.eA = true) ∧ e'.eB = e.eB
theorem keeps_same {s t : Sn} (h1 : t.sF = s.sF) (h2 : t.sE = s.sE) (h3 : t.sN = s.sN) (h4 : t.sW = s.sW) : Keeps s t := ⟨by omega, by unfold confS; rw [h2, h3]; exact Int.le_refl _, by omega, fun k e hk _ => ⟨e, by rw [h4, h1, show (s.sF + (k : Int) - s.sF).toNat = k by omega]; exact hk, fun h => h, rfl⟩⟩
theorem keeps_send (s : Sn) (msg : List Int) : Keeps s (sendS s msg) := by
  unfold sendS
  split
  · refine ⟨Int.le_refl _, ?_, by show s.sN ≤ s.sN + 1; omega, fun k e hk _ => ⟨e, ?_, fun h => h, rfl⟩⟩
    · unfold confS
      show _ ≤ s.sN + 1 - (((s.sE ++ [s.sT + blocksC s.sC msg.length]).length : Nat) : Int)
      rw [List.length_append, List.length_cons, List.length_nil]
      omega
    · show (s.sW ++ waitsB s.sT (blocksB s.sC s.sT msg))[(s.sF + (k : Int) - s.sF).toNat]? = some e
      rw [show (s.sF + (k : Int) - s.sF).toNat = k by omega, List.getElem?_append_left (List.getElem?_eq_some_iff.1 hk).1]
      exact hk
  · exact keeps_same rfl rfl rfl rfl
theorem keeps_close (s : Sn) : Keeps s (closeS s) := keeps_same rfl rfl rfl rfl
theorem keeps_tick (s : Sn) : Keeps s (tickS s) := by
  refine ⟨Int.le_refl _, Int.le_refl _, Int.le_refl _, fun k e hk _ => ⟨if k < winS s then tickM s.sC e else e, ?_, fun h => ?_, ?_⟩⟩
  · show (tickS s).sW[(s.sF + (k : Int) - s.sF).toNat]? = _
    rw [show (s.sF + (k : Int) - s.sF).toNat = k by omega, tickS_get, hk]
    rfl
  · split
    · rw [(tickM_same _ _).2.1]; exact h
    · exact h
  · split
    · exact (tickM_same _ _).2.2
    · rfl
theorem keeps_learn (s : Sn) (zs : List Int) : Keeps s (learnS s zs) := by
  by_cases h1 : errA zs = 0
  · by_cases h2 : errL s zs = 0
    · rw [learnS_in h2]
      obtain ⟨_, hlo, hhi⟩ := errL_zero.1 h2
      refine ⟨hlo, ?_, Int.le_refl _, fun k e hk hle => ⟨if (k - (aN zs - s.sF).toNat) < winS s then ackM (aN zs) (aB zs).toNat e else e, ?_, fun ha => ?_, ?_⟩⟩
      · have := drop_len (fun x => decide (x ≤ aN zs)) s.sE
        unfold confS
        show s.sN - (s.sE.length : Int) ≤ s.sN - (((s.sE.dropWhile fun x => decide (x ≤ aN zs)).length : Nat) : Int)
        omega
      · have hle : aN zs ≤ s.sF + (k : Int) := hle
        show (learnt s (aN zs) (aB zs).toNat).sW[(s.sF + (k : Int) - aN zs).toNat]? = _
        rw [learnt_get, show (s.sF + (k : Int) - aN zs).toNat = k - (aN zs - s.sF).toNat by omega, show (aN zs - s.sF).toNat + (k - (aN zs - s.sF).toNat) = k by omega, hk]
        rfl
      · split
        · show (e.eA || _) = true
          rw [ha]; rfl
        · exact ha
      · split <;> rfl
    · rw [learnS_far h1 h2]; exact keeps_same rfl rfl rfl rfl
  · rw [learnS_bad h1]; exact keeps_same rfl rfl rfl rfl

/-- What an ack is that was made. -/
theorem made_ack {n b : Int} (h0 : 0 ≤ n) (h1 : n ≤ 1073741824) (h2 : 0 ≤ b) (h3 : b < 4294967296) : errA (packA n b) = 0 ∧ aN (packA n b) = n ∧ aB (packA n b) = b := ⟨errA_ok (okA_pack h0 h1), aN_pack h0 h1, aB_pack h2 h3⟩
/-- All blocks are told to be had: nothing waits. -/
theorem upTo_none {l : List Int} {a t n : Int} (h : upTo a l t) (hn : t ≤ n) : (l.dropWhile fun x => decide (x ≤ n)) = [] := by
  have hm := upTo_mem h
  clear h
  induction l with
  | nil => rfl
  | cons x l ih =>
    have := hm x (by simp)
    rw [List.dropWhile_cons, if_pos (decide_eq_true (by omega))]
    exact ih fun y hy => hm y (by simp [hy])
theorem learnt_all {s : Sn} (h : okS s) (b : Nat) : learnt s s.sT b = { s with sF := s.sT, sE := [], sW := [] } := by
  have hl := h.long
  unfold learnt
  rw [upTo_none h.ends (Int.le_refl _), List.drop_eq_nil_of_le (by omega)]
  rfl
theorem learn_all {s : Sn} (h : okS s) {b : Int} (hb0 : 0 ≤ b) (hb1 : b < 4294967296) : errL s (packA s.sT b) = 0 ∧ learnS s (packA s.sT b) = { s with sF := s.sT, sE := [], sW := [] } := by
  have hT := h.next_bd
  have h0 := h.low
  have hb := h.base
  have hl := h.long
  obtain ⟨e1, e2, e3⟩ := made_ack (n := s.sT) (b := b) (by omega) hT hb0 hb1
  have he : errL s (packA s.sT b) = 0 := errL_zero.2 ⟨e1, by rw [e2]; exact hb, by rw [e2]; omega⟩
  exact ⟨he, by rw [learnS_in he, e2]; exact learnt_all h _⟩
/-- The packets of the first k that wait. -/
def packUpS (s : Sn) (k : Nat) : List (List Int) := (s.sW.take (min k (winS s))).filterMap (packM s.sC)
theorem packUpS_end (s : Sn) {k : Nat} (h : winS s ≤ k) : packUpS s k = packS s := by unfold packUpS packS; rw [Nat.min_eq_right h]
theorem packUpS_long (s : Sn) {k : Nat} (h : s.sW.length ≤ k) : packUpS s k = packS s := by
  unfold packUpS packS
  by_cases hw : winS s ≤ k
  · rw [Nat.min_eq_right hw]
  · rw [Nat.min_eq_left (by omega), List.take_of_length_le h, List.take_of_length_le (by omega)]
theorem packUpS_step {s : Sn} {k : Nat} {e : Em} (hk : k < winS s) (he : s.sW[k]? = some e) : packUpS s (k + 1) = packUpS s k ++ (packM s.sC e).toList := by
  unfold packUpS
  rw [Nat.min_eq_left (by omega), Nat.min_eq_left (by omega), List.take_add_one, List.filterMap_append, he]
  cases hp : packM s.sC e <;> simp [hp]
theorem packUpS_zero (s : Sn) : packUpS s 0 = [] := by unfold packUpS; simp
end Go.Proofs.YtmjidhnlofpliaaDoor

/-
  Rows from whatever cell on: one cell is written over. No function of the program is spoken of.
-/
namespace Go.Proofs.YtmjidhnlofpliaaDoor
open Go.RowKit

theorem RowAt.form {base n k : Nat} {W : World} {e : TypeId} {v : Value} {cs : List Value} (h : RowAt base W e k v n cs) (hn : 0 < n) : ∃ g o cap, v = .slice (some ⟨g, o, none⟩) n cap ∧ base ≤ g ∧ g < W.heap.size ∧ (∀ (j : Nat) (u : Value), cs[j]? = some u → W.cell? ⟨g, o + j, none⟩ = some u) ∧ ∀ j, W.frozen? ⟨g, j, none⟩ = false := by
  rcases h.2 with ⟨rfl, _⟩ | ⟨g, o, cap, cur, hv, h1, hb, hg, hc⟩
  · omega
  · exact ⟨g, o, cap, hv, hb, (Array.getElem?_eq_some_iff.1 hg).1, fun j u hj => by simp [World.cell?, hg, hc j u hj], fun j => by simp [World.frozen?, hg]⟩
theorem RowAt.set {base n k g o cap : Nat} {W : World} {e : TypeId} {cs : List Value} (h : RowAt base W e k (.slice (some ⟨g, o, none⟩) n cap) n cs) (hn : 0 < n) (j : Nat) (u : Value) : RowAt base (W.setCell ⟨g, o + j, none⟩ u) e k (.slice (some ⟨g, o, none⟩) n cap) n (cs.set j u) := by
  refine ⟨by rw [List.length_set]; exact h.1, ?_⟩
  rcases h.2 with ⟨rfl, _⟩ | ⟨g', o', cap', cur, hv, h1, hb, hg, hc⟩
  · omega
  · cases hv
    refine .inr ⟨g, o, cap, cur.setIfInBounds (o + j) u, rfl, h1, hb, ?_, fun i x hi => ?_⟩
    · obtain ⟨hlt, he⟩ := Array.getElem?_eq_some_iff.1 hg
      refine Array.getElem?_eq_some_iff.2 ⟨by simpa [World.setCell] using hlt, ?_⟩
      simp only [World.setCell]
      rw [Array.getElem_modify]
      simp [he]
    · by_cases hij : j = i
      · subst hij
        have hl : j < cs.length := by have := (List.getElem?_eq_some_iff.1 hi).1; rwa [List.length_set] at this
        rw [List.getElem?_set_self hl] at hi
        have := hc j cs[j] (by simp)
        have hl2 := (Array.getElem?_eq_some_iff.1 this).1
        rw [Array.getElem?_setIfInBounds_self_of_lt hl2]
        exact hi
      · rw [List.getElem?_set_ne hij] at hi
        rw [Array.getElem?_setIfInBounds_ne (by omega)]
        exact hc i x hi
/-- The block that it lies in is another one than a variable's of another type. -/
theorem RowAt.neBox {base n k g o cap B : Nat} {W : World} {e t : TypeId} {cs : List Value} {ds : Array Value} (h : RowAt base W e k (.slice (some ⟨g, o, none⟩) n cap) n cs) (hn : 0 < n) (hb : Box W B t ds) (he : e ≠ t) : g ≠ B := fun hv => by
  rcases h.2 with ⟨rfl, _⟩ | ⟨g', o', cap', cur, hv', h1, hb', hg, hc⟩
  · omega
  · cases hv'
    subst hv
    have h2 : W.heap[g]? = _ := hb
    rw [hg] at h2
    simp only [Option.some.injEq, Obj.cells.injEq] at h2
    exact he h2.2.1
/-- The elements behind the first that are at most n. -/
theorem dropWhile_at {l : List Int} {n : Int} {k : Nat} (h1 : ∀ (j : Nat) (x : Int), j < k → l[j]? = some x → x ≤ n) (h2 : ∀ x, l[k]? = some x → n < x) (hk : k ≤ l.length) : (l.dropWhile fun x => decide (x ≤ n)) = l.drop k := by
  induction l generalizing k with
  | nil => simp at hk; subst hk; rfl
  | cons y l ih =>
    rw [List.dropWhile_cons]
    cases k with
    | zero =>
      rw [if_neg (by have := h2 y rfl; simp; omega)]
      rfl
    | succ k =>
      rw [if_pos (decide_eq_true (h1 0 y (by omega) rfl))]
      exact ih (fun j x hj hx => h1 (j + 1) x (by omega) (by simpa using hx)) (fun x hx => h2 x (by simpa using hx)) (by simpa using hk)

end Go.Proofs.YtmjidhnlofpliaaDoor
