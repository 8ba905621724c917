/-
  What send answers, of a right sender, all of it said of the sender as numbers: as the laws want it. (Written by tpl_sendcode.py.)
-/
import Derived.Test.YtkphjnbeakkejabDoorM22
import Derived.Test.YtkphjnbeakkejabDoorM23
import Derived.Test.YtkphjnbeakkejabDoorM30
import Derived.Test.YtkphjnbeakkejabDoorM31
import Derived.Lib.SlBytesConst
namespace Go.Proofs.YtkphjnbeakkejabDoor
open Go.RowKit

theorem step_store_box {P : Program} {ops : Array Oper} {o : Oper} {a : Act} {w : World} {K : Act → World → Prop} {Q : Exit → Act → World → Prop} {E : Prop} {B : Nat} {t : TypeId} {old cs : Array Value} (hb : Box w B t old) (hw : Region.wanted o (yielded ops a.tmps) = true) (ty : TypeId) (x y : Operand) (ho : o.op = .store ty x y) (hx : a.eval x = .pointer (some ⟨B, 0, none⟩)) (hy : a.eval y = .agg cs)
    (hs : old.size = cs.size) (hi : (P.info? ty).map (·.size) = some cs.size) (h1 : cs.all (·.oneCell') = true) (h : K (a.put o.dst undef) (w.setRow B cs)) : if Region.wanted o (yielded ops a.tmps) = true then Oper.wp P o a w K Q else E := by
  rw [if_pos hw]
  unfold Oper.wp execOp
  simp only [ho, hx, hy, Instr.storeAt, Instr.sureAddr, Sem.run_bind, Sem.run_pure, Result.andThen_ok, run_storeVar_row w B t ty old cs hb hi hs h1]
  exact h
theorem step_store_boxn {P : Program} {ops : Array Oper} {o : Oper} {a : Act} {w : World} {K : Act → World → Prop} {Q : Exit → Act → World → Prop} {E : Prop} {B : Nat} {t : TypeId} {old cs : Array Value} (hb : Box w B t old) (hgd : o.guard = none) (ty : TypeId) (x y : Operand) (ho : o.op = .store ty x y) (hx : a.eval x = .pointer (some ⟨B, 0, none⟩)) (hy : a.eval y = .agg cs)
    (hs : old.size = cs.size) (hi : (P.info? ty).map (·.size) = some cs.size) (h1 : cs.all (·.oneCell') = true) (h : K (a.put o.dst undef) (w.setRow B cs)) : if Region.wanted o (yielded ops a.tmps) = true then Oper.wp P o a w K Q else E := step_store_box hb (by simp [Region.wanted, hgd]) ty x y ho hx hy hs hi h1 h
/-- A right sender whose lists lie in blocks made since base, with at most m blocks that wait. -/
structure SnW (base : Nat) (W : World) (s : Sn) (c : Cfg) (X : Bool) (K R B N T F : Int) (E M : Nat) (ea : Option Addr) (ec : Nat) (wa : Option Addr) (wc m : Nat) : Prop where
  is : SnIs s c X K R B N T F E M
  ok : okS s
  byt : byS s
  lies : SnL base W s ea E ec wa M wc
  few : M ≤ m
theorem SnW.next {base m : Nat} {W W' : World} {s : Sn} {c : Cfg} {X : Bool} {K R B N T F : Int} {E M : Nat} {ea : Option Addr} {ec : Nat} {wa : Option Addr} {wc : Nat} (h : SnW base W s c X K R B N T F E M ea ec wa wc m) (b : Below W.heap.size W W') : SnW base W' s c X K R B N T F E M ea ec wa wc m := ⟨h.is, h.ok, h.byt, h.lies.next b, h.few⟩
theorem SnW.old {base m : Nat} {W W' : World} {s : Sn} {c : Cfg} {X : Bool} {K R B N T F : Int} {E M : Nat} {ea : Option Addr} {ec : Nat} {wa : Option Addr} {wc : Nat} (h : SnW base W s c X K R B N T F E M ea ec wa wc m) {D : Nat} (hD : D < base) (hq : ∀ g, g ≠ D → W'.heap[g]? = W.heap[g]?) : SnW base W' s c X K R B N T F E M ea ec wa wc m := ⟨h.is, h.ok, h.byt, h.lies.old hD hq, h.few⟩
theorem SnW.lower {base base' m : Nat} {W : World} {s : Sn} {c : Cfg} {X : Bool} {K R B N T F : Int} {E M : Nat} {ea : Option Addr} {ec : Nat} {wa : Option Addr} {wc : Nat} (h : SnW base W s c X K R B N T F E M ea ec wa wc m) (hn : base' ≤ base) : SnW base' W s c X K R B N T F E M ea ec wa wc m := ⟨h.is, h.ok, h.byt, h.lies.lower hn, h.few⟩
theorem SnW.more {base m m' : Nat} {W : World} {s : Sn} {c : Cfg} {X : Bool} {K R B N T F : Int} {E M : Nat} {ea : Option Addr} {ec : Nat} {wa : Option Addr} {wc : Nat} (h : SnW base W s c X K R B N T F E M ea ec wa wc m) (hm : m ≤ m') : SnW base W s c X K R B N T F E M ea ec wa wc m' := ⟨h.is, h.ok, h.byt, h.lies, Nat.le_trans h.few hm⟩
section
variable {base m : Nat} {s : Sn} {c : Cfg} {X : Bool} {K R B N T F : Int} {E M : Nat} {ea : Option Addr} {ec : Nat} {wa : Option Addr} {wc : Nat} {w : World}
theorem SnW.fewE (h : SnW base w s c X K R B N T F E M ea ec wa wc m) : E ≤ 1000000 := by
  have h1 := h.ok.room
  have h2 := (okC_iff _).1 h.ok.conf
  rw [h.is.lE] at h1
  omega
theorem SnW.bytes (h : SnW base w s c X K R B N T F E M ea ec wa wc m) : ∀ e ∈ s.sW, e.eB.length ≤ 4096 := fun e he => by
  obtain ⟨i, hi⟩ := List.mem_iff_getElem?.1 he
  have h1 := (okE_iff _ _ _ _ _).1 (h.ok.all i e hi).2
  have h2 := (okC_iff _).1 h.ok.conf
  omega
theorem SnW.conf (h : SnW base w s c X K R B N T F E M ea ec wa wc m) : okC c = true := by have := h.ok.conf; rw [h.is.eC] at this; exact this
end
theorem byS_send {s : Sn} (h : byS s) (hC : okC s.sC = true) {msg : List Int} (hT : 0 ≤ s.sT) (he : errS s msg = 0) (bm : ∀ z ∈ msg, 0 ≤ z ∧ z ≤ 255) : byS (sendS s msg) := by
  unfold sendS
  rw [if_pos he]
  intro e hm
  rcases List.mem_append.1 (show e ∈ s.sW ++ waitsB s.sT (blocksB s.sC s.sT msg) from hm) with hm | hm
  · exact h e hm
  · obtain ⟨i, hi⟩ := List.mem_iff_getElem?.1 hm
    rw [waitsB_get] at hi
    cases hb : (blocksB s.sC s.sT msg)[i]? with
    | none => rw [hb] at hi; cases hi
    | some b =>
      rw [hb] at hi
      simp only [Option.map_some, Option.some.injEq] at hi
      subst hi
      have hl := (List.getElem?_eq_some_iff.1 hb).1
      rw [blocksB_len] at hl
      rw [blocksB_get hl] at hb
      have hB := conf_B hC
      obtain ⟨_, h1, h2, _⟩ := errS_zero.1 he
      have h3 := blocksC_nat hC msg.length
      have h4 := (okC_iff _).1 hC
      rw [← Option.some.inj hb]
      exact bytesB_bd (cut_right hB.1 hB.2.1 hT (by omega) hl) (fun z hz => bm z (by unfold textK at hz; exact List.mem_of_mem_drop (List.mem_of_mem_take hz)))
theorem byS_tick {s : Sn} (h : byS s) : byS (tickS s) := by
  intro e hm
  obtain ⟨i, hi⟩ := List.mem_iff_getElem?.1 hm
  rw [tickS_get] at hi
  cases hb : s.sW[i]? with
  | none => rw [hb] at hi; cases hi
  | some y =>
    rw [hb] at hi
    simp only [Option.map_some, Option.some.injEq] at hi
    subst hi
    have hy := h y (List.mem_of_getElem? hb)
    split
    · rw [(tickM_same _ _).2.2]; exact hy
    · exact hy
theorem byS_learnt {s : Sn} (h : byS s) (n : Int) (b : Nat) : byS (learnt s n b) := by
  intro e hm
  obtain ⟨i, hi⟩ := List.mem_iff_getElem?.1 hm
  rw [learnt_get] at hi
  cases hb : s.sW[(n - s.sF).toNat + i]? with
  | none => rw [hb] at hi; cases hi
  | some y =>
    rw [hb] at hi
    simp only [Option.map_some, Option.some.injEq] at hi
    subst hi
    have hy := h y (List.mem_of_getElem? hb)
    split
    · exact hy
    · exact hy
section
variable {base m : Nat} {s : Sn} {c : Cfg} {X : Bool} {K R B N T F : Int} {E M : Nat} {ea : Option Addr} {ec : Nat} {wa : Option Addr} {wc : Nat} {w : World}
theorem sendNew_law (c : Cfg) (hC : okC c = true) (w : World) :
    Calls Tryd.prog 6 #[.agg #[.int .i64 c.cB, .int .i64 c.cBeam, .int .i64 c.cDepth, .int .i64 c.cWin, .int .i64 c.cQs, .int .i64 c.cQr, .int .i64 c.cBatch, .int .i64 c.cPass, .int .i64 c.cMsg, .int .i64 c.cSeqs]] w fun e W' => e = .returned (.tuple #[.agg #[.int .i64 c.cB, .int .i64 c.cBeam, .int .i64 c.cDepth, .int .i64 c.cWin, .int .i64 c.cQs, .int .i64 c.cQr, .int .i64 c.cBatch, .int .i64 c.cPass, .int .i64 c.cMsg, .int .i64 c.cSeqs, .bool false, .int .i64 0, .int .i64 0, .int .i64 0, .int .i64 0, .int .i64 0, .int .i64 0, .slice none 0 0, .slice none 0 0], .int .i64 0]) ∧ (∀ b, Hid (SnW b W' (newS c) c false 0 0 0 0 0 0 0 0 none 0 none 0 0)) ∧ Below w.heap.size w W' :=
  (sendNew_ok c hC w).mono fun _ W' ⟨he, hb⟩ => ⟨he, fun b => ⟨⟨rfl, rfl, rfl, rfl, rfl, rfl, rfl, rfl, rfl, rfl⟩, newS_ok hC, (fun e hm => by cases hm), SnL.nil b W' rfl rfl, Nat.le_refl _⟩, hb⟩
theorem sendSend_law (h : SnW base w s c X K R B N T F E M ea ec wa wc m) (hm9 : m ≤ 900000) (b : Option Addr) (n bc : Nat) (msg : List Int) (hn : msg.length = n) (hcap : n ≤ bc) (bm : ∀ z ∈ msg, 0 ≤ z ∧ z ≤ 255) (hb : Holds .u8 w.heap.size w (.slice b n bc) msg) :
    Calls Tryd.prog 7 #[.agg #[.int .i64 c.cB, .int .i64 c.cBeam, .int .i64 c.cDepth, .int .i64 c.cWin, .int .i64 c.cQs, .int .i64 c.cQr, .int .i64 c.cBatch, .int .i64 c.cPass, .int .i64 c.cMsg, .int .i64 c.cSeqs, .bool X, .int .i64 K, .int .i64 R, .int .i64 B, .int .i64 N, .int .i64 T, .int .i64 F, .slice ea E ec, .slice wa M wc], .slice b n bc] w fun e W' => ∃ (R9 B9 N9 T9 F9 : Int) (E9 M9 : Nat) (fa : Option Addr) (fc : Nat) (va : Option Addr) (vc : Nat), e = .returned (.tuple #[.agg #[.int .i64 c.cB, .int .i64 c.cBeam, .int .i64 c.cDepth, .int .i64 c.cWin, .int .i64 c.cQs, .int .i64 c.cQr, .int .i64 c.cBatch, .int .i64 c.cPass, .int .i64 c.cMsg, .int .i64 c.cSeqs, .bool X, .int .i64 K, .int .i64 R9, .int .i64 B9, .int .i64 N9, .int .i64 T9, .int .i64 F9, .slice fa E9 fc, .slice va M9 vc], .int .i64 (errS s msg)]) ∧ Hid (SnW w.heap.size W' (sendS s msg) c X K R9 B9 N9 T9 F9 E9 M9 fa fc va vc (m + 200)) ∧ Below w.heap.size w W' := by
  have hf := h.few
  by_cases he : errS s msg = 0
  · obtain ⟨Q, hQ⟩ : ∃ Q, blocksN c.cB.toNat n = Q := ⟨_, rfl⟩
    refine (sendSend_ok h.is h.fewE (by omega) h.bytes ea ec wa wc b n bc msg hn hcap bm w h.lies.at hb h.ok he Q hQ).mono ?_
    rintro e W' ⟨ya, yc, za, zc, rfl, ho, hb⟩
    have hQ2 : Q ≤ 200 := by
      have h1 := (errS_zero.1 he).2.1
      rw [h.is.eC, hn] at h1
      have h2 := (blocks_bd h.conf n h1).2.2
      have h3 := blocksC_nat h.conf n
      rw [hQ] at h3
      omega
    have hT : 0 ≤ s.sT := by have h1 := h.ok.low; have h2 := h.ok.base; omega
    exact ⟨_, _, _, _, _, _, _, ya, yc, za, zc, by rw [he], ⟨snIs_send h.is h.ok (by rw [hn]; exact hQ) he, sendS_ok h.ok msg, byS_send h.byt h.ok.conf hT he bm, .ofOwn ho, by omega⟩, hb⟩
  · refine (sendSend_ref h.is h.fewE (by omega) h.bytes ea ec wa wc b n bc msg hn w h.lies.at h.ok _ rfl he).mono ?_
    rintro e W' ⟨fa, fc, va, vc, rfl, ho, hb⟩
    have hl : (sendS s msg).sE = s.sE ∧ (sendS s msg).sW = s.sW := by unfold sendS; rw [if_neg he]; exact ⟨rfl, rfl⟩
    exact ⟨_, _, _, _, _, _, _, fa, fc, va, vc, rfl, ⟨snIs_ref h.is he, sendS_ok h.ok msg, by show ∀ e ∈ (sendS s msg).sW, _; rw [hl.2]; exact h.byt, by unfold SnL; rw [hl.1, hl.2]; exact SnL.ofOwn ho, by omega⟩, hb⟩
theorem sendConfirmed_law (h : SnW base w s c X K R B N T F E M ea ec wa wc m) (hm9 : m ≤ 900000) :
    Calls Tryd.prog 30 #[.agg #[.int .i64 c.cB, .int .i64 c.cBeam, .int .i64 c.cDepth, .int .i64 c.cWin, .int .i64 c.cQs, .int .i64 c.cQr, .int .i64 c.cBatch, .int .i64 c.cPass, .int .i64 c.cMsg, .int .i64 c.cSeqs, .bool X, .int .i64 K, .int .i64 R, .int .i64 B, .int .i64 N, .int .i64 T, .int .i64 F, .slice ea E ec, .slice wa M wc]] w fun e W' => e = .returned (.int .i64 (N - (E : Int))) ∧ Below w.heap.size w W' := by
  have hf := h.few
  exact sendConfirmed_any h.is h.fewE (by omega) h.bytes ea ec wa wc w h.lies.at _ (.inl ⟨h.ok, rfl⟩)
theorem tickS_is (h : SnW base w s c X K R B N T F E M ea ec wa wc m) : SnIs (tickS s) c X (satN K 1) R B N T F E M := ⟨h.is.eC, h.is.eX, by show satN s.sK 1 = _; rw [h.is.eK], h.is.eR, h.is.eB, h.is.eN, h.is.eT, h.is.eF, h.is.lE, by rw [tickS_len]; exact h.is.lW⟩
theorem sendTick_law (h : SnW base w s c X K R B N T F E M ea ec wa wc m) (hm9 : m ≤ 900000) (hF : Firsts w) :
    Calls Tryd.prog 15 #[.agg #[.int .i64 c.cB, .int .i64 c.cBeam, .int .i64 c.cDepth, .int .i64 c.cWin, .int .i64 c.cQs, .int .i64 c.cQr, .int .i64 c.cBatch, .int .i64 c.cPass, .int .i64 c.cMsg, .int .i64 c.cSeqs, .bool X, .int .i64 K, .int .i64 R, .int .i64 B, .int .i64 N, .int .i64 T, .int .i64 F, .slice ea E ec, .slice wa M wc]] w fun e W' => ∃ fa fc va vc pa pn pc r q, e = .returned (.tuple #[.agg #[.int .i64 c.cB, .int .i64 c.cBeam, .int .i64 c.cDepth, .int .i64 c.cWin, .int .i64 c.cQs, .int .i64 c.cQr, .int .i64 c.cBatch, .int .i64 c.cPass, .int .i64 c.cMsg, .int .i64 c.cSeqs, .bool X, .int .i64 (satN K 1), .int .i64 R, .int .i64 B, .int .i64 N, .int .i64 T, .int .i64 F, .slice fa E fc, .slice va M vc], .slice pa pn pc, .int .i64 0]) ∧ Hid (TkE w W' s fa E fc va M vc (.slice pa pn pc) pn r q) ∧ Hid (SnW w.heap.size W' (tickS s) c X (satN K 1) R B N T F E M fa fc va vc m) ∧ Below w.heap.size w W' := by
  have hf := h.few
  refine (sendTick_ok h.is h.fewE (by omega) h.bytes ea ec wa wc h.byt w hF h.lies.at h.ok).mono ?_
  rintro e W' ⟨fa, fc, va, vc, pa, pn, pc, r, q, rfl, ho, hb⟩
  exact ⟨fa, fc, va, vc, pa, pn, pc, r, q, rfl, ho, ⟨tickS_is h, tickS_ok h.ok, byS_tick h.byt, .ofOwn ho.out.sn, hf⟩, hb⟩
theorem sendLearn_law (h : SnW base w s c X K R B N T F E M ea ec wa wc m) (hm9 : m ≤ 900000) (b : Option Addr) (n bc : Nat) (zs : List Int) (hn : zs.length = n) (hl : n ≤ 4096) (hcap : n ≤ bc) (bz : ∀ z ∈ zs, 0 ≤ z ∧ z ≤ 255) (hb : Holds .u8 w.heap.size w (.slice b n bc) zs) :
    Calls Tryd.prog 14 #[.agg #[.int .i64 c.cB, .int .i64 c.cBeam, .int .i64 c.cDepth, .int .i64 c.cWin, .int .i64 c.cQs, .int .i64 c.cQr, .int .i64 c.cBatch, .int .i64 c.cPass, .int .i64 c.cMsg, .int .i64 c.cSeqs, .bool X, .int .i64 K, .int .i64 R, .int .i64 B, .int .i64 N, .int .i64 T, .int .i64 F, .slice ea E ec, .slice wa M wc], .slice b n bc] w fun e W' => ∃ (R9 B9 N9 T9 F9 : Int) (E9 M9 : Nat) (fa : Option Addr) (fc : Nat) (va : Option Addr) (vc : Nat), e = .returned (.tuple #[.agg #[.int .i64 c.cB, .int .i64 c.cBeam, .int .i64 c.cDepth, .int .i64 c.cWin, .int .i64 c.cQs, .int .i64 c.cQr, .int .i64 c.cBatch, .int .i64 c.cPass, .int .i64 c.cMsg, .int .i64 c.cSeqs, .bool X, .int .i64 K, .int .i64 R9, .int .i64 B9, .int .i64 N9, .int .i64 T9, .int .i64 F9, .slice fa E9 fc, .slice va M9 vc], .int .i64 (errL s zs)]) ∧ Hid (SnW w.heap.size W' (learnS s zs) c X K R9 B9 N9 T9 F9 E9 M9 fa fc va vc m) ∧ Below w.heap.size w W' := by
  have hf := h.few
  by_cases h1 : errA zs = 0
  · have hoA := errA_zero.1 h1
    by_cases h2 : errL s zs = 0
    · refine (sendLearn_ok h.is h.fewE (by omega) h.bytes ea ec wa wc b n bc zs hn hl hcap bz w h.lies.at hb h.ok hoA h2).mono ?_
      rintro e W' ⟨a2, m2, c2, a1, m1, c1, rfl, ho, hb⟩
      have e2 := ho.1.1
      have hs := ho.2.shape
      rw [List.length_map, Nat.mul_one] at e2
      obtain ⟨_, _, e3⟩ := hs
      simp only [Value.slice.injEq] at e3
      have e4 : (learnS s zs).sW.length = m1 := e3.2.1.symm
      have h3 : m1 ≤ M := by
        rw [← e4, learnS_in h2, learnt_len, ← h.is.lW]
        omega
      rw [learnS_in h2] at ho e2 e4
      exact ⟨_, _, _, _, _, _, _, a2, c2, a1, c1, by rw [h2], by rw [learnS_in h2]; exact ⟨⟨h.is.eC, h.is.eX, h.is.eK, h.is.eR, h.is.eB, h.is.eN, h.is.eT, rfl, e2, e4⟩, by have := learnS_ok h.ok zs; rwa [learnS_in h2] at this, byS_learnt h.byt _ _, ho, by omega⟩, hb⟩
    · refine (sendLearn_far h.is h.fewE (by omega) h.bytes ea ec wa wc b n bc zs hn hl hcap bz w h.lies.at hb h.ok hoA _ rfl h2).mono ?_
      rintro e W' ⟨fa, fc, va, vc, rfl, ho, hb⟩
      exact ⟨_, _, _, _, _, _, _, fa, fc, va, vc, rfl, by rw [learnS_far h1 h2]; exact ⟨h.is, h.ok, h.byt, .ofOwn ho, hf⟩, hb⟩
  · have h2 : errL s zs = errA zs := if_neg h1
    refine (sendLearn_bad h.is h.fewE (by omega) h.bytes ea ec wa wc b n bc zs hn hl hcap bz w h.lies.at hb h.ok _ rfl h1).mono ?_
    rintro e W' ⟨fa, fc, va, vc, rfl, ho, hb⟩
    exact ⟨_, _, _, _, _, _, _, fa, fc, va, vc, by rw [h2], by rw [learnS_bad h1]; exact ⟨⟨h.is.eC, h.is.eX, h.is.eK, h.is.eR, by show satN s.sB 1 = _; rw [h.is.eB], h.is.eN, h.is.eT, h.is.eF, h.is.lE, h.is.lW⟩, by have := learnS_ok h.ok zs; rwa [learnS_bad h1] at this, h.byt, .ofOwn ho, hf⟩, hb⟩
end

end Go.Proofs.YtkphjnbeakkejabDoor

/-
  The laws' own guard over send (wakes) answers true; what lay lies as it lay. (Written by tpl_sendlaws.py.)
-/
namespace Go.Proofs.YtkphjnbeakkejabDoor
open Go.RowKit

def c1W : Cfg := ⟨1, 1, 1, 1, 1, 1, 1, 4, 5, 9⟩
theorem c1W_ok : okC c1W = true := by decide +kernel
theorem s1W_err : errS (newS c1W) [120] = 0 := by decide +kernel
theorem s1W_nums : (sendS (newS c1W) [120]).sN = 1 ∧ (sendS (newS c1W) [120]).sT = 1 ∧ (sendS (newS c1W) [120]).sF = 0 := by decide +kernel
theorem s1W_waits : ∃ b, (sendS (newS c1W) [120]).sW = [newM 0 b] := by
  have hl : (blocksB c1W 0 [120]).length = 1 := by rw [blocksB_len]; decide +kernel
  obtain ⟨b, hb⟩ : ∃ b, blocksB c1W 0 [120] = [b] := by
    match h : blocksB c1W 0 [120], hl with
    | [b], _ => exact ⟨b, rfl⟩
  refine ⟨b, ?_⟩
  unfold sendS
  rw [if_pos s1W_err]
  show [] ++ waitsB 0 (blocksB c1W 0 [120]) = _
  rw [hb]
  rfl
theorem s1W_packs : (packS (sendS (newS c1W) [120])).length = 1 := by
  obtain ⟨b, hb⟩ := s1W_waits
  unfold packS
  rw [hb, show winS (sendS (newS c1W) [120]) = 1 by decide +kernel]
  rfl
theorem holds_newS (w : World) (fr : Nat × Nat := (0, 0)) : Holds .u8 (w.alloc (.cells #[.int .u8 120] 5 fr)).heap.size (w.alloc (.cells #[.int .u8 120] 5 fr)) (.slice (some ⟨w.heap.size, 0, none⟩) 1 1) [120] := held_new .u8 w [120] 1 5 fr
set_option maxRecDepth 100000 in
set_option maxHeartbeats 4000000 in
theorem sendWakes_any (w : World) (hF : Firsts w) : Calls Tryd.prog 12 #[] w fun e w' => e = .returned (.bool true) ∧ Below w.heap.size w w' := by
  have kc := fun (w : World) (C : Array Value) (n c : Nat) => Lib.run_convert_bytes_const (P := Tryd.prog) w 33 5 C n c Tryd.underlying33 Tryd.underlying5
  obtain ⟨c, hc⟩ : ∃ c, c1W = c := ⟨_, rfl⟩
  obtain ⟨e0, e1, e2, e3, e4, e5, e6, e7, e8, e9⟩ : c.cB = 1 ∧ c.cBeam = 1 ∧ c.cDepth = 1 ∧ c.cWin = 1 ∧ c.cQs = 1 ∧ c.cQr = 1 ∧ c.cBatch = 1 ∧ c.cPass = 4 ∧ c.cMsg = 5 ∧ c.cSeqs = 9 := by rw [← hc]; exact ⟨rfl, rfl, rfl, rfl, rfl, rfl, rfl, rfl, rfl, rfl⟩
  have hC : okC c = true := hc ▸ c1W_ok
  obtain ⟨S1, hS1⟩ : ∃ S, sendS (newS c) [120] = S := ⟨_, rfl⟩
  have HER : Hid (errS (newS c) [120] = 0) := hc ▸ s1W_err
  obtain ⟨h1N, h1T, h1F⟩ : S1.sN = 1 ∧ S1.sT = 1 ∧ S1.sF = 0 := by rw [← hS1, ← hc]; exact s1W_nums
  have HPK : Hid ((packS S1).length = 1) := by
    show (packS S1).length = 1
    rw [← hS1, ← hc]
    exact s1W_packs
  clear hc
  have EQ : Hid (c.cB = 1 ∧ c.cBeam = 1 ∧ c.cDepth = 1 ∧ c.cWin = 1 ∧ c.cQs = 1 ∧ c.cQr = 1 ∧ c.cBatch = 1 ∧ c.cPass = 4 ∧ c.cMsg = 5 ∧ c.cSeqs = 9) := ⟨e0, e1, e2, e3, e4, e5, e6, e7, e8, e9⟩
  have HS1 : Hid (sendS (newS c) [120] = S1 ∧ S1.sN = 1 ∧ S1.sT = 1 ∧ S1.sF = 0) := ⟨hS1, h1N, h1T, h1F⟩
  have H1 := sendNew_law c hC w
  rw [show (#[.agg #[.int .i64 c.cB, .int .i64 c.cBeam, .int .i64 c.cDepth, .int .i64 c.cWin, .int .i64 c.cQs, .int .i64 c.cQr, .int .i64 c.cBatch, .int .i64 c.cPass, .int .i64 c.cMsg, .int .i64 c.cSeqs]] : Array Value) = #[.agg #[.int .i64 1, .int .i64 1, .int .i64 1, .int .i64 1, .int .i64 1, .int .i64 1, .int .i64 1, .int .i64 4, .int .i64 5, .int .i64 9]] by rw [e0, e1, e2, e3, e4, e5, e6, e7, e8, e9]] at H1
  clear hS1 h1N h1T h1F hC e0 e1 e2 e3 e4 e5 e6 e7 e8 e9
  go_enter Tryd.func12, Tryd.ntmps12
  go_wp2_with fail
  refine H1.mono ?_
  rintro e w1 ⟨rfl, h1, b1⟩
  have bb : Below w.heap.size w w1 := b1
  have HW : Hid (SnW (w1.heap.size + 1) w1 (newS c) c false 0 0 0 0 0 0 0 0 none 0 none 0 0) := (h1 _).out
  have bA : Below w1.heap.size w1 (w1.alloc (.cells #[.int .i64 0, .int .i64 0, .int .i64 0, .int .i64 0, .int .i64 0, .int .i64 0, .int .i64 0, .int .i64 0, .int .i64 0, .int .i64 0, .bool false, .int .i64 0, .int .i64 0, .int .i64 0, .int .i64 0, .int .i64 0, .int .i64 0, .slice none 0 0, .slice none 0 0] 29)) := (Below.refl _ _).alloc (Nat.le_refl _) _
  have x1 := Box.new w1 29 #[.int .i64 0, .int .i64 0, .int .i64 0, .int .i64 0, .int .i64 0, .int .i64 0, .int .i64 0, .int .i64 0, .int .i64 0, .int .i64 0, .bool false, .int .i64 0, .int .i64 0, .int .i64 0, .int .i64 0, .int .i64 0, .int .i64 0, .slice none 0 0, .slice none 0 0]
  go_upto_region 2 with (first | (refine wpList_store_box x1 rfl 29 _ _ rfl rfl rfl rfl (by kernel_rfl) (by simp [Value.oneCell']) ?_))
  replace x1 := x1.setRow #[.int .i64 c.cB, .int .i64 c.cBeam, .int .i64 c.cDepth, .int .i64 c.cWin, .int .i64 c.cQs, .int .i64 c.cQr, .int .i64 c.cBatch, .int .i64 c.cPass, .int .i64 c.cMsg, .int .i64 c.cSeqs, .bool false, .int .i64 0, .int .i64 0, .int .i64 0, .int .i64 0, .int .i64 0, .int .i64 0, .slice none 0 0, .slice none 0 0]
  have HW2 := HW.out.next (below_setRow bA (Nat.le_refl _) #[.int .i64 c.cB, .int .i64 c.cBeam, .int .i64 c.cDepth, .int .i64 c.cWin, .int .i64 c.cQs, .int .i64 c.cQr, .int .i64 c.cBatch, .int .i64 c.cPass, .int .i64 c.cMsg, .int .i64 c.cSeqs, .bool false, .int .i64 0, .int .i64 0, .int .i64 0, .int .i64 0, .int .i64 0, .int .i64 0, .slice none 0 0, .slice none 0 0])
  replace bb := bb.trans ((below_setRow bA (Nat.le_refl _) #[.int .i64 c.cB, .int .i64 c.cBeam, .int .i64 c.cDepth, .int .i64 c.cWin, .int .i64 c.cQs, .int .i64 c.cQr, .int .i64 c.cBatch, .int .i64 c.cPass, .int .i64 c.cMsg, .int .i64 c.cSeqs, .bool false, .int .i64 0, .int .i64 0, .int .i64 0, .int .i64 0, .int .i64 0, .int .i64 0, .slice none 0 0, .slice none 0 0]).mono bb.size)
  obtain ⟨D, hD⟩ : ∃ D, w1.heap.size = D := ⟨_, rfl⟩
  have HD : Hid (w.heap.size ≤ D) := by have := b1.size; show w.heap.size ≤ D; omega
  rw [hD] at x1 HW2 bb ⊢
  clear H1 h1 b1 bA hD HW
  generalize (w1.alloc (.cells #[.int .i64 0, .int .i64 0, .int .i64 0, .int .i64 0, .int .i64 0, .int .i64 0, .int .i64 0, .int .i64 0, .int .i64 0, .int .i64 0, .bool false, .int .i64 0, .int .i64 0, .int .i64 0, .int .i64 0, .int .i64 0, .int .i64 0, .slice none 0 0, .slice none 0 0] 29)).setRow D #[.int .i64 c.cB, .int .i64 c.cBeam, .int .i64 c.cDepth, .int .i64 c.cWin, .int .i64 c.cQs, .int .i64 c.cQr, .int .i64 c.cBatch, .int .i64 c.cPass, .int .i64 c.cMsg, .int .i64 c.cSeqs, .bool false, .int .i64 0, .int .i64 0, .int .i64 0, .int .i64 0, .int .i64 0, .int .i64 0, .slice none 0 0, .slice none 0 0] = w2 at *
  -- the message is sent
  have bA : Below w2.heap.size w2 (w2.alloc (.cells #[.int .u8 120] 5 (1, 2))) := (Below.refl _ _).alloc (Nat.le_refl _) _
  have HQ2 := HW2.next bA
  have H2 := fun hx => sendSend_law HQ2 (by omega) (some ⟨w2.heap.size, 0, none⟩) 1 1 [120] rfl (by omega) (by decide) hx
  go_wp2_with (first | (refine wpList_load_box x1 rfl 29 _ rfl rfl _ Tryd.underlying29 rfl (by kernel_rfl) ?_))
  refine (H2 (holds_newS w2 _)).mono ?_
  rintro e w3 ⟨R9, B9, N9, T9, F9, E9, M9, fa, fc, va, vc, rfl, hS, b3⟩
  rw [HER.out]
  rw [HS1.out.1] at hS
  obtain rfl : N9 = 1 := by rw [← hS.out.is.eN]; exact HS1.out.2.1
  obtain rfl : T9 = 1 := by rw [← hS.out.is.eT]; exact HS1.out.2.2.1
  obtain rfl : F9 = 0 := by rw [← hS.out.is.eF]; exact HS1.out.2.2.2
  have hDb : D < (w2.alloc (.cells #[.int .u8 120] 5 (1, 2))).heap.size := by have := x1.lt; simp; omega
  replace x1 := (x1.next bA).next b3
  replace bb := bb.trans ((bA.trans (b3.mono (by simp))).mono bb.size)
  clear bA HQ2 H2 b3 kc HW2
  go_upto_region 3 with (first | (refine wpList_store_box x1 rfl 29 _ _ rfl rfl rfl rfl (by kernel_rfl) (by simp [Value.oneCell']) ?_))
  have HS3 : Hid (SnW (D + 1) (w3.setRow D #[.int .i64 c.cB, .int .i64 c.cBeam, .int .i64 c.cDepth, .int .i64 c.cWin, .int .i64 c.cQs, .int .i64 c.cQr, .int .i64 c.cBatch, .int .i64 c.cPass, .int .i64 c.cMsg, .int .i64 c.cSeqs, .bool false, .int .i64 0, .int .i64 R9, .int .i64 B9, .int .i64 1, .int .i64 1, .int .i64 0, .slice fa E9 fc, .slice va M9 vc]) S1 c false 0 R9 B9 1 1 0 E9 M9 fa fc va vc 200) := (hS.out.old hDb (fun g hg => setRow_other w3 D g #[.int .i64 c.cB, .int .i64 c.cBeam, .int .i64 c.cDepth, .int .i64 c.cWin, .int .i64 c.cQs, .int .i64 c.cQr, .int .i64 c.cBatch, .int .i64 c.cPass, .int .i64 c.cMsg, .int .i64 c.cSeqs, .bool false, .int .i64 0, .int .i64 R9, .int .i64 B9, .int .i64 1, .int .i64 1, .int .i64 0, .slice fa E9 fc, .slice va M9 vc] hg)).lower (by omega)
  replace x1 := x1.setRow #[.int .i64 c.cB, .int .i64 c.cBeam, .int .i64 c.cDepth, .int .i64 c.cWin, .int .i64 c.cQs, .int .i64 c.cQr, .int .i64 c.cBatch, .int .i64 c.cPass, .int .i64 c.cMsg, .int .i64 c.cSeqs, .bool false, .int .i64 0, .int .i64 R9, .int .i64 B9, .int .i64 1, .int .i64 1, .int .i64 0, .slice fa E9 fc, .slice va M9 vc]
  replace bb := below_setRow bb HD.out #[.int .i64 c.cB, .int .i64 c.cBeam, .int .i64 c.cDepth, .int .i64 c.cWin, .int .i64 c.cQs, .int .i64 c.cQr, .int .i64 c.cBatch, .int .i64 c.cPass, .int .i64 c.cMsg, .int .i64 c.cSeqs, .bool false, .int .i64 0, .int .i64 R9, .int .i64 B9, .int .i64 1, .int .i64 1, .int .i64 0, .slice fa E9 fc, .slice va M9 vc]
  clear hS hDb
  generalize w3.setRow D #[.int .i64 c.cB, .int .i64 c.cBeam, .int .i64 c.cDepth, .int .i64 c.cWin, .int .i64 c.cQs, .int .i64 c.cQr, .int .i64 c.cBatch, .int .i64 c.cPass, .int .i64 c.cMsg, .int .i64 c.cSeqs, .bool false, .int .i64 0, .int .i64 R9, .int .i64 B9, .int .i64 1, .int .i64 1, .int .i64 0, .slice fa E9 fc, .slice va M9 vc] = w4 at *
  -- a tick
  have H3 := sendTick_law HS3.out (by omega) (hF.next bb)
  go_wp2_with (first | (refine wpList_load_box x1 rfl 29 _ rfl rfl _ Tryd.underlying29 rfl (by kernel_rfl) ?_))
  refine H3.mono ?_
  rintro e w5 ⟨ga, gc, ha, hc, pa, pn, pc, r, q, rfl, hE, hS, b3⟩
  obtain rfl : pn = 1 := by rw [← hE.out.packs.2]; exact HPK.out
  have hDb : D < w4.heap.size := x1.lt
  replace x1 := x1.next b3
  replace bb := bb.trans (b3.mono bb.size)
  clear b3 H3 HS3 hE
  go_upto_region 4 with (first | (refine wpList_store_box x1 rfl 29 _ _ rfl rfl rfl rfl (by kernel_rfl) (by simp [Value.oneCell']) ?_))
  have HS4 : Hid (SnW (D + 1) (w5.setRow D #[.int .i64 c.cB, .int .i64 c.cBeam, .int .i64 c.cDepth, .int .i64 c.cWin, .int .i64 c.cQs, .int .i64 c.cQr, .int .i64 c.cBatch, .int .i64 c.cPass, .int .i64 c.cMsg, .int .i64 c.cSeqs, .bool false, .int .i64 (satN 0 1), .int .i64 R9, .int .i64 B9, .int .i64 1, .int .i64 1, .int .i64 0, .slice ga E9 gc, .slice ha M9 hc]) (tickS S1) c false (satN 0 1) R9 B9 1 1 0 E9 M9 ga gc ha hc 200) := (hS.out.old hDb (fun g hg => setRow_other w5 D g #[.int .i64 c.cB, .int .i64 c.cBeam, .int .i64 c.cDepth, .int .i64 c.cWin, .int .i64 c.cQs, .int .i64 c.cQr, .int .i64 c.cBatch, .int .i64 c.cPass, .int .i64 c.cMsg, .int .i64 c.cSeqs, .bool false, .int .i64 (satN 0 1), .int .i64 R9, .int .i64 B9, .int .i64 1, .int .i64 1, .int .i64 0, .slice ga E9 gc, .slice ha M9 hc] hg)).lower (by omega)
  replace x1 := x1.setRow #[.int .i64 c.cB, .int .i64 c.cBeam, .int .i64 c.cDepth, .int .i64 c.cWin, .int .i64 c.cQs, .int .i64 c.cQr, .int .i64 c.cBatch, .int .i64 c.cPass, .int .i64 c.cMsg, .int .i64 c.cSeqs, .bool false, .int .i64 (satN 0 1), .int .i64 R9, .int .i64 B9, .int .i64 1, .int .i64 1, .int .i64 0, .slice ga E9 gc, .slice ha M9 hc]
  replace bb := below_setRow bb HD.out #[.int .i64 c.cB, .int .i64 c.cBeam, .int .i64 c.cDepth, .int .i64 c.cWin, .int .i64 c.cQs, .int .i64 c.cQr, .int .i64 c.cBatch, .int .i64 c.cPass, .int .i64 c.cMsg, .int .i64 c.cSeqs, .bool false, .int .i64 (satN 0 1), .int .i64 R9, .int .i64 B9, .int .i64 1, .int .i64 1, .int .i64 0, .slice ga E9 gc, .slice ha M9 hc]
  clear hS hDb
  generalize w5.setRow D #[.int .i64 c.cB, .int .i64 c.cBeam, .int .i64 c.cDepth, .int .i64 c.cWin, .int .i64 c.cQs, .int .i64 c.cQr, .int .i64 c.cBatch, .int .i64 c.cPass, .int .i64 c.cMsg, .int .i64 c.cSeqs, .bool false, .int .i64 (satN 0 1), .int .i64 R9, .int .i64 B9, .int .i64 1, .int .i64 1, .int .i64 0, .slice ga E9 gc, .slice ha M9 hc] = w6 at *
  -- all is told to be had
  have H4 := AckMake_ok 1 0 (by omega) (by omega) (by omega) (by omega) w6
  go_wp2_with fail
  refine H4.mono ?_
  rintro e w7 ⟨q9, rfl, o7, b3⟩
  obtain ⟨qa, qc, rfl⟩ := row_shapeS o7
  have HS5 := HS4.out.next b3
  replace x1 := x1.next b3
  replace bb := bb.trans (b3.mono bb.size)
  have hla := learn_all HS4.out.ok (b := 0) (by omega) (by omega)
  rw [show (tickS S1).sT = 1 from HS1.out.2.2.1] at hla
  have H5 := sendLearn_law HS5 (by omega) qa 13 qc (packA 1 0) (packA_len 1 0) (by omega) (rowK_cap o7) (packA_bd 1 0) (holds_of_row o7)
  clear b3 H4 HS4 o7
  go_wp2_with (first | (refine wpList_load_box x1 rfl 29 _ rfl rfl _ Tryd.underlying29 rfl (by kernel_rfl) ?_))
  refine H5.mono ?_
  rintro e w8 ⟨R8, B8, N8, T8, F8, E8, M8, ia, ic, ja, jc, rfl, hS, b3⟩
  rw [hla.1]
  rw [hla.2] at hS
  obtain rfl : N8 = 1 := by rw [← hS.out.is.eN]; exact HS1.out.2.1
  obtain rfl : F8 = 1 := by rw [← hS.out.is.eF]
  obtain rfl : E8 = 0 := by rw [← hS.out.is.lE]; rfl
  have hDb : D < w7.heap.size := x1.lt
  replace x1 := x1.next b3
  replace bb := bb.trans (b3.mono bb.size)
  clear b3 H5 HS5
  go_upto_region 6 with (first | (refine wpList_store_box x1 rfl 29 _ _ rfl rfl rfl rfl (by kernel_rfl) (by simp [Value.oneCell']) ?_))
  have HS6 := hS.out.old hDb (fun g hg => setRow_other w8 D g #[.int .i64 c.cB, .int .i64 c.cBeam, .int .i64 c.cDepth, .int .i64 c.cWin, .int .i64 c.cQs, .int .i64 c.cQr, .int .i64 c.cBatch, .int .i64 c.cPass, .int .i64 c.cMsg, .int .i64 c.cSeqs, .bool false, .int .i64 (satN 0 1), .int .i64 R8, .int .i64 B8, .int .i64 1, .int .i64 T8, .int .i64 1, .slice ia 0 ic, .slice ja M8 jc] hg)
  replace x1 := x1.setRow #[.int .i64 c.cB, .int .i64 c.cBeam, .int .i64 c.cDepth, .int .i64 c.cWin, .int .i64 c.cQs, .int .i64 c.cQr, .int .i64 c.cBatch, .int .i64 c.cPass, .int .i64 c.cMsg, .int .i64 c.cSeqs, .bool false, .int .i64 (satN 0 1), .int .i64 R8, .int .i64 B8, .int .i64 1, .int .i64 T8, .int .i64 1, .slice ia 0 ic, .slice ja M8 jc]
  replace bb := below_setRow bb HD.out #[.int .i64 c.cB, .int .i64 c.cBeam, .int .i64 c.cDepth, .int .i64 c.cWin, .int .i64 c.cQs, .int .i64 c.cQr, .int .i64 c.cBatch, .int .i64 c.cPass, .int .i64 c.cMsg, .int .i64 c.cSeqs, .bool false, .int .i64 (satN 0 1), .int .i64 R8, .int .i64 B8, .int .i64 1, .int .i64 T8, .int .i64 1, .slice ia 0 ic, .slice ja M8 jc]
  clear hS hDb hla
  generalize w8.setRow D #[.int .i64 c.cB, .int .i64 c.cBeam, .int .i64 c.cDepth, .int .i64 c.cWin, .int .i64 c.cQs, .int .i64 c.cQr, .int .i64 c.cBatch, .int .i64 c.cPass, .int .i64 c.cMsg, .int .i64 c.cSeqs, .bool false, .int .i64 (satN 0 1), .int .i64 R8, .int .i64 B8, .int .i64 1, .int .i64 T8, .int .i64 1, .slice ia 0 ic, .slice ja M8 jc] = w9 at *
  have H6 := sendConfirmed_law HS6 (by omega)
  rw [show (1 : Int) - ((0 : Nat) : Int) = 1 from rfl] at H6
  clear HS6
  go_wp2_with (first | (refine wpList_load_boxg x1 rfl 29 _ rfl rfl _ Tryd.underlying29 rfl (by kernel_rfl) ?_))
  refine H6.mono ?_
  rintro e w10 ⟨rfl, b3⟩
  replace x1 := x1.next b3
  replace bb := bb.trans (b3.mono bb.size)
  have c16 := x1.cell 16 _ rfl
  have l1 := x1.lt
  clear b3 H6 x1
  go_wp2
  go_ret
  exact ⟨rfl, bb⟩

end Go.Proofs.YtkphjnbeakkejabDoor
