/-
  The tail of a round of SendLearns: what was stays. (Written by tpl_sendlaws.py.)
-/
import Derived.Test.YtmjidhnlofpliaaDoorM08
import Derived.Test.YtmjidhnlofpliaaDoorM29
import Derived.Test.YtmjidhnlofpliaaDoorM30
import Derived.Test.YtmjidhnlofpliaaDoorM31
import Derived.Test.YtmjidhnlofpliaaDoorM33
import Derived.Test.YtmjidhnlofpliaaDoorM35
import Derived.Deep.CutBlock
namespace Go.Proofs.YtmjidhnlofpliaaDoor
open Go.RowKit

theorem hid_imp {p : Prop} (h : p) : Hid p := h
theorem wrap64_mid {q : Int} (h0 : -4294967296 ≤ q) (h1 : q ≤ 4294967296) : wrap64 q = q := by unfold wrap64; omega
section
variable {base m : Nat} {s : Sn} {c : Cfg} {X : Bool} {K R B N T F : Int} {E M : Nat} {ea : Option Addr} {ec : Nat} {wa : Option Addr} {wc : Nat} {W W' : World}
theorem snw_bounds (h : SnW base W s c X K R B N T F E M ea ec wa wc m) : 0 ≤ F ∧ T = F + (M : Int) ∧ T ≤ 1073741824 ∧ 0 ≤ N ∧ N ≤ T := by
  have h1 := h.ok.low
  have h3 := h.ok.next_bd
  have h4 := h.ok.long
  have h5 := h.ok.sent
  have h6 := h.ok.most
  rw [h.is.eF] at h1 h4
  rw [h.is.eT] at h3 h4 h6
  rw [h.is.eN] at h5 h6
  rw [h.is.lW] at h4
  omega
theorem snw_ends (h : SnW base W s c X K R B N T F E M ea ec wa wc m) : (E : Int) ≤ c.cQs := by
  have h1 := h.ok.room
  rw [h.is.lE, h.is.eC] at h1
  exact h1
theorem snw_conf (h : SnW base W s c X K R B N T F E M ea ec wa wc m) : confS s = N - (E : Int) := by
  unfold confS
  rw [h.is.eN, h.is.lE]
end
def learnsLoop : Code → Option Code
  | .loop c => some c
  | .seq a b => match learnsLoop a with
    | some c => some c
    | none => learnsLoop b
  | .block _ c => learnsLoop c
  | .scope c => learnsLoop c
  | .cond _ a b => match learnsLoop a with
    | some c => some c
    | none => learnsLoop b
  | _ => none
/-- What stands behind the switch in the loop's body. -/
def learnsBehind : Code → Code
  | .seq _ (.seq (.block _ (.seq _ (.seq _ r))) _) => r
  | c => c
noncomputable def learnsRest : Code := learnsBehind ((Tryd.f3.body.bind learnsLoop).getD .skip)
/-- The loop in it: what waited, compared. -/
def learnsSame : Code → Code
  | .seq _ (.seq (.seq _ b) _) => b
  | c => c
noncomputable def learnsIn : Code := learnsSame learnsRest
set_option maxRecDepth 100000 in
set_option maxHeartbeats 20000000 in
theorem learns_in {c : Cfg} {k : Nat} (hk4 : k ≤ 40) {w w8 : World} {D DT : Nat} {s t : Sn} (HK : Hid (Keeps s t))
    {X : Bool} {KK R B N T F : Int} {E M : Nat} {ea : Option Addr} {ec : Nat} {wa : Option Addr} {wq : Nat}
    {X1 : Bool} {K1 R1 B1 N1 T1 F1 : Int} {E1 M1 : Nat} {ia : Option Addr} {ic : Nat} {ja : Option Addr} {jc : Nat}
    (HBS : Hid (0 ≤ F ∧ T = F + (M : Int) ∧ T ≤ 1073741824 ∧ 0 ≤ N ∧ N ≤ T)) (HBT9 : Hid (0 ≤ F1 ∧ T1 = F1 + (M1 : Int) ∧ T1 ≤ 1073741824 ∧ 0 ≤ N1 ∧ N1 ≤ T1))
    (HSW : Hid (SnW (D + 1) w8 s c X KK R B N T F E M ea ec wa wq (200 * k))) (HST : Hid (SnW (DT + 1) w8 t c X1 K1 R1 B1 N1 T1 F1 E1 M1 ia ic ja jc (200 * k + 200)))
    (xS : Box w8 D 30 #[.int .i64 c.cB, .int .i64 c.cBeam, .int .i64 c.cDepth, .int .i64 c.cWin, .int .i64 c.cQs, .int .i64 c.cQr, .int .i64 c.cBatch, .int .i64 c.cPass, .int .i64 c.cMsg, .int .i64 c.cSeqs, .bool X, .int .i64 KK, .int .i64 R, .int .i64 B, .int .i64 N, .int .i64 T, .int .i64 F, .slice ea E ec, .slice wa M wq]) (xT : Box w8 DT 30 #[.int .i64 c.cB, .int .i64 c.cBeam, .int .i64 c.cDepth, .int .i64 c.cWin, .int .i64 c.cQs, .int .i64 c.cQr, .int .i64 c.cBatch, .int .i64 c.cPass, .int .i64 c.cMsg, .int .i64 c.cSeqs, .bool X1, .int .i64 K1, .int .i64 R1, .int .i64 B1, .int .i64 N1, .int .i64 T1, .int .i64 F1, .slice ia E1 ic, .slice ja M1 jc]) (xC : Box w8 w.heap.size 23 #[.int .i64 c.cB, .int .i64 c.cBeam, .int .i64 c.cDepth, .int .i64 c.cWin, .int .i64 c.cQs, .int .i64 c.cQr, .int .i64 c.cBatch, .int .i64 c.cPass, .int .i64 c.cMsg, .int .i64 c.cSeqs]) (bb : Below w.heap.size w w8)
    {s0 s1 s3 s4 s6 s7 s9 s10 s11 s12 s13 s14 s15 s16 s18 s19 s20 s21 s22 s23 s24 s25 s26 s27 s28 s29 s30 s31 s32 s33 s34 s35 s36 s37 s38 s39 s40 s41 s42 s43 s44 s45 s46 s47 s48 s49 s50 s51 s52 s53 s54 s55 s56 s57 s58 s59 s60 s61 s62 s63 s64 s65 s66 s67 s68 s69 s70 s71 s72 s73 s74 s75 s76 s77 s78 s79 s80 s81 s82 s83 s84 s85 s86 s87 s88 s89 s90 s91 s92 s93 s94 s95 s96 s97 s98 s99 s100 s101 s102 s103 s104 s105 s106 s107 s108 s109 s110 s111 s112 s113 s114 s115 s116 s117 s118 s119 s120 s121 s122 s123 s124 s125 s126 s127 s128 s129 s130 s131 s132 s133 s134 s135 s136 s137 s138 s139 s140 s141 s142 s143 s144 s145 s146 s147 s148 s149 s150 s151 s152 s153 s154 s155 s156 s157 s158 s159 s160 s161 s162 s163 s164 s165 s166 s167 s168 s169 s170 s171 s172 s173 s174 s175 s176 s177 s178 s179 s180 s181 s182 s183 s184 s185 s186 s187 s188 s189 s190 s191 s192 s193 s194 s195 s196 s197 s198 s199 s200 s201 s202 s203 s204 s205 s206 s207 s208 s209 s210 s211 s212 s213 s214 s215 s216 s217 s218 s219 s220 s221 s222 s223 s224 s225 s226 s227 s228 s229 s230 s231 s232 s233 s234 s235 s236 s237 s238 s239 s240 s241 s242 s243 s244 s245 s246 s247 s248 s249 s250 s251 s252 s253 s254 s255 s256 s257 s258 s259 s260 s261 s262 s263 s264 s265 s266 s267 s268 s269 s270 s271 s272 s273 s274 s275 s276 s277 s278 s279 s280 s281 s282 s283 s284 s285 s286 s287 s288 s289 : Value} {Q : Exit → Act → World → Prop}
    (hP : Hid (∀ x (t t' : Array Value) ds (w : World), Q (.panic x) ⟨t, ds⟩ w → Q (.panic x) ⟨t', ds⟩ w)) (hQ : ∀ (t4 t17 t18 t232 t233 t234 t235 t236 t237 t238 t239 t240 t241 t242 t243 t244 t245 t246 t247 t248 t249 t250 t251 t252 t253 t254 t255 t256 t257 t258 t259 t260 t261 t262 t263 t264 t265 t266 t267 t268 t269 t270 t271 t272 t273 t274 t275 t276 t277 t278 t279 t280 t281 t282 t283 t284 t285 t286 t287 : Value) (w' : World), Below w8.heap.size w8 w' → Q .normal ⟨(s0 :: s1 :: .pointer (some ⟨w.heap.size, 0, none⟩) :: s3 :: t4 :: .pointer (some ⟨D, 0, none⟩) :: s6 :: s7 :: .pointer (some ⟨DT, 0, none⟩) :: s9 :: s10 :: s11 :: s12 :: s13 :: s14 :: s15 :: s16 :: t17 :: t18 :: s19 :: s20 :: s21 :: s22 :: s23 :: s24 :: s25 :: s26 :: s27 :: s28 :: s29 :: s30 :: s31 :: s32 :: s33 :: s34 :: s35 :: s36 :: s37 :: s38 :: s39 :: s40 :: s41 :: s42 :: s43 :: s44 :: s45 :: s46 :: s47 :: s48 :: s49 :: s50 :: s51 :: s52 :: s53 :: s54 :: s55 :: s56 :: s57 :: s58 :: s59 :: s60 :: s61 :: s62 :: s63 :: s64 :: s65 :: s66 :: s67 :: s68 :: s69 :: s70 :: s71 :: s72 :: s73 :: s74 :: s75 :: s76 :: s77 :: s78 :: s79 :: s80 :: s81 :: s82 :: s83 :: s84 :: s85 :: s86 :: s87 :: s88 :: s89 :: s90 :: s91 :: s92 :: s93 :: s94 :: s95 :: s96 :: s97 :: s98 :: s99 :: s100 :: s101 :: s102 :: s103 :: s104 :: s105 :: s106 :: s107 :: s108 :: s109 :: s110 :: s111 :: s112 :: s113 :: s114 :: s115 :: s116 :: s117 :: s118 :: s119 :: s120 :: s121 :: s122 :: s123 :: s124 :: s125 :: s126 :: s127 :: s128 :: s129 :: s130 :: s131 :: s132 :: s133 :: s134 :: s135 :: s136 :: s137 :: s138 :: s139 :: s140 :: s141 :: s142 :: s143 :: s144 :: s145 :: s146 :: s147 :: s148 :: s149 :: s150 :: s151 :: s152 :: s153 :: s154 :: s155 :: s156 :: s157 :: s158 :: s159 :: s160 :: s161 :: s162 :: s163 :: s164 :: s165 :: s166 :: s167 :: s168 :: s169 :: s170 :: s171 :: s172 :: s173 :: s174 :: s175 :: s176 :: s177 :: s178 :: s179 :: s180 :: s181 :: s182 :: s183 :: s184 :: s185 :: s186 :: s187 :: s188 :: s189 :: s190 :: s191 :: s192 :: s193 :: s194 :: s195 :: s196 :: s197 :: s198 :: s199 :: s200 :: s201 :: s202 :: s203 :: s204 :: s205 :: s206 :: s207 :: s208 :: s209 :: s210 :: s211 :: s212 :: s213 :: s214 :: s215 :: s216 :: s217 :: s218 :: s219 :: s220 :: s221 :: s222 :: s223 :: s224 :: s225 :: s226 :: s227 :: s228 :: s229 :: s230 :: s231 :: t232 :: t233 :: t234 :: t235 :: t236 :: t237 :: t238 :: t239 :: t240 :: t241 :: t242 :: t243 :: t244 :: t245 :: t246 :: t247 :: t248 :: t249 :: t250 :: t251 :: t252 :: t253 :: t254 :: t255 :: t256 :: t257 :: t258 :: t259 :: t260 :: t261 :: t262 :: t263 :: t264 :: t265 :: t266 :: t267 :: t268 :: t269 :: t270 :: t271 :: t272 :: t273 :: t274 :: t275 :: t276 :: t277 :: t278 :: t279 :: t280 :: t281 :: t282 :: t283 :: t284 :: t285 :: t286 :: t287 :: s288 :: s289 :: []).toArray, []⟩ w') :
    Code.wp Tryd.prog learnsIn Q ⟨(s0 :: s1 :: .pointer (some ⟨w.heap.size, 0, none⟩) :: s3 :: s4 :: .pointer (some ⟨D, 0, none⟩) :: s6 :: s7 :: .pointer (some ⟨DT, 0, none⟩) :: s9 :: s10 :: s11 :: s12 :: s13 :: s14 :: s15 :: s16 :: .int .i64 0 :: s18 :: s19 :: s20 :: s21 :: s22 :: s23 :: s24 :: s25 :: s26 :: s27 :: s28 :: s29 :: s30 :: s31 :: s32 :: s33 :: s34 :: s35 :: s36 :: s37 :: s38 :: s39 :: s40 :: s41 :: s42 :: s43 :: s44 :: s45 :: s46 :: s47 :: s48 :: s49 :: s50 :: s51 :: s52 :: s53 :: s54 :: s55 :: s56 :: s57 :: s58 :: s59 :: s60 :: s61 :: s62 :: s63 :: s64 :: s65 :: s66 :: s67 :: s68 :: s69 :: s70 :: s71 :: s72 :: s73 :: s74 :: s75 :: s76 :: s77 :: s78 :: s79 :: s80 :: s81 :: s82 :: s83 :: s84 :: s85 :: s86 :: s87 :: s88 :: s89 :: s90 :: s91 :: s92 :: s93 :: s94 :: s95 :: s96 :: s97 :: s98 :: s99 :: s100 :: s101 :: s102 :: s103 :: s104 :: s105 :: s106 :: s107 :: s108 :: s109 :: s110 :: s111 :: s112 :: s113 :: s114 :: s115 :: s116 :: s117 :: s118 :: s119 :: s120 :: s121 :: s122 :: s123 :: s124 :: s125 :: s126 :: s127 :: s128 :: s129 :: s130 :: s131 :: s132 :: s133 :: s134 :: s135 :: s136 :: s137 :: s138 :: s139 :: s140 :: s141 :: s142 :: s143 :: s144 :: s145 :: s146 :: s147 :: s148 :: s149 :: s150 :: s151 :: s152 :: s153 :: s154 :: s155 :: s156 :: s157 :: s158 :: s159 :: s160 :: s161 :: s162 :: s163 :: s164 :: s165 :: s166 :: s167 :: s168 :: s169 :: s170 :: s171 :: s172 :: s173 :: s174 :: s175 :: s176 :: s177 :: s178 :: s179 :: s180 :: s181 :: s182 :: s183 :: s184 :: s185 :: s186 :: s187 :: s188 :: s189 :: s190 :: s191 :: s192 :: s193 :: s194 :: s195 :: s196 :: s197 :: s198 :: s199 :: s200 :: s201 :: s202 :: s203 :: s204 :: s205 :: s206 :: s207 :: s208 :: s209 :: s210 :: s211 :: s212 :: s213 :: s214 :: s215 :: s216 :: s217 :: s218 :: s219 :: s220 :: s221 :: s222 :: s223 :: s224 :: s225 :: s226 :: s227 :: s228 :: s229 :: s230 :: s231 :: s232 :: s233 :: s234 :: s235 :: s236 :: s237 :: s238 :: s239 :: s240 :: s241 :: s242 :: s243 :: s244 :: s245 :: s246 :: s247 :: s248 :: s249 :: s250 :: s251 :: s252 :: s253 :: s254 :: s255 :: s256 :: s257 :: s258 :: s259 :: s260 :: s261 :: s262 :: s263 :: s264 :: s265 :: s266 :: s267 :: s268 :: s269 :: s270 :: s271 :: s272 :: s273 :: s274 :: s275 :: s276 :: s277 :: s278 :: s279 :: s280 :: s281 :: s282 :: s283 :: s284 :: s285 :: s286 :: s287 :: s288 :: s289 :: []).toArray, []⟩ w8 := by
  conv => arg 2; whnf
  go_wp2_with fail
  go_loopw [17] (fun i wr => ∃ j : Nat, j ≤ M ∧ i = .int .i64 (j : Int) ∧ Below w8.heap.size w8 wr) (fun i _ => M - (intOf i).toNat)
  case atStart => exact ⟨0, Nat.zero_le _, rfl, Below.refl _ _⟩
  case round =>
    obtain ⟨j, hj, rfl, bx⟩ := hrel
    generalize hwr : wr = w9 at *
    clear hwr
    replace xS := xS.next bx
    replace xT := xT.next bx
    replace xC := xC.next bx
    have hSW := HSW.out.next bx
    have hST := HST.out.next bx
    replace bb := bb.trans (bx.mono bb.size)
    clear HSW HST
    have HSW : Hid _ := hSW
    have HST : Hid _ := hST
    clear hSW hST
    by_cases hjl : j < M
    · obtain ⟨e, he⟩ : ∃ e, s.sW[j]? = some e := ⟨s.sW[j]'(by rw [HSW.out.is.lW]; exact hjl), by simp⟩
      obtain ⟨q, hq⟩ : ∃ q : Int, F + (j : Int) - F1 = q := ⟨_, rfl⟩
      have hbs := HBS.out
      have hbt := HBT9.out
      have wFj : IntKind.i64.wrap (F + (j : Int)) = F + (j : Int) := by rw [IntKind.wrap_i64]; omega
      have wFq : IntKind.i64.wrap (F + (j : Int) - F1) = q := by rw [hq, IntKind.wrap_i64]; omega
      have w64q : wrap64 q = q := wrap64_mid (by omega) (by omega)
      have hMb : M ≤ 8200 := by have := HSW.out.few; omega
      have dj : decide (j < M) = true := decide_eq_true hjl
      have dji : decide ((j : Int) < (M : Int)) = true := decide_eq_true (by omega)
      have cs16 := xS.cell 16 _ rfl
      have cs18 := xS.cell 18 _ rfl
      have ct16 := xT.cell 16 _ rfl
      have lS := xS.lt
      have lT := xT.lt
      clear hbs hbt
      go_upto_region 38 with fail
      try rw [w64q]
      clear cs16 cs18 ct16 wFj wFq w64q
      by_cases hq0 : 0 ≤ q
      · obtain ⟨e', he', hacc, hB⟩ := HK.out.waits j e he (by rw [HSW.out.is.eF, HST.out.is.eF]; omega)
        rw [HSW.out.is.eF, HST.out.is.eF, hq] at he'
        obtain ⟨i, hi⟩ : ∃ i : Nat, q = (i : Int) := ⟨q.toNat, by omega⟩
        subst hi
        rw [Int.toNat_natCast] at he'
        have hiM : i < M1 := by rw [← HST.out.is.lW]; exact (List.getElem?_eq_some_iff.1 he').1
        obtain ⟨ga, of5, pa, px, pc, rfl, hA⟩ := atEm_of (HSW.out.lies.2.holds) he (Below.refl _ _) (Nat.le_refl _)
        obtain ⟨gb, of6, qa, qx, qc, rfl, hB9⟩ := atEm_of (HST.out.lies.2.holds) he' (Below.refl _ _) (Nat.le_refl _)
        have hbl : e.eB.length ≤ 4611686018427387904 := by
          have h1 := HSW.out.bytes _ (List.mem_of_getElem? he)
          omega
        have HBY : Hid (∀ wx : World, Below w9.heap.size w9 wx → Calls Tryd.prog 14 #[.slice pa px pc, .slice qa qx qc] wx fun e W' => e = .returned (.bool true) ∧ Below w9.heap.size w9 W') := fun wx bx => by
          have h := bytes_any (.slice pa px pc) (.slice qa qx qc) e.eB e'.eB wx.heap.size wx.heap.size wx (by rw [hB]; exact hbl) ((hA.held.below bx).mono bx.size) ((hB9.held.below bx).mono bx.size)
          rw [decide_eq_true hB.symm] at h
          refine h.mono ?_
          rintro e W' ⟨rfl, n, rfl⟩
          exact ⟨rfl, below_drewN bx n⟩
        have lA : ga < w9.heap.size := hA.lt
        have lB : gb < w9.heap.size := hB9.lt
        have m4 : Hid (w9.cell? ⟨ga, of5 + j * 5 + 4, none⟩ = some (.slice pa px pc)) := hA.1.2.2.2.2.2
        have n4 : Hid (w9.cell? ⟨gb, of6 + i * 5 + 4, none⟩ = some (.slice qa qx qc)) := hB9.1.2.2.2.2.2
        have kS18 : Hid (w9.cell? ⟨D, 18, none⟩ = some (.slice (some ⟨ga, of5, none⟩) M wq)) := xS.cell 18 _ rfl
        have kT18 : Hid (w9.cell? ⟨DT, 18, none⟩ = some (.slice (some ⟨gb, of6, none⟩) M1 jc)) := xT.cell 18 _ rfl
        have hM1b : M1 ≤ 8400 := by have := HST.out.few; omega
        have d0 : decide ((0 : Int) ≤ (i : Int)) = true := decide_eq_true hq0
        have d1 : decide ((M1 : Int) ≤ (i : Int)) = false := decide_eq_false (Int.not_le.2 (Int.ofNat_lt.2 hiM))
        have d1n : decide (M1 ≤ i) = false := decide_eq_false (Nat.not_le.2 hiM)
        have d2 : decide (i < M1) = true := decide_eq_true hiM
        have d3 : decide ((i : Int) < (M1 : Int)) = true := decide_eq_true (Int.ofNat_lt.2 hiM)
        have m3v := hA.1.2.2.2.2.1
        have n3v := hB9.1.2.2.2.2.1
        cases heA : e.eA
        case false =>
          as_aux_lemma =>
            rw [heA] at m3v
            have m3 : Hid (w9.cell? ⟨ga, of5 + j * 5 + 3, none⟩ = some (.bool false)) := m3v
            clear m3v n3v heA hacc hB hA hB9 hbl he he'
            go_cut [287] from 246 to 287 (fun v0 wx => v0 = .bool false ∧ Below w9.heap.size w9 wx)
            case first =>
              as_aux_lemma =>
                refine wp_region_held_drew (S := fun w' => Below w9.heap.size w9 w') (by kernel_rfl) ((Below.refl w9.heap.size w9).drew) (fun hHeld => ?_)
                refine held_take (i := 0) (d := 246) (v := ?v81) rfl rfl (by kernel_rfl) (by kernel_rfl) (by kernel_rfl) (fun _ _ _ h => hP.out _ _ _ _ _ h) (Or.inl ⟨by kernel_rfl, ?hy81⟩) hHeld ?rest81
                case hy81 =>
                  intro wx hSw
                  clear hSw
                  go_simp
                  with_reducible rfl
                simp only [List.setIfInBounds_toArray, List.set_cons_zero, List.set_cons_succ]
                refine held_take (i := 1) (d := 247) (v := ?v82) rfl rfl (by kernel_rfl) (by kernel_rfl) (by kernel_rfl) (fun _ _ _ h => hP.out _ _ _ _ _ h) (Or.inl ⟨by kernel_rfl, ?hy82⟩) hHeld ?rest82
                case hy82 =>
                  intro wx hSw
                  clear hSw
                  go_simp
                  with_reducible rfl
                simp only [List.setIfInBounds_toArray, List.set_cons_zero, List.set_cons_succ]
                refine held_take (i := 2) (d := 248) (v := ?v83) rfl rfl (by kernel_rfl) (by kernel_rfl) (by kernel_rfl) (fun _ _ _ h => hP.out _ _ _ _ _ h) (Or.inl ⟨by kernel_rfl, ?hy83⟩) hHeld ?rest83
                case hy83 =>
                  intro wx hSw
                  clear hSw
                  go_simp
                  with_reducible rfl
                simp only [List.setIfInBounds_toArray, List.set_cons_zero, List.set_cons_succ]
                refine held_take (i := 3) (d := 249) (v := ?v84) rfl rfl (by kernel_rfl) (by kernel_rfl) (by kernel_rfl) (fun _ _ _ h => hP.out _ _ _ _ _ h) (Or.inl ⟨by kernel_rfl, ?hy84⟩) hHeld ?rest84
                case hy84 =>
                  intro wx hSw
                  clear hSw
                  go_simp
                  with_reducible rfl
                simp only [List.setIfInBounds_toArray, List.set_cons_zero, List.set_cons_succ]
                refine held_take (i := 4) (d := 250) (v := ?v85) rfl rfl (by kernel_rfl) (by kernel_rfl) (by kernel_rfl) (fun _ _ _ h => hP.out _ _ _ _ _ h) (Or.inl ⟨by kernel_rfl, ?hy85⟩) hHeld ?rest85
                case hy85 =>
                  intro wx hSw
                  clear hSw
                  go_simp
                  with_reducible rfl
                simp only [List.setIfInBounds_toArray, List.set_cons_zero, List.set_cons_succ]
                refine held_take (i := 5) (d := 251) (v := ?v86) rfl rfl (by kernel_rfl) (by kernel_rfl) (by kernel_rfl) (fun _ _ _ h => hP.out _ _ _ _ _ h) (Or.inl ⟨by kernel_rfl, ?hy86⟩) hHeld ?rest86
                case hy86 =>
                  intro wx hSw
                  have q0 := (hSw.cell (p := ⟨DT, 18, none⟩) lT).trans kT18.out
                  clear hSw
                  go_simp
                  with_reducible rfl
                simp only [List.setIfInBounds_toArray, List.set_cons_zero, List.set_cons_succ]
                refine held_take (i := 6) (d := 252) (v := ?v87) rfl rfl (by kernel_rfl) (by kernel_rfl) (by kernel_rfl) (fun _ _ _ h => hP.out _ _ _ _ _ h) (Or.inl ⟨by kernel_rfl, ?hy87⟩) hHeld ?rest87
                case hy87 =>
                  intro wx hSw
                  clear hSw
                  go_simp
                  with_reducible rfl
                simp only [List.setIfInBounds_toArray, List.set_cons_zero, List.set_cons_succ]
                refine held_take (i := 7) (d := 253) (v := ?v88) rfl rfl (by kernel_rfl) (by kernel_rfl) (by kernel_rfl) (fun _ _ _ h => hP.out _ _ _ _ _ h) (Or.inl ⟨by kernel_rfl, ?hy88⟩) hHeld ?rest88
                case hy88 =>
                  intro wx hSw
                  clear hSw
                  go_simp
                  with_reducible rfl
                simp only [List.setIfInBounds_toArray, List.set_cons_zero, List.set_cons_succ]
                refine held_take (i := 8) (d := 254) (v := ?v89) rfl rfl (by kernel_rfl) (by kernel_rfl) (by kernel_rfl) (fun _ _ _ h => hP.out _ _ _ _ _ h) (Or.inl ⟨by kernel_rfl, ?hy89⟩) hHeld ?rest89
                case hy89 =>
                  intro wx hSw
                  clear hSw
                  go_simp
                  with_reducible rfl
                simp only [List.setIfInBounds_toArray, List.set_cons_zero, List.set_cons_succ]
                refine held_take (i := 9) (d := 255) (v := ?v90) rfl rfl (by kernel_rfl) (by kernel_rfl) (by kernel_rfl) (fun _ _ _ h => hP.out _ _ _ _ _ h) (Or.inl ⟨by kernel_rfl, ?hy90⟩) hHeld ?rest90
                case hy90 =>
                  intro wx hSw
                  clear hSw
                  go_simp
                  with_reducible rfl
                simp only [List.setIfInBounds_toArray, List.set_cons_zero, List.set_cons_succ]
                refine held_take (i := 10) (d := 256) (v := ?v91) rfl rfl (by kernel_rfl) (by kernel_rfl) (by kernel_rfl) (fun _ _ _ h => hP.out _ _ _ _ _ h) (Or.inl ⟨by kernel_rfl, ?hy91⟩) hHeld ?rest91
                case hy91 =>
                  intro wx hSw
                  have q0 := (hSw.cell (p := ⟨D, 18, none⟩) lS).trans kS18.out
                  clear hSw
                  go_simp
                  with_reducible rfl
                simp only [List.setIfInBounds_toArray, List.set_cons_zero, List.set_cons_succ]
                refine held_take (i := 11) (d := 257) (v := ?v92) rfl rfl (by kernel_rfl) (by kernel_rfl) (by kernel_rfl) (fun _ _ _ h => hP.out _ _ _ _ _ h) (Or.inl ⟨by kernel_rfl, ?hy92⟩) hHeld ?rest92
                case hy92 =>
                  intro wx hSw
                  clear hSw
                  go_simp
                  with_reducible rfl
                simp only [List.setIfInBounds_toArray, List.set_cons_zero, List.set_cons_succ]
                refine held_take (i := 12) (d := 258) (v := ?v93) rfl rfl (by kernel_rfl) (by kernel_rfl) (by kernel_rfl) (fun _ _ _ h => hP.out _ _ _ _ _ h) (Or.inl ⟨by kernel_rfl, ?hy93⟩) hHeld ?rest93
                case hy93 =>
                  intro wx hSw
                  clear hSw
                  go_simp
                  with_reducible rfl
                simp only [List.setIfInBounds_toArray, List.set_cons_zero, List.set_cons_succ]
                refine held_take (i := 13) (d := 259) (v := ?v94) rfl rfl (by kernel_rfl) (by kernel_rfl) (by kernel_rfl) (fun _ _ _ h => hP.out _ _ _ _ _ h) (Or.inl ⟨by kernel_rfl, ?hy94⟩) hHeld ?rest94
                case hy94 =>
                  intro wx hSw
                  clear hSw
                  go_simp
                  with_reducible rfl
                simp only [List.setIfInBounds_toArray, List.set_cons_zero, List.set_cons_succ]
                refine held_take (i := 14) (d := 260) (v := ?v95) rfl rfl (by kernel_rfl) (by kernel_rfl) (by kernel_rfl) (fun _ _ _ h => hP.out _ _ _ _ _ h) (Or.inl ⟨by kernel_rfl, ?hy95⟩) hHeld ?rest95
                case hy95 =>
                  intro wx hSw
                  have q0 := (hSw.cell (p := ⟨ga, of5 + j * 5 + 3, none⟩) lA).trans m3.out
                  clear hSw
                  go_simp
                  with_reducible rfl
                simp only [List.setIfInBounds_toArray, List.set_cons_zero, List.set_cons_succ]
                refine held_take (i := 15) (d := 261) (v := ?v96) rfl rfl (by kernel_rfl) (by kernel_rfl) (by kernel_rfl) (fun _ _ _ h => hP.out _ _ _ _ _ h) (Or.inl ⟨by kernel_rfl, ?hy96⟩) hHeld ?rest96
                case hy96 =>
                  intro wx hSw
                  clear hSw
                  go_simp
                  with_reducible rfl
                simp only [List.setIfInBounds_toArray, List.set_cons_zero, List.set_cons_succ]
                refine held_take (i := 16) (d := 262) (v := undef) rfl rfl (by kernel_rfl) (by kernel_rfl) (by kernel_rfl) (fun _ _ _ h => hP.out _ _ _ _ _ h) (Or.inr ⟨by kernel_rfl, rfl⟩) hHeld ?_
                simp only [List.setIfInBounds_toArray, List.set_cons_zero, List.set_cons_succ]
                refine held_take (i := 17) (d := 263) (v := undef) rfl rfl (by kernel_rfl) (by kernel_rfl) (by kernel_rfl) (fun _ _ _ h => hP.out _ _ _ _ _ h) (Or.inr ⟨by kernel_rfl, rfl⟩) hHeld ?_
                simp only [List.setIfInBounds_toArray, List.set_cons_zero, List.set_cons_succ]
                refine held_take (i := 18) (d := 264) (v := undef) rfl rfl (by kernel_rfl) (by kernel_rfl) (by kernel_rfl) (fun _ _ _ h => hP.out _ _ _ _ _ h) (Or.inr ⟨by kernel_rfl, rfl⟩) hHeld ?_
                simp only [List.setIfInBounds_toArray, List.set_cons_zero, List.set_cons_succ]
                refine held_take (i := 19) (d := 265) (v := undef) rfl rfl (by kernel_rfl) (by kernel_rfl) (by kernel_rfl) (fun _ _ _ h => hP.out _ _ _ _ _ h) (Or.inr ⟨by kernel_rfl, rfl⟩) hHeld ?_
                simp only [List.setIfInBounds_toArray, List.set_cons_zero, List.set_cons_succ]
                refine held_take (i := 20) (d := 266) (v := undef) rfl rfl (by kernel_rfl) (by kernel_rfl) (by kernel_rfl) (fun _ _ _ h => hP.out _ _ _ _ _ h) (Or.inr ⟨by kernel_rfl, rfl⟩) hHeld ?_
                simp only [List.setIfInBounds_toArray, List.set_cons_zero, List.set_cons_succ]
                refine held_take (i := 21) (d := 267) (v := undef) rfl rfl (by kernel_rfl) (by kernel_rfl) (by kernel_rfl) (fun _ _ _ h => hP.out _ _ _ _ _ h) (Or.inr ⟨by kernel_rfl, rfl⟩) hHeld ?_
                simp only [List.setIfInBounds_toArray, List.set_cons_zero, List.set_cons_succ]
                refine held_take (i := 22) (d := 268) (v := undef) rfl rfl (by kernel_rfl) (by kernel_rfl) (by kernel_rfl) (fun _ _ _ h => hP.out _ _ _ _ _ h) (Or.inr ⟨by kernel_rfl, rfl⟩) hHeld ?_
                simp only [List.setIfInBounds_toArray, List.set_cons_zero, List.set_cons_succ]
                refine held_take (i := 23) (d := 269) (v := ?v97) rfl rfl (by kernel_rfl) (by kernel_rfl) (by kernel_rfl) (fun _ _ _ h => hP.out _ _ _ _ _ h) (Or.inl ⟨by kernel_rfl, ?hy97⟩) hHeld ?rest97
                case hy97 =>
                  intro wx hSw
                  clear hSw
                  go_simp
                  with_reducible rfl
                simp only [List.setIfInBounds_toArray, List.set_cons_zero, List.set_cons_succ]
                refine held_take (i := 24) (d := 270) (v := ?v98) rfl rfl (by kernel_rfl) (by kernel_rfl) (by kernel_rfl) (fun _ _ _ h => hP.out _ _ _ _ _ h) (Or.inl ⟨by kernel_rfl, ?hy98⟩) hHeld ?rest98
                case hy98 =>
                  intro wx hSw
                  clear hSw
                  go_simp
                  with_reducible rfl
                simp only [List.setIfInBounds_toArray, List.set_cons_zero, List.set_cons_succ]
                refine held_take (i := 25) (d := 271) (v := ?v99) rfl rfl (by kernel_rfl) (by kernel_rfl) (by kernel_rfl) (fun _ _ _ h => hP.out _ _ _ _ _ h) (Or.inl ⟨by kernel_rfl, ?hy99⟩) hHeld ?rest99
                case hy99 =>
                  intro wx hSw
                  clear hSw
                  go_simp
                  with_reducible rfl
                simp only [List.setIfInBounds_toArray, List.set_cons_zero, List.set_cons_succ]
                refine held_take (i := 26) (d := 272) (v := ?v100) rfl rfl (by kernel_rfl) (by kernel_rfl) (by kernel_rfl) (fun _ _ _ h => hP.out _ _ _ _ _ h) (Or.inl ⟨by kernel_rfl, ?hy100⟩) hHeld ?rest100
                case hy100 =>
                  intro wx hSw
                  clear hSw
                  go_simp
                  with_reducible rfl
                simp only [List.setIfInBounds_toArray, List.set_cons_zero, List.set_cons_succ]
                refine held_take (i := 27) (d := 273) (v := ?v101) rfl rfl (by kernel_rfl) (by kernel_rfl) (by kernel_rfl) (fun _ _ _ h => hP.out _ _ _ _ _ h) (Or.inl ⟨by kernel_rfl, ?hy101⟩) hHeld ?rest101
                case hy101 =>
                  intro wx hSw
                  have q0 := (hSw.cell (p := ⟨D, 18, none⟩) lS).trans kS18.out
                  clear hSw
                  go_simp
                  with_reducible rfl
                simp only [List.setIfInBounds_toArray, List.set_cons_zero, List.set_cons_succ]
                refine held_take (i := 28) (d := 274) (v := ?v102) rfl rfl (by kernel_rfl) (by kernel_rfl) (by kernel_rfl) (fun _ _ _ h => hP.out _ _ _ _ _ h) (Or.inl ⟨by kernel_rfl, ?hy102⟩) hHeld ?rest102
                case hy102 =>
                  intro wx hSw
                  clear hSw
                  go_simp
                  with_reducible rfl
                simp only [List.setIfInBounds_toArray, List.set_cons_zero, List.set_cons_succ]
                refine held_take (i := 29) (d := 275) (v := ?v103) rfl rfl (by kernel_rfl) (by kernel_rfl) (by kernel_rfl) (fun _ _ _ h => hP.out _ _ _ _ _ h) (Or.inl ⟨by kernel_rfl, ?hy103⟩) hHeld ?rest103
                case hy103 =>
                  intro wx hSw
                  clear hSw
                  go_simp
                  with_reducible rfl
                simp only [List.setIfInBounds_toArray, List.set_cons_zero, List.set_cons_succ]
                refine held_take (i := 30) (d := 276) (v := ?v104) rfl rfl (by kernel_rfl) (by kernel_rfl) (by kernel_rfl) (fun _ _ _ h => hP.out _ _ _ _ _ h) (Or.inl ⟨by kernel_rfl, ?hy104⟩) hHeld ?rest104
                case hy104 =>
                  intro wx hSw
                  clear hSw
                  go_simp
                  with_reducible rfl
                simp only [List.setIfInBounds_toArray, List.set_cons_zero, List.set_cons_succ]
                refine held_take (i := 31) (d := 277) (v := ?v105) rfl rfl (by kernel_rfl) (by kernel_rfl) (by kernel_rfl) (fun _ _ _ h => hP.out _ _ _ _ _ h) (Or.inl ⟨by kernel_rfl, ?hy105⟩) hHeld ?rest105
                case hy105 =>
                  intro wx hSw
                  have q0 := (hSw.cell (p := ⟨ga, of5 + j * 5 + 4, none⟩) lA).trans m4.out
                  clear hSw
                  go_simp
                  with_reducible rfl
                simp only [List.setIfInBounds_toArray, List.set_cons_zero, List.set_cons_succ]
                refine held_take (i := 32) (d := 278) (v := ?v106) rfl rfl (by kernel_rfl) (by kernel_rfl) (by kernel_rfl) (fun _ _ _ h => hP.out _ _ _ _ _ h) (Or.inl ⟨by kernel_rfl, ?hy106⟩) hHeld ?rest106
                case hy106 =>
                  intro wx hSw
                  clear hSw
                  go_simp
                  with_reducible rfl
                simp only [List.setIfInBounds_toArray, List.set_cons_zero, List.set_cons_succ]
                refine held_take (i := 33) (d := 279) (v := ?v107) rfl rfl (by kernel_rfl) (by kernel_rfl) (by kernel_rfl) (fun _ _ _ h => hP.out _ _ _ _ _ h) (Or.inl ⟨by kernel_rfl, ?hy107⟩) hHeld ?rest107
                case hy107 =>
                  intro wx hSw
                  have q0 := (hSw.cell (p := ⟨DT, 18, none⟩) lT).trans kT18.out
                  clear hSw
                  go_simp
                  with_reducible rfl
                simp only [List.setIfInBounds_toArray, List.set_cons_zero, List.set_cons_succ]
                refine held_take (i := 34) (d := 280) (v := ?v108) rfl rfl (by kernel_rfl) (by kernel_rfl) (by kernel_rfl) (fun _ _ _ h => hP.out _ _ _ _ _ h) (Or.inl ⟨by kernel_rfl, ?hy108⟩) hHeld ?rest108
                case hy108 =>
                  intro wx hSw
                  clear hSw
                  go_simp
                  with_reducible rfl
                simp only [List.setIfInBounds_toArray, List.set_cons_zero, List.set_cons_succ]
                refine held_take (i := 35) (d := 281) (v := ?v109) rfl rfl (by kernel_rfl) (by kernel_rfl) (by kernel_rfl) (fun _ _ _ h => hP.out _ _ _ _ _ h) (Or.inl ⟨by kernel_rfl, ?hy109⟩) hHeld ?rest109
                case hy109 =>
                  intro wx hSw
                  clear hSw
                  go_simp
                  with_reducible rfl
                simp only [List.setIfInBounds_toArray, List.set_cons_zero, List.set_cons_succ]
                refine held_take (i := 36) (d := 282) (v := ?v110) rfl rfl (by kernel_rfl) (by kernel_rfl) (by kernel_rfl) (fun _ _ _ h => hP.out _ _ _ _ _ h) (Or.inl ⟨by kernel_rfl, ?hy110⟩) hHeld ?rest110
                case hy110 =>
                  intro wx hSw
                  clear hSw
                  go_simp
                  with_reducible rfl
                simp only [List.setIfInBounds_toArray, List.set_cons_zero, List.set_cons_succ]
                refine held_take (i := 37) (d := 283) (v := ?v111) rfl rfl (by kernel_rfl) (by kernel_rfl) (by kernel_rfl) (fun _ _ _ h => hP.out _ _ _ _ _ h) (Or.inl ⟨by kernel_rfl, ?hy111⟩) hHeld ?rest111
                case hy111 =>
                  intro wx hSw
                  have q0 := (hSw.cell (p := ⟨gb, of6 + i * 5 + 4, none⟩) lB).trans n4.out
                  clear hSw
                  go_simp
                  with_reducible rfl
                simp only [List.setIfInBounds_toArray, List.set_cons_zero, List.set_cons_succ]
                refine wpAnyH_ready (rs := [38]) (by kernel_rfl) (by simp) ?_
                refine AllReadyH.cons rfl (fun K hK => ?_) AllReadyH.nil
                go_simp
                go_wp2_with (go_at_call 14; refine (HBY.out _ (by exact hHeld)).mono ?_; rintro e wb ⟨rfl, b8⟩)
                refine hK.out _ _ (b8) (fun hHeld => ?_)
                clear hK K
                refine held_take (i := 39) (d := 285) (v := ?v112) rfl rfl (by kernel_rfl) (by kernel_rfl) (by kernel_rfl) (fun _ _ _ h => hP.out _ _ _ _ _ h) (Or.inl ⟨by kernel_rfl, ?hy112⟩) hHeld ?rest112
                case hy112 =>
                  intro wx hSw
                  clear hSw
                  go_simp
                  with_reducible rfl
                simp only [List.setIfInBounds_toArray, List.set_cons_zero, List.set_cons_succ]
                refine held_take (i := 40) (d := 286) (v := ?v113) rfl rfl (by kernel_rfl) (by kernel_rfl) (by kernel_rfl) (fun _ _ _ h => hP.out _ _ _ _ _ h) (Or.inl ⟨by kernel_rfl, ?hy113⟩) hHeld ?rest113
                case hy113 =>
                  intro wx hSw
                  clear hSw
                  go_simp
                  with_reducible rfl
                simp only [List.setIfInBounds_toArray, List.set_cons_zero, List.set_cons_succ]
                refine wpAnyH_ready (rs := [41]) (by kernel_rfl) (by simp) ?_
                refine AllReadyH.cons rfl (fun K hK => ?_) AllReadyH.nil
                go_simp
                refine hK.out _ _ hHeld (fun hHeld => ?_)
                clear hK K
                refine wpAnyH_done (by kernel_rfl) ?_ _
                go_wp2_with fail
                go_meet
                exact ⟨rfl, hHeld⟩
            case rest =>
              obtain ⟨rfl, b9⟩ := hcut
              generalize hwc : wc = w10 at *
              have bx2 := bx.trans (b9.mono bx.size)
              clear hwc b9 xS xT xC HSW HST bx lS lT bb HBY m3 m4 n4 kS18 kT18 lA lB d0 d1 d1n d2 d3
              go_wp2_with fail
              exact ⟨⟨j + 1, hjl, by go_num, bx2⟩, by simp [intOf]; omega⟩
        case true =>
          as_aux_lemma =>
            rw [heA] at m3v
            have m3 : Hid (w9.cell? ⟨ga, of5 + j * 5 + 3, none⟩ = some (.bool true)) := m3v
            rw [hacc heA] at n3v
            have n3 : Hid (w9.cell? ⟨gb, of6 + i * 5 + 3, none⟩ = some (.bool true)) := n3v
            clear m3v n3v heA hacc hB hA hB9 hbl he he'
            go_cut [287] from 246 to 287 (fun v0 wx => v0 = .bool false ∧ Below w9.heap.size w9 wx)
            case first =>
              as_aux_lemma =>
                refine wp_region_held_drew (S := fun w' => Below w9.heap.size w9 w') (by kernel_rfl) ((Below.refl w9.heap.size w9).drew) (fun hHeld => ?_)
                refine held_take (i := 0) (d := 246) (v := ?v114) rfl rfl (by kernel_rfl) (by kernel_rfl) (by kernel_rfl) (fun _ _ _ h => hP.out _ _ _ _ _ h) (Or.inl ⟨by kernel_rfl, ?hy114⟩) hHeld ?rest114
                case hy114 =>
                  intro wx hSw
                  clear hSw
                  go_simp
                  with_reducible rfl
                simp only [List.setIfInBounds_toArray, List.set_cons_zero, List.set_cons_succ]
                refine held_take (i := 1) (d := 247) (v := ?v115) rfl rfl (by kernel_rfl) (by kernel_rfl) (by kernel_rfl) (fun _ _ _ h => hP.out _ _ _ _ _ h) (Or.inl ⟨by kernel_rfl, ?hy115⟩) hHeld ?rest115
                case hy115 =>
                  intro wx hSw
                  clear hSw
                  go_simp
                  with_reducible rfl
                simp only [List.setIfInBounds_toArray, List.set_cons_zero, List.set_cons_succ]
                refine held_take (i := 2) (d := 248) (v := ?v116) rfl rfl (by kernel_rfl) (by kernel_rfl) (by kernel_rfl) (fun _ _ _ h => hP.out _ _ _ _ _ h) (Or.inl ⟨by kernel_rfl, ?hy116⟩) hHeld ?rest116
                case hy116 =>
                  intro wx hSw
                  clear hSw
                  go_simp
                  with_reducible rfl
                simp only [List.setIfInBounds_toArray, List.set_cons_zero, List.set_cons_succ]
                refine held_take (i := 3) (d := 249) (v := ?v117) rfl rfl (by kernel_rfl) (by kernel_rfl) (by kernel_rfl) (fun _ _ _ h => hP.out _ _ _ _ _ h) (Or.inl ⟨by kernel_rfl, ?hy117⟩) hHeld ?rest117
                case hy117 =>
                  intro wx hSw
                  clear hSw
                  go_simp
                  with_reducible rfl
                simp only [List.setIfInBounds_toArray, List.set_cons_zero, List.set_cons_succ]
                refine held_take (i := 4) (d := 250) (v := ?v118) rfl rfl (by kernel_rfl) (by kernel_rfl) (by kernel_rfl) (fun _ _ _ h => hP.out _ _ _ _ _ h) (Or.inl ⟨by kernel_rfl, ?hy118⟩) hHeld ?rest118
                case hy118 =>
                  intro wx hSw
                  clear hSw
                  go_simp
                  with_reducible rfl
                simp only [List.setIfInBounds_toArray, List.set_cons_zero, List.set_cons_succ]
                refine held_take (i := 5) (d := 251) (v := ?v119) rfl rfl (by kernel_rfl) (by kernel_rfl) (by kernel_rfl) (fun _ _ _ h => hP.out _ _ _ _ _ h) (Or.inl ⟨by kernel_rfl, ?hy119⟩) hHeld ?rest119
                case hy119 =>
                  intro wx hSw
                  have q0 := (hSw.cell (p := ⟨DT, 18, none⟩) lT).trans kT18.out
                  clear hSw
                  go_simp
                  with_reducible rfl
                simp only [List.setIfInBounds_toArray, List.set_cons_zero, List.set_cons_succ]
                refine held_take (i := 6) (d := 252) (v := ?v120) rfl rfl (by kernel_rfl) (by kernel_rfl) (by kernel_rfl) (fun _ _ _ h => hP.out _ _ _ _ _ h) (Or.inl ⟨by kernel_rfl, ?hy120⟩) hHeld ?rest120
                case hy120 =>
                  intro wx hSw
                  clear hSw
                  go_simp
                  with_reducible rfl
                simp only [List.setIfInBounds_toArray, List.set_cons_zero, List.set_cons_succ]
                refine held_take (i := 7) (d := 253) (v := ?v121) rfl rfl (by kernel_rfl) (by kernel_rfl) (by kernel_rfl) (fun _ _ _ h => hP.out _ _ _ _ _ h) (Or.inl ⟨by kernel_rfl, ?hy121⟩) hHeld ?rest121
                case hy121 =>
                  intro wx hSw
                  clear hSw
                  go_simp
                  with_reducible rfl
                simp only [List.setIfInBounds_toArray, List.set_cons_zero, List.set_cons_succ]
                refine held_take (i := 8) (d := 254) (v := ?v122) rfl rfl (by kernel_rfl) (by kernel_rfl) (by kernel_rfl) (fun _ _ _ h => hP.out _ _ _ _ _ h) (Or.inl ⟨by kernel_rfl, ?hy122⟩) hHeld ?rest122
                case hy122 =>
                  intro wx hSw
                  clear hSw
                  go_simp
                  with_reducible rfl
                simp only [List.setIfInBounds_toArray, List.set_cons_zero, List.set_cons_succ]
                refine held_take (i := 9) (d := 255) (v := ?v123) rfl rfl (by kernel_rfl) (by kernel_rfl) (by kernel_rfl) (fun _ _ _ h => hP.out _ _ _ _ _ h) (Or.inl ⟨by kernel_rfl, ?hy123⟩) hHeld ?rest123
                case hy123 =>
                  intro wx hSw
                  clear hSw
                  go_simp
                  with_reducible rfl
                simp only [List.setIfInBounds_toArray, List.set_cons_zero, List.set_cons_succ]
                refine held_take (i := 10) (d := 256) (v := ?v124) rfl rfl (by kernel_rfl) (by kernel_rfl) (by kernel_rfl) (fun _ _ _ h => hP.out _ _ _ _ _ h) (Or.inl ⟨by kernel_rfl, ?hy124⟩) hHeld ?rest124
                case hy124 =>
                  intro wx hSw
                  have q0 := (hSw.cell (p := ⟨D, 18, none⟩) lS).trans kS18.out
                  clear hSw
                  go_simp
                  with_reducible rfl
                simp only [List.setIfInBounds_toArray, List.set_cons_zero, List.set_cons_succ]
                refine held_take (i := 11) (d := 257) (v := ?v125) rfl rfl (by kernel_rfl) (by kernel_rfl) (by kernel_rfl) (fun _ _ _ h => hP.out _ _ _ _ _ h) (Or.inl ⟨by kernel_rfl, ?hy125⟩) hHeld ?rest125
                case hy125 =>
                  intro wx hSw
                  clear hSw
                  go_simp
                  with_reducible rfl
                simp only [List.setIfInBounds_toArray, List.set_cons_zero, List.set_cons_succ]
                refine held_take (i := 12) (d := 258) (v := ?v126) rfl rfl (by kernel_rfl) (by kernel_rfl) (by kernel_rfl) (fun _ _ _ h => hP.out _ _ _ _ _ h) (Or.inl ⟨by kernel_rfl, ?hy126⟩) hHeld ?rest126
                case hy126 =>
                  intro wx hSw
                  clear hSw
                  go_simp
                  with_reducible rfl
                simp only [List.setIfInBounds_toArray, List.set_cons_zero, List.set_cons_succ]
                refine held_take (i := 13) (d := 259) (v := ?v127) rfl rfl (by kernel_rfl) (by kernel_rfl) (by kernel_rfl) (fun _ _ _ h => hP.out _ _ _ _ _ h) (Or.inl ⟨by kernel_rfl, ?hy127⟩) hHeld ?rest127
                case hy127 =>
                  intro wx hSw
                  clear hSw
                  go_simp
                  with_reducible rfl
                simp only [List.setIfInBounds_toArray, List.set_cons_zero, List.set_cons_succ]
                refine held_take (i := 14) (d := 260) (v := ?v128) rfl rfl (by kernel_rfl) (by kernel_rfl) (by kernel_rfl) (fun _ _ _ h => hP.out _ _ _ _ _ h) (Or.inl ⟨by kernel_rfl, ?hy128⟩) hHeld ?rest128
                case hy128 =>
                  intro wx hSw
                  have q0 := (hSw.cell (p := ⟨ga, of5 + j * 5 + 3, none⟩) lA).trans m3.out
                  clear hSw
                  go_simp
                  with_reducible rfl
                simp only [List.setIfInBounds_toArray, List.set_cons_zero, List.set_cons_succ]
                refine held_take (i := 15) (d := 261) (v := ?v129) rfl rfl (by kernel_rfl) (by kernel_rfl) (by kernel_rfl) (fun _ _ _ h => hP.out _ _ _ _ _ h) (Or.inl ⟨by kernel_rfl, ?hy129⟩) hHeld ?rest129
                case hy129 =>
                  intro wx hSw
                  clear hSw
                  go_simp
                  with_reducible rfl
                simp only [List.setIfInBounds_toArray, List.set_cons_zero, List.set_cons_succ]
                refine held_take (i := 16) (d := 262) (v := ?v130) rfl rfl (by kernel_rfl) (by kernel_rfl) (by kernel_rfl) (fun _ _ _ h => hP.out _ _ _ _ _ h) (Or.inl ⟨by kernel_rfl, ?hy130⟩) hHeld ?rest130
                case hy130 =>
                  intro wx hSw
                  clear hSw
                  go_simp
                  with_reducible rfl
                simp only [List.setIfInBounds_toArray, List.set_cons_zero, List.set_cons_succ]
                refine held_take (i := 17) (d := 263) (v := ?v131) rfl rfl (by kernel_rfl) (by kernel_rfl) (by kernel_rfl) (fun _ _ _ h => hP.out _ _ _ _ _ h) (Or.inl ⟨by kernel_rfl, ?hy131⟩) hHeld ?rest131
                case hy131 =>
                  intro wx hSw
                  have q0 := (hSw.cell (p := ⟨DT, 18, none⟩) lT).trans kT18.out
                  clear hSw
                  go_simp
                  with_reducible rfl
                simp only [List.setIfInBounds_toArray, List.set_cons_zero, List.set_cons_succ]
                refine held_take (i := 18) (d := 264) (v := ?v132) rfl rfl (by kernel_rfl) (by kernel_rfl) (by kernel_rfl) (fun _ _ _ h => hP.out _ _ _ _ _ h) (Or.inl ⟨by kernel_rfl, ?hy132⟩) hHeld ?rest132
                case hy132 =>
                  intro wx hSw
                  clear hSw
                  go_simp
                  with_reducible rfl
                simp only [List.setIfInBounds_toArray, List.set_cons_zero, List.set_cons_succ]
                refine held_take (i := 19) (d := 265) (v := ?v133) rfl rfl (by kernel_rfl) (by kernel_rfl) (by kernel_rfl) (fun _ _ _ h => hP.out _ _ _ _ _ h) (Or.inl ⟨by kernel_rfl, ?hy133⟩) hHeld ?rest133
                case hy133 =>
                  intro wx hSw
                  clear hSw
                  go_simp
                  with_reducible rfl
                simp only [List.setIfInBounds_toArray, List.set_cons_zero, List.set_cons_succ]
                refine held_take (i := 20) (d := 266) (v := ?v134) rfl rfl (by kernel_rfl) (by kernel_rfl) (by kernel_rfl) (fun _ _ _ h => hP.out _ _ _ _ _ h) (Or.inl ⟨by kernel_rfl, ?hy134⟩) hHeld ?rest134
                case hy134 =>
                  intro wx hSw
                  clear hSw
                  go_simp
                  with_reducible rfl
                simp only [List.setIfInBounds_toArray, List.set_cons_zero, List.set_cons_succ]
                refine held_take (i := 21) (d := 267) (v := ?v135) rfl rfl (by kernel_rfl) (by kernel_rfl) (by kernel_rfl) (fun _ _ _ h => hP.out _ _ _ _ _ h) (Or.inl ⟨by kernel_rfl, ?hy135⟩) hHeld ?rest135
                case hy135 =>
                  intro wx hSw
                  have q0 := (hSw.cell (p := ⟨gb, of6 + i * 5 + 3, none⟩) lB).trans n3.out
                  clear hSw
                  go_simp
                  with_reducible rfl
                simp only [List.setIfInBounds_toArray, List.set_cons_zero, List.set_cons_succ]
                refine held_take (i := 22) (d := 268) (v := ?v136) rfl rfl (by kernel_rfl) (by kernel_rfl) (by kernel_rfl) (fun _ _ _ h => hP.out _ _ _ _ _ h) (Or.inl ⟨by kernel_rfl, ?hy136⟩) hHeld ?rest136
                case hy136 =>
                  intro wx hSw
                  clear hSw
                  go_simp
                  with_reducible rfl
                simp only [List.setIfInBounds_toArray, List.set_cons_zero, List.set_cons_succ]
                refine held_take (i := 23) (d := 269) (v := ?v137) rfl rfl (by kernel_rfl) (by kernel_rfl) (by kernel_rfl) (fun _ _ _ h => hP.out _ _ _ _ _ h) (Or.inl ⟨by kernel_rfl, ?hy137⟩) hHeld ?rest137
                case hy137 =>
                  intro wx hSw
                  clear hSw
                  go_simp
                  with_reducible rfl
                simp only [List.setIfInBounds_toArray, List.set_cons_zero, List.set_cons_succ]
                refine held_take (i := 24) (d := 270) (v := ?v138) rfl rfl (by kernel_rfl) (by kernel_rfl) (by kernel_rfl) (fun _ _ _ h => hP.out _ _ _ _ _ h) (Or.inl ⟨by kernel_rfl, ?hy138⟩) hHeld ?rest138
                case hy138 =>
                  intro wx hSw
                  clear hSw
                  go_simp
                  with_reducible rfl
                simp only [List.setIfInBounds_toArray, List.set_cons_zero, List.set_cons_succ]
                refine held_take (i := 25) (d := 271) (v := ?v139) rfl rfl (by kernel_rfl) (by kernel_rfl) (by kernel_rfl) (fun _ _ _ h => hP.out _ _ _ _ _ h) (Or.inl ⟨by kernel_rfl, ?hy139⟩) hHeld ?rest139
                case hy139 =>
                  intro wx hSw
                  clear hSw
                  go_simp
                  with_reducible rfl
                simp only [List.setIfInBounds_toArray, List.set_cons_zero, List.set_cons_succ]
                refine held_take (i := 26) (d := 272) (v := ?v140) rfl rfl (by kernel_rfl) (by kernel_rfl) (by kernel_rfl) (fun _ _ _ h => hP.out _ _ _ _ _ h) (Or.inl ⟨by kernel_rfl, ?hy140⟩) hHeld ?rest140
                case hy140 =>
                  intro wx hSw
                  clear hSw
                  go_simp
                  with_reducible rfl
                simp only [List.setIfInBounds_toArray, List.set_cons_zero, List.set_cons_succ]
                refine held_take (i := 27) (d := 273) (v := ?v141) rfl rfl (by kernel_rfl) (by kernel_rfl) (by kernel_rfl) (fun _ _ _ h => hP.out _ _ _ _ _ h) (Or.inl ⟨by kernel_rfl, ?hy141⟩) hHeld ?rest141
                case hy141 =>
                  intro wx hSw
                  have q0 := (hSw.cell (p := ⟨D, 18, none⟩) lS).trans kS18.out
                  clear hSw
                  go_simp
                  with_reducible rfl
                simp only [List.setIfInBounds_toArray, List.set_cons_zero, List.set_cons_succ]
                refine held_take (i := 28) (d := 274) (v := ?v142) rfl rfl (by kernel_rfl) (by kernel_rfl) (by kernel_rfl) (fun _ _ _ h => hP.out _ _ _ _ _ h) (Or.inl ⟨by kernel_rfl, ?hy142⟩) hHeld ?rest142
                case hy142 =>
                  intro wx hSw
                  clear hSw
                  go_simp
                  with_reducible rfl
                simp only [List.setIfInBounds_toArray, List.set_cons_zero, List.set_cons_succ]
                refine held_take (i := 29) (d := 275) (v := ?v143) rfl rfl (by kernel_rfl) (by kernel_rfl) (by kernel_rfl) (fun _ _ _ h => hP.out _ _ _ _ _ h) (Or.inl ⟨by kernel_rfl, ?hy143⟩) hHeld ?rest143
                case hy143 =>
                  intro wx hSw
                  clear hSw
                  go_simp
                  with_reducible rfl
                simp only [List.setIfInBounds_toArray, List.set_cons_zero, List.set_cons_succ]
                refine held_take (i := 30) (d := 276) (v := ?v144) rfl rfl (by kernel_rfl) (by kernel_rfl) (by kernel_rfl) (fun _ _ _ h => hP.out _ _ _ _ _ h) (Or.inl ⟨by kernel_rfl, ?hy144⟩) hHeld ?rest144
                case hy144 =>
                  intro wx hSw
                  clear hSw
                  go_simp
                  with_reducible rfl
                simp only [List.setIfInBounds_toArray, List.set_cons_zero, List.set_cons_succ]
                refine held_take (i := 31) (d := 277) (v := ?v145) rfl rfl (by kernel_rfl) (by kernel_rfl) (by kernel_rfl) (fun _ _ _ h => hP.out _ _ _ _ _ h) (Or.inl ⟨by kernel_rfl, ?hy145⟩) hHeld ?rest145
                case hy145 =>
                  intro wx hSw
                  have q0 := (hSw.cell (p := ⟨ga, of5 + j * 5 + 4, none⟩) lA).trans m4.out
                  clear hSw
                  go_simp
                  with_reducible rfl
                simp only [List.setIfInBounds_toArray, List.set_cons_zero, List.set_cons_succ]
                refine held_take (i := 32) (d := 278) (v := ?v146) rfl rfl (by kernel_rfl) (by kernel_rfl) (by kernel_rfl) (fun _ _ _ h => hP.out _ _ _ _ _ h) (Or.inl ⟨by kernel_rfl, ?hy146⟩) hHeld ?rest146
                case hy146 =>
                  intro wx hSw
                  clear hSw
                  go_simp
                  with_reducible rfl
                simp only [List.setIfInBounds_toArray, List.set_cons_zero, List.set_cons_succ]
                refine held_take (i := 33) (d := 279) (v := ?v147) rfl rfl (by kernel_rfl) (by kernel_rfl) (by kernel_rfl) (fun _ _ _ h => hP.out _ _ _ _ _ h) (Or.inl ⟨by kernel_rfl, ?hy147⟩) hHeld ?rest147
                case hy147 =>
                  intro wx hSw
                  have q0 := (hSw.cell (p := ⟨DT, 18, none⟩) lT).trans kT18.out
                  clear hSw
                  go_simp
                  with_reducible rfl
                simp only [List.setIfInBounds_toArray, List.set_cons_zero, List.set_cons_succ]
                refine held_take (i := 34) (d := 280) (v := ?v148) rfl rfl (by kernel_rfl) (by kernel_rfl) (by kernel_rfl) (fun _ _ _ h => hP.out _ _ _ _ _ h) (Or.inl ⟨by kernel_rfl, ?hy148⟩) hHeld ?rest148
                case hy148 =>
                  intro wx hSw
                  clear hSw
                  go_simp
                  with_reducible rfl
                simp only [List.setIfInBounds_toArray, List.set_cons_zero, List.set_cons_succ]
                refine held_take (i := 35) (d := 281) (v := ?v149) rfl rfl (by kernel_rfl) (by kernel_rfl) (by kernel_rfl) (fun _ _ _ h => hP.out _ _ _ _ _ h) (Or.inl ⟨by kernel_rfl, ?hy149⟩) hHeld ?rest149
                case hy149 =>
                  intro wx hSw
                  clear hSw
                  go_simp
                  with_reducible rfl
                simp only [List.setIfInBounds_toArray, List.set_cons_zero, List.set_cons_succ]
                refine held_take (i := 36) (d := 282) (v := ?v150) rfl rfl (by kernel_rfl) (by kernel_rfl) (by kernel_rfl) (fun _ _ _ h => hP.out _ _ _ _ _ h) (Or.inl ⟨by kernel_rfl, ?hy150⟩) hHeld ?rest150
                case hy150 =>
                  intro wx hSw
                  clear hSw
                  go_simp
                  with_reducible rfl
                simp only [List.setIfInBounds_toArray, List.set_cons_zero, List.set_cons_succ]
                refine held_take (i := 37) (d := 283) (v := ?v151) rfl rfl (by kernel_rfl) (by kernel_rfl) (by kernel_rfl) (fun _ _ _ h => hP.out _ _ _ _ _ h) (Or.inl ⟨by kernel_rfl, ?hy151⟩) hHeld ?rest151
                case hy151 =>
                  intro wx hSw
                  have q0 := (hSw.cell (p := ⟨gb, of6 + i * 5 + 4, none⟩) lB).trans n4.out
                  clear hSw
                  go_simp
                  with_reducible rfl
                simp only [List.setIfInBounds_toArray, List.set_cons_zero, List.set_cons_succ]
                refine wpAnyH_ready (rs := [38]) (by kernel_rfl) (by simp) ?_
                refine AllReadyH.cons rfl (fun K hK => ?_) AllReadyH.nil
                go_simp
                go_wp2_with (go_at_call 14; refine (HBY.out _ (by exact hHeld)).mono ?_; rintro e wb ⟨rfl, b8⟩)
                refine hK.out _ _ (b8) (fun hHeld => ?_)
                clear hK K
                refine held_take (i := 39) (d := 285) (v := ?v152) rfl rfl (by kernel_rfl) (by kernel_rfl) (by kernel_rfl) (fun _ _ _ h => hP.out _ _ _ _ _ h) (Or.inl ⟨by kernel_rfl, ?hy152⟩) hHeld ?rest152
                case hy152 =>
                  intro wx hSw
                  clear hSw
                  go_simp
                  with_reducible rfl
                simp only [List.setIfInBounds_toArray, List.set_cons_zero, List.set_cons_succ]
                refine held_take (i := 40) (d := 286) (v := ?v153) rfl rfl (by kernel_rfl) (by kernel_rfl) (by kernel_rfl) (fun _ _ _ h => hP.out _ _ _ _ _ h) (Or.inl ⟨by kernel_rfl, ?hy153⟩) hHeld ?rest153
                case hy153 =>
                  intro wx hSw
                  clear hSw
                  go_simp
                  with_reducible rfl
                simp only [List.setIfInBounds_toArray, List.set_cons_zero, List.set_cons_succ]
                refine wpAnyH_ready (rs := [41]) (by kernel_rfl) (by simp) ?_
                refine AllReadyH.cons rfl (fun K hK => ?_) AllReadyH.nil
                go_simp
                refine hK.out _ _ hHeld (fun hHeld => ?_)
                clear hK K
                refine wpAnyH_done (by kernel_rfl) ?_ _
                go_wp2_with fail
                go_meet
                exact ⟨rfl, hHeld⟩
            case rest =>
              obtain ⟨rfl, b9⟩ := hcut
              generalize hwc : wc = w10 at *
              have bx2 := bx.trans (b9.mono bx.size)
              clear hwc b9 xS xT xC HSW HST bx lS lT bb HBY m3 m4 n4 kS18 kT18 lA lB d0 d1 d1n d2 d3
              go_wp2_with fail
              exact ⟨⟨j + 1, hjl, by go_num, bx2⟩, by simp [intOf]; omega⟩
      · as_aux_lemma =>
          have d0 : decide ((0 : Int) ≤ q) = false := decide_eq_false hq0
          clear hq0 he
          go_cut [287] from 246 to 287 (fun v0 wx => v0 = .bool false ∧ Below w9.heap.size w9 wx)
          case first =>
            as_aux_lemma =>
              refine wp_region_held_drew (S := fun w' => Below w9.heap.size w9 w') (by kernel_rfl) ((Below.refl w9.heap.size w9).drew) (fun hHeld => ?_)
              refine held_take (i := 0) (d := 246) (v := ?v154) rfl rfl (by kernel_rfl) (by kernel_rfl) (by kernel_rfl) (fun _ _ _ h => hP.out _ _ _ _ _ h) (Or.inl ⟨by kernel_rfl, ?hy154⟩) hHeld ?rest154
              case hy154 =>
                intro wx hSw
                clear hSw
                go_simp
                with_reducible rfl
              simp only [List.setIfInBounds_toArray, List.set_cons_zero, List.set_cons_succ]
              refine held_take (i := 1) (d := 247) (v := ?v155) rfl rfl (by kernel_rfl) (by kernel_rfl) (by kernel_rfl) (fun _ _ _ h => hP.out _ _ _ _ _ h) (Or.inl ⟨by kernel_rfl, ?hy155⟩) hHeld ?rest155
              case hy155 =>
                intro wx hSw
                clear hSw
                go_simp
                with_reducible rfl
              simp only [List.setIfInBounds_toArray, List.set_cons_zero, List.set_cons_succ]
              refine held_take (i := 2) (d := 248) (v := ?v156) rfl rfl (by kernel_rfl) (by kernel_rfl) (by kernel_rfl) (fun _ _ _ h => hP.out _ _ _ _ _ h) (Or.inl ⟨by kernel_rfl, ?hy156⟩) hHeld ?rest156
              case hy156 =>
                intro wx hSw
                clear hSw
                go_simp
                with_reducible rfl
              simp only [List.setIfInBounds_toArray, List.set_cons_zero, List.set_cons_succ]
              refine held_take (i := 3) (d := 249) (v := undef) rfl rfl (by kernel_rfl) (by kernel_rfl) (by kernel_rfl) (fun _ _ _ h => hP.out _ _ _ _ _ h) (Or.inr ⟨by kernel_rfl, rfl⟩) hHeld ?_
              simp only [List.setIfInBounds_toArray, List.set_cons_zero, List.set_cons_succ]
              refine held_take (i := 4) (d := 250) (v := undef) rfl rfl (by kernel_rfl) (by kernel_rfl) (by kernel_rfl) (fun _ _ _ h => hP.out _ _ _ _ _ h) (Or.inr ⟨by kernel_rfl, rfl⟩) hHeld ?_
              simp only [List.setIfInBounds_toArray, List.set_cons_zero, List.set_cons_succ]
              refine held_take (i := 5) (d := 251) (v := undef) rfl rfl (by kernel_rfl) (by kernel_rfl) (by kernel_rfl) (fun _ _ _ h => hP.out _ _ _ _ _ h) (Or.inr ⟨by kernel_rfl, rfl⟩) hHeld ?_
              simp only [List.setIfInBounds_toArray, List.set_cons_zero, List.set_cons_succ]
              refine held_take (i := 6) (d := 252) (v := undef) rfl rfl (by kernel_rfl) (by kernel_rfl) (by kernel_rfl) (fun _ _ _ h => hP.out _ _ _ _ _ h) (Or.inr ⟨by kernel_rfl, rfl⟩) hHeld ?_
              simp only [List.setIfInBounds_toArray, List.set_cons_zero, List.set_cons_succ]
              refine held_take (i := 7) (d := 253) (v := undef) rfl rfl (by kernel_rfl) (by kernel_rfl) (by kernel_rfl) (fun _ _ _ h => hP.out _ _ _ _ _ h) (Or.inr ⟨by kernel_rfl, rfl⟩) hHeld ?_
              simp only [List.setIfInBounds_toArray, List.set_cons_zero, List.set_cons_succ]
              refine held_take (i := 8) (d := 254) (v := undef) rfl rfl (by kernel_rfl) (by kernel_rfl) (by kernel_rfl) (fun _ _ _ h => hP.out _ _ _ _ _ h) (Or.inr ⟨by kernel_rfl, rfl⟩) hHeld ?_
              simp only [List.setIfInBounds_toArray, List.set_cons_zero, List.set_cons_succ]
              refine held_take (i := 9) (d := 255) (v := undef) rfl rfl (by kernel_rfl) (by kernel_rfl) (by kernel_rfl) (fun _ _ _ h => hP.out _ _ _ _ _ h) (Or.inr ⟨by kernel_rfl, rfl⟩) hHeld ?_
              simp only [List.setIfInBounds_toArray, List.set_cons_zero, List.set_cons_succ]
              refine held_take (i := 10) (d := 256) (v := undef) rfl rfl (by kernel_rfl) (by kernel_rfl) (by kernel_rfl) (fun _ _ _ h => hP.out _ _ _ _ _ h) (Or.inr ⟨by kernel_rfl, rfl⟩) hHeld ?_
              simp only [List.setIfInBounds_toArray, List.set_cons_zero, List.set_cons_succ]
              refine held_take (i := 11) (d := 257) (v := undef) rfl rfl (by kernel_rfl) (by kernel_rfl) (by kernel_rfl) (fun _ _ _ h => hP.out _ _ _ _ _ h) (Or.inr ⟨by kernel_rfl, rfl⟩) hHeld ?_
              simp only [List.setIfInBounds_toArray, List.set_cons_zero, List.set_cons_succ]
              refine held_take (i := 12) (d := 258) (v := undef) rfl rfl (by kernel_rfl) (by kernel_rfl) (by kernel_rfl) (fun _ _ _ h => hP.out _ _ _ _ _ h) (Or.inr ⟨by kernel_rfl, rfl⟩) hHeld ?_
              simp only [List.setIfInBounds_toArray, List.set_cons_zero, List.set_cons_succ]
              refine held_take (i := 13) (d := 259) (v := undef) rfl rfl (by kernel_rfl) (by kernel_rfl) (by kernel_rfl) (fun _ _ _ h => hP.out _ _ _ _ _ h) (Or.inr ⟨by kernel_rfl, rfl⟩) hHeld ?_
              simp only [List.setIfInBounds_toArray, List.set_cons_zero, List.set_cons_succ]
              refine held_take (i := 14) (d := 260) (v := undef) rfl rfl (by kernel_rfl) (by kernel_rfl) (by kernel_rfl) (fun _ _ _ h => hP.out _ _ _ _ _ h) (Or.inr ⟨by kernel_rfl, rfl⟩) hHeld ?_
              simp only [List.setIfInBounds_toArray, List.set_cons_zero, List.set_cons_succ]
              refine held_take (i := 15) (d := 261) (v := undef) rfl rfl (by kernel_rfl) (by kernel_rfl) (by kernel_rfl) (fun _ _ _ h => hP.out _ _ _ _ _ h) (Or.inr ⟨by kernel_rfl, rfl⟩) hHeld ?_
              simp only [List.setIfInBounds_toArray, List.set_cons_zero, List.set_cons_succ]
              refine held_take (i := 16) (d := 262) (v := undef) rfl rfl (by kernel_rfl) (by kernel_rfl) (by kernel_rfl) (fun _ _ _ h => hP.out _ _ _ _ _ h) (Or.inr ⟨by kernel_rfl, rfl⟩) hHeld ?_
              simp only [List.setIfInBounds_toArray, List.set_cons_zero, List.set_cons_succ]
              refine held_take (i := 17) (d := 263) (v := undef) rfl rfl (by kernel_rfl) (by kernel_rfl) (by kernel_rfl) (fun _ _ _ h => hP.out _ _ _ _ _ h) (Or.inr ⟨by kernel_rfl, rfl⟩) hHeld ?_
              simp only [List.setIfInBounds_toArray, List.set_cons_zero, List.set_cons_succ]
              refine held_take (i := 18) (d := 264) (v := undef) rfl rfl (by kernel_rfl) (by kernel_rfl) (by kernel_rfl) (fun _ _ _ h => hP.out _ _ _ _ _ h) (Or.inr ⟨by kernel_rfl, rfl⟩) hHeld ?_
              simp only [List.setIfInBounds_toArray, List.set_cons_zero, List.set_cons_succ]
              refine held_take (i := 19) (d := 265) (v := undef) rfl rfl (by kernel_rfl) (by kernel_rfl) (by kernel_rfl) (fun _ _ _ h => hP.out _ _ _ _ _ h) (Or.inr ⟨by kernel_rfl, rfl⟩) hHeld ?_
              simp only [List.setIfInBounds_toArray, List.set_cons_zero, List.set_cons_succ]
              refine held_take (i := 20) (d := 266) (v := undef) rfl rfl (by kernel_rfl) (by kernel_rfl) (by kernel_rfl) (fun _ _ _ h => hP.out _ _ _ _ _ h) (Or.inr ⟨by kernel_rfl, rfl⟩) hHeld ?_
              simp only [List.setIfInBounds_toArray, List.set_cons_zero, List.set_cons_succ]
              refine held_take (i := 21) (d := 267) (v := undef) rfl rfl (by kernel_rfl) (by kernel_rfl) (by kernel_rfl) (fun _ _ _ h => hP.out _ _ _ _ _ h) (Or.inr ⟨by kernel_rfl, rfl⟩) hHeld ?_
              simp only [List.setIfInBounds_toArray, List.set_cons_zero, List.set_cons_succ]
              refine held_take (i := 22) (d := 268) (v := undef) rfl rfl (by kernel_rfl) (by kernel_rfl) (by kernel_rfl) (fun _ _ _ h => hP.out _ _ _ _ _ h) (Or.inr ⟨by kernel_rfl, rfl⟩) hHeld ?_
              simp only [List.setIfInBounds_toArray, List.set_cons_zero, List.set_cons_succ]
              refine held_take (i := 23) (d := 269) (v := undef) rfl rfl (by kernel_rfl) (by kernel_rfl) (by kernel_rfl) (fun _ _ _ h => hP.out _ _ _ _ _ h) (Or.inr ⟨by kernel_rfl, rfl⟩) hHeld ?_
              simp only [List.setIfInBounds_toArray, List.set_cons_zero, List.set_cons_succ]
              refine held_take (i := 24) (d := 270) (v := undef) rfl rfl (by kernel_rfl) (by kernel_rfl) (by kernel_rfl) (fun _ _ _ h => hP.out _ _ _ _ _ h) (Or.inr ⟨by kernel_rfl, rfl⟩) hHeld ?_
              simp only [List.setIfInBounds_toArray, List.set_cons_zero, List.set_cons_succ]
              refine held_take (i := 25) (d := 271) (v := undef) rfl rfl (by kernel_rfl) (by kernel_rfl) (by kernel_rfl) (fun _ _ _ h => hP.out _ _ _ _ _ h) (Or.inr ⟨by kernel_rfl, rfl⟩) hHeld ?_
              simp only [List.setIfInBounds_toArray, List.set_cons_zero, List.set_cons_succ]
              refine held_take (i := 26) (d := 272) (v := undef) rfl rfl (by kernel_rfl) (by kernel_rfl) (by kernel_rfl) (fun _ _ _ h => hP.out _ _ _ _ _ h) (Or.inr ⟨by kernel_rfl, rfl⟩) hHeld ?_
              simp only [List.setIfInBounds_toArray, List.set_cons_zero, List.set_cons_succ]
              refine held_take (i := 27) (d := 273) (v := undef) rfl rfl (by kernel_rfl) (by kernel_rfl) (by kernel_rfl) (fun _ _ _ h => hP.out _ _ _ _ _ h) (Or.inr ⟨by kernel_rfl, rfl⟩) hHeld ?_
              simp only [List.setIfInBounds_toArray, List.set_cons_zero, List.set_cons_succ]
              refine held_take (i := 28) (d := 274) (v := undef) rfl rfl (by kernel_rfl) (by kernel_rfl) (by kernel_rfl) (fun _ _ _ h => hP.out _ _ _ _ _ h) (Or.inr ⟨by kernel_rfl, rfl⟩) hHeld ?_
              simp only [List.setIfInBounds_toArray, List.set_cons_zero, List.set_cons_succ]
              refine held_take (i := 29) (d := 275) (v := undef) rfl rfl (by kernel_rfl) (by kernel_rfl) (by kernel_rfl) (fun _ _ _ h => hP.out _ _ _ _ _ h) (Or.inr ⟨by kernel_rfl, rfl⟩) hHeld ?_
              simp only [List.setIfInBounds_toArray, List.set_cons_zero, List.set_cons_succ]
              refine held_take (i := 30) (d := 276) (v := undef) rfl rfl (by kernel_rfl) (by kernel_rfl) (by kernel_rfl) (fun _ _ _ h => hP.out _ _ _ _ _ h) (Or.inr ⟨by kernel_rfl, rfl⟩) hHeld ?_
              simp only [List.setIfInBounds_toArray, List.set_cons_zero, List.set_cons_succ]
              refine held_take (i := 31) (d := 277) (v := undef) rfl rfl (by kernel_rfl) (by kernel_rfl) (by kernel_rfl) (fun _ _ _ h => hP.out _ _ _ _ _ h) (Or.inr ⟨by kernel_rfl, rfl⟩) hHeld ?_
              simp only [List.setIfInBounds_toArray, List.set_cons_zero, List.set_cons_succ]
              refine held_take (i := 32) (d := 278) (v := undef) rfl rfl (by kernel_rfl) (by kernel_rfl) (by kernel_rfl) (fun _ _ _ h => hP.out _ _ _ _ _ h) (Or.inr ⟨by kernel_rfl, rfl⟩) hHeld ?_
              simp only [List.setIfInBounds_toArray, List.set_cons_zero, List.set_cons_succ]
              refine held_take (i := 33) (d := 279) (v := undef) rfl rfl (by kernel_rfl) (by kernel_rfl) (by kernel_rfl) (fun _ _ _ h => hP.out _ _ _ _ _ h) (Or.inr ⟨by kernel_rfl, rfl⟩) hHeld ?_
              simp only [List.setIfInBounds_toArray, List.set_cons_zero, List.set_cons_succ]
              refine held_take (i := 34) (d := 280) (v := undef) rfl rfl (by kernel_rfl) (by kernel_rfl) (by kernel_rfl) (fun _ _ _ h => hP.out _ _ _ _ _ h) (Or.inr ⟨by kernel_rfl, rfl⟩) hHeld ?_
              simp only [List.setIfInBounds_toArray, List.set_cons_zero, List.set_cons_succ]
              refine held_take (i := 35) (d := 281) (v := undef) rfl rfl (by kernel_rfl) (by kernel_rfl) (by kernel_rfl) (fun _ _ _ h => hP.out _ _ _ _ _ h) (Or.inr ⟨by kernel_rfl, rfl⟩) hHeld ?_
              simp only [List.setIfInBounds_toArray, List.set_cons_zero, List.set_cons_succ]
              refine held_take (i := 36) (d := 282) (v := undef) rfl rfl (by kernel_rfl) (by kernel_rfl) (by kernel_rfl) (fun _ _ _ h => hP.out _ _ _ _ _ h) (Or.inr ⟨by kernel_rfl, rfl⟩) hHeld ?_
              simp only [List.setIfInBounds_toArray, List.set_cons_zero, List.set_cons_succ]
              refine held_take (i := 37) (d := 283) (v := undef) rfl rfl (by kernel_rfl) (by kernel_rfl) (by kernel_rfl) (fun _ _ _ h => hP.out _ _ _ _ _ h) (Or.inr ⟨by kernel_rfl, rfl⟩) hHeld ?_
              simp only [List.setIfInBounds_toArray, List.set_cons_zero, List.set_cons_succ]
              refine held_take (i := 38) (d := 284) (v := undef) rfl rfl (by kernel_rfl) (by kernel_rfl) (by kernel_rfl) (fun _ _ _ h => hP.out _ _ _ _ _ h) (Or.inr ⟨by kernel_rfl, rfl⟩) hHeld ?_
              simp only [List.setIfInBounds_toArray, List.set_cons_zero, List.set_cons_succ]
              refine held_take (i := 39) (d := 285) (v := undef) rfl rfl (by kernel_rfl) (by kernel_rfl) (by kernel_rfl) (fun _ _ _ h => hP.out _ _ _ _ _ h) (Or.inr ⟨by kernel_rfl, rfl⟩) hHeld ?_
              simp only [List.setIfInBounds_toArray, List.set_cons_zero, List.set_cons_succ]
              refine held_take (i := 40) (d := 286) (v := undef) rfl rfl (by kernel_rfl) (by kernel_rfl) (by kernel_rfl) (fun _ _ _ h => hP.out _ _ _ _ _ h) (Or.inr ⟨by kernel_rfl, rfl⟩) hHeld ?_
              simp only [List.setIfInBounds_toArray, List.set_cons_zero, List.set_cons_succ]
              refine wpAnyH_ready (rs := [41]) (by kernel_rfl) (by simp) ?_
              refine AllReadyH.cons rfl (fun K hK => ?_) AllReadyH.nil
              go_simp
              refine hK.out _ _ hHeld (fun hHeld => ?_)
              clear hK K
              refine wpAnyH_done (by kernel_rfl) ?_ _
              go_wp2_with fail
              go_meet
              exact ⟨rfl, hHeld⟩
          case rest =>
            obtain ⟨rfl, b9⟩ := hcut
            generalize hwc : wc = w10 at *
            have bx2 := bx.trans (b9.mono bx.size)
            clear hwc b9 xS xT xC HSW HST bx lS lT bb 
            go_wp2_with fail
            exact ⟨⟨j + 1, hjl, by go_num, bx2⟩, by simp [intOf]; omega⟩
    · obtain rfl : j = M := by omega
      clear hj hjl
      have cs18 := xS.cell 18 _ rfl
      have lS := xS.lt
      go_wp2_with fail
      exact bx
set_option maxRecDepth 100000 in
set_option maxHeartbeats 20000000 in
theorem learns_tail {c : Cfg} {k : Nat} (hk4 : k ≤ 40) {w w7 : World} {D DT : Nat} (hDT : D < DT) (hm9 : 200 * k ≤ 900000) (HDC : Hid (w.heap.size < D)) {s t : Sn} (HK : Hid (Keeps s t))
    {X : Bool} {KK R B N T F : Int} {E M : Nat} {ea : Option Addr} {ec : Nat} {wa : Option Addr} {wq : Nat} (HSW : Hid (SnW (D + 1) w7 s c X KK R B N T F E M ea ec wa wq (200 * k)))
    {X1 : Bool} {K1 R1 B1 N1 T1 F1 : Int} {E1 M1 : Nat} {ia : Option Addr} {ic : Nat} {ja : Option Addr} {jc : Nat} (HST : Hid (SnW (DT + 1) w7 t c X1 K1 R1 B1 N1 T1 F1 E1 M1 ia ic ja jc (200 * k + 200)))
    (xS : Box w7 D 30 #[.int .i64 c.cB, .int .i64 c.cBeam, .int .i64 c.cDepth, .int .i64 c.cWin, .int .i64 c.cQs, .int .i64 c.cQr, .int .i64 c.cBatch, .int .i64 c.cPass, .int .i64 c.cMsg, .int .i64 c.cSeqs, .bool X, .int .i64 KK, .int .i64 R, .int .i64 B, .int .i64 N, .int .i64 T, .int .i64 F, .slice ea E ec, .slice wa M wq]) (xT : Box w7 DT 30 #[.int .i64 c.cB, .int .i64 c.cBeam, .int .i64 c.cDepth, .int .i64 c.cWin, .int .i64 c.cQs, .int .i64 c.cQr, .int .i64 c.cBatch, .int .i64 c.cPass, .int .i64 c.cMsg, .int .i64 c.cSeqs, .bool X1, .int .i64 K1, .int .i64 R1, .int .i64 B1, .int .i64 N1, .int .i64 T1, .int .i64 F1, .slice ia E1 ic, .slice ja M1 jc]) (xC : Box w7 w.heap.size 23 #[.int .i64 c.cB, .int .i64 c.cBeam, .int .i64 c.cDepth, .int .i64 c.cWin, .int .i64 c.cQs, .int .i64 c.cQr, .int .i64 c.cBatch, .int .i64 c.cPass, .int .i64 c.cMsg, .int .i64 c.cSeqs]) (bb : Below w.heap.size w w7)
    {s0 s1 s3 s4 s6 s7 s9 s10 s11 s12 s13 s14 s15 s16 s17 s18 s19 s20 s21 s22 s23 s24 s25 s26 s27 s28 s29 s30 s31 s32 s33 s34 s35 s36 s37 s38 s39 s40 s41 s42 s43 s44 s45 s46 s47 s48 s49 s50 s51 s52 s53 s54 s55 s56 s57 s58 s59 s60 s61 s62 s63 s64 s65 s66 s67 s68 s69 s70 s71 s72 s73 s74 s75 s76 s77 s78 s79 s80 s81 s82 s83 s84 s85 s86 s87 s88 s89 s90 s91 s92 s93 s94 s95 s96 s97 s98 s99 s100 s101 s102 s103 s104 s105 s106 s107 s108 s109 s110 s111 s112 s113 s114 s115 s116 s117 s118 s119 s120 s121 s122 s123 s124 s125 s126 s127 s128 s129 s130 s131 s132 s133 s134 s135 s136 s137 s138 s139 s140 s141 s142 s143 s144 s145 s146 s147 s148 s149 s150 s151 s152 s153 s154 s155 s156 s157 s158 s159 s160 s161 s162 s163 s164 s165 s166 s167 s168 s169 s170 s171 s172 s173 s174 s175 s176 s177 s178 s179 s180 s181 s182 s183 s184 s185 s186 s187 s188 s189 s190 s191 s192 s193 s194 s195 s196 s197 s198 s199 s200 s201 s202 s203 s204 s205 s206 s207 s208 s209 s210 s211 s212 s213 s214 s215 s216 s217 s218 s219 s220 s221 s222 s223 s224 s225 s226 s227 s228 s229 s230 s231 s232 s233 s234 s235 s236 s237 s238 s239 s240 s241 s242 s243 s244 s245 s246 s247 s248 s249 s250 s251 s252 s253 s254 s255 s256 s257 s258 s259 s260 s261 s262 s263 s264 s265 s266 s267 s268 s269 s270 s271 s272 s273 s274 s275 s276 s277 s278 s279 s280 s281 s282 s283 s284 s285 s286 s287 s288 s289 : Value} {Q : Exit → Act → World → Prop}
    (hP : Hid (∀ x (t t' : Array Value) ds (w : World), Q (.panic x) ⟨t, ds⟩ w → Q (.panic x) ⟨t', ds⟩ w)) (hQ : ∀ (t4 t17 t18 t187 t188 t189 t190 t191 t192 t193 t194 t195 t196 t197 t198 t199 t200 t201 t202 t203 t204 t205 t206 t207 t208 t209 t210 t211 t212 t213 t214 t215 t216 t217 t218 t219 t220 t221 t222 t223 t224 t225 t226 t227 t228 t229 t230 t231 t232 t233 t234 t235 t236 t237 t238 t239 t240 t241 t242 t243 t244 t245 t246 t247 t248 t249 t250 t251 t252 t253 t254 t255 t256 t257 t258 t259 t260 t261 t262 t263 t264 t265 t266 t267 t268 t269 t270 t271 t272 t273 t274 t275 t276 t277 t278 t279 t280 t281 t282 t283 t284 t285 t286 t287 t288 : Value) (w' : World), (Hid (SnW (D + 1) w' t c X1 K1 R1 B1 N1 T1 F1 E1 M1 ia ic ja jc (200 * (k + 1))) ∧ Box w' D 30 #[.int .i64 c.cB, .int .i64 c.cBeam, .int .i64 c.cDepth, .int .i64 c.cWin, .int .i64 c.cQs, .int .i64 c.cQr, .int .i64 c.cBatch, .int .i64 c.cPass, .int .i64 c.cMsg, .int .i64 c.cSeqs, .bool X1, .int .i64 K1, .int .i64 R1, .int .i64 B1, .int .i64 N1, .int .i64 T1, .int .i64 F1, .slice ia E1 ic, .slice ja M1 jc] ∧ Box w' w.heap.size 23 #[.int .i64 c.cB, .int .i64 c.cBeam, .int .i64 c.cDepth, .int .i64 c.cWin, .int .i64 c.cQs, .int .i64 c.cQr, .int .i64 c.cBatch, .int .i64 c.cPass, .int .i64 c.cMsg, .int .i64 c.cSeqs] ∧ Below w.heap.size w w') → Q .normal ⟨(s0 :: s1 :: .pointer (some ⟨w.heap.size, 0, none⟩) :: s3 :: t4 :: .pointer (some ⟨D, 0, none⟩) :: s6 :: s7 :: .pointer (some ⟨DT, 0, none⟩) :: s9 :: s10 :: s11 :: s12 :: s13 :: s14 :: s15 :: s16 :: t17 :: t18 :: s19 :: s20 :: s21 :: s22 :: s23 :: s24 :: s25 :: s26 :: s27 :: s28 :: s29 :: s30 :: s31 :: s32 :: s33 :: s34 :: s35 :: s36 :: s37 :: s38 :: s39 :: s40 :: s41 :: s42 :: s43 :: s44 :: s45 :: s46 :: s47 :: s48 :: s49 :: s50 :: s51 :: s52 :: s53 :: s54 :: s55 :: s56 :: s57 :: s58 :: s59 :: s60 :: s61 :: s62 :: s63 :: s64 :: s65 :: s66 :: s67 :: s68 :: s69 :: s70 :: s71 :: s72 :: s73 :: s74 :: s75 :: s76 :: s77 :: s78 :: s79 :: s80 :: s81 :: s82 :: s83 :: s84 :: s85 :: s86 :: s87 :: s88 :: s89 :: s90 :: s91 :: s92 :: s93 :: s94 :: s95 :: s96 :: s97 :: s98 :: s99 :: s100 :: s101 :: s102 :: s103 :: s104 :: s105 :: s106 :: s107 :: s108 :: s109 :: s110 :: s111 :: s112 :: s113 :: s114 :: s115 :: s116 :: s117 :: s118 :: s119 :: s120 :: s121 :: s122 :: s123 :: s124 :: s125 :: s126 :: s127 :: s128 :: s129 :: s130 :: s131 :: s132 :: s133 :: s134 :: s135 :: s136 :: s137 :: s138 :: s139 :: s140 :: s141 :: s142 :: s143 :: s144 :: s145 :: s146 :: s147 :: s148 :: s149 :: s150 :: s151 :: s152 :: s153 :: s154 :: s155 :: s156 :: s157 :: s158 :: s159 :: s160 :: s161 :: s162 :: s163 :: s164 :: s165 :: s166 :: s167 :: s168 :: s169 :: s170 :: s171 :: s172 :: s173 :: s174 :: s175 :: s176 :: s177 :: s178 :: s179 :: s180 :: s181 :: s182 :: s183 :: s184 :: s185 :: s186 :: t187 :: t188 :: t189 :: t190 :: t191 :: t192 :: t193 :: t194 :: t195 :: t196 :: t197 :: t198 :: t199 :: t200 :: t201 :: t202 :: t203 :: t204 :: t205 :: t206 :: t207 :: t208 :: t209 :: t210 :: t211 :: t212 :: t213 :: t214 :: t215 :: t216 :: t217 :: t218 :: t219 :: t220 :: t221 :: t222 :: t223 :: t224 :: t225 :: t226 :: t227 :: t228 :: t229 :: t230 :: t231 :: t232 :: t233 :: t234 :: t235 :: t236 :: t237 :: t238 :: t239 :: t240 :: t241 :: t242 :: t243 :: t244 :: t245 :: t246 :: t247 :: t248 :: t249 :: t250 :: t251 :: t252 :: t253 :: t254 :: t255 :: t256 :: t257 :: t258 :: t259 :: t260 :: t261 :: t262 :: t263 :: t264 :: t265 :: t266 :: t267 :: t268 :: t269 :: t270 :: t271 :: t272 :: t273 :: t274 :: t275 :: t276 :: t277 :: t278 :: t279 :: t280 :: t281 :: t282 :: t283 :: t284 :: t285 :: t286 :: t287 :: t288 :: s289 :: []).toArray, []⟩ w') :
    Code.wp Tryd.prog learnsRest Q ⟨(s0 :: s1 :: .pointer (some ⟨w.heap.size, 0, none⟩) :: s3 :: s4 :: .pointer (some ⟨D, 0, none⟩) :: s6 :: s7 :: .pointer (some ⟨DT, 0, none⟩) :: s9 :: s10 :: s11 :: s12 :: s13 :: s14 :: s15 :: s16 :: s17 :: s18 :: s19 :: s20 :: s21 :: s22 :: s23 :: s24 :: s25 :: s26 :: s27 :: s28 :: s29 :: s30 :: s31 :: s32 :: s33 :: s34 :: s35 :: s36 :: s37 :: s38 :: s39 :: s40 :: s41 :: s42 :: s43 :: s44 :: s45 :: s46 :: s47 :: s48 :: s49 :: s50 :: s51 :: s52 :: s53 :: s54 :: s55 :: s56 :: s57 :: s58 :: s59 :: s60 :: s61 :: s62 :: s63 :: s64 :: s65 :: s66 :: s67 :: s68 :: s69 :: s70 :: s71 :: s72 :: s73 :: s74 :: s75 :: s76 :: s77 :: s78 :: s79 :: s80 :: s81 :: s82 :: s83 :: s84 :: s85 :: s86 :: s87 :: s88 :: s89 :: s90 :: s91 :: s92 :: s93 :: s94 :: s95 :: s96 :: s97 :: s98 :: s99 :: s100 :: s101 :: s102 :: s103 :: s104 :: s105 :: s106 :: s107 :: s108 :: s109 :: s110 :: s111 :: s112 :: s113 :: s114 :: s115 :: s116 :: s117 :: s118 :: s119 :: s120 :: s121 :: s122 :: s123 :: s124 :: s125 :: s126 :: s127 :: s128 :: s129 :: s130 :: s131 :: s132 :: s133 :: s134 :: s135 :: s136 :: s137 :: s138 :: s139 :: s140 :: s141 :: s142 :: s143 :: s144 :: s145 :: s146 :: s147 :: s148 :: s149 :: s150 :: s151 :: s152 :: s153 :: s154 :: s155 :: s156 :: s157 :: s158 :: s159 :: s160 :: s161 :: s162 :: s163 :: s164 :: s165 :: s166 :: s167 :: s168 :: s169 :: s170 :: s171 :: s172 :: s173 :: s174 :: s175 :: s176 :: s177 :: s178 :: s179 :: s180 :: s181 :: s182 :: s183 :: s184 :: s185 :: s186 :: s187 :: s188 :: s189 :: s190 :: s191 :: s192 :: s193 :: s194 :: s195 :: s196 :: s197 :: s198 :: s199 :: s200 :: s201 :: s202 :: s203 :: s204 :: s205 :: s206 :: s207 :: s208 :: s209 :: s210 :: s211 :: s212 :: s213 :: s214 :: s215 :: s216 :: s217 :: s218 :: s219 :: s220 :: s221 :: s222 :: s223 :: s224 :: s225 :: s226 :: s227 :: s228 :: s229 :: s230 :: s231 :: s232 :: s233 :: s234 :: s235 :: s236 :: s237 :: s238 :: s239 :: s240 :: s241 :: s242 :: s243 :: s244 :: s245 :: s246 :: s247 :: s248 :: s249 :: s250 :: s251 :: s252 :: s253 :: s254 :: s255 :: s256 :: s257 :: s258 :: s259 :: s260 :: s261 :: s262 :: s263 :: s264 :: s265 :: s266 :: s267 :: s268 :: s269 :: s270 :: s271 :: s272 :: s273 :: s274 :: s275 :: s276 :: s277 :: s278 :: s279 :: s280 :: s281 :: s282 :: s283 :: s284 :: s285 :: s286 :: s287 :: s288 :: s289 :: []).toArray, []⟩ w7 := by
  conv => arg 2; whnf
  have hk1 := HK.out.base
  have hk2 := HK.out.conf
  have hk3 := HK.out.sent
  have hbs := snw_bounds HSW.out
  have hbt := snw_bounds HST.out
  have hE1 := snw_ends HST.out
  have hcs2 := snw_conf HSW.out
  have hct2 := snw_conf HST.out
  rw [hcs2, hct2] at hk2
  rw [HSW.out.is.eF, HST.out.is.eF] at hk1
  rw [HSW.out.is.eN, HST.out.is.eN] at hk3
  obtain ⟨cs, hcs⟩ : ∃ x : Int, N - (E : Int) = x := ⟨_, rfl⟩
  obtain ⟨ct, hct⟩ : ∃ x : Int, N1 - (E1 : Int) = x := ⟨_, rfl⟩
  rw [hcs, hct] at hk2
  have HCS : Hid (∀ wx : World, Below w7.heap.size w7 wx → Calls Tryd.prog 13 #[.agg #[.int .i64 c.cB, .int .i64 c.cBeam, .int .i64 c.cDepth, .int .i64 c.cWin, .int .i64 c.cQs, .int .i64 c.cQr, .int .i64 c.cBatch, .int .i64 c.cPass, .int .i64 c.cMsg, .int .i64 c.cSeqs, .bool X, .int .i64 KK, .int .i64 R, .int .i64 B, .int .i64 N, .int .i64 T, .int .i64 F, .slice ea E ec, .slice wa M wq]] wx fun e w' => e = .returned (.int .i64 cs) ∧ Below w7.heap.size w7 w') := fun wx bx => by
    have h := sendConfirmed_law (HSW.out.next bx) hm9
    rw [hcs] at h
    exact h.mono fun e w' ⟨h, b⟩ => ⟨h, bx.trans (b.mono bx.size)⟩
  have HCT : Hid (∀ wx : World, Below w7.heap.size w7 wx → Calls Tryd.prog 13 #[.agg #[.int .i64 c.cB, .int .i64 c.cBeam, .int .i64 c.cDepth, .int .i64 c.cWin, .int .i64 c.cQs, .int .i64 c.cQr, .int .i64 c.cBatch, .int .i64 c.cPass, .int .i64 c.cMsg, .int .i64 c.cSeqs, .bool X1, .int .i64 K1, .int .i64 R1, .int .i64 B1, .int .i64 N1, .int .i64 T1, .int .i64 F1, .slice ia E1 ic, .slice ja M1 jc]] wx fun e w' => e = .returned (.int .i64 ct) ∧ Below w7.heap.size w7 w') := fun wx bx => by
    have h := sendConfirmed_law (HST.out.next bx) (by omega)
    rw [hct] at h
    exact h.mono fun e w' ⟨h, b⟩ => ⟨h, bx.trans (b.mono bx.size)⟩
  have e1 : decide (F1 < F) = false := decide_eq_false (by omega)
  have e2 : decide (ct < cs) = false := decide_eq_false (by omega)
  have e3 : decide (N1 < ct) = false := decide_eq_false (by omega)
  have wTF : IntKind.i64.wrap (T1 - F1) = (M1 : Int) := by rw [IntKind.wrap_i64]; omega
  have e5 : decide (c.cQs < (E1 : Int)) = false := decide_eq_false (by omega)
  have e6 : decide (N1 < N) = false := decide_eq_false (by omega)
  have kS14 : Hid (w7.cell? ⟨D, 14, none⟩ = some (.int .i64 N)) := xS.cell 14 _ rfl
  have kS16 : Hid (w7.cell? ⟨D, 16, none⟩ = some (.int .i64 F)) := xS.cell 16 _ rfl
  have kT14 : Hid (w7.cell? ⟨DT, 14, none⟩ = some (.int .i64 N1)) := xT.cell 14 _ rfl
  have kT15 : Hid (w7.cell? ⟨DT, 15, none⟩ = some (.int .i64 T1)) := xT.cell 15 _ rfl
  have kT16 : Hid (w7.cell? ⟨DT, 16, none⟩ = some (.int .i64 F1)) := xT.cell 16 _ rfl
  have kT17 : Hid (w7.cell? ⟨DT, 17, none⟩ = some (.slice ia E1 ic)) := xT.cell 17 _ rfl
  have kT18 : Hid (w7.cell? ⟨DT, 18, none⟩ = some (.slice ja M1 jc)) := xT.cell 18 _ rfl
  have kC4 : Hid (w7.cell? ⟨w.heap.size, 4, none⟩ = some (.int .i64 c.cQs)) := xC.cell 4 _ rfl
  have lS := xS.lt
  have lT := xT.lt
  have lC := xC.lt
  have HBS : Hid _ := hbs
  have HBT9 : Hid _ := hbt
  clear hk1 hk2 hk3 hE1 hcs2 hct2 hcs hct hbs hbt
  go_upto_region 32 with fail
  go_cut [231] from 187 to 231 (fun v0 wx => v0 = .bool false ∧ Below w7.heap.size w7 wx)
  case first =>
    as_aux_lemma =>
      refine wp_region_held_drew (S := fun w' => Below w7.heap.size w7 w') (by kernel_rfl) ((Below.refl w7.heap.size w7).drew) (fun hHeld => ?_)
      refine held_take (i := 0) (d := 187) (v := ?v40) rfl rfl (by kernel_rfl) (by kernel_rfl) (by kernel_rfl) (fun _ _ _ h => hP.out _ _ _ _ _ h) (Or.inl ⟨by kernel_rfl, ?hy40⟩) hHeld ?rest40
      case hy40 =>
        intro wx hSw
        clear hSw
        go_simp
        with_reducible rfl
      simp only [List.setIfInBounds_toArray, List.set_cons_zero, List.set_cons_succ]
      refine held_take (i := 1) (d := 188) (v := ?v41) rfl rfl (by kernel_rfl) (by kernel_rfl) (by kernel_rfl) (fun _ _ _ h => hP.out _ _ _ _ _ h) (Or.inl ⟨by kernel_rfl, ?hy41⟩) hHeld ?rest41
      case hy41 =>
        intro wx hSw
        have q0 := (hSw.cell (p := ⟨DT, 16, none⟩) lT).trans kT16.out
        clear hSw
        go_simp
        with_reducible rfl
      simp only [List.setIfInBounds_toArray, List.set_cons_zero, List.set_cons_succ]
      refine held_take (i := 2) (d := 189) (v := ?v42) rfl rfl (by kernel_rfl) (by kernel_rfl) (by kernel_rfl) (fun _ _ _ h => hP.out _ _ _ _ _ h) (Or.inl ⟨by kernel_rfl, ?hy42⟩) hHeld ?rest42
      case hy42 =>
        intro wx hSw
        clear hSw
        go_simp
        with_reducible rfl
      simp only [List.setIfInBounds_toArray, List.set_cons_zero, List.set_cons_succ]
      refine held_take (i := 3) (d := 190) (v := ?v43) rfl rfl (by kernel_rfl) (by kernel_rfl) (by kernel_rfl) (fun _ _ _ h => hP.out _ _ _ _ _ h) (Or.inl ⟨by kernel_rfl, ?hy43⟩) hHeld ?rest43
      case hy43 =>
        intro wx hSw
        have q0 := (hSw.cell (p := ⟨D, 16, none⟩) lS).trans kS16.out
        clear hSw
        go_simp
        with_reducible rfl
      simp only [List.setIfInBounds_toArray, List.set_cons_zero, List.set_cons_succ]
      refine held_take (i := 4) (d := 191) (v := ?v44) rfl rfl (by kernel_rfl) (by kernel_rfl) (by kernel_rfl) (fun _ _ _ h => hP.out _ _ _ _ _ h) (Or.inl ⟨by kernel_rfl, ?hy44⟩) hHeld ?rest44
      case hy44 =>
        intro wx hSw
        clear hSw
        go_simp
        with_reducible rfl
      simp only [List.setIfInBounds_toArray, List.set_cons_zero, List.set_cons_succ]
      refine held_take (i := 5) (d := 192) (v := ?v45) rfl rfl (by kernel_rfl) (by kernel_rfl) (by kernel_rfl) (fun _ _ _ h => hP.out _ _ _ _ _ h) (Or.inl ⟨by kernel_rfl, ?hy45⟩) hHeld ?rest45
      case hy45 =>
        intro wx hSw
        clear hSw
        go_simp
        with_reducible rfl
      simp only [List.setIfInBounds_toArray, List.set_cons_zero, List.set_cons_succ]
      refine held_take (i := 6) (d := 193) (v := ?v46) rfl rfl (by kernel_rfl) (by kernel_rfl) (by kernel_rfl) (fun _ _ _ h => hP.out _ _ _ _ _ h) (Or.inl ⟨by kernel_rfl, ?hy46⟩) hHeld ?rest46
      case hy46 =>
        refine yields_box 30 ?yx46 ?yo46 ?yh46 _ (fun wx hSw => xT.below hSw lT) Tryd.underlying30 rfl (by kernel_rfl)
        case yo46 => rfl
        case yh46 => rfl
      simp only [List.setIfInBounds_toArray, List.set_cons_zero, List.set_cons_succ]
      refine held_take (i := 8) (d := 195) (v := ?v47) rfl rfl (by kernel_rfl) (by kernel_rfl) (by kernel_rfl) (fun _ _ _ h => hP.out _ _ _ _ _ h) (Or.inl ⟨by kernel_rfl, ?hy47⟩) hHeld ?rest47
      case hy47 =>
        refine yields_box 30 ?yx47 ?yo47 ?yh47 _ (fun wx hSw => xS.below hSw lS) Tryd.underlying30 rfl (by kernel_rfl)
        case yo47 => rfl
        case yh47 => rfl
      simp only [List.setIfInBounds_toArray, List.set_cons_zero, List.set_cons_succ]
      refine wpAnyH_ready (rs := [7]) (by kernel_rfl) (by simp) ?_
      refine AllReadyH.cons rfl (fun K hK => ?_) AllReadyH.nil
      go_simp
      go_wp2_with (go_at_call 13; refine (HCT.out _ (by exact hHeld)).mono ?_; rintro e wb ⟨rfl, b8⟩)
      refine hK.out _ _ (b8) (fun hHeld => ?_)
      clear hK K
      refine wpAnyH_ready (rs := [9]) (by kernel_rfl) (by simp) ?_
      refine AllReadyH.cons rfl (fun K hK => ?_) AllReadyH.nil
      go_simp
      go_wp2_with (go_at_call 13; refine (HCS.out _ (by exact hHeld)).mono ?_; rintro e wb ⟨rfl, b8⟩)
      refine hK.out _ _ (b8) (fun hHeld => ?_)
      clear hK K
      refine held_take (i := 10) (d := 197) (v := ?v48) rfl rfl (by kernel_rfl) (by kernel_rfl) (by kernel_rfl) (fun _ _ _ h => hP.out _ _ _ _ _ h) (Or.inl ⟨by kernel_rfl, ?hy48⟩) hHeld ?rest48
      case hy48 =>
        intro wx hSw
        clear hSw
        go_simp
        with_reducible rfl
      simp only [List.setIfInBounds_toArray, List.set_cons_zero, List.set_cons_succ]
      refine held_take (i := 11) (d := 198) (v := ?v49) rfl rfl (by kernel_rfl) (by kernel_rfl) (by kernel_rfl) (fun _ _ _ h => hP.out _ _ _ _ _ h) (Or.inl ⟨by kernel_rfl, ?hy49⟩) hHeld ?rest49
      case hy49 =>
        intro wx hSw
        clear hSw
        go_simp
        with_reducible rfl
      simp only [List.setIfInBounds_toArray, List.set_cons_zero, List.set_cons_succ]
      refine held_take (i := 12) (d := 199) (v := ?v50) rfl rfl (by kernel_rfl) (by kernel_rfl) (by kernel_rfl) (fun _ _ _ h => hP.out _ _ _ _ _ h) (Or.inl ⟨by kernel_rfl, ?hy50⟩) hHeld ?rest50
      case hy50 =>
        intro wx hSw
        clear hSw
        go_simp
        with_reducible rfl
      simp only [List.setIfInBounds_toArray, List.set_cons_zero, List.set_cons_succ]
      refine held_take (i := 13) (d := 200) (v := ?v51) rfl rfl (by kernel_rfl) (by kernel_rfl) (by kernel_rfl) (fun _ _ _ h => hP.out _ _ _ _ _ h) (Or.inl ⟨by kernel_rfl, ?hy51⟩) hHeld ?rest51
      case hy51 =>
        refine yields_box 30 ?yx51 ?yo51 ?yh51 _ (fun wx hSw => xT.below hSw lT) Tryd.underlying30 rfl (by kernel_rfl)
        case yo51 => rfl
        case yh51 => rfl
      simp only [List.setIfInBounds_toArray, List.set_cons_zero, List.set_cons_succ]
      refine held_take (i := 15) (d := 202) (v := ?v52) rfl rfl (by kernel_rfl) (by kernel_rfl) (by kernel_rfl) (fun _ _ _ h => hP.out _ _ _ _ _ h) (Or.inl ⟨by kernel_rfl, ?hy52⟩) hHeld ?rest52
      case hy52 =>
        intro wx hSw
        clear hSw
        go_simp
        with_reducible rfl
      simp only [List.setIfInBounds_toArray, List.set_cons_zero, List.set_cons_succ]
      refine held_take (i := 16) (d := 203) (v := ?v53) rfl rfl (by kernel_rfl) (by kernel_rfl) (by kernel_rfl) (fun _ _ _ h => hP.out _ _ _ _ _ h) (Or.inl ⟨by kernel_rfl, ?hy53⟩) hHeld ?rest53
      case hy53 =>
        intro wx hSw
        have q0 := (hSw.cell (p := ⟨DT, 14, none⟩) lT).trans kT14.out
        clear hSw
        go_simp
        with_reducible rfl
      simp only [List.setIfInBounds_toArray, List.set_cons_zero, List.set_cons_succ]
      refine wpAnyH_ready (rs := [14]) (by kernel_rfl) (by simp) ?_
      refine AllReadyH.cons rfl (fun K hK => ?_) AllReadyH.nil
      go_simp
      go_wp2_with (go_at_call 13; refine (HCT.out _ (by exact hHeld)).mono ?_; rintro e wb ⟨rfl, b8⟩)
      refine hK.out _ _ (b8) (fun hHeld => ?_)
      clear hK K
      refine held_take (i := 17) (d := 204) (v := ?v54) rfl rfl (by kernel_rfl) (by kernel_rfl) (by kernel_rfl) (fun _ _ _ h => hP.out _ _ _ _ _ h) (Or.inl ⟨by kernel_rfl, ?hy54⟩) hHeld ?rest54
      case hy54 =>
        intro wx hSw
        clear hSw
        go_simp
        with_reducible rfl
      simp only [List.setIfInBounds_toArray, List.set_cons_zero, List.set_cons_succ]
      refine held_take (i := 18) (d := 205) (v := ?v55) rfl rfl (by kernel_rfl) (by kernel_rfl) (by kernel_rfl) (fun _ _ _ h => hP.out _ _ _ _ _ h) (Or.inl ⟨by kernel_rfl, ?hy55⟩) hHeld ?rest55
      case hy55 =>
        intro wx hSw
        clear hSw
        go_simp
        with_reducible rfl
      simp only [List.setIfInBounds_toArray, List.set_cons_zero, List.set_cons_succ]
      refine held_take (i := 19) (d := 206) (v := ?v56) rfl rfl (by kernel_rfl) (by kernel_rfl) (by kernel_rfl) (fun _ _ _ h => hP.out _ _ _ _ _ h) (Or.inl ⟨by kernel_rfl, ?hy56⟩) hHeld ?rest56
      case hy56 =>
        intro wx hSw
        clear hSw
        go_simp
        with_reducible rfl
      simp only [List.setIfInBounds_toArray, List.set_cons_zero, List.set_cons_succ]
      refine held_take (i := 20) (d := 207) (v := ?v57) rfl rfl (by kernel_rfl) (by kernel_rfl) (by kernel_rfl) (fun _ _ _ h => hP.out _ _ _ _ _ h) (Or.inl ⟨by kernel_rfl, ?hy57⟩) hHeld ?rest57
      case hy57 =>
        intro wx hSw
        clear hSw
        go_simp
        with_reducible rfl
      simp only [List.setIfInBounds_toArray, List.set_cons_zero, List.set_cons_succ]
      refine held_take (i := 21) (d := 208) (v := ?v58) rfl rfl (by kernel_rfl) (by kernel_rfl) (by kernel_rfl) (fun _ _ _ h => hP.out _ _ _ _ _ h) (Or.inl ⟨by kernel_rfl, ?hy58⟩) hHeld ?rest58
      case hy58 =>
        intro wx hSw
        have q0 := (hSw.cell (p := ⟨DT, 15, none⟩) lT).trans kT15.out
        clear hSw
        go_simp
        with_reducible rfl
      simp only [List.setIfInBounds_toArray, List.set_cons_zero, List.set_cons_succ]
      refine held_take (i := 22) (d := 209) (v := ?v59) rfl rfl (by kernel_rfl) (by kernel_rfl) (by kernel_rfl) (fun _ _ _ h => hP.out _ _ _ _ _ h) (Or.inl ⟨by kernel_rfl, ?hy59⟩) hHeld ?rest59
      case hy59 =>
        intro wx hSw
        clear hSw
        go_simp
        with_reducible rfl
      simp only [List.setIfInBounds_toArray, List.set_cons_zero, List.set_cons_succ]
      refine held_take (i := 23) (d := 210) (v := ?v60) rfl rfl (by kernel_rfl) (by kernel_rfl) (by kernel_rfl) (fun _ _ _ h => hP.out _ _ _ _ _ h) (Or.inl ⟨by kernel_rfl, ?hy60⟩) hHeld ?rest60
      case hy60 =>
        intro wx hSw
        have q0 := (hSw.cell (p := ⟨DT, 16, none⟩) lT).trans kT16.out
        clear hSw
        go_simp
        with_reducible rfl
      simp only [List.setIfInBounds_toArray, List.set_cons_zero, List.set_cons_succ]
      refine held_take (i := 24) (d := 211) (v := ?v61) rfl rfl (by kernel_rfl) (by kernel_rfl) (by kernel_rfl) (fun _ _ _ h => hP.out _ _ _ _ _ h) (Or.inl ⟨by kernel_rfl, ?hy61⟩) hHeld ?rest61
      case hy61 =>
        intro wx hSw
        clear hSw
        go_simp
        with_reducible rfl
      simp only [List.setIfInBounds_toArray, List.set_cons_zero, List.set_cons_succ]
      refine held_take (i := 25) (d := 212) (v := ?v62) rfl rfl (by kernel_rfl) (by kernel_rfl) (by kernel_rfl) (fun _ _ _ h => hP.out _ _ _ _ _ h) (Or.inl ⟨by kernel_rfl, ?hy62⟩) hHeld ?rest62
      case hy62 =>
        intro wx hSw
        clear hSw
        go_simp
        with_reducible rfl
      simp only [List.setIfInBounds_toArray, List.set_cons_zero, List.set_cons_succ]
      refine held_take (i := 26) (d := 213) (v := ?v63) rfl rfl (by kernel_rfl) (by kernel_rfl) (by kernel_rfl) (fun _ _ _ h => hP.out _ _ _ _ _ h) (Or.inl ⟨by kernel_rfl, ?hy63⟩) hHeld ?rest63
      case hy63 =>
        intro wx hSw
        have q0 := (hSw.cell (p := ⟨DT, 18, none⟩) lT).trans kT18.out
        clear hSw
        go_simp
        with_reducible rfl
      simp only [List.setIfInBounds_toArray, List.set_cons_zero, List.set_cons_succ]
      refine held_take (i := 27) (d := 214) (v := ?v64) rfl rfl (by kernel_rfl) (by kernel_rfl) (by kernel_rfl) (fun _ _ _ h => hP.out _ _ _ _ _ h) (Or.inl ⟨by kernel_rfl, ?hy64⟩) hHeld ?rest64
      case hy64 =>
        intro wx hSw
        clear hSw
        go_simp
        with_reducible rfl
      simp only [List.setIfInBounds_toArray, List.set_cons_zero, List.set_cons_succ]
      refine held_take (i := 28) (d := 215) (v := ?v65) rfl rfl (by kernel_rfl) (by kernel_rfl) (by kernel_rfl) (fun _ _ _ h => hP.out _ _ _ _ _ h) (Or.inl ⟨by kernel_rfl, ?hy65⟩) hHeld ?rest65
      case hy65 =>
        intro wx hSw
        clear hSw
        go_simp
        with_reducible rfl
      simp only [List.setIfInBounds_toArray, List.set_cons_zero, List.set_cons_succ]
      refine held_take (i := 29) (d := 216) (v := ?v66) rfl rfl (by kernel_rfl) (by kernel_rfl) (by kernel_rfl) (fun _ _ _ h => hP.out _ _ _ _ _ h) (Or.inl ⟨by kernel_rfl, ?hy66⟩) hHeld ?rest66
      case hy66 =>
        intro wx hSw
        clear hSw
        go_simp
        with_reducible rfl
      simp only [List.setIfInBounds_toArray, List.set_cons_zero, List.set_cons_succ]
      refine held_take (i := 30) (d := 217) (v := ?v67) rfl rfl (by kernel_rfl) (by kernel_rfl) (by kernel_rfl) (fun _ _ _ h => hP.out _ _ _ _ _ h) (Or.inl ⟨by kernel_rfl, ?hy67⟩) hHeld ?rest67
      case hy67 =>
        intro wx hSw
        clear hSw
        go_simp
        with_reducible rfl
      simp only [List.setIfInBounds_toArray, List.set_cons_zero, List.set_cons_succ]
      refine held_take (i := 31) (d := 218) (v := ?v68) rfl rfl (by kernel_rfl) (by kernel_rfl) (by kernel_rfl) (fun _ _ _ h => hP.out _ _ _ _ _ h) (Or.inl ⟨by kernel_rfl, ?hy68⟩) hHeld ?rest68
      case hy68 =>
        intro wx hSw
        clear hSw
        go_simp
        with_reducible rfl
      simp only [List.setIfInBounds_toArray, List.set_cons_zero, List.set_cons_succ]
      refine held_take (i := 32) (d := 219) (v := ?v69) rfl rfl (by kernel_rfl) (by kernel_rfl) (by kernel_rfl) (fun _ _ _ h => hP.out _ _ _ _ _ h) (Or.inl ⟨by kernel_rfl, ?hy69⟩) hHeld ?rest69
      case hy69 =>
        intro wx hSw
        have q0 := (hSw.cell (p := ⟨DT, 17, none⟩) lT).trans kT17.out
        clear hSw
        go_simp
        with_reducible rfl
      simp only [List.setIfInBounds_toArray, List.set_cons_zero, List.set_cons_succ]
      refine held_take (i := 33) (d := 220) (v := ?v70) rfl rfl (by kernel_rfl) (by kernel_rfl) (by kernel_rfl) (fun _ _ _ h => hP.out _ _ _ _ _ h) (Or.inl ⟨by kernel_rfl, ?hy70⟩) hHeld ?rest70
      case hy70 =>
        intro wx hSw
        clear hSw
        go_simp
        with_reducible rfl
      simp only [List.setIfInBounds_toArray, List.set_cons_zero, List.set_cons_succ]
      refine held_take (i := 34) (d := 221) (v := ?v71) rfl rfl (by kernel_rfl) (by kernel_rfl) (by kernel_rfl) (fun _ _ _ h => hP.out _ _ _ _ _ h) (Or.inl ⟨by kernel_rfl, ?hy71⟩) hHeld ?rest71
      case hy71 =>
        intro wx hSw
        clear hSw
        go_simp
        with_reducible rfl
      simp only [List.setIfInBounds_toArray, List.set_cons_zero, List.set_cons_succ]
      refine held_take (i := 35) (d := 222) (v := ?v72) rfl rfl (by kernel_rfl) (by kernel_rfl) (by kernel_rfl) (fun _ _ _ h => hP.out _ _ _ _ _ h) (Or.inl ⟨by kernel_rfl, ?hy72⟩) hHeld ?rest72
      case hy72 =>
        intro wx hSw
        have q0 := (hSw.cell (p := ⟨w.heap.size, 4, none⟩) lC).trans kC4.out
        clear hSw
        go_simp
        with_reducible rfl
      simp only [List.setIfInBounds_toArray, List.set_cons_zero, List.set_cons_succ]
      refine held_take (i := 36) (d := 223) (v := ?v73) rfl rfl (by kernel_rfl) (by kernel_rfl) (by kernel_rfl) (fun _ _ _ h => hP.out _ _ _ _ _ h) (Or.inl ⟨by kernel_rfl, ?hy73⟩) hHeld ?rest73
      case hy73 =>
        intro wx hSw
        clear hSw
        go_simp
        with_reducible rfl
      simp only [List.setIfInBounds_toArray, List.set_cons_zero, List.set_cons_succ]
      refine held_take (i := 37) (d := 224) (v := ?v74) rfl rfl (by kernel_rfl) (by kernel_rfl) (by kernel_rfl) (fun _ _ _ h => hP.out _ _ _ _ _ h) (Or.inl ⟨by kernel_rfl, ?hy74⟩) hHeld ?rest74
      case hy74 =>
        intro wx hSw
        clear hSw
        go_simp
        with_reducible rfl
      simp only [List.setIfInBounds_toArray, List.set_cons_zero, List.set_cons_succ]
      refine held_take (i := 38) (d := 225) (v := ?v75) rfl rfl (by kernel_rfl) (by kernel_rfl) (by kernel_rfl) (fun _ _ _ h => hP.out _ _ _ _ _ h) (Or.inl ⟨by kernel_rfl, ?hy75⟩) hHeld ?rest75
      case hy75 =>
        intro wx hSw
        clear hSw
        go_simp
        with_reducible rfl
      simp only [List.setIfInBounds_toArray, List.set_cons_zero, List.set_cons_succ]
      refine held_take (i := 39) (d := 226) (v := ?v76) rfl rfl (by kernel_rfl) (by kernel_rfl) (by kernel_rfl) (fun _ _ _ h => hP.out _ _ _ _ _ h) (Or.inl ⟨by kernel_rfl, ?hy76⟩) hHeld ?rest76
      case hy76 =>
        intro wx hSw
        clear hSw
        go_simp
        with_reducible rfl
      simp only [List.setIfInBounds_toArray, List.set_cons_zero, List.set_cons_succ]
      refine held_take (i := 40) (d := 227) (v := ?v77) rfl rfl (by kernel_rfl) (by kernel_rfl) (by kernel_rfl) (fun _ _ _ h => hP.out _ _ _ _ _ h) (Or.inl ⟨by kernel_rfl, ?hy77⟩) hHeld ?rest77
      case hy77 =>
        intro wx hSw
        have q0 := (hSw.cell (p := ⟨DT, 14, none⟩) lT).trans kT14.out
        clear hSw
        go_simp
        with_reducible rfl
      simp only [List.setIfInBounds_toArray, List.set_cons_zero, List.set_cons_succ]
      refine held_take (i := 41) (d := 228) (v := ?v78) rfl rfl (by kernel_rfl) (by kernel_rfl) (by kernel_rfl) (fun _ _ _ h => hP.out _ _ _ _ _ h) (Or.inl ⟨by kernel_rfl, ?hy78⟩) hHeld ?rest78
      case hy78 =>
        intro wx hSw
        clear hSw
        go_simp
        with_reducible rfl
      simp only [List.setIfInBounds_toArray, List.set_cons_zero, List.set_cons_succ]
      refine held_take (i := 42) (d := 229) (v := ?v79) rfl rfl (by kernel_rfl) (by kernel_rfl) (by kernel_rfl) (fun _ _ _ h => hP.out _ _ _ _ _ h) (Or.inl ⟨by kernel_rfl, ?hy79⟩) hHeld ?rest79
      case hy79 =>
        intro wx hSw
        have q0 := (hSw.cell (p := ⟨D, 14, none⟩) lS).trans kS14.out
        clear hSw
        go_simp
        with_reducible rfl
      simp only [List.setIfInBounds_toArray, List.set_cons_zero, List.set_cons_succ]
      refine held_take (i := 43) (d := 230) (v := ?v80) rfl rfl (by kernel_rfl) (by kernel_rfl) (by kernel_rfl) (fun _ _ _ h => hP.out _ _ _ _ _ h) (Or.inl ⟨by kernel_rfl, ?hy80⟩) hHeld ?rest80
      case hy80 =>
        intro wx hSw
        clear hSw
        go_simp
        with_reducible rfl
      simp only [List.setIfInBounds_toArray, List.set_cons_zero, List.set_cons_succ]
      refine wpAnyH_ready (rs := [44]) (by kernel_rfl) (by simp) ?_
      refine AllReadyH.cons rfl (fun K hK => ?_) AllReadyH.nil
      go_simp
      refine hK.out _ _ hHeld (fun hHeld => ?_)
      clear hK K
      refine wpAnyH_done (by kernel_rfl) ?_ _
      go_wp2_with fail
      go_meet
      exact ⟨rfl, hHeld⟩
  case rest =>
    obtain ⟨rfl, b9⟩ := hcut
    generalize hwc : wc = w8 at *
    have hSW := HSW.out.next b9
    have hST := HST.out.next b9
    replace xS := xS.next b9
    replace xT := xT.next b9
    replace xC := xC.next b9
    replace bb := bb.trans (b9.mono bb.size)
    clear hwc b9 HSW HST HCS HCT kS14 kS16 kT14 kT15 kT16 kT17 kT18 kC4 lS lT lC e1 e2 e3 wTF e5 e6
    have HSW : Hid _ := hSW
    have HST : Hid _ := hST
    clear hSW hST
    go_upto_block 5 with fail
    refine learns_in hk4 HK HBS HBT9 HSW HST xS xT xC bb (fun _ _ _ _ _ h => hP.out _ _ _ _ _ h) (fun _ _ _ _ _ _ _ _ _ _ _ _ _ _ _ _ _ _ _ _ _ _ _ _ _ _ _ _ _ _ _ _ _ _ _ _ _ _ _ _ _ _ _ _ _ _ _ _ _ _ _ _ _ _ _ _ _ _ _ w9 bx => ?_)
    replace xS := xS.next bx
    replace xT := xT.next bx
    replace xC := xC.next bx
    have hST := HST.out.next bx
    replace bb := bb.trans (bx.mono bb.size)
    clear HST HSW
    have HST : Hid _ := hST
    clear hST
    clear bx
    have cs18 := xS.cell 18 _ rfl
    have lS := xS.lt
    go_wp2_with (first | (refine wpList_load_box xT rfl 30 _ rfl rfl _ Tryd.underlying30 rfl (by kernel_rfl) ?_) | (refine wpList_store_box xS rfl 30 _ _ rfl rfl rfl rfl (by kernel_rfl) (by simp [Value.oneCell']) ?_))
    clear cs18 lS
    have xSn := xS.setRow #[.int .i64 c.cB, .int .i64 c.cBeam, .int .i64 c.cDepth, .int .i64 c.cWin, .int .i64 c.cQs, .int .i64 c.cQr, .int .i64 c.cBatch, .int .i64 c.cPass, .int .i64 c.cMsg, .int .i64 c.cSeqs, .bool X1, .int .i64 K1, .int .i64 R1, .int .i64 B1, .int .i64 N1, .int .i64 T1, .int .i64 F1, .slice ia E1 ic, .slice ja M1 jc]
    have xCn := xC.otherRow (D := D) (by have := HDC.out; omega) #[.int .i64 c.cB, .int .i64 c.cBeam, .int .i64 c.cDepth, .int .i64 c.cWin, .int .i64 c.cQs, .int .i64 c.cQr, .int .i64 c.cBatch, .int .i64 c.cPass, .int .i64 c.cMsg, .int .i64 c.cSeqs, .bool X1, .int .i64 K1, .int .i64 R1, .int .i64 B1, .int .i64 N1, .int .i64 T1, .int .i64 F1, .slice ia E1 ic, .slice ja M1 jc]
    have bbn := below_setRow bb (show w.heap.size ≤ D by have := HDC.out; omega) #[.int .i64 c.cB, .int .i64 c.cBeam, .int .i64 c.cDepth, .int .i64 c.cWin, .int .i64 c.cQs, .int .i64 c.cQr, .int .i64 c.cBatch, .int .i64 c.cPass, .int .i64 c.cMsg, .int .i64 c.cSeqs, .bool X1, .int .i64 K1, .int .i64 R1, .int .i64 B1, .int .i64 N1, .int .i64 T1, .int .i64 F1, .slice ia E1 ic, .slice ja M1 jc]
    have HSN := ((HST.out.old (D := D) (by omega) (fun g hg => setRow_other w9 D g #[.int .i64 c.cB, .int .i64 c.cBeam, .int .i64 c.cDepth, .int .i64 c.cWin, .int .i64 c.cQs, .int .i64 c.cQr, .int .i64 c.cBatch, .int .i64 c.cPass, .int .i64 c.cMsg, .int .i64 c.cSeqs, .bool X1, .int .i64 K1, .int .i64 R1, .int .i64 B1, .int .i64 N1, .int .i64 T1, .int .i64 F1, .slice ia E1 ic, .slice ja M1 jc] hg)).lower (base' := D + 1) (by omega)).more (show 200 * k + 200 ≤ 200 * (k + 1) by omega)
    exact ⟨HSN, xSn, xCn, bbn⟩

end Go.Proofs.YtmjidhnlofpliaaDoor
