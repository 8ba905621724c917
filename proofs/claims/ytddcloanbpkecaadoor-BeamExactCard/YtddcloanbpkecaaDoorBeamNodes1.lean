/-
  What the iterator of all children of a list tells, walked. (Written by tpl_beamnodes.py.)
-/
import Derived.Test.YtddcloanbpkecaaDoorBeamNodes
namespace Go.Proofs.YtddcloanbpkecaaDoor
open Go.RowKit Go.Shelf
attribute [local go_sem] Oper.semAt_some

set_option maxRecDepth 100000 in
set_option maxHeartbeats 8000000 in
theorem nodes1_in (n q lo Bl Bh Bd b off N cap : Nat) (l : List (Int × Int)) (p : Int) (hp : PileOk (N : Int) p l) (D : Nat) (hD : D ≤ 2) (i : Nat) (hi : i < N) (L : List Nd) (m : Nat) (hm : L.length = m) (hm16 : m ≤ 16) (la : Option Addr) (lc : Nat) (n₀ n₁ : Nat) (X : Nat → Prop)
    (hLn : ∀ n ∈ L, (∃ s : Nat, s < 4294967296 ∧ n.1 = (s : Int)) ∧ 0 ≤ n.2.1 ∧ n.2.1 ≤ 8192 * (i : Int) ∧ n.2.2.2.length = i)
    (J : List Rs → World → Prop) (hJ : ∀ s A B, J s A → Below n₁ A B → J s B)
    (hY : ∀ pre x W, J pre W → pre.length < m * 16 → YieldAt Fence.wide q Tryd.prog lo (rsEnc x) W fun e W' => e = .returned (.bool true) ∧ J (pre ++ [x]) W' ∧ Spared X W W')
    (hX1 : ∀ k, X k → k < n₁) (hX0 : ∀ k, X k → n₀ ≤ k) (hXh : ¬ X Bh) (hXd : ¬ X Bd)
    (W : World) (hn₁ : W.heap.size = n₁) (hn₀ : n₀ ≤ n₁)
    (xl : Box W Bl 38 #[.slice la m lc]) (xh : Box W Bh 57 #[.slice (some ⟨b, off, none⟩) N cap]) (xd : Box W Bd 3 #[.int .i64 ((D + 1 : Nat) : Int)])
    (hS : Segs n₀ W (.slice (some ⟨b, off, none⟩) N cap) (segsL N l)) (hLN : Nodes n₀ W (.slice la m lc) L) (h0 : J [] W) :
    CallsIn Fence.wide n Tryd.prog 66 #[.func (.yield lo) #[] #[], .pointer (some ⟨Bl, 0, none⟩), .pointer (some ⟨Bh, 0, none⟩), .pointer (some ⟨Bd, 0, none⟩)] W fun e W' => (∃ v, e = .returned v) ∧ ∃ xs, OwnRns n₁ W' (xs.map toRn) (kidsB N l D i L) ∧ J xs W' := by
  refine callsIn_wide.2 ((callsIn_wide (n := 9)).1 ?_)
  have hN2 : N < 65 := by have := hp.1.2.1; omega
  have HP : Hid (PileOk (N : Int) p l) := hp
  have HS : Hid (Segs n₀ W (.slice (some ⟨b, off, none⟩) N cap) (segsL N l)) := hS
  have HLN : Hid (Nodes n₀ W (.slice la m lc) L) := hLN
  have HML : Hid (L.length = m) := hm
  have HLn : Hid (∀ n ∈ L, (∃ s : Nat, s < 4294967296 ∧ n.1 = (s : Int)) ∧ 0 ≤ n.2.1 ∧ n.2.1 ≤ 8192 * (i : Int) ∧ n.2.2.2.length = i) := hLn
  have HJ : Hid (∀ s A B, J s A → Below n₁ A B → J s B) := hJ
  have HY : Hid (∀ pre x W, J pre W → pre.length < m * 16 → YieldAt Fence.wide q Tryd.prog lo (rsEnc x) W fun e W' => e = .returned (.bool true) ∧ J (pre ++ [x]) W' ∧ Spared X W W') := hY
  have HN1 : Hid (W.heap.size = n₁) := hn₁
  obtain ⟨D1, hD1⟩ : ∃ D1, D + 1 = D1 := ⟨_, rfl⟩
  rw [hD1] at xd
  have HD1 : Hid (D + 1 = D1) := hD1
  have hll := xl.lt
  have hlh := xh.lt
  have hld := xd.lt
  have cl := xl.cell 0 _ rfl
  have ch := xh.cell 0 _ rfl
  have cd := xd.cell 0 _ rfl
  have xy : Box (W.alloc (.cells #[.func (.yield lo) #[] #[]] 87)) n₁ 87 #[.func (.yield lo) #[] #[]] := by
    have := Box.new W 87 #[.func (.yield lo) #[] #[]]
    rw [HN1.out] at this
    exact this
  have b1 : Below W.heap.size W (W.alloc (.cells #[.func (.yield lo) #[] #[]] 87)) := (Below.refl W.heap.size W).alloc (Nat.le_refl _) _
  have hs1 : (W.alloc (.cells #[.func (.yield lo) #[] #[]] 87)).heap.size = n₁ + 1 := by simp [HN1.out]
  clear hp hS hLN hm hLn hJ hY hD1
  rw [HN1.out] at hll hlh hld
  refine callsIn_of_wp_marks Tryd.func66 rfl trivial ?_ rfl
  simp only [Tryd.ntmps66, List.size_toArray, List.length_cons, List.length_nil, Nat.reduceAdd, Nat.reduceSub, Array.replicate_succ, Array.replicate_zero, List.push_toArray, List.append_toArray, List.nil_append, List.cons_append]
  clear hn₁
  have cl' := (b1.cell (p := ⟨Bl, 0, none⟩) (by rw [HN1.out]; exact hll)).trans cl
  gi_wp2
  obtain ⟨W1, hW1⟩ : ∃ W1, W.alloc (.cells #[.func (.yield lo) #[] #[]] 87) = W1 := ⟨_, rfl⟩
  rw [hW1] at xy b1 hs1 ⊢
  rw [HN1.out] at b1 ⊢
  clear cl cl' ch cd hW1
  have xh1 := xh.below b1 hlh
  have xd1 := xd.below b1 hld
  have h01 := HJ.out _ _ _ h0 b1
  have HS1 : Hid (Segs n₀ W1 (.slice (some ⟨b, off, none⟩) N cap) (segsL N l)) := HS.out.below (b1.mono hn₀)
  have HL1 : Hid (Nodes n₀ W1 (.slice la m lc) L) := HLN.out.below (b1.mono hn₀)
  clear xh xd xl h0 HS HLN
  refine wpIn_loop (fun a' w' => ∃ u6 u7 u8 u9 u13 u14 u15 u16 u17 u18 u19 u20 u21 u22 u23 u24 u25 u26 u27 u28 u29 u30 u31 u32 u33 u34 u35 u36 u37 u38 u39 u40 u41 u42 u43 u44 u45 u46 u47, ∃ (k : Nat) (xs : List Rs) (Ds : List Nat), k ≤ m ∧ J xs w' ∧ OwnRns n₁ w' (xs.map toRn) (kidsB N l D i (L.take k)) ∧ Spared X W1 w' ∧ Marked (n₁ + 1) Ds w' ∧ a' = { tmps := #[.func (.yield lo) #[] #[], .pointer (some ⟨Bl, 0, none⟩), .pointer (some ⟨Bh, 0, none⟩), .pointer (some ⟨Bd, 0, none⟩), .pointer (some ⟨n₁, 0, none⟩), undef, u6, u7, u8, u9, .slice la m lc, .int .i64 (m : Int), .int .i64 (k : Int), u13, u14, u15, u16, u17, u18, u19, u20, u21, u22, u23, u24, u25, u26, u27, u28, u29, u30, u31, u32, u33, u34, u35, u36, u37, u38, u39, u40, u41, u42, u43, u44, u45, u46, u47], defers := Ds.map markOf }) (fun a' _ => m - (intOf (a'.tmps.getD 12 undef)).toNat) ?_ ?_
  · exact ⟨_, _, _, _, _, _, _, _, _, _, _, _, _, _, _, _, _, _, _, _, _, _, _, _, _, _, _, _, _, _, _, _, _, _, _, _, _, _, _, 0, [], [], Nat.zero_le _, h01, by rw [List.take_zero]; exact ownRns_nil _ _, Spared.refl _ _, ⟨List.nodup_nil, fun D hD => by simp at hD⟩, rfl⟩
  · rintro a' wr ⟨u6, u7, u8, u9, u13, u14, u15, u16, u17, u18, u19, u20, u21, u22, u23, u24, u25, u26, u27, u28, u29, u30, u31, u32, u33, u34, u35, u36, u37, u38, u39, u40, u41, u42, u43, u44, u45, u46, u47, k, xs, Ds, hk, hJs, hO, hSp, hMk, rfl⟩
    have hsz : n₁ + 1 ≤ wr.heap.size := by have := hSp.size; omega
    have hXn : ∀ j, n₁ ≤ j → ¬ X j := fun j hj hx => by have := hX1 j hx; omega
    have yy : Box wr n₁ 87 #[.func (.yield lo) #[] #[]] := hSp.heap (hXn _ (Nat.le_refl _)) xy
    have yh : Box wr Bh 57 #[.slice (some ⟨b, off, none⟩) N cap] := hSp.heap hXh xh1
    have yd : Box wr Bd 3 #[.int .i64 (D1 : Int)] := hSp.heap hXd xd1
    have bn : Below n₀ W1 wr := hSp.below (fun j hj hx => by have := hX0 j hx; omega) (by omega)
    by_cases hlt : k < m
    · obtain ⟨nd, hn⟩ : ∃ nd, L[k]? = some nd := ⟨L[k]'(by rw [HML.out]; exact hlt), by simp⟩
      obtain ⟨⟨s, hs, es⟩, hM0, hM1, hpl⟩ := HLn.out nd (List.mem_of_getElem? hn)
      obtain ⟨ns, M, nsc, ps⟩ := nd
      have es' : ns = (s : Int) := es
      subst es'
      have hpl' : ps.length = i := hpl
      have HTK : Hid (L.take (k + 1) = L.take k ++ [((s : Int), M, nsc, ps)]) := by
        show L.take (k + 1) = L.take k ++ [((s : Int), M, nsc, ps)]
        rw [List.take_add_one, hn]; rfl
      have HPL : Hid (ps.length = i) := hpl'
      have hM0' : 0 ≤ M := hM0
      have hM1' : M ≤ 8192 * (i : Int) := hM1
      obtain ⟨lb, lof, rfl, hlb, hcl⟩ := nodes_at (HL1.out.below bn) HML.out (by omega)
      obtain ⟨pv, hpv, c0, c1, c2, c3⟩ := hcl k _ hn
      obtain ⟨pa, pc, e8⟩ := hpv.shape
      have e8' : pv = .slice pa i pc := by rw [e8]; show Value.slice pa ps.length pc = _; rw [hpl']
      subst e8'
      have HPV : Hid (Holds .i64 n₀ wr (.slice pa i pc) ps) := hpv
      have ch := (yh.alloc (.cells #[.int .u32 (s : Int), .int .i64 M, .int .i64 nsc, .slice pa i pc] 32)).cell 0 _ rfl
      have d0 : decide ((k : Int) < (m : Int)) = true := decide_eq_true (by omega)
      have d0' : decide (k < m) = true := decide_eq_true hlt
      have f1 : Fence.wide.fn 64 := trivial
      have hn1 : (1 : Nat) ≤ 9 := by omega
      have HN : Hid (L[k]? = some ((s : Int), M, nsc, ps)) := hn
      clear hcl hpv e8 hpl hpl' es hM0 hM1 hn
      gi_wp2_with (gi_at_call 64; refine (children_in (9 - 1) _ ⟨_, _, _, rfl⟩ i s M _).mono ?_; rintro e w2 ⟨rfl, rfl⟩)
      have yn : Box (((wr.alloc (.cells #[.int .u32 (s : Int), .int .i64 M, .int .i64 nsc, .slice pa i pc] 32)).alloc (.cells #[.slice (some ⟨b, off, none⟩) N cap] 57)).alloc (.cells #[.int .i64 (i : Int), .int .u32 (s : Int), .int .i64 M] 61)) wr.heap.size 32 #[.int .u32 (s : Int), .int .i64 M, .int .i64 nsc, .slice pa i pc] := ((Box.new wr 32 _).alloc _).alloc _
      have yq : Box (((wr.alloc (.cells #[.int .u32 (s : Int), .int .i64 M, .int .i64 nsc, .slice pa i pc] 32)).alloc (.cells #[.slice (some ⟨b, off, none⟩) N cap] 57)).alloc (.cells #[.int .i64 (i : Int), .int .u32 (s : Int), .int .i64 M] 61)) (wr.heap.size + 1) 57 #[.slice (some ⟨b, off, none⟩) N cap] := by
        have := (Box.new (wr.alloc (.cells #[.int .u32 (s : Int), .int .i64 M, .int .i64 nsc, .slice pa i pc] 32)) 57 #[.slice (some ⟨b, off, none⟩) N cap]).alloc (.cells #[.int .i64 (i : Int), .int .u32 (s : Int), .int .i64 M] 61)
        simpa using this
      have yp : Box (((wr.alloc (.cells #[.int .u32 (s : Int), .int .i64 M, .int .i64 nsc, .slice pa i pc] 32)).alloc (.cells #[.slice (some ⟨b, off, none⟩) N cap] 57)).alloc (.cells #[.int .i64 (i : Int), .int .u32 (s : Int), .int .i64 M] 61)) (wr.heap.size + 1 + 1) 61 #[.int .i64 (i : Int), .int .u32 (s : Int), .int .i64 M] := by
        have := Box.new ((wr.alloc (.cells #[.int .u32 (s : Int), .int .i64 M, .int .i64 nsc, .slice pa i pc] 32)).alloc (.cells #[.slice (some ⟨b, off, none⟩) N cap] 57)) 61 #[.int .i64 (i : Int), .int .u32 (s : Int), .int .i64 M]
        simpa using this
      have bS : Below wr.heap.size wr (((wr.alloc (.cells #[.int .u32 (s : Int), .int .i64 M, .int .i64 nsc, .slice pa i pc] 32)).alloc (.cells #[.slice (some ⟨b, off, none⟩) N cap] 57)).alloc (.cells #[.int .i64 (i : Int), .int .u32 (s : Int), .int .i64 M] 61)) := (((Below.refl wr.heap.size wr).alloc (Nat.le_refl _) _).alloc (by simp) _).alloc (by simp; omega) _
      have hsS : (((wr.alloc (.cells #[.int .u32 (s : Int), .int .i64 M, .int .i64 nsc, .slice pa i pc] 32)).alloc (.cells #[.slice (some ⟨b, off, none⟩) N cap] 57)).alloc (.cells #[.int .i64 (i : Int), .int .u32 (s : Int), .int .i64 M] 61)).heap.size = wr.heap.size + 3 := by simp
      obtain ⟨Ws, hWs⟩ : ∃ Ws, ((wr.alloc (.cells #[.int .u32 (s : Int), .int .i64 M, .int .i64 nsc, .slice pa i pc] 32)).alloc (.cells #[.slice (some ⟨b, off, none⟩) N cap] 57)).alloc (.cells #[.int .i64 (i : Int), .int .u32 (s : Int), .int .i64 M] 61) = Ws := ⟨_, rfl⟩
      rw [hWs] at yn yq yp bS hsS ⊢
      clear hWs ch c0 c1 c2 c3 d0 d0'
      have HJS := HJ.out _ _ _ hJs (bS.mono (by omega))
      have HOS := hO.below bS (Nat.le_refl _)
      have zy := yy.next bS
      have zh := yh.next bS
      have zd := yd.next bS
      have HMk : Hid (Marked (n₁ + 1) Ds Ws) := hMk.next fun E hE => bS.block E (hMk.lt E hE)
      have HSpS : Hid (Spared X W1 Ws) := hSp.trans (Spared.of_below bS)
      have bnS : Below n₀ W1 Ws := bn.trans (bS.mono (by omega))
      have hkl : (kidsB N l D i (L.take k)).length = k * 16 := by
        unfold kidsB
        rw [kidsOf_len, List.length_take, HML.out, Nat.min_eq_left (by omega)]
      have HKL : Hid ((kidsB N l D i (L.take k)).length = k * 16) := hkl
      clear hkl hJs hO hSp hMk yy yh yd bn
      refine wpIn_rangeFunc_ownH rfl hn1 (gf := 87) (lb := #[.pointer (some ⟨wr.heap.size + 1, 0, none⟩), .pointer (some ⟨wr.heap.size + 1 + 1, 0, none⟩)]) rfl trivial (enters_of Tryd.func87 (by kernel_rfl) rfl)
        (children_stops (9 - 1) (by omega) (wr.heap.size + 1) (wr.heap.size + 1 + 1) b off N cap l p HP.out i s hi hs M hM0' (by omega) n₀ Ws (by omega) yq yp (HS1.out.below bnS))
        KpB.trans (KpB.turn (by omega) (by omega) (by omega)) (Below.refl _ _) (fun _ => rfl)
        (fun pre W' => (∃ xs' : List Rs, J xs' W' ∧ OwnRns n₁ W' (xs'.map toRn) (kidsB N l D i (L.take k) ++ pre.map fun j : Nat => kidB N l D i ((s : Int), M, nsc, ps) (j : Int))) ∧ Spared X Ws W')
        (fun _ _ _ => False)
        (fun pre A C row hs hg hr => ⟨by
            obtain ⟨⟨xs', h1, h2⟩, h3⟩ := hs
            refine ⟨xs', HJ.out _ _ _ h1 ⟨hg.os, hg.tape, hg.output, hg.size, fun j hj => hg.block j (by have := h3.size; omega) (fun e => by have := (hr j e.symm).1; omega)⟩, ownRns_own h2 hg (fun g e => (hr g e).2)⟩, ownFrom_spared (Nat.le_refl _) pre A C row hs.2 hg hr⟩)
        (fun _ _ _ _ _ hs _ _ => hs)
        ⟨⟨xs, HJS, by rw [List.map_nil, List.append_nil]; exact HOS⟩, Spared.refl _ _⟩
        (fun j a' W' => ∃ Bc, n₁ ≤ Bc ∧ Box W' Bc 61 #[.int .i64 ((i + 1 : Nat) : Int), .int .u32 ((stepN s j : Nat) : Int), .int .i64 (M + ((costN (stepN s j) (ofL N l i) : Nat) : Int))] ∧ a' = { tmps := #[.func (.yield lo) #[] #[], .pointer (some ⟨Bl, 0, none⟩), .pointer (some ⟨Bh, 0, none⟩), .pointer (some ⟨Bd, 0, none⟩), .pointer (some ⟨n₁, 0, none⟩), undef, .pointer (some ⟨wr.heap.size, 0, none⟩), .int .i64 (j : Int), .pointer (some ⟨Bc, 0, none⟩), u9, .slice (some ⟨lb, lof, none⟩) m lc, .int .i64 (m : Int), .int .i64 (k : Int), .bool true, .pointer (some ⟨lb, lof + k * 4, none⟩), .agg #[.int .u32 (s : Int), .int .i64 M, .int .i64 nsc, .slice pa i pc], .slice (some ⟨b, off, none⟩) N cap, .pointer (some ⟨wr.heap.size, 3, none⟩), .slice pa i pc, .int .i64 (i : Int), .pointer (some ⟨wr.heap.size, 0, none⟩), .int .u32 (s : Int), .pointer (some ⟨wr.heap.size, 1, none⟩), .int .i64 M, .agg #[.int .i64 (i : Int), .int .u32 (s : Int), .int .i64 M], .func (.func 87) #[] #[.pointer (some ⟨wr.heap.size + 1, 0, none⟩), .pointer (some ⟨wr.heap.size + 1 + 1, 0, none⟩)], .int .i64 (j : Int), kidPt N l i s M j, u28, u29, u30, u31, u32, u33, u34, u35, u36, u37, u38, u39, u40, u41, u42, u43, u44, u45, u46, u47], defers := [] })
        ?hAx ?assign ?body ?done ?stop
      case hAx =>
        rintro j a' u Y Z row ⟨Bc, h1, h2, h3⟩ hg hr
        exact ⟨Bc, h1, box_own Bc _ (fun _ : Unit => _) u Y Z row h2 hg (fun r e => (hr r e).2), h3⟩
      case assign =>
        rintro lp pre j W' K ⟨⟨xs', h1, h2⟩, h3⟩ hK
        have hsW := h3.size
        have bA := (Below.refl W'.heap.size W').alloc (Nat.le_refl _) (.cells #[.int .i64 ((i + 1 : Nat) : Int), .int .u32 ((stepN s j : Nat) : Int), .int .i64 (M + ((costN (stepN s j) (ofL N l i) : Nat) : Int))] 61)
        simp only [kidEnc, kidPt]
        gi_wp2
        exact hK _ _ ((KeepsOthers.alloc _ _).from _) (KpB.of_below bA (by omega) (by omega) (by omega)) ⟨⟨xs', HJ.out _ _ _ h1 (bA.mono (by omega)), h2.below bA (Nat.le_refl _)⟩, h3.trans (Spared.of_below bA)⟩ ⟨W'.heap.size, by omega, Box.new W' _ _, rfl⟩
      case body =>
        rintro lp pre j a' W' hlo ⟨r, hr⟩ ⟨⟨xs', h1, h2⟩, h3⟩ ⟨Bc, hBc, yx, rfl⟩ hlt16
        have hsW := h3.size
        have vn : Box W' wr.heap.size 32 #[.int .u32 (s : Int), .int .i64 M, .int .i64 nsc, .slice pa i pc] := h3.heap (hXn _ (by omega)) yn
        have vy : Box W' n₁ 87 #[.func (.yield lo) #[] #[]] := h3.heap (hXn _ (Nat.le_refl _)) zy
        have vh : Box W' Bh 57 #[.slice (some ⟨b, off, none⟩) N cap] := h3.heap hXh zh
        have vd : Box W' Bd 3 #[.int .i64 (D1 : Int)] := h3.heap hXd zd
        have bnW : Below n₀ W1 W' := bnS.trans (h3.below (fun j hj hx => by have := hX0 j hx; omega) (by omega))
        have cn3 := vn.cell 3 _ rfl
        have bA : Below W'.heap.size W' ((W'.alloc (.cells #[.int .i64 (j : Int)] 3)).alloc (.cells #[.slice pa i pc, .slice (some ⟨W'.heap.size, 0, none⟩) 1 1] 25)) := ((Below.refl W'.heap.size W').alloc (Nat.le_refl _) _).alloc (by simp) _
        have xg : Box ((W'.alloc (.cells #[.int .i64 (j : Int)] 3)).alloc (.cells #[.slice pa i pc, .slice (some ⟨W'.heap.size, 0, none⟩) 1 1] 25)) (W'.heap.size + 1) 25 #[.slice pa i pc, .slice (some ⟨W'.heap.size, 0, none⟩) 1 1] := by
          have := Box.new (W'.alloc (.cells #[.int .i64 (j : Int)] 3)) 25 #[.slice pa i pc, .slice (some ⟨W'.heap.size, 0, none⟩) 1 1]
          simpa using this
        have xo : Box ((W'.alloc (.cells #[.int .i64 (j : Int)] 3)).alloc (.cells #[.slice pa i pc, .slice (some ⟨W'.heap.size, 0, none⟩) 1 1] 25)) W'.heap.size 3 #[.int .i64 (j : Int)] := (Box.new W' 3 _).alloc _
        have hsA : ((W'.alloc (.cells #[.int .i64 (j : Int)] 3)).alloc (.cells #[.slice pa i pc, .slice (some ⟨W'.heap.size, 0, none⟩) 1 1] 25)).heap.size = W'.heap.size + 2 := by simp
        have hps : Holds .i64 n₀ W' (.slice pa i pc) ps := HPV.out.below ((bS.mono (by omega)).trans (h3.below (fun j hj hx => by have := hX0 j hx; omega) (by omega)))
        have HCC : Hid (∀ WA : World, WA = ((W'.alloc (.cells #[.int .i64 (j : Int)] 3)).alloc (.cells #[.slice pa i pc, .slice (some ⟨W'.heap.size, 0, none⟩) 1 1] 25)) → CallsIn Fence.wide (9 - 1 - 1 - 1) Tryd.prog 67 #[.slice (some ⟨W'.heap.size + 1, 0, none⟩) 2 2] WA fun e V => ∃ ra rc, e = .returned (.slice ra (i + 1) rc) ∧ V.ownsRow WA.heap.size 3 1 (.slice ra (i + 1) rc) (i + 1) ((ps ++ [(j : Int)]).map (Value.int .i64)) ∧ Below WA.heap.size WA V) := by
          rintro WA rfl
          refine callsIn_wide.2 ?_
          have := concatInts_ok (W'.heap.size + 1) pa (some ⟨W'.heap.size, 0, none⟩) pc 1 ps [(j : Int)] (by have := HPL.out; omega) (by simp) (by simp) ((W'.alloc (.cells #[.int .i64 (j : Int)] 3)).alloc (.cells #[.slice pa i pc, .slice (some ⟨W'.heap.size, 0, none⟩) 1 1] 25)) (by rw [HPL.out]; exact xg.cell 0 _ rfl) (xg.cell 1 _ rfl) (by rw [HPL.out]; exact (hps.below (bA.mono (by omega))).mono (by rw [hsA]; omega)) (.inr ⟨W'.heap.size, 0, 1, rfl, by rw [hsA]; omega, fun t ht => by
            have ht0 : t = 0 := by simpa using ht
            subst ht0
            exact xo.cell 0 _ rfl⟩)
          refine this.mono ?_
          rintro e V ⟨rr, rfl, ho, hb⟩
          rw [HPL.out] at ho
          obtain ⟨ra, rc, rfl⟩ := rowN_shape ho
          exact ⟨ra, rc, rfl, ho, hb⟩
        have HC := CallsIn.inRound lp (HCC.out _ rfl)
        have f2 : Fence.wide.fn 67 := trivial
        have h12 : 1 ≤ 9 - 1 - 1 := by omega
        clear HCC hps
        gi_wp2_with (gi_at_call 67; refine HC.mono ?_; rintro e w2 ⟨ra, rc, rfl, o2, b2⟩)
        have bA2 : Below W'.heap.size W' w2 := bA.trans (b2.mono (by omega))
        have hst := stepN_lt s j
        have hcb := costB_le HP.out i (stepN s j)
        have HKE := kidB_eq (N := N) (l := l) (D := D) (i := i) (s := s) (k := j) (n := ((s : Int), M, nsc, ps)) rfl HPL.out
        obtain ⟨ct, hct⟩ : ∃ ct, costN (stepN s j) (ofL N l i) = ct := ⟨_, rfl⟩
        rw [hct] at HKE hcb yx
        obtain ⟨tt, htt⟩ : ∃ tt, stepN s j = tt := ⟨_, rfl⟩
        rw [htt] at HKE hst yx
        obtain ⟨I, hI⟩ : ∃ I, i + 1 = I := ⟨_, rfl⟩
        rw [hI] at HKE yx o2
        rw [hI]
        obtain ⟨V, hV⟩ : ∃ V, lst stB (coB N l) N D (tt : Int) I (M + (ct : Int)) = V := ⟨_, rfl⟩
        rw [hV] at HKE
        have HSC := (callsIn_wide (n := 9 - 1 - 1 - 1)).2 (score_ok b off N cap l p HP.out D hD I tt (by omega) hst (M + (ct : Int)) (by omega) (by omega) w2.drew ((HS1.out.below (bnW.trans (bA2.mono (by omega)))).mono (by have := bA2.size; show n₀ ≤ w2.heap.size; omega)))
        rw [hV, HD1.out] at HSC
        have HSC' := CallsIn.inRound lp HSC
        have hSS : Box w2.drew n₁ 87 #[.func (.yield lo) #[] #[]] ∧ Box w2.drew Bc 61 #[.int .i64 (I : Int), .int .u32 (tt : Int), .int .i64 (M + (ct : Int))] ∧ Box w2.drew Bh 57 #[.slice (some ⟨b, off, none⟩) N cap] ∧ Box w2.drew Bd 3 #[.int .i64 (D1 : Int)] := ⟨vy.next bA2.drew, yx.next bA2.drew, vh.next bA2.drew, vd.next bA2.drew⟩
        refine wpIn_region_held (fun u => Box u n₁ 87 #[.func (.yield lo) #[] #[]] ∧ Box u Bc 61 #[.int .i64 (I : Int), .int .u32 (tt : Int), .int .i64 (M + (ct : Int))] ∧ Box u Bh 57 #[.slice (some ⟨b, off, none⟩) N cap] ∧ Box u Bd 3 #[.int .i64 (D1 : Int)]) (by kernel_rfl) ?_
        change wpAnyHeld _ _ _ _ _ _ _ _ _ _ (World.drew _)
        refine wpAnyHeld_take (i := 0) (v := .func (.yield lo) #[] #[]) (plainOps_of (by kernel_rfl)) rfl (by kernel_rfl) (by kernel_rfl) (by kernel_rfl) (fun _ _ _ h => h) ⟨.inl ⟨by rfl, fun u hu => ?_⟩, fun _ => rfl⟩ hSS ?_
        · have g := hu.1.cell 0 _ rfl; go_simp
        refine wpAnyHeld_take (i := 1) (v := .pointer (some ⟨Bc, 1, none⟩)) (plainOps_of (by kernel_rfl)) rfl (by kernel_rfl) (by kernel_rfl) (by kernel_rfl) (fun _ _ _ h => h) ⟨.inl ⟨by rfl, fun u hu => ?_⟩, fun _ => rfl⟩ hSS ?_
        · go_simp
        refine wpAnyHeld_take (i := 2) (v := .int .u32 (tt : Int)) (plainOps_of (by kernel_rfl)) rfl (by kernel_rfl) (by kernel_rfl) (by kernel_rfl) (fun _ _ _ h => h) ⟨.inl ⟨by rfl, fun u hu => ?_⟩, fun _ => rfl⟩ hSS ?_
        · have g := hu.2.1.cell 1 _ rfl; go_simp
        refine wpAnyHeld_take (i := 3) (v := .pointer (some ⟨Bc, 2, none⟩)) (plainOps_of (by kernel_rfl)) rfl (by kernel_rfl) (by kernel_rfl) (by kernel_rfl) (fun _ _ _ h => h) ⟨.inl ⟨by rfl, fun u hu => ?_⟩, fun _ => rfl⟩ hSS ?_
        · go_simp
        refine wpAnyHeld_take (i := 4) (v := .int .i64 (M + (ct : Int))) (plainOps_of (by kernel_rfl)) rfl (by kernel_rfl) (by kernel_rfl) (by kernel_rfl) (fun _ _ _ h => h) ⟨.inl ⟨by rfl, fun u hu => ?_⟩, fun _ => rfl⟩ hSS ?_
        · have g := hu.2.1.cell 2 _ rfl; go_simp
        refine wpAnyHeld_take (i := 5) (v := .slice (some ⟨b, off, none⟩) N cap) (plainOps_of (by kernel_rfl)) rfl (by kernel_rfl) (by kernel_rfl) (by kernel_rfl) (fun _ _ _ h => h) ⟨.inl ⟨by rfl, fun u hu => ?_⟩, fun _ => rfl⟩ hSS ?_
        · have g := hu.2.2.1.cell 0 _ rfl; go_simp
        refine wpAnyHeld_take (i := 6) (v := .agg #[.int .i64 (I : Int), .int .u32 (tt : Int), .int .i64 (M + (ct : Int))]) (plainOps_of (by kernel_rfl)) rfl (by kernel_rfl) (by kernel_rfl) (by kernel_rfl) (fun _ _ _ h => h) ⟨.inl ⟨by rfl, fun u hu => ?_⟩, fun _ => rfl⟩ hSS ?_
        · have g := hu.2.1.cell 0 _ rfl; have g1 := hu.2.1.cell 1 _ rfl; have g2 := hu.2.1.cell 2 _ rfl; go_simp
        refine wpAnyHeld_take (i := 7) (v := .int .i64 (D1 : Int)) (plainOps_of (by kernel_rfl)) rfl (by kernel_rfl) (by kernel_rfl) (by kernel_rfl) (fun _ _ _ h => h) ⟨.inl ⟨by rfl, fun u hu => ?_⟩, fun _ => rfl⟩ hSS ?_
        · have g := hu.2.2.2.cell 0 _ rfl; go_simp
        refine wpAnyHeld_take (i := 9) (v := .slice ra I rc) (plainOps_of (by kernel_rfl)) rfl (by kernel_rfl) (by kernel_rfl) (by kernel_rfl) (fun _ _ _ h => h) ⟨.inl ⟨by rfl, fun u hu => ?_⟩, fun _ => rfl⟩ hSS ?_
        · go_simp
        refine wpAnyHeld_one (i := 8) (by kernel_rfl) rfl (by rfl) fun K hK => ?_
        have f3 : Fence.wide.fn 28 := trivial
        go_simp
        refine HSC'.mono ?_
        rintro e w3 ⟨rfl, b3⟩
        have b3' : Below W'.heap.size W' w3 := bA2.drew.trans (b3.mono (by have := bA2.size; show W'.heap.size ≤ w2.heap.size; omega))
        replace hSS : Box w3 n₁ 87 #[.func (.yield lo) #[] #[]] ∧ Box w3 Bc 61 #[.int .i64 (I : Int), .int .u32 (tt : Int), .int .i64 (M + (ct : Int))] ∧ Box w3 Bh 57 #[.slice (some ⟨b, off, none⟩) N cap] ∧ Box w3 Bd 3 #[.int .i64 (D1 : Int)] := ⟨hSS.1.next b3, hSS.2.1.next b3, hSS.2.2.1.next b3, hSS.2.2.2.next b3⟩
        refine hK _ _ hSS ?_
        clear hK
        obtain ⟨fn, tmps, assign, body, hy, hR⟩ := HY.out xs' ((tt : Int), M + (ct : Int), V, ra, I, rc) w3 (HJ.out _ _ _ h1 (b3'.mono (by omega))) (by
          have e1 := h2.1
          rw [List.length_map, List.length_append, HKL.out, List.length_map] at e1
          omega)
        simp only [rsEnc] at hy
        refine wpAnyHeld_take (i := 10) (v := .agg #[.int .u32 (tt : Int), .int .i64 (M + (ct : Int)), .int .i64 V, .slice ra I rc]) (plainOps_of (by kernel_rfl)) rfl (by kernel_rfl) (by kernel_rfl) (by kernel_rfl) (fun _ _ _ h => h) ⟨.inl ⟨by rfl, fun u hu => ?_⟩, fun _ => rfl⟩ hSS ?_
        · go_simp
        refine wpAnyHeld_one (i := 11) (by kernel_rfl) rfl (by rfl) fun K hK => ?_
        go_simp
        try rw [hy]
        try go_simp
        refine (round_wide hR).mono ?_
        rintro e W4 ⟨rfl, hJ4, hS4⟩
        have b3s := b3'.size
        replace hSS : Box W4 n₁ 87 #[.func (.yield lo) #[] #[]] ∧ Box W4 Bc 61 #[.int .i64 (I : Int), .int .u32 (tt : Int), .int .i64 (M + (ct : Int))] ∧ Box W4 Bh 57 #[.slice (some ⟨b, off, none⟩) N cap] ∧ Box W4 Bd 3 #[.int .i64 (D1 : Int)] := ⟨hS4.heap (hXn _ (Nat.le_refl _)) hSS.1, hS4.heap (hXn _ hBc) hSS.2.1, hS4.heap hXh hSS.2.2.1, hS4.heap hXd hSS.2.2.2⟩
        refine hK _ _ hSS ?_
        clear hK
        refine wpAnyHeld_take (i := 12) (v := .bool false) (plainOps_of (by kernel_rfl)) rfl (by kernel_rfl) (by kernel_rfl) (by kernel_rfl) (fun _ _ _ h => h) ⟨.inl ⟨by rfl, fun u hu => ?_⟩, fun _ => rfl⟩ hSS ?_
        · go_simp
        refine wpAnyHeld_done (by kernel_rfl) ?_ _
        have o3 := rowN_below o2 (show Below w2.heap.size w2 w3 from (Below.refl w2.heap.size w2).drew.trans b3) (Nat.le_refl _)
        have h2' := (h2.below b3' (Nat.le_refl _)).snoc (x := toRn ((tt : Int), M + (ct : Int), V, ra, I, rc)) (y := kidB N l D i ((s : Int), M, nsc, ps) (j : Int)) (by rw [HKE]; rfl) (by rw [HKE]; rfl) (by rw [HKE]; rfl) (by
          rw [HKE]
          show World.ownsRow _ _ _ _ _ (ps ++ [(j : Int)]).length _
          rw [show (ps ++ [(j : Int)]).length = I by rw [List.length_append, HPL.out, ← hI]; rfl]
          exact o3) (by omega) (fun u hu g hg => by have := h2.lt u hu g hg; omega)
        have h2'' : OwnRns n₁ W4 ((xs' ++ [((tt : Int), M + (ct : Int), V, ra, I, rc)]).map toRn) (kidsB N l D i (L.take k) ++ (pre ++ [j]).map fun j : Nat => kidB N l D i ((s : Int), M, nsc, ps) (j : Int)) := by
          rw [List.map_append, List.map_append, ← List.append_assoc]
          exact ownRns_spared h2' hS4 hXn
        have hSW : Spared X W' W4 := (Spared.of_below b3').trans hS4
        gi_wp2
        exact ⟨hSW.keeps (fun j hj => hXn j (by omega)), ⟨hSW.below (fun j hj hx => by have := hX0 j hx; omega) (by omega), hSW.block _ (by omega) (hXn _ (by omega)), hSW.block _ (by omega) (hXn _ (by omega))⟩, ⟨_, hJ4, h2''⟩, h3.trans hSW⟩
      case done =>
        rintro E ys W' hE rfl ⟨⟨xs', h1, h2⟩, h3⟩ hK
        have hrg : (List.range 16).map (fun j : Nat => kidB N l D i ((s : Int), M, nsc, ps) (j : Int)) = nib16.map (kidB N l D i ((s : Int), M, nsc, ps)) := by unfold nib16; rw [List.map_map]; rfl
        rw [hrg, ← kidsB_snoc, ← HTK.out] at h2
        have hMk' : Marked (n₁ + 1) (E :: Ds) W' := (HMk.out.next fun F hF => h3.block F (HMk.out.lt F hF) (hXn F (by have := (HMk.out.2 F hF).1; omega))).cons hK (by omega) (fun hF => by have := HMk.out.lt E hF; omega)
        have hSp' := HSpS.out.trans h3
        clear hrg
        gi_wp2
        exact ⟨⟨_, _, _, _, _, _, _, _, _, _, _, _, _, _, _, _, _, _, _, _, _, _, _, _, _, _, _, _, _, _, _, _, _, _, _, _, _, _, _, k + 1, xs', E :: Ds, hlt, h1, h2, hSp', hMk', rfl⟩, by simp [intOf]; omega⟩
      case stop =>
        rintro E c pre W' _ _ h _
        exact h.elim
    · obtain rfl : k = m := by omega
      rw [List.take_of_length_le (by rw [HML.out]; exact Nat.le_refl _)] at hO
      gi_wp2
      exact leaves_marks (n₁ := n₁ + 1) (fun W => results_none rfl _ _ _) (fun W' => OwnRns n₁ W' (xs.map toRn) (kidsB N l D i L) ∧ J xs W') (fun W' E o h hn hE => ⟨ownRns_own h.1 (grownBy_putObj' W' E o) (fun g e => by cases e; exact ⟨_, hE, rfl⟩), HJ.out _ _ _ h.2 (below_putObj o (by omega))⟩) (fun W' h => ⟨⟨_, rfl⟩, xs, h⟩) Ds wr hMk ⟨hO, hJs⟩

end Go.Proofs.YtddcloanbpkecaaDoor
