/-
  What the page's child answers: a node's child.
-/
import Derived.Test.YtabdnhkdoeibnaaGreatDoorM19
import Derived.BigRegion
import Derived.Deep.RegionWith
import Derived.RegionTactic
set_option maxRecDepth 100000
set_option maxHeartbeats 1000000
namespace Go.Proofs.YtabdnhkdoeibnaaGreatDoor
open Go.RowKit
theorem keep4 {W:World} {D B o:Nat} (h:B≠D) (x y z u:Value) {v:Value} (hc:W.cell? ⟨B,o,none⟩=some v):((((W.setCell ⟨D,0,none⟩ x).setCell ⟨D,1,none⟩ y).setCell ⟨D,2,none⟩ z).setCell ⟨D,3,none⟩ u).cell? ⟨B,o,none⟩=some v:=by
 have hd:∀ i,(⟨D,i,none⟩:Addr)≠⟨B,o,none⟩:=fun i e=>h (congrArg Addr.block e).symm
 rw [World.cell?_setCell_other _ _ _ _ (hd 3),World.cell?_setCell_other _ _ _ _ (hd 2),World.cell?_setCell_other _ _ _ _ (hd 1),World.cell?_setCell_other _ _ _ _ (hd 0)];exact hc
theorem news_at {W:World} {B:Nat} {x:Value} (h:W.cell? ⟨B,0,none⟩=some x):∀ (j:Nat) (u:Value),[x][j]? = some u→W.cell? ((⟨B,0,none⟩:Addr).add j)=some u:=by
 intro j u hj
 cases j with
 | zero=>simp at hj; subst hj; simpa [Addr.add] using h
 | succ j=>simp at hj
theorem refChild_any (b off n cap:Nat) (S:List (List (Int×Int))) (s:Nat) (hs:s<4294967296) (m c:Int) (hm0:0≤m) (hm1:m≤1048576) (pa:Option Addr) (pc:Nat) (ps:List Int) (hpl:ps.length≤1048576) (hn:ps.length<n) (hn2:n≤1048576) (k:Nat) (hk:k<16) (L:List (Int×Int)) (hL:S[ps.length]? = some L) (hLl:L.length≤1048576) (hLc:ZaN L) (hcb:costN (stepN s k) L≤1048576) (hSn:S.length=n) (w:World)
  (hS:Segs w.heap.size w (.slice (some ⟨b,off,none⟩) n cap) S) (hp:Zb .i64 w.heap.size w (.slice pa ps.length pc) ps) :
  Calls Tryz.prog 95 #[.slice (some ⟨b,off,none⟩) n cap,.agg #[.int .u32 s,.int .i64 m,.int .i64 c,.slice pa ps.length pc],.int .i64 k] w fun e W'=>∃ qa qc,e=.returned (.agg #[.int .u32 ((stepN s k:Nat):Int),.int .i64 (m+((costN (stepN s k) L:Nat):Int)),.int .i64 0,.slice qa (ps.length+1) qc])∧W'.ownsRow w.heap.size 3 1 (.slice qa (ps.length+1) qc) (ps.length+1) ((ps++[(k:Int)]).map (Value.int .i64))∧Below w.heap.size w W':=by
 have hst:stepN s k<4294967296:=ZbF s k;obtain ⟨t,ht⟩:∃ t,stepN s k=t:=⟨_,rfl⟩;obtain ⟨cl,hcl⟩:∃ cl,costN t L=cl:=⟨_,rfl⟩;have HST:=ZeZ s k hs hk;rw [ht] at hst hcb HST ⊢;rw [hcl] at hcb ⊢;have HCL:Hid (costN t L=cl):=hcl;have b1:Below w.heap.size w ((w.alloc (.cells #[.int .u32 s,.int .i64 m,.int .i64 c,.slice pa ps.length pc] 103)).alloc (.cells #[.int .u32 0,.int .i64 0,.int .i64 0,.slice none 0 0] 103)):=((Below.refl w.heap.size w).alloc (Nat.le_refl _) _).alloc (by simp) _;have x1:Box ((w.alloc (.cells #[.int .u32 s,.int .i64 m,.int .i64 c,.slice pa ps.length pc] 103)).alloc (.cells #[.int .u32 0,.int .i64 0,.int .i64 0,.slice none 0 0] 103)) w.heap.size 103 #[.int .u32 s,.int .i64 m,.int .i64 c,.slice pa ps.length pc]:=(Box.new w 103 _).alloc _
 have x2:Box ((w.alloc (.cells #[.int .u32 s,.int .i64 m,.int .i64 c,.slice pa ps.length pc] 103)).alloc (.cells #[.int .u32 0,.int .i64 0,.int .i64 0,.slice none 0 0] 103)) (w.heap.size+1) 103 #[.int .u32 0,.int .i64 0,.int .i64 0,.slice none 0 0]:=by
  have:=Box.new (w.alloc (.cells #[.int .u32 s,.int .i64 m,.int .i64 c,.slice pa ps.length pc] 103)) 103 #[.int .u32 0,.int .i64 0,.int .i64 0,.slice none 0 0];simpa using this
 clear ht hcl;go_enter Tryz.func95,Tryz.ntmps95;go_wp2_with fail;refine (HST _).mono ?_;rintro e wz ⟨rfl,rfl⟩;go_wp2;obtain ⟨W1,hW1⟩:∃ W,(w.alloc (.cells #[.int .u32 s,.int .i64 m,.int .i64 c,.slice pa ps.length pc] 103)).alloc (.cells #[.int .u32 0,.int .i64 0,.int .i64 0,.slice none 0 0] 103)=W:=⟨_,rfl⟩;rw [hW1] at b1 x1 x2 ⊢;clear hW1;have hp1:=hp.below b1;have hS1:=hS.below b1;obtain ⟨la,lc,cS,hSy⟩:=Zhb hS1 hL;have HPH:Hid (Zb .i64 w.heap.size W1 (.slice pa ps.length pc) ps):=hp1;have HSY:Hid (Syms w.heap.size W1 (.slice la L.length lc) L):=hSy;have HLC:Hid (ZaN L):=hLc
 have HCO:Hid (∀ (wx:World),Syms w.heap.size wx (.slice la L.length lc) L→Calls Tryz.prog 120 #[.int .u32 (t:Int),.slice la L.length lc] wx fun e w'=>e=.returned (.int .i64 (cl:Int))∧∃ n,w'=wx.drewN n):=fun wx hx=>by
  have:=Ze0 t hst la lc L (by omega) hLc wx w.heap.size hx;rw [HCL.out] at this;exact this
 have HTW:Hid (∀ (wx:World),Zb .i64 w.heap.size wx (.slice pa ps.length pc) ps→Calls Tryz.prog 121 #[.slice pa ps.length pc] wx fun e W'=>∃ r,e=.returned r∧W'.ownsRow wx.heap.size 3 1 r ps.length (ps.map (Value.int .i64))∧Below wx.heap.size wx W'):=fun wx hx=>ZdX _ ps w.heap.size (by omega) wx hx
 obtain ⟨k0,k1,k2,k3⟩:=x1.c4;have hlt1:=x1.lt;have hlt2:=x2.lt;have hb0:b<w.heap.size:=by obtain ⟨b',o',c',e,hb'⟩:=hS.shape; cases e; exact hb'
 have hltb:b<W1.heap.size:=by have:=b1.size; omega
 have ewm:IntKind.i64.wrap (m+(cl:Int))=m+(cl:Int):=by rw [IntKind.wrap_i64]; omega
 obtain ⟨i0,hi,hz0,hz1,hz2⟩:=info_parts Zf9;have HBA:Hid (∀ q,Below W1.heap.size W1 ((W1.drewN q).alloc (.cells #[.int .i64 (k:Int)] 3))):=fun q=>(Zi (Below.refl _ _) q).alloc (Nat.le_refl _) _
 have HPHA:Hid (∀ q,Zb .i64 w.heap.size ((W1.drewN q).alloc (.cells #[.int .i64 (k:Int)] 3)) (.slice pa ps.length pc) ps):=fun q=>HPH.out.below ((HBA.out q).mono b1.size)
 have HBB:Hid (Below W1.heap.size W1 (W1.alloc (.cells #[.int .i64 (k:Int)] 3))):=(Below.refl _ _).alloc (Nat.le_refl _) _;have HPHB:Hid (Zb .i64 w.heap.size (W1.alloc (.cells #[.int .i64 (k:Int)] 3)) (.slice pa ps.length pc) ps):=HPH.out.below (HBB.out.mono b1.size);have HSYA:Hid (Syms w.heap.size (W1.alloc (.cells #[.int .i64 (k:Int)] 3)) (.slice la L.length lc) L):=HSY.out.below (HBB.out.mono b1.size);have HNC:Hid ((W1.alloc (.cells #[.int .i64 (k:Int)] 3)).cell? ⟨W1.heap.size,0,none⟩=some (.int .i64 (k:Int))):=(Box.new W1 3 #[.int .i64 (k:Int)]).cell 0 _ rfl;have HB1:Hid (Below w.heap.size w W1):=b1;have X2:Hid (Box W1 (w.heap.size+1) 103 #[.int .u32 0,.int .i64 0,.int .i64 0,.slice none 0 0]):=x2;clear hp hS hp1 hS1 hSy hL hLc HST;go_region_held_law (fun w'=>w'.cell? ⟨w.heap.size,1,none⟩=some (.int .i64 m)∧w'.cell? ⟨w.heap.size,3,none⟩=some (.slice pa ps.length pc)∧w'.cell? ⟨b,off+ps.length,none⟩=some (.slice la L.length lc)) (first | (go_keep; done) | (refine ⟨keep4 (by omega) _ _ _ _ ?_,keep4 (by omega) _ _ _ _ ?_,keep4 (by omega) _ _ _ _ ?_⟩ <;> assumption)) (first | (go_at_call 120; refine (HCO.out _ (by first | exact HSY.out | exact HSYA.out)).mono ?_; rintro e wc ⟨rfl,nd,rfl⟩) | (go_at_call 121; refine (HTW.out _ (by first | exact HPH.out | exact HPHA.out _ | exact HPHB.out)).mono ?_; rintro e w2 ⟨q,rfl,oq,b2⟩; obtain ⟨qa0,qc0,rfl,_⟩:=(Zb4 oq).2; have oq':w2.ownsRow W1.heap.size 3 1 (.slice qa0 ps.length qc0) ps.length (ps.map (Value.int .i64)):=(by first | exact oq | exact Zaa oq (by simp)); have BX2:Below W1.heap.size W1 w2:=(by first | exact (Zi (Below.refl _ _) _).trans b2 | exact (HBA.out _).trans (b2.mono (by simp)) | exact (Zi HBB.out _).trans (b2.mono (by simp))); have m1:=(BX2.cell (p:=⟨w.heap.size,1,none⟩) hlt1).trans k1; have m3:=(BX2.cell (p:=⟨w.heap.size,3,none⟩) hlt1).trans k3; have mS:=(BX2.cell (p:=⟨b,off+ps.length,none⟩) hltb).trans cS) | (refine step_append_lies _ rfl _ _ 74 rfl W1.heap.size 3 i0 (.int .i64 0) 1 8 Tryz.underlying74 hi hz0 hz1 hz2 rfl (by decide) (.slice qa0 ps.length qc0) ps.length (ps.map (Value.int .i64)) (by simp [Act.eval]) (by exact (oq'.alloc (.cells #[.int .i64 (k:Int)] 3))) ⟨w2.heap.size,0,none⟩ 1 1 [.int .i64 (k:Int)] (by simp [Act.eval]) rfl (by exact World.news_of_block (World.alloc_heap_new _ _)) (by simp [Value.oneCell']) (by decide) (by unfold maxLen; omega) (by omega) (by have:=BX2.size; simp; omega) _ rfl ?_; intro g9 cap9 w9 hown9 hgrow9 hat9 hlt9; have BX9:Below W1.heap.size W1 w9:=(BX2.alloc BX2.size (.cells #[.int .i64 (k:Int)] 3)).grown hgrow9 (by have:=BX2.size; simp; omega) (fun z e=>(oq'.lt z e).1); have m1':w9.cell? ⟨w.heap.size,1,none⟩=some (.int .i64 m):=(BX9.cell (p:=⟨w.heap.size,1,none⟩) hlt1).trans k1; have m3':w9.cell? ⟨w.heap.size,3,none⟩=some (.slice pa ps.length pc):=(BX9.cell (p:=⟨w.heap.size,3,none⟩) hlt1).trans k3; have mS':w9.cell? ⟨b,off+ps.length,none⟩=some (.slice la L.length lc):=(BX9.cell (p:=⟨b,off+ps.length,none⟩) hltb).trans cS; have z0:=(x2.next BX9).cell 0 _ rfl; have z1:=(x2.next BX9).cell 1 _ rfl; have z2:=(x2.next BX9).cell 2 _ rfl; have z3:=(x2.next BX9).cell 3 _ rfl; have f0:=(x2.next BX9).free 0; have f1:=(x2.next BX9).free 1; have f2:=(x2.next BX9).free 2; have f3:=(x2.next BX9).free 3) | (refine step_append_lies _ rfl _ _ 74 rfl W1.heap.size 3 i0 (.int .i64 0) 1 8 Tryz.underlying74 hi hz0 hz1 hz2 rfl (by decide) (.slice qa0 ps.length qc0) ps.length (ps.map (Value.int .i64)) (by simp [Act.eval]) (by exact oq') ⟨W1.heap.size,0,none⟩ 1 1 [.int .i64 (k:Int)] (by simp [Act.eval]) rfl (by exact news_at ((b2.cell (p:=⟨W1.heap.size,0,none⟩) (by simp)).trans HNC.out)) (by simp [Value.oneCell']) (by decide) (by unfold maxLen; omega) (by omega) (by have:=BX2.size; simp; omega) _ rfl ?_; intro g9 cap9 w9 hown9 hgrow9 hat9 hlt9; have BX9:Below W1.heap.size W1 w9:=BX2.grown hgrow9 (by have:=BX2.size; simp; omega) (fun z e=>(oq'.lt z e).1); have m1':w9.cell? ⟨w.heap.size,1,none⟩=some (.int .i64 m):=(BX9.cell (p:=⟨w.heap.size,1,none⟩) hlt1).trans k1; have m3':w9.cell? ⟨w.heap.size,3,none⟩=some (.slice pa ps.length pc):=(BX9.cell (p:=⟨w.heap.size,3,none⟩) hlt1).trans k3; have mS':w9.cell? ⟨b,off+ps.length,none⟩=some (.slice la L.length lc):=(BX9.cell (p:=⟨b,off+ps.length,none⟩) hltb).trans cS; have z0:=(x2.next BX9).cell 0 _ rfl; have z1:=(x2.next BX9).cell 1 _ rfl; have z2:=(x2.next BX9).cell 2 _ rfl; have z3:=(x2.next BX9).cell 3 _ rfl; have f0:=(x2.next BX9).free 0; have f1:=(x2.next BX9).free 1; have f2:=(x2.next BX9).free 2; have f3:=(x2.next BX9).free 3))
 all_goals (
  have hsW:=HB1.out.size
  go_wp2
  refine bodyPost_ret (v:=.agg #[.int .u32 (t:Int),.int .i64 (m+(cl:Int)),.int .i64 0,.slice (some ⟨g9,0,none⟩) (ps.length+1) cap9]) (by simp [results,Tryz.results95,go_sem,z0,z1,z2,z3]) rfl ⟨_,_,rfl,?_,?_⟩
  ·rw [List.map_append]
   exact Zaa (ownsRow_setCell_below (ownsRow_setCell_below (ownsRow_setCell_below (ownsRow_setCell_below hown9 (a:=⟨w.heap.size+1,0,none⟩) hlt2 _) (a:=⟨w.heap.size+1,1,none⟩) hlt2 _) (a:=⟨w.heap.size+1,2,none⟩) hlt2 _) (a:=⟨w.heap.size+1,3,none⟩) hlt2 _) hsW
  ·exact ((((HB1.out.trans (BX9.mono hsW)).setCell (p:=⟨w.heap.size+1,0,none⟩) (by simp) _).setCell (p:=⟨w.heap.size+1,1,none⟩) (by simp) _).setCell (p:=⟨w.heap.size+1,2,none⟩) (by simp) _).setCell (p:=⟨w.heap.size+1,3,none⟩) (by simp) _)
def staB (N:Nat) (l:List (Int×Int)) (P:List Int):Int:=sta stB (coB N l) (beginN:Int) P
def metB (N:Nat) (l:List (Int×Int)) (P:List Int):Int:=met stB (coB N l) (beginN:Int) P
theorem staB_nat (N:Nat) (l:List (Int×Int)) (P:List Int):∃ s:Nat,s<4294967296∧staB N l P=(s:Int):=by
 unfold staB;rcases List.eq_nil_or_concat P with rfl | ⟨Q,k,rfl⟩
 ·exact ⟨beginN,by decide,rfl⟩
 ·rw [List.concat_eq_append,ZbD];exact ⟨_,ZbF _ _,rfl⟩
theorem Zic {N:Nat} {p:Int} {l:List (Int×Int)} (h:Zf (N:Int) p l):∀ (n:Nat) (P:List Int),P.length=n→metB N l P≤8192 * (n:Int)
 | 0,P,hP=>by
  rw [List.length_eq_zero_iff.1 hP]
  unfold metB
  rw [Zh7]
  omega
 | n+1,P,hP=>by
  rcases List.eq_nil_or_concat P with rfl | ⟨Q,k,rfl⟩
  ·simp at hP
  ·rw [List.concat_eq_append] at hP ⊢
   have hQ:Q.length=n:=by simpa using hP
   have ih:=Zic h n Q hQ
   unfold metB at ih ⊢
   rw [Zb8]
   have:=coB_le h Q.length (stB (sta stB (coB N l) (beginN:Int) Q) k)
   omega
theorem metB_pos (N:Nat) (l:List (Int×Int)) (P:List Int):0≤metB N l P:=Zda stB (coB N l) _ (Zbw N l) P
end Go.Proofs.YtabdnhkdoeibnaaGreatDoor
namespace Go.Proofs.YtabdnhkdoeibnaaGreatDoor
section
variable (st:Int→Int→Int) (co:Nat→Int→Int) (N:Nat)
theorem Ziu (hco:∀ i s,0≤co i s):∀ (a:Nat) (s:Int) (i:Nat) (m:Int),0≤m→m≤lst st co N a s i m
 | 0,s,i,m,_=>Int.le_refl _
 | a+1,s,i,m,hm=>by
  simp only [lst]
  split
  ·exact Int.le_refl _
  ·have each:∀ k,m≤lst st co N a (st s k) (i+1) (m+co i (st s k)):=fun k=>by
    have h1:=hco i (st s k)
    have:=Ziu hco a (st s k) (i+1) (m+co i (st s k)) (by omega)
    omega
   obtain ⟨hm1,_⟩:=Zem (l:=ZaF.map fun k=>lst st co N a (st s k) (i+1) (m+co i (st s k))) (fun x hx=>by obtain ⟨k,_,rfl⟩:=List.mem_map.1 hx; have:=each k; omega) (by simp [Zgj])
   obtain ⟨k,_,e⟩:=List.mem_map.1 hm1
   rw [← e]
   exact each k
theorem Zid:∀ (a:Nat) (s:Int) (i:Nat) (m:Int),i≤N→lst st co N a s i m=lst st co N (min a (N-i)) s i m
 | 0,s,i,m,_=>by rw [Nat.zero_min]
 | a+1,s,i,m,hi=>by
  by_cases he:i=N
  ·subst he
   rw [Nat.sub_self,Nat.min_zero]
   simp [lst]
  ·have e:min (a+1) (N-i)=min a (N-(i+1))+1:=by omega
   rw [e]
   simp only [lst]
   rw [if_neg he,if_neg he]
   congr 1
   refine List.map_congr_left fun k _=>?_
   exact Zid a _ (i+1) _ (by omega)
end
def kidL (N:Nat) (l:List (Int×Int)) (a:Nat) (s:Int) (i:Nat) (m:Int) (k:Nat):Int:=lst stB (coB N l) N a (stB s (k:Int)) (i+1) (m+coB N l i (stB s (k:Int)))
theorem Zie (N:Nat) (l:List (Int×Int)) (a:Nat) (s:Int) (i:Nat) (m:Int) (hm:0≤m) (k:Nat):m+coB N l i (stB s (k:Int))≤kidL N l a s i m k:=by
 have h:=Zbw N l i (stB s (k:Int));exact Ziu stB (coB N l) N (Zbw N l) a _ _ _ (by omega)
theorem ZhF (N:Nat) (l:List (Int×Int)) (a:Nat) (s:Int) (i:Nat) (m:Int) (hm:0≤m) (k:Nat):m≤kidL N l a s i m k:=by
 have h:=Zbw N l i (stB s (k:Int));have:=Zie N l a s i m hm k;omega
def Zbf (L:Nat→Int) (best:Int) (pre:List Nat):Int:=pre.foldl (fun b k=>min (L k) b) best
theorem bestF_snoc (L:Nat→Int) (best:Int) (pre:List Nat) (k:Nat):Zbf L best (pre++[k])=min (L k) (Zbf L best pre):=by unfold Zbf; rw [List.foldl_append]; rfl
theorem bestF_append (L:Nat→Int) (best:Int) (pre rest:List Nat):Zbf L best (pre++rest)=Zbf L (Zbf L best pre) rest:=by unfold Zbf; rw [List.foldl_append]
theorem ZdL (L:Nat→Int):∀ (pre:List Nat) (best:Int),(∀ k∈pre,Zbf L best pre≤L k)∧Zbf L best pre≤best∧(Zbf L best pre=best∨∃ k∈pre,Zbf L best pre=L k)
 | [],best=>⟨fun k hk=>by simp at hk,Int.le_refl _,.inl rfl⟩
 | x :: pre,best=>by
  obtain ⟨h1,h2,h3⟩:=ZdL L pre (min (L x) best)
  have e:Zbf L best (x :: pre)=Zbf L (min (L x) best) pre:=rfl
  rw [e]
  refine ⟨fun k hk=>?_,by omega,?_⟩
  ·rcases List.mem_cons.1 hk with rfl | hk
   ·omega
   ·exact h1 k hk
  ·rcases h3 with h3 | ⟨k,hk,h3⟩
   ·by_cases hx:L x≤best
    ·exact .inr ⟨x,by simp,by rw [h3]; omega⟩
    ·exact .inl (by rw [h3]; omega)
   ·exact .inr ⟨k,by simp [hk],h3⟩
theorem bestF_low {L:Nat→Int} {m:Int} (hL:∀ k,m≤L k):∀ (pre:List Nat),Zbf L m pre=m:=fun pre=>by
 obtain ⟨_,h2,h3⟩:=ZdL L pre m
 rcases h3 with h3 | ⟨k,_,h3⟩
 ·exact h3
 ·have:=hL k
  omega
theorem bestF_stop {L:Nat→Int} {m best:Int} (hL:∀ k,m≤L k) {pre xs:List Nat} (hp:pre <+: xs) (h:Zbf L best pre=m):Zbf L best xs=m:=by
 obtain ⟨r,rfl⟩:=hp;rw [bestF_append,h];exact bestF_low hL r
theorem bestF_all (N:Nat) (l:List (Int×Int)) (a:Nat) (s:Int) (i:Nat) (m best:Int) (hm:0≤m) (hi:i≠N):Zbf (kidL N l a s i m) best (List.range 16)=min (lst stB (coB N l) N (a+1) s i m) best:=by
 have e:lst stB (coB N l) N (a+1) s i m=minF ((List.range 16).map (kidL N l a s i m)):=by
  simp only [lst];rw [if_neg hi];unfold ZaF;rw [List.map_map];rfl
 rw [e];obtain ⟨h1,h2⟩:=Zem (l:=(List.range 16).map (kidL N l a s i m)) (fun x hx=>by obtain ⟨k,_,rfl⟩:=List.mem_map.1 hx; have:=ZhF N l a s i m hm k; omega) (by simp);obtain ⟨k0,hk0,e0⟩:=List.mem_map.1 h1;obtain ⟨g1,g2,g3⟩:=ZdL (kidL N l a s i m) (List.range 16) best;have q1:=g1 k0 hk0;rw [e0] at q1;rcases g3 with g3 | ⟨k,hk,g3⟩
 ·omega
 ·have q2:=h2 _ (List.mem_map.2 ⟨k,hk,rfl⟩);omega
theorem ofL_16 {N s:Nat} {p:Int} {l:List (Int×Int)} (hp:Zf (N:Int) p l) (hs:s<N):(ofL N l s).length≤16:=by
 obtain ⟨P,rfl⟩:=Int.eq_ofNat_of_zero_le (a:=p) (by have:=hp.1.2.2.1; omega);have h1:=Zg8 N l s P;rw [Ziq hp hs] at h1;have:=hp.1.2.2.2;omega
end Go.Proofs.YtabdnhkdoeibnaaGreatDoor
