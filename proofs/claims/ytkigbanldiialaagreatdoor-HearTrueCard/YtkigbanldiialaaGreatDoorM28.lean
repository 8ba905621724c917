/-
  Lists of nodes (four cells each, the last one a list of numbers) in memory. No function of the program is spoken of.
-/
import Derived.Test.YtkigbanldiialaaGreatDoorM01
import Derived.Test.YtkigbanldiialaaGreatDoorM08
import Derived.BigRegion
import Derived.Deep.OwnRows
import Derived.Deep.RegionWith
import Derived.Lib.AppendZerosOnto
import Derived.Lib.SliceRun
import Derived.Lib.SmallJoins
import Derived.RegionTactic
set_option maxRecDepth 100000
set_option maxHeartbeats 4000000
namespace Go.Proofs.YtkigbanldiialaaGreatDoor
open Go.RowKit
abbrev Rn:=Int×Int×Int×Value
def Zy (r:List Rn):List Value:=r.flatMap fun x=>[.int .u32 x.1,.int .i64 x.2.1,.int .i64 x.2.2.1,x.2.2.2]
theorem ZcW (x:Rn) (r:List Rn):Zy (x :: r)=.int .u32 x.1 :: .int .i64 x.2.1 :: .int .i64 x.2.2.1 :: x.2.2.2 :: Zy r:=rfl
theorem ZdJ:∀ r:List Rn,(Zy r).length=r.length * 4
 | []=>rfl
 | x :: r=>by rw [ZcW]; simp only [List.length_cons,ZdJ r]; omega
theorem ZdK:∀ {r:List Rn} {j:Nat} {x:Rn},r[j]? = some x→(Zy r)[j * 4]? = some (.int .u32 x.1)∧(Zy r)[j * 4+1]? = some (.int .i64 x.2.1)∧(Zy r)[j * 4+2]? = some (.int .i64 x.2.2.1)∧(Zy r)[j * 4+3]? = some x.2.2.2
 | [],j,x,h=>by simp at h
 | y :: r,0,x,h=>by simp at h; subst h; exact ⟨rfl,rfl,rfl,rfl⟩
 | y :: r,j+1,x,h=>by
  have ih:=ZdK (r:=r) (j:=j) (x:=x) (by simpa using h)
  rw [ZcW,show (j+1) * 4=j * 4+4 by omega,show j * 4+4+1=j * 4+1+4 by omega,show j * 4+4+2=j * 4+2+4 by omega,show j * 4+4+3=j * 4+3+4 by omega]
  simpa using ih
theorem rnCells_append (r s:List Rn):Zy (r++s)=Zy r++Zy s:=by simp [Zy]
theorem ZcX (r:List Rn) (x:Rn):Zy (r++[x])=Zy r++[.int .u32 x.1,.int .i64 x.2.1,.int .i64 x.2.2.1,x.2.2.2]:=by rw [rnCells_append]; rfl
def ZcY (v:Value):Prop:=∃ a n c,v=.slice a n c
theorem rnCells_one {r:List Rn} (h:∀ x∈r,ZcY x.2.2.2):∀ u∈Zy r,u.oneCell'=true:=by
 intro u hu;obtain ⟨x,hx,hu⟩:=List.mem_flatMap.1 hu;obtain ⟨a,n,c,e⟩:=h x hx;simp only [List.mem_cons,List.not_mem_nil,or_false] at hu;rcases hu with rfl | rfl | rfl | rfl
 ·rfl
 ·rfl
 ·rfl
 ·rw [e]; rfl
def Raw (n₀:Nat) (W:World) (v:Value) (r:List Rn):Prop :=
 ((∃ a cap,v=.slice a 0 cap∧(a=none→cap=0))∧r=[])∨∃ b off cap,v=.slice (some ⟨b,off,none⟩) r.length cap∧b<n₀∧∀ (j:Nat) (x:Rn),r[j]? = some x →
  W.cell? ⟨b,off+j * 4,none⟩=some (.int .u32 x.1)∧W.cell? ⟨b,off+j * 4+1,none⟩=some (.int .i64 x.2.1)∧W.cell? ⟨b,off+j * 4+2,none⟩=some (.int .i64 x.2.2.1)∧W.cell? ⟨b,off+j * 4+3,none⟩=some x.2.2.2
theorem Raw.below {n₀:Nat} {W W':World} {v:Value} {r:List Rn} (h:Raw n₀ W v r) (hb:Below n₀ W W'):Raw n₀ W' v r:=by
 rcases h with h | ⟨b,off,cap,hv,hlt,hc⟩
 ·exact .inl h
 ·exact .inr ⟨b,off,cap,hv,hlt,fun j x hj=>⟨(hb.cell (p:=⟨b,off+j * 4,none⟩) hlt).trans (hc j x hj).1,(hb.cell (p:=⟨b,off+j * 4+1,none⟩) hlt).trans (hc j x hj).2.1,(hb.cell (p:=⟨b,off+j * 4+2,none⟩) hlt).trans (hc j x hj).2.2.1,(hb.cell (p:=⟨b,off+j * 4+3,none⟩) hlt).trans (hc j x hj).2.2.2⟩⟩
theorem Raw.mono {n₀ n₁:Nat} {W:World} {v:Value} {r:List Rn} (h:Raw n₀ W v r) (hn:n₀≤n₁):Raw n₁ W v r:=by
 rcases h with h | ⟨b,off,cap,hv,hlt,hc⟩
 ·exact .inl h
 ·exact .inr ⟨b,off,cap,hv,by omega,hc⟩
theorem Raw.shape {n₀:Nat} {W:World} {v:Value} {r:List Rn} (h:Raw n₀ W v r):∃ a cap,v=.slice a r.length cap:=by
 rcases h with ⟨⟨a,cap,rfl,_⟩,rfl⟩ | ⟨b,off,cap,rfl,_,_⟩
 ·exact ⟨_,_,rfl⟩
 ·exact ⟨_,_,rfl⟩
theorem ZgI {n₀ n cap:Nat} {W:World} {a:Option Addr} {r:List Rn} (h:Raw n₀ W (.slice a n cap) r) (hl:r.length=n) (h0:0<n) :
  ∃ b off,a=some ⟨b,off,none⟩∧b<n₀∧∀ (j:Nat) (x:Rn),r[j]? = some x →
   W.cell? ⟨b,off+j * 4,none⟩=some (.int .u32 x.1)∧W.cell? ⟨b,off+j * 4+1,none⟩=some (.int .i64 x.2.1)∧W.cell? ⟨b,off+j * 4+2,none⟩=some (.int .i64 x.2.2.1)∧W.cell? ⟨b,off+j * 4+3,none⟩=some x.2.2.2:=by
 subst hl;rcases h with ⟨_,e⟩ | ⟨b,off,c',e,hb,hcs⟩
 ·rw [e] at h0; simp at h0
 ·cases e
  exact ⟨b,off,rfl,hb,hcs⟩
theorem ZbJ {W:World} {base k:Nat} {e:TypeId} {v:Value} {r:List Rn} (h:W.ownsRow base e 4 v k (Zy r)):Raw W.heap.size W v r:=by
 have hl:r.length=k:=by have:=h.1; rw [ZdJ] at this; omega
 rcases h.2 with ⟨rfl,rfl⟩ | ⟨g,cap,cur,rfl,hb,hg,hk,_,hs,ht⟩
 ·exact .inl ⟨⟨_,_,rfl,fun _=>rfl⟩,List.length_eq_zero_iff.1 hl⟩
 ·refine .inr ⟨g,0,cap,by rw [hl],(Array.getElem?_eq_some_iff.1 hg).1,fun j x hj=>?_⟩;obtain ⟨h1,h2,h3,h4⟩:=ZdK hj;have c1:=h.cells (g:=g) rfl (j * 4) _ h1;have c2:=h.cells (g:=g) rfl (j * 4+1) _ h2;have c3:=h.cells (g:=g) rfl (j * 4+2) _ h3;have c4:=h.cells (g:=g) rfl (j * 4+3) _ h4;rw [Addr.add_lit] at c1 c2 c3 c4;exact ⟨c1,c2,c3,c4⟩
theorem ZJ {W W':World} {base k n₀ size:Nat} {e:TypeId} {v:Value} {xs:List Value} (h:W.ownsRow base e size v k xs) (hb:Below n₀ W W') (hn:W.heap.size≤n₀):W'.ownsRow base e size v k xs:=by
 refine ⟨h.1,?_⟩;rcases h.2 with h0 | ⟨g,cap,cur,hv,hbs,hg,hk,hm,hs,ht⟩
 ·exact .inl h0
 ·exact .inr ⟨g,cap,cur,hv,hbs,(hb.block g (by have:=(Array.getElem?_eq_some_iff.1 hg).1; omega)).trans hg,hk,hm,hs,ht⟩
theorem Za3 {W:World} {base base' k size:Nat} {e:TypeId} {v:Value} {xs:List Value} (h:W.ownsRow base e size v k xs) (hn:base'≤base):W.ownsRow base' e size v k xs:=by
 refine ⟨h.1,?_⟩;rcases h.2 with h0 | ⟨g,cap,cur,hv,hbs,hg,hk,hm,hs,ht⟩
 ·exact .inl h0
 ·exact .inr ⟨g,cap,cur,hv,by omega,hg,hk,hm,hs,ht⟩
theorem rowN_cap {w:World} {base e n cap size:Nat} {a:Option Addr} {xs:List Value} (h:w.ownsRow base e size (.slice a n cap) n xs):n≤cap:=by
 rcases h.2 with ⟨e,_⟩ | ⟨g,c,cur,e,_,_,hk,_⟩
 ·cases e; exact Nat.le_refl _
 ·cases e; exact hk
theorem Zb2 {W:World} {base base' k k' size size':Nat} {e e':TypeId} {v v':Value} {xs xs':List Value} (h:W.ownsRow base e size v k xs) (h':W.ownsRow base' e' size' v' k' xs') (he:e≠e'):v.ownBlock=none∨v.ownBlock≠v'.ownBlock:=by
 rcases h.2 with ⟨rfl,_⟩ | ⟨g,cap,cur,rfl,_,hg,_⟩
 ·exact .inl rfl
 ·rcases h'.2 with ⟨rfl,_⟩ | ⟨g',cap',cur',rfl,_,hg',_⟩
  ·exact .inr (by simp [Value.ownBlock])
  ·refine .inr fun hc=>?_
   simp only [Value.ownBlock,Option.some.injEq] at hc;subst hc;rw [hg] at hg';simp only [Option.some.injEq,Obj.cells.injEq] at hg';exact he hg'.2.1
def RnOf (n₀:Nat) (W:World) (x:Rn) (y:Nd):Prop:=x.1=y.1∧x.2.1=y.2.1∧x.2.2.1=y.2.2.1∧Za .i64 n₀ W x.2.2.2 y.2.2.2
def ZaV (n₀:Nat) (W:World) (r:List Rn) (l:List Nd):Prop:=r.length=l.length∧∀ (j:Nat) (x:Rn) (y:Nd),r[j]? = some x→l[j]? = some y→RnOf n₀ W x y
theorem RnOf.below {n₀:Nat} {W W':World} {x:Rn} {y:Nd} (h:RnOf n₀ W x y) (hb:Below n₀ W W'):RnOf n₀ W' x y:=⟨h.1,h.2.1,h.2.2.1,h.2.2.2.below hb⟩
theorem ZaV.below {n₀:Nat} {W W':World} {r:List Rn} {l:List Nd} (h:ZaV n₀ W r l) (hb:Below n₀ W W'):ZaV n₀ W' r l:=⟨h.1,fun j x y hx hy=>(h.2 j x y hx hy).below hb⟩
theorem ZaV.mono {n₀ n₁:Nat} {W:World} {r:List Rn} {l:List Nd} (h:ZaV n₀ W r l) (hn:n₀≤n₁):ZaV n₁ W r l:=⟨h.1,fun j x y hx hy=>⟨(h.2 j x y hx hy).1,(h.2 j x y hx hy).2.1,(h.2 j x y hx hy).2.2.1,(h.2 j x y hx hy).2.2.2.mono hn⟩⟩
theorem ZaV.get {n₀:Nat} {W:World} {r:List Rn} {l:List Nd} (h:ZaV n₀ W r l) {j:Nat} {y:Nd} (hy:l[j]? = some y):∃ p,r[j]? = some (y.1,y.2.1,y.2.2.1,p)∧Za .i64 n₀ W p y.2.2.2:=by
 have hj:j<r.length:=by rw [h.1]; exact (List.getElem?_eq_some_iff.1 hy).1
 obtain ⟨x,hx⟩:∃ x,r[j]? = some x:=⟨r[j],by simp⟩;obtain ⟨h1,h2,h3,h4⟩:=h.2 j x y hx hy;exact ⟨x.2.2.2,by rw [hx,← h1,← h2,← h3],h4⟩
theorem rnsOf_nil (n₀:Nat) (W:World):ZaV n₀ W [] []:=⟨rfl,fun j x y h=>by simp at h⟩
theorem ZaV.snoc {n₀:Nat} {W:World} {r:List Rn} {l:List Nd} (h:ZaV n₀ W r l) {x:Rn} {y:Nd} (hx:RnOf n₀ W x y):ZaV n₀ W (r++[x]) (l++[y]):=by
 refine ⟨by simp [h.1],fun j u v hu hv=>?_⟩;by_cases hj:j<r.length
 ·rw [List.getElem?_append_left hj] at hu;rw [List.getElem?_append_left (by rw [← h.1]; exact hj)] at hv;exact h.2 j u v hu hv
 ·rw [List.getElem?_append_right (by omega)] at hu;rw [List.getElem?_append_right (by rw [← h.1]; omega),← h.1] at hv;have h0:j-r.length=0:=by have:=(List.getElem?_eq_some_iff.1 hu).1; simp at this; omega
  rw [h0] at hu hv;simp at hu hv;subst hu hv;exact hx
theorem ZaV.append {n₀:Nat} {W:World} {r s:List Rn} {l m:List Nd} (h:ZaV n₀ W r l) (k:ZaV n₀ W s m):ZaV n₀ W (r++s) (l++m):=by
 refine ⟨by simp [h.1,k.1],fun j u v hu hv=>?_⟩;by_cases hj:j<r.length
 ·rw [List.getElem?_append_left hj] at hu;rw [List.getElem?_append_left (by rw [← h.1]; exact hj)] at hv;exact h.2 j u v hu hv
 ·rw [List.getElem?_append_right (by omega)] at hu;rw [List.getElem?_append_right (by rw [← h.1]; omega),← h.1] at hv;exact k.2 _ u v hu hv
theorem ZaV.slices {n₀:Nat} {W:World} {r:List Rn} {l:List Nd} (h:ZaV n₀ W r l):∀ x∈r,ZcY x.2.2.2:=by
 intro x hx;obtain ⟨j,hj,e⟩:=List.getElem_of_mem hx;have hjl:j<l.length:=by rw [← h.1]; exact hj
 obtain ⟨a,c,e'⟩:=(h.2 j x (l[j]) (by rw [← e]; simp) (by simp)).2.2.2.shape;exact ⟨_,_,_,e'⟩
def Z8 (n₀:Nat) (W:World) (v:Value) (l:List Nd):Prop:=∃ r,Raw n₀ W v r∧ZaV n₀ W r l
theorem Z8.below {n₀:Nat} {W W':World} {v:Value} {l:List Nd} (h:Z8 n₀ W v l) (hb:Below n₀ W W'):Z8 n₀ W' v l:=by obtain ⟨r,h1,h2⟩:=h; exact ⟨r,h1.below hb,h2.below hb⟩
theorem Z8.mono {n₀ n₁:Nat} {W:World} {v:Value} {l:List Nd} (h:Z8 n₀ W v l) (hn:n₀≤n₁):Z8 n₁ W v l:=by obtain ⟨r,h1,h2⟩:=h; exact ⟨r,h1.mono hn,h2.mono hn⟩
theorem Z8.next {W W':World} {v:Value} {l:List Nd} (h:Z8 W.heap.size W v l) (hb:Below W.heap.size W W'):Z8 W'.heap.size W' v l:=(h.below hb).mono hb.size
theorem Z8.drewN {n₀:Nat} {W:World} {v:Value} {l:List Nd} (h:Z8 n₀ W v l) (q:Nat):Z8 n₀ (W.drewN q) v l:=h
theorem Z8.shape {n₀:Nat} {W:World} {v:Value} {l:List Nd} (h:Z8 n₀ W v l):∃ a cap,v=.slice a l.length cap:=by
 obtain ⟨r,h1,h2⟩:=h;rw [← h2.1];exact h1.shape
theorem Zbc {n₀ n cap:Nat} {W:World} {a:Option Addr} {l:List Nd} (h:Z8 n₀ W (.slice a n cap) l) (hl:l.length=n) (h0:0<n) :
  ∃ b off,a=some ⟨b,off,none⟩∧b<n₀∧∀ (j:Nat) (y:Nd),l[j]? = some y →
   ∃ p,Za .i64 n₀ W p y.2.2.2∧W.cell? ⟨b,off+j * 4,none⟩=some (.int .u32 y.1)∧W.cell? ⟨b,off+j * 4+1,none⟩=some (.int .i64 y.2.1)∧W.cell? ⟨b,off+j * 4+2,none⟩=some (.int .i64 y.2.2.1)∧W.cell? ⟨b,off+j * 4+3,none⟩=some p:=by
 obtain ⟨r,h1,h2⟩:=h;obtain ⟨b,off,rfl,hb,hc⟩:=ZgI h1 (h2.1.trans hl) h0;refine ⟨b,off,rfl,hb,fun j y hy=>?_⟩;obtain ⟨p,hp,hh⟩:=h2.get hy;exact ⟨p,hh,hc j _ hp⟩
def ZH (base:Nat) (W:World) (r:List Rn) (l:List Nd):Prop:=r.length=l.length∧(∀ (j:Nat) (x:Rn) (y:Nd),r[j]? = some x→l[j]? = some y→x.1=y.1∧x.2.1=y.2.1∧x.2.2.1=y.2.2.1∧W.ownsRow base 3 1 x.2.2.2 y.2.2.2.length (y.2.2.2.map (Value.int .i64)))∧r.Pairwise fun x y=>x.2.2.2.ownBlock=none∨x.2.2.2.ownBlock≠y.2.2.2.ownBlock
theorem ZH.rns {base:Nat} {W:World} {r:List Rn} {l:List Nd} (h:ZH base W r l):ZaV W.heap.size W r l:=⟨h.1,fun j x y hx hy=>by obtain ⟨h1,h2,h3,h4⟩:=h.2.1 j x y hx hy; exact ⟨h1,h2,h3,Zf h4⟩⟩
theorem ZH.below {base n₀:Nat} {W W':World} {r:List Rn} {l:List Nd} (h:ZH base W r l) (hb:Below n₀ W W') (hn:W.heap.size≤n₀):ZH base W' r l:=⟨h.1,fun j x y hx hy=>by obtain ⟨h1,h2,h3,h4⟩:=h.2.1 j x y hx hy; exact ⟨h1,h2,h3,ZJ h4 hb hn⟩,h.2.2⟩
theorem Zen (base:Nat) (W:World):ZH base W [] []:=⟨rfl,fun j x y h=>by simp at h,List.Pairwise.nil⟩
theorem ZH.kept {base base' n:Nat} {W W':World} {r:List Rn} {l:List Nd} {v:Value} {xs:List Value} (h:ZH base W r l) (hv:W.ownsRow base' 122 4 v n xs) (hg:W.grownBy W' v.ownBlock):ZH base W' r l :=
 ⟨h.1,fun j x y hx hy=>by obtain ⟨h1,h2,h3,h4⟩:=h.2.1 j x y hx hy; exact ⟨h1,h2,h3,h4.kept hg (Zb2 h4 hv (by decide))⟩,h.2.2⟩
theorem ZH.snoc {base m:Nat} {W:World} {r:List Rn} {l:List Nd} (h:ZH base W r l) {x:Rn} {y:Nd} (e1:x.1=y.1) (e2:x.2.1=y.2.1) (e3:x.2.2.1=y.2.2.1) (hx:W.ownsRow m 3 1 x.2.2.2 y.2.2.2.length (y.2.2.2.map (Value.int .i64))) (hm:base≤m)
  (hlt:∀ u∈r,∀ g,u.2.2.2.ownBlock=some g→g<m):ZH base W (r++[x]) (l++[y]):=by
 refine ⟨by simp [h.1],fun j u v hu hv=>?_,List.pairwise_append.2 ⟨h.2.2,List.pairwise_singleton _ _,fun u hu v hv=>?_⟩⟩
 ·by_cases hj:j<r.length
  ·rw [List.getElem?_append_left hj] at hu;rw [List.getElem?_append_left (by rw [← h.1]; exact hj)] at hv;exact h.2.1 j u v hu hv
  ·rw [List.getElem?_append_right (by omega)] at hu;rw [List.getElem?_append_right (by rw [← h.1]; omega),← h.1] at hv;have h0:j-r.length=0:=by have:=(List.getElem?_eq_some_iff.1 hu).1; simp at this; omega
   rw [h0] at hu hv;simp at hu hv;subst hu hv;exact ⟨e1,e2,e3,Za3 hx hm⟩
 ·simp at hv;subst hv
  cases ho:u.2.2.2.ownBlock with
  | none=>exact .inl rfl
  | some g =>
   refine .inr fun hc=>?_
   have:=hlt u hu g ho;have:=(hx.lt g hc.symm).1;omega
theorem ZH.lt {base:Nat} {W:World} {r:List Rn} {l:List Nd} (h:ZH base W r l):∀ u∈r,∀ g,u.2.2.2.ownBlock=some g→g<W.heap.size:=by
 intro u hu g hg;obtain ⟨j,hj,e⟩:=List.getElem_of_mem hu;have hjl:j<l.length:=by rw [← h.1]; exact hj
 obtain ⟨_,_,_,h4⟩:=h.2.1 j u (l[j]) (by rw [← e]; simp) (by simp);exact (h4.lt g hg).2
def Zaq (base:Nat) (W:World) (v:Value) (l:List Nd):Prop:=∃ r,W.ownsRow base 122 4 v l.length (Zy r)∧ZH base W r l
theorem Zaq.nodes {base:Nat} {W:World} {v:Value} {l:List Nd} (h:Zaq base W v l):Z8 W.heap.size W v l:=by obtain ⟨r,h1,h2⟩:=h; exact ⟨r,ZbJ h1,h2.rns⟩
theorem Zaq.next {base:Nat} {W W':World} {v:Value} {l:List Nd} (h:Zaq base W v l) (hb:Below W.heap.size W W'):Zaq base W' v l:=by obtain ⟨r,h1,h2⟩:=h; exact ⟨r,ZJ h1 hb (Nat.le_refl _),h2.below hb (Nat.le_refl _)⟩
theorem Zaq.cap {base n cap:Nat} {W:World} {a:Option Addr} {l:List Nd} (h:Zaq base W (.slice a n cap) l):n≤cap:=by
 obtain ⟨r,h1,h2⟩:=h;rcases h1.2 with ⟨e,_⟩ | ⟨g,c,cur,e,_,_,hk,_⟩
 ·cases e; exact Nat.le_refl _
 ·cases e; exact hk
theorem infoNode:(Tryz.prog.info? 122).map (fun i=>(i.zero,i.size,i.bytes))=some (some (.agg #[.int .u32 0,.int .i64 0,.int .i64 0,.slice none 0 0]),4,48):=by kernel_rfl
theorem run_append_node (v:Value) (n base:Nat) (r:List Rn) (s m c:Int) (p:Value) (hp:ZcY p) (ty:TypeId) (w:World) (hown:w.ownsRow base 122 4 v n (Zy r)) (hb:base≤w.heap.size) (h1:n≤1048576) :
  ∃ v' w',(Builtin.append_ #[117,117] ty #[v,.slice (some ⟨w.heap.size,0,none⟩) 1 1]).run Tryz.prog (w.alloc (.cells #[.int .u32 s,.int .i64 m,.int .i64 c,p] 122))=.ok v' w'∧w'.ownsRow base 122 4 v' (n+1) (Zy (r++[(s,m,c,p)]))∧(w.alloc (.cells #[.int .u32 s,.int .i64 m,.int .i64 c,p] 122)).grownBy w' v.ownBlock:=by
 obtain ⟨i0,hi,hz0,hz1,hz2⟩:=info_parts infoNode;obtain ⟨v',w',hr,ho,hg,_⟩:=run_append_own (P:=Tryz.prog) (w.alloc (.cells #[.int .u32 s,.int .i64 m,.int .i64 c,p] 122)) base 117 ty 122 i0 (.agg #[.int .u32 0,.int .i64 0,.int .i64 0,.slice none 0 0]) 4 48 Tryz.underlying117 hi hz0 hz1 hz2 rfl (by decide) v n _ (hown.alloc _) ⟨w.heap.size,0,none⟩ 1 1 [.int .u32 s,.int .i64 m,.int .i64 c,p] rfl (World.news_of_block (World.alloc_heap_new _ _)) (rnCells_one (r:=[(s,m,c,p)]) (fun x hx=>by simp at hx; subst hx; exact hp)) (by unfold maxLen; omega) (by omega) (by simp; omega);exact ⟨v',w',hr,by rw [ZcX]; exact ho,hg⟩
def ZaC (l:List Nd):Bool:=l.any fun x=>decide (sc x<0)
theorem ZdL {l:List Nd} (h:∀ x∈l,0≤sc x):ZaC l=false:=by
 unfold ZaC;rw [List.any_eq_false];intro x hx;have:=h x hx;simp;exact this
theorem anyBelow_yes {l:List Nd} {k:Nat} {x:Nd} (h:l[k]? = some x) (hx:sc x<0):ZaC l=true:=by
 unfold ZaC;rw [List.any_eq_true];exact ⟨x,List.mem_of_getElem? h,by simpa using hx⟩
theorem ZdM (s m c:Int) (pa:Option Addr) (pn pc:Nat) (w:World) :
  Calls Tryz.prog 99 #[.agg #[.int .u32 s,.int .i64 m,.int .i64 c,.slice pa pn pc]] w fun e w'=>e=.returned (.bool (decide (c<0)))∧Below w.heap.size w w':=by
 have b0:=(Below.refl w.heap.size w).alloc (Nat.le_refl _) (.cells #[.int .u32 s,.int .i64 m,.int .i64 c,.slice pa pn pc] 122);go_enter Tryz.func99,Tryz.ntmps99;go_wp2;go_ret;exact ⟨rfl,b0⟩
theorem indexBelow_any (a:Option Addr) (cap n:Nat) (l:List Nd) (hn:l.length=n) (hl:n≤4611686018427387904) (w:World) (ha:Z8 w.heap.size w (.slice a n cap) l) :
  Calls Tryz.prog 107 #[.slice a n cap,.func (.func 99) #[] #[]] w fun e w'=>∃ i:Int,e=.returned (.int .i64 i)∧-1≤i∧decide (0≤i)=ZaC l∧Below w.heap.size w w':=by
 have HN:Hid (l.length=n):=hn;clear hn;go_enter Tryz.func107,Tryz.ntmps107;go_wp2;go_loopw [8] (fun i wr=>∃ k:Nat,k≤n∧i=.int .i64 k∧(∀ x∈l.take k,0≤sc x)∧Below w.heap.size w wr) (fun i _=>n-(intOf i).toNat)
 case atStart=>exact ⟨0,Nat.zero_le _,rfl,fun x hx=>by simp at hx,Below.refl _ _⟩
 case round =>
  obtain ⟨k,hk,rfl,hall,bw⟩:=hrel;have HA:Hid (∀ x∈l.take k,0≤sc x):=hall;clear hall;by_cases hlt:k<n
  ·obtain ⟨b,off,rfl,hb,hc⟩:=Zbc (ha.below bw) HN.out (by omega);obtain ⟨⟨s,m,c,ps⟩,hxk⟩:∃ x,l[k]? = some x:=⟨l[k]'(by rw [HN.out]; exact hlt),by simp⟩;obtain ⟨p,hp,c1,c2,c3,c4⟩:=hc _ _ hxk;obtain ⟨pa,pc,rfl⟩:=hp.shape;have HXK:Hid (l[k]? = some (s,m,c,ps)):=hxk;clear hxk hc hp;by_cases hcn:c<0
   ·have d1:decide (c<0)=true:=decide_eq_true hcn;have HY:Hid (ZaC l=true):=anyBelow_yes HXK.out hcn;clear hcn;go_wp2_with fail;refine (ZdM s m c pa ps.length pc wr).mono ?_;rintro e w2 ⟨rfl,b2⟩;go_wp2;go_ret;exact ⟨k,rfl,by omega,by rw [HY.out]; exact decide_eq_true (by omega),bw.trans (b2.mono bw.size)⟩
   ·have d1:decide (c<0)=false:=decide_eq_false hcn
    have HY:Hid (∀ x∈l.take (k+1),0≤sc x):=by
     show ∀ x∈l.take (k+1),0≤sc x
     intro x hx;rw [List.take_add_one,HXK.out] at hx;rcases List.mem_append.1 hx with h | h
     ·exact HA.out x h
     ·simp at h;subst h
      show 0≤c
      omega
    clear hcn;go_wp2_with fail;refine (ZdM s m c pa ps.length pc wr).mono ?_;rintro e w2 ⟨rfl,b2⟩;go_wp2;go_roundw
    case rel=>exact ⟨k+1,by omega,by go_num,HY.out,bw.trans (b2.mono bw.size)⟩
    case measure=>simp [intOf]; omega
  ·obtain rfl:k=n:=by omega
   have HY:Hid (ZaC l=false):=ZdL (fun x hx=>HA.out x (by rw [List.take_of_length_le (by rw [HN.out]; exact Nat.le_refl _)]; exact hx));go_wp2;go_ret;exact ⟨-1,rfl,by omega,by rw [HY.out]; rfl,bw⟩
theorem containsBelow_any (a:Option Addr) (cap n:Nat) (l:List Nd) (hn:l.length=n) (hl:n≤4611686018427387904) (w:World) (ha:Z8 w.heap.size w (.slice a n cap) l) :
  Calls Tryz.prog 98 #[.slice a n cap,.func (.func 99) #[] #[]] w fun e w'=>e=.returned (.bool (ZaC l))∧Below w.heap.size w w':=by
 have HC:=indexBelow_any a cap n l hn hl w ha;clear hn ha;obtain ⟨d,hd⟩:∃ d,ZaC l=d:=⟨_,rfl⟩;rw [hd] at HC ⊢;clear hd;go_enter Tryz.func98,Tryz.ntmps98;go_wp2_with fail;refine HC.mono ?_;rintro e w2 ⟨i,rfl,h1,h2,b2⟩;have HD:Hid (decide (0≤i)=d):=h2;clear h2;go_wp2;go_ret;exact ⟨by rw [← HD.out]; rfl,b2⟩
theorem cloneInts_ok (a:Option Addr) (cap n₀:Nat) (zs:List Int) (hl:zs.length≤4294967296) (w:World) (h0:n₀≤w.heap.size) (ha:Za .i64 n₀ w (.slice a zs.length cap) zs) :
  Calls Tryz.prog 108 #[.slice a zs.length cap] w fun e W'=>∃ r,e=.returned r∧W'.ownsRow w.heap.size 3 1 r zs.length (zs.map (Value.int .i64))∧Below w.heap.size w W':=by
 have qS:∀ (w:World) (a:Option Addr) (n c n' c':Nat),(binOp .eql 52 (.slice a n c) (.slice none n' c')).run Tryz.prog w=.ok (.bool a.isNone) w:=fun w a n c n' c'=>Lib.run_eql_slice_nil w _ _ a n c n' c' Tryz.underlying52
 cases a with
 | none =>
  have h0:zs=[]:=by
   rcases ha with ⟨_,h⟩ | ⟨b,off,c,e,_⟩
   ·exact h
   ·simp only [Value.slice.injEq] at e; exact absurd e.1 (by simp)
  subst h0;clear ha;go_enter Tryz.func108,Tryz.ntmps108;go_wp2;go_ret;exact ⟨_,rfl,World.ownsRow_nil _ _ _ _,Below.refl _ _⟩
 | some ad =>
  have o0:(w.alloc (.cells #[] 3)).ownsRow w.heap.size 3 1 (.slice (some ⟨w.heap.size,0,none⟩) 0 0) 0 (([]:List Int).map (Value.int .i64)):=World.ownsRow_made w #[] 0 (Nat.le_refl _) (Nat.zero_le _) rfl;have b0:=(Below.refl w.heap.size w).alloc (Nat.le_refl _) (.cells #[] 3);obtain ⟨v3,w3,hr3,ho3,hg3⟩:=ZaT (.slice (some ⟨w.heap.size,0,none⟩) 0 0) (.slice (some ad) zs.length cap) 0 w.heap.size _ [] zs 52 (w.alloc (.cells #[] 3)) o0 (ha.below (b0.mono h0)) (by simp) (by omega) hl;have b3:=b0.trans ((Below.refl w.heap.size _).grown hg3 (by simp) (fun q e=>(o0.lt q e).1));have HR3:Hid _:=hr3;clear hr3 ha o0 hg3;go_enter Tryz.func108,Tryz.ntmps108;go_wp2_with (at_builtin; refine Zd rfl _ _ 52 rfl _ _ rfl rfl _ _ HR3.out ?_);go_ret;refine ⟨_,rfl,?_,b3⟩;simpa using ho3
theorem clone_node (s m c:Int) (a:Option Addr) (cap n₀:Nat) (zs:List Int) (hl:zs.length≤4294967296) (w:World) (h0:n₀≤w.heap.size) (ha:Za .i64 n₀ w (.slice a zs.length cap) zs) :
  Calls Tryz.prog 101 #[.agg #[.int .u32 s,.int .i64 m,.int .i64 c,.slice a zs.length cap]] w fun e W'=>∃ qa qc,e=.returned (.agg #[.int .u32 s,.int .i64 m,.int .i64 c,.slice qa zs.length qc])∧W'.ownsRow w.heap.size 3 1 (.slice qa zs.length qc) zs.length (zs.map (Value.int .i64))∧Below w.heap.size w W':=by
 have b1:=((Below.refl w.heap.size w).alloc (Nat.le_refl _) (.cells #[.int .u32 s,.int .i64 m,.int .i64 c,.slice a zs.length cap] 122)).alloc (by simp) (.cells #[.int .u32 0,.int .i64 0,.int .i64 0,.slice none 0 0] 122);have ha1:=ha.below (b1.mono h0);clear ha;go_enter Tryz.func101,Tryz.ntmps101;go_wp2_with fail;refine (cloneInts_ok a cap n₀ zs hl _ (by simp; omega) ha1).mono ?_;rintro e w2 ⟨r,rfl,o2,b2⟩;obtain ⟨ar,cr,rfl,_⟩:=(Zdq o2).2;have x1:Box w2 w.heap.size 122 #[.int .u32 s,.int .i64 m,.int .i64 c,.slice a zs.length cap]:=((Box.new w 122 _).alloc _).next b2
 have x2:Box w2 (w.heap.size+1) 122 #[.int .u32 0,.int .i64 0,.int .i64 0,.slice none 0 0]:=by
  have:=(Box.new (w.alloc (.cells #[.int .u32 s,.int .i64 m,.int .i64 c,.slice a zs.length cap] 122)) 122 #[.int .u32 0,.int .i64 0,.int .i64 0,.slice none 0 0]).next b2;simpa using this
 obtain ⟨k0,k1,k2,k3⟩:=x1.c4;obtain ⟨m0,m1,m2,m3⟩:=x2.c4;have f0:=x1.free 3;obtain ⟨g0,g1,g2,g3⟩:=x2.f4;go_wp2;refine bodyPost_ret (v:=.agg #[.int .u32 s,.int .i64 m,.int .i64 c,.slice ar zs.length cr]) (by simp [results,Tryz.results101,go_sem,m0,m1,m2,m3]) rfl ⟨_,_,rfl,?_,?_⟩
 ·have o3:=Za3 (ownsRow_setCell_below (ownsRow_setCell_below (ownsRow_setCell_below (ownsRow_setCell_below (ownsRow_setCell_below o2 (a:=⟨w.heap.size,3,none⟩) (by simp; omega) (.slice ar zs.length cr)) (a:=⟨w.heap.size+1,0,none⟩) (by simp) (.int .u32 s)) (a:=⟨w.heap.size+1,1,none⟩) (by simp) (.int .i64 m)) (a:=⟨w.heap.size+1,2,none⟩) (by simp) (.int .i64 c)) (a:=⟨w.heap.size+1,3,none⟩) (by simp) (.slice ar zs.length cr)) (show w.heap.size≤_ by simp; omega);exact o3
 ·have b3:=b1.trans (b2.mono (by simp; omega));exact ((((b3.setCell (p:=⟨w.heap.size,3,none⟩) (Nat.le_refl _) _).setCell (p:=⟨w.heap.size+1,0,none⟩) (by simp) _).setCell (p:=⟨w.heap.size+1,1,none⟩) (by simp) _).setCell (p:=⟨w.heap.size+1,2,none⟩) (by simp) _).setCell (p:=⟨w.heap.size+1,3,none⟩) (by simp) _
end Go.Proofs.YtkigbanldiialaaGreatDoor
namespace Go.Proofs.YtkigbanldiialaaGreatDoor
open Go.ChangeShapes Go.WideShapes Go.ChangeAt Go.RowKit
theorem array10 {α:Type} {cs:Array α} (h:cs.size=10):∃ c0 c1 c2 c3 c4 c5 c6 c7 c8 c9,cs=#[c0,c1,c2,c3,c4,c5,c6,c7,c8,c9]:=by
 obtain ⟨l⟩:=cs
 match l,h with
 | [c0,c1,c2,c3,c4,c5,c6,c7,c8,c9],_=>exact ⟨c0,c1,c2,c3,c4,c5,c6,c7,c8,c9,rfl⟩
theorem cfg_of_trod {H:Type} {enc:TypeId×Value→H} {W:World} {base:Nat} {spare:Nat→Bool} {held:Bool} {r:Reach} {b0:Nat} {v:Value} {d:DataW H} {p:List MemPlace} (hv:Value.okWide Tryz.prog W r b0 23 v) (h:DataW.Trod enc Tryz.prog W base spare held 23 v d p):∃ c:Cfg,v=.agg #[.int .i64 c.cB,.int .i64 c.cBeam,.int .i64 c.cDepth,.int .i64 c.cWin,.int .i64 c.cQs,.int .i64 c.cQr,.int .i64 c.cBatch,.int .i64 c.cPass,.int .i64 c.cMsg,.int .i64 c.cSeqs]:=by
 have hC:Tryz.prog.cellsOf 23=10:=by kernel_rfl
 have hI:Tryz.prog.cellsOf 3=1:=by kernel_rfl
 obtain ⟨cs,rfl,hsz⟩:=okWide_struct Tryz.underlying23 hv;obtain ⟨c0,c1,c2,c3,c4,c5,c6,c7,c8,c9,rfl⟩:=array10 (hsz.trans hC);obtain ⟨fuel,hf⟩:=h;obtain ⟨xs,n,_,_,_,hlen,hg⟩:=DataW.trod_struct Tryz.underlying23 hf;have hl:xs.length=10:=hlen;have k0:DataW.trod enc Tryz.prog W base spare held n 3 (((Value.agg #[c0,c1,c2,c3,c4,c5,c6,c7,c8,c9]).cells.toList.drop 0).take (Tryz.prog.cellsOf 3))=xs[0]?:=hg 0 _ rfl;rw [List.getElem?_eq_getElem (show 0<xs.length by omega),show ((Value.agg #[c0,c1,c2,c3,c4,c5,c6,c7,c8,c9]).cells.toList.drop 0).take (Tryz.prog.cellsOf 3)=[c0] by rw [hI]; rfl] at k0;obtain ⟨n0,e0,_,_⟩:=DataW.trod_int Tryz.underlying3 k0;have k1:DataW.trod enc Tryz.prog W base spare held n 3 (((Value.agg #[c0,c1,c2,c3,c4,c5,c6,c7,c8,c9]).cells.toList.drop 1).take (Tryz.prog.cellsOf 3))=xs[1]?:=hg 1 _ rfl;rw [List.getElem?_eq_getElem (show 1<xs.length by omega),show ((Value.agg #[c0,c1,c2,c3,c4,c5,c6,c7,c8,c9]).cells.toList.drop 1).take (Tryz.prog.cellsOf 3)=[c1] by rw [hI]; rfl] at k1;obtain ⟨n1,e1,_,_⟩:=DataW.trod_int Tryz.underlying3 k1;have k2:DataW.trod enc Tryz.prog W base spare held n 3 (((Value.agg #[c0,c1,c2,c3,c4,c5,c6,c7,c8,c9]).cells.toList.drop 2).take (Tryz.prog.cellsOf 3))=xs[2]?:=hg 2 _ rfl;rw [List.getElem?_eq_getElem (show 2<xs.length by omega),show ((Value.agg #[c0,c1,c2,c3,c4,c5,c6,c7,c8,c9]).cells.toList.drop 2).take (Tryz.prog.cellsOf 3)=[c2] by rw [hI]; rfl] at k2;obtain ⟨n2,e2,_,_⟩:=DataW.trod_int Tryz.underlying3 k2;have k3:DataW.trod enc Tryz.prog W base spare held n 3 (((Value.agg #[c0,c1,c2,c3,c4,c5,c6,c7,c8,c9]).cells.toList.drop 3).take (Tryz.prog.cellsOf 3))=xs[3]?:=hg 3 _ rfl;rw [List.getElem?_eq_getElem (show 3<xs.length by omega),show ((Value.agg #[c0,c1,c2,c3,c4,c5,c6,c7,c8,c9]).cells.toList.drop 3).take (Tryz.prog.cellsOf 3)=[c3] by rw [hI]; rfl] at k3;obtain ⟨n3,e3,_,_⟩:=DataW.trod_int Tryz.underlying3 k3;have k4:DataW.trod enc Tryz.prog W base spare held n 3 (((Value.agg #[c0,c1,c2,c3,c4,c5,c6,c7,c8,c9]).cells.toList.drop 4).take (Tryz.prog.cellsOf 3))=xs[4]?:=hg 4 _ rfl;rw [List.getElem?_eq_getElem (show 4<xs.length by omega),show ((Value.agg #[c0,c1,c2,c3,c4,c5,c6,c7,c8,c9]).cells.toList.drop 4).take (Tryz.prog.cellsOf 3)=[c4] by rw [hI]; rfl] at k4;obtain ⟨n4,e4,_,_⟩:=DataW.trod_int Tryz.underlying3 k4;have k5:DataW.trod enc Tryz.prog W base spare held n 3 (((Value.agg #[c0,c1,c2,c3,c4,c5,c6,c7,c8,c9]).cells.toList.drop 5).take (Tryz.prog.cellsOf 3))=xs[5]?:=hg 5 _ rfl;rw [List.getElem?_eq_getElem (show 5<xs.length by omega),show ((Value.agg #[c0,c1,c2,c3,c4,c5,c6,c7,c8,c9]).cells.toList.drop 5).take (Tryz.prog.cellsOf 3)=[c5] by rw [hI]; rfl] at k5;obtain ⟨n5,e5,_,_⟩:=DataW.trod_int Tryz.underlying3 k5;have k6:DataW.trod enc Tryz.prog W base spare held n 3 (((Value.agg #[c0,c1,c2,c3,c4,c5,c6,c7,c8,c9]).cells.toList.drop 6).take (Tryz.prog.cellsOf 3))=xs[6]?:=hg 6 _ rfl;rw [List.getElem?_eq_getElem (show 6<xs.length by omega),show ((Value.agg #[c0,c1,c2,c3,c4,c5,c6,c7,c8,c9]).cells.toList.drop 6).take (Tryz.prog.cellsOf 3)=[c6] by rw [hI]; rfl] at k6;obtain ⟨n6,e6,_,_⟩:=DataW.trod_int Tryz.underlying3 k6;have k7:DataW.trod enc Tryz.prog W base spare held n 3 (((Value.agg #[c0,c1,c2,c3,c4,c5,c6,c7,c8,c9]).cells.toList.drop 7).take (Tryz.prog.cellsOf 3))=xs[7]?:=hg 7 _ rfl;rw [List.getElem?_eq_getElem (show 7<xs.length by omega),show ((Value.agg #[c0,c1,c2,c3,c4,c5,c6,c7,c8,c9]).cells.toList.drop 7).take (Tryz.prog.cellsOf 3)=[c7] by rw [hI]; rfl] at k7;obtain ⟨n7,e7,_,_⟩:=DataW.trod_int Tryz.underlying3 k7;have k8:DataW.trod enc Tryz.prog W base spare held n 3 (((Value.agg #[c0,c1,c2,c3,c4,c5,c6,c7,c8,c9]).cells.toList.drop 8).take (Tryz.prog.cellsOf 3))=xs[8]?:=hg 8 _ rfl;rw [List.getElem?_eq_getElem (show 8<xs.length by omega),show ((Value.agg #[c0,c1,c2,c3,c4,c5,c6,c7,c8,c9]).cells.toList.drop 8).take (Tryz.prog.cellsOf 3)=[c8] by rw [hI]; rfl] at k8
 obtain ⟨n8,e8,_,_⟩:=DataW.trod_int Tryz.underlying3 k8;have k9:DataW.trod enc Tryz.prog W base spare held n 3 (((Value.agg #[c0,c1,c2,c3,c4,c5,c6,c7,c8,c9]).cells.toList.drop 9).take (Tryz.prog.cellsOf 3))=xs[9]?:=hg 9 _ rfl;rw [List.getElem?_eq_getElem (show 9<xs.length by omega),show ((Value.agg #[c0,c1,c2,c3,c4,c5,c6,c7,c8,c9]).cells.toList.drop 9).take (Tryz.prog.cellsOf 3)=[c9] by rw [hI]; rfl] at k9;obtain ⟨n9,e9,_,_⟩:=DataW.trod_int Tryz.underlying3 k9;simp only [List.cons.injEq,and_true] at e0 e1 e2 e3 e4 e5 e6 e7 e8 e9;subst e0 e1 e2 e3 e4 e5 e6 e7 e8 e9;exact ⟨⟨n0,n1,n2,n3,n4,n5,n6,n7,n8,n9⟩,rfl⟩
end Go.Proofs.YtkigbanldiialaaGreatDoor
