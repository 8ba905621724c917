/-
  Lists of nodes (four cells each, the last one a list of numbers) in memory. No function of the program is spoken of.
-/
import Derived.Test.YtabdnhkdoeibnaaGreatDoorM09
import Derived.Test.YtabdnhkdoeibnaaGreatDoorM10
import Derived.Deep.OwnRows
import Derived.Lib.SmallJoins
set_option maxRecDepth 100000
set_option maxHeartbeats 4000000
namespace Go.Proofs.YtabdnhkdoeibnaaGreatDoor
open Go.RowKit
abbrev Rn:=Int×Int×Int×Value
def ZG (r:List Rn):List Value:=r.flatMap fun x=>[.int .u32 x.1,.int .i64 x.2.1,.int .i64 x.2.2.1,x.2.2.2]
theorem Zd0 (x:Rn) (r:List Rn):ZG (x :: r)=.int .u32 x.1 :: .int .i64 x.2.1 :: .int .i64 x.2.2.1 :: x.2.2.2 :: ZG r:=rfl
theorem ZeL:∀ r:List Rn,(ZG r).length=r.length * 4
 | []=>rfl
 | x :: r=>by rw [Zd0]; simp only [List.length_cons,ZeL r]; omega
theorem ZeM:∀ {r:List Rn} {j:Nat} {x:Rn},r[j]? = some x→(ZG r)[j * 4]? = some (.int .u32 x.1)∧(ZG r)[j * 4+1]? = some (.int .i64 x.2.1)∧(ZG r)[j * 4+2]? = some (.int .i64 x.2.2.1)∧(ZG r)[j * 4+3]? = some x.2.2.2
 | [],j,x,h=>by simp at h
 | y :: r,0,x,h=>by simp at h; subst h; exact ⟨rfl,rfl,rfl,rfl⟩
 | y :: r,j+1,x,h=>by
  have ih:=ZeM (r:=r) (j:=j) (x:=x) (by simpa using h)
  rw [Zd0,show (j+1) * 4=j * 4+4 by omega,show j * 4+4+1=j * 4+1+4 by omega,show j * 4+4+2=j * 4+2+4 by omega,show j * 4+4+3=j * 4+3+4 by omega]
  simpa using ih
theorem rnCells_append (r s:List Rn):ZG (r++s)=ZG r++ZG s:=by simp [ZG]
theorem Zd1 (r:List Rn) (x:Rn):ZG (r++[x])=ZG r++[.int .u32 x.1,.int .i64 x.2.1,.int .i64 x.2.2.1,x.2.2.2]:=by rw [rnCells_append]; rfl
def ZcZ (v:Value):Prop:=∃ a n c,v=.slice a n c
theorem rnCells_one {r:List Rn} (h:∀ x∈r,ZcZ x.2.2.2):∀ u∈ZG r,u.oneCell'=true:=by
 intro u hu;obtain ⟨x,hx,hu⟩:=List.mem_flatMap.1 hu;obtain ⟨a,n,c,e⟩:=h x hx;simp only [List.mem_cons,List.not_mem_nil,or_false] at hu;rcases hu with rfl | rfl | rfl | rfl
 ·rfl
 ·rfl
 ·rfl
 ·rw [e]; rfl
def Raw (n₀:Nat) (W:World) (v:Value) (r:List Rn):Prop :=
 ((∃ a cap,v=.slice a 0 cap∧(a=none→cap=0))∧r=[])∨∃ b off cap,v=.slice (some ⟨b,off,none⟩) r.length cap∧b<n₀∧∀ (j:Nat) (x:Rn),r[j]? = some x →
  W.cell? ⟨b,off+j * 4,none⟩=some (.int .u32 x.1)∧W.cell? ⟨b,off+j * 4+1,none⟩=some (.int .i64 x.2.1)∧W.cell? ⟨b,off+j * 4+2,none⟩=some (.int .i64 x.2.2.1)∧W.cell? ⟨b,off+j * 4+3,none⟩=some x.2.2.2
theorem Raw.below {n₀:Nat} {W W':World} {v:Value} {r:List Rn} (h:Raw n₀ W v r) (hb:Below n₀ W W'):Raw n₀ W' v r:=by
 rcases h with h | ⟨b,off,cap,hv,hlt,hc⟩
 ·exact .inl h
 ·exact .inr ⟨b,off,cap,hv,hlt,fun j x hj=>⟨(hb.cell (p:=⟨b,off+j * 4,none⟩) hlt).trans (hc j x hj).1,(hb.cell (p:=⟨b,off+j * 4+1,none⟩) hlt).trans (hc j x hj).2.1,(hb.cell (p:=⟨b,off+j * 4+2,none⟩) hlt).trans (hc j x hj).2.2.1,(hb.cell (p:=⟨b,off+j * 4+3,none⟩) hlt).trans (hc j x hj).2.2.2⟩⟩
theorem Raw.mono {n₀ n₁:Nat} {W:World} {v:Value} {r:List Rn} (h:Raw n₀ W v r) (hn:n₀≤n₁):Raw n₁ W v r:=by
 rcases h with h | ⟨b,off,cap,hv,hlt,hc⟩
 ·exact .inl h
 ·exact .inr ⟨b,off,cap,hv,by omega,hc⟩
theorem Raw.shape {n₀:Nat} {W:World} {v:Value} {r:List Rn} (h:Raw n₀ W v r):∃ a cap,v=.slice a r.length cap:=by
 rcases h with ⟨⟨a,cap,rfl,_⟩,rfl⟩ | ⟨b,off,cap,rfl,_,_⟩
 ·exact ⟨_,_,rfl⟩
 ·exact ⟨_,_,rfl⟩
theorem Zir {n₀ n cap:Nat} {W:World} {a:Option Addr} {r:List Rn} (h:Raw n₀ W (.slice a n cap) r) (hl:r.length=n) (h0:0<n) :
  ∃ b off,a=some ⟨b,off,none⟩∧b<n₀∧∀ (j:Nat) (x:Rn),r[j]? = some x →
   W.cell? ⟨b,off+j * 4,none⟩=some (.int .u32 x.1)∧W.cell? ⟨b,off+j * 4+1,none⟩=some (.int .i64 x.2.1)∧W.cell? ⟨b,off+j * 4+2,none⟩=some (.int .i64 x.2.2.1)∧W.cell? ⟨b,off+j * 4+3,none⟩=some x.2.2.2:=by
 subst hl;rcases h with ⟨_,e⟩ | ⟨b,off,c',e,hb,hcs⟩
 ·rw [e] at h0; simp at h0
 ·cases e
  exact ⟨b,off,rfl,hb,hcs⟩
theorem ZaK {W:World} {base k:Nat} {e:TypeId} {v:Value} {r:List Rn} (h:W.ownsRow base e 4 v k (ZG r)):Raw W.heap.size W v r:=by
 have hl:r.length=k:=by have:=h.1; rw [ZeL] at this; omega
 rcases h.2 with ⟨rfl,rfl⟩ | ⟨g,cap,cur,rfl,hb,hg,hk,_,hs,ht⟩
 ·exact .inl ⟨⟨_,_,rfl,fun _=>rfl⟩,List.length_eq_zero_iff.1 hl⟩
 ·refine .inr ⟨g,0,cap,by rw [hl],(Array.getElem?_eq_some_iff.1 hg).1,fun j x hj=>?_⟩;obtain ⟨h1,h2,h3,h4⟩:=ZeM hj;have c1:=h.cells (g:=g) rfl (j * 4) _ h1;have c2:=h.cells (g:=g) rfl (j * 4+1) _ h2;have c3:=h.cells (g:=g) rfl (j * 4+2) _ h3;have c4:=h.cells (g:=g) rfl (j * 4+3) _ h4;rw [Addr.add_lit] at c1 c2 c3 c4;exact ⟨c1,c2,c3,c4⟩
theorem ZL {W W':World} {base k n₀ size:Nat} {e:TypeId} {v:Value} {xs:List Value} (h:W.ownsRow base e size v k xs) (hb:Below n₀ W W') (hn:W.heap.size≤n₀):W'.ownsRow base e size v k xs:=by
 refine ⟨h.1,?_⟩;rcases h.2 with h0 | ⟨g,cap,cur,hv,hbs,hg,hk,hm,hs,ht⟩
 ·exact .inl h0
 ·exact .inr ⟨g,cap,cur,hv,hbs,(hb.block g (by have:=(Array.getElem?_eq_some_iff.1 hg).1; omega)).trans hg,hk,hm,hs,ht⟩
theorem Zaa {W:World} {base base' k size:Nat} {e:TypeId} {v:Value} {xs:List Value} (h:W.ownsRow base e size v k xs) (hn:base'≤base):W.ownsRow base' e size v k xs:=by
 refine ⟨h.1,?_⟩;rcases h.2 with h0 | ⟨g,cap,cur,hv,hbs,hg,hk,hm,hs,ht⟩
 ·exact .inl h0
 ·exact .inr ⟨g,cap,cur,hv,by omega,hg,hk,hm,hs,ht⟩
theorem rowN_cap {w:World} {base e n cap size:Nat} {a:Option Addr} {xs:List Value} (h:w.ownsRow base e size (.slice a n cap) n xs):n≤cap:=by
 rcases h.2 with ⟨e,_⟩ | ⟨g,c,cur,e,_,_,hk,_⟩
 ·cases e; exact Nat.le_refl _
 ·cases e; exact hk
theorem Zbs {W:World} {base base' k k' size size':Nat} {e e':TypeId} {v v':Value} {xs xs':List Value} (h:W.ownsRow base e size v k xs) (h':W.ownsRow base' e' size' v' k' xs') (he:e≠e'):v.ownBlock=none∨v.ownBlock≠v'.ownBlock:=by
 rcases h.2 with ⟨rfl,_⟩ | ⟨g,cap,cur,rfl,_,hg,_⟩
 ·exact .inl rfl
 ·rcases h'.2 with ⟨rfl,_⟩ | ⟨g',cap',cur',rfl,_,hg',_⟩
  ·exact .inr (by simp [Value.ownBlock])
  ·refine .inr fun hc=>?_
   simp only [Value.ownBlock,Option.some.injEq] at hc;subst hc;rw [hg] at hg';simp only [Option.some.injEq,Obj.cells.injEq] at hg';exact he hg'.2.1
def RnOf (n₀:Nat) (W:World) (x:Rn) (y:Nd):Prop:=x.1=y.1∧x.2.1=y.2.1∧x.2.2.1=y.2.2.1∧Zb .i64 n₀ W x.2.2.2 y.2.2.2
def Zbt (n₀:Nat) (W:World) (r:List Rn) (l:List Nd):Prop:=r.length=l.length∧∀ (j:Nat) (x:Rn) (y:Nd),r[j]? = some x→l[j]? = some y→RnOf n₀ W x y
theorem RnOf.below {n₀:Nat} {W W':World} {x:Rn} {y:Nd} (h:RnOf n₀ W x y) (hb:Below n₀ W W'):RnOf n₀ W' x y:=⟨h.1,h.2.1,h.2.2.1,h.2.2.2.below hb⟩
theorem Zbt.below {n₀:Nat} {W W':World} {r:List Rn} {l:List Nd} (h:Zbt n₀ W r l) (hb:Below n₀ W W'):Zbt n₀ W' r l:=⟨h.1,fun j x y hx hy=>(h.2 j x y hx hy).below hb⟩
theorem Zbt.mono {n₀ n₁:Nat} {W:World} {r:List Rn} {l:List Nd} (h:Zbt n₀ W r l) (hn:n₀≤n₁):Zbt n₁ W r l:=⟨h.1,fun j x y hx hy=>⟨(h.2 j x y hx hy).1,(h.2 j x y hx hy).2.1,(h.2 j x y hx hy).2.2.1,(h.2 j x y hx hy).2.2.2.mono hn⟩⟩
theorem Zbt.get {n₀:Nat} {W:World} {r:List Rn} {l:List Nd} (h:Zbt n₀ W r l) {j:Nat} {y:Nd} (hy:l[j]? = some y):∃ p,r[j]? = some (y.1,y.2.1,y.2.2.1,p)∧Zb .i64 n₀ W p y.2.2.2:=by
 have hj:j<r.length:=by rw [h.1]; exact (List.getElem?_eq_some_iff.1 hy).1
 obtain ⟨x,hx⟩:∃ x,r[j]? = some x:=⟨r[j],by simp⟩;obtain ⟨h1,h2,h3,h4⟩:=h.2 j x y hx hy;exact ⟨x.2.2.2,by rw [hx,← h1,← h2,← h3],h4⟩
theorem Zdi (n₀:Nat) (W:World):Zbt n₀ W [] []:=⟨rfl,fun j x y h=>by simp at h⟩
theorem Zbt.snoc {n₀:Nat} {W:World} {r:List Rn} {l:List Nd} (h:Zbt n₀ W r l) {x:Rn} {y:Nd} (hx:RnOf n₀ W x y):Zbt n₀ W (r++[x]) (l++[y]):=by
 refine ⟨by simp [h.1],fun j u v hu hv=>?_⟩;by_cases hj:j<r.length
 ·rw [List.getElem?_append_left hj] at hu;rw [List.getElem?_append_left (by rw [← h.1]; exact hj)] at hv;exact h.2 j u v hu hv
 ·rw [List.getElem?_append_right (by omega)] at hu;rw [List.getElem?_append_right (by rw [← h.1]; omega),← h.1] at hv;have h0:j-r.length=0:=by have:=(List.getElem?_eq_some_iff.1 hu).1; simp at this; omega
  rw [h0] at hu hv;simp at hu hv;subst hu hv;exact hx
theorem Zbt.append {n₀:Nat} {W:World} {r s:List Rn} {l m:List Nd} (h:Zbt n₀ W r l) (k:Zbt n₀ W s m):Zbt n₀ W (r++s) (l++m):=by
 refine ⟨by simp [h.1,k.1],fun j u v hu hv=>?_⟩;by_cases hj:j<r.length
 ·rw [List.getElem?_append_left hj] at hu;rw [List.getElem?_append_left (by rw [← h.1]; exact hj)] at hv;exact h.2 j u v hu hv
 ·rw [List.getElem?_append_right (by omega)] at hu;rw [List.getElem?_append_right (by rw [← h.1]; omega),← h.1] at hv;exact k.2 _ u v hu hv
theorem Zbt.slices {n₀:Nat} {W:World} {r:List Rn} {l:List Nd} (h:Zbt n₀ W r l):∀ x∈r,ZcZ x.2.2.2:=by
 intro x hx;obtain ⟨j,hj,e⟩:=List.getElem_of_mem hx;have hjl:j<l.length:=by rw [← h.1]; exact hj
 obtain ⟨a,c,e'⟩:=(h.2 j x (l[j]) (by rw [← e]; simp) (by simp)).2.2.2.shape;exact ⟨_,_,_,e'⟩
def Zae (n₀:Nat) (W:World) (v:Value) (l:List Nd):Prop:=∃ r,Raw n₀ W v r∧Zbt n₀ W r l
theorem Zae.below {n₀:Nat} {W W':World} {v:Value} {l:List Nd} (h:Zae n₀ W v l) (hb:Below n₀ W W'):Zae n₀ W' v l:=by obtain ⟨r,h1,h2⟩:=h; exact ⟨r,h1.below hb,h2.below hb⟩
theorem Zae.mono {n₀ n₁:Nat} {W:World} {v:Value} {l:List Nd} (h:Zae n₀ W v l) (hn:n₀≤n₁):Zae n₁ W v l:=by obtain ⟨r,h1,h2⟩:=h; exact ⟨r,h1.mono hn,h2.mono hn⟩
theorem Zae.next {W W':World} {v:Value} {l:List Nd} (h:Zae W.heap.size W v l) (hb:Below W.heap.size W W'):Zae W'.heap.size W' v l:=(h.below hb).mono hb.size
theorem Zae.drewN {n₀:Nat} {W:World} {v:Value} {l:List Nd} (h:Zae n₀ W v l) (q:Nat):Zae n₀ (W.drewN q) v l:=h
theorem Zae.shape {n₀:Nat} {W:World} {v:Value} {l:List Nd} (h:Zae n₀ W v l):∃ a cap,v=.slice a l.length cap:=by
 obtain ⟨r,h1,h2⟩:=h;rw [← h2.1];exact h1.shape
theorem nodes_nil (n₀:Nat) (W:World):Zae n₀ W (.slice none 0 0) []:=⟨[],.inl ⟨⟨_,_,rfl,fun _=>rfl⟩,rfl⟩,Zdi _ _⟩
theorem ZaA {n₀ n cap:Nat} {W:World} {a:Option Addr} {l:List Nd} (h:Zae n₀ W (.slice a n cap) l) (hl:l.length=n) (h0:0<n) :
  ∃ b off,a=some ⟨b,off,none⟩∧b<n₀∧∀ (j:Nat) (y:Nd),l[j]? = some y →
   ∃ p,Zb .i64 n₀ W p y.2.2.2∧W.cell? ⟨b,off+j * 4,none⟩=some (.int .u32 y.1)∧W.cell? ⟨b,off+j * 4+1,none⟩=some (.int .i64 y.2.1)∧W.cell? ⟨b,off+j * 4+2,none⟩=some (.int .i64 y.2.2.1)∧W.cell? ⟨b,off+j * 4+3,none⟩=some p:=by
 obtain ⟨r,h1,h2⟩:=h;obtain ⟨b,off,rfl,hb,hc⟩:=Zir h1 (h2.1.trans hl) h0;refine ⟨b,off,rfl,hb,fun j y hy=>?_⟩;obtain ⟨p,hp,hh⟩:=h2.get hy;exact ⟨p,hh,hc j _ hp⟩
def ZQ (base:Nat) (W:World) (r:List Rn) (l:List Nd):Prop:=r.length=l.length∧(∀ (j:Nat) (x:Rn) (y:Nd),r[j]? = some x→l[j]? = some y→x.1=y.1∧x.2.1=y.2.1∧x.2.2.1=y.2.2.1∧W.ownsRow base 3 1 x.2.2.2 y.2.2.2.length (y.2.2.2.map (Value.int .i64)))∧r.Pairwise fun x y=>x.2.2.2.ownBlock=none∨x.2.2.2.ownBlock≠y.2.2.2.ownBlock
theorem ZQ.rns {base:Nat} {W:World} {r:List Rn} {l:List Nd} (h:ZQ base W r l):Zbt W.heap.size W r l:=⟨h.1,fun j x y hx hy=>by obtain ⟨h1,h2,h3,h4⟩:=h.2.1 j x y hx hy; exact ⟨h1,h2,h3,Zg h4⟩⟩
theorem ZQ.below {base n₀:Nat} {W W':World} {r:List Rn} {l:List Nd} (h:ZQ base W r l) (hb:Below n₀ W W') (hn:W.heap.size≤n₀):ZQ base W' r l:=⟨h.1,fun j x y hx hy=>by obtain ⟨h1,h2,h3,h4⟩:=h.2.1 j x y hx hy; exact ⟨h1,h2,h3,ZL h4 hb hn⟩,h.2.2⟩
theorem ZcN (base:Nat) (W:World):ZQ base W [] []:=⟨rfl,fun j x y h=>by simp at h,List.Pairwise.nil⟩
theorem ZQ.kept {base base' n:Nat} {W W':World} {r:List Rn} {l:List Nd} {v:Value} {xs:List Value} (h:ZQ base W r l) (hv:W.ownsRow base' 103 4 v n xs) (hg:W.grownBy W' v.ownBlock):ZQ base W' r l :=
 ⟨h.1,fun j x y hx hy=>by obtain ⟨h1,h2,h3,h4⟩:=h.2.1 j x y hx hy; exact ⟨h1,h2,h3,h4.kept hg (Zbs h4 hv (by decide))⟩,h.2.2⟩
theorem ZQ.snoc {base m:Nat} {W:World} {r:List Rn} {l:List Nd} (h:ZQ base W r l) {x:Rn} {y:Nd} (e1:x.1=y.1) (e2:x.2.1=y.2.1) (e3:x.2.2.1=y.2.2.1) (hx:W.ownsRow m 3 1 x.2.2.2 y.2.2.2.length (y.2.2.2.map (Value.int .i64))) (hm:base≤m)
  (hlt:∀ u∈r,∀ g,u.2.2.2.ownBlock=some g→g<m):ZQ base W (r++[x]) (l++[y]):=by
 refine ⟨by simp [h.1],fun j u v hu hv=>?_,List.pairwise_append.2 ⟨h.2.2,List.pairwise_singleton _ _,fun u hu v hv=>?_⟩⟩
 ·by_cases hj:j<r.length
  ·rw [List.getElem?_append_left hj] at hu;rw [List.getElem?_append_left (by rw [← h.1]; exact hj)] at hv;exact h.2.1 j u v hu hv
  ·rw [List.getElem?_append_right (by omega)] at hu;rw [List.getElem?_append_right (by rw [← h.1]; omega),← h.1] at hv;have h0:j-r.length=0:=by have:=(List.getElem?_eq_some_iff.1 hu).1; simp at this; omega
   rw [h0] at hu hv;simp at hu hv;subst hu hv;exact ⟨e1,e2,e3,Zaa hx hm⟩
 ·simp at hv;subst hv
  cases ho:u.2.2.2.ownBlock with
  | none=>exact .inl rfl
  | some g =>
   refine .inr fun hc=>?_
   have:=hlt u hu g ho;have:=(hx.lt g hc.symm).1;omega
theorem ZQ.lt {base:Nat} {W:World} {r:List Rn} {l:List Nd} (h:ZQ base W r l):∀ u∈r,∀ g,u.2.2.2.ownBlock=some g→g<W.heap.size:=by
 intro u hu g hg;obtain ⟨j,hj,e⟩:=List.getElem_of_mem hu;have hjl:j<l.length:=by rw [← h.1]; exact hj
 obtain ⟨_,_,_,h4⟩:=h.2.1 j u (l[j]) (by rw [← e]; simp) (by simp);exact (h4.lt g hg).2
def Zap (base:Nat) (W:World) (v:Value) (l:List Nd):Prop:=∃ r,W.ownsRow base 103 4 v l.length (ZG r)∧ZQ base W r l
theorem Zap.nodes {base:Nat} {W:World} {v:Value} {l:List Nd} (h:Zap base W v l):Zae W.heap.size W v l:=by obtain ⟨r,h1,h2⟩:=h; exact ⟨r,ZaK h1,h2.rns⟩
theorem Zap.next {base:Nat} {W W':World} {v:Value} {l:List Nd} (h:Zap base W v l) (hb:Below W.heap.size W W'):Zap base W' v l:=by obtain ⟨r,h1,h2⟩:=h; exact ⟨r,ZL h1 hb (Nat.le_refl _),h2.below hb (Nat.le_refl _)⟩
theorem Zap.cap {base n cap:Nat} {W:World} {a:Option Addr} {l:List Nd} (h:Zap base W (.slice a n cap) l):n≤cap:=by
 obtain ⟨r,h1,h2⟩:=h;rcases h1.2 with ⟨e,_⟩ | ⟨g,c,cur,e,_,_,hk,_⟩
 ·cases e; exact Nat.le_refl _
 ·cases e; exact hk
def Segs (n₀:Nat) (W:World) (v:Value) (S:List (List (Int×Int))):Prop:=∃ (b off cap:Nat) (vs:List Value),v=.slice (some ⟨b,off,none⟩) S.length cap∧b<n₀∧vs.length=S.length∧(∀ (j:Nat) (q:Value),vs[j]? = some q→W.cell? ⟨b,off+j,none⟩=some q)∧∀ (j:Nat) (q:Value) (l:List (Int×Int)),vs[j]? = some q→S[j]? = some l→Syms n₀ W q l
theorem Segs.below {n₀:Nat} {W W':World} {v:Value} {S:List (List (Int×Int))} (h:Segs n₀ W v S) (hb:Below n₀ W W'):Segs n₀ W' v S:=by
 obtain ⟨b,off,cap,vs,h1,h2,h3,h4,h5⟩:=h;exact ⟨b,off,cap,vs,h1,h2,h3,fun j q hq=>(hb.cell (p:=⟨b,off+j,none⟩) h2).trans (h4 j q hq),fun j q l hq hl=>(h5 j q l hq hl).below hb⟩
theorem Segs.mono {n₀ n₁:Nat} {W:World} {v:Value} {S:List (List (Int×Int))} (h:Segs n₀ W v S) (hn:n₀≤n₁):Segs n₁ W v S:=by
 obtain ⟨b,off,cap,vs,h1,h2,h3,h4,h5⟩:=h;exact ⟨b,off,cap,vs,h1,by omega,h3,h4,fun j q l hq hl=>(h5 j q l hq hl).mono hn⟩
theorem Segs.next {W W':World} {v:Value} {S:List (List (Int×Int))} (h:Segs W.heap.size W v S) (hb:Below W.heap.size W W'):Segs W'.heap.size W' v S:=(h.below hb).mono hb.size
theorem Segs.shape {n₀:Nat} {W:World} {v:Value} {S:List (List (Int×Int))} (h:Segs n₀ W v S):∃ b off cap,v=.slice (some ⟨b,off,none⟩) S.length cap∧b<n₀:=by
 obtain ⟨b,off,cap,vs,h1,h2,_⟩:=h;exact ⟨b,off,cap,h1,h2⟩
theorem Zhb {n₀ b off n cap:Nat} {W:World} {S:List (List (Int×Int))} (h:Segs n₀ W (.slice (some ⟨b,off,none⟩) n cap) S) {j:Nat} {l:List (Int×Int)} (hl:S[j]? = some l):∃ a c,W.cell? ⟨b,off+j,none⟩=some (.slice a l.length c)∧Syms n₀ W (.slice a l.length c) l:=by
 obtain ⟨b',off',cap',vs,h1,h2,h3,h4,h5⟩:=h
 cases h1
 have hj:j<vs.length:=by rw [h3]; exact (List.getElem?_eq_some_iff.1 hl).1
 obtain ⟨q,hq⟩:∃ q,vs[j]? = some q:=⟨vs[j],by simp⟩;have hs:=h5 j q l hq hl;obtain ⟨a,c,e⟩:=hs.shape;have hc:=h4 j q hq;rw [e] at hc hs;exact ⟨a,c,hc,hs⟩
theorem Zgh:(Tryz.prog.info? 24).map (fun i=>(i.zero,i.size,i.bytes))=some (some (.slice none 0 0),1,24):=by kernel_rfl
theorem run_append_seg (v:Value) (n base:Nat) (vs:List Value) (x:Value) (hx:ZcZ x) (ty:TypeId) (w:World) (hown:w.ownsRow base 24 1 v n vs) (hb:base≤w.heap.size) (h1:n≤1048576) :
  ∃ v' w',(Builtin.append_ #[127,127] ty #[v,.slice (some ⟨w.heap.size,0,none⟩) 1 1]).run Tryz.prog (w.alloc (.cells #[x] 24))=.ok v' w'∧w'.ownsRow base 24 1 v' (n+1) (vs++[x])∧(w.alloc (.cells #[x] 24)).grownBy w' v.ownBlock:=by
 obtain ⟨i0,hi,hz0,hz1,hz2⟩:=info_parts Zgh;obtain ⟨a,m,c,rfl⟩:=hx;obtain ⟨v',w',hr,ho,hg,_⟩:=run_append_own (P:=Tryz.prog) (w.alloc (.cells #[.slice a m c] 24)) base 127 ty 24 i0 (.slice none 0 0) 1 24 Tryz.underlying127 hi hz0 hz1 hz2 rfl (by decide) v n _ (hown.alloc _) ⟨w.heap.size,0,none⟩ 1 1 [.slice a m c] rfl (World.news_of_block (World.alloc_heap_new _ _)) (by simp [Value.oneCell']) (by unfold maxLen; omega) (by omega) (by simp; omega);exact ⟨v',w',hr,ho,hg⟩
theorem ZeN {W:World} {base k:Nat} {v:Value} {vs:List Value} {S:List (List (Int×Int))} (h:W.ownsRow base 24 1 v k vs) (hk:S.length=k) (h0:0<k) (hS:∀ (j:Nat) (q:Value) (l:List (Int×Int)),vs[j]? = some q→S[j]? = some l→Syms W.heap.size W q l):Segs W.heap.size W v S:=by
 have hl:vs.length=k:=by have:=h.1; omega
 rcases h.2 with ⟨rfl,rfl⟩ | ⟨g,cap,cur,rfl,hb,hg,hkc,_,hs,ht⟩
 ·omega
 ·refine ⟨g,0,cap,vs,by rw [hk],(Array.getElem?_eq_some_iff.1 hg).1,by rw [hl,hk],fun j q hq=>?_,hS⟩;have:=h.cells (g:=g) rfl j q hq;rw [Addr.add_lit] at this;exact this
def Za1 (N:Nat) (l:List (Int×Int)):List (List (Int×Int)):=(List.range N).map (ofL N l)
theorem Zbu (N:Nat) (l:List (Int×Int)):(Za1 N l).length=N:=by simp [Za1]
theorem Zco {N:Nat} {l:List (Int×Int)} {j:Nat} (h:j<N):(Za1 N l)[j]? = some (ofL N l j):=by
 unfold Za1;rw [List.getElem?_map,List.getElem?_range h];rfl
theorem refPiles_any (N:Nat) (p:Int) (a:Option Addr) (cap:Nat) (l:List (Int×Int)) (hp:Zf (N:Int) p l) (w:World) (ha:Syms w.heap.size w (.slice a l.length cap) l) :
  Calls Tryz.prog 93 #[.agg #[.int .i64 N,.int .i64 p,.slice a l.length cap]] w fun e W'=>∃ r,e=.returned r∧Segs W'.heap.size W' r (Za1 N l)∧Below w.heap.size w W':=by
 have hN1:1≤N:=by have:=hp.1.1; omega
 have hN2:N<65:=by have:=hp.1.2.1; omega
 have HP:Hid (Zf (N:Int) p l):=hp;have xB:=Box.new w 26 #[.int .i64 N,.int .i64 p,.slice a l.length cap];have b0:Below w.heap.size w (w.alloc (.cells #[.int .i64 N,.int .i64 p,.slice a l.length cap] 26)):=(Below.refl _ _).alloc (Nat.le_refl _) _;have HA:Hid (Syms w.heap.size w (.slice a l.length cap) l):=ha;clear hp ha;go_enter Tryz.func93,Tryz.ntmps93;go_wp2;obtain ⟨W0,hW0⟩:∃ W,w.alloc (.cells #[.int .i64 N,.int .i64 p,.slice a l.length cap] 26)=W:=⟨_,rfl⟩;rw [hW0] at xB b0 ⊢;clear hW0;have hlB:=xB.lt;go_loopw [3,4] (fun s3 s4 wr=>∃ (k:Nat) (vs:List Value),k≤N∧s4=.int .i64 k∧wr.ownsRow W0.heap.size 24 1 s3 k vs∧(∀ (j:Nat) (q:Value),vs[j]? = some q→∃ m,wr.ownsRow W0.heap.size 87 2 q m (Za (ofL N l j)))∧Below W0.heap.size W0 wr) (fun _ i _=>N-(intOf i).toNat)
 case atStart=>exact ⟨0,[],Nat.zero_le _,rfl,World.ownsRow_nil _ _ _ _,fun j q h=>by simp at h,Below.refl _ _⟩
 case round =>
  obtain ⟨k,vs,hk,rfl,ho,hq,bw⟩:=hrel;have hsz:=bw.size;have xr:=xB.next bw;obtain ⟨c0,c1,c2⟩:=xr.c3;by_cases hlt:k<N
  ·have hvl:vs.length=k:=by have:=ho.1; omega
   have HC:=refOf_in N p k a cap l HP.out wr (HA.out.next (b0.trans (bw.mono b0.size)));have HVL:Hid (vs.length=k):=hvl;clear hvl;go_wp2_with fail;refine HC.mono ?_;rintro e w2 ⟨r,rfl,o2,b2⟩;clear HC;have hsv:ZcZ r:=by obtain ⟨a2,c2,e2⟩:=(Zj o2).shape; exact ⟨_,_,_,e2⟩
   obtain ⟨a2,n2,c2',rfl⟩:=hsv;have ho2:=ZL ho b2 (Nat.le_refl _);obtain ⟨v4,w4,hr4,ho4,hg4⟩:=run_append_seg _ k W0.heap.size vs (.slice a2 n2 c2') ⟨_,_,_,rfl⟩ 127 w2 ho2 (Nat.le_trans hsz b2.size) (by omega);have b4:Below W0.heap.size W0 w4:=((bw.trans (b2.mono hsz)).alloc (Nat.le_trans hsz b2.size) _).grown hg4 (by have:=b2.size; simp only [World.size_alloc]; omega) (fun z e=>(ho2.lt z e).1)
   have HQ4:Hid (∀ (j:Nat) (q:Value),(vs++[.slice a2 n2 c2'])[j]? = some q→∃ m,w4.ownsRow W0.heap.size 87 2 q m (Za (ofL N l j))):=by
    intro j q hjq;by_cases hj:j<vs.length
    ·rw [List.getElem?_append_left hj] at hjq;obtain ⟨m,hm⟩:=hq j q hjq;have h1:=(ZL hm b2 (Nat.le_refl _)).alloc (.cells #[.slice a2 n2 c2'] 24);exact ⟨m,h1.kept hg4 (Zbs h1 (ho2.alloc _) (by decide))⟩
    ·rw [List.getElem?_append_right (by omega)] at hjq;have h0:j-vs.length=0:=by have:=(List.getElem?_eq_some_iff.1 hjq).1; simp at this; omega
     have ej:j=k:=by rw [← HVL.out]; omega
     rw [h0] at hjq;simp at hjq;subst hjq;have h1:=(Zaa o2 hsz).alloc (.cells #[.slice a2 n2 c2'] 24);rw [ej];exact ⟨_,h1.kept hg4 (Zbs h1 (ho2.alloc _) (by decide))⟩
   have HR:Hid _:=hr4;clear hr4 ho2 o2 b2 hg4 hq ho c0 c1 c2;go_wp2_with (at_builtin; refine Zc rfl _ _ 127 rfl _ _ rfl rfl _ _ HR.out ?_);exact ⟨⟨k+1,_,by omega,by go_num,ho4,HQ4.out,b4⟩,by simp [intOf]; omega⟩
  ·obtain rfl:k=N:=by omega
   go_wp2;go_ret;refine ⟨_,rfl,ZeN ho (Zbu _ _) (by omega) (fun j q l' hjq hl'=>?_),b0.trans (bw.mono b0.size)⟩;have hj:j<k:=by have:=(List.getElem?_eq_some_iff.1 hl').1; rwa [Zbu] at this
   rw [Zco hj] at hl'
   cases hl'
   obtain ⟨m,hm⟩:=hq j q hjq;exact Zj hm
end Go.Proofs.YtabdnhkdoeibnaaGreatDoor
