/-
  Lists of numbers in memory: what a slice holds ('Holds'), and that it holds it on as long as the blocks below a bound lie as they lay. No function of the program is spoken of.
-/
import Derived.Deep.AppendLies
import Derived.Deep.Quiet
import Derived.Deep.RegionHeldLaw
import Derived.OpenShut
import Derived.RangeFuncBox
import Derived.Test.YtabdnhkdoeibnaaGreatDoorRows
import Derived.WalkKit
namespace Go.Proofs.YtabdnhkdoeibnaaGreatDoor
open Go.RowKit
def Zb (kd:IntKind) (n₀:Nat) (W:World) (v:Value) (zs:List Int):Prop :=
 ((∃ a cap,v=.slice a 0 cap∧(a=none→cap=0))∧zs=[])∨∃ b off cap,v=.slice (some ⟨b,off,none⟩) zs.length cap∧b<n₀∧∀ j,j<zs.length→W.cell? ⟨b,off+j,none⟩=some (.int kd (zs[j]?.getD 0))
theorem Zi {B:Nat} {a w:World} (h:Below B a w) (n:Nat):Below B a (w.drewN n):=⟨h.os,h.tape,h.output,h.size,h.block⟩
theorem Zb.below {kd:IntKind} {n₀:Nat} {W W':World} {v:Value} {zs:List Int} (h:Zb kd n₀ W v zs) (hb:Below n₀ W W'):Zb kd n₀ W' v zs:=by
 rcases h with h | ⟨b,off,cap,hv,hlt,hc⟩
 ·exact .inl h
 ·exact .inr ⟨b,off,cap,hv,hlt,fun j hj=>(hb.cell (p:=⟨b,off+j,none⟩) hlt).trans (hc j hj)⟩
theorem Zb.mono {kd:IntKind} {n₀ n₁:Nat} {W:World} {v:Value} {zs:List Int} (h:Zb kd n₀ W v zs) (hn:n₀≤n₁):Zb kd n₁ W v zs:=by
 rcases h with h | ⟨b,off,cap,hv,hlt,hc⟩
 ·exact .inl h
 ·exact .inr ⟨b,off,cap,hv,by omega,hc⟩
theorem Zb.shape {kd:IntKind} {n₀:Nat} {W:World} {v:Value} {zs:List Int} (h:Zb kd n₀ W v zs):∃ a cap,v=.slice a zs.length cap:=by
 rcases h with ⟨⟨a,cap,rfl,_⟩,rfl⟩ | ⟨b,off,cap,rfl,_,_⟩
 ·exact ⟨_,_,rfl⟩
 ·exact ⟨_,_,rfl⟩
theorem Zg {kd:IntKind} {W:World} {base k:Nat} {e:TypeId} {v:Value} {zs:List Int} (h:W.ownsRow base e 1 v k (zs.map (Value.int kd))):Zb kd W.heap.size W v zs:=by
 have hl:zs.length=k:=by have:=h.1; simpa using this
 rcases h.2 with ⟨rfl,rfl⟩ | ⟨g,cap,cur,rfl,hb,hg,hk,_,hs,ht⟩
 ·exact .inl ⟨⟨_,_,rfl,fun _=>rfl⟩,List.length_eq_zero_iff.1 hl⟩
 ·refine .inr ⟨g,0,cap,by rw [hl],(Array.getElem?_eq_some_iff.1 hg).1,fun j hj=>?_⟩;have:=h.cells (g:=g) rfl j (.int kd (zs[j]?.getD 0)) (by simp [hj]);by_cases h0:j=0
  ·subst h0; simpa [Addr.add] using this
  ·simpa [Addr.add,h0] using this
def ZhY (k:IntKind) (w:World) (a:Option Addr) (len cap:Nat) (zs:List Int):Prop :=
 (a=none∧len=0∧cap=0∧zs=[]) ∨
 ∃ x,a=some x∧len≤cap∧cap≤maxLen∧zs.length=cap∧(∀ i,i<zs.length→w.cell? (x.add i)=some (.int k (zs.getD i 0)))∧∀ n∈zs,(Lit.int k n).wf=true
theorem ZaQ {w:World} {p:Addr} {v:Value} (h:w.cell? p=some v):p.block<w.heap.size:=by
 cases hb:w.heap[p.block]? with
 | none=>simp [World.cell?,hb] at h
 | some o=>exact (Array.getElem?_eq_some_iff.1 hb).1
theorem ZcX {kd:IntKind} {w:World} {a:Option Addr} {len cap:Nat} {zs:List Int} (h:ZhY kd w a len cap zs) :
  ∃ ys:List Int,ys.length=len∧Zb kd w.heap.size w (.slice a len cap) ys∧∀ n∈ys,(Lit.int kd n).wf=true:=by
 rcases h with ⟨rfl,rfl,rfl,rfl⟩ | ⟨x,rfl,hl,_,hz,hc,hw⟩
 ·exact ⟨[],rfl,.inl ⟨⟨_,_,rfl,fun _=>rfl⟩,rfl⟩,by simp⟩
 ·by_cases h0:len=0
  ·subst h0;exact ⟨[],rfl,.inl ⟨⟨_,_,rfl,fun e=>by cases e⟩,rfl⟩,by simp⟩
  ·obtain ⟨b,off,rfl,hc'⟩:=ints_at hc (by omega);have hlen:(zs.take len).length=len:=by rw [List.length_take]; omega
   have hlt:=ZaQ (hc' 0 (by omega));refine ⟨zs.take len,hlen,.inr ⟨b,off,cap,by rw [hlen],hlt,fun j hj=>?_⟩,fun n hn=>hw n (List.mem_of_mem_take hn)⟩;rw [hlen] at hj;have:=hc' j (by omega);rw [this];simp [List.getD,hj]
theorem Zhm {ys:List Int} (h:∀ n∈ys,(Lit.int .u8 n).wf=true):∀ n∈ys,0≤n∧n≤255:=fun n hn=>bounds_u8 (h n hn)
theorem Zh {W W':World} {base k n₀:Nat} {e:TypeId} {v:Value} {xs:List Value} (h:W.ownsRow base e 1 v k xs) (hb:Below n₀ W W') (hn:W.heap.size≤n₀):W'.ownsRow base e 1 v k xs:=by
 refine ⟨h.1,?_⟩;rcases h.2 with h0 | ⟨g,cap,cur,hv,hbs,hg,hk,hm,hs,ht⟩
 ·exact .inl h0
 ·exact .inr ⟨g,cap,cur,hv,hbs,(hb.block g (by have:=(Array.getElem?_eq_some_iff.1 hg).1; omega)).trans hg,hk,hm,hs,ht⟩
theorem Zm {W:World} {base base' k:Nat} {e:TypeId} {v:Value} {xs:List Value} (h:W.ownsRow base e 1 v k xs) (hn:base'≤base):W.ownsRow base' e 1 v k xs:=by
 refine ⟨h.1,?_⟩;rcases h.2 with h0 | ⟨g,cap,cur,hv,hbs,hg,hk,hm,hs,ht⟩
 ·exact .inl h0
 ·exact .inr ⟨g,cap,cur,hv,by omega,hg,hk,hm,hs,ht⟩
structure Cfg where
 cB:Int
 cBeam:Int
 cDepth:Int
 cWin:Int
 cQs:Int
 cQr:Int
 cBatch:Int
 cPass:Int
 cMsg:Int
 cSeqs:Int
def inC (n lo hi:Int):Bool:=decide (lo≤n) && decide (n≤hi)
theorem Zg5 (n lo hi:Int):inC n lo hi=true↔lo≤n∧n≤hi:=by simp [inC]
def okC (c:Cfg):Bool:=inC c.cB 1 16 && inC c.cBeam 1 16 && inC c.cDepth 1 3 && inC c.cWin 1 16 && inC c.cQs 1 16 && inC c.cQr 1 16 && inC c.cBatch 1 64 && inC c.cPass 4 16 && inC c.cMsg 0 200 && inC c.cSeqs 0 1073741824
theorem Zah (c:Cfg):okC c=true↔(1≤c.cB∧c.cB≤16)∧(1≤c.cBeam∧c.cBeam≤16)∧(1≤c.cDepth∧c.cDepth≤3)∧(1≤c.cWin∧c.cWin≤16)∧(1≤c.cQs∧c.cQs≤16)∧(1≤c.cQr∧c.cQr≤16)∧(1≤c.cBatch∧c.cBatch≤64)∧(4≤c.cPass∧c.cPass≤16)∧(0≤c.cMsg∧c.cMsg≤200)∧(0≤c.cSeqs∧c.cSeqs≤1073741824):=by
 simp only [okC,Bool.and_eq_true,Zg5];omega
def segsC (c:Cfg):Int:=2 * (c.cB+10)
def Zg6 (c:Cfg):Int:=segsC c * c.cPass
def Zf8 (c:Cfg):Int:=if okC c then segsC c else 0
def ZbO (c:Cfg):Int:=if okC c then 0 else 1
theorem Zb3 {c:Cfg} (h:okC c=true):22≤segsC c∧segsC c≤52:=by
 have:=(Zah c).1 h;unfold segsC; omega
theorem mostC_bd {c:Cfg} (h:okC c=true):88≤Zg6 c∧Zg6 c≤832:=by
 have h1:=Zb3 h;have h2:=((Zah c).1 h).2.2.2.2.2.2.2.1;unfold Zg6;have a1:22 * c.cPass≤segsC c * c.cPass:=Int.mul_le_mul_of_nonneg_right h1.1 (by omega);have a2:segsC c * c.cPass≤52 * c.cPass:=Int.mul_le_mul_of_nonneg_right h1.2 (by omega);omega
theorem Zb.next {kd:IntKind} {W W':World} {v:Value} {zs:List Int} (h:Zb kd W.heap.size W v zs) (hb:Below W.heap.size W W'):Zb kd W'.heap.size W' v zs:=(h.below hb).mono hb.size
theorem Zc2 {w w':World} {base e n:Nat} {v:Value} {xs:List Value} (hown:w.ownsRow base e 1 v n xs) (hg:w.grownBy w' v.ownBlock) (hb:base≤w.heap.size):Below base w w' :=
 (Below.refl _ w).grown hg hb (fun k e=>(hown.lt k e).1)
def Kept (kd:IntKind) (W:World) (v:Value) (xs:List Int):Prop:=Zb kd W.heap.size W v xs∧∃ a c,v=.slice a xs.length c∧xs.length≤c
theorem Zb4 {kd:IntKind} {W:World} {base k:Nat} {e:TypeId} {v:Value} {zs:List Int} (h:W.ownsRow base e 1 v k (zs.map (Value.int kd))):Kept kd W v zs:=by
 have hl:zs.length=k:=by have:=h.1; simpa using this
 refine ⟨Zg h,?_⟩;rcases h.2 with ⟨rfl,rfl⟩ | ⟨g,cap,cur,rfl,_,_,hk,_⟩
 ·exact ⟨none,0,by rw [hl],by omega⟩
 ·exact ⟨_,cap,by rw [hl],by omega⟩
theorem Kept.next {kd:IntKind} {W W':World} {v:Value} {xs:List Int} (h:Kept kd W v xs) (hb:Below W.heap.size W W'):Kept kd W' v xs:=⟨h.1.next hb,h.2⟩
theorem Kept.drewN {kd:IntKind} {W:World} {v:Value} {xs:List Int} (h:Kept kd W v xs) (n:Nat):Kept kd (W.drewN n) v xs:=h
theorem held_new (kd:IntKind) (w:World) (zs:List Int) (cap:Nat) (t:TypeId) (fr:Nat×Nat):Zb kd (w.alloc (.cells (zs.map (Value.int kd)).toArray t fr)).heap.size (w.alloc (.cells (zs.map (Value.int kd)).toArray t fr)) (.slice (some ⟨w.heap.size,0,none⟩) zs.length cap) zs:=by
 refine .inr ⟨w.heap.size,0,cap,rfl,by simp,fun j hj=>?_⟩;have:=World.news_of_block (World.alloc_heap_new w (.cells (zs.map (Value.int kd)).toArray t fr)) j (.int kd (zs[j]?.getD 0)) (by simp [hj]);rwa [Addr.add_lit] at this
def firsts:List Nat:=[0,4,2,6,1,5,3,7]
def ZJ (n f:Nat):List Nat:=(List.range ((n+7-f) / 8)).map fun j=>f+8 * j
def ZS (n:Nat):List Nat:=firsts.flatMap (ZJ n)
def Zhn (n:Nat):List Int:=(ZS n).map fun x:Nat=>(x:Int)
theorem ZcF:∀ n,n<65→(ZS n).length=n:=by decide +kernel
theorem orderN_lt:∀ n,n<65→∀ x∈ZS n,x<n:=by decide +kernel
theorem orderN_once:∀ n,n<65→(ZS n).Nodup:=by decide +kernel
theorem orderN_all:∀ n,n<65→∀ s,s<n→s∈ZS n:=by decide +kernel
theorem orderL_get {n k x:Nat} (h:(ZS n)[k]? = some x):(Zhn n)[k]? = some (x:Int):=by simp [Zhn,h]
theorem orderN_get {n k:Nat} (hn:n<65) (hk:k<n):∃ x,(ZS n)[k]? = some x∧x<n:=by
 have hl:=ZcF n hn;have hk':k<(ZS n).length:=by omega
 exact ⟨(ZS n)[k],by simp,orderN_lt n hn _ (List.getElem_mem hk')⟩
theorem ZgA {n j k x:Nat} (hn:n<65) (hj:(ZS n)[j]? = some x) (hk:(ZS n)[k]? = some x):j=k:=by
 have h1:=(List.getElem?_eq_some_iff.1 hj);have h2:=(List.getElem?_eq_some_iff.1 hk);exact (List.getElem_inj (orderN_once n hn)).1 (h1.2.trans h2.2.symm)
def posN (n s:Nat):Nat:=(ZS n).idxOf s
theorem Zej {n s:Nat} (hn:n<65) (hs:s<n):(ZS n)[posN n s]? = some s:=by
 have hm:=orderN_all n hn s hs;have hlt:=List.idxOf_lt_length_of_mem hm;unfold posN;rw [List.getElem?_eq_getElem hlt,List.getElem_idxOf]
theorem Zev {n s:Nat} (hn:n<65) (hs:s<n):posN n s<n:=by
 have h:=(List.getElem?_eq_some_iff.1 (Zej hn hs)).1;rwa [ZcF n hn] at h
theorem posN_of {n s k:Nat} (hn:n<65) (hs:s<n) (h:(ZS n)[k]? = some s):posN n s=k:=ZgA hn (Zej hn hs) h
theorem eighth_get {n f j:Nat} (h:f+8 * j<n):(ZJ n f)[j]? = some (f+8 * j):=by
 unfold ZJ;rw [List.getElem?_map,List.getElem?_range (by omega)];rfl
theorem ZdD (n f:Nat):(ZJ n f).length=(n+7-f) / 8:=by simp [ZJ]
def ZN (n c:Nat):List Nat:=(firsts.take c).flatMap (ZJ n)
theorem Zc3 {n c f:Nat} (h:firsts[c]? = some f):ZN n (c+1)=ZN n c++ZJ n f:=by
 unfold ZN;rw [List.take_add_one,h];simp
theorem Zfm (n:Nat):ZN n 8=ZS n:=rfl
theorem Zfn:∀ n,n<65→∀ c,c<9→(ZN n c).length≤64:=by decide +kernel
theorem Zfo {n f:Nat} (hn:n<65):(ZJ n f).length≤8:=by rw [ZdD]; omega
def ints (l:List Nat):List Int:=l.map fun x:Nat=>(x:Int)
theorem ints_len (l:List Nat):(ints l).length=l.length:=by simp [ints]
theorem ints_snoc (l:List Nat) (x:Nat):ints (l++[x])=ints l++[(x:Int)]:=by simp [ints]
theorem Zfp:∀ c,c<8→∃ f,firsts[c]? = some f∧f<8:=by
 intro c hc
 match c,hc with
 | 0,_=>exact ⟨0,rfl,by decide⟩
 | 1,_=>exact ⟨4,rfl,by decide⟩
 | 2,_=>exact ⟨2,rfl,by decide⟩
 | 3,_=>exact ⟨6,rfl,by decide⟩
 | 4,_=>exact ⟨1,rfl,by decide⟩
 | 5,_=>exact ⟨5,rfl,by decide⟩
 | 6,_=>exact ⟨3,rfl,by decide⟩
 | 7,_=>exact ⟨7,rfl,by decide⟩
theorem Zew {n f j:Nat} (h:f+8 * j<n):(ZJ n f).take (j+1)=(ZJ n f).take j++[f+8 * j]:=by
 rw [List.take_add_one,eighth_get h]; rfl
theorem order_cell {W:World} {base n:Nat} {r:Value} (h1:1≤n) (h:W.ownsRow base 3 1 r n ((Zhn n).map (Value.int .i64))):∃ g cap,r=.slice (some ⟨g,0,none⟩) n cap∧base≤g∧g<W.heap.size∧∀ k x:Nat,(ZS n)[k]? = some x→W.cell? ⟨g,k,none⟩=some (.int .i64 (x:Int)):=by
 rcases h.2 with ⟨_,e0⟩ | ⟨g,c,cur,e,hb,hg,_⟩
 ·omega
 ·refine ⟨g,c,e,hb,(Array.getElem?_eq_some_iff.1 hg).1,fun k x hk=>?_⟩;subst e;have:=h.cells (g:=g) rfl k (.int .i64 (x:Int)) (by simp [orderL_get hk]);rw [Addr.add_lit,Nat.zero_add] at this;exact this
def Box (W:World) (B:Nat) (t:TypeId) (cs:Array Value):Prop:=W.heap[B]? = some (.cells cs t (0,0))
theorem Box.lt {W:World} {B:Nat} {t:TypeId} {cs:Array Value} (h:Box W B t cs):B<W.heap.size:=(Array.getElem?_eq_some_iff.1 h).1
theorem Box.cell {W:World} {B:Nat} {t:TypeId} {cs:Array Value} (h:Box W B t cs) (i:Nat) (v:Value) (hv:cs[i]? = some v):W.cell? ⟨B,i,none⟩=some v:=by simp [World.cell?,show W.heap[B]? = _ from h,hv]
theorem Box.free {W:World} {B:Nat} {t:TypeId} {cs:Array Value} (h:Box W B t cs) (i:Nat):W.frozen? ⟨B,i,none⟩=false:=by simp [World.frozen?,show W.heap[B]? = _ from h]
theorem Box.new (W:World) (t:TypeId) (cs:Array Value):Box (W.alloc (.cells cs t)) W.heap.size t cs:=World.alloc_heap_new W _
theorem Box.below {W W':World} {B n:Nat} {t:TypeId} {cs:Array Value} (h:Box W B t cs) (hb:Below n W W') (hn:B<n):Box W' B t cs:=(hb.block B hn).trans h
theorem Box.next {W W':World} {B:Nat} {t:TypeId} {cs:Array Value} (h:Box W B t cs) (hb:Below W.heap.size W W'):Box W' B t cs:=h.below hb h.lt
theorem Box.alloc {W:World} {B:Nat} {t:TypeId} {cs:Array Value} (h:Box W B t cs) (o:Obj):Box (W.alloc o) B t cs:=(Below.heap_alloc W o B h.lt).trans h
theorem Box.drewN {W:World} {B:Nat} {t:TypeId} {cs:Array Value} (h:Box W B t cs) (n:Nat):Box (W.drewN n) B t cs:=h
theorem Box.other {W:World} {B:Nat} {t:TypeId} {cs:Array Value} (h:Box W B t cs) {p:Addr} (hp:B≠p.block) (v:Value):Box (W.setCell p v) B t cs:=(Below.heap_setCell W p v B hp).trans h
theorem Box.set {W:World} {B:Nat} {t:TypeId} {cs:Array Value} (h:Box W B t cs) (i:Nat) (v:Value):Box (W.setCell ⟨B,i,none⟩ v) B t (cs.setIfInBounds i v):=by
 unfold Box at h ⊢;obtain ⟨hlt,he⟩:=Array.getElem?_eq_some_iff.1 h;refine Array.getElem?_eq_some_iff.2 ⟨by simpa [World.setCell] using hlt,?_⟩;simp only [World.setCell];rw [Array.getElem_modify];simp [he]
theorem Box.set3 {W:World} {B:Nat} {t:TypeId} {x y z:Value} (h:Box W B t #[x,y,z]) (x' y' z':Value):Box (((W.setCell ⟨B,0,none⟩ x').setCell ⟨B,1,none⟩ y').setCell ⟨B,2,none⟩ z') B t #[x',y',z']:=((h.set 0 x').set 1 y').set 2 z'
theorem Box.other3 {W:World} {B:Nat} {t:TypeId} {cs:Array Value} (h:Box W B t cs) {D:Nat} (hp:B≠D) (x y z:Value):Box (((W.setCell ⟨D,0,none⟩ x).setCell ⟨D,1,none⟩ y).setCell ⟨D,2,none⟩ z) B t cs:=((h.other (p:=⟨D,0,none⟩) hp x).other (p:=⟨D,1,none⟩) hp y).other (p:=⟨D,2,none⟩) hp z
theorem Zx {W V:World} {n:Nat} (h:Below n W V) {D:Nat} (hD:n≤D) (x y z:Value):Below n W (((V.setCell ⟨D,0,none⟩ x).setCell ⟨D,1,none⟩ y).setCell ⟨D,2,none⟩ z):=((h.setCell (p:=⟨D,0,none⟩) hD x).setCell (p:=⟨D,1,none⟩) hD y).setCell (p:=⟨D,2,none⟩) hD z
theorem ZbC {w:World} {base:Nat} {e:TypeId} {size:Nat} {v:Value} {n:Nat} {xs:List Value} (h:w.ownsRow base e size v n xs) {D:Nat} (hD:D<base) (x y z:Value):(((w.setCell ⟨D,0,none⟩ x).setCell ⟨D,1,none⟩ y).setCell ⟨D,2,none⟩ z).ownsRow base e size v n xs:=ownsRow_setCell_below (ownsRow_setCell_below (ownsRow_setCell_below h (a:=⟨D,0,none⟩) hD x) (a:=⟨D,1,none⟩) hD y) (a:=⟨D,2,none⟩) hD z
theorem Box.c3 {W:World} {B:Nat} {t:TypeId} {cs:Array Value} {x0 x1 x2:Value} (h:Box W B t cs) (h0:cs[0]? = some x0:=by exact rfl) (h1:cs[1]? = some x1:=by exact rfl) (h2:cs[2]? = some x2:=by exact rfl):W.cell? ⟨B,0,none⟩=some x0∧W.cell? ⟨B,1,none⟩=some x1∧W.cell? ⟨B,2,none⟩=some x2:=⟨h.cell 0 _ h0,h.cell 1 _ h1,h.cell 2 _ h2⟩
theorem Box.h3 {W:World} {B:Nat} {t:TypeId} {cs:Array Value} {x0 x1 x2:Value} (h:Box W B t cs) (h0:cs[0]? = some x0:=by exact rfl) (h1:cs[1]? = some x1:=by exact rfl) (h2:cs[2]? = some x2:=by exact rfl):Hid (W.cell? ⟨B,0,none⟩=some x0)∧Hid (W.cell? ⟨B,1,none⟩=some x1)∧Hid (W.cell? ⟨B,2,none⟩=some x2):=⟨h.cell 0 _ h0,h.cell 1 _ h1,h.cell 2 _ h2⟩
theorem Box.f3 {W:World} {B:Nat} {t:TypeId} {cs:Array Value} (h:Box W B t cs):W.frozen? ⟨B,0,none⟩=false∧W.frozen? ⟨B,1,none⟩=false∧W.frozen? ⟨B,2,none⟩=false:=⟨h.free 0,h.free 1,h.free 2⟩
theorem Box.c4 {W:World} {B:Nat} {t:TypeId} {cs:Array Value} {x0 x1 x2 x3:Value} (h:Box W B t cs) (h0:cs[0]? = some x0:=by exact rfl) (h1:cs[1]? = some x1:=by exact rfl) (h2:cs[2]? = some x2:=by exact rfl) (h3:cs[3]? = some x3:=by exact rfl):W.cell? ⟨B,0,none⟩=some x0∧W.cell? ⟨B,1,none⟩=some x1∧W.cell? ⟨B,2,none⟩=some x2∧W.cell? ⟨B,3,none⟩=some x3:=⟨h.cell 0 _ h0,h.cell 1 _ h1,h.cell 2 _ h2,h.cell 3 _ h3⟩
theorem Box.h4 {W:World} {B:Nat} {t:TypeId} {cs:Array Value} {x0 x1 x2 x3:Value} (h:Box W B t cs) (h0:cs[0]? = some x0:=by exact rfl) (h1:cs[1]? = some x1:=by exact rfl) (h2:cs[2]? = some x2:=by exact rfl) (h3:cs[3]? = some x3:=by exact rfl):Hid (W.cell? ⟨B,0,none⟩=some x0)∧Hid (W.cell? ⟨B,1,none⟩=some x1)∧Hid (W.cell? ⟨B,2,none⟩=some x2)∧Hid (W.cell? ⟨B,3,none⟩=some x3):=⟨h.cell 0 _ h0,h.cell 1 _ h1,h.cell 2 _ h2,h.cell 3 _ h3⟩
theorem Box.f4 {W:World} {B:Nat} {t:TypeId} {cs:Array Value} (h:Box W B t cs):W.frozen? ⟨B,0,none⟩=false∧W.frozen? ⟨B,1,none⟩=false∧W.frozen? ⟨B,2,none⟩=false∧W.frozen? ⟨B,3,none⟩=false:=⟨h.free 0,h.free 1,h.free 2,h.free 3⟩
theorem Box.c5 {W:World} {B:Nat} {t:TypeId} {cs:Array Value} {x0 x1 x2 x3 x4:Value} (h:Box W B t cs) (h0:cs[0]? = some x0:=by exact rfl) (h1:cs[1]? = some x1:=by exact rfl) (h2:cs[2]? = some x2:=by exact rfl) (h3:cs[3]? = some x3:=by exact rfl) (h4:cs[4]? = some x4:=by exact rfl):W.cell? ⟨B,0,none⟩=some x0∧W.cell? ⟨B,1,none⟩=some x1∧W.cell? ⟨B,2,none⟩=some x2∧W.cell? ⟨B,3,none⟩=some x3∧W.cell? ⟨B,4,none⟩=some x4:=⟨h.cell 0 _ h0,h.cell 1 _ h1,h.cell 2 _ h2,h.cell 3 _ h3,h.cell 4 _ h4⟩
theorem Box.h5 {W:World} {B:Nat} {t:TypeId} {cs:Array Value} {x0 x1 x2 x3 x4:Value} (h:Box W B t cs) (h0:cs[0]? = some x0:=by exact rfl) (h1:cs[1]? = some x1:=by exact rfl) (h2:cs[2]? = some x2:=by exact rfl) (h3:cs[3]? = some x3:=by exact rfl) (h4:cs[4]? = some x4:=by exact rfl):Hid (W.cell? ⟨B,0,none⟩=some x0)∧Hid (W.cell? ⟨B,1,none⟩=some x1)∧Hid (W.cell? ⟨B,2,none⟩=some x2)∧Hid (W.cell? ⟨B,3,none⟩=some x3)∧Hid (W.cell? ⟨B,4,none⟩=some x4):=⟨h.cell 0 _ h0,h.cell 1 _ h1,h.cell 2 _ h2,h.cell 3 _ h3,h.cell 4 _ h4⟩
theorem Box.c7 {W:World} {B:Nat} {t:TypeId} {cs:Array Value} {x0 x1 x2 x3 x4 x5 x6:Value} (h:Box W B t cs) (h0:cs[0]? = some x0:=by exact rfl) (h1:cs[1]? = some x1:=by exact rfl) (h2:cs[2]? = some x2:=by exact rfl) (h3:cs[3]? = some x3:=by exact rfl) (h4:cs[4]? = some x4:=by exact rfl) (h5:cs[5]? = some x5:=by exact rfl) (h6:cs[6]? = some x6:=by exact rfl):W.cell? ⟨B,0,none⟩=some x0∧W.cell? ⟨B,1,none⟩=some x1∧W.cell? ⟨B,2,none⟩=some x2∧W.cell? ⟨B,3,none⟩=some x3∧W.cell? ⟨B,4,none⟩=some x4∧W.cell? ⟨B,5,none⟩=some x5∧W.cell? ⟨B,6,none⟩=some x6:=⟨h.cell 0 _ h0,h.cell 1 _ h1,h.cell 2 _ h2,h.cell 3 _ h3,h.cell 4 _ h4,h.cell 5 _ h5,h.cell 6 _ h6⟩
theorem Box.h7 {W:World} {B:Nat} {t:TypeId} {cs:Array Value} {x0 x1 x2 x3 x4 x5 x6:Value} (h:Box W B t cs) (h0:cs[0]? = some x0:=by exact rfl) (h1:cs[1]? = some x1:=by exact rfl) (h2:cs[2]? = some x2:=by exact rfl) (h3:cs[3]? = some x3:=by exact rfl) (h4:cs[4]? = some x4:=by exact rfl) (h5:cs[5]? = some x5:=by exact rfl) (h6:cs[6]? = some x6:=by exact rfl):Hid (W.cell? ⟨B,0,none⟩=some x0)∧Hid (W.cell? ⟨B,1,none⟩=some x1)∧Hid (W.cell? ⟨B,2,none⟩=some x2)∧Hid (W.cell? ⟨B,3,none⟩=some x3)∧Hid (W.cell? ⟨B,4,none⟩=some x4)∧Hid (W.cell? ⟨B,5,none⟩=some x5)∧Hid (W.cell? ⟨B,6,none⟩=some x6):=⟨h.cell 0 _ h0,h.cell 1 _ h1,h.cell 2 _ h2,h.cell 3 _ h3,h.cell 4 _ h4,h.cell 5 _ h5,h.cell 6 _ h6⟩
theorem Box.f7 {W:World} {B:Nat} {t:TypeId} {cs:Array Value} (h:Box W B t cs):W.frozen? ⟨B,0,none⟩=false∧W.frozen? ⟨B,1,none⟩=false∧W.frozen? ⟨B,2,none⟩=false∧W.frozen? ⟨B,3,none⟩=false∧W.frozen? ⟨B,4,none⟩=false∧W.frozen? ⟨B,5,none⟩=false∧W.frozen? ⟨B,6,none⟩=false:=⟨h.free 0,h.free 1,h.free 2,h.free 3,h.free 4,h.free 5,h.free 6⟩
theorem Box.c10 {W:World} {B:Nat} {t:TypeId} {cs:Array Value} {x0 x1 x2 x3 x4 x5 x6 x7 x8 x9:Value} (h:Box W B t cs) (h0:cs[0]? = some x0:=by exact rfl) (h1:cs[1]? = some x1:=by exact rfl) (h2:cs[2]? = some x2:=by exact rfl) (h3:cs[3]? = some x3:=by exact rfl) (h4:cs[4]? = some x4:=by exact rfl) (h5:cs[5]? = some x5:=by exact rfl) (h6:cs[6]? = some x6:=by exact rfl) (h7:cs[7]? = some x7:=by exact rfl) (h8:cs[8]? = some x8:=by exact rfl) (h9:cs[9]? = some x9:=by exact rfl):W.cell? ⟨B,0,none⟩=some x0∧W.cell? ⟨B,1,none⟩=some x1∧W.cell? ⟨B,2,none⟩=some x2∧W.cell? ⟨B,3,none⟩=some x3∧W.cell? ⟨B,4,none⟩=some x4∧W.cell? ⟨B,5,none⟩=some x5∧W.cell? ⟨B,6,none⟩=some x6∧W.cell? ⟨B,7,none⟩=some x7∧W.cell? ⟨B,8,none⟩=some x8∧W.cell? ⟨B,9,none⟩=some x9:=⟨h.cell 0 _ h0,h.cell 1 _ h1,h.cell 2 _ h2,h.cell 3 _ h3,h.cell 4 _ h4,h.cell 5 _ h5,h.cell 6 _ h6,h.cell 7 _ h7,h.cell 8 _ h8,h.cell 9 _ h9⟩
theorem Box.h10 {W:World} {B:Nat} {t:TypeId} {cs:Array Value} {x0 x1 x2 x3 x4 x5 x6 x7 x8 x9:Value} (h:Box W B t cs) (h0:cs[0]? = some x0:=by exact rfl) (h1:cs[1]? = some x1:=by exact rfl) (h2:cs[2]? = some x2:=by exact rfl) (h3:cs[3]? = some x3:=by exact rfl) (h4:cs[4]? = some x4:=by exact rfl) (h5:cs[5]? = some x5:=by exact rfl) (h6:cs[6]? = some x6:=by exact rfl) (h7:cs[7]? = some x7:=by exact rfl) (h8:cs[8]? = some x8:=by exact rfl) (h9:cs[9]? = some x9:=by exact rfl):Hid (W.cell? ⟨B,0,none⟩=some x0)∧Hid (W.cell? ⟨B,1,none⟩=some x1)∧Hid (W.cell? ⟨B,2,none⟩=some x2)∧Hid (W.cell? ⟨B,3,none⟩=some x3)∧Hid (W.cell? ⟨B,4,none⟩=some x4)∧Hid (W.cell? ⟨B,5,none⟩=some x5)∧Hid (W.cell? ⟨B,6,none⟩=some x6)∧Hid (W.cell? ⟨B,7,none⟩=some x7)∧Hid (W.cell? ⟨B,8,none⟩=some x8)∧Hid (W.cell? ⟨B,9,none⟩=some x9):=⟨h.cell 0 _ h0,h.cell 1 _ h1,h.cell 2 _ h2,h.cell 3 _ h3,h.cell 4 _ h4,h.cell 5 _ h5,h.cell 6 _ h6,h.cell 7 _ h7,h.cell 8 _ h8,h.cell 9 _ h9⟩
theorem ZbP {P:Program} {ops:Array Oper} {Q:Exit→Act→World→Prop} {md:Region.Mode} {S:World→Prop} {i d:Nat} {oi:Oper} {v:Value} {fuel:Nat} {listed:Array Bool} {T:Array Value} {D:List Deferred} {w:World} (hi:ops[i]? = some oi) (hd:oi.dst=some d)
  (hs:Region.noSelect ops=true) (hf:Region.free md ops listed i=true) (hr:(Region.ready md ops listed).contains i=true)
  (hQ:∀ c a w,Q (.panic c) (a.put oi.dst v) w→Q (.panic c) a w) (hy:YieldsIf P ops S oi v ⟨T,D⟩) (hS:S w)
  (h:wpAnyH P md ops Q S fuel (listed.setIfInBounds i true) ⟨T.setIfInBounds d v,D⟩ w):wpAnyH P md ops Q S (fuel+1) listed ⟨T,D⟩ w:=by
 refine wpAnyH_take hi hs hf hr hQ hy hS ?_;rw [hd];exact h
theorem ht {P:Program} {ops:Array Oper} {Q:Exit→Act→World→Prop} {md:Region.Mode} {S:World→Prop} (i d:Nat) {oi:Oper} {v:Value} {fuel:Nat} {listed:Array Bool} {T:Array Value} {D:List Deferred} {w:World}
  (hy:∀ w,S w→(execOp (Act.mk T D).eval oi).run P w=.ok (.value v) w) (hS:S w) (h:wpAnyH P md ops Q S fuel (listed.setIfInBounds i true) ⟨T.setIfInBounds d v,D⟩ w)
  (hi:ops[i]? = some oi:=by exact rfl) (hd:oi.dst=some d:=by exact rfl) (hw:Region.wanted oi (yielded ops T)=true:=by kernel_rfl)
  (hs:Region.noSelect ops=true:=by kernel_rfl) (hf:Region.free md ops listed i=true:=by kernel_rfl) (hr:(Region.ready md ops listed).contains i=true:=by kernel_rfl)
  (hQ:∀ c a w,Q (.panic c) (a.put oi.dst v) w→Q (.panic c) a w:=by exact fun _ _ _ h=>h):wpAnyH P md ops Q S (fuel+1) listed ⟨T,D⟩ w :=
 ZbP hi hd hs hf hr hQ (.inl ⟨hw,hy⟩) hS h
theorem ht0 {P:Program} {ops:Array Oper} {Q:Exit→Act→World→Prop} {md:Region.Mode} {S:World→Prop} (i d:Nat) {oi:Oper} {v:Value} {fuel:Nat} {listed:Array Bool} {T:Array Value} {D:List Deferred} {w:World}
  (hy:∀ w,(execOp (Act.mk T D).eval oi).run P w=.ok (.value v) w) (hS:S w) (h:wpAnyH P md ops Q S fuel (listed.setIfInBounds i true) ⟨T.setIfInBounds d v,D⟩ w)
  (hi:ops[i]? = some oi:=by exact rfl) (hd:oi.dst=some d:=by exact rfl) (hw:Region.wanted oi (yielded ops T)=true:=by kernel_rfl)
  (hs:Region.noSelect ops=true:=by kernel_rfl) (hf:Region.free md ops listed i=true:=by kernel_rfl) (hr:(Region.ready md ops listed).contains i=true:=by kernel_rfl)
  (hQ:∀ c a w,Q (.panic c) (a.put oi.dst v) w→Q (.panic c) a w:=by exact fun _ _ _ h=>h):wpAnyH P md ops Q S (fuel+1) listed ⟨T,D⟩ w :=
 ZbP hi hd hs hf hr hQ (.inl ⟨hw,fun w _=>hy w⟩) hS h
theorem hu {P:Program} {ops:Array Oper} {Q:Exit→Act→World→Prop} {md:Region.Mode} {S:World→Prop} (i d:Nat) {oi:Oper} {fuel:Nat} {listed:Array Bool} {T:Array Value} {D:List Deferred} {w:World}
  (hS:S w) (h:wpAnyH P md ops Q S fuel (listed.setIfInBounds i true) ⟨T.setIfInBounds d undef,D⟩ w)
  (hi:ops[i]? = some oi:=by exact rfl) (hd:oi.dst=some d:=by exact rfl) (hw:Region.wanted oi (yielded ops T)=false:=by kernel_rfl)
  (hs:Region.noSelect ops=true:=by kernel_rfl) (hf:Region.free md ops listed i=true:=by kernel_rfl) (hr:(Region.ready md ops listed).contains i=true:=by kernel_rfl)
  (hQ:∀ c a w,Q (.panic c) (a.put oi.dst undef) w→Q (.panic c) a w:=by exact fun _ _ _ h=>h):wpAnyH P md ops Q S (fuel+1) listed ⟨T,D⟩ w :=
 ZbP hi hd hs hf hr hQ (.inr ⟨hw,rfl⟩) hS h
theorem sn:(∀ (l:List Value) (i:Nat) (v:Value),l.toArray.setIfInBounds i v=(l.set i v).toArray)∧(∀ (x:Value) (l:List Value) (v:Value),(x :: l).set 0 v=v :: l)∧(∀ (x:Value) (l:List Value) (i:Nat) (v:Value),(x :: l).set (i+1) v=x :: l.set i v) :=
 ⟨fun _ _ _=>List.setIfInBounds_toArray ..,fun _ _ _=>rfl,fun _ _ _ _=>rfl⟩
theorem _root_.Go.RowKit.Below.at {n:Nat} {W w:World} {b i:Nat} {v:Value} (h:Below n W w) (k:W.cell? ⟨b,i,none⟩=some v) (lt:b<n):w.cell? ⟨b,i,none⟩=some v:=(h.cell (p:=⟨b,i,none⟩) lt).trans k
theorem t0 {P:Program} {ops:Array Oper} {Q:Exit→Act→World→Prop} {md:Region.Mode} {S:World→Prop} (i d:Nat) {oi:Oper} {v:Value} {fuel:Nat} {listed:Array Bool} {T T':Array Value} {D:List Deferred} {w:World} (hS:S w)
  (h:wpAnyH P md ops Q S fuel (listed.setIfInBounds i true) ⟨T',D⟩ w) (hi:ops[i]? = some oi:=by exact rfl) (hd:oi.dst=some d:=by exact rfl) (hw:Region.wanted oi (yielded ops T)=true:=by kernel_rfl)
  (hy:∀ w,(execOp (Act.mk T D).eval oi).run P w=.ok (.value v) w:=by intro _; go_simp; with_reducible rfl) (hT:T.setIfInBounds d v=T':=by simp only [sn]; exact rfl)
  (hs:Region.noSelect ops=true:=by kernel_rfl) (hf:Region.free md ops listed i=true:=by kernel_rfl) (hr:(Region.ready md ops listed).contains i=true:=by kernel_rfl)
  (hQ:∀ c a w,Q (.panic c) (a.put oi.dst v) w→Q (.panic c) a w:=by exact fun _ _ _ h=>h):wpAnyH P md ops Q S (fuel+1) listed ⟨T,D⟩ w:=by
 subst hT;exact ZbP hi hd hs hf hr hQ (.inl ⟨hw,fun w _=>hy w⟩) hS h
theorem t1 {P:Program} {ops:Array Oper} {Q:Exit→Act→World→Prop} {md:Region.Mode} {S F:World→Prop} (i d:Nat) (hF:∀ w,S w→F w) {oi:Oper} {v:Value} {fuel:Nat} {listed:Array Bool} {T T':Array Value} {D:List Deferred} {w:World} (hS:S w)
  (h:wpAnyH P md ops Q S fuel (listed.setIfInBounds i true) ⟨T',D⟩ w) (hi:ops[i]? = some oi:=by exact rfl) (hd:oi.dst=some d:=by exact rfl) (hw:Region.wanted oi (yielded ops T)=true:=by kernel_rfl)
  (hy:∀ w,F w→(execOp (Act.mk T D).eval oi).run P w=.ok (.value v) w:=by intro _ q0; go_simp; with_reducible rfl) (hT:T.setIfInBounds d v=T':=by simp only [sn]; exact rfl)
  (hs:Region.noSelect ops=true:=by kernel_rfl) (hf:Region.free md ops listed i=true:=by kernel_rfl) (hr:(Region.ready md ops listed).contains i=true:=by kernel_rfl)
  (hQ:∀ c a w,Q (.panic c) (a.put oi.dst v) w→Q (.panic c) a w:=by exact fun _ _ _ h=>h):wpAnyH P md ops Q S (fuel+1) listed ⟨T,D⟩ w:=by
 subst hT;exact ZbP hi hd hs hf hr hQ (.inl ⟨hw,fun w k=>hy w (hF w k)⟩) hS h
theorem u0 {P:Program} {ops:Array Oper} {Q:Exit→Act→World→Prop} {md:Region.Mode} {S:World→Prop} (i d:Nat) {oi:Oper} {fuel:Nat} {listed:Array Bool} {T T':Array Value} {D:List Deferred} {w:World} (hS:S w)
  (h:wpAnyH P md ops Q S fuel (listed.setIfInBounds i true) ⟨T',D⟩ w) (hi:ops[i]? = some oi:=by exact rfl) (hd:oi.dst=some d:=by exact rfl) (hw:Region.wanted oi (yielded ops T)=false:=by kernel_rfl)
  (hT:T.setIfInBounds d undef=T':=by simp only [sn]; exact rfl) (hs:Region.noSelect ops=true:=by kernel_rfl) (hf:Region.free md ops listed i=true:=by kernel_rfl) (hr:(Region.ready md ops listed).contains i=true:=by kernel_rfl)
  (hQ:∀ c a w,Q (.panic c) (a.put oi.dst undef) w→Q (.panic c) a w:=by exact fun _ _ _ h=>h):wpAnyH P md ops Q S (fuel+1) listed ⟨T,D⟩ w:=by
 subst hT;exact ZbP hi hd hs hf hr hQ (.inr ⟨hw,rfl⟩) hS h
theorem ZbK (n m:Int) (h0:0<m) (h1:m≤4294967296):∃ r:Int,wrap64 ((IntKind.u64.wrap n).tmod m)=r∧0≤r∧r<m:=by
 have hu:0≤IntKind.u64.wrap n:=by simp [IntKind.wrap,IntKind.bits,IntKind.signed]; omega
 rw [Int.tmod_eq_emod_of_nonneg hu];have ha:=Int.emod_nonneg (IntKind.u64.wrap n) (show m≠0 by omega);have hb:=Int.emod_lt_of_pos (IntKind.u64.wrap n) h0;exact ⟨_,rfl,by unfold wrap64; omega,by unfold wrap64; omega⟩
end Go.Proofs.YtabdnhkdoeibnaaGreatDoor
