/-
  A range over a function whose body always goes on, whose iterator ranges over a function itself: the rounds keep all that lay beyond the loop's own blocks. No program is spoken of.
-/
import Derived.RangeFuncBound
import Derived.RangeFuncBox
import Derived.RangeFuncCalls
import Derived.RangeFuncLeaves
import Derived.RangeFuncNested
namespace Go.Proofs.YtabdnhkdoeibnaaGreatDoor
open Go.RowKit
structure Spared (X:Nat→Prop) (W W':World):Prop where
 os:W'.os=W.os
 tape:W'.tape=W.tape
 output:W'.output=W.output
 size:W.heap.size≤W'.heap.size
 block:∀ k,k<W.heap.size→¬ X k→W'.heap[k]? = W.heap[k]?
theorem Spared.refl (X:Nat→Prop) (W:World):Spared X W W:=⟨rfl,rfl,rfl,Nat.le_refl _,fun _ _ _=>rfl⟩
theorem Spared.trans {X:Nat→Prop} {A B C:World} (h:Spared X A B) (k:Spared X B C):Spared X A C:=⟨k.os.trans h.os,k.tape.trans h.tape,k.output.trans h.output,Nat.le_trans h.size k.size,fun j hj hx=>(k.block j (Nat.lt_of_lt_of_le hj h.size) hx).trans (h.block j hj hx)⟩
theorem Spared.mono {X Y:Nat→Prop} {A B:World} (h:Spared X A B) (hX:∀ k,X k→Y k):Spared Y A B:=⟨h.os,h.tape,h.output,h.size,fun j hj hx=>h.block j hj (fun hh=>hx (hX j hh))⟩
theorem Spared.of_below {X:Nat→Prop} {A B:World} (h:Below A.heap.size A B):Spared X A B:=⟨h.os,h.tape,h.output,h.size,fun j hj _=>h.block j hj⟩
theorem Spared.heap {X:Nat→Prop} {A B:World} (h:Spared X A B) {k:Nat} {o:Obj} (hk:¬ X k) (ho:A.heap[k]? = some o):B.heap[k]? = some o:=(h.block k (Array.getElem?_eq_some_iff.1 ho).1 hk).trans ho
theorem Spared.below {X:Nat→Prop} {A B:World} (h:Spared X A B) {n:Nat} (hn:∀ k,k<n→¬ X k) (hA:n≤A.heap.size):Below n A B:=⟨h.os,h.tape,h.output,h.size,fun k hk=>h.block k (by omega) (hn k hk)⟩
theorem Spared.row {X:Nat→Prop} {base e size k:Nat} {A B:World} {v:Value} {xs:List Value} (h:Spared X A B) (hr:A.ownsRow base e size v k xs) (hX:∀ j,base≤j→¬ X j):B.ownsRow base e size v k xs:=by
 refine ⟨hr.1,?_⟩;rcases hr.2 with h0 | ⟨g,cap,cur,hv,hbs,hg,hk,hm,hs,ht⟩
 ·exact .inl h0
 ·exact .inr ⟨g,cap,cur,hv,hbs,h.heap (hX g hbs) hg,hk,hm,hs,ht⟩
theorem Spared.keeps {X:Nat→Prop} {B:Nat} {A C:World} (h:Spared X A C) (hB:∀ k,B≤k→¬ X k):KeepsFrom B A C:=⟨h.size,fun k _ hk ho _=>h.heap (hB k hk) ho⟩
theorem Zdt {X:Nat→Prop} {l:Nat} {W:World} (o:Obj) (hX:X l):Spared X W (W.putObj l o) :=
 ⟨rfl,rfl,rfl,by simp [World.putObj],fun k _ hx=>World.putObj_heap_other (fun e=>hx (e▸hX))⟩
theorem ZbI {n l:Nat} {W:World} (o:Obj) (hn:n≤l):Below n W (W.putObj l o):=⟨rfl,rfl,rfl,by simp [World.putObj],fun k hk=>World.putObj_heap_other (by omega)⟩
def onPost (R:World→Prop):Exit→Act→World→Prop
 | .normal,_,W'=>R W'
 | _,_,_=>False
variable {F:Fence} {n:Nat} {P:Program}
theorem wpIn_rangeFunc_all {α:Type} {g:Operand} {ps:Array Tmp} {assign body:Code} {Q:Exit→Act→World→Prop} {a:Act} {w:World}
  (hro:F.round=none) (h1:1≤n) {gf:Nat} {lb:Array Value} (hg:a.eval g=.func (.func gf) #[] lb) (hFg:F.fn gf) (eg:∀ args w,(callFunc gf args).run P w=.ok (.enter gf args) w)
  {encs:α→Array Value} {N:Nat} {X:Nat→Prop} (hX:∀ k,X k→k<w.heap.size) (hps:∀ x,(encs x).size=ps.size)
  (I:List α→World→Prop) (hI:∀ s A B,I s A→Below w.heap.size A B→I s B) (h0:I [] w)
  (S:List α→World→Prop) (hS:∀ xs (W:World) l o o',S xs W→W.heap[l]? = some o→o.isCells=false→S xs (W.putObj l o'))
  (hseq:∀ (W1:World) (J:List α→World→Prop),Below w.heap.size w W1→w.heap.size+2≤W1.heap.size→(∀ s A B,J s A→Below W1.heap.size A B→J s B) →
   (∀ pre x W,J pre W→pre.length<N→YieldAt F (n-1-1) P (w.heap.size+1) (encs x) W fun e W'=>e=.returned (.bool true)∧J (pre++[x]) W'∧Spared (fun k=>X k∨k=w.heap.size+1) W W')→J [] W1 →
   CallsIn F (n-1) P gf (#[.func (.yield (w.heap.size+1)) #[] #[]]++lb) W1 fun e W'=>(∃ v,e=.returned v)∧∃ xs,S xs W'∧J xs W')
  (Ax:α→Act→World→Prop) (hAx:∀ x a' (W:World) l o o',Ax x a' W→W.heap[l]? = some o→o.isCells=false→Ax x a' (W.putObj l o'))
  (hassign:∀ (l:Nat) (pre:List α) (x:α) (W:World) (K:Act→World→Prop),I pre W→(∀ a' W',Spared X W W'→I pre W'→Ax x a' W'→K a' W') →
   assign.wpIn (F.inRound l) (n-1-1) P (Exit.then K (fun _ _ _=>False)) { tmps:=(ps.zip (encs x)).foldl (fun t (p,v)=>t.setIfInBounds p v) a.tmps,defers:=[] } W)
  (hbody:∀ (l:Nat) (pre:List α) (x:α) (a':Act) (W:World),w.heap.size+2≤W.heap.size→I pre W→Ax x a' W→pre.length<N→body.wpIn (F.inRound l) (n-1-1) P (onPost fun W'=>Spared X W W'∧I (pre++[x]) W') a' W)
  (hdone:∀ (D:Nat) (xs:List α) (W:World),w.heap.size≤D→S xs W→I xs W→W.heap[D]? = some (.deferred (some []))→Q .normal { a with defers:={ target:=.collected D,args:=#[] } :: a.defers } W) :
  (Code.rangeFunc g ps assign body).wpIn F n P Q a w:=by
 refine wpIn_rangeFunc ?_;intro fn hfn;rw [hro];obtain ⟨rec,hrec⟩:∃ rec:LoopState→Option Code→Loop,rec=fun st pe=>{ state:=st,pending:=pe,fn,tmps:=a.tmps,params:=ps,assign,body,defers:=w.heap.size }:=⟨_,rfl⟩
 obtain ⟨W1,hW1⟩:∃ W1,(w.alloc (.deferred (some []))).alloc (.loop (rec .ready none))=W1:=⟨_,rfl⟩
 have hL1:W1.heap[w.heap.size+1]? = some (.loop (rec .ready none)):=by
  rw [← hW1]; have:=World.alloc_heap_new (w.alloc (.deferred (some []))) (.loop (rec .ready none)); rwa [World.size_alloc] at this
 have hK1:W1.heap[w.heap.size]? = some (.deferred (some [])):=by
  rw [← hW1]; exact (Below.heap_alloc _ _ _ (by simp)).trans (World.alloc_heap_new w _)
 have hb1:Below w.heap.size w W1:=by
  rw [← hW1]; exact ((Below.refl _ w).alloc (Nat.le_refl _) _).alloc (by simp) _
 have hsz1:w.heap.size+2≤W1.heap.size:=by rw [← hW1]; simp
 have hI1:I [] W1:=hI _ _ _ h0 hb1
 refine ⟨w.heap.size+1,[{ target:=.collected w.heap.size,args:=#[] }],W1,{ target:=.fn (.func gf) lb,args:=#[.func (.yield (w.heap.size+1)) #[] #[]] },W1,gf,
  #[.func (.yield (w.heap.size+1)) #[] #[]]++lb,W1,?_,?_,?_,?_,fun _=>h1,?_⟩
 ·rw [← hW1,hrec]; exact run_enterLoop_outer _ _ _ _ _
 ·simp only [resolve,hg];simp [go_sem]
 ·intro f' hf'; simp [Target.leads] at hf'; subst hf'; exact hFg
 ·simp [invoke,go_sem,eg]
 ·refine (hseq W1
   (fun pre W=>I pre W∧W.heap[w.heap.size+1]? = some (.loop (rec .ready none))∧W.heap[w.heap.size]? = some (.deferred (some []))∧w.heap.size+2≤W.heap.size)
   hb1 hsz1
   (fun s A B hs hab=>⟨hI s A B hs.1 (hab.mono (by omega)),(hab.block _ (by omega)).trans hs.2.1,(hab.block _ (by omega)).trans hs.2.2.1,Nat.le_trans hs.2.2.2 hab.size⟩)
   ?_ ⟨hI1,hL1,hK1,hsz1⟩).mono ?_
  ·rintro pre x W ⟨hi,hl,hk,hsz⟩ hlen;have hlt:w.heap.size+1<W.heap.size:=(Array.getElem?_eq_some_iff.1 hl).1;have hy:=run_yield (P:=P) (args:=encs x) hl (by rw [hrec]; exact hps x);rw [hrec] at hy;refine ⟨fn,_,assign,body,hy,roundIn_of_wpIn hfn (hassign _ pre x W _ hi ?_)⟩;clear hy;intro a' Wa hkfa hia hax;have hxl:∀ k,w.heap.size≤k→¬ X k:=fun k hk hx=>by have:=hX k hx; omega
   have hla:=hkfa.heap (hxl _ (by omega)) hl;have hka:=hkfa.heap (hxl _ (Nat.le_refl _)) hk;have hlta:w.heap.size+1<Wa.heap.size:=(Array.getElem?_eq_some_iff.1 hla).1;refine ⟨_,run_beginRound hla (by rw [hrec]),?_⟩;have hl2:(Wa.putObj (w.heap.size+1) (.loop { rec .ready none with state:=.busy })).heap[w.heap.size+1]? = some (.loop { rec .ready none with state:=.busy }):=World.putObj_heap_same hlta;have hk2:(Wa.putObj (w.heap.size+1) (.loop { rec .ready none with state:=.busy })).heap[w.heap.size]? = some (.deferred (some [])):=(World.putObj_heap_other (by omega)).trans hka;have hbl:∀ (W:World) (o:Obj),Below w.heap.size W (W.putObj (w.heap.size+1) o):=fun W o=>ZbI o (by omega)
   refine wpIn_mono (hbody _ pre x a' _ (by simp [World.putObj]; omega) (hI _ _ _ hia (hbl _ _)) (hAx x a' _ _ _ _ hax hla rfl) hlen) ?_;rintro e a3 W3 hp
   cases e with
   | normal =>
    obtain ⟨hk3,hi3⟩:=hp;have hl3:=hk3.heap (hxl _ (by omega)) hl2;have hk3':=hk3.heap (hxl _ (Nat.le_refl _)) hk2;have hr:=run_endRound (P:=P) none hl3;rw [hrec] at hr;have hlt3:=(Array.getElem?_eq_some_iff.1 hl3).1;refine ⟨_,_,hr,rfl,⟨hI _ _ _ hi3 (hbl _ _),by rw [hrec]; exact World.putObj_heap_same hlt3,(World.putObj_heap_other (by omega)).trans hk3',by simp [World.putObj]; omega⟩,?_⟩;exact (hkfa.mono fun _=>.inl).trans ((Zdt _ (.inr rfl)).trans ((hk3.mono fun _=>.inl).trans (Zdt _ (.inr rfl))))
   | ret=>exact hp.elim
   | exit id=>exact hp.elim
   | goto t=>exact hp.elim
   | panic ch=>exact hp.elim
   | outgrown=>exact hp.elim
  ·rintro e W2 ⟨⟨v,rfl⟩,xs,hSx,hi,hl,hk,hsz⟩;refine ⟨none,_,by have:=run_endLoop (P:=P) hl (by rw [hrec]; simp); rw [hrec] at this; exact this,hdone _ xs _ (Nat.le_refl _) (hS _ _ _ _ _ hSx hl rfl) (hI _ _ _ hi (ZbI _ (by omega))) ((World.putObj_heap_other (by omega)).trans hk)⟩
end Go.Proofs.YtabdnhkdoeibnaaGreatDoor
