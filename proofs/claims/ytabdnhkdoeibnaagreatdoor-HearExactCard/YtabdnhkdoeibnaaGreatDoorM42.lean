/-
  A region that draws its order, in a round of a loop over an iterator: what reads a cell that nobody of the region writes may be taken first. No program is spoken of.
-/
import Derived.Test.YtabdnhkdoeibnaaGreatDoorM22
import Derived.Test.YtabdnhkdoeibnaaGreatDoorM41
import Derived.OrdersHeld
import Derived.OrdersIn
import Derived.RangeFuncIn
set_option maxRecDepth 100000
set_option maxHeartbeats 8000000
namespace Go.Proofs.YtabdnhkdoeibnaaGreatDoor
open Go
section
variable {F:Fence} {n:Nat} {P:Program} {ops:Array Oper} {Q:Exit→Act→World→Prop} {md:Region.Mode} {S:World→Prop}
def Zdu (F:Fence) (ops:Array Oper):Prop:=∀ (j:Nat) (o:Oper),ops[j]? = some o→∀ ρ:Operand→Value,o.semAt F.round ρ=execOp ρ o
def Z8 (P:Program) (ops:Array Oper) (S:World→Prop) (o:Oper) (v:Value) (a:Act):Prop:=YieldsIf P ops S o v a∧∀ w,o.about P w a.eval=none
theorem Z8.wpOpIn {i:Nat} {o:Oper} {v:Value} {a:Act} (hpl:Zdu F ops) (hi:ops[i]? = some o) (hy:Z8 P ops S o v a)
  {K:Act→World→Prop} {w:World} (hS:S w) (h:K (a.put o.dst v) w):wpOpIn F n P ops Q i K a w:=by
 unfold Go.wpOpIn;simp only [hi];have hab:∀ f,o.about P w a.eval=some f→F.fn f:=fun f hf=>by rw [hy.2 w] at hf; cases hf
 rcases hy.1 with ⟨hw,hv⟩ | ⟨hw,rfl⟩
 ·simp only [hw,if_true,Oper.wpIn,hpl i o hi,hv w hS,Oper.uponIn]; exact ⟨hab,h⟩
 ·simp only [hw,Bool.false_eq_true,if_false]; exact ⟨hab,h⟩
theorem Z8.of_same {o:Oper} {v:Value} {a a':Act} (hy:Z8 P ops S o v a) (he:execOp a'.eval o=execOp a.eval o)
  (hw:Region.wanted o (yielded ops a'.tmps)=Region.wanted o (yielded ops a.tmps)) (hb:∀ w,o.about P w a'.eval=o.about P w a.eval):Z8 P ops S o v a' :=
 ⟨hy.1.of_same he hw,fun w=>by rw [hb w]; exact hy.2 w⟩
theorem wpOpIn_putHeld {j:Nat} {oi oj:Oper} {v:Value} (hpl:Zdu F ops) (hj:ops[j]? = some oj) (hap:oi.apart ops oj=true)
  (hsi:∀ cs b,oi.op≠.select cs b) (hsj:∀ cs b,oj.op≠.select cs b)
  (hQ:∀ c a w,Q (.panic c) (a.put oi.dst v) w→Q (.panic c) a w) {K:Act→World→Prop} {a:Act} {w:World}
  (hy:Z8 P ops S oi v a) (h:wpOpIn F n P ops Q j K (a.put oi.dst v) w) :
  wpOpIn F n P ops Q j (fun a' w'=>Z8 P ops S oi v a'∧K (a'.put oi.dst v) w') a w:=by
 obtain ⟨h1,h2,h3⟩:=Oper.apart_spec hap
 have keep:∀ (a:Act),Z8 P ops S oi v a→∀ u,Z8 P ops S oi v (a.put oj.dst u):=fun a hy u =>
  hy.of_same (execOp_put oi hsi a oj.dst u h3) (wanted_put oi a oj.dst u h3) (fun w=>about_put oi w a oj.dst u h3)
 have keepD:∀ d,Z8 P ops S oi v { a with defers:=d :: a.defers }:=fun d=>hy.of_same rfl rfl (fun _=>rfl)
 have hplj:=hpl j oj hj;unfold wpOpIn at *;simp only [hj] at h ⊢;rw [wanted_put oj a oi.dst v h1,about_put oj w a oi.dst v h1] at h
 split
 ·rename_i hw;simp only [hw,if_true] at h;unfold Oper.wpIn at *;rw [about_put oj w a oi.dst v h1] at h;refine ⟨h.1,?_⟩;have h:=h.2;rw [hplj,execOp_put oj hsj a oi.dst v h1] at h;rw [hplj];generalize (execOp a.eval oj).run P w=r at *
  cases r with
  | ok x w' =>
   cases x <;> simp only [Oper.uponIn] at h ⊢
   case value u=>exact ⟨keep a hy u,by rw [← Act.put_comm a v u h2]; exact h⟩
   case skip=>exact ⟨keep a hy _,by rw [← Act.put_comm a v undef h2]; exact h⟩
   case defer d =>
    refine ⟨keep _ (keepD d) _,?_⟩;rw [← Act.put_comm _ v undef h2,← Act.put_defers];exact h
   case enter f args =>
    refine ⟨h.1,CallsIn.mono h.2 fun e w'' he=>?_⟩
    cases e with
    | returned u=>exact ⟨keep a hy u,by rw [← Act.put_comm a v u h2]; exact he⟩
    | panicked c=>exact hQ _ _ _ he
    | outgrown=>exact he
   case row row args=>exact ⟨h.1,RowsIn.mono h.2 fun u w'' he=>⟨keep a hy u,by rw [← Act.put_comm a v u h2]; exact he⟩⟩
   case round l f tmps assign body =>
    refine ⟨h.1,RoundIn.mono h.2 fun e w'' he=>?_⟩
    cases e with
    | returned u=>exact ⟨keep a hy u,by rw [← Act.put_comm a v u h2]; exact he⟩
    | panicked c=>exact hQ _ _ _ he
    | outgrown=>exact he
  | halt x w' =>
   cases x <;> simp only [Oper.uponIn] at h ⊢
   case panic u=>exact hQ _ _ _ h
 ·rename_i hw;simp only [hw] at h;exact ⟨h.1,keep a hy _,by rw [← Act.put_comm a v undef h2]; exact h.2⟩
def Zay (F:Fence) (n:Nat) (P:Program) (md:Region.Mode) (ops:Array Oper) (Q:Exit→Act→World→Prop) (S:World→Prop):Nat→Array Bool→Act→World→Prop
 | 0,listed,a,w=>Region.ready md ops listed=[]∧Q .normal a w
 | fuel+1,listed,a,w =>
  (Region.ready md ops listed=[]→Q .normal a w) ∧
  ∀ i∈Region.ready md ops listed,wpOpIn F n P ops Q i (fun a' w'=>S w'∧Zay F n P md ops Q S fuel (listed.setIfInBounds i true) a' w') a w
theorem Zcz:∀ (fuel:Nat) (listed:Array Bool) (a:Act) (w:World),Zay F n P md ops Q S fuel listed a w→wpAnyIn F n P md ops Q fuel listed a w
 | 0,_,_,_,h=>h
 | fuel+1,_,_,_,h=>⟨h.1,fun i hi=>wpOpIn_mono (fun a' w' h'=>Zcz fuel _ a' w' h'.2) (h.2 i hi)⟩
theorem wpAnyHeld_first {i:Nat} {oi:Oper} {v:Value} (hpl:Zdu F ops) (hi:ops[i]? = some oi) (hsel:∀ (j:Nat) (o:Oper) cs b,ops[j]? = some o→o.op≠.select cs b)
  (hQ:∀ c a w,Q (.panic c) (a.put oi.dst v) w→Q (.panic c) a w) :
  ∀ (fuel:Nat) (listed:Array Bool) (a:Act) (w:World),
   (∀ j oj,ops[j]? = some oj→j≠i→listed.getD j true=false→(∀ e∈oj.after,Region.binds md e=true→e.on≠i)→oi.apart ops oj=true) →
   i∈Region.ready md ops listed→Z8 P ops S oi v a→S w →
   Zay F n P md ops Q S fuel (listed.setIfInBounds i true) (a.put oi.dst v) w→Zay F n P md ops Q S (fuel+1) listed a w:=by
 intro fuel
 induction fuel with
 | zero =>
  intro listed a w _ hr hy hS H;refine ⟨fun h=>(by rw [h] at hr; cases hr),fun j hj=>?_⟩;by_cases hji:j=i
  ·subst hji; exact hy.wpOpIn hpl hi hS ⟨hS,H⟩
  ·have:=ready_mono hj hji;rw [H.1] at this
   cases this
 | succ fuel ih =>
  intro listed a w hfree hr hy hS H;refine ⟨fun h=>(by rw [h] at hr; cases hr),fun j hj=>?_⟩;by_cases hji:j=i
  ·subst hji; exact hy.wpOpIn hpl hi hS ⟨hS,H⟩
  ·have h1:=H.2 j (ready_mono hj hji);obtain ⟨hjun,oj,hoj,hall⟩:=mem_ready.1 hj
   have hnot:∀ e∈oj.after,Region.binds md e=true→e.on≠i:=fun e he hb heq=>by
    have h1:=hall e he hb;have h0:=(mem_ready.1 hr).1;rw [heq] at h1;rcases Nat.lt_or_ge i listed.size with h' | h'
    ·simp [h'] at h0 h1; rw [h0] at h1; cases h1
    ·simp [Array.getElem?_eq_none h'] at h1
   have h2:=wpOpIn_putHeld hpl hoj (hfree j oj hoj hji hjun hnot) (fun cs b=>hsel i oi cs b hi) (fun cs b=>hsel j oj cs b hoj) hQ hy h1
   have hfree':∀ k ok,ops[k]? = some ok→k≠i→(listed.setIfInBounds j true).getD k true=false →
     (∀ e∈ok.after,Region.binds md e=true→e.on≠i)→oi.apart ops ok=true:=fun k ok hk hki hun hno=>by
    refine hfree k ok hk hki ?_ hno;by_cases hjk:j=k
    ·subst hjk; exact hjun
    ·rw [getD_set_ne true hjk] at hun; exact hun
   refine wpOpIn_mono (fun a' w' h3=>⟨h3.2.1,ih (listed.setIfInBounds j true) a' w' hfree' (ready_mono hr (Ne.symm hji)) h3.1 h3.2.1 ?_⟩) h2;rw [Array.setIfInBounds_comm _ _ hji];exact h3.2.2
theorem ZE {i:Nat} {oi:Oper} {v:Value} {fuel:Nat} {listed:Array Bool} {a:Act} {w:World} (hpl:Zdu F ops) (hi:ops[i]? = some oi)
  (hs:Region.noSelect ops=true) (hf:Region.free md ops listed i=true) (hr:(Region.ready md ops listed).contains i=true)
  (hQ:∀ c a w,Q (.panic c) (a.put oi.dst v) w→Q (.panic c) a w) (hy:Z8 P ops S oi v a) (hS:S w)
  (h:Zay F n P md ops Q S fuel (listed.setIfInBounds i true) (a.put oi.dst v) w):Zay F n P md ops Q S (fuel+1) listed a w :=
 wpAnyHeld_first hpl hi (Region.noSelect_spec hs) hQ fuel listed a w (Region.free_spec hi hf) (by simpa using hr) hy hS h
theorem Zdv {i:Nat} {o:Oper} {fuel:Nat} {listed:Array Bool} {a:Act} {w:World} (hr:Region.ready md ops listed=[i]) (ho:ops[i]? = some o) (hw:Region.wanted o (yielded ops a.tmps)=true)
  (h:∀ K:Act→World→Prop,(∀ a' w',S w'→Zay F n P md ops Q S fuel (listed.setIfInBounds i true) a' w'→K a' w')→o.wpIn F n P a w K Q):Zay F n P md ops Q S (fuel+1) listed a w:=by
 refine ⟨(fun h0=>by rw [hr] at h0; cases h0),fun j hj=>?_⟩;rw [hr] at hj;simp at hj;subst hj;unfold wpOpIn;simp only [ho,hw,if_true];exact h _ fun a' w' h1 h2=>⟨h1,h2⟩
theorem wpAnyHeld_done {listed:Array Bool} {a:Act} {w:World} (hr:Region.ready md ops listed=[]) (h:Q .normal a w) :
  ∀ fuel,Zay F n P md ops Q S fuel listed a w
 | 0=>⟨hr,h⟩
 | _+1=>⟨fun _=>h,by rw [hr]; simp⟩
theorem wpIn_region_held {id:Nat} {a:Act} {w:World} (S:World→Prop) (hm:P.follows .mixedOrders=true)
  (h:Zay F n P .any ops Q S ops.size (Array.replicate ops.size false) a { w with drawn:=w.drawn+1 }):(Code.region id ops true).wpIn F n P Q a w :=
 wpIn_region_any hm (Zcz _ _ _ _ h)
end
end Go.Proofs.YtabdnhkdoeibnaaGreatDoor
namespace Go.Proofs.YtabdnhkdoeibnaaGreatDoor
open Go.RowKit Go.Shelf
attribute [local go_sem] Oper.semAt_some
abbrev Rs:=Int×Int×Int×Option Addr×Nat×Nat
def toRn (x:Rs):Rn:=(x.1,x.2.1,x.2.2.1,.slice x.2.2.2.1 x.2.2.2.2.1 x.2.2.2.2.2)
def Zil (x:Rs):Array Value:=#[.agg #[.int .u32 x.1,.int .i64 x.2.1,.int .i64 x.2.2.1,.slice x.2.2.2.1 x.2.2.2.2.1 x.2.2.2.2.2]]
theorem ownFrom_spared {β:Type} {X:Nat→Prop} {B:Nat} {w₀:World} (hB:w₀.heap.size≤B):OwnFrom B (fun (_:β) W=>Spared X w₀ W):=fun _ A C row hs hg hr =>
 ⟨hg.os.trans hs.os,hg.tape.trans hs.tape,hg.output.trans hs.output,Nat.le_trans hs.size hg.size,fun k hk hx=>(hg.block k (Nat.lt_of_lt_of_le hk hs.size) (fun e=>by have:=(hr k e.symm).1; omega)).trans (hs.block k hk hx)⟩
def Ziw (D:Nat):Deferred:={ target:=.collected D,args:=#[] }
def Zch (n₁:Nat) (Ds:List Nat) (W:World):Prop:=Ds.Nodup∧∀ D∈Ds,n₁≤D∧W.heap[D]? = some (.deferred (some []))
theorem Zch.next {n₁:Nat} {Ds:List Nat} {W W':World} (h:Zch n₁ Ds W) (hh:∀ D∈Ds,W'.heap[D]? = W.heap[D]?):Zch n₁ Ds W':=⟨h.1,fun D hD=>⟨(h.2 D hD).1,(hh D hD).trans (h.2 D hD).2⟩⟩
theorem Zch.lt {n₁:Nat} {Ds:List Nat} {W:World} (h:Zch n₁ Ds W):∀ D∈Ds,D<W.heap.size:=fun D hD=>(Array.getElem?_eq_some_iff.1 (h.2 D hD).2).1
theorem Zch.cons {n₁ D:Nat} {Ds:List Nat} {W:World} (h:Zch n₁ Ds W) (hD:W.heap[D]? = some (.deferred (some []))) (hn:n₁≤D) (hne:D ∉ Ds):Zch n₁ (D :: Ds) W :=
 ⟨List.nodup_cons.2 ⟨hne,h.1⟩,fun E hE=>by
  rcases List.mem_cons.1 hE with rfl | hE
  ·exact ⟨hn,hD⟩
  ·exact h.2 E hE⟩
theorem Zeb {n n₁:Nat} {P:Program} {fn:Func} {tmps:Array Value} {R:Ending→World→Prop} {v:Value} (hv:∀ W,(results fn tmps).run P W=.ok v W) (T:World→Prop) (hT:∀ W D o,T W→n₁≤D→W.heap[D]? = some (.deferred (some []))→T (W.putObj D o)) (hR:∀ W,T W→R (.returned v) W) :
  ∀ (Ds:List Nat) (W:World),Zch n₁ Ds W→T W→LeavesInM Fence.wide n P fn tmps R (Ds.map Ziw) .returning W
 | [],W,_,h=>⟨_,hv W,hR W h⟩
 | D :: Ds,W,hm,h=>by
  obtain ⟨h1,h2⟩:=hm.2 D (by simp)
  refine ⟨by simp,.inl ⟨D,_,rfl,run_takeDeferred h2,?_⟩⟩
  refine Zeb hv T hT hR Ds _ ⟨(List.nodup_cons.1 hm.1).2,fun E hE=>?_⟩ (hT _ _ _ h h1 h2)
  have hne:E≠D:=fun e=>(List.nodup_cons.1 hm.1).1 (e▸hE)
  exact ⟨(hm.2 E (by simp [hE])).1,(World.putObj_heap_other hne).trans (hm.2 E (by simp [hE])).2⟩
theorem round_wide {m m' lp:Nat} {P:Program} {l:Nat} {f:FuncId} {tmps:Array Value} {assign body:Code} {w:World} {R:Ending→World→Prop} (h:RoundIn Fence.wide m P l f tmps assign body w R):RoundIn (Fence.wide.inRound lp) m' P l f tmps assign body w R:=⟨h.1,fun c cs _=>h.2 c cs (room_wide _)⟩
def notDefer:Op→Bool
 | .defer _=>false
 | _=>true
theorem Z3 {ops:Array Oper} {l:Nat} (h:ops.toList.all (fun o=>notDefer o.op)=true):Zdu (Fence.wide.inRound l) ops:=by
 intro j o hj ρ;refine Oper.semAt_some _ _ _ (fun c hc=>?_);have:=List.all_eq_true.1 h o (List.mem_of_getElem? (by simpa using hj));rw [hc] at this
 cases this
theorem ZcW {base:Nat} {W W':World} {row:Option Nat} {r:List Rn} {l:List Nd} (h:ZQ base W r l) (hg:W.grownBy W' row) (hr:∀ g,row=some g→∃ o:Obj,W.heap[g]? = some o∧o.isCells=false):ZQ base W' r l:=by
 refine ⟨h.1,fun j x y hx hy=>?_,h.2.2⟩;obtain ⟨h1,h2,h3,h4⟩:=h.2.1 j x y hx hy;refine ⟨h1,h2,h3,h4.kept hg ?_⟩;rcases h4.2 with ⟨e,_⟩ | ⟨g,cap,cur,e,_,hgb,_⟩
 ·rw [e]; exact .inl rfl
 ·rw [e];refine .inr fun e'=>?_
  obtain ⟨o,ho,hc⟩:=hr g e'.symm;rw [hgb] at ho
  cases ho
  cases hc
theorem ownRns_spared {X:Nat→Prop} {base:Nat} {W W':World} {r:List Rn} {l:List Nd} (h:ZQ base W r l) (hs:Spared X W W') (hX:∀ j,base≤j→¬ X j):ZQ base W' r l :=
 ⟨h.1,fun j x y hx hy=>by obtain ⟨h1,h2,h3,h4⟩:=h.2.1 j x y hx hy; exact ⟨h1,h2,h3,hs.row h4 hX⟩,h.2.2⟩
end Go.Proofs.YtabdnhkdoeibnaaGreatDoor
namespace Go.Proofs.YtabdnhkdoeibnaaGreatDoor
open Go.RowKit Go.Shelf
attribute [local go_sem] Oper.semAt_some
theorem nodes1_in (n q lo Bl Bh Bd b off N cap:Nat) (l:List (Int×Int)) (p:Int) (hp:Zf (N:Int) p l) (D:Nat) (hD:D≤2) (i:Nat) (hi:i<N) (L:List Nd) (m:Nat) (hm:L.length=m) (hm16:m≤16) (la:Option Addr) (lc:Nat) (n₀ n₁:Nat) (X:Nat→Prop)
  (hLn:∀ n∈L,(∃ s:Nat,s<4294967296∧n.1=(s:Int))∧0≤n.2.1∧n.2.1≤8192 * (i:Int)∧n.2.2.2.length=i)
  (J:List Rs→World→Prop) (hJ:∀ s A B,J s A→Below n₁ A B→J s B)
  (hY:∀ pre x W,J pre W→pre.length<m * 16→YieldAt Fence.wide q Tryz.prog lo (Zil x) W fun e W'=>e=.returned (.bool true)∧J (pre++[x]) W'∧Spared X W W')
  (hX1:∀ k,X k→k<n₁) (hX0:∀ k,X k→n₀≤k) (hXh:¬ X Bh) (hXd:¬ X Bd)
  (W:World) (hn₁:W.heap.size=n₁) (hn₀:n₀≤n₁)
  (xl:Box W Bl 98 #[.slice la m lc]) (xh:Box W Bh 140 #[.slice (some ⟨b,off,none⟩) N cap]) (xd:Box W Bd 3 #[.int .i64 ((D+1:Nat):Int)])
  (hS:Segs n₀ W (.slice (some ⟨b,off,none⟩) N cap) (Za1 N l)) (hLN:Zae n₀ W (.slice la m lc) L) (h0:J [] W) :
  CallsIn Fence.wide n Tryz.prog 146 #[.func (.yield lo) #[] #[],.pointer (some ⟨Bl,0,none⟩),.pointer (some ⟨Bh,0,none⟩),.pointer (some ⟨Bd,0,none⟩)] W fun e W'=>(∃ v,e=.returned v)∧∃ xs,ZQ n₁ W' (xs.map toRn) (ZY N l D i L)∧J xs W':=by
 refine callsIn_wide.2 ((callsIn_wide (n:=9)).1 ?_);have hN2:N<65:=by have:=hp.1.2.1; omega
 have HP:Hid (Zf (N:Int) p l):=hp;have HS:Hid (Segs n₀ W (.slice (some ⟨b,off,none⟩) N cap) (Za1 N l)):=hS;have HLN:Hid (Zae n₀ W (.slice la m lc) L):=hLN;have HML:Hid (L.length=m):=hm;have HLn:Hid (∀ n∈L,(∃ s:Nat,s<4294967296∧n.1=(s:Int))∧0≤n.2.1∧n.2.1≤8192 * (i:Int)∧n.2.2.2.length=i):=hLn;have HJ:Hid (∀ s A B,J s A→Below n₁ A B→J s B):=hJ;have HY:Hid (∀ pre x W,J pre W→pre.length<m * 16→YieldAt Fence.wide q Tryz.prog lo (Zil x) W fun e W'=>e=.returned (.bool true)∧J (pre++[x]) W'∧Spared X W W'):=hY;have HN1:Hid (W.heap.size=n₁):=hn₁;obtain ⟨D1,hD1⟩:∃ D1,D+1=D1:=⟨_,rfl⟩;rw [hD1] at xd;have HD1:Hid (D+1=D1):=hD1;have hll:=xl.lt;have hlh:=xh.lt;have hld:=xd.lt;have cl:=xl.cell 0 _ rfl;have ch:=xh.cell 0 _ rfl;have cd:=xd.cell 0 _ rfl
 have xy:Box (W.alloc (.cells #[.func (.yield lo) #[] #[]] 169)) n₁ 169 #[.func (.yield lo) #[] #[]]:=by
  have:=Box.new W 169 #[.func (.yield lo) #[] #[]];rw [HN1.out] at this;exact this
 have b1:Below W.heap.size W (W.alloc (.cells #[.func (.yield lo) #[] #[]] 169)):=(Below.refl W.heap.size W).alloc (Nat.le_refl _) _;have hs1:(W.alloc (.cells #[.func (.yield lo) #[] #[]] 169)).heap.size=n₁+1:=by simp [HN1.out]
 clear hp hS hLN hm hLn hJ hY hD1;rw [HN1.out] at hll hlh hld;refine callsIn_of_wp_marks Tryz.func146 rfl trivial ?_ rfl;simp only [Tryz.ntmps146,List.size_toArray,List.length_cons,List.length_nil,Nat.reduceAdd,Nat.reduceSub,Array.replicate_succ,Array.replicate_zero,List.push_toArray,List.append_toArray,List.nil_append,List.cons_append];clear hn₁;have cl':=(b1.cell (p:=⟨Bl,0,none⟩) (by rw [HN1.out]; exact hll)).trans cl;gi_wp2;obtain ⟨W1,hW1⟩:∃ W1,W.alloc (.cells #[.func (.yield lo) #[] #[]] 169)=W1:=⟨_,rfl⟩;rw [hW1] at xy b1 hs1 ⊢;rw [HN1.out] at b1 ⊢;clear cl cl' ch cd hW1;have xh1:=xh.below b1 hlh;have xd1:=xd.below b1 hld;have h01:=HJ.out _ _ _ h0 b1;have HS1:Hid (Segs n₀ W1 (.slice (some ⟨b,off,none⟩) N cap) (Za1 N l)):=HS.out.below (b1.mono hn₀);have HL1:Hid (Zae n₀ W1 (.slice la m lc) L):=HLN.out.below (b1.mono hn₀);clear xh xd xl h0 HS HLN;refine wpIn_loop (fun a' w'=>∃ u6 u7 u8 u9 u13 u14 u15 u16 u17 u18 u19 u20 u21 u22 u23 u24 u25 u26 u27 u28 u29 u30 u31 u32 u33 u34 u35 u36 u37 u38 u39 u40 u41 u42 u43 u44 u45 u46 u47,∃ (k:Nat) (xs:List Rs) (Ds:List Nat),k≤m∧J xs w'∧ZQ n₁ w' (xs.map toRn) (ZY N l D i (L.take k))∧Spared X W1 w'∧Zch (n₁+1) Ds w'∧a'={ tmps:=#[.func (.yield lo) #[] #[],.pointer (some ⟨Bl,0,none⟩),.pointer (some ⟨Bh,0,none⟩),.pointer (some ⟨Bd,0,none⟩),.pointer (some ⟨n₁,0,none⟩),undef,u6,u7,u8,u9,.slice la m lc,.int .i64 (m:Int),.int .i64 (k:Int),u13,u14,u15,u16,u17,u18,u19,u20,u21,u22,u23,u24,u25,u26,u27,u28,u29,u30,u31,u32,u33,u34,u35,u36,u37,u38,u39,u40,u41,u42,u43,u44,u45,u46,u47],defers:=Ds.map Ziw }) (fun a' _=>m-(intOf (a'.tmps.getD 12 undef)).toNat) ?_ ?_
 ·exact ⟨_,_,_,_,_,_,_,_,_,_,_,_,_,_,_,_,_,_,_,_,_,_,_,_,_,_,_,_,_,_,_,_,_,_,_,_,_,_,_,0,[],[],Nat.zero_le _,h01,by rw [List.take_zero]; exact ZcN _ _,Spared.refl _ _,⟨List.nodup_nil,fun D hD=>by simp at hD⟩,rfl⟩
 ·rintro a' wr ⟨u6,u7,u8,u9,u13,u14,u15,u16,u17,u18,u19,u20,u21,u22,u23,u24,u25,u26,u27,u28,u29,u30,u31,u32,u33,u34,u35,u36,u37,u38,u39,u40,u41,u42,u43,u44,u45,u46,u47,k,xs,Ds,hk,hJs,hO,hSp,hMk,rfl⟩;have hsz:n₁+1≤wr.heap.size:=by have:=hSp.size; omega
  have hXn:∀ j,n₁≤j→¬ X j:=fun j hj hx=>by have:=hX1 j hx; omega
  have yy:Box wr n₁ 169 #[.func (.yield lo) #[] #[]]:=hSp.heap (hXn _ (Nat.le_refl _)) xy;have yh:Box wr Bh 140 #[.slice (some ⟨b,off,none⟩) N cap]:=hSp.heap hXh xh1;have yd:Box wr Bd 3 #[.int .i64 (D1:Int)]:=hSp.heap hXd xd1;have bn:Below n₀ W1 wr:=hSp.below (fun j hj hx=>by have:=hX0 j hx; omega) (by omega);by_cases hlt:k<m
  ·obtain ⟨nd,hn⟩:∃ nd,L[k]? = some nd:=⟨L[k]'(by rw [HML.out]; exact hlt),by simp⟩;obtain ⟨⟨s,hs,es⟩,hM0,hM1,hpl⟩:=HLn.out nd (List.mem_of_getElem? hn);obtain ⟨ns,M,nsc,ps⟩:=nd;have es':ns=(s:Int):=es;subst es';have hpl':ps.length=i:=hpl
   have HTK:Hid (L.take (k+1)=L.take k++[((s:Int),M,nsc,ps)]):=by
    show L.take (k+1)=L.take k++[((s:Int),M,nsc,ps)]
    rw [List.take_add_one,hn]; rfl
   have HPL:Hid (ps.length=i):=hpl';have hM0':0≤M:=hM0;have hM1':M≤8192 * (i:Int):=hM1;obtain ⟨lb,lof,rfl,hlb,hcl⟩:=ZaA (HL1.out.below bn) HML.out (by omega);obtain ⟨pv,hpv,c0,c1,c2,c3⟩:=hcl k _ hn;obtain ⟨pa,pc,e8⟩:=hpv.shape;have e8':pv=.slice pa i pc:=by rw [e8]; show Value.slice pa ps.length pc=_; rw [hpl']
   subst e8';have HPV:Hid (Zb .i64 n₀ wr (.slice pa i pc) ps):=hpv;have ch:=(yh.alloc (.cells #[.int .u32 (s:Int),.int .i64 M,.int .i64 nsc,.slice pa i pc] 103)).cell 0 _ rfl;have d0:decide ((k:Int)<(m:Int))=true:=decide_eq_true (by omega);have d0':decide (k<m)=true:=decide_eq_true hlt;have f1:Fence.wide.fn 147:=trivial;have hn1:(1:Nat)≤9:=by omega
   have HN:Hid (L[k]? = some ((s:Int),M,nsc,ps)):=hn;clear hcl hpv e8 hpl hpl' es hM0 hM1 hn;gi_wp2_with (gi_at_call 147; refine (Ze8 (9-1) _ ⟨_,_,_,rfl⟩ i s M _).mono ?_; rintro e w2 ⟨rfl,rfl⟩);have yn:Box (((wr.alloc (.cells #[.int .u32 (s:Int),.int .i64 M,.int .i64 nsc,.slice pa i pc] 103)).alloc (.cells #[.slice (some ⟨b,off,none⟩) N cap] 140)).alloc (.cells #[.int .i64 (i:Int),.int .u32 (s:Int),.int .i64 M] 144)) wr.heap.size 103 #[.int .u32 (s:Int),.int .i64 M,.int .i64 nsc,.slice pa i pc]:=((Box.new wr 103 _).alloc _).alloc _
   have yq:Box (((wr.alloc (.cells #[.int .u32 (s:Int),.int .i64 M,.int .i64 nsc,.slice pa i pc] 103)).alloc (.cells #[.slice (some ⟨b,off,none⟩) N cap] 140)).alloc (.cells #[.int .i64 (i:Int),.int .u32 (s:Int),.int .i64 M] 144)) (wr.heap.size+1) 140 #[.slice (some ⟨b,off,none⟩) N cap]:=by
    have:=(Box.new (wr.alloc (.cells #[.int .u32 (s:Int),.int .i64 M,.int .i64 nsc,.slice pa i pc] 103)) 140 #[.slice (some ⟨b,off,none⟩) N cap]).alloc (.cells #[.int .i64 (i:Int),.int .u32 (s:Int),.int .i64 M] 144);simpa using this
   have yp:Box (((wr.alloc (.cells #[.int .u32 (s:Int),.int .i64 M,.int .i64 nsc,.slice pa i pc] 103)).alloc (.cells #[.slice (some ⟨b,off,none⟩) N cap] 140)).alloc (.cells #[.int .i64 (i:Int),.int .u32 (s:Int),.int .i64 M] 144)) (wr.heap.size+1+1) 144 #[.int .i64 (i:Int),.int .u32 (s:Int),.int .i64 M]:=by
    have:=Box.new ((wr.alloc (.cells #[.int .u32 (s:Int),.int .i64 M,.int .i64 nsc,.slice pa i pc] 103)).alloc (.cells #[.slice (some ⟨b,off,none⟩) N cap] 140)) 144 #[.int .i64 (i:Int),.int .u32 (s:Int),.int .i64 M];simpa using this
   have bS:Below wr.heap.size wr (((wr.alloc (.cells #[.int .u32 (s:Int),.int .i64 M,.int .i64 nsc,.slice pa i pc] 103)).alloc (.cells #[.slice (some ⟨b,off,none⟩) N cap] 140)).alloc (.cells #[.int .i64 (i:Int),.int .u32 (s:Int),.int .i64 M] 144)):=(((Below.refl wr.heap.size wr).alloc (Nat.le_refl _) _).alloc (by simp) _).alloc (by simp; omega) _;have hsS:(((wr.alloc (.cells #[.int .u32 (s:Int),.int .i64 M,.int .i64 nsc,.slice pa i pc] 103)).alloc (.cells #[.slice (some ⟨b,off,none⟩) N cap] 140)).alloc (.cells #[.int .i64 (i:Int),.int .u32 (s:Int),.int .i64 M] 144)).heap.size=wr.heap.size+3:=by simp
   obtain ⟨Ws,hWs⟩:∃ Ws,((wr.alloc (.cells #[.int .u32 (s:Int),.int .i64 M,.int .i64 nsc,.slice pa i pc] 103)).alloc (.cells #[.slice (some ⟨b,off,none⟩) N cap] 140)).alloc (.cells #[.int .i64 (i:Int),.int .u32 (s:Int),.int .i64 M] 144)=Ws:=⟨_,rfl⟩;rw [hWs] at yn yq yp bS hsS ⊢;clear hWs ch c0 c1 c2 c3 d0 d0';have HJS:=HJ.out _ _ _ hJs (bS.mono (by omega));have HOS:=hO.below bS (Nat.le_refl _);have zy:=yy.next bS;have zh:=yh.next bS;have zd:=yd.next bS;have HMk:Hid (Zch (n₁+1) Ds Ws):=hMk.next fun E hE=>bS.block E (hMk.lt E hE)
   have HSpS:Hid (Spared X W1 Ws):=hSp.trans (Spared.of_below bS);have bnS:Below n₀ W1 Ws:=bn.trans (bS.mono (by omega))
   have hkl:(ZY N l D i (L.take k)).length=k * 16:=by
    unfold ZY;rw [ZaM,List.length_take,HML.out,Nat.min_eq_left (by omega)]
   have HKL:Hid ((ZY N l D i (L.take k)).length=k * 16):=hkl;clear hkl hJs hO hSp hMk yy yh yd bn
   refine wpIn_rangeFunc_ownH rfl hn1 (gf:=151) (lb:=#[.pointer (some ⟨wr.heap.size+1,0,none⟩),.pointer (some ⟨wr.heap.size+1+1,0,none⟩)]) rfl trivial (enters_of Tryz.func151 (by kernel_rfl) rfl)
    (Zc1 (9-1) (by omega) (wr.heap.size+1) (wr.heap.size+1+1) b off N cap l p HP.out i s hi hs M hM0' (by omega) n₀ Ws (by omega) yq yp (HS1.out.below bnS))
    KpB.trans (KpB.turn (by omega) (by omega) (by omega)) (Below.refl _ _) (fun _=>rfl)
    (fun pre W'=>(∃ xs':List Rs,J xs' W'∧ZQ n₁ W' (xs'.map toRn) (ZY N l D i (L.take k)++pre.map fun j:Nat=>kidB N l D i ((s:Int),M,nsc,ps) (j:Int)))∧Spared X Ws W')
    (fun _ _ _=>False)
    (fun pre A C row hs hg hr=>⟨by
      obtain ⟨⟨xs',h1,h2⟩,h3⟩:=hs
      refine ⟨xs',HJ.out _ _ _ h1 ⟨hg.os,hg.tape,hg.output,hg.size,fun j hj=>hg.block j (by have:=h3.size; omega) (fun e=>by have:=(hr j e.symm).1; omega)⟩,ZcW h2 hg (fun g e=>(hr g e).2)⟩,ownFrom_spared (Nat.le_refl _) pre A C row hs.2 hg hr⟩)
    (fun _ _ _ _ _ hs _ _=>hs)
    ⟨⟨xs,HJS,by rw [List.map_nil,List.append_nil]; exact HOS⟩,Spared.refl _ _⟩
    (fun j a' W'=>∃ Bc,n₁≤Bc∧Box W' Bc 144 #[.int .i64 ((i+1:Nat):Int),.int .u32 ((stepN s j:Nat):Int),.int .i64 (M+((costN (stepN s j) (ofL N l i):Nat):Int))]∧a'={ tmps:=#[.func (.yield lo) #[] #[],.pointer (some ⟨Bl,0,none⟩),.pointer (some ⟨Bh,0,none⟩),.pointer (some ⟨Bd,0,none⟩),.pointer (some ⟨n₁,0,none⟩),undef,.pointer (some ⟨wr.heap.size,0,none⟩),.int .i64 (j:Int),.pointer (some ⟨Bc,0,none⟩),u9,.slice (some ⟨lb,lof,none⟩) m lc,.int .i64 (m:Int),.int .i64 (k:Int),.bool true,.pointer (some ⟨lb,lof+k * 4,none⟩),.agg #[.int .u32 (s:Int),.int .i64 M,.int .i64 nsc,.slice pa i pc],.slice (some ⟨b,off,none⟩) N cap,.pointer (some ⟨wr.heap.size,3,none⟩),.slice pa i pc,.int .i64 (i:Int),.pointer (some ⟨wr.heap.size,0,none⟩),.int .u32 (s:Int),.pointer (some ⟨wr.heap.size,1,none⟩),.int .i64 M,.agg #[.int .i64 (i:Int),.int .u32 (s:Int),.int .i64 M],.func (.func 151) #[] #[.pointer (some ⟨wr.heap.size+1,0,none⟩),.pointer (some ⟨wr.heap.size+1+1,0,none⟩)],.int .i64 (j:Int),Zhj N l i s M j,u28,u29,u30,u31,u32,u33,u34,u35,u36,u37,u38,u39,u40,u41,u42,u43,u44,u45,u46,u47],defers:=[] })
    ?hAx ?assign ?body ?done ?stop
   case hAx =>
    rintro j a' u Y Z row ⟨Bc,h1,h2,h3⟩ hg hr;exact ⟨Bc,h1,Zcy Bc _ (fun _:Unit=>_) u Y Z row h2 hg (fun r e=>(hr r e).2),h3⟩
   case assign =>
    rintro lp pre j W' K ⟨⟨xs',h1,h2⟩,h3⟩ hK;have hsW:=h3.size;have bA:=(Below.refl W'.heap.size W').alloc (Nat.le_refl _) (.cells #[.int .i64 ((i+1:Nat):Int),.int .u32 ((stepN s j:Nat):Int),.int .i64 (M+((costN (stepN s j) (ofL N l i):Nat):Int))] 144);simp only [ZfR,Zhj];gi_wp2;exact hK _ _ ((KeepsOthers.alloc _ _).from _) (KpB.of_below bA (by omega) (by omega) (by omega)) ⟨⟨xs',HJ.out _ _ _ h1 (bA.mono (by omega)),h2.below bA (Nat.le_refl _)⟩,h3.trans (Spared.of_below bA)⟩ ⟨W'.heap.size,by omega,Box.new W' _ _,rfl⟩
   case body =>
    rintro lp pre j a' W' hlo ⟨r,hr⟩ ⟨⟨xs',h1,h2⟩,h3⟩ ⟨Bc,hBc,yx,rfl⟩ hlt16;have hsW:=h3.size;have vn:Box W' wr.heap.size 103 #[.int .u32 (s:Int),.int .i64 M,.int .i64 nsc,.slice pa i pc]:=h3.heap (hXn _ (by omega)) yn;have vy:Box W' n₁ 169 #[.func (.yield lo) #[] #[]]:=h3.heap (hXn _ (Nat.le_refl _)) zy;have vh:Box W' Bh 140 #[.slice (some ⟨b,off,none⟩) N cap]:=h3.heap hXh zh;have vd:Box W' Bd 3 #[.int .i64 (D1:Int)]:=h3.heap hXd zd;have bnW:Below n₀ W1 W':=bnS.trans (h3.below (fun j hj hx=>by have:=hX0 j hx; omega) (by omega));have cn3:=vn.cell 3 _ rfl;have bA:Below W'.heap.size W' ((W'.alloc (.cells #[.int .i64 (j:Int)] 3)).alloc (.cells #[.slice pa i pc,.slice (some ⟨W'.heap.size,0,none⟩) 1 1] 74)):=((Below.refl W'.heap.size W').alloc (Nat.le_refl _) _).alloc (by simp) _
    have xg:Box ((W'.alloc (.cells #[.int .i64 (j:Int)] 3)).alloc (.cells #[.slice pa i pc,.slice (some ⟨W'.heap.size,0,none⟩) 1 1] 74)) (W'.heap.size+1) 74 #[.slice pa i pc,.slice (some ⟨W'.heap.size,0,none⟩) 1 1]:=by
     have:=Box.new (W'.alloc (.cells #[.int .i64 (j:Int)] 3)) 74 #[.slice pa i pc,.slice (some ⟨W'.heap.size,0,none⟩) 1 1];simpa using this
    have xo:Box ((W'.alloc (.cells #[.int .i64 (j:Int)] 3)).alloc (.cells #[.slice pa i pc,.slice (some ⟨W'.heap.size,0,none⟩) 1 1] 74)) W'.heap.size 3 #[.int .i64 (j:Int)]:=(Box.new W' 3 _).alloc _;have hsA:((W'.alloc (.cells #[.int .i64 (j:Int)] 3)).alloc (.cells #[.slice pa i pc,.slice (some ⟨W'.heap.size,0,none⟩) 1 1] 74)).heap.size=W'.heap.size+2:=by simp
    have hps:Zb .i64 n₀ W' (.slice pa i pc) ps:=HPV.out.below ((bS.mono (by omega)).trans (h3.below (fun j hj hx=>by have:=hX0 j hx; omega) (by omega)))
    have HCC:Hid (∀ WA:World,WA=((W'.alloc (.cells #[.int .i64 (j:Int)] 3)).alloc (.cells #[.slice pa i pc,.slice (some ⟨W'.heap.size,0,none⟩) 1 1] 74))→CallsIn Fence.wide (9-1-1-1) Tryz.prog 148 #[.slice (some ⟨W'.heap.size+1,0,none⟩) 2 2] WA fun e V=>∃ ra rc,e=.returned (.slice ra (i+1) rc)∧V.ownsRow WA.heap.size 3 1 (.slice ra (i+1) rc) (i+1) ((ps++[(j:Int)]).map (Value.int .i64))∧Below WA.heap.size WA V):=by
     rintro WA rfl;refine callsIn_wide.2 ?_
     have:=concatInts_ok (W'.heap.size+1) pa (some ⟨W'.heap.size,0,none⟩) pc 1 ps [(j:Int)] (by have:=HPL.out; omega) (by simp) (by simp) ((W'.alloc (.cells #[.int .i64 (j:Int)] 3)).alloc (.cells #[.slice pa i pc,.slice (some ⟨W'.heap.size,0,none⟩) 1 1] 74)) (by rw [HPL.out]; exact xg.cell 0 _ rfl) (xg.cell 1 _ rfl) (by rw [HPL.out]; exact (hps.below (bA.mono (by omega))).mono (by rw [hsA]; omega)) (.inr ⟨W'.heap.size,0,1,rfl,by rw [hsA]; omega,fun t ht=>by
      have ht0:t=0:=by simpa using ht
      subst ht0
      exact xo.cell 0 _ rfl⟩)
     refine this.mono ?_;rintro e V ⟨rr,rfl,ho,hb⟩;rw [HPL.out] at ho;obtain ⟨ra,rc,rfl⟩:=Zbk ho;exact ⟨ra,rc,rfl,ho,hb⟩
    have HC:=CallsIn.inRound lp (HCC.out _ rfl);have f2:Fence.wide.fn 148:=trivial;have h12:1≤9-1-1:=by omega
    clear HCC hps;gi_wp2_with (gi_at_call 148; refine HC.mono ?_; rintro e w2 ⟨ra,rc,rfl,o2,b2⟩);have bA2:Below W'.heap.size W' w2:=bA.trans (b2.mono (by omega));have hst:=ZbF s j;have hcb:=ZbG HP.out i (stepN s j);have HKE:=Zhg (N:=N) (l:=l) (D:=D) (i:=i) (s:=s) (k:=j) (n:=((s:Int),M,nsc,ps)) rfl HPL.out;obtain ⟨ct,hct⟩:∃ ct,costN (stepN s j) (ofL N l i)=ct:=⟨_,rfl⟩;rw [hct] at HKE hcb yx;obtain ⟨tt,htt⟩:∃ tt,stepN s j=tt:=⟨_,rfl⟩;rw [htt] at HKE hst yx;obtain ⟨I,hI⟩:∃ I,i+1=I:=⟨_,rfl⟩;rw [hI] at HKE yx o2;rw [hI];obtain ⟨V,hV⟩:∃ V,lst stB (coB N l) N D (tt:Int) I (M+(ct:Int))=V:=⟨_,rfl⟩;rw [hV] at HKE;have HSC:=(callsIn_wide (n:=9-1-1-1)).2 (score_ok b off N cap l p HP.out D hD I tt (by omega) hst (M+(ct:Int)) (by omega) (by omega) w2.drew ((HS1.out.below (bnW.trans (bA2.mono (by omega)))).mono (by have:=bA2.size; show n₀≤w2.heap.size; omega)));rw [hV,HD1.out] at HSC;have HSC':=CallsIn.inRound lp HSC;have hSS:Box w2.drew n₁ 169 #[.func (.yield lo) #[] #[]]∧Box w2.drew Bc 144 #[.int .i64 (I:Int),.int .u32 (tt:Int),.int .i64 (M+(ct:Int))]∧Box w2.drew Bh 140 #[.slice (some ⟨b,off,none⟩) N cap]∧Box w2.drew Bd 3 #[.int .i64 (D1:Int)]:=⟨vy.next bA2.drew,yx.next bA2.drew,vh.next bA2.drew,vd.next bA2.drew⟩;refine wpIn_region_held (fun u=>Box u n₁ 169 #[.func (.yield lo) #[] #[]]∧Box u Bc 144 #[.int .i64 (I:Int),.int .u32 (tt:Int),.int .i64 (M+(ct:Int))]∧Box u Bh 140 #[.slice (some ⟨b,off,none⟩) N cap]∧Box u Bd 3 #[.int .i64 (D1:Int)]) (by kernel_rfl) ?_
    change Zay _ _ _ _ _ _ _ _ _ _ (World.drew _)
    refine ZE (i:=0) (v:=.func (.yield lo) #[] #[]) (Z3 (by kernel_rfl)) rfl (by kernel_rfl) (by kernel_rfl) (by kernel_rfl) (fun _ _ _ h=>h) ⟨.inl ⟨by rfl,fun u hu=>?_⟩,fun _=>rfl⟩ hSS ?_
    ·have g:=hu.1.cell 0 _ rfl; go_simp
    refine ZE (i:=1) (v:=.pointer (some ⟨Bc,1,none⟩)) (Z3 (by kernel_rfl)) rfl (by kernel_rfl) (by kernel_rfl) (by kernel_rfl) (fun _ _ _ h=>h) ⟨.inl ⟨by rfl,fun u hu=>?_⟩,fun _=>rfl⟩ hSS ?_
    ·go_simp
    refine ZE (i:=2) (v:=.int .u32 (tt:Int)) (Z3 (by kernel_rfl)) rfl (by kernel_rfl) (by kernel_rfl) (by kernel_rfl) (fun _ _ _ h=>h) ⟨.inl ⟨by rfl,fun u hu=>?_⟩,fun _=>rfl⟩ hSS ?_
    ·have g:=hu.2.1.cell 1 _ rfl; go_simp
    refine ZE (i:=3) (v:=.pointer (some ⟨Bc,2,none⟩)) (Z3 (by kernel_rfl)) rfl (by kernel_rfl) (by kernel_rfl) (by kernel_rfl) (fun _ _ _ h=>h) ⟨.inl ⟨by rfl,fun u hu=>?_⟩,fun _=>rfl⟩ hSS ?_
    ·go_simp
    refine ZE (i:=4) (v:=.int .i64 (M+(ct:Int))) (Z3 (by kernel_rfl)) rfl (by kernel_rfl) (by kernel_rfl) (by kernel_rfl) (fun _ _ _ h=>h) ⟨.inl ⟨by rfl,fun u hu=>?_⟩,fun _=>rfl⟩ hSS ?_
    ·have g:=hu.2.1.cell 2 _ rfl; go_simp
    refine ZE (i:=5) (v:=.slice (some ⟨b,off,none⟩) N cap) (Z3 (by kernel_rfl)) rfl (by kernel_rfl) (by kernel_rfl) (by kernel_rfl) (fun _ _ _ h=>h) ⟨.inl ⟨by rfl,fun u hu=>?_⟩,fun _=>rfl⟩ hSS ?_
    ·have g:=hu.2.2.1.cell 0 _ rfl; go_simp
    refine ZE (i:=6) (v:=.agg #[.int .i64 (I:Int),.int .u32 (tt:Int),.int .i64 (M+(ct:Int))]) (Z3 (by kernel_rfl)) rfl (by kernel_rfl) (by kernel_rfl) (by kernel_rfl) (fun _ _ _ h=>h) ⟨.inl ⟨by rfl,fun u hu=>?_⟩,fun _=>rfl⟩ hSS ?_
    ·have g:=hu.2.1.cell 0 _ rfl; have g1:=hu.2.1.cell 1 _ rfl; have g2:=hu.2.1.cell 2 _ rfl; go_simp
    refine ZE (i:=7) (v:=.int .i64 (D1:Int)) (Z3 (by kernel_rfl)) rfl (by kernel_rfl) (by kernel_rfl) (by kernel_rfl) (fun _ _ _ h=>h) ⟨.inl ⟨by rfl,fun u hu=>?_⟩,fun _=>rfl⟩ hSS ?_
    ·have g:=hu.2.2.2.cell 0 _ rfl; go_simp
    refine ZE (i:=9) (v:=.slice ra I rc) (Z3 (by kernel_rfl)) rfl (by kernel_rfl) (by kernel_rfl) (by kernel_rfl) (fun _ _ _ h=>h) ⟨.inl ⟨by rfl,fun u hu=>?_⟩,fun _=>rfl⟩ hSS ?_
    ·go_simp
    refine Zdv (i:=8) (by kernel_rfl) rfl (by rfl) fun K hK=>?_
    have f3:Fence.wide.fn 149:=trivial;go_simp;refine HSC'.mono ?_;rintro e w3 ⟨rfl,b3⟩;have b3':Below W'.heap.size W' w3:=bA2.drew.trans (b3.mono (by have:=bA2.size; show W'.heap.size≤w2.heap.size; omega));replace hSS:Box w3 n₁ 169 #[.func (.yield lo) #[] #[]]∧Box w3 Bc 144 #[.int .i64 (I:Int),.int .u32 (tt:Int),.int .i64 (M+(ct:Int))]∧Box w3 Bh 140 #[.slice (some ⟨b,off,none⟩) N cap]∧Box w3 Bd 3 #[.int .i64 (D1:Int)]:=⟨hSS.1.next b3,hSS.2.1.next b3,hSS.2.2.1.next b3,hSS.2.2.2.next b3⟩;refine hK _ _ hSS ?_;clear hK
    obtain ⟨fn,tmps,assign,body,hy,hR⟩:=HY.out xs' ((tt:Int),M+(ct:Int),V,ra,I,rc) w3 (HJ.out _ _ _ h1 (b3'.mono (by omega))) (by
     have e1:=h2.1
     rw [List.length_map,List.length_append,HKL.out,List.length_map] at e1
     omega)
    simp only [Zil] at hy;refine ZE (i:=10) (v:=.agg #[.int .u32 (tt:Int),.int .i64 (M+(ct:Int)),.int .i64 V,.slice ra I rc]) (Z3 (by kernel_rfl)) rfl (by kernel_rfl) (by kernel_rfl) (by kernel_rfl) (fun _ _ _ h=>h) ⟨.inl ⟨by rfl,fun u hu=>?_⟩,fun _=>rfl⟩ hSS ?_
    ·go_simp
    refine Zdv (i:=11) (by kernel_rfl) rfl (by rfl) fun K hK=>?_
    go_simp
    try rw [hy]
    try go_simp
    refine (round_wide hR).mono ?_;rintro e W4 ⟨rfl,hJ4,hS4⟩;have b3s:=b3'.size;replace hSS:Box W4 n₁ 169 #[.func (.yield lo) #[] #[]]∧Box W4 Bc 144 #[.int .i64 (I:Int),.int .u32 (tt:Int),.int .i64 (M+(ct:Int))]∧Box W4 Bh 140 #[.slice (some ⟨b,off,none⟩) N cap]∧Box W4 Bd 3 #[.int .i64 (D1:Int)]:=⟨hS4.heap (hXn _ (Nat.le_refl _)) hSS.1,hS4.heap (hXn _ hBc) hSS.2.1,hS4.heap hXh hSS.2.2.1,hS4.heap hXd hSS.2.2.2⟩;refine hK _ _ hSS ?_;clear hK;refine ZE (i:=12) (v:=.bool false) (Z3 (by kernel_rfl)) rfl (by kernel_rfl) (by kernel_rfl) (by kernel_rfl) (fun _ _ _ h=>h) ⟨.inl ⟨by rfl,fun u hu=>?_⟩,fun _=>rfl⟩ hSS ?_
    ·go_simp
    refine wpAnyHeld_done (by kernel_rfl) ?_ _;have o3:=ZL o2 (show Below w2.heap.size w2 w3 from (Below.refl w2.heap.size w2).drew.trans b3) (Nat.le_refl _)
    have h2':=(h2.below b3' (Nat.le_refl _)).snoc (x:=toRn ((tt:Int),M+(ct:Int),V,ra,I,rc)) (y:=kidB N l D i ((s:Int),M,nsc,ps) (j:Int)) (by rw [HKE]; rfl) (by rw [HKE]; rfl) (by rw [HKE]; rfl) (by
     rw [HKE]
     show World.ownsRow _ _ _ _ _ (ps++[(j:Int)]).length _
     rw [show (ps++[(j:Int)]).length=I by rw [List.length_append,HPL.out,← hI]; rfl]
     exact o3) (by omega) (fun u hu g hg=>by have:=h2.lt u hu g hg; omega)
    have h2'':ZQ n₁ W4 ((xs'++[((tt:Int),M+(ct:Int),V,ra,I,rc)]).map toRn) (ZY N l D i (L.take k)++(pre++[j]).map fun j:Nat=>kidB N l D i ((s:Int),M,nsc,ps) (j:Int)):=by
     rw [List.map_append,List.map_append,← List.append_assoc];exact ownRns_spared h2' hS4 hXn
    have hSW:Spared X W' W4:=(Spared.of_below b3').trans hS4;gi_wp2;exact ⟨hSW.keeps (fun j hj=>hXn j (by omega)),⟨hSW.below (fun j hj hx=>by have:=hX0 j hx; omega) (by omega),hSW.block _ (by omega) (hXn _ (by omega)),hSW.block _ (by omega) (hXn _ (by omega))⟩,⟨_,hJ4,h2''⟩,h3.trans hSW⟩
   case done =>
    rintro E ys W' hE rfl ⟨⟨xs',h1,h2⟩,h3⟩ hK;have hrg:(List.range 16).map (fun j:Nat=>kidB N l D i ((s:Int),M,nsc,ps) (j:Int))=ZaF.map (kidB N l D i ((s:Int),M,nsc,ps)):=by unfold ZaF; rw [List.map_map]; rfl
    rw [hrg,← ZfK,← HTK.out] at h2;have hMk':Zch (n₁+1) (E :: Ds) W':=(HMk.out.next fun F hF=>h3.block F (HMk.out.lt F hF) (hXn F (by have:=(HMk.out.2 F hF).1; omega))).cons hK (by omega) (fun hF=>by have:=HMk.out.lt E hF; omega);have hSp':=HSpS.out.trans h3;clear hrg;gi_wp2;exact ⟨⟨_,_,_,_,_,_,_,_,_,_,_,_,_,_,_,_,_,_,_,_,_,_,_,_,_,_,_,_,_,_,_,_,_,_,_,_,_,_,_,k+1,xs',E :: Ds,hlt,h1,h2,hSp',hMk',rfl⟩,by simp [intOf]; omega⟩
   case stop =>
    rintro E c pre W' _ _ h _;exact h.elim
  ·obtain rfl:k=m:=by omega
   rw [List.take_of_length_le (by rw [HML.out]; exact Nat.le_refl _)] at hO;gi_wp2;exact Zeb (n₁:=n₁+1) (fun W=>results_none rfl _ _ _) (fun W'=>ZQ n₁ W' (xs.map toRn) (ZY N l D i L)∧J xs W') (fun W' E o h hn hE=>⟨ZcW h.1 (grownBy_putObj' W' E o) (fun g e=>by cases e; exact ⟨_,hE,rfl⟩),HJ.out _ _ _ h.2 (ZbI o (by omega))⟩) (fun W' h=>⟨⟨_,rfl⟩,xs,h⟩) Ds wr hMk ⟨hO,hJs⟩
end Go.Proofs.YtabdnhkdoeibnaaGreatDoor
namespace Go.Proofs.YtabdnhkdoeibnaaGreatDoor
open Go.RowKit Go.Shelf
attribute [local go_sem] Oper.semAt_some
theorem infoNodeB:(Tryz.prog.info? 103).map (fun i=>(i.zero,i.size,i.bytes))=some (some (.agg #[.int .u32 0,.int .i64 0,.int .i64 0,.slice none 0 0]),4,48):=by kernel_rfl
theorem spared_append {X:Nat→Prop} {W w5:World} {tmp:Obj} {g B:Nat} {v':Value} (hgrow:(W.alloc tmp).grownBy w5 (some g)) (hg:X g) (hB:X B):Spared X W (w5.setCell ⟨B,0,none⟩ v'):=by
 refine ⟨hgrow.os,hgrow.tape,hgrow.output,?_,fun k hk hx=>?_⟩
 ·have h1:=hgrow.size;have h2:(w5.setCell ⟨B,0,none⟩ v').heap.size=w5.heap.size:=by simp [World.setCell]
  rw [h2];simp at h1;omega
 ·rw [Below.heap_setCell _ _ _ _ (fun e=>hx (by rw [show k=B from e]; exact hB))];exact (hgrow.block k (by simp; omega) (fun e=>hx (by cases e; exact hg))).trans (Below.heap_alloc W tmp k hk)
theorem Zix {A B:World} {base e size n cap k g:Nat} {xs:List Value} (h:A.ownsRow base e size (.slice (some ⟨g,0,none⟩) n cap) k xs) (hb:B.heap[g]? = A.heap[g]?):B.ownsRow base e size (.slice (some ⟨g,0,none⟩) n cap) k xs:=by
 refine ⟨h.1,?_⟩;rcases h.2 with h0 | ⟨g',cap',cur,hv,hbs,hg,hk,hm,hs,ht⟩
 ·exact .inl h0
 ·cases hv
  exact .inr ⟨g,cap,cur,rfl,hbs,hb.trans hg,hk,hm,hs,ht⟩
theorem ZQ.base {b b':Nat} {W:World} {r:List Rn} {l:List Nd} (h:ZQ b W r l) (hb:b'≤b):ZQ b' W r l:=⟨h.1,fun j x y hx hy=>by obtain ⟨h1,h2,h3,h4⟩:=h.2.1 j x y hx hy; exact ⟨h1,h2,h3,Zaa h4 hb⟩,h.2.2⟩
theorem rnCells_snoc' (xs:List Rs) (x:Rs):ZG ((xs++[x]).map toRn)=ZG (xs.map toRn)++[.int .u32 x.1,.int .i64 x.2.1,.int .i64 x.2.2.1,.slice x.2.2.2.1 x.2.2.2.2.1 x.2.2.2.2.2]:=by
 rw [List.map_append,List.map_cons,List.map_nil,Zd1];rfl
theorem nodes_in (n:Nat) (v u:Value) (hv:ZcZ v) (hu:ZcZ u) (d:Int) (w:World):CallsIn Fence.wide n Tryz.prog 132 #[v,u,.int .i64 d] w fun e w'=>e=.returned (.func (.func 146) #[] #[.pointer (some ⟨w.heap.size+1,0,none⟩),.pointer (some ⟨w.heap.size,0,none⟩),.pointer (some ⟨w.heap.size+1+1,0,none⟩)])∧w'=((w.alloc (.cells #[v] 140)).alloc (.cells #[u] 98)).alloc (.cells #[.int .i64 d] 3):=by
 obtain ⟨a,k,c,rfl⟩:=hv;obtain ⟨a',k',c',rfl⟩:=hu;refine callsIn_of_wp Tryz.func132 rfl trivial ?_ rfl;simp only [Tryz.ntmps132,List.size_toArray,List.length_cons,List.length_nil,Nat.reduceAdd,Nat.reduceSub,Array.replicate_succ,Array.replicate_zero,List.push_toArray,List.append_toArray,List.nil_append,List.cons_append];gi_wp2;go_ret;exact ⟨rfl,rfl⟩
theorem allChildren_ok (b off N cap:Nat) (l:List (Int×Int)) (p:Int) (hp:Zf (N:Int) p l) (D:Nat) (hD:D≤2) (i:Nat) (hi:i<N) (L:List Nd) (m:Nat) (hm:L.length=m) (hm1:1≤m) (hm16:m≤16) (la:Option Addr) (lc:Nat)
  (hLn:∀ n∈L,(∃ s:Nat,s<4294967296∧n.1=(s:Int))∧0≤n.2.1∧n.2.1≤8192 * (i:Int)∧n.2.2.2.length=i) (w:World)
  (hS:Segs w.heap.size w (.slice (some ⟨b,off,none⟩) N cap) (Za1 N l)) (hLN:Zae w.heap.size w (.slice la m lc) L) :
  Calls Tryz.prog 109 #[.slice (some ⟨b,off,none⟩) N cap,.slice la m lc,.int .i64 ((D+1:Nat):Int)] w fun e W'=>∃ r,e=.returned r∧Zae W'.heap.size W' r (ZY N l D i L)∧Below w.heap.size w W':=by
 refine (callsIn_wide (n:=9)).1 ?_;obtain ⟨i0,hi0,hz0,hz1,hz2⟩:=info_parts infoNodeB;obtain ⟨M,hM⟩:∃ M,m * 16=M:=⟨_,rfl⟩;have e16:(16:Int) * (m:Int)=(M:Int):=by omega
 have hM2:M≤256:=by omega
 have hM1:1≤M:=by omega
 have hn1:(1:Nat)≤9:=by omega
 obtain ⟨D1,hD1⟩:∃ D1,D+1=D1:=⟨_,rfl⟩;rw [hD1];have HD1:Hid (D+1=D1):=hD1;have f1:Fence.wide.fn 132:=trivial;have HP:Hid (Zf (N:Int) p l):=hp;have HM:Hid (m * 16=M):=hM;have HML:Hid (L.length=m):=hm;have HLn:Hid (∀ n∈L,(∃ s:Nat,s<4294967296∧n.1=(s:Int))∧0≤n.2.1∧n.2.1≤8192 * (i:Int)∧n.2.2.2.length=i):=hLn;have HS:Hid (Segs w.heap.size w (.slice (some ⟨b,off,none⟩) N cap) (Za1 N l)):=hS;have HLN:Hid (Zae w.heap.size w (.slice la m lc) L):=hLN;clear hp hM hm hLn hS hLN hD1;refine callsIn_of_wp_marks Tryz.func109 rfl trivial ?_ rfl;simp only [Tryz.ntmps109,List.size_toArray,List.length_cons,List.length_nil,Nat.reduceAdd,Nat.reduceSub,Array.replicate_succ,Array.replicate_zero,List.push_toArray,List.append_toArray,List.nil_append,List.cons_append];gi_wp2_with (first | (gi_at_make; refine wpListIn_make_own _ rfl _ _ 98 rfl w.heap.size 103 i0 (.agg #[.int .u32 0,.int .i64 0,.int .i64 0,.slice none 0 0]) 4 Tryz.underlying98 hi0 hz0 hz1 .i64 .i64 _ M rfl rfl (by omega) (by rw [hz2]; omega) (by unfold maxLen; omega) (Nat.le_refl _) ?_; intro w1 hown1 hgrow1) | (gi_at_call 132; refine (nodes_in (9-1) _ _ ⟨_,_,_,rfl⟩ ⟨_,_,_,rfl⟩ _ _).mono ?_; rintro e w2 ⟨rfl,rfl⟩));have hg0:w.heap.size<w1.heap.size:=(hown1.lt w.heap.size rfl).2;have hB01:Below w.heap.size w w1:=(Below.refl _ w).grown hgrow1 (Nat.le_refl _) (fun k e=>by cases e);have bO:Box ((((w1.alloc (.cells #[.slice (some ⟨w.heap.size,0,none⟩) 0 M] 98)).alloc (.cells #[.slice (some ⟨b,off,none⟩) N cap] 140)).alloc (.cells #[.slice la m lc] 98)).alloc (.cells #[.int .i64 (D1:Int)] 3)) w1.heap.size 98 #[.slice (some ⟨w.heap.size,0,none⟩) 0 M]:=(((Box.new w1 98 _).alloc _).alloc _).alloc _;have bH:=((Box.new (w1.alloc (.cells #[.slice (some ⟨w.heap.size,0,none⟩) 0 M] 98)) 140 #[.slice (some ⟨b,off,none⟩) N cap]).alloc (.cells #[.slice la m lc] 98)).alloc (.cells #[.int .i64 (D1:Int)] 3);have bL:=(Box.new ((w1.alloc (.cells #[.slice (some ⟨w.heap.size,0,none⟩) 0 M] 98)).alloc (.cells #[.slice (some ⟨b,off,none⟩) N cap] 140)) 98 #[.slice la m lc]).alloc (.cells #[.int .i64 (D1:Int)] 3);have bD:=Box.new (((w1.alloc (.cells #[.slice (some ⟨w.heap.size,0,none⟩) 0 M] 98)).alloc (.cells #[.slice (some ⟨b,off,none⟩) N cap] 140)).alloc (.cells #[.slice la m lc] 98)) 3 #[.int .i64 (D1:Int)];simp only [World.size_alloc] at bH bL bD;have b10:Below w1.heap.size w1 ((((w1.alloc (.cells #[.slice (some ⟨w.heap.size,0,none⟩) 0 M] 98)).alloc (.cells #[.slice (some ⟨b,off,none⟩) N cap] 140)).alloc (.cells #[.slice la m lc] 98)).alloc (.cells #[.int .i64 (D1:Int)] 3)):=((((Below.refl w1.heap.size w1).alloc (Nat.le_refl _) _).alloc (by simp) _).alloc (by simp; omega) _).alloc (by simp; omega) _;have hsz:((((w1.alloc (.cells #[.slice (some ⟨w.heap.size,0,none⟩) 0 M] 98)).alloc (.cells #[.slice (some ⟨b,off,none⟩) N cap] 140)).alloc (.cells #[.slice la m lc] 98)).alloc (.cells #[.int .i64 (D1:Int)] 3)).heap.size=w1.heap.size+4:=by simp
 obtain ⟨W0,hW0⟩:∃ W0,(((w1.alloc (.cells #[.slice (some ⟨w.heap.size,0,none⟩) 0 M] 98)).alloc (.cells #[.slice (some ⟨b,off,none⟩) N cap] 140)).alloc (.cells #[.slice la m lc] 98)).alloc (.cells #[.int .i64 (D1:Int)] 3)=W0:=⟨_,rfl⟩;rw [hW0] at bO bH bL bD b10 hsz ⊢;clear hW0;have hB00:Below w.heap.size w W0:=hB01.trans (b10.mono (by omega));have hrow0:W0.ownsRow w.heap.size 103 4 (.slice (some ⟨w.heap.size,0,none⟩) 0 M) 0 []:=ZL hown1 b10 (Nat.le_refl _);clear hown1 hgrow1 hB01
 refine wpIn_rangeFunc_all (α:=Rs) (encs:=Zil) (N:=M) (X:=fun k=>k=w.heap.size∨k=w1.heap.size) rfl hn1 (gf:=146) (lb:=#[.pointer (some ⟨w1.heap.size+1+1,0,none⟩),.pointer (some ⟨w1.heap.size+1,0,none⟩),.pointer (some ⟨w1.heap.size+1+1+1,0,none⟩)]) rfl trivial (enters_of Tryz.func146 (by kernel_rfl) rfl)
  (fun k hk=>by rcases hk with rfl | rfl <;> omega) (fun _=>rfl)
  (fun pre W=>Box W w1.heap.size 98 #[.slice (some ⟨w.heap.size,0,none⟩) pre.length M]∧W.ownsRow w.heap.size 103 4 (.slice (some ⟨w.heap.size,0,none⟩) pre.length M) pre.length (ZG (pre.map toRn))∧Below w.heap.size W0 W)
  (fun s A B h hb=>⟨h.1.below hb (by omega),Zix h.2.1 (hb.block _ (by omega)),h.2.2.trans (hb.mono (by omega))⟩)
  ⟨bO,hrow0,Below.refl _ _⟩
  (fun xs W=>ZQ W0.heap.size W (xs.map toRn) (ZY N l D i L))
  (fun xs W lo o o' h hl ho=>ZcW h (grownBy_putObj' W lo o') (fun g e=>by cases e; exact ⟨_,hl,ho⟩))
  ?seq
  (fun x a' W=>∃ Bx,w1.heap.size<Bx∧Box W Bx 103 #[.int .u32 x.1,.int .i64 x.2.1,.int .i64 x.2.2.1,.slice x.2.2.2.1 x.2.2.2.2.1 x.2.2.2.2.2]∧a'={ tmps:=#[.slice (some ⟨b,off,none⟩) N cap,.slice la m lc,.int .i64 (D1:Int),undef,undef,undef,.slice none 0 0,.pointer (some ⟨w1.heap.size,0,none⟩),.pointer (some ⟨Bx,0,none⟩),.slice la m lc,.int .i64 (m:Int),.int .i64 (M:Int),.slice (some ⟨w.heap.size,0,none⟩) 0 M,.slice (some ⟨b,off,none⟩) N cap,.slice la m lc,.int .i64 (D1:Int),.func (.func 146) #[] #[.pointer (some ⟨w1.heap.size+1+1,0,none⟩),.pointer (some ⟨w1.heap.size+1,0,none⟩),.pointer (some ⟨w1.heap.size+1+1+1,0,none⟩)],.agg #[.int .u32 x.1,.int .i64 x.2.1,.int .i64 x.2.2.1,.slice x.2.2.2.1 x.2.2.2.2.1 x.2.2.2.2.2],undef,undef,undef,undef,undef],defers:=[] })
  (fun x a' W lo o o' h hl ho=>by
   obtain ⟨Bx,h1,h2,h3⟩:=h
   exact ⟨Bx,h1,Zcy Bx _ (fun _:Unit=>_) () W _ (some lo) h2 (grownBy_putObj' W lo o') (fun r e=>by cases e; exact ⟨_,hl,ho⟩),h3⟩)
  ?assign ?body ?done
 case seq =>
  intro W1 J hb hs1 hJ hY h0;refine (nodes1_in (9-1) _ (W0.heap.size+1) (w1.heap.size+1+1) (w1.heap.size+1) (w1.heap.size+1+1+1) b off N cap l p HP.out D hD i hi L m HML.out hm16 la lc w.heap.size W1.heap.size (fun k=>(k=w.heap.size∨k=w1.heap.size)∨k=W0.heap.size+1) HLn.out J hJ (fun pre x W h hl=>hY pre x W h (by rw [← HM.out]; exact hl)) (fun k hk=>by rcases hk with (rfl | rfl) | rfl <;> omega) (fun k hk=>by rcases hk with (rfl | rfl) | rfl <;> omega) (by omega) (by omega) W1 rfl (by omega) (bL.below hb (by omega)) (bH.below hb (by omega)) (by rw [HD1.out]; exact bD.below hb (by omega)) ((HS.out.below hB00).below (hb.mono (by omega))) ((HLN.out.below hB00).below (hb.mono (by omega))) h0).mono ?_;rintro e W' ⟨hv,xs,h1,h2⟩;exact ⟨hv,xs,h1.base (by omega),h2⟩
 case assign =>
  rintro lo pre x W K ⟨h1,h2,h3⟩ hK;have hsW:=h3.size;have bA:=(Below.refl W.heap.size W).alloc (Nat.le_refl _) (.cells #[.int .u32 x.1,.int .i64 x.2.1,.int .i64 x.2.2.1,.slice x.2.2.2.1 x.2.2.2.2.1 x.2.2.2.2.2] 103);simp only [Zil];gi_wp2;exact hK _ _ (Spared.of_below bA) ⟨h1.alloc _,Zix h2 (bA.block _ (by omega)),h3.trans (bA.mono (by omega))⟩ ⟨W.heap.size,by omega,Box.new W _ _,rfl⟩
 case body =>
  rintro lo pre x a' W hsW ⟨h1,h2,h3⟩ ⟨Bx,hBx,yx,rfl⟩ hlt;have hsz3:=h3.size;have hc:=h1.cell 0 _ rfl;obtain ⟨k0,k1,k2,k3⟩:=yx.c4;have HXC:Hid (ZG ((pre++[x]).map toRn)=ZG (pre.map toRn)++[.int .u32 x.1,.int .i64 x.2.1,.int .i64 x.2.2.1,.slice x.2.2.2.1 x.2.2.2.2.1 x.2.2.2.2.2]):=rnCells_snoc' pre x;have hvb:Boxed W w1.heap.size 98 (.slice (some ⟨w.heap.size,0,none⟩) pre.length M):=h1;gi_wp2_with (gi_at_builtin; refine wpListIn_append_fits _ rfl _ _ 98 rfl w.heap.size 103 i0 4 Tryz.underlying98 hi0 hz1 w.heap.size pre.length M (ZG (pre.map toRn)) rfl (h2.alloc _) ⟨W.heap.size,0,none⟩ 1 1 [.int .u32 x.1,.int .i64 x.2.1,.int .i64 x.2.2.1,.slice x.2.2.2.1 x.2.2.2.2.1 x.2.2.2.2.2] rfl rfl (World.news_of_block (World.alloc_heap_new _ _)) (by simp [Value.oneCell']) (by omega) ?_; intro w5 hown' hgrow; obtain ⟨hv1,hv2,hr2,hk2,hb2⟩:=hvb.appended (by decide) h2 (by omega) (by omega) hown' hgrow; have hc1:=hv1.cell; have hf1:=hv1.frozen);refine ⟨spared_append hgrow (.inl rfl) (.inr rfl),?_,?_,h3.trans hb2⟩
  ·rw [List.length_append];exact hv2
  ·rw [List.length_append,HXC.out];exact hr2
 case done =>
  rintro E xs W hE hO ⟨h1,h2,h3⟩ hK;have hc:=h1.cell 0 _ rfl;have hO':=ZcW hO (grownBy_putObj' W E (.deferred none)) (fun g e=>by cases e; exact ⟨_,hK,rfl⟩);have h2':=ownsRow_putObj h2 (.deferred none) hK rfl;have hB':=(hB00.trans h3).trans (ZbI (l:=E) (W:=W) (.deferred none) (by omega));gi_wp2;refine ⟨by simp,.inl ⟨_,_,rfl,run_takeDeferred hK,?_⟩⟩;exact ⟨_,results_tmp rfl _ _ _,_,rfl,⟨xs.map toRn,ZaK h2',hO'.rns⟩,hB'⟩
end Go.Proofs.YtabdnhkdoeibnaaGreatDoor
namespace Go.Proofs.YtabdnhkdoeibnaaGreatDoor
open Go.RowKit
def ZbA (n₀:Nat) (W:World) (v:Value) (l:List Nd):Prop:=∃ r,Raw n₀ W v r∧Zbt n₀ W r l∧∀ x∈r,∃ a n c,x.2.2.2=Value.slice a n c∧n≤c
theorem ZbA.nodes {n₀:Nat} {W:World} {v:Value} {l:List Nd} (h:ZbA n₀ W v l):Zae n₀ W v l:=by obtain ⟨r,h1,h2,_⟩:=h; exact ⟨r,h1,h2⟩
theorem ZbA.next {W W':World} {v:Value} {l:List Nd} (h:ZbA W.heap.size W v l) (hb:Below W.heap.size W W'):ZbA W'.heap.size W' v l:=by obtain ⟨r,h1,h2,h3⟩:=h; exact ⟨r,(h1.below hb).mono hb.size,(h2.below hb).mono hb.size,h3⟩
theorem Zap.nodesC {base:Nat} {W:World} {v:Value} {l:List Nd} (h:Zap base W v l):ZbA W.heap.size W v l:=by
 obtain ⟨r,h1,h2⟩:=h;refine ⟨r,ZaK h1,h2.rns,fun x hx=>?_⟩;obtain ⟨j,hj,e⟩:=List.getElem_of_mem hx;have hjl:j<l.length:=by rw [← h2.1]; exact hj
 obtain ⟨_,_,_,h4⟩:=h2.2.1 j x (l[j]) (by rw [← e]; simp) (by simp);obtain ⟨a,c,e4⟩:=Zbk h4;rw [e4] at h4;exact ⟨_,_,_,e4,rowN_cap h4⟩
theorem ZbA.cap {n₀:Nat} {W:World} {v:Value} {l:List Nd} (h:ZbA n₀ W v l) {n cap:Nat} {a:Option Addr} (hv:v=.slice a n cap) (hl:l.length=n) (h0:0<n):∃ b off,a=some ⟨b,off,none⟩∧∀ (j:Nat) (y:Nd),l[j]? = some y →
   ∃ pa pc,y.2.2.2.length≤pc∧Zb .i64 n₀ W (.slice pa y.2.2.2.length pc) y.2.2.2∧W.cell? ⟨b,off+j * 4+1,none⟩=some (.int .i64 y.2.1)∧W.cell? ⟨b,off+j * 4+3,none⟩=some (.slice pa y.2.2.2.length pc):=by
 obtain ⟨r,h1,h2,h3⟩:=h;subst hv;obtain ⟨b,off,rfl,_,hc⟩:=Zir h1 (h2.1.trans hl) h0;refine ⟨b,off,rfl,fun j y hy=>?_⟩;obtain ⟨p,hp,hh⟩:=h2.get hy;obtain ⟨pa,pn,pc,e,hle⟩:=h3 _ (List.mem_of_getElem? hp);obtain ⟨pa',pc',e'⟩:=hh.shape;have e'':p=.slice pa pn pc:=e;have hcc:=hc j _ hp;rw [e'] at hh hcc;rw [e'] at e''
 cases e''
 exact ⟨_,_,hle,hh,hcc.2.1,hcc.2.2.2⟩
theorem Walk_ok (N:Nat) (p:Int) (a:Option Addr) (cap:Nat) (l:List (Int×Int)) (hp:Zf (N:Int) p l) (b:Nat) (hb1:1≤b) (hb2:b≤16) (D:Nat) (hD:D≤2) (w:World) (ha:Syms w.heap.size w (.slice a l.length cap) l) (hF:ZA w) :
  Calls Tryz.prog 82 #[.agg #[.int .i64 N,.int .i64 p,.slice a l.length cap],.int .i64 (b:Int),.int .i64 ((D+1:Nat):Int)] w fun e W'=>∃ r,e=.returned (.tuple #[r,.int .i64 (ZH N l b D N).2,.int .i64 0])∧ZbA W'.heap.size W' r (ZH N l b D N).1∧Below w.heap.size w W':=by
 have hN1:1≤N:=by have:=hp.1.1; omega
 have hN2:N<65:=by have:=hp.1.2.1; omega
 have b1:Below w.heap.size w (w.alloc (.cells #[.int .i64 N,.int .i64 p,.slice a l.length cap] 26)):=(Below.refl w.heap.size w).alloc (Nat.le_refl _) _;have HP:Hid (Zf (N:Int) p l):=hp;have HBS:=bySegment_ok N p a cap l hp _ (ha.next b1) (hF.next b1);have HAC:Hid (∀ (sb so scap i:Nat) (L:List Nd) (m:Nat) (la:Option Addr) (lc:Nat) (wx:World),i<N→L.length=m→1≤m→m≤16→(∀ n∈L,(∃ s:Nat,s<4294967296∧n.1=(s:Int))∧0≤n.2.1∧n.2.1≤8192 * (i:Int)∧n.2.2.2.length=i)→Segs wx.heap.size wx (.slice (some ⟨sb,so,none⟩) N scap) (Za1 N l)→Zae wx.heap.size wx (.slice la m lc) L→Calls Tryz.prog 109 #[.slice (some ⟨sb,so,none⟩) N scap,.slice la m lc,.int .i64 ((D+1:Nat):Int)] wx fun e W'=>∃ r,e=.returned r∧Zae W'.heap.size W' r (ZY N l D i L)∧Below wx.heap.size wx W'):=fun sb so scap i L m la lc wx h1 h2 h3 h4 h5 h6 h7=>allChildren_ok sb so N scap l p hp D hD i h1 L m h2 h3 h4 la lc h5 wx h6 h7
 obtain ⟨D1,hD1⟩:∃ D1,D+1=D1:=⟨_,rfl⟩;rw [hD1] at HAC ⊢;have g1:decide ((b:Int)<1)=false:=decide_eq_false (by omega);have g2:decide ((16:Int)<(b:Int))=false:=decide_eq_false (by omega);have g2':decide (16<b)=false:=decide_eq_false (by omega);have g1':decide (b<1)=false:=decide_eq_false (by omega);have HID:=isDepth_yes (D1:Int) (by omega) (by omega);clear hp ha hF hD1;go_enter Tryz.func82,Tryz.ntmps82;go_wp2;go_step3;go_wp2_with fail;refine HBS.mono ?_;rintro e w2 ⟨r,rfl,hSg,b2⟩;clear HBS;obtain ⟨sb,so,scap,e3,hsb⟩:=hSg.shape;rw [Zbu] at e3;subst e3;have bb2:=b1.trans (b2.mono b1.size);clear b1 b2;go_wp2_with fail;refine (HID w2).mono ?_;rintro e wz ⟨rfl,rfl⟩;go_wp2_with fail;refine (root_any w2).mono ?_;rintro e w3 ⟨rfl,b3⟩;have bb3:=bb2.trans (b3.mono bb2.size);have b4:Below w3.heap.size w3 (w3.alloc (.cells #[.int .u32 (beginN:Int),.int .i64 0,.int .i64 0,.slice none 0 0] 103)):=(Below.refl _ _).alloc (Nat.le_refl _) _
 have hR:ZbA (w3.alloc (.cells #[.int .u32 (beginN:Int),.int .i64 0,.int .i64 0,.slice none 0 0] 103)).heap.size (w3.alloc (.cells #[.int .u32 (beginN:Int),.int .i64 0,.int .i64 0,.slice none 0 0] 103)) (.slice (some ⟨w3.heap.size,0,none⟩) 1 1) [((beginN:Int),0,0,[])]:=by
  refine ⟨[((beginN:Int),0,0,.slice none 0 0)],ZaK (base:=0) (k:=1) (e:=103) ⟨rfl,.inr ⟨w3.heap.size,1,#[.int .u32 (beginN:Int),.int .i64 0,.int .i64 0,.slice none 0 0],rfl,Nat.zero_le _,World.alloc_heap_new _ _,Nat.le_refl _,by unfold maxLen; omega,rfl,rfl⟩⟩,(Zdi _ _).snoc (x:=((beginN:Int),0,0,.slice none 0 0)) (y:=((beginN:Int),0,0,[])) ⟨rfl,rfl,rfl,.inl ⟨⟨_,_,rfl,fun _=>rfl⟩,rfl⟩⟩,fun x hx=>⟨none,0,0,by simp at hx; rw [hx],Nat.le_refl _⟩⟩
 have HS4:Hid (Segs (w3.alloc (.cells #[.int .u32 (beginN:Int),.int .i64 0,.int .i64 0,.slice none 0 0] 103)).heap.size (w3.alloc (.cells #[.int .u32 (beginN:Int),.int .i64 0,.int .i64 0,.slice none 0 0] 103)) (.slice (some ⟨sb,so,none⟩) N scap) (Za1 N l)):=(hSg.next b3).next b4;have bb4:=bb3.trans (b4.mono bb3.size);have hfd:Sem.run Tryz.prog (Instr.field 144 (.agg #[.int .i64 0,.int .u32 (beginN:Int),.int .i64 0]) 1) w3=.ok (.int .u32 (beginN:Int)) w3:=rfl;clear hSg b3 b4 bb2 bb3;go_wp2;clear hfd;go_step3;go_wp2;obtain ⟨W4,hW4⟩:∃ W,w3.alloc (.cells #[.int .u32 (beginN:Int),.int .i64 0,.int .i64 0,.slice none 0 0] 103)=W:=⟨_,rfl⟩;rw [hW4] at bb4 hR HS4 ⊢;clear hW4;go_loopw [6,7,38] (fun s9 s10 s11 wr=>∃ i:Nat,i≤N∧s11=.int .i64 i∧s10=.int .i64 (ZH N l b D i).2∧ZbA wr.heap.size wr s9 (ZH N l b D i).1∧Below W4.heap.size W4 wr) (fun _ _ i _=>N-(intOf i).toNat)
 case atStart=>exact ⟨0,Nat.zero_le _,rfl,rfl,hR,Below.refl _ _⟩
 case round =>
  obtain ⟨i,hi,rfl,rfl,hL,bw⟩:=hrel;clear hR;by_cases hlt:i<N
  ·have dN:decide ((i:Int)<(N:Int))=true:=decide_eq_true (by omega);have dN':decide (i<N)=true:=decide_eq_true hlt;have hwl:=Zdp N l (D:=D) (i:=i) hb1 hb2;have hwi:=Zao stB (coB N l) N (beginN:Int) D b hb1 i;have hws:0<(ZH N l b D i).1.length:=hwi.some;have hwc:-1≤(ZH N l b D i).2:=hwi.cut1;have HNB:Hid (∀ n∈(ZH N l b D i).1,(∃ s:Nat,s<4294967296∧n.1=(s:Int))∧0≤n.2.1∧n.2.1≤8192 * (i:Int)∧n.2.2.2.length=i):=fun n hn=>ZdN HP.out hb1 hn
   have HKO:Hid (∀ x∈ZY N l D i (ZH N l b D i).1,0≤sc x∧x.2.2.2.length=i+1):=ZhH HP.out hb1;have HNX:Hid (ZH N l b D (i+1)=(ZaZ b (ZY N l D i (ZH N l b D i).1),lmin (ZH N l b D i).2 (cutK sc b (ZY N l D i (ZH N l b D i).1)))):=ZfJ N l b D i;obtain ⟨L,hLe⟩:∃ L,(ZH N l b D i).1=L:=⟨_,rfl⟩;obtain ⟨cu,hcu⟩:∃ cu,(ZH N l b D i).2=cu:=⟨_,rfl⟩;rw [hLe] at hwl hws HNB HKO HNX hL;rw [hcu] at HNX hwc ⊢;obtain ⟨la,lc,e9⟩:=hL.nodes.shape;obtain ⟨m,hm⟩:∃ m,L.length=m:=⟨_,rfl⟩;rw [hm] at e9 hwl hws;subst e9;have HCC:=HAC.out sb so scap i L m la lc wr hlt hm hws hwl HNB.out (HS4.out.next bw) hL.nodes
   have hkl:(ZY N l D i L).length=m * 16:=by
    unfold ZY;rw [ZaM,hm]
   have HKL:Hid ((ZY N l D i L).length=m * 16):=hkl
   have hcut:cutK sc b (ZY N l D i L) = -1∨0≤cutK sc b (ZY N l D i L):=by
    rcases ZcL sc b (ZY N l D i L) with ⟨e,_⟩ | ⟨⟨y,hy,ey⟩,_⟩
    ·exact .inl e
    ·refine .inr ?_;rw [← ey];exact (HKO.out y ((Z7 sc _).mem_iff.1 (List.mem_of_mem_drop hy))).1
   obtain ⟨c,hc⟩:∃ c,cutK sc b (ZY N l D i L)=c:=⟨_,rfl⟩;rw [hc] at hcut HNX;have HC:Hid (cutK sc b (ZY N l D i L)=c):=hc;clear hLe hcu hm hL hkl hc hwi;by_cases hc0:c = -1
   ·have d0:(c == -1)=true:=by simp [hc0]
    have HLM:Hid (lmin cu c=cu):=by
     show lmin cu c=cu
     unfold lmin;rw [if_neg (by omega)]
    clear hc0 hcut;go_wp2_with (first | (go_at_call 109; refine HCC.mono ?_; rintro e w5 ⟨r5,rfl,hk5,b5⟩; have HPK:=Zgn r5 (ZY N l D i L) (by rw [HKL.out]; omega) (fun x hx=>by rw [(HKO.out x hx).2]; omega) b hb1 hb2 (fun x hx=>(HKO.out x hx).1) w5 hk5; rw [HC.out] at HPK) | (go_at_call 108; refine HPK.mono ?_; rintro e w6 ⟨r6,rfl,o6,b6⟩; clear HPK; have HNW:Hid (ZbA w6.heap.size w6 r6 (ZaZ b (ZY N l D i L))):=o6.nodesC; clear o6; have hb6:Below W4.heap.size W4 w6:=(bw.trans (b5.mono bw.size)).trans (b6.mono (Nat.le_trans bw.size b5.size))));go_roundw
    case rel=>exact ⟨i+1,by omega,by go_num,by rw [HNX.out,HLM.out],by rw [HNX.out]; exact HNW.out,hb6⟩
    case measure=>simp [intOf]; omega
   ·have d0:(c == -1)=false:=by rw [beq_eq_false_iff_ne]; exact hc0
    have hc1:0≤c:=hcut.resolve_left hc0;clear hcut hc0;by_cases hu0:cu = -1
    ·have d1:(cu == -1)=true:=by simp [hu0]
     have HLM:Hid (lmin cu c=c):=by
      show lmin cu c=c
      unfold lmin;rw [if_pos ⟨hc1,.inl (by omega)⟩]
     clear hu0 hc1 hwc;go_wp2_with (first | (go_at_call 109; refine HCC.mono ?_; rintro e w5 ⟨r5,rfl,hk5,b5⟩; have HPK:=Zgn r5 (ZY N l D i L) (by rw [HKL.out]; omega) (fun x hx=>by rw [(HKO.out x hx).2]; omega) b hb1 hb2 (fun x hx=>(HKO.out x hx).1) w5 hk5; rw [HC.out] at HPK) | (go_at_call 108; refine HPK.mono ?_; rintro e w6 ⟨r6,rfl,o6,b6⟩; clear HPK; have HNW:Hid (ZbA w6.heap.size w6 r6 (ZaZ b (ZY N l D i L))):=o6.nodesC; clear o6; have hb6:Below W4.heap.size W4 w6:=(bw.trans (b5.mono bw.size)).trans (b6.mono (Nat.le_trans bw.size b5.size))));go_roundw
     case rel=>exact ⟨i+1,by omega,by go_num,by rw [HNX.out,HLM.out],by rw [HNX.out]; exact HNW.out,hb6⟩
     case measure=>simp [intOf]; omega
    ·have d1:(cu == -1)=false:=by rw [beq_eq_false_iff_ne]; exact hu0
     by_cases hcc:c<cu
     ·have d2:decide (c<cu)=true:=decide_eq_true hcc
      have HLM:Hid (lmin cu c=c):=by
       show lmin cu c=c
       unfold lmin;rw [if_pos ⟨hc1,.inr hcc⟩]
      clear hu0 hc1 hwc hcc;go_wp2_with (first | (go_at_call 109; refine HCC.mono ?_; rintro e w5 ⟨r5,rfl,hk5,b5⟩; have HPK:=Zgn r5 (ZY N l D i L) (by rw [HKL.out]; omega) (fun x hx=>by rw [(HKO.out x hx).2]; omega) b hb1 hb2 (fun x hx=>(HKO.out x hx).1) w5 hk5; rw [HC.out] at HPK) | (go_at_call 108; refine HPK.mono ?_; rintro e w6 ⟨r6,rfl,o6,b6⟩; clear HPK; have HNW:Hid (ZbA w6.heap.size w6 r6 (ZaZ b (ZY N l D i L))):=o6.nodesC; clear o6; have hb6:Below W4.heap.size W4 w6:=(bw.trans (b5.mono bw.size)).trans (b6.mono (Nat.le_trans bw.size b5.size))));go_roundw
      case rel=>exact ⟨i+1,by omega,by go_num,by rw [HNX.out,HLM.out],by rw [HNX.out]; exact HNW.out,hb6⟩
      case measure=>simp [intOf]; omega
     ·have d2:decide (c<cu)=false:=decide_eq_false hcc
      have HLM:Hid (lmin cu c=cu):=by
       show lmin cu c=cu
       unfold lmin;rw [if_neg (by omega)]
      clear hu0 hc1 hwc hcc;go_wp2_with (first | (go_at_call 109; refine HCC.mono ?_; rintro e w5 ⟨r5,rfl,hk5,b5⟩; have HPK:=Zgn r5 (ZY N l D i L) (by rw [HKL.out]; omega) (fun x hx=>by rw [(HKO.out x hx).2]; omega) b hb1 hb2 (fun x hx=>(HKO.out x hx).1) w5 hk5; rw [HC.out] at HPK) | (go_at_call 108; refine HPK.mono ?_; rintro e w6 ⟨r6,rfl,o6,b6⟩; clear HPK; have HNW:Hid (ZbA w6.heap.size w6 r6 (ZaZ b (ZY N l D i L))):=o6.nodesC; clear o6; have hb6:Below W4.heap.size W4 w6:=(bw.trans (b5.mono bw.size)).trans (b6.mono (Nat.le_trans bw.size b5.size))));go_roundw
      case rel=>exact ⟨i+1,by omega,by go_num,by rw [HNX.out,HLM.out],by rw [HNX.out]; exact HNW.out,hb6⟩
      case measure=>simp [intOf]; omega
  ·obtain rfl:i=N:=by omega
   go_wp2;rw [Exit.noGoto_ret];refine bodyPost_ret (v:=.tuple #[u6,.int .i64 (ZH i l b D i).2,.int .i64 0]) (by simp [results,Tryz.results82]) rfl ⟨_,rfl,hL,bb4.trans (bw.mono bb4.size)⟩
theorem isTie_ok (la:Option Addr) (m lc:Nat) (L:List Nd) (hm:L.length=m) (h0:0<m) (hm2:m≤1048576) (cu:Int) (hcu:-1≤cu) (w:World) (hL:Zae w.heap.size w (.slice la m lc) L) :
  Calls Tryz.prog 83 #[.slice la m lc,.int .i64 cu] w fun e w'=>e=.returned (.bool (decB L cu).isNone)∧w=w':=by
 obtain ⟨rb,ro,rfl,_,hc4⟩:=ZaA hL hm h0;obtain ⟨⟨s0,M,c0,ps⟩,hn0⟩:∃ n,L[0]? = some n:=⟨L[0]'(by omega),by simp⟩;have HN0:Hid (L[0]? = some (s0,M,c0,ps)):=hn0;obtain ⟨_,_,_,k1,_,_⟩:=hc4 0 _ hn0;rw [Nat.zero_mul,Nat.add_zero] at k1;have HM:Hid (L.length=m):=hm;have dm0:(0:Int)<(m:Int):=by omega
 clear hn0 hL hm;by_cases hm1:1<m
 ·have dm:decide (1<(m:Int))=true:=decide_eq_true (by omega);have dmN:decide (1<m)=true:=decide_eq_true hm1;obtain ⟨⟨s1,M1,c1,ps1⟩,hn1⟩:∃ n,L[1]? = some n:=⟨L[1]'(by rw [HM.out]; exact hm1),by simp⟩;have HN1:Hid (L[1]? = some (s1,M1,c1,ps1)):=hn1;obtain ⟨_,_,_,q1,_,_⟩:=hc4 1 _ hn1;rw [Nat.one_mul] at q1;clear hc4 hn1;by_cases hmm:M1=M
  ·have de:(M1 == M)=true:=by simp [hmm]
   have HDE:decB L cu=none:=ZgO HN0.out HN1.out hmm;clear hmm
   have HV:Hid ((decB L cu).isNone=true):=by
    show (decB L cu).isNone=true
    rw [HDE];rfl
   rw [HV.out];go_enter Tryz.func83,Tryz.ntmps83;go_wp2;go_ret;exact ⟨rfl,rfl⟩
  ·have de:(M1 == M)=false:=by simp [hmm]
   have HS:Hid (L[1]? = none∨∃ u,L[1]? = some u∧u.2.1≠M):=.inr ⟨_,HN1.out,hmm⟩;clear hmm;by_cases hc0:cu = -1
   ·have d0:(cu != -1)=false:=by simp [hc0]
    have HDE:decB L cu=some (ps,M):=Zbb (n:=(s0,M,c0,ps)) HN0.out (h1:=HS.out) (fun h=>by omega);clear hc0
    have HV:Hid ((decB L cu).isNone=false):=by
     show (decB L cu).isNone=false
     rw [HDE];rfl
    rw [HV.out];go_enter Tryz.func83,Tryz.ntmps83;go_wp2;go_ret;exact ⟨rfl,rfl⟩
   ·have d0:(cu != -1)=true:=by rw [bne_iff_ne]; exact hc0
    by_cases hcm:cu≤M
    ·have d1:decide (cu≤M)=true:=decide_eq_true hcm;have HDE:decB L cu=none:=Zeq (n:=(s0,M,c0,ps)) HN0.out (h1:=HS.out) (by omega) hcm;clear hc0 hcm
     have HV:Hid ((decB L cu).isNone=true):=by
      show (decB L cu).isNone=true
      rw [HDE];rfl
     rw [HV.out];go_enter Tryz.func83,Tryz.ntmps83;go_wp2;go_ret;exact ⟨rfl,rfl⟩
    ·have d1:decide (cu≤M)=false:=decide_eq_false hcm;have HDE:decB L cu=some (ps,M):=Zbb (n:=(s0,M,c0,ps)) HN0.out (h1:=HS.out) (fun h=>hcm h.2);clear hc0 hcm
     have HV:Hid ((decB L cu).isNone=false):=by
      show (decB L cu).isNone=false
      rw [HDE];rfl
     rw [HV.out];go_enter Tryz.func83,Tryz.ntmps83;go_wp2;go_ret;exact ⟨rfl,rfl⟩
 ·have dm:decide (1<(m:Int))=false:=decide_eq_false (by omega);have dmN:decide (1<m)=false:=decide_eq_false hm1;have HS:Hid (L[1]? = none∨∃ u,L[1]? = some u∧u.2.1≠M):=.inl (List.getElem?_eq_none (by rw [HM.out]; omega));clear hc4;by_cases hc0:cu = -1
  ·have d0:(cu != -1)=false:=by simp [hc0]
   have HDE:decB L cu=some (ps,M):=Zbb (n:=(s0,M,c0,ps)) HN0.out (h1:=HS.out) (fun h=>by omega);clear hc0
   have HV:Hid ((decB L cu).isNone=false):=by
    show (decB L cu).isNone=false
    rw [HDE];rfl
   rw [HV.out];go_enter Tryz.func83,Tryz.ntmps83;go_wp2;go_ret;exact ⟨rfl,rfl⟩
  ·have d0:(cu != -1)=true:=by rw [bne_iff_ne]; exact hc0
   by_cases hcm:cu≤M
   ·have d1:decide (cu≤M)=true:=decide_eq_true hcm;have HDE:decB L cu=none:=Zeq (n:=(s0,M,c0,ps)) HN0.out (h1:=HS.out) (by omega) hcm;clear hc0 hcm
    have HV:Hid ((decB L cu).isNone=true):=by
     show (decB L cu).isNone=true
     rw [HDE];rfl
    rw [HV.out];go_enter Tryz.func83,Tryz.ntmps83;go_wp2;go_ret;exact ⟨rfl,rfl⟩
   ·have d1:decide (cu≤M)=false:=decide_eq_false hcm;have HDE:decB L cu=some (ps,M):=Zbb (n:=(s0,M,c0,ps)) HN0.out (h1:=HS.out) (fun h=>hcm h.2);clear hc0 hcm
    have HV:Hid ((decB L cu).isNone=false):=by
     show (decB L cu).isNone=false
     rw [HDE];rfl
    rw [HV.out];go_enter Tryz.func83,Tryz.ntmps83;go_wp2;go_ret;exact ⟨rfl,rfl⟩
theorem decB_some {L:List Nd} {cut:Int} {ps:List Int} {M:Int} (h:decB L cut=some (ps,M)):∃ s c,L[0]? = some (s,M,c,ps):=by
 match L with
 | []=>cases h
 | ⟨s,M',c,ps'⟩ :: t =>
  simp only [decB] at h
  split at h
  ·cases h
  ·cases h
   exact ⟨s,c,rfl⟩
theorem Decode_ok (N:Nat) (p:Int) (a:Option Addr) (cap:Nat) (l:List (Int×Int)) (hp:Zf (N:Int) p l) (b:Nat) (hb1:1≤b) (hb2:b≤16) (D:Nat) (hD:D≤2) (w:World) (ha:Syms w.heap.size w (.slice a l.length cap) l) (hF:ZA w) :
  Calls Tryz.prog 56 #[.agg #[.int .i64 N,.int .i64 p,.slice a l.length cap],.int .i64 (b:Int),.int .i64 ((D+1:Nat):Int)] w fun e W'=>((decB (ZH N l b D N).1 (ZH N l b D N).2=none∧e=.returned (.tuple #[.slice none 0 0,.int .i64 0,.int .i64 5]))∨∃ ps M,decB (ZH N l b D N).1 (ZH N l b D N).2=some (ps,M)∧∃ qa qc,e=.returned (.tuple #[.slice qa ps.length qc,.int .i64 M,.int .i64 0])∧ps.length≤qc∧Zb .i64 W'.heap.size W' (.slice qa ps.length qc) ps)∧Below w.heap.size w W':=by
 have b1:Below w.heap.size w (w.alloc (.cells #[.int .i64 N,.int .i64 p,.slice a l.length cap] 26)):=(Below.refl w.heap.size w).alloc (Nat.le_refl _) _;have HWK:=Walk_ok N p a cap l hp b hb1 hb2 D hD _ (ha.next b1) (hF.next b1);have hwi:=Zao stB (coB N l) N (beginN:Int) D b hb1 N;have hsome:0<(ZH N l b D N).1.length:=hwi.some;have hwc:-1≤(ZH N l b D N).2:=hwi.cut1;have hwl:=Zdp N l (D:=D) (i:=N) hb1 hb2;obtain ⟨L,hL⟩:∃ L,(ZH N l b D N).1=L:=⟨_,rfl⟩;obtain ⟨cu,hcu⟩:∃ cu,(ZH N l b D N).2=cu:=⟨_,rfl⟩;rw [hL] at HWK hwl hsome ⊢;rw [hcu] at HWK hwc ⊢;obtain ⟨D1,hD1⟩:∃ D1,D+1=D1:=⟨_,rfl⟩;rw [hD1] at HWK ⊢;obtain ⟨m,hm⟩:∃ m,L.length=m:=⟨_,rfl⟩;have HM:Hid (L.length=m):=hm;rw [hm] at hwl hsome;obtain ⟨oz,hoz⟩:∃ oz,decB L cu=oz:=⟨_,rfl⟩;have HOZ:Hid (decB L cu=oz):=hoz;rw [hoz];clear hwi hL hcu hD1 hm hp ha hF hoz;go_enter Tryz.func56,Tryz.ntmps56;go_wp2_with fail;refine HWK.mono ?_;rintro e w4 ⟨r4,rfl,hN4,b4⟩;clear HWK;have bb4:=b1.trans (b4.mono b1.size);obtain ⟨ra,rc,e4⟩:=hN4.nodes.shape;rw [HM.out] at e4;subst e4;have HT:=isTie_ok ra m rc L HM.out hsome (by omega) cu hwc w4 hN4.nodes;rw [HOZ.out] at HT;obtain ⟨rb,ro,rfl,hc4⟩:=hN4.cap rfl HM.out hsome
 cases oz with
 | none =>
  clear hc4 hN4 b1 b4;go_wp2_with (go_at_call 83; refine HT.mono ?_; rintro e wz ⟨rfl,rfl⟩);go_ret3
  first | exact ⟨.inl ⟨rfl,rfl⟩,bb4⟩ | exact ⟨rfl,bb4⟩
 | some z =>
  obtain ⟨ps,M⟩:=z;obtain ⟨s0,c0,hn0⟩:=decB_some HOZ.out;obtain ⟨pa,pc,hpc,hpv,k1,k3⟩:=hc4 0 _ hn0;rw [Nat.zero_mul,Nat.add_zero] at k1 k3;have HPC:Hid (ps.length≤pc):=hpc;have HPH:Hid (Zb .i64 w4.heap.size w4 (.slice pa ps.length pc) ps):=hpv;have dm0:(0:Int)<(m:Int):=by omega
  clear hpv b1 b4 hN4 hc4 hn0 hpc;go_wp2_with (go_at_call 83; refine HT.mono ?_; rintro e wz ⟨rfl,rfl⟩);go_quiet (fail);go_wp2;go_ret3;exact ⟨.inr ⟨ps,M,rfl,_,_,rfl,HPC.out,HPH.out⟩,Zi bb4 _⟩
end Go.Proofs.YtabdnhkdoeibnaaGreatDoor
