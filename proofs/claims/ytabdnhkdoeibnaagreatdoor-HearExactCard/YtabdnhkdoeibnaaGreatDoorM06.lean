/-
  Lists of symbols (a place and a value each) in memory. No function of the program is spoken of.
-/
import Derived.Test.YtabdnhkdoeibnaaGreatDoorM03
import Derived.BigQuiet
import Derived.Deep.QuietTactic
import Derived.Deep.SlicePairs
import Derived.WalkLawsBesides
import Derived.WalkSpells
set_option maxRecDepth 100000
set_option maxHeartbeats 2000000
namespace Go.Proofs.YtabdnhkdoeibnaaGreatDoor
open Go.RowKit
def Za (l:List (Int×Int)):List Value:=l.flatMap fun x=>[.int .i64 x.1,.int .i64 x.2]
theorem ZaI:∀ l:List (Int×Int),(Za l).length=l.length * 2
 | []=>rfl
 | x :: l=>by
  have:=ZaI l
  unfold Za at this ⊢
  rw [List.flatMap_cons,List.length_append,this,List.length_cons]
  simp only [List.length_cons,List.length_nil]
  omega
theorem Zcj:∀ {l:List (Int×Int)} {j:Nat} {x:Int×Int},l[j]? = some x→(Za l)[j * 2]? = some (.int .i64 x.1)∧(Za l)[j * 2+1]? = some (.int .i64 x.2)
 | [],j,x,h=>by simp at h
 | y :: l,0,x,h=>by simp at h; subst h; exact ⟨rfl,rfl⟩
 | y :: l,j+1,x,h=>by
  have ih:=Zcj (l:=l) (j:=j) (x:=x) (by simpa using h)
  have e:Za (y :: l)=.int .i64 y.1 :: .int .i64 y.2 :: Za l:=rfl
  rw [e,show (j+1) * 2=j * 2+2 by omega,show j * 2+2+1=j * 2+1+2 by omega]
  simpa using ih
theorem Zck (l m:List (Int×Int)):Za (l++m)=Za l++Za m:=by simp [Za]
theorem symCells_snoc (l:List (Int×Int)) (x:Int×Int):Za (l++[x])=Za l++[.int .i64 x.1,.int .i64 x.2]:=by rw [Zck]; rfl
theorem ZdY (l:List (Int×Int)):∀ u∈Za l,u.oneCell'=true:=by
 intro u hu;obtain ⟨x,_,hx⟩:=List.mem_flatMap.1 hu;rcases List.mem_cons.1 hx with rfl | hx
 ·rfl
 ·simp at hx; subst hx; rfl
def Syms (n₀:Nat) (W:World) (v:Value) (l:List (Int×Int)):Prop :=
 ((∃ a cap,v=.slice a 0 cap∧(a=none→cap=0))∧l=[])∨∃ b off cap,v=.slice (some ⟨b,off,none⟩) l.length cap∧b<n₀∧∀ (j:Nat) (x:Int×Int),l[j]? = some x→W.cell? ⟨b,off+j * 2,none⟩=some (.int .i64 x.1)∧W.cell? ⟨b,off+j * 2+1,none⟩=some (.int .i64 x.2)
theorem Syms.below {n₀:Nat} {W W':World} {v:Value} {l:List (Int×Int)} (h:Syms n₀ W v l) (hb:Below n₀ W W'):Syms n₀ W' v l:=by
 rcases h with h | ⟨b,off,cap,hv,hlt,hc⟩
 ·exact .inl h
 ·exact .inr ⟨b,off,cap,hv,hlt,fun j x hj=>⟨(hb.cell (p:=⟨b,off+j * 2,none⟩) hlt).trans (hc j x hj).1,(hb.cell (p:=⟨b,off+j * 2+1,none⟩) hlt).trans (hc j x hj).2⟩⟩
theorem Syms.mono {n₀ n₁:Nat} {W:World} {v:Value} {l:List (Int×Int)} (h:Syms n₀ W v l) (hn:n₀≤n₁):Syms n₁ W v l:=by
 rcases h with h | ⟨b,off,cap,hv,hlt,hc⟩
 ·exact .inl h
 ·exact .inr ⟨b,off,cap,hv,by omega,hc⟩
theorem Syms.next {W W':World} {v:Value} {l:List (Int×Int)} (h:Syms W.heap.size W v l) (hb:Below W.heap.size W W'):Syms W'.heap.size W' v l:=(h.below hb).mono hb.size
theorem Syms.shape {n₀:Nat} {W:World} {v:Value} {l:List (Int×Int)} (h:Syms n₀ W v l):∃ a cap,v=.slice a l.length cap:=by
 rcases h with ⟨⟨a,cap,rfl,_⟩,rfl⟩ | ⟨b,off,cap,rfl,_,_⟩
 ·exact ⟨_,_,rfl⟩
 ·exact ⟨_,_,rfl⟩
theorem Zdf (n₀:Nat) (W:World):Syms n₀ W (.slice none 0 0) []:=.inl ⟨⟨_,_,rfl,fun _=>rfl⟩,rfl⟩
theorem Za0 {n₀ n cap:Nat} {W:World} {a:Option Addr} {l:List (Int×Int)} (h:Syms n₀ W (.slice a n cap) l) (hl:l.length=n) (h0:0<n) :
  ∃ b off,a=some ⟨b,off,none⟩∧b<n₀∧∀ (j:Nat) (x:Int×Int),l[j]? = some x→W.cell? ⟨b,off+j * 2,none⟩=some (.int .i64 x.1)∧W.cell? ⟨b,off+j * 2+1,none⟩=some (.int .i64 x.2):=by
 subst hl;rcases h with ⟨_,e⟩ | ⟨b,off,c',e,hb,hcs⟩
 ·rw [e] at h0; simp at h0
 ·cases e
  exact ⟨b,off,rfl,hb,hcs⟩
theorem Zj {W:World} {base k:Nat} {e:TypeId} {v:Value} {l:List (Int×Int)} (h:W.ownsRow base e 2 v k (Za l)):Syms W.heap.size W v l:=by
 have hl:l.length=k:=by have:=h.1; rw [ZaI] at this; omega
 rcases h.2 with ⟨rfl,rfl⟩ | ⟨g,cap,cur,rfl,hb,hg,hk,_,hs,ht⟩
 ·exact .inl ⟨⟨_,_,rfl,fun _=>rfl⟩,List.length_eq_zero_iff.1 hl⟩
 ·refine .inr ⟨g,0,cap,by rw [hl],(Array.getElem?_eq_some_iff.1 hg).1,fun j x hj=>?_⟩;obtain ⟨h1,h2⟩:=Zcj hj;have c1:=h.cells (g:=g) rfl (j * 2) _ h1;have c2:=h.cells (g:=g) rfl (j * 2+1) _ h2;rw [Addr.add_lit] at c1 c2;exact ⟨c1,c2⟩
theorem syms_row_len {W:World} {base k:Nat} {e:TypeId} {v:Value} {l:List (Int×Int)} (h:W.ownsRow base e 2 v k (Za l)):l.length=k:=by have:=h.1; rw [ZaI] at this; omega
theorem Zd {W W':World} {base k n₀:Nat} {e:TypeId} {v:Value} {xs:List Value} (h:W.ownsRow base e 2 v k xs) (hb:Below n₀ W W') (hn:W.heap.size≤n₀):W'.ownsRow base e 2 v k xs:=by
 refine ⟨h.1,?_⟩;rcases h.2 with h0 | ⟨g,cap,cur,hv,hbs,hg,hk,hm,hs,ht⟩
 ·exact .inl h0
 ·exact .inr ⟨g,cap,cur,hv,hbs,(hb.block g (by have:=(Array.getElem?_eq_some_iff.1 hg).1; omega)).trans hg,hk,hm,hs,ht⟩
theorem Ze {W:World} {base base' k:Nat} {e:TypeId} {v:Value} {xs:List Value} (h:W.ownsRow base e 2 v k xs) (hn:base'≤base):W.ownsRow base' e 2 v k xs:=by
 refine ⟨h.1,?_⟩;rcases h.2 with h0 | ⟨g,cap,cur,hv,hbs,hg,hk,hm,hs,ht⟩
 ·exact .inl h0
 ·exact .inr ⟨g,cap,cur,hv,by omega,hg,hk,hm,hs,ht⟩
theorem Zga {w:World} {base e n cap:Nat} {a:Option Addr} {xs:List Value} (h:w.ownsRow base e 2 (.slice a n cap) n xs):n≤cap:=by
 rcases h.2 with ⟨e,_⟩ | ⟨g,c,cur,e,_,_,hk,_⟩
 ·cases e; exact Nat.le_refl _
 ·cases e; exact hk
def I64 (z:Int):Prop:=-9223372036854775808≤z∧z≤9223372036854775807
def SymsIn (l:List (Int×Int)):Prop:=∀ x∈l,I64 x.1∧I64 x.2
def ZhZ (w:World) (a:Option Addr) (len cap:Nat) (l:List (Int×Int)):Prop:=l.length=len∧len≤cap∧cap≤maxLen∧Syms w.heap.size w (.slice a len cap) l∧SymsIn l
theorem cellsSym:Tryz.prog.cellsOf 87=2:=by kernel_rfl
theorem Zhp:Tryz.prog.cellsOf 3=1:=by kernel_rfl
theorem Zgb {w:World} {p:Addr} {v:Value} (h:w.cell? p=some v):p.block<w.heap.size:=ZaQ h
theorem isSyms_of_trod {H:Type} {enc:TypeId×Value→H} {w:World} {base:Nat} {spare:Nat→Bool} {held:Bool} {fuel:Nat} {a:Option Addr} {len cap:Nat} {x:DataW H×List MemPlace}
  (h:DataW.trod enc Tryz.prog w base spare held fuel 24 [.slice a len cap]=some x):∃ l,ZhZ w a len cap l:=by
 rcases Go.Deep.open_slice_pairs Tryz.underlying24 Tryz.underlying87 cellsSym rfl rfl Zhp Zhp h with ⟨hcs,_⟩ | ⟨ad,len',cap',m,n,V0,V1,D0,D1,P0,P1,hcs,_,hl,hc,hm,_,hx⟩
 ·simp at hcs;obtain ⟨rfl,rfl,rfl⟩:=hcs;exact ⟨[],rfl,Nat.le_refl _,by unfold maxLen; omega,Zdf _ _,fun x hx=>by simp at hx⟩
 ·simp at hcs;obtain ⟨rfl,rfl,rfl⟩:=hcs;have hlm:len≤m:=by rw [hm]; split <;> omega
  have each:∀ i,i<len→∃ q:Int×Int,w.cell? (ad.add (i * 2))=some (.int .i64 q.1)∧w.cell? (ad.add (i * 2+1))=some (.int .i64 q.2)∧I64 q.1∧I64 q.2:=by
   intro i hi;obtain ⟨c0,c1,t0,t1⟩:=hx i (by omega);obtain ⟨z0,e0,_,w0⟩:=DataW.trod_int Tryz.underlying3 t0;obtain ⟨z1,e1,_,w1⟩:=DataW.trod_int Tryz.underlying3 t1;simp at e0 e1;exact ⟨(z0,z1),by rw [c0,e0],by rw [c1,e1],bounds_i64 w0,bounds_i64 w1⟩
  by_cases h0:len=0
  ·subst h0;exact ⟨[],rfl,hl,hc,.inl ⟨⟨_,_,rfl,fun e=>by cases e⟩,rfl⟩,fun x hx=>by simp at hx⟩
  ·obtain ⟨q,hq⟩:=Go.Deep.choose_lt each;obtain ⟨b,off,spot⟩:=ad
   have hspot:spot=none:=by
    have:=(hq 0 (by omega)).1;simpa [Addr.add] using World.cell?_spot this
   subst hspot;have hlen:((List.range len).map q).length=len:=by simp
   refine ⟨(List.range len).map q,hlen,hl,hc,.inr ⟨b,off,cap,by rw [hlen],?_,fun j x hj=>?_⟩,fun x hx=>?_⟩
   ·have:=Zgb (hq 0 (by omega)).1;rwa [Go.WideShapes.add_plain] at this
   ·have hjl:j<len:=by have:=(List.getElem?_eq_some_iff.1 hj).1; rwa [hlen] at this
    have e:x=q j:=by
     rw [List.getElem?_map,List.getElem?_range hjl] at hj;simpa using hj.symm
    subst e;have h2:=hq j hjl;rw [Go.WideShapes.add_plain,Go.WideShapes.add_plain] at h2;exact ⟨h2.1,by rw [Nat.add_assoc]; exact h2.2.1⟩
   ·obtain ⟨j,hj,rfl⟩:=List.mem_map.1 hx;exact (hq j (by simpa using hj)).2.2
theorem ZbQ {xs ys:List Int} {k:Nat} {x y:Int} (hx:xs[k]? = some x) (hy:ys[k]? = some y) (h:xs.take k=ys.take k) (e:x=y):xs.take (k+1)=ys.take (k+1):=by
 rw [List.take_add_one,List.take_add_one,hx,hy,h,e]
theorem bytes_differ (a b:Option Addr) (m n cap cap':Nat) (w:World) (hne:m≠n) :
  Calls Tryz.prog 32 #[.slice a m cap,.slice b n cap'] w fun e w'=>e=.returned (.bool false)∧w=w':=by
 have hb:((m:Int) != (n:Int))=true:=by rw [bne_iff_ne]; omega
 go_enter Tryz.func32,Tryz.ntmps32;go_wp2;go_ret;exact ⟨rfl,rfl⟩
theorem Zfr (a b:Option Addr) (cap cap':Nat) (w:World) :
  Calls Tryz.prog 32 #[.slice a 0 cap,.slice b 0 cap'] w fun e w'=>e=.returned (.bool true)∧w=w':=by
 go_enter Tryz.func32,Tryz.ntmps32;go_wp2;go_loop [5] (fun i=>i=.int .i64 0) (fun _=>0)
 case atStart=>rfl
 case round =>
  obtain rfl:=hrel;go_wp2;go_ret;exact ⟨rfl,rfl⟩
theorem bytes_some (b off cap b' off' cap' len:Nat) (xs ys:List Int) (hx:xs.length=len) (hy:ys.length=len) (hl:len≤4611686018427387904) (w:World)
  (hcx:∀ j,j<len→w.cell? ⟨b,off+j,none⟩=some (.int .u8 (xs[j]?.getD 0))) (hcy:∀ j,j<len→w.cell? ⟨b',off'+j,none⟩=some (.int .u8 (ys[j]?.getD 0))) :
  Calls Tryz.prog 32 #[.slice (some ⟨b,off,none⟩) len cap,.slice (some ⟨b',off',none⟩) len cap'] w fun e w'=>e=.returned (.bool (decide (xs=ys)))∧∃ n,w'=w.drewN n:=by
 have hb:((len:Int) != (len:Int))=false:=by simp
 go_enter Tryz.func32,Tryz.ntmps32;go_wp2;go_loopw [5] (fun i wr=>∃ k nd:Nat,k≤len∧i=.int .i64 k∧xs.take k=ys.take k∧wr=w.drewN nd) (fun i _=>len-(intOf i).toNat)
 case atStart=>exact ⟨0,0,Nat.zero_le _,rfl,rfl,rfl⟩
 case round =>
  obtain ⟨k,nd,hk,rfl,heq,rfl⟩:=hrel;by_cases hlt:k<len
  ·obtain ⟨x,hxk⟩:∃ x,xs[k]? = some x:=⟨xs[k],by simp⟩;obtain ⟨y,hyk⟩:∃ y,ys[k]? = some y:=⟨ys[k],by simp⟩;have c1:∀ q,(w.drewN q).cell? ⟨b,off+k,none⟩=some (.int .u8 x):=fun q=>(hcx k hlt).trans (by rw [hxk]; rfl)
   have c2:∀ q,(w.drewN q).cell? ⟨b',off'+k,none⟩=some (.int .u8 y):=fun q=>(hcy k hlt).trans (by rw [hyk]; rfl)
   have HX:Hid (xs[k]? = some x):=hxk;have HY:Hid (ys[k]? = some y):=hyk;have HE:Hid (xs.take k=ys.take k):=heq;clear hxk hyk hcx hcy heq;by_cases hxy:x=y
   ·have hq:(x != y)=false:=by simp [hxy]
    have HQ:Hid (x=y):=hxy;clear hxy;go_wp2;go_quiet (fail);go_wp2;go_roundw
    case rel=>exact ⟨k+1,nd+nq,by omega,by go_num,ZbQ HX.out HY.out HE.out HQ.out,by simp⟩
    case measure=>simp [intOf]; omega
   ·have hq:(x != y)=true:=by simp [hxy]
    have HQ:Hid (xs≠ys):=fun e=>hxy (by have:=HX.out; rw [e,HY.out] at this; cases this; rfl)
    clear hxy;go_wp2;go_quiet (fail);go_wp2;go_ret;exact ⟨by rw [decide_eq_false HQ.out]; rfl,nd+nq,by simp⟩
  ·obtain rfl:k=len:=by omega
   have HE:Hid (xs=ys):=by rw [List.take_of_length_le (by omega),List.take_of_length_le (by omega)] at heq; exact heq
   clear heq;go_wp2;go_ret;exact ⟨by rw [decide_eq_true HE.out]; rfl,nd,rfl⟩
theorem ZbR (va vb:Value) (xs ys:List Int) (n₀ n₁:Nat) (w:World) (hy:ys.length≤4611686018427387904) (ha:Zb .u8 n₀ w va xs) (hb:Zb .u8 n₁ w vb ys) :
  Calls Tryz.prog 32 #[va,vb] w fun e w'=>e=.returned (.bool (decide (xs=ys)))∧∃ n,w'=w.drewN n:=by
 obtain ⟨a,cap,rfl⟩:=ha.shape;obtain ⟨b,cap',rfl⟩:=hb.shape;by_cases hne:xs.length=ys.length
 ·rcases ha with ⟨_,e2⟩ | ⟨b1,off,c1,e1,_,h1⟩
  ·have z1:xs.length=0:=by rw [e2]; rfl
   have z2:ys.length=0:=by omega
   rw [z1,z2];refine (Zfr a b cap cap' w).mono ?_;rintro e w' ⟨rfl,rfl⟩;exact ⟨by rw [decide_eq_true (by rw [e2,List.length_eq_zero_iff.1 z2])],0,rfl⟩
  ·rcases hb with ⟨_,e4⟩ | ⟨b2,off',c2,e3,_,h2⟩
   ·have z2:ys.length=0:=by rw [e4]; rfl
    have z1:xs.length=0:=by omega
    rw [z1,z2];refine (Zfr a b cap cap' w).mono ?_;rintro e w' ⟨rfl,rfl⟩;exact ⟨by rw [decide_eq_true (by rw [e4,List.length_eq_zero_iff.1 z1])],0,rfl⟩
   ·cases e1
    cases e3
    rw [hne];exact bytes_some b1 off cap b2 off' cap' ys.length xs ys hne rfl hy w (fun j hj=>h1 j (by omega)) h2
 ·refine (bytes_differ a b xs.length ys.length cap cap' w hne).mono ?_;rintro e w' ⟨rfl,rfl⟩;exact ⟨by rw [decide_eq_false (fun e=>hne (by rw [e]))],0,rfl⟩
end Go.Proofs.YtabdnhkdoeibnaaGreatDoor
