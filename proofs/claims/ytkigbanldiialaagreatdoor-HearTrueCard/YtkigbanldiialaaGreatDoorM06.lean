/-
  The segment at a place, as a number. No program is spoken of.
-/
import Derived.Test.YtkigbanldiialaaGreatDoorM04
import Derived.BigQuiet
import Derived.Deep.QuietTactic
import Derived.Laws.AppendOwnNone
import Derived.OwnWalk
import Derived.WalkLawsBesides
import Derived.WalkSpells
set_option maxRecDepth 100000
set_option maxHeartbeats 4000000
namespace Go.Proofs.YtkigbanldiialaaGreatDoor
def segN (n k:Nat):Nat:=(ZD n)[k % n]?.getD 0
theorem ZfH {n:Nat} (h1:1≤n) (hn:n<65) (k:Nat):(ZD n)[k % n]? = some (segN n k)∧segN n k<n:=by
 obtain ⟨x,hx,hxn⟩:=orderN_get hn (Nat.mod_lt k (show 0<n by omega));have e:segN n k=x:=by unfold segN; rw [hx]; rfl
 rw [e];exact ⟨hx,hxn⟩
theorem place_mod {n p i:Nat} (hp:p<n):(i * n+p) % n=p:=by rw [Nat.mul_comm,Nat.mul_add_mod]; exact Nat.mod_eq_of_lt hp
theorem Zdt {n p i:Nat} (hp:p<n):(i * n+p) / n=i:=by
 rw [Nat.mul_comm,Nat.mul_add_div (by omega),Nat.div_eq_of_lt hp,Nat.add_zero]
theorem ZcF {n s i:Nat} (hn:n<65) (hs:s<n):segN n (i * n+posN n s)=s:=by
 unfold segN;rw [place_mod (Zdr hn hs),Zda hn hs];rfl
def Zat (l:List (Int×Int)):Prop:=l.Pairwise fun x y=>x.1<y.1
def SymOk (n p:Int) (x:Int×Int):Prop:=0≤x.1∧x.1<n * p∧0≤x.2∧x.2≤255
def ZbO (n p:Int):Prop:=1≤n∧n≤64∧1≤p∧p≤16
def Zc (n p:Int) (l:List (Int×Int)):Prop:=ZbO n p∧(∀ x∈l,SymOk n p x)∧Zat l
theorem ZbA {n p:Int} (h:ZbO n p):Zc n p []:=⟨h,fun x hx=>by simp at hx,List.Pairwise.nil⟩
theorem ZbO.prod {n p:Int} (h:ZbO n p):1≤n * p∧n * p≤1024:=by
 obtain ⟨h1,h2,h3,h4⟩:=h
 constructor
 ·have:=Int.mul_le_mul h1 h3 (by decide) (by omega);omega
 ·have:=Int.mul_le_mul h2 h4 (by omega) (by decide);omega
theorem Zat.tail {x:Int×Int} {l:List (Int×Int)} (h:Zat (x :: l)):Zat l:=(List.pairwise_cons.1 h).2
theorem Zat.head {x y:Int×Int} {l:List (Int×Int)} (h:Zat (x :: l)) (hy:y∈l):x.1<y.1:=(List.pairwise_cons.1 h).1 y hy
def aheadOf:List (Int×Int)→Int→Nat
 | [],_=>0
 | x :: l,k=>if x.1<k then aheadOf l k+1 else 0
theorem Z6:∀ (l:List (Int×Int)) (k:Int),aheadOf l k≤l.length
 | [],_=>Nat.le_refl _
 | x :: l,k=>by
  rw [aheadOf]
  split
  ·have:=Z6 l k; rw [List.length_cons]; omega
  ·omega
theorem ZbB:∀ {l:List (Int×Int)} {k:Int} {j:Nat} {x:Int×Int},j<aheadOf l k→l[j]? = some x→x.1<k
 | [],k,j,x,h,hx=>by simp at hx
 | y :: l,k,j,x,h,hx=>by
  rw [aheadOf] at h
  split at h
  ·cases j with
   | zero=>simp at hx; subst hx; assumption
   | succ j=>exact ZbB (l:=l) (j:=j) (by omega) (by simpa using hx)
  ·omega
theorem ZbC:∀ {l:List (Int×Int)} {k:Int} {x:Int×Int},l[aheadOf l k]? = some x→¬ x.1<k
 | [],k,x,hx=>by simp at hx
 | y :: l,k,x,hx=>by
  rw [aheadOf] at hx
  split at hx
  ·exact ZbC (l:=l) (by simpa using hx)
  ·simp at hx; subst hx; assumption
theorem ZbU {l:List (Int×Int)} {k:Int} (hr:Zat l) {j:Nat} {x:Int×Int} (hj:aheadOf l k≤j) (hx:l[j]? = some x):¬ x.1<k:=by
 rcases Nat.lt_or_ge (aheadOf l k) j with h | h
 ·have hlt:aheadOf l k<l.length:=by have:=(List.getElem?_eq_some_iff.1 hx).1; omega
  have hy:l[aheadOf l k]? = some l[aheadOf l k]:=by simp
  have h1:=ZbC hy
  have h2:l[aheadOf l k].1<x.1:=by
   obtain ⟨hjl,rfl⟩:=List.getElem?_eq_some_iff.1 hx;exact List.pairwise_iff_getElem.1 hr _ _ hlt hjl h
  omega
 ·have e:aheadOf l k=j:=by omega
  rw [← e] at hx;exact ZbC hx
def ZO (l:List (Int×Int)) (k:Int):Bool:=match l[aheadOf l k]? with | some x=>x.1 == k | none=>false
theorem Za1 {l:List (Int×Int)} {k:Int} (hr:Zat l):ZO l k=true↔∃ v,(k,v)∈l:=by
 unfold ZO
 constructor
 ·intro h
  split at h
  ·rename_i x hx;have e:x.1=k:=by simpa using h
   exact ⟨x.2,by rw [← e]; exact List.mem_of_getElem? hx⟩
  ·cases h
 ·rintro ⟨v,hv⟩;obtain ⟨j,hj⟩:=List.getElem?_of_mem hv
  have h1:aheadOf l k≤j:=by
   rcases Nat.lt_or_ge j (aheadOf l k) with h | h
   ·have:=ZbB h hj; simp at this
   ·exact h
  have hlt:aheadOf l k<l.length:=by have:=(List.getElem?_eq_some_iff.1 hj).1; omega
  have hy:l[aheadOf l k]? = some l[aheadOf l k]:=by simp
  rw [hy];have h2:=ZbC hy
  have h3:l[aheadOf l k].1≤k:=by
   rcases Nat.lt_or_ge (aheadOf l k) j with h | h
   ·obtain ⟨hjl,e⟩:=List.getElem?_eq_some_iff.1 hj;have:=List.pairwise_iff_getElem.1 hr _ _ hlt hjl h;rw [e] at this;simp at this;omega
   ·have e:aheadOf l k=j:=by omega
    have e2:some l[aheadOf l k]=some (k,v):=by rw [← hy,e]; exact hj
    have e3:l[aheadOf l k]=(k,v):=Option.some.inj e2;rw [e3];exact Int.le_refl _
  simp;omega
def putL (l:List (Int×Int)) (k v:Int):List (Int×Int):=l.take (aheadOf l k)++(k,v) :: l.drop (aheadOf l k)
theorem putL_len (l:List (Int×Int)) (k v:Int):(putL l k v).length=l.length+1:=by
 have:=Z6 l k;unfold putL;rw [List.length_append,List.length_cons,List.length_take,List.length_drop];omega
theorem ZeH {l:List (Int×Int)} {k v:Int} {x:Int×Int}:x∈putL l k v↔x=(k,v)∨x∈l:=by
 unfold putL;rw [List.mem_append,List.mem_cons]
 constructor
 ·rintro (h | h | h)
  ·exact .inr (List.mem_of_mem_take h)
  ·exact .inl h
  ·exact .inr (List.mem_of_mem_drop h)
 ·rintro (h | h)
  ·exact .inr (.inl h)
  ·have:=List.take_append_drop (aheadOf l k) l;rw [← this,List.mem_append] at h;rcases h with h | h
   ·exact .inl h
   ·exact .inr (.inr h)
theorem putL_rises {l:List (Int×Int)} {k v:Int} (hr:Zat l) (hn:ZO l k=false):Zat (putL l k v):=by
 have hno:∀ x∈l,x.1≠k:=by
  intro x hx e;have:ZO l k=true:=(Za1 hr).2 ⟨x.2,by rw [← e]; exact hx⟩;rw [hn] at this; cases this
 unfold Zat putL;rw [List.pairwise_append];refine ⟨hr.sublist (List.take_sublist _ _),?_,?_⟩
 ·rw [List.pairwise_cons];refine ⟨fun x hx=>?_,hr.sublist (List.drop_sublist _ _)⟩;obtain ⟨j,hj⟩:=List.getElem?_of_mem hx;rw [List.getElem?_drop] at hj;have h1:=ZbU (k:=k) hr (by omega) hj;have h2:=hno x (List.mem_of_mem_drop hx)
  show k<x.1
  omega
 ·intro x hx y hy;obtain ⟨j,hj⟩:=List.getElem?_of_mem hx;rw [List.getElem?_take] at hj
  split at hj
  ·rename_i hjl;have h1:=ZbB hjl hj;rcases List.mem_cons.1 hy with rfl | hy
   ·exact h1
   ·obtain ⟨q,hq⟩:=List.getElem?_of_mem hy;rw [List.getElem?_drop] at hq;have h2:=ZbU (k:=k) hr (by omega) hq;omega
  ·cases hj
def putN (n p:Int) (l:List (Int×Int)) (k v:Int):List (Int×Int):=if n * p≤k∨ZO l k=true then l else putL l k v
def Zaz (n p:Int) (l:List (Int×Int)) (k:Int):Bool:=decide (¬ (n * p≤k∨ZO l k=true))
theorem putN_ok {n p:Int} {l:List (Int×Int)} {k v:Int} (h:Zc n p l) (hk:0≤k) (hv0:0≤v) (hv:v≤255):Zc n p (putN n p l k v):=by
 unfold putN
 split
 ·exact h
 ·rename_i hc;refine ⟨h.1,fun x hx=>?_,putL_rises h.2.2 ?_⟩
  ·rcases ZeH.1 hx with rfl | hx
   ·exact ⟨hk,by show k<n * p; omega,hv0,hv⟩
   ·exact h.2.1 x hx
  ·cases e:ZO l k
   ·rfl
   ·exact absurd (.inr e) hc
def ofL (n:Nat) (l:List (Int×Int)) (s:Nat):List (Int×Int):=(l.filter fun x=>segN n x.1.toNat == s).map fun x=>(((x.1.toNat / n:Nat):Int),x.2)
theorem ofL_len_le (n:Nat) (l:List (Int×Int)) (s:Nat):(ofL n l s).length≤l.length:=by
 unfold ofL;rw [List.length_map];exact List.length_filter_le _ _
theorem Zdu:∀ {l m:List (Int×Int)},Zat l→Zat m→(∀ x,x∈l↔x∈m)→l=m
 | [],[],_,_,_=>rfl
 | [],y :: m,_,_,h=>by have:=(h y).2 List.mem_cons_self; simp at this
 | x :: l,[],_,_,h=>by have:=(h x).1 List.mem_cons_self; simp at this
 | x :: l,y :: m,hl,hm,h=>by
  have e:x=y:=by
   rcases List.mem_cons.1 ((h x).1 List.mem_cons_self) with e | hx
   ·exact e
   ·rcases List.mem_cons.1 ((h y).2 List.mem_cons_self) with e | hy
    ·exact e.symm
    ·have h1:=hm.head hx;have h2:=hl.head hy;omega
  subst e
  have:l=m:=by
   refine Zdu hl.tail hm.tail fun z=>?_
   constructor
   ·intro hz;rcases List.mem_cons.1 ((h z).1 (List.mem_cons_of_mem _ hz)) with e | hz'
    ·subst e; have:=hl.head hz; omega
    ·exact hz'
   ·intro hz;rcases List.mem_cons.1 ((h z).2 (List.mem_cons_of_mem _ hz)) with e | hz'
    ·subst e; have:=hm.head hz; omega
    ·exact hz'
  rw [this]
theorem Ze2:∀ {l:List (Int×Int)} {a b:Int},Zat l→(∀ x∈l,a≤x.1∧x.1<b)→(l.length:Int)≤max 0 (b-a)
 | [],a,b,_,_=>by simp; omega
 | x :: l,a,b,hr,h=>by
  have ih:=Ze2 (l:=l) (a:=x.1+1) (b:=b) hr.tail (fun y hy=>⟨by have:=hr.head hy; omega,(h y (List.mem_cons_of_mem _ hy)).2⟩)
  have hx:=h x List.mem_cons_self
  rw [List.length_cons]
  omega
theorem Zap {n p:Int} {l:List (Int×Int)} (h:Zc n p l):(l.length:Int)≤n * p:=by
 have h1:=Ze2 (a:=0) (b:=n * p) h.2.2 (fun x hx=>⟨(h.2.1 x hx).1,(h.2.1 x hx).2.1⟩);have:=h.1.prod;omega
def Zag (n p:Int) (l:List (Int×Int)):Prop:=(∀ x∈l,SymOk n p x)∧Zat l
theorem symsOk_nil (n p:Int):Zag n p []:=⟨fun x hx=>by simp at hx,List.Pairwise.nil⟩
theorem symsOk_snoc {n p:Int} {l:List (Int×Int)} {x:Int×Int} (h:Zag n p l) (hx:SymOk n p x) (hl:∀ (y:Int×Int),l[l.length-1]? = some y→y.1<x.1):Zag n p (l++[x]):=by
 refine ⟨fun y hy=>?_,?_⟩
 ·rcases List.mem_append.1 hy with h' | h'
  ·exact h.1 y h'
  ·simp at h'; subst h'; exact hx
 ·unfold Zat;rw [List.pairwise_append];refine ⟨h.2,List.pairwise_singleton _ _,fun y hy z hz=>?_⟩;simp at hz; subst hz;obtain ⟨j,hj⟩:=List.getElem?_of_mem hy;have hjl:=(List.getElem?_eq_some_iff.1 hj).1;have hlast:l[l.length-1]? = some l[l.length-1]:=by simp
  have h1:=hl _ hlast;rcases Nat.lt_or_ge j (l.length-1) with hlt | hge
  ·obtain ⟨_,e⟩:=List.getElem?_eq_some_iff.1 hj;have:=List.pairwise_iff_getElem.1 h.2 j (l.length-1) hjl (by omega) hlt;rw [e] at this;omega
  ·have e:j=l.length-1:=by omega
   subst e;rw [hlast] at hj
   cases hj
   exact h1
theorem symsOk_take {n p:Int} {l:List (Int×Int)} (h:Zag n p l) (k:Nat):Zag n p (l.take k):=⟨fun x hx=>h.1 x (List.mem_of_mem_take hx),h.2.sublist (List.take_sublist _ _)⟩
def ZaA (l:List (Int×Int)):Int:=match l.getLast? with | none=>0 | some x=>x.1+1
theorem leastN_snoc (l:List (Int×Int)) (x:Int×Int):ZaA (l++[x])=x.1+1:=by unfold ZaA; rw [List.getLast?_concat]
theorem getLast_at {l:List (Int×Int)} {y:Int×Int} (h:l[l.length-1]? = some y):ZaA l=y.1+1:=by
 unfold ZaA;rw [List.getLast?_eq_getElem?,h]
theorem Zb8 {n p:Int} {l:List (Int×Int)} (hh:ZbO n p) (h:Zag n p l):0≤ZaA l∧ZaA l≤n * p:=by
 unfold ZaA
 split
 ·have:=hh.prod; omega
 ·rename_i x hx;have:=h.1 x (List.mem_of_getLast? hx);have h1:=this.1;have h2:=this.2.1;omega
theorem symsOk_more {n p:Int} {l:List (Int×Int)} {x:Int×Int} (hh:ZbO n p) (h:Zag n p l) (h1:ZaA l≤x.1) (h2:x.1<n * p) (h3:0≤x.2) (h4:x.2≤255):Zag n p (l++[x]):=by
 have hb:=Zb8 hh h;refine symsOk_snoc h ⟨by omega,h2,h3,h4⟩ fun y hy=>?_
 have:=getLast_at hy;omega
theorem symsOk_least {n p:Int} {l:List (Int×Int)} {x:Int×Int} (h:Zag n p (l++[x])):ZaA l≤x.1:=by
 unfold ZaA
 split
 ·exact (h.1 x (by simp)).1
 ·rename_i y hy;have:=(List.pairwise_append.1 h.2).2.2 y (List.mem_of_getLast? hy) x (by simp);omega
end Go.Proofs.YtkigbanldiialaaGreatDoor
namespace Go.Proofs.YtkigbanldiialaaGreatDoor
open Go.RowKit
theorem Zgb:(Tryz.prog.info? 3).map (fun i=>(i.zero,i.size,i.bytes))=some (some (.int .i64 0),1,8):=by kernel_rfl
theorem ZbV {kd:IntKind} {W:World} {b off:Nat} {zs:List Int} (h:∀ j,j<zs.length→W.cell? ⟨b,off+j,none⟩=some (.int kd (zs[j]?.getD 0))) :
  ∀ j u,(zs.map (Value.int kd))[j]? = some u→W.cell? ((⟨b,off,none⟩:Addr).add j)=some u:=by
 intro j u hu;have hj:j<zs.length:=by simpa using (List.getElem?_eq_some_iff.1 hu).1
 rw [Addr.add_lit,h j hj];simpa [hj] using hu
theorem wpList_append_run {P:Program} {w:World} {ops:Array Oper} {rest:List Oper} {o:Oper} {a:Act} {Q:Exit→Act→World→Prop} (hw:Region.wanted o (yielded ops a.tmps)=true) (s x:Operand) (t:TypeId)
  (ho:o.op=.call { callee:=.builtin .append,args:=#[s,x],argTypes:=#[t,t] }) (v src:Value) (hs:a.eval s=v) (hx:a.eval x=src) (v':Value) (w':World)
  (hrun:(Builtin.append_ #[t,t] o.type #[v,src]).run P w=.ok v' w') (h:wpList P ops Q rest (a.put o.dst v') w'):wpList P ops Q (o :: rest) a w:=by
 refine wpList_step fun K hK=>?_
 rw [if_pos hw];unfold Oper.wp;simp [execOp,ho,resolve,invoke,builtin,hs,hx,hrun,Result.andThen];exact hK _ _ h
theorem Zdb (kd:IntKind) (zs:List Int):∀ u∈zs.map (Value.int kd),u.oneCell'=true:=by
 intro u hu;obtain ⟨z,_,rfl⟩:=List.mem_map.1 hu;rfl
theorem ZaT (v src:Value) (n base n₀:Nat) (xs ys:List Int) (ty:TypeId) (w:World) (hown:w.ownsRow base 3 1 v n (xs.map (Value.int .i64))) (hH:Za .i64 n₀ w src ys) (hb:base≤w.heap.size) (h1:n≤4294967296) (h2:ys.length≤4294967296) :
  ∃ v' w',(Builtin.append_ #[52,52] ty #[v,src]).run Tryz.prog w=.ok v' w'∧w'.ownsRow base 3 1 v' (n+ys.length) ((xs++ys).map (Value.int .i64))∧w.grownBy w' v.ownBlock:=by
 obtain ⟨i0,hi,hz0,hz1,hz2⟩:=info_parts Zgb;rcases hH with ⟨⟨a,cap,rfl,ha⟩,rfl⟩ | ⟨b,off,cap,rfl,_,hcs⟩
 ·cases a with
  | none =>
   obtain rfl:=ha rfl;exact ⟨v,w,run_append_owned_none w base 52 ty 3 i0 1 Tryz.underlying52 hi v n _ hown,by simpa using hown,World.grownBy.refl _ _⟩
  | some ad =>
   obtain ⟨v',w',hr,ho,hg,_⟩:=run_append_own (P:=Tryz.prog) w base 52 ty 3 i0 (.int .i64 0) 1 8 Tryz.underlying52 hi hz0 hz1 hz2 rfl (by decide) v n _ hown ad 0 cap [] rfl (by simp) (by simp) (by unfold maxLen; omega) (by omega) hb;exact ⟨v',w',hr,by simpa using ho,hg⟩
 ·obtain ⟨v',w',hr,ho,hg,_⟩:=run_append_own (P:=Tryz.prog) w base 52 ty 3 i0 (.int .i64 0) 1 8 Tryz.underlying52 hi hz0 hz1 hz2 rfl (by decide) v n _ hown ⟨b,off,none⟩ ys.length cap (ys.map (Value.int .i64)) (by simp) (ZbV hcs) (Zdb _ _) (by unfold maxLen; omega) (by omega) hb;exact ⟨v',w',hr,by simpa using ho,hg⟩
theorem Zdv:(Tryz.prog.info? 5).map (fun i=>(i.zero,i.size,i.bytes))=some (some (.int .u8 0),1,1):=by kernel_rfl
theorem ZB (v src:Value) (n base n₀:Nat) (xs ys:List Int) (ty:TypeId) (w:World) (hown:w.ownsRow base 5 1 v n (xs.map (Value.int .u8))) (hH:Za .u8 n₀ w src ys) (hb:base≤w.heap.size) (h1:n≤4294967296) (h2:ys.length≤4294967296) :
  ∃ v' w',(Builtin.append_ #[24,24] ty #[v,src]).run Tryz.prog w=.ok v' w'∧w'.ownsRow base 5 1 v' (n+ys.length) ((xs++ys).map (Value.int .u8))∧w.grownBy w' v.ownBlock:=by
 obtain ⟨i0,hi,hz0,hz1,hz2⟩:=info_parts Zdv;rcases hH with ⟨⟨a,cap,rfl,ha⟩,rfl⟩ | ⟨b,off,cap,rfl,_,hcs⟩
 ·cases a with
  | none =>
   obtain rfl:=ha rfl;exact ⟨v,w,run_append_owned_none w base 24 ty 5 i0 1 Tryz.underlying24 hi v n _ hown,by simpa using hown,World.grownBy.refl _ _⟩
  | some ad =>
   obtain ⟨v',w',hr,ho,hg,_⟩:=run_append_own (P:=Tryz.prog) w base 24 ty 5 i0 (.int .u8 0) 1 1 Tryz.underlying24 hi hz0 hz1 hz2 rfl (by decide) v n _ hown ad 0 cap [] rfl (by simp) (by simp) (by unfold maxLen; omega) (by omega) hb;exact ⟨v',w',hr,by simpa using ho,hg⟩
 ·obtain ⟨v',w',hr,ho,hg,_⟩:=run_append_own (P:=Tryz.prog) w base 24 ty 5 i0 (.int .u8 0) 1 1 Tryz.underlying24 hi hz0 hz1 hz2 rfl (by decide) v n _ hown ⟨b,off,none⟩ ys.length cap (ys.map (Value.int .u8)) (by simp) (ZbV hcs) (Zdb _ _) (by unfold maxLen; omega) (by omega) hb;exact ⟨v',w',hr,by simpa using ho,hg⟩
theorem Zft:(Tryz.prog.info? 79).map (fun i=>(i.zero,i.size,i.bytes))=some (some (.agg #[.int .i64 0,.int .i64 0]),2,16):=by kernel_rfl
theorem syms_cells {W:World} {b off:Nat} {l:List (Int×Int)} (h:∀ (j:Nat) (x:Int×Int),l[j]? = some x→W.cell? ⟨b,off+j * 2,none⟩=some (.int .i64 x.1)∧W.cell? ⟨b,off+j * 2+1,none⟩=some (.int .i64 x.2)) :
  ∀ (j:Nat) (u:Value),(Zb l)[j]? = some u→W.cell? ((⟨b,off,none⟩:Addr).add j)=some u:=by
 intro j u hj;rw [Go.WideShapes.add_plain];have hlt:j<l.length * 2:=by have:=(List.getElem?_eq_some_iff.1 hj).1; rwa [Zas] at this
 have hq:j / 2<l.length:=by omega
 obtain ⟨x,hx⟩:∃ x,l[j / 2]? = some x:=⟨l[j / 2],by simp⟩;have hc:=h _ _ hx;have hg:=Zbl hx;by_cases h2:j % 2=0
 ·rw [show j / 2 * 2=j by omega] at hc hg;rw [hg.1] at hj
  cases hj
  exact hc.1
 ·rw [show j / 2 * 2+1=j by omega] at hg;rw [show off+j / 2 * 2+1=off+j by omega] at hc;rw [hg.2] at hj
  cases hj
  exact hc.2
theorem Zd {P:Program} {w:World} {ops:Array Oper} {rest:List Oper} {o:Oper} {a:Act} {Q:Exit→Act→World→Prop} (hw:Region.wanted o (yielded ops a.tmps)=true) (s x:Operand) (t:TypeId)
  (ho:o.op=.call { callee:=.builtin .append,args:=#[s,x],argTypes:=#[t,t] }) (v src:Value) (hs:a.eval s=v) (hx:a.eval x=src) (v':Value) (w':World)
  (hrun:(Builtin.append_ #[t,t] o.type #[v,src]).run P w=.ok v' w') (h:wpList P ops Q rest (a.put o.dst v') w'):wpList P ops Q (o :: rest) a w:=by
 refine wpList_step fun K hK=>?_
 rw [if_pos hw];unfold Oper.wp;simp [execOp,ho,resolve,invoke,builtin,hs,hx,hrun,Result.andThen];exact hK _ _ h
theorem Z3 (v src:Value) (n base n₀:Nat) (xs ys:List (Int×Int)) (ty:TypeId) (w:World) (hown:w.ownsRow base 79 2 v n (Zb xs)) (hH:Syms n₀ w src ys) (hb:base≤w.heap.size) (h1:n≤4294967296) (h2:ys.length≤4294967296) :
  ∃ v' w',(Builtin.append_ #[35,35] ty #[v,src]).run Tryz.prog w=.ok v' w'∧w'.ownsRow base 79 2 v' (n+ys.length) (Zb (xs++ys))∧w.grownBy w' v.ownBlock:=by
 obtain ⟨i0,hi,hz0,hz1,hz2⟩:=info_parts Zft;rcases hH with ⟨⟨a,cap,rfl,ha⟩,rfl⟩ | ⟨b,off,cap,rfl,_,hcs⟩
 ·cases a with
  | none =>
   obtain rfl:=ha rfl;exact ⟨v,w,run_append_owned_none w base 35 ty 79 i0 2 Tryz.underlying35 hi v n _ hown,by simpa using hown,World.grownBy.refl _ _⟩
  | some ad =>
   obtain ⟨v',w',hr,ho,hg,_⟩:=run_append_own (P:=Tryz.prog) w base 35 ty 79 i0 (.agg #[.int .i64 0,.int .i64 0]) 2 16 Tryz.underlying35 hi hz0 hz1 hz2 rfl (by decide) v n _ hown ad 0 cap [] rfl (by simp) (by simp) (by unfold maxLen; omega) (by omega) hb;exact ⟨v',w',hr,by simpa using ho,hg⟩
 ·obtain ⟨v',w',hr,ho,hg,_⟩:=run_append_own (P:=Tryz.prog) w base 35 ty 79 i0 (.agg #[.int .i64 0,.int .i64 0]) 2 16 Tryz.underlying35 hi hz0 hz1 hz2 rfl (by decide) v n _ hown ⟨b,off,none⟩ ys.length cap (Zb ys) (Zas ys) (syms_cells hcs) (symCells_one ys) (by unfold maxLen; omega) (by omega) hb;exact ⟨v',w',hr,by rw [symCells_append]; exact ho,hg⟩
theorem Zdw {n₀ n cap:Nat} {W:World} {a:Option Addr} {l:List (Int×Int)} (h:Syms n₀ W (.slice a n cap) l) (hl:l.length=n) (k:Nat) (hk:k≤n) (c:Nat) (hc:a=none→c=0):Syms n₀ W (.slice a k c) (l.take k):=by
 have hkl:(l.take k).length=k:=by rw [List.length_take]; omega
 by_cases h0:0<n
 ·obtain ⟨b,off,rfl,hb,hcs⟩:=ZbT h hl h0;refine .inr ⟨b,off,c,by rw [hkl],hb,fun j x hj=>hcs j x ?_⟩;rw [List.getElem?_take] at hj
  split at hj
  ·exact hj
  ·cases hj
 ·have:k=0:=by omega
  subst this;exact .inl ⟨⟨_,_,rfl,hc⟩,by simp⟩
theorem syms_drop {n₀ n cap:Nat} {W:World} {b off:Nat} {l:List (Int×Int)} (h:Syms n₀ W (.slice (some ⟨b,off,none⟩) n cap) l) (hl:l.length=n) (k:Nat) (hk:k<n) (c:Nat):Syms n₀ W (.slice (some ⟨b,off+k * 2,none⟩) (n-k) c) (l.drop k):=by
 obtain ⟨b',off',e,hb,hcs⟩:=ZbT h hl (by omega)
 cases e
 have hkl:(l.drop k).length=n-k:=by rw [List.length_drop]; omega
 refine .inr ⟨b,off+k * 2,c,by rw [hkl],hb,fun j x hj=>?_⟩;rw [List.getElem?_drop] at hj;have:=hcs (k+j) x hj;rw [show off+(k+j) * 2=off+k * 2+j * 2 by omega] at this;exact this
theorem Zed {W:World} {n₀:Nat} (ad:Addr) (c:Nat):Syms n₀ W (.slice (some ad) 0 c) []:=.inl ⟨⟨_,_,rfl,fun e=>by cases e⟩,rfl⟩
def cmpI (x y:Int):Int:=if x<y then -1 else if y<x then 1 else 0
theorem cmpI_lt {x y:Int} (h:x<y):cmpI x y = -1:=by unfold cmpI; rw [if_pos h]
theorem cmpI_gt {x y:Int} (h:y<x):cmpI x y=1:=by unfold cmpI; rw [if_neg (by omega),if_pos h]
theorem ZfI {x y:Int}:cmpI x y<0↔x<y:=by unfold cmpI; split <;> (try split) <;> omega
theorem Ze3 {x y:Int}:cmpI x y=0↔x=y:=by unfold cmpI; split <;> (try split) <;> omega
theorem ZbD (x:Int) (w:World):Calls Tryz.prog 95 #[.int .i64 x] w fun e w'=>e=.returned (.bool false)∧w=w':=by
 have hb:(x != x)=false:=by simp
 go_enter Tryz.func95,Tryz.ntmps95;go_wp2;go_ret;exact ⟨rfl,rfl⟩
theorem compare_any (x y:Int) (w:World):Calls Tryz.prog 83 #[.int .i64 x,.int .i64 y] w fun e w'=>e=.returned (.int .i64 (cmpI x y))∧w=w':=by
 by_cases h1:x<y
 ·rw [cmpI_lt h1];have d1:decide (x<y)=true:=decide_eq_true h1;clear h1;go_enter Tryz.func83,Tryz.ntmps83;go_wp2_with fail;refine (ZbD x w).mono ?_;rintro e w1 ⟨rfl,rfl⟩;go_wp2_with fail;refine (ZbD y w).mono ?_;rintro e w1 ⟨rfl,rfl⟩;go_wp2;go_ret;exact ⟨rfl,rfl⟩
 ·have d1:decide (x<y)=false:=decide_eq_false h1;by_cases h2:y<x
  ·rw [cmpI_gt h2];have d2:decide (y<x)=true:=decide_eq_true h2;clear h1 h2;go_enter Tryz.func83,Tryz.ntmps83;go_wp2_with fail;refine (ZbD x w).mono ?_;rintro e w1 ⟨rfl,rfl⟩;go_wp2_with fail;refine (ZbD y w).mono ?_;rintro e w1 ⟨rfl,rfl⟩;go_wp2;go_ret;exact ⟨rfl,rfl⟩
  ·have d2:decide (y<x)=false:=decide_eq_false h2
   have HC:Hid (cmpI x y=0):=by
    show cmpI x y=0
    exact Ze3.2 (by omega)
   rw [HC.out];clear h1 h2;go_enter Tryz.func83,Tryz.ntmps83;go_wp2_with fail;refine (ZbD x w).mono ?_;rintro e w1 ⟨rfl,rfl⟩;go_wp2_with fail;refine (ZbD y w).mono ?_;rintro e w1 ⟨rfl,rfl⟩;go_wp2;go_ret;exact ⟨rfl,rfl⟩
theorem Ze4 (x u k:Int) (w:World):Calls Tryz.prog 82 #[.agg #[.int .i64 x,.int .i64 u],.int .i64 k] w fun e w'=>e=.returned (.int .i64 (cmpI x k))∧Below w.heap.size w w':=by
 have b0:=(Below.refl w.heap.size w).alloc (Nat.le_refl _) (.cells #[.int .i64 x,.int .i64 u] 79);go_enter Tryz.func82,Tryz.ntmps82;go_wp2_with fail;refine (compare_any x k _).mono ?_;rintro e w1 ⟨rfl,rfl⟩;go_wp2;go_ret;exact ⟨rfl,b0⟩
theorem search_ok (k:Int) (a:Option Addr) (cap:Nat) (l:List (Int×Int)) (hl:l.length≤4294967296) (hr:Zat l) (w:World) (ha:Syms w.heap.size w (.slice a l.length cap) l) :
  Calls Tryz.prog 81 #[.slice a l.length cap,.int .i64 k,.func (.func 82) #[] #[]] w fun e w'=>e=.returned (.tuple #[.int .i64 (aheadOf l k:Nat),.bool (ZO l k)])∧Below w.heap.size w w':=by
 have HR:Hid (Zat l):=hr;have HAL:Hid (aheadOf l k≤l.length):=Z6 l k;obtain ⟨q,hq⟩:∃ q,aheadOf l k=q:=⟨_,rfl⟩;have HQ:Hid (aheadOf l k=q):=hq;obtain ⟨t,ht⟩:∃ t,ZO l k=t:=⟨_,rfl⟩;have HT:Hid (ZO l k=t):=ht;rw [hq,ht];clear hq ht hr;go_enter Tryz.func81,Tryz.ntmps81;go_wp2;go_loopw [9,10] (fun s9 s10 wr=>∃ i j:Nat,s9=.int .i64 i∧s10=.int .i64 j∧i≤q∧q≤j∧j≤l.length∧Below w.heap.size w wr) (fun s9 s10 _=>(intOf s10).toNat-(intOf s9).toNat)
 case atStart=>exact ⟨0,l.length,rfl,rfl,Nat.zero_le _,by rw [← HQ.out]; exact HAL.out,Nat.le_refl _,Below.refl _ _⟩
 case round =>
  obtain ⟨i,j,rfl,rfl,hiq,hqj,hjl,hbw⟩:=hrel;by_cases hlt:i<j
  ·obtain ⟨m,hm⟩:∃ m,(i+j) / 2=m:=⟨_,rfl⟩;have hml:m<l.length:=by omega
   obtain ⟨⟨x,u⟩,hx⟩:∃ x,l[m]? = some x:=⟨l[m],by simp⟩;obtain ⟨b,off,rfl,hb,hcs⟩:=ZbT (ha.below hbw) rfl (by omega);obtain ⟨c1,c2⟩:=hcs m _ hx;have hmi:((i:Int)+(j:Int)) / 2=(m:Int):=by omega
   have hc:=Ze4 x u k wr;clear hcs ha;by_cases hxk:x<k
   ·have d1:decide (cmpI x k<0)=true:=decide_eq_true (ZfI.2 hxk)
    have HMQ:Hid (m+1≤q):=by
     show m+1≤q
     rw [← HQ.out];rcases Nat.lt_or_ge m (aheadOf l k) with h | h
     ·exact h
     ·exact absurd hxk (ZbU HR.out h hx)
    clear hxk hx;go_wp2_with fail;refine hc.mono ?_;rintro e w1 ⟨rfl,bq⟩;go_wp2;go_round
    case rel=>exact ⟨m+1,j,by go_num,rfl,HMQ.out,hqj,hjl,hbw.trans (bq.mono hbw.size)⟩
    case measure=>simp [intOf]; omega
   ·have d1:decide (cmpI x k<0)=false:=decide_eq_false (fun h=>hxk (ZfI.1 h))
    have HMQ:Hid (q≤m):=by
     show q≤m
     rw [← HQ.out];rcases Nat.lt_or_ge m (aheadOf l k) with h | h
     ·exact absurd (ZbB h hx) hxk
     ·exact h
    clear hxk hx;go_wp2_with fail;refine hc.mono ?_;rintro e w1 ⟨rfl,bq⟩;go_wp2;go_round
    case rel=>exact ⟨i,m,rfl,by go_num,hiq,HMQ.out,by omega,hbw.trans (bq.mono hbw.size)⟩
    case measure=>simp [intOf]; omega
  ·obtain rfl:j=i:=by omega
   obtain rfl:q=j:=by omega
   by_cases hn:q<l.length
   ·obtain ⟨⟨x,u⟩,hx⟩:∃ x,l[q]? = some x:=⟨l[q],by simp⟩;obtain ⟨b,off,rfl,hb,hcs⟩:=ZbT (ha.below hbw) rfl (by omega);obtain ⟨c1,c2⟩:=hcs q _ hx;have hc:=Ze4 x u k wr
    have HTV:Hid ((cmpI x k == 0)=t):=by
     show (cmpI x k == 0)=t
     rw [← HT.out];unfold ZO;rw [HQ.out,hx]
     show (cmpI x k == 0)=(x == k)
     rw [Bool.eq_iff_iff,beq_iff_eq,beq_iff_eq];exact Ze3
    clear hcs ha hx;go_wp2_with fail;refine hc.mono ?_;rintro e w1 ⟨rfl,bq⟩;go_wp2;go_ret2;exact ⟨by rw [← HTV.out]; rfl,hbw.trans (bq.mono hbw.size)⟩
   ·have HTV:Hid (t=false):=by
     show t=false
     rw [← HT.out];unfold ZO;rw [HQ.out,List.getElem?_eq_none (by omega)]
    clear ha;go_wp2;go_ret2;exact ⟨by rw [HTV.out]; rfl,hbw⟩
theorem ZbW (k:Int) (a:Option Addr) (cap:Nat) (l:List (Int×Int)) (hl:l.length≤4294967296) (hr:Zat l) (w:World) (ha:Syms w.heap.size w (.slice a l.length cap) l) :
  Calls Tryz.prog 71 #[.slice a l.length cap,.int .i64 k] w fun e w'=>e=.returned (.tuple #[.int .i64 (aheadOf l k:Nat),.bool (ZO l k)])∧Below w.heap.size w w':=by
 have HS:=search_ok k a cap l hl hr w ha;obtain ⟨q,hq⟩:∃ q,aheadOf l k=q:=⟨_,rfl⟩;obtain ⟨t,ht⟩:∃ t,ZO l k=t:=⟨_,rfl⟩;rw [hq,ht] at HS ⊢;clear hq ht hr ha;go_enter Tryz.func71,Tryz.ntmps71;go_wp2_with fail;refine HS.mono ?_;rintro e w1 ⟨rfl,b1⟩;go_wp2;go_ret2;exact ⟨rfl,b1⟩
end Go.Proofs.YtkigbanldiialaaGreatDoor
