/-
  What sched.pass tells, range by range: the segments of a pass, in order, each behind its place; as long as the package's table reads as it was laid.
-/
import Derived.Test.YtabdnhkdoeibnaaGreatDoorM03
import Derived.LoopIn
import Derived.LoopNIn
import Derived.Maps.AppendAt
import Derived.OwnWalkIn
import Derived.RangeFuncBound
import Derived.RangeFuncCalls
import Derived.RangeFuncLeaves
import Derived.RangeFuncNested
import Derived.Shelf.Abstract
import Derived.Shelf.RegionOpen
import Derived.TacticsInMore
set_option maxRecDepth 100000
set_option maxHeartbeats 4000000
namespace Go.Proofs.YtabdnhkdoeibnaaGreatDoor
open Go.RowKit Go.Shelf
attribute [local go_sem] Oper.semAt_some
def ZA (W:World):Prop:=∀ c f:Nat,firsts[c]? = some f→W.cell? ⟨0,c,none⟩=some (.int .i64 (f:Int))
theorem ZA.next {w w':World} (h:ZA w) (b:Below w.heap.size w w'):ZA w':=fun c f hc=>(b.cell (p:=⟨0,c,none⟩) (ZaQ (h c f hc))).trans (h c f hc)
theorem ZA.drewN {w:World} (h:ZA w) (n:Nat):ZA (w.drewN n):=h
def ZZ (L:List Nat):List (Nat×Nat):=L.zipIdx.map fun p=>(p.2,p.1)
theorem numbered_snoc (L:List Nat) (x:Nat):ZZ (L++[x])=ZZ L++[(L.length,x)]:=by simp [ZZ,List.zipIdx_append]
theorem numbered_len (L:List Nat):(ZZ L).length=L.length:=by simp [ZZ]
theorem ZbH (L:List Nat) (k:Nat):(ZZ L)[k]? = L[k]?.map fun x=>(k,x):=by
 simp [ZZ,List.getElem?_zipIdx]
 cases L[k]? <;> rfl
theorem numbered_prefix {L M:List Nat} (h:L <+: M):ZZ L <+: ZZ M:=by
 obtain ⟨r,rfl⟩:=h;exact ⟨(r.zipIdx L.length).map fun p=>(p.2,p.1),by simp [ZZ,List.zipIdx_append]⟩
theorem ahead_prefix {n c f j:Nat} (hf:firsts[c]? = some f):ZN n c++(ZJ n f).take j <+: ZS n:=by
 have e:ZS n=ZN n (c+1)++(firsts.drop (c+1)).flatMap (ZJ n):=by
  unfold ZS ZN;rw [← List.flatMap_append,List.take_append_drop]
 rw [e,Zc3 hf,List.append_assoc];refine (List.prefix_append_right_inj _).2 ?_;exact (List.take_prefix _ _).trans (List.prefix_append _ _)
theorem firsts_index (c f:Nat) (h:firsts[c]? = some f) (w:World):Sem.run Tryz.prog (Instr.index 181 (.agg #[.int .i64 0,.int .i64 4,.int .i64 2,.int .i64 6,.int .i64 1,.int .i64 5,.int .i64 3,.int .i64 7]) (.int .i64 (c:Int))) w=.ok (.int .i64 (f:Int)) w:=by
 have hc:=(List.getElem?_eq_some_iff.1 h).1
 match c,hc with
 | 0,_=>cases h; rfl
 | 1,_=>cases h; rfl
 | 2,_=>cases h; rfl
 | 3,_=>cases h; rfl
 | 4,_=>cases h; rfl
 | 5,_=>cases h; rfl
 | 6,_=>cases h; rfl
 | 7,_=>cases h; rfl
theorem pass1_in (n:Nat) (hn:1≤n) (l Bn m:Nat) (hm:m<65) (J Jx:List (Nat×Nat)→World→Prop)
  (hY:∀ pre x W,J pre W→pre.length<m→YieldAt Fence.wide (n-1) Tryz.prog l #[.int .i64 (x.1:Nat),.int .i64 (x.2:Nat)] W fun e W' =>
   (e=.returned (.bool true)∧J (pre++[x]) W'∧W'.heap[Bn]? = W.heap[Bn]?)∨(e=.returned (.bool false)∧Jx (pre++[x]) W'))
  (W:World) (hF:ZA W) (hBn:W.cell? ⟨Bn,0,none⟩=some (.int .i64 m)) (h0:J [] W) :
  CallsIn Fence.wide n Tryz.prog 138 #[.func (.yield l) #[] #[],.pointer (some ⟨Bn,0,none⟩)] W fun e W'=>(∃ v,e=.returned v) ∧
   ((∃ ys,ys=ZZ (ZS m)∧J ys W')∨(∃ pre,pre <+: ZZ (ZS m)∧Jx pre W')):=by
 have c0:=hF 0 0 rfl;have c1:=hF 1 4 rfl;have c2:=hF 2 2 rfl;have c3:=hF 3 6 rfl;have c4:=hF 4 1 rfl;have c5:=hF 5 5 rfl;have c6:=hF 6 3 rfl;have c7:=hF 7 7 rfl;refine callsIn_of_wp Tryz.func138 rfl trivial ?_ rfl;simp only [Tryz.ntmps138,List.size_toArray,List.length_cons,List.length_nil,Nat.reduceAdd,Nat.reduceSub,Array.replicate_succ,Array.replicate_zero,List.push_toArray,List.append_toArray,List.nil_append,List.cons_append];gi_wp2;clear c0 c1 c2 c3 c4 c5 c6 c7;gi_loopw [3,8] (fun v i wr=>∃ c:Nat,c≤8∧i=.int .i64 c∧v=.int .i64 ((ZN m c).length:Nat)∧J (ZZ (ZN m c)) wr∧wr.heap[Bn]? = W.heap[Bn]?) (fun _ i _=>8-(intOf i).toNat)
 case atStart=>exact ⟨0,by omega,rfl,rfl,h0,rfl⟩
 case round =>
  obtain ⟨c,hc,rfl,rfl,hJs,hkp⟩:=hrel;by_cases hlt:c<8
  ·obtain ⟨f,hf,hf8⟩:=Zfp c hlt;have d8:decide ((c:Int)<8)=true:=decide_eq_true (by omega);have hix:=firsts_index c f hf wr;have HNX:Hid _:=Zc3 (n:=m) hf;have HPX:Hid (∀ j,ZN m c++(ZJ m f).take j <+: ZS m):=fun j=>ahead_prefix hf
   have hel:=ZdD m f;have hcn:wr.cell? ⟨Bn,0,none⟩=some (.int .i64 m):=by rw [← hBn]; simp [World.cell?,hkp]
   have HOL:Hid ((ZS m).length=m):=ZcF m hm;have hal:=Zfn m hm c (by omega);have hef:=Zfo (f:=f) hm;clear hf;gi_wp2;gi_loopw [3,6] (fun v i wq=>∃ j:Nat,j≤(ZJ m f).length∧i=.int .i64 ((f+8 * j:Nat):Int)∧v=.int .i64 (((ZN m c).length+j:Nat):Int)∧J (ZZ (ZN m c++(ZJ m f).take j)) wq∧wq.heap[Bn]? = W.heap[Bn]?) (fun _ i _=>100-(intOf i).toNat)
   case atStart=>exact ⟨0,Nat.zero_le _,rfl,rfl,by rw [List.take_zero,List.append_nil]; exact hJs,hkp⟩
   case round =>
    clear hJs hkp hcn hix;obtain ⟨j,hj,rfl,rfl,hJ2,hkp2⟩:=hrel;have hcn:wr.cell? ⟨Bn,0,none⟩=some (.int .i64 m):=by rw [← hBn]; simp [World.cell?,hkp2]
    by_cases hjl:j<(ZJ m f).length
    ·have hjn:f+8 * j<m:=by rw [hel] at hjl; omega
     have HN:Hid _:=Zew hjn;have hlen:(ZN m c++(ZJ m f).take j).length=(ZN m c).length+j:=by rw [List.length_append,List.length_take]; omega
     have hsn:=numbered_snoc (ZN m c++(ZJ m f).take j) (f+8 * j);rw [List.append_assoc,← HN.out,hlen] at hsn
     have hpl:(ZZ (ZN m c++(ZJ m f).take j)).length<m:=by
      have h1:=(HPX.out (j+1)).length_le;rw [HOL.out,HN.out,← List.append_assoc,List.length_append] at h1;rw [numbered_len];simp at h1 ⊢;omega
     have hpp:=numbered_prefix (HPX.out (j+1));obtain ⟨fn,tmps,assign,body,hy,hR⟩:=hY _ ((ZN m c).length+j,f+8 * j) wr hJ2 hpl
     dsimp only at hy hR
     rw [← hsn] at hR;have e8:((f+8 * j:Nat):Int)+8=((f+8 * (j+1):Nat):Int):=by omega
     have e1:(((ZN m c).length+j:Nat):Int)+1=(((ZN m c).length+(j+1):Nat):Int):=by omega
     obtain ⟨x,hx⟩:∃ x,f+8 * j=x:=⟨_,rfl⟩;obtain ⟨p,hp⟩:∃ p,(ZN m c).length+j=p:=⟨_,rfl⟩;have hp65:p≤72:=by omega
     rw [hx] at hjn e8 hy ⊢;rw [hp] at e1 hy ⊢;have HE8:Hid ((x:Int)+8=((f+8 * (j+1):Nat):Int)):=e8;have HE1:Hid ((p:Int)+1=(((ZN m c).length+(j+1):Nat):Int)):=e1;have HPP:Hid _:=hpp;have HX:Hid (f+8 * j=x):=hx;clear e8 e1 HN hlen hsn hpl hpp hx hp hel;gi_wp2;refine hR.mono ?_;rintro e W3 (⟨rfl,hJ3,hk3⟩ | ⟨rfl,hJx3⟩)
     ·gi_wp2;go_roundw
      case rel=>exact ⟨j+1,by omega,by rw [← HE8.out],by rw [← HE1.out],hJ3,hk3.trans hkp2⟩
      case measure=>have:=HX.out; simp [intOf]; omega
     ·gi_wp2;refine bodyPost_ret (results_none rfl _ _ _) rfl ?_;exact ⟨⟨_,rfl⟩,.inr ⟨_,HPP.out,hJx3⟩⟩
    ·obtain rfl:j=(ZJ m f).length:=by omega
     have hjn:¬ ((f+8 * (ZJ m f).length:Nat):Int)<(m:Int):=by rw [hel]; omega
     have ht:ZN m c++(ZJ m f).take (ZJ m f).length=ZN m (c+1):=by rw [List.take_length,HNX.out]
     rw [ht] at hJ2;have hln:(ZN m c).length+(ZJ m f).length=(ZN m (c+1)).length:=by rw [HNX.out,List.length_append]
     rw [hln];obtain ⟨y,hy⟩:∃ y,f+8 * (ZJ m f).length=y:=⟨_,rfl⟩;rw [hy] at hjn ⊢;clear ht hln hy hjl hel HNX HPX;gi_wp2;go_roundw
     case rel=>exact ⟨c+1,by omega,by go_num,rfl,hJ2,hkp2⟩
     case measure=>simp [intOf]; omega
  ·obtain rfl:c=8:=by omega
   rw [Zfm] at hJs;gi_wp2;go_end0;exact ⟨⟨_,rfl⟩,.inl ⟨_,rfl,hJs⟩⟩
end Go.Proofs.YtabdnhkdoeibnaaGreatDoor
