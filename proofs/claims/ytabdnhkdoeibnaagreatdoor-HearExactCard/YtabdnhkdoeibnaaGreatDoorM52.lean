/-
  Tables at package level, as the condition of a law that lists them tells them. No function of the program is spoken of.
-/
import Derived.Test.YtabdnhkdoeibnaaGreatDoorM51
import Derived.LaidMore
import Derived.ProofKit
import Derived.Stop.Joined
import Derived.Test.YtabdnhkdoeibnaaGreatDoorRows
set_option maxRecDepth 100000
set_option maxHeartbeats 1000000
namespace Go.Proofs.YtabdnhkdoeibnaaGreatDoor
open Go.ChangeShapes Go.WideShapes Go.ChangeAt Go.RowKit
theorem array_ints {H:Type} {enc:TypeId×Value→H} {P:Program} {W:World} {base fuel n:Nat} {spare:Nat→Bool} {held:Bool} {t e:TypeId} {kd:IntKind} {cs:List Value} {zs:List Int} {p:List MemPlace}
  (ht:P.underlying t=some (.array n e)) (he:P.underlying e=some (.int kd)) (hc:P.cellsOf e=1)
  (h:DataW.trod enc P W base spare held fuel t cs=some (.agg (zs.map fun z=>.lit (.int kd z)),p)):∀ (i:Nat) (z:Int),zs[i]? = some z→cs[i]? = some (.int kd z):=by
 intro i z hz;obtain ⟨xs,m,rfl,hx,hlen,hxl,hel⟩:=DataW.trod_array ht h;simp only [Prod.mk.injEq,DataW.agg.injEq] at hx;have hxi:(xs.map (·.1))[i]? = some (.lit (.int kd z)):=by rw [← hx.1,List.getElem?_map,hz]; rfl
 rw [List.getElem?_map,Option.map_eq_some_iff] at hxi;obtain ⟨x,hx1,hx2⟩:=hxi;have hi:i<n:=by rw [← hxl]; exact (List.getElem?_eq_some_iff.1 hx1).1
 have h1:=hel i hi;rw [hx1,hc,Nat.mul_one] at h1;obtain ⟨k,e1,e2,_⟩:=DataW.trod_int he h1;have hk:k=z:=by rw [e2] at hx2; simpa using hx2
 subst hk;have h2:((cs.drop i).take 1)[0]? = some (.int kd k):=by rw [e1]; rfl
 rwa [List.getElem?_take,if_pos (by decide),List.getElem?_drop,Nat.add_zero] at h2
theorem Zef {P:Program} {w:World} {n:String} {d:DataW Unit}:∀ {l:List (String×DataW Unit)} {ps:List MemPlace},DataW.LaidVars P w l ps→(n,d)∈l →
  ∃ g t cs fuel p,P.globalNamed n=some g∧(P.globals[g]?).map (·.type)=some t∧w.var? P n=some cs∧DataW.trod (fun _=>()) P w 0 (fun _=>true) false fuel t cs.toList=some (d,p)
 | [],_,_,hm=>by cases hm
 | (n',d') :: r,ps,h,hm=>by
  obtain ⟨g,t,cs,fuel,p,q,hg,ht,hv,hd,hr,_⟩:=h
  rcases List.mem_cons.1 hm with e | hm'
  ·cases e
   exact ⟨g,t,cs,fuel,p,hg,ht,hv,hd⟩
  ·exact Zef hr hm'
theorem laid_ints {P:Program} {W:World} {l:List (String×DataW Unit)} {n:String} {g m:Nat} {t e:TypeId} {kd:IntKind} {zs:List Int}
  (hp:(l.filter fun x=>x.2.handleName?.isSome)=[]) (hm:(n,.agg (zs.map fun z=>.lit (.int kd z)))∈l) (hg:P.globalNamed n=some g) (htt:(P.globals[g]?).map (·.type)=some t)
  (ht:P.underlying t=some (.array m e)) (he:P.underlying e=some (.int kd)) (hc:P.cellsOf e=1) (h:laidMetH P l W):∀ (i:Nat) (z:Int),zs[i]? = some z→W.cell? ⟨g,i,none⟩=some (.int kd z):=by
 unfold laidMetH at h;rw [hp] at h;obtain ⟨ps,hL,_,_⟩:=h;obtain ⟨g',t',cs,fuel,p,hg',ht',hv,hd⟩:=Zef hL hm;obtain rfl:=Option.some.inj (hg.symm.trans hg');obtain rfl:=Option.some.inj (htt.symm.trans ht');intro i z hz;have h1:=array_ints ht he hc hd i z hz;rw [World.var?_cell hg hv i];simpa using h1
end Go.Proofs.YtabdnhkdoeibnaaGreatDoor
namespace Go.Proofs.YtabdnhkdoeibnaaGreatDoor
open Go.RowKit
theorem firsts_of_laid {W:World} {l:List (String×DataW Unit)} (hp:(l.filter fun x=>x.2.handleName?.isSome)=[]) (hm:("volute/sched.firsts",Rows.laid_volute_sched_firsts)∈l) (h:laidMetH Tryz.prog l W):ZA W:=by
 intro c f hc
 have hz:[(0:Int),4,2,6,1,5,3,7][c]? = some (f:Int):=by
  have h1:(ints firsts)[c]? = some (f:Int):=by unfold ints; rw [List.getElem?_map,hc]; rfl
  exact h1
 exact laid_ints (zs:=[0,4,2,6,1,5,3,7]) hp hm (show Tryz.prog.globalNamed "volute/sched.firsts" = some 0 by kernel_rfl) (show (Tryz.prog.globals[0]?).map (·.type)=some 181 by kernel_rfl) Tryz.underlying181 Tryz.underlying3 (by kernel_rfl) h c f hz
theorem hearExact_walk (c:Cfg) (s1 q1 N1 P1:Int) (k1:Bool) (a1:Option Addr) (len1 cap1:Nat) (l1:List (Int×Int)) (b1:Option Addr) (blen1 bcap1:Nat) (zb1:List Int) (s2 r2 f2:Int) (a2:Option Addr) (len2 cap2:Nat) (z2:List Int) (sm:Bool) (w:World) (w1:ZhZ w a1 len1 cap1 l1) (wb1:ZhY .u8 w b1 blen1 bcap1 zb1) (w2:ZhY .u8 w a2 len2 cap2 z2) (hF:ZA w) :
  Calls Tryz.prog 3 #[.agg #[.int .i64 c.cB,.int .i64 c.cBeam,.int .i64 c.cDepth,.int .i64 c.cWin,.int .i64 c.cQs,.int .i64 c.cQr,.int .i64 c.cBatch,.int .i64 c.cPass,.int .i64 c.cMsg,.int .i64 c.cSeqs],.agg #[.int .i64 s1,.int .i64 q1,.int .i64 N1,.int .i64 P1,.slice a1 len1 cap1,.bool k1,.slice b1 blen1 bcap1],.agg #[.int .i64 s2,.int .i64 r2,.int .i64 f2,.slice a2 len2 cap2],.bool sm] w fun e w'=>e=.returned (.bool true)∧Below w.heap.size w w':=by
 obtain ⟨y1,n1,h1,e1⟩:=ZcX wb1;obtain ⟨y2,n2,h2,e2⟩:=ZcX w2;have c1:blen1≤bcap1:=(by rcases wb1 with ⟨_,h1,h2,_⟩ | ⟨_,_,h1,_⟩ <;> omega);obtain ⟨m1,_,_,hs1,_⟩:=w1;subst n1 n2 m1;exact hearExact_at c ⟨s1,q1,N1,P1,l1,k1,y1⟩ a1 b1 cap1 bcap1 s2 r2 f2 y2 a2 cap2 sm w ⟨hs1,h1,c1,Zhm e1⟩ h2 (Zhm e2) hF
end Go.Proofs.YtabdnhkdoeibnaaGreatDoor
namespace Go.Proofs.YtabdnhkdoeibnaaGreatDoor
open Go.ChangeShapes Go.WideShapes Go.ChangeAt Go.RowKit
theorem array7 {α:Type} {cs:Array α} (h:cs.size=7):∃ c0 c1 c2 c3 c4 c5 c6,cs=#[c0,c1,c2,c3,c4,c5,c6]:=by
 obtain ⟨l⟩:=cs
 match l,h with
 | [c0,c1,c2,c3,c4,c5,c6],_=>exact ⟨c0,c1,c2,c3,c4,c5,c6,rfl⟩
theorem hear_of_trod {H:Type} {enc:TypeId×Value→H} {W:World} {base:Nat} {held:Bool} {r:Reach} {b0:Nat} {v:Value} {d:DataW H} {p:List MemPlace} (hv:Value.okWide Tryz.prog W r b0 29 v) (h:DataW.Trod enc Tryz.prog W base (fun _=>true) held 29 v d p):∃ (s q N P:Int) (k:Bool) (a:Option Addr) (len cap:Nat) (l:List (Int×Int)) (b:Option Addr) (blen bcap:Nat) (zs:List Int),v=.agg #[.int .i64 s,.int .i64 q,.int .i64 N,.int .i64 P,.slice a len cap,.bool k,.slice b blen bcap]∧ZhZ W a len cap l∧ZhY .u8 W b blen bcap zs:=by
 have hC:Tryz.prog.cellsOf 29=7:=by kernel_rfl
 have hP:Tryz.prog.cellsOf 26=3:=by kernel_rfl
 have hI:Tryz.prog.cellsOf 3=1:=by kernel_rfl
 have hB:Tryz.prog.cellsOf 4=1:=by kernel_rfl
 have hS:Tryz.prog.cellsOf 27=1:=by kernel_rfl
 have hL:Tryz.prog.cellsOf 24=1:=by kernel_rfl
 obtain ⟨cs,rfl,hsz⟩:=okWide_struct Tryz.underlying29 hv;obtain ⟨c0,c1,c2,c3,c4,c5,c6,rfl⟩:=array7 (hsz.trans hC);obtain ⟨fuel,hf⟩:=h;obtain ⟨xs,n,_,_,_,hlen,hg⟩:=DataW.trod_struct Tryz.underlying29 hf;have hl:xs.length=5:=hlen;have k0:DataW.trod enc Tryz.prog W base (fun _=>true) held n 3 (((Value.agg #[c0,c1,c2,c3,c4,c5,c6]).cells.toList.drop 0).take (Tryz.prog.cellsOf 3))=xs[0]?:=hg 0 _ rfl;rw [List.getElem?_eq_getElem (show 0<xs.length by omega),show ((Value.agg #[c0,c1,c2,c3,c4,c5,c6]).cells.toList.drop 0).take (Tryz.prog.cellsOf 3)=[c0] by rw [hI]; rfl] at k0;obtain ⟨n0,e0,_,_⟩:=DataW.trod_int Tryz.underlying3 k0;have k1:DataW.trod enc Tryz.prog W base (fun _=>true) held n 3 (((Value.agg #[c0,c1,c2,c3,c4,c5,c6]).cells.toList.drop 1).take (Tryz.prog.cellsOf 3))=xs[1]?:=hg 1 _ rfl;rw [List.getElem?_eq_getElem (show 1<xs.length by omega),show ((Value.agg #[c0,c1,c2,c3,c4,c5,c6]).cells.toList.drop 1).take (Tryz.prog.cellsOf 3)=[c1] by rw [hI]; rfl] at k1;obtain ⟨n1,e1,_,_⟩:=DataW.trod_int Tryz.underlying3 k1;have k2:DataW.trod enc Tryz.prog W base (fun _=>true) held n 26 (((Value.agg #[c0,c1,c2,c3,c4,c5,c6]).cells.toList.drop 2).take (Tryz.prog.cellsOf 26))=xs[2]?:=hg 2 _ rfl;rw [List.getElem?_eq_getElem (show 2<xs.length by omega),show ((Value.agg #[c0,c1,c2,c3,c4,c5,c6]).cells.toList.drop 2).take (Tryz.prog.cellsOf 26)=[c2,c3,c4] by rw [hP]; rfl] at k2;have k3:DataW.trod enc Tryz.prog W base (fun _=>true) held n 4 (((Value.agg #[c0,c1,c2,c3,c4,c5,c6]).cells.toList.drop 5).take (Tryz.prog.cellsOf 4))=xs[3]?:=hg 3 _ rfl;rw [List.getElem?_eq_getElem (show 3<xs.length by omega),show ((Value.agg #[c0,c1,c2,c3,c4,c5,c6]).cells.toList.drop 5).take (Tryz.prog.cellsOf 4)=[c5] by rw [hB]; rfl] at k3;obtain ⟨n3,e3,_⟩:=DataW.trod_bool Tryz.underlying4 k3;have k4:DataW.trod enc Tryz.prog W base (fun _=>true) held n 27 (((Value.agg #[c0,c1,c2,c3,c4,c5,c6]).cells.toList.drop 6).take (Tryz.prog.cellsOf 27))=xs[4]?:=hg 4 _ rfl;rw [List.getElem?_eq_getElem (show 4<xs.length by omega),show ((Value.agg #[c0,c1,c2,c3,c4,c5,c6]).cells.toList.drop 6).take (Tryz.prog.cellsOf 27)=[c6] by rw [hS]; rfl] at k4;obtain ⟨ys,m,_,_,_,hlen2,hg2⟩:=DataW.trod_struct Tryz.underlying26 k2;have hl2:ys.length=3:=hlen2;have j0:DataW.trod enc Tryz.prog W base (fun _=>true) held m 3 (([c2,c3,c4].drop 0).take (Tryz.prog.cellsOf 3))=ys[0]?:=hg2 0 _ rfl;rw [List.getElem?_eq_getElem (show 0<ys.length by omega),show ([c2,c3,c4].drop 0).take (Tryz.prog.cellsOf 3)=[c2] by rw [hI]; rfl] at j0;obtain ⟨m0,f0,_,_⟩:=DataW.trod_int Tryz.underlying3 j0;have j1:DataW.trod enc Tryz.prog W base (fun _=>true) held m 3 (([c2,c3,c4].drop 1).take (Tryz.prog.cellsOf 3))=ys[1]?:=hg2 1 _ rfl;rw [List.getElem?_eq_getElem (show 1<ys.length by omega),show ([c2,c3,c4].drop 1).take (Tryz.prog.cellsOf 3)=[c3] by rw [hI]; rfl] at j1;obtain ⟨m1,f1,_,_⟩:=DataW.trod_int Tryz.underlying3 j1;have j2:DataW.trod enc Tryz.prog W base (fun _=>true) held m 24 (([c2,c3,c4].drop 2).take (Tryz.prog.cellsOf 24))=ys[2]?:=hg2 2 _ rfl;rw [List.getElem?_eq_getElem (show 2<ys.length by omega),show ([c2,c3,c4].drop 2).take (Tryz.prog.cellsOf 24)=[c4] by rw [hL]; rfl] at j2;simp only [List.cons.injEq,and_true] at e0 e1 e3 f0 f1;subst e0 e1 e3 f0 f1
 obtain ⟨a,len,cap,rfl⟩:∃ a len cap,c4=.slice a len cap:=by
  rcases Go.Deep.open_slice Tryz.underlying24 j2 with ⟨hcs,_⟩ | ⟨ad,len',cap',_,_,_,_,hcs,_⟩
  ·simp only [List.cons.injEq,and_true] at hcs;exact ⟨_,_,_,hcs⟩
  ·simp only [List.cons.injEq,and_true] at hcs;exact ⟨_,_,_,hcs⟩
 obtain ⟨l,hl4⟩:=isSyms_of_trod j2;rcases open_ints Tryz.underlying27 Tryz.underlying5 (by kernel_rfl) k4 with ⟨hcs,_⟩ | ⟨x,l5,c,zs,hcs,_,hl,hm,hz,_,hcell,hwz⟩
 ·simp only [List.cons.injEq,and_true] at hcs;subst hcs;exact ⟨n0,n1,m0,m1,n3,a,len,cap,l,_,_,_,[],rfl,hl4,.inl ⟨rfl,rfl,rfl,rfl⟩⟩
 ·simp only [List.cons.injEq,and_true] at hcs;subst hcs;exact ⟨n0,n1,m0,m1,n3,a,len,cap,l,_,_,_,zs,rfl,hl4,.inr ⟨_,rfl,hl,hm,by simpa using hz,hcell,hwz⟩⟩
end Go.Proofs.YtabdnhkdoeibnaaGreatDoor
