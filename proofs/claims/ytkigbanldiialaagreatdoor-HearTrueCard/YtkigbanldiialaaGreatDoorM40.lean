/-
  Tables at package level, as the condition of a law that lists them tells them. No function of the program is spoken of.
-/
import Derived.Test.YtkigbanldiialaaGreatDoorM39
import Derived.LaidMore
import Derived.Stop.Joined
import Derived.Test.YtkigbanldiialaaGreatDoorRows
namespace Go.Proofs.YtkigbanldiialaaGreatDoor
open Go.ChangeShapes Go.WideShapes Go.ChangeAt Go.RowKit
theorem array_ints {H:Type} {enc:TypeId×Value→H} {P:Program} {W:World} {base fuel n:Nat} {spare:Nat→Bool} {held:Bool} {t e:TypeId} {kd:IntKind} {cs:List Value} {zs:List Int} {p:List MemPlace}
  (ht:P.underlying t=some (.array n e)) (he:P.underlying e=some (.int kd)) (hc:P.cellsOf e=1)
  (h:DataW.trod enc P W base spare held fuel t cs=some (.agg (zs.map fun z=>.lit (.int kd z)),p)):∀ (i:Nat) (z:Int),zs[i]? = some z→cs[i]? = some (.int kd z):=by
 intro i z hz;obtain ⟨xs,m,rfl,hx,hlen,hxl,hel⟩:=DataW.trod_array ht h;simp only [Prod.mk.injEq,DataW.agg.injEq] at hx;have hxi:(xs.map (·.1))[i]? = some (.lit (.int kd z)):=by rw [← hx.1,List.getElem?_map,hz]; rfl
 rw [List.getElem?_map,Option.map_eq_some_iff] at hxi;obtain ⟨x,hx1,hx2⟩:=hxi;have hi:i<n:=by rw [← hxl]; exact (List.getElem?_eq_some_iff.1 hx1).1
 have h1:=hel i hi;rw [hx1,hc,Nat.mul_one] at h1;obtain ⟨k,e1,e2,_⟩:=DataW.trod_int he h1;have hk:k=z:=by rw [e2] at hx2; simpa using hx2
 subst hk;have h2:((cs.drop i).take 1)[0]? = some (.int kd k):=by rw [e1]; rfl
 rwa [List.getElem?_take,if_pos (by decide),List.getElem?_drop,Nat.add_zero] at h2
theorem Zc3 {P:Program} {w:World} {n:String} {d:DataW Unit}:∀ {l:List (String×DataW Unit)} {ps:List MemPlace},DataW.LaidVars P w l ps→(n,d)∈l →
  ∃ g t cs fuel p,P.globalNamed n=some g∧(P.globals[g]?).map (·.type)=some t∧w.var? P n=some cs∧DataW.trod (fun _=>()) P w 0 (fun _=>true) false fuel t cs.toList=some (d,p)
 | [],_,_,hm=>by cases hm
 | (n',d') :: r,ps,h,hm=>by
  obtain ⟨g,t,cs,fuel,p,q,hg,ht,hv,hd,hr,_⟩:=h
  rcases List.mem_cons.1 hm with e | hm'
  ·cases e
   exact ⟨g,t,cs,fuel,p,hg,ht,hv,hd⟩
  ·exact Zc3 hr hm'
theorem laid_ints {P:Program} {W:World} {l:List (String×DataW Unit)} {n:String} {g m:Nat} {t e:TypeId} {kd:IntKind} {zs:List Int}
  (hp:(l.filter fun x=>x.2.handleName?.isSome)=[]) (hm:(n,.agg (zs.map fun z=>.lit (.int kd z)))∈l) (hg:P.globalNamed n=some g) (htt:(P.globals[g]?).map (·.type)=some t)
  (ht:P.underlying t=some (.array m e)) (he:P.underlying e=some (.int kd)) (hc:P.cellsOf e=1) (h:laidMetH P l W):∀ (i:Nat) (z:Int),zs[i]? = some z→W.cell? ⟨g,i,none⟩=some (.int kd z):=by
 unfold laidMetH at h;rw [hp] at h;obtain ⟨ps,hL,_,_⟩:=h;obtain ⟨g',t',cs,fuel,p,hg',ht',hv,hd⟩:=Zc3 hL hm;obtain rfl:=Option.some.inj (hg.symm.trans hg');obtain rfl:=Option.some.inj (htt.symm.trans ht');intro i z hz;have h1:=array_ints ht he hc hd i z hz;rw [World.var?_cell hg hv i];simpa using h1
end Go.Proofs.YtkigbanldiialaaGreatDoor
namespace Go.Proofs.YtkigbanldiialaaGreatDoor
open Go.RowKit
theorem firsts_of_laid {W:World} {l:List (String×DataW Unit)} (hp:(l.filter fun x=>x.2.handleName?.isSome)=[]) (hm:("volute/sched.firsts",Rows.laid_volute_sched_firsts)∈l) (h:laidMetH Tryz.prog l W):Zm W:=by
 intro c f hc
 have hz:[(0:Int),4,2,6,1,5,3,7][c]? = some (f:Int):=by
  have h1:(ints firsts)[c]? = some (f:Int):=by unfold ints; rw [List.getElem?_map,hc]; rfl
  exact h1
 exact laid_ints (zs:=[0,4,2,6,1,5,3,7]) hp hm (show Tryz.prog.globalNamed "volute/sched.firsts" = some 0 by kernel_rfl) (show (Tryz.prog.globals[0]?).map (·.type)=some 130 by kernel_rfl) Tryz.underlying130 Tryz.underlying3 (by kernel_rfl) h c f hz
theorem hearTrue_walk (c:Cfg) (s1 m1:Int) (a1:Option Addr) (len1 cap1:Nat) (z1:List Int) (a2:Option Addr) (len2 cap2:Nat) (l2:List (Int×Int×Int)) (w:World) (w1:IsRow .u8 w a1 len1 cap1 z1) (w2:Zfr w.heap.size w a2 len2 l2) (hF:Zm w) :
  Calls Tryz.prog 3 #[.agg #[.int .i64 c.cB,.int .i64 c.cBeam,.int .i64 c.cDepth,.int .i64 c.cWin,.int .i64 c.cQs,.int .i64 c.cQr,.int .i64 c.cBatch,.int .i64 c.cPass,.int .i64 c.cMsg,.int .i64 c.cSeqs],.agg #[.int .i64 s1,.int .i64 m1,.slice a1 len1 cap1],.slice a2 len2 cap2] w fun e w'=>e=.returned (.bool true)∧Below w.heap.size w w':=by
 obtain ⟨y1,n1,h1,b1⟩:=holds_of_isRow w1;exact hearTrue_at c s1 m1 a1 len1 cap1 y1 a2 len2 cap2 l2 w n1 h1 (bytes_bd b1) w2 hF
end Go.Proofs.YtkigbanldiialaaGreatDoor
