/-
  HearExact: whatever the configuration, the block that is heard, the data: whether it may be, what becomes of it and whether it is accepted are the page's, and what is handed in stays; no further condition.
-/
import Derived.Test.YtabdnhkdoeibnaaGreatDoorM52
import Derived.Below
import Derived.ChangeOld
import Derived.Laws.IdiomArrays
import Derived.SevenTiedAt
import Derived.ShutString
import Derived.Test.YtabdnhkdoeibnaaGreatDoorCards
import Derived.Test.YtabdnhkdoeibnaaGreatDoorTie
set_option maxRecDepth 100000
set_option maxHeartbeats 1000000
namespace Go.Proofs.YtabdnhkdoeibnaaGreatDoor.hearExact
open Go.ChangeShapes Go.WideShapes Go.ChangeAt Go.RowKit
set_option linter.unusedVariables false
theorem own:ownKnob Tryz.prog.godebug=none:=by kernel_rfl
theorem laidOut:laidOutB Tryz.prog=true:=by kernel_rfl
theorem cellsData:Tryz.prog.cellsOf 31=4:=by kernel_rfl
theorem door_met (os:Os) (args:Array Value):laidMetH Tryz.prog Rows.hearExactRow.laid ((World.doorLaid Tryz.prog 400 os).forCall (fun _ _=>0) ⟨#[],args,[]⟩).memory :=
 laidMetH_of_parts3 (fuel:=8) (laidMet_of_run' 8 (by kernel_rfl) (by kernel_rfl)) (by kernel_rfl) (by kernel_rfl)
theorem lifted (os:Os) (started:os.Started) (H:Type) (enc:TypeId×Value→H) :
  ReturnsInHanded {} Tryz.checked os 3 .any (fun w args=>(Rows.hearExactSpec.pre enc Tryz.prog Tryz.f3 Rows.hearExactRow.domain false w args∧laidMetH Tryz.prog Rows.hearExactRow.laid w)∧sizedMet enc Tryz.prog Tryz.f3 (OpenSpec.ofChange Rows.hearExactSpec) false w args) (Rows.hearExactSpec.post enc Tryz.prog Tryz.f3 false true false false):=by
 refine returnsInHanded_of_change_and (C:=Tryz.checked) (X:=fun w _=>laidMetH Tryz.prog Rows.hearExactRow.laid w) (fun _ _ _ hh h=>h.of_heap hh) own started (by kernel_rfl) Tryz.func3
  (ChangeSpec.witness_shaped (enc:=enc) (C:=Tryz.checked) (os:=os) (X:=fun w _=>laidMetH Tryz.prog Rows.hearExactRow.laid w) false (World.doorLaid Tryz.prog 400 os) #[.agg #[.int .i64 0,.int .i64 0,.int .i64 0,.int .i64 0,.int .i64 0,.int .i64 0,.int .i64 0,.int .i64 0,.int .i64 0,.int .i64 0],.agg #[.int .i64 0,.int .i64 0,.int .i64 0,.int .i64 0,.slice none 0 0,.bool false,.slice none 0 0],.agg #[.int .i64 0,.int .i64 0,.int .i64 0,.slice none 0 0],.bool false] 8 rfl (World.shaped_of_RefB (by kernel_rfl) (by kernel_rfl)) (by kernel_rfl) (by kernel_rfl) (by kernel_rfl) (door_met os _)) ?_
 intro W base args ds gs before hval0 hW hcnd _ hL _;have hp:(Rows.hearExactRow.laid.filter fun x=>x.2.handleName?.isSome)=[]:=by kernel_rfl
 have hF:=firsts_of_laid hp (by simp [Rows.hearExactRow]) hL;have hval:∀ (j:Nat) t v,Tryz.f3.params[j]? = some t→args[j]? = some v→Value.okWide Tryz.prog W .any base t v:=hval0;have hW':=hW;obtain ⟨p,q,hA0,hV,rfl,hfz,hnd⟩:=hW;have hA:DataW.TrodAll enc Tryz.prog W 0 (fun _=>true) true Tryz.f3.params.toList args.toList ds p:=hA0;rw [Tryz.params3] at hA hval;obtain ⟨v0,vs0,d0,ds0,pp0,qq0,hargs,rfl,rfl,h0,r0⟩:=trodAll_cons hA;obtain ⟨v1,vs1,d1,ds1,pp1,qq1,rfl,rfl,rfl,h1,r1⟩:=trodAll_cons r0;obtain ⟨v2,vs2,d2,ds2,pp2,qq2,rfl,rfl,rfl,h2,r2⟩:=trodAll_cons r1;obtain ⟨v3,vs3,d3,ds3,pp3,qq3,rfl,rfl,rfl,h3,r3⟩:=trodAll_cons r2;obtain ⟨rfl,rfl,rfl⟩:=trodAll_nil r3;obtain rfl:args=#[v0,v1,v2,v3]:=by cases args; simp_all
 obtain ⟨rfl,rfl⟩:=trodVars_none hV;have k0:=h0;have lt0:∀ x∈pp0,x.block<W.heap.size:=by obtain ⟨m,hm⟩:=k0; exact DataW.trod_lt m _ _ _ hm
 have k1:=h1;have lt1:∀ x∈pp1,x.block<W.heap.size:=by obtain ⟨m,hm⟩:=k1; exact DataW.trod_lt m _ _ _ hm
 have k2:=h2;have lt2:∀ x∈pp2,x.block<W.heap.size:=by obtain ⟨m,hm⟩:=k2; exact DataW.trod_lt m _ _ _ hm
 have k3:=h3;have lt3:∀ x∈pp3,x.block<W.heap.size:=by obtain ⟨m,hm⟩:=k3; exact DataW.trod_lt m _ _ _ hm
 obtain ⟨c0,rfl⟩:=cfg_of_trod (hval 0 23 v0 rfl rfl) h0;obtain ⟨s1,q1,N1,P1,k1_,a1,len1,cap1,l1,b1,blen1,bcap1,z1,rfl,w1,wb1⟩:=hear_of_trod (hval 1 29 v1 rfl rfl) h1;obtain ⟨u0,u1,u2,u3,y0,y1,y2,y3,m,rfl,_,_,t0,t1,t2,t3⟩:=Go.Joins.open_agg4 Tryz.underlying31 (by kernel_rfl) cellsData (hval 2 31 v2 rfl rfl) h2;obtain ⟨s2,e0,_,ws2⟩:=DataW.trod_int Tryz.underlying3 t0;obtain ⟨r2_,e1,_,wr2⟩:=DataW.trod_int Tryz.underlying3 t1;obtain ⟨f2,e2,_,wf2⟩:=DataW.trod_int Tryz.underlying3 t2;simp only [List.cons.injEq,and_true] at e0 e1 e2;subst e0 e1 e2
 obtain ⟨a2,len2,cap2,z2,rfl,w2⟩:∃ a len cap zs,u3=.slice a len cap∧ZhY .u8 W a len cap zs:=by
  rcases open_ints Tryz.underlying27 Tryz.underlying5 (by kernel_rfl) t3 with ⟨hcs,_⟩ | ⟨x,l,c,zs,hcs,_,hl,hm,hz,_,hcell,hwz⟩
  ·simp only [List.cons.injEq,and_true] at hcs;exact ⟨_,_,_,[],hcs,.inl ⟨rfl,rfl,rfl,rfl⟩⟩
  ·simp only [List.cons.injEq,and_true] at hcs;exact ⟨_,_,_,zs,hcs,.inr ⟨_,rfl,hl,hm,by simpa using hz,hcell,hwz⟩⟩
 obtain ⟨a3,rfl,rfl,rfl⟩:=open_bool Tryz.underlying4 (hval 3 4 v3 rfl rfl) h3;clear hA0 hval0;refine (hearExact_walk c0 s1 q1 N1 P1 k1_ a1 len1 cap1 l1 b1 blen1 bcap1 z1 s2 r2_ f2 a2 len2 cap2 z2 a3 W w1 wb1 w2 hF).mono fun e W' ⟨he,bel⟩=>?_
 subst he;exact ⟨_,rfl,_,_,_,[],_,[],hW',trodAll_mk1 (shut_bool Tryz.underlying4 _),(trodAll_cons_mk (Below.trod laidOut (by kernel_rfl) (of_decide_eq_true (by kernel_rfl)) k0 bel lt0) (trodAll_cons_mk (Below.trod laidOut (by kernel_rfl) (of_decide_eq_true (by kernel_rfl)) k1 bel lt1) (trodAll_cons_mk (Below.trod laidOut (by kernel_rfl) (of_decide_eq_true (by kernel_rfl)) k2 bel lt2) (trodAll_cons_mk (Below.trod laidOut (by kernel_rfl) (of_decide_eq_true (by kernel_rfl)) k3 bel lt3) trodAll_mk0)))),rfl,bel.frame _,fun h=>by cases h⟩
theorem over:Rows.hearExactRow.holds Tryz.pinned (OpenSpec.ofChange Rows.hearExactSpec) :=
 OpenClaim.holds_of_wide 3 Tryz.f3 rfl rfl rfl rfl rfl rfl rfl ⟨rfl,rfl,rfl,rfl,rfl⟩ rfl rfl rfl rfl rfl (by kernel_rfl) Tryz.func3 (by kernel_rfl)
  (of_decide_eq_true (by kernel_rfl)) (by unfold Func.isWrapper; first | (rw [if_pos (by decide +kernel)]; kernel_rfl) | (rw [if_neg (by decide +kernel)]; exact ⟨rfl,rfl⟩))
  (fun os started H enc _=>lifted os started H enc)
end Go.Proofs.YtabdnhkdoeibnaaGreatDoor.hearExact
namespace Go.Proofs.YtabdnhkdoeibnaaGreatDoor
theorem HearExactCard_proved:Rows.HearExactCardSaid :=
 Claim7.holds_tied_plain_at .later [] [.data] true (true, "bf45c33d29c31eac8b2c1f90ea947e6f2539caeb7520179ae3b7a48b8183ffd3") false hearExact.over (fun _ h=>by cases h) (by kernel_rfl) (fun _ h=>by cases h) hearExact_row_tie rfl ⟨rfl,rfl⟩ (by kernel_rfl) rfl
  (fun f fn hf hfn=>by
   obtain rfl:f=3:=Option.some.inj ((show Tryz.prog.funcNamed "volute/volutelaw19.HearExact" = some 3 by kernel_rfl).symm.trans hf) |>.symm
   obtain rfl:fn=Tryz.f3:=(Option.some.inj (Tryz.func3.symm.trans hfn)).symm
   exact ⟨by kernel_rfl,fun j t ht=>by
    rw [Tryz.params3] at ht
    have hm:t∈[23,29,31,4]:=by simpa using Array.mem_of_getElem? ht
    have hall:([23,29,31,4].all fun u=>!Tryz.prog.wantsStandIn u)=true:=by kernel_rfl
    exact (show Tryz.prog.wantsStandIn t=false by simpa using List.all_eq_true.1 hall t hm)⟩)
  (by kernel_rfl)
#print axioms HearExactCard_proved
end Go.Proofs.YtabdnhkdoeibnaaGreatDoor
