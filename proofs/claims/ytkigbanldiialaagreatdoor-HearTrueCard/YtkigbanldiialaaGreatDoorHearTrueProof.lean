/-
  HearTrue: of a block's own symbols, in whatever pieces, order and rounds, and how often, no other block is ever accepted; what is heard is a right one all the time; what was accepted stays; no further condition.
-/
import Derived.Test.YtkigbanldiialaaGreatDoorM40
import Derived.Below
import Derived.ChangeOld
import Derived.Laws.IdiomArrays
import Derived.SevenTiedAt
import Derived.ShutString
import Derived.Test.YtkigbanldiialaaGreatDoorCards
import Derived.Test.YtkigbanldiialaaGreatDoorTie
set_option maxRecDepth 100000
set_option maxHeartbeats 1000000
namespace Go.Proofs.YtkigbanldiialaaGreatDoor.hearTrue
open Go.ChangeShapes Go.WideShapes Go.ChangeAt Go.RowKit
set_option linter.unusedVariables false
theorem own:ownKnob Tryz.prog.godebug=none:=by kernel_rfl
theorem laidOut:laidOutB Tryz.prog=true:=by kernel_rfl
theorem cellsBlock:Tryz.prog.cellsOf 26=3:=by kernel_rfl
theorem door_met (os:Os) (args:Array Value):laidMetH Tryz.prog Rows.hearTrueRow.laid ((World.doorLaid Tryz.prog 400 os).forCall (fun _ _=>0) ⟨#[],args,[]⟩).memory :=
 laidMetH_of_parts3 (fuel:=8) (laidMet_of_run' 8 (by kernel_rfl) (by kernel_rfl)) (by kernel_rfl) (by kernel_rfl)
theorem lifted (os:Os) (started:os.Started) (H:Type) (enc:TypeId×Value→H) :
  ReturnsInHanded {} Tryz.checked os 3 .any (fun w args=>(Rows.hearTrueSpec.pre enc Tryz.prog Tryz.f3 Rows.hearTrueRow.domain false w args∧laidMetH Tryz.prog Rows.hearTrueRow.laid w)∧sizedMet enc Tryz.prog Tryz.f3 (OpenSpec.ofChange Rows.hearTrueSpec) false w args) (Rows.hearTrueSpec.post enc Tryz.prog Tryz.f3 false true false false):=by
 refine returnsInHanded_of_change_and (C:=Tryz.checked) (X:=fun w _=>laidMetH Tryz.prog Rows.hearTrueRow.laid w) (fun _ _ _ hh h=>h.of_heap hh) own started (by kernel_rfl) Tryz.func3
  (ChangeSpec.witness_shaped (enc:=enc) (C:=Tryz.checked) (os:=os) (X:=fun w _=>laidMetH Tryz.prog Rows.hearTrueRow.laid w) false (World.doorLaid Tryz.prog 400 os) #[.agg #[.int .i64 0,.int .i64 0,.int .i64 0,.int .i64 0,.int .i64 0,.int .i64 0,.int .i64 0,.int .i64 0,.int .i64 0,.int .i64 0],.agg #[.int .i64 0,.int .i64 0,.slice none 0 0],.slice none 0 0] 8 rfl (World.shaped_of_RefB (by kernel_rfl) (by kernel_rfl)) (by kernel_rfl) (by kernel_rfl) (by kernel_rfl) (door_met os _)) ?_
 intro W base args ds gs before hval0 hW hcnd _ hL _;have hp:(Rows.hearTrueRow.laid.filter fun x=>x.2.handleName?.isSome)=[]:=by kernel_rfl
 have hF:=firsts_of_laid hp (by simp [Rows.hearTrueRow]) hL;have hval:∀ (j:Nat) t v,Tryz.f3.params[j]? = some t→args[j]? = some v→Value.okWide Tryz.prog W .any base t v:=hval0;have hW':=hW;obtain ⟨p,q,hA0,hV,rfl,hfz,hnd⟩:=hW;have hA:DataW.TrodAll enc Tryz.prog W 0 (fun _=>true) true Tryz.f3.params.toList args.toList ds p:=hA0;rw [Tryz.params3] at hA hval;obtain ⟨v0,vs0,d0,ds0,pp0,qq0,hargs,rfl,rfl,h0,r0⟩:=trodAll_cons hA;obtain ⟨v1,vs1,d1,ds1,pp1,qq1,rfl,rfl,rfl,h1,r1⟩:=trodAll_cons r0;obtain ⟨v2,vs2,d2,ds2,pp2,qq2,rfl,rfl,rfl,h2,r2⟩:=trodAll_cons r1;obtain ⟨rfl,rfl,rfl⟩:=trodAll_nil r2;obtain rfl:args=#[v0,v1,v2]:=by cases args; simp_all
 obtain ⟨rfl,rfl⟩:=trodVars_none hV;have k0:=h0;have lt0:∀ x∈pp0,x.block<W.heap.size:=by obtain ⟨m,hm⟩:=k0; exact DataW.trod_lt m _ _ _ hm
 have k1:=h1;have lt1:∀ x∈pp1,x.block<W.heap.size:=by obtain ⟨m,hm⟩:=k1; exact DataW.trod_lt m _ _ _ hm
 have k2:=h2;have lt2:∀ x∈pp2,x.block<W.heap.size:=by obtain ⟨m,hm⟩:=k2; exact DataW.trod_lt m _ _ _ hm
 obtain ⟨c0,rfl⟩:=cfg_of_trod (hval 0 23 v0 rfl rfl) h0;obtain ⟨u0,u1,u2,y0,y1,y2,m,rfl,_,_,t0,t1,t2⟩:=Go.Joins.open_agg3 Tryz.underlying26 (by kernel_rfl) cellsBlock (hval 1 26 v1 rfl rfl) h1;obtain ⟨s1,e0,_,wn1⟩:=DataW.trod_int Tryz.underlying3 t0;obtain ⟨m1,e1,_,wp1⟩:=DataW.trod_int Tryz.underlying3 t1;simp only [List.cons.injEq,and_true] at e0 e1;subst e0 e1
 obtain ⟨a1,len1,cap1,z1,rfl,w1⟩:∃ a len cap zs,u2=.slice a len cap∧IsRow .u8 W a len cap zs:=by
  rcases open_ints Tryz.underlying24 Tryz.underlying5 (by kernel_rfl) t2 with ⟨hcs,_⟩ | ⟨x,l,c,zs,hcs,_,hl,hm,hz,_,hcell,hwz⟩
  ·simp only [List.cons.injEq,and_true] at hcs;exact ⟨_,_,_,[],hcs,.inl ⟨rfl,rfl,rfl,rfl⟩⟩
  ·simp only [List.cons.injEq,and_true] at hcs;exact ⟨_,_,_,zs,hcs,.inr ⟨_,rfl,hl,hm,by simpa using hz,hcell,hwz⟩⟩
 obtain ⟨a2,len2,cap2,rfl⟩:=okWide_slice Tryz.underlying27 (hval 2 27 v2 rfl rfl)
 obtain ⟨l2,w2⟩:∃ l,Zfr W.heap.size W a2 len2 l:=by
  obtain ⟨fuel,hf⟩:=h2;exact trips_of_trod (by simpa [Value.cells] using hf)
 clear hA0 hval0;refine (hearTrue_walk c0 s1 m1 a1 len1 cap1 z1 a2 len2 cap2 l2 W w1 w2 hF).mono fun e W' ⟨he,bel⟩=>?_
 subst he;exact ⟨_,rfl,_,_,_,[],_,[],hW',trodAll_mk1 (shut_bool Tryz.underlying4 _),(trodAll_cons_mk (Below.trod laidOut (by kernel_rfl) (of_decide_eq_true (by kernel_rfl)) k0 bel lt0) (trodAll_cons_mk (Below.trod laidOut (by kernel_rfl) (of_decide_eq_true (by kernel_rfl)) k1 bel lt1) (trodAll_cons_mk (Below.trod laidOut (by kernel_rfl) (of_decide_eq_true (by kernel_rfl)) k2 bel lt2) trodAll_mk0))),rfl,bel.frame _,fun h=>by cases h⟩
theorem over:Rows.hearTrueRow.holds Tryz.pinned (OpenSpec.ofChange Rows.hearTrueSpec) :=
 OpenClaim.holds_of_wide 3 Tryz.f3 rfl rfl rfl rfl rfl rfl rfl ⟨rfl,rfl,rfl,rfl,rfl⟩ rfl rfl rfl rfl rfl (by kernel_rfl) Tryz.func3 (by kernel_rfl)
  (of_decide_eq_true (by kernel_rfl)) (by unfold Func.isWrapper; first | (rw [if_pos (by decide +kernel)]; kernel_rfl) | (rw [if_neg (by decide +kernel)]; exact ⟨rfl,rfl⟩))
  (fun os started H enc _=>lifted os started H enc)
end Go.Proofs.YtkigbanldiialaaGreatDoor.hearTrue
namespace Go.Proofs.YtkigbanldiialaaGreatDoor
theorem HearTrueCard_proved:Rows.HearTrueCardSaid :=
 Claim7.holds_tied_plain_at .later [] [.data] true (true, "ceece9eb399a08abe06a82d6ef8ffd33b63e0bd4ef02996413745a48748ab0d1") false hearTrue.over (fun _ h=>by cases h) (by kernel_rfl) (fun _ h=>by cases h) hearTrue_row_tie rfl ⟨rfl,rfl⟩ (by kernel_rfl) rfl
  (fun f fn hf hfn=>by
   obtain rfl:f=3:=Option.some.inj ((show Tryz.prog.funcNamed "volute/volutelaw19.HearTrue" = some 3 by kernel_rfl).symm.trans hf) |>.symm
   obtain rfl:fn=Tryz.f3:=(Option.some.inj (Tryz.func3.symm.trans hfn)).symm
   exact ⟨by kernel_rfl,fun j t ht=>by
    rw [Tryz.params3] at ht
    have hm:t∈[23,26,27]:=by simpa using Array.mem_of_getElem? ht
    have hall:([23,26,27].all fun u=>!Tryz.prog.wantsStandIn u)=true:=by kernel_rfl
    exact (show Tryz.prog.wantsStandIn t=false by simpa using List.all_eq_true.1 hall t hm)⟩)
  (by kernel_rfl)
#print axioms HearTrueCard_proved
end Go.Proofs.YtkigbanldiialaaGreatDoor
