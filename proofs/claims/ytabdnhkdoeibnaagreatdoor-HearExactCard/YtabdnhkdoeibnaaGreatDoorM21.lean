/-
  What pick.least answers.
-/
import Derived.Test.YtabdnhkdoeibnaaGreatDoorM14
import Derived.Deep.LoopGhost
set_option maxRecDepth 100000
set_option maxHeartbeats 8000000
namespace Go.Proofs.YtabdnhkdoeibnaaGreatDoor
open Go.RowKit
def Zgm:Option Nat→Int
 | none=>-1
 | some q=>(q:Int)
def Zbx (cs:List Int) (tk:List Nat) (F:Int) (i:Nat) (o:Option Nat):Prop :=
 (∀ j,j<i→j ∉ tk→at0 cs j≠F)∧match o with | none=>∀ j,j<i→j∈tk | some q=>q<i∧q ∉ tk∧∀ j,j<i→j ∉ tk→at0 cs q<at0 cs j∨(at0 cs q=at0 cs j∧q≤j)
theorem Zbx.start (cs:List Int) (tk:List Nat) (F:Int):Zbx cs tk F 0 none:=⟨fun j h=>by omega,fun j h=>by omega⟩
theorem Zbx.skip {cs:List Int} {tk:List Nat} {F:Int} {i:Nat} {o:Option Nat} (h:Zbx cs tk F i o) (hi:i∈tk):Zbx cs tk F (i+1) o:=by
 have key:∀ j,j<i+1→j ∉ tk→j<i:=fun j hj hn=>by
  rcases Nat.lt_or_eq_of_le (Nat.lt_succ_iff.1 hj) with h | h
  ·exact h
  ·subst h; exact absurd hi hn
 refine ⟨fun j hj hn=>h.1 j (key j hj hn) hn,?_⟩
 cases o with
 | none =>
  intro j hj;rcases Nat.lt_or_eq_of_le (Nat.lt_succ_iff.1 hj) with h' | h'
  ·exact h.2 j h'
  ·subst h'; exact hi
 | some q=>exact ⟨by have:=h.2.1; omega,h.2.2.1,fun j hj hn=>h.2.2.2 j (key j hj hn) hn⟩
theorem Zbx.take {cs:List Int} {tk:List Nat} {F:Int} {i:Nat} {o:Option Nat} (h:Zbx cs tk F i o) (hi:i ∉ tk) (hF:at0 cs i≠F) (ho:∀ q,o=some q→at0 cs i<at0 cs q):Zbx cs tk F (i+1) (some i):=by
 refine ⟨fun j hj hn=>?_,by omega,hi,fun j hj hn=>?_⟩
 ·rcases Nat.lt_or_eq_of_le (Nat.lt_succ_iff.1 hj) with h' | h'
  ·exact h.1 j h' hn
  ·subst h'; exact hF
 ·rcases Nat.lt_or_eq_of_le (Nat.lt_succ_iff.1 hj) with h' | h'
  ·cases o with
   | none=>exact absurd (h.2 j h') hn
   | some q =>
    have h1:=ho q rfl;rcases h.2.2.2 j h' hn with h2 | h2
    ·exact .inl (by omega)
    ·exact .inl (by omega)
  ·subst h'; exact .inr ⟨rfl,Nat.le_refl _⟩
theorem Zbx.keep {cs:List Int} {tk:List Nat} {F:Int} {i q:Nat} (h:Zbx cs tk F i (some q)) (hF:at0 cs i≠F) (ho:¬ at0 cs i<at0 cs q):Zbx cs tk F (i+1) (some q):=by
 have hq:q<i:=h.2.1;refine ⟨fun j hj hn=>?_,by omega,h.2.2.1,fun j hj hn=>?_⟩
 ·rcases Nat.lt_or_eq_of_le (Nat.lt_succ_iff.1 hj) with h' | h'
  ·exact h.1 j h' hn
  ·subst h'; exact hF
 ·rcases Nat.lt_or_eq_of_le (Nat.lt_succ_iff.1 hj) with h' | h'
  ·exact h.2.2.2 j h' hn
  ·subst h';by_cases e:at0 cs q=at0 cs j
   ·exact .inr ⟨e,by omega⟩
   ·exact .inl (by omega)
theorem Zbx.found {cs:List Int} {tk:List Nat} {F:Int} {i:Nat} {o:Option Nat} (h:Zbx cs tk F i o) (hl:i<cs.length) (hi:i ∉ tk) (hF:at0 cs i=F) (hall:∀ j,j<cs.length→j ∉ tk→F≤at0 cs j):Best cs tk i:=by
 refine ⟨hl,hi,fun j hj hn=>?_⟩;have:=hall j hj hn;by_cases e:at0 cs i=at0 cs j
 ·refine .inr ⟨e,?_⟩;rcases Nat.lt_or_ge j i with h' | h'
  ·exact absurd (by rw [← e,hF]) (h.1 j h' hn)
  ·exact h'
 ·exact .inl (by omega)
theorem Zbx.done {cs:List Int} {tk:List Nat} {F:Int} {q:Nat} (h:Zbx cs tk F cs.length (some q)):Best cs tk q:=⟨h.2.1,h.2.2.1,h.2.2.2⟩
theorem Zep:(Tryz.prog.info? 4).map (fun i=>(i.zero,i.size,i.bytes))=some (some (.bool false),1,1):=by kernel_rfl
theorem ZdM {w:World} {g n z:Nat} {t:TypeId} {tk:List Nat} (h:w.rowIs g t n (fun j=>.bool (decide (j∈tk)))):(w.setCell ⟨g,z,none⟩ (.bool true)).rowIs g t n (fun j=>.bool (decide (j∈tk++[z]))):=by
 refine (h.set z (.bool true)).congr fun j _=>?_
 show (if j=z then Value.bool true else .bool (decide (j∈tk)))=.bool (decide (j∈tk++[z]))
 by_cases e:j=z
 ·rw [if_pos e,decide_eq_true (by simp [e])]
 ·rw [if_neg e];by_cases hj:j∈tk
  ·rw [decide_eq_true hj,decide_eq_true (by simp [hj])]
  ·rw [decide_eq_false hj,decide_eq_false (by simp [hj,e])]
theorem Zbk {W:World} {base k size:Nat} {e:TypeId} {v:Value} {xs:List Value} (h:W.ownsRow base e size v k xs):∃ a c,v=.slice a k c:=by
 rcases h.2 with ⟨rfl,rfl⟩ | ⟨g,cap,cur,rfl,_⟩
 ·exact ⟨_,_,rfl⟩
 ·exact ⟨_,_,rfl⟩
theorem Zb9 {W:World} {base k size:Nat} {e:TypeId} {v:Value} {xs:List Value} (h:W.ownsRow base e size v k xs) {p:Addr} (hne:∀ g,v.ownBlock=some g→g≠p.block) (u:Value):(W.setCell p u).ownsRow base e size v k xs:=by
 refine ⟨h.1,?_⟩;rcases h.2 with h2 | ⟨g,cap,cur,hv,hg,hh,r⟩
 ·exact .inl h2
 ·exact .inr ⟨g,cap,cur,hv,hg,by rw [Below.heap_setCell _ _ _ _ (hne g (by rw [hv]; rfl))]; exact hh,r⟩
theorem ZaC {W:World} {base k size g n:Nat} {e t:TypeId} {v:Value} {xs:List Value} {f:Nat→Value} (h:W.ownsRow base e size v k xs) (hr:W.rowIs g t n f) (he:e≠t):∀ g',v.ownBlock=some g'→g'≠g:=by
 intro g' hg' e';subst e';obtain ⟨c,hb,_⟩:=hr;rcases h.2 with ⟨rfl,_⟩ | ⟨g,cap,cur,rfl,_,hh,_⟩
 ·simp [Value.ownBlock] at hg'
 ·simp only [Value.ownBlock,Option.some.injEq] at hg';subst hg';rw [hh] at hb;simp only [Option.some.injEq,Obj.cells.injEq] at hb;exact he hb.2.1
theorem least_some (b off cap n:Nat) (l:List Nd) (hn:l.length=n) (hpos:0<n) (hl:n≤1048576) (h0:∀ x∈l,0≤sc x) (B:Nat) (hB:1≤B) (hB2:B≤1048576) (w:World) (ha:Zae w.heap.size w (.slice (some ⟨b,off,none⟩) n cap) l) :
  Calls Tryz.prog 130 #[.slice (some ⟨b,off,none⟩) n cap,.int .i64 (B:Int)] w fun e W'=>∃ r,e=.returned (.tuple #[r,.int .i64 (Zb5 (Z9 l) B)])∧W'.ownsRow w.heap.size 3 1 r (min B n) ((nats ((ord (Z9 l)).take B)).map (Value.int .i64))∧Below w.heap.size w W':=by
 have hmk:=run_make_row' (P:=Tryz.prog) 163 4 (.bool false) 1 Tryz.underlying163 Zep rfl .i64 .i64 n (by omega) (by omega);have HN:Hid (l.length=n):=hn
 have HCELL:Hid (∀ (W:World),Below w.heap.size w W→∀ (j:Nat) (y:Nd),l[j]? = some y→∃ p,Zb .i64 w.heap.size W p y.2.2.2∧W.cell? ⟨b,off+j * 4,none⟩=some (.int .u32 y.1)∧W.cell? ⟨b,off+j * 4+1,none⟩=some (.int .i64 y.2.1)∧W.cell? ⟨b,off+j * 4+2,none⟩=some (.int .i64 y.2.2.1)∧W.cell? ⟨b,off+j * 4+3,none⟩=some p):=by
  intro W hW j y hy;obtain ⟨b',off',e,_,hc⟩:=ZaA (ha.below hW) hn hpos
  cases e
  exact hc j y hy
 have hblt:b<w.heap.size:=by
  obtain ⟨b',off',e,hb',_⟩:=ZaA ha hn hpos
  cases e
  exact hb'
 have hrow0:=World.rowIs_made w (.bool false) n 4;have b00:=(Below.refl w.heap.size w).alloc (Nat.le_refl _) (.cells (madeCells #[.bool false] n) 4);obtain ⟨cs,hcs⟩:∃ cs,Z9 l=cs:=⟨_,rfl⟩
 have HCS:Hid (cs.length=n):=by
  show cs.length=n
  rw [← hcs,Zbj,hn]
 have HAT:Hid (∀ (j:Nat) (x:Nd),l[j]? = some x→at0 cs j=sc x):=by
  intro j x hx;rw [← hcs];exact ZcM hx
 have H0:Hid (∀ j,j<cs.length→0≤at0 cs j):=by
  intro j hj;have hj':j<l.length:=by rw [HCS.out] at hj; omega
  rw [HAT.out j (l[j]) (by simp)];exact h0 _ (List.getElem_mem hj')
 rw [hcs];clear hn h0 ha hcs;go_enter Tryz.func130,Tryz.ntmps130;go_wp2;go_step3;go_wp2;go_step3;go_wp2;clear hmk;obtain ⟨W0,hW0⟩:∃ W,w.alloc (.cells (madeCells #[.bool false] n) 4)=W:=⟨_,rfl⟩;rw [hW0] at hrow0 b00 ⊢;clear hW0;go_loopg [4,7] B (fun gk s4 s7 wr=>∃ (k:Nat) (F:Int),k+gk=B∧k≤n∧s7=.int .i64 F∧wr.ownsRow w.heap.size 3 1 s4 k ((nats ((ord cs).take k)).map (Value.int .i64))∧(∀ j,j<cs.length→j ∉ (ord cs).take k→F≤at0 cs j)∧wr.rowIs w.heap.size 4 n (fun j=>.bool (decide (j∈(ord cs).take k)))∧Below w.heap.size w wr)
 case atStart=>exact ⟨0,0,by omega,Nat.zero_le _,rfl,by rw [List.take_zero]; exact World.ownsRow_nil _ _ _ _,fun j hj _=>H0.out j hj,hrow0.congr (fun j _=>by simp),b00⟩
 case round =>
  obtain ⟨k,F,hkB,hkn,rfl,ho,hF,hrow,bw⟩:=hrel;have hsz:=bw.size;obtain ⟨a4,c4,rfl⟩:=Zbk ho;obtain ⟨tk,htk⟩:∃ tk,(ord cs).take k=tk:=⟨_,rfl⟩;rw [htk] at ho hF hrow;have HTK:Hid ((ord cs).take k=tk):=htk;have HF:Hid (∀ j,j<cs.length→j ∉ tk→F≤at0 cs j):=hF;clear htk hF b00 hrow0;generalize hgk:gk=G at *;generalize hwr:wr=wo at *;clear hgk hwr gk wr;go_wp2;go_step3;go_wp2;go_step3;go_wp2;go_loopg [8,16] n (fun g s8 s16 wx=>∃ (i:Nat) (o:Option Nat),i+g=n∧s16=.int .i64 i∧s8=.int .i64 (Zgm o)∧Zbx cs tk F i o∧Below wo.heap.size wo wx)
  case atStart=>exact ⟨0,none,by omega,rfl,rfl,Zbx.start _ _ _,Below.refl _ _⟩
  case round =>
   obtain ⟨i,o,hig,rfl,rfl,hso,bx⟩:=hrel;have HSO:Hid (Zbx cs tk F i o):=hso;have hsx:=bx.size;clear hso
   cases gk with
   | zero =>
    obtain rfl:n=i:=by omega
    have hiz:¬ ((n:Int)<(n:Int)):=by omega
    cases o with
    | none =>
     rw [show Zgm none = -1 from rfl];have HNX:Hid ((ord cs)[k]? = none):=ZgK (by rw [HTK.out,HCS.out]; exact HSO.out.2)
     have HKN:Hid (k=n):=by
      show k=n
      have:=List.getElem?_eq_none_iff.1 HNX.out;rw [Zbe,HCS.out] at this;omega
     have HCUT:Hid (Zb5 cs B = -1):=cutOf_none (by
      have:=List.getElem?_eq_none_iff.1 HNX.out
      exact List.getElem?_eq_none_iff.2 (by omega))
     have HROW:=ZL ho bx (Nat.le_refl _);go_wp2;rw [Exit.noGoto_ret];go_ret2;refine ⟨.slice a4 k c4,by rw [HCUT.out]; rfl,?_,bw.trans (bx.mono hsz)⟩;rw [← HTK.out,List.take_of_length_le (by rw [Zbe,HCS.out,HKN.out]; exact Nat.le_refl _)] at HROW;have hkn':=HKN.out;rw [List.take_of_length_le (by rw [Zbe,HCS.out]; omega),Nat.min_eq_right (by omega),← hkn'];exact HROW
    | some q =>
     rw [show Zgm (some q)=(q:Int) from rfl];have HB:Hid (Best cs tk q):=Zbx.done (by rw [HCS.out]; exact HSO.out);have BW:=bx;have HQ:Hid ((ord cs)[k]? = some q):=ZeI (by rw [HTK.out]; exact HB.out);have hqn:q<n:=by have:=HB.out.1; rw [HCS.out] at this; exact this
     have hq1:((q:Int) == (-1:Int))=false:=by rw [beq_eq_false_iff_ne]; omega
     obtain ⟨⟨sq,mq,cq,psq⟩,hxq⟩:∃ x,l[q]? = some x:=⟨l[q]'(by rw [HN.out]; exact hqn),by simp⟩;have HSQ:Hid (at0 cs q=cq):=HAT.out _ _ hxq;obtain ⟨pq,_,q0,q1,q2,q3⟩:=HCELL.out (wr) (bw.trans (BW.mono hsz)) q _ hxq;clear q0 q1 q3
     cases G with
     | zero =>
      have hkb:((k:Int) == (B:Int))=true:=by rw [beq_iff_eq]; omega
      have HCUT:Hid (Zb5 cs B=cq):=by
       show Zb5 cs B=cq
       rw [← HSQ.out,Zfx (i:=q)];have:=HQ.out;rwa [show k=B by omega] at this
      have HROW:=ZL ho BW (Nat.le_refl _);go_wp2;rw [Exit.noGoto_ret];go_ret2;refine ⟨.slice a4 k c4,by rw [HCUT.out]; rfl,?_,bw.trans (BW.mono hsz)⟩;have hkB':k=B:=by omega
      rw [← HTK.out] at HROW;rw [Nat.min_eq_left (by omega),← hkB'];exact HROW
     | succ g =>
      have hkb:((k:Int) == (B:Int))=false:=by rw [beq_eq_false_iff_ne]; omega
      have rowW:(wr).rowIs w.heap.size 4 n (fun j=>.bool (decide (j∈tk))):=hrow.of_block (BW.block _ hrow.lt);have t0:=rowW.cell hqn;have t1:=rowW.frozen q;rw [decide_eq_false HB.out.2.1] at t0;have hoW:=ZL ho BW (Nat.le_refl _);have hoW1:=Zb9 hoW (p:=⟨w.heap.size,q,none⟩) (ZaC hoW rowW (by decide)) (.bool true);have rowW1:=ZdM (z:=q) rowW
      have q2':((wr).setCell ⟨w.heap.size,q,none⟩ (.bool true)).cell? ⟨b,off+q * 4+2,none⟩=some (.int .i64 cq):=by
       rw [World.cell?_setCell_other _ _ _ _ (fun e=>by have h9:w.heap.size=b:=congrArg Addr.block e; omega)];exact q2
      have bW1:Below w.heap.size w ((wr).setCell ⟨w.heap.size,q,none⟩ (.bool true)):=(bw.trans (BW.mono hsz)).setCell (p:=⟨w.heap.size,q,none⟩) (Nat.le_refl _) _;obtain ⟨v5,w5,hr5,ho5,hg5⟩:=ZcY (.slice a4 k c4) k w.heap.size (nats tk) (q:Int) 74 _ hoW1 bW1.size (by omega);have b5:Below w.heap.size w w5:=(bW1.alloc bW1.size _).grown hg5 (by have:=bW1.size; simp only [World.size_alloc]; omega) (fun z e=>(hoW1.lt z e).1);have row5:w5.rowIs w.heap.size 4 n (fun j=>.bool (decide (j∈tk++[q]))):=(rowW1.alloc (.cells #[.int .i64 (q:Int)] 3)).of_block (hg5.block _ (rowW1.alloc _).lt (fun e=>ZaC hoW1 rowW1 (by decide) _ e.symm rfl));rw [show ((wr).setCell ⟨w.heap.size,q,none⟩ (.bool true)).heap.size=(wr).heap.size by simp [World.setCell]] at hr5
      try simp only [World.size_alloc] at hr5
      have HR5:Hid _:=hr5;clear hr5 hoW hoW1 rowW rowW1 hg5 bW1;go_wp2_with (at_builtin; refine Zc rfl _ _ 74 rfl _ _ rfl rfl _ _ HR5.out ?_);go_roundg g
      case measure=>omega
      case rel =>
       have e1:(ord cs).take (k+1)=tk++[q]:=by rw [ZeJ HQ.out,HTK.out]
       refine ⟨k+1,cq,by omega,?_,rfl,?_,?_,?_,b5⟩
       ·have:=(List.getElem?_eq_some_iff.1 HQ.out).1;rw [Zbe,HCS.out] at this;omega
       ·rw [e1,ZgI]; exact ho5
       ·intro j hj hnj;rw [← HSQ.out];refine Zfw HQ.out hj (fun hc=>hnj ?_);rw [e1,← HTK.out];exact List.mem_append.2 (.inl hc)
       ·rw [e1]; exact row5
   | succ g2 =>
    have hilt:(i:Int)<(n:Int):=by omega
    have hin:i<n:=by omega
    obtain ⟨⟨s,m,c,ps⟩,hxi⟩:∃ x,l[i]? = some x:=⟨l[i]'(by rw [HN.out]; exact hin),by simp⟩;have HSC:Hid (at0 cs i=c):=HAT.out _ _ hxi;obtain ⟨p,hp,c0,c1,c2,c3⟩:=HCELL.out wr (bw.trans (bx.mono hsz)) i _ hxi;obtain ⟨pa,pc,rfl⟩:=hp.shape;clear hp hxi;have rowA:(wr.alloc (.cells #[.int .u32 s,.int .i64 m,.int .i64 c,.slice pa ps.length pc] 103)).rowIs w.heap.size 4 n (fun j=>.bool (decide (j∈tk))):=(hrow.of_block (bx.block _ hrow.lt)).alloc _;have BW:Below wo.heap.size wo (wr.alloc (.cells #[.int .u32 s,.int .i64 m,.int .i64 c,.slice pa ps.length pc] 103)):=bx.alloc hsx _;have t9:=rowA.cell hin;by_cases hi:i∈tk
    ·rw [decide_eq_true hi] at t9;clear rowA;go_wp2;go_roundg g2
     case measure=>omega
     case rel=>exact ⟨i+1,o,by omega,by go_num,rfl,HSO.out.skip hi,BW⟩
    ·rw [decide_eq_false hi] at t9;clear rowA;by_cases hcF:c=F
     ·have hcb:(c == F)=true:=by simp [hcF]
      have HB:Hid (Best cs tk i):=HSO.out.found (by rw [HCS.out]; exact hin) hi (by rw [HSC.out]; exact hcF) HF.out;clear hcF;have HQ:Hid ((ord cs)[k]? = some i):=ZeI (by rw [HTK.out]; exact HB.out);have hqn:i<n:=by have:=HB.out.1; rw [HCS.out] at this; exact this
      have hq1:((i:Int) == (-1:Int))=false:=by rw [beq_eq_false_iff_ne]; omega
      obtain ⟨⟨sq,mq,cq,psq⟩,hxq⟩:∃ x,l[i]? = some x:=⟨l[i]'(by rw [HN.out]; exact hqn),by simp⟩;have HSQ:Hid (at0 cs i=cq):=HAT.out _ _ hxq;obtain ⟨pq,_,q0,q1,q2,q3⟩:=HCELL.out (wr.alloc (.cells #[.int .u32 s,.int .i64 m,.int .i64 c,.slice pa ps.length pc] 103)) (bw.trans (BW.mono hsz)) i _ hxq;clear q0 q1 q3
      cases G with
      | zero =>
       have hkb:((k:Int) == (B:Int))=true:=by rw [beq_iff_eq]; omega
       have HCUT:Hid (Zb5 cs B=cq):=by
        show Zb5 cs B=cq
        rw [← HSQ.out,Zfx (i:=i)];have:=HQ.out;rwa [show k=B by omega] at this
       have HROW:=ZL ho BW (Nat.le_refl _);go_wp2;rw [Exit.noGoto_ret];go_ret2;refine ⟨.slice a4 k c4,by rw [HCUT.out]; rfl,?_,bw.trans (BW.mono hsz)⟩;have hkB':k=B:=by omega
       rw [← HTK.out] at HROW;rw [Nat.min_eq_left (by omega),← hkB'];exact HROW
      | succ g =>
       have hkb:((k:Int) == (B:Int))=false:=by rw [beq_eq_false_iff_ne]; omega
       have rowW:(wr.alloc (.cells #[.int .u32 s,.int .i64 m,.int .i64 c,.slice pa ps.length pc] 103)).rowIs w.heap.size 4 n (fun j=>.bool (decide (j∈tk))):=hrow.of_block (BW.block _ hrow.lt);have t0:=rowW.cell hqn;have t1:=rowW.frozen i;rw [decide_eq_false HB.out.2.1] at t0;have hoW:=ZL ho BW (Nat.le_refl _);have hoW1:=Zb9 hoW (p:=⟨w.heap.size,i,none⟩) (ZaC hoW rowW (by decide)) (.bool true);have rowW1:=ZdM (z:=i) rowW
       have q2':((wr.alloc (.cells #[.int .u32 s,.int .i64 m,.int .i64 c,.slice pa ps.length pc] 103)).setCell ⟨w.heap.size,i,none⟩ (.bool true)).cell? ⟨b,off+i * 4+2,none⟩=some (.int .i64 cq):=by
        rw [World.cell?_setCell_other _ _ _ _ (fun e=>by have h9:w.heap.size=b:=congrArg Addr.block e; omega)];exact q2
       have bW1:Below w.heap.size w ((wr.alloc (.cells #[.int .u32 s,.int .i64 m,.int .i64 c,.slice pa ps.length pc] 103)).setCell ⟨w.heap.size,i,none⟩ (.bool true)):=(bw.trans (BW.mono hsz)).setCell (p:=⟨w.heap.size,i,none⟩) (Nat.le_refl _) _;obtain ⟨v5,w5,hr5,ho5,hg5⟩:=ZcY (.slice a4 k c4) k w.heap.size (nats tk) (i:Int) 74 _ hoW1 bW1.size (by omega);have b5:Below w.heap.size w w5:=(bW1.alloc bW1.size _).grown hg5 (by have:=bW1.size; simp only [World.size_alloc]; omega) (fun z e=>(hoW1.lt z e).1);have row5:w5.rowIs w.heap.size 4 n (fun j=>.bool (decide (j∈tk++[i]))):=(rowW1.alloc (.cells #[.int .i64 (i:Int)] 3)).of_block (hg5.block _ (rowW1.alloc _).lt (fun e=>ZaC hoW1 rowW1 (by decide) _ e.symm rfl));rw [show ((wr.alloc (.cells #[.int .u32 s,.int .i64 m,.int .i64 c,.slice pa ps.length pc] 103)).setCell ⟨w.heap.size,i,none⟩ (.bool true)).heap.size=(wr.alloc (.cells #[.int .u32 s,.int .i64 m,.int .i64 c,.slice pa ps.length pc] 103)).heap.size by simp [World.setCell]] at hr5
       try simp only [World.size_alloc] at hr5
       have HR5:Hid _:=hr5;clear hr5 hoW hoW1 rowW rowW1 hg5 bW1;go_wp2_with (at_builtin; refine Zc rfl _ _ 74 rfl _ _ rfl rfl _ _ HR5.out ?_);go_roundg g
       case measure=>omega
       case rel =>
        have e1:(ord cs).take (k+1)=tk++[i]:=by rw [ZeJ HQ.out,HTK.out]
        refine ⟨k+1,cq,by omega,?_,rfl,?_,?_,?_,b5⟩
        ·have:=(List.getElem?_eq_some_iff.1 HQ.out).1;rw [Zbe,HCS.out] at this;omega
        ·rw [e1,ZgI]; exact ho5
        ·intro j hj hnj;rw [← HSQ.out];refine Zfw HQ.out hj (fun hc=>hnj ?_);rw [e1,← HTK.out];exact List.mem_append.2 (.inl hc)
        ·rw [e1]; exact row5
     ·have hcb:(c == F)=false:=by simp [hcF]
      have HCF:Hid (at0 cs i≠F):=by
       show at0 cs i≠F
       rw [HSC.out]; exact hcF
      clear hcF;have HI:Hid (i ∉ tk):=hi;clear hi
      cases o with
      | none =>
       rw [show Zgm none = -1 from rfl];go_wp2;go_quiet (fail);go_wp2;go_roundg g2
       case measure=>omega
       case rel=>exact ⟨i+1,some i,by omega,by go_num,rfl,HSO.out.take HI.out HCF.out (fun q e=>by cases e),Zi BW nq⟩
      | some q =>
       rw [show Zgm (some q)=(q:Int) from rfl];have hqi:q<i:=HSO.out.2.1;have hqn:q<n:=by omega
       have hq1:((q:Int) == (-1:Int))=false:=by rw [beq_eq_false_iff_ne]; omega
       obtain ⟨⟨sq,mq,cq,psq⟩,hxq⟩:∃ x,l[q]? = some x:=⟨l[q]'(by rw [HN.out]; exact hqn),by simp⟩;have HSQ:Hid (at0 cs q=cq):=HAT.out _ _ hxq;obtain ⟨pq,_,q0,q1,q2,q3⟩:=HCELL.out (wr.alloc (.cells #[.int .u32 s,.int .i64 m,.int .i64 c,.slice pa ps.length pc] 103)) (bw.trans (BW.mono hsz)) q _ hxq;clear q0 q1 q3 hxq;by_cases hlt:c<cq
       ·have hd:decide (c<cq)=true:=decide_eq_true hlt
        have HLT:Hid (at0 cs i<at0 cs q):=by
         show at0 cs i<at0 cs q
         rw [HSC.out,HSQ.out]; omega
        clear hlt;go_wp2;go_quiet (fail);go_wp2;go_roundg g2
        case measure=>omega
        case rel=>exact ⟨i+1,some i,by omega,by go_num,rfl,HSO.out.take HI.out HCF.out (fun q' e=>by cases e; exact HLT.out),Zi BW nq⟩
       ·have hd:decide (c<cq)=false:=decide_eq_false hlt
        have HLT:Hid (at0 cs q≤at0 cs i):=by
         show at0 cs q≤at0 cs i
         rw [HSC.out,HSQ.out]; omega
        clear hlt;go_wp2;go_quiet (fail);go_wp2;go_roundg g2
        case measure=>omega
        case rel=>exact ⟨i+1,some q,by omega,by go_num,rfl,HSO.out.keep HCF.out (Int.not_lt.2 HLT.out),Zi BW nq⟩
theorem least_none (a:Option Addr) (cap B:Nat) (w:World) :
  Calls Tryz.prog 130 #[.slice a 0 cap,.int .i64 (B:Int)] w fun e W'=>e=.returned (.tuple #[.slice none 0 0,.int .i64 (-1)])∧Below w.heap.size w W':=by
 have hmk:=run_make_row' (P:=Tryz.prog) 163 4 (.bool false) 1 Tryz.underlying163 Zep rfl .i64 .i64 0 (by omega) (by omega);rw [show ((0:Nat):Int)=0 from rfl] at hmk;have b00:=(Below.refl w.heap.size w).alloc (Nat.le_refl _) (.cells (madeCells #[.bool false] 0) 4);go_enter Tryz.func130,Tryz.ntmps130;go_wp2;go_step3;go_wp2;go_step3;go_wp2;clear hmk;obtain ⟨W0,hW0⟩:∃ W,w.alloc (.cells (madeCells #[.bool false] 0) 4)=W:=⟨_,rfl⟩;rw [hW0] at b00 ⊢;clear hW0;go_loopg [4,7] 1 (fun gk s4 s7 wr=>s4=.slice none 0 0∧s7=.int .i64 0∧Below w.heap.size w wr)
 case atStart=>exact ⟨rfl,rfl,b00⟩
 case round =>
  obtain ⟨rfl,rfl,bw⟩:=hrel;clear b00;generalize hwr:wr=wo at *;clear hwr wr;go_wp2;go_step3;go_wp2;go_step3;go_wp2;go_loopg [8,16] 1 (fun g s8 s16 wx=>s16=.int .i64 0∧s8=.int .i64 (-1)∧Below w.heap.size w wx)
  case atStart=>exact ⟨rfl,rfl,bw⟩
  case round =>
   obtain ⟨rfl,rfl,bx⟩:=hrel;go_wp2;rw [Exit.noGoto_exit];go_wp2;rw [Exit.noGoto_ret];go_ret2;exact ⟨rfl,bx⟩
theorem least_ok (v:Value) (l:List Nd) (hl:l.length≤1048576) (h0:∀ x∈l,0≤sc x) (B:Nat) (hB:1≤B) (hB2:B≤1048576) (w:World) (ha:Zae w.heap.size w v l) :
  Calls Tryz.prog 130 #[v,.int .i64 (B:Int)] w fun e W'=>∃ r,e=.returned (.tuple #[r,.int .i64 (Zb5 (Z9 l) B)])∧W'.ownsRow w.heap.size 3 1 r (min B l.length) ((nats ((ord (Z9 l)).take B)).map (Value.int .i64))∧Below w.heap.size w W':=by
 obtain ⟨a,cap,rfl⟩:=ha.shape;rcases Nat.eq_zero_or_pos l.length with hz | hz
 ·obtain rfl:l=[]:=List.length_eq_zero_iff.1 hz;refine (least_none a cap B w).mono ?_;rintro e W' ⟨rfl,b⟩;refine ⟨.slice none 0 0,rfl,?_,b⟩
  have e1:(nats ((ord (Z9 [])).take B)).map (Value.int .i64)=[]:=by
   have:ord (Z9 [])=[]:=rfl;rw [this];simp [nats]
  rw [e1,show min B ([]:List Nd).length=0 by simp];exact World.ownsRow_nil _ _ _ _
 ·obtain ⟨b,off,rfl,_,_⟩:=ZaA ha rfl hz;exact least_some b off cap l.length l rfl hz hl h0 B hB hB2 w ha
theorem ZhG {cs:List Int} {tk:List Nat} {i:Nat} (hi:i∈tk) {z:Int}:(∃ j,j<i∧j ∉ tk∧at0 cs j=z)↔∃ j,j<i+1∧j ∉ tk∧at0 cs j=z:=by
 constructor
 ·rintro ⟨j,h1,h2,h3⟩;exact ⟨j,by omega,h2,h3⟩
 ·rintro ⟨j,h1,h2,h3⟩;rcases Nat.lt_or_eq_of_le (Nat.lt_succ_iff.1 h1) with h | h
  ·exact ⟨j,h,h2,h3⟩
  ·subst h; exact absurd hi h2
theorem ZcQ {cs:List Int} {tk:List Nat} {i:Nat} {c:Int} (hi:i ∉ tk) (hc:at0 cs i=c) {z:Int}:((∃ j,j<i∧j ∉ tk∧at0 cs j=z)∨z=c)↔∃ j,j<i+1∧j ∉ tk∧at0 cs j=z:=by
 constructor
 ·rintro (⟨j,h1,h2,h3⟩ | h)
  ·exact ⟨j,by omega,h2,h3⟩
  ·exact ⟨i,by omega,hi,by rw [hc,h]⟩
 ·rintro ⟨j,h1,h2,h3⟩;rcases Nat.lt_or_eq_of_le (Nat.lt_succ_iff.1 h1) with h | h
  ·exact .inl ⟨j,h,h2,h3⟩
  ·subst h; exact .inr (by rw [← h3,hc])
theorem refPick_some (b off cap n:Nat) (l:List Nd) (hn:l.length=n) (hpos:0<n) (hl:n≤1048576) (h0:∀ x∈l,0≤sc x) (hp:∀ x∈l,x.2.2.2.length≤4294967296) (B:Nat) (hB:1≤B) (hB2:B≤1048576) (w:World) (ha:Zae w.heap.size w (.slice (some ⟨b,off,none⟩) n cap) l) :
  Calls Tryz.prog 97 #[.slice (some ⟨b,off,none⟩) n cap,.int .i64 (B:Int)] w fun e W'=>∃ r,e=.returned (.tuple #[r,.int .i64 (Zb5 (Z9 l) B)])∧Zap w.heap.size W' r (Z5 l ((ord (Z9 l)).take B))∧Below w.heap.size w W':=by
 have hmk:=run_make_row' (P:=Tryz.prog) 163 4 (.bool false) 1 Tryz.underlying163 Zep rfl .i64 .i64 n (by omega) (by omega);have HN:Hid (l.length=n):=hn
 have HCELL:Hid (∀ (W:World),Below w.heap.size w W→∀ (j:Nat) (y:Nd),l[j]? = some y→∃ p,Zb .i64 w.heap.size W p y.2.2.2∧W.cell? ⟨b,off+j * 4,none⟩=some (.int .u32 y.1)∧W.cell? ⟨b,off+j * 4+1,none⟩=some (.int .i64 y.2.1)∧W.cell? ⟨b,off+j * 4+2,none⟩=some (.int .i64 y.2.2.1)∧W.cell? ⟨b,off+j * 4+3,none⟩=some p):=by
  intro W hW j y hy;obtain ⟨b',off',e,_,hc⟩:=ZaA (ha.below hW) hn hpos
  cases e
  exact hc j y hy
 have hblt:b<w.heap.size:=by
  obtain ⟨b',off',e,hb',_⟩:=ZaA ha hn hpos
  cases e
  exact hb'
 have hrow0:=World.rowIs_made w (.bool false) n 4;have b00:=(Below.refl w.heap.size w).alloc (Nat.le_refl _) (.cells (madeCells #[.bool false] n) 4);obtain ⟨cs,hcs⟩:∃ cs,Z9 l=cs:=⟨_,rfl⟩
 have HCS:Hid (cs.length=n):=by
  show cs.length=n
  rw [← hcs,Zbj,hn]
 have HAT:Hid (∀ (j:Nat) (x:Nd),l[j]? = some x→at0 cs j=sc x):=by
  intro j x hx;rw [← hcs];exact ZcM hx
 have H0:Hid (∀ j,j<cs.length→0≤at0 cs j):=by
  intro j hj;have hj':j<l.length:=by rw [HCS.out] at hj; omega
  rw [HAT.out j (l[j]) (by simp)];exact h0 _ (List.getElem_mem hj')
 have HP:Hid (∀ x∈l,x.2.2.2.length≤4294967296):=hp;rw [hcs];clear hn h0 ha hcs hp;go_enter Tryz.func97,Tryz.ntmps97;go_wp2;clear hmk;obtain ⟨W0,hW0⟩:∃ W,w.alloc (.cells (madeCells #[.bool false] n) 4)=W:=⟨_,rfl⟩;rw [hW0] at hrow0 b00 ⊢;clear hW0;go_loopg [7] B (fun gk s7 wr=>∃ (k:Nat) (r:List Rn),k+gk=B∧k≤n∧wr.ownsRow w.heap.size 103 4 s7 k (ZG r)∧Zbt w.heap.size wr r (Z5 l ((ord cs).take k))∧wr.rowIs w.heap.size 4 n (fun j=>.bool (decide (j∈(ord cs).take k)))∧Below w.heap.size w wr)
 case atStart=>exact ⟨0,[],by omega,Nat.zero_le _,World.ownsRow_nil _ _ _ _,by rw [List.take_zero]; exact Zdi _ _,hrow0.congr (fun j _=>by simp),b00⟩
 case round =>
  obtain ⟨k,r,hkB,hkn,ho,hr,hrow,bw⟩:=hrel;have hsz:=bw.size;obtain ⟨a7,c7,rfl⟩:=Zbk ho;obtain ⟨tk,htk⟩:∃ tk,(ord cs).take k=tk:=⟨_,rfl⟩;rw [htk] at hr hrow;have HTK:Hid ((ord cs).take k=tk):=htk
  have HTL:Hid (tk.length=k):=by
   show tk.length=k
   rw [← htk,List.length_take,Zbe,HCS.out];omega
  have HPL:Hid ((Z5 l tk).length=k):=by
   show (Z5 l tk).length=k
   unfold Z5;rw [List.length_map,HTL.out]
  have HPP:Hid (∀ y∈Z5 l tk,y.2.2.2.length≤4294967296):=by
   intro y hy;unfold Z5 at hy;obtain ⟨i,hi,e⟩:=List.mem_map.1 hy
   have hil:i<l.length:=by
    rw [← htk] at hi;have:=ZeH hi;rw [HCS.out] at this;rw [HN.out]; exact this
   rw [← e];simp [hil];exact HP.out _ (List.getElem_mem hil)
  clear htk b00 hrow0;generalize hgk:gk=G at *;generalize hwr:wr=wo at *;clear hgk hwr gk wr;by_cases hk1:k<B
  ·have d1:decide ((k:Int)<(B:Int))=true:=decide_eq_true (by omega);by_cases hk2:k<n
   ·have d2:decide ((k:Int)<(n:Int))=true:=decide_eq_true (by omega);obtain ⟨g,rfl⟩:∃ g,G=g+1:=⟨G-1,by omega⟩;go_wp2;go_loopg [8,9] n (fun g s8 s9 wx=>∃ (i:Nat) (o:Option Nat) (nd:Nat),i+g=n∧s9=.int .i64 i∧s8=.int .i64 (Zgm o)∧Zbx cs tk (-1) i o∧wx=wo.drewN nd)
    case atStart=>exact ⟨0,none,0,by omega,rfl,rfl,Zbx.start _ _ _,rfl⟩
    case round =>
     obtain ⟨i,o,nd,hig,rfl,rfl,hso,rfl⟩:=hrel;have HSO:Hid (Zbx cs tk (-1) i o):=hso;clear hso;have bx:Below wo.heap.size wo (wo.drewN nd):=Zi (Below.refl _ _) nd
     cases gk with
     | zero =>
      obtain rfl:n=i:=by omega
      have hiz:¬ ((n:Int)<(n:Int)):=by omega
      obtain ⟨q,rfl⟩:∃ q,o=some q:=by
       cases o with
       | some q=>exact ⟨q,rfl⟩
       | none =>
        have:=ZgK (cs:=cs) (n:=k) (by rw [HTK.out,HCS.out]; exact HSO.out.2);have:=List.getElem?_eq_none_iff.1 this;rw [Zbe,HCS.out] at this;omega
      rw [show Zgm (some q)=(q:Int) from rfl];have HB:Hid (Best cs tk q):=Zbx.done (by rw [HCS.out]; exact HSO.out);have HQ:Hid ((ord cs)[k]? = some q):=ZeI (by rw [HTK.out]; exact HB.out);have hqn:q<n:=by have:=HB.out.1; rw [HCS.out] at this; exact this
      obtain ⟨⟨sq,mq,cq,psq⟩,hxq⟩:∃ x,l[q]? = some x:=⟨l[q]'(by rw [HN.out]; exact hqn),by simp⟩;have HXQ:Hid (l[q]? = some (sq,mq,cq,psq)):=hxq;have rowW:(wo.drewN nd).rowIs w.heap.size 4 n (fun j=>.bool (decide (j∈tk))):=hrow;have hoW:(wo.drewN nd).ownsRow w.heap.size 103 4 (.slice a7 k c7) k (ZG r):=ho;have t0:=rowW.cell hqn;have t1:=rowW.frozen q;rw [decide_eq_false HB.out.2.1] at t0;have bW1:Below w.heap.size w ((wo.drewN nd).setCell ⟨w.heap.size,q,none⟩ (.bool true)):=(bw.trans (bx.mono hsz)).setCell (p:=⟨w.heap.size,q,none⟩) (Nat.le_refl _) _;have bW2:Below w.heap.size wo ((wo.drewN nd).setCell ⟨w.heap.size,q,none⟩ (.bool true)):=(bx.mono hsz).setCell (p:=⟨w.heap.size,q,none⟩) (Nat.le_refl _) _;have hoW1:=Zb9 hoW (p:=⟨w.heap.size,q,none⟩) (ZaC hoW rowW (by decide)) (.bool true);have rowW1:=ZdM (z:=q) rowW;obtain ⟨pq,hpq,q0,q1,q2,q3⟩:=HCELL.out _ bW1 q _ hxq;obtain ⟨qa,qc,rfl⟩:=hpq.shape;obtain ⟨v5,w5,hr5,ho5,hg5⟩:=ZaR (.slice a7 k c7) k w.heap.size r sq mq cq (.slice qa psq.length qc) ⟨_,_,_,rfl⟩ 98 _ hoW1 bW1.size (by omega);have b5:Below w.heap.size w w5:=(bW1.alloc bW1.size _).grown hg5 (by have:=bW1.size; simp only [World.size_alloc]; omega) (fun z e=>(hoW1.lt z e).1);have b51:Below w.heap.size ((wo.drewN nd).setCell ⟨w.heap.size,q,none⟩ (.bool true)) w5:=((Below.refl _ _).alloc bW1.size _).grown hg5 (by have:=bW1.size; simp only [World.size_alloc]; omega) (fun z e=>(hoW1.lt z e).1);have row5:w5.rowIs w.heap.size 4 n (fun j=>.bool (decide (j∈tk++[q]))):=(rowW1.alloc (.cells #[.int .u32 sq,.int .i64 mq,.int .i64 cq,.slice qa psq.length qc] 103)).of_block (hg5.block _ (rowW1.alloc _).lt (fun e=>ZaC hoW1 rowW1 (by decide) _ e.symm rfl))
      have hr6:Zbt w.heap.size w5 (r++[(sq,mq,cq,.slice qa psq.length qc)]) (Z5 l (tk++[q])):=by
       have e1:Z5 l (tk++[q])=Z5 l tk++[(sq,mq,cq,psq)]:=by
        unfold Z5;rw [List.map_append];simp [HXQ.out]
       rw [e1];exact (hr.below (bW2.trans b51)).snoc ⟨rfl,rfl,rfl,hpq.below b51⟩
      rw [show ((wo.drewN nd).setCell ⟨w.heap.size,q,none⟩ (.bool true)).heap.size=wo.heap.size by simp [World.setCell]] at hr5;have HR5:Hid _:=hr5;clear hr5 hoW hoW1 rowW rowW1 hg5 bW1 bW2 b51 hr ho hpq hxq;go_wp2_with (at_builtin; refine Zc rfl _ _ 98 rfl _ _ rfl rfl _ _ HR5.out ?_);go_roundg g
      case measure=>omega
      case rel =>
       have e1:(ord cs).take (k+1)=tk++[q]:=by rw [ZeJ HQ.out,HTK.out]
       exact ⟨k+1,_,by omega,by omega,ho5,by rw [e1]; exact hr6,by rw [e1]; exact row5,b5⟩
     | succ g2 =>
      have hilt:(i:Int)<(n:Int):=by omega
      have hin:i<n:=by omega
      obtain ⟨⟨s,m,c,ps⟩,hxi⟩:∃ x,l[i]? = some x:=⟨l[i]'(by rw [HN.out]; exact hin),by simp⟩;have HSC:Hid (at0 cs i=c):=HAT.out _ _ hxi
      have c2:∀ e,(wo.drewN e).cell? ⟨b,off+i * 4+2,none⟩=some (.int .i64 c):=fun e=>by
       obtain ⟨p,_,_,_,c2,_⟩:=HCELL.out wo bw i _ hxi;exact c2
      have HCF:Hid (at0 cs i≠-1):=by
       show at0 cs i≠-1
       have:=H0.out i (by rw [HCS.out]; exact hin);omega
      clear hxi;have t9:∀ e,(wo.drewN e).cell? ⟨w.heap.size,i,none⟩=some (.bool (decide (i∈tk))):=fun e=>hrow.cell hin
      by_cases hi:i∈tk
      ·rw [decide_eq_true hi] at t9;have HI:Hid (i∈tk):=hi;clear hi;go_wp2;go_quiet (fail);go_wp2;go_roundg g2
       case measure=>omega
       case rel=>exact ⟨i+1,o,nd+nq,by omega,by go_num,rfl,HSO.out.skip HI.out,by simp⟩
      ·rw [decide_eq_false hi] at t9;have HI:Hid (i ∉ tk):=hi;clear hi
       cases o with
       | none =>
        rw [show Zgm none = -1 from rfl];go_wp2;go_quiet (fail);go_wp2;go_roundg g2
        case measure=>omega
        case rel=>exact ⟨i+1,some i,nd+nq,by omega,by go_num,rfl,HSO.out.take HI.out HCF.out (fun q e=>by cases e),by simp⟩
       | some q =>
        rw [show Zgm (some q)=(q:Int) from rfl];have hqi:q<i:=HSO.out.2.1;have hqn:q<n:=by omega
        have hq1:decide ((q:Int)<0)=false:=decide_eq_false (by omega);obtain ⟨⟨sq,mq,cq,psq⟩,hxq⟩:∃ x,l[q]? = some x:=⟨l[q]'(by rw [HN.out]; exact hqn),by simp⟩;have HSQ:Hid (at0 cs q=cq):=HAT.out _ _ hxq
        have q2:∀ e,(wo.drewN e).cell? ⟨b,off+q * 4+2,none⟩=some (.int .i64 cq):=fun e=>by
         obtain ⟨p,_,_,_,c2,_⟩:=HCELL.out wo bw q _ hxq;exact c2
        clear hxq;by_cases hlt:c<cq
        ·have hd:decide (c<cq)=true:=decide_eq_true hlt
         have HLT:Hid (at0 cs i<at0 cs q):=by
          show at0 cs i<at0 cs q
          rw [HSC.out,HSQ.out]; exact hlt
         clear hlt;go_wp2;go_quiet (fail);go_wp2;go_roundg g2
         case measure=>omega
         case rel=>exact ⟨i+1,some i,nd+nq,by omega,by go_num,rfl,HSO.out.take HI.out HCF.out (fun q' e=>by cases e; exact HLT.out),by simp⟩
        ·have hd:decide (c<cq)=false:=decide_eq_false hlt
         have HLT:Hid (at0 cs q≤at0 cs i):=by
          show at0 cs q≤at0 cs i
          rw [HSC.out,HSQ.out]; omega
         clear hlt;go_wp2;go_quiet (fail);go_wp2;go_roundg g2
         case measure=>omega
         case rel=>exact ⟨i+1,some q,nd+nq,by omega,by go_num,rfl,HSO.out.keep HCF.out (Int.not_lt.2 HLT.out),by simp⟩
   ·have d2:decide ((k:Int)<(n:Int))=false:=decide_eq_false (by omega)
    have HTB:Hid (tk=(ord cs).take B):=by
     show tk=(ord cs).take B
     rw [← HTK.out];rcases Nat.lt_or_ge k B with h | h
     ·rw [List.take_of_length_le (by rw [Zbe,HCS.out]; omega),List.take_of_length_le (by rw [Zbe,HCS.out]; omega)]
     ·rw [show k=B by omega]
    go_wp2;go_loop [10,11] (fun s10 s11=>∃ (i:Nat) (c:Int),i≤n∧s11=.int .i64 i∧s10=.int .i64 c∧ZaP (fun z=>∃ j,j<i∧j ∉ tk∧at0 cs j=z) c) (fun _ i=>n-(intOf i).toNat)
    case atStart=>exact ⟨0,-1,Nat.zero_le _,rfl,rfl,.inl ⟨rfl,fun z ⟨j,hj,_⟩=>by omega⟩⟩
    case round =>
     obtain ⟨i,cu,hi,rfl,rfl,hle⟩:=hrel;have HLE:Hid (ZaP (fun z=>∃ j,j<i∧j ∉ tk∧at0 cs j=z) cu):=hle;clear hle;by_cases hlt:i<n
     ·obtain ⟨⟨s,m,c,ps⟩,hxi⟩:∃ x,l[i]? = some x:=⟨l[i]'(by rw [HN.out]; exact hlt),by simp⟩;have HSC:Hid (at0 cs i=c):=HAT.out _ _ hxi;obtain ⟨p,_,c0,c1,c2,c3⟩:=HCELL.out wo bw i _ hxi;have hc0:0≤c:=by rw [← HSC.out]; exact H0.out i (by rw [HCS.out]; exact hlt)
      have t9:=hrow.cell hlt;have HZ:Hid (∀ z,(∃ j,j<i∧j ∉ tk∧at0 cs j=z)→0≤z):=fun z ⟨j,hj,_,e⟩=>by rw [← e]; exact H0.out j (by rw [HCS.out]; omega)
      clear hxi c0 c1 c3;by_cases hit:i∈tk
      ·rw [decide_eq_true hit] at t9;have HIT:Hid (i∈tk):=hit;clear hit;go_wp2;go_round
       case rel=>exact ⟨i+1,cu,by omega,by go_num,rfl,HLE.out.congr fun z=>(ZhG HIT.out)⟩
       case measure=>simp [intOf]; omega
      ·rw [decide_eq_false hit] at t9;have HIT:Hid (i ∉ tk):=hit;clear hit;by_cases hneg:cu<0
       ·have d1:decide (cu<0)=true:=decide_eq_true hneg;go_wp2;go_round
        case rel=>exact ⟨i+1,c,by omega,by go_num,rfl,(HLE.out.more HZ.out (.inl hneg)).congr fun z=>ZcQ HIT.out HSC.out⟩
        case measure=>simp [intOf]; omega
       ·have d1:decide (cu<0)=false:=decide_eq_false hneg;by_cases hcc:c<cu
        ·have d2:decide (c<cu)=true:=decide_eq_true hcc;go_wp2;go_round
         case rel=>exact ⟨i+1,c,by omega,by go_num,rfl,(HLE.out.more HZ.out (.inr hcc)).congr fun z=>ZcQ HIT.out HSC.out⟩
         case measure=>simp [intOf]; omega
        ·have d2:decide (c<cu)=false:=decide_eq_false hcc;go_wp2;go_round
         case rel=>exact ⟨i+1,cu,by omega,by go_num,rfl,(HLE.out.same (by omega) (by omega)).congr fun z=>ZcQ HIT.out HSC.out⟩
         case measure=>simp [intOf]; omega
     ·obtain rfl:n=i:=by omega
      have HCU:Hid (Zb5 cs B=cu):=by
       show Zb5 cs B=cu
       refine ZaP.uniq (ZeK cs B) ?_;rw [← HTB.out,HCS.out];exact HLE.out
      have HT:=Zb6 (.slice a7 k c7) (Z5 l tk) (by rw [HPL.out]; omega) (fun y hy=>HPP.out y hy) wo ⟨r,ZaK ho,hr.mono bw.size⟩;clear hr ho;go_wp2_with fail;refine HT.mono ?_;rintro e w5 ⟨r5,rfl,o5,b5⟩;go_wp2;go_ret2;refine ⟨r5,by rw [HCU.out]; rfl,?_,bw.trans (b5.mono bw.size)⟩;rw [← HTB.out];obtain ⟨q,hq1,hq2⟩:=o5;exact ⟨q,Zaa hq1 bw.size,hq2.1,fun j x y hx hy=>by obtain ⟨e1,e2,e3,e4⟩:=hq2.2.1 j x y hx hy; exact ⟨e1,e2,e3,Zaa e4 bw.size⟩,hq2.2.2⟩
  ·have d1:decide ((k:Int)<(B:Int))=false:=decide_eq_false (by omega)
   have HTB:Hid (tk=(ord cs).take B):=by
    show tk=(ord cs).take B
    rw [← HTK.out];rcases Nat.lt_or_ge k B with h | h
    ·rw [List.take_of_length_le (by rw [Zbe,HCS.out]; omega),List.take_of_length_le (by rw [Zbe,HCS.out]; omega)]
    ·rw [show k=B by omega]
   go_wp2;go_loop [10,11] (fun s10 s11=>∃ (i:Nat) (c:Int),i≤n∧s11=.int .i64 i∧s10=.int .i64 c∧ZaP (fun z=>∃ j,j<i∧j ∉ tk∧at0 cs j=z) c) (fun _ i=>n-(intOf i).toNat)
   case atStart=>exact ⟨0,-1,Nat.zero_le _,rfl,rfl,.inl ⟨rfl,fun z ⟨j,hj,_⟩=>by omega⟩⟩
   case round =>
    obtain ⟨i,cu,hi,rfl,rfl,hle⟩:=hrel;have HLE:Hid (ZaP (fun z=>∃ j,j<i∧j ∉ tk∧at0 cs j=z) cu):=hle;clear hle;by_cases hlt:i<n
    ·obtain ⟨⟨s,m,c,ps⟩,hxi⟩:∃ x,l[i]? = some x:=⟨l[i]'(by rw [HN.out]; exact hlt),by simp⟩;have HSC:Hid (at0 cs i=c):=HAT.out _ _ hxi;obtain ⟨p,_,c0,c1,c2,c3⟩:=HCELL.out wo bw i _ hxi;have hc0:0≤c:=by rw [← HSC.out]; exact H0.out i (by rw [HCS.out]; exact hlt)
     have t9:=hrow.cell hlt;have HZ:Hid (∀ z,(∃ j,j<i∧j ∉ tk∧at0 cs j=z)→0≤z):=fun z ⟨j,hj,_,e⟩=>by rw [← e]; exact H0.out j (by rw [HCS.out]; omega)
     clear hxi c0 c1 c3;by_cases hit:i∈tk
     ·rw [decide_eq_true hit] at t9;have HIT:Hid (i∈tk):=hit;clear hit;go_wp2;go_round
      case rel=>exact ⟨i+1,cu,by omega,by go_num,rfl,HLE.out.congr fun z=>(ZhG HIT.out)⟩
      case measure=>simp [intOf]; omega
     ·rw [decide_eq_false hit] at t9;have HIT:Hid (i ∉ tk):=hit;clear hit;by_cases hneg:cu<0
      ·have d1:decide (cu<0)=true:=decide_eq_true hneg;go_wp2;go_round
       case rel=>exact ⟨i+1,c,by omega,by go_num,rfl,(HLE.out.more HZ.out (.inl hneg)).congr fun z=>ZcQ HIT.out HSC.out⟩
       case measure=>simp [intOf]; omega
      ·have d1:decide (cu<0)=false:=decide_eq_false hneg;by_cases hcc:c<cu
       ·have d2:decide (c<cu)=true:=decide_eq_true hcc;go_wp2;go_round
        case rel=>exact ⟨i+1,c,by omega,by go_num,rfl,(HLE.out.more HZ.out (.inr hcc)).congr fun z=>ZcQ HIT.out HSC.out⟩
        case measure=>simp [intOf]; omega
       ·have d2:decide (c<cu)=false:=decide_eq_false hcc;go_wp2;go_round
        case rel=>exact ⟨i+1,cu,by omega,by go_num,rfl,(HLE.out.same (by omega) (by omega)).congr fun z=>ZcQ HIT.out HSC.out⟩
        case measure=>simp [intOf]; omega
    ·obtain rfl:n=i:=by omega
     have HCU:Hid (Zb5 cs B=cu):=by
      show Zb5 cs B=cu
      refine ZaP.uniq (ZeK cs B) ?_;rw [← HTB.out,HCS.out];exact HLE.out
     have HT:=Zb6 (.slice a7 k c7) (Z5 l tk) (by rw [HPL.out]; omega) (fun y hy=>HPP.out y hy) wo ⟨r,ZaK ho,hr.mono bw.size⟩;clear hr ho;go_wp2_with fail;refine HT.mono ?_;rintro e w5 ⟨r5,rfl,o5,b5⟩;go_wp2;go_ret2;refine ⟨r5,by rw [HCU.out]; rfl,?_,bw.trans (b5.mono bw.size)⟩;rw [← HTB.out];obtain ⟨q,hq1,hq2⟩:=o5;exact ⟨q,Zaa hq1 bw.size,hq2.1,fun j x y hx hy=>by obtain ⟨e1,e2,e3,e4⟩:=hq2.2.1 j x y hx hy; exact ⟨e1,e2,e3,Zaa e4 bw.size⟩,hq2.2.2⟩
theorem refPick_none (a:Option Addr) (cap B:Nat) (hB:1≤B) (w:World) :
  Calls Tryz.prog 97 #[.slice a 0 cap,.int .i64 (B:Int)] w fun e W'=>∃ r,e=.returned (.tuple #[r,.int .i64 (-1)])∧Zap w.heap.size W' r []∧Below w.heap.size w W':=by
 have hmk:=run_make_row' (P:=Tryz.prog) 163 4 (.bool false) 1 Tryz.underlying163 Zep rfl .i64 .i64 0 (by omega) (by omega);rw [show ((0:Nat):Int)=0 from rfl] at hmk;have b00:=(Below.refl w.heap.size w).alloc (Nat.le_refl _) (.cells (madeCells #[.bool false] 0) 4);have d1:decide ((0:Int)<(B:Int))=true:=decide_eq_true (by omega);go_enter Tryz.func97,Tryz.ntmps97;go_wp2;clear hmk;obtain ⟨W0,hW0⟩:∃ W,w.alloc (.cells (madeCells #[.bool false] 0) 4)=W:=⟨_,rfl⟩;rw [hW0] at b00 ⊢;clear hW0;go_loopg [7] 1 (fun gk s7 wr=>s7=.slice none 0 0∧W0=wr)
 case atStart=>exact ⟨rfl,rfl⟩
 case round =>
  obtain ⟨rfl,rfl⟩:=hrel;go_wp2;go_loop [10,11] (fun s10 s11=>s10=.int .i64 (-1)∧s11=.int .i64 0) (fun _ _=>0)
  case atStart=>exact ⟨rfl,rfl⟩
  case round =>
   obtain ⟨rfl,rfl⟩:=hrel;go_wp2_with fail;refine (Zb6 (.slice none 0 0) [] (by simp) (fun y hy=>by simp at hy) _ (nodes_nil _ _)).mono ?_;rintro e w5 ⟨r5,rfl,o5,b5⟩;go_wp2;go_ret2;refine ⟨r5,rfl,?_,b00.trans (b5.mono b00.size)⟩;obtain ⟨q,hq1,hq2⟩:=o5;exact ⟨q,Zaa hq1 b00.size,hq2.1,fun j x y hx hy=>by simp at hy,hq2.2.2⟩
theorem refPick_ok (v:Value) (l:List Nd) (hl:l.length≤1048576) (h0:∀ x∈l,0≤sc x) (hp:∀ x∈l,x.2.2.2.length≤4294967296) (B:Nat) (hB:1≤B) (hB2:B≤1048576) (w:World) (ha:Zae w.heap.size w v l) :
  Calls Tryz.prog 97 #[v,.int .i64 (B:Int)] w fun e W'=>∃ r,e=.returned (.tuple #[r,.int .i64 (cutK sc B l)])∧Zap w.heap.size W' r (ZaZ B l)∧Below w.heap.size w W':=by
 obtain ⟨a,cap,rfl⟩:=ha.shape;rw [← Zh2,Zhu];rcases Nat.eq_zero_or_pos l.length with hz | hz
 ·obtain rfl:l=[]:=List.length_eq_zero_iff.1 hz;refine (refPick_none a cap B hB w).mono ?_;rintro e W' ⟨r,rfl,o,b⟩;refine ⟨r,rfl,?_,b⟩
  rw [show Z5 [] ((ord (Z9 [])).take B)=[] by
   have:ord (Z9 [])=[]:=rfl
   rw [this]
   simp [Z5]]
  exact o
 ·obtain ⟨b,off,rfl,_,_⟩:=ZaA ha rfl hz;exact refPick_some b off cap l.length l rfl hz hl h0 hp B hB hB2 w ha
theorem Zgn (v:Value) (l:List Nd) (hlen:l.length≤256) (hp:∀ x∈l,x.2.2.2.length≤4294967296) (B:Nat) (h1:1≤B) (h2:B≤16) (h0:∀ x∈l,0≤sc x) (w:World) (ha:Zae w.heap.size w v l) :
  Calls Tryz.prog 108 #[v,.int .i64 (B:Int)] w fun e W'=>∃ r,e=.returned (.tuple #[r,.int .i64 (cutK sc B l),.int .i64 0])∧Zap w.heap.size W' r (ZaZ B l)∧Below w.heap.size w W':=by
 have d1:decide ((B:Int)<1)=false:=decide_eq_false (by omega);have d2:decide (16<(B:Int))=false:=decide_eq_false (by omega);have HC:=fun (a:Option Addr) (cap:Nat) (hv:v=.slice a l.length cap)=>containsBelow_any a cap l.length l rfl (by omega) w (hv▸ha)
 have HL:=fun (w1:World) (b1:Below w.heap.size w w1)=>least_ok v l (by omega) h0 B h1 (by omega) w1 (ha.next b1)
 rw [ZeO h0] at HC;have HK:Hid (ZaZ B l=Z5 l ((ord (Z9 l)).take B)):=Zhu B l
 have HKL:Hid (((ord (Z9 l)).take B).length=min B l.length):=by
  show ((ord (Z9 l)).take B).length=min B l.length
  rw [List.length_take,Zbe,Zbj]
 have HKM:Hid (∀ i∈(ord (Z9 l)).take B,i<l.length):=fun i hi=>by
  have:=ZeH hi;rwa [Zbj] at this
 rw [Zh2] at HL;obtain ⟨K,hK⟩:∃ K,(ord (Z9 l)).take B=K:=⟨_,rfl⟩;obtain ⟨C,hC⟩:∃ C,cutK sc B l=C:=⟨_,rfl⟩;rw [hK] at HK HKL HKM HL;rw [hC] at HL ⊢;rw [HK.out];clear hK hC HK;obtain ⟨a,cap,hv⟩:=ha.shape;have HC2:=HC a cap hv;subst hv;obtain ⟨n,hn⟩:∃ n,l.length=n:=⟨_,rfl⟩;rw [hn] at HC2 HL ha hlen HKL HKM ⊢;have HN:Hid (l.length=n):=hn;have HA:Hid (Zae w.heap.size w (.slice a n cap) l):=ha;have HP:Hid (∀ x∈l,x.2.2.2.length≤4294967296):=hp;clear HC hn ha hp h0;obtain ⟨k0,hk0⟩:∃ k0,min B n=k0:=⟨_,rfl⟩;rw [hk0] at HL HKL;have hk16:k0≤16:=by omega
 clear hk0;go_enter Tryz.func108,Tryz.ntmps108;go_wp2_with fail;refine HC2.mono ?_;rintro e w1 ⟨rfl,b1⟩;go_wp2_with fail;refine (HL w1 b1).mono ?_;rintro e w2 ⟨r,rfl,or,b2⟩;obtain ⟨pa,pc,rfl⟩:=Zbk or;have bw:=b1.trans (b2.mono b1.size);have HPL:Hid (Zb .i64 w2.heap.size w2 (.slice pa k0 pc) (nats K)):=Zg or;clear HC2 HL b1 b2 or;go_wp2;go_loopw [4,31] (fun s4 s31 wr=>∃ (k:Nat) (r:List Rn),k≤k0∧s31=.int .i64 k∧wr.ownsRow w2.heap.size 103 4 s4 k (ZG r)∧ZQ w2.heap.size wr r (Z5 l (K.take k))∧Below w2.heap.size w2 wr) (fun _ i _=>k0-(intOf i).toNat)
 case atStart=>exact ⟨0,[],Nat.zero_le _,rfl,World.ownsRow_nil _ _ _ _,by rw [List.take_zero]; exact ZcN _ _,Below.refl _ _⟩
 case round =>
  obtain ⟨k,r,hk,rfl,ho,hr,bx⟩:=hrel;have hsz:=bw.size;have hsx:=bx.size;by_cases hlt:k<k0
  ·obtain ⟨i,hi⟩:∃ i,K[k]? = some i:=⟨K[k]'(by rw [HKL.out]; exact hlt),by simp⟩;have hin:i<n:=HKM.out i (List.mem_of_getElem? hi);obtain ⟨⟨s,m,c,ps⟩,hxi⟩:∃ x,l[i]? = some x:=⟨l[i]'(by rw [HN.out]; exact hin),by simp⟩;obtain ⟨pb,poff,rfl,_,hpc⟩:=Zgf (HPL.out.below bx) (by rw [nats_len]; exact HKL.out) (by omega);have p0:=hpc k _ (nats_get hi);obtain ⟨b,off,rfl,_,hc⟩:=ZaA (HA.out.below (bw.trans (bx.mono hsz))) HN.out (by omega);obtain ⟨p,hp,c0,c1,c2,c3⟩:=hc _ _ hxi;obtain ⟨qa0,qc0,rfl⟩:=hp.shape;have hpl:ps.length≤4294967296:=HP.out _ (List.mem_of_getElem? hxi)
   have HK1:Hid (Z5 l (K.take (k+1))=Z5 l (K.take k)++[(s,m,c,ps)]):=by
    show Z5 l (K.take (k+1))=Z5 l (K.take k)++[(s,m,c,ps)]
    rw [List.take_add_one,hi];unfold Z5;rw [List.map_append];simp [hxi]
   clear hpc hc hi hxi;go_wp2_with fail;refine (clone_node s m c qa0 qc0 w.heap.size ps hpl wr (by omega) hp).mono ?_;rintro e w3 ⟨qa,qc,rfl,oq,b3⟩;have ho3:=ZL ho b3 (Nat.le_refl _);obtain ⟨v4,w4,hr4,ho4,hg4⟩:=ZaR _ k w2.heap.size r s m c (.slice qa ps.length qc) ⟨_,_,_,rfl⟩ 98 _ ho3 (Nat.le_trans hsx b3.size) (by omega)
   have own4:ZQ w2.heap.size w4 (r++[(s,m,c,.slice qa ps.length qc)]) (Z5 l (K.take (k+1))):=by
    rw [HK1.out];have z1:=(hr.below b3 (Nat.le_refl _)).snoc (x:=(s,m,c,.slice qa ps.length qc)) (y:=(s,m,c,ps)) rfl rfl rfl oq hsx (fun u hu g hg=>hr.lt u hu g hg);exact (z1.below ((Below.refl _ _).alloc (Nat.le_refl _) _) (Nat.le_refl _)).kept (ho3.alloc _) hg4
   have b4:Below w2.heap.size w2 w4:=((bx.trans (b3.mono hsx)).alloc (Nat.le_trans hsx b3.size) _).grown hg4 (by have:=b3.size; simp only [World.size_alloc]; omega) (fun q e=>(ho.lt q e).1);have HR:Hid _:=hr4;clear hr4 ho3 oq ho hr b3 hg4 c0 c1 c2 c3 p0;go_wp2_with (at_builtin; refine Zc rfl _ _ 98 rfl _ _ rfl rfl _ _ HR.out ?_);exact ⟨⟨k+1,_,by omega,by go_num,ho4,own4,b4⟩,by simp [intOf]; omega⟩
  ·obtain rfl:k=k0:=by omega
   go_wp2;go_ret3;rw [List.take_of_length_le (by rw [HKL.out]; exact Nat.le_refl _)] at hr
   have hlen2:(Z5 l K).length=k:=by
    unfold Z5;rw [List.length_map];exact HKL.out
   refine ⟨_,rfl,⟨r,by rw [hlen2]; exact Zaa ho hsz,hr.1,fun j x y hx hy=>?_,hr.2.2⟩,bw.trans (bx.mono hsz)⟩;obtain ⟨e1,e2,e3,e4⟩:=hr.2.1 j x y hx hy;exact ⟨e1,e2,e3,Zaa e4 hsz⟩
end Go.Proofs.YtabdnhkdoeibnaaGreatDoor
