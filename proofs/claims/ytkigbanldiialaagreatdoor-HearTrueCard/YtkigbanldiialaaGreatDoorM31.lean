/-
  What pick.least answers.
-/
import Derived.Test.YtkigbanldiialaaGreatDoorM28
import Derived.Deep.LoopGhost
set_option maxRecDepth 100000
set_option maxHeartbeats 8000000
namespace Go.Proofs.YtkigbanldiialaaGreatDoor
open Go.RowKit
def Zgu:Option Nat→Int
 | none=>-1
 | some q=>(q:Int)
def Zbe (cs:List Int) (tk:List Nat) (F:Int) (i:Nat) (o:Option Nat):Prop :=
 (∀ j,j<i→j ∉ tk→at0 cs j≠F)∧match o with | none=>∀ j,j<i→j∈tk | some q=>q<i∧q ∉ tk∧∀ j,j<i→j ∉ tk→at0 cs q<at0 cs j∨(at0 cs q=at0 cs j∧q≤j)
theorem Zbe.start (cs:List Int) (tk:List Nat) (F:Int):Zbe cs tk F 0 none:=⟨fun j h=>by omega,fun j h=>by omega⟩
theorem Zbe.skip {cs:List Int} {tk:List Nat} {F:Int} {i:Nat} {o:Option Nat} (h:Zbe cs tk F i o) (hi:i∈tk):Zbe cs tk F (i+1) o:=by
 have key:∀ j,j<i+1→j ∉ tk→j<i:=fun j hj hn=>by
  rcases Nat.lt_or_eq_of_le (Nat.lt_succ_iff.1 hj) with h | h
  ·exact h
  ·subst h; exact absurd hi hn
 refine ⟨fun j hj hn=>h.1 j (key j hj hn) hn,?_⟩
 cases o with
 | none =>
  intro j hj;rcases Nat.lt_or_eq_of_le (Nat.lt_succ_iff.1 hj) with h' | h'
  ·exact h.2 j h'
  ·subst h'; exact hi
 | some q=>exact ⟨by have:=h.2.1; omega,h.2.2.1,fun j hj hn=>h.2.2.2 j (key j hj hn) hn⟩
theorem Zbe.take {cs:List Int} {tk:List Nat} {F:Int} {i:Nat} {o:Option Nat} (h:Zbe cs tk F i o) (hi:i ∉ tk) (hF:at0 cs i≠F) (ho:∀ q,o=some q→at0 cs i<at0 cs q):Zbe cs tk F (i+1) (some i):=by
 refine ⟨fun j hj hn=>?_,by omega,hi,fun j hj hn=>?_⟩
 ·rcases Nat.lt_or_eq_of_le (Nat.lt_succ_iff.1 hj) with h' | h'
  ·exact h.1 j h' hn
  ·subst h'; exact hF
 ·rcases Nat.lt_or_eq_of_le (Nat.lt_succ_iff.1 hj) with h' | h'
  ·cases o with
   | none=>exact absurd (h.2 j h') hn
   | some q =>
    have h1:=ho q rfl;rcases h.2.2.2 j h' hn with h2 | h2
    ·exact .inl (by omega)
    ·exact .inl (by omega)
  ·subst h'; exact .inr ⟨rfl,Nat.le_refl _⟩
theorem Zbe.keep {cs:List Int} {tk:List Nat} {F:Int} {i q:Nat} (h:Zbe cs tk F i (some q)) (hF:at0 cs i≠F) (ho:¬ at0 cs i<at0 cs q):Zbe cs tk F (i+1) (some q):=by
 have hq:q<i:=h.2.1;refine ⟨fun j hj hn=>?_,by omega,h.2.2.1,fun j hj hn=>?_⟩
 ·rcases Nat.lt_or_eq_of_le (Nat.lt_succ_iff.1 hj) with h' | h'
  ·exact h.1 j h' hn
  ·subst h'; exact hF
 ·rcases Nat.lt_or_eq_of_le (Nat.lt_succ_iff.1 hj) with h' | h'
  ·exact h.2.2.2 j h' hn
  ·subst h';by_cases e:at0 cs q=at0 cs j
   ·exact .inr ⟨e,by omega⟩
   ·exact .inl (by omega)
theorem Zbe.found {cs:List Int} {tk:List Nat} {F:Int} {i:Nat} {o:Option Nat} (h:Zbe cs tk F i o) (hl:i<cs.length) (hi:i ∉ tk) (hF:at0 cs i=F) (hall:∀ j,j<cs.length→j ∉ tk→F≤at0 cs j):Best cs tk i:=by
 refine ⟨hl,hi,fun j hj hn=>?_⟩;have:=hall j hj hn;by_cases e:at0 cs i=at0 cs j
 ·refine .inr ⟨e,?_⟩;rcases Nat.lt_or_ge j i with h' | h'
  ·exact absurd (by rw [← e,hF]) (h.1 j h' hn)
  ·exact h'
 ·exact .inl (by omega)
theorem Zbe.done {cs:List Int} {tk:List Nat} {F:Int} {q:Nat} (h:Zbe cs tk F cs.length (some q)):Best cs tk q:=⟨h.2.1,h.2.2.1,h.2.2.2⟩
theorem ZfX:(Tryz.prog.info? 4).map (fun i=>(i.zero,i.size,i.bytes))=some (some (.bool false),1,1):=by kernel_rfl
theorem Zep {w:World} {g n z:Nat} {t:TypeId} {tk:List Nat} (h:w.rowIs g t n (fun j=>.bool (decide (j∈tk)))):(w.setCell ⟨g,z,none⟩ (.bool true)).rowIs g t n (fun j=>.bool (decide (j∈tk++[z]))):=by
 refine (h.set z (.bool true)).congr fun j _=>?_
 show (if j=z then Value.bool true else .bool (decide (j∈tk)))=.bool (decide (j∈tk++[z]))
 by_cases e:j=z
 ·rw [if_pos e,decide_eq_true (by simp [e])]
 ·rw [if_neg e];by_cases hj:j∈tk
  ·rw [decide_eq_true hj,decide_eq_true (by simp [hj])]
  ·rw [decide_eq_false hj,decide_eq_false (by simp [hj,e])]
theorem ZbK {W:World} {base k size:Nat} {e:TypeId} {v:Value} {xs:List Value} (h:W.ownsRow base e size v k xs):∃ a c,v=.slice a k c:=by
 rcases h.2 with ⟨rfl,rfl⟩ | ⟨g,cap,cur,rfl,_⟩
 ·exact ⟨_,_,rfl⟩
 ·exact ⟨_,_,rfl⟩
theorem ZdQ {W:World} {base k size:Nat} {e:TypeId} {v:Value} {xs:List Value} (h:W.ownsRow base e size v k xs) {p:Addr} (hne:∀ g,v.ownBlock=some g→g≠p.block) (u:Value):(W.setCell p u).ownsRow base e size v k xs:=by
 refine ⟨h.1,?_⟩;rcases h.2 with h2 | ⟨g,cap,cur,hv,hg,hh,r⟩
 ·exact .inl h2
 ·exact .inr ⟨g,cap,cur,hv,hg,by rw [Below.heap_setCell _ _ _ _ (hne g (by rw [hv]; rfl))]; exact hh,r⟩
theorem ZaD {W:World} {base k size g n:Nat} {e t:TypeId} {v:Value} {xs:List Value} {f:Nat→Value} (h:W.ownsRow base e size v k xs) (hr:W.rowIs g t n f) (he:e≠t):∀ g',v.ownBlock=some g'→g'≠g:=by
 intro g' hg' e';subst e';obtain ⟨c,hb,_⟩:=hr;rcases h.2 with ⟨rfl,_⟩ | ⟨g,cap,cur,rfl,_,hh,_⟩
 ·simp [Value.ownBlock] at hg'
 ·simp only [Value.ownBlock,Option.some.injEq] at hg';subst hg';rw [hh] at hb;simp only [Option.some.injEq,Obj.cells.injEq] at hb;exact he hb.2.1
theorem least_some (b off cap n:Nat) (l:List Nd) (hn:l.length=n) (hpos:0<n) (hl:n≤1048576) (h0:∀ x∈l,0≤sc x) (B:Nat) (hB:1≤B) (hB2:B≤1048576) (w:World) (ha:Z8 w.heap.size w (.slice (some ⟨b,off,none⟩) n cap) l) :
  Calls Tryz.prog 100 #[.slice (some ⟨b,off,none⟩) n cap,.int .i64 (B:Int)] w fun e W'=>∃ r,e=.returned (.tuple #[r,.int .i64 (Zcz (Z0 l) B)])∧W'.ownsRow w.heap.size 3 1 r (min B n) ((nats ((ord (Z0 l)).take B)).map (Value.int .i64))∧Below w.heap.size w W':=by
 have hmk:=run_make_row' (P:=Tryz.prog) 165 4 (.bool false) 1 Tryz.underlying165 ZfX rfl .i64 .i64 n (by omega) (by omega);have HN:Hid (l.length=n):=hn
 have HCELL:Hid (∀ (W:World),Below w.heap.size w W→∀ (j:Nat) (y:Nd),l[j]? = some y→∃ p,Za .i64 w.heap.size W p y.2.2.2∧W.cell? ⟨b,off+j * 4,none⟩=some (.int .u32 y.1)∧W.cell? ⟨b,off+j * 4+1,none⟩=some (.int .i64 y.2.1)∧W.cell? ⟨b,off+j * 4+2,none⟩=some (.int .i64 y.2.2.1)∧W.cell? ⟨b,off+j * 4+3,none⟩=some p):=by
  intro W hW j y hy;obtain ⟨b',off',e,_,hc⟩:=Zbc (ha.below hW) hn hpos
  cases e
  exact hc j y hy
 have hblt:b<w.heap.size:=by
  obtain ⟨b',off',e,hb',_⟩:=Zbc ha hn hpos
  cases e
  exact hb'
 have hrow0:=World.rowIs_made w (.bool false) n 4;have b00:=(Below.refl w.heap.size w).alloc (Nat.le_refl _) (.cells (madeCells #[.bool false] n) 4);obtain ⟨cs,hcs⟩:∃ cs,Z0 l=cs:=⟨_,rfl⟩
 have HCS:Hid (cs.length=n):=by
  show cs.length=n
  rw [← hcs,ZaY,hn]
 have HAT:Hid (∀ (j:Nat) (x:Nd),l[j]? = some x→at0 cs j=sc x):=by
  intro j x hx;rw [← hcs];exact ZcA hx
 have H0:Hid (∀ j,j<cs.length→0≤at0 cs j):=by
  intro j hj;have hj':j<l.length:=by rw [HCS.out] at hj; omega
  rw [HAT.out j (l[j]) (by simp)];exact h0 _ (List.getElem_mem hj')
 rw [hcs];clear hn h0 ha hcs;go_enter Tryz.func100,Tryz.ntmps100;go_wp2;go_step3;go_wp2;go_step3;go_wp2;clear hmk;obtain ⟨W0,hW0⟩:∃ W,w.alloc (.cells (madeCells #[.bool false] n) 4)=W:=⟨_,rfl⟩;rw [hW0] at hrow0 b00 ⊢;clear hW0;go_loopg [4,7] B (fun gk s4 s7 wr=>∃ (k:Nat) (F:Int),k+gk=B∧k≤n∧s7=.int .i64 F∧wr.ownsRow w.heap.size 3 1 s4 k ((nats ((ord cs).take k)).map (Value.int .i64))∧(∀ j,j<cs.length→j ∉ (ord cs).take k→F≤at0 cs j)∧wr.rowIs w.heap.size 4 n (fun j=>.bool (decide (j∈(ord cs).take k)))∧Below w.heap.size w wr)
 case atStart=>exact ⟨0,0,by omega,Nat.zero_le _,rfl,by rw [List.take_zero]; exact World.ownsRow_nil _ _ _ _,fun j hj _=>H0.out j hj,hrow0.congr (fun j _=>by simp),b00⟩
 case round =>
  obtain ⟨k,F,hkB,hkn,rfl,ho,hF,hrow,bw⟩:=hrel;have hsz:=bw.size;obtain ⟨a4,c4,rfl⟩:=ZbK ho;obtain ⟨tk,htk⟩:∃ tk,(ord cs).take k=tk:=⟨_,rfl⟩;rw [htk] at ho hF hrow;have HTK:Hid ((ord cs).take k=tk):=htk;have HF:Hid (∀ j,j<cs.length→j ∉ tk→F≤at0 cs j):=hF;clear htk hF b00 hrow0;generalize hgk:gk=G at *;generalize hwr:wr=wo at *;clear hgk hwr gk wr;go_wp2;go_step3;go_wp2;go_step3;go_wp2;go_loopg [8,16] n (fun g s8 s16 wx=>∃ (i:Nat) (o:Option Nat),i+g=n∧s16=.int .i64 i∧s8=.int .i64 (Zgu o)∧Zbe cs tk F i o∧Below wo.heap.size wo wx)
  case atStart=>exact ⟨0,none,by omega,rfl,rfl,Zbe.start _ _ _,Below.refl _ _⟩
  case round =>
   obtain ⟨i,o,hig,rfl,rfl,hso,bx⟩:=hrel;have HSO:Hid (Zbe cs tk F i o):=hso;have hsx:=bx.size;clear hso
   cases gk with
   | zero =>
    obtain rfl:n=i:=by omega
    have hiz:¬ ((n:Int)<(n:Int)):=by omega
    cases o with
    | none =>
     rw [show Zgu none = -1 from rfl];have HNX:Hid ((ord cs)[k]? = none):=none_next (by rw [HTK.out,HCS.out]; exact HSO.out.2)
     have HKN:Hid (k=n):=by
      show k=n
      have:=List.getElem?_eq_none_iff.1 HNX.out;rw [Zcy,HCS.out] at this;omega
     have HCUT:Hid (Zcz cs B = -1):=cutOf_none (by
      have:=List.getElem?_eq_none_iff.1 HNX.out
      exact List.getElem?_eq_none_iff.2 (by omega))
     have HROW:=ZJ ho bx (Nat.le_refl _);go_wp2;rw [Exit.noGoto_ret];go_ret2;refine ⟨.slice a4 k c4,by rw [HCUT.out]; rfl,?_,bw.trans (bx.mono hsz)⟩;rw [← HTK.out,List.take_of_length_le (by rw [Zcy,HCS.out,HKN.out]; exact Nat.le_refl _)] at HROW;have hkn':=HKN.out;rw [List.take_of_length_le (by rw [Zcy,HCS.out]; omega),Nat.min_eq_right (by omega),← hkn'];exact HROW
    | some q =>
     rw [show Zgu (some q)=(q:Int) from rfl];have HB:Hid (Best cs tk q):=Zbe.done (by rw [HCS.out]; exact HSO.out);have BW:=bx;have HQ:Hid ((ord cs)[k]? = some q):=ZeW (by rw [HTK.out]; exact HB.out);have hqn:q<n:=by have:=HB.out.1; rw [HCS.out] at this; exact this
     have hq1:((q:Int) == (-1:Int))=false:=by rw [beq_eq_false_iff_ne]; omega
     obtain ⟨⟨sq,mq,cq,psq⟩,hxq⟩:∃ x,l[q]? = some x:=⟨l[q]'(by rw [HN.out]; exact hqn),by simp⟩;have HSQ:Hid (at0 cs q=cq):=HAT.out _ _ hxq;obtain ⟨pq,_,q0,q1,q2,q3⟩:=HCELL.out (wr) (bw.trans (BW.mono hsz)) q _ hxq;clear q0 q1 q3
     cases G with
     | zero =>
      have hkb:((k:Int) == (B:Int))=true:=by rw [beq_iff_eq]; omega
      have HCUT:Hid (Zcz cs B=cq):=by
       show Zcz cs B=cq
       rw [← HSQ.out,Zd5 (i:=q)];have:=HQ.out;rwa [show k=B by omega] at this
      have HROW:=ZJ ho BW (Nat.le_refl _);go_wp2;rw [Exit.noGoto_ret];go_ret2;refine ⟨.slice a4 k c4,by rw [HCUT.out]; rfl,?_,bw.trans (BW.mono hsz)⟩;have hkB':k=B:=by omega
      rw [← HTK.out] at HROW;rw [Nat.min_eq_left (by omega),← hkB'];exact HROW
     | succ g =>
      have hkb:((k:Int) == (B:Int))=false:=by rw [beq_eq_false_iff_ne]; omega
      have rowW:(wr).rowIs w.heap.size 4 n (fun j=>.bool (decide (j∈tk))):=hrow.of_block (BW.block _ hrow.lt);have t0:=rowW.cell hqn;have t1:=rowW.frozen q;rw [decide_eq_false HB.out.2.1] at t0;have hoW:=ZJ ho BW (Nat.le_refl _);have hoW1:=ZdQ hoW (p:=⟨w.heap.size,q,none⟩) (ZaD hoW rowW (by decide)) (.bool true);have rowW1:=Zep (z:=q) rowW
      have q2':((wr).setCell ⟨w.heap.size,q,none⟩ (.bool true)).cell? ⟨b,off+q * 4+2,none⟩=some (.int .i64 cq):=by
       rw [World.cell?_setCell_other _ _ _ _ (fun e=>by have h9:w.heap.size=b:=congrArg Addr.block e; omega)];exact q2
      have bW1:Below w.heap.size w ((wr).setCell ⟨w.heap.size,q,none⟩ (.bool true)):=(bw.trans (BW.mono hsz)).setCell (p:=⟨w.heap.size,q,none⟩) (Nat.le_refl _) _;obtain ⟨v5,w5,hr5,ho5,hg5⟩:=ZbP (.slice a4 k c4) k w.heap.size (nats tk) (q:Int) 52 _ hoW1 bW1.size (by omega);have b5:Below w.heap.size w w5:=(bW1.alloc bW1.size _).grown hg5 (by have:=bW1.size; simp only [World.size_alloc]; omega) (fun z e=>(hoW1.lt z e).1);have row5:w5.rowIs w.heap.size 4 n (fun j=>.bool (decide (j∈tk++[q]))):=(rowW1.alloc (.cells #[.int .i64 (q:Int)] 3)).of_block (hg5.block _ (rowW1.alloc _).lt (fun e=>ZaD hoW1 rowW1 (by decide) _ e.symm rfl));rw [show ((wr).setCell ⟨w.heap.size,q,none⟩ (.bool true)).heap.size=(wr).heap.size by simp [World.setCell]] at hr5
      try simp only [World.size_alloc] at hr5
      have HR5:Hid _:=hr5;clear hr5 hoW hoW1 rowW rowW1 hg5 bW1;go_wp2_with (at_builtin; refine Zd rfl _ _ 52 rfl _ _ rfl rfl _ _ HR5.out ?_);go_roundg g
      case measure=>omega
      case rel =>
       have e1:(ord cs).take (k+1)=tk++[q]:=by rw [ZeX HQ.out,HTK.out]
       refine ⟨k+1,cq,by omega,?_,rfl,?_,?_,?_,b5⟩
       ·have:=(List.getElem?_eq_some_iff.1 HQ.out).1;rw [Zcy,HCS.out] at this;omega
       ·rw [e1,Ze5]; exact ho5
       ·intro j hj hnj;rw [← HSQ.out];refine Zd4 HQ.out hj (fun hc=>hnj ?_);rw [e1,← HTK.out];exact List.mem_append.2 (.inl hc)
       ·rw [e1]; exact row5
   | succ g2 =>
    have hilt:(i:Int)<(n:Int):=by omega
    have hin:i<n:=by omega
    obtain ⟨⟨s,m,c,ps⟩,hxi⟩:∃ x,l[i]? = some x:=⟨l[i]'(by rw [HN.out]; exact hin),by simp⟩;have HSC:Hid (at0 cs i=c):=HAT.out _ _ hxi;obtain ⟨p,hp,c0,c1,c2,c3⟩:=HCELL.out wr (bw.trans (bx.mono hsz)) i _ hxi;obtain ⟨pa,pc,rfl⟩:=hp.shape;clear hp hxi;have rowA:(wr.alloc (.cells #[.int .u32 s,.int .i64 m,.int .i64 c,.slice pa ps.length pc] 122)).rowIs w.heap.size 4 n (fun j=>.bool (decide (j∈tk))):=(hrow.of_block (bx.block _ hrow.lt)).alloc _;have BW:Below wo.heap.size wo (wr.alloc (.cells #[.int .u32 s,.int .i64 m,.int .i64 c,.slice pa ps.length pc] 122)):=bx.alloc hsx _;have t9:=rowA.cell hin;by_cases hi:i∈tk
    ·rw [decide_eq_true hi] at t9;clear rowA;go_wp2;go_roundg g2
     case measure=>omega
     case rel=>exact ⟨i+1,o,by omega,by go_num,rfl,HSO.out.skip hi,BW⟩
    ·rw [decide_eq_false hi] at t9;clear rowA;by_cases hcF:c=F
     ·have hcb:(c == F)=true:=by simp [hcF]
      have HB:Hid (Best cs tk i):=HSO.out.found (by rw [HCS.out]; exact hin) hi (by rw [HSC.out]; exact hcF) HF.out;clear hcF;have HQ:Hid ((ord cs)[k]? = some i):=ZeW (by rw [HTK.out]; exact HB.out);have hqn:i<n:=by have:=HB.out.1; rw [HCS.out] at this; exact this
      have hq1:((i:Int) == (-1:Int))=false:=by rw [beq_eq_false_iff_ne]; omega
      obtain ⟨⟨sq,mq,cq,psq⟩,hxq⟩:∃ x,l[i]? = some x:=⟨l[i]'(by rw [HN.out]; exact hqn),by simp⟩;have HSQ:Hid (at0 cs i=cq):=HAT.out _ _ hxq;obtain ⟨pq,_,q0,q1,q2,q3⟩:=HCELL.out (wr.alloc (.cells #[.int .u32 s,.int .i64 m,.int .i64 c,.slice pa ps.length pc] 122)) (bw.trans (BW.mono hsz)) i _ hxq;clear q0 q1 q3
      cases G with
      | zero =>
       have hkb:((k:Int) == (B:Int))=true:=by rw [beq_iff_eq]; omega
       have HCUT:Hid (Zcz cs B=cq):=by
        show Zcz cs B=cq
        rw [← HSQ.out,Zd5 (i:=i)];have:=HQ.out;rwa [show k=B by omega] at this
       have HROW:=ZJ ho BW (Nat.le_refl _);go_wp2;rw [Exit.noGoto_ret];go_ret2;refine ⟨.slice a4 k c4,by rw [HCUT.out]; rfl,?_,bw.trans (BW.mono hsz)⟩;have hkB':k=B:=by omega
       rw [← HTK.out] at HROW;rw [Nat.min_eq_left (by omega),← hkB'];exact HROW
      | succ g =>
       have hkb:((k:Int) == (B:Int))=false:=by rw [beq_eq_false_iff_ne]; omega
       have rowW:(wr.alloc (.cells #[.int .u32 s,.int .i64 m,.int .i64 c,.slice pa ps.length pc] 122)).rowIs w.heap.size 4 n (fun j=>.bool (decide (j∈tk))):=hrow.of_block (BW.block _ hrow.lt);have t0:=rowW.cell hqn;have t1:=rowW.frozen i;rw [decide_eq_false HB.out.2.1] at t0;have hoW:=ZJ ho BW (Nat.le_refl _);have hoW1:=ZdQ hoW (p:=⟨w.heap.size,i,none⟩) (ZaD hoW rowW (by decide)) (.bool true);have rowW1:=Zep (z:=i) rowW
       have q2':((wr.alloc (.cells #[.int .u32 s,.int .i64 m,.int .i64 c,.slice pa ps.length pc] 122)).setCell ⟨w.heap.size,i,none⟩ (.bool true)).cell? ⟨b,off+i * 4+2,none⟩=some (.int .i64 cq):=by
        rw [World.cell?_setCell_other _ _ _ _ (fun e=>by have h9:w.heap.size=b:=congrArg Addr.block e; omega)];exact q2
       have bW1:Below w.heap.size w ((wr.alloc (.cells #[.int .u32 s,.int .i64 m,.int .i64 c,.slice pa ps.length pc] 122)).setCell ⟨w.heap.size,i,none⟩ (.bool true)):=(bw.trans (BW.mono hsz)).setCell (p:=⟨w.heap.size,i,none⟩) (Nat.le_refl _) _;obtain ⟨v5,w5,hr5,ho5,hg5⟩:=ZbP (.slice a4 k c4) k w.heap.size (nats tk) (i:Int) 52 _ hoW1 bW1.size (by omega);have b5:Below w.heap.size w w5:=(bW1.alloc bW1.size _).grown hg5 (by have:=bW1.size; simp only [World.size_alloc]; omega) (fun z e=>(hoW1.lt z e).1);have row5:w5.rowIs w.heap.size 4 n (fun j=>.bool (decide (j∈tk++[i]))):=(rowW1.alloc (.cells #[.int .i64 (i:Int)] 3)).of_block (hg5.block _ (rowW1.alloc _).lt (fun e=>ZaD hoW1 rowW1 (by decide) _ e.symm rfl));rw [show ((wr.alloc (.cells #[.int .u32 s,.int .i64 m,.int .i64 c,.slice pa ps.length pc] 122)).setCell ⟨w.heap.size,i,none⟩ (.bool true)).heap.size=(wr.alloc (.cells #[.int .u32 s,.int .i64 m,.int .i64 c,.slice pa ps.length pc] 122)).heap.size by simp [World.setCell]] at hr5
       try simp only [World.size_alloc] at hr5
       have HR5:Hid _:=hr5;clear hr5 hoW hoW1 rowW rowW1 hg5 bW1;go_wp2_with (at_builtin; refine Zd rfl _ _ 52 rfl _ _ rfl rfl _ _ HR5.out ?_);go_roundg g
       case measure=>omega
       case rel =>
        have e1:(ord cs).take (k+1)=tk++[i]:=by rw [ZeX HQ.out,HTK.out]
        refine ⟨k+1,cq,by omega,?_,rfl,?_,?_,?_,b5⟩
        ·have:=(List.getElem?_eq_some_iff.1 HQ.out).1;rw [Zcy,HCS.out] at this;omega
        ·rw [e1,Ze5]; exact ho5
        ·intro j hj hnj;rw [← HSQ.out];refine Zd4 HQ.out hj (fun hc=>hnj ?_);rw [e1,← HTK.out];exact List.mem_append.2 (.inl hc)
        ·rw [e1]; exact row5
     ·have hcb:(c == F)=false:=by simp [hcF]
      have HCF:Hid (at0 cs i≠F):=by
       show at0 cs i≠F
       rw [HSC.out]; exact hcF
      clear hcF;have HI:Hid (i ∉ tk):=hi;clear hi
      cases o with
      | none =>
       rw [show Zgu none = -1 from rfl];go_wp2;go_quiet (fail);go_wp2;go_roundg g2
       case measure=>omega
       case rel=>exact ⟨i+1,some i,by omega,by go_num,rfl,HSO.out.take HI.out HCF.out (fun q e=>by cases e),ZN BW nq⟩
      | some q =>
       rw [show Zgu (some q)=(q:Int) from rfl];have hqi:q<i:=HSO.out.2.1;have hqn:q<n:=by omega
       have hq1:((q:Int) == (-1:Int))=false:=by rw [beq_eq_false_iff_ne]; omega
       obtain ⟨⟨sq,mq,cq,psq⟩,hxq⟩:∃ x,l[q]? = some x:=⟨l[q]'(by rw [HN.out]; exact hqn),by simp⟩;have HSQ:Hid (at0 cs q=cq):=HAT.out _ _ hxq;obtain ⟨pq,_,q0,q1,q2,q3⟩:=HCELL.out (wr.alloc (.cells #[.int .u32 s,.int .i64 m,.int .i64 c,.slice pa ps.length pc] 122)) (bw.trans (BW.mono hsz)) q _ hxq;clear q0 q1 q3 hxq;by_cases hlt:c<cq
       ·have hd:decide (c<cq)=true:=decide_eq_true hlt
        have HLT:Hid (at0 cs i<at0 cs q):=by
         show at0 cs i<at0 cs q
         rw [HSC.out,HSQ.out]; omega
        clear hlt;go_wp2;go_quiet (fail);go_wp2;go_roundg g2
        case measure=>omega
        case rel=>exact ⟨i+1,some i,by omega,by go_num,rfl,HSO.out.take HI.out HCF.out (fun q' e=>by cases e; exact HLT.out),ZN BW nq⟩
       ·have hd:decide (c<cq)=false:=decide_eq_false hlt
        have HLT:Hid (at0 cs q≤at0 cs i):=by
         show at0 cs q≤at0 cs i
         rw [HSC.out,HSQ.out]; omega
        clear hlt;go_wp2;go_quiet (fail);go_wp2;go_roundg g2
        case measure=>omega
        case rel=>exact ⟨i+1,some q,by omega,by go_num,rfl,HSO.out.keep HCF.out (Int.not_lt.2 HLT.out),ZN BW nq⟩
theorem least_none (a:Option Addr) (cap B:Nat) (w:World) :
  Calls Tryz.prog 100 #[.slice a 0 cap,.int .i64 (B:Int)] w fun e W'=>e=.returned (.tuple #[.slice none 0 0,.int .i64 (-1)])∧Below w.heap.size w W':=by
 have hmk:=run_make_row' (P:=Tryz.prog) 165 4 (.bool false) 1 Tryz.underlying165 ZfX rfl .i64 .i64 0 (by omega) (by omega);rw [show ((0:Nat):Int)=0 from rfl] at hmk;have b00:=(Below.refl w.heap.size w).alloc (Nat.le_refl _) (.cells (madeCells #[.bool false] 0) 4);go_enter Tryz.func100,Tryz.ntmps100;go_wp2;go_step3;go_wp2;go_step3;go_wp2;clear hmk;obtain ⟨W0,hW0⟩:∃ W,w.alloc (.cells (madeCells #[.bool false] 0) 4)=W:=⟨_,rfl⟩;rw [hW0] at b00 ⊢;clear hW0;go_loopg [4,7] 1 (fun gk s4 s7 wr=>s4=.slice none 0 0∧s7=.int .i64 0∧Below w.heap.size w wr)
 case atStart=>exact ⟨rfl,rfl,b00⟩
 case round =>
  obtain ⟨rfl,rfl,bw⟩:=hrel;clear b00;generalize hwr:wr=wo at *;clear hwr wr;go_wp2;go_step3;go_wp2;go_step3;go_wp2;go_loopg [8,16] 1 (fun g s8 s16 wx=>s16=.int .i64 0∧s8=.int .i64 (-1)∧Below w.heap.size w wx)
  case atStart=>exact ⟨rfl,rfl,bw⟩
  case round =>
   obtain ⟨rfl,rfl,bx⟩:=hrel;go_wp2;rw [Exit.noGoto_exit];go_wp2;rw [Exit.noGoto_ret];go_ret2;exact ⟨rfl,bx⟩
theorem least_ok (v:Value) (l:List Nd) (hl:l.length≤1048576) (h0:∀ x∈l,0≤sc x) (B:Nat) (hB:1≤B) (hB2:B≤1048576) (w:World) (ha:Z8 w.heap.size w v l) :
  Calls Tryz.prog 100 #[v,.int .i64 (B:Int)] w fun e W'=>∃ r,e=.returned (.tuple #[r,.int .i64 (Zcz (Z0 l) B)])∧W'.ownsRow w.heap.size 3 1 r (min B l.length) ((nats ((ord (Z0 l)).take B)).map (Value.int .i64))∧Below w.heap.size w W':=by
 obtain ⟨a,cap,rfl⟩:=ha.shape;rcases Nat.eq_zero_or_pos l.length with hz | hz
 ·obtain rfl:l=[]:=List.length_eq_zero_iff.1 hz;refine (least_none a cap B w).mono ?_;rintro e W' ⟨rfl,b⟩;refine ⟨.slice none 0 0,rfl,?_,b⟩
  have e1:(nats ((ord (Z0 [])).take B)).map (Value.int .i64)=[]:=by
   have:ord (Z0 [])=[]:=rfl;rw [this];simp [nats]
  rw [e1,show min B ([]:List Nd).length=0 by simp];exact World.ownsRow_nil _ _ _ _
 ·obtain ⟨b,off,rfl,_,_⟩:=Zbc ha rfl hz;exact least_some b off cap l.length l rfl hz hl h0 B hB hB2 w ha
theorem ZeR (v:Value) (l:List Nd) (hlen:l.length≤256) (hp:∀ x∈l,x.2.2.2.length≤4294967296) (B:Nat) (h1:1≤B) (h2:B≤16) (h0:∀ x∈l,0≤sc x) (w:World) (ha:Z8 w.heap.size w v l) :
  Calls Tryz.prog 88 #[v,.int .i64 (B:Int)] w fun e W'=>∃ r,e=.returned (.tuple #[r,.int .i64 (cutK sc B l),.int .i64 0])∧Zaq w.heap.size W' r (Zax B l)∧Below w.heap.size w W':=by
 have d1:decide ((B:Int)<1)=false:=decide_eq_false (by omega);have d2:decide (16<(B:Int))=false:=decide_eq_false (by omega);have HC:=fun (a:Option Addr) (cap:Nat) (hv:v=.slice a l.length cap)=>containsBelow_any a cap l.length l rfl (by omega) w (hv▸ha)
 have HL:=fun (w1:World) (b1:Below w.heap.size w w1)=>least_ok v l (by omega) h0 B h1 (by omega) w1 (ha.next b1)
 rw [ZdL h0] at HC;have HK:Hid (Zax B l=ZaH l ((ord (Z0 l)).take B)):=kept_ord B l
 have HKL:Hid (((ord (Z0 l)).take B).length=min B l.length):=by
  show ((ord (Z0 l)).take B).length=min B l.length
  rw [List.length_take,Zcy,ZaY]
 have HKM:Hid (∀ i∈(ord (Z0 l)).take B,i<l.length):=fun i hi=>by
  have:=ord_take_lt hi;rwa [ZaY] at this
 rw [cut_ord] at HL;obtain ⟨K,hK⟩:∃ K,(ord (Z0 l)).take B=K:=⟨_,rfl⟩;obtain ⟨C,hC⟩:∃ C,cutK sc B l=C:=⟨_,rfl⟩;rw [hK] at HK HKL HKM HL;rw [hC] at HL ⊢;rw [HK.out];clear hK hC HK;obtain ⟨a,cap,hv⟩:=ha.shape;have HC2:=HC a cap hv;subst hv;obtain ⟨n,hn⟩:∃ n,l.length=n:=⟨_,rfl⟩;rw [hn] at HC2 HL ha hlen HKL HKM ⊢;have HN:Hid (l.length=n):=hn;have HA:Hid (Z8 w.heap.size w (.slice a n cap) l):=ha;have HP:Hid (∀ x∈l,x.2.2.2.length≤4294967296):=hp;clear HC hn ha hp h0;obtain ⟨k0,hk0⟩:∃ k0,min B n=k0:=⟨_,rfl⟩;rw [hk0] at HL HKL;have hk16:k0≤16:=by omega
 clear hk0;go_enter Tryz.func88,Tryz.ntmps88;go_wp2_with fail;refine HC2.mono ?_;rintro e w1 ⟨rfl,b1⟩;go_wp2_with fail;refine (HL w1 b1).mono ?_;rintro e w2 ⟨r,rfl,or,b2⟩;obtain ⟨pa,pc,rfl⟩:=ZbK or;have bw:=b1.trans (b2.mono b1.size);have HPL:Hid (Za .i64 w2.heap.size w2 (.slice pa k0 pc) (nats K)):=Zf or;clear HC2 HL b1 b2 or;go_wp2;go_loopw [4,31] (fun s4 s31 wr=>∃ (k:Nat) (r:List Rn),k≤k0∧s31=.int .i64 k∧wr.ownsRow w2.heap.size 122 4 s4 k (Zy r)∧ZH w2.heap.size wr r (ZaH l (K.take k))∧Below w2.heap.size w2 wr) (fun _ i _=>k0-(intOf i).toNat)
 case atStart=>exact ⟨0,[],Nat.zero_le _,rfl,World.ownsRow_nil _ _ _ _,by rw [List.take_zero]; exact Zen _ _,Below.refl _ _⟩
 case round =>
  obtain ⟨k,r,hk,rfl,ho,hr,bx⟩:=hrel;have hsz:=bw.size;have hsx:=bx.size;by_cases hlt:k<k0
  ·obtain ⟨i,hi⟩:∃ i,K[k]? = some i:=⟨K[k]'(by rw [HKL.out]; exact hlt),by simp⟩;have hin:i<n:=HKM.out i (List.mem_of_getElem? hi);obtain ⟨⟨s,m,c,ps⟩,hxi⟩:∃ x,l[i]? = some x:=⟨l[i]'(by rw [HN.out]; exact hin),by simp⟩;obtain ⟨pb,poff,rfl,_,hpc⟩:=holds_at (HPL.out.below bx) (by rw [nats_len]; exact HKL.out) (by omega);have p0:=hpc k _ (nats_get hi);obtain ⟨b,off,rfl,_,hc⟩:=Zbc (HA.out.below (bw.trans (bx.mono hsz))) HN.out (by omega);obtain ⟨p,hp,c0,c1,c2,c3⟩:=hc _ _ hxi;obtain ⟨qa0,qc0,rfl⟩:=hp.shape;have hpl:ps.length≤4294967296:=HP.out _ (List.mem_of_getElem? hxi)
   have HK1:Hid (ZaH l (K.take (k+1))=ZaH l (K.take k)++[(s,m,c,ps)]):=by
    show ZaH l (K.take (k+1))=ZaH l (K.take k)++[(s,m,c,ps)]
    rw [List.take_add_one,hi];unfold ZaH;rw [List.map_append];simp [hxi]
   clear hpc hc hi hxi;go_wp2_with fail;refine (clone_node s m c qa0 qc0 w.heap.size ps hpl wr (by omega) hp).mono ?_;rintro e w3 ⟨qa,qc,rfl,oq,b3⟩;have ho3:=ZJ ho b3 (Nat.le_refl _);obtain ⟨v4,w4,hr4,ho4,hg4⟩:=run_append_node _ k w2.heap.size r s m c (.slice qa ps.length qc) ⟨_,_,_,rfl⟩ 117 _ ho3 (Nat.le_trans hsx b3.size) (by omega)
   have own4:ZH w2.heap.size w4 (r++[(s,m,c,.slice qa ps.length qc)]) (ZaH l (K.take (k+1))):=by
    rw [HK1.out];have z1:=(hr.below b3 (Nat.le_refl _)).snoc (x:=(s,m,c,.slice qa ps.length qc)) (y:=(s,m,c,ps)) rfl rfl rfl oq hsx (fun u hu g hg=>hr.lt u hu g hg);exact (z1.below ((Below.refl _ _).alloc (Nat.le_refl _) _) (Nat.le_refl _)).kept (ho3.alloc _) hg4
   have b4:Below w2.heap.size w2 w4:=((bx.trans (b3.mono hsx)).alloc (Nat.le_trans hsx b3.size) _).grown hg4 (by have:=b3.size; simp only [World.size_alloc]; omega) (fun q e=>(ho.lt q e).1);have HR:Hid _:=hr4;clear hr4 ho3 oq ho hr b3 hg4 c0 c1 c2 c3 p0;go_wp2_with (at_builtin; refine Zd rfl _ _ 117 rfl _ _ rfl rfl _ _ HR.out ?_);exact ⟨⟨k+1,_,by omega,by go_num,ho4,own4,b4⟩,by simp [intOf]; omega⟩
  ·obtain rfl:k=k0:=by omega
   go_wp2;go_ret3;rw [List.take_of_length_le (by rw [HKL.out]; exact Nat.le_refl _)] at hr
   have hlen2:(ZaH l K).length=k:=by
    unfold ZaH;rw [List.length_map];exact HKL.out
   refine ⟨_,rfl,⟨r,by rw [hlen2]; exact Za3 ho hsz,hr.1,fun j x y hx hy=>?_,hr.2.2⟩,bw.trans (bx.mono hsz)⟩;obtain ⟨e1,e2,e3,e4⟩:=hr.2.1 j x y hx hy;exact ⟨e1,e2,e3,Za3 e4 hsz⟩
end Go.Proofs.YtkigbanldiialaaGreatDoor
