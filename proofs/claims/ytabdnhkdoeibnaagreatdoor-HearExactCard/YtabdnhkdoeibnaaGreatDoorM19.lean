/-
  The beam's numbers over a pile: its step, its cost, within their bounds. No program is spoken of.
-/
import Derived.Test.YtabdnhkdoeibnaaGreatDoorM11
import Derived.Test.YtabdnhkdoeibnaaGreatDoorM17
import Derived.Test.YtabdnhkdoeibnaaGreatDoorM18
set_option maxRecDepth 100000
set_option maxHeartbeats 4000000
namespace Go.Proofs.YtabdnhkdoeibnaaGreatDoor
def stB (s k:Int):Int:=((stepN s.toNat k.toNat:Nat):Int)
def coB (N:Nat) (l:List (Int×Int)) (j:Nat) (s:Int):Int:=((costN s.toNat (ofL N l j):Nat):Int)
theorem Zgk (s k:Nat):stB (s:Int) (k:Int)=((stepN s k:Nat):Int):=rfl
theorem Zgl (N:Nat) (l:List (Int×Int)) (j s:Nat):coB N l j (s:Int)=((costN s (ofL N l j):Nat):Int):=rfl
theorem Zbw (N:Nat) (l:List (Int×Int)):∀ (j:Nat) (s:Int),0≤coB N l j s:=fun j s=>by unfold coB; omega
theorem ZhD {N:Nat} {p:Int} {l:List (Int×Int)} (h:Zf (N:Int) p l) (j:Nat):ZaN (ofL N l j):=by
 intro x hx;unfold ofL at hx;obtain ⟨y,hy,rfl⟩:=List.mem_map.1 hx;obtain ⟨h1,h2,h3,h4⟩:=h.2.1 y ((List.mem_filter.1 hy).1);have hp:=h.1.2.2;have hN:=h.1.1
 have hlt:y.1.toNat / N<256:=by
  rw [Nat.div_lt_iff_lt_mul (by omega)];have hm:(N:Int) * p≤(N:Int) * 16:=Int.mul_le_mul_of_nonneg_left hp.2 (by omega);have:y.1<256 * N:=by omega
  omega
 refine ⟨Int.natCast_nonneg _,?_,h3,h4⟩;exact Int.ofNat_le.2 (Nat.le_of_lt_succ hlt)
theorem Zhf {N:Nat} {p:Int} {l:List (Int×Int)} (h:Zf (N:Int) p l) (j:Nat):(ofL N l j).length≤1024:=by
 have h1:=Zfs N l j;have h2:=Zag h;have h3:=h.1.prod;omega
theorem ZbG {N:Nat} {p:Int} {l:List (Int×Int)} (h:Zf (N:Int) p l) (j s:Nat):costN s (ofL N l j)≤8192:=by
 have h1:=Zeo (s:=s) (ZhD h j);have h2:=Zhf h j;omega
theorem coB_le {N:Nat} {p:Int} {l:List (Int×Int)} (h:Zf (N:Int) p l) (j:Nat) (s:Int):coB N l j s≤8192:=by
 have:=ZbG h j s.toNat;unfold coB;omega
end Go.Proofs.YtabdnhkdoeibnaaGreatDoor
namespace Go.Proofs.YtabdnhkdoeibnaaGreatDoor
open Go.RowKit
def Zfk (N:Nat) (l:List (Int×Int)) (a:Nat) (s:Int) (i:Nat) (m:Int) (k:Nat):Int:=minF ((ZaF.take k).map fun k=>lst stB (coB N l) N a (stB s k) (i+1) (m+coB N l i (stB s k)))
theorem ZgN {k:Nat} (h:k<16):ZaF[k]? = some (k:Int):=by
 unfold ZaF;rw [List.getElem?_map,List.getElem?_range h];rfl
theorem lstTo_next (N:Nat) (l:List (Int×Int)) (a:Nat) (s:Int) (i:Nat) (m:Int) {k:Nat} (h:k<16):Zfk N l a s i m (k+1)=Zat (Zfk N l a s i m k) (lst stB (coB N l) N a (stB s (k:Int)) (i+1) (m+coB N l i (stB s (k:Int)))):=by
 unfold Zfk;rw [List.take_add_one,ZgN h]
 show minF (((ZaF.take k)++[(k:Int)]).map _)=_
 rw [List.map_append,List.map_cons,List.map_nil,minF_snoc]
theorem lstTo_end (N:Nat) (l:List (Int×Int)) (a:Nat) (s:Int) (i:Nat) (m:Int) (hi:i≠N):Zfk N l a s i m 16=lst stB (coB N l) N (a+1) s i m:=by
 unfold Zfk;simp only [lst];rw [if_neg hi,List.take_of_length_le (by unfold ZaF; decide)]
theorem ZhE (N:Nat) (l:List (Int×Int)) {p:Int} (h:Zf (N:Int) p l):∀ (a:Nat) (s:Int) (i:Nat) (m:Int),0≤m→0≤lst stB (coB N l) N a s i m∧lst stB (coB N l) N a s i m≤m+8192 * (a:Int)
 | 0,s,i,m,hm=>by simp only [lst]; exact ⟨hm,by omega⟩
 | a+1,s,i,m,hm=>by
  simp only [lst]
  split
  ·exact ⟨hm,by omega⟩
  ·have each:∀ k:Int,0≤lst stB (coB N l) N a (stB s k) (i+1) (m+coB N l i (stB s k))∧lst stB (coB N l) N a (stB s k) (i+1) (m+coB N l i (stB s k))≤m+8192 * ((a+1:Nat):Int):=fun k=>by
    have h1:=Zbw N l i (stB s k)
    have h2:coB N l i (stB s k)≤8192:=by
     unfold coB;have:=ZbG h i (stB s k).toNat;omega
    have ih:=ZhE N l h a (stB s k) (i+1) (m+coB N l i (stB s k)) (by omega);omega
   obtain ⟨hm1,_⟩:=Zem (l:=ZaF.map fun k=>lst stB (coB N l) N a (stB s k) (i+1) (m+coB N l i (stB s k))) (fun x hx=>by obtain ⟨k,_,rfl⟩:=List.mem_map.1 hx; exact (each k).1) (by simp [Zgj]);obtain ⟨k,_,e⟩:=List.mem_map.1 hm1;rw [← e];exact each k
theorem refLeast_zero (v:Value) (s:Int) (i:Int) (m:Int) (w:World) :
  Calls Tryz.prog 96 #[v,.int .u32 s,.int .i64 i,.int .i64 m,.int .i64 0] w fun e w'=>e=.returned (.int .i64 m)∧∃ n,w'=w.drewN n:=by
 go_enter Tryz.func96,Tryz.ntmps96;go_wp2;go_ret;exact ⟨rfl,0,rfl⟩
theorem refLeast_end (a0:Option Addr) (n cap:Nat) (s:Int) (m a:Int) (ha:0<a) (w:World) :
  Calls Tryz.prog 96 #[.slice a0 n cap,.int .u32 s,.int .i64 (n:Int),.int .i64 m,.int .i64 a] w fun e w'=>e=.returned (.int .i64 m)∧∃ n,w'=w.drewN n:=by
 have ha0:(a == 0)=false:=by rw [beq_eq_false_iff_ne]; omega
 have hnn:((n:Int) == (n:Int))=true:=by simp
 go_enter Tryz.func96,Tryz.ntmps96;go_wp2;go_ret;exact ⟨rfl,0,rfl⟩
theorem refLeast_more (b off N cap:Nat) (l:List (Int×Int)) (p:Int) (hp:Zf (N:Int) p l) (n₀:Nat) (a:Nat) (ha:a≤2)
  (ih:∀ (s i:Nat) (m:Int),s<4294967296→i≤N→0≤m→m+8192 * (a:Int)≤1099511627776→∀ w:World,Segs n₀ w (.slice (some ⟨b,off,none⟩) N cap) (Za1 N l)→Calls Tryz.prog 96 #[.slice (some ⟨b,off,none⟩) N cap,.int .u32 (s:Int),.int .i64 (i:Int),.int .i64 m,.int .i64 (a:Int)] w fun e w'=>e=.returned (.int .i64 (lst stB (coB N l) N a (s:Int) i m))∧∃ n,w'=w.drewN n)
  (s i:Nat) (m:Int) (hs:s<4294967296) (hi:i<N) (hm0:0≤m) (hm1:m+8192 * ((a+1:Nat):Int)≤1099511627776) (w:World) (hS:Segs n₀ w (.slice (some ⟨b,off,none⟩) N cap) (Za1 N l)) :
  Calls Tryz.prog 96 #[.slice (some ⟨b,off,none⟩) N cap,.int .u32 (s:Int),.int .i64 (i:Int),.int .i64 m,.int .i64 ((a+1:Nat):Int)] w fun e w'=>e=.returned (.int .i64 (lst stB (coB N l) N (a+1) (s:Int) i m))∧∃ n,w'=w.drewN n:=by
 have hN2:N<65:=by have:=hp.1.2.1; omega
 obtain ⟨A,hA⟩:∃ A,a+1=A:=⟨_,rfl⟩;have eA:(A:Int)-1=(a:Int):=by omega
 have hA0:((A:Int) == 0)=false:=by rw [beq_eq_false_iff_ne]; omega
 have hiN:((i:Int) == (N:Int))=false:=by rw [beq_eq_false_iff_ne]; omega
 have HE:Hid (Zfk N l a (s:Int) i m 16=lst stB (coB N l) N A (s:Int) i m):=by
  show Zfk N l a (s:Int) i m 16=lst stB (coB N l) N A (s:Int) i m
  rw [← hA];exact lstTo_end N l a (s:Int) i m (by omega)
 rw [hA];have hAb:A≤3:=by omega
 obtain ⟨la,lc,cS,hSy⟩:=Zhb hS (Zco (l:=l) hi);have HIH:Hid (∀ (s i:Nat) (m:Int),s<4294967296→i≤N→0≤m→m+8192 * (a:Int)≤1099511627776→∀ w:World,Segs n₀ w (.slice (some ⟨b,off,none⟩) N cap) (Za1 N l)→Calls Tryz.prog 96 #[.slice (some ⟨b,off,none⟩) N cap,.int .u32 (s:Int),.int .i64 (i:Int),.int .i64 m,.int .i64 (a:Int)] w fun e w'=>e=.returned (.int .i64 (lst stB (coB N l) N a (s:Int) i m))∧∃ n,w'=w.drewN n):=ih;have HP:Hid (Zf (N:Int) p l):=hp;have HS:Hid (Segs n₀ w (.slice (some ⟨b,off,none⟩) N cap) (Za1 N l)):=hS;have HSY:Hid (Syms n₀ w (.slice la (ofL N l i).length lc) (ofL N l i)):=hSy;obtain ⟨ln,hln⟩:∃ ln,(ofL N l i).length=ln:=⟨_,rfl⟩;have HLN:Hid ((ofL N l i).length=ln):=hln;rw [hln] at cS;have hm2:m+8192 * (a:Int)+8192≤1099511627776:=by omega
 obtain ⟨I,hI⟩:∃ I,i+1=I:=⟨_,rfl⟩;have e1i:(i:Int)+1=(I:Int):=by omega
 have hIN:I≤N:=by omega
 have HI:Hid (i+1=I):=hI;clear ih hp hS hSy hln hA hm1 hI;have c1:∀ q,(w.drewN q).cell? ⟨b,off+i,none⟩=some (.slice la ln lc):=fun q=>cS
 clear cS;go_enter Tryz.func96,Tryz.ntmps96;go_wp2;go_loopw [11,12] (fun s11 s12 wr=>∃ k nd:Nat,k≤16∧s12=.int .i64 k∧s11=.int .i64 (Zfk N l a (s:Int) i m k)∧wr=w.drewN nd) (fun _ i _=>16-(intOf i).toNat)
 case atStart=>exact ⟨0,0,by omega,rfl,rfl,rfl⟩
 case round =>
  obtain ⟨k,nd,hk,rfl,rfl,rfl⟩:=hrel;by_cases hlt:k<16
  ·have hst:=ZbF s k;have HST:=ZeZ s k hs hlt (w.drewN nd);have hcb:=ZbG HP.out i (stepN s k);have HCO:=Ze0 (stepN s k) hst la lc (ofL N l i) (by have:=Zhf HP.out i; omega) (ZhD HP.out i) (w.drewN nd) n₀ HSY.out;have HNX:=lstTo_next N l a (s:Int) i m hlt;rw [Zgk,Zgl,HI.out] at HNX;rw [HLN.out] at HCO;obtain ⟨t,ht⟩:∃ t,stepN s k=t:=⟨_,rfl⟩;rw [ht] at hst HST hcb HCO HNX;obtain ⟨ct,hct⟩:∃ ct,costN t (ofL N l i)=ct:=⟨_,rfl⟩;rw [hct] at hcb HCO HNX;have HREC:=fun q=>HIH.out t I (m+(ct:Int)) hst hIN (by omega) (by omega) (w.drewN q) HS.out
   have hbd:=ZhE N l HP.out a (t:Int) I (m+(ct:Int)) (by omega);obtain ⟨x,hx⟩:∃ x,lst stB (coB N l) N a (t:Int) I (m+(ct:Int))=x:=⟨_,rfl⟩;rw [hx] at HREC HNX hbd;obtain ⟨hb0,hb1⟩:=hbd;obtain ⟨bv,hbv⟩:∃ bv,Zfk N l a (s:Int) i m k=bv:=⟨_,rfl⟩;rw [hbv] at HNX ⊢;have HNX':Hid (Zfk N l a (s:Int) i m (k+1)=Zat bv x):=HNX;clear HNX ht hct hx hbv;by_cases hneg:bv<0
   ·have d1:decide (bv<0)=true:=decide_eq_true hneg
    have HM:Hid (Zat bv x=x):=by
     show Zat bv x=x
     unfold Zat;rw [if_pos (.inl hneg)]
    clear hneg;go_wp2_with (first | (go_at_call 119; refine HST.mono ?_; rintro e wz ⟨rfl,rfl⟩) | (go_at_call 120; refine HCO.mono ?_; rintro e wz ⟨rfl,q1,rfl⟩; rw [World.drewN_drewN]) | (go_at_call 96; refine (HREC _).mono ?_; rintro e wz ⟨rfl,q2,rfl⟩; rw [World.drewN_drewN]));go_roundw
    case rel=>exact ⟨k+1,_,by omega,by go_num,by rw [HNX'.out,HM.out],rfl⟩
    case measure=>simp [intOf]; omega
   ·have d1:decide (bv<0)=false:=decide_eq_false hneg;by_cases hxb:x<bv
    ·have d2:decide (x<bv)=true:=decide_eq_true hxb
     have HM:Hid (Zat bv x=x):=by
      show Zat bv x=x
      unfold Zat;rw [if_pos (.inr hxb)]
     clear hneg hxb;go_wp2_with (first | (go_at_call 119; refine HST.mono ?_; rintro e wz ⟨rfl,rfl⟩) | (go_at_call 120; refine HCO.mono ?_; rintro e wz ⟨rfl,q1,rfl⟩; rw [World.drewN_drewN]) | (go_at_call 96; refine (HREC _).mono ?_; rintro e wz ⟨rfl,q2,rfl⟩; rw [World.drewN_drewN]));go_roundw
     case rel=>exact ⟨k+1,_,by omega,by go_num,by rw [HNX'.out,HM.out],rfl⟩
     case measure=>simp [intOf]; omega
    ·have d2:decide (x<bv)=false:=decide_eq_false hxb
     have HM:Hid (Zat bv x=bv):=by
      show Zat bv x=bv
      unfold Zat;rw [if_neg (by omega)]
     clear hneg hxb;go_wp2_with (first | (go_at_call 119; refine HST.mono ?_; rintro e wz ⟨rfl,rfl⟩) | (go_at_call 120; refine HCO.mono ?_; rintro e wz ⟨rfl,q1,rfl⟩; rw [World.drewN_drewN]) | (go_at_call 96; refine (HREC _).mono ?_; rintro e wz ⟨rfl,q2,rfl⟩; rw [World.drewN_drewN]));go_roundw
     case rel=>exact ⟨k+1,_,by omega,by go_num,by rw [HNX'.out,HM.out],rfl⟩
     case measure=>simp [intOf]; omega
  ·obtain rfl:k=16:=by omega
   rw [HE.out];go_wp2;go_ret;exact ⟨rfl,nd,rfl⟩
theorem Zd5 (b off N cap:Nat) (l:List (Int×Int)) (p:Int) (hp:Zf (N:Int) p l) (n₀:Nat):∀ (a:Nat),a≤3→∀ (s i:Nat) (m:Int),s<4294967296→i≤N→0≤m→m+8192 * (a:Int)≤1099511627776→∀ w:World,Segs n₀ w (.slice (some ⟨b,off,none⟩) N cap) (Za1 N l) →
  Calls Tryz.prog 96 #[.slice (some ⟨b,off,none⟩) N cap,.int .u32 (s:Int),.int .i64 (i:Int),.int .i64 m,.int .i64 (a:Int)] w fun e w'=>e=.returned (.int .i64 (lst stB (coB N l) N a (s:Int) i m))∧∃ n,w'=w.drewN n
 | 0,_,s,i,m,_,_,_,_,w,_=>refLeast_zero _ _ _ _ w
 | a+1,ha,s,i,m,hs,hi,hm0,hm1,w,hS=>by
  by_cases he:i=N
  ·subst he
   rw [show lst stB (coB i l) i (a+1) (s:Int) i m=m by simp [lst]]
   exact refLeast_end _ _ _ _ _ _ (by omega) w
  ·exact refLeast_more b off N cap l p hp n₀ a (by omega) (fun s i m h1 h2 h3 h4 w h5=>Zd5 b off N cap l p hp n₀ a (by omega) s i m h1 h2 h3 h4 w h5) s i m hs (by omega) hm0 hm1 w hS
end Go.Proofs.YtabdnhkdoeibnaaGreatDoor
namespace Go.Proofs.YtabdnhkdoeibnaaGreatDoor
open Go.ChangeShapes Go.WideShapes Go.ChangeAt Go.RowKit
theorem array10 {α:Type} {cs:Array α} (h:cs.size=10):∃ c0 c1 c2 c3 c4 c5 c6 c7 c8 c9,cs=#[c0,c1,c2,c3,c4,c5,c6,c7,c8,c9]:=by
 obtain ⟨l⟩:=cs
 match l,h with
 | [c0,c1,c2,c3,c4,c5,c6,c7,c8,c9],_=>exact ⟨c0,c1,c2,c3,c4,c5,c6,c7,c8,c9,rfl⟩
theorem cfg_of_trod {H:Type} {enc:TypeId×Value→H} {W:World} {base:Nat} {spare:Nat→Bool} {held:Bool} {r:Reach} {b0:Nat} {v:Value} {d:DataW H} {p:List MemPlace} (hv:Value.okWide Tryz.prog W r b0 23 v) (h:DataW.Trod enc Tryz.prog W base spare held 23 v d p):∃ c:Cfg,v=.agg #[.int .i64 c.cB,.int .i64 c.cBeam,.int .i64 c.cDepth,.int .i64 c.cWin,.int .i64 c.cQs,.int .i64 c.cQr,.int .i64 c.cBatch,.int .i64 c.cPass,.int .i64 c.cMsg,.int .i64 c.cSeqs]:=by
 have hC:Tryz.prog.cellsOf 23=10:=by kernel_rfl
 have hI:Tryz.prog.cellsOf 3=1:=by kernel_rfl
 obtain ⟨cs,rfl,hsz⟩:=okWide_struct Tryz.underlying23 hv;obtain ⟨c0,c1,c2,c3,c4,c5,c6,c7,c8,c9,rfl⟩:=array10 (hsz.trans hC);obtain ⟨fuel,hf⟩:=h;obtain ⟨xs,n,_,_,_,hlen,hg⟩:=DataW.trod_struct Tryz.underlying23 hf;have hl:xs.length=10:=hlen;have k0:DataW.trod enc Tryz.prog W base spare held n 3 (((Value.agg #[c0,c1,c2,c3,c4,c5,c6,c7,c8,c9]).cells.toList.drop 0).take (Tryz.prog.cellsOf 3))=xs[0]?:=hg 0 _ rfl;rw [List.getElem?_eq_getElem (show 0<xs.length by omega),show ((Value.agg #[c0,c1,c2,c3,c4,c5,c6,c7,c8,c9]).cells.toList.drop 0).take (Tryz.prog.cellsOf 3)=[c0] by rw [hI]; rfl] at k0;obtain ⟨n0,e0,_,_⟩:=DataW.trod_int Tryz.underlying3 k0;have k1:DataW.trod enc Tryz.prog W base spare held n 3 (((Value.agg #[c0,c1,c2,c3,c4,c5,c6,c7,c8,c9]).cells.toList.drop 1).take (Tryz.prog.cellsOf 3))=xs[1]?:=hg 1 _ rfl;rw [List.getElem?_eq_getElem (show 1<xs.length by omega),show ((Value.agg #[c0,c1,c2,c3,c4,c5,c6,c7,c8,c9]).cells.toList.drop 1).take (Tryz.prog.cellsOf 3)=[c1] by rw [hI]; rfl] at k1;obtain ⟨n1,e1,_,_⟩:=DataW.trod_int Tryz.underlying3 k1;have k2:DataW.trod enc Tryz.prog W base spare held n 3 (((Value.agg #[c0,c1,c2,c3,c4,c5,c6,c7,c8,c9]).cells.toList.drop 2).take (Tryz.prog.cellsOf 3))=xs[2]?:=hg 2 _ rfl;rw [List.getElem?_eq_getElem (show 2<xs.length by omega),show ((Value.agg #[c0,c1,c2,c3,c4,c5,c6,c7,c8,c9]).cells.toList.drop 2).take (Tryz.prog.cellsOf 3)=[c2] by rw [hI]; rfl] at k2;obtain ⟨n2,e2,_,_⟩:=DataW.trod_int Tryz.underlying3 k2;have k3:DataW.trod enc Tryz.prog W base spare held n 3 (((Value.agg #[c0,c1,c2,c3,c4,c5,c6,c7,c8,c9]).cells.toList.drop 3).take (Tryz.prog.cellsOf 3))=xs[3]?:=hg 3 _ rfl;rw [List.getElem?_eq_getElem (show 3<xs.length by omega),show ((Value.agg #[c0,c1,c2,c3,c4,c5,c6,c7,c8,c9]).cells.toList.drop 3).take (Tryz.prog.cellsOf 3)=[c3] by rw [hI]; rfl] at k3;obtain ⟨n3,e3,_,_⟩:=DataW.trod_int Tryz.underlying3 k3;have k4:DataW.trod enc Tryz.prog W base spare held n 3 (((Value.agg #[c0,c1,c2,c3,c4,c5,c6,c7,c8,c9]).cells.toList.drop 4).take (Tryz.prog.cellsOf 3))=xs[4]?:=hg 4 _ rfl;rw [List.getElem?_eq_getElem (show 4<xs.length by omega),show ((Value.agg #[c0,c1,c2,c3,c4,c5,c6,c7,c8,c9]).cells.toList.drop 4).take (Tryz.prog.cellsOf 3)=[c4] by rw [hI]; rfl] at k4;obtain ⟨n4,e4,_,_⟩:=DataW.trod_int Tryz.underlying3 k4;have k5:DataW.trod enc Tryz.prog W base spare held n 3 (((Value.agg #[c0,c1,c2,c3,c4,c5,c6,c7,c8,c9]).cells.toList.drop 5).take (Tryz.prog.cellsOf 3))=xs[5]?:=hg 5 _ rfl;rw [List.getElem?_eq_getElem (show 5<xs.length by omega),show ((Value.agg #[c0,c1,c2,c3,c4,c5,c6,c7,c8,c9]).cells.toList.drop 5).take (Tryz.prog.cellsOf 3)=[c5] by rw [hI]; rfl] at k5;obtain ⟨n5,e5,_,_⟩:=DataW.trod_int Tryz.underlying3 k5;have k6:DataW.trod enc Tryz.prog W base spare held n 3 (((Value.agg #[c0,c1,c2,c3,c4,c5,c6,c7,c8,c9]).cells.toList.drop 6).take (Tryz.prog.cellsOf 3))=xs[6]?:=hg 6 _ rfl;rw [List.getElem?_eq_getElem (show 6<xs.length by omega),show ((Value.agg #[c0,c1,c2,c3,c4,c5,c6,c7,c8,c9]).cells.toList.drop 6).take (Tryz.prog.cellsOf 3)=[c6] by rw [hI]; rfl] at k6;obtain ⟨n6,e6,_,_⟩:=DataW.trod_int Tryz.underlying3 k6;have k7:DataW.trod enc Tryz.prog W base spare held n 3 (((Value.agg #[c0,c1,c2,c3,c4,c5,c6,c7,c8,c9]).cells.toList.drop 7).take (Tryz.prog.cellsOf 3))=xs[7]?:=hg 7 _ rfl;rw [List.getElem?_eq_getElem (show 7<xs.length by omega),show ((Value.agg #[c0,c1,c2,c3,c4,c5,c6,c7,c8,c9]).cells.toList.drop 7).take (Tryz.prog.cellsOf 3)=[c7] by rw [hI]; rfl] at k7;obtain ⟨n7,e7,_,_⟩:=DataW.trod_int Tryz.underlying3 k7;have k8:DataW.trod enc Tryz.prog W base spare held n 3 (((Value.agg #[c0,c1,c2,c3,c4,c5,c6,c7,c8,c9]).cells.toList.drop 8).take (Tryz.prog.cellsOf 3))=xs[8]?:=hg 8 _ rfl;rw [List.getElem?_eq_getElem (show 8<xs.length by omega),show ((Value.agg #[c0,c1,c2,c3,c4,c5,c6,c7,c8,c9]).cells.toList.drop 8).take (Tryz.prog.cellsOf 3)=[c8] by rw [hI]; rfl] at k8
 obtain ⟨n8,e8,_,_⟩:=DataW.trod_int Tryz.underlying3 k8;have k9:DataW.trod enc Tryz.prog W base spare held n 3 (((Value.agg #[c0,c1,c2,c3,c4,c5,c6,c7,c8,c9]).cells.toList.drop 9).take (Tryz.prog.cellsOf 3))=xs[9]?:=hg 9 _ rfl;rw [List.getElem?_eq_getElem (show 9<xs.length by omega),show ((Value.agg #[c0,c1,c2,c3,c4,c5,c6,c7,c8,c9]).cells.toList.drop 9).take (Tryz.prog.cellsOf 3)=[c9] by rw [hI]; rfl] at k9;obtain ⟨n9,e9,_,_⟩:=DataW.trod_int Tryz.underlying3 k9;simp only [List.cons.injEq,and_true] at e0 e1 e2 e3 e4 e5 e6 e7 e8 e9;subst e0 e1 e2 e3 e4 e5 e6 e7 e8 e9;exact ⟨⟨n0,n1,n2,n3,n4,n5,n6,n7,n8,n9⟩,rfl⟩
end Go.Proofs.YtabdnhkdoeibnaaGreatDoor
