/-
  States behind nibbles as numbers. No program is spoken of.
-/
import Derived.Test.YtabdnhkdoeibnaaGreatDoorM16
import Derived.OwnWalk
set_option maxRecDepth 100000
set_option maxHeartbeats 2000000
namespace Go.Proofs.YtabdnhkdoeibnaaGreatDoor
def beginN:Nat:=2654435769
def stepN (s n:Nat):Nat:=mixN (s ^^^ n)
theorem ZbF (s n:Nat):stepN s n<4294967296:=Zhe _
def Path (zs:List Int):Prop:=∀ z∈zs,0≤z∧z≤15
theorem Path.tail {z:Int} {zs:List Int} (h:Path (z :: zs)):Path zs:=fun x hx=>h x (List.mem_cons_of_mem _ hx)
theorem Path.head {z:Int} {zs:List Int} (h:Path (z :: zs)):0≤z∧z≤15:=h z List.mem_cons_self
theorem Path.take {zs:List Int} (h:Path zs) (k:Nat):Path (zs.take k):=fun x hx=>h x (List.mem_of_mem_take hx)
theorem Path.get {zs:List Int} (h:Path zs) {k:Nat} {z:Int} (e:zs[k]? = some z):0≤z∧z≤15:=h z (List.mem_of_getElem? e)
def Zw (s:Nat):List Int→List Int
 | []=>[]
 | z :: zs=>((stepN s z.toNat:Nat):Int) :: Zw (stepN s z.toNat) zs
def lastOf (s:Nat):List Int→Nat
 | []=>s
 | z :: zs=>lastOf (stepN s z.toNat) zs
theorem Zcr:∀ (s:Nat) (zs:List Int),(Zw s zs).length=zs.length
 | _,[]=>rfl
 | s,z :: zs=>by rw [Zw,List.length_cons,List.length_cons,Zcr]
theorem Zcs:∀ {s:Nat} (zs:List Int),s<4294967296→lastOf s zs<4294967296
 | _,[],h=>h
 | s,z :: zs,_=>Zcs zs (ZbF s z.toNat)
theorem Zct:∀ (s:Nat) (xs ys:List Int),Zw s (xs++ys)=Zw s xs++Zw (lastOf s xs) ys
 | _,[],_=>rfl
 | s,z :: xs,ys=>by rw [List.cons_append,Zw,Zw,Zct,List.cons_append,lastOf]
theorem Zdl:∀ (s:Nat) (xs ys:List Int),lastOf s (xs++ys)=lastOf (lastOf s xs) ys
 | _,[],_=>rfl
 | s,z :: xs,ys=>by rw [List.cons_append,lastOf,lastOf,Zdl]
theorem Zdm (s:Nat) (xs:List Int) (z:Int):Zw s (xs++[z])=Zw s xs++[((stepN (lastOf s xs) z.toNat:Nat):Int)]:=by rw [Zct]; rfl
theorem lastOf_snoc (s:Nat) (xs:List Int) (z:Int):lastOf s (xs++[z])=stepN (lastOf s xs) z.toNat:=by rw [Zdl]; rfl
theorem Zdn {zs:List Int} {k:Nat} {z:Int} (hz:zs[k]? = some z):zs.take (k+1)=zs.take k++[z]:=by rw [List.take_add_one,hz]; rfl
theorem Zdo:∀ (s:Nat) (zs:List Int) (k:Nat),Zw s (zs.take k)=(Zw s zs).take k
 | _,[],k=>by simp [Zw]
 | _,_ :: _,0=>rfl
 | s,z :: zs,k+1=>by rw [List.take_succ_cons,Zw,Zw,List.take_succ_cons,Zdo]
theorem statesOf_get {s:Nat} {zs:List Int} {k:Nat} {z:Int} (hz:zs[k]? = some z):(Zw s zs)[k]? = some ((stepN (lastOf s (zs.take k)) z.toNat:Nat):Int):=by
 have hk:=(List.getElem?_eq_some_iff.1 hz).1;have h:=Zdo s zs (k+1);rw [Zdn hz,Zdm] at h;have hl:(Zw s (zs.take k)).length=k:=by rw [Zcr,List.length_take]; omega
 have h2:(Zw s (zs.take k)++[((stepN (lastOf s (zs.take k)) z.toNat:Nat):Int)])[k]? = ((Zw s zs).take (k+1))[k]?:=by rw [h]
 rw [List.getElem?_append_right (by omega),hl,Nat.sub_self] at h2;rw [List.getElem?_take,if_pos (by omega)] at h2;exact h2.symm
theorem ZeY {s:Nat} {zs:List Int} {k:Nat} {z:Int} (hz:zs[k]? = some z):lastOf s (zs.take (k+1))=stepN (lastOf s (zs.take k)) z.toNat:=by
 rw [Zdn hz,lastOf_snoc]
end Go.Proofs.YtabdnhkdoeibnaaGreatDoor
namespace Go.Proofs.YtabdnhkdoeibnaaGreatDoor
open Go.RowKit
theorem refBegin_any (w:World):Calls Tryz.prog 94 #[] w fun e w'=>e=.returned (.int .u32 (beginN:Int))∧w=w':=by
 go_enter Tryz.func94,Tryz.ntmps94;go_wp2;go_ret;exact ⟨rfl,rfl⟩
theorem ZeZ (s n:Nat) (hs:s<4294967296) (hn:n<16) (w:World):Calls Tryz.prog 119 #[.int .u32 s,.int .i64 n] w fun e w'=>e=.returned (.int .u32 ((stepN s n:Nat):Int))∧w=w':=by
 have e1:IntKind.u32.wrap (n:Int)=(n:Int):=by rw [IntKind.wrap_u32]; omega
 have e2:bits .xor .u32 (s:Int) (n:Int)=((s ^^^ n:Nat):Int):=ZaT s n hs (by omega);have h3:s ^^^ n<4294967296:=ZdI hs (by omega);have HR:Hid (mixN (s ^^^ n)=stepN s n):=rfl;obtain ⟨x,hx⟩:∃ x,s ^^^ n=x:=⟨_,rfl⟩;rw [hx] at e2 h3 HR;clear hx;go_enter Tryz.func119,Tryz.ntmps119;go_wp2_with fail;refine (ZfG x h3 w).mono ?_;rw [HR.out];rintro e w1 ⟨rfl,rfl⟩;go_wp2;go_ret;exact ⟨rfl,rfl⟩
theorem infoWord:(Tryz.prog.info? 101).map (fun i=>(i.zero,i.size,i.bytes))=some (some (.int .u32 0),1,4):=by kernel_rfl
theorem Begin_any (w:World):Calls Tryz.prog 127 #[] w fun e w'=>e=.returned (.int .u32 (beginN:Int))∧w=w':=by
 go_enter Tryz.func127,Tryz.ntmps127;go_wp2;go_ret;exact ⟨rfl,rfl⟩
theorem Zia (s n:Nat) (hs:s<4294967296) (hn:n<16) (w:World):Calls Tryz.prog 114 #[.int .u32 s,.int .i64 n] w fun e w'=>e=.returned (.tuple #[.int .u32 ((stepN s n:Nat):Int),.int .i64 0])∧w=w':=by
 have e1:IntKind.u32.wrap (n:Int)=(n:Int):=by rw [IntKind.wrap_u32]; omega
 have e2:bits .xor .u32 (s:Int) (n:Int)=((s ^^^ n:Nat):Int):=ZaT s n hs (by omega);have h3:s ^^^ n<4294967296:=ZdI hs (by omega);have HR:Hid (mixN (s ^^^ n)=stepN s n):=rfl;have d0:decide ((n:Int)<0)=false:=decide_eq_false (by omega);have d1:decide (16≤(n:Int))=false:=decide_eq_false (by omega);obtain ⟨x,hx⟩:∃ x,s ^^^ n=x:=⟨_,rfl⟩;rw [hx] at e2 h3 HR;clear hx;go_enter Tryz.func114,Tryz.ntmps114;go_wp2_with fail;refine (Zh9 x h3 w).mono ?_;rw [HR.out];rintro e w1 ⟨rfl,rfl⟩;go_wp2;go_ret2;exact ⟨rfl,rfl⟩
theorem Step_arg (s:Nat) (n:Int) (h:n<0∨15<n) (w:World):Calls Tryz.prog 114 #[.int .u32 s,.int .i64 n] w fun e w'=>e=.returned (.tuple #[.int .u32 0,.int .i64 1])∧w=w':=by
 by_cases h0:n<0
 ·clear h;go_enter Tryz.func114,Tryz.ntmps114;go_wp2;go_ret2;exact ⟨rfl,rfl⟩
 ·have h1:16≤n:=by omega
  clear h;go_enter Tryz.func114,Tryz.ntmps114;go_wp2;go_ret2;exact ⟨rfl,rfl⟩
theorem States_any (a:Option Addr) (cap:Nat) (zs:List Int) (hl:zs.length≤64) (w:World) (ha:Zb .i64 w.heap.size w (.slice a zs.length cap) zs) :
  Calls Tryz.prog 90 #[.slice a zs.length cap] w fun e W'=>(Path zs∧(∃ r,e=.returned (.tuple #[r,.int .i64 0])∧Kept .u32 W' r (Zw beginN zs))∨¬ Path zs∧e=.returned (.tuple #[.slice none 0 0,.int .i64 1]))∧Below w.heap.size w W':=by
 obtain ⟨i0,hi,hz0,hz1,hz2⟩:=info_parts infoWord;go_enter Tryz.func90,Tryz.ntmps90;go_wp2_with (at_make; refine wpList_make_own _ rfl _ _ 94 rfl w.heap.size 101 i0 (.int .u32 0) 1 Tryz.underlying94 hi hz0 hz1 .i64 .i64 _ zs.length rfl rfl (by omega) (by rw [hz2]; omega) (by unfold maxLen; omega) (Nat.le_refl _) ?_; intro w1 hown1 hgrow1);have b1:Below w.heap.size w w1:=(Below.refl _ w).grown hgrow1 (Nat.le_refl _) (fun k e=>by cases e);clear hgrow1;go_wp2;go_loopw [4,5,18] (fun v s i wr=>∃ k:Nat,k≤zs.length∧i=.int .i64 k∧s=.int .u32 ((lastOf beginN (zs.take k):Nat):Int)∧wr.ownsRow w.heap.size 101 1 v k ((Zw beginN (zs.take k)).map (Value.int .u32))∧Below w.heap.size w wr∧Hid (Path (zs.take k))) (fun _ _ i _=>zs.length-(intOf i).toNat)
 case atStart=>exact ⟨0,Nat.zero_le _,rfl,rfl,hown1,b1,fun x hx=>by simp at hx⟩
 case round =>
  clear hown1 b1;obtain ⟨k,hk,rfl,rfl,ho,hbw,HP⟩:=hrel;by_cases hlt:k<zs.length
  ·obtain ⟨z,hzk⟩:∃ z,zs[k]? = some z:=⟨zs[k],by simp⟩;rcases ha with ⟨_,e⟩ | ⟨b,off,cap',e,hb,hcs⟩
   ·rw [e] at hlt; exact absurd hlt (by simp)
   cases e
   have c1:wr.cell? ⟨b,off+k,none⟩=some (.int .i64 z):=(hbw.cell (p:=⟨b,off+k,none⟩) hb).trans ((hcs k hlt).trans (by rw [hzk]; rfl));have hs:=Zcs (s:=beginN) (zs.take k) (by decide);by_cases hz:z<0∨15<z
   ·have HN:Hid (¬ Path zs):=fun h=>by have:=h.get hzk; omega
    obtain ⟨s,hse⟩:∃ s,lastOf beginN (zs.take k)=s:=⟨_,rfl⟩;rw [hse] at hs ⊢;clear hcs hzk hse HP;go_wp2_with fail;refine (Step_arg s z hz wr).mono ?_;rintro e w2 ⟨rfl,rfl⟩;clear hz;go_wp2;go_ret2;exact ⟨.inr ⟨HN.out,rfl⟩,hbw⟩
   ·obtain ⟨n,rfl⟩:=Int.eq_ofNat_of_zero_le (a:=z) (by omega);have hn:n<16:=by omega
    have HL:Hid (lastOf beginN (zs.take (k+1))=stepN (lastOf beginN (zs.take k)) n):=by
     have:=ZeY (s:=beginN) hzk;rw [Int.toNat_natCast] at this;exact this
    have HS:Hid (Zw beginN (zs.take (k+1))=Zw beginN (zs.take k)++[((stepN (lastOf beginN (zs.take k)) n:Nat):Int)]):=by
     have:=Zdm beginN (zs.take k) (n:Int);rw [← Zdn hzk,Int.toNat_natCast] at this;exact this
    have HP':Hid (Path (zs.take (k+1))):=by
     have e:=Zdn hzk
     show Path (zs.take (k+1))
     rw [e];intro y hy;rcases List.mem_append.1 hy with h' | h'
     ·exact HP.out y h'
     ·simp at h'; subst h'; omega
    obtain ⟨s,hse⟩:∃ s,lastOf beginN (zs.take k)=s:=⟨_,rfl⟩;rw [hse] at hs HL HS ⊢;clear hcs hzk hse HP hz;go_wp2_with fail;refine (Zia s n hs hn wr).mono ?_;rintro e w2 ⟨rfl,rfl⟩;obtain ⟨t,hte⟩:∃ t,stepN s n=t:=⟨_,rfl⟩;rw [hte] at HL HS ⊢;clear hte;go_wp2_with (at_builtin; refine wpList_append_own _ rfl _ _ 94 rfl w.heap.size 101 i0 (.int .u32 0) 1 4 Tryz.underlying94 hi hz0 hz1 hz2 rfl (by decide) _ k _ rfl (ho.alloc _) ⟨wr.heap.size,0,none⟩ 1 1 [.int .u32 t] rfl rfl (cell_one_new _ _ _) (by simp [Value.oneCell']) (by unfold maxLen; omega) (by omega) (by have:=hbw.size; simp; omega) ?_; intro v3 w3 hown3 hgrow3 _);have b3:Below w.heap.size w w3:=(hbw.alloc hbw.size _).trans ((Below.refl _ _).grown hgrow3 (by have:=hbw.size; simp; omega) (fun q e=>(ho.lt q e).1));refine ⟨⟨k+1,by omega,by go_num,by rw [HL.out],?_,b3,HP'⟩,by simp [intOf]; omega⟩;rw [HS.out,List.map_append];exact hown3
  ·obtain rfl:k=zs.length:=by omega
   have HT:Hid (zs.take zs.length=zs):=List.take_length;rw [HT.out] at ho HP ⊢;clear ha;go_wp2;go_ret2;exact ⟨.inl ⟨HP.out,_,rfl,Zb4 ho⟩,hbw⟩
theorem States_ok (a:Option Addr) (cap:Nat) (zs:List Int) (hl:zs.length≤64) (hP:Path zs) (w:World) (ha:Zb .i64 w.heap.size w (.slice a zs.length cap) zs) :
  Calls Tryz.prog 90 #[.slice a zs.length cap] w fun e W'=>∃ r,e=.returned (.tuple #[r,.int .i64 0])∧Kept .u32 W' r (Zw beginN zs)∧Below w.heap.size w W':=by
 refine (States_any a cap zs hl w ha).mono ?_;rintro e W' ⟨⟨_,r,rfl,hr⟩ | ⟨h,_⟩,hb⟩
 ·exact ⟨r,rfl,hr,hb⟩
 ·exact absurd hP h
end Go.Proofs.YtabdnhkdoeibnaaGreatDoor
