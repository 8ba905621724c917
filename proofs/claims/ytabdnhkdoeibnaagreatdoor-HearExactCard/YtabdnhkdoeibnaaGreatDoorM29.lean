/-
  What slices.Clone, slices.Grow (of nothing) and slices.Concat (of three) answer, of symbols.
-/
import Derived.Test.YtabdnhkdoeibnaaGreatDoorM08
import Derived.Lib.AppendZerosOnto
import Derived.Lib.SliceRun
set_option maxRecDepth 100000
set_option maxHeartbeats 4000000
namespace Go.Proofs.YtabdnhkdoeibnaaGreatDoor
open Go.RowKit
theorem Zgq (a:Option Addr) (cap:Nat) (l:List (Int×Int)) (hl:l.length≤4294967296) (w:World) (ha:Syms w.heap.size w (.slice a l.length cap) l) :
  Calls Tryz.prog 53 #[.slice a l.length cap] w fun e W'=>∃ r,e=.returned r∧W'.ownsRow w.heap.size 87 2 r l.length (Za l)∧Below w.heap.size w W':=by
 have qS:∀ (w:World) (a:Option Addr) (n c n' c':Nat),(binOp .eql 24 (.slice a n c) (.slice none n' c')).run Tryz.prog w=.ok (.bool a.isNone) w:=fun w a n c n' c'=>Lib.run_eql_slice_nil w _ _ a n c n' c' Tryz.underlying24
 cases a with
 | none =>
  have h0:l=[]:=by
   rcases ha with ⟨_,h⟩ | ⟨b,off,c,e,_⟩
   ·exact h
   ·simp only [Value.slice.injEq] at e; exact absurd e.1 (by simp)
  subst h0;clear ha;go_enter Tryz.func53,Tryz.ntmps53;go_wp2;go_ret;exact ⟨_,rfl,World.ownsRow_nil _ _ _ _,Below.refl _ _⟩
 | some ad =>
  have o0:(w.alloc (.cells #[] 87)).ownsRow w.heap.size 87 2 (.slice (some ⟨w.heap.size,0,none⟩) 0 0) 0 (Za []):=World.ownsRow_made w #[] 0 (Nat.le_refl _) (Nat.zero_le _) rfl;have b0:=(Below.refl w.heap.size w).alloc (Nat.le_refl _) (.cells #[] 87);obtain ⟨v3,w3,hr3,ho3,hg3⟩:=Zl (.slice (some ⟨w.heap.size,0,none⟩) 0 0) (.slice (some ad) l.length cap) 0 w.heap.size _ [] l 24 (w.alloc (.cells #[] 87)) o0 (ha.next b0) (by simp) (by omega) hl;have b3:=b0.trans ((Below.refl w.heap.size _).grown hg3 (by simp) (fun q e=>(o0.lt q e).1));have HR3:Hid _:=hr3;clear hr3 ha o0 hg3;go_enter Tryz.func53,Tryz.ntmps53;go_wp2_with (at_builtin; refine Zc rfl _ _ 24 rfl _ _ rfl rfl _ _ HR3.out ?_);go_ret;refine ⟨_,rfl,?_,b3⟩;simpa using ho3
theorem grow_new (k:Nat) (h0:0<k) (hk:k≤4294967296) (w:World) :
  Calls Tryz.prog 104 #[.slice none 0 0,.int .i64 (k:Int)] w fun e W'=>∃ r,e=.returned r∧W'.ownsRow w.heap.size 87 2 r 0 []∧Below w.heap.size w W':=by
 obtain ⟨i0,hi,hz0,hz1,hz2⟩:=info_parts ZeB;have hold:(Builtin.firstCells i0.size 0 (.slice none 0 0)).run Tryz.prog w.drew=.ok ([]:List Value).toArray w.drew:=Go.run_firstCells_none w.drew i0.size 0 0 0;have hrz:=Lib.run_append_grow_zeros w 24 3 24 87 i0 (.agg #[.int .i64 0,.int .i64 0]) .i64 .i64 Tryz.underlying24 Tryz.underlying3 hi hz0 none 0 0 [] hold k h0 (by rw [hz1]; decide) (by omega) (by omega) (by rw [hz2]; omega) (growslice_fits (by omega) (by rw [hz2]; omega));have hGm:=grownCap_le_maxLen w (0+k) 0 87 (by unfold maxLen; omega);have hGn:0+k≤grownCap w (0+k) 0 87:=grownCap_ge w _ _ _;obtain ⟨G,hG⟩:∃ G,grownCap w (0+k) 0 87=G:=⟨_,rfl⟩;rw [hG] at hrz hGm hGn;obtain ⟨cur,hcur⟩:∃ cur,(([]:List Value).toArray++Builtin.zeroCells (Value.agg #[.int .i64 0,.int .i64 0]).cells k++Builtin.zeroCells (Value.agg #[.int .i64 0,.int .i64 0]).cells (G-(0+k)))=cur:=⟨_,rfl⟩
 have hcs:cur.size=G * 2:=by
  rw [← hcur];simp only [Array.size_append,List.size_toArray,size_zeroCells,List.length_nil];have:(Value.agg #[.int .i64 0,.int .i64 0]).cells.size=2:=rfl;rw [this];omega
 rw [hcur] at hrz;have o1:(w.drew.alloc (.cells cur 87)).ownsRow w.heap.size 87 2 (.slice (some ⟨w.drew.heap.size,0,none⟩) 0 G) 0 []:=World.ownsRow_made w.drew cur G (Nat.le_refl _) hGm hcs;have b1:=(Below.refl w.heap.size w).drew.alloc (Nat.le_refl _) (.cells cur 87);have hG2:G≤9223372036854775807:=by unfold maxLen at hGm; omega
 have e0:0+k=k:=by omega
 rw [e0] at hrz;clear hcur hG hGm hGn hold hcs;go_enter Tryz.func104,Tryz.ntmps104;go_wp2_with (at_builtin; refine Lib.wpList_append_run _ rfl _ _ _ _ rfl _ _ rfl rfl _ _ hrz ?_)
 all_goals (go_ret; exact ⟨_,rfl,o1,b1⟩)
theorem concat3_ok (g:Nat) (a1 a2 a3:Option Addr) (c1 c2 c3:Nat) (l1 l2 l3:List (Int×Int)) (p1:l1.length≤1048576) (p2:l2.length≤1048576) (p3:l3.length≤1048576) (h0:0<l1.length+l2.length+l3.length) (w:World)
  (k1:w.cell? ⟨g,0,none⟩=some (.slice a1 l1.length c1)) (k2:w.cell? ⟨g,1,none⟩=some (.slice a2 l2.length c2)) (k3:w.cell? ⟨g,2,none⟩=some (.slice a3 l3.length c3))
  (h1:Syms w.heap.size w (.slice a1 l1.length c1) l1) (h2:Syms w.heap.size w (.slice a2 l2.length c2) l2) (h3:Syms w.heap.size w (.slice a3 l3.length c3) l3) :
  Calls Tryz.prog 81 #[.slice (some ⟨g,0,none⟩) 3 3] w fun e W'=>∃ r,e=.returned r∧W'.ownsRow w.heap.size 87 2 r (l1.length+l2.length+l3.length) (Za (l1++l2++l3))∧Below w.heap.size w W':=by
 have hg:g<w.heap.size:=Zgb k1;have H1:Hid (Syms w.heap.size w (.slice a1 l1.length c1) l1):=h1;have H2:Hid (Syms w.heap.size w (.slice a2 l2.length c2) l2):=h2;have H3:Hid (Syms w.heap.size w (.slice a3 l3.length c3) l3):=h3;obtain ⟨n1,e1⟩:∃ n,l1.length=n:=⟨_,rfl⟩;obtain ⟨n2,e2⟩:∃ n,l2.length=n:=⟨_,rfl⟩;obtain ⟨n3,e3⟩:∃ n,l3.length=n:=⟨_,rfl⟩;rw [e1] at H1 p1 h0 k1 ⊢;rw [e2] at H2 p2 h0 k2 ⊢;rw [e3] at H3 p3 h0 k3 ⊢;have E1:Hid (l1.length=n1):=e1;have E2:Hid (l2.length=n2):=e2;have E3:Hid (l3.length=n3):=e3;clear e1 e2 e3 h1 h2 h3;go_enter Tryz.func81,Tryz.ntmps81;go_wp2;go_loop [3,11] (fun s i=>(s=.int .i64 0∧i=.int .i64 0)∨(s=.int .i64 n1∧i=.int .i64 1)∨(s=.int .i64 ((n1+n2:Nat):Int)∧i=.int .i64 2)∨(s=.int .i64 ((n1+n2+n3:Nat):Int)∧i=.int .i64 3)) (fun _ i=>3-(intOf i).toNat)
 case atStart=>exact .inl ⟨rfl,rfl⟩
 case round =>
  rcases hrel with ⟨rfl,rfl⟩ | ⟨rfl,rfl⟩ | ⟨rfl,rfl⟩ | ⟨rfl,rfl⟩
  ·go_wp2;go_round
   case rel=>exact .inr (.inl ⟨by go_num,by go_num⟩)
   case measure=>simp [intOf]
  ·go_wp2;go_round
   case rel=>exact .inr (.inr (.inl ⟨by go_num,by go_num⟩))
   case measure=>simp [intOf]
  ·go_wp2;go_round
   case rel=>exact .inr (.inr (.inr ⟨by go_num,by go_num⟩))
   case measure=>simp [intOf]
  ·obtain ⟨m,hm⟩:∃ m,n1+n2+n3=m:=⟨_,rfl⟩;have HG:=grow_new m (by omega) (by omega) w;rw [hm] at h0 ⊢;go_wp2_with fail;refine HG.mono ?_;rintro e w1 ⟨r,rfl,o1,b1⟩;have hs1:=b1.size;have q1:=(b1.cell (p:=⟨g,0,none⟩) hg).trans k1;have q2:=(b1.cell (p:=⟨g,1,none⟩) hg).trans k2;have q3:=(b1.cell (p:=⟨g,2,none⟩) hg).trans k3;clear HG k1 k2 k3;go_wp2;go_loopw [6,27] (fun v i wr=>((i=.int .i64 0∧wr.ownsRow w.heap.size 87 2 v 0 (Za []))∨(i=.int .i64 1∧wr.ownsRow w.heap.size 87 2 v n1 (Za l1))∨(i=.int .i64 2∧wr.ownsRow w.heap.size 87 2 v (n1+n2) (Za (l1++l2)))∨(i=.int .i64 3∧wr.ownsRow w.heap.size 87 2 v (n1+n2+n3) (Za (l1++l2++l3))))∧Below w.heap.size w wr) (fun _ i _=>3-(intOf i).toNat)
   case atStart=>exact ⟨.inl ⟨rfl,o1⟩,b1⟩
   case round =>
    obtain ⟨hc,hbw⟩:=hrel;have r1:=(hbw.cell (p:=⟨g,0,none⟩) hg).trans ((b1.cell (p:=⟨g,0,none⟩) hg).symm.trans q1);have r2:=(hbw.cell (p:=⟨g,1,none⟩) hg).trans ((b1.cell (p:=⟨g,1,none⟩) hg).symm.trans q2);have r3:=(hbw.cell (p:=⟨g,2,none⟩) hg).trans ((b1.cell (p:=⟨g,2,none⟩) hg).symm.trans q3);clear q1 q2 q3 o1;rcases hc with ⟨rfl,ho⟩ | ⟨rfl,ho⟩ | ⟨rfl,ho⟩ | ⟨rfl,ho⟩
    ·obtain ⟨v3,w3,hr3,ho3,hg3⟩:=Zl _ (.slice a1 n1 c1) 0 w.heap.size _ [] l1 24 wr ho (H1.out.below hbw) hbw.size (by omega) (by rw [E1.out]; omega);rw [E1.out,List.nil_append,Nat.zero_add] at ho3;have b3:=hbw.trans ((Below.refl w.heap.size _).grown hg3 hbw.size (fun q e=>(ho.lt q e).1));have HR3:Hid _:=hr3;clear hr3 ho hg3;go_wp2_with (at_builtin; refine Zc rfl _ _ 24 rfl _ _ rfl rfl _ _ HR3.out ?_);exact ⟨⟨.inr (.inl ⟨by go_num,ho3⟩),b3⟩,by simp [intOf]⟩
    ·obtain ⟨v3,w3,hr3,ho3,hg3⟩:=Zl _ (.slice a2 n2 c2) n1 w.heap.size _ l1 l2 24 wr ho (H2.out.below hbw) hbw.size (by omega) (by rw [E2.out]; omega);rw [E2.out] at ho3;have b3:=hbw.trans ((Below.refl w.heap.size _).grown hg3 hbw.size (fun q e=>(ho.lt q e).1));have HR3:Hid _:=hr3;clear hr3 ho hg3;go_wp2_with (at_builtin; refine Zc rfl _ _ 24 rfl _ _ rfl rfl _ _ HR3.out ?_);exact ⟨⟨.inr (.inr (.inl ⟨by go_num,ho3⟩)),b3⟩,by simp [intOf]⟩
    ·obtain ⟨v3,w3,hr3,ho3,hg3⟩:=Zl _ (.slice a3 n3 c3) (n1+n2) w.heap.size _ (l1++l2) l3 24 wr ho (H3.out.below hbw) hbw.size (by omega) (by rw [E3.out]; omega);rw [E3.out] at ho3;have b3:=hbw.trans ((Below.refl w.heap.size _).grown hg3 hbw.size (fun q e=>(ho.lt q e).1));have HR3:Hid _:=hr3;clear hr3 ho hg3;go_wp2_with (at_builtin; refine Zc rfl _ _ 24 rfl _ _ rfl rfl _ _ HR3.out ?_);exact ⟨⟨.inr (.inr (.inr ⟨by go_num,ho3⟩)),b3⟩,by simp [intOf]⟩
    ·go_wp2;go_ret;exact ⟨_,rfl,ho,hbw⟩
end Go.Proofs.YtabdnhkdoeibnaaGreatDoor
