/-
  What volutekeep.Node, volutekeep.Nodes and volutekeep.TwinNodes answer, for all nodes in memory; append to a row of nodes of the call's own.
-/
import Derived.Test.YtabdnhkdoeibnaaGreatDoorM11
import Derived.BigRegion
import Derived.Deep.RegionWith
import Derived.RegionTactic
set_option maxRecDepth 100000
set_option maxHeartbeats 4000000
namespace Go.Proofs.YtabdnhkdoeibnaaGreatDoor
open Go.RowKit
theorem infoNode:(Tryz.prog.info? 103).map (fun i=>(i.zero,i.size,i.bytes))=some (some (.agg #[.int .u32 0,.int .i64 0,.int .i64 0,.slice none 0 0]),4,48):=by kernel_rfl
theorem ZaR (v:Value) (n base:Nat) (r:List Rn) (s m c:Int) (p:Value) (hp:ZcZ p) (ty:TypeId) (w:World) (hown:w.ownsRow base 103 4 v n (ZG r)) (hb:base≤w.heap.size) (h1:n≤1048576) :
  ∃ v' w',(Builtin.append_ #[98,98] ty #[v,.slice (some ⟨w.heap.size,0,none⟩) 1 1]).run Tryz.prog (w.alloc (.cells #[.int .u32 s,.int .i64 m,.int .i64 c,p] 103))=.ok v' w'∧w'.ownsRow base 103 4 v' (n+1) (ZG (r++[(s,m,c,p)]))∧(w.alloc (.cells #[.int .u32 s,.int .i64 m,.int .i64 c,p] 103)).grownBy w' v.ownBlock:=by
 obtain ⟨i0,hi,hz0,hz1,hz2⟩:=info_parts infoNode;obtain ⟨v',w',hr,ho,hg,_⟩:=run_append_own (P:=Tryz.prog) (w.alloc (.cells #[.int .u32 s,.int .i64 m,.int .i64 c,p] 103)) base 98 ty 103 i0 (.agg #[.int .u32 0,.int .i64 0,.int .i64 0,.slice none 0 0]) 4 48 Tryz.underlying98 hi hz0 hz1 hz2 rfl (by decide) v n _ (hown.alloc _) ⟨w.heap.size,0,none⟩ 1 1 [.int .u32 s,.int .i64 m,.int .i64 c,p] rfl (World.news_of_block (World.alloc_heap_new _ _)) (rnCells_one (r:=[(s,m,c,p)]) (fun x hx=>by simp at hx; subst hx; exact hp)) (by unfold maxLen; omega) (by omega) (by simp; omega);exact ⟨v',w',hr,by rw [Zd1]; exact ho,hg⟩
theorem Zb6 (v:Value) (l:List Nd) (hl:l.length≤1048576) (hp:∀ y∈l,y.2.2.2.length≤4294967296) (w:World) (hH:Zae w.heap.size w v l) :
  Calls Tryz.prog 122 #[v] w fun e W'=>∃ r,e=.returned r∧Zap w.heap.size W' r l∧Below w.heap.size w W':=by
 obtain ⟨a,cap,rfl⟩:=hH.shape;obtain ⟨n,hn⟩:∃ n,l.length=n:=⟨_,rfl⟩;rw [hn] at hH hl ⊢;have HP:Hid (∀ y∈l,y.2.2.2.length≤4294967296):=hp;have HH:Hid (Zae w.heap.size w (.slice a n cap) l):=hH;have HN:Hid (l.length=n):=hn;clear hp hH hn;go_enter Tryz.func122,Tryz.ntmps122;go_wp2;go_loopw [3,4] (fun o i wr=>∃ (k:Nat) (r:List Rn),k≤n∧i=.int .i64 k∧wr.ownsRow w.heap.size 103 4 o k (ZG r)∧ZQ w.heap.size wr r (l.take k)∧Below w.heap.size w wr) (fun _ i _=>n-(intOf i).toNat)
 case atStart=>exact ⟨0,[],Nat.zero_le _,rfl,World.ownsRow_nil _ _ _ _,by rw [List.take_zero]; exact ZcN _ _,Below.refl _ _⟩
 case round =>
  obtain ⟨k,r,hk,rfl,ho,hr,bw⟩:=hrel;have hsz:=bw.size;by_cases hlt:k<n
  ·obtain ⟨b,off,rfl,hb,hc⟩:=ZaA (HH.out.below bw) HN.out (by omega);obtain ⟨⟨s,m,c,ps⟩,hxk⟩:∃ x,l[k]? = some x:=⟨l[k]'(by rw [HN.out]; exact hlt),by simp⟩;obtain ⟨p,hp,c1,c2,c3,c4⟩:=hc _ _ hxk;obtain ⟨pa,pc,rfl⟩:=hp.shape;have hpl:ps.length≤4294967296:=HP.out _ (List.mem_of_getElem? hxk)
   have HK:Hid (l.take (k+1)=l.take k++[(s,m,c,ps)]):=by
    show l.take (k+1)=l.take k++[(s,m,c,ps)]
    rw [List.take_add_one,hxk]; rfl
   have xB:=Box.new wr 103 #[.int .u32 s,.int .i64 m,.int .i64 c,.slice pa ps.length pc];have bA:Below wr.heap.size wr (wr.alloc (.cells #[.int .u32 s,.int .i64 m,.int .i64 c,.slice pa ps.length pc] 103)):=(Below.refl _ _).alloc (Nat.le_refl _) _;obtain ⟨k0,k1,k2,k3⟩:=xB.c4;clear hc hxk;go_wp2_with fail;clear k0 k1 k2 k3 c1 c2 c3 c4;obtain ⟨W1,hW1⟩:∃ W,wr.alloc (.cells #[.int .u32 s,.int .i64 m,.int .i64 c,.slice pa ps.length pc] 103)=W:=⟨_,rfl⟩;rw [hW1] at xB bA ⊢;clear hW1;refine (ZdX (.slice pa ps.length pc) ps w.heap.size hpl W1 (hp.below (bA.mono hsz))).mono ?_;rintro e w2 ⟨q,rfl,oq,b2⟩;have hB1:=xB.lt;obtain ⟨qa,qc,rfl,_⟩:=(Zb4 oq).2;have xB2:=xB.next b2;have k3:=xB2.cell 3 _ rfl;have f3:=xB2.free 3;obtain ⟨k0,k1,k2⟩:=xB2.c3;have xB3:Box (w2.setCell ⟨wr.heap.size,3,none⟩ (.slice qa ps.length qc)) wr.heap.size 103 #[.int .u32 s,.int .i64 m,.int .i64 c,.slice qa ps.length qc]:=xB2.set 3 (.slice qa ps.length qc);have b3:Below wr.heap.size wr (w2.setCell ⟨wr.heap.size,3,none⟩ (.slice qa ps.length qc)):=(bA.trans (b2.mono bA.size)).setCell (p:=⟨wr.heap.size,3,none⟩) (Nat.le_refl _) _;have oq3:=ownsRow_setCell_below oq (a:=⟨wr.heap.size,3,none⟩) hB1 (.slice qa ps.length qc);have ho3:=ZL ho b3 (Nat.le_refl _);obtain ⟨v4,w4,hr4,ho4,hg4⟩:=ZaR _ k w.heap.size r s m c (.slice qa ps.length qc) ⟨_,_,_,rfl⟩ 98 _ ho3 (Nat.le_trans hsz b3.size) (by omega)
   have own4:ZQ w.heap.size w4 (r++[(s,m,c,.slice qa ps.length qc)]) (l.take (k+1)):=by
    rw [HK.out];have z1:=(hr.below b3 (Nat.le_refl _)).snoc (x:=(s,m,c,.slice qa ps.length qc)) (y:=(s,m,c,ps)) rfl rfl rfl oq3 (by omega) (fun u hu g hg=>by have:=hr.lt u hu g hg; omega);exact (z1.below ((Below.refl _ _).alloc (Nat.le_refl _) _) (Nat.le_refl _)).kept (ho3.alloc _) hg4
   have b4:Below w.heap.size w w4:=((bw.trans (b3.mono hsz)).alloc (Nat.le_trans hsz b3.size) _).grown hg4 (by have:=b3.size; simp only [World.size_alloc]; omega) (fun q e=>(ho.lt q e).1);obtain ⟨h0,h1,h2,h3⟩:=xB3.c4;rw [show (w2.setCell ⟨wr.heap.size,3,none⟩ (.slice qa ps.length qc)).heap.size=w2.heap.size by simp [World.setCell]] at hr4;have HR:Hid _:=hr4;clear hr4 ho3 oq3 oq ho hr b3 xB xB2 xB3 bA b2 hg4;go_wp2_with (at_builtin; refine Zc rfl _ _ 98 rfl _ _ rfl rfl _ _ HR.out ?_);exact ⟨⟨k+1,_,by omega,by go_num,ho4,own4,b4⟩,by simp [intOf]; omega⟩
  ·obtain rfl:k=n:=by omega
   go_wp2;go_ret;rw [List.take_of_length_le (by rw [HN.out]; exact Nat.le_refl _)] at hr;exact ⟨_,rfl,⟨r,by rw [HN.out]; exact ho,hr⟩,bw⟩
end Go.Proofs.YtabdnhkdoeibnaaGreatDoor
