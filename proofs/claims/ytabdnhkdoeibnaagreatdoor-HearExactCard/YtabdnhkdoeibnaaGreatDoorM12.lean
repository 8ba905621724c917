/-
  What bits.OnesCount32, bit.Ones and the page's Ones answer, for every number: how many of the 32 lowest bits are 1, of a number below 0 none; the world is as it was but for draws.
-/
import Derived.Test.YtabdnhkdoeibnaaGreatDoorM01
import Derived.BigQuiet
import Derived.Deep.QuietTactic
import Derived.Test.YtabdnhkdoeibnaaGreatDoorRows
import Derived.WalkKit
import Derived.WalkLawsBesides
import Derived.WalkSpells
set_option maxRecDepth 100000
set_option maxHeartbeats 1000000
namespace Go.Proofs.YtabdnhkdoeibnaaGreatDoor
open Go.RowKit
theorem foldTab:(⟨(([0,1,1,2,1,2,2,3,1,2,2,3,2,3,3,4,1,2,2,3,2,3,3,4,2,3,3,4,3,4,4,5,1,2,2,3,2,3,3,4,2,3,3,4,3,4,4,5,2,3,3,4,3,4,4,5,3,4,4,5,4,5,5,6].append [1,2,2,3,2,3,3,4,2,3,3,4,3,4,4,5,2,3,3,4,3,4,4,5,3,4,4,5,4,5,5,6,2,3,3,4,3,4,4,5,3,4,4,5,4,5,5,6,3,4,4,5,4,5,5,6,4,5,5,6,5,6,6,7]).append ([1,2,2,3,2,3,3,4,2,3,3,4,3,4,4,5,2,3,3,4,3,4,4,5,3,4,4,5,4,5,5,6,2,3,3,4,3,4,4,5,3,4,4,5,4,5,5,6,3,4,4,5,4,5,5,6,4,5,5,6,5,6,6,7].append [2,3,3,4,3,4,4,5,3,4,4,5,4,5,5,6,3,4,4,5,4,5,5,6,4,5,5,6,5,6,6,7,3,4,4,5,4,5,5,6,4,5,5,6,5,6,6,7,4,5,5,6,5,6,6,7,5,6,6,7,6,7,7,8])).toArray⟩:ByteArray)=Lib.pop8tab:=by decide +kernel
attribute [local go_sem ↓] foldTab
theorem Zc8 {k:IntKind} {a b:Int} (h:a=b):Ending.returned (.int k a)=.returned (.int k b):=by rw [h]
theorem cnt_any (x:Int) (w:World) (h0:0≤x) (h1:x≤4294967295) :
  Calls Tryz.prog 158 #[.int .u32 x] w fun e w'=>e=.returned (.int .i64 (pcTo 32 x.toNat:Nat))∧∃ n,w'=w.drewN n:=by
 have i1:x / 16777216≤255:=by omega
 have i2:x / 65536 % 256≤255:=by omega
 have i3:x / 256 % 256≤255:=by omega
 have i4:x % 256≤255:=by omega
 have j1:0≤x / 16777216:=by omega
 have j2:0≤x / 65536 % 256:=by omega
 have j3:0≤x / 256 % 256:=by omega
 have j4:0≤x % 256:=by omega
 have e2:=ZdC (x / 65536) (by omega) (by omega);have e3:=ZdC (x / 256) (by omega) (by omega);have e4:=ZdC x h0 (by omega);have b1:=Zf7 _ j1 i1;have b2:=Zf7 _ j2 i2;have b3:=Zf7 _ j3 i3;have b4:=Zf7 _ j4 i4;go_enter Tryz.func158,Tryz.ntmps158;go_wp2;go_quiet (fail);go_wp2;go_ret;exact ⟨Zc8 (pc_bytes_int x h0 h1),nq,rfl⟩
def onesZ (n:Int):Nat:=if n<0 then 0 else pcTo 32 n.toNat
theorem ones_neg (n:Int) (w:World) (h0:n<0) :
  Calls Tryz.prog 157 #[.int .i64 n] w fun e w'=>e=.returned (.int .i64 0)∧w'=w:=by
 go_enter Tryz.func157,Tryz.ntmps157;go_wp2;go_ret;exact ⟨rfl,rfl⟩
theorem ones_pos (n:Int) (w:World) (h0:0≤n) :
  Calls Tryz.prog 157 #[.int .i64 n] w fun e w'=>e=.returned (.int .i64 (pcTo 32 n.toNat:Nat))∧∃ k,w'=w.drewN k:=by
 have hn:¬ n<0:=by omega
 have hl:((n % 4294967296).toNat)=n.toNat % 2 ^ 32:=by omega
 have HL:Hid ((n % 4294967296).toNat=n.toNat % 2 ^ 32):=hl;clear hl;go_enter Tryz.func157,Tryz.ntmps157;go_wp2_with (go_at_call 158; refine (cnt_any _ _ (by omega) (by omega)).mono ?_; rintro e w' ⟨rfl,nq,rfl⟩);go_ret;exact ⟨Zc8 (by rw [HL.out,Zeh 32 _ 32 (Nat.le_refl _)]),nq,rfl⟩
theorem ones_any (n:Int) (w:World) :
  Calls Tryz.prog 157 #[.int .i64 n] w fun e w'=>e=.returned (.int .i64 (onesZ n:Nat))∧∃ k,w'=w.drewN k:=by
 by_cases h:n<0
 ·refine (ones_neg n w h).mono ?_;rintro e w' ⟨rfl,rfl⟩;exact ⟨Zc8 (by simp [onesZ,h]),0,rfl⟩
 ·refine (ones_pos n w (by omega)).mono ?_;rintro e w' ⟨rfl,k,rfl⟩;exact ⟨Zc8 (by simp [onesZ,h]),k,rfl⟩
theorem refOnes_neg (n:Int) (w:World) (h0:n<0) :
  Calls Tryz.prog 141 #[.int .i64 n] w fun e w'=>e=.returned (.int .i64 0)∧w'=w:=by
 go_enter Tryz.func141,Tryz.ntmps141;go_wp2;go_loop [3,4] (fun o i=>o=.int .i64 0∧i=.int .i64 0) (fun _ _=>0)
 case atStart=>exact ⟨rfl,rfl⟩
 case round =>
  obtain ⟨rfl,rfl⟩:=hrel;go_wp2;go_ret;exact ⟨rfl,rfl⟩
theorem pc_step (n:Int) (k:Nat) (h0:0≤n) (h1:n≤9223372036854775807) (hk:k<32) :
  wrap64 ((pcTo k n.toNat:Int)+bits .and .i64 (n / 2 ^ k) 1)=(pcTo (k+1) n.toNat:Int):=by
 rw [bit_at n k h0 h1,ZbN];have a:=ZdB k n.toNat;have b:=Bool.toNat_le (n.toNat.testBit k);unfold wrap64;omega
theorem refOnes_pos (n:Int) (w:World) (h0:0≤n) (h1:n≤9223372036854775807) :
  Calls Tryz.prog 141 #[.int .i64 n] w fun e w'=>e=.returned (.int .i64 (pcTo 32 n.toNat:Nat))∧w'=w:=by
 have hn:¬ n<0:=by omega
 go_enter Tryz.func141,Tryz.ntmps141;go_wp2;go_loop [3,4] (fun o i=>∃ k:Nat,k≤32∧i=.int .i64 k∧o=.int .i64 (pcTo k n.toNat:Nat)) (fun _ i=>32-(intOf i).toNat)
 case atStart=>exact ⟨0,Nat.zero_le _,rfl,rfl⟩
 case round =>
  obtain ⟨k,hk,rfl,rfl⟩:=hrel;have hle:=ZdB k n.toNat;by_cases hlt:k<32
  ·go_wp2;rw [pc_step n k h0 h1 hlt];exact ⟨⟨k+1,by omega,by go_num,rfl⟩,by simp [intOf]; omega⟩
  ·go_wp2;go_ret;exact ⟨Zc8 (by rw [show k=32 from by omega]),rfl⟩
theorem refOnes_any (n:Int) (w:World) (h1:n≤9223372036854775807) :
  Calls Tryz.prog 141 #[.int .i64 n] w fun e w'=>e=.returned (.int .i64 (onesZ n:Nat))∧w'=w:=by
 by_cases h:n<0
 ·refine (refOnes_neg n w h).mono ?_;rintro e w' ⟨rfl,rfl⟩;exact ⟨Zc8 (by simp [onesZ,h]),rfl⟩
 ·refine (refOnes_pos n w (by omega) h1).mono ?_;rintro e w' ⟨rfl,rfl⟩;exact ⟨Zc8 (by simp [onesZ,h]),rfl⟩
end Go.Proofs.YtabdnhkdoeibnaaGreatDoor
