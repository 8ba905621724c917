/-
  What bits.OnesCount32, bit.Ones and the page's Ones answer, for every number: how many of the 32 lowest bits are 1, of a number below 0 none; the world is as it was but for draws.
-/
import Derived.Test.YtkigbanldiialaaGreatDoorM02
import Derived.BigQuiet
import Derived.Deep.QuietTactic
import Derived.Test.YtkigbanldiialaaGreatDoorRows
import Derived.WalkKit
import Derived.WalkLawsBesides
import Derived.WalkSpells
set_option maxRecDepth 100000
set_option maxHeartbeats 1000000
namespace Go.Proofs.YtkigbanldiialaaGreatDoor
open Go.RowKit
theorem foldTab:(⟨(([0,1,1,2,1,2,2,3,1,2,2,3,2,3,3,4,1,2,2,3,2,3,3,4,2,3,3,4,3,4,4,5,1,2,2,3,2,3,3,4,2,3,3,4,3,4,4,5,2,3,3,4,3,4,4,5,3,4,4,5,4,5,5,6].append [1,2,2,3,2,3,3,4,2,3,3,4,3,4,4,5,2,3,3,4,3,4,4,5,3,4,4,5,4,5,5,6,2,3,3,4,3,4,4,5,3,4,4,5,4,5,5,6,3,4,4,5,4,5,5,6,4,5,5,6,5,6,6,7]).append ([1,2,2,3,2,3,3,4,2,3,3,4,3,4,4,5,2,3,3,4,3,4,4,5,3,4,4,5,4,5,5,6,2,3,3,4,3,4,4,5,3,4,4,5,4,5,5,6,3,4,4,5,4,5,5,6,4,5,5,6,5,6,6,7].append [2,3,3,4,3,4,4,5,3,4,4,5,4,5,5,6,3,4,4,5,4,5,5,6,4,5,5,6,5,6,6,7,3,4,4,5,4,5,5,6,4,5,5,6,5,6,6,7,4,5,5,6,5,6,6,7,5,6,6,7,6,7,7,8])).toArray⟩:ByteArray)=Lib.pop8tab:=by decide +kernel
attribute [local go_sem ↓] foldTab
theorem ZeI {k:IntKind} {a b:Int} (h:a=b):Ending.returned (.int k a)=.returned (.int k b):=by rw [h]
theorem cnt_any (x:Int) (w:World) (h0:0≤x) (h1:x≤4294967295) :
  Calls Tryz.prog 120 #[.int .u32 x] w fun e w'=>e=.returned (.int .i64 (pcTo 32 x.toNat:Nat))∧∃ n,w'=w.drewN n:=by
 have i1:x / 16777216≤255:=by omega
 have i2:x / 65536 % 256≤255:=by omega
 have i3:x / 256 % 256≤255:=by omega
 have i4:x % 256≤255:=by omega
 have j1:0≤x / 16777216:=by omega
 have j2:0≤x / 65536 % 256:=by omega
 have j3:0≤x / 256 % 256:=by omega
 have j4:0≤x % 256:=by omega
 have e2:=ZcD (x / 65536) (by omega) (by omega);have e3:=ZcD (x / 256) (by omega) (by omega);have e4:=ZcD x h0 (by omega);have b1:=ZeE _ j1 i1;have b2:=ZeE _ j2 i2;have b3:=ZeE _ j3 i3;have b4:=ZeE _ j4 i4;go_enter Tryz.func120,Tryz.ntmps120;go_wp2;go_quiet (fail);go_wp2;go_ret;exact ⟨ZeI (pc_bytes_int x h0 h1),nq,rfl⟩
def onesZ (n:Int):Nat:=if n<0 then 0 else pcTo 32 n.toNat
theorem ones_neg (n:Int) (w:World) (h0:n<0) :
  Calls Tryz.prog 119 #[.int .i64 n] w fun e w'=>e=.returned (.int .i64 0)∧w'=w:=by
 go_enter Tryz.func119,Tryz.ntmps119;go_wp2;go_ret;exact ⟨rfl,rfl⟩
theorem ones_pos (n:Int) (w:World) (h0:0≤n) :
  Calls Tryz.prog 119 #[.int .i64 n] w fun e w'=>e=.returned (.int .i64 (pcTo 32 n.toNat:Nat))∧∃ k,w'=w.drewN k:=by
 have hn:¬ n<0:=by omega
 have hl:((n % 4294967296).toNat)=n.toNat % 2 ^ 32:=by omega
 have HL:Hid ((n % 4294967296).toNat=n.toNat % 2 ^ 32):=hl;clear hl;go_enter Tryz.func119,Tryz.ntmps119;go_wp2_with (go_at_call 120; refine (cnt_any _ _ (by omega) (by omega)).mono ?_; rintro e w' ⟨rfl,nq,rfl⟩);go_ret;exact ⟨ZeI (by rw [HL.out,Zc7 32 _ 32 (Nat.le_refl _)]),nq,rfl⟩
theorem ones_any (n:Int) (w:World) :
  Calls Tryz.prog 119 #[.int .i64 n] w fun e w'=>e=.returned (.int .i64 (onesZ n:Nat))∧∃ k,w'=w.drewN k:=by
 by_cases h:n<0
 ·refine (ones_neg n w h).mono ?_;rintro e w' ⟨rfl,rfl⟩;exact ⟨ZeI (by simp [onesZ,h]),0,rfl⟩
 ·refine (ones_pos n w (by omega)).mono ?_;rintro e w' ⟨rfl,k,rfl⟩;exact ⟨ZeI (by simp [onesZ,h]),k,rfl⟩
end Go.Proofs.YtkigbanldiialaaGreatDoor
