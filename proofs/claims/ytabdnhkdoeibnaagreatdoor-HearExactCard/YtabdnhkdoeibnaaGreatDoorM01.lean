/-
  Plain facts on numbers: how many of a number's lowest bits are 1 ('pcTo k n'), by parts, with one bit more or less. No program is spoken of.
-/
import Derived.Laws.BitsLemmas
import Derived.Lib.BitFns
namespace Go.Proofs.YtabdnhkdoeibnaaGreatDoor
def pcTo:Nat→Nat→Nat
 | 0,_=>0
 | k+1,n=>pcTo k n+(n.testBit k).toNat
theorem ZbN (k n:Nat):pcTo (k+1) n=pcTo k n+(n.testBit k).toNat:=rfl
theorem ZdB (k n:Nat):pcTo k n≤k:=by
 induction k with
 | zero=>exact Nat.le_refl _
 | succ k ih=>rw [ZbN]; have:=Bool.toNat_le (n.testBit k); omega
theorem pcTo_congr (k n m:Nat) (h:∀ i,i<k→n.testBit i=m.testBit i):pcTo k n=pcTo k m:=by
 induction k with
 | zero=>rfl
 | succ k ih=>rw [ZbN,ZbN,ih (fun i hi=>h i (by omega)),h k (by omega)]
theorem Zeg (a b n:Nat):pcTo (a+b) n=pcTo a n+pcTo b (n >>> a):=by
 induction b with
 | zero=>rfl
 | succ b ih=>rw [← Nat.add_assoc,ZbN,ih,ZbN,Nat.testBit_shiftRight]; omega
theorem Zeh (k n m:Nat) (h:k≤m):pcTo k (n % 2 ^ m)=pcTo k n :=
 pcTo_congr k _ _ fun i hi=>by rw [Nat.testBit_mod_two_pow]; simp; omega
theorem pop8_pc:∀ n:Fin 256,Lib.pop8 (n.val:Int)=(pcTo 8 n.val:Int):=by decide +kernel
theorem Zes (x:Int) (h0:0≤x) (h1:x≤255):Lib.pop8 x=(pcTo 8 x.toNat:Int):=by
 have e:=pop8_pc ⟨x.toNat,by omega⟩;simp only [Int.toNat_of_nonneg h0] at e;exact e
theorem pc_bytes (n:Nat) (_h:n<4294967296):pcTo 32 n=pcTo 8 (n / 16777216)+pcTo 8 (n / 65536 % 256)+pcTo 8 (n / 256 % 256)+pcTo 8 (n % 256):=by
 rw [show (32:Nat)=8+(8+(8+8)) from rfl,Zeg 8,Zeg 8 (8+8),Zeg 8 8];simp only [Nat.shiftRight_eq_div_pow,Nat.div_div_eq_div_mul];have e1:=Zeh 8 n 8 (Nat.le_refl _);have e2:=Zeh 8 (n / 2 ^ 8) 8 (Nat.le_refl _);have e3:=Zeh 8 (n / (2 ^ 8 * 2 ^ 8)) 8 (Nat.le_refl _);rw [← e1,← e2,← e3];simp only [Nat.reducePow,Nat.reduceMul];omega
theorem pc_bytes_int (x:Int) (h0:0≤x) (h1:x≤4294967295) :
  Lib.pop8 (x / 16777216)+Lib.pop8 (x / 65536 % 256)+Lib.pop8 (x / 256 % 256)+Lib.pop8 (x % 256)=(pcTo 32 x.toNat:Int):=by
 obtain ⟨n,rfl⟩:=Int.eq_ofNat_of_zero_le h0;rw [Zes _ (by omega) (by omega),Zes _ (by omega) (by omega),Zes _ (by omega) (by omega),Zes _ (by omega) (by omega),Int.toNat_natCast,pc_bytes n (by omega)];have a1:((n:Int) / 16777216).toNat=n / 16777216:=by omega
 have a2:((n:Int) / 65536 % 256).toNat=n / 65536 % 256:=by omega
 have a3:((n:Int) / 256 % 256).toNat=n / 256 % 256:=by omega
 have a4:((n:Int) % 256).toNat=n % 256:=by omega
 rw [a1,a2,a3,a4];omega
theorem Zf7 (x:Int) (h0:0≤x) (h1:x≤255):0≤Lib.pop8 x∧Lib.pop8 x≤8:=by
 rw [Zes x h0 h1];have:=ZdB 8 x.toNat;omega
theorem ZdC (x:Int) (h0:0≤x) (h1:x<4294967296):bits .and .u32 x 255=x % 256 :=
 bits_mask .u32 32 (by decide) (fun n a b=>by rw [IntKind.wrap_u32]; omega) 8 (by decide) x h0 (by simpa using h1)
theorem Zet (n:Int) (h0:0≤n) (h1:n<2 ^ 63):IntKind.i64.wrap n=n:=by
 have e:(2:Int) ^ 63=9223372036854775808:=by decide
 rw [e] at h1; rw [IntKind.wrap_i64]; omega
theorem Zhl (i:Nat) (hi:i≤63) (x:Int) (h0:0≤x) (h1:x<2 ^ 63):bits .and .i64 x (2 ^ i-1)=x % 2 ^ i :=
 bits_mask .i64 63 (by decide) Zet i hi x h0 h1
theorem Zgy (x:Int) (h0:0≤x) (h1:x≤9223372036854775807):bits .and .i64 x 15=x % 16:=by
 have e63:(2:Int) ^ 63=9223372036854775808:=by decide
 have e:=Zhl 4 (by decide) x h0 (by rw [e63]; omega);simpa using e
theorem bit_at (n:Int) (k:Nat) (h0:0≤n) (h1:n≤9223372036854775807):bits .and .i64 (n / 2 ^ k) 1=((n.toNat.testBit k).toNat:Int):=by
 obtain ⟨m,rfl⟩:=Int.eq_ofNat_of_zero_le h0;have hd:((m:Int) / 2 ^ k)=((m / 2 ^ k:Nat):Int):=by simp
 have hle:m / 2 ^ k≤m:=Nat.div_le_self _ _
 have e:=Zhl 1 (by decide) ((m / 2 ^ k:Nat):Int) (Int.natCast_nonneg _) (by
  have e63:(2:Int) ^ 63=9223372036854775808:=by decide
  rw [e63]; have:=Int.ofNat_le.2 hle; omega)
 have e1:((2:Int) ^ 1-1)=1:=by decide
 rw [e1] at e;rw [hd,e,Int.toNat_natCast,Nat.toNat_testBit];simp
end Go.Proofs.YtabdnhkdoeibnaaGreatDoor
