/-
  What the page's Cost answers, of symbols that may be asked.
-/
import Derived.Test.YtddcloanbpkecaaDoorCostNums
import Derived.Test.YtddcloanbpkecaaDoorOnes
import Derived.Test.YtddcloanbpkecaaDoorRefSymbol
import Derived.Test.YtddcloanbpkecaaDoorIntBits
namespace Go.Proofs.YtddcloanbpkecaaDoor
open Go.RowKit

theorem take_snoc_cost {l : List (Int × Int)} {k : Nat} {x : Int × Int} (hz : l[k]? = some x) : l.take (k + 1) = l.take k ++ [x] := by rw [List.take_add_one, hz]; rfl
theorem onesZ_byte (x : Nat) : onesZ (x : Int) = pcTo 32 x := by
  unfold onesZ
  rw [if_neg (by omega), Int.toNat_natCast]

set_option maxRecDepth 100000 in
set_option maxHeartbeats 2000000 in
theorem refCost_any (s : Nat) (hs : s < 4294967296) (a : Option Addr) (cap : Nat) (l : List (Int × Int)) (hl : l.length ≤ 4294967296) (hc : CostOk l) (w : World) (n₀ : Nat) (ha : Syms n₀ w (.slice a l.length cap) l) :
    Calls Tryd.prog 53 #[.int .u32 s, .slice a l.length cap] w fun e w' => e = .returned (.int .i64 ((costN s l : Nat) : Int)) ∧ ∃ n, w' = w.drewN n := by
  have HC : Hid (CostOk l) := hc
  clear hc
  go_enter Tryd.func53, Tryd.ntmps53
  go_wp2
  go_loopw [5, 6] (fun v i wr => ∃ k nd : Nat, k ≤ l.length ∧ i = .int .i64 k ∧ v = .int .i64 ((costN s (l.take k) : Nat) : Int) ∧ wr = w.drewN nd) (fun _ i _ => l.length - (intOf i).toNat)
  case atStart => exact ⟨0, 0, Nat.zero_le _, rfl, rfl, rfl⟩
  case round =>
    obtain ⟨k, nd, hk, rfl, rfl, rfl⟩ := hrel
    by_cases hlt : k < l.length
    · obtain ⟨⟨at_, val⟩, hx⟩ : ∃ x, l[k]? = some x := ⟨l[k], by simp⟩
      obtain ⟨b, off, rfl, hb, hcell⟩ := syms_at ha rfl (by omega)
      obtain ⟨c1, c2⟩ := hcell k _ hx
      have hok := HC.out _ (List.mem_of_getElem? hx)
      simp only at hok c1 c2
      obtain ⟨A, rfl⟩ := Int.eq_ofNat_of_zero_le (a := at_) hok.1
      obtain ⟨V, rfl⟩ := Int.eq_ofNat_of_zero_le (a := val) hok.2.2.1
      have f1 : ∀ q, (w.drewN q).cell? ⟨b, off + k * 2, none⟩ = some (.int .i64 (A : Int)) := fun q => c1
      have f2 : ∀ q, (w.drewN q).cell? ⟨b, off + k * 2 + 1, none⟩ = some (.int .i64 (V : Int)) := fun q => c2
      have hA : A ≤ 4294967295 := by omega
      have hsy := symN_lt s A
      have hxl : symN s A ^^^ V < 256 := xor_byte hsy (by omega)
      have ex : bits .xor .i64 ((symN s A : Nat) : Int) (V : Int) = ((symN s A ^^^ V : Nat) : Int) := zi_xor _ _ (by omega) (by omega)
      have hle := costN_le (s := s) (HC.out.take k)
      have hle2 := oneCost_le (s := s) (x := ((A : Int), (V : Int))) ⟨by simp, by simp; omega⟩
      have HNX : Hid (costN s (l.take (k + 1)) = costN s (l.take k) + pcTo 32 (symN s A ^^^ V)) := by
        show costN s (l.take (k + 1)) = _
        rw [take_snoc_cost hx, costN_snoc]
        rfl
      have hlk : (l.take k).length ≤ 4294967296 := by rw [List.length_take]; omega
      obtain ⟨y, hy⟩ : ∃ y, symN s A = y := ⟨_, rfl⟩
      have HY : Hid (symN s A = y) := hy
      rw [hy] at ex hxl HNX hsy
      obtain ⟨x, hxe⟩ : ∃ x, y ^^^ V = x := ⟨_, rfl⟩
      rw [hxe] at ex hxl HNX
      have HO : Hid (onesZ (x : Int) = pcTo 32 x) := onesZ_byte x
      have hp32 := pcTo_le 32 x
      obtain ⟨t, hte⟩ : ∃ t, pcTo 32 x = t := ⟨_, rfl⟩
      rw [hte] at HO HNX hp32
      obtain ⟨C, hCe⟩ : ∃ C, costN s (l.take k) = C := ⟨_, rfl⟩
      rw [hCe] at HNX hle ⊢
      have ew : IntKind.i64.wrap ((C : Int) + (t : Int)) = ((C + t : Nat) : Int) := by rw [IntKind.wrap_i64]; omega
      have kc1 : ∀ W : World, Calls Tryd.prog 71 #[.int .u32 s, .int .i64 A] W fun e w' => e = .returned (.int .i64 (y : Int)) ∧ w' = W := fun W => by
        refine (refSymbol_any s A hs hA W).mono ?_
        rw [HY.out]
        rintro e w' ⟨h1, h2⟩
        exact ⟨h1, h2.symm⟩
      have kc2 : ∀ W : World, Calls Tryd.prog 70 #[.int .i64 x] W fun e w' => e = .returned (.int .i64 (t : Int)) ∧ w' = W := fun W => by
        have := refOnes_any (x : Int) W (by omega)
        rwa [HO.out] at this
      have KC1 : Hid _ := kc1
      have KC2 : Hid _ := kc2
      clear hcell hok hx hy hxe hte hCe c1 c2 kc1 kc2 hle2
      go_wp2
      go_quiet (first | (go_at_call 71; exact (KC1.out _).mono fun e w' h => ⟨h.1, _, h.2⟩) | (go_at_call 70; exact (KC2.out _).mono fun e w' h => ⟨h.1, _, h.2⟩))
      go_wp2
      refine ⟨⟨k + 1, nd + nq, by omega, by go_num, by rw [HNX.out]; simp, by simp⟩, by simp [intOf]; omega⟩
    · obtain rfl : k = l.length := by omega
      have HT : Hid (l.take l.length = l) := List.take_length
      rw [HT.out]
      obtain ⟨C, hCe⟩ : ∃ C, costN s l = C := ⟨_, rfl⟩
      have HCE : Hid (costN s l = C) := hCe
      rw [hCe]
      clear hCe
      go_wp2
      go_ret
      exact ⟨by rw [HCE.out]; rfl, nd, rfl⟩

end Go.Proofs.YtddcloanbpkecaaDoor
