/-
  A place in a row out of any number; a beginning of a row that is held. No function of the program is spoken of.
-/
import Derived.Test.YtmjbphbjaedlpaaKept
namespace Go.Proofs.Ytmjbphbjaedlpaa
open Go.RowKit

theorem at_place (at_ d : Int) (hd : 0 < d) : ∃ p : Nat, (p : Int) < d ∧ (IntKind.u64.wrap at_).tmod d = (p : Int) := by
  have h0 : 0 ≤ IntKind.u64.wrap at_ := by rw [IntKind.wrap_u64]; omega
  have h1 := Int.tmod_nonneg d h0
  have h2 := Int.tmod_lt_of_pos (IntKind.u64.wrap at_) hd
  exact ⟨((IntKind.u64.wrap at_).tmod d).toNat, by omega, by omega⟩

theorem isRow_cap {k : IntKind} {w : World} {a : Option Addr} {len cap : Nat} {zs : List Int} (h : IsRow k w a len cap zs) : len ≤ cap := by
  rcases h with ⟨_, rfl, _, _⟩ | ⟨_, _, h, _⟩
  · omega
  · exact h

theorem holds_take {kd : IntKind} {n₀ cap : Nat} {w : World} {a : Option Addr} {n : Nat} {zs : List Int} (hn : zs.length = n) (h : Holds kd n₀ w (.slice a n cap) zs) (k : Nat) (hk : k ≤ n) : Holds kd n₀ w (.slice a k cap) (zs.take k) := by
  subst hn
  have hl : (zs.take k).length = k := by rw [List.length_take]; omega
  rcases h with ⟨⟨a', c, e, ha⟩, hz⟩ | ⟨b, off, c, e, hb, hc⟩
  · subst hz
    cases e
    obtain rfl : k = 0 := by simpa using hk
    exact .inl ⟨⟨_, _, rfl, ha⟩, by simp⟩
  · cases e
    refine .inr ⟨b, off, cap, by rw [hl], hb, fun j hj => ?_⟩
    rw [hl] at hj
    rw [hc j (by omega), List.getElem?_take, if_pos (by omega)]

/-- Where a row that is held lies: its cells, one by one. -/
theorem holds_at {kd : IntKind} {n₀ n cap : Nat} {W : World} {a : Option Addr} {zs : List Int} (h : Holds kd n₀ W (.slice a n cap) zs) (hl : zs.length = n) (h0 : 0 < n) :
    ∃ b off, a = some ⟨b, off, none⟩ ∧ b < n₀ ∧ ∀ (j : Nat) (z : Int), zs[j]? = some z → W.cell? ⟨b, off + j, none⟩ = some (.int kd z) := by
  subst hl
  rcases h with ⟨_, e⟩ | ⟨b, off, c', e, hb, hcs⟩
  · rw [e] at h0; simp at h0
  · cases e
    refine ⟨b, off, rfl, hb, fun j z hz => ?_⟩
    have hj := (List.getElem?_eq_some_iff.1 hz).1
    exact (hcs j hj).trans (by rw [hz]; rfl)

end Go.Proofs.Ytmjbphbjaedlpaa
