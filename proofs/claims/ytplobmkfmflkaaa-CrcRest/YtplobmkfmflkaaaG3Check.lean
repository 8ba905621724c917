/-
  What gf2.check answers of rows that are not too long: 0 where all their numbers are 0 or 1, else 1.
-/
import Derived.Test.YtplobmkfmflkaaaG3Trim
namespace Go.Proofs.Ytplobmkfmflkaaa
open Go.RowKit

/-- A row of rows, as check is handed it. -/
structure RowsAt (w : World) (g n₀ : Nat) (vs : List Value) (zss : List (List Int)) : Prop where
  len : vs.length = zss.length
  cell : ∀ (j : Nat) v, vs[j]? = some v → w.cell? ⟨g, j, none⟩ = some v
  held : ∀ (j : Nat) v zs, vs[j]? = some v → zss[j]? = some zs → Holds .i64 n₀ w v zs
  short : ∀ zs ∈ zss, zs.length ≤ 32768

theorem bin_snoc {zs : List Int} {k : Nat} {x : Int} (h : Bin (zs.take k)) (hx : zs[k]? = some x) (h01 : x = 0 ∨ x = 1) : Bin (zs.take (k + 1)) := by
  rw [List.take_add_one, hx]
  exact h.append (fun y hy => by simp at hy; subst hy; exact h01)

set_option maxRecDepth 100000 in
set_option maxHeartbeats 4000000 in
theorem check_any (g n₀ n : Nat) (vs : List Value) (zss : List (List Int)) (hn : n = vs.length) (hn2 : n ≤ 4294967296) (w : World) (h : RowsAt w g n₀ vs zss) :
    Calls Try.prog 34 #[.slice (some ⟨g, 0, none⟩) n n] w fun e w' => (∃ r : Int, e = .returned (.int .i64 r) ∧ (r = 0 ∧ (∀ zs ∈ zss, Bin zs) ∨ r = 1 ∧ ¬ ∀ zs ∈ zss, Bin zs)) ∧ ∃ q, w' = w.drewN q := by
  have HH : Hid (RowsAt w g n₀ vs zss ∧ n = vs.length) := ⟨h, hn⟩
  clear h hn
  go_enter Try.func34, Try.ntmps34
  go_wp2
  go_loopw [11] (fun i wr => ∃ k q : Nat, k ≤ n ∧ i = .int .i64 k ∧ wr = w.drewN q) (fun i _ => n - (intOf i).toNat)
  case atStart => exact ⟨0, 0, Nat.zero_le _, rfl, rfl⟩
  case round =>
    obtain ⟨k, q, hk, rfl, rfl⟩ := hrel
    by_cases hlt : k < n
    · obtain ⟨v, zs, hv, hz⟩ : ∃ v zs, vs[k]? = some v ∧ zss[k]? = some zs := by
        have h1 := HH.out.2
        have h2 := HH.out.1.len
        exact ⟨vs[k]'(by omega), zss[k]'(by omega), by simp, by simp⟩
      have c1 : ∀ p, (w.drewN p).cell? ⟨g, k, none⟩ = some v := fun p => HH.out.1.cell k v hv
      obtain ⟨a, cap, rfl⟩ := (HH.out.1.held k v zs hv hz).shape
      have hs : zs.length ≤ 32768 := HH.out.1.short zs (List.mem_of_getElem? hz)
      clear hv hz
      go_wp2
      go_roundw
      case rel => exact ⟨k + 1, q, by omega, by go_num, rfl⟩
      case measure => simp [intOf]; omega
    · obtain rfl : k = n := by omega
      clear hlt hk
      go_wp2
      go_loopw [21] (fun i wr => ∃ k' q : Nat, k' ≤ k ∧ i = .int .i64 k' ∧ (∀ zs ∈ zss.take k', Bin zs) ∧ wr = w.drewN q) (fun i _ => k - (intOf i).toNat)
      case atStart => exact ⟨0, q, Nat.zero_le _, rfl, by simp, rfl⟩
      case round =>
        obtain ⟨j, q2, hj, rfl, hbin, rfl⟩ := hrel
        have HB : Hid (∀ zs ∈ zss.take j, Bin zs) := hbin
        clear hbin
        by_cases hlt : j < k
        · obtain ⟨v, zs, hv, hz⟩ : ∃ v zs, vs[j]? = some v ∧ zss[j]? = some zs := by
            have h1 := HH.out.2
            have h2 := HH.out.1.len
            exact ⟨vs[j]'(by omega), zss[j]'(by omega), by simp, by simp⟩
          have c1 : ∀ p, (w.drewN p).cell? ⟨g, j, none⟩ = some v := fun p => HH.out.1.cell j v hv
          have hH := HH.out.1.held j v zs hv hz
          obtain ⟨a, cap, rfl⟩ := hH.shape
          have hs : zs.length ≤ 32768 := HH.out.1.short zs (List.mem_of_getElem? hz)
          have HZ : Hid (zss[j]? = some zs) := hz
          have H1 : Hid (Holds .i64 n₀ w (.slice a zs.length cap) zs) := hH
          clear hv hz hH
          go_wp2
          go_loopw [27] (fun i wr => ∃ i' q : Nat, i' ≤ zs.length ∧ i = .int .i64 i' ∧ Bin (zs.take i') ∧ wr = w.drewN q) (fun i _ => zs.length - (intOf i).toNat)
          case atStart => exact ⟨0, q2, Nat.zero_le _, rfl, Bin.nil, rfl⟩
          case round =>
            obtain ⟨i, q3, hi, rfl, hbi, rfl⟩ := hrel
            have HI : Hid (Bin (zs.take i)) := hbi
            clear hbi
            by_cases hil : i < zs.length
            · obtain ⟨x, hx⟩ : ∃ x, zs[i]? = some x := ⟨zs[i], by simp⟩
              rcases H1.out with ⟨_, e⟩ | ⟨b, off, c, e, _, hc⟩
              · rw [e] at hil; simp at hil
              · cases e
                have c2 : ∀ p, (w.drewN p).cell? ⟨b, off + i, none⟩ = some (.int .i64 x) := fun p => (hc i hil).trans (by rw [hx]; rfl)
                have HX : Hid (zs[i]? = some x) := hx
                clear hc hx
                by_cases h0 : x = 0
                · subst h0
                  go_wp2
                  go_roundw
                  case rel => exact ⟨i + 1, q3, by omega, by go_num, bin_snoc HI.out HX.out (.inl rfl), rfl⟩
                  case measure => simp [intOf]; omega
                · by_cases h1 : x = 1
                  · subst h1
                    clear h0
                    go_wp2
                    go_roundw
                    case rel => exact ⟨i + 1, q3, by omega, by go_num, bin_snoc HI.out HX.out (.inr rfl), rfl⟩
                    case measure => simp [intOf]; omega
                  · have d0 : (x != 0) = true := by simp [h0]
                    have d1 : (x != 1) = true := by simp [h1]
                    have HN : Hid (¬ ∀ zs ∈ zss, Bin zs) := fun hall => ((hall zs (List.mem_of_getElem? HZ.out)).get HX.out).elim h0 h1
                    clear h0 h1
                    go_wp2
                    go_ret
                    exact ⟨⟨1, rfl, .inr ⟨rfl, HN.out⟩⟩, q3, rfl⟩
            · obtain rfl : i = zs.length := by omega
              have HB2 : Hid (∀ zs ∈ zss.take (j + 1), Bin zs) := by
                intro ys hys
                rw [List.take_add_one, HZ.out] at hys
                rcases List.mem_append.1 hys with h | h
                · exact HB.out ys h
                · simp at h; subst h; have := HI.out; rwa [List.take_length] at this
              clear hil
              go_wp2
              go_roundw
              case rel => exact ⟨j + 1, q3, by omega, by go_num, HB2.out, rfl⟩
              case measure => simp [intOf]; omega
        · obtain rfl : j = k := by omega
          have HA : Hid (∀ zs ∈ zss, Bin zs) := by
            have h1 := HH.out.2
            have h2 := HH.out.1.len
            have := HB.out
            rwa [List.take_of_length_le (by omega)] at this
          clear hlt hj
          go_wp2
          go_ret
          exact ⟨⟨0, rfl, .inl ⟨rfl, HA.out⟩⟩, q2, rfl⟩

end Go.Proofs.Ytplobmkfmflkaaa
