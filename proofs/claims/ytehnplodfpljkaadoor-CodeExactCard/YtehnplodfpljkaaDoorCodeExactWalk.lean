/-
  CodeExact: the walk: whatever the bytes and the numbers, the law answers true, and nothing that lay has turned. (Written by tpl_codeexact.py, a case a theorem.)
-/
import Derived.Test.YtehnplodfpljkaaDoorCodeWakes
import Derived.Test.YtehnplodfpljkaaDoorRefEncode
import Derived.Test.YtehnplodfpljkaaDoorKeepBytes
import Derived.Test.YtehnplodfpljkaaDoorTwins
namespace Go.Proofs.YtehnplodfpljkaaDoor
open Go.RowKit

theorem Segs_in (k : Int) (h0 : 0 ≤ k) (h1 : k ≤ 32) (w : World) : Calls Tryd.prog 11 #[.int .i64 k] w fun e w' => e = .returned (.int .i64 (2 * k)) ∧ w = w' := by
  have := Segs_any k w
  rwa [if_pos ⟨h0, h1⟩] at this
theorem Segs_out (k : Int) (h : ¬ (0 ≤ k ∧ k ≤ 32)) (w : World) : Calls Tryd.prog 11 #[.int .i64 k] w fun e w' => e = .returned (.int .i64 0) ∧ w = w' := by
  have := Segs_any k w
  rwa [if_neg h] at this

set_option maxRecDepth 100000 in
set_option maxHeartbeats 2000000 in
theorem codeExact_far (a : Option Addr) (n cap : Nat) (f c : Int) (w : World) (h : 100 < n) :
    Calls Tryd.prog 3 #[.slice a n cap, .int .i64 f, .int .i64 c] w fun e w' => e = .returned (.bool true) ∧ Below w.heap.size w w' := by
  go_enter Tryd.func3, Tryd.ntmps3
  go_wp2
  go_ret
  exact ⟨rfl, Below.refl _ _⟩

set_option maxRecDepth 100000 in
set_option maxHeartbeats 4000000 in
theorem codeExact_FewIn (a : Option Addr) (cap : Nat) (zs : List Int) (bz : ∀ z ∈ zs, 0 ≤ z ∧ z ≤ 255) (f c : Int) (hf : -9223372036854775808 ≤ f ∧ f ≤ 9223372036854775807) (hc : -9223372036854775808 ≤ c ∧ c ≤ 9223372036854775807) (f0 : 0 ≤ f) (f1 : f ≤ 32) (hl : zs.length < 1) (w : World) (hF : Firsts w) (ha : Holds .u8 w.heap.size w (.slice a zs.length cap) zs) :
    Calls Tryd.prog 3 #[.slice a zs.length cap, .int .i64 f, .int .i64 c] w fun e w' => e = .returned (.bool true) ∧ Below w.heap.size w w' := by
  have df0 : decide (0 ≤ f) = true := decide_eq_true f0
  have df1 : decide (f ≤ 32) = true := decide_eq_true f1
  have nf0 : decide (f < 0) = false := decide_eq_false (by omega)
  have nn : (2 * f != 2 * f) = false := by simp
  have dl : decide ((zs.length : Int) < 1) = true := decide_eq_true (by omega)
  have HF : Hid (-9223372036854775808 ≤ f ∧ f ≤ 9223372036854775807) := hf
  have HCC : Hid (-9223372036854775808 ≤ c ∧ c ≤ 9223372036854775807) := hc
  have HB : Hid (∀ z ∈ zs, 0 ≤ z ∧ z ≤ 255) := bz
  clear hf hc bz
  go_enter Tryd.func3, Tryd.ntmps3
  go_wp2_with fail
  refine (twin_any _ zs _ (by omega) w ha).mono ?_
  rintro e w1 ⟨r1, rfl, o1, b1⟩
  have h1 := holds_of_row o1
  obtain ⟨a1, c1, rfl⟩ := h1.shape
  have ha1 := ha.next b1
  have hF1 := hF.next b1
  clear o1 ha
  go_wp2_with fail
  refine (Encode_len a1 zs.length c1 f c (by omega) w1).mono ?_
  rintro e w2 ⟨rfl, b2⟩
  have h2 := h1.next b2
  have ha2 := ha1.next b2
  have hF2 := hF1.next b2
  clear h1 ha1
  go_wp2_with fail
  refine (bytes_any _ _ zs zs _ _ w2 (by omega) h2 ha2).mono ?_
  rw [decide_eq_true rfl]
  rintro e w3 ⟨rfl, q3, rfl⟩
  go_wp2_with fail
  refine (Segs_in f f0 f1 _).mono ?_
  rintro e w4 ⟨rfl, rfl⟩
  go_wp2_with fail
  refine (codeWakes_any _ (hF2.drewN q3)).mono ?_
  rintro e w5 ⟨rfl, b5⟩
  go_wp2
  go_ret
  have bb1 := b1.trans (b2.mono b1.size)
  have bb2 := below_drewN bb1 q3
  exact ⟨rfl, bb2.trans (b5.mono bb2.size)⟩

set_option maxRecDepth 100000 in
set_option maxHeartbeats 4000000 in
theorem codeExact_ManyIn (a : Option Addr) (cap : Nat) (zs : List Int) (bz : ∀ z ∈ zs, 0 ≤ z ∧ z ≤ 255) (f c : Int) (hf : -9223372036854775808 ≤ f ∧ f ≤ 9223372036854775807) (hc : -9223372036854775808 ≤ c ∧ c ≤ 9223372036854775807) (f0 : 0 ≤ f) (f1 : f ≤ 32) (hl : 32 < zs.length) (h100 : zs.length ≤ 100) (w : World) (hF : Firsts w) (ha : Holds .u8 w.heap.size w (.slice a zs.length cap) zs) :
    Calls Tryd.prog 3 #[.slice a zs.length cap, .int .i64 f, .int .i64 c] w fun e w' => e = .returned (.bool true) ∧ Below w.heap.size w w' := by
  have df0 : decide (0 ≤ f) = true := decide_eq_true f0
  have df1 : decide (f ≤ 32) = true := decide_eq_true f1
  have nf0 : decide (f < 0) = false := decide_eq_false (by omega)
  have nn : (2 * f != 2 * f) = false := by simp
  have dl : decide ((zs.length : Int) < 1) = false := decide_eq_false (by omega)
  have dn : decide (64 < 2 * (zs.length : Int)) = true := decide_eq_true (by omega)
  have HF : Hid (-9223372036854775808 ≤ f ∧ f ≤ 9223372036854775807) := hf
  have HCC : Hid (-9223372036854775808 ≤ c ∧ c ≤ 9223372036854775807) := hc
  have HB : Hid (∀ z ∈ zs, 0 ≤ z ∧ z ≤ 255) := bz
  clear hf hc bz
  go_enter Tryd.func3, Tryd.ntmps3
  go_wp2_with fail
  refine (twin_any _ zs _ (by omega) w ha).mono ?_
  rintro e w1 ⟨r1, rfl, o1, b1⟩
  have h1 := holds_of_row o1
  obtain ⟨a1, c1, rfl⟩ := h1.shape
  have ha1 := ha.next b1
  have hF1 := hF.next b1
  clear o1 ha
  go_wp2_with fail
  refine (Encode_len a1 zs.length c1 f c (by omega) w1).mono ?_
  rintro e w2 ⟨rfl, b2⟩
  have h2 := h1.next b2
  have ha2 := ha1.next b2
  have hF2 := hF1.next b2
  clear h1 ha1
  go_wp2_with fail
  refine (bytes_any _ _ zs zs _ _ w2 (by omega) h2 ha2).mono ?_
  rw [decide_eq_true rfl]
  rintro e w3 ⟨rfl, q3, rfl⟩
  go_wp2_with fail
  refine (Segs_in f f0 f1 _).mono ?_
  rintro e w4 ⟨rfl, rfl⟩
  go_wp2_with fail
  refine (codeWakes_any _ (hF2.drewN q3)).mono ?_
  rintro e w5 ⟨rfl, b5⟩
  go_wp2
  go_ret
  have bb1 := b1.trans (b2.mono b1.size)
  have bb2 := below_drewN bb1 q3
  exact ⟨rfl, bb2.trans (b5.mono bb2.size)⟩

set_option maxRecDepth 100000 in
set_option maxHeartbeats 4000000 in
theorem codeExact_FewNeg (a : Option Addr) (cap : Nat) (zs : List Int) (bz : ∀ z ∈ zs, 0 ≤ z ∧ z ≤ 255) (f c : Int) (hf : -9223372036854775808 ≤ f ∧ f ≤ 9223372036854775807) (hc : -9223372036854775808 ≤ c ∧ c ≤ 9223372036854775807) (f0 : f < 0) (hl : zs.length < 1) (w : World) (hF : Firsts w) (ha : Holds .u8 w.heap.size w (.slice a zs.length cap) zs) :
    Calls Tryd.prog 3 #[.slice a zs.length cap, .int .i64 f, .int .i64 c] w fun e w' => e = .returned (.bool true) ∧ Below w.heap.size w w' := by
  have df0 : decide (0 ≤ f) = false := decide_eq_false (by omega)
  have nf0 : decide (f < 0) = true := decide_eq_true f0
  have dl : decide ((zs.length : Int) < 1) = true := decide_eq_true (by omega)
  have HF : Hid (-9223372036854775808 ≤ f ∧ f ≤ 9223372036854775807) := hf
  have HCC : Hid (-9223372036854775808 ≤ c ∧ c ≤ 9223372036854775807) := hc
  have HB : Hid (∀ z ∈ zs, 0 ≤ z ∧ z ≤ 255) := bz
  clear hf hc bz
  go_enter Tryd.func3, Tryd.ntmps3
  go_wp2_with fail
  refine (twin_any _ zs _ (by omega) w ha).mono ?_
  rintro e w1 ⟨r1, rfl, o1, b1⟩
  have h1 := holds_of_row o1
  obtain ⟨a1, c1, rfl⟩ := h1.shape
  have ha1 := ha.next b1
  have hF1 := hF.next b1
  clear o1 ha
  go_wp2_with fail
  refine (Encode_len a1 zs.length c1 f c (by omega) w1).mono ?_
  rintro e w2 ⟨rfl, b2⟩
  have h2 := h1.next b2
  have ha2 := ha1.next b2
  have hF2 := hF1.next b2
  clear h1 ha1
  go_wp2_with fail
  refine (bytes_any _ _ zs zs _ _ w2 (by omega) h2 ha2).mono ?_
  rw [decide_eq_true rfl]
  rintro e w3 ⟨rfl, q3, rfl⟩
  go_wp2_with fail
  refine (Segs_out f (by omega) _).mono ?_
  rintro e w4 ⟨rfl, rfl⟩
  go_wp2_with fail
  refine (codeWakes_any _ (hF2.drewN q3)).mono ?_
  rintro e w5 ⟨rfl, b5⟩
  go_wp2
  go_ret
  have bb1 := b1.trans (b2.mono b1.size)
  have bb2 := below_drewN bb1 q3
  exact ⟨rfl, bb2.trans (b5.mono bb2.size)⟩

set_option maxRecDepth 100000 in
set_option maxHeartbeats 4000000 in
theorem codeExact_ManyNeg (a : Option Addr) (cap : Nat) (zs : List Int) (bz : ∀ z ∈ zs, 0 ≤ z ∧ z ≤ 255) (f c : Int) (hf : -9223372036854775808 ≤ f ∧ f ≤ 9223372036854775807) (hc : -9223372036854775808 ≤ c ∧ c ≤ 9223372036854775807) (f0 : f < 0) (hl : 32 < zs.length) (h100 : zs.length ≤ 100) (w : World) (hF : Firsts w) (ha : Holds .u8 w.heap.size w (.slice a zs.length cap) zs) :
    Calls Tryd.prog 3 #[.slice a zs.length cap, .int .i64 f, .int .i64 c] w fun e w' => e = .returned (.bool true) ∧ Below w.heap.size w w' := by
  have df0 : decide (0 ≤ f) = false := decide_eq_false (by omega)
  have nf0 : decide (f < 0) = true := decide_eq_true f0
  have dl : decide ((zs.length : Int) < 1) = false := decide_eq_false (by omega)
  have dn : decide (64 < 2 * (zs.length : Int)) = true := decide_eq_true (by omega)
  have HF : Hid (-9223372036854775808 ≤ f ∧ f ≤ 9223372036854775807) := hf
  have HCC : Hid (-9223372036854775808 ≤ c ∧ c ≤ 9223372036854775807) := hc
  have HB : Hid (∀ z ∈ zs, 0 ≤ z ∧ z ≤ 255) := bz
  clear hf hc bz
  go_enter Tryd.func3, Tryd.ntmps3
  go_wp2_with fail
  refine (twin_any _ zs _ (by omega) w ha).mono ?_
  rintro e w1 ⟨r1, rfl, o1, b1⟩
  have h1 := holds_of_row o1
  obtain ⟨a1, c1, rfl⟩ := h1.shape
  have ha1 := ha.next b1
  have hF1 := hF.next b1
  clear o1 ha
  go_wp2_with fail
  refine (Encode_len a1 zs.length c1 f c (by omega) w1).mono ?_
  rintro e w2 ⟨rfl, b2⟩
  have h2 := h1.next b2
  have ha2 := ha1.next b2
  have hF2 := hF1.next b2
  clear h1 ha1
  go_wp2_with fail
  refine (bytes_any _ _ zs zs _ _ w2 (by omega) h2 ha2).mono ?_
  rw [decide_eq_true rfl]
  rintro e w3 ⟨rfl, q3, rfl⟩
  go_wp2_with fail
  refine (Segs_out f (by omega) _).mono ?_
  rintro e w4 ⟨rfl, rfl⟩
  go_wp2_with fail
  refine (codeWakes_any _ (hF2.drewN q3)).mono ?_
  rintro e w5 ⟨rfl, b5⟩
  go_wp2
  go_ret
  have bb1 := b1.trans (b2.mono b1.size)
  have bb2 := below_drewN bb1 q3
  exact ⟨rfl, bb2.trans (b5.mono bb2.size)⟩

set_option maxRecDepth 100000 in
set_option maxHeartbeats 4000000 in
theorem codeExact_FewHigh (a : Option Addr) (cap : Nat) (zs : List Int) (bz : ∀ z ∈ zs, 0 ≤ z ∧ z ≤ 255) (f c : Int) (hf : -9223372036854775808 ≤ f ∧ f ≤ 9223372036854775807) (hc : -9223372036854775808 ≤ c ∧ c ≤ 9223372036854775807) (f1 : 32 < f) (hl : zs.length < 1) (w : World) (hF : Firsts w) (ha : Holds .u8 w.heap.size w (.slice a zs.length cap) zs) :
    Calls Tryd.prog 3 #[.slice a zs.length cap, .int .i64 f, .int .i64 c] w fun e w' => e = .returned (.bool true) ∧ Below w.heap.size w w' := by
  have df0 : decide (0 ≤ f) = true := decide_eq_true (by omega)
  have df1 : decide (f ≤ 32) = false := decide_eq_false (by omega)
  have nf0 : decide (f < 0) = false := decide_eq_false (by omega)
  have dl : decide ((zs.length : Int) < 1) = true := decide_eq_true (by omega)
  have HF : Hid (-9223372036854775808 ≤ f ∧ f ≤ 9223372036854775807) := hf
  have HCC : Hid (-9223372036854775808 ≤ c ∧ c ≤ 9223372036854775807) := hc
  have HB : Hid (∀ z ∈ zs, 0 ≤ z ∧ z ≤ 255) := bz
  clear hf hc bz
  go_enter Tryd.func3, Tryd.ntmps3
  go_wp2_with fail
  refine (twin_any _ zs _ (by omega) w ha).mono ?_
  rintro e w1 ⟨r1, rfl, o1, b1⟩
  have h1 := holds_of_row o1
  obtain ⟨a1, c1, rfl⟩ := h1.shape
  have ha1 := ha.next b1
  have hF1 := hF.next b1
  clear o1 ha
  go_wp2_with fail
  refine (Encode_len a1 zs.length c1 f c (by omega) w1).mono ?_
  rintro e w2 ⟨rfl, b2⟩
  have h2 := h1.next b2
  have ha2 := ha1.next b2
  have hF2 := hF1.next b2
  clear h1 ha1
  go_wp2_with fail
  refine (bytes_any _ _ zs zs _ _ w2 (by omega) h2 ha2).mono ?_
  rw [decide_eq_true rfl]
  rintro e w3 ⟨rfl, q3, rfl⟩
  go_wp2_with fail
  refine (Segs_out f (by omega) _).mono ?_
  rintro e w4 ⟨rfl, rfl⟩
  go_wp2_with fail
  refine (codeWakes_any _ (hF2.drewN q3)).mono ?_
  rintro e w5 ⟨rfl, b5⟩
  go_wp2
  go_ret
  have bb1 := b1.trans (b2.mono b1.size)
  have bb2 := below_drewN bb1 q3
  exact ⟨rfl, bb2.trans (b5.mono bb2.size)⟩

set_option maxRecDepth 100000 in
set_option maxHeartbeats 4000000 in
theorem codeExact_ManyHigh (a : Option Addr) (cap : Nat) (zs : List Int) (bz : ∀ z ∈ zs, 0 ≤ z ∧ z ≤ 255) (f c : Int) (hf : -9223372036854775808 ≤ f ∧ f ≤ 9223372036854775807) (hc : -9223372036854775808 ≤ c ∧ c ≤ 9223372036854775807) (f1 : 32 < f) (hl : 32 < zs.length) (h100 : zs.length ≤ 100) (w : World) (hF : Firsts w) (ha : Holds .u8 w.heap.size w (.slice a zs.length cap) zs) :
    Calls Tryd.prog 3 #[.slice a zs.length cap, .int .i64 f, .int .i64 c] w fun e w' => e = .returned (.bool true) ∧ Below w.heap.size w w' := by
  have df0 : decide (0 ≤ f) = true := decide_eq_true (by omega)
  have df1 : decide (f ≤ 32) = false := decide_eq_false (by omega)
  have nf0 : decide (f < 0) = false := decide_eq_false (by omega)
  have dl : decide ((zs.length : Int) < 1) = false := decide_eq_false (by omega)
  have dn : decide (64 < 2 * (zs.length : Int)) = true := decide_eq_true (by omega)
  have HF : Hid (-9223372036854775808 ≤ f ∧ f ≤ 9223372036854775807) := hf
  have HCC : Hid (-9223372036854775808 ≤ c ∧ c ≤ 9223372036854775807) := hc
  have HB : Hid (∀ z ∈ zs, 0 ≤ z ∧ z ≤ 255) := bz
  clear hf hc bz
  go_enter Tryd.func3, Tryd.ntmps3
  go_wp2_with fail
  refine (twin_any _ zs _ (by omega) w ha).mono ?_
  rintro e w1 ⟨r1, rfl, o1, b1⟩
  have h1 := holds_of_row o1
  obtain ⟨a1, c1, rfl⟩ := h1.shape
  have ha1 := ha.next b1
  have hF1 := hF.next b1
  clear o1 ha
  go_wp2_with fail
  refine (Encode_len a1 zs.length c1 f c (by omega) w1).mono ?_
  rintro e w2 ⟨rfl, b2⟩
  have h2 := h1.next b2
  have ha2 := ha1.next b2
  have hF2 := hF1.next b2
  clear h1 ha1
  go_wp2_with fail
  refine (bytes_any _ _ zs zs _ _ w2 (by omega) h2 ha2).mono ?_
  rw [decide_eq_true rfl]
  rintro e w3 ⟨rfl, q3, rfl⟩
  go_wp2_with fail
  refine (Segs_out f (by omega) _).mono ?_
  rintro e w4 ⟨rfl, rfl⟩
  go_wp2_with fail
  refine (codeWakes_any _ (hF2.drewN q3)).mono ?_
  rintro e w5 ⟨rfl, b5⟩
  go_wp2
  go_ret
  have bb1 := b1.trans (b2.mono b1.size)
  have bb2 := below_drewN bb1 q3
  exact ⟨rfl, bb2.trans (b5.mono bb2.size)⟩

set_option maxRecDepth 100000 in
set_option maxHeartbeats 4000000 in
theorem codeExact_ArgNeg (a : Option Addr) (cap : Nat) (zs : List Int) (bz : ∀ z ∈ zs, 0 ≤ z ∧ z ≤ 255) (f c : Int) (hf : -9223372036854775808 ≤ f ∧ f ≤ 9223372036854775807) (hc : -9223372036854775808 ≤ c ∧ c ≤ 9223372036854775807) (f0 : f < 0) (hl : 1 ≤ zs.length) (hn : zs.length ≤ 32)  (w : World) (hF : Firsts w) (ha : Holds .u8 w.heap.size w (.slice a zs.length cap) zs) :
    Calls Tryd.prog 3 #[.slice a zs.length cap, .int .i64 f, .int .i64 c] w fun e w' => e = .returned (.bool true) ∧ Below w.heap.size w w' := by
  have df0 : decide (0 ≤ f) = false := decide_eq_false (by omega)
  have nf0 : decide (f < 0) = true := decide_eq_true f0
  have dl : decide ((zs.length : Int) < 1) = false := decide_eq_false (by omega)
  have dn : decide (64 < 2 * (zs.length : Int)) = false := decide_eq_false (by omega)
  have d100 : decide (100 < (zs.length : Int)) = false := decide_eq_false (by omega)
  obtain ⟨M, hM⟩ : ∃ M, 2 * zs.length * 16 = M := ⟨_, rfl⟩
  have HM : Hid (2 * zs.length * 16 = M) := hM
  have hM2 : 32 * zs.length = M := by omega
  have HM2 : Hid (32 * zs.length = M) := hM2
  have hM32 : 32 ≤ M := by omega
  have hM1024 : M ≤ 1024 := by omega
  clear hM hM2
  have HF : Hid (-9223372036854775808 ≤ f ∧ f ≤ 9223372036854775807) := hf
  have HCC : Hid (-9223372036854775808 ≤ c ∧ c ≤ 9223372036854775807) := hc
  have HB : Hid (∀ z ∈ zs, 0 ≤ z ∧ z ≤ 255) := bz
  clear hf hc bz
  go_enter Tryd.func3, Tryd.ntmps3
  go_wp2_with fail
  refine (twin_any _ zs _ (by omega) w ha).mono ?_
  rintro e w1 ⟨r1, rfl, o1, b1⟩
  have h1 := holds_of_row o1
  obtain ⟨a1, c1, rfl⟩ := h1.shape
  have ha1 := ha.next b1
  have hF1 := hF.next b1
  clear o1 ha
  go_wp2_with fail
  refine (Encode_arg a1 zs.length c1 f c hl hn (by have := HM2.out; omega) (by have := HF.out; omega) w1).mono ?_
  rintro e w2 ⟨rfl, b2⟩
  have h2 := h1.next b2
  have ha2 := ha1.next b2
  have hF2 := hF1.next b2
  clear h1 ha1
  go_wp2_with fail
  refine (bytes_any _ _ zs zs _ _ w2 (by omega) h2 ha2).mono ?_
  rw [decide_eq_true rfl]
  rintro e w3 ⟨rfl, q3, rfl⟩
  go_wp2_with fail
  refine (Segs_out f (by omega) _).mono ?_
  rintro e w4 ⟨rfl, rfl⟩
  go_wp2_with fail
  refine (codeWakes_any _ (hF2.drewN q3)).mono ?_
  rintro e w5 ⟨rfl, b5⟩
  go_wp2
  go_ret
  have bb1 := b1.trans (b2.mono b1.size)
  have bb2 := below_drewN bb1 q3
  exact ⟨rfl, bb2.trans (b5.mono bb2.size)⟩

set_option maxRecDepth 100000 in
set_option maxHeartbeats 4000000 in
theorem codeExact_ArgCountIn (a : Option Addr) (cap : Nat) (zs : List Int) (bz : ∀ z ∈ zs, 0 ≤ z ∧ z ≤ 255) (f c : Int) (hf : -9223372036854775808 ≤ f ∧ f ≤ 9223372036854775807) (hc : -9223372036854775808 ≤ c ∧ c ≤ 9223372036854775807) (f0 : 0 ≤ f) (f1 : f ≤ 32) (hl : 1 ≤ zs.length) (hn : zs.length ≤ 32) (h : c < 0) (w : World) (hF : Firsts w) (ha : Holds .u8 w.heap.size w (.slice a zs.length cap) zs) :
    Calls Tryd.prog 3 #[.slice a zs.length cap, .int .i64 f, .int .i64 c] w fun e w' => e = .returned (.bool true) ∧ Below w.heap.size w w' := by
  have df0 : decide (0 ≤ f) = true := decide_eq_true f0
  have df1 : decide (f ≤ 32) = true := decide_eq_true f1
  have nf0 : decide (f < 0) = false := decide_eq_false (by omega)
  have nn : (2 * f != 2 * f) = false := by simp
  have dl : decide ((zs.length : Int) < 1) = false := decide_eq_false (by omega)
  have dn : decide (64 < 2 * (zs.length : Int)) = false := decide_eq_false (by omega)
  have d100 : decide (100 < (zs.length : Int)) = false := decide_eq_false (by omega)
  obtain ⟨M, hM⟩ : ∃ M, 2 * zs.length * 16 = M := ⟨_, rfl⟩
  have HM : Hid (2 * zs.length * 16 = M) := hM
  have hM2 : 32 * zs.length = M := by omega
  have HM2 : Hid (32 * zs.length = M) := hM2
  have hM32 : 32 ≤ M := by omega
  have hM1024 : M ≤ 1024 := by omega
  have dc : decide (c < 0) = true := decide_eq_true h
  clear hM hM2
  have HF : Hid (-9223372036854775808 ≤ f ∧ f ≤ 9223372036854775807) := hf
  have HCC : Hid (-9223372036854775808 ≤ c ∧ c ≤ 9223372036854775807) := hc
  have HB : Hid (∀ z ∈ zs, 0 ≤ z ∧ z ≤ 255) := bz
  clear hf hc bz
  go_enter Tryd.func3, Tryd.ntmps3
  go_wp2_with fail
  refine (twin_any _ zs _ (by omega) w ha).mono ?_
  rintro e w1 ⟨r1, rfl, o1, b1⟩
  have h1 := holds_of_row o1
  obtain ⟨a1, c1, rfl⟩ := h1.shape
  have ha1 := ha.next b1
  have hF1 := hF.next b1
  clear o1 ha
  go_wp2_with fail
  refine (Encode_arg a1 zs.length c1 f c hl hn (by have := HM2.out; omega) (by have := HF.out; omega) w1).mono ?_
  rintro e w2 ⟨rfl, b2⟩
  have h2 := h1.next b2
  have ha2 := ha1.next b2
  have hF2 := hF1.next b2
  clear h1 ha1
  go_wp2_with fail
  refine (bytes_any _ _ zs zs _ _ w2 (by omega) h2 ha2).mono ?_
  rw [decide_eq_true rfl]
  rintro e w3 ⟨rfl, q3, rfl⟩
  go_wp2_with fail
  refine (Segs_in f f0 f1 _).mono ?_
  rintro e w4 ⟨rfl, rfl⟩
  go_wp2_with fail
  refine (codeWakes_any _ (hF2.drewN q3)).mono ?_
  rintro e w5 ⟨rfl, b5⟩
  go_wp2
  go_ret
  have bb1 := b1.trans (b2.mono b1.size)
  have bb2 := below_drewN bb1 q3
  exact ⟨rfl, bb2.trans (b5.mono bb2.size)⟩

set_option maxRecDepth 100000 in
set_option maxHeartbeats 4000000 in
theorem codeExact_ArgCountHigh (a : Option Addr) (cap : Nat) (zs : List Int) (bz : ∀ z ∈ zs, 0 ≤ z ∧ z ≤ 255) (f c : Int) (hf : -9223372036854775808 ≤ f ∧ f ≤ 9223372036854775807) (hc : -9223372036854775808 ≤ c ∧ c ≤ 9223372036854775807) (f1 : 32 < f) (hl : 1 ≤ zs.length) (hn : zs.length ≤ 32) (h : c < 0) (w : World) (hF : Firsts w) (ha : Holds .u8 w.heap.size w (.slice a zs.length cap) zs) :
    Calls Tryd.prog 3 #[.slice a zs.length cap, .int .i64 f, .int .i64 c] w fun e w' => e = .returned (.bool true) ∧ Below w.heap.size w w' := by
  have df0 : decide (0 ≤ f) = true := decide_eq_true (by omega)
  have df1 : decide (f ≤ 32) = false := decide_eq_false (by omega)
  have nf0 : decide (f < 0) = false := decide_eq_false (by omega)
  have dl : decide ((zs.length : Int) < 1) = false := decide_eq_false (by omega)
  have dn : decide (64 < 2 * (zs.length : Int)) = false := decide_eq_false (by omega)
  have d100 : decide (100 < (zs.length : Int)) = false := decide_eq_false (by omega)
  obtain ⟨M, hM⟩ : ∃ M, 2 * zs.length * 16 = M := ⟨_, rfl⟩
  have HM : Hid (2 * zs.length * 16 = M) := hM
  have hM2 : 32 * zs.length = M := by omega
  have HM2 : Hid (32 * zs.length = M) := hM2
  have hM32 : 32 ≤ M := by omega
  have hM1024 : M ≤ 1024 := by omega
  have dc : decide (c < 0) = true := decide_eq_true h
  clear hM hM2
  have HF : Hid (-9223372036854775808 ≤ f ∧ f ≤ 9223372036854775807) := hf
  have HCC : Hid (-9223372036854775808 ≤ c ∧ c ≤ 9223372036854775807) := hc
  have HB : Hid (∀ z ∈ zs, 0 ≤ z ∧ z ≤ 255) := bz
  clear hf hc bz
  go_enter Tryd.func3, Tryd.ntmps3
  go_wp2_with fail
  refine (twin_any _ zs _ (by omega) w ha).mono ?_
  rintro e w1 ⟨r1, rfl, o1, b1⟩
  have h1 := holds_of_row o1
  obtain ⟨a1, c1, rfl⟩ := h1.shape
  have ha1 := ha.next b1
  have hF1 := hF.next b1
  clear o1 ha
  go_wp2_with fail
  refine (Encode_arg a1 zs.length c1 f c hl hn (by have := HM2.out; omega) (by have := HF.out; omega) w1).mono ?_
  rintro e w2 ⟨rfl, b2⟩
  have h2 := h1.next b2
  have ha2 := ha1.next b2
  have hF2 := hF1.next b2
  clear h1 ha1
  go_wp2_with fail
  refine (bytes_any _ _ zs zs _ _ w2 (by omega) h2 ha2).mono ?_
  rw [decide_eq_true rfl]
  rintro e w3 ⟨rfl, q3, rfl⟩
  go_wp2_with fail
  refine (Segs_out f (by omega) _).mono ?_
  rintro e w4 ⟨rfl, rfl⟩
  go_wp2_with fail
  refine (codeWakes_any _ (hF2.drewN q3)).mono ?_
  rintro e w5 ⟨rfl, b5⟩
  go_wp2
  go_ret
  have bb1 := b1.trans (b2.mono b1.size)
  have bb2 := below_drewN bb1 q3
  exact ⟨rfl, bb2.trans (b5.mono bb2.size)⟩

set_option maxRecDepth 100000 in
set_option maxHeartbeats 4000000 in
theorem codeExact_ArgFrom (a : Option Addr) (cap : Nat) (zs : List Int) (bz : ∀ z ∈ zs, 0 ≤ z ∧ z ≤ 255) (f c : Int) (hf : -9223372036854775808 ≤ f ∧ f ≤ 9223372036854775807) (hc : -9223372036854775808 ≤ c ∧ c ≤ 9223372036854775807) (f1 : 32 < f) (hl : 1 ≤ zs.length) (hn : zs.length ≤ 32) (c0 : 0 ≤ c) (h : 32 * (zs.length : Int) < f) (w : World) (hF : Firsts w) (ha : Holds .u8 w.heap.size w (.slice a zs.length cap) zs) :
    Calls Tryd.prog 3 #[.slice a zs.length cap, .int .i64 f, .int .i64 c] w fun e w' => e = .returned (.bool true) ∧ Below w.heap.size w w' := by
  have df0 : decide (0 ≤ f) = true := decide_eq_true (by omega)
  have df1 : decide (f ≤ 32) = false := decide_eq_false (by omega)
  have nf0 : decide (f < 0) = false := decide_eq_false (by omega)
  have dl : decide ((zs.length : Int) < 1) = false := decide_eq_false (by omega)
  have dn : decide (64 < 2 * (zs.length : Int)) = false := decide_eq_false (by omega)
  have d100 : decide (100 < (zs.length : Int)) = false := decide_eq_false (by omega)
  obtain ⟨M, hM⟩ : ∃ M, 2 * zs.length * 16 = M := ⟨_, rfl⟩
  have HM : Hid (2 * zs.length * 16 = M) := hM
  have hM2 : 32 * zs.length = M := by omega
  have HM2 : Hid (32 * zs.length = M) := hM2
  have hM32 : 32 ≤ M := by omega
  have hM1024 : M ≤ 1024 := by omega
  have dc : decide (c < 0) = false := decide_eq_false (by omega)
  have dm : decide ((M : Int) < f) = true := decide_eq_true (by omega)
  clear hM hM2
  have HF : Hid (-9223372036854775808 ≤ f ∧ f ≤ 9223372036854775807) := hf
  have HCC : Hid (-9223372036854775808 ≤ c ∧ c ≤ 9223372036854775807) := hc
  have HB : Hid (∀ z ∈ zs, 0 ≤ z ∧ z ≤ 255) := bz
  clear hf hc bz
  go_enter Tryd.func3, Tryd.ntmps3
  go_wp2_with fail
  refine (twin_any _ zs _ (by omega) w ha).mono ?_
  rintro e w1 ⟨r1, rfl, o1, b1⟩
  have h1 := holds_of_row o1
  obtain ⟨a1, c1, rfl⟩ := h1.shape
  have ha1 := ha.next b1
  have hF1 := hF.next b1
  clear o1 ha
  go_wp2_with fail
  refine (Encode_arg a1 zs.length c1 f c hl hn (by have := HM2.out; omega) (by have := HF.out; omega) w1).mono ?_
  rintro e w2 ⟨rfl, b2⟩
  have h2 := h1.next b2
  have ha2 := ha1.next b2
  have hF2 := hF1.next b2
  clear h1 ha1
  go_wp2_with fail
  refine (bytes_any _ _ zs zs _ _ w2 (by omega) h2 ha2).mono ?_
  rw [decide_eq_true rfl]
  rintro e w3 ⟨rfl, q3, rfl⟩
  go_wp2_with fail
  refine (Segs_out f (by omega) _).mono ?_
  rintro e w4 ⟨rfl, rfl⟩
  go_wp2_with fail
  refine (most_any (2 * zs.length) (by omega) _).mono ?_
  rw [HM.out]
  rintro e w6 ⟨rfl, rfl⟩
  go_wp2_with fail
  refine (codeWakes_any _ (hF2.drewN q3)).mono ?_
  rintro e w5 ⟨rfl, b5⟩
  go_wp2
  go_ret
  have bb1 := b1.trans (b2.mono b1.size)
  have bb2 := below_drewN bb1 q3
  exact ⟨rfl, bb2.trans (b5.mono bb2.size)⟩

set_option maxRecDepth 100000 in
set_option maxHeartbeats 4000000 in
theorem codeExact_ArgSumIn (a : Option Addr) (cap : Nat) (zs : List Int) (bz : ∀ z ∈ zs, 0 ≤ z ∧ z ≤ 255) (f c : Int) (hf : -9223372036854775808 ≤ f ∧ f ≤ 9223372036854775807) (hc : -9223372036854775808 ≤ c ∧ c ≤ 9223372036854775807) (f0 : 0 ≤ f) (f1 : f ≤ 32) (hl : 1 ≤ zs.length) (hn : zs.length ≤ 32) (c0 : 0 ≤ c) (h0 : f ≤ 32 * (zs.length : Int)) (h : 32 * (zs.length : Int) - f < c) (w : World) (hF : Firsts w) (ha : Holds .u8 w.heap.size w (.slice a zs.length cap) zs) :
    Calls Tryd.prog 3 #[.slice a zs.length cap, .int .i64 f, .int .i64 c] w fun e w' => e = .returned (.bool true) ∧ Below w.heap.size w w' := by
  have df0 : decide (0 ≤ f) = true := decide_eq_true f0
  have df1 : decide (f ≤ 32) = true := decide_eq_true f1
  have nf0 : decide (f < 0) = false := decide_eq_false (by omega)
  have nn : (2 * f != 2 * f) = false := by simp
  have dl : decide ((zs.length : Int) < 1) = false := decide_eq_false (by omega)
  have dn : decide (64 < 2 * (zs.length : Int)) = false := decide_eq_false (by omega)
  have d100 : decide (100 < (zs.length : Int)) = false := decide_eq_false (by omega)
  obtain ⟨M, hM⟩ : ∃ M, 2 * zs.length * 16 = M := ⟨_, rfl⟩
  have HM : Hid (2 * zs.length * 16 = M) := hM
  have hM2 : 32 * zs.length = M := by omega
  have HM2 : Hid (32 * zs.length = M) := hM2
  have hM32 : 32 ≤ M := by omega
  have hM1024 : M ≤ 1024 := by omega
  have dc : decide (c < 0) = false := decide_eq_false (by omega)
  have dm : decide ((M : Int) < f) = false := decide_eq_false (by omega)
  have ds : decide ((M : Int) - f < c) = true := decide_eq_true (by omega)
  clear hM hM2
  have HF : Hid (-9223372036854775808 ≤ f ∧ f ≤ 9223372036854775807) := hf
  have HCC : Hid (-9223372036854775808 ≤ c ∧ c ≤ 9223372036854775807) := hc
  have HB : Hid (∀ z ∈ zs, 0 ≤ z ∧ z ≤ 255) := bz
  clear hf hc bz
  go_enter Tryd.func3, Tryd.ntmps3
  go_wp2_with fail
  refine (twin_any _ zs _ (by omega) w ha).mono ?_
  rintro e w1 ⟨r1, rfl, o1, b1⟩
  have h1 := holds_of_row o1
  obtain ⟨a1, c1, rfl⟩ := h1.shape
  have ha1 := ha.next b1
  have hF1 := hF.next b1
  clear o1 ha
  go_wp2_with fail
  refine (Encode_arg a1 zs.length c1 f c hl hn (by have := HM2.out; omega) (by have := HF.out; omega) w1).mono ?_
  rintro e w2 ⟨rfl, b2⟩
  have h2 := h1.next b2
  have ha2 := ha1.next b2
  have hF2 := hF1.next b2
  clear h1 ha1
  go_wp2_with fail
  refine (bytes_any _ _ zs zs _ _ w2 (by omega) h2 ha2).mono ?_
  rw [decide_eq_true rfl]
  rintro e w3 ⟨rfl, q3, rfl⟩
  go_wp2_with fail
  refine (Segs_in f f0 f1 _).mono ?_
  rintro e w4 ⟨rfl, rfl⟩
  go_wp2_with fail
  refine (most_any (2 * zs.length) (by omega) _).mono ?_
  rw [HM.out]
  rintro e w6 ⟨rfl, rfl⟩
  go_wp2_with fail
  refine (most_any (2 * zs.length) (by omega) _).mono ?_
  rw [HM.out]
  rintro e w6 ⟨rfl, rfl⟩
  go_wp2_with fail
  refine (codeWakes_any _ (hF2.drewN q3)).mono ?_
  rintro e w5 ⟨rfl, b5⟩
  go_wp2
  go_ret
  have bb1 := b1.trans (b2.mono b1.size)
  have bb2 := below_drewN bb1 q3
  exact ⟨rfl, bb2.trans (b5.mono bb2.size)⟩

set_option maxRecDepth 100000 in
set_option maxHeartbeats 4000000 in
theorem codeExact_ArgSumHigh (a : Option Addr) (cap : Nat) (zs : List Int) (bz : ∀ z ∈ zs, 0 ≤ z ∧ z ≤ 255) (f c : Int) (hf : -9223372036854775808 ≤ f ∧ f ≤ 9223372036854775807) (hc : -9223372036854775808 ≤ c ∧ c ≤ 9223372036854775807) (f1 : 32 < f) (hl : 1 ≤ zs.length) (hn : zs.length ≤ 32) (c0 : 0 ≤ c) (h0 : f ≤ 32 * (zs.length : Int)) (h : 32 * (zs.length : Int) - f < c) (w : World) (hF : Firsts w) (ha : Holds .u8 w.heap.size w (.slice a zs.length cap) zs) :
    Calls Tryd.prog 3 #[.slice a zs.length cap, .int .i64 f, .int .i64 c] w fun e w' => e = .returned (.bool true) ∧ Below w.heap.size w w' := by
  have df0 : decide (0 ≤ f) = true := decide_eq_true (by omega)
  have df1 : decide (f ≤ 32) = false := decide_eq_false (by omega)
  have nf0 : decide (f < 0) = false := decide_eq_false (by omega)
  have dl : decide ((zs.length : Int) < 1) = false := decide_eq_false (by omega)
  have dn : decide (64 < 2 * (zs.length : Int)) = false := decide_eq_false (by omega)
  have d100 : decide (100 < (zs.length : Int)) = false := decide_eq_false (by omega)
  obtain ⟨M, hM⟩ : ∃ M, 2 * zs.length * 16 = M := ⟨_, rfl⟩
  have HM : Hid (2 * zs.length * 16 = M) := hM
  have hM2 : 32 * zs.length = M := by omega
  have HM2 : Hid (32 * zs.length = M) := hM2
  have hM32 : 32 ≤ M := by omega
  have hM1024 : M ≤ 1024 := by omega
  have dc : decide (c < 0) = false := decide_eq_false (by omega)
  have dm : decide ((M : Int) < f) = false := decide_eq_false (by omega)
  have ds : decide ((M : Int) - f < c) = true := decide_eq_true (by omega)
  clear hM hM2
  have HF : Hid (-9223372036854775808 ≤ f ∧ f ≤ 9223372036854775807) := hf
  have HCC : Hid (-9223372036854775808 ≤ c ∧ c ≤ 9223372036854775807) := hc
  have HB : Hid (∀ z ∈ zs, 0 ≤ z ∧ z ≤ 255) := bz
  clear hf hc bz
  go_enter Tryd.func3, Tryd.ntmps3
  go_wp2_with fail
  refine (twin_any _ zs _ (by omega) w ha).mono ?_
  rintro e w1 ⟨r1, rfl, o1, b1⟩
  have h1 := holds_of_row o1
  obtain ⟨a1, c1, rfl⟩ := h1.shape
  have ha1 := ha.next b1
  have hF1 := hF.next b1
  clear o1 ha
  go_wp2_with fail
  refine (Encode_arg a1 zs.length c1 f c hl hn (by have := HM2.out; omega) (by have := HF.out; omega) w1).mono ?_
  rintro e w2 ⟨rfl, b2⟩
  have h2 := h1.next b2
  have ha2 := ha1.next b2
  have hF2 := hF1.next b2
  clear h1 ha1
  go_wp2_with fail
  refine (bytes_any _ _ zs zs _ _ w2 (by omega) h2 ha2).mono ?_
  rw [decide_eq_true rfl]
  rintro e w3 ⟨rfl, q3, rfl⟩
  go_wp2_with fail
  refine (Segs_out f (by omega) _).mono ?_
  rintro e w4 ⟨rfl, rfl⟩
  go_wp2_with fail
  refine (most_any (2 * zs.length) (by omega) _).mono ?_
  rw [HM.out]
  rintro e w6 ⟨rfl, rfl⟩
  go_wp2_with fail
  refine (most_any (2 * zs.length) (by omega) _).mono ?_
  rw [HM.out]
  rintro e w6 ⟨rfl, rfl⟩
  go_wp2_with fail
  refine (codeWakes_any _ (hF2.drewN q3)).mono ?_
  rintro e w5 ⟨rfl, b5⟩
  go_wp2
  go_ret
  have bb1 := b1.trans (b2.mono b1.size)
  have bb2 := below_drewN bb1 q3
  exact ⟨rfl, bb2.trans (b5.mono bb2.size)⟩

set_option maxRecDepth 100000 in
set_option maxHeartbeats 4000000 in
theorem codeExact_OkIn (a : Option Addr) (cap : Nat) (zs : List Int) (bz : ∀ z ∈ zs, 0 ≤ z ∧ z ≤ 255) (f c : Int) (hf : -9223372036854775808 ≤ f ∧ f ≤ 9223372036854775807) (hc : -9223372036854775808 ≤ c ∧ c ≤ 9223372036854775807) (f0 : 0 ≤ f) (f1 : f ≤ 32) (hl : 1 ≤ zs.length) (hn : zs.length ≤ 32) (c0 : 0 ≤ c) (h0 : f ≤ 32 * (zs.length : Int)) (h : c ≤ 32 * (zs.length : Int) - f) (w : World) (hF : Firsts w) (ha : Holds .u8 w.heap.size w (.slice a zs.length cap) zs) :
    Calls Tryd.prog 3 #[.slice a zs.length cap, .int .i64 f, .int .i64 c] w fun e w' => e = .returned (.bool true) ∧ Below w.heap.size w w' := by
  have df0 : decide (0 ≤ f) = true := decide_eq_true f0
  have df1 : decide (f ≤ 32) = true := decide_eq_true f1
  have nf0 : decide (f < 0) = false := decide_eq_false (by omega)
  have nn : (2 * f != 2 * f) = false := by simp
  have dl : decide ((zs.length : Int) < 1) = false := decide_eq_false (by omega)
  have dn : decide (64 < 2 * (zs.length : Int)) = false := decide_eq_false (by omega)
  have d100 : decide (100 < (zs.length : Int)) = false := decide_eq_false (by omega)
  obtain ⟨M, hM⟩ : ∃ M, 2 * zs.length * 16 = M := ⟨_, rfl⟩
  have HM : Hid (2 * zs.length * 16 = M) := hM
  have hM2 : 32 * zs.length = M := by omega
  have HM2 : Hid (32 * zs.length = M) := hM2
  have hM32 : 32 ≤ M := by omega
  have hM1024 : M ≤ 1024 := by omega
  have dc : decide (c < 0) = false := decide_eq_false (by omega)
  have dm : decide ((M : Int) < f) = false := decide_eq_false (by omega)
  have ds : decide ((M : Int) - f < c) = false := decide_eq_false (by omega)
  obtain ⟨F, rfl⟩ := Int.eq_ofNat_of_zero_le (a := f) (by omega)
  obtain ⟨C, rfl⟩ := Int.eq_ofNat_of_zero_le (a := c) (by omega)
  have HFC : Hid (F + C ≤ 32 * zs.length) := by
    show F + C ≤ 32 * zs.length
    omega
  have hFM : F ≤ M := by omega
  clear hM hM2
  have HF : Hid (-9223372036854775808 ≤ (F : Int) ∧ (F : Int) ≤ 9223372036854775807) := hf
  have HCC : Hid (-9223372036854775808 ≤ (C : Int) ∧ (C : Int) ≤ 9223372036854775807) := hc
  have HB : Hid (∀ z ∈ zs, 0 ≤ z ∧ z ≤ 255) := bz
  clear hf hc bz
  go_enter Tryd.func3, Tryd.ntmps3
  go_wp2_with fail
  refine (twin_any _ zs _ (by omega) w ha).mono ?_
  rintro e w1 ⟨r1, rfl, o1, b1⟩
  have h1 := holds_of_row o1
  obtain ⟨a1, c1, rfl⟩ := h1.shape
  have ha1 := ha.next b1
  have hF1 := hF.next b1
  clear o1 ha
  go_wp2_with fail
  refine (Encode_ok a1 zs.length c1 zs rfl hl hn HB.out F C HFC.out w1 hF1 h1).mono ?_
  rintro e w2 ⟨r2, rfl, ⟨hr2, ar, cr, rfl, _⟩, b2⟩
  have h2 := h1.next b2
  have ha2 := ha1.next b2
  have hF2 := hF1.next b2
  clear h1 ha1
  go_wp2_with fail
  refine (bytes_any _ _ zs zs _ _ w2 (by omega) h2 ha2).mono ?_
  rw [decide_eq_true rfl]
  rintro e w3 ⟨rfl, q3, rfl⟩
  go_wp2_with fail
  refine (Segs_in (F : Int) f0 f1 _).mono ?_
  rintro e w4 ⟨rfl, rfl⟩
  go_wp2_with fail
  refine (most_any (2 * zs.length) (by omega) _).mono ?_
  rw [HM.out]
  rintro e w6 ⟨rfl, rfl⟩
  go_wp2_with fail
  refine (most_any (2 * zs.length) (by omega) _).mono ?_
  rw [HM.out]
  rintro e w6 ⟨rfl, rfl⟩
  have hr3 := (show Holds .u8 (w2.drewN q3).heap.size (w2.drewN q3) _ (codeL zs F C) from hr2)
  have ha3 : Holds .u8 (w2.drewN q3).heap.size (w2.drewN q3) (.slice a zs.length cap) zs := ha2
  clear h2 ha2
  have bb0 := below_drewN (b1.trans (b2.mono b1.size)) q3
  obtain ⟨V, hV⟩ : ∃ V, w2.drewN q3 = V := ⟨_, rfl⟩
  rw [hV] at hr3 ha3 bb0 ⊢
  have hFV := hF.next bb0
  clear hV b1 b2 hr2
  go_wp2_with fail
  refine (refEncode_any a cap zs hl hn HB.out F C HFC.out V ha3).mono ?_
  rintro e w7 ⟨r7, rfl, o7, b7⟩
  have h7 := holds_of_row o7
  have hr7 := hr3.next b7
  have HLC : Hid ((codeL zs F C).length = C) := codeL_len _ _ _
  clear o7 hr3 ha3
  go_wp2_with fail
  refine (bytes_any _ _ (codeL zs F C) (codeL zs F C) _ _ w7 (by have := HLC.out; have := HFC.out; omega) hr7 h7).mono ?_
  rw [decide_eq_true rfl]
  rintro e w8 ⟨rfl, q8, rfl⟩
  go_wp2_with fail
  refine (codeWakes_any _ ((hFV.next b7).drewN q8)).mono ?_
  rintro e w5 ⟨rfl, b5⟩
  go_wp2
  go_ret
  have bb1 := bb0.trans (b7.mono bb0.size)
  have bb2 := below_drewN bb1 q8
  exact ⟨rfl, bb2.trans (b5.mono bb2.size)⟩

set_option maxRecDepth 100000 in
set_option maxHeartbeats 4000000 in
theorem codeExact_OkHigh (a : Option Addr) (cap : Nat) (zs : List Int) (bz : ∀ z ∈ zs, 0 ≤ z ∧ z ≤ 255) (f c : Int) (hf : -9223372036854775808 ≤ f ∧ f ≤ 9223372036854775807) (hc : -9223372036854775808 ≤ c ∧ c ≤ 9223372036854775807) (f1 : 32 < f) (hl : 1 ≤ zs.length) (hn : zs.length ≤ 32) (c0 : 0 ≤ c) (h0 : f ≤ 32 * (zs.length : Int)) (h : c ≤ 32 * (zs.length : Int) - f) (w : World) (hF : Firsts w) (ha : Holds .u8 w.heap.size w (.slice a zs.length cap) zs) :
    Calls Tryd.prog 3 #[.slice a zs.length cap, .int .i64 f, .int .i64 c] w fun e w' => e = .returned (.bool true) ∧ Below w.heap.size w w' := by
  have df0 : decide (0 ≤ f) = true := decide_eq_true (by omega)
  have df1 : decide (f ≤ 32) = false := decide_eq_false (by omega)
  have nf0 : decide (f < 0) = false := decide_eq_false (by omega)
  have dl : decide ((zs.length : Int) < 1) = false := decide_eq_false (by omega)
  have dn : decide (64 < 2 * (zs.length : Int)) = false := decide_eq_false (by omega)
  have d100 : decide (100 < (zs.length : Int)) = false := decide_eq_false (by omega)
  obtain ⟨M, hM⟩ : ∃ M, 2 * zs.length * 16 = M := ⟨_, rfl⟩
  have HM : Hid (2 * zs.length * 16 = M) := hM
  have hM2 : 32 * zs.length = M := by omega
  have HM2 : Hid (32 * zs.length = M) := hM2
  have hM32 : 32 ≤ M := by omega
  have hM1024 : M ≤ 1024 := by omega
  have dc : decide (c < 0) = false := decide_eq_false (by omega)
  have dm : decide ((M : Int) < f) = false := decide_eq_false (by omega)
  have ds : decide ((M : Int) - f < c) = false := decide_eq_false (by omega)
  obtain ⟨F, rfl⟩ := Int.eq_ofNat_of_zero_le (a := f) (by omega)
  obtain ⟨C, rfl⟩ := Int.eq_ofNat_of_zero_le (a := c) (by omega)
  have HFC : Hid (F + C ≤ 32 * zs.length) := by
    show F + C ≤ 32 * zs.length
    omega
  have hFM : F ≤ M := by omega
  clear hM hM2
  have df2 : decide (F ≤ 32) = false := decide_eq_false (by omega)
  have df3 : ¬ F ≤ 32 := by omega
  have HF : Hid (-9223372036854775808 ≤ (F : Int) ∧ (F : Int) ≤ 9223372036854775807) := hf
  have HCC : Hid (-9223372036854775808 ≤ (C : Int) ∧ (C : Int) ≤ 9223372036854775807) := hc
  have HB : Hid (∀ z ∈ zs, 0 ≤ z ∧ z ≤ 255) := bz
  clear hf hc bz
  go_enter Tryd.func3, Tryd.ntmps3
  go_wp2_with fail
  refine (twin_any _ zs _ (by omega) w ha).mono ?_
  rintro e w1 ⟨r1, rfl, o1, b1⟩
  have h1 := holds_of_row o1
  obtain ⟨a1, c1, rfl⟩ := h1.shape
  have ha1 := ha.next b1
  have hF1 := hF.next b1
  clear o1 ha
  go_wp2_with fail
  refine (Encode_ok a1 zs.length c1 zs rfl hl hn HB.out F C HFC.out w1 hF1 h1).mono ?_
  rintro e w2 ⟨r2, rfl, ⟨hr2, ar, cr, rfl, _⟩, b2⟩
  have h2 := h1.next b2
  have ha2 := ha1.next b2
  have hF2 := hF1.next b2
  clear h1 ha1
  go_wp2_with fail
  refine (bytes_any _ _ zs zs _ _ w2 (by omega) h2 ha2).mono ?_
  rw [decide_eq_true rfl]
  rintro e w3 ⟨rfl, q3, rfl⟩
  go_wp2_with fail
  refine (Segs_out (F : Int) (by omega) _).mono ?_
  rintro e w4 ⟨rfl, rfl⟩
  go_wp2_with fail
  refine (most_any (2 * zs.length) (by omega) _).mono ?_
  rw [HM.out]
  rintro e w6 ⟨rfl, rfl⟩
  go_wp2_with fail
  refine (most_any (2 * zs.length) (by omega) _).mono ?_
  rw [HM.out]
  rintro e w6 ⟨rfl, rfl⟩
  have hr3 := (show Holds .u8 (w2.drewN q3).heap.size (w2.drewN q3) _ (codeL zs F C) from hr2)
  have ha3 : Holds .u8 (w2.drewN q3).heap.size (w2.drewN q3) (.slice a zs.length cap) zs := ha2
  clear h2 ha2
  have bb0 := below_drewN (b1.trans (b2.mono b1.size)) q3
  obtain ⟨V, hV⟩ : ∃ V, w2.drewN q3 = V := ⟨_, rfl⟩
  rw [hV] at hr3 ha3 bb0 ⊢
  have hFV := hF.next bb0
  clear hV b1 b2 hr2
  go_wp2_with fail
  refine (refEncode_any a cap zs hl hn HB.out F C HFC.out V ha3).mono ?_
  rintro e w7 ⟨r7, rfl, o7, b7⟩
  have h7 := holds_of_row o7
  have hr7 := hr3.next b7
  have HLC : Hid ((codeL zs F C).length = C) := codeL_len _ _ _
  clear o7 hr3 ha3
  go_wp2_with fail
  refine (bytes_any _ _ (codeL zs F C) (codeL zs F C) _ _ w7 (by have := HLC.out; have := HFC.out; omega) hr7 h7).mono ?_
  rw [decide_eq_true rfl]
  rintro e w8 ⟨rfl, q8, rfl⟩
  go_wp2_with fail
  refine (codeWakes_any _ ((hFV.next b7).drewN q8)).mono ?_
  rintro e w5 ⟨rfl, b5⟩
  go_wp2
  go_ret
  have bb1 := bb0.trans (b7.mono bb0.size)
  have bb2 := below_drewN bb1 q8
  exact ⟨rfl, bb2.trans (b5.mono bb2.size)⟩

/-- The law, of whatever bytes and numbers. -/
theorem codeExact_walk (a0 : Option Addr) (len0 cap0 : Nat) (z0 : List Int) (a1 a2 : Int) (w : World) (w0 : IsRow .u8 w a0 len0 cap0 z0) (w1 : (Lit.int .i64 a1).wf = true) (w2 : (Lit.int .i64 a2).wf = true) (hF : Firsts w) :
    Calls Tryd.prog 3 #[.slice a0 len0 cap0, .int .i64 a1, .int .i64 a2] w fun e w' => e = .returned (.bool true) ∧ Below w.heap.size w w' := by
  obtain ⟨xs, rfl, hx, bx⟩ := holds_of_isRow w0
  have bz := bytes_bd bx
  have hf := bounds_i64 w1
  have hc := bounds_i64 w2
  by_cases h : 100 < xs.length
  · exact codeExact_far a0 _ cap0 a1 a2 w h
  by_cases hl : xs.length < 1
  · by_cases f0 : a1 < 0
    · exact codeExact_FewNeg a0 cap0 xs bz a1 a2 hf hc f0 hl w hF hx
    · by_cases f1 : a1 ≤ 32
      · exact codeExact_FewIn a0 cap0 xs bz a1 a2 hf hc (by omega) f1 hl w hF hx
      · exact codeExact_FewHigh a0 cap0 xs bz a1 a2 hf hc (by omega) hl w hF hx
  by_cases hm : 32 < xs.length
  · by_cases f0 : a1 < 0
    · exact codeExact_ManyNeg a0 cap0 xs bz a1 a2 hf hc f0 hm (by omega) w hF hx
    · by_cases f1 : a1 ≤ 32
      · exact codeExact_ManyIn a0 cap0 xs bz a1 a2 hf hc (by omega) f1 hm (by omega) w hF hx
      · exact codeExact_ManyHigh a0 cap0 xs bz a1 a2 hf hc (by omega) hm (by omega) w hF hx
  by_cases f0 : a1 < 0
  · exact codeExact_ArgNeg a0 cap0 xs bz a1 a2 hf hc f0 (by omega) (by omega) w hF hx
  by_cases c0 : a2 < 0
  · by_cases f1 : a1 ≤ 32
    · exact codeExact_ArgCountIn a0 cap0 xs bz a1 a2 hf hc (by omega) f1 (by omega) (by omega) c0 w hF hx
    · exact codeExact_ArgCountHigh a0 cap0 xs bz a1 a2 hf hc (by omega) (by omega) (by omega) c0 w hF hx
  by_cases h0 : 32 * (xs.length : Int) < a1
  · exact codeExact_ArgFrom a0 cap0 xs bz a1 a2 hf hc (by omega) (by omega) (by omega) (by omega) h0 w hF hx
  by_cases h1 : 32 * (xs.length : Int) - a1 < a2
  · by_cases f1 : a1 ≤ 32
    · exact codeExact_ArgSumIn a0 cap0 xs bz a1 a2 hf hc (by omega) f1 (by omega) (by omega) (by omega) (by omega) h1 w hF hx
    · exact codeExact_ArgSumHigh a0 cap0 xs bz a1 a2 hf hc (by omega) (by omega) (by omega) (by omega) (by omega) h1 w hF hx
  · by_cases f1 : a1 ≤ 32
    · exact codeExact_OkIn a0 cap0 xs bz a1 a2 hf hc (by omega) f1 (by omega) (by omega) (by omega) (by omega) (by omega) w hF hx
    · exact codeExact_OkHigh a0 cap0 xs bz a1 a2 hf hc (by omega) (by omega) (by omega) (by omega) (by omega) (by omega) w hF hx

end Go.Proofs.YtehnplodfpljkaaDoor
