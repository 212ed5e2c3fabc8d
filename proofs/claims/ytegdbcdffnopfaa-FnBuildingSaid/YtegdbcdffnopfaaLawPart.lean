/- The walk of the law FnExactPartEnd. Conditions: those in the theorems. -/
import Derived.Test.YtegdbcdffnopfaaPart
namespace Go.Proofs.Ytegdbcdffnopfaa
open Go.RowKit

def peR (xs : List Nd) (i : Int) : Int := if isB xs xs.length && inB i 0 ((xs.length : Int) - 1) then pe xs (xs.length - i.toNat) 1 i.toNat else 0
def peC (xs : List Nd) (i : Int) : Int := if isB xs xs.length then (if inB i 0 ((xs.length : Int) - 1) then 0 else 2) else 1
theorem pe_bad {xs : List Nd} {i : Int} (h : isB xs xs.length = false) : peR xs i = 0 ∧ peC xs i = 1 := by simp [peR, peC, h]
theorem pe_out {xs : List Nd} {i : Int} (h : isB xs xs.length = true) (h2 : inB i 0 ((xs.length : Int) - 1) = false) : peR xs i = 0 ∧ peC xs i = 2 := by simp [peR, peC, h, h2]
theorem pe_good {xs : List Nd} {i : Int} (h : isB xs xs.length = true) (h2 : inB i 0 ((xs.length : Int) - 1) = true) :
    ∃ k e : Nat, i = k ∧ k < xs.length ∧ pe xs (xs.length - k) 1 k = e ∧ peR xs i = e ∧ peC xs i = 0 := by
  have h3 : 0 ≤ i ∧ i ≤ (xs.length : Int) - 1 := by simpa [inB] using h2
  obtain ⟨k, rfl⟩ := Int.eq_ofNat_of_zero_le h3.1
  have hk : k < xs.length := by omega
  obtain ⟨f, r, hf, he⟩ := sub_at h hk
  refine ⟨k, k + f.sz, rfl, hk, pe_end f hf he, ?_, by simp [peC, h, h2]⟩
  rw [peR, h, h2, Int.toNat_natCast, pe_end f hf he]; rfl

set_option maxHeartbeats 400000 in
theorem specPartEnd_v (x0 : List Nd) (x1 : Int) (v : Value) (lo hi : Nat) (w : World) (hl : x0.length ≤ 1048576) (h : InN w lo hi v x0) :
    Calls Try.prog 20 #[v, .int .i64 x1] w fun e w' => e = .returned (.tuple #[.int .i64 (peR x0 x1), .int .i64 (peC x0 x1)]) ∧ Below w.heap.size w w' := by
  obtain ⟨a, cap, rfl, hat⟩ := h.at
  have H := Lib.hid hat
  clear h hat
  cases hb : isB x0 x0.length
  · obtain ⟨e1, e2⟩ := pe_bad (i := x1) hb
    rw [e1, e2]
    have HB := Lib.hid hb
    clear hb e1 e2
    go_enter Try.func20, Try.ntmps20
    go_wp2_with (go_at_call 51; refine (l02Is_any _ _ _ _ _ hl H.out).mono ?_; rw [HB.out]; rintro e w' ⟨rfl, rfl⟩)
    go_ret2
    exact ⟨rfl, Below.refl _ _⟩
  · cases hc : inB x1 0 ((x0.length : Int) - 1)
    · obtain ⟨e1, e2⟩ := pe_out hb hc
      rw [e1, e2]
      have HB := Lib.hid hb
      have HC := Lib.hid hc
      clear hb hc e1 e2
      go_enter Try.func20, Try.ntmps20
      go_wp2_with (first | (go_at_call 51; refine (l02Is_any _ _ _ _ _ hl H.out).mono ?_; rw [HB.out]; rintro e w' ⟨rfl, rfl⟩) | (go_at_call 57; refine (l01In_any _ _ _ _).mono ?_; rw [HC.out]; rintro e w' ⟨rfl, rfl⟩))
      go_ret2
      exact ⟨rfl, Below.refl _ _⟩
    · obtain ⟨k, t, rfl, hk, hp, e1, e2⟩ := pe_good hb hc
      rw [e1, e2]
      have HB := Lib.hid hb
      have HC := Lib.hid hc
      have HP := Lib.hid hp
      clear hb hc e1 e2 hp
      go_enter Try.func20, Try.ntmps20
      go_wp2_with (first | (go_at_call 51; refine (l02Is_any _ _ _ _ _ hl H.out).mono ?_; rw [HB.out]; rintro e w' ⟨rfl, rfl⟩) | (go_at_call 57; refine (l01In_any _ _ _ _).mono ?_; rw [HC.out]; rintro e w' ⟨rfl, rfl⟩) | (go_at_call 58; refine (l02Part_any x0 _ _ _ k _ hl (by omega) H.out).mono ?_; rw [HP.out]; rintro e w' ⟨rfl, rfl⟩))
      go_ret2
      exact ⟨rfl, Below.refl _ _⟩

set_option maxHeartbeats 400000 in
theorem implPartEnd_v (x0 : List Nd) (x1 : Int) (v : Value) (lo hi : Nat) (w : World) (hl : x0.length ≤ 1048576) (h : InN w lo hi v x0) :
    Calls Try.prog 21 #[v, .int .i64 x1] w fun e w' => e = .returned (.tuple #[.int .i64 (peR x0 x1), .int .i64 (peC x0 x1)]) ∧ Below w.heap.size w w' := by
  obtain ⟨a, cap, rfl, hat⟩ := h.at
  have H := Lib.hid hat
  clear h hat
  cases hb : isB x0 x0.length
  · obtain ⟨e1, e2⟩ := pe_bad (i := x1) hb
    rw [e1, e2]
    have HB := Lib.hid hb
    clear hb e1 e2
    go_enter Try.func21, Try.ntmps21
    go_wp2_with (go_at_call 54; refine (implIsF_any _ _ _ _ _ hl H.out).mono ?_; rw [HB.out]; rintro e w' ⟨rfl, hb⟩)
    go_ret2
    exact ⟨rfl, hb⟩
  · cases hc : inB x1 0 ((x0.length : Int) - 1)
    · obtain ⟨e1, e2⟩ := pe_out hb hc
      rw [e1, e2]
      have HB := Lib.hid hb
      have hc' : x1 < 0 ∨ (0 ≤ x1 ∧ (x0.length : Int) ≤ x1) := by simp [inB] at hc; omega
      clear hb hc e1 e2
      rcases hc' with hc | ⟨hc1, hc2⟩
      all_goals
        go_enter Try.func21, Try.ntmps21
        go_wp2_with (go_at_call 54; refine (implIsF_any _ _ _ _ _ hl H.out).mono ?_; rw [HB.out]; rintro e w' ⟨rfl, hb⟩)
        go_ret2
        exact ⟨rfl, hb⟩
    · obtain ⟨k, t, rfl, hk, hp, e1, e2⟩ := pe_good hb hc
      rw [e1, e2]
      have HB := Lib.hid hb
      have HP := Lib.hid hp
      clear hb hc e1 e2 hp
      go_enter Try.func21, Try.ntmps21
      go_wp2_with (first | (go_at_call 54; refine (implIsF_any _ _ _ _ _ hl H.out).mono ?_; rw [HB.out]; rintro e w' ⟨rfl, hb⟩) | (go_at_call 59; refine (partEnd_any x0 _ _ _ k _ _ hl (by omega) (H.out.keep hb (Nat.le_refl _)) HP.out (by omega)).mono ?_; rintro e w' ⟨rfl, rfl⟩))
      go_ret2
      exact ⟨rfl, hb⟩

set_option maxHeartbeats 2000000 in
set_option maxRecDepth 100000 in
theorem lawPartEnd (x0 : List Nd) (x1 : Int) (a0 : Option Addr) (len0 cap0 : Nat) (w : World) (h0 : IsNodes w a0 len0 x0) :
    Calls Try.prog 4 #[.slice a0 len0 cap0, .int .i64 x1] w fun e w' => e = .returned (.bool true) ∧ Below w.heap.size w w' := by
  obtain rfl := h0.1.1
  have m0 := h0.2
  by_cases hb0 : (1048576 : Int) < (x0.length : Int)
  · have S0 := Lib.hid (szI_no hb0)
    clear h0
    go_enter Try.func4, Try.ntmps4
    go_wp2_with fail
    refine (szNodeS_any _ _ _ _ _ m0 (by omega) (by omega)).mono ?_
    rw [S0.out]
    rintro e w' ⟨rfl, rfl⟩
    go_wp2
    go_ret
    exact ⟨rfl, Below.refl _ _⟩
  have S0 := Lib.hid (szI_yes hb0)
  have hl0 : x0.length ≤ 1048576 := by omega
  have H0 := Lib.hid h0.1
  clear h0
  obtain ⟨r0, hr0⟩ : ∃ r, r = peR x0 x1 := ⟨_, rfl⟩
  have R0 := Lib.hid hr0
  clear hr0
  obtain ⟨r1, hr1⟩ : ∃ r, r = peC x0 x1 := ⟨_, rfl⟩
  have R1 := Lib.hid hr1
  clear hr1
  go_enter Try.func4, Try.ntmps4
  go_wp2_with fail
  refine (szNodeS_any _ _ _ _ _ m0 (by omega) (by omega)).mono ?_
  rw [S0.out]
  rintro e w' ⟨rfl, rfl⟩
  have y2 : w.heap.size ≤ w.heap.size := (Below.refl w.heap.size w).size
  go_wp2_with fail
  refine (toNodeS_any x0 _ _ _ _ hl0 H0.out).mono ?_
  rintro e w1 ⟨vs0, rfl, ho, hb⟩
  have z3 := hb.size
  have B3 : Below w.heap.size w w1 := hb
  have O4s0 := Lib.hid ho.inn
  clear ho hb
  have y6 : w.heap.size ≤ w1.heap.size := B3.size
  go_wp2_with fail
  refine (specPartEnd_v x0 x1 _ _ _ _ hl0 O4s0.out).mono ?_
  rw [← R0.out, ← R1.out]
  rintro e w5 ⟨rfl, hb⟩
  have z7 := hb.size
  have B7 : Below w.heap.size w w5 := B3.trans (hb.mono B3.size)
  have O7s0 := Lib.hid (O4s0.out.below hb O4s0.out.2.1)
  clear O4s0
  clear hb
  clear O7s0
  have y9 : w.heap.size ≤ w5.heap.size := B7.size
  go_wp2_with fail
  refine (toNodeS_any x0 _ _ _ _ hl0 (H0.out.keep B7 (Nat.le_refl _))).mono ?_
  rintro e w8 ⟨vx0, rfl, ho, hb⟩
  have z10 := hb.size
  have B10 : Below w.heap.size w w8 := B7.trans (hb.mono B7.size)
  have O11x0 := Lib.hid ho.inn
  clear ho hb
  have y13 : w.heap.size ≤ w8.heap.size := B10.size
  go_wp2_with fail
  refine (implPartEnd_v x0 x1 _ _ _ _ hl0 O11x0.out).mono ?_
  rw [← R0.out, ← R1.out]
  rintro e w12 ⟨rfl, hb⟩
  have z14 := hb.size
  have B14 : Below w.heap.size w w12 := B10.trans (hb.mono B10.size)
  have O14x0 := Lib.hid (O11x0.out.below hb O11x0.out.2.1)
  clear O11x0
  clear hb
  have y16 : w.heap.size ≤ w12.heap.size := B14.size
  go_wp2_with fail
  refine (toNodeS_any x0 _ _ _ _ hl0 (H0.out.keep B14 (Nat.le_refl _))).mono ?_
  rintro e w15 ⟨vy0, rfl, ho, hb⟩
  have z17 := hb.size
  have B17 : Below w.heap.size w w15 := B14.trans (hb.mono B14.size)
  have O17x0 := Lib.hid (O14x0.out.below hb O14x0.out.2.1)
  clear O14x0
  have O18y0 := Lib.hid ho.inn
  clear ho hb
  go_wp2_with fail
  refine (eqN_in x0 _ _ _ _ _ _ _ hl0 O17x0.out O18y0.out).mono ?_
  rintro e w19 ⟨rfl, hb⟩
  have z20 := hb.size
  have B20 : Below w.heap.size w w19 := B17.trans (hb.mono B17.size)
  have O20x0 := Lib.hid (O17x0.out.below hb O17x0.out.2.1)
  have O20y0 := Lib.hid (O18y0.out.below hb O18y0.out.2.1)
  clear O17x0 O18y0
  clear hb
  clear O20y0
  go_wp2
  go_ret
  exact ⟨rfl, B20⟩

end Go.Proofs.Ytegdbcdffnopfaa
