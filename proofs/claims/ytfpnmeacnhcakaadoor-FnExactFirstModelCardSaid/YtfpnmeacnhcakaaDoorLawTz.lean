/- The walk of the law FnExactFirstModel. Conditions: those in the theorems. -/
import Derived.Test.YtfpnmeacnhcakaaDoorTz
namespace Go.Proofs.YtfpnmeacnhcakaaDoor
open Go.RowKit

set_option maxHeartbeats 2000000 in
set_option maxRecDepth 100000 in
theorem lawFirstModel (x0 : List Nd) (a0 : Option Addr) (len0 cap0 : Nat) (w : World) (h0 : IsNodes w a0 len0 x0) (hT : Tb w) (hB : Db w) :
    Calls Tryd.prog 6 #[.slice a0 len0 cap0] w fun e w' => e = .returned (.bool true) ∧ Below w.heap.size w w' := by
  have TT := Lib.hid hT
  clear hT
  have TB := Lib.hid hB
  clear hB
  obtain rfl := h0.1.1
  have m0 := h0.2
  by_cases hb0 : (1048576 : Int) < (x0.length : Int)
  · have S0 := Lib.hid (szI_no hb0)
    clear h0
    go_enter Tryd.func6, Tryd.ntmps6
    go_wp2_with fail
    refine (szNodeS_any _ _ _ _ _ m0 (by omega) (by omega)).mono ?_
    rw [S0.out]
    rintro e w' ⟨rfl, rfl⟩
    go_wp2
    go_ret
    exact ⟨rfl, Below.refl _ _⟩
  have S0 := Lib.hid (szI_yes hb0)
  have hl0 : x0.length ≤ 1048576 := by omega
  have H0 := Lib.hid h0.1
  clear h0
  obtain ⟨r0, hr0⟩ : ∃ r, r = fmV x0 := ⟨_, rfl⟩
  have R0 := Lib.hid hr0
  clear hr0
  obtain ⟨r1, hr1⟩ : ∃ r, r = fmC x0 := ⟨_, rfl⟩
  have R1 := Lib.hid hr1
  clear hr1
  go_enter Tryd.func6, Tryd.ntmps6
  go_wp2_with fail
  refine (szNodeS_any _ _ _ _ _ m0 (by omega) (by omega)).mono ?_
  rw [S0.out]
  rintro e w' ⟨rfl, rfl⟩
  have y2 : w.heap.size ≤ w.heap.size := (Below.refl w.heap.size w).size
  go_wp2_with fail
  refine (toNodeS_any x0 _ _ _ _ hl0 H0.out).mono ?_
  rintro e w1 ⟨vs0, rfl, ho, hb⟩
  have z3 := hb.size
  have B3 : Below w.heap.size w w1 := hb
  have O4s0 := Lib.hid ho.inn
  clear ho hb
  have y6 : w.heap.size ≤ w1.heap.size := B3.size
  go_wp2_with fail
  refine (specFirstModel_v x0 _ _ _ _ hl0 O4s0.out).mono ?_
  rw [← R0.out, ← R1.out]
  rintro e w5 ⟨rfl, hb⟩
  have z7 := hb.size
  have B7 : Below w.heap.size w w5 := B3.trans (hb.mono B3.size)
  have O7s0 := Lib.hid (O4s0.out.below hb O4s0.out.2.1)
  clear O4s0
  clear hb
  clear O7s0
  have y9 : w.heap.size ≤ w5.heap.size := B7.size
  go_wp2_with fail
  refine (toNodeS_any x0 _ _ _ _ hl0 (H0.out.keep B7 (Nat.le_refl _))).mono ?_
  rintro e w8 ⟨vx0, rfl, ho, hb⟩
  have z10 := hb.size
  have B10 : Below w.heap.size w w8 := B7.trans (hb.mono B7.size)
  have O11x0 := Lib.hid ho.inn
  clear ho hb
  have y13 : w.heap.size ≤ w8.heap.size := B10.size
  go_wp2_with fail
  refine (implFirstModel_v x0 _ _ _ _ hl0 O11x0.out (TT.out.keep B10 (Nat.le_refl _)) (TB.out.keep B10 (Nat.le_refl _))).mono ?_
  rw [← R0.out, ← R1.out]
  rintro e w12 ⟨rfl, hb⟩
  have z14 := hb.size
  have B14 : Below w.heap.size w w12 := B10.trans (hb.mono B10.size)
  have O14x0 := Lib.hid (O11x0.out.below hb O11x0.out.2.1)
  clear O11x0
  clear hb
  have y16 : w.heap.size ≤ w12.heap.size := B14.size
  go_wp2_with fail
  refine (toNodeS_any x0 _ _ _ _ hl0 (H0.out.keep B14 (Nat.le_refl _))).mono ?_
  rintro e w15 ⟨vy0, rfl, ho, hb⟩
  have z17 := hb.size
  have B17 : Below w.heap.size w w15 := B14.trans (hb.mono B14.size)
  have O17x0 := Lib.hid (O14x0.out.below hb O14x0.out.2.1)
  clear O14x0
  have O18y0 := Lib.hid ho.inn
  clear ho hb
  go_wp2_with fail
  refine (eqN_in x0 _ _ _ _ _ _ _ hl0 O17x0.out O18y0.out).mono ?_
  rintro e w19 ⟨rfl, hb⟩
  have z20 := hb.size
  have B20 : Below w.heap.size w w19 := B17.trans (hb.mono B17.size)
  have O20x0 := Lib.hid (O17x0.out.below hb O17x0.out.2.1)
  have O20y0 := Lib.hid (O18y0.out.below hb O18y0.out.2.1)
  clear O17x0 O18y0
  clear hb
  clear O20y0
  go_wp2
  go_ret
  exact ⟨rfl, B20⟩

end Go.Proofs.YtfpnmeacnhcakaaDoor
