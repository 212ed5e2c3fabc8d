/- The walk of the law FnExactDependsOn. Conditions: those in the theorems. -/
import Derived.Test.YtfpnmeacnhcakaaDoorDs
import Derived.Test.YtfpnmeacnhcakaaDoorOwnI
namespace Go.Proofs.YtfpnmeacnhcakaaDoor
open Go.RowKit

set_option maxHeartbeats 2000000 in
set_option maxRecDepth 100000 in
theorem lawDependsOn (x0 : List Nd) (a0 : Option Addr) (len0 cap0 : Nat) (w : World) (h0 : IsNodes w a0 len0 x0) (hT : Tb w) :
    Calls Tryd.prog 5 #[.slice a0 len0 cap0] w fun e w' => e = .returned (.bool true) ∧ Below w.heap.size w w' := by
  have TT := Lib.hid hT
  clear hT
  obtain rfl := h0.1.1
  have m0 := h0.2
  by_cases hb0 : (1048576 : Int) < (x0.length : Int)
  · have S0 := Lib.hid (szI_no hb0)
    clear h0
    go_enter Tryd.func5, Tryd.ntmps5
    go_wp2_with fail
    refine (szNodeS_any _ _ _ _ _ m0 (by omega) (by omega)).mono ?_
    rw [S0.out]
    rintro e w' ⟨rfl, rfl⟩
    go_wp2
    go_ret
    exact ⟨rfl, Below.refl _ _⟩
  have S0 := Lib.hid (szI_yes hb0)
  have hl0 : x0.length ≤ 1048576 := by omega
  have H0 := Lib.hid h0.1
  clear h0
  obtain ⟨r0, hr0⟩ : ∃ r, r = dpV x0 := ⟨_, rfl⟩
  have hly : r0.length ≤ 1048576 := by rw [hr0]; exact DependsOn_len x0
  have R0 := Lib.hid hr0
  clear hr0
  obtain ⟨r1, hr1⟩ : ∃ r, r = ck x0 := ⟨_, rfl⟩
  have R1 := Lib.hid hr1
  clear hr1
  go_enter Tryd.func5, Tryd.ntmps5
  go_wp2_with fail
  refine (szNodeS_any _ _ _ _ _ m0 (by omega) (by omega)).mono ?_
  rw [S0.out]
  rintro e w' ⟨rfl, rfl⟩
  have y2 : w.heap.size ≤ w.heap.size := (Below.refl w.heap.size w).size
  go_wp2_with fail
  refine (toNodeS_any x0 _ _ _ _ hl0 H0.out).mono ?_
  rintro e w1 ⟨vs0, rfl, ho, hb⟩
  have z3 := hb.size
  have B3 : Below w.heap.size w w1 := hb
  have O4s0 := Lib.hid ho.inn
  clear ho hb
  have y6 : w.heap.size ≤ w1.heap.size := B3.size
  go_wp2_with fail
  refine (specDependsOn_v x0 _ _ _ _ hl0 O4s0.out).mono ?_
  rw [← R0.out, ← R1.out]
  rintro e w5 ⟨vw, rfl, ho, hb⟩
  have z7 := hb.size
  have B7 : Below w.heap.size w w5 := B3.trans (hb.mono B3.size)
  have O7s0 := Lib.hid (O4s0.out.below hb O4s0.out.2.1)
  clear O4s0
  have O8w := Lib.hid ho.inI
  clear ho hb
  clear O7s0
  have y10 : w.heap.size ≤ w5.heap.size := B7.size
  go_wp2_with fail
  refine (toNodeS_any x0 _ _ _ _ hl0 (H0.out.keep B7 (Nat.le_refl _))).mono ?_
  rintro e w9 ⟨vx0, rfl, ho, hb⟩
  have z11 := hb.size
  have B11 : Below w.heap.size w w9 := B7.trans (hb.mono B7.size)
  have O11w := Lib.hid (O8w.out.below hb O8w.out.2.1)
  clear O8w
  have O12x0 := Lib.hid ho.inn
  clear ho hb
  have y14 : w.heap.size ≤ w9.heap.size := B11.size
  go_wp2_with fail
  refine (implDependsOn_v x0 _ _ _ _ hl0 O12x0.out (TT.out.keep B11 (Nat.le_refl _))).mono ?_
  rw [← R0.out, ← R1.out]
  rintro e w13 ⟨vg, rfl, ho, hb⟩
  have z15 := hb.size
  have B15 : Below w.heap.size w w13 := B11.trans (hb.mono B11.size)
  have O15w := Lib.hid (O11w.out.below hb O11w.out.2.1)
  have O15x0 := Lib.hid (O12x0.out.below hb O12x0.out.2.1)
  clear O11w O12x0
  have O16g := Lib.hid ho.inI
  clear ho hb
  go_wp2_with fail
  refine (eqI_in r0 _ _ _ _ _ _ _ hly O16g.out O15w.out).mono ?_
  rintro e w17 ⟨rfl, hb⟩
  have z18 := hb.size
  have B18 : Below w.heap.size w w17 := B15.trans (hb.mono B15.size)
  have O18w := Lib.hid (O15w.out.below hb O15w.out.2.1)
  have O18x0 := Lib.hid (O15x0.out.below hb O15x0.out.2.1)
  have O18g := Lib.hid (O16g.out.below hb O16g.out.2.1)
  clear O15w O15x0 O16g
  clear hb
  have y20 : w.heap.size ≤ w17.heap.size := B18.size
  go_wp2_with fail
  refine (toNodeS_any x0 _ _ _ _ hl0 (H0.out.keep B18 (Nat.le_refl _))).mono ?_
  rintro e w19 ⟨vy0, rfl, ho, hb⟩
  have z21 := hb.size
  have B21 : Below w.heap.size w w19 := B18.trans (hb.mono B18.size)
  have O21w := Lib.hid (O18w.out.below hb O18w.out.2.1)
  have O21x0 := Lib.hid (O18x0.out.below hb O18x0.out.2.1)
  have O21g := Lib.hid (O18g.out.below hb O18g.out.2.1)
  clear O18w O18x0 O18g
  have O22y0 := Lib.hid ho.inn
  clear ho hb
  go_wp2_with fail
  refine (eqN_in x0 _ _ _ _ _ _ _ hl0 O21x0.out O22y0.out).mono ?_
  rintro e w23 ⟨rfl, hb⟩
  have z24 := hb.size
  have B24 : Below w.heap.size w w23 := B21.trans (hb.mono B21.size)
  have O24w := Lib.hid (O21w.out.below hb O21w.out.2.1)
  have O24x0 := Lib.hid (O21x0.out.below hb O21x0.out.2.1)
  have O24g := Lib.hid (O21g.out.below hb O21g.out.2.1)
  have O24y0 := Lib.hid (O22y0.out.below hb O22y0.out.2.1)
  clear O21w O21x0 O21g O22y0
  clear hb
  clear O24y0
  go_wp2_with fail
  refine (markN_in x0 _ _ _ _ _ hl0 (by omega) (by omega) O24x0.out).mono ?_
  rintro e w25 ⟨rfl, om, hb, hg⟩
  have z25 := hb.size
  have B25 : Below w.heap.size w w25 := B24.trans (hb.mono y10)
  have O25w := Lib.hid (O24w.out.other O24x0.out.2.2 hg (by omega))
  have O25g := Lib.hid (O24g.out.other O24x0.out.2.2 hg (by omega))
  have O25x0 := Lib.hid om
  clear hb hg om O24w O24x0 O24g
  clear O25x0
  go_wp2_with fail
  refine (eqI_in r0 _ _ _ _ _ _ _ hly O25g.out O25w.out).mono ?_
  rintro e w26 ⟨rfl, hb⟩
  have z27 := hb.size
  have B27 : Below w.heap.size w w26 := B25.trans (hb.mono B25.size)
  have O27w := Lib.hid (O25w.out.below hb O25w.out.2.1)
  have O27g := Lib.hid (O25g.out.below hb O25g.out.2.1)
  clear O25w O25g
  clear hb
  go_wp2_with fail
  refine (markI_in r0 _ _ _ _ _ hly (by omega) (by omega) O27g.out).mono ?_
  rintro e w28 ⟨rfl, om, hb, hg⟩
  have z28 := hb.size
  have B28 : Below w.heap.size w w28 := B27.trans (hb.mono y14)
  have O28w := Lib.hid (O27w.out.other O27g.out.2.2 hg (by omega))
  have O28g := Lib.hid om
  clear hb hg om O27w O27g
  go_wp2_with fail
  refine (heldI_in r0.length _ _ _ _ _ hly (by omega) (by omega) O28g.out).mono ?_
  rintro e w29 ⟨rfl, rfl⟩
  have y31 : w.heap.size ≤ w28.heap.size := B28.size
  go_wp2_with fail
  refine (toNodeS_any x0 _ _ _ _ hl0 (H0.out.keep B28 (Nat.le_refl _))).mono ?_
  rintro e w30 ⟨vt0, rfl, ho, hb⟩
  have z32 := hb.size
  have B32 : Below w.heap.size w w30 := B28.trans (hb.mono B28.size)
  have O32w := Lib.hid (O28w.out.below hb O28w.out.2.1)
  have O32g := Lib.hid (O28g.out.below hb O28g.out.2.1)
  clear O28w O28g
  have O33t0 := Lib.hid ho.inn
  clear ho hb
  have y35 : w.heap.size ≤ w30.heap.size := B32.size
  go_wp2_with fail
  refine (implDependsOn_v x0 _ _ _ _ hl0 O33t0.out (TT.out.keep B32 (Nat.le_refl _))).mono ?_
  rw [← R0.out, ← R1.out]
  rintro e w34 ⟨vh, rfl, ho, hb⟩
  have z36 := hb.size
  have B36 : Below w.heap.size w w34 := B32.trans (hb.mono B32.size)
  have O36w := Lib.hid (O32w.out.below hb O32w.out.2.1)
  have O36g := Lib.hid (O32g.out.below hb O32g.out.2.1)
  have O36t0 := Lib.hid (O33t0.out.below hb O33t0.out.2.1)
  clear O32w O32g O33t0
  have O37h := Lib.hid ho.inI
  clear ho hb
  clear O36t0
  go_wp2_with fail
  refine (eqI_in r0 _ _ _ _ _ _ _ hly O37h.out O36w.out).mono ?_
  rintro e w38 ⟨rfl, hb⟩
  have z39 := hb.size
  have B39 : Below w.heap.size w w38 := B36.trans (hb.mono B36.size)
  have O39w := Lib.hid (O36w.out.below hb O36w.out.2.1)
  have O39g := Lib.hid (O36g.out.below hb O36g.out.2.1)
  have O39h := Lib.hid (O37h.out.below hb O37h.out.2.1)
  clear O36w O36g O37h
  clear hb
  clear O39h
  clear O39w
  go_wp2_with fail
  refine (heldI_in r0.length _ _ _ _ _ hly (by omega) (by omega) O39g.out).mono ?_
  rintro e w40 ⟨rfl, rfl⟩
  go_wp2
  go_ret
  exact ⟨rfl, B39⟩

end Go.Proofs.YtfpnmeacnhcakaaDoor
