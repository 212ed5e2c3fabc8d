/- The walk of the law FnExactUnifyFormulas. Conditions: those in the theorems. -/
import Derived.Test.YtbhgedabcclimaaUfP
namespace Go.Proofs.Ytbhgedabcclimaa
open Go.RowKit

set_option maxHeartbeats 2000000 in
set_option maxRecDepth 100000 in
theorem lawUnifyFormulas (x0 : List Nd) (x1 : List Nd) (a0 : Option Addr) (len0 cap0 : Nat) (a1 : Option Addr) (len1 cap1 : Nat) (w : World) (h0 : IsNodes w a0 len0 x0) (h1 : IsNodes w a1 len1 x1) :
    Calls Try.prog 7 #[.slice a0 len0 cap0, .slice a1 len1 cap1] w fun e w' => e = .returned (.bool true) ∧ Below w.heap.size w w' := by
  obtain rfl := h0.1.1
  obtain rfl := h1.1.1
  have m0 := h0.2
  have m1 := h1.2
  by_cases hb0 : (1048576 : Int) < (x0.length : Int)
  · have S0 := Lib.hid (szI_no hb0)
    clear h0 h1
    go_enter Try.func7, Try.ntmps7
    go_wp2_with fail
    refine (szNodeS_any _ _ _ _ _ m0 (by omega) (by omega)).mono ?_
    rw [S0.out]
    rintro e w' ⟨rfl, rfl⟩
    go_wp2
    go_ret
    exact ⟨rfl, Below.refl _ _⟩
  have S0 := Lib.hid (szI_yes hb0)
  by_cases hb1 : (1048576 : Int) - (x0.length : Int) < (x1.length : Int)
  · have S1 := Lib.hid (szI_no hb1)
    clear h0 h1
    go_enter Try.func7, Try.ntmps7
    go_wp2_with fail
    refine (szNodeS_any _ _ _ _ _ m0 (by omega) (by omega)).mono ?_
    rw [S0.out]
    rintro e w' ⟨rfl, rfl⟩
    go_wp2_with fail
    refine (szNodeS_any _ _ _ _ _ m1 (by omega) (by omega)).mono ?_
    rw [S1.out]
    rintro e w' ⟨rfl, rfl⟩
    go_wp2
    go_ret
    exact ⟨rfl, Below.refl _ _⟩
  have S1 := Lib.hid (szI_yes hb1)
  have hl0 : x0.length ≤ 1048576 := by omega
  have hl1 : x1.length ≤ 1048576 := by omega
  have H0 := Lib.hid h0.1
  clear h0
  have H1 := Lib.hid h1.1
  clear h1
  obtain ⟨r0, hr0⟩ : ∃ r, r = (ufR x0 x1) := ⟨_, rfl⟩
  have hly : r0.length ≤ 1048576 ∧ szTo r0 r0.length ≤ 1048576 := by rw [hr0]; exact UnifyFormulas_len x0 x1
  have R0 := Lib.hid hr0
  clear hr0
  obtain ⟨r1, hr1⟩ : ∃ r, r = (ufC x0 x1) := ⟨_, rfl⟩
  have R1 := Lib.hid hr1
  clear hr1
  go_enter Try.func7, Try.ntmps7
  go_wp2_with fail
  refine (szNodeS_any _ _ _ _ _ m0 (by omega) (by omega)).mono ?_
  rw [S0.out]
  rintro e w' ⟨rfl, rfl⟩
  go_wp2_with fail
  refine (szNodeS_any _ _ _ _ _ m1 (by omega) (by omega)).mono ?_
  rw [S1.out]
  rintro e w' ⟨rfl, rfl⟩
  have y2 : w.heap.size ≤ w.heap.size := (Below.refl w.heap.size w).size
  go_wp2_with fail
  refine (toNodeS_any x0 _ _ _ _ hl0 H0.out).mono ?_
  rintro e w1 ⟨vs0, rfl, ho, hb⟩
  have z3 := hb.size
  have B3 : Below w.heap.size w w1 := hb
  have O4s0 := Lib.hid ho.inn
  clear ho hb
  have y6 : w.heap.size ≤ w1.heap.size := B3.size
  go_wp2_with fail
  refine (toNodeS_any x1 _ _ _ _ hl1 (H1.out.keep B3 (Nat.le_refl _))).mono ?_
  rintro e w5 ⟨vs1, rfl, ho, hb⟩
  have z7 := hb.size
  have B7 : Below w.heap.size w w5 := B3.trans (hb.mono B3.size)
  have O7s0 := Lib.hid (O4s0.out.below hb O4s0.out.2.1)
  clear O4s0
  have O8s1 := Lib.hid ho.inn
  clear ho hb
  have y10 : w.heap.size ≤ w5.heap.size := B7.size
  go_wp2_with fail
  refine (specUnifyFormulas_v x0 x1 _ _ _ _ _ _ _ hl0 hl1 O7s0.out O8s1.out).mono ?_
  rw [← R0.out, ← R1.out]
  rintro e w9 ⟨vw, rfl, ho, hb⟩
  have z11 := hb.size
  have B11 : Below w.heap.size w w9 := B7.trans (hb.mono B7.size)
  have O11s0 := Lib.hid (O7s0.out.below hb O7s0.out.2.1)
  have O11s1 := Lib.hid (O8s1.out.below hb O8s1.out.2.1)
  clear O7s0 O8s1
  have O12w := Lib.hid ho.inl
  clear ho hb
  clear O11s0
  clear O11s1
  have y14 : w.heap.size ≤ w9.heap.size := B11.size
  go_wp2_with fail
  refine (toNodeS_any x0 _ _ _ _ hl0 (H0.out.keep B11 (Nat.le_refl _))).mono ?_
  rintro e w13 ⟨vx0, rfl, ho, hb⟩
  have z15 := hb.size
  have B15 : Below w.heap.size w w13 := B11.trans (hb.mono B11.size)
  have O15w := Lib.hid (O12w.out.below hb O12w.out.hi)
  clear O12w
  have O16x0 := Lib.hid ho.inn
  clear ho hb
  have y18 : w.heap.size ≤ w13.heap.size := B15.size
  go_wp2_with fail
  refine (toNodeS_any x1 _ _ _ _ hl1 (H1.out.keep B15 (Nat.le_refl _))).mono ?_
  rintro e w17 ⟨vx1, rfl, ho, hb⟩
  have z19 := hb.size
  have B19 : Below w.heap.size w w17 := B15.trans (hb.mono B15.size)
  have O19w := Lib.hid (O15w.out.below hb O15w.out.hi)
  have O19x0 := Lib.hid (O16x0.out.below hb O16x0.out.2.1)
  clear O15w O16x0
  have O20x1 := Lib.hid ho.inn
  clear ho hb
  have y22 : w.heap.size ≤ w17.heap.size := B19.size
  go_wp2_with fail
  refine (implUnifyFormulas_v x0 x1 _ _ _ _ _ _ _ hl0 hl1 O19x0.out O20x1.out).mono ?_
  rw [← R0.out, ← R1.out]
  rintro e w21 ⟨vg, rfl, ho, hb⟩
  have z23 := hb.size
  have B23 : Below w.heap.size w w21 := B19.trans (hb.mono B19.size)
  have O23w := Lib.hid (O19w.out.below hb O19w.out.hi)
  have O23x0 := Lib.hid (O19x0.out.below hb O19x0.out.2.1)
  have O23x1 := Lib.hid (O20x1.out.below hb O20x1.out.2.1)
  clear O19w O19x0 O20x1
  have O24g := Lib.hid ho.inl
  clear ho hb
  go_wp2_with fail
  refine (eqL_in r0 _ _ _ _ _ _ _ hly.1 (sz_all hly.2) O24g.out O23w.out).mono ?_
  rintro e w25 ⟨rfl, hb⟩
  have z26 := hb.size
  have B26 : Below w.heap.size w w25 := B23.trans (hb.mono B23.size)
  have O26w := Lib.hid (O23w.out.below hb O23w.out.hi)
  have O26x0 := Lib.hid (O23x0.out.below hb O23x0.out.2.1)
  have O26x1 := Lib.hid (O23x1.out.below hb O23x1.out.2.1)
  have O26g := Lib.hid (O24g.out.below hb O24g.out.hi)
  clear O23w O23x0 O23x1 O24g
  clear hb
  have y28 : w.heap.size ≤ w25.heap.size := B26.size
  go_wp2_with fail
  refine (toNodeS_any x0 _ _ _ _ hl0 (H0.out.keep B26 (Nat.le_refl _))).mono ?_
  rintro e w27 ⟨vy0, rfl, ho, hb⟩
  have z29 := hb.size
  have B29 : Below w.heap.size w w27 := B26.trans (hb.mono B26.size)
  have O29w := Lib.hid (O26w.out.below hb O26w.out.hi)
  have O29x0 := Lib.hid (O26x0.out.below hb O26x0.out.2.1)
  have O29x1 := Lib.hid (O26x1.out.below hb O26x1.out.2.1)
  have O29g := Lib.hid (O26g.out.below hb O26g.out.hi)
  clear O26w O26x0 O26x1 O26g
  have O30y0 := Lib.hid ho.inn
  clear ho hb
  go_wp2_with fail
  refine (eqN_in x0 _ _ _ _ _ _ _ hl0 O29x0.out O30y0.out).mono ?_
  rintro e w31 ⟨rfl, hb⟩
  have z32 := hb.size
  have B32 : Below w.heap.size w w31 := B29.trans (hb.mono B29.size)
  have O32w := Lib.hid (O29w.out.below hb O29w.out.hi)
  have O32x0 := Lib.hid (O29x0.out.below hb O29x0.out.2.1)
  have O32x1 := Lib.hid (O29x1.out.below hb O29x1.out.2.1)
  have O32g := Lib.hid (O29g.out.below hb O29g.out.hi)
  have O32y0 := Lib.hid (O30y0.out.below hb O30y0.out.2.1)
  clear O29w O29x0 O29x1 O29g O30y0
  clear hb
  clear O32y0
  have y34 : w.heap.size ≤ w31.heap.size := B32.size
  go_wp2_with fail
  refine (toNodeS_any x1 _ _ _ _ hl1 (H1.out.keep B32 (Nat.le_refl _))).mono ?_
  rintro e w33 ⟨vy1, rfl, ho, hb⟩
  have z35 := hb.size
  have B35 : Below w.heap.size w w33 := B32.trans (hb.mono B32.size)
  have O35w := Lib.hid (O32w.out.below hb O32w.out.hi)
  have O35x0 := Lib.hid (O32x0.out.below hb O32x0.out.2.1)
  have O35x1 := Lib.hid (O32x1.out.below hb O32x1.out.2.1)
  have O35g := Lib.hid (O32g.out.below hb O32g.out.hi)
  clear O32w O32x0 O32x1 O32g
  have O36y1 := Lib.hid ho.inn
  clear ho hb
  go_wp2_with fail
  refine (eqN_in x1 _ _ _ _ _ _ _ hl1 O35x1.out O36y1.out).mono ?_
  rintro e w37 ⟨rfl, hb⟩
  have z38 := hb.size
  have B38 : Below w.heap.size w w37 := B35.trans (hb.mono B35.size)
  have O38w := Lib.hid (O35w.out.below hb O35w.out.hi)
  have O38x0 := Lib.hid (O35x0.out.below hb O35x0.out.2.1)
  have O38x1 := Lib.hid (O35x1.out.below hb O35x1.out.2.1)
  have O38g := Lib.hid (O35g.out.below hb O35g.out.hi)
  have O38y1 := Lib.hid (O36y1.out.below hb O36y1.out.2.1)
  clear O35w O35x0 O35x1 O35g O36y1
  clear hb
  clear O38y1
  go_wp2_with fail
  refine (markN_in x0 _ _ _ _ _ hl0 (by omega) (by omega) O38x0.out).mono ?_
  rintro e w39 ⟨rfl, om, hb, hg⟩
  have z39 := hb.size
  have B39 : Below w.heap.size w w39 := B38.trans (hb.mono y14)
  have O39w := Lib.hid (O38w.out.other O38x0.out.2.2 hg (by omega))
  have O39x1 := Lib.hid (O38x1.out.other O38x0.out.2.2 hg (by omega))
  have O39g := Lib.hid (O38g.out.other O38x0.out.2.2 hg (by omega))
  have O39x0 := Lib.hid om
  clear hb hg om O38w O38x0 O38x1 O38g
  go_wp2_with fail
  refine (markN_in x1 _ _ _ _ _ hl1 (by omega) (by omega) O39x1.out).mono ?_
  rintro e w40 ⟨rfl, om, hb, hg⟩
  have z40 := hb.size
  have B40 : Below w.heap.size w w40 := B39.trans (hb.mono y18)
  have O40w := Lib.hid (O39w.out.other O39x1.out.2.2 hg (by omega))
  have O40g := Lib.hid (O39g.out.other O39x1.out.2.2 hg (by omega))
  have O40x0 := Lib.hid (O39x0.out.other O39x1.out.2.2 hg (by omega))
  have O40x1 := Lib.hid om
  clear hb hg om O39w O39x1 O39g O39x0
  clear O40x0
  clear O40x1
  go_wp2_with fail
  refine (eqL_in r0 _ _ _ _ _ _ _ hly.1 (sz_all hly.2) O40g.out O40w.out).mono ?_
  rintro e w41 ⟨rfl, hb⟩
  have z42 := hb.size
  have B42 : Below w.heap.size w w41 := B40.trans (hb.mono B40.size)
  have O42w := Lib.hid (O40w.out.below hb O40w.out.hi)
  have O42g := Lib.hid (O40g.out.below hb O40g.out.hi)
  clear O40w O40g
  clear hb
  have f43 := O42g.out.hi
  go_wp2_with fail
  refine (markL_in r0 _ _ _ _ _ hly.1 hly.2 (by omega) (by omega) O42g.out).mono ?_
  rintro e w43 ⟨rfl, om, hw⟩
  have z43 := hw.size
  have B43 : Below w.heap.size w w43 := B42.trans ((hw.below (by omega)).mono y22)
  have O43w := Lib.hid (O42w.out.within hw (by omega))
  have O43g := Lib.hid om
  clear hw om O42w O42g
  go_wp2_with fail
  refine (heldL_in r0 _ _ _ _ _ hly.1 hly.2 (by omega) (by omega) O43g.out).mono ?_
  rintro e w44 ⟨rfl, rfl⟩
  have y46 : w.heap.size ≤ w43.heap.size := B43.size
  go_wp2_with fail
  refine (toNodeS_any x0 _ _ _ _ hl0 (H0.out.keep B43 (Nat.le_refl _))).mono ?_
  rintro e w45 ⟨vt0, rfl, ho, hb⟩
  have z47 := hb.size
  have B47 : Below w.heap.size w w45 := B43.trans (hb.mono B43.size)
  have O47w := Lib.hid (O43w.out.below hb O43w.out.hi)
  have O47g := Lib.hid (O43g.out.below hb O43g.out.hi)
  clear O43w O43g
  have O48t0 := Lib.hid ho.inn
  clear ho hb
  have y50 : w.heap.size ≤ w45.heap.size := B47.size
  go_wp2_with fail
  refine (toNodeS_any x1 _ _ _ _ hl1 (H1.out.keep B47 (Nat.le_refl _))).mono ?_
  rintro e w49 ⟨vt1, rfl, ho, hb⟩
  have z51 := hb.size
  have B51 : Below w.heap.size w w49 := B47.trans (hb.mono B47.size)
  have O51w := Lib.hid (O47w.out.below hb O47w.out.hi)
  have O51g := Lib.hid (O47g.out.below hb O47g.out.hi)
  have O51t0 := Lib.hid (O48t0.out.below hb O48t0.out.2.1)
  clear O47w O47g O48t0
  have O52t1 := Lib.hid ho.inn
  clear ho hb
  have y54 : w.heap.size ≤ w49.heap.size := B51.size
  go_wp2_with fail
  refine (implUnifyFormulas_v x0 x1 _ _ _ _ _ _ _ hl0 hl1 O51t0.out O52t1.out).mono ?_
  rw [← R0.out, ← R1.out]
  rintro e w53 ⟨vh, rfl, ho, hb⟩
  have z55 := hb.size
  have B55 : Below w.heap.size w w53 := B51.trans (hb.mono B51.size)
  have O55w := Lib.hid (O51w.out.below hb O51w.out.hi)
  have O55g := Lib.hid (O51g.out.below hb O51g.out.hi)
  have O55t0 := Lib.hid (O51t0.out.below hb O51t0.out.2.1)
  have O55t1 := Lib.hid (O52t1.out.below hb O52t1.out.2.1)
  clear O51w O51g O51t0 O52t1
  have O56h := Lib.hid ho.inl
  clear ho hb
  clear O55t0
  clear O55t1
  go_wp2_with fail
  refine (eqL_in r0 _ _ _ _ _ _ _ hly.1 (sz_all hly.2) O56h.out O55w.out).mono ?_
  rintro e w57 ⟨rfl, hb⟩
  have z58 := hb.size
  have B58 : Below w.heap.size w w57 := B55.trans (hb.mono B55.size)
  have O58w := Lib.hid (O55w.out.below hb O55w.out.hi)
  have O58g := Lib.hid (O55g.out.below hb O55g.out.hi)
  have O58h := Lib.hid (O56h.out.below hb O56h.out.hi)
  clear O55w O55g O56h
  clear hb
  clear O58h
  clear O58w
  go_wp2_with fail
  refine (heldL_in r0 _ _ _ _ _ hly.1 hly.2 (by omega) (by omega) O58g.out).mono ?_
  rintro e w59 ⟨rfl, rfl⟩
  go_wp2
  go_ret
  exact ⟨rfl, B58⟩

end Go.Proofs.Ytbhgedabcclimaa
