/- The walk of the law FnExactLogicAxioms. Conditions: those in the theorems. -/
import Derived.Test.YtbaeacppojpplaaTc
namespace Go.Proofs.Ytbaeacppojpplaa
open Go.RowKit

set_option maxHeartbeats 2000000 in
set_option maxRecDepth 100000 in
theorem lawLogicAxioms (x0 : ByteArray) (w : World) :
    Calls Try.prog 6 #[.string x0] w fun e w' => e = .returned (.bool true) ∧ Below w.heap.size w w' := by
  by_cases hq0 : (1048576 : Int) < (x0.size : Int)
  · go_enter Try.func6, Try.ntmps6
    go_wp2
    go_ret
    exact ⟨rfl, Below.refl _ _⟩
  replace hq0 : (x0.size : Int) ≤ 1048576 := by omega
  obtain ⟨r0, hr0⟩ : ∃ r, r = laR x0 := ⟨_, rfl⟩
  have hly : r0.length ≤ 1048576 := by rw [hr0]; exact LogicAxioms_len x0
  have R0 := Lib.hid hr0
  clear hr0
  obtain ⟨r1, hr1⟩ : ∃ r, r = laC x0 := ⟨_, rfl⟩
  have R1 := Lib.hid hr1
  clear hr1
  go_enter Try.func6, Try.ntmps6
  have y2 : w.heap.size ≤ w.heap.size := (Below.refl w.heap.size w).size
  go_wp2_with fail
  refine (specLogicAxioms_v x0 _).mono ?_
  rw [← R0.out, ← R1.out]
  rintro e w1 ⟨vw, rfl, ho, hb⟩
  have z3 := hb.size
  have B3 : Below w.heap.size w w1 := hb
  have O4w := Lib.hid ho.inS
  clear ho hb
  have y6 : w.heap.size ≤ w1.heap.size := B3.size
  go_wp2_with fail
  refine (implLogicAxioms_v x0 _).mono ?_
  rw [← R0.out, ← R1.out]
  rintro e w5 ⟨vg, rfl, ho, hb⟩
  have z7 := hb.size
  have B7 : Below w.heap.size w w5 := B3.trans (hb.mono B3.size)
  have O7w := Lib.hid (O4w.out.below hb O4w.out.2.1)
  clear O4w
  have O8g := Lib.hid ho.inS
  clear ho hb
  go_wp2_with fail
  refine (eqS_in r0 _ _ _ _ _ _ _ hly O8g.out O7w.out).mono ?_
  rintro e w9 ⟨rfl, hb⟩
  have z10 := hb.size
  have B10 : Below w.heap.size w w9 := B7.trans (hb.mono B7.size)
  have O10w := Lib.hid (O7w.out.below hb O7w.out.2.1)
  have O10g := Lib.hid (O8g.out.below hb O8g.out.2.1)
  clear O7w O8g
  clear hb
  go_wp2_with fail
  refine (markS_in r0 _ _ _ 1 _ hly (by omega) (by omega) O10g.out).mono ?_
  rintro e w11 ⟨rfl, om, hb, hg⟩
  have z11 := hb.size
  have B11 : Below w.heap.size w w11 := B10.trans (hb.mono y6)
  have O11w := Lib.hid (O10w.out.other O10g.out.2.2 hg (by omega))
  have O11g := Lib.hid om
  clear hb hg om O10w O10g
  go_wp2_with fail
  refine (heldS_in r0.length _ _ _ 1 _ hly (by omega) (by omega) O11g.out).mono ?_
  rintro e w12 ⟨rfl, hb⟩
  have z13 := hb.size
  have B13 : Below w.heap.size w w12 := B11.trans (hb.mono B11.size)
  have O13w := Lib.hid (O11w.out.below hb O11w.out.2.1)
  have O13g := Lib.hid (O11g.out.below hb O11g.out.2.1)
  clear O11w O11g
  clear hb
  have y15 : w.heap.size ≤ w12.heap.size := B13.size
  go_wp2_with fail
  refine (implLogicAxioms_v x0 _).mono ?_
  rw [← R0.out, ← R1.out]
  rintro e w14 ⟨vh, rfl, ho, hb⟩
  have z16 := hb.size
  have B16 : Below w.heap.size w w14 := B13.trans (hb.mono B13.size)
  have O16w := Lib.hid (O13w.out.below hb O13w.out.2.1)
  have O16g := Lib.hid (O13g.out.below hb O13g.out.2.1)
  clear O13w O13g
  have O17h := Lib.hid ho.inS
  clear ho hb
  go_wp2_with fail
  refine (eqS_in r0 _ _ _ _ _ _ _ hly O17h.out O16w.out).mono ?_
  rintro e w18 ⟨rfl, hb⟩
  have z19 := hb.size
  have B19 : Below w.heap.size w w18 := B16.trans (hb.mono B16.size)
  have O19w := Lib.hid (O16w.out.below hb O16w.out.2.1)
  have O19g := Lib.hid (O16g.out.below hb O16g.out.2.1)
  have O19h := Lib.hid (O17h.out.below hb O17h.out.2.1)
  clear O16w O16g O17h
  clear hb
  clear O19h
  clear O19w
  go_wp2_with fail
  refine (heldS_in r0.length _ _ _ 1 _ hly (by omega) (by omega) O19g.out).mono ?_
  rintro e w20 ⟨rfl, hb⟩
  have z21 := hb.size
  have B21 : Below w.heap.size w w20 := B19.trans (hb.mono B19.size)
  have O21g := Lib.hid (O19g.out.below hb O19g.out.2.1)
  clear O19g
  clear hb
  go_wp2
  go_ret
  exact ⟨rfl, B21⟩

end Go.Proofs.Ytbaeacppojpplaa
