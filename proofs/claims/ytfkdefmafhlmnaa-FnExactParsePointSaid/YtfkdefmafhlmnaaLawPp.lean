/- The walk of the law FnExactParsePoint. Conditions: those in the theorems. -/
import Derived.Test.YtfkdefmafhlmnaaPpV
namespace Go.Proofs.Ytfkdefmafhlmnaa
open Go.RowKit

set_option maxHeartbeats 2000000 in
set_option maxRecDepth 100000 in
theorem lawParsePoint (x0 : ByteArray) (w : World) :
    Calls Try.prog 6 #[.string x0] w fun e w' => e = .returned (.bool true) ∧ Below w.heap.size w w' := by
  by_cases hq0 : (1048576 : Int) < (x0.size : Int)
  · go_enter Try.func6, Try.ntmps6
    go_wp2
    go_ret
    exact ⟨rfl, Below.refl _ _⟩
  replace hq0 : (x0.size : Int) ≤ 1048576 := by omega
  obtain ⟨r0, hr0⟩ : ∃ r, r = pqR x0 := ⟨_, rfl⟩
  have hly : r0.length ≤ 1048576 := by rw [hr0]; exact ParsePoint_len x0
  have R0 := Lib.hid hr0
  clear hr0
  obtain ⟨r1, hr1⟩ : ∃ r, r = pqC x0 := ⟨_, rfl⟩
  have R1 := Lib.hid hr1
  clear hr1
  go_enter Try.func6, Try.ntmps6
  have y2 : w.heap.size ≤ w.heap.size := (Below.refl w.heap.size w).size
  go_wp2_with fail
  refine (specParsePoint_v x0 _ hq0).mono ?_
  rw [← R0.out, ← R1.out]
  rintro e w1 ⟨vw, rfl, ho, hb⟩
  have z3 := hb.size
  have B3 : Below w.heap.size w w1 := hb
  have O4w := Lib.hid ho.inn
  clear ho hb
  have y6 : w.heap.size ≤ w1.heap.size := B3.size
  go_wp2_with fail
  refine (implParsePoint_v x0 _ hq0).mono ?_
  rw [← R0.out, ← R1.out]
  rintro e w5 ⟨vg, rfl, ho, hb⟩
  have z7 := hb.size
  have B7 : Below w.heap.size w w5 := B3.trans (hb.mono B3.size)
  have O7w := Lib.hid (O4w.out.below hb O4w.out.2.1)
  clear O4w
  have O8g := Lib.hid ho.inn
  clear ho hb
  go_wp2_with fail
  refine (eqP_in r0 _ _ _ _ _ _ _ hly O8g.out O7w.out).mono ?_
  rintro e w9 ⟨rfl, hb⟩
  have z10 := hb.size
  have B10 : Below w.heap.size w w9 := B7.trans (hb.mono B7.size)
  have O10w := Lib.hid (O7w.out.below hb O7w.out.2.1)
  have O10g := Lib.hid (O8g.out.below hb O8g.out.2.1)
  clear O7w O8g
  clear hb
  go_wp2_with fail
  refine (markP_in r0 _ _ _ _ _ hly (by omega) (by omega) O10g.out).mono ?_
  rintro e w11 ⟨rfl, om, hb, hg⟩
  have z11 := hb.size
  have B11 : Below w.heap.size w w11 := B10.trans (hb.mono y6)
  have O11w := Lib.hid (O10w.out.other O10g.out.2.2 hg (by omega))
  have O11g := Lib.hid om
  clear hb hg om O10w O10g
  go_wp2_with fail
  refine (heldP_in r0.length _ _ _ _ _ hly (by omega) (by omega) O11g.out).mono ?_
  rintro e w12 ⟨rfl, rfl⟩
  have y14 : w.heap.size ≤ w11.heap.size := B11.size
  go_wp2_with fail
  refine (implParsePoint_v x0 _ hq0).mono ?_
  rw [← R0.out, ← R1.out]
  rintro e w13 ⟨vh, rfl, ho, hb⟩
  have z15 := hb.size
  have B15 : Below w.heap.size w w13 := B11.trans (hb.mono B11.size)
  have O15w := Lib.hid (O11w.out.below hb O11w.out.2.1)
  have O15g := Lib.hid (O11g.out.below hb O11g.out.2.1)
  clear O11w O11g
  have O16h := Lib.hid ho.inn
  clear ho hb
  go_wp2_with fail
  refine (eqP_in r0 _ _ _ _ _ _ _ hly O16h.out O15w.out).mono ?_
  rintro e w17 ⟨rfl, hb⟩
  have z18 := hb.size
  have B18 : Below w.heap.size w w17 := B15.trans (hb.mono B15.size)
  have O18w := Lib.hid (O15w.out.below hb O15w.out.2.1)
  have O18g := Lib.hid (O15g.out.below hb O15g.out.2.1)
  have O18h := Lib.hid (O16h.out.below hb O16h.out.2.1)
  clear O15w O15g O16h
  clear hb
  clear O18h
  clear O18w
  go_wp2_with fail
  refine (heldP_in r0.length _ _ _ _ _ hly (by omega) (by omega) O18g.out).mono ?_
  rintro e w19 ⟨rfl, rfl⟩
  go_wp2
  go_ret
  exact ⟨rfl, B18⟩

end Go.Proofs.Ytfkdefmafhlmnaa
