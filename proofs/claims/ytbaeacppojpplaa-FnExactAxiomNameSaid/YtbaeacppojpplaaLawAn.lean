/- The walk of the law FnExactAxiomName. Conditions: those in the theorems. -/
import Derived.Test.YtbaeacppojpplaaAv
namespace Go.Proofs.Ytbaeacppojpplaa
open Go.RowKit

set_option maxHeartbeats 2000000 in
set_option maxRecDepth 100000 in
theorem lawAxiomName (x0 : Int) (w : World) :
    Calls Try.prog 3 #[.int .i64 x0] w fun e w' => e = .returned (.bool true) ∧ Below w.heap.size w w' := by
  obtain ⟨r0, hr0⟩ : ∃ r, r = atR nmA x0 := ⟨_, rfl⟩
  have R0 := Lib.hid hr0
  clear hr0
  obtain ⟨r1, hr1⟩ : ∃ r, r = atC nmA x0 := ⟨_, rfl⟩
  have R1 := Lib.hid hr1
  clear hr1
  go_enter Try.func3, Try.ntmps3
  have y2 : w.heap.size ≤ w.heap.size := (Below.refl w.heap.size w).size
  go_wp2_with fail
  refine (specAxiomName_any x0 _).mono ?_
  rw [← R0.out, ← R1.out]
  rintro e w1 ⟨rfl, hb⟩
  have z3 := hb.size
  have B3 : Below w.heap.size w w1 := hb
  clear hb
  have y5 : w.heap.size ≤ w1.heap.size := B3.size
  go_wp2_with fail
  refine (implAxiomName_any x0 _).mono ?_
  rw [← R0.out, ← R1.out]
  rintro e w4 ⟨rfl, hb⟩
  have z6 := hb.size
  have B6 : Below w.heap.size w w4 := B3.trans (hb.mono B3.size)
  clear hb
  go_wp2
  go_ret
  exact ⟨rfl, B6⟩

end Go.Proofs.Ytbaeacppojpplaa
