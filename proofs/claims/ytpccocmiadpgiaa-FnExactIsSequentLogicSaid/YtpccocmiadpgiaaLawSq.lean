/- The walk of the law FnExactIsSequentLogic. Conditions: those in the theorems. -/
import Derived.Test.YtpccocmiadpgiaaSqM
import Derived.Test.YtpccocmiadpgiaaSqP
namespace Go.Proofs.Ytpccocmiadpgiaa
open Go.RowKit

set_option maxHeartbeats 2000000 in
set_option maxRecDepth 100000 in
theorem lawIsSequentLogic (x0 : ByteArray) (w : World) :
    Calls Try.prog 3 #[.string x0] w fun e w' => e = .returned (.bool true) ∧ Below w.heap.size w w' := by
  by_cases hq0 : (1048576 : Int) < (x0.size : Int)
  · go_enter Try.func3, Try.ntmps3
    go_wp2
    go_ret
    exact ⟨rfl, Below.refl _ _⟩
  replace hq0 : (x0.size : Int) ≤ 1048576 := by omega
  obtain ⟨r0, hr0⟩ : ∃ r, r = sqV x0 := ⟨_, rfl⟩
  have R0 := Lib.hid hr0
  clear hr0
  go_enter Try.func3, Try.ntmps3
  have y2 : w.heap.size ≤ w.heap.size := (Below.refl w.heap.size w).size
  go_wp2_with fail
  refine (specIsSequentLogic_v x0 _).mono ?_
  rw [← R0.out]
  rintro e w1 ⟨rfl, hb⟩
  have z3 := hb.size
  have B3 : Below w.heap.size w w1 := hb
  clear hb
  have y5 : w.heap.size ≤ w1.heap.size := B3.size
  go_wp2_with fail
  refine (implIsSequentLogic_v x0 _).mono ?_
  rw [← R0.out]
  rintro e w4 ⟨rfl, hb⟩
  have z6 := hb.size
  have B6 : Below w.heap.size w w4 := B3.trans (hb.mono B3.size)
  clear hb
  go_wp2
  go_ret
  exact ⟨rfl, B6⟩

end Go.Proofs.Ytpccocmiadpgiaa
