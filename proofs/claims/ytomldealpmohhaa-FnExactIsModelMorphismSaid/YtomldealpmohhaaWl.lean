/- Is a number one of a world: contracts of both sides. Conditions: those in the theorems. -/
import Derived.Test.YtomldealpmohhaaIsFr
namespace Go.Proofs.Ytomldealpmohhaa
open Go.RowKit

def wlB (n m : Int) : Bool := decide (0 ≤ m) && decide (m < n)

set_option maxHeartbeats 400000 in
theorem l05World_any (n m : Int) (a : Option Addr) (len cap : Nat) (w : World) (hn : 0 ≤ n) (hn2 : n ≤ 30) :
    Calls Try.prog 51 #[.agg #[.int .i64 n, .slice a len cap], .int .i64 m] w fun e w' => e = .returned (.bool (wlB n m)) ∧ Below w.heap.size w w' := by
  have HB := Lib.hid (boxF (w := w) n a len cap)
  have E := Lib.hid (show inB m 0 (n - 1) = wlB n m by rw [inB, wlB, Bool.eq_iff_iff]; simp; omega)
  go_enter Try.func51, Try.ntmps51
  go_wp2_with (go_at_call 96; refine (l01In_any _ _ _ _).mono ?_; rintro e w' ⟨rfl, rfl⟩)
  go_ret
  exact ⟨ret_bool E.out, HB.out⟩

theorem isBelow_any (m n : Int) (w : World) : Calls Try.prog 53 #[.int .i64 m, .int .i64 n] w fun e w' => e = .returned (.bool (wlB n m)) ∧ w = w' := by
  by_cases h : 0 ≤ m
  all_goals
    go_enter Try.func53, Try.ntmps53
    go_wp2
    go_ret
    exact ⟨ret_bool (by first | (simp [wlB, h]; done) | (simp [wlB]; omega)), rfl⟩

end Go.Proofs.Ytomldealpmohhaa
