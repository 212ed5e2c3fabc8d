/- Is a number one of a world: contracts of both sides. Conditions: those in the theorems. -/
import Derived.Test.YtfdoecnpnfojpaaIsFr
namespace Go.Proofs.Ytfdoecnpnfojpaa
open Go.RowKit

def wlB (n m : Int) : Bool := decide (0 ≤ m) && decide (m < n)

set_option maxHeartbeats 400000 in
theorem l05World_any (n m : Int) (a : Option Addr) (len cap : Nat) (w : World) (hn : 0 ≤ n) (hn2 : n ≤ 30) :
    Calls Try.prog 148 #[.agg #[.int .i64 n, .slice a len cap], .int .i64 m] w fun e w' => e = .returned (.bool (wlB n m)) ∧ Below w.heap.size w w' := by
  have HB := Lib.hid (boxF (w := w) n a len cap)
  have E := Lib.hid (show inB m 0 (n - 1) = wlB n m by rw [inB, wlB, Bool.eq_iff_iff]; simp; omega)
  go_enter Try.func148, Try.ntmps148
  go_wp2_with (go_at_call 88; refine (l01In_any _ _ _ _).mono ?_; rintro e w' ⟨rfl, rfl⟩)
  go_ret
  exact ⟨ret_bool E.out, HB.out⟩

theorem isBelow_any (m n : Int) (w : World) : Calls Try.prog 74 #[.int .i64 m, .int .i64 n] w fun e w' => e = .returned (.bool (wlB n m)) ∧ w = w' := by
  by_cases h : 0 ≤ m
  all_goals
    go_enter Try.func74, Try.ntmps74
    go_wp2
    go_ret
    exact ⟨ret_bool (by first | (simp [wlB, h]; done) | (simp [wlB]; omega)), rfl⟩

end Go.Proofs.Ytfdoecnpnfojpaa
