/- The program's checks of arguments: lists of formulas, a variable, a node. Conditions: those in the theorems. -/
import Derived.Test.YtpccocmiadpgiaaJn04
import Derived.Test.YtpccocmiadpgiaaJn08
namespace Go.Proofs.Ytpccocmiadpgiaa
open Go.RowKit

theorem okAll_1 (xs : List Nd) : okAll [xs] 1 = isB xs xs.length := by simp [okAll, nthL]
theorem okAll_2 (xs ys : List Nd) : okAll [xs, ys] 2 = (isB xs xs.length && isB ys ys.length) := by
  rw [okAll, show List.range 2 = [0, 1] from rfl]
  simp [nthL]
theorem nthL_le1 {xs : List Nd} {n : Nat} (h : xs.length ≤ n) : ∀ j, j < 1 → (nthL [xs] j).length ≤ n := by
  intro j hj
  obtain rfl : j = 0 := by omega
  exact h
theorem nthL_le2 {xs ys : List Nd} {n : Nat} (h : xs.length ≤ n) (h' : ys.length ≤ n) : ∀ j, j < 2 → (nthL [xs, ys] j).length ≤ n := by
  intro j hj
  match j, hj with
  | 0, _ => exact h
  | 1, _ => exact h'

/-- The error of a list of lists and a number that has to be one of 0 .. n - 1. -/
def cvI (b : Bool) (n v : Int) : Int := if b then (if decide (0 ≤ v) && decide (v < n) then 0 else 2) else 1

end Go.Proofs.Ytpccocmiadpgiaa
