/- Contracts of the model's functions that write the text of a formula. Conditions: those in the theorems. -/
import Derived.Test.YtfpnmeacnhcakaaDoorDeep
import Derived.Laws.StructEq
import Derived.Laws.Concat
namespace Go.Proofs.YtfpnmeacnhcakaaDoor
open Go.RowKit

theorem neNode (x y x' y' : Int) (w : World) : (binOp .neq 52 (.agg #[.int .i64 x, .int .i64 y]) (.agg #[.int .i64 x', .int .i64 y'])).run Tryd.prog w = .ok (.bool (!(x == x' && y == y'))) w := by
  have u3 := Tryd.underlying2
  have hS : Tryd.prog.underlying 52 = some (.struct (Tryd.prog.fieldsOf 52)) := by kernel_rfl
  have hp : Tryd.prog.stoodInHeld 52 = false := by kernel_rfl
  rw [run_neq_struct, show (10000 : Nat) = 9999 + 1 from rfl, run_equalIn_agg w 9999 52 _ _ hS hp]
  simp only [Program.fieldsOf, Tryd.underlying52]
  go_simp
  by_cases h1 : x = x' <;> by_cases h2 : y = y' <;> simp [h1, h2]
theorem guNode : Tryd.prog.eqGuardType Tryd.prog.depth 52 = false := by kernel_rfl

theorem list_ext_nd {xs ys : List Nd} (hl : xs.length = ys.length) (h : ∀ j, j < xs.length → kd xs j = kd ys j ∧ sy xs j = sy ys j) : xs = ys := by
  apply List.ext_getElem hl
  intro j h1 h2
  have e := h j h1
  have e1 : kd xs j = xs[j].1 := by simp [kd, List.getD_eq_getElem?_getD, h1]
  have e2 : kd ys j = ys[j].1 := by simp [kd, List.getD_eq_getElem?_getD, h2]
  have e3 : sy xs j = xs[j].2 := by simp [sy, List.getD_eq_getElem?_getD, h1]
  have e4 : sy ys j = ys[j].2 := by simp [sy, List.getD_eq_getElem?_getD, h2]
  rw [e1, e2, e3, e4] at e
  exact Prod.ext e.1 e.2

end Go.Proofs.YtfpnmeacnhcakaaDoor
