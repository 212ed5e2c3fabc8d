/- Contracts of the model's functions that write the text of a formula. Conditions: those in the theorems. -/
import Derived.Test.YtfpnmeacnhcakaaDeep
import Derived.Laws.StructEq
import Derived.Laws.Concat
namespace Go.Proofs.Ytfpnmeacnhcakaa
open Go.RowKit

theorem neNode (x y x' y' : Int) (w : World) : (binOp .neq 46 (.agg #[.int .i64 x, .int .i64 y]) (.agg #[.int .i64 x', .int .i64 y'])).run Try.prog w = .ok (.bool (!(x == x' && y == y'))) w := by
  have u3 := Try.underlying2
  have hS : Try.prog.underlying 46 = some (.struct (Try.prog.fieldsOf 46)) := by kernel_rfl
  have hp : Try.prog.stoodInHeld 46 = false := by kernel_rfl
  rw [run_neq_struct, show (10000 : Nat) = 9999 + 1 from rfl, run_equalIn_agg w 9999 46 _ _ hS hp]
  simp only [Program.fieldsOf, Try.underlying46]
  go_simp
  by_cases h1 : x = x' <;> by_cases h2 : y = y' <;> simp [h1, h2]
theorem guNode : Try.prog.eqGuardType Try.prog.depth 46 = false := by kernel_rfl

theorem list_ext_nd {xs ys : List Nd} (hl : xs.length = ys.length) (h : ∀ j, j < xs.length → kd xs j = kd ys j ∧ sy xs j = sy ys j) : xs = ys := by
  apply List.ext_getElem hl
  intro j h1 h2
  have e := h j h1
  have e1 : kd xs j = xs[j].1 := by simp [kd, List.getD_eq_getElem?_getD, h1]
  have e2 : kd ys j = ys[j].1 := by simp [kd, List.getD_eq_getElem?_getD, h2]
  have e3 : sy xs j = xs[j].2 := by simp [sy, List.getD_eq_getElem?_getD, h1]
  have e4 : sy ys j = ys[j].2 := by simp [sy, List.getD_eq_getElem?_getD, h2]
  rw [e1, e2, e3, e4] at e
  exact Prod.ext e.1 e.2

theorem l02True_any (w : World) : Calls Try.prog 26 #[] w fun e w' => ∃ v, e = .returned v ∧ OwnN w' w.heap.size v [(4, 0), (1, 0), (1, 0)] ∧ Below w.heap.size w w' := by
  go_enter Try.func26, Try.ntmps26
  go_wp2_with fail
  refine (l02False_any _).mono ?_
  rintro e w1 ⟨v1, rfl, ho1, hb1⟩
  obtain ⟨a1, c1, rfl, at1, -, -, -⟩ := ho1.at
  have B1 := Lib.hid hb1
  have A1 := Lib.hid at1
  clear hb1 ho1 at1
  go_wp2_with fail
  refine (l02Not_any [(1, 0)] a1 1 c1 _ (by omega) (by omega) A1.out).mono ?_
  rintro e w2 ⟨v2, rfl, ho2, hb2⟩
  have B2 := Lib.hid (B1.out.trans (hb2.mono B1.out.size))
  have O2 := Lib.hid (ho2.mono B1.out.size)
  clear hb2 ho2
  go_wp2
  go_ret
  exact ⟨_, rfl, O2.out, B2.out⟩

end Go.Proofs.Ytfpnmeacnhcakaa
