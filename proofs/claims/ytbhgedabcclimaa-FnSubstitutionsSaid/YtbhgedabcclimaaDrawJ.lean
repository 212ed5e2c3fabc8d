/- Contracts of the model's functions that draw the arguments of the laws of chapter 2. Conditions: those in the theorems. -/
import Derived.Test.YtbhgedabcclimaaAny
namespace Go.Proofs.Ytbhgedabcclimaa
open Go.RowKit

theorem bigN (a : Option Addr) (len cap : Nat) (w : World) (h : len ≤ 4096) : Calls Try.prog 50 #[.slice a len cap] w fun e w' => e = .returned (.bool false) ∧ w = w' := by
  go_enter Try.func50, Try.ntmps50
  go_wp2
  go_ret
  exact ⟨ret_bool (decide_eq_false (by omega)), rfl⟩
theorem bigY (a : Option Addr) (len cap : Nat) (w : World) (h : 4096 < len) : Calls Try.prog 50 #[.slice a len cap] w fun e w' => e = .returned (.bool true) ∧ w = w' := by
  go_enter Try.func50, Try.ntmps50
  go_wp2
  go_ret
  exact ⟨ret_bool (decide_eq_true (by omega)), rfl⟩

end Go.Proofs.Ytbhgedabcclimaa
