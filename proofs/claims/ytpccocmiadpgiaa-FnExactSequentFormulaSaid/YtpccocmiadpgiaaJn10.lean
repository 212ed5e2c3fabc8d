/- 2 texts in one: Draw, Draw2. -/
import Derived.RegionTactic
import Derived.ChangeAlike
import Derived.BigRegion
import Derived.Test.YtpccocmiadpgiaaGst
import Derived.Test.YtpccocmiadpgiaaJn05
/- Contracts of the drawing functions of the model's chapter 1: they return, whatever the code, a number in its range. Conditions: those in the theorems. -/
namespace Go.Proofs.Ytpccocmiadpgiaa
open Go.RowKit

theorem u24 (y : Int) : ∃ z : Nat, z ≤ 16777215 ∧ bits .and .u64 y 16777215 = (z : Int) := by
  have e : bits .and .u64 y 16777215 = IntKind.u64.wrap ((BitVec.ofInt 64 y &&& BitVec.ofInt 64 16777215).toNat : Int) := rfl
  have h : (BitVec.ofInt 64 y &&& BitVec.ofInt 64 16777215).toNat ≤ 16777215 := by
    rw [BitVec.toNat_and]
    exact Nat.le_trans Nat.and_le_right (by decide)
  exact ⟨_, h, by rw [e, IntWalk.u64_in _ (by omega)]⟩

theorem uwrap (y : Int) : ∃ z : Nat, z < 18446744073709551616 ∧ IntKind.u64.wrap y = (z : Int) := by
  obtain ⟨z, hz⟩ := Int.eq_ofNat_of_zero_le (a := IntKind.u64.wrap y) (by simp [IntKind.wrap, IntKind.bits, IntKind.signed]; omega)
  exact ⟨z, by simp [IntKind.wrap, IntKind.bits, IntKind.signed] at hz; omega, hz⟩

end Go.Proofs.Ytpccocmiadpgiaa

/- Contracts of the drawing functions of the model's chapter 1 that draw sizes, masks and relations. Conditions: those in the theorems. -/
namespace Go.Proofs.Ytpccocmiadpgiaa
open Go.RowKit

end Go.Proofs.Ytpccocmiadpgiaa
