/- Contracts of the program's functions that walk the parts of a list of nodes: where a part ends, is it a negation, how high and deep is it. Conditions: those in the theorems. -/
import Derived.Test.YtfkdefmafhlmnaaNodeA
import Derived.Test.YtfkdefmafhlmnaaJn03
namespace Go.Proofs.Ytfkdefmafhlmnaa
open Go.RowKit

theorem pe_lt {xs : List Nd} {len : Nat} {o : Int} {i : Nat} (ho : 0 < o) (hi : i ≤ len) (h : 0 ≤ pe xs (len - i) o i) : i < len := by
  by_cases e : i = len
  · subst e; rw [Nat.sub_self, pe, if_neg (by omega)] at h; omega
  · omega
theorem pe_step {xs : List Nd} {len : Nat} {o : Int} {i : Nat} (ho : 0 < o) (hi : i < len) : pe xs (len - i) o i = pe xs (len - (i + 1)) (o - 1 + prt (kd xs i)) (i + 1) := by
  rw [show len - i = (len - (i + 1)) + 1 by omega, pe, if_neg (by omega)]
theorem pe_zero {xs : List Nd} {f : Nat} {i : Nat} : pe xs f 0 i = i := by cases f <;> rw [pe, if_pos (by omega)]

end Go.Proofs.Ytfkdefmafhlmnaa
