/- Contracts of the small functions of package laws over lists of strings: compare, mark, held. Conditions: those in the theorems. -/
import Derived.Sort.EncStr
import Derived.Laws.BytesArg
import Derived.Laws.Concat
import Derived.Test.YtfkdefmafhlmnaaSlices
import Derived.Test.YtfkdefmafhlmnaaSort
namespace Go.Proofs.Ytfkdefmafhlmnaa
open Go.RowKit

def stx (ys : List UInt8) : ByteArray := ⟨ys.toArray⟩
theorem stx_size (ys : List UInt8) : (stx ys).size = ys.length := by simp [stx, ByteArray.size]
theorem stx_app (xs ys : List UInt8) : stx xs ++ stx ys = stx (xs ++ ys) := ByteArray.mk_append_mk xs ys
theorem add_stx (xs ys : List UInt8) (h : xs.length + ys.length ≤ 4611686018427387904) (w : World) : (Op.stringOp .add (stx xs) (stx ys)).run Try.prog w = .ok (.string (stx (xs ++ ys))) w := by
  rw [← stx_app]
  exact run_string_add_sum w _ _ (by rw [stx_size, stx_size]; omega)

/-- The decimal digits of a number, none for 0. -/
def dgS (k : Nat) : List UInt8 := if _h : k = 0 then [] else dgS (k / 10) ++ [UInt8.ofNat (48 + k % 10)]
termination_by k
theorem dg_pos (k : Nat) (h : 0 < k) : dgS k = dgS (k / 10) ++ [UInt8.ofNat (48 + k % 10)] := by rw [dgS, dif_neg (by omega)]
theorem dg_zero : dgS 0 = [] := by rw [dgS, dif_pos rfl]
theorem dg_len (k : Nat) : (dgS k).length ≤ k := by
  induction k using Nat.strongRecOn with
  | _ k ih =>
    by_cases h : k = 0
    · subst h; rw [dg_zero]; exact Nat.le_refl _
    · rw [dg_pos k (by omega), List.length_append]
      have := ih (k / 10) (by omega)
      simp
      omega

end Go.Proofs.Ytfkdefmafhlmnaa
