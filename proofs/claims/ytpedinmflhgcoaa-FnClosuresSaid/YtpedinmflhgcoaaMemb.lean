/- Contracts of MembersOf. Conditions: those in the theorems. -/
import Derived.Test.YtpedinmflhgcoaaMem
namespace Go.Proofs.Ytpedinmflhgcoaa
open Go.RowKit

theorem cod_pow {n m : Int} {k : Nat} (h : cod n m = 0) (hk : m = k) : k < 2 ^ n.toNat := by
  have hz := (cod_zero h).2.2.2.1
  subst hk
  exact_mod_cast hz
def membL (n m : Int) : List Int := outL (cod n m) (memTo m.toNat n.toNat)
theorem membL_len (n m : Int) : (membL n m).length ≤ 1048576 := by
  unfold membL outL
  split
  · rename_i h
    have h1 := cod_zero h
    have h2 := memTo_len m.toNat n.toNat
    omega
  · simp

end Go.Proofs.Ytpedinmflhgcoaa
