/- The list of the numbers of things with labels. Plain mathematics. -/
import Derived.Test.YtecjmibnoldpgaaNuM
import Derived.Test.YtecjmibnoldpgaaRm
namespace Go.Proofs.Ytecjmibnoldpgaa
open Go.RowKit

noncomputable def nuL (n : Nat) (l : Nat → Lit) : List Int := tab n (fun i => (numF l i : Int))
theorem nuL_len (n : Nat) (l : Nat → Lit) : (nuL n l).length = n := tab_len _ _
theorem nuL_bd {n : Nat} {l : Nat → Lit} (i : Nat) : 0 ≤ nth (nuL n l) i ∧ nth (nuL n l) i ≤ n := by
  by_cases h : i < n
  · rw [nuL, tab_nth _ _ _ h]
    have := num_lt (l := l) h
    have := st_bd (l := l) n
    omega
  · rw [nth_high (by rw [nuL_len]; omega)]; omega
theorem nuL_iff {n : Nat} {l : Nat → Lit} {i j : Nat} (hi : i < n) (hj : j < n) : nth (nuL n l) i = nth (nuL n l) j ↔ l i = l j := by
  rw [nuL, tab_nth _ _ _ hi, tab_nth _ _ _ hj, ← num_iff]
  omega

end Go.Proofs.Ytecjmibnoldpgaa
