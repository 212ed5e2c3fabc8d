/- Lists that are all formulas. No conditions but those in the theorems. -/
import Derived.Test.YtomldealpmohhaaListN
namespace Go.Proofs.Ytomldealpmohhaa
open Go.RowKit

def okAll (xss : List (List Nd)) (j : Nat) : Bool := (List.range j).all fun i => isB (nthL xss i) (nthL xss i).length
theorem okAll_at {xss : List (List Nd)} {j i : Nat} (h : okAll xss j = true) (hi : i < j) : isB (nthL xss i) (nthL xss i).length = true := List.all_eq_true.1 h i (List.mem_range.2 hi)
theorem okAll_succ {xss : List (List Nd)} {j : Nat} (h : okAll xss j = true) (hi : isB (nthL xss j) (nthL xss j).length = true) : okAll xss (j + 1) = true := by
  rw [okAll, List.range_succ, List.all_append, Bool.and_eq_true]
  exact ⟨h, by simp [hi]⟩
theorem okAll_bad {xss : List (List Nd)} {n j : Nat} (h : j < n) (hi : isB (nthL xss j) (nthL xss j).length = false) : okAll xss n = false := by
  cases e : okAll xss n with
  | false => rfl
  | true => rw [okAll_at e h] at hi; cases hi

end Go.Proofs.Ytomldealpmohhaa
