/- The contract of slices.Equal at lists of int64. Conditions: those in the theorems. -/
import Derived.Test.YtfdoecnpnfojpaaSlices
namespace Go.Proofs.Ytfdoecnpnfojpaa
open Go.RowKit

theorem list_ext_i {xs ys : List Int} (hl : xs.length = ys.length) (h : ∀ j, j < xs.length → nth xs j = nth ys j) : xs = ys := by
  apply List.ext_getElem hl
  intro i h1 h2
  have := h i h1
  unfold nth at this
  rw [List.getD_eq_getElem?_getD, List.getD_eq_getElem?_getD, List.getElem?_eq_getElem h1, List.getElem?_eq_getElem h2] at this
  exact this

end Go.Proofs.Ytfdoecnpnfojpaa
