/- Contracts of the model's depths and of DepthsOfWorlds of both. Conditions: those in the theorems. -/
import Derived.Test.YtckilaeolkgnkaaClu
import Derived.Test.YtckilaeolkgnkaaDpS
import Derived.Test.YtckilaeolkgnkaaDptI
namespace Go.Proofs.Ytckilaeolkgnkaa
open Go.RowKit

def dpTo (xs : List Int) : Nat → List Int
  | 0 => []
  | k + 1 => dpTo xs k ++ [dp xs k]
theorem dpTo_tab (xs : List Int) (k : Nat) : dpTo xs k = tab k (dp xs) := by
  induction k with
  | zero => rfl
  | succ k ih => rw [dpTo, ih]; unfold tab; rw [List.range_succ, List.map_append]; rfl
theorem dpTo_len (xs : List Int) (k : Nat) : (dpTo xs k).length = k := by rw [dpTo_tab, tab_len]

end Go.Proofs.Ytckilaeolkgnkaa
