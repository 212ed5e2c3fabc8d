/- The truth set of a formula, by the model. Conditions: those in the theorems. -/
import Derived.Test.YtomldealpmohhaaTr2
import Derived.Test.YtomldealpmohhaaTr3
import Derived.Test.YtomldealpmohhaaTr4
namespace Go.Proofs.Ytomldealpmohhaa
open Go.RowKit

theorem tr_bi (k : Int) (g d : Fm) (hk : k = 2 ∨ k = 3 ∨ k = 4) (hg : g.ok) (ihg : TrC g) (ihd : TrC d) : TrC (.bi k g d) := by
  rcases hk with rfl | rfl | rfl
  · exact tr_bi2 g d hg ihg ihd
  · exact tr_bi3 g d hg ihg ihd
  · exact tr_bi4 g d hg ihg ihd
theorem l06Truth_any (f : Fm) (hf : f.ok) : TrC f := by
  induction f with
  | va s => exact tr_va s hf
  | fa => exact tr_fa
  | bi k a b iha ihb => exact tr_bi k a b hf.1 hf.2.1 (iha hf.2.1) (ihb hf.2.2)
  | un k a ih => exact tr_un k a hf.1 (ih hf.2)

end Go.Proofs.Ytomldealpmohhaa
