/- Negation normal forms as trees, and contracts of NegationNormal of the model. Conditions: those in the theorems. -/
import Derived.Test.YtbhgedabcclimaaWrite
import Derived.Test.YtbhgedabcclimaaMade
namespace Go.Proofs.Ytbhgedabcclimaa
open Go.RowKit

def Fm.nn : Fm → Bool → Fm
  | .va s, p => if p then .va s else .bi 4 (.va s) .fa
  | .fa, p => if p then .fa else .bi 4 .fa .fa
  | .un k a, p => .un (if p then k else 11 - k) (a.nn p)
  | .bi k a b, p => if k = 4 then (if b.isFa then a.nn (!p) else .bi (if p then 3 else 2) (a.nn (!p)) (b.nn p)) else .bi (if p then k else 5 - k) (a.nn p) (b.nn p)
theorem Fm.nn_sz (f : Fm) : ∀ p, (f.nn p).sz ≤ 3 * f.sz := by
  induction f with
  | va s => intro p; cases p <;> simp [nn, sz]
  | fa => intro p; cases p <;> simp [nn, sz]
  | un k a ih => intro p; have := ih p; simp only [nn, sz]; omega
  | bi k a b iha ihb =>
    intro p
    have h1 := iha p
    have h2 := iha (!p)
    have h3 := ihb p
    rw [nn]
    split
    · split
      · simp only [sz]; omega
      · simp only [sz]; omega
    · simp only [sz]; omega

end Go.Proofs.Ytbhgedabcclimaa
