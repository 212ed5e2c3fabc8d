/- The contract of the model's l01Same. Conditions: those in the theorem. -/
import Derived.Test.YtecjmibnoldpgaaEqI
namespace Go.Proofs.Ytecjmibnoldpgaa
open Go.RowKit

end Go.Proofs.Ytecjmibnoldpgaa
