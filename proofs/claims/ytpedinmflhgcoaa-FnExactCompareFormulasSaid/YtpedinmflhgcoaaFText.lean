/- Contracts of FormulaText of the model and of the program, at every list of nodes. Conditions: those in the theorems. -/
import Derived.Test.YtpedinmflhgcoaaText4
import Derived.Test.YtpedinmflhgcoaaWrite3
namespace Go.Proofs.Ytpedinmflhgcoaa
open Go.RowKit

end Go.Proofs.Ytpedinmflhgcoaa
