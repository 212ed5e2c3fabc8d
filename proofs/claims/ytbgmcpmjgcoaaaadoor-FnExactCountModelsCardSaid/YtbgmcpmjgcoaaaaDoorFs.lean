/- The first row with a value by the model; IsTautology of the model and of the program. Conditions: the package's table for the program, and those in the theorems. -/
import Derived.Test.YtbgmcpmjgcoaaaaDoorMa
import Derived.Test.YtbgmcpmjgcoaaaaDoorTv
namespace Go.Proofs.YtbgmcpmjgcoaaaaDoor
open Go.RowKit

end Go.Proofs.YtbgmcpmjgcoaaaaDoor
