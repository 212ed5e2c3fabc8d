/- The walk of the law FnExactCountModels. Conditions: those in the theorems. -/
import Derived.Test.YtbgmcpmjgcoaaaaDoorCi
namespace Go.Proofs.YtbgmcpmjgcoaaaaDoor
open Go.RowKit

end Go.Proofs.YtbgmcpmjgcoaaaaDoor
