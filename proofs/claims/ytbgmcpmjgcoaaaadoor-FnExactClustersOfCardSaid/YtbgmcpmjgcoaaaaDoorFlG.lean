/- Contracts of the program's flagsOf. Conditions: those in the theorems. -/
import Derived.Test.YtbgmcpmjgcoaaaaDoorFlP
import Derived.Test.YtbgmcpmjgcoaaaaDoorSum
namespace Go.Proofs.YtbgmcpmjgcoaaaaDoor
open Go.RowKit

end Go.Proofs.YtbgmcpmjgcoaaaaDoor
