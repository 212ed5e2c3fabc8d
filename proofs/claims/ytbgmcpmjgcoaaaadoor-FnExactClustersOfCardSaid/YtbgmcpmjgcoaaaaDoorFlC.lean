/- The walks of the model's l05Flag at some flags. Conditions: those in the theorems. -/
import Derived.Test.YtbgmcpmjgcoaaaaDoorFlM
namespace Go.Proofs.YtbgmcpmjgcoaaaaDoor
open Go.RowKit

end Go.Proofs.YtbgmcpmjgcoaaaaDoor
