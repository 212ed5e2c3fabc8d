/- The contract of the model's l01Same. Conditions: those in the theorem. -/
import Derived.Test.YtfdoecnpnfojpaaEqI
namespace Go.Proofs.Ytfdoecnpnfojpaa
open Go.RowKit

end Go.Proofs.Ytfdoecnpnfojpaa
