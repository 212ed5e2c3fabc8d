/- Contracts of the drawing functions of the model's chapter 1 that draw sizes, masks and relations. Conditions: those in the theorems. -/
import Derived.Test.YtfdoecnpnfojpaaDraw
namespace Go.Proofs.Ytfdoecnpnfojpaa
open Go.RowKit

end Go.Proofs.Ytfdoecnpnfojpaa
