/- Contracts of the drawing functions of the model's chapter 1 that draw sizes, masks and relations. Conditions: those in the theorems. -/
import Derived.Test.YtfpnmeacnhcakaaDraw
namespace Go.Proofs.Ytfpnmeacnhcakaa
open Go.RowKit

end Go.Proofs.Ytfpnmeacnhcakaa
