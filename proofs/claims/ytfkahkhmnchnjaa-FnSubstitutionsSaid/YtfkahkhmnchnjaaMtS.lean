/- Contracts of the model's l03Match and MatchFormula, at every argument. Conditions: those in the theorems. -/
import Derived.Test.YtfkahkhmnchnjaaMt
import Derived.Test.YtfkahkhmnchnjaaInL
import Derived.Deep.RegionWith
import Derived.BigRegion
namespace Go.Proofs.Ytfkahkhmnchnjaa
open Go.RowKit

end Go.Proofs.Ytfkahkhmnchnjaa
