/- The walk of the law FnSubstitutions. Conditions: those in the theorems. -/
import Derived.Test.YtfkahkhmnchnjaaSuM
import Derived.Test.YtfkahkhmnchnjaaDsu
import Derived.Test.YtfkahkhmnchnjaaSame
import Derived.Test.YtfkahkhmnchnjaaMtV
namespace Go.Proofs.Ytfkahkhmnchnjaa
open Go.RowKit

end Go.Proofs.Ytfkahkhmnchnjaa
