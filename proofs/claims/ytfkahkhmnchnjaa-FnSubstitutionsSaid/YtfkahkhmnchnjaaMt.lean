/- Matching of formulas, node by node: what is matched so far, and that both lists end together. No conditions but those in the theorems. -/
import Derived.Test.YtfkahkhmnchnjaaSubV
import Derived.Test.YtfkahkhmnchnjaaNPol
namespace Go.Proofs.Ytfkahkhmnchnjaa

end Go.Proofs.Ytfkahkhmnchnjaa
