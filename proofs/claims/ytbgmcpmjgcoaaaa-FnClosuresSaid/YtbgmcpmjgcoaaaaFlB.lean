/- The walks of the model's l05Flag at some flags. Conditions: those in the theorems. -/
import Derived.Test.YtbgmcpmjgcoaaaaFlM
namespace Go.Proofs.Ytbgmcpmjgcoaaaa
open Go.RowKit

end Go.Proofs.Ytbgmcpmjgcoaaaa
