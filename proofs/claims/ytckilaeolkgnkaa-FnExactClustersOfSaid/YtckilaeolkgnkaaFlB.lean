/- The walks of the model's l05Flag at some flags. Conditions: those in the theorems. -/
import Derived.Test.YtckilaeolkgnkaaFlM
namespace Go.Proofs.Ytckilaeolkgnkaa
open Go.RowKit

end Go.Proofs.Ytckilaeolkgnkaa
