/- Contracts of the program's flagsOf. Conditions: those in the theorems. -/
import Derived.Test.YtckilaeolkgnkaaFlP
import Derived.Test.YtckilaeolkgnkaaSum
namespace Go.Proofs.Ytckilaeolkgnkaa
open Go.RowKit

end Go.Proofs.Ytckilaeolkgnkaa
