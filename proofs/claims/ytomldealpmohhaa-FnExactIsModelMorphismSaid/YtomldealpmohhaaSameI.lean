/- The contract of the model's l01Same. Conditions: those in the theorem. -/
import Derived.Test.YtomldealpmohhaaEqI
namespace Go.Proofs.Ytomldealpmohhaa
open Go.RowKit

end Go.Proofs.Ytomldealpmohhaa
