/- Chapter 7: the model's pairs, whole. -/
import Derived.Test.YtkkojemnbcddfaaX3
namespace Go.Proofs.Ytkkojemnbcddfaa
open Go.RowKit

end Go.Proofs.Ytkkojemnbcddfaa
