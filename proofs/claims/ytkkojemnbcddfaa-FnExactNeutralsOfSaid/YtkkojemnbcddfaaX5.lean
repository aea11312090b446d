/- Chapter 7: the model's brackets. -/
import Derived.Test.YtkkojemnbcddfaaX4
import Derived.Test.YtkkojemnbcddfaaS4
import Derived.Deep.RegionHeld3
namespace Go.Proofs.Ytkkojemnbcddfaa
open Go.RowKit

end Go.Proofs.Ytkkojemnbcddfaa
