/- Chapter 7: the model's pairs. -/
import Derived.Test.YtkkojemnbcddfaaX2
import Derived.BigQuiet
import Derived.Deep.QuietTactic
namespace Go.Proofs.Ytkkojemnbcddfaa
open Go.RowKit

end Go.Proofs.Ytkkojemnbcddfaa
