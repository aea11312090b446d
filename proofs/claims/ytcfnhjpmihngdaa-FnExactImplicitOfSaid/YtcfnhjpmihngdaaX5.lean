/- Chapter 7: the model's brackets. -/
import Derived.Test.YtcfnhjpmihngdaaX4
import Derived.Test.YtcfnhjpmihngdaaS4
import Derived.Deep.RegionHeld3
namespace Go.Proofs.Ytcfnhjpmihngdaa
open Go.RowKit

end Go.Proofs.Ytcfnhjpmihngdaa
