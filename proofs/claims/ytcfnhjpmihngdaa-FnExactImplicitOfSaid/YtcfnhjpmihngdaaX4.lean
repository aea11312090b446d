/- Chapter 7: the model's pairs, whole. -/
import Derived.Test.YtcfnhjpmihngdaaX3
namespace Go.Proofs.Ytcfnhjpmihngdaa
open Go.RowKit

end Go.Proofs.Ytcfnhjpmihngdaa
