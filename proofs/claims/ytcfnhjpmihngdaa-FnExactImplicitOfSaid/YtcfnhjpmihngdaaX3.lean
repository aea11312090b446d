/- Chapter 7: the model's pairs. -/
import Derived.Test.YtcfnhjpmihngdaaX2
import Derived.BigQuiet
import Derived.Deep.QuietTactic
namespace Go.Proofs.Ytcfnhjpmihngdaa
open Go.RowKit

end Go.Proofs.Ytcfnhjpmihngdaa
