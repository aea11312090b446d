/- The model's copy of a list. -/
import Derived.Test.YtcfnhjpmihngdaaH1
namespace Go.Proofs.Ytcfnhjpmihngdaa
open Go.RowKit

end Go.Proofs.Ytcfnhjpmihngdaa
