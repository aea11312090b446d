/- The laws' helpers for results: the comparison of two results, the marks in them. -/
import Derived.Test.YthhbikilighemaaH1
namespace Go.Proofs.Ythhbikilighemaa
open Go.RowKit

end Go.Proofs.Ythhbikilighemaa
