/- The laws' helpers for results: the comparison of two results, the marks in them. -/
import Derived.Test.YtmcmfklkljehiaaH1
namespace Go.Proofs.Ytmcmfklkljehiaa
open Go.RowKit

end Go.Proofs.Ytmcmfklkljehiaa
