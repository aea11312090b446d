/- The draws of chapter 1: a source of numbers. -/
import Derived.Test.YtflnpfkmlocllaaDoorM4
import Derived.Test.YtflnpfkmlocllaaDoorT10
import Derived.Test.YtflnpfkmlocllaaDoorN1
namespace Go.Proofs.YtflnpfkmlocllaaDoor
end Go.Proofs.YtflnpfkmlocllaaDoor
