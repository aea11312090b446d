/- The draws of chapter 1: a source of numbers. -/
import Derived.Test.YtmkpbfghnkmcgaaDoorM4
import Derived.Test.YtmkpbfghnkmcgaaDoorT10
import Derived.Test.YtmkpbfghnkmcgaaDoorN1
namespace Go.Proofs.YtmkpbfghnkmcgaaDoor
end Go.Proofs.YtmkpbfghnkmcgaaDoor
