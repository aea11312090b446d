/- slices.Backward at []int64. -/
import Derived.Test.YtcfnhjpmihngdaaRows
import Derived.Test.YtcfnhjpmihngdaaB0
import Derived.RangeFuncNested
import Derived.RangeFuncBound
import Derived.RangeFuncBox
import Derived.RangeFuncCalls
import Derived.RangeFuncLeaves
import Derived.Shelf.Abstract
import Derived.Shelf.RegionOpen
import Derived.OwnWalkIn
import Derived.TacticsInMore
import Derived.LoopNIn
import Derived.LoopIn
namespace Go.Proofs.Ytcfnhjpmihngdaa
open Go.RowKit Go.Shelf
attribute [local go_sem] Oper.semAt_some

/-- the places from the last one on, j of m -/
def dn (m j : Nat) : List Nat := (List.range j).map fun i => m - 1 - i
theorem dn_succ (m j : Nat) : dn m (j + 1) = dn m j ++ [m - 1 - j] := by simp [dn, List.range_succ]
theorem dn_len (m j : Nat) : (dn m j).length = j := by simp [dn]

end Go.Proofs.Ytcfnhjpmihngdaa
