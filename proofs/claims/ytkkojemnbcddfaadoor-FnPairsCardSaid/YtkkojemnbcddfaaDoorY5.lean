/- Chapter 7: how long the answers are. -/
import Derived.Test.YtkkojemnbcddfaaDoorX9
import Derived.Test.YtkkojemnbcddfaaDoorI16
namespace Go.Proofs.YtkkojemnbcddfaaDoor
open Go.RowKit

theorem pairsV_small (p : Prt) : (pairsV p).length < 300000001 := by
  unfold pairsV
  split
  · rename_i h
    have := (part_ok h).T
    have := (pair_facts p.T p.N).few
    omega
  · simp
theorem bracketsV_small (p : Prt) : (bracketsV p).length < 300000001 := by
  unfold bracketsV
  split
  · rename_i h
    have := (part_ok h).T
    have := (part_ok h).N
    rw [bracketsN_len]
    omega
  · simp
theorem neutralsV_small (p : Prt) : (neutralsV p).length < 300000001 := by
  unfold neutralsV
  split
  · rename_i h
    have := (part_ok h).T
    have := (part_ok h).N
    rw [neutralsN_len]
    omega
  · simp
theorem sidesV_small (p : Prt) : (sidesV p).length < 300000001 := by
  unfold sidesV
  split
  · rename_i h
    have := (part_ok h).T
    have := (part_ok h).N
    rw [sidesN_len]
    omega
  · simp
end Go.Proofs.YtkkojemnbcddfaaDoor
