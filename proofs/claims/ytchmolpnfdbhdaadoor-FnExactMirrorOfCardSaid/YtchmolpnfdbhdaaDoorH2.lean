/- The laws' helpers for results: the comparison of two results, the marks in them. -/
import Derived.Test.YtchmolpnfdbhdaaDoorH1
namespace Go.Proofs.YtchmolpnfdbhdaaDoor
open Go.RowKit

set_option maxHeartbeats 400000 in
theorem eqIntResult_same (x0 : Int) (x1 : Int)  (w : World) :
    Calls Tryd.prog 51 #[.agg #[.int .i64 x0, .int .i64 x1], .agg #[.int .i64 x0, .int .i64 x1]] w fun e w' => e = .returned (.bool true) ∧ Below w.heap.size w w' := by
  have k0 : (x0 != x0) = false := by simp
  have k1 : (x1 != x1) = false := by simp
  have b0 := ((Below.refl w.heap.size w).alloc (Nat.le_refl _) (.cells #[.int .i64 x0, .int .i64 x1] 47)).alloc (by simp) (.cells #[.int .i64 x0, .int .i64 x1] 47)
  go_enter Tryd.func51, Tryd.ntmps51
  go_wp2
  go_ret
  exact ⟨rfl, b0⟩
set_option maxHeartbeats 400000 in
theorem eqBracketResult_same (x0 : Int) (x1 : Bool) (x2 : Int)  (w : World) :
    Calls Tryd.prog 52 #[.agg #[.int .i64 x0, .bool x1, .int .i64 x2], .agg #[.int .i64 x0, .bool x1, .int .i64 x2]] w fun e w' => e = .returned (.bool true) ∧ Below w.heap.size w w' := by
  have k0 : (x0 != x0) = false := by simp
  have k1 : (x1 != x1) = false := by simp
  have k2 : (x2 != x2) = false := by simp
  have b0 := ((Below.refl w.heap.size w).alloc (Nat.le_refl _) (.cells #[.int .i64 x0, .bool x1, .int .i64 x2] 50)).alloc (by simp) (.cells #[.int .i64 x0, .bool x1, .int .i64 x2] 50)
  go_enter Tryd.func52, Tryd.ntmps52
  go_wp2
  go_ret
  exact ⟨rfl, b0⟩
end Go.Proofs.YtchmolpnfdbhdaaDoor
