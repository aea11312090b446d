/- The laws' helpers for results: the comparison of two results, the marks in them. -/
import Derived.Test.YtcfnhjpmihngdaaH1
namespace Go.Proofs.Ytcfnhjpmihngdaa
open Go.RowKit

set_option maxRecDepth 100000 in
set_option maxHeartbeats 400000 in
theorem eqIntResult_same (x0 : Int) (x1 : Int)  (w : World) :
    Calls Try.prog 6 #[.agg #[.int .i64 x0, .int .i64 x1], .agg #[.int .i64 x0, .int .i64 x1]] w fun e w' => e = .returned (.bool true) ∧ Below w.heap.size w w' := by
  have k0 : (x0 != x0) = false := by simp
  have k1 : (x1 != x1) = false := by simp
  have b0 := ((Below.refl w.heap.size w).alloc (Nat.le_refl _) (.cells #[.int .i64 x0, .int .i64 x1] 23)).alloc (by simp) (.cells #[.int .i64 x0, .int .i64 x1] 23)
  go_enter Try.func6, Try.ntmps6
  go_wp2
  go_ret
  exact ⟨rfl, b0⟩
end Go.Proofs.Ytcfnhjpmihngdaa
