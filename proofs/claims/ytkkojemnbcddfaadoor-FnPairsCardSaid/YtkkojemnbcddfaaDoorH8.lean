/- The laws' helpers for chapter 6's results. -/
import Derived.Test.YtkkojemnbcddfaaDoorH1
namespace Go.Proofs.YtkkojemnbcddfaaDoor
open Go.RowKit

set_option maxRecDepth 100000 in
set_option maxHeartbeats 400000 in
theorem eqClassesResult_same (x0 : Int) (v1 u1 : Value) (zs1 : List Int) (w : World) (B B' : Nat) (h1 : Sees w B .i64 v1 zs1) (g1 : Sees w B' .i64 u1 zs1) (l1 : zs1.length < 1000000000) (hB : B ≤ w.heap.size) (hB' : B' ≤ w.heap.size) :
    Calls Tryd.prog 30 #[.agg #[.int .i64 x0, v1], .agg #[.int .i64 x0, u1]] w fun e w' => e = .returned (.bool true) ∧ Below w.heap.size w w' := by
  have k0 : (x0 != x0) = false := by simp
  have b0 := ((Below.refl w.heap.size w).alloc (Nat.le_refl _) (.cells #[.int .i64 x0, v1] 39)).alloc (by simp) (.cells #[.int .i64 x0, u1] 39)
  go_enter Tryd.func30, Tryd.ntmps30
  go_wp2_with fail
  refine (eqInt64S_same _ _ zs1 _ B B' (h1.below b0 hB) (g1.below b0 hB') l1).mono ?_
  rintro e w1 ⟨rfl, n1, rfl⟩
  have b1 := below_drewN b0 n1
  go_wp2
  go_ret
  exact ⟨rfl, b1⟩
set_option maxRecDepth 100000 in
set_option maxHeartbeats 400000 in
theorem markClassesResult_own (x0 : Int) (v1 : Value) (zs1 : List Int) (k : Int) (w : World) (lo hi : Nat) (h1 : Own w lo hi 2 .i64 v1 zs1) (l1 : zs1.length < 1000000000) (hk0 : 0 ≤ k) (hk1 : k < 1000000000) (hw : hi ≤ w.heap.size) :
    Calls Tryd.prog 31 #[.agg #[.int .i64 x0, v1], .int .i64 k] w fun e w' => (e = .returned (.int .i64 (k + (zs1.length : Int))) ∧ Own w' lo hi 2 .i64 v1 (marks (k) zs1.length)) ∧ Out lo hi w w' := by
  have b0 := (Below.refl w.heap.size w).alloc (Nat.le_refl _) (.cells #[.int .i64 x0, v1] 39)
  have o1 := h1.below b0 hw
  have q0 : Out lo hi w _ := Out.of_below b0
  have c0 := Blk.new w 39 #[.int .i64 x0, v1]
  go_enter Tryd.func31, Tryd.ntmps31
  go_wp2_with fail
  refine (markInt64S_own v1 zs1 _ _ lo hi o1 l1 (by omega) (by omega)).mono ?_
  rintro e w1 ⟨⟨rfl, p1⟩, g1⟩
  have q1 := q0.trans (Out.of_grown g1 o1.lt)
  go_wp2
  go_ret
  exact ⟨⟨rfl, p1⟩, q1⟩
set_option maxRecDepth 100000 in
set_option maxHeartbeats 400000 in
theorem heldClassesResult_own (x0 : Int) (v1 : Value) (n1 : Nat) (k : Int) (w : World) (B : Nat) (h1 : Sees w B .i64 v1 (marks (k) n1)) (l1 : n1 < 1000000000) (hk0 : 0 ≤ k) (hk1 : k < 1000000000) (hB : B ≤ w.heap.size) :
    Calls Tryd.prog 32 #[.agg #[.int .i64 x0, v1], .int .i64 k] w fun e w' => e = .returned (.int .i64 (k + (n1 : Int))) ∧ Below w.heap.size w w' := by
  have b0 := (Below.refl w.heap.size w).alloc (Nat.le_refl _) (.cells #[.int .i64 x0, v1] 39)
  go_enter Tryd.func32, Tryd.ntmps32
  go_wp2_with fail
  refine (heldInt64S_own v1 n1 _ _ B (h1.below b0 hB) l1 (by omega) (by omega)).mono ?_
  rintro e w1 ⟨rfl, rfl⟩
  go_wp2
  go_ret
  exact ⟨rfl, b0⟩
end Go.Proofs.YtkkojemnbcddfaaDoor
