/- The laws' helpers for results that hold slices of slices. -/
import Derived.Test.YtflnpfkmlocllaaH3
namespace Go.Proofs.Ytflnpfkmlocllaa
open Go.RowKit

set_option maxRecDepth 100000 in
set_option maxHeartbeats 400000 in
theorem eqParasResult_same (x0 : Int) (x2 : Bool) (v1 u1 : Value) (zs1 : List (List Int)) (w : World) (B B' : Nat) (h1 : SeesSS w B .i64 v1 zs1) (g1 : SeesSS w B' .i64 u1 zs1) (l1 : zs1.length + total zs1 < 1000000000) (hB : B ≤ w.heap.size) (hB' : B' ≤ w.heap.size) :
    Calls Try.prog 24 #[.agg #[.int .i64 x0, v1, .bool x2], .agg #[.int .i64 x0, u1, .bool x2]] w fun e w' => e = .returned (.bool true) ∧ Below w.heap.size w w' := by
  have k0 : (x0 != x0) = false := by simp
  have k2 : (x2 != x2) = false := by simp
  have b0 := ((Below.refl w.heap.size w).alloc (Nat.le_refl _) (.cells #[.int .i64 x0, v1, .bool x2] 28)).alloc (by simp) (.cells #[.int .i64 x0, u1, .bool x2] 28)
  go_enter Try.func24, Try.ntmps24
  go_wp2_with fail
  refine (eqInt64SS_same _ _ zs1 _ B B' (h1.below b0 hB) (g1.below b0 hB') l1).mono ?_
  rintro e w1 ⟨rfl, n1, rfl⟩
  have b1 := below_drewN b0 n1
  go_wp2
  go_ret
  exact ⟨rfl, b1⟩
set_option maxRecDepth 100000 in
set_option maxHeartbeats 400000 in
theorem markParasResult_own (x0 : Int) (x2 : Bool) (v1 : Value) (zs1 : List (List Int)) (k : Int) (w : World) (lo hi : Nat) (h1 : OwnSS w lo hi 24 2 .i64 v1 zs1) (l1 : zs1.length + total zs1 < 1000000000) (hk0 : 0 ≤ k) (hk1 : k < 1000000000) (hw : hi ≤ w.heap.size) :
    Calls Try.prog 26 #[.agg #[.int .i64 x0, v1, .bool x2], .int .i64 k] w fun e w' => (e = .returned (.int .i64 (k + (total zs1 : Int))) ∧ OwnSS w' lo hi 24 2 .i64 v1 (marksSS (k) zs1)) ∧ Out lo hi w w' := by
  have b0 := (Below.refl w.heap.size w).alloc (Nat.le_refl _) (.cells #[.int .i64 x0, v1, .bool x2] 28)
  have o1 := h1.below b0 hw
  have q0 : Out lo hi w _ := Out.of_below b0
  have c0 := Blk.new w 28 #[.int .i64 x0, v1, .bool x2]
  go_enter Try.func26, Try.ntmps26
  go_wp2_with fail
  refine (markInt64SS_own v1 zs1 _ _ lo hi o1 l1 (by omega) (by omega)).mono ?_
  rintro e w1 ⟨⟨rfl, p1⟩, g1⟩
  have q1 := q0.trans g1
  go_wp2
  go_ret
  exact ⟨⟨rfl, p1⟩, q1⟩
set_option maxRecDepth 100000 in
set_option maxHeartbeats 400000 in
theorem heldParasResult_own (x0 : Int) (x2 : Bool) (v1 : Value) (n1 : List (List Int)) (k : Int) (w : World) (B : Nat) (h1 : SeesSS w B .i64 v1 (marksSS (k) n1)) (l1 : n1.length + total n1 < 1000000000) (hk0 : 0 ≤ k) (hk1 : k < 1000000000) (hB : B ≤ w.heap.size) :
    Calls Try.prog 27 #[.agg #[.int .i64 x0, v1, .bool x2], .int .i64 k] w fun e w' => e = .returned (.int .i64 (k + (total n1 : Int))) ∧ Below w.heap.size w w' := by
  have b0 := (Below.refl w.heap.size w).alloc (Nat.le_refl _) (.cells #[.int .i64 x0, v1, .bool x2] 28)
  go_enter Try.func27, Try.ntmps27
  go_wp2_with fail
  refine (heldInt64SS_own v1 n1 _ _ B (h1.below b0 hB) l1 (by omega) (by omega)).mono ?_
  rintro e w1 ⟨rfl, rfl⟩
  go_wp2
  go_ret
  exact ⟨rfl, b0⟩
end Go.Proofs.Ytflnpfkmlocllaa
