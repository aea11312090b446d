/- The laws' helpers for the results of chapter 4. -/
import Derived.Test.YtmkpbfghnkmcgaaH1
namespace Go.Proofs.Ytmkpbfghnkmcgaa
open Go.RowKit

set_option maxRecDepth 100000 in
set_option maxHeartbeats 400000 in
theorem eqLevelsResult_same (x0 : Int) (v1 u1 : Value) (zs1 : List Int) (v2 u2 : Value) (zs2 : List Int) (w : World) (B B' : Nat) (h1 : Sees w B .i64 v1 zs1) (g1 : Sees w B' .i64 u1 zs1) (l1 : zs1.length < 1000000000) (h2 : Sees w B .i64 v2 zs2) (g2 : Sees w B' .i64 u2 zs2) (l2 : zs2.length < 1000000000) (hB : B ≤ w.heap.size) (hB' : B' ≤ w.heap.size) :
    Calls Try.prog 44 #[.agg #[.int .i64 x0, v1, v2], .agg #[.int .i64 x0, u1, u2]] w fun e w' => e = .returned (.bool true) ∧ Below w.heap.size w w' := by
  have k0 : (x0 != x0) = false := by simp
  have b0 := ((Below.refl w.heap.size w).alloc (Nat.le_refl _) (.cells #[.int .i64 x0, v1, v2] 43)).alloc (by simp) (.cells #[.int .i64 x0, u1, u2] 43)
  go_enter Try.func44, Try.ntmps44
  go_wp2_with fail
  refine (eqInt64S_same _ _ zs1 _ B B' (h1.below b0 hB) (g1.below b0 hB') l1).mono ?_
  rintro e w1 ⟨rfl, n1, rfl⟩
  have b1 := below_drewN b0 n1
  go_wp2_with fail
  refine (eqInt64S_same _ _ zs2 _ B B' (h2.below b1 hB) (g2.below b1 hB') l2).mono ?_
  rintro e w2 ⟨rfl, n2, rfl⟩
  have b2 := below_drewN b1 n2
  go_wp2
  go_ret
  exact ⟨rfl, by simpa only [World.drewN_drewN] using b2⟩
set_option maxRecDepth 100000 in
set_option maxHeartbeats 400000 in
theorem markLevelsResult_own (x0 : Int) (v1 : Value) (zs1 : List Int) (v2 : Value) (zs2 : List Int) (k : Int) (w : World) (lo hi : Nat) (h1 : Own w lo hi 2 .i64 v1 zs1) (l1 : zs1.length < 1000000000) (h2 : Own w lo hi 2 .i64 v2 zs2) (l2 : zs2.length < 1000000000) (d12 : v1.ownBlock = none ∨ v1.ownBlock ≠ v2.ownBlock) (d21 : v2.ownBlock = none ∨ v2.ownBlock ≠ v1.ownBlock) (hk0 : 0 ≤ k) (hk1 : k < 1000000000) (hw : hi ≤ w.heap.size) :
    Calls Try.prog 45 #[.agg #[.int .i64 x0, v1, v2], .int .i64 k] w fun e w' => (e = .returned (.int .i64 (k + (zs1.length : Int) + (zs2.length : Int))) ∧ Own w' lo hi 2 .i64 v1 (marks (k) zs1.length) ∧ Own w' lo hi 2 .i64 v2 (marks (k + (zs1.length : Int)) zs2.length)) ∧ Out lo hi w w' := by
  have b0 := (Below.refl w.heap.size w).alloc (Nat.le_refl _) (.cells #[.int .i64 x0, v1, v2] 43)
  have o1 := h1.below b0 hw
  have o2 := h2.below b0 hw
  have q0 : Out lo hi w _ := Out.of_below b0
  have c0 := Blk.new w 43 #[.int .i64 x0, v1, v2]
  go_enter Try.func45, Try.ntmps45
  go_wp2_with fail
  refine (markInt64S_own v1 zs1 _ _ lo hi o1 l1 (by omega) (by omega)).mono ?_
  rintro e w1 ⟨⟨rfl, p1⟩, g1⟩
  replace o2 := o2.grown g1 d21
  have q1 := q0.trans (Out.of_grown g1 o1.lt)
  have c1 := c0.out (Out.of_grown (lo := lo) (hi := hi) g1 o1.lt) (.inr hw)
  have e1 := c1.cell 2 (u := v2) rfl
  go_wp2_with fail
  refine (markInt64S_own v2 zs2 _ _ lo hi o2 l2 (by omega) (by omega)).mono ?_
  rintro e w2 ⟨⟨rfl, p2⟩, g2⟩
  replace p1 := p1.grown g2 d12
  have q2 := q1.trans (Out.of_grown g2 o2.lt)
  go_wp2
  go_ret
  exact ⟨⟨rfl, p1, p2⟩, q2⟩
set_option maxRecDepth 100000 in
set_option maxHeartbeats 400000 in
theorem heldLevelsResult_own (x0 : Int) (v1 : Value) (n1 : Nat) (v2 : Value) (n2 : Nat) (k : Int) (w : World) (B : Nat) (h1 : Sees w B .i64 v1 (marks (k) n1)) (l1 : n1 < 1000000000) (h2 : Sees w B .i64 v2 (marks (k + (n1 : Int)) n2)) (l2 : n2 < 1000000000) (hk0 : 0 ≤ k) (hk1 : k < 1000000000) (hB : B ≤ w.heap.size) :
    Calls Try.prog 46 #[.agg #[.int .i64 x0, v1, v2], .int .i64 k] w fun e w' => e = .returned (.int .i64 (k + (n1 : Int) + (n2 : Int))) ∧ Below w.heap.size w w' := by
  have b0 := (Below.refl w.heap.size w).alloc (Nat.le_refl _) (.cells #[.int .i64 x0, v1, v2] 43)
  go_enter Try.func46, Try.ntmps46
  go_wp2_with fail
  refine (heldInt64S_own v1 n1 _ _ B (h1.below b0 hB) l1 (by omega) (by omega)).mono ?_
  rintro e w1 ⟨rfl, rfl⟩
  go_wp2_with fail
  refine (heldInt64S_own v2 n2 _ _ B (h2.below b0 hB) l2 (by omega) (by omega)).mono ?_
  rintro e w2 ⟨rfl, rfl⟩
  go_wp2
  go_ret
  exact ⟨rfl, b0⟩
end Go.Proofs.Ytmkpbfghnkmcgaa
