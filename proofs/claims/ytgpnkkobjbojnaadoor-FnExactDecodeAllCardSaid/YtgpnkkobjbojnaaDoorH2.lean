/- The laws' helpers for results: the comparison of two results, the marks in them. -/
import Derived.Test.YtgpnkkobjbojnaaDoorH1
namespace Go.Proofs.YtgpnkkobjbojnaaDoor
open Go.RowKit

set_option maxHeartbeats 400000 in
theorem eqIntsResult_same (x0 : Int) (v1 u1 : Value) (zs1 : List Int) (w : World) (B B' : Nat) (h1 : Sees w B .i64 v1 zs1) (g1 : Sees w B' .i64 u1 zs1) (l1 : zs1.length < 1000000000) (hB : B ≤ w.heap.size) (hB' : B' ≤ w.heap.size) :
    Calls Tryd.prog 38 #[.agg #[.int .i64 x0, v1], .agg #[.int .i64 x0, u1]] w fun e w' => e = .returned (.bool true) ∧ Below w.heap.size w w' := by
  have k0 : (x0 != x0) = false := by simp
  have b0 := ((Below.refl w.heap.size w).alloc (Nat.le_refl _) (.cells #[.int .i64 x0, v1] 36)).alloc (by simp) (.cells #[.int .i64 x0, u1] 36)
  go_enter Tryd.func38, Tryd.ntmps38
  go_wp2_with fail
  refine (eqInt64S_same _ _ zs1 _ B B' (h1.below b0 hB) (g1.below b0 hB') l1).mono ?_
  rintro e w1 ⟨rfl, n1, rfl⟩
  have b1 := below_drewN b0 n1
  go_wp2
  go_ret
  exact ⟨rfl, b1⟩
set_option maxHeartbeats 400000 in
theorem markIntsResult_own (x0 : Int) (v1 : Value) (zs1 : List Int) (k : Int) (w : World) (lo hi : Nat) (h1 : Own w lo hi 2 .i64 v1 zs1) (l1 : zs1.length < 1000000000) (hk0 : 0 ≤ k) (hk1 : k < 1000000000) (hw : hi ≤ w.heap.size) :
    Calls Tryd.prog 39 #[.agg #[.int .i64 x0, v1], .int .i64 k] w fun e w' => (e = .returned (.int .i64 (k + (zs1.length : Int))) ∧ Own w' lo hi 2 .i64 v1 (marks (k) zs1.length)) ∧ Out lo hi w w' := by
  have b0 := (Below.refl w.heap.size w).alloc (Nat.le_refl _) (.cells #[.int .i64 x0, v1] 36)
  have o1 := h1.below b0 hw
  have q0 : Out lo hi w _ := Out.of_below b0
  have c0 := Blk.new w 36 #[.int .i64 x0, v1]
  go_enter Tryd.func39, Tryd.ntmps39
  go_wp2_with fail
  refine (markInt64S_own v1 zs1 _ _ lo hi o1 l1 (by omega) (by omega)).mono ?_
  rintro e w1 ⟨⟨rfl, p1⟩, g1⟩
  have q1 := q0.trans (Out.of_grown g1 o1.lt)
  go_wp2
  go_ret
  exact ⟨⟨rfl, p1⟩, q1⟩
set_option maxHeartbeats 400000 in
theorem heldIntsResult_own (x0 : Int) (v1 : Value) (n1 : Nat) (k : Int) (w : World) (B : Nat) (h1 : Sees w B .i64 v1 (marks (k) n1)) (l1 : n1 < 1000000000) (hk0 : 0 ≤ k) (hk1 : k < 1000000000) (hB : B ≤ w.heap.size) :
    Calls Tryd.prog 40 #[.agg #[.int .i64 x0, v1], .int .i64 k] w fun e w' => e = .returned (.int .i64 (k + (n1 : Int))) ∧ Below w.heap.size w w' := by
  have b0 := (Below.refl w.heap.size w).alloc (Nat.le_refl _) (.cells #[.int .i64 x0, v1] 36)
  go_enter Tryd.func40, Tryd.ntmps40
  go_wp2_with fail
  refine (heldInt64S_own v1 n1 _ _ B (h1.below b0 hB) l1 (by omega) (by omega)).mono ?_
  rintro e w1 ⟨rfl, rfl⟩
  go_wp2
  go_ret
  exact ⟨rfl, b0⟩
set_option maxHeartbeats 400000 in
theorem eqDecodeResult_same (x0 : Int) (v1 u1 : Value) (zs1 : List Int) (v2 u2 : Value) (zs2 : List Int) (w : World) (B B' : Nat) (h1 : Sees w B .i64 v1 zs1) (g1 : Sees w B' .i64 u1 zs1) (l1 : zs1.length < 1000000000) (h2 : Sees w B .u8 v2 zs2) (g2 : Sees w B' .u8 u2 zs2) (l2 : zs2.length < 1000000000) (hB : B ≤ w.heap.size) (hB' : B' ≤ w.heap.size) :
    Calls Tryd.prog 34 #[.agg #[.int .i64 x0, v1, v2], .agg #[.int .i64 x0, u1, u2]] w fun e w' => e = .returned (.bool true) ∧ Below w.heap.size w w' := by
  have k0 : (x0 != x0) = false := by simp
  have b0 := ((Below.refl w.heap.size w).alloc (Nat.le_refl _) (.cells #[.int .i64 x0, v1, v2] 32)).alloc (by simp) (.cells #[.int .i64 x0, u1, u2] 32)
  go_enter Tryd.func34, Tryd.ntmps34
  go_wp2_with fail
  refine (eqInt64S_same _ _ zs1 _ B B' (h1.below b0 hB) (g1.below b0 hB') l1).mono ?_
  rintro e w1 ⟨rfl, n1, rfl⟩
  have b1 := below_drewN b0 n1
  go_wp2_with fail
  refine (eqByteS_same _ _ zs2 _ B B' (h2.below b1 hB) (g2.below b1 hB') l2).mono ?_
  rintro e w2 ⟨rfl, n2, rfl⟩
  have b2 := below_drewN b1 n2
  go_wp2
  go_ret
  exact ⟨rfl, by simpa only [World.drewN_drewN] using b2⟩
set_option maxHeartbeats 400000 in
theorem markDecodeResult_own (x0 : Int) (v1 : Value) (zs1 : List Int) (v2 : Value) (zs2 : List Int) (k : Int) (w : World) (lo hi : Nat) (h1 : Own w lo hi 2 .i64 v1 zs1) (l1 : zs1.length < 1000000000) (h2 : Own w lo hi 5 .u8 v2 zs2) (l2 : zs2.length < 1000000000) (d12 : v1.ownBlock = none ∨ v1.ownBlock ≠ v2.ownBlock) (d21 : v2.ownBlock = none ∨ v2.ownBlock ≠ v1.ownBlock) (hk0 : 0 ≤ k) (hk1 : k < 1000000000) (hw : hi ≤ w.heap.size) :
    Calls Tryd.prog 36 #[.agg #[.int .i64 x0, v1, v2], .int .i64 k] w fun e w' => (e = .returned (.int .i64 (k + (zs1.length : Int) + (zs2.length : Int))) ∧ Own w' lo hi 2 .i64 v1 (marks (k) zs1.length) ∧ Own w' lo hi 5 .u8 v2 (marks8 (k + (zs1.length : Int)) zs2.length)) ∧ Out lo hi w w' := by
  have b0 := (Below.refl w.heap.size w).alloc (Nat.le_refl _) (.cells #[.int .i64 x0, v1, v2] 32)
  have o1 := h1.below b0 hw
  have o2 := h2.below b0 hw
  have q0 : Out lo hi w _ := Out.of_below b0
  have c0 := Blk.new w 32 #[.int .i64 x0, v1, v2]
  go_enter Tryd.func36, Tryd.ntmps36
  go_wp2_with fail
  refine (markInt64S_own v1 zs1 _ _ lo hi o1 l1 (by omega) (by omega)).mono ?_
  rintro e w1 ⟨⟨rfl, p1⟩, g1⟩
  replace o2 := o2.grown g1 d21
  have q1 := q0.trans (Out.of_grown g1 o1.lt)
  have c1 := c0.out (Out.of_grown (lo := lo) (hi := hi) g1 o1.lt) (.inr hw)
  have e1 := c1.cell 2 (u := v2) rfl
  go_wp2_with fail
  refine (markByteS_own v2 zs2 _ _ lo hi o2 l2 (by omega) (by omega)).mono ?_
  rintro e w2 ⟨⟨rfl, p2⟩, g2⟩
  replace p1 := p1.grown g2 d12
  have q2 := q1.trans (Out.of_grown g2 o2.lt)
  go_wp2
  go_ret
  exact ⟨⟨rfl, p1, p2⟩, q2⟩
set_option maxHeartbeats 400000 in
theorem heldDecodeResult_own (x0 : Int) (v1 : Value) (n1 : Nat) (v2 : Value) (n2 : Nat) (k : Int) (w : World) (B : Nat) (h1 : Sees w B .i64 v1 (marks (k) n1)) (l1 : n1 < 1000000000) (h2 : Sees w B .u8 v2 (marks8 (k + (n1 : Int)) n2)) (l2 : n2 < 1000000000) (hk0 : 0 ≤ k) (hk1 : k < 1000000000) (hB : B ≤ w.heap.size) :
    Calls Tryd.prog 37 #[.agg #[.int .i64 x0, v1, v2], .int .i64 k] w fun e w' => e = .returned (.int .i64 (k + (n1 : Int) + (n2 : Int))) ∧ Below w.heap.size w w' := by
  have b0 := (Below.refl w.heap.size w).alloc (Nat.le_refl _) (.cells #[.int .i64 x0, v1, v2] 32)
  go_enter Tryd.func37, Tryd.ntmps37
  go_wp2_with fail
  refine (heldInt64S_own v1 n1 _ _ B (h1.below b0 hB) l1 (by omega) (by omega)).mono ?_
  rintro e w1 ⟨rfl, rfl⟩
  go_wp2_with fail
  refine (heldByteS_own v2 n2 _ _ B (h2.below b0 hB) l2 (by omega) (by omega)).mono ?_
  rintro e w2 ⟨rfl, rfl⟩
  go_wp2
  go_ret
  exact ⟨rfl, b0⟩
end Go.Proofs.YtgpnkkobjbojnaaDoor
