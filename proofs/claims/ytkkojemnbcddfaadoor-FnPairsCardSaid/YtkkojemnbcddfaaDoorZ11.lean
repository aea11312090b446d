/- Chapter 7: what the program answers: PartFault, NeutralsOf. -/
import Derived.Test.YtkkojemnbcddfaaDoorY4
import Derived.Test.YtkkojemnbcddfaaDoorZ4
import Derived.Test.YtkkojemnbcddfaaDoorZ10
namespace Go.Proofs.YtkkojemnbcddfaaDoor
open Go.RowKit Go.Maps

theorem partFault_val (v0 v1 v2 : Value) (p : Prt) (w : World) (B : Nat) (h0 : Sees w B .i64 v0 p.T) (h1 : Sees w B .i64 v1 p.F) (h2 : Sees w B .i64 v2 p.N) (hB : B ≤ w.heap.size) (l0 : p.T.length < 1000000000) (l1 : p.F.length < 1000000000) (l2 : p.N.length < 1000000000) (_ : PartWf p) :
    Calls Tryd.prog 12 #[.agg #[v0, v1, v2, .int .i64 p.L, .int .i64 p.S, .int .i64 p.E]] w fun e w' => e = .returned (.int .i64 (partF p)) ∧ Below w.heap.size w w' :=
  partFault_any v0 v1 v2 p w B h0 h1 h2 hB l0 l1 l2
set_option maxRecDepth 100000 in
set_option maxHeartbeats 2000000 in
theorem neutralsOf_val (v0 v1 v2 : Value) (p : Prt) (w : World) (B : Nat) (h0 : Sees w B .i64 v0 p.T) (h1 : Sees w B .i64 v1 p.F) (h2 : Sees w B .i64 v2 p.N) (hB : B ≤ w.heap.size) (l0 : p.T.length < 1000000000) (l1 : p.F.length < 1000000000) (l2 : p.N.length < 1000000000) (_ : PartWf p) :
    Calls Tryd.prog 18 #[.agg #[v0, v1, v2, .int .i64 p.L, .int .i64 p.S, .int .i64 p.E]] w fun e w' => (∃ u, e = .returned (.agg #[.int .i64 (partF p), u]) ∧ Own w' w.heap.size w'.heap.size 2 .i64 u (neutralsV p)) ∧ Below w.heap.size w w' := by
  have pt := PtR.new w 26 B v0 v1 v2 p hB h0 h1 h2
  have b1 := (Below.refl w.heap.size w).alloc (Nat.le_refl _) (.cells #[v0, v1, v2, .int .i64 p.L, .int .i64 p.S, .int .i64 p.E] 26)
  have b2 := b1.alloc (by simp) (.cells #[.int .i64 0, .slice none 0 0] 39)
  have P2 := Lib.hid (pt.below ((Below.refl (w.heap.size + 1) _).alloc (by simp) (.cells #[.int .i64 0, .slice none 0 0] 39)) (Nat.le_refl _))
  have k2 := Blk.new (w.alloc (.cells #[v0, v1, v2, .int .i64 p.L, .int .i64 p.S, .int .i64 p.E] 26)) 39 #[.int .i64 0, .slice none 0 0]
  have sz2 : ((w.alloc (.cells #[v0, v1, v2, .int .i64 p.L, .int .i64 p.S, .int .i64 p.E] 26)).alloc (.cells #[.int .i64 0, .slice none 0 0] 39)).heap.size = w.heap.size + 1 + 1 := by simp
  rw [World.size_alloc] at k2
  have C2 := Lib.hid (partFault_any v0 v1 v2 p _ B (h0.below b2 hB) (h1.below b2 hB) (h2.below b2 hB) (by rw [sz2]; omega) l0 l1 l2)
  have B2 := Lib.hid b2
  have K2 := Lib.hid k2
  clear pt b1 b2 k2 h0 h1 h2
  go_enter Tryd.func18, Tryd.ntmps18
  have f0 := P2.out.blk.cell 0 (u := v0) rfl
  have f1 := P2.out.blk.cell 1 (u := v1) rfl
  have f2 := P2.out.blk.cell 2 (u := v2) rfl
  have f3 := P2.out.blk.cell 3 (u := .int .i64 p.L) rfl
  have f4 := P2.out.blk.cell 4 (u := .int .i64 p.S) rfl
  have f5 := P2.out.blk.cell 5 (u := .int .i64 p.E) rfl
  go_wp2_with fail
  refine C2.out.mono ?_
  rintro e w3 ⟨rfl, b3⟩
  generalize (w.alloc (.cells #[v0, v1, v2, .int .i64 p.L, .int .i64 p.S, .int .i64 p.E] 26)).alloc (.cells #[.int .i64 0, .slice none 0 0] 39) = w2 at *
  have P3 := Lib.hid (P2.out.below b3 (by omega))
  have K3 := Lib.hid (K2.out.below b3 (by omega))
  have B3 := Lib.hid (below_on B2.out b3 (by omega))
  have s3 := b3.size
  clear C2 P2 K2 B2 b3 f0 f1 f2 f3 f4 f5
  by_cases hz : partF p = 0
  · have EV := Lib.hid (show neutralsV p = neutralsN p.N (sideL p.L) p.S p.E by unfold neutralsV; rw [if_pos hz])
    have OK := Lib.hid (part_ok hz)
    have PZ := Lib.hid (partF_zero hz)
    have CS := Lib.hid (side01 PZ.out.2.1)
    have HZ := Lib.hid hz
    have f0 := P3.out.blk.cell 0 (u := v0) rfl
    have f1 := P3.out.blk.cell 1 (u := v1) rfl
    have f2 := P3.out.blk.cell 2 (u := v2) rfl
    have f3 := P3.out.blk.cell 3 (u := .int .i64 p.L) rfl
    have f4 := P3.out.blk.cell 4 (u := .int .i64 p.S) rfl
    have f5 := P3.out.blk.cell 5 (u := .int .i64 p.E) rfl
    rw [hz]
    clear hz
    go_wp2_with fail
    refine (neutralsIn_any v0 v1 v2 p w3 (w.heap.size + 1) P3.out.s0 P3.out.s1 P3.out.s2 (by omega) (by rw [OK.out.N]; exact OK.out.T)).mono ?_
    rintro e w4 ⟨⟨v4, rfl, o4⟩, b4⟩
    obtain ⟨A4, c4, rfl⟩ := o4.form
    have k4 := K3.out.below b4 (by omega)
    have s4 := b4.size
    have B4 := Lib.hid (below_on B3.out b4 (by omega))
    have hd0 := k4.cell 0 (u := .int .i64 0) rfl
    have hd1 := k4.cell 1 (u := .slice none 0 0) rfl
    have hf0 := k4.frozen 0
    have hf1 := k4.frozen 1
    have OW := Lib.hid o4
    obtain ⟨ys, hys⟩ : ∃ ys, Hid (ys = neutralsN p.N (sideL p.L) p.S p.E) := ⟨_, Lib.hid rfl⟩
    rw [← hys.out] at OW EV ⊢
    clear o4 b4 k4 f0 f1 f2 f3 f4 f5
    go_wp2
    refine bodyPost_ret (v := .agg #[.int .i64 0, .slice A4 ys.length c4]) (by simp [results, Tryd.results18, go_sem, hd0, hd1]) rfl ?_
    rw [HZ.out, EV.out]
    refine ⟨⟨_, rfl, ?_⟩, ?_⟩
    · exact ((OW.out.set _ _ (.inl (by simp; omega))).set _ _ (.inl (by simp; omega))).more (by omega) (by simp)
    · exact (B4.out.setCell (by simp) _).setCell (by simp) _
  · have EV := Lib.hid (show neutralsV p = [] by unfold neutralsV; rw [if_neg hz])
    obtain ⟨q, hq⟩ : ∃ q, Hid (q = partF p) := ⟨_, Lib.hid rfl⟩
    have hne : (q != 0) = true := by rw [hq.out]; simpa using hz
    have hd0 := K3.out.cell 0 (u := .int .i64 0) rfl
    have hd1 := K3.out.cell 1 (u := .slice none 0 0) rfl
    have hf0 := K3.out.frozen 0
    have hf1 := K3.out.frozen 1
    clear hz
    rw [← hq.out]
    go_wp2
    refine bodyPost_ret (v := .agg #[.int .i64 q, .slice none 0 0]) (by simp [results, Tryd.results18, go_sem, hd0, hd1]) rfl ?_
    rw [EV.out, ← hq.out]
    exact ⟨⟨_, rfl, Own.nil _ _ _ _ _⟩, (B3.out.setCell (by simp) _).setCell (by simp) _⟩
end Go.Proofs.YtkkojemnbcddfaaDoor
