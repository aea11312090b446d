/- Chapter 7: what the program answers: SidesOf. -/
import Derived.Test.YtkkojemnbcddfaaDoorZ14
import Derived.Test.YtkkojemnbcddfaaDoorZ11
namespace Go.Proofs.YtkkojemnbcddfaaDoor
open Go.RowKit Go.Maps

theorem cls_wf {z : Int} (h : 0 ≤ z ∧ z ≤ 22) : (Lit.int .i64 z).wf = true := wf_small (by omega)
theorem brackets_cls {p : Prt} (h : partF p = 0) : ∀ z ∈ bracketsN p, 0 ≤ z ∧ z ≤ 22 :=
  brun_all (P := fun z => 0 ≤ z ∧ z ≤ 22) p.F (sideL_cases p.L) p.S p.N _ (by decide) (by decide) (classF_zero (partF_zero h).2.2.1).2.1 _
theorem brackets_part {p : Prt} (h : partF p = 0) : partF { p with N := bracketsN p } = 0 := by
  have z := partF_zero h
  have c := classF_zero z.2.2.1
  have bl := bracketsN_len p
  exact partF_yes z.1 z.2.1 (classF_ok (by show ¬ 600 < (bracketsN p).length; omega) (List.all_eq_true.2 fun x hx => by unfold clsB; exact decide_eq_true (brackets_cls h x hx)) c.2.2) z.2.2.2.1 (by show (bracketsN p).length = _; rw [bl]; exact z.2.2.2.2.1) z.2.2.2.2.2
set_option maxRecDepth 100000 in
set_option maxHeartbeats 4000000 in
theorem sidesOf_val (v0 v1 v2 : Value) (p : Prt) (w : World) (B : Nat) (h0 : Sees w B .i64 v0 p.T) (h1 : Sees w B .i64 v1 p.F) (h2 : Sees w B .i64 v2 p.N) (hB : B ≤ w.heap.size) (l0 : p.T.length < 1000000000) (l1 : p.F.length < 1000000000) (l2 : p.N.length < 1000000000) (WF : PartWf p) (hP : Pairs w) :
    Calls Tryd.prog 16 #[.agg #[v0, v1, v2, .int .i64 p.L, .int .i64 p.S, .int .i64 p.E]] w fun e w' => (∃ u, e = .returned (.agg #[.int .i64 (partF p), u]) ∧ Own w' w.heap.size w'.heap.size 2 .i64 u (sidesV p)) ∧ Below w.heap.size w w' := by
  have pt := PtR.new w 26 B v0 v1 v2 p hB h0 h1 h2
  have b1 := (Below.refl w.heap.size w).alloc (Nat.le_refl _) (.cells #[v0, v1, v2, .int .i64 p.L, .int .i64 p.S, .int .i64 p.E] 26)
  have b2 := b1.alloc (by simp) (.cells #[.int .i64 0, .slice none 0 0] 39)
  have P2 := Lib.hid (pt.below ((Below.refl (w.heap.size + 1) _).alloc (by simp) (.cells #[.int .i64 0, .slice none 0 0] 39)) (Nat.le_refl _))
  have k2 := Blk.new (w.alloc (.cells #[v0, v1, v2, .int .i64 p.L, .int .i64 p.S, .int .i64 p.E] 26)) 39 #[.int .i64 0, .slice none 0 0]
  have sz2 := Lib.hid (show ((w.alloc (.cells #[v0, v1, v2, .int .i64 p.L, .int .i64 p.S, .int .i64 p.E] 26)).alloc (.cells #[.int .i64 0, .slice none 0 0] 39)).heap.size = w.heap.size + 1 + 1 from by simp)
  rw [World.size_alloc] at k2
  have C2 := Lib.hid (bracketsOf_val v0 v1 v2 p _ B (h0.below b2 hB) (h1.below b2 hB) (h2.below b2 hB) (by rw [sz2.out]; omega) l0 l1 l2 WF (hP.on b2))
  have B2 := Lib.hid b2
  have K2 := Lib.hid k2
  have WFh := Lib.hid WF
  have L0 := Lib.hid l0
  have L1 := Lib.hid l1
  have S0 := Lib.hid h0
  have S1 := Lib.hid h1
  clear pt b1 b2 k2 h0 h1 h2 hP WF l0 l1 l2
  go_enter Tryd.func16, Tryd.ntmps16
  have f0 := P2.out.blk.cell 0 (u := v0) rfl
  have f1 := P2.out.blk.cell 1 (u := v1) rfl
  have f2 := P2.out.blk.cell 2 (u := v2) rfl
  have f3 := P2.out.blk.cell 3 (u := .int .i64 p.L) rfl
  have f4 := P2.out.blk.cell 4 (u := .int .i64 p.S) rfl
  have f5 := P2.out.blk.cell 5 (u := .int .i64 p.E) rfl
  go_wp2_with fail
  refine C2.out.mono ?_
  rintro e w3 ⟨⟨v3, rfl, o3⟩, b3⟩
  generalize (w.alloc (.cells #[v0, v1, v2, .int .i64 p.L, .int .i64 p.S, .int .i64 p.E] 26)).alloc (.cells #[.int .i64 0, .slice none 0 0] 39) = w2 at *
  have P3 := P2.out.below b3 (by have := sz2.out; omega)
  have K3 := K2.out.below b3 (by have := sz2.out; omega)
  have B3 := below_on B2.out b3 (by have := sz2.out; omega)
  have s3 := b3.size
  obtain ⟨A3, c3, rfl⟩ := o3.form
  obtain ⟨q, hq⟩ : ∃ q, Hid (q = partF p) := ⟨_, Lib.hid rfl⟩
  obtain ⟨bs, hbs⟩ : ∃ bs, Hid (bs = bracketsV p) := ⟨_, Lib.hid rfl⟩
  rw [← hq.out, ← hbs.out]
  rw [← hbs.out] at o3
  have P4 := Lib.hid (P3.below ((Below.refl w3.heap.size w3).alloc (Nat.le_refl _) (.cells #[.int .i64 q, .slice A3 bs.length c3] 39)) (by have := sz2.out; omega))
  have K4 := Lib.hid (K3.alloc (.cells #[.int .i64 q, .slice A3 bs.length c3] 39))
  have J4 := Lib.hid (Blk.new w3 39 #[.int .i64 q, .slice A3 bs.length c3])
  have B4 := Lib.hid (B3.alloc (by have := sz2.out; omega) (.cells #[.int .i64 q, .slice A3 bs.length c3] 39))
  have O4 := Lib.hid (o3.alloc (.cells #[.int .i64 q, .slice A3 bs.length c3] 39))
  have s4 := Lib.hid (show (w3.alloc (.cells #[.int .i64 q, .slice A3 bs.length c3] 39)).heap.size = w3.heap.size + 1 from by simp)
  clear C2 P2 K2 B2 b3 f0 f1 f2 f3 f4 f5 P3 K3 B3 o3
  have j0 := J4.out.cell 0 (u := .int .i64 q) rfl
  have j1 := J4.out.cell 1 (u := .slice A3 bs.length c3) rfl
  have k0 := K4.out.cell 0 (u := .int .i64 0) rfl
  have k1 := K4.out.cell 1 (u := .slice none 0 0) rfl
  have kf0 := K4.out.frozen 0
  have kf1 := K4.out.frozen 1
  by_cases hz : q = 0
  · have hz' : partF p = 0 := by rw [← hq.out]; exact hz
    have EV := Lib.hid (show sidesV p = sidesN p by unfold sidesV; rw [if_pos hz'])
    have EB := Lib.hid (show bs = bracketsN p by rw [hbs.out]; unfold bracketsV; rw [if_pos hz'])
    have BL := Lib.hid (show bs.length < 1000000000 by rw [EB.out, bracketsN_len, (part_ok hz').N]; have := (part_ok hz').T; omega)
    have BP := Lib.hid (brackets_part hz')
    have BC := Lib.hid (brackets_cls hz')
    rw [← EB.out] at BP BC
    have SN := Lib.hid (show neutralsV { p with N := bs } = sidesN p by unfold neutralsV; rw [if_pos BP.out, EB.out]; rfl)
    subst hz
    clear hz'
    have f2 := P4.out.blk.cell 2 (u := v2) rfl
    have ff2 := P4.out.blk.frozen 2
    have KB := Lib.hid (show Blk ((w3.alloc (.cells #[.int .i64 0, .slice A3 bs.length c3] 39)).setCell ⟨w.heap.size, 2, none⟩ (.slice A3 bs.length c3)) w.heap.size 26 #[v0, v1, .slice A3 bs.length c3, .int .i64 p.L, .int .i64 p.S, .int .i64 p.E] from P4.out.blk.set 2 (.slice A3 bs.length c3))
    have BW := Lib.hid (B4.out.setCell (p := ⟨w.heap.size, 2, none⟩) (Nat.le_refl _) (.slice A3 bs.length c3))
    have OW := Lib.hid (O4.out.set ⟨w.heap.size, 2, none⟩ (.slice A3 bs.length c3) (.inl (by show w.heap.size < _; have := sz2.out; omega)))
    have KW := Lib.hid (show Blk ((w3.alloc (.cells #[.int .i64 0, .slice A3 bs.length c3] 39)).setCell ⟨w.heap.size, 2, none⟩ (.slice A3 bs.length c3)) (w.heap.size + 1) 39 #[.int .i64 0, .slice none 0 0] from (heap_setCell_other _ _ _ _ (by show w.heap.size + 1 ≠ w.heap.size; omega)).trans K4.out)
    have sW := Lib.hid (show ((w3.alloc (.cells #[.int .i64 0, .slice A3 bs.length c3] 39)).setCell ⟨w.heap.size, 2, none⟩ (.slice A3 bs.length c3)).heap.size = w3.heap.size + 1 from by simp)
    have g0 := KB.out.cell 0 (u := v0) rfl
    have g1 := KB.out.cell 1 (u := v1) rfl
    have g2 := KB.out.cell 2 (u := .slice A3 bs.length c3) rfl
    have g3 := KB.out.cell 3 (u := .int .i64 p.L) rfl
    have g4 := KB.out.cell 4 (u := .int .i64 p.S) rfl
    have g5 := KB.out.cell 5 (u := .int .i64 p.E) rfl
    go_wp2_with fail
    generalize (w3.alloc (.cells #[.int .i64 0, .slice A3 bs.length c3] 39)).setCell ⟨w.heap.size, 2, none⟩ (.slice A3 bs.length c3) = wW at *
    clear g0 g1 g2 g3 g4 g5 j0 j1 k0 k1 kf0 kf1 f2 ff2 KB P4 J4 B4 O4 K4
    have CN := neutralsOf_val v0 v1 (.slice A3 bs.length c3) { p with N := bs } wW wW.heap.size (sees_up (S0.out.below BW.out hB) (by have := BW.out.size; omega)) (sees_up (S1.out.below BW.out hB) (by have := BW.out.size; omega)) (sees_up OW.out.sees (by have := sW.out; have := s4.out; omega)) (Nat.le_refl _) L0.out L1.out BL.out ⟨WFh.out.w0, WFh.out.w1, fun z hz => cls_wf (BC.out z hz), WFh.out.wL, WFh.out.wS, WFh.out.wE⟩
    rw [BP.out, SN.out] at CN
    refine CN.mono ?_
    clear CN
    rintro e w5 ⟨⟨v5, rfl, o5⟩, b5⟩
    obtain ⟨A5, c5, rfl⟩ := o5.form
    have k5 := KW.out.below b5 (by have := sW.out; have := sz2.out; omega)
    have B5 := Lib.hid (below_on BW.out b5 (by have := BW.out.size; omega))
    have s5 := b5.size
    have hd0 := k5.cell 0 (u := .int .i64 0) rfl
    have hd1 := k5.cell 1 (u := .slice none 0 0) rfl
    have hf0 := k5.frozen 0
    have hf1 := k5.frozen 1
    have O5 := Lib.hid o5
    obtain ⟨ys, hys⟩ : ∃ ys, Hid (ys = sidesN p) := ⟨_, Lib.hid rfl⟩
    rw [← hys.out] at O5 EV ⊢
    have bsz := Lib.hid (show w.heap.size + 1 + 1 ≤ wW.heap.size by have := sW.out; have := sz2.out; omega)
    clear o5 b5 k5
    go_wp2
    refine bodyPost_ret (v := .agg #[.int .i64 0, .slice A5 ys.length c5]) (by simp [results, Tryd.results16, go_sem, hd0, hd1]) rfl ?_
    rw [← hq.out, EV.out]
    refine ⟨⟨_, rfl, ?_⟩, ?_⟩
    · exact ((O5.out.set _ _ (.inl (by have := bsz.out; simp; omega))).set _ _ (.inl (by have := bsz.out; simp; omega))).more (by have := bsz.out; omega) (by simp)
    · exact (B5.out.setCell (by simp) _).setCell (by simp) _
  · have hz' : ¬ partF p = 0 := by rw [← hq.out]; exact hz
    have EV := Lib.hid (show sidesV p = [] by unfold sidesV; rw [if_neg hz'])
    have EB := Lib.hid (show bs = [] by rw [hbs.out]; unfold bracketsV; rw [if_neg hz'])
    have hne : (q != 0) = true := by simpa using hz
    clear hz hz'
    go_wp2
    refine bodyPost_ret (v := .agg #[.int .i64 q, .slice A3 bs.length c3]) (by simp [results, Tryd.results16, go_sem, k0, k1]) rfl ?_
    rw [EV.out, ← hq.out, ← EB.out]
    refine ⟨⟨_, rfl, ?_⟩, ?_⟩
    · exact ((O4.out.set _ _ (.inl (by have := sz2.out; show w.heap.size + 1 < w2.heap.size; omega))).set _ _ (.inl (by have := sz2.out; show w.heap.size + 1 < w2.heap.size; omega))).more (by have := sz2.out; omega) (by simp)
    · exact (B4.out.setCell (by show w.heap.size ≤ w.heap.size + 1; omega) _).setCell (by show w.heap.size ≤ w.heap.size + 1; omega) _
end Go.Proofs.YtkkojemnbcddfaaDoor
