/- Chapter 8: the program's part of a sequence. -/
import Derived.Test.YtcfnhjpmihngdaaGreatY43
import Derived.Test.YtcfnhjpmihngdaaGreatY36
import Derived.Test.YtcfnhjpmihngdaaGreatY22
import Derived.Deep.RegionHeld3
namespace Go.Proofs.YtcfnhjpmihngdaaGreat
open Go.RowKit Go.Shelf

theorem classF_bad {zs : List Int} {s : Int} (h : ¬ classF zs s = 0) : marksV zs s = [] ∧ numsV zs s = [] ∧ signsV zs s = [] ∧ weakV zs s = [] := by
  unfold marksV numsV signsV weakV
  rw [if_neg h, if_neg h, if_neg h, if_neg h]
  exact ⟨rfl, rfl, rfl, rfl⟩
theorem marksV_ok {zs : List Int} {s : Int} (h : classF zs s = 0) : marksV zs s = marksW zs s := by unfold marksV; rw [if_pos h]
theorem marksV_len (zs : List Int) (s : Int) : (marksV zs s).length ≤ 600 := by
  by_cases h : classF zs s = 0
  · rw [marksV_ok h, marksW_len]; exact (classF_zero h).1
  · rw [show marksV zs s = [] by unfold marksV; rw [if_neg h]]; simp
theorem numsV_ok {zs : List Int} {s : Int} (h : classF zs s = 0) : numsV zs s = numsW zs s := by unfold numsV; rw [if_pos h]
theorem numsV_len (zs : List Int) (s : Int) : (numsV zs s).length ≤ 600 := by
  by_cases h : classF zs s = 0
  · rw [numsV_ok h, numsW_len]; exact (classF_zero h).1
  · rw [show numsV zs s = [] by unfold numsV; rw [if_neg h]]; simp
theorem signsV_ok {zs : List Int} {s : Int} (h : classF zs s = 0) : signsV zs s = signsW zs s := by unfold signsV; rw [if_pos h]
theorem signsV_len (zs : List Int) (s : Int) : (signsV zs s).length ≤ 600 := by
  by_cases h : classF zs s = 0
  · rw [signsV_ok h, signsW_len]; exact (classF_zero h).1
  · rw [show signsV zs s = [] by unfold signsV; rw [if_neg h]]; simp
theorem weakV_ok {zs : List Int} {s : Int} (h : classF zs s = 0) : weakV zs s = weakW zs s := by unfold weakV; rw [if_pos h]
theorem weakV_len (zs : List Int) (s : Int) : (weakV zs s).length ≤ 600 := by
  by_cases h : classF zs s = 0
  · rw [weakV_ok h, weakW_len]; exact (classF_zero h).1
  · rw [show weakV zs s = [] by unfold weakV; rw [if_neg h]]; simp
set_option maxRecDepth 100000 in
set_option maxHeartbeats 4000000 in
theorem classesMarks_any (v : Value) (zs : List Int) (s : Int) (w : World) (B : Nat) (h : Sees w B .i64 v zs) (hB : B ≤ w.heap.size) (l : zs.length < 1000000000) :
    Calls Tryz.prog 87 #[v, .int .i64 s, .int .i64 0, .int .i64 0] w fun e w' => (∃ u, e = .returned (.agg #[.int .i64 (classF zs s), u]) ∧ Own w' w.heap.size w'.heap.size 2 .i64 u (marksV zs s)) ∧ Below w.heap.size w w' := by
  obtain ⟨A, c, rfl, hr⟩ := h
  have HR := Lib.hid hr
  clear hr
  have b0 := (Below.refl w.heap.size w).alloc (Nat.le_refl _) (.cells #[.int .i64 0, .slice none 0 0] 94)
  have k0 := Blk.new w 94 #[.int .i64 0, .slice none 0 0]
  go_enter Tryz.func87, Tryz.ntmps87
  go_wp2_with fail
  refine (classesFault_any A zs c s _ B (HR.out.below ((Below.refl B w).alloc hB _) (Nat.le_refl _)) (by simp; omega) l).mono ?_
  rintro e w1 ⟨rfl, b1⟩
  have k1 := k0.below b1 k0.lt
  have b2 := below_on b0 b1 (Nat.le_refl _)
  have R1 := Lib.hid ((HR.out.below ((Below.refl B w).alloc hB _) (Nat.le_refl _)).below b1 (by simp; omega))
  have s1 := k1.lt
  by_cases hz : classF zs s = 0
  · have EV := Lib.hid (marksV_ok hz)
    have hll := (classF_zero hz).1
    have HZ := Lib.hid hz
    have K1 := Lib.hid k1
    have B2 := Lib.hid b2
    rw [hz]
    clear hz b0 k0 b1 k1 b2
    obtain ⟨n, hn⟩ : ∃ n, Hid (n = zs.length) := ⟨_, Lib.hid rfl⟩
    go_wp2_with fail
    refine (cloneInt_own _ zs w1 B ⟨A, c, rfl, R1.out⟩ (by omega) l).mono ?_
    rintro e w2 ⟨⟨v2, rfl, o2⟩, b3⟩
    obtain ⟨A2, c2, rfl⟩ := o2.form
    have s2 := b3.size
    have ro := o2.1
    rw [← hn.out] at o2 hll ro ⊢
    have H3 : Hid (WkO (w2.alloc (.cells #[.slice A2 n c2, .int .i64 s] 132)) 132 2 w1.heap.size w2.heap.size A2 n c2 zs s) := Lib.hid ⟨Blk.new w2 _ _, own_below ro ((Below.refl _ _).alloc (Nat.le_refl _) _), o2.2, hn.out.symm⟩
    have K3 := Lib.hid ((K1.out.below b3 K1.out.lt).alloc (.cells #[.slice A2 n c2, .int .i64 s] 132))
    have B3 := Lib.hid ((below_on B2.out b3 (by omega)).alloc (by omega) (.cells #[.slice A2 n c2, .int .i64 s] 132))
    clear o2 ro b3 K1 B2
    go_wp2_with fail
    refine (turnsMarks_any H3.out hll).mono ?_
    rintro e w4 ⟨⟨rfl, h4⟩, o4⟩
    have k4 := K3.out.out o4 (.inl (by omega))
    have B4 := Lib.hid (B3.out.trans (o4.to_below (B := w.heap.size) (by omega) (by simp; omega)))
    have e0 := h4.blk.cell 0 (u := .slice A2 n c2) rfl
    have hd0 := k4.cell 0 (u := .int .i64 0) rfl
    have hd1 := k4.cell 1 (u := .slice none 0 0) rfl
    have hf0 := k4.frozen 0
    have hf1 := k4.frozen 1
    have ne : w2.heap.size ≠ w.heap.size := by omega
    have OW := Lib.hid (show Own w4 w1.heap.size w4.heap.size 2 .i64 (.slice A2 n c2) (marksW zs s) from Own.mk_ h4.row h4.len.symm)
    clear o4 h4 H3 K3 B3 k4
    go_wp2
    refine bodyPost_ret (v := .agg #[.int .i64 0, .slice A2 n c2]) (by simp [results, Tryz.results87, go_sem, hd0, hd1]) rfl ?_
    rw [HZ.out, EV.out]
    exact ⟨⟨_, rfl, ((OW.out.set _ _ (.inl (by simp; omega))).set _ _ (.inl (by simp; omega))).more (by omega) (by simp)⟩, (B4.out.setCell (by simp) _).setCell (by simp) _⟩
  · have EV := Lib.hid (show marksV zs s = [] by unfold marksV; rw [if_neg hz])
    obtain ⟨q, hq⟩ : ∃ q, Hid (q = classF zs s) := ⟨_, Lib.hid rfl⟩
    have hne : (q != 0) = true := by rw [hq.out]; simpa using hz
    have hd0 := k1.cell 0 (u := .int .i64 0) rfl
    have hd1 := k1.cell 1 (u := .slice none 0 0) rfl
    have hf0 := k1.frozen 0
    have hf1 := k1.frozen 1
    clear hz
    rw [← hq.out]
    go_wp2
    refine bodyPost_ret (v := .agg #[.int .i64 q, .slice none 0 0]) (by simp [results, Tryz.results87, go_sem, hd0, hd1]) rfl ?_
    rw [EV.out, ← hq.out]
    exact ⟨⟨_, rfl, Own.nil _ _ _ _ _⟩, (b2.setCell (by simp) _).setCell (by simp) _⟩
set_option maxRecDepth 100000 in
set_option maxHeartbeats 4000000 in
theorem classesNumbers_any (v : Value) (zs : List Int) (s : Int) (w : World) (B : Nat) (h : Sees w B .i64 v zs) (hB : B ≤ w.heap.size) (l : zs.length < 1000000000) :
    Calls Tryz.prog 87 #[v, .int .i64 s, .int .i64 1, .int .i64 1] w fun e w' => (∃ u, e = .returned (.agg #[.int .i64 (classF zs s), u]) ∧ Own w' w.heap.size w'.heap.size 2 .i64 u (numsV zs s)) ∧ Below w.heap.size w w' := by
  obtain ⟨A, c, rfl, hr⟩ := h
  have HR := Lib.hid hr
  clear hr
  have b0 := (Below.refl w.heap.size w).alloc (Nat.le_refl _) (.cells #[.int .i64 0, .slice none 0 0] 94)
  have k0 := Blk.new w 94 #[.int .i64 0, .slice none 0 0]
  go_enter Tryz.func87, Tryz.ntmps87
  go_wp2_with fail
  refine (classesFault_any A zs c s _ B (HR.out.below ((Below.refl B w).alloc hB _) (Nat.le_refl _)) (by simp; omega) l).mono ?_
  rintro e w1 ⟨rfl, b1⟩
  have k1 := k0.below b1 k0.lt
  have b2 := below_on b0 b1 (Nat.le_refl _)
  have R1 := Lib.hid ((HR.out.below ((Below.refl B w).alloc hB _) (Nat.le_refl _)).below b1 (by simp; omega))
  have s1 := k1.lt
  by_cases hz : classF zs s = 0
  · have EV := Lib.hid (numsV_ok hz)
    have hll := (classF_zero hz).1
    have HZ := Lib.hid hz
    have K1 := Lib.hid k1
    have B2 := Lib.hid b2
    rw [hz]
    clear hz b0 k0 b1 k1 b2
    obtain ⟨n, hn⟩ : ∃ n, Hid (n = zs.length) := ⟨_, Lib.hid rfl⟩
    go_wp2_with fail
    refine (cloneInt_own _ zs w1 B ⟨A, c, rfl, R1.out⟩ (by omega) l).mono ?_
    rintro e w2 ⟨⟨v2, rfl, o2⟩, b3⟩
    obtain ⟨A2, c2, rfl⟩ := o2.form
    have s2 := b3.size
    have ro := o2.1
    rw [← hn.out] at o2 hll ro ⊢
    have H3 : Hid (WkO (w2.alloc (.cells #[.slice A2 n c2, .int .i64 s] 132)) 132 2 w1.heap.size w2.heap.size A2 n c2 zs s) := Lib.hid ⟨Blk.new w2 _ _, own_below ro ((Below.refl _ _).alloc (Nat.le_refl _) _), o2.2, hn.out.symm⟩
    have K3 := Lib.hid ((K1.out.below b3 K1.out.lt).alloc (.cells #[.slice A2 n c2, .int .i64 s] 132))
    have B3 := Lib.hid ((below_on B2.out b3 (by omega)).alloc (by omega) (.cells #[.slice A2 n c2, .int .i64 s] 132))
    clear o2 ro b3 K1 B2
    go_wp2_with fail
    refine (turnsNumbers_any H3.out hll).mono ?_
    rintro e w4 ⟨⟨rfl, h4⟩, o4⟩
    have k4 := K3.out.out o4 (.inl (by omega))
    have B4 := Lib.hid (B3.out.trans (o4.to_below (B := w.heap.size) (by omega) (by simp; omega)))
    have e0 := h4.blk.cell 0 (u := .slice A2 n c2) rfl
    have hd0 := k4.cell 0 (u := .int .i64 0) rfl
    have hd1 := k4.cell 1 (u := .slice none 0 0) rfl
    have hf0 := k4.frozen 0
    have hf1 := k4.frozen 1
    have ne : w2.heap.size ≠ w.heap.size := by omega
    have OW := Lib.hid (show Own w4 w1.heap.size w4.heap.size 2 .i64 (.slice A2 n c2) (numsW zs s) from Own.mk_ h4.row h4.len.symm)
    clear o4 h4 H3 K3 B3 k4
    go_wp2
    refine bodyPost_ret (v := .agg #[.int .i64 0, .slice A2 n c2]) (by simp [results, Tryz.results87, go_sem, hd0, hd1]) rfl ?_
    rw [HZ.out, EV.out]
    exact ⟨⟨_, rfl, ((OW.out.set _ _ (.inl (by simp; omega))).set _ _ (.inl (by simp; omega))).more (by omega) (by simp)⟩, (B4.out.setCell (by simp) _).setCell (by simp) _⟩
  · have EV := Lib.hid (show numsV zs s = [] by unfold numsV; rw [if_neg hz])
    obtain ⟨q, hq⟩ : ∃ q, Hid (q = classF zs s) := ⟨_, Lib.hid rfl⟩
    have hne : (q != 0) = true := by rw [hq.out]; simpa using hz
    have hd0 := k1.cell 0 (u := .int .i64 0) rfl
    have hd1 := k1.cell 1 (u := .slice none 0 0) rfl
    have hf0 := k1.frozen 0
    have hf1 := k1.frozen 1
    clear hz
    rw [← hq.out]
    go_wp2
    refine bodyPost_ret (v := .agg #[.int .i64 q, .slice none 0 0]) (by simp [results, Tryz.results87, go_sem, hd0, hd1]) rfl ?_
    rw [EV.out, ← hq.out]
    exact ⟨⟨_, rfl, Own.nil _ _ _ _ _⟩, (b2.setCell (by simp) _).setCell (by simp) _⟩
set_option maxRecDepth 100000 in
set_option maxHeartbeats 4000000 in
theorem classesSigns_any (v : Value) (zs : List Int) (s : Int) (w : World) (B : Nat) (h : Sees w B .i64 v zs) (hB : B ≤ w.heap.size) (l : zs.length < 1000000000) :
    Calls Tryz.prog 87 #[v, .int .i64 s, .int .i64 2, .int .i64 2] w fun e w' => (∃ u, e = .returned (.agg #[.int .i64 (classF zs s), u]) ∧ Own w' w.heap.size w'.heap.size 2 .i64 u (signsV zs s)) ∧ Below w.heap.size w w' := by
  obtain ⟨A, c, rfl, hr⟩ := h
  have HR := Lib.hid hr
  clear hr
  have b0 := (Below.refl w.heap.size w).alloc (Nat.le_refl _) (.cells #[.int .i64 0, .slice none 0 0] 94)
  have k0 := Blk.new w 94 #[.int .i64 0, .slice none 0 0]
  go_enter Tryz.func87, Tryz.ntmps87
  go_wp2_with fail
  refine (classesFault_any A zs c s _ B (HR.out.below ((Below.refl B w).alloc hB _) (Nat.le_refl _)) (by simp; omega) l).mono ?_
  rintro e w1 ⟨rfl, b1⟩
  have k1 := k0.below b1 k0.lt
  have b2 := below_on b0 b1 (Nat.le_refl _)
  have R1 := Lib.hid ((HR.out.below ((Below.refl B w).alloc hB _) (Nat.le_refl _)).below b1 (by simp; omega))
  have s1 := k1.lt
  by_cases hz : classF zs s = 0
  · have EV := Lib.hid (signsV_ok hz)
    have hll := (classF_zero hz).1
    have HZ := Lib.hid hz
    have K1 := Lib.hid k1
    have B2 := Lib.hid b2
    rw [hz]
    clear hz b0 k0 b1 k1 b2
    obtain ⟨n, hn⟩ : ∃ n, Hid (n = zs.length) := ⟨_, Lib.hid rfl⟩
    go_wp2_with fail
    refine (cloneInt_own _ zs w1 B ⟨A, c, rfl, R1.out⟩ (by omega) l).mono ?_
    rintro e w2 ⟨⟨v2, rfl, o2⟩, b3⟩
    obtain ⟨A2, c2, rfl⟩ := o2.form
    have s2 := b3.size
    have ro := o2.1
    rw [← hn.out] at o2 hll ro ⊢
    have H3 : Hid (WkO (w2.alloc (.cells #[.slice A2 n c2, .int .i64 s] 132)) 132 2 w1.heap.size w2.heap.size A2 n c2 zs s) := Lib.hid ⟨Blk.new w2 _ _, own_below ro ((Below.refl _ _).alloc (Nat.le_refl _) _), o2.2, hn.out.symm⟩
    have K3 := Lib.hid ((K1.out.below b3 K1.out.lt).alloc (.cells #[.slice A2 n c2, .int .i64 s] 132))
    have B3 := Lib.hid ((below_on B2.out b3 (by omega)).alloc (by omega) (.cells #[.slice A2 n c2, .int .i64 s] 132))
    clear o2 ro b3 K1 B2
    go_wp2_with fail
    refine (turnsSigns_any H3.out hll).mono ?_
    rintro e w4 ⟨⟨rfl, h4⟩, o4⟩
    have k4 := K3.out.out o4 (.inl (by omega))
    have B4 := Lib.hid (B3.out.trans (o4.to_below (B := w.heap.size) (by omega) (by simp; omega)))
    have e0 := h4.blk.cell 0 (u := .slice A2 n c2) rfl
    have hd0 := k4.cell 0 (u := .int .i64 0) rfl
    have hd1 := k4.cell 1 (u := .slice none 0 0) rfl
    have hf0 := k4.frozen 0
    have hf1 := k4.frozen 1
    have ne : w2.heap.size ≠ w.heap.size := by omega
    have OW := Lib.hid (show Own w4 w1.heap.size w4.heap.size 2 .i64 (.slice A2 n c2) (signsW zs s) from Own.mk_ h4.row h4.len.symm)
    clear o4 h4 H3 K3 B3 k4
    go_wp2
    refine bodyPost_ret (v := .agg #[.int .i64 0, .slice A2 n c2]) (by simp [results, Tryz.results87, go_sem, hd0, hd1]) rfl ?_
    rw [HZ.out, EV.out]
    exact ⟨⟨_, rfl, ((OW.out.set _ _ (.inl (by simp; omega))).set _ _ (.inl (by simp; omega))).more (by omega) (by simp)⟩, (B4.out.setCell (by simp) _).setCell (by simp) _⟩
  · have EV := Lib.hid (show signsV zs s = [] by unfold signsV; rw [if_neg hz])
    obtain ⟨q, hq⟩ : ∃ q, Hid (q = classF zs s) := ⟨_, Lib.hid rfl⟩
    have hne : (q != 0) = true := by rw [hq.out]; simpa using hz
    have hd0 := k1.cell 0 (u := .int .i64 0) rfl
    have hd1 := k1.cell 1 (u := .slice none 0 0) rfl
    have hf0 := k1.frozen 0
    have hf1 := k1.frozen 1
    clear hz
    rw [← hq.out]
    go_wp2
    refine bodyPost_ret (v := .agg #[.int .i64 q, .slice none 0 0]) (by simp [results, Tryz.results87, go_sem, hd0, hd1]) rfl ?_
    rw [EV.out, ← hq.out]
    exact ⟨⟨_, rfl, Own.nil _ _ _ _ _⟩, (b2.setCell (by simp) _).setCell (by simp) _⟩
set_option maxRecDepth 100000 in
set_option maxHeartbeats 4000000 in
theorem classesWeak_any (v : Value) (zs : List Int) (s : Int) (w : World) (B : Nat) (h : Sees w B .i64 v zs) (hB : B ≤ w.heap.size) (l : zs.length < 1000000000) :
    Calls Tryz.prog 87 #[v, .int .i64 s, .int .i64 0, .int .i64 2] w fun e w' => (∃ u, e = .returned (.agg #[.int .i64 (classF zs s), u]) ∧ Own w' w.heap.size w'.heap.size 2 .i64 u (weakV zs s)) ∧ Below w.heap.size w w' := by
  obtain ⟨A, c, rfl, hr⟩ := h
  have HR := Lib.hid hr
  clear hr
  have b0 := (Below.refl w.heap.size w).alloc (Nat.le_refl _) (.cells #[.int .i64 0, .slice none 0 0] 94)
  have k0 := Blk.new w 94 #[.int .i64 0, .slice none 0 0]
  go_enter Tryz.func87, Tryz.ntmps87
  go_wp2_with fail
  refine (classesFault_any A zs c s _ B (HR.out.below ((Below.refl B w).alloc hB _) (Nat.le_refl _)) (by simp; omega) l).mono ?_
  rintro e w1 ⟨rfl, b1⟩
  have k1 := k0.below b1 k0.lt
  have b2 := below_on b0 b1 (Nat.le_refl _)
  have R1 := Lib.hid ((HR.out.below ((Below.refl B w).alloc hB _) (Nat.le_refl _)).below b1 (by simp; omega))
  have s1 := k1.lt
  by_cases hz : classF zs s = 0
  · have EV := Lib.hid (weakV_ok hz)
    have hll := (classF_zero hz).1
    have HZ := Lib.hid hz
    have K1 := Lib.hid k1
    have B2 := Lib.hid b2
    rw [hz]
    clear hz b0 k0 b1 k1 b2
    obtain ⟨n, hn⟩ : ∃ n, Hid (n = zs.length) := ⟨_, Lib.hid rfl⟩
    go_wp2_with fail
    refine (cloneInt_own _ zs w1 B ⟨A, c, rfl, R1.out⟩ (by omega) l).mono ?_
    rintro e w2 ⟨⟨v2, rfl, o2⟩, b3⟩
    obtain ⟨A2, c2, rfl⟩ := o2.form
    have s2 := b3.size
    have ro := o2.1
    rw [← hn.out] at o2 hll ro ⊢
    have H3 : Hid (WkO (w2.alloc (.cells #[.slice A2 n c2, .int .i64 s] 132)) 132 2 w1.heap.size w2.heap.size A2 n c2 zs s) := Lib.hid ⟨Blk.new w2 _ _, own_below ro ((Below.refl _ _).alloc (Nat.le_refl _) _), o2.2, hn.out.symm⟩
    have K3 := Lib.hid ((K1.out.below b3 K1.out.lt).alloc (.cells #[.slice A2 n c2, .int .i64 s] 132))
    have B3 := Lib.hid ((below_on B2.out b3 (by omega)).alloc (by omega) (.cells #[.slice A2 n c2, .int .i64 s] 132))
    clear o2 ro b3 K1 B2
    go_wp2_with fail
    refine (turnsWeak_any H3.out hll).mono ?_
    rintro e w4 ⟨⟨rfl, h4⟩, o4⟩
    have k4 := K3.out.out o4 (.inl (by omega))
    have B4 := Lib.hid (B3.out.trans (o4.to_below (B := w.heap.size) (by omega) (by simp; omega)))
    have e0 := h4.blk.cell 0 (u := .slice A2 n c2) rfl
    have hd0 := k4.cell 0 (u := .int .i64 0) rfl
    have hd1 := k4.cell 1 (u := .slice none 0 0) rfl
    have hf0 := k4.frozen 0
    have hf1 := k4.frozen 1
    have ne : w2.heap.size ≠ w.heap.size := by omega
    have OW := Lib.hid (show Own w4 w1.heap.size w4.heap.size 2 .i64 (.slice A2 n c2) (weakW zs s) from Own.mk_ h4.row h4.len.symm)
    clear o4 h4 H3 K3 B3 k4
    go_wp2
    refine bodyPost_ret (v := .agg #[.int .i64 0, .slice A2 n c2]) (by simp [results, Tryz.results87, go_sem, hd0, hd1]) rfl ?_
    rw [HZ.out, EV.out]
    exact ⟨⟨_, rfl, ((OW.out.set _ _ (.inl (by simp; omega))).set _ _ (.inl (by simp; omega))).more (by omega) (by simp)⟩, (B4.out.setCell (by simp) _).setCell (by simp) _⟩
  · have EV := Lib.hid (show weakV zs s = [] by unfold weakV; rw [if_neg hz])
    obtain ⟨q, hq⟩ : ∃ q, Hid (q = classF zs s) := ⟨_, Lib.hid rfl⟩
    have hne : (q != 0) = true := by rw [hq.out]; simpa using hz
    have hd0 := k1.cell 0 (u := .int .i64 0) rfl
    have hd1 := k1.cell 1 (u := .slice none 0 0) rfl
    have hf0 := k1.frozen 0
    have hf1 := k1.frozen 1
    clear hz
    rw [← hq.out]
    go_wp2
    refine bodyPost_ret (v := .agg #[.int .i64 q, .slice none 0 0]) (by simp [results, Tryz.results87, go_sem, hd0, hd1]) rfl ?_
    rw [EV.out, ← hq.out]
    exact ⟨⟨_, rfl, Own.nil _ _ _ _ _⟩, (b2.setCell (by simp) _).setCell (by simp) _⟩
theorem weakOf_val (v : Value) (zs : List Int) (s : Int) (w : World) (B : Nat) (h : Sees w B .i64 v zs) (hB : B ≤ w.heap.size) (l : zs.length < 1000000000) (_ : ∀ n ∈ zs, (Lit.int .i64 n).wf = true) (_ : (Lit.int .i64 s).wf = true) :
    Calls Tryz.prog 59 #[v, .int .i64 s] w fun e w' => (∃ u, e = .returned (.agg #[.int .i64 (classF zs s), u]) ∧ Own w' w.heap.size w'.heap.size 2 .i64 u (weakV zs s)) ∧ Below w.heap.size w w' := by
  have HS := Lib.hid h
  obtain ⟨A, c, rfl, _⟩ := h
  have b0 := (Below.refl w.heap.size w).alloc (Nat.le_refl _) (.cells #[.int .i64 0, .slice none 0 0] 94)
  have k0 := Blk.new w 94 #[.int .i64 0, .slice none 0 0]
  go_enter Tryz.func59, Tryz.ntmps59
  go_wp2_with fail
  refine (classesWeak_any _ zs s _ B (HS.out.below ((Below.refl B w).alloc hB _) (Nat.le_refl _)) (by simp; omega) l).mono ?_
  rintro e w1 ⟨⟨u, rfl, o1⟩, b1⟩
  obtain ⟨A1, c1, rfl⟩ := o1.form
  have k1 := k0.below b1 k0.lt
  have s1 := k1.lt
  have b2 := below_on b0 b1 (Nat.le_refl _)
  have hd0 := k1.cell 0 (u := .int .i64 0) rfl
  have hd1 := k1.cell 1 (u := .slice none 0 0) rfl
  have hf0 := k1.frozen 0
  have hf1 := k1.frozen 1
  have OW := Lib.hid o1
  obtain ⟨q, hq⟩ : ∃ q, Hid (q = classF zs s) := ⟨_, Lib.hid rfl⟩
  obtain ⟨ys, hys⟩ : ∃ ys, Hid (ys = weakV zs s) := ⟨_, Lib.hid rfl⟩
  rw [← hq.out, ← hys.out]
  rw [← hys.out] at OW
  clear k0 k1 b0 b1 o1
  go_wp2
  refine bodyPost_ret (v := .agg #[.int .i64 q, .slice A1 ys.length c1]) (by simp [results, Tryz.results59, go_sem, hd0, hd1]) rfl ?_
  rw [← hq.out, ← hys.out]
  refine ⟨⟨_, rfl, ?_⟩, ?_⟩
  · exact ((OW.out.set _ _ (.inl (by simp))).set _ _ (.inl (by simp))).more (by simp) (by simp)
  · exact (b2.setCell (by simp) _).setCell (by simp) _
end Go.Proofs.YtcfnhjpmihngdaaGreat

namespace Go.Proofs.YtcfnhjpmihngdaaGreat
open Go.RowKit Go.Maps

set_option maxRecDepth 100000 in
set_option maxHeartbeats 2000000 in
theorem among_any (up : Value) (ps : List Int) (lv so eo : Int) (A : Option Addr) (cs : List Int) (c : Nat) (w : World) (B : Nat) (hs : Sees w B .i64 up ps) (hc : Rd w B A (nums .i64 cs)) (hB : B ≤ w.heap.size) (hpl : ps.length ≤ 600) (hp : ∀ j, j < ps.length → 0 ≤ nth ps j ∧ (nth ps j).toNat < cs.length) :
    Calls Tryz.prog 58 #[.agg #[up, .int .i64 lv, .int .i64 so, .int .i64 eo], .slice A cs.length c] w fun e w' => (∃ u, e = .returned u ∧ Own w' w.heap.size w'.heap.size 2 .i64 u (pickN cs ps)) ∧ Below w.heap.size w w' := by
  obtain ⟨i0, hi, hz0, hz1, hz2⟩ := info_parts info_int64
  obtain ⟨Aq, cq, rfl, hr⟩ := hs
  obtain ⟨n, hn⟩ : ∃ n, Hid (n = ps.length) := ⟨_, Lib.hid rfl⟩
  rw [← hn.out] at hpl hp ⊢
  have HP := Lib.hid hp
  have b0 := (Below.refl w.heap.size w).alloc (Nat.le_refl _) (.cells #[.slice Aq n cq, .int .i64 lv, .int .i64 so, .int .i64 eo] 43)
  have k0 := Blk.new w 43 #[.slice Aq n cq, .int .i64 lv, .int .i64 so, .int .i64 eo]
  have f0 := k0.cell 0 (u := .slice Aq n cq) rfl
  have HC := Lib.hid (hc.below b0 hB)
  have HR := Lib.hid (hr.below b0 hB)
  have B0 := Lib.hid b0
  have sz0 : (w.alloc (.cells #[.slice Aq n cq, .int .i64 lv, .int .i64 so, .int .i64 eo] 43)).heap.size = w.heap.size + 1 := by simp
  clear hr hc hp b0 k0
  go_enter Tryz.func58, Tryz.ntmps58
  go_wp2
  clear f0
  generalize hw0 : w.alloc (.cells #[.slice Aq n cq, .int .i64 lv, .int .i64 so, .int .i64 eo] 43) = w0 at *
  clear hw0
  go_loopw [5, 11] (fun v i wr => ∃ k : Nat, k ≤ n ∧ i = .int .i64 k ∧ Hid (wr.ownsRow w0.heap.size 2 1 v k (nums .i64 (pickN cs (ps.take k)))) ∧ Hid (Below w0.heap.size w0 wr)) (fun _ i _ => n - (intOf i).toNat)
  case atStart => exact ⟨0, by omega, rfl, Lib.hid (World.ownsRow_nil _ _ _ _), Lib.hid (Below.refl _ _)⟩
  case round =>
    obtain ⟨k, hk, rfl, ho, hbr⟩ := hrel
    have wsz := hbr.out.size
    by_cases hlt : k < n
    · obtain ⟨b, off, rfl, hb, hcc⟩ := (HR.out.below hbr.out (by omega)).int (by rw [← hn.out]; omega)
      have hc0 := hcc k (by rw [← hn.out]; exact hlt)
      obtain ⟨h0, h1⟩ := HP.out k hlt
      have E := Lib.hid (pickN_step cs ps k (by rw [← hn.out]; exact hlt))
      obtain ⟨m, hm⟩ : ∃ m : Nat, nth ps k = (m : Int) := ⟨(nth ps k).toNat, by omega⟩
      rw [hm] at hc0 h1 E
      have hmt : ((m : Int)).toNat = m := by omega
      rw [hmt] at h1 E
      obtain ⟨b2, off2, rfl, hb2, hcc2⟩ := (HC.out.below hbr.out (by omega)).int (by omega)
      have hc2 := hcc2 m h1
      obtain ⟨y, hy⟩ : ∃ y, Hid (y = nth cs m) := ⟨_, Lib.hid rfl⟩
      rw [← hy.out] at hc2 E
      clear hcc hcc2 h0 hm hmt
      go_wp2_with (at_builtin; go_loud (refine wpList_app rfl _ _ _ rfl w0.heap.size Tryz.underlying22 hi hz0 hz1 hz2 rfl (by omega) rfl (ho.out.alloc _) rfl (Rd.lit wr #[.int .i64 y] _) (m := 1) rfl (nums_one .i64 [y]) (by omega) (by omega) (by simp; omega) ?_); intro v' w5 o5 g5 a5; obtain ⟨A5, c5, rfl⟩ := own_form o5)
      have gg : wr.grownBy w5 _ := (World.grownBy_alloc wr _ _).trans g5
      have P5 : Hid (w5.ownsRow w0.heap.size 2 1 (.slice A5 (k + 1) c5) (k + 1) (nums .i64 (pickN cs (ps.take (k + 1))))) := Lib.hid (by
        have q := own_app1 o5 (by have := hn.out; rw [pickN_len, List.length_take]; omega)
        rw [← E.out, pickN_len, List.length_take, Nat.min_eq_left (by have := hn.out; omega)] at q
        exact q)
      have B5 := Lib.hid (hbr.out.grown gg hbr.out.size (fun b hb => (ho.out.lt b hb).1))
      clear o5 g5 a5 gg ho
      go_roundw
      case rel => exact ⟨k + 1, by omega, by go_num, P5, B5⟩
      case measure => first | omega | (simp [intOf]; omega)
    · have e : k = ps.length := by rw [← hn.out]; omega
      have HO := Lib.hid (show Own wr w0.heap.size wr.heap.size 2 .i64 _ (pickN cs ps) from Own.mk_ (n := k) (by have := ho.out; rw [show ps.take k = ps from List.take_of_length_le (by omega)] at this; exact this) (by rw [pickN_len]; exact e))
      obtain ⟨A5, c5, rfl⟩ := own_form ho.out
      have BB := Lib.hid (B0.out.trans (hbr.out.mono (by omega)))
      clear e ho
      go_wp2
      go_ret
      exact ⟨⟨_, rfl, HO.out.more (by omega) (Nat.le_refl _)⟩, BB.out⟩
theorem set6_far8 (w : World) {g h i : Nat} (hg : h ≠ g) (a b c d e f : Value) : ((((((w.setCell ⟨g, 0, none⟩ a).setCell ⟨g, 1, none⟩ b).setCell ⟨g, 2, none⟩ c).setCell ⟨g, 3, none⟩ d).setCell ⟨g, 4, none⟩ e).setCell ⟨g, 5, none⟩ f).cell? ⟨h, i, none⟩ = w.cell? ⟨h, i, none⟩ := by
  have e : ((((((w.setCell ⟨g, 0, none⟩ a).setCell ⟨g, 1, none⟩ b).setCell ⟨g, 2, none⟩ c).setCell ⟨g, 3, none⟩ d).setCell ⟨g, 4, none⟩ e).setCell ⟨g, 5, none⟩ f).heap[h]? = w.heap[h]? := by
    rw [heap_setCell_other _ _ _ _ hg, heap_setCell_other _ _ _ _ hg, heap_setCell_other _ _ _ _ hg, heap_setCell_other _ _ _ _ hg, heap_setCell_other _ _ _ _ hg, heap_setCell_other _ _ _ _ hg]
  unfold World.cell?
  simp only [e]
theorem field_classes (x : Int) (A : Option Addr) (n c : Nat) (w : World) : (Instr.field 94 (.agg #[.int .i64 x, .slice A n c]) 1).run Tryz.prog w = .ok (.slice A n c) w := by
  simp [Instr.field, go_sem, asAgg]
attribute [local go_sem] field_classes
set_option maxRecDepth 100000 in
set_option maxHeartbeats 4000000 in
theorem partAmong_raw (up : Value) (ps : List Int) (lv so eo : Int) (A A1 : Option Addr) (zs cs : List Int) (c c1 : Nat) (w : World) (B : Nat) (hs : Sees w B .i64 up ps) (hz : Rd w B A (nums .i64 zs)) (hc : Rd w B A1 (nums .i64 cs)) (hB : B ≤ w.heap.size) (hcl : cs.length = zs.length) (hpl : ps.length ≤ 600) (hp : ∀ j, j < ps.length → 0 ≤ nth ps j ∧ (nth ps j).toNat < zs.length)
    (hin : ∀ x ∈ pickN cs ps, In x) (hsos : 0 ≤ so ∧ so ≤ 1) :
    Calls Tryz.prog 39 #[.agg #[up, .int .i64 lv, .int .i64 so, .int .i64 eo], .slice A zs.length c, .slice A1 cs.length c1] w fun e w' => (∃ u0 u1 u2, e = .returned (.agg #[u0, u1, u2, .int .i64 lv, .int .i64 so, .int .i64 eo]) ∧ OwnPart w' w.heap.size w'.heap.size 2 u0 u1 u2 ⟨pickN zs ps, pickN cs ps, weakW (pickN cs ps) so, lv, so, eo⟩) ∧ Below w.heap.size w w' := by
  obtain ⟨Aq, cq, rfl, hr⟩ := hs
  obtain ⟨fs, hfs⟩ : ∃ fs, Hid (fs = pickN cs ps) := ⟨_, Lib.hid rfl⟩
  obtain ⟨ts, hts⟩ : ∃ ts, Hid (ts = pickN zs ps) := ⟨_, Lib.hid rfl⟩
  obtain ⟨ws, hws⟩ : ∃ ws, Hid (ws = weakW fs so) := ⟨_, Lib.hid rfl⟩
  have fl : fs.length ≤ 600 := by rw [hfs.out, pickN_len]; exact hpl
  rw [← hfs.out] at hin
  have CF : classF fs so = 0 := classF_yes fl hin hsos
  have CV : weakV fs so = ws := by unfold weakV; rw [if_pos CF, hws.out]
  have CFh := Lib.hid CF
  have CVh := Lib.hid CV
  have EP := Lib.hid (show (⟨pickN zs ps, pickN cs ps, weakW (pickN cs ps) so, lv, so, eo⟩ : Prt) = ⟨ts, fs, ws, lv, so, eo⟩ by rw [hws.out, hts.out, hfs.out])
  have WFf := Lib.hid (show ∀ n ∈ fs, (Lit.int .i64 n).wf = true from fun n hn => by have := hin n hn; unfold In at this; exact wf_small8 (by omega) (by omega))
  have WFs := Lib.hid (show (Lit.int .i64 so).wf = true from wf_small8 (by omega) (by omega))
  have HPz := Lib.hid hp
  have HPc := Lib.hid (show ∀ j, j < ps.length → 0 ≤ nth ps j ∧ (nth ps j).toNat < cs.length by rw [hcl]; exact hp)
  have b2 := ((Below.refl w.heap.size w).alloc (Nat.le_refl _) (.cells #[.slice Aq ps.length cq, .int .i64 lv, .int .i64 so, .int .i64 eo] 43)).alloc (by simp) (.cells #[.slice none 0 0, .slice none 0 0, .slice none 0 0, .int .i64 0, .int .i64 0, .int .i64 0] 39)
  have kq := (Blk.new w 43 #[.slice Aq ps.length cq, .int .i64 lv, .int .i64 so, .int .i64 eo]).alloc (.cells #[.slice none 0 0, .slice none 0 0, .slice none 0 0, .int .i64 0, .int .i64 0, .int .i64 0] 39)
  have kp := Blk.new (w.alloc (.cells #[.slice Aq ps.length cq, .int .i64 lv, .int .i64 so, .int .i64 eo] 43)) 39 #[.slice none 0 0, .slice none 0 0, .slice none 0 0, .int .i64 0, .int .i64 0, .int .i64 0]
  rw [World.size_alloc] at kp
  have sz2 : ((w.alloc (.cells #[.slice Aq ps.length cq, .int .i64 lv, .int .i64 so, .int .i64 eo] 43)).alloc (.cells #[.slice none 0 0, .slice none 0 0, .slice none 0 0, .int .i64 0, .int .i64 0, .int .i64 0] 39)).heap.size = w.heap.size + 1 + 1 := by simp
  have S2 := Lib.hid (show Sees _ B .i64 (.slice Aq ps.length cq) ps from ⟨_, _, rfl, hr.below b2 hB⟩)
  have Z2 := Lib.hid (hz.below b2 hB)
  have C2 := Lib.hid (hc.below b2 hB)
  have B2 := Lib.hid b2
  have KQ := Lib.hid kq
  have KP := Lib.hid kp
  clear hr hz hc hp b2 kq kp CF CV hin hsos hcl
  go_enter Tryz.func39, Tryz.ntmps39
  have f0 := KQ.out.cell 0 (u := .slice Aq ps.length cq) rfl
  have f1 := KQ.out.cell 1 (u := .int .i64 lv) rfl
  have f2 := KQ.out.cell 2 (u := .int .i64 so) rfl
  have f3 := KQ.out.cell 3 (u := .int .i64 eo) rfl
  go_wp2_with fail
  generalize hw2 : (w.alloc (.cells #[.slice Aq ps.length cq, .int .i64 lv, .int .i64 so, .int .i64 eo] 43)).alloc (.cells #[.slice none 0 0, .slice none 0 0, .slice none 0 0, .int .i64 0, .int .i64 0, .int .i64 0] 39) = w2 at *
  clear hw2 f0 f1 f2 f3
  refine (among_any _ ps lv so eo A1 cs c1 w2 B S2.out C2.out (by omega) hpl HPc.out).mono ?_
  rintro e w3 ⟨⟨u1, rfl, o1⟩, b3⟩
  rw [← hfs.out] at o1
  obtain ⟨A3, c3, rfl⟩ := o1.form
  have s3 := b3.size
  have K3 := Lib.hid (KQ.out.below b3 (by omega))
  have P3 := Lib.hid (KP.out.below b3 (by omega))
  have B3 := Lib.hid (below_on B2.out b3 (by omega))
  have S3 := Lib.hid (S2.out.below b3 (by omega))
  have Z3 := Lib.hid (Z2.out.below b3 (by omega))
  have O1 := Lib.hid o1
  clear o1 b3 KQ KP B2 S2 Z2 C2
  have f0 := K3.out.cell 0 (u := .slice Aq ps.length cq) rfl
  have f1 := K3.out.cell 1 (u := .int .i64 lv) rfl
  have f2 := K3.out.cell 2 (u := .int .i64 so) rfl
  have f3 := K3.out.cell 3 (u := .int .i64 eo) rfl
  go_wp2_with fail
  have CA := Lib.hid (among_any (.slice Aq ps.length cq) ps lv so eo A zs c w3.drew B (S3.out.below (drew_below w3) (by omega)) (Z3.out.below (drew_below w3) (by omega)) (by show B ≤ w3.heap.size; omega) hpl HPz.out)
  rw [← hts.out] at CA
  have CW := Lib.hid (show ∀ (v : Value) (W : World) (B' : Nat), Sees W B' .i64 v fs → B' ≤ W.heap.size → Calls Tryz.prog 59 #[v, .int .i64 so] W fun e w' => (∃ u, e = .returned (.agg #[.int .i64 0, u]) ∧ Own w' W.heap.size w'.heap.size 2 .i64 u ws) ∧ Below W.heap.size W w' from fun v W B' h1 h2 => by
    have := weakOf_val v fs so W B' h1 h2 (by omega) WFf.out WFs.out
    rw [CFh.out, CVh.out] at this
    exact this)
  have fd0 : w3.drew.cell? ⟨w.heap.size, 0, none⟩ = some (.slice Aq ps.length cq) := f0
  have fd1 : w3.drew.cell? ⟨w.heap.size, 1, none⟩ = some (.int .i64 lv) := f1
  have fd2 : w3.drew.cell? ⟨w.heap.size, 2, none⟩ = some (.int .i64 so) := f2
  have fd3 : w3.drew.cell? ⟨w.heap.size, 3, none⟩ = some (.int .i64 eo) := f3
  have gne : w.heap.size ≠ w.heap.size + 1 := by omega
  go_region_held3 (fun w' => w'.cell? ⟨w.heap.size, 0, none⟩ = some (.slice Aq ps.length cq) ∧ w'.cell? ⟨w.heap.size, 1, none⟩ = some (.int .i64 lv) ∧ w'.cell? ⟨w.heap.size, 2, none⟩ = some (.int .i64 so) ∧ w'.cell? ⟨w.heap.size, 3, none⟩ = some (.int .i64 eo)) (first | with_reducible exact ⟨fd0, fd1, fd2, fd3⟩ | with_reducible exact ⟨f40, f41, f42, f43⟩ | with_reducible exact ⟨f50, f51, f52, f53⟩ | exact ⟨(set6_far8 w5 gne _ _ _ _ _ _).trans f50, (set6_far8 w5 gne _ _ _ _ _ _).trans f51, (set6_far8 w5 gne _ _ _ _ _ _).trans f52, (set6_far8 w5 gne _ _ _ _ _ _).trans f53⟩) (first
    | (go_at_call 58; refine CA.out.mono ?_; rintro e w4 ⟨⟨u0, rfl, o0⟩, b4'⟩
       have b4 : Below w3.heap.size w3 w4 := ⟨b4'.os, b4'.tape, b4'.output, b4'.size, b4'.block⟩
       obtain ⟨A4, c4, rfl⟩ := o0.form
       have s4 := b4.size
       have K4 := Lib.hid (K3.out.below b4 (by omega))
       have P4 := Lib.hid (P3.out.below b4 (by omega))
       have B4 := Lib.hid (below_on B3.out b4 (by omega))
       have O14 := Lib.hid (O1.out.below b4 (Nat.le_refl _))
       have O0 := Lib.hid (show Own w4 w3.heap.size w4.heap.size 2 .i64 (.slice A4 ts.length c4) ts from o0)
       have f40 := K4.out.cell 0 (u := .slice Aq ps.length cq) rfl
       have f41 := K4.out.cell 1 (u := .int .i64 lv) rfl
       have f42 := K4.out.cell 2 (u := .int .i64 so) rfl
       have f43 := K4.out.cell 3 (u := .int .i64 eo) rfl
       clear o0 b4 b4')
    | (go_at_call 59; refine (CW.out _ w4 w4.heap.size (O14.out.more (Nat.le_refl _) s4).sees (Nat.le_refl _)).mono ?_; rintro e w5 ⟨⟨u2, rfl, o2⟩, b5⟩
       obtain ⟨A5, c5, rfl⟩ := o2.form
       have s5 := b5.size
       have K5 := Lib.hid (K4.out.below b5 (by omega))
       have P5 := Lib.hid (P4.out.below b5 (by omega))
       have B5 := Lib.hid (below_on B4.out b5 (by omega))
       have O15 := Lib.hid (O14.out.below b5 (by omega))
       have O05 := Lib.hid (O0.out.below b5 (Nat.le_refl _))
       have O2 := Lib.hid o2
       have f50 := K5.out.cell 0 (u := .slice Aq ps.length cq) rfl
       have f51 := K5.out.cell 1 (u := .int .i64 lv) rfl
       have f52 := K5.out.cell 2 (u := .int .i64 so) rfl
       have f53 := K5.out.cell 3 (u := .int .i64 eo) rfl
       have hd0 := P5.out.cell 0 (u := .slice none 0 0) rfl
       have hf0 := P5.out.frozen 0
       have hd1 := P5.out.cell 1 (u := .slice none 0 0) rfl
       have hf1 := P5.out.frozen 1
       have hd2 := P5.out.cell 2 (u := .slice none 0 0) rfl
       have hf2 := P5.out.frozen 2
       have hd3 := P5.out.cell 3 (u := .int .i64 0) rfl
       have hf3 := P5.out.frozen 3
       have hd4 := P5.out.cell 4 (u := .int .i64 0) rfl
       have hf4 := P5.out.frozen 4
       have hd5 := P5.out.cell 5 (u := .int .i64 0) rfl
       have hf5 := P5.out.frozen 5
       clear o2 b5))
  have wlt : w.heap.size + 1 < w2.heap.size := by omega
  go_wp2
  refine bodyPost_ret (v := .agg #[.slice A4 ts.length c4, .slice A3 fs.length c3, .slice A5 ws.length c5, .int .i64 lv, .int .i64 so, .int .i64 eo]) (by simp [results, Tryz.results39, go_sem, hd0, hd1, hd2, hd3, hd4, hd5]) rfl ?_
  rw [EP.out]
  have D1 := own_far O15.out O05.out (Nat.le_refl _)
  have D1' := own_far' O15.out O05.out (Nat.le_refl _)
  have D2 := own_far O15.out O2.out (by omega)
  have D2' := own_far' O15.out O2.out (by omega)
  have D3 := own_far O05.out O2.out (Nat.le_refl _)
  have D3' := own_far' O05.out O2.out (Nat.le_refl _)
  refine ⟨⟨_, _, _, rfl, ⟨?_, ?_, ?_, D1', D3, D1, D2, D3', D2'⟩⟩, ?_⟩
  · refine Own.more (lo := w3.heap.size) (hi := w4.heap.size) ?_ (by omega) (by simp; omega)
    iterate 6 refine Own.set ?_ _ _ (.inl (by show w.heap.size + 1 < w3.heap.size; omega))
    exact O05.out
  · refine Own.more (lo := w2.heap.size) (hi := w3.heap.size) ?_ (by omega) (by simp; omega)
    iterate 6 refine Own.set ?_ _ _ (.inl wlt)
    exact O15.out
  · refine Own.more (lo := w4.heap.size) (hi := w5.heap.size) ?_ (by omega) (by simp)
    iterate 6 refine Own.set ?_ _ _ (.inl (by show w.heap.size + 1 < w4.heap.size; omega))
    exact O2.out
  · iterate 6 refine Below.setCell ?_ (by simp) _
    exact B5.out
theorem partAmong_any (up : Value) (q : Sq) (A A1 : Option Addr) (zs cs : List Int) (c c1 : Nat) (w : World) (B : Nat) (hs : Sees w B .i64 up q.places) (hz : Rd w B A (nums .i64 zs)) (hc : Rd w B A1 (nums .i64 cs)) (hB : B ≤ w.heap.size) (hcl : cs.length = zs.length) (hpl : q.places.length ≤ 600) (hp : ∀ j, j < q.places.length → 0 ≤ nth q.places j ∧ (nth q.places j).toNat < zs.length)
    (hin : ∀ x ∈ pickN cs q.places, In x) (hsos : 0 ≤ q.sos ∧ q.sos ≤ 1) :
    Calls Tryz.prog 39 #[.agg #[up, .int .i64 q.level, .int .i64 q.sos, .int .i64 q.eos], .slice A zs.length c, .slice A1 cs.length c1] w fun e w' => (∃ u0 u1 u2, e = .returned (.agg #[u0, u1, u2, .int .i64 q.level, .int .i64 q.sos, .int .i64 q.eos]) ∧ OwnPart w' w.heap.size w'.heap.size 2 u0 u1 u2 (partOf zs cs q)) ∧ Below w.heap.size w w' :=
  partAmong_raw up q.places q.level q.sos q.eos A A1 zs cs c c1 w B hs hz hc hB hcl hpl hp hin hsos
end Go.Proofs.YtcfnhjpmihngdaaGreat
