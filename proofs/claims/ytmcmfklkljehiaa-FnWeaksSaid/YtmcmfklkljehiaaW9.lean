/- Chapter 6: what the program answers. -/
import Derived.Test.YtmcmfklkljehiaaW6
namespace Go.Proofs.Ytmcmfklkljehiaa
open Go.RowKit Go.Shelf

theorem classF_bad {zs : List Int} {s : Int} (h : ¬ classF zs s = 0) : marksV zs s = [] ∧ numsV zs s = [] ∧ signsV zs s = [] ∧ weakV zs s = [] := by
  unfold marksV numsV signsV weakV
  rw [if_neg h, if_neg h, if_neg h, if_neg h]
  exact ⟨rfl, rfl, rfl, rfl⟩
theorem marksV_ok {zs : List Int} {s : Int} (h : classF zs s = 0) : marksV zs s = marksW zs s := by unfold marksV; rw [if_pos h]
theorem marksV_len (zs : List Int) (s : Int) : (marksV zs s).length ≤ 600 := by
  by_cases h : classF zs s = 0
  · rw [marksV_ok h, marksW_len]; exact (classF_zero h).1
  · rw [show marksV zs s = [] by unfold marksV; rw [if_neg h]]; simp
theorem numsV_ok {zs : List Int} {s : Int} (h : classF zs s = 0) : numsV zs s = numsW zs s := by unfold numsV; rw [if_pos h]
theorem numsV_len (zs : List Int) (s : Int) : (numsV zs s).length ≤ 600 := by
  by_cases h : classF zs s = 0
  · rw [numsV_ok h, numsW_len]; exact (classF_zero h).1
  · rw [show numsV zs s = [] by unfold numsV; rw [if_neg h]]; simp
theorem signsV_ok {zs : List Int} {s : Int} (h : classF zs s = 0) : signsV zs s = signsW zs s := by unfold signsV; rw [if_pos h]
theorem signsV_len (zs : List Int) (s : Int) : (signsV zs s).length ≤ 600 := by
  by_cases h : classF zs s = 0
  · rw [signsV_ok h, signsW_len]; exact (classF_zero h).1
  · rw [show signsV zs s = [] by unfold signsV; rw [if_neg h]]; simp
theorem weakV_ok {zs : List Int} {s : Int} (h : classF zs s = 0) : weakV zs s = weakW zs s := by unfold weakV; rw [if_pos h]
theorem weakV_len (zs : List Int) (s : Int) : (weakV zs s).length ≤ 600 := by
  by_cases h : classF zs s = 0
  · rw [weakV_ok h, weakW_len]; exact (classF_zero h).1
  · rw [show weakV zs s = [] by unfold weakV; rw [if_neg h]]; simp
set_option maxRecDepth 100000 in
set_option maxHeartbeats 4000000 in
theorem classesMarks_any (v : Value) (zs : List Int) (s : Int) (w : World) (B : Nat) (h : Sees w B .i64 v zs) (hB : B ≤ w.heap.size) (l : zs.length < 1000000000) :
    Calls Try.prog 30 #[v, .int .i64 s, .int .i64 0, .int .i64 0] w fun e w' => (∃ u, e = .returned (.agg #[.int .i64 (classF zs s), u]) ∧ Own w' w.heap.size w'.heap.size 2 .i64 u (marksV zs s)) ∧ Below w.heap.size w w' := by
  obtain ⟨A, c, rfl, hr⟩ := h
  have HR := Lib.hid hr
  clear hr
  have b0 := (Below.refl w.heap.size w).alloc (Nat.le_refl _) (.cells #[.int .i64 0, .slice none 0 0] 28)
  have k0 := Blk.new w 28 #[.int .i64 0, .slice none 0 0]
  go_enter Try.func30, Try.ntmps30
  go_wp2_with fail
  refine (classesFault_any A zs c s _ B (HR.out.below ((Below.refl B w).alloc hB _) (Nat.le_refl _)) (by simp; omega) l).mono ?_
  rintro e w1 ⟨rfl, b1⟩
  have k1 := k0.below b1 k0.lt
  have b2 := below_on b0 b1 (Nat.le_refl _)
  have R1 := Lib.hid ((HR.out.below ((Below.refl B w).alloc hB _) (Nat.le_refl _)).below b1 (by simp; omega))
  have s1 := k1.lt
  by_cases hz : classF zs s = 0
  · have EV := Lib.hid (marksV_ok hz)
    have hll := (classF_zero hz).1
    have HZ := Lib.hid hz
    have K1 := Lib.hid k1
    have B2 := Lib.hid b2
    rw [hz]
    clear hz b0 k0 b1 k1 b2
    obtain ⟨n, hn⟩ : ∃ n, Hid (n = zs.length) := ⟨_, Lib.hid rfl⟩
    go_wp2_with fail
    refine (cloneInt_own _ zs w1 B ⟨A, c, rfl, R1.out⟩ (by omega) l).mono ?_
    rintro e w2 ⟨⟨v2, rfl, o2⟩, b3⟩
    obtain ⟨A2, c2, rfl⟩ := o2.form
    have s2 := b3.size
    have ro := o2.1
    rw [← hn.out] at o2 hll ro ⊢
    have H3 : Hid (WkO (w2.alloc (.cells #[.slice A2 n c2, .int .i64 s] 51)) 51 2 w1.heap.size w2.heap.size A2 n c2 zs s) := Lib.hid ⟨Blk.new w2 _ _, own_below ro ((Below.refl _ _).alloc (Nat.le_refl _) _), o2.2, hn.out.symm⟩
    have K3 := Lib.hid ((K1.out.below b3 K1.out.lt).alloc (.cells #[.slice A2 n c2, .int .i64 s] 51))
    have B3 := Lib.hid ((below_on B2.out b3 (by omega)).alloc (by omega) (.cells #[.slice A2 n c2, .int .i64 s] 51))
    clear o2 ro b3 K1 B2
    go_wp2_with fail
    refine (turnsMarks_any H3.out hll).mono ?_
    rintro e w4 ⟨⟨rfl, h4⟩, o4⟩
    have k4 := K3.out.out o4 (.inl (by omega))
    have B4 := Lib.hid (B3.out.trans (o4.to_below (B := w.heap.size) (by omega) (by simp; omega)))
    have e0 := h4.blk.cell 0 (u := .slice A2 n c2) rfl
    have hd0 := k4.cell 0 (u := .int .i64 0) rfl
    have hd1 := k4.cell 1 (u := .slice none 0 0) rfl
    have hf0 := k4.frozen 0
    have hf1 := k4.frozen 1
    have ne : w2.heap.size ≠ w.heap.size := by omega
    have OW := Lib.hid (show Own w4 w1.heap.size w4.heap.size 2 .i64 (.slice A2 n c2) (marksW zs s) from Own.mk_ h4.row h4.len.symm)
    clear o4 h4 H3 K3 B3 k4
    go_wp2
    refine bodyPost_ret (v := .agg #[.int .i64 0, .slice A2 n c2]) (by simp [results, Try.results30, go_sem, hd0, hd1]) rfl ?_
    rw [HZ.out, EV.out]
    exact ⟨⟨_, rfl, ((OW.out.set _ _ (.inl (by simp; omega))).set _ _ (.inl (by simp; omega))).more (by omega) (by simp)⟩, (B4.out.setCell (by simp) _).setCell (by simp) _⟩
  · have EV := Lib.hid (show marksV zs s = [] by unfold marksV; rw [if_neg hz])
    obtain ⟨q, hq⟩ : ∃ q, Hid (q = classF zs s) := ⟨_, Lib.hid rfl⟩
    have hne : (q != 0) = true := by rw [hq.out]; simpa using hz
    have hd0 := k1.cell 0 (u := .int .i64 0) rfl
    have hd1 := k1.cell 1 (u := .slice none 0 0) rfl
    have hf0 := k1.frozen 0
    have hf1 := k1.frozen 1
    clear hz
    rw [← hq.out]
    go_wp2
    refine bodyPost_ret (v := .agg #[.int .i64 q, .slice none 0 0]) (by simp [results, Try.results30, go_sem, hd0, hd1]) rfl ?_
    rw [EV.out, ← hq.out]
    exact ⟨⟨_, rfl, Own.nil _ _ _ _ _⟩, (b2.setCell (by simp) _).setCell (by simp) _⟩
theorem marksOf_val (v : Value) (zs : List Int) (s : Int) (w : World) (B : Nat) (h : Sees w B .i64 v zs) (hB : B ≤ w.heap.size) (l : zs.length < 1000000000) (_ : ∀ n ∈ zs, (Lit.int .i64 n).wf = true) (_ : (Lit.int .i64 s).wf = true) :
    Calls Try.prog 12 #[v, .int .i64 s] w fun e w' => (∃ u, e = .returned (.agg #[.int .i64 (classF zs s), u]) ∧ Own w' w.heap.size w'.heap.size 2 .i64 u (marksV zs s)) ∧ Below w.heap.size w w' := by
  have HS := Lib.hid h
  obtain ⟨A, c, rfl, _⟩ := h
  have b0 := (Below.refl w.heap.size w).alloc (Nat.le_refl _) (.cells #[.int .i64 0, .slice none 0 0] 28)
  have k0 := Blk.new w 28 #[.int .i64 0, .slice none 0 0]
  go_enter Try.func12, Try.ntmps12
  go_wp2_with fail
  refine (classesMarks_any _ zs s _ B (HS.out.below ((Below.refl B w).alloc hB _) (Nat.le_refl _)) (by simp; omega) l).mono ?_
  rintro e w1 ⟨⟨u, rfl, o1⟩, b1⟩
  obtain ⟨A1, c1, rfl⟩ := o1.form
  have k1 := k0.below b1 k0.lt
  have s1 := k1.lt
  have b2 := below_on b0 b1 (Nat.le_refl _)
  have hd0 := k1.cell 0 (u := .int .i64 0) rfl
  have hd1 := k1.cell 1 (u := .slice none 0 0) rfl
  have hf0 := k1.frozen 0
  have hf1 := k1.frozen 1
  have OW := Lib.hid o1
  obtain ⟨q, hq⟩ : ∃ q, Hid (q = classF zs s) := ⟨_, Lib.hid rfl⟩
  obtain ⟨ys, hys⟩ : ∃ ys, Hid (ys = marksV zs s) := ⟨_, Lib.hid rfl⟩
  rw [← hq.out, ← hys.out]
  rw [← hys.out] at OW
  clear k0 k1 b0 b1 o1
  go_wp2
  refine bodyPost_ret (v := .agg #[.int .i64 q, .slice A1 ys.length c1]) (by simp [results, Try.results12, go_sem, hd0, hd1]) rfl ?_
  rw [← hq.out, ← hys.out]
  refine ⟨⟨_, rfl, ?_⟩, ?_⟩
  · exact ((OW.out.set _ _ (.inl (by simp))).set _ _ (.inl (by simp))).more (by simp) (by simp)
  · exact (b2.setCell (by simp) _).setCell (by simp) _
set_option maxRecDepth 100000 in
set_option maxHeartbeats 4000000 in
theorem classesNumbers_any (v : Value) (zs : List Int) (s : Int) (w : World) (B : Nat) (h : Sees w B .i64 v zs) (hB : B ≤ w.heap.size) (l : zs.length < 1000000000) :
    Calls Try.prog 30 #[v, .int .i64 s, .int .i64 1, .int .i64 1] w fun e w' => (∃ u, e = .returned (.agg #[.int .i64 (classF zs s), u]) ∧ Own w' w.heap.size w'.heap.size 2 .i64 u (numsV zs s)) ∧ Below w.heap.size w w' := by
  obtain ⟨A, c, rfl, hr⟩ := h
  have HR := Lib.hid hr
  clear hr
  have b0 := (Below.refl w.heap.size w).alloc (Nat.le_refl _) (.cells #[.int .i64 0, .slice none 0 0] 28)
  have k0 := Blk.new w 28 #[.int .i64 0, .slice none 0 0]
  go_enter Try.func30, Try.ntmps30
  go_wp2_with fail
  refine (classesFault_any A zs c s _ B (HR.out.below ((Below.refl B w).alloc hB _) (Nat.le_refl _)) (by simp; omega) l).mono ?_
  rintro e w1 ⟨rfl, b1⟩
  have k1 := k0.below b1 k0.lt
  have b2 := below_on b0 b1 (Nat.le_refl _)
  have R1 := Lib.hid ((HR.out.below ((Below.refl B w).alloc hB _) (Nat.le_refl _)).below b1 (by simp; omega))
  have s1 := k1.lt
  by_cases hz : classF zs s = 0
  · have EV := Lib.hid (numsV_ok hz)
    have hll := (classF_zero hz).1
    have HZ := Lib.hid hz
    have K1 := Lib.hid k1
    have B2 := Lib.hid b2
    rw [hz]
    clear hz b0 k0 b1 k1 b2
    obtain ⟨n, hn⟩ : ∃ n, Hid (n = zs.length) := ⟨_, Lib.hid rfl⟩
    go_wp2_with fail
    refine (cloneInt_own _ zs w1 B ⟨A, c, rfl, R1.out⟩ (by omega) l).mono ?_
    rintro e w2 ⟨⟨v2, rfl, o2⟩, b3⟩
    obtain ⟨A2, c2, rfl⟩ := o2.form
    have s2 := b3.size
    have ro := o2.1
    rw [← hn.out] at o2 hll ro ⊢
    have H3 : Hid (WkO (w2.alloc (.cells #[.slice A2 n c2, .int .i64 s] 51)) 51 2 w1.heap.size w2.heap.size A2 n c2 zs s) := Lib.hid ⟨Blk.new w2 _ _, own_below ro ((Below.refl _ _).alloc (Nat.le_refl _) _), o2.2, hn.out.symm⟩
    have K3 := Lib.hid ((K1.out.below b3 K1.out.lt).alloc (.cells #[.slice A2 n c2, .int .i64 s] 51))
    have B3 := Lib.hid ((below_on B2.out b3 (by omega)).alloc (by omega) (.cells #[.slice A2 n c2, .int .i64 s] 51))
    clear o2 ro b3 K1 B2
    go_wp2_with fail
    refine (turnsNumbers_any H3.out hll).mono ?_
    rintro e w4 ⟨⟨rfl, h4⟩, o4⟩
    have k4 := K3.out.out o4 (.inl (by omega))
    have B4 := Lib.hid (B3.out.trans (o4.to_below (B := w.heap.size) (by omega) (by simp; omega)))
    have e0 := h4.blk.cell 0 (u := .slice A2 n c2) rfl
    have hd0 := k4.cell 0 (u := .int .i64 0) rfl
    have hd1 := k4.cell 1 (u := .slice none 0 0) rfl
    have hf0 := k4.frozen 0
    have hf1 := k4.frozen 1
    have ne : w2.heap.size ≠ w.heap.size := by omega
    have OW := Lib.hid (show Own w4 w1.heap.size w4.heap.size 2 .i64 (.slice A2 n c2) (numsW zs s) from Own.mk_ h4.row h4.len.symm)
    clear o4 h4 H3 K3 B3 k4
    go_wp2
    refine bodyPost_ret (v := .agg #[.int .i64 0, .slice A2 n c2]) (by simp [results, Try.results30, go_sem, hd0, hd1]) rfl ?_
    rw [HZ.out, EV.out]
    exact ⟨⟨_, rfl, ((OW.out.set _ _ (.inl (by simp; omega))).set _ _ (.inl (by simp; omega))).more (by omega) (by simp)⟩, (B4.out.setCell (by simp) _).setCell (by simp) _⟩
  · have EV := Lib.hid (show numsV zs s = [] by unfold numsV; rw [if_neg hz])
    obtain ⟨q, hq⟩ : ∃ q, Hid (q = classF zs s) := ⟨_, Lib.hid rfl⟩
    have hne : (q != 0) = true := by rw [hq.out]; simpa using hz
    have hd0 := k1.cell 0 (u := .int .i64 0) rfl
    have hd1 := k1.cell 1 (u := .slice none 0 0) rfl
    have hf0 := k1.frozen 0
    have hf1 := k1.frozen 1
    clear hz
    rw [← hq.out]
    go_wp2
    refine bodyPost_ret (v := .agg #[.int .i64 q, .slice none 0 0]) (by simp [results, Try.results30, go_sem, hd0, hd1]) rfl ?_
    rw [EV.out, ← hq.out]
    exact ⟨⟨_, rfl, Own.nil _ _ _ _ _⟩, (b2.setCell (by simp) _).setCell (by simp) _⟩
theorem numbersOf_val (v : Value) (zs : List Int) (s : Int) (w : World) (B : Nat) (h : Sees w B .i64 v zs) (hB : B ≤ w.heap.size) (l : zs.length < 1000000000) (_ : ∀ n ∈ zs, (Lit.int .i64 n).wf = true) (_ : (Lit.int .i64 s).wf = true) :
    Calls Try.prog 13 #[v, .int .i64 s] w fun e w' => (∃ u, e = .returned (.agg #[.int .i64 (classF zs s), u]) ∧ Own w' w.heap.size w'.heap.size 2 .i64 u (numsV zs s)) ∧ Below w.heap.size w w' := by
  have HS := Lib.hid h
  obtain ⟨A, c, rfl, _⟩ := h
  have b0 := (Below.refl w.heap.size w).alloc (Nat.le_refl _) (.cells #[.int .i64 0, .slice none 0 0] 28)
  have k0 := Blk.new w 28 #[.int .i64 0, .slice none 0 0]
  go_enter Try.func13, Try.ntmps13
  go_wp2_with fail
  refine (classesNumbers_any _ zs s _ B (HS.out.below ((Below.refl B w).alloc hB _) (Nat.le_refl _)) (by simp; omega) l).mono ?_
  rintro e w1 ⟨⟨u, rfl, o1⟩, b1⟩
  obtain ⟨A1, c1, rfl⟩ := o1.form
  have k1 := k0.below b1 k0.lt
  have s1 := k1.lt
  have b2 := below_on b0 b1 (Nat.le_refl _)
  have hd0 := k1.cell 0 (u := .int .i64 0) rfl
  have hd1 := k1.cell 1 (u := .slice none 0 0) rfl
  have hf0 := k1.frozen 0
  have hf1 := k1.frozen 1
  have OW := Lib.hid o1
  obtain ⟨q, hq⟩ : ∃ q, Hid (q = classF zs s) := ⟨_, Lib.hid rfl⟩
  obtain ⟨ys, hys⟩ : ∃ ys, Hid (ys = numsV zs s) := ⟨_, Lib.hid rfl⟩
  rw [← hq.out, ← hys.out]
  rw [← hys.out] at OW
  clear k0 k1 b0 b1 o1
  go_wp2
  refine bodyPost_ret (v := .agg #[.int .i64 q, .slice A1 ys.length c1]) (by simp [results, Try.results13, go_sem, hd0, hd1]) rfl ?_
  rw [← hq.out, ← hys.out]
  refine ⟨⟨_, rfl, ?_⟩, ?_⟩
  · exact ((OW.out.set _ _ (.inl (by simp))).set _ _ (.inl (by simp))).more (by simp) (by simp)
  · exact (b2.setCell (by simp) _).setCell (by simp) _
set_option maxRecDepth 100000 in
set_option maxHeartbeats 4000000 in
theorem classesSigns_any (v : Value) (zs : List Int) (s : Int) (w : World) (B : Nat) (h : Sees w B .i64 v zs) (hB : B ≤ w.heap.size) (l : zs.length < 1000000000) :
    Calls Try.prog 30 #[v, .int .i64 s, .int .i64 2, .int .i64 2] w fun e w' => (∃ u, e = .returned (.agg #[.int .i64 (classF zs s), u]) ∧ Own w' w.heap.size w'.heap.size 2 .i64 u (signsV zs s)) ∧ Below w.heap.size w w' := by
  obtain ⟨A, c, rfl, hr⟩ := h
  have HR := Lib.hid hr
  clear hr
  have b0 := (Below.refl w.heap.size w).alloc (Nat.le_refl _) (.cells #[.int .i64 0, .slice none 0 0] 28)
  have k0 := Blk.new w 28 #[.int .i64 0, .slice none 0 0]
  go_enter Try.func30, Try.ntmps30
  go_wp2_with fail
  refine (classesFault_any A zs c s _ B (HR.out.below ((Below.refl B w).alloc hB _) (Nat.le_refl _)) (by simp; omega) l).mono ?_
  rintro e w1 ⟨rfl, b1⟩
  have k1 := k0.below b1 k0.lt
  have b2 := below_on b0 b1 (Nat.le_refl _)
  have R1 := Lib.hid ((HR.out.below ((Below.refl B w).alloc hB _) (Nat.le_refl _)).below b1 (by simp; omega))
  have s1 := k1.lt
  by_cases hz : classF zs s = 0
  · have EV := Lib.hid (signsV_ok hz)
    have hll := (classF_zero hz).1
    have HZ := Lib.hid hz
    have K1 := Lib.hid k1
    have B2 := Lib.hid b2
    rw [hz]
    clear hz b0 k0 b1 k1 b2
    obtain ⟨n, hn⟩ : ∃ n, Hid (n = zs.length) := ⟨_, Lib.hid rfl⟩
    go_wp2_with fail
    refine (cloneInt_own _ zs w1 B ⟨A, c, rfl, R1.out⟩ (by omega) l).mono ?_
    rintro e w2 ⟨⟨v2, rfl, o2⟩, b3⟩
    obtain ⟨A2, c2, rfl⟩ := o2.form
    have s2 := b3.size
    have ro := o2.1
    rw [← hn.out] at o2 hll ro ⊢
    have H3 : Hid (WkO (w2.alloc (.cells #[.slice A2 n c2, .int .i64 s] 51)) 51 2 w1.heap.size w2.heap.size A2 n c2 zs s) := Lib.hid ⟨Blk.new w2 _ _, own_below ro ((Below.refl _ _).alloc (Nat.le_refl _) _), o2.2, hn.out.symm⟩
    have K3 := Lib.hid ((K1.out.below b3 K1.out.lt).alloc (.cells #[.slice A2 n c2, .int .i64 s] 51))
    have B3 := Lib.hid ((below_on B2.out b3 (by omega)).alloc (by omega) (.cells #[.slice A2 n c2, .int .i64 s] 51))
    clear o2 ro b3 K1 B2
    go_wp2_with fail
    refine (turnsSigns_any H3.out hll).mono ?_
    rintro e w4 ⟨⟨rfl, h4⟩, o4⟩
    have k4 := K3.out.out o4 (.inl (by omega))
    have B4 := Lib.hid (B3.out.trans (o4.to_below (B := w.heap.size) (by omega) (by simp; omega)))
    have e0 := h4.blk.cell 0 (u := .slice A2 n c2) rfl
    have hd0 := k4.cell 0 (u := .int .i64 0) rfl
    have hd1 := k4.cell 1 (u := .slice none 0 0) rfl
    have hf0 := k4.frozen 0
    have hf1 := k4.frozen 1
    have ne : w2.heap.size ≠ w.heap.size := by omega
    have OW := Lib.hid (show Own w4 w1.heap.size w4.heap.size 2 .i64 (.slice A2 n c2) (signsW zs s) from Own.mk_ h4.row h4.len.symm)
    clear o4 h4 H3 K3 B3 k4
    go_wp2
    refine bodyPost_ret (v := .agg #[.int .i64 0, .slice A2 n c2]) (by simp [results, Try.results30, go_sem, hd0, hd1]) rfl ?_
    rw [HZ.out, EV.out]
    exact ⟨⟨_, rfl, ((OW.out.set _ _ (.inl (by simp; omega))).set _ _ (.inl (by simp; omega))).more (by omega) (by simp)⟩, (B4.out.setCell (by simp) _).setCell (by simp) _⟩
  · have EV := Lib.hid (show signsV zs s = [] by unfold signsV; rw [if_neg hz])
    obtain ⟨q, hq⟩ : ∃ q, Hid (q = classF zs s) := ⟨_, Lib.hid rfl⟩
    have hne : (q != 0) = true := by rw [hq.out]; simpa using hz
    have hd0 := k1.cell 0 (u := .int .i64 0) rfl
    have hd1 := k1.cell 1 (u := .slice none 0 0) rfl
    have hf0 := k1.frozen 0
    have hf1 := k1.frozen 1
    clear hz
    rw [← hq.out]
    go_wp2
    refine bodyPost_ret (v := .agg #[.int .i64 q, .slice none 0 0]) (by simp [results, Try.results30, go_sem, hd0, hd1]) rfl ?_
    rw [EV.out, ← hq.out]
    exact ⟨⟨_, rfl, Own.nil _ _ _ _ _⟩, (b2.setCell (by simp) _).setCell (by simp) _⟩
theorem signsOf_val (v : Value) (zs : List Int) (s : Int) (w : World) (B : Nat) (h : Sees w B .i64 v zs) (hB : B ≤ w.heap.size) (l : zs.length < 1000000000) (_ : ∀ n ∈ zs, (Lit.int .i64 n).wf = true) (_ : (Lit.int .i64 s).wf = true) :
    Calls Try.prog 14 #[v, .int .i64 s] w fun e w' => (∃ u, e = .returned (.agg #[.int .i64 (classF zs s), u]) ∧ Own w' w.heap.size w'.heap.size 2 .i64 u (signsV zs s)) ∧ Below w.heap.size w w' := by
  have HS := Lib.hid h
  obtain ⟨A, c, rfl, _⟩ := h
  have b0 := (Below.refl w.heap.size w).alloc (Nat.le_refl _) (.cells #[.int .i64 0, .slice none 0 0] 28)
  have k0 := Blk.new w 28 #[.int .i64 0, .slice none 0 0]
  go_enter Try.func14, Try.ntmps14
  go_wp2_with fail
  refine (classesSigns_any _ zs s _ B (HS.out.below ((Below.refl B w).alloc hB _) (Nat.le_refl _)) (by simp; omega) l).mono ?_
  rintro e w1 ⟨⟨u, rfl, o1⟩, b1⟩
  obtain ⟨A1, c1, rfl⟩ := o1.form
  have k1 := k0.below b1 k0.lt
  have s1 := k1.lt
  have b2 := below_on b0 b1 (Nat.le_refl _)
  have hd0 := k1.cell 0 (u := .int .i64 0) rfl
  have hd1 := k1.cell 1 (u := .slice none 0 0) rfl
  have hf0 := k1.frozen 0
  have hf1 := k1.frozen 1
  have OW := Lib.hid o1
  obtain ⟨q, hq⟩ : ∃ q, Hid (q = classF zs s) := ⟨_, Lib.hid rfl⟩
  obtain ⟨ys, hys⟩ : ∃ ys, Hid (ys = signsV zs s) := ⟨_, Lib.hid rfl⟩
  rw [← hq.out, ← hys.out]
  rw [← hys.out] at OW
  clear k0 k1 b0 b1 o1
  go_wp2
  refine bodyPost_ret (v := .agg #[.int .i64 q, .slice A1 ys.length c1]) (by simp [results, Try.results14, go_sem, hd0, hd1]) rfl ?_
  rw [← hq.out, ← hys.out]
  refine ⟨⟨_, rfl, ?_⟩, ?_⟩
  · exact ((OW.out.set _ _ (.inl (by simp))).set _ _ (.inl (by simp))).more (by simp) (by simp)
  · exact (b2.setCell (by simp) _).setCell (by simp) _
set_option maxRecDepth 100000 in
set_option maxHeartbeats 4000000 in
theorem classesWeak_any (v : Value) (zs : List Int) (s : Int) (w : World) (B : Nat) (h : Sees w B .i64 v zs) (hB : B ≤ w.heap.size) (l : zs.length < 1000000000) :
    Calls Try.prog 30 #[v, .int .i64 s, .int .i64 0, .int .i64 2] w fun e w' => (∃ u, e = .returned (.agg #[.int .i64 (classF zs s), u]) ∧ Own w' w.heap.size w'.heap.size 2 .i64 u (weakV zs s)) ∧ Below w.heap.size w w' := by
  obtain ⟨A, c, rfl, hr⟩ := h
  have HR := Lib.hid hr
  clear hr
  have b0 := (Below.refl w.heap.size w).alloc (Nat.le_refl _) (.cells #[.int .i64 0, .slice none 0 0] 28)
  have k0 := Blk.new w 28 #[.int .i64 0, .slice none 0 0]
  go_enter Try.func30, Try.ntmps30
  go_wp2_with fail
  refine (classesFault_any A zs c s _ B (HR.out.below ((Below.refl B w).alloc hB _) (Nat.le_refl _)) (by simp; omega) l).mono ?_
  rintro e w1 ⟨rfl, b1⟩
  have k1 := k0.below b1 k0.lt
  have b2 := below_on b0 b1 (Nat.le_refl _)
  have R1 := Lib.hid ((HR.out.below ((Below.refl B w).alloc hB _) (Nat.le_refl _)).below b1 (by simp; omega))
  have s1 := k1.lt
  by_cases hz : classF zs s = 0
  · have EV := Lib.hid (weakV_ok hz)
    have hll := (classF_zero hz).1
    have HZ := Lib.hid hz
    have K1 := Lib.hid k1
    have B2 := Lib.hid b2
    rw [hz]
    clear hz b0 k0 b1 k1 b2
    obtain ⟨n, hn⟩ : ∃ n, Hid (n = zs.length) := ⟨_, Lib.hid rfl⟩
    go_wp2_with fail
    refine (cloneInt_own _ zs w1 B ⟨A, c, rfl, R1.out⟩ (by omega) l).mono ?_
    rintro e w2 ⟨⟨v2, rfl, o2⟩, b3⟩
    obtain ⟨A2, c2, rfl⟩ := o2.form
    have s2 := b3.size
    have ro := o2.1
    rw [← hn.out] at o2 hll ro ⊢
    have H3 : Hid (WkO (w2.alloc (.cells #[.slice A2 n c2, .int .i64 s] 51)) 51 2 w1.heap.size w2.heap.size A2 n c2 zs s) := Lib.hid ⟨Blk.new w2 _ _, own_below ro ((Below.refl _ _).alloc (Nat.le_refl _) _), o2.2, hn.out.symm⟩
    have K3 := Lib.hid ((K1.out.below b3 K1.out.lt).alloc (.cells #[.slice A2 n c2, .int .i64 s] 51))
    have B3 := Lib.hid ((below_on B2.out b3 (by omega)).alloc (by omega) (.cells #[.slice A2 n c2, .int .i64 s] 51))
    clear o2 ro b3 K1 B2
    go_wp2_with fail
    refine (turnsWeak_any H3.out hll).mono ?_
    rintro e w4 ⟨⟨rfl, h4⟩, o4⟩
    have k4 := K3.out.out o4 (.inl (by omega))
    have B4 := Lib.hid (B3.out.trans (o4.to_below (B := w.heap.size) (by omega) (by simp; omega)))
    have e0 := h4.blk.cell 0 (u := .slice A2 n c2) rfl
    have hd0 := k4.cell 0 (u := .int .i64 0) rfl
    have hd1 := k4.cell 1 (u := .slice none 0 0) rfl
    have hf0 := k4.frozen 0
    have hf1 := k4.frozen 1
    have ne : w2.heap.size ≠ w.heap.size := by omega
    have OW := Lib.hid (show Own w4 w1.heap.size w4.heap.size 2 .i64 (.slice A2 n c2) (weakW zs s) from Own.mk_ h4.row h4.len.symm)
    clear o4 h4 H3 K3 B3 k4
    go_wp2
    refine bodyPost_ret (v := .agg #[.int .i64 0, .slice A2 n c2]) (by simp [results, Try.results30, go_sem, hd0, hd1]) rfl ?_
    rw [HZ.out, EV.out]
    exact ⟨⟨_, rfl, ((OW.out.set _ _ (.inl (by simp; omega))).set _ _ (.inl (by simp; omega))).more (by omega) (by simp)⟩, (B4.out.setCell (by simp) _).setCell (by simp) _⟩
  · have EV := Lib.hid (show weakV zs s = [] by unfold weakV; rw [if_neg hz])
    obtain ⟨q, hq⟩ : ∃ q, Hid (q = classF zs s) := ⟨_, Lib.hid rfl⟩
    have hne : (q != 0) = true := by rw [hq.out]; simpa using hz
    have hd0 := k1.cell 0 (u := .int .i64 0) rfl
    have hd1 := k1.cell 1 (u := .slice none 0 0) rfl
    have hf0 := k1.frozen 0
    have hf1 := k1.frozen 1
    clear hz
    rw [← hq.out]
    go_wp2
    refine bodyPost_ret (v := .agg #[.int .i64 q, .slice none 0 0]) (by simp [results, Try.results30, go_sem, hd0, hd1]) rfl ?_
    rw [EV.out, ← hq.out]
    exact ⟨⟨_, rfl, Own.nil _ _ _ _ _⟩, (b2.setCell (by simp) _).setCell (by simp) _⟩
theorem weakOf_val (v : Value) (zs : List Int) (s : Int) (w : World) (B : Nat) (h : Sees w B .i64 v zs) (hB : B ≤ w.heap.size) (l : zs.length < 1000000000) (_ : ∀ n ∈ zs, (Lit.int .i64 n).wf = true) (_ : (Lit.int .i64 s).wf = true) :
    Calls Try.prog 11 #[v, .int .i64 s] w fun e w' => (∃ u, e = .returned (.agg #[.int .i64 (classF zs s), u]) ∧ Own w' w.heap.size w'.heap.size 2 .i64 u (weakV zs s)) ∧ Below w.heap.size w w' := by
  have HS := Lib.hid h
  obtain ⟨A, c, rfl, _⟩ := h
  have b0 := (Below.refl w.heap.size w).alloc (Nat.le_refl _) (.cells #[.int .i64 0, .slice none 0 0] 28)
  have k0 := Blk.new w 28 #[.int .i64 0, .slice none 0 0]
  go_enter Try.func11, Try.ntmps11
  go_wp2_with fail
  refine (classesWeak_any _ zs s _ B (HS.out.below ((Below.refl B w).alloc hB _) (Nat.le_refl _)) (by simp; omega) l).mono ?_
  rintro e w1 ⟨⟨u, rfl, o1⟩, b1⟩
  obtain ⟨A1, c1, rfl⟩ := o1.form
  have k1 := k0.below b1 k0.lt
  have s1 := k1.lt
  have b2 := below_on b0 b1 (Nat.le_refl _)
  have hd0 := k1.cell 0 (u := .int .i64 0) rfl
  have hd1 := k1.cell 1 (u := .slice none 0 0) rfl
  have hf0 := k1.frozen 0
  have hf1 := k1.frozen 1
  have OW := Lib.hid o1
  obtain ⟨q, hq⟩ : ∃ q, Hid (q = classF zs s) := ⟨_, Lib.hid rfl⟩
  obtain ⟨ys, hys⟩ : ∃ ys, Hid (ys = weakV zs s) := ⟨_, Lib.hid rfl⟩
  rw [← hq.out, ← hys.out]
  rw [← hys.out] at OW
  clear k0 k1 b0 b1 o1
  go_wp2
  refine bodyPost_ret (v := .agg #[.int .i64 q, .slice A1 ys.length c1]) (by simp [results, Try.results11, go_sem, hd0, hd1]) rfl ?_
  rw [← hq.out, ← hys.out]
  refine ⟨⟨_, rfl, ?_⟩, ?_⟩
  · exact ((OW.out.set _ _ (.inl (by simp))).set _ _ (.inl (by simp))).more (by simp) (by simp)
  · exact (b2.setCell (by simp) _).setCell (by simp) _
end Go.Proofs.Ytmcmfklkljehiaa
