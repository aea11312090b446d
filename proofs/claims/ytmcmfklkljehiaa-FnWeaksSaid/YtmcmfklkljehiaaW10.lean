/- Chapter 6: what the model answers. -/
import Derived.Test.YtmcmfklkljehiaaW8
namespace Go.Proofs.Ytmcmfklkljehiaa
open Go.RowKit

set_option maxRecDepth 100000 in
set_option maxHeartbeats 8000000 in
theorem l6Signs_any (v : Value) (xs : List Int) (s : Int) (w : World) (B : Nat) (h : Sees w B .i64 v xs) (hB : B ≤ w.heap.size) (hl : xs.length ≤ 600) :
    Calls Try.prog 34 #[v, .int .i64 s] w fun e w' => (∃ u, e = .returned u ∧ Own w' w.heap.size w'.heap.size 2 .i64 u (signsW xs s)) ∧ Below w.heap.size w w' := by
  obtain ⟨i0, hi, hz0, hz1, hz2⟩ := info_parts info_int64
  obtain ⟨A0, c0, rfl, hr⟩ := h
  have HS := Lib.hid (show Sees w B .i64 (.slice A0 xs.length c0) xs from ⟨A0, c0, rfl, hr⟩)
  clear hr
  go_enter Try.func34, Try.ntmps34
  go_wp2_with fail
  refine (l1Ints_own _ xs w B HS.out hB (by omega)).mono ?_
  rintro e w1 ⟨⟨u, rfl, o1⟩, b1⟩
  obtain ⟨A, c, rfl⟩ := o1.form
  obtain ⟨n, hn⟩ : ∃ n, Hid (n = xs.length) := ⟨_, Lib.hid rfl⟩
  have R1 := Lib.hid o1.1
  rw [← hn.out] at R1 hl ⊢
  have R1 : Hid (Row6 w1 w.heap.size A n c xs) := R1
  have B1 := Lib.hid b1
  have s1 := b1.size
  clear o1 b1
  go_wp2_with fail
  refine (l6Between_any w1 w.heap.size A n c xs R1.out s1 hl hn.out).mono ?_
  rintro e w2 ⟨⟨rfl, r2⟩, b2⟩
  have R2 := Lib.hid r2
  have B2 := Lib.hid (B1.out.trans b2)
  have s2 := b2.size
  clear r2 b2 R1 B1
  go_wp2_with fail
  refine (l6Terms_any w2 w.heap.size A n c (sepW xs) R2.out (by omega) hl (by unfold sepW; rw [doStep_len]; exact hn.out)).mono ?_
  rintro e w3 ⟨⟨rfl, r3⟩, b3⟩
  have B3 := Lib.hid (B2.out.trans b3)
  obtain ⟨ys, hys⟩ : ∃ ys, Hid (ys = termW (sepW xs)) := ⟨_, Lib.hid rfl⟩
  rw [← hys.out] at r3
  have R3 := Lib.hid (show Row6 w3 w.heap.size A n c (stepN [3, 4, 5, 7] (fEnd s) ys 0) from r3)
  have YL := Lib.hid (show n = ys.length by rw [hys.out]; unfold termW sepW; rw [doStep_len, doStep_len]; exact hn.out)
  have FIN := Lib.hid (show signsW xs s = stepN [3, 4, 5, 7] (fEnd s) ys n by unfold signsW; rw [← hys.out, end_both]; unfold doStep; rw [← YL.out])
  clear r3 b3 R2 B2
  go_wp2
  go_loopw [6, 7] (fun l i wr => ∃ k : Nat, k ≤ n ∧ i = .int .i64 k ∧ l = .int .i64 (lastA [0, 1] s (stepN [3, 4, 5, 7] (fEnd s) ys k) k) ∧ Hid (Row6 wr w.heap.size A n c (stepN [3, 4, 5, 7] (fEnd s) ys k)) ∧ Hid (Below w.heap.size w wr)) (fun _ i _ => n - (intOf i).toNat)
  case atStart => exact ⟨0, by omega, rfl, rfl, R3, B3⟩
  case round =>
    clear R3 B3
    obtain ⟨k, hk, rfl, rfl, hw, hbr⟩ := hrel
    by_cases hlt : k < n
    · obtain ⟨ga, ca, eA, hga⟩ := own_addr hw.out (by omega)
      injection eA with eA e2 e3
      subst eA; subst e3
      clear e2
      have hc0 := own_cell hw.out k hlt
      have STR := Lib.hid (fun h => end_strong ys s (k := k) h)
      have OTH := Lib.hid (fun h => end_other ys s (k := k) h)
      have EN := Lib.hid (fun h => end_en ys s (k := k) (by rw [← YL.out]; exact hlt) h)
      have RST := Lib.hid (fun h => end_rest ys s (k := k) (by rw [← YL.out]; exact hlt) h)
      have hbsz := hbr.out.size
      obtain ⟨S, hS⟩ : ∃ S, Hid (S = stepN [3, 4, 5, 7] (fEnd s) ys k) := ⟨_, Lib.hid rfl⟩
      rw [← hS.out] at hc0 STR OTH EN RST hw ⊢
      obtain ⟨q, hq⟩ : ∃ q, Hid (q = nth S k) := ⟨_, Lib.hid rfl⟩
      obtain ⟨a, ha⟩ : ∃ a, Hid (a = lastA [0, 1] s S k) := ⟨_, Lib.hid rfl⟩
      rw [← hq.out] at hc0 STR OTH EN RST
      rw [← ha.out] at OTH EN RST ⊢
      obtain ⟨S', hS'⟩ : ∃ S', Hid (S' = stepN [3, 4, 5, 7] (fEnd s) ys (k + 1)) := ⟨_, Lib.hid rfl⟩
      rw [← hS'.out] at STR OTH EN RST
      by_cases h3 : q = 3
      · have E := Lib.hid (EN.out h3)
        subst h3
        clear STR OTH EN RST
        by_cases h2 : a = 0
        · have R0 := Lib.hid (show S' = S.set k 0 by rw [E.out.1, if_pos h2])
          have L0 := Lib.hid (E.out.2)
          have b2 : (a == 0) = true := by simp [h2]
          clear h2
          go_wp2_with (refine wpList_put rfl _ _ _ rfl i0 hi hz1 k (.int .i64 0) rfl rfl rfl hw.out hlt ?_; intro w4 o4 g4)
          have R3 := Lib.hid (show Row6 w4 w.heap.size (some ⟨ga, 0, none⟩) n c (stepN [3, 4, 5, 7] (fEnd s) ys (k + 1)) by rw [← hS'.out, R0.out]; exact own_set o4)
          have B3 := Lib.hid (below_put hbr.out hw.out g4 hbsz)
          clear o4 g4
          go_roundw
          case rel => exact ⟨k + 1, by omega, by go_num, by rw [← hS'.out, L0.out], R3, B3⟩
          case measure => first | omega | (simp [intOf]; omega)
        · have R0 := Lib.hid (show S' = S by rw [E.out.1, if_neg h2])
          have L0 := Lib.hid (E.out.2)
          have b2 : (a == 0) = false := by simpa using h2
          have R3 := Lib.hid (show Row6 wr w.heap.size (some ⟨ga, 0, none⟩) n c (stepN [3, 4, 5, 7] (fEnd s) ys (k + 1)) by rw [← hS'.out, R0.out]; exact hw.out)
          clear h2
          go_wp2
          go_roundw
          case rel => exact ⟨k + 1, by omega, by go_num, by rw [← hS'.out, L0.out], R3, hbr⟩
          case measure => first | omega | (simp [intOf]; omega)
      · by_cases hst : q = 0 ∨ q = 1
        · have E := Lib.hid (STR.out hst)
          have R3 := Lib.hid (show Row6 wr w.heap.size (some ⟨ga, 0, none⟩) n c (stepN [3, 4, 5, 7] (fEnd s) ys (k + 1)) by rw [← hS'.out, E.out.1]; exact hw.out)
          have L3 := Lib.hid (show lastA [0, 1] s (stepN [3, 4, 5, 7] (fEnd s) ys (k + 1)) (k + 1) = q by rw [← hS'.out, E.out.2])
          clear STR OTH EN RST E h3
          rcases hst with rfl | rfl
          all_goals
            go_wp2
            go_roundw
            case rel => exact ⟨k + 1, by omega, by go_num, by rw [L3.out], R3, hbr⟩
            case measure => first | omega | (simp [intOf]; omega)
        · by_cases hr : q = 4 ∨ q = 5 ∨ q = 7
          · have E := Lib.hid (RST.out hr)
            clear STR OTH EN RST h3 hst
            rcases hr with rfl | rfl | rfl
            all_goals
              go_wp2_with (refine wpList_put rfl _ _ _ rfl i0 hi hz1 k (.int .i64 13) rfl rfl rfl hw.out hlt ?_; intro w4 o4 g4)
              have R3 := Lib.hid (show Row6 w4 w.heap.size (some ⟨ga, 0, none⟩) n c (stepN [3, 4, 5, 7] (fEnd s) ys (k + 1)) by rw [← hS'.out, E.out.1]; exact own_set o4)
              have B3 := Lib.hid (below_put hbr.out hw.out g4 hbsz)
              clear o4 g4
              go_roundw
              case rel => exact ⟨k + 1, by omega, by go_num, by rw [← hS'.out, E.out.2], R3, B3⟩
              case measure => first | omega | (simp [intOf]; omega)
          · have E := Lib.hid (OTH.out (by simp; omega))
            have R3 := Lib.hid (show Row6 wr w.heap.size (some ⟨ga, 0, none⟩) n c (stepN [3, 4, 5, 7] (fEnd s) ys (k + 1)) by rw [← hS'.out, E.out.1]; exact hw.out)
            have L3 := Lib.hid (show lastA [0, 1] s (stepN [3, 4, 5, 7] (fEnd s) ys (k + 1)) (k + 1) = a by rw [← hS'.out, E.out.2])
            have n0 : (q == 0) = false := by simp; omega
            have n1 : (q == 1) = false := by simp; omega
            have n3 : (q == 3) = false := by simp; omega
            have n4 : (q == 4) = false := by simp; omega
            have n5 : (q == 5) = false := by simp; omega
            have n7 : (q == 7) = false := by simp; omega
            clear STR OTH EN RST E h3 hst hr
            go_wp2
            go_roundw
            case rel => exact ⟨k + 1, by omega, by go_num, by rw [L3.out], R3, hbr⟩
            case measure => first | omega | (simp [intOf]; omega)
    · obtain rfl : k = n := by omega
      have HO := Lib.hid (show Own wr w.heap.size wr.heap.size 2 .i64 (.slice A k c) (signsW xs s) from Own.mk_ (by rw [FIN.out]; exact hw.out) (by rw [signsW_len]; exact hn.out))
      go_wp2
      go_ret
      exact ⟨⟨_, rfl, HO.out⟩, hbr.out⟩
set_option maxRecDepth 100000 in
set_option maxHeartbeats 1000000 in
theorem l6Weak_any (v : Value) (xs : List Int) (s : Int) (w : World) (B : Nat) (h : Sees w B .i64 v xs) (hB : B ≤ w.heap.size) (hl : xs.length ≤ 600) :
    Calls Try.prog 31 #[v, .int .i64 s] w fun e w' => (∃ u, e = .returned u ∧ Own w' w.heap.size w'.heap.size 2 .i64 u (weakW xs s)) ∧ Below w.heap.size w w' := by
  have HS := Lib.hid h
  obtain ⟨A0, c0, rfl, _⟩ := h
  have E := Lib.hid (show weakW xs s = signsW (numsW (marksW xs s) s) s from rfl)
  go_enter Try.func31, Try.ntmps31
  go_wp2_with fail
  refine (l6Marks_any _ xs s w B HS.out hB hl).mono ?_
  rintro e w1 ⟨⟨u1, rfl, o1⟩, b1⟩
  obtain ⟨A1, c1, rfl⟩ := o1.form
  have O1 := Lib.hid o1
  have B1 := Lib.hid b1
  have s1 := b1.size
  clear o1 b1
  go_wp2_with fail
  refine (l6Numbers_any _ (marksW xs s) s w1 _ O1.out.sees (Nat.le_refl _) (by rw [marksW_len]; exact hl)).mono ?_
  rintro e w2 ⟨⟨u2, rfl, o2⟩, b2⟩
  obtain ⟨A2, c2, rfl⟩ := o2.form
  have O2 := Lib.hid o2
  have B2 := Lib.hid (below_on B1.out b2 (by omega))
  have s2 := b2.size
  clear o2 b2
  go_wp2_with fail
  refine (l6Signs_any _ (numsW (marksW xs s) s) s w2 _ O2.out.sees (Nat.le_refl _) (by rw [numsW_len, marksW_len]; exact hl)).mono ?_
  rintro e w3 ⟨⟨u3, rfl, o3⟩, b3⟩
  obtain ⟨A3, c3, rfl⟩ := o3.form
  have O3 := Lib.hid (o3.more (by omega : w.heap.size ≤ w2.heap.size) (Nat.le_refl _))
  have B3 := Lib.hid (below_on B2.out b3 (by omega))
  rw [← E.out] at O3
  clear o3 b3
  go_wp2
  go_ret
  exact ⟨⟨_, rfl, O3.out⟩, B3.out⟩
set_option maxRecDepth 100000 in
set_option maxHeartbeats 1000000 in
theorem specMarksOf_val (v : Value) (zs : List Int) (s : Int) (w : World) (B : Nat) (h : Sees w B .i64 v zs) (hB : B ≤ w.heap.size) (l : zs.length < 1000000000) (_ : ∀ n ∈ zs, (Lit.int .i64 n).wf = true) (_ : (Lit.int .i64 s).wf = true) :
    Calls Try.prog 17 #[v, .int .i64 s] w fun e w' => (∃ u, e = .returned (.agg #[.int .i64 (classF zs s), u]) ∧ Own w' w.heap.size w'.heap.size 2 .i64 u (marksV zs s)) ∧ Below w.heap.size w w' := by
  have HS := Lib.hid h
  obtain ⟨A, c, rfl, hr⟩ := h
  have HR := Lib.hid hr
  clear hr
  have b0 := (Below.refl w.heap.size w).alloc (Nat.le_refl _) (.cells #[.int .i64 0, .slice none 0 0] 28)
  have k0 := Blk.new w 28 #[.int .i64 0, .slice none 0 0]
  go_enter Try.func17, Try.ntmps17
  go_wp2_with fail
  refine (specClassesFault_any A zs c s _ B (HR.out.below ((Below.refl B w).alloc hB _) (Nat.le_refl _)) l).mono ?_
  rintro e w1 ⟨rfl, rfl⟩
  by_cases hz : classF zs s = 0
  · have EV := Lib.hid (show marksV zs s = marksW zs s by unfold marksV; rw [if_pos hz])
    have hll := (classF_zero hz).1
    have HZ := Lib.hid hz
    rw [hz]
    clear hz
    go_wp2_with fail
    refine (l6Marks_any _ zs s _ B (HS.out.below ((Below.refl B w).alloc hB _) (Nat.le_refl _)) (by simp; omega) hll).mono ?_
    rintro e w2 ⟨⟨v2, rfl, o2⟩, b2⟩
    obtain ⟨A2, c2, rfl⟩ := o2.form
    have k2 := k0.below b2 k0.lt
    have s2 := k2.lt
    have B2 := Lib.hid (below_on b0 b2 (Nat.le_refl _))
    have hd0 := k2.cell 0 (u := .int .i64 0) rfl
    have hd1 := k2.cell 1 (u := .slice none 0 0) rfl
    have hf0 := k2.frozen 0
    have hf1 := k2.frozen 1
    have OW := Lib.hid o2
    obtain ⟨ys, hys⟩ : ∃ ys, Hid (ys = marksW zs s) := ⟨_, Lib.hid rfl⟩
    rw [← hys.out]
    rw [← hys.out] at OW EV
    clear k0 k2 b0 b2 o2
    go_wp2
    refine bodyPost_ret (v := .agg #[.int .i64 0, .slice A2 ys.length c2]) (by simp [results, Try.results17, go_sem, hd0, hd1]) rfl ?_
    rw [HZ.out, EV.out]
    refine ⟨⟨_, rfl, ?_⟩, ?_⟩
    · exact ((OW.out.set _ _ (.inl (by simp))).set _ _ (.inl (by simp))).more (by simp) (by simp)
    · exact (B2.out.setCell (by simp) _).setCell (by simp) _
  · have EV := Lib.hid (show marksV zs s = [] by unfold marksV; rw [if_neg hz])
    obtain ⟨q, hq⟩ : ∃ q, Hid (q = classF zs s) := ⟨_, Lib.hid rfl⟩
    have hne : (q != 0) = true := by rw [hq.out]; simpa using hz
    have hd0 := k0.cell 0 (u := .int .i64 0) rfl
    have hd1 := k0.cell 1 (u := .slice none 0 0) rfl
    have hf0 := k0.frozen 0
    have hf1 := k0.frozen 1
    clear hz
    rw [← hq.out]
    go_wp2
    refine bodyPost_ret (v := .agg #[.int .i64 q, .slice none 0 0]) (by simp [results, Try.results17, go_sem, hd0, hd1]) rfl ?_
    rw [EV.out, ← hq.out]
    exact ⟨⟨_, rfl, Own.nil _ _ _ _ _⟩, (Below.refl w.heap.size w).alloc (Nat.le_refl _) _⟩
set_option maxRecDepth 100000 in
set_option maxHeartbeats 1000000 in
theorem specNumbersOf_val (v : Value) (zs : List Int) (s : Int) (w : World) (B : Nat) (h : Sees w B .i64 v zs) (hB : B ≤ w.heap.size) (l : zs.length < 1000000000) (_ : ∀ n ∈ zs, (Lit.int .i64 n).wf = true) (_ : (Lit.int .i64 s).wf = true) :
    Calls Try.prog 18 #[v, .int .i64 s] w fun e w' => (∃ u, e = .returned (.agg #[.int .i64 (classF zs s), u]) ∧ Own w' w.heap.size w'.heap.size 2 .i64 u (numsV zs s)) ∧ Below w.heap.size w w' := by
  have HS := Lib.hid h
  obtain ⟨A, c, rfl, hr⟩ := h
  have HR := Lib.hid hr
  clear hr
  have b0 := (Below.refl w.heap.size w).alloc (Nat.le_refl _) (.cells #[.int .i64 0, .slice none 0 0] 28)
  have k0 := Blk.new w 28 #[.int .i64 0, .slice none 0 0]
  go_enter Try.func18, Try.ntmps18
  go_wp2_with fail
  refine (specClassesFault_any A zs c s _ B (HR.out.below ((Below.refl B w).alloc hB _) (Nat.le_refl _)) l).mono ?_
  rintro e w1 ⟨rfl, rfl⟩
  by_cases hz : classF zs s = 0
  · have EV := Lib.hid (show numsV zs s = numsW zs s by unfold numsV; rw [if_pos hz])
    have hll := (classF_zero hz).1
    have HZ := Lib.hid hz
    rw [hz]
    clear hz
    go_wp2_with fail
    refine (l6Numbers_any _ zs s _ B (HS.out.below ((Below.refl B w).alloc hB _) (Nat.le_refl _)) (by simp; omega) hll).mono ?_
    rintro e w2 ⟨⟨v2, rfl, o2⟩, b2⟩
    obtain ⟨A2, c2, rfl⟩ := o2.form
    have k2 := k0.below b2 k0.lt
    have s2 := k2.lt
    have B2 := Lib.hid (below_on b0 b2 (Nat.le_refl _))
    have hd0 := k2.cell 0 (u := .int .i64 0) rfl
    have hd1 := k2.cell 1 (u := .slice none 0 0) rfl
    have hf0 := k2.frozen 0
    have hf1 := k2.frozen 1
    have OW := Lib.hid o2
    obtain ⟨ys, hys⟩ : ∃ ys, Hid (ys = numsW zs s) := ⟨_, Lib.hid rfl⟩
    rw [← hys.out]
    rw [← hys.out] at OW EV
    clear k0 k2 b0 b2 o2
    go_wp2
    refine bodyPost_ret (v := .agg #[.int .i64 0, .slice A2 ys.length c2]) (by simp [results, Try.results18, go_sem, hd0, hd1]) rfl ?_
    rw [HZ.out, EV.out]
    refine ⟨⟨_, rfl, ?_⟩, ?_⟩
    · exact ((OW.out.set _ _ (.inl (by simp))).set _ _ (.inl (by simp))).more (by simp) (by simp)
    · exact (B2.out.setCell (by simp) _).setCell (by simp) _
  · have EV := Lib.hid (show numsV zs s = [] by unfold numsV; rw [if_neg hz])
    obtain ⟨q, hq⟩ : ∃ q, Hid (q = classF zs s) := ⟨_, Lib.hid rfl⟩
    have hne : (q != 0) = true := by rw [hq.out]; simpa using hz
    have hd0 := k0.cell 0 (u := .int .i64 0) rfl
    have hd1 := k0.cell 1 (u := .slice none 0 0) rfl
    have hf0 := k0.frozen 0
    have hf1 := k0.frozen 1
    clear hz
    rw [← hq.out]
    go_wp2
    refine bodyPost_ret (v := .agg #[.int .i64 q, .slice none 0 0]) (by simp [results, Try.results18, go_sem, hd0, hd1]) rfl ?_
    rw [EV.out, ← hq.out]
    exact ⟨⟨_, rfl, Own.nil _ _ _ _ _⟩, (Below.refl w.heap.size w).alloc (Nat.le_refl _) _⟩
set_option maxRecDepth 100000 in
set_option maxHeartbeats 1000000 in
theorem specSignsOf_val (v : Value) (zs : List Int) (s : Int) (w : World) (B : Nat) (h : Sees w B .i64 v zs) (hB : B ≤ w.heap.size) (l : zs.length < 1000000000) (_ : ∀ n ∈ zs, (Lit.int .i64 n).wf = true) (_ : (Lit.int .i64 s).wf = true) :
    Calls Try.prog 19 #[v, .int .i64 s] w fun e w' => (∃ u, e = .returned (.agg #[.int .i64 (classF zs s), u]) ∧ Own w' w.heap.size w'.heap.size 2 .i64 u (signsV zs s)) ∧ Below w.heap.size w w' := by
  have HS := Lib.hid h
  obtain ⟨A, c, rfl, hr⟩ := h
  have HR := Lib.hid hr
  clear hr
  have b0 := (Below.refl w.heap.size w).alloc (Nat.le_refl _) (.cells #[.int .i64 0, .slice none 0 0] 28)
  have k0 := Blk.new w 28 #[.int .i64 0, .slice none 0 0]
  go_enter Try.func19, Try.ntmps19
  go_wp2_with fail
  refine (specClassesFault_any A zs c s _ B (HR.out.below ((Below.refl B w).alloc hB _) (Nat.le_refl _)) l).mono ?_
  rintro e w1 ⟨rfl, rfl⟩
  by_cases hz : classF zs s = 0
  · have EV := Lib.hid (show signsV zs s = signsW zs s by unfold signsV; rw [if_pos hz])
    have hll := (classF_zero hz).1
    have HZ := Lib.hid hz
    rw [hz]
    clear hz
    go_wp2_with fail
    refine (l6Signs_any _ zs s _ B (HS.out.below ((Below.refl B w).alloc hB _) (Nat.le_refl _)) (by simp; omega) hll).mono ?_
    rintro e w2 ⟨⟨v2, rfl, o2⟩, b2⟩
    obtain ⟨A2, c2, rfl⟩ := o2.form
    have k2 := k0.below b2 k0.lt
    have s2 := k2.lt
    have B2 := Lib.hid (below_on b0 b2 (Nat.le_refl _))
    have hd0 := k2.cell 0 (u := .int .i64 0) rfl
    have hd1 := k2.cell 1 (u := .slice none 0 0) rfl
    have hf0 := k2.frozen 0
    have hf1 := k2.frozen 1
    have OW := Lib.hid o2
    obtain ⟨ys, hys⟩ : ∃ ys, Hid (ys = signsW zs s) := ⟨_, Lib.hid rfl⟩
    rw [← hys.out]
    rw [← hys.out] at OW EV
    clear k0 k2 b0 b2 o2
    go_wp2
    refine bodyPost_ret (v := .agg #[.int .i64 0, .slice A2 ys.length c2]) (by simp [results, Try.results19, go_sem, hd0, hd1]) rfl ?_
    rw [HZ.out, EV.out]
    refine ⟨⟨_, rfl, ?_⟩, ?_⟩
    · exact ((OW.out.set _ _ (.inl (by simp))).set _ _ (.inl (by simp))).more (by simp) (by simp)
    · exact (B2.out.setCell (by simp) _).setCell (by simp) _
  · have EV := Lib.hid (show signsV zs s = [] by unfold signsV; rw [if_neg hz])
    obtain ⟨q, hq⟩ : ∃ q, Hid (q = classF zs s) := ⟨_, Lib.hid rfl⟩
    have hne : (q != 0) = true := by rw [hq.out]; simpa using hz
    have hd0 := k0.cell 0 (u := .int .i64 0) rfl
    have hd1 := k0.cell 1 (u := .slice none 0 0) rfl
    have hf0 := k0.frozen 0
    have hf1 := k0.frozen 1
    clear hz
    rw [← hq.out]
    go_wp2
    refine bodyPost_ret (v := .agg #[.int .i64 q, .slice none 0 0]) (by simp [results, Try.results19, go_sem, hd0, hd1]) rfl ?_
    rw [EV.out, ← hq.out]
    exact ⟨⟨_, rfl, Own.nil _ _ _ _ _⟩, (Below.refl w.heap.size w).alloc (Nat.le_refl _) _⟩
set_option maxRecDepth 100000 in
set_option maxHeartbeats 1000000 in
theorem specWeakOf_val (v : Value) (zs : List Int) (s : Int) (w : World) (B : Nat) (h : Sees w B .i64 v zs) (hB : B ≤ w.heap.size) (l : zs.length < 1000000000) (_ : ∀ n ∈ zs, (Lit.int .i64 n).wf = true) (_ : (Lit.int .i64 s).wf = true) :
    Calls Try.prog 15 #[v, .int .i64 s] w fun e w' => (∃ u, e = .returned (.agg #[.int .i64 (classF zs s), u]) ∧ Own w' w.heap.size w'.heap.size 2 .i64 u (weakV zs s)) ∧ Below w.heap.size w w' := by
  have HS := Lib.hid h
  obtain ⟨A, c, rfl, hr⟩ := h
  have HR := Lib.hid hr
  clear hr
  have b0 := (Below.refl w.heap.size w).alloc (Nat.le_refl _) (.cells #[.int .i64 0, .slice none 0 0] 28)
  have k0 := Blk.new w 28 #[.int .i64 0, .slice none 0 0]
  go_enter Try.func15, Try.ntmps15
  go_wp2_with fail
  refine (specClassesFault_any A zs c s _ B (HR.out.below ((Below.refl B w).alloc hB _) (Nat.le_refl _)) l).mono ?_
  rintro e w1 ⟨rfl, rfl⟩
  by_cases hz : classF zs s = 0
  · have EV := Lib.hid (show weakV zs s = weakW zs s by unfold weakV; rw [if_pos hz])
    have hll := (classF_zero hz).1
    have HZ := Lib.hid hz
    rw [hz]
    clear hz
    go_wp2_with fail
    refine (l6Weak_any _ zs s _ B (HS.out.below ((Below.refl B w).alloc hB _) (Nat.le_refl _)) (by simp; omega) hll).mono ?_
    rintro e w2 ⟨⟨v2, rfl, o2⟩, b2⟩
    obtain ⟨A2, c2, rfl⟩ := o2.form
    have k2 := k0.below b2 k0.lt
    have s2 := k2.lt
    have B2 := Lib.hid (below_on b0 b2 (Nat.le_refl _))
    have hd0 := k2.cell 0 (u := .int .i64 0) rfl
    have hd1 := k2.cell 1 (u := .slice none 0 0) rfl
    have hf0 := k2.frozen 0
    have hf1 := k2.frozen 1
    have OW := Lib.hid o2
    obtain ⟨ys, hys⟩ : ∃ ys, Hid (ys = weakW zs s) := ⟨_, Lib.hid rfl⟩
    rw [← hys.out]
    rw [← hys.out] at OW EV
    clear k0 k2 b0 b2 o2
    go_wp2
    refine bodyPost_ret (v := .agg #[.int .i64 0, .slice A2 ys.length c2]) (by simp [results, Try.results15, go_sem, hd0, hd1]) rfl ?_
    rw [HZ.out, EV.out]
    refine ⟨⟨_, rfl, ?_⟩, ?_⟩
    · exact ((OW.out.set _ _ (.inl (by simp))).set _ _ (.inl (by simp))).more (by simp) (by simp)
    · exact (B2.out.setCell (by simp) _).setCell (by simp) _
  · have EV := Lib.hid (show weakV zs s = [] by unfold weakV; rw [if_neg hz])
    obtain ⟨q, hq⟩ : ∃ q, Hid (q = classF zs s) := ⟨_, Lib.hid rfl⟩
    have hne : (q != 0) = true := by rw [hq.out]; simpa using hz
    have hd0 := k0.cell 0 (u := .int .i64 0) rfl
    have hd1 := k0.cell 1 (u := .slice none 0 0) rfl
    have hf0 := k0.frozen 0
    have hf1 := k0.frozen 1
    clear hz
    rw [← hq.out]
    go_wp2
    refine bodyPost_ret (v := .agg #[.int .i64 q, .slice none 0 0]) (by simp [results, Try.results15, go_sem, hd0, hd1]) rfl ?_
    rw [EV.out, ← hq.out]
    exact ⟨⟨_, rfl, Own.nil _ _ _ _ _⟩, (Below.refl w.heap.size w).alloc (Nat.le_refl _) _⟩
end Go.Proofs.Ytmcmfklkljehiaa
