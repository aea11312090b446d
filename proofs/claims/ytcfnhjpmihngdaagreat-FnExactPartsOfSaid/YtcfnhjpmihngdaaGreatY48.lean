/- Chapter 6: what the model answers. -/
import Derived.Test.YtcfnhjpmihngdaaGreatY47
namespace Go.Proofs.YtcfnhjpmihngdaaGreat
open Go.RowKit

set_option maxRecDepth 100000 in
set_option maxHeartbeats 8000000 in
theorem l6Signs_any (v : Value) (xs : List Int) (s : Int) (w : World) (B : Nat) (h : Sees w B .i64 v xs) (hB : B ≤ w.heap.size) (hl : xs.length ≤ 600) :
    Calls Tryz.prog 48 #[v, .int .i64 s] w fun e w' => (∃ u, e = .returned u ∧ Own w' w.heap.size w'.heap.size 2 .i64 u (signsW xs s)) ∧ Below w.heap.size w w' := by
  obtain ⟨i0, hi, hz0, hz1, hz2⟩ := info_parts info_int64
  obtain ⟨A0, c0, rfl, hr⟩ := h
  have HS := Lib.hid (show Sees w B .i64 (.slice A0 xs.length c0) xs from ⟨A0, c0, rfl, hr⟩)
  clear hr
  go_enter Tryz.func48, Tryz.ntmps48
  go_wp2_with fail
  refine (l1Ints_own _ xs w B HS.out hB (by omega)).mono ?_
  rintro e w1 ⟨⟨u, rfl, o1⟩, b1⟩
  obtain ⟨A, c, rfl⟩ := o1.form
  obtain ⟨n, hn⟩ : ∃ n, Hid (n = xs.length) := ⟨_, Lib.hid rfl⟩
  have R1 := Lib.hid o1.1
  rw [← hn.out] at R1 hl ⊢
  have R1 : Hid (Row6 w1 w.heap.size A n c xs) := R1
  have B1 := Lib.hid b1
  have s1 := b1.size
  clear o1 b1
  go_wp2_with fail
  refine (l6Between_any w1 w.heap.size A n c xs R1.out s1 hl hn.out).mono ?_
  rintro e w2 ⟨⟨rfl, r2⟩, b2⟩
  have R2 := Lib.hid r2
  have B2 := Lib.hid (B1.out.trans b2)
  have s2 := b2.size
  clear r2 b2 R1 B1
  go_wp2_with fail
  refine (l6Terms_any w2 w.heap.size A n c (sepW xs) R2.out (by omega) hl (by unfold sepW; rw [doStep_len]; exact hn.out)).mono ?_
  rintro e w3 ⟨⟨rfl, r3⟩, b3⟩
  have B3 := Lib.hid (B2.out.trans b3)
  obtain ⟨ys, hys⟩ : ∃ ys, Hid (ys = termW (sepW xs)) := ⟨_, Lib.hid rfl⟩
  rw [← hys.out] at r3
  have R3 := Lib.hid (show Row6 w3 w.heap.size A n c (stepN [3, 4, 5, 7] (fEnd s) ys 0) from r3)
  have YL := Lib.hid (show n = ys.length by rw [hys.out]; unfold termW sepW; rw [doStep_len, doStep_len]; exact hn.out)
  have FIN := Lib.hid (show signsW xs s = stepN [3, 4, 5, 7] (fEnd s) ys n by unfold signsW; rw [← hys.out, end_both]; unfold doStep; rw [← YL.out])
  clear r3 b3 R2 B2
  go_wp2
  go_loopw [6, 7] (fun l i wr => ∃ k : Nat, k ≤ n ∧ i = .int .i64 k ∧ l = .int .i64 (lastA [0, 1] s (stepN [3, 4, 5, 7] (fEnd s) ys k) k) ∧ Hid (Row6 wr w.heap.size A n c (stepN [3, 4, 5, 7] (fEnd s) ys k)) ∧ Hid (Below w.heap.size w wr)) (fun _ i _ => n - (intOf i).toNat)
  case atStart => exact ⟨0, by omega, rfl, rfl, R3, B3⟩
  case round =>
    clear R3 B3
    obtain ⟨k, hk, rfl, rfl, hw, hbr⟩ := hrel
    by_cases hlt : k < n
    · obtain ⟨ga, ca, eA, hga⟩ := own_addr hw.out (by omega)
      injection eA with eA e2 e3
      subst eA; subst e3
      clear e2
      have hc0 := own_cell hw.out k hlt
      have STR := Lib.hid (fun h => end_strong ys s (k := k) h)
      have OTH := Lib.hid (fun h => end_other ys s (k := k) h)
      have EN := Lib.hid (fun h => end_en ys s (k := k) (by rw [← YL.out]; exact hlt) h)
      have RST := Lib.hid (fun h => end_rest ys s (k := k) (by rw [← YL.out]; exact hlt) h)
      have hbsz := hbr.out.size
      obtain ⟨S, hS⟩ : ∃ S, Hid (S = stepN [3, 4, 5, 7] (fEnd s) ys k) := ⟨_, Lib.hid rfl⟩
      rw [← hS.out] at hc0 STR OTH EN RST hw ⊢
      obtain ⟨q, hq⟩ : ∃ q, Hid (q = nth S k) := ⟨_, Lib.hid rfl⟩
      obtain ⟨a, ha⟩ : ∃ a, Hid (a = lastA [0, 1] s S k) := ⟨_, Lib.hid rfl⟩
      rw [← hq.out] at hc0 STR OTH EN RST
      rw [← ha.out] at OTH EN RST ⊢
      obtain ⟨S', hS'⟩ : ∃ S', Hid (S' = stepN [3, 4, 5, 7] (fEnd s) ys (k + 1)) := ⟨_, Lib.hid rfl⟩
      rw [← hS'.out] at STR OTH EN RST
      by_cases h3 : q = 3
      · have E := Lib.hid (EN.out h3)
        subst h3
        clear STR OTH EN RST
        by_cases h2 : a = 0
        · have R0 := Lib.hid (show S' = S.set k 0 by rw [E.out.1, if_pos h2])
          have L0 := Lib.hid (E.out.2)
          have b2 : (a == 0) = true := by simp [h2]
          clear h2
          go_wp2_with (refine wpList_put rfl _ _ _ rfl i0 hi hz1 k (.int .i64 0) rfl rfl rfl hw.out hlt ?_; intro w4 o4 g4)
          have R3 := Lib.hid (show Row6 w4 w.heap.size (some ⟨ga, 0, none⟩) n c (stepN [3, 4, 5, 7] (fEnd s) ys (k + 1)) by rw [← hS'.out, R0.out]; exact own_set o4)
          have B3 := Lib.hid (below_put hbr.out hw.out g4 hbsz)
          clear o4 g4
          go_roundw
          case rel => exact ⟨k + 1, by omega, by go_num, by rw [← hS'.out, L0.out], R3, B3⟩
          case measure => first | omega | (simp [intOf]; omega)
        · have R0 := Lib.hid (show S' = S by rw [E.out.1, if_neg h2])
          have L0 := Lib.hid (E.out.2)
          have b2 : (a == 0) = false := by simpa using h2
          have R3 := Lib.hid (show Row6 wr w.heap.size (some ⟨ga, 0, none⟩) n c (stepN [3, 4, 5, 7] (fEnd s) ys (k + 1)) by rw [← hS'.out, R0.out]; exact hw.out)
          clear h2
          go_wp2
          go_roundw
          case rel => exact ⟨k + 1, by omega, by go_num, by rw [← hS'.out, L0.out], R3, hbr⟩
          case measure => first | omega | (simp [intOf]; omega)
      · by_cases hst : q = 0 ∨ q = 1
        · have E := Lib.hid (STR.out hst)
          have R3 := Lib.hid (show Row6 wr w.heap.size (some ⟨ga, 0, none⟩) n c (stepN [3, 4, 5, 7] (fEnd s) ys (k + 1)) by rw [← hS'.out, E.out.1]; exact hw.out)
          have L3 := Lib.hid (show lastA [0, 1] s (stepN [3, 4, 5, 7] (fEnd s) ys (k + 1)) (k + 1) = q by rw [← hS'.out, E.out.2])
          clear STR OTH EN RST E h3
          rcases hst with rfl | rfl
          all_goals
            go_wp2
            go_roundw
            case rel => exact ⟨k + 1, by omega, by go_num, by rw [L3.out], R3, hbr⟩
            case measure => first | omega | (simp [intOf]; omega)
        · by_cases hr : q = 4 ∨ q = 5 ∨ q = 7
          · have E := Lib.hid (RST.out hr)
            clear STR OTH EN RST h3 hst
            rcases hr with rfl | rfl | rfl
            all_goals
              go_wp2_with (refine wpList_put rfl _ _ _ rfl i0 hi hz1 k (.int .i64 13) rfl rfl rfl hw.out hlt ?_; intro w4 o4 g4)
              have R3 := Lib.hid (show Row6 w4 w.heap.size (some ⟨ga, 0, none⟩) n c (stepN [3, 4, 5, 7] (fEnd s) ys (k + 1)) by rw [← hS'.out, E.out.1]; exact own_set o4)
              have B3 := Lib.hid (below_put hbr.out hw.out g4 hbsz)
              clear o4 g4
              go_roundw
              case rel => exact ⟨k + 1, by omega, by go_num, by rw [← hS'.out, E.out.2], R3, B3⟩
              case measure => first | omega | (simp [intOf]; omega)
          · have E := Lib.hid (OTH.out (by simp; omega))
            have R3 := Lib.hid (show Row6 wr w.heap.size (some ⟨ga, 0, none⟩) n c (stepN [3, 4, 5, 7] (fEnd s) ys (k + 1)) by rw [← hS'.out, E.out.1]; exact hw.out)
            have L3 := Lib.hid (show lastA [0, 1] s (stepN [3, 4, 5, 7] (fEnd s) ys (k + 1)) (k + 1) = a by rw [← hS'.out, E.out.2])
            have n0 : (q == 0) = false := by simp; omega
            have n1 : (q == 1) = false := by simp; omega
            have n3 : (q == 3) = false := by simp; omega
            have n4 : (q == 4) = false := by simp; omega
            have n5 : (q == 5) = false := by simp; omega
            have n7 : (q == 7) = false := by simp; omega
            clear STR OTH EN RST E h3 hst hr
            go_wp2
            go_roundw
            case rel => exact ⟨k + 1, by omega, by go_num, by rw [L3.out], R3, hbr⟩
            case measure => first | omega | (simp [intOf]; omega)
    · obtain rfl : k = n := by omega
      have HO := Lib.hid (show Own wr w.heap.size wr.heap.size 2 .i64 (.slice A k c) (signsW xs s) from Own.mk_ (by rw [FIN.out]; exact hw.out) (by rw [signsW_len]; exact hn.out))
      go_wp2
      go_ret
      exact ⟨⟨_, rfl, HO.out⟩, hbr.out⟩
set_option maxRecDepth 100000 in
set_option maxHeartbeats 1000000 in
theorem l6Weak_any (v : Value) (xs : List Int) (s : Int) (w : World) (B : Nat) (h : Sees w B .i64 v xs) (hB : B ≤ w.heap.size) (hl : xs.length ≤ 600) :
    Calls Tryz.prog 36 #[v, .int .i64 s] w fun e w' => (∃ u, e = .returned u ∧ Own w' w.heap.size w'.heap.size 2 .i64 u (weakW xs s)) ∧ Below w.heap.size w w' := by
  have HS := Lib.hid h
  obtain ⟨A0, c0, rfl, _⟩ := h
  have E := Lib.hid (show weakW xs s = signsW (numsW (marksW xs s) s) s from rfl)
  go_enter Tryz.func36, Tryz.ntmps36
  go_wp2_with fail
  refine (l6Marks_any _ xs s w B HS.out hB hl).mono ?_
  rintro e w1 ⟨⟨u1, rfl, o1⟩, b1⟩
  obtain ⟨A1, c1, rfl⟩ := o1.form
  have O1 := Lib.hid o1
  have B1 := Lib.hid b1
  have s1 := b1.size
  clear o1 b1
  go_wp2_with fail
  refine (l6Numbers_any _ (marksW xs s) s w1 _ O1.out.sees (Nat.le_refl _) (by rw [marksW_len]; exact hl)).mono ?_
  rintro e w2 ⟨⟨u2, rfl, o2⟩, b2⟩
  obtain ⟨A2, c2, rfl⟩ := o2.form
  have O2 := Lib.hid o2
  have B2 := Lib.hid (below_on B1.out b2 (by omega))
  have s2 := b2.size
  clear o2 b2
  go_wp2_with fail
  refine (l6Signs_any _ (numsW (marksW xs s) s) s w2 _ O2.out.sees (Nat.le_refl _) (by rw [numsW_len, marksW_len]; exact hl)).mono ?_
  rintro e w3 ⟨⟨u3, rfl, o3⟩, b3⟩
  obtain ⟨A3, c3, rfl⟩ := o3.form
  have O3 := Lib.hid (o3.more (by omega : w.heap.size ≤ w2.heap.size) (Nat.le_refl _))
  have B3 := Lib.hid (below_on B2.out b3 (by omega))
  rw [← E.out] at O3
  clear o3 b3
  go_wp2
  go_ret
  exact ⟨⟨_, rfl, O3.out⟩, B3.out⟩
end Go.Proofs.YtcfnhjpmihngdaaGreat
