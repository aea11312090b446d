/- Chapter 6: the model's separators, terminators, signs. -/
import Derived.Test.YtcfnhjpmihngdaaGreatY11
namespace Go.Proofs.YtcfnhjpmihngdaaGreat
open Go.RowKit

set_option maxRecDepth 100000 in
set_option maxHeartbeats 4000000 in
theorem l6Between_any (w : World) (lo : Nat) (A : Option Addr) (n c : Nat) (xs : List Int) (h : Row6 w lo A n c xs) (hlo : lo ≤ w.heap.size) (hl : n ≤ 600) (hn : n = xs.length) :
    Calls Tryz.prog 63 #[.slice A n c] w fun e w' => (e = .returned (.tuple #[]) ∧ Row6 w' lo A n c (sepW xs)) ∧ Below lo w w' := by
  obtain ⟨i0, hi, hz0, hz1, hz2⟩ := info_parts info_int64
  have HN := Lib.hid hn
  have R1 := Lib.hid (show Row6 w lo A n c (stepN [4, 7] fSep xs 1) by
    have e := sep_edge xs (k := 0) (.inl rfl)
    show Row6 w lo A n c (stepN [4, 7] fSep xs (0 + 1))
    rw [e]; exact h)
  have B1 := Lib.hid (Below.refl lo w)
  clear h hn
  go_enter Tryz.func63, Tryz.ntmps63
  go_wp2
  go_loopw [2] (fun i wr => ∃ k : Nat, 1 ≤ k ∧ (k + 1 ≤ n ∨ k = 1) ∧ i = .int .i64 k ∧ Hid (Row6 wr lo A n c (stepN [4, 7] fSep xs k)) ∧ Hid (Below lo w wr)) (fun i _ => n - (intOf i).toNat)
  case atStart => exact ⟨1, by omega, by omega, rfl, R1, B1⟩
  case round =>
    clear R1 B1
    obtain ⟨k, hk1, hk2, rfl, hw, hbr⟩ := hrel
    have hsz : lo ≤ wr.heap.size := by have := hbr.out.size; omega
    by_cases hlt : k + 1 < n
    · obtain ⟨j, rfl⟩ : ∃ j, k = j + 1 := ⟨k - 1, by omega⟩
      obtain ⟨ga, ca, eA, hga⟩ := own_addr hw.out (by omega)
      injection eA with eA e2 e3
      subst eA; subst e3
      clear e2 hk1 hk2
      have hca := own_cell hw.out j (by omega)
      have hcz := own_cell hw.out (j + 1) (by omega)
      have hcb := own_cell hw.out (j + 1 + 1) (by omega)
      have ON := Lib.hid (fun h => sep_on xs (k := j + 1) (by omega) (by rw [← HN.out]; exact hlt) h)
      have OFF := Lib.hid (fun h => sep_off xs (k := j + 1) h)
      obtain ⟨S, hS⟩ : ∃ S, Hid (S = stepN [4, 7] fSep xs (j + 1)) := ⟨_, Lib.hid rfl⟩
      rw [← hS.out] at hca hcz hcb ON OFF hw
      obtain ⟨S', hS'⟩ : ∃ S', Hid (S' = stepN [4, 7] fSep xs (j + 1 + 1)) := ⟨_, Lib.hid rfl⟩
      rw [← hS'.out] at ON OFF
      have ON : Hid (sepOn (nth S j) (nth S (j + 1)) (nth S (j + 1 + 1)) → S' = S.set (j + 1) (nth S j)) := ON
      have OFF : Hid (¬ sepOn (nth S j) (nth S (j + 1)) (nth S (j + 1 + 1)) → S' = S) := OFF
      obtain ⟨a, ha⟩ : ∃ a, Hid (a = nth S j) := ⟨_, Lib.hid rfl⟩
      obtain ⟨z, hz⟩ : ∃ z, Hid (z = nth S (j + 1)) := ⟨_, Lib.hid rfl⟩
      obtain ⟨b, hb⟩ : ∃ b, Hid (b = nth S (j + 1 + 1)) := ⟨_, Lib.hid rfl⟩
      rw [← ha.out] at hca
      rw [← hz.out] at hcz
      rw [← hb.out] at hcb
      rw [← ha.out, ← hz.out, ← hb.out] at ON OFF
      have FOFF := Lib.hid (fun h => show Row6 wr lo (some ⟨ga, 0, none⟩) n c (stepN [4, 7] fSep xs (j + 1 + 1)) by rw [← hS'.out, OFF.out h]; exact hw.out)
      by_cases hab : a = b
      · subst hab
        have nab : (a != a) = false := by simp
        by_cases ha3 : a = 3
        · subst ha3
          by_cases hz7 : z = 7 ∨ z = 4
          · have E := Lib.hid (ON.out ⟨rfl, .inl rfl, by omega⟩)
            clear ON OFF FOFF
            rcases hz7 with rfl | rfl
            all_goals
              go_wp2_with (refine wpList_put rfl _ _ _ rfl i0 hi hz1 (j + 1) (.int .i64 3) rfl rfl rfl hw.out (by omega) ?_; intro w3 o3 g3)
              have R3 := Lib.hid (show Row6 w3 lo (some ⟨ga, 0, none⟩) n c (stepN [4, 7] fSep xs (j + 1 + 1)) by rw [← hS'.out, E.out]; exact own_set o3)
              have B3 := Lib.hid (below_put hbr.out hw.out g3 hsz)
              clear o3 g3
              go_roundw
              case rel => exact ⟨j + 1 + 1, by omega, by omega, by go_num, R3, B3⟩
              case measure => first | omega | (simp [intOf]; omega)
          · have R3 := Lib.hid (FOFF.out (by unfold sepOn; omega))
            have n7 : (z == 7) = false := by simp; omega
            have n4 : (z == 4) = false := by simp; omega
            clear ON OFF FOFF hz7
            go_wp2
            go_roundw
            case rel => exact ⟨j + 1 + 1, by omega, by omega, by go_num, R3, hbr⟩
            case measure => first | omega | (simp [intOf]; omega)
        · by_cases ha6 : a = 6
          · subst ha6
            clear ha3
            by_cases hz7 : z = 7
            · have E := Lib.hid (ON.out ⟨rfl, .inr rfl, .inl hz7⟩)
              subst hz7
              clear ON OFF FOFF
              go_wp2_with (refine wpList_put rfl _ _ _ rfl i0 hi hz1 (j + 1) (.int .i64 6) rfl rfl rfl hw.out (by omega) ?_; intro w3 o3 g3)
              have R3 := Lib.hid (show Row6 w3 lo (some ⟨ga, 0, none⟩) n c (stepN [4, 7] fSep xs (j + 1 + 1)) by rw [← hS'.out, E.out]; exact own_set o3)
              have B3 := Lib.hid (below_put hbr.out hw.out g3 hsz)
              clear o3 g3
              go_roundw
              case rel => exact ⟨j + 1 + 1, by omega, by omega, by go_num, R3, B3⟩
              case measure => first | omega | (simp [intOf]; omega)
            · have R3 := Lib.hid (FOFF.out (by unfold sepOn; omega))
              have n7 : (z == 7) = false := by simpa using hz7
              clear ON OFF FOFF hz7
              by_cases hz4 : z = 4
              · subst hz4
                go_wp2
                go_roundw
                case rel => exact ⟨j + 1 + 1, by omega, by omega, by go_num, R3, hbr⟩
                case measure => first | omega | (simp [intOf]; omega)
              · have n4 : (z == 4) = false := by simpa using hz4
                clear hz4
                go_wp2
                go_roundw
                case rel => exact ⟨j + 1 + 1, by omega, by omega, by go_num, R3, hbr⟩
                case measure => first | omega | (simp [intOf]; omega)
          · have R3 := Lib.hid (FOFF.out (by unfold sepOn; omega))
            have n3 : (a != 3) = true := by simpa using ha3
            have n6 : (a != 6) = true := by simpa using ha6
            clear ON OFF FOFF ha3 ha6
            go_wp2
            go_roundw
            case rel => exact ⟨j + 1 + 1, by omega, by omega, by go_num, R3, hbr⟩
            case measure => first | omega | (simp [intOf]; omega)
      · have R3 := Lib.hid (FOFF.out (by unfold sepOn; omega))
        have nab : (a != b) = true := by simpa using hab
        clear ON OFF FOFF hab
        go_wp2
        go_roundw
        case rel => exact ⟨j + 1 + 1, by omega, by omega, by go_num, R3, hbr⟩
        case measure => first | omega | (simp [intOf]; omega)
    · have R3 := Lib.hid (show Row6 wr lo A n c (sepW xs) by
        unfold sepW doStep
        rw [← HN.out]
        by_cases h0 : n = 0
        · have e1 : k = 0 + 1 := by omega
          have := hw.out
          rw [e1, sep_edge xs (k := 0) (.inl rfl)] at this
          rw [h0] at this ⊢
          exact this
        · by_cases h1 : n = k
          · rw [h1]; rw [h1] at hw; exact hw.out
          · have e1 : n = k + 1 := by omega
            have e2 := sep_edge xs (k := k) (.inr (by rw [← HN.out]; omega))
            rw [show stepN [4, 7] fSep xs n = stepN [4, 7] fSep xs k by rw [e1, e2]]
            exact hw.out)
      clear hw
      go_wp2
      go_end0
      exact ⟨⟨rfl, R3.out⟩, hbr.out⟩
set_option maxRecDepth 100000 in
set_option maxHeartbeats 8000000 in
theorem l6Terms_any (w : World) (lo : Nat) (A : Option Addr) (n c : Nat) (xs : List Int) (h : Row6 w lo A n c xs) (hlo : lo ≤ w.heap.size) (hl : n ≤ 600) (hn : n = xs.length) :
    Calls Tryz.prog 64 #[.slice A n c] w fun e w' => (e = .returned (.tuple #[]) ∧ Row6 w' lo A n c (termW xs)) ∧ Below lo w w' := by
  obtain ⟨i0, hi, hz0, hz1, hz2⟩ := info_parts info_int64
  have HN := Lib.hid hn
  have R1 := Lib.hid (show Row6 w lo A n c (stepN [5] fTerm xs 0) from h)
  have B1 := Lib.hid (Below.refl lo w)
  clear h hn
  go_enter Tryz.func64, Tryz.ntmps64
  go_wp2
  go_loopw [2] (fun i wr => ∃ k : Nat, k ≤ n ∧ i = .int .i64 k ∧ Hid (Row6 wr lo A n c (stepN [5] fTerm xs k)) ∧ Hid (Below lo w wr)) (fun i _ => n - (intOf i).toNat)
  case atStart => exact ⟨0, by omega, rfl, R1, B1⟩
  case round =>
    clear R1 B1
    obtain ⟨k, hk, rfl, hw, hbr⟩ := hrel
    generalize wr = wo at *
    clear wr
    by_cases hlt : k < n
    · obtain ⟨ga, ca, eA, hga⟩ := own_addr hw.out (by omega)
      injection eA with eA e2 e3
      subst eA; subst e3
      clear e2
      have hck := own_cell hw.out k hlt
      have HW := Lib.hid hw.out
      have MISS := Lib.hid (fun h => term_miss xs (k := k) h)
      have LS := Lib.hid ((stepN_len [5] fTerm xs k).trans HN.out.symm)
      obtain ⟨S, hS⟩ : ∃ S, Hid (S = stepN [5] fTerm xs k) := ⟨_, Lib.hid rfl⟩
      rw [← hS.out] at hck MISS LS
      have HX := Lib.hid (show Row6 wo lo (some ⟨ga, 0, none⟩) n c S by rw [hS.out]; exact HW.out)
      obtain ⟨q, hq⟩ : ∃ q, Hid (q = nth S k) := ⟨_, Lib.hid rfl⟩
      rw [← hq.out] at hck MISS
      by_cases h5 : q = 5
      · have E5 := Lib.hid h5
        have q5 : (q != 5) = false := by simp [h5]
        have q5' : (q == 5) = true := by simp [h5]
        have EL := endR_le S k
        have EI := Lib.hid (endR_in S k)
        have EH := endR_len S k (by rw [LS.out]; omega)
        rw [LS.out] at EH
        have XE := Lib.hid (show ¬ (endR S k < n ∧ nth S (endR S k) = 5) by
          have := endR_out S k
          rw [hasAt_nat, LS.out] at this
          exact of_decide_eq_false this)
        have EK : k < endR S k := by
          refine Nat.lt_of_le_of_ne EL fun e => XE.out ⟨by omega, ?_⟩
          rw [← e, ← hq.out]; exact h5
        obtain ⟨e, he⟩ : ∃ e, Hid (e = endR S k) := ⟨_, Lib.hid rfl⟩
        rw [← he.out] at EL EI EH XE EK
        clear h5 MISS hw EL
        go_wp2
        go_loop [3] (fun i => ∃ j : Nat, k ≤ j ∧ j ≤ e ∧ i = .int .i64 j) (fun i => e - (intOf i).toNat)
        case atStart => exact ⟨k, by omega, by omega, rfl⟩
        case round =>
          obtain ⟨j, hj1, hj2, rfl⟩ := hrel
          by_cases hje : j < e
          · have jn : j < n := by omega
            have hcj := own_cell HX.out j jn
            have v5 := EI.out j hj1 hje
            rw [hasAt_nat] at v5
            rw [(of_decide_eq_true v5).2] at hcj
            clear v5
            go_wp2
            go_round
            case rel => exact ⟨j + 1, by omega, by omega, by go_num⟩
            case measure => first | omega | (simp [intOf]; omega)
          · obtain rfl : e = j := by omega
            clear hj1 hj2 hje
            by_cases hk0 : k = 0
            · subst hk0
              by_cases hen : e < n
              · have hce := own_cell HX.out e hen
                obtain ⟨x, hx⟩ : ∃ x, Hid (x = nth S e) := ⟨_, Lib.hid rfl⟩
                rw [← hx.out] at hce
                have x5 : (x == 5) = false := by simpa using (show x ≠ 5 from fun h => XE.out ⟨hen, by rw [← hx.out]; exact h⟩)
                by_cases h3 : x = 3
                · have x3 : (x == 3) = true := by simp [h3]
                  have TY := Lib.hid (term_yes xs (i := 0) (by rw [← hS.out]; exact .inr ⟨by rw [← he.out, LS.out]; exact hen, by rw [← he.out, ← hx.out]; exact h3⟩))
                  rw [← hS.out, ← he.out] at TY
                  clear h3
                  go_wp2
                  go_loopw [4] (fun i wr => ∃ j : Nat, 0 ≤ j ∧ j ≤ e ∧ i = .int .i64 j ∧ Hid (Row6 wr lo (some ⟨ga, 0, none⟩) n c (stepN [5] fTerm xs j)) ∧ Hid (Below lo w wr)) (fun i _ => e - (intOf i).toNat)
                  case atStart => exact ⟨0, Nat.le_refl _, by omega, rfl, HW, hbr⟩
                  case round =>
                    obtain ⟨j, hj1, hj2, rfl, hw, hbr⟩ := hrel
                    have hsz : lo ≤ wr.heap.size := by have := hbr.out.size; omega
                    by_cases hlt : j < e
                    · have ST := Lib.hid (TY.out j hj1 hlt).2
                      have jn : j < n := by omega
                      go_wp2_with (refine wpList_put rfl _ _ _ rfl i0 hi hz1 j (.int .i64 3) rfl rfl rfl hw.out jn ?_; intro w3 o3 g3)
                      have R3 := Lib.hid (show Row6 w3 lo (some ⟨ga, 0, none⟩) n c (stepN [5] fTerm xs (j + 1)) by rw [ST.out]; exact own_set o3)
                      have B3 := Lib.hid (below_put hbr.out hw.out g3 hsz)
                      clear o3 g3
                      go_roundw
                      case rel => exact ⟨j + 1, by omega, by omega, by go_num, R3, B3⟩
                      case measure => first | omega | (simp [intOf]; omega)
                    · obtain rfl : j = e := by omega
                      go_wp2
                      go_roundw
                      case rel => exact ⟨j, by omega, by first | go_num | (congr 1; omega), hw, hbr⟩
                      case measure => first | omega | (simp [intOf]; omega)
                · have x3 : (x == 3) = false := by simpa using h3
                  have TN := Lib.hid (term_no xs (i := 0) (by rw [← hS.out]; rintro (⟨h0, _⟩ | ⟨_, h⟩); (exfalso; omega); rw [← he.out, ← hx.out] at h; exact h3 h))
                  rw [← hS.out, ← he.out] at TN
                  clear h3
                  have R3 := Lib.hid (show Row6 wo lo (some ⟨ga, 0, none⟩) n c (stepN [5] fTerm xs e) by rw [TN.out e (by omega) (Nat.le_refl _)]; exact HX.out)
                  go_wp2
                  go_roundw
                  case rel => exact ⟨e, by omega, by first | go_num | (congr 1; omega), R3, hbr⟩
                  case measure => first | omega | (simp [intOf]; omega)
              · have TN := Lib.hid (term_no xs (i := 0) (by rw [← hS.out]; rintro (⟨h0, _⟩ | ⟨h, _⟩); (exfalso; omega); rw [← he.out, LS.out] at h; exact hen h))
                rw [← hS.out, ← he.out] at TN
                have R3 := Lib.hid (show Row6 wo lo (some ⟨ga, 0, none⟩) n c (stepN [5] fTerm xs e) by rw [TN.out e (by omega) (Nat.le_refl _)]; exact HX.out)
                go_wp2
                go_roundw
                case rel => exact ⟨e, by omega, by first | go_num | (congr 1; omega), R3, hbr⟩
                case measure => first | omega | (simp [intOf]; omega)
            · obtain ⟨p, rfl⟩ : ∃ p, k = p + 1 := ⟨k - 1, by omega⟩
              have hcy := own_cell HX.out p (by omega)
              obtain ⟨y, hy⟩ : ∃ y, Hid (y = nth S p) := ⟨_, Lib.hid rfl⟩
              rw [← hy.out] at hcy
              by_cases hy3 : y = 3
              · have y3 : (y == 3) = true := by simp [hy3]
                have x5 : True := trivial
                have TY := Lib.hid (term_yes xs (i := (p + 1)) (by rw [← hS.out]; exact .inl ⟨by omega, by show nth S p = 3; rw [← hy.out]; exact hy3⟩))
                rw [← hS.out, ← he.out] at TY
                by_cases hen : e < n
                · have hce := own_cell HX.out e hen
                  obtain ⟨x, hx⟩ : ∃ x, Hid (x = nth S e) := ⟨_, Lib.hid rfl⟩
                  rw [← hx.out] at hce
                  have x5 : (x == 5) = false := by simpa using (show x ≠ 5 from fun h => XE.out ⟨hen, by rw [← hx.out]; exact h⟩)
                  go_wp2
                  go_loopw [4] (fun i wr => ∃ j : Nat, (p + 1) ≤ j ∧ j ≤ e ∧ i = .int .i64 j ∧ Hid (Row6 wr lo (some ⟨ga, 0, none⟩) n c (stepN [5] fTerm xs j)) ∧ Hid (Below lo w wr)) (fun i _ => e - (intOf i).toNat)
                  case atStart => exact ⟨(p + 1), Nat.le_refl _, by omega, rfl, HW, hbr⟩
                  case round =>
                    obtain ⟨j, hj1, hj2, rfl, hw, hbr⟩ := hrel
                    have hsz : lo ≤ wr.heap.size := by have := hbr.out.size; omega
                    by_cases hlt : j < e
                    · have ST := Lib.hid (TY.out j hj1 hlt).2
                      have jn : j < n := by omega
                      go_wp2_with (refine wpList_put rfl _ _ _ rfl i0 hi hz1 j (.int .i64 3) rfl rfl rfl hw.out jn ?_; intro w3 o3 g3)
                      have R3 := Lib.hid (show Row6 w3 lo (some ⟨ga, 0, none⟩) n c (stepN [5] fTerm xs (j + 1)) by rw [ST.out]; exact own_set o3)
                      have B3 := Lib.hid (below_put hbr.out hw.out g3 hsz)
                      clear o3 g3
                      go_roundw
                      case rel => exact ⟨j + 1, by omega, by omega, by go_num, R3, B3⟩
                      case measure => first | omega | (simp [intOf]; omega)
                    · obtain rfl : j = e := by omega
                      go_wp2
                      go_roundw
                      case rel => exact ⟨j, by omega, by first | go_num | (congr 1; omega), hw, hbr⟩
                      case measure => first | omega | (simp [intOf]; omega)
                · skip
                  go_wp2
                  go_loopw [4] (fun i wr => ∃ j : Nat, (p + 1) ≤ j ∧ j ≤ e ∧ i = .int .i64 j ∧ Hid (Row6 wr lo (some ⟨ga, 0, none⟩) n c (stepN [5] fTerm xs j)) ∧ Hid (Below lo w wr)) (fun i _ => e - (intOf i).toNat)
                  case atStart => exact ⟨(p + 1), Nat.le_refl _, by omega, rfl, HW, hbr⟩
                  case round =>
                    obtain ⟨j, hj1, hj2, rfl, hw, hbr⟩ := hrel
                    have hsz : lo ≤ wr.heap.size := by have := hbr.out.size; omega
                    by_cases hlt : j < e
                    · have ST := Lib.hid (TY.out j hj1 hlt).2
                      have jn : j < n := by omega
                      go_wp2_with (refine wpList_put rfl _ _ _ rfl i0 hi hz1 j (.int .i64 3) rfl rfl rfl hw.out jn ?_; intro w3 o3 g3)
                      have R3 := Lib.hid (show Row6 w3 lo (some ⟨ga, 0, none⟩) n c (stepN [5] fTerm xs (j + 1)) by rw [ST.out]; exact own_set o3)
                      have B3 := Lib.hid (below_put hbr.out hw.out g3 hsz)
                      clear o3 g3
                      go_roundw
                      case rel => exact ⟨j + 1, by omega, by omega, by go_num, R3, B3⟩
                      case measure => first | omega | (simp [intOf]; omega)
                    · obtain rfl : j = e := by omega
                      go_wp2
                      go_roundw
                      case rel => exact ⟨j, by omega, by first | go_num | (congr 1; omega), hw, hbr⟩
                      case measure => first | omega | (simp [intOf]; omega)
              · have y3 : (y == 3) = false := by simpa using hy3
                by_cases hen : e < n
                · have hce := own_cell HX.out e hen
                  obtain ⟨x, hx⟩ : ∃ x, Hid (x = nth S e) := ⟨_, Lib.hid rfl⟩
                  rw [← hx.out] at hce
                  have x5 : (x == 5) = false := by simpa using (show x ≠ 5 from fun h => XE.out ⟨hen, by rw [← hx.out]; exact h⟩)
                  by_cases h3 : x = 3
                  · have x3 : (x == 3) = true := by simp [h3]
                    have TY := Lib.hid (term_yes xs (i := (p + 1)) (by rw [← hS.out]; exact .inr ⟨by rw [← he.out, LS.out]; exact hen, by rw [← he.out, ← hx.out]; exact h3⟩))
                    rw [← hS.out, ← he.out] at TY
                    clear h3
                    go_wp2
                    go_loopw [4] (fun i wr => ∃ j : Nat, (p + 1) ≤ j ∧ j ≤ e ∧ i = .int .i64 j ∧ Hid (Row6 wr lo (some ⟨ga, 0, none⟩) n c (stepN [5] fTerm xs j)) ∧ Hid (Below lo w wr)) (fun i _ => e - (intOf i).toNat)
                    case atStart => exact ⟨(p + 1), Nat.le_refl _, by omega, rfl, HW, hbr⟩
                    case round =>
                      obtain ⟨j, hj1, hj2, rfl, hw, hbr⟩ := hrel
                      have hsz : lo ≤ wr.heap.size := by have := hbr.out.size; omega
                      by_cases hlt : j < e
                      · have ST := Lib.hid (TY.out j hj1 hlt).2
                        have jn : j < n := by omega
                        go_wp2_with (refine wpList_put rfl _ _ _ rfl i0 hi hz1 j (.int .i64 3) rfl rfl rfl hw.out jn ?_; intro w3 o3 g3)
                        have R3 := Lib.hid (show Row6 w3 lo (some ⟨ga, 0, none⟩) n c (stepN [5] fTerm xs (j + 1)) by rw [ST.out]; exact own_set o3)
                        have B3 := Lib.hid (below_put hbr.out hw.out g3 hsz)
                        clear o3 g3
                        go_roundw
                        case rel => exact ⟨j + 1, by omega, by omega, by go_num, R3, B3⟩
                        case measure => first | omega | (simp [intOf]; omega)
                      · obtain rfl : j = e := by omega
                        go_wp2
                        go_roundw
                        case rel => exact ⟨j, by omega, by first | go_num | (congr 1; omega), hw, hbr⟩
                        case measure => first | omega | (simp [intOf]; omega)
                  · have x3 : (x == 3) = false := by simpa using h3
                    have TN := Lib.hid (term_no xs (i := (p + 1)) (by rw [← hS.out]; rintro (⟨_, h⟩ | ⟨_, h⟩); (exact hy3 (hy.out.trans (show nth S p = 3 from h))); rw [← he.out, ← hx.out] at h; exact h3 h))
                    rw [← hS.out, ← he.out] at TN
                    clear h3
                    have R3 := Lib.hid (show Row6 wo lo (some ⟨ga, 0, none⟩) n c (stepN [5] fTerm xs e) by rw [TN.out e (by omega) (Nat.le_refl _)]; exact HX.out)
                    go_wp2
                    go_roundw
                    case rel => exact ⟨e, by omega, by first | go_num | (congr 1; omega), R3, hbr⟩
                    case measure => first | omega | (simp [intOf]; omega)
                · have TN := Lib.hid (term_no xs (i := (p + 1)) (by rw [← hS.out]; rintro (⟨_, h⟩ | ⟨h, _⟩); (exact hy3 (hy.out.trans (show nth S p = 3 from h))); rw [← he.out, LS.out] at h; exact hen h))
                  rw [← hS.out, ← he.out] at TN
                  have R3 := Lib.hid (show Row6 wo lo (some ⟨ga, 0, none⟩) n c (stepN [5] fTerm xs e) by rw [TN.out e (by omega) (Nat.le_refl _)]; exact HX.out)
                  go_wp2
                  go_roundw
                  case rel => exact ⟨e, by omega, by first | go_num | (congr 1; omega), R3, hbr⟩
                  case measure => first | omega | (simp [intOf]; omega)
      · have E := Lib.hid (MISS.out h5)
        have q5 : (q != 5) = true := by simpa using h5
        have R3 := Lib.hid (show Row6 wo lo (some ⟨ga, 0, none⟩) n c (stepN [5] fTerm xs (k + 1)) by rw [E.out]; exact HX.out)
        clear h5 MISS hw
        go_wp2
        go_roundw
        case rel => exact ⟨k + 1, by omega, by go_num, R3, hbr⟩
        case measure => first | omega | (simp [intOf]; omega)
    · obtain rfl : k = n := by omega
      have R3 := Lib.hid (show Row6 wo lo A k c (termW xs) by unfold termW doStep; rw [← HN.out]; exact hw.out)
      clear hw
      go_wp2
      go_end0
      exact ⟨⟨rfl, R3.out⟩, hbr.out⟩
end Go.Proofs.YtcfnhjpmihngdaaGreat
