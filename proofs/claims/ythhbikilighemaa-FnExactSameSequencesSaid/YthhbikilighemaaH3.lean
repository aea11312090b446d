/- The laws' helpers at slices of slices: the comparison, the marks. -/
import Derived.Test.YthhbikilighemaaH1
import Derived.Test.YthhbikilighemaaO1
import Derived.Test.YthhbikilighemaaG0
namespace Go.Proofs.Ythhbikilighemaa
open Go.RowKit

def marksSS : Int → List (List Int) → List (List Int)
  | _, [] => []
  | k, zs :: r => marks k zs.length :: marksSS (k + zs.length) r
theorem marksSS_length : ∀ (k : Int) (zss : List (List Int)), (marksSS k zss).length = zss.length
  | _, [] => rfl
  | k, zs :: r => by simp [marksSS, marksSS_length]
theorem nthL_zero (zs : List Int) (r : List (List Int)) : nthL (zs :: r) 0 = zs := rfl
theorem nthL_succ (zs : List Int) (r : List (List Int)) (j : Nat) : nthL (zs :: r) (j + 1) = nthL r j := by simp [nthL]
theorem total_cons (zs : List Int) (r : List (List Int)) : total (zs :: r) = zs.length + total r := by simp [total]
theorem marksSS_nth : ∀ (k : Int) (zss : List (List Int)) (j : Nat), j < zss.length → nthL (marksSS k zss) j = marks (k + (total (zss.take j) : Int)) (nthL zss j).length
  | _, [], _, h => by simp at h
  | k, zs :: r, 0, _ => by simp [marksSS, nthL_zero, total]
  | k, zs :: r, j + 1, h => by
    rw [marksSS, nthL_succ, nthL_succ, marksSS_nth (k + zs.length) r j (by simpa using h), List.take_succ_cons, total_cons]
    congr 1
    omega
theorem total_take_step (zss : List (List Int)) (j : Nat) (h : j < zss.length) : total (zss.take (j + 1)) = total (zss.take j) + (nthL zss j).length := by
  rw [List.take_succ_eq_append_getElem h, total_app, total_one]
  simp [nthL, List.getElem?_eq_getElem h]
theorem total_take_le : ∀ (zss : List (List Int)) (j : Nat), total (zss.take j) ≤ total zss
  | [], j => by simp
  | zs :: r, 0 => by simp [total]
  | zs :: r, j + 1 => by rw [List.take_succ_cons, total_cons, total_cons]; have := total_take_le r j; omega
theorem total_nth_le (zss : List (List Int)) (j : Nat) (h : j < zss.length) : total (zss.take j) + (nthL zss j).length ≤ total zss := by
  rw [← total_take_step zss j h]; exact total_take_le _ _
/-- the first j of a, then those of b -/
def mixL (a b : List (List Int)) (j : Nat) : List (List Int) := a.take j ++ b.drop j
theorem mixL_length (a b : List (List Int)) (j : Nat) (h : a.length = b.length) : (mixL a b j).length = b.length := by simp [mixL, h]; omega
theorem mixL_nth (a b : List (List Int)) (j : Nat) (h : a.length = b.length) (hj : j < b.length) : nthL (mixL a b j) j = nthL b j := by
  unfold nthL mixL
  rw [List.getElem?_append_right (by simp; omega), List.getElem?_drop, List.length_take, Nat.min_eq_left (by omega)]
  congr 2
  omega
theorem mixL_step (a b : List (List Int)) (j : Nat) (h : a.length = b.length) (hj : j < b.length) : (mixL a b j).set j (nthL a j) = mixL a b (j + 1) := by
  have e : a.take (j + 1) = a.take j ++ [nthL a j] := by
    rw [List.take_succ_eq_append_getElem (by omega)]; simp [nthL, List.getElem?_eq_getElem (show j < a.length by omega)]
  unfold mixL
  rw [List.set_append_right _ _ (by simp; omega), List.length_take, Nat.min_eq_left (by omega), Nat.sub_self, List.drop_eq_getElem_cons hj, List.set_cons_zero, e]
  simp
theorem mixL_zero (a b : List (List Int)) : mixL a b 0 = b := by simp [mixL]
theorem mixL_all (a b : List (List Int)) (j : Nat) (h : a.length = b.length) (hj : b.length ≤ j) : mixL a b j = a := by
  unfold mixL; rw [List.drop_of_length_le hj, List.take_of_length_le (by omega), List.append_nil]

set_option maxRecDepth 100000 in
set_option maxHeartbeats 1000000 in
theorem eqInt64SS_same (v u : Value) (zss : List (List Int)) (w : World) (B B' : Nat) (h1 : SeesSS w B .i64 v zss) (h2 : SeesSS w B' .i64 u zss) (hl : zss.length + total zss < 1000000000) :
    Calls Try.prog 32 #[v, u] w fun e w' => e = .returned (.bool true) ∧ ∃ n, w' = w.drewN n := by
  have H1 := Lib.hid h1
  have H2 := Lib.hid h2
  obtain ⟨us1, ⟨A, c, rfl, _⟩, _⟩ := h1
  obtain ⟨us2, ⟨A', c', rfl, _⟩, _⟩ := h2
  have TN := Lib.hid (total_nth_le zss)
  go_enter Try.func32, Try.ntmps32
  go_wp2
  go_loopw [5] (fun i wr => ∃ k n : Nat, k ≤ zss.length ∧ i = .int .i64 k ∧ wr = w.drewN n) (fun i _ => zss.length - (intOf i).toNat)
  case atStart => exact ⟨0, 0, by omega, rfl, rfl⟩
  case round =>
    obtain ⟨k, n, hk, rfl, rfl⟩ := hrel
    by_cases hlt : k < zss.length
    · obtain ⟨b, off, cc, x1, e1, hb, hc0, s1⟩ := H1.out.at_ k hlt
      obtain ⟨b', off', cc', x2, e2, hb', hc1, s2⟩ := H2.out.at_ k hlt
      injection e1 with e1 e1b e1c
      injection e2 with e2 e2b e2c
      clear e1b e1c e2b e2c
      subst e1; subst e2
      have tn := TN.out k hlt
      obtain ⟨A1, c1, rfl, r1⟩ := s1
      obtain ⟨A2, c2, rfl, r2⟩ := s2
      obtain ⟨zs, hzs⟩ : ∃ zs, Hid (zs = nthL zss k) := ⟨_, Lib.hid rfl⟩
      rw [← hzs.out] at hc0 hc1 r1 r2 tn
      have S1 := Lib.hid (show Sees w B .i64 (.slice A1 zs.length c1) zs from ⟨_, _, rfl, r1⟩)
      have S2 := Lib.hid (show Sees w B' .i64 (.slice A2 zs.length c2) zs from ⟨_, _, rfl, r2⟩)
      clear r1 r2
      go_wp2
      go_quiet ((go_at_call 11; exact quiet_add (eqInt64S_same _ _ zs _ B B' (S1.out.drew _) (S2.out.drew _) (by omega))))
      go_wp2
      go_roundw
      case rel => exact ⟨k + 1, _, by omega, by go_num, rfl⟩
      case measure => first | omega | (simp [intOf]; omega)
    · go_wp2
      go_ret
      exact ⟨rfl, n, rfl⟩

set_option maxRecDepth 100000 in
set_option maxHeartbeats 1000000 in
theorem markInt64SS_own (v : Value) (zss : List (List Int)) (k : Int) (w : World) (lo hi : Nat) (h : OwnSS w lo hi 22 2 .i64 v zss) (hl : zss.length + total zss < 1000000000) (hk0 : 0 ≤ k) (hk1 : k < 1000000000) :
    Calls Try.prog 33 #[v, .int .i64 k] w fun e w' => (e = .returned (.int .i64 (k + (total zss : Int))) ∧ OwnSS w' lo hi 22 2 .i64 v (marksSS k zss)) ∧ Out lo hi w w' := by
  have HO := Lib.hid h
  obtain ⟨A, c, rfl⟩ := h.form
  clear h
  have ML := Lib.hid (marksSS_length k zss)
  go_enter Try.func33, Try.ntmps33
  go_wp2
  go_loopw [1, 5] (fun kk i wr => ∃ j : Nat, j ≤ zss.length ∧ i = .int .i64 j ∧ kk = .int .i64 (k + (total (zss.take j) : Int)) ∧ Hid (OwnSS wr lo hi 22 2 .i64 (.slice A zss.length c) (mixL (marksSS k zss) zss j)) ∧ Hid (Out lo hi w wr)) (fun _ i _ => zss.length - (intOf i).toNat)
  case atStart => exact ⟨0, by omega, rfl, by simp [total], by rw [mixL_zero]; exact HO, Lib.hid (Out.refl _ _ _)⟩
  case round =>
    obtain ⟨j, hj, rfl, rfl, ho, hb⟩ := hrel
    have tl := total_take_le zss j
    by_cases hlt : j < zss.length
    · obtain ⟨g, cc, u, e1, hc0, hu, turn⟩ := ho.out.at_ j (by rw [mixL_length _ _ _ ML.out]; exact hlt)
      rw [mixL_nth _ _ _ ML.out hlt] at hu
      injection e1 with e1 e1b e1c
      clear e1b e1c
      subst e1
      have TT := Lib.hid turn
      have ST := Lib.hid (total_take_step zss j hlt)
      have tn := total_nth_le zss j hlt
      have MN := Lib.hid (marksSS_nth k zss j hlt)
      obtain ⟨t0, ht0⟩ : ∃ t0, Hid (t0 = total (zss.take j)) := ⟨_, Lib.hid rfl⟩
      rw [← ht0.out] at tl tn ST MN ⊢
      obtain ⟨zs, hzs⟩ : ∃ zs, Hid (zs = nthL zss j) := ⟨_, Lib.hid rfl⟩
      rw [← hzs.out] at hu tn ST MN
      obtain ⟨A1, c1, rfl⟩ := hu.form
      have HU := Lib.hid hu
      clear hu turn ho
      go_wp2_with fail
      refine (markInt64S_own _ zs (k + t0) _ lo hi HU.out (by omega) (by omega) (by omega)).mono ?_
      rintro e w1 ⟨⟨rfl, p1⟩, g1⟩
      have P1 := Lib.hid (TT.out w1 _ g1 p1)
      have Q1 := Lib.hid (hb.out.trans (Out.of_grown g1 HU.out.lt))
      clear p1 g1 hb
      go_wp2
      go_roundw
      case rel => exact ⟨j + 1, by omega, by go_num, by rw [ST.out]; go_num, by rw [← mixL_step _ _ _ ML.out hlt, MN.out]; exact P1, Q1⟩
      case measure => first | omega | (simp [intOf]; omega)
    · have e : zss.take j = zss := List.take_of_length_le (by omega)
      rw [e] at *
      have P := ho.out
      rw [mixL_all _ _ _ ML.out (by omega)] at P
      have HP := Lib.hid P
      clear P ho
      go_wp2
      go_ret
      exact ⟨⟨rfl, HP.out⟩, hb.out⟩

set_option maxRecDepth 100000 in
set_option maxHeartbeats 1000000 in
theorem heldInt64SS_own (v : Value) (zss : List (List Int)) (k : Int) (w : World) (B : Nat) (h : SeesSS w B .i64 v (marksSS k zss)) (hl : zss.length + total zss < 1000000000) (hk0 : 0 ≤ k) (hk1 : k < 1000000000) :
    Calls Try.prog 34 #[v, .int .i64 k] w fun e w' => e = .returned (.int .i64 (k + (total zss : Int))) ∧ w = w' := by
  have HO := Lib.hid h
  obtain ⟨us1, ⟨A, c, rfl, _⟩, _⟩ := h
  have ML := Lib.hid (marksSS_length k zss)
  rw [ML.out]
  go_enter Try.func34, Try.ntmps34
  go_wp2
  go_loop [1, 5] (fun kk i => ∃ j : Nat, j ≤ zss.length ∧ i = .int .i64 j ∧ kk = .int .i64 (k + (total (zss.take j) : Int))) (fun _ i => zss.length - (intOf i).toNat)
  case atStart => exact ⟨0, by omega, rfl, by simp [total]⟩
  case round =>
    obtain ⟨j, hj, rfl, rfl⟩ := hrel
    have tl := total_take_le zss j
    by_cases hlt : j < zss.length
    · obtain ⟨b, off, cc, u, e1, hb, hc0, hu⟩ := HO.out.at_ j (by rw [ML.out]; exact hlt)
      rw [marksSS_nth k zss j hlt] at hu
      injection e1 with e1 e1b e1c
      clear e1b e1c
      subst e1
      have ST := Lib.hid (total_take_step zss j hlt)
      have tn := total_nth_le zss j hlt
      obtain ⟨t0, ht0⟩ : ∃ t0, Hid (t0 = total (zss.take j)) := ⟨_, Lib.hid rfl⟩
      rw [← ht0.out] at tl tn ST hu ⊢
      obtain ⟨zs, hzs⟩ : ∃ zs, Hid (zs = nthL zss j) := ⟨_, Lib.hid rfl⟩
      rw [← hzs.out] at hu tn ST
      have HU := Lib.hid hu
      obtain ⟨A1, c1, rfl, _⟩ := hu
      go_wp2_with fail
      refine (heldInt64S_own _ zs.length (k + t0) _ B HU.out (by omega) (by omega) (by omega)).mono ?_
      rintro e w1 ⟨rfl, rfl⟩
      have hnn : ¬ (k + (t0 : Int) + (zs.length : Int) < 0) := by omega
      go_wp2
      go_round
      case rel => exact ⟨j + 1, by omega, by go_num, by rw [ST.out]; go_num⟩
      case measure => first | omega | (simp [intOf]; omega)
    · have e : zss.take j = zss := List.take_of_length_le (by omega)
      rw [e] at *
      go_wp2
      go_ret
      exact ⟨rfl, rfl⟩
end Go.Proofs.Ythhbikilighemaa
