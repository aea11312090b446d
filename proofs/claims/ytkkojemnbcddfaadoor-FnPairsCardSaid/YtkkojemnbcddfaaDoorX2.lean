/- Chapter 7: the model's sides. -/
import Derived.Test.YtkkojemnbcddfaaDoorX1
import Derived.Test.YtkkojemnbcddfaaDoorA1
import Derived.Test.YtkkojemnbcddfaaDoorW2
namespace Go.Proofs.YtkkojemnbcddfaaDoor
open Go.RowKit

theorem l7Side_any (z : Int) (w : World) : Calls Tryd.prog 96 #[.int .i64 z] w fun e w' => e = .returned (.int .i64 (sideC z)) ∧ w = w' := by
  by_cases h0 : z = 0
  · subst h0
    go_enter Tryd.func96, Tryd.ntmps96
    go_wp2
    go_ret
    exact ⟨rfl, rfl⟩
  · by_cases h1 : z = 1 ∨ z = 3 ∨ z = 6
    · have E := Lib.hid (show sideC z = 1 by unfold sideC; rw [if_neg h0, if_pos h1])
      rcases h1 with rfl | rfl | rfl
      all_goals
        go_enter Tryd.func96, Tryd.ntmps96
        go_wp2
        go_ret
        exact ⟨rfl, rfl⟩
    · have E := Lib.hid (show sideC z = -1 by unfold sideC; rw [if_neg h0, if_neg h1])
      have n0 : (z == 0) = false := by simpa using h0
      have n1 : (z == 1) = false := by simp; omega
      have n3 : (z == 3) = false := by simp; omega
      have n6 : (z == 6) = false := by simp; omega
      clear h0 h1
      go_enter Tryd.func96, Tryd.ntmps96
      go_wp2
      go_ret
      exact ⟨rint E.out.symm, rfl⟩
set_option maxRecDepth 100000 in
set_option maxHeartbeats 1000000 in
theorem l7Ahead_any (A : Option Addr) (now : List Int) (c : Nat) (at_ : Nat) (sos : Int) (w : World) (B : Nat) (h : Rd w B A (nums .i64 now)) (ha : at_ ≤ now.length) (hl : now.length ≤ 600) :
    Calls Tryd.prog 97 #[.slice A now.length c, .int .i64 at_, .int .i64 sos] w fun e w' => e = .returned (.int .i64 (aheadS now sos at_)) ∧ w = w' := by
  have H := Lib.hid h
  obtain ⟨a, hA⟩ : ∃ a, Hid (a = aheadS now sos at_) := ⟨_, Lib.hid rfl⟩
  rw [← hA.out]
  clear h
  go_enter Tryd.func97, Tryd.ntmps97
  go_wp2
  go_loop [7] (fun i => ∃ k : Nat, k ≤ at_ ∧ i = .int .i64 ((k : Int) - 1) ∧ Hid (a = aheadS now sos k)) (fun i => (intOf i + 1).toNat)
  case atStart => exact ⟨at_, Nat.le_refl _, rfl, hA⟩
  case round =>
    obtain ⟨k, hk, rfl, ha'⟩ := hrel
    cases k with
    | zero =>
      have E := Lib.hid (show a = sos from ha'.out)
      have z0 : ((0 : Nat) : Int) - 1 = -1 := rfl
      rw [z0]
      go_wp2
      go_ret
      exact ⟨rint E.out.symm, rfl⟩
    | succ k =>
      obtain ⟨b, off, rfl, _, hc⟩ := H.out.int (by omega)
      have hc0 := hc k (by omega)
      have e1 : ((k + 1 : Nat) : Int) - 1 = (k : Int) := by omega
      rw [e1]
      have hi : (k : Int) < (now.length : Int) := by omega
      clear hc
      by_cases hs : 0 ≤ sideC (nth now k)
      · have E := Lib.hid (show a = sideC (nth now k) by rw [ha'.out, aheadS_hit hs])
        obtain ⟨q, hq⟩ : ∃ q, Hid (q = nth now k) := ⟨_, Lib.hid rfl⟩
        rw [← hq.out] at hc0 hs E
        go_wp2_with (go_at_call 96; refine (l7Side_any _ _).mono ?_; rintro e w' ⟨rfl, rfl⟩)
        go_ret
        exact ⟨rint E.out.symm, rfl⟩
      · have E := Lib.hid (show a = aheadS now sos k by rw [ha'.out, aheadS_miss hs])
        obtain ⟨q, hq⟩ : ∃ q, Hid (q = nth now k) := ⟨_, Lib.hid rfl⟩
        rw [← hq.out] at hc0 hs
        go_wp2_with (go_at_call 96; refine (l7Side_any _ _).mono ?_; rintro e w' ⟨rfl, rfl⟩)
        go_round
        case rel => exact ⟨k, by omega, rfl, E⟩
        case measure => first | omega | (simp [intOf]; done) | (simp [intOf]; omega)
set_option maxRecDepth 100000 in
set_option maxHeartbeats 1000000 in
theorem l7Near_any (A : Option Addr) (now : List Int) (c : Nat) (i edge : Int) (w : World) (B : Nat) (h : Rd w B A (nums .i64 now)) (hl : now.length ≤ 600) :
    Calls Tryd.prog 81 #[.slice A now.length c, .int .i64 i, .int .i64 edge] w fun e w' => e = .returned (.int .i64 (nearS now i edge)) ∧ w = w' := by
  by_cases h0 : i < 0
  · have E := Lib.hid (show nearS now i edge = edge by unfold nearS; rw [if_neg (fun x => by omega)])
    clear h
    go_enter Tryd.func81, Tryd.ntmps81
    go_wp2
    go_ret
    exact ⟨rint E.out.symm, rfl⟩
  · obtain ⟨k, rfl⟩ : ∃ k : Nat, i = (k : Int) := ⟨i.toNat, by omega⟩
    by_cases hk : k < now.length
    · obtain ⟨b, off, rfl, _, hc⟩ := h.int (by omega)
      have hc0 := hc k hk
      have E0 := Lib.hid (show nearS now k edge = if 0 ≤ sideC (nth now k) then sideC (nth now k) else edge by
        unfold nearS
        rw [Int.toNat_natCast]
        by_cases hs : 0 ≤ sideC (nth now k)
        · rw [if_pos hs, if_pos ⟨by omega, by omega, hs⟩]
        · rw [if_neg hs, if_neg (fun x => hs x.2.2)])
      obtain ⟨q, hq⟩ : ∃ q, Hid (q = nth now k) := ⟨_, Lib.hid rfl⟩
      rw [← hq.out] at hc0 E0
      clear h hc
      by_cases hs : 0 ≤ sideC q
      · have E := Lib.hid (show nearS now k edge = sideC q by rw [E0.out, if_pos hs])
        have n0 : decide (sideC q < 0) = false := decide_eq_false (by omega)
        go_enter Tryd.func81, Tryd.ntmps81
        go_wp2_with (go_at_call 96; refine (l7Side_any _ _).mono ?_; rintro e w' ⟨rfl, rfl⟩)
        go_ret
        exact ⟨rint E.out.symm, rfl⟩
      · have E := Lib.hid (show nearS now k edge = edge by rw [E0.out, if_neg hs])
        have n0 : decide (sideC q < 0) = true := decide_eq_true (by omega)
        go_enter Tryd.func81, Tryd.ntmps81
        go_wp2_with (go_at_call 96; refine (l7Side_any _ _).mono ?_; rintro e w' ⟨rfl, rfl⟩)
        go_ret
        exact ⟨rint E.out.symm, rfl⟩
    · have E := Lib.hid (show nearS now k edge = edge by unfold nearS; rw [if_neg (fun x => by omega)])
      clear h
      go_enter Tryd.func81, Tryd.ntmps81
      go_wp2
      go_ret
      exact ⟨rint E.out.symm, rfl⟩
theorem l2Iso7_any (k : Int) (w : World) :
    Calls Tryd.prog 98 #[.int .i64 k] w fun e w' => e = .returned (.bool (decide (19 ≤ k ∧ k ≤ 22))) ∧ w = w' := by
  go_enter Tryd.func98, Tryd.ntmps98
  go_wp2_with (go_at_call 43; refine (l1In_any _ _ _ _).mono ?_; rintro e w' ⟨rfl, rfl⟩)
  go_ret
  exact ⟨rbool (by simp), rfl⟩
set_option maxRecDepth 100000 in
set_option maxHeartbeats 1000000 in
theorem l7Neutral_any (z : Int) (w : World) : Calls Tryd.prog 80 #[.int .i64 z] w fun e w' => e = .returned (.bool (isNeu z)) ∧ w = w' := by
  by_cases h : z = 10 ∨ z = 11 ∨ z = 12 ∨ z = 13
  · rcases h with rfl | rfl | rfl | rfl
    all_goals
      go_enter Tryd.func80, Tryd.ntmps80
      go_wp2
      go_ret
      exact ⟨rfl, rfl⟩
  · have E := Lib.hid (show isNeu z = decide (19 ≤ z ∧ z ≤ 22) by unfold isNeu; rw [decide_eq_decide]; omega)
    have n0 : (z == 10) = false := by simp; omega
    have n1 : (z == 11) = false := by simp; omega
    have n2 : (z == 12) = false := by simp; omega
    have n3 : (z == 13) = false := by simp; omega
    clear h
    go_enter Tryd.func80, Tryd.ntmps80
    go_wp2_with (go_at_call 98; refine (l2Iso7_any _ _).mono ?_; rintro e w' ⟨rfl, rfl⟩)
    go_ret
    exact ⟨rbool (by rw [E.out]; simp), rfl⟩
end Go.Proofs.YtkkojemnbcddfaaDoor
