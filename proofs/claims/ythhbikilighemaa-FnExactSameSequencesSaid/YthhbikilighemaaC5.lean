/- ClassOf, IsShown: the program's and the model's. -/
import Derived.Test.YthhbikilighemaaC4
namespace Go.Proofs.Ythhbikilighemaa
open Go.RowKit Go.Maps

theorem isChrR {c : Int} (h : isChr c = true) : 0 ≤ c ∧ c ≤ 1114111 := by simp [isChr] at h; omega

set_option maxRecDepth 100000 in
set_option maxHeartbeats 1000000 in
theorem l2Ascii_any (c : Int) (w : World) (h0 : 0 ≤ c) (h1 : c < 192) :
    Calls Try.prog 80 #[.int .i64 c] w fun e w' => e = .returned (.int .i64 (classN c)) ∧ w = w' := by
  go_enter Try.func80, Try.ntmps80
  go_wp2_with (go_at_call 50; refine (l1In_any _ _ _ _).mono ?_; rintro e w' ⟨rfl, rfl⟩)
  all_goals
    go_ret
    refine ⟨rint ?_, rfl⟩
    try simp only [beq_iff_eq, beq_eq_false_iff_ne, ne_eq] at *
    unfold classN
    repeat (first | rw [if_pos (by omega)] | rw [if_neg (by omega)])

set_option maxRecDepth 100000 in
set_option maxHeartbeats 1000000 in
theorem l2Class_any (c : Int) (w : World) (h0 : 0 ≤ c) :
    Calls Try.prog 51 #[.int .i64 c] w fun e w' => e = .returned (.int .i64 (classN c)) ∧ w = w' := by
  by_cases h1 : c < 192
  · go_enter Try.func51, Try.ntmps51
    go_wp2_with (go_at_call 80; refine (l2Ascii_any _ _ h0 h1).mono ?_; rintro e w' ⟨rfl, rfl⟩)
    go_ret
    exact ⟨rfl, rfl⟩
  · go_enter Try.func51, Try.ntmps51
    go_wp2_with (go_at_call 50; refine (l1In_any _ _ _ _).mono ?_; rintro e w' ⟨rfl, rfl⟩)
    all_goals
      go_ret
      refine ⟨rint ?_, rfl⟩
      try simp only [beq_iff_eq, beq_eq_false_iff_ne, ne_eq] at *
      unfold classN
      repeat (first | rw [if_pos (by omega)] | rw [if_neg (by omega)])
    all_goals omega

def classC (c : Int) : Int := if isChr c = true then 0 else 3
def classV (c : Int) : Int := if isChr c = true then classN c else 0
theorem class_no {c : Int} (h : isChr c = false) : classC c = 3 ∧ classV c = 0 := by unfold classC classV; simp [h]
theorem class_yes {c : Int} (h : isChr c = true) : classC c = 0 ∧ classV c = classN c := by unfold classC classV; simp [h]



end Go.Proofs.Ythhbikilighemaa
