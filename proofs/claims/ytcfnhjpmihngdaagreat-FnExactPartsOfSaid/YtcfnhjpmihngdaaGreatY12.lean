/- The model's class of a character. -/
import Derived.Test.YtcfnhjpmihngdaaGreatY01
namespace Go.Proofs.YtcfnhjpmihngdaaGreat
open Go.RowKit Go.Maps

def classN (c : Int) : Int :=
  if c = 10 ∨ c = 13 ∨ c = 8233 then 10 else if c = 9 then 11 else if c = 32 then 12 else if 48 ≤ c ∧ c ≤ 57 then 3 else if c = 43 ∨ c = 45 then 4 else if 35 ≤ c ∧ c ≤ 37 then 5
  else if c = 44 ∨ c = 46 ∨ c = 47 ∨ c = 58 then 7 else if (65 ≤ c ∧ c ≤ 90) ∨ (97 ≤ c ∧ c ≤ 122) then 0 else if (0 ≤ c ∧ c ≤ 31) ∨ (127 ≤ c ∧ c ≤ 159) ∨ c = 173 ∨ c = 8203 then 9
  else if 33 ≤ c ∧ c ≤ 191 then 13 else if (768 ≤ c ∧ c ≤ 879) ∨ (1611 ≤ c ∧ c ≤ 1618) then 8 else if 1488 ≤ c ∧ c ≤ 1514 then 1 else if 1569 ≤ c ∧ c ≤ 1610 then 2 else if 1632 ≤ c ∧ c ≤ 1641 then 6
  else if 8234 ≤ c ∧ c ≤ 8238 then 14 + (c - 8234) else if 8294 ≤ c ∧ c ≤ 8297 then 19 + (c - 8294) else if c = 9001 ∨ c = 9002 ∨ c = 12296 ∨ c = 12297 ∨ c = 65533 then 13 else 0
theorem classN_in {c : Int} (_ : 0 ≤ c) : 0 ≤ classN c ∧ classN c ≤ 22 := by
  unfold classN
  repeat (first | omega | split)
set_option maxRecDepth 100000 in
set_option maxHeartbeats 1000000 in
theorem l2Ascii_any (c : Int) (w : World) (h0 : 0 ≤ c) (h1 : c < 192) :
    Calls Tryz.prog 43 #[.int .i64 c] w fun e w' => e = .returned (.int .i64 (classN c)) ∧ w = w' := by
  go_enter Tryz.func43, Tryz.ntmps43
  go_wp2_with (go_at_call 21; refine (l1In_any _ _ _ _).mono ?_; rintro e w' ⟨rfl, rfl⟩)
  all_goals
    go_ret
    refine ⟨rint ?_, rfl⟩
    try simp only [beq_iff_eq, beq_eq_false_iff_ne, ne_eq] at *
    unfold classN
    repeat (first | rw [if_pos (by omega)] | rw [if_neg (by omega)])

set_option maxRecDepth 100000 in
set_option maxHeartbeats 1000000 in
theorem l2Class_any (c : Int) (w : World) (h0 : 0 ≤ c) :
    Calls Tryz.prog 22 #[.int .i64 c] w fun e w' => e = .returned (.int .i64 (classN c)) ∧ w = w' := by
  by_cases h1 : c < 192
  · go_enter Tryz.func22, Tryz.ntmps22
    go_wp2_with (go_at_call 43; refine (l2Ascii_any _ _ h0 h1).mono ?_; rintro e w' ⟨rfl, rfl⟩)
    go_ret
    exact ⟨rfl, rfl⟩
  · go_enter Tryz.func22, Tryz.ntmps22
    go_wp2_with (go_at_call 21; refine (l1In_any _ _ _ _).mono ?_; rintro e w' ⟨rfl, rfl⟩)
    all_goals
      go_ret
      refine ⟨rint ?_, rfl⟩
      try simp only [beq_iff_eq, beq_eq_false_iff_ne, ne_eq] at *
      unfold classN
      repeat (first | rw [if_pos (by omega)] | rw [if_neg (by omega)])
    all_goals omega
end Go.Proofs.YtcfnhjpmihngdaaGreat
