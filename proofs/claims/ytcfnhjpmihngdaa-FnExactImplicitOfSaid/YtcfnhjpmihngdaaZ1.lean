/- Chapter 7: the program's small functions: sides, marks, fills. -/
import Derived.Test.YtcfnhjpmihngdaaZ0
import Derived.Test.YtcfnhjpmihngdaaX6
import Derived.Test.YtcfnhjpmihngdaaC1
import Derived.Test.YtcfnhjpmihngdaaS3
namespace Go.Proofs.Ytcfnhjpmihngdaa
open Go.RowKit Go.Maps

theorem sideOfClass_any (z : Int) (w : World) : Calls Try.prog 11 #[.int .i64 z] w fun e w' => e = .returned (.int .i64 (sideC z)) ∧ w = w' := by
  by_cases h0 : z = 0
  · subst h0
    go_enter Try.func11, Try.ntmps11
    go_wp2
    go_ret
    exact ⟨rfl, rfl⟩
  · by_cases h1 : z = 1 ∨ z = 3 ∨ z = 6
    · have E := Lib.hid (show sideC z = 1 by unfold sideC; rw [if_neg h0, if_pos h1])
      rcases h1 with rfl | rfl | rfl
      all_goals
        go_enter Try.func11, Try.ntmps11
        go_wp2
        go_ret
        exact ⟨rfl, rfl⟩
    · have E := Lib.hid (show sideC z = -1 by unfold sideC; rw [if_neg h0, if_neg h1])
      have n0 : (z == 0) = false := by simpa using h0
      have n1 : (z == 1) = false := by simp; omega
      have n3 : (z == 3) = false := by simp; omega
      have n6 : (z == 6) = false := by simp; omega
      clear h0 h1
      go_enter Try.func11, Try.ntmps11
      go_wp2
      go_ret
      exact ⟨rint E.out.symm, rfl⟩
end Go.Proofs.Ytcfnhjpmihngdaa
