/- ClassOf, IsShown: the program's and the model's. -/
import Derived.Test.YtmkpbfghnkmcgaaC4
namespace Go.Proofs.Ytmkpbfghnkmcgaa
open Go.RowKit Go.Maps

theorem isChrR {c : Int} (h : isChr c = true) : 0 ≤ c ∧ c ≤ 1114111 := by simp [isChr] at h; omega

set_option maxRecDepth 100000 in
set_option maxHeartbeats 1000000 in
theorem l2Ascii_any (c : Int) (w : World) (h0 : 0 ≤ c) (h1 : c < 192) :
    Calls Try.prog 79 #[.int .i64 c] w fun e w' => e = .returned (.int .i64 (classN c)) ∧ w = w' := by
  go_enter Try.func79, Try.ntmps79
  go_wp2_with (go_at_call 72; refine (l1In_any _ _ _ _).mono ?_; rintro e w' ⟨rfl, rfl⟩)
  all_goals
    go_ret
    refine ⟨rint ?_, rfl⟩
    try simp only [beq_iff_eq, beq_eq_false_iff_ne, ne_eq] at *
    unfold classN
    repeat (first | rw [if_pos (by omega)] | rw [if_neg (by omega)])

set_option maxRecDepth 100000 in
set_option maxHeartbeats 1000000 in
theorem l2Class_any (c : Int) (w : World) (h0 : 0 ≤ c) :
    Calls Try.prog 64 #[.int .i64 c] w fun e w' => e = .returned (.int .i64 (classN c)) ∧ w = w' := by
  by_cases h1 : c < 192
  · go_enter Try.func64, Try.ntmps64
    go_wp2_with (go_at_call 79; refine (l2Ascii_any _ _ h0 h1).mono ?_; rintro e w' ⟨rfl, rfl⟩)
    go_ret
    exact ⟨rfl, rfl⟩
  · go_enter Try.func64, Try.ntmps64
    go_wp2_with (go_at_call 72; refine (l1In_any _ _ _ _).mono ?_; rintro e w' ⟨rfl, rfl⟩)
    all_goals
      go_ret
      refine ⟨rint ?_, rfl⟩
      try simp only [beq_iff_eq, beq_eq_false_iff_ne, ne_eq] at *
      unfold classN
      repeat (first | rw [if_pos (by omega)] | rw [if_neg (by omega)])
    all_goals omega

def classC (c : Int) : Int := if isChr c = true then 0 else 3
def classV (c : Int) : Int := if isChr c = true then classN c else 0
theorem class_no {c : Int} (h : isChr c = false) : classC c = 3 ∧ classV c = 0 := by unfold classC classV; simp [h]
theorem class_yes {c : Int} (h : isChr c = true) : classC c = 0 ∧ classV c = classN c := by unfold classC classV; simp [h]

set_option maxRecDepth 100000 in
set_option maxHeartbeats 1000000 in
theorem specClassOf_val (c : Int) (w : World) (_ : (Lit.int .i64 c).wf = true) :
    Calls Try.prog 24 #[.int .i64 c] w fun e w' => e = .returned (.agg #[.int .i64 (classC c), .int .i64 (classV c)]) ∧ Below w.heap.size w w' := by
  have hb := fun x y => (Below.refl w.heap.size w).alloc (Nat.le_refl _) (.cells #[.int .i64 x, .int .i64 y] 34)
  cases h1 : isChr c
  · have e := Lib.hid (class_no h1)
    go_enter Try.func24, Try.ntmps24
    go_wp2_with (go_at_call 63; refine (specIsChar_b _ _).mono ?_; rintro e w' ⟨rfl, rfl⟩)
    exact bodyPost_ret (v := .agg #[.int .i64 3, .int .i64 0]) (by simp [results, Try.results24, go_sem]) rfl ⟨agg2 e.out.1.symm e.out.2.symm, hb _ _⟩
  · have e := Lib.hid (class_yes h1)
    have h0 := (isChrR h1).1
    go_enter Try.func24, Try.ntmps24
    go_wp2_with (first
      | (go_at_call 63; refine (specIsChar_b _ _).mono ?_; rintro e w' ⟨rfl, rfl⟩)
      | (go_at_call 64; refine (l2Class_any _ _ h0).mono ?_; rintro e w' ⟨rfl, rfl⟩))
    exact bodyPost_ret (v := .agg #[.int .i64 0, .int .i64 (classN c)]) (by simp [results, Try.results24, go_sem]) rfl ⟨agg2 e.out.1.symm e.out.2.symm, hb _ _⟩


end Go.Proofs.Ytmkpbfghnkmcgaa
