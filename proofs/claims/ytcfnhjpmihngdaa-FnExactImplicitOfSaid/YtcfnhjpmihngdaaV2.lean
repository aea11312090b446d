/- Chapter 8: what a level becomes, the model's and the program's. -/
import Derived.Test.YtcfnhjpmihngdaaV0
import Derived.Test.YtcfnhjpmihngdaaZ1
import Derived.Test.YtcfnhjpmihngdaaX2
import Derived.Test.YtcfnhjpmihngdaaX6
import Derived.Test.YtcfnhjpmihngdaaC1
namespace Go.Proofs.Ytcfnhjpmihngdaa
open Go.RowKit Go.Maps

theorem l8Implicit_any (l c : Int) (w : World) (h : 0 ≤ l ∧ l ≤ 126) : Calls Try.prog 9 #[.int .i64 l, .int .i64 c] w fun e w' => e = .returned (.int .i64 (implN l c)) ∧ w = w' := by
  obtain ⟨h0, h1⟩ := h
  by_cases hl : l % 2 = 0
  · have OD := Lib.hid (show ∀ W : World, Calls Try.prog 14 #[.int .i64 l] W fun e w' => e = .returned (.bool false) ∧ W = w' from fun W => by have := l5Odd7_any l W; rw [decide_eq_true hl] at this; exact this)
    by_cases c1 : c = 1
    · subst c1
      have E := Lib.hid (show implN l 1 = l + 1 by unfold implN; rw [if_pos hl, if_pos rfl])
      clear hl
      go_enter Try.func9, Try.ntmps9
      go_wp2_with (go_at_call 14; refine (OD.out _).mono ?_; rintro e w' ⟨rfl, rfl⟩)
      go_ret
      exact ⟨rint E.out.symm, rfl⟩
    · have n1 : (c == 1) = false := eq_no c1
      by_cases c0 : c = 0
      · subst c0
        have E := Lib.hid (show implN l 0 = l by unfold implN; rw [if_pos hl, if_neg (by omega), if_pos rfl])
        clear hl
        go_enter Try.func9, Try.ntmps9
        go_wp2_with (go_at_call 14; refine (OD.out _).mono ?_; rintro e w' ⟨rfl, rfl⟩)
        go_ret
        exact ⟨rint E.out.symm, rfl⟩
      · have n0 : (c != 0) = true := by simpa using c0
        have E := Lib.hid (show implN l c = l + 2 by unfold implN; rw [if_pos hl, if_neg c1, if_neg c0])
        clear hl c0 c1
        go_enter Try.func9, Try.ntmps9
        go_wp2_with (go_at_call 14; refine (OD.out _).mono ?_; rintro e w' ⟨rfl, rfl⟩)
        go_ret
        exact ⟨rint E.out.symm, rfl⟩
  · have OD := Lib.hid (show ∀ W : World, Calls Try.prog 14 #[.int .i64 l] W fun e w' => e = .returned (.bool true) ∧ W = w' from fun W => by have := l5Odd7_any l W; rw [decide_eq_false hl] at this; exact this)
    by_cases c1 : c = 1
    · subst c1
      have E := Lib.hid (show implN l 1 = l by unfold implN; rw [if_neg hl, if_pos rfl])
      clear hl
      go_enter Try.func9, Try.ntmps9
      go_wp2_with (go_at_call 14; refine (OD.out _).mono ?_; rintro e w' ⟨rfl, rfl⟩)
      go_ret
      exact ⟨rint E.out.symm, rfl⟩
    · have n1 : (c != 1) = true := by simpa using c1
      have E := Lib.hid (show implN l c = l + 1 by unfold implN; rw [if_neg hl, if_neg c1])
      clear hl c1
      go_enter Try.func9, Try.ntmps9
      go_wp2_with (go_at_call 14; refine (OD.out _).mono ?_; rintro e w' ⟨rfl, rfl⟩)
      go_ret
      exact ⟨rint E.out.symm, rfl⟩
theorem specImplicitOf_any (l c : Int) (w : World) : Calls Try.prog 4 #[.int .i64 l, .int .i64 c] w fun e w' => e = .returned (.agg #[.int .i64 (implF l c), .int .i64 (implV l c)]) ∧ Below w.heap.size w w' := by
  by_cases h : 0 ≤ l ∧ l ≤ 126
  · have IN := Lib.hid (show ∀ W : World, Calls Try.prog 7 #[.int .i64 l, .int .i64 0, .int .i64 126] W fun e w' => e = .returned (.bool true) ∧ W = w' from fun W => by have := l1In_any l 0 126 W; rw [decide_eq_true h] at this; exact this)
    have IM := Lib.hid (fun W => l8Implicit_any l c W h)
    by_cases hc : sideC c = -1
    · have SC := Lib.hid (show ∀ W : World, Calls Try.prog 8 #[.int .i64 c] W fun e w' => e = .returned (.int .i64 (-1)) ∧ W = w' from fun W => by rw [← hc]; exact l7Side_any c W)
      have E := Lib.hid (implF_form h hc)
      clear h hc
      go_enter Try.func4, Try.ntmps4
      go_wp2_with (first
        | (go_at_call 7; refine (IN.out _).mono ?_; rintro e w' ⟨rfl, rfl⟩)
        | (go_at_call 8; refine (SC.out _).mono ?_; rintro e w' ⟨rfl, rfl⟩))
      exact bodyPost_ret (v := .agg #[.int .i64 1, .int .i64 0]) (by simp [results, Try.results4, go_sem]) rfl ⟨agg2 E.out.1.symm E.out.2.symm, (Below.refl _ _).alloc (Nat.le_refl _) _⟩
    · obtain ⟨s, hs⟩ : ∃ s, Hid (s = sideC c) := ⟨_, Lib.hid rfl⟩
      have s0 : ¬ (s < 0) := by have := sideC_of c; have := hs.out; omega
      have SC := Lib.hid (show ∀ W : World, Calls Try.prog 8 #[.int .i64 c] W fun e w' => e = .returned (.int .i64 s) ∧ W = w' from fun W => by rw [hs.out]; exact l7Side_any c W)
      have E := Lib.hid (implF_none h hc)
      clear h hc
      go_enter Try.func4, Try.ntmps4
      go_wp2_with (first
        | (go_at_call 7; refine (IN.out _).mono ?_; rintro e w' ⟨rfl, rfl⟩)
        | (go_at_call 8; refine (SC.out _).mono ?_; rintro e w' ⟨rfl, rfl⟩)
        | (go_at_call 9; refine (IM.out _).mono ?_; rintro e w' ⟨rfl, rfl⟩))
      exact bodyPost_ret (v := .agg #[.int .i64 0, .int .i64 (implN l c)]) (by simp [results, Try.results4, go_sem]) rfl ⟨agg2 E.out.1.symm E.out.2.symm, (Below.refl _ _).alloc (Nat.le_refl _) _⟩
  · have IN := Lib.hid (show ∀ W : World, Calls Try.prog 7 #[.int .i64 l, .int .i64 0, .int .i64 126] W fun e w' => e = .returned (.bool false) ∧ W = w' from fun W => by have := l1In_any l 0 126 W; rw [decide_eq_false h] at this; exact this)
    have E := Lib.hid (implF_range (c := c) h)
    clear h
    go_enter Try.func4, Try.ntmps4
    go_wp2_with (go_at_call 7; refine (IN.out _).mono ?_; rintro e w' ⟨rfl, rfl⟩)
    exact bodyPost_ret (v := .agg #[.int .i64 3, .int .i64 0]) (by simp [results, Try.results4, go_sem]) rfl ⟨agg2 E.out.1.symm E.out.2.symm, (Below.refl _ _).alloc (Nat.le_refl _) _⟩
theorem specImplicitOf_val (l c : Int) (w : World) (_ : (Lit.int .i64 l).wf = true) (_ : (Lit.int .i64 c).wf = true) : Calls Try.prog 4 #[.int .i64 l, .int .i64 c] w fun e w' => e = .returned (.agg #[.int .i64 (implF l c), .int .i64 (implV l c)]) ∧ Below w.heap.size w w' := specImplicitOf_any l c w
theorem riseOf_any (way c : Int) (w : World) : Calls Try.prog 12 #[.int .i64 way, .int .i64 c] w fun e w' => e = .returned (.int .i64 (riseN way c)) ∧ w = w' := by
  by_cases h : c = way
  · subst h
    have E := Lib.hid (show riseN c c = 0 by unfold riseN; rw [if_pos rfl])
    have e : (c == c) = true := by simp
    go_enter Try.func12, Try.ntmps12
    go_wp2
    go_ret
    exact ⟨rint E.out.symm, rfl⟩
  · have e : (c == way) = false := eq_no h
    by_cases h0 : way = 0
    · subst h0
      by_cases h1 : c = 1
      · subst h1
        go_enter Try.func12, Try.ntmps12
        go_wp2
        go_ret
        exact ⟨rfl, rfl⟩
      · have E := Lib.hid (show riseN 0 c = 2 by unfold riseN; rw [if_neg h, if_pos ⟨rfl, h1⟩])
        have n1 : (c != 1) = true := by simpa using h1
        clear h h1
        go_enter Try.func12, Try.ntmps12
        go_wp2
        go_ret
        exact ⟨rint E.out.symm, rfl⟩
    · have E := Lib.hid (show riseN way c = 1 by unfold riseN; rw [if_neg h, if_neg (by omega)])
      have n0 : (way == 0) = false := eq_no h0
      clear h h0
      go_enter Try.func12, Try.ntmps12
      go_wp2
      go_ret
      exact ⟨rint E.out.symm, rfl⟩
theorem implicitOf_any (l c : Int) (w : World) : Calls Try.prog 5 #[.int .i64 l, .int .i64 c] w fun e w' => e = .returned (.agg #[.int .i64 (implF l c), .int .i64 (implV l c)]) ∧ Below w.heap.size w w' := by
  by_cases h : 0 ≤ l ∧ l ≤ 126
  · have hs : spans l [0, 126] = true := by simp [spans, h]
    by_cases hc : sideC c = -1
    · have SC := Lib.hid (show ∀ W : World, Calls Try.prog 11 #[.int .i64 c] W fun e w' => e = .returned (.int .i64 (-1)) ∧ W = w' from fun W => by rw [← hc]; exact sideOfClass_any c W)
      have E := Lib.hid (implF_form h hc)
      clear h hc
      go_enter Try.func5, Try.ntmps5
      go_wp2_with (first
        | (go_at_call 10; (with_reducible refine (within_lit2 _ _ _ _ _ _ (by simp)).mono ?_); rintro e w' ⟨rfl, rfl⟩)
        | (go_at_call 11; refine (SC.out _).mono ?_; rintro e w' ⟨rfl, rfl⟩))
      exact bodyPost_ret (v := .agg #[.int .i64 1, .int .i64 0]) (by simp [results, Try.results5, go_sem]) rfl ⟨agg2 E.out.1.symm E.out.2.symm, ((Below.refl _ _).alloc (Nat.le_refl _) _).alloc (by simp) _⟩
    · obtain ⟨s, hs'⟩ : ∃ s, Hid (s = sideC c) := ⟨_, Lib.hid rfl⟩
      have s0 : (s == -1) = false := eq_no (by rw [hs'.out]; exact hc)
      have SC := Lib.hid (show ∀ W : World, Calls Try.prog 11 #[.int .i64 c] W fun e w' => e = .returned (.int .i64 s) ∧ W = w' from fun W => by rw [hs'.out]; exact sideOfClass_any c W)
      have E := Lib.hid (implF_none h hc)
      obtain ⟨way, hw⟩ : ∃ s, Hid (s = sideL l) := ⟨_, Lib.hid rfl⟩
      have SO := Lib.hid (show ∀ W : World, Calls Try.prog 13 #[.int .i64 l] W fun e w' => e = .returned (.int .i64 way) ∧ W = w' from fun W => by rw [hw.out]; exact sideOf7_any l W)
      obtain ⟨r, hr⟩ : ∃ r, Hid (r = riseN way c) := ⟨_, Lib.hid rfl⟩
      have RO := Lib.hid (show ∀ W : World, Calls Try.prog 12 #[.int .i64 way, .int .i64 c] W fun e w' => e = .returned (.int .i64 r) ∧ W = w' from fun W => by rw [hr.out]; exact riseOf_any way c W)
      have EV := Lib.hid (show implV l c = l + r by rw [E.out.2, implN_rise, hr.out, hw.out])
      have r0 : 0 ≤ r ∧ r ≤ 2 := by rw [hr.out]; unfold riseN; split; omega; split <;> omega
      have h0 := h.1
      have h1 := h.2
      clear h hc
      go_enter Try.func5, Try.ntmps5
      go_wp2_with (first
        | (go_at_call 10; (with_reducible refine (within_lit2 _ _ _ _ _ _ (by simp)).mono ?_); rintro e w' ⟨rfl, rfl⟩)
        | (go_at_call 11; refine (SC.out _).mono ?_; rintro e w' ⟨rfl, rfl⟩)
        | (go_at_call 13; refine (SO.out _).mono ?_; rintro e w' ⟨rfl, rfl⟩)
        | (go_at_call 12; refine (RO.out _).mono ?_; rintro e w' ⟨rfl, rfl⟩))
      exact bodyPost_ret (v := .agg #[.int .i64 0, .int .i64 (l + r)]) (by simp [results, Try.results5, go_sem]) rfl ⟨agg2 E.out.1.symm EV.out.symm, ((Below.refl _ _).alloc (Nat.le_refl _) _).alloc (by simp) _⟩
  · have hs : spans l [0, 126] = false := by simp [spans]; omega
    have E := Lib.hid (implF_range (c := c) h)
    clear h
    go_enter Try.func5, Try.ntmps5
    go_wp2_with (go_at_call 10; (with_reducible refine (within_lit2 _ _ _ _ _ _ (by simp)).mono ?_); rintro e w' ⟨rfl, rfl⟩)
    exact bodyPost_ret (v := .agg #[.int .i64 3, .int .i64 0]) (by simp [results, Try.results5, go_sem]) rfl ⟨agg2 E.out.1.symm E.out.2.symm, ((Below.refl _ _).alloc (Nat.le_refl _) _).alloc (by simp) _⟩
theorem implicitOf_val (l c : Int) (w : World) (_ : (Lit.int .i64 l).wf = true) (_ : (Lit.int .i64 c).wf = true) : Calls Try.prog 5 #[.int .i64 l, .int .i64 c] w fun e w' => e = .returned (.agg #[.int .i64 (implF l c), .int .i64 (implV l c)]) ∧ Below w.heap.size w w' := implicitOf_any l c w
end Go.Proofs.Ytcfnhjpmihngdaa
