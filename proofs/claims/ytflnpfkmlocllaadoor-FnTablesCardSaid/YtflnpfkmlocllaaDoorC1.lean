/- Chapter 2, what needs no map and no table: forms, ligatures, what is removed. -/
import Derived.Test.YtflnpfkmlocllaaDoorA1
import Derived.Test.YtflnpfkmlocllaaDoorH1
import Derived.BigQuiet
import Derived.Deep.QuietTactic
namespace Go.Proofs.YtflnpfkmlocllaaDoor
open Go.RowKit

theorem within_lit2 (n a0 a1 : Int) (w : World) (t : TypeId) (g : Nat) (hg : w.heap.size = g) :
    Calls Tryd.prog 67 #[.int .i64 n, .slice (some ⟨g, 0, none⟩) 2 2] (w.alloc (.cells #[.int .i64 a0, .int .i64 a1] t)) fun e w' => e = .returned (.bool (spans n [a0, a1])) ∧ w.alloc (.cells #[.int .i64 a0, .int .i64 a1] t) = w' := by
  subst hg
  exact within_any n _ [a0, a1] 2 _ _ (Rd.lit w #[.int .i64 a0, .int .i64 a1] t) (by simp)
theorem within_lit4 (n a0 a1 a2 a3 : Int) (w : World) (t : TypeId) (g : Nat) (hg : w.heap.size = g) :
    Calls Tryd.prog 67 #[.int .i64 n, .slice (some ⟨g, 0, none⟩) 4 4] (w.alloc (.cells #[.int .i64 a0, .int .i64 a1, .int .i64 a2, .int .i64 a3] t)) fun e w' => e = .returned (.bool (spans n [a0, a1, a2, a3])) ∧ w.alloc (.cells #[.int .i64 a0, .int .i64 a1, .int .i64 a2, .int .i64 a3] t) = w' := by
  subst hg
  exact within_any n _ [a0, a1, a2, a3] 4 _ _ (Rd.lit w #[.int .i64 a0, .int .i64 a1, .int .i64 a2, .int .i64 a3] t) (by simp)
theorem within_lit6 (n a0 a1 a2 a3 a4 a5 : Int) (w : World) (t : TypeId) (g : Nat) (hg : w.heap.size = g) :
    Calls Tryd.prog 67 #[.int .i64 n, .slice (some ⟨g, 0, none⟩) 6 6] (w.alloc (.cells #[.int .i64 a0, .int .i64 a1, .int .i64 a2, .int .i64 a3, .int .i64 a4, .int .i64 a5] t)) fun e w' => e = .returned (.bool (spans n [a0, a1, a2, a3, a4, a5])) ∧ w.alloc (.cells #[.int .i64 a0, .int .i64 a1, .int .i64 a2, .int .i64 a3, .int .i64 a4, .int .i64 a5] t) = w' := by
  subst hg
  exact within_any n _ [a0, a1, a2, a3, a4, a5] 6 _ _ (Rd.lit w #[.int .i64 a0, .int .i64 a1, .int .i64 a2, .int .i64 a3, .int .i64 a4, .int .i64 a5] t) (by simp)
theorem within_lit8 (n a0 a1 a2 a3 a4 a5 a6 a7 : Int) (w : World) (t : TypeId) (g : Nat) (hg : w.heap.size = g) :
    Calls Tryd.prog 67 #[.int .i64 n, .slice (some ⟨g, 0, none⟩) 8 8] (w.alloc (.cells #[.int .i64 a0, .int .i64 a1, .int .i64 a2, .int .i64 a3, .int .i64 a4, .int .i64 a5, .int .i64 a6, .int .i64 a7] t)) fun e w' => e = .returned (.bool (spans n [a0, a1, a2, a3, a4, a5, a6, a7])) ∧ w.alloc (.cells #[.int .i64 a0, .int .i64 a1, .int .i64 a2, .int .i64 a3, .int .i64 a4, .int .i64 a5, .int .i64 a6, .int .i64 a7] t) = w' := by
  subst hg
  exact within_any n _ [a0, a1, a2, a3, a4, a5, a6, a7] 8 _ _ (Rd.lit w #[.int .i64 a0, .int .i64 a1, .int .i64 a2, .int .i64 a3, .int .i64 a4, .int .i64 a5, .int .i64 a6, .int .i64 a7] t) (by simp)
theorem within_lit10 (n a0 a1 a2 a3 a4 a5 a6 a7 a8 a9 : Int) (w : World) (t : TypeId) (g : Nat) (hg : w.heap.size = g) :
    Calls Tryd.prog 67 #[.int .i64 n, .slice (some ⟨g, 0, none⟩) 10 10] (w.alloc (.cells #[.int .i64 a0, .int .i64 a1, .int .i64 a2, .int .i64 a3, .int .i64 a4, .int .i64 a5, .int .i64 a6, .int .i64 a7, .int .i64 a8, .int .i64 a9] t)) fun e w' => e = .returned (.bool (spans n [a0, a1, a2, a3, a4, a5, a6, a7, a8, a9])) ∧ w.alloc (.cells #[.int .i64 a0, .int .i64 a1, .int .i64 a2, .int .i64 a3, .int .i64 a4, .int .i64 a5, .int .i64 a6, .int .i64 a7, .int .i64 a8, .int .i64 a9] t) = w' := by
  subst hg
  exact within_any n _ [a0, a1, a2, a3, a4, a5, a6, a7, a8, a9] 10 _ _ (Rd.lit w #[.int .i64 a0, .int .i64 a1, .int .i64 a2, .int .i64 a3, .int .i64 a4, .int .i64 a5, .int .i64 a6, .int .i64 a7, .int .i64 a8, .int .i64 a9] t) (by simp)
/-- a character -/
def isChr (c : Int) : Bool := decide ((0 ≤ c ∧ c ≤ 55295) ∨ (57344 ≤ c ∧ c ≤ 1114111))
theorem specIsChar_b (c : Int) (w : World) : Calls Tryd.prog 21 #[.int .i64 c] w fun e w' => e = .returned (.bool (isChr c)) ∧ w = w' := specIsChar_any c w
theorem isChar_b (c : Int) (w : World) : Calls Tryd.prog 20 #[.int .i64 c] w fun e w' => e = .returned (.bool (isChr c)) ∧ Below w.heap.size w w' := isChar_any c w
theorem eq_no {a b : Int} (h : a ≠ b) : (a == b) = false := by simpa using h
theorem eq_yes {a b : Int} (h : a = b) : (a == b) = true := by simpa using h
theorem ne_no {a b : Int} (h : a ≠ b) : (a != b) = true := by simpa using h
theorem ne_yes {a b : Int} (h : a = b) : (a != b) = false := by simpa using h
theorem agg2 {a a' b b' : Int} (h : a = a') (k : b = b') : Ending.returned (.agg #[.int .i64 a, .int .i64 b]) = .returned (.agg #[.int .i64 a', .int .i64 b']) := by rw [h, k]

/-- how many forms -/
def formsN (c : Int) : Int :=
  if c = 1569 then 1
  else if (1570 ≤ c ∧ c ≤ 1573) ∨ c = 1575 ∨ c = 1577 ∨ (1583 ≤ c ∧ c ≤ 1586) ∨ c = 1608 ∨ c = 1609 then 2
  else if (1569 ≤ c ∧ c ≤ 1594) ∨ (1601 ≤ c ∧ c ≤ 1610) then 4 else 0

theorem formsN_lo (c : Int) : 0 ≤ formsN c ∧ formsN c ≤ 4 := by unfold formsN; repeat (split; omega); omega

theorem eq_i (c k : Int) : (c == k) = decide (c = k) := by rw [Bool.eq_iff_iff]; simp
set_option maxRecDepth 100000 in
set_option maxHeartbeats 1000000 in
theorem l2Forms_any (c : Int) (w : World) :
    Calls Tryd.prog 83 #[.int .i64 c] w fun e w' => e = .returned (.int .i64 (formsN c)) ∧ w = w' := by
  by_cases h0 : c = 1569
  · subst h0
    go_enter Tryd.func83, Tryd.ntmps83
    go_wp2_with (go_at_call 68; refine (l1In_any _ _ _ _).mono ?_; rintro e w' ⟨rfl, rfl⟩)
    go_ret
    exact ⟨rfl, rfl⟩
  · go_enter Tryd.func83, Tryd.ntmps83
    go_wp2_with (go_at_call 68; refine (l1In_any _ _ _ _).mono ?_; rintro e w' ⟨rfl, rfl⟩)
    all_goals
      go_ret
      refine ⟨rint ?_, rfl⟩
      simp only [beq_iff_eq, beq_eq_false_iff_ne, ne_eq] at *
      unfold formsN
      repeat' split
      all_goals omega

set_option maxRecDepth 100000 in
set_option maxHeartbeats 1000000 in
theorem formCount_any (c : Int) (w : World) :
    Calls Tryd.prog 78 #[.int .i64 c] w fun e w' => e = .returned (.int .i64 (formsN c)) ∧ Below w.heap.size w w' := by
  have b1 := (Below.refl w.heap.size w).alloc (Nat.le_refl _) (.cells #[.int .i64 1569, .int .i64 1594, .int .i64 1601, .int .i64 1610] 2)
  by_cases h1 : (1569 ≤ c ∧ c ≤ 1594) ∨ (1601 ≤ c ∧ c ≤ 1610)
  · have g1 : spans c [1569, 1594, 1601, 1610] = true := by simp [spans]; omega
    by_cases h0 : c = 1569
    · subst h0
      go_enter Tryd.func78, Tryd.ntmps78
      go_wp2_with (first | (go_at_call 67; ((with_reducible refine (within_lit4 _ _ _ _ _ _ _ _ (by simp)).mono ?_); rintro e w' ⟨rfl, rfl⟩)) | (go_at_call 67; ((with_reducible refine (within_lit10 _ _ _ _ _ _ _ _ _ _ _ _ _ _ (by simp)).mono ?_); rintro e w' ⟨rfl, rfl⟩)))
      go_ret
      exact ⟨rfl, b1⟩
    · by_cases h2 : (1570 ≤ c ∧ c ≤ 1573) ∨ c = 1575 ∨ c = 1577 ∨ (1583 ≤ c ∧ c ≤ 1586) ∨ c = 1608 ∨ c = 1609
      all_goals
        have g2 : spans c [1570, 1573, 1575, 1575, 1577, 1577, 1583, 1586, 1608, 1609] = decide ((1570 ≤ c ∧ c ≤ 1573) ∨ c = 1575 ∨ c = 1577 ∨ (1583 ≤ c ∧ c ≤ 1586) ∨ c = 1608 ∨ c = 1609) := by
          rw [Bool.eq_iff_iff]; simp [spans]; try omega
        first | rw [decide_eq_true h2] at g2 | rw [decide_eq_false h2] at g2
        have e : Hid (formsN c = if (1570 ≤ c ∧ c ≤ 1573) ∨ c = 1575 ∨ c = 1577 ∨ (1583 ≤ c ∧ c ≤ 1586) ∨ c = 1608 ∨ c = 1609 then 2 else 4) := Lib.hid (by unfold formsN; rw [if_neg h0, if_pos h1])
        first | rw [if_pos h2] at e | rw [if_neg h2] at e
        clear h1 h2
        go_enter Tryd.func78, Tryd.ntmps78
        go_wp2_with (first | (go_at_call 67; ((with_reducible refine (within_lit4 _ _ _ _ _ _ _ _ (by simp)).mono ?_); rintro e w' ⟨rfl, rfl⟩)) | (go_at_call 67; ((with_reducible refine (within_lit10 _ _ _ _ _ _ _ _ _ _ _ _ _ _ (by simp)).mono ?_); rintro e w' ⟨rfl, rfl⟩)))
        go_ret
        exact ⟨rint e.out.symm, b1.alloc (by simp) _⟩
  · have g1 : spans c [1569, 1594, 1601, 1610] = false := by simp [spans]; omega
    have e : Hid (formsN c = 0) := Lib.hid (by unfold formsN; rw [if_neg (by omega), if_neg (by omega), if_neg h1])
    clear h1
    go_enter Tryd.func78, Tryd.ntmps78
    go_wp2_with (first | (go_at_call 67; ((with_reducible refine (within_lit4 _ _ _ _ _ _ _ _ (by simp)).mono ?_); rintro e w' ⟨rfl, rfl⟩)) | (go_at_call 67; ((with_reducible refine (within_lit10 _ _ _ _ _ _ _ _ _ _ _ _ _ _ (by simp)).mono ?_); rintro e w' ⟨rfl, rfl⟩)))
    go_ret
    exact ⟨rint e.out.symm, b1⟩
/-- FormsOf's answer -/
def formsC (c : Int) : Int := if isChr c = true then (if formsN c = 0 then 4 else 0) else 3
def formsV (c : Int) : Int := if isChr c = true then formsN c else 0
theorem forms_no {c : Int} (h : isChr c = false) : formsC c = 3 ∧ formsV c = 0 := by unfold formsC formsV; simp [h]
theorem forms_none {c : Int} (h : isChr c = true) (k : formsN c = 0) : formsC c = 4 ∧ formsV c = 0 := by unfold formsC formsV; simp [h, k]
theorem forms_yes {c : Int} (h : isChr c = true) (k : formsN c ≠ 0) : formsC c = 0 ∧ formsV c = formsN c := by unfold formsC formsV; simp [h, k]
set_option maxRecDepth 100000 in
set_option maxHeartbeats 1000000 in
theorem specFormsOf_val (c : Int) (w : World) (_ : (Lit.int .i64 c).wf = true) :
    Calls Tryd.prog 43 #[.int .i64 c] w fun e w' => e = .returned (.agg #[.int .i64 (formsC c), .int .i64 (formsV c)]) ∧ Below w.heap.size w w' := by
  have hb := fun x y => (Below.refl w.heap.size w).alloc (Nat.le_refl _) (.cells #[.int .i64 x, .int .i64 y] 47)
  cases h1 : isChr c
  · have e := Lib.hid (forms_no h1)
    go_enter Tryd.func43, Tryd.ntmps43
    go_wp2_with (first
      | (go_at_call 21; refine (specIsChar_b _ _).mono ?_; rintro e w' ⟨rfl, rfl⟩)
      | (go_at_call 83; refine (l2Forms_any _ _).mono ?_; rintro e w' ⟨rfl, rfl⟩))
    exact bodyPost_ret (v := .agg #[.int .i64 3, .int .i64 0]) (by simp [results, Tryd.results43, go_sem]) rfl ⟨agg2 e.out.1.symm e.out.2.symm, hb _ _⟩
  · by_cases h2 : formsN c = 0
    · have e := Lib.hid (forms_none h1 h2)
      have h3 := eq_yes h2
      clear h2
      go_enter Tryd.func43, Tryd.ntmps43
      go_wp2_with (first
      | (go_at_call 21; refine (specIsChar_b _ _).mono ?_; rintro e w' ⟨rfl, rfl⟩)
      | (go_at_call 83; refine (l2Forms_any _ _).mono ?_; rintro e w' ⟨rfl, rfl⟩))
      exact bodyPost_ret (v := .agg #[.int .i64 4, .int .i64 0]) (by simp [results, Tryd.results43, go_sem]) rfl ⟨agg2 e.out.1.symm e.out.2.symm, hb _ _⟩
    · have e := Lib.hid (forms_yes h1 h2)
      have h3 := eq_no h2
      clear h2
      go_enter Tryd.func43, Tryd.ntmps43
      go_wp2_with (first
      | (go_at_call 21; refine (specIsChar_b _ _).mono ?_; rintro e w' ⟨rfl, rfl⟩)
      | (go_at_call 83; refine (l2Forms_any _ _).mono ?_; rintro e w' ⟨rfl, rfl⟩))
      exact bodyPost_ret (v := .agg #[.int .i64 0, .int .i64 (formsN c)]) (by simp [results, Tryd.results43, go_sem]) rfl ⟨agg2 e.out.1.symm e.out.2.symm, hb _ _⟩
set_option maxRecDepth 100000 in
set_option maxHeartbeats 1000000 in
theorem formsOf_val (c : Int) (w : World) (_ : (Lit.int .i64 c).wf = true) :
    Calls Tryd.prog 35 #[.int .i64 c] w fun e w' => e = .returned (.agg #[.int .i64 (formsC c), .int .i64 (formsV c)]) ∧ Below w.heap.size w w' := by
  have b0 := (Below.refl w.heap.size w).alloc (Nat.le_refl _) (.cells #[.int .i64 0, .int .i64 0] 47)
  have k0 := Blk.new w 47 #[.int .i64 0, .int .i64 0]
  go_enter Tryd.func35, Tryd.ntmps35
  go_wp2_with fail
  refine (isChar_b _ _).mono ?_
  rintro e w1 ⟨rfl, b1⟩
  have k1 := k0.below b1 k0.lt
  have b2 := below_on b0 b1 (Nat.le_refl _)
  have hd0 := k1.cell 0 (u := .int .i64 0) rfl
  have hd1 := k1.cell 1 (u := .int .i64 0) rfl
  have hf0 := k1.frozen 0
  have hf1 := k1.frozen 1
  cases h1 : isChr c
  · have e := Lib.hid (forms_no h1)
    go_wp2
    exact bodyPost_ret (v := .agg #[.int .i64 3, .int .i64 0]) (by simp [results, Tryd.results35, go_sem, hd0, hd1]) rfl ⟨agg2 e.out.1.symm e.out.2.symm, (b2.setCell (by simp) _).setCell (by simp) _⟩
  · go_wp2_with fail
    refine (formCount_any _ _).mono ?_
    rintro e w2 ⟨rfl, b3⟩
    have k2 := k1.below b3 k1.lt
    have b4 := below_on b2 b3 (Nat.le_refl _)
    clear hd0 hd1 hf0 hf1
    have hd0 := k2.cell 0 (u := .int .i64 0) rfl
    have hd1 := k2.cell 1 (u := .int .i64 0) rfl
    have hf0 := k2.frozen 0
    have hf1 := k2.frozen 1
    by_cases h2 : formsN c = 0
    · have e := Lib.hid (forms_none h1 h2)
      have h3 := eq_yes h2
      clear h2
      go_wp2
      exact bodyPost_ret (v := .agg #[.int .i64 4, .int .i64 0]) (by simp [results, Tryd.results35, go_sem, hd0, hd1]) rfl ⟨agg2 e.out.1.symm e.out.2.symm, (b4.setCell (by simp) _).setCell (by simp) _⟩
    · have e := Lib.hid (forms_yes h1 h2)
      have h3 := eq_no h2
      clear h2
      go_wp2
      exact bodyPost_ret (v := .agg #[.int .i64 0, .int .i64 (formsN c)]) (by simp [results, Tryd.results35, go_sem, hd0, hd1]) rfl ⟨agg2 e.out.1.symm e.out.2.symm, (b4.setCell (by simp) _).setCell (by simp) _⟩
def removedB (k : Int) : Bool := decide (k = 9 ∨ (14 ≤ k ∧ k ≤ 18))
set_option maxRecDepth 100000 in
set_option maxHeartbeats 400000 in
theorem specIsRemoved_any (k : Int) (w : World) :
    Calls Tryd.prog 46 #[.int .i64 k] w fun e w' => e = .returned (.bool (removedB k)) ∧ w = w' := by
  by_cases h1 : k = 9
  all_goals
    go_enter Tryd.func46, Tryd.ntmps46
    go_wp2_with (go_at_call 68; refine (l1In_any _ _ _ _).mono ?_; rintro e w' ⟨rfl, rfl⟩)
    go_ret
    refine ⟨rbool ?_, rfl⟩
    simp [h1, removedB]
set_option maxRecDepth 100000 in
set_option maxHeartbeats 400000 in
theorem isRemoved_any (k : Int) (w : World) :
    Calls Tryd.prog 45 #[.int .i64 k] w fun e w' => e = .returned (.bool (removedB k)) ∧ Below w.heap.size w w' := by
  by_cases h1 : k = 9
  all_goals
    go_enter Tryd.func45, Tryd.ntmps45
    go_wp2_with (go_at_call 67; refine (within_any _ _ [14, 18] 2 _ _ (Rd.lit w #[.int .i64 14, .int .i64 18] 2) (by simp)).mono ?_; rintro e w' ⟨rfl, rfl⟩)
    go_ret
    first | exact ⟨rbool (by simp [removedB, h1]), Below.refl _ _⟩ | exact ⟨rbool (by simp [removedB, h1, spans]), (Below.refl _ _).alloc (Nat.le_refl _) _⟩
theorem specIsRemoved_val (k : Int) (w : World) (_ : (Lit.int .i64 k).wf = true) :
    Calls Tryd.prog 46 #[.int .i64 k] w fun e w' => e = .returned (.bool (removedB k)) ∧ Below w.heap.size w w' :=
  (specIsRemoved_any k w).mono fun _ _ ⟨he, hw⟩ => ⟨he, hw ▸ Below.refl _ _⟩
theorem isRemoved_val (k : Int) (w : World) (_ : (Lit.int .i64 k).wf = true) :
    Calls Tryd.prog 45 #[.int .i64 k] w fun e w' => e = .returned (.bool (removedB k)) ∧ Below w.heap.size w w' := isRemoved_any k w
end Go.Proofs.YtflnpfkmlocllaaDoor
