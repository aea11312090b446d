/- ClassOf, IsShown: the program's and the model's. -/
import Derived.Test.YtflnpfkmlocllaaDoorC4
namespace Go.Proofs.YtflnpfkmlocllaaDoor
open Go.RowKit Go.Maps

theorem isChrR {c : Int} (h : isChr c = true) : 0 ≤ c ∧ c ≤ 1114111 := by simp [isChr] at h; omega

set_option maxRecDepth 100000 in
set_option maxHeartbeats 1000000 in
theorem l2Ascii_any (c : Int) (w : World) (h0 : 0 ≤ c) (h1 : c < 192) :
    Calls Tryd.prog 96 #[.int .i64 c] w fun e w' => e = .returned (.int .i64 (classN c)) ∧ w = w' := by
  go_enter Tryd.func96, Tryd.ntmps96
  go_wp2_with (go_at_call 68; refine (l1In_any _ _ _ _).mono ?_; rintro e w' ⟨rfl, rfl⟩)
  all_goals
    go_ret
    refine ⟨rint ?_, rfl⟩
    try simp only [beq_iff_eq, beq_eq_false_iff_ne, ne_eq] at *
    unfold classN
    repeat (first | rw [if_pos (by omega)] | rw [if_neg (by omega)])

set_option maxRecDepth 100000 in
set_option maxHeartbeats 1000000 in
theorem l2Class_any (c : Int) (w : World) (h0 : 0 ≤ c) :
    Calls Tryd.prog 80 #[.int .i64 c] w fun e w' => e = .returned (.int .i64 (classN c)) ∧ w = w' := by
  by_cases h1 : c < 192
  · go_enter Tryd.func80, Tryd.ntmps80
    go_wp2_with (go_at_call 96; refine (l2Ascii_any _ _ h0 h1).mono ?_; rintro e w' ⟨rfl, rfl⟩)
    go_ret
    exact ⟨rfl, rfl⟩
  · go_enter Tryd.func80, Tryd.ntmps80
    go_wp2_with (go_at_call 68; refine (l1In_any _ _ _ _).mono ?_; rintro e w' ⟨rfl, rfl⟩)
    all_goals
      go_ret
      refine ⟨rint ?_, rfl⟩
      try simp only [beq_iff_eq, beq_eq_false_iff_ne, ne_eq] at *
      unfold classN
      repeat (first | rw [if_pos (by omega)] | rw [if_neg (by omega)])
    all_goals omega

def classC (c : Int) : Int := if isChr c = true then 0 else 3
def classV (c : Int) : Int := if isChr c = true then classN c else 0
theorem class_no {c : Int} (h : isChr c = false) : classC c = 3 ∧ classV c = 0 := by unfold classC classV; simp [h]
theorem class_yes {c : Int} (h : isChr c = true) : classC c = 0 ∧ classV c = classN c := by unfold classC classV; simp [h]

set_option maxRecDepth 100000 in
set_option maxHeartbeats 1000000 in
theorem specClassOf_val (c : Int) (w : World) (_ : (Lit.int .i64 c).wf = true) :
    Calls Tryd.prog 40 #[.int .i64 c] w fun e w' => e = .returned (.agg #[.int .i64 (classC c), .int .i64 (classV c)]) ∧ Below w.heap.size w w' := by
  have hb := fun x y => (Below.refl w.heap.size w).alloc (Nat.le_refl _) (.cells #[.int .i64 x, .int .i64 y] 47)
  cases h1 : isChr c
  · have e := Lib.hid (class_no h1)
    go_enter Tryd.func40, Tryd.ntmps40
    go_wp2_with (go_at_call 21; refine (specIsChar_b _ _).mono ?_; rintro e w' ⟨rfl, rfl⟩)
    exact bodyPost_ret (v := .agg #[.int .i64 3, .int .i64 0]) (by simp [results, Tryd.results40, go_sem]) rfl ⟨agg2 e.out.1.symm e.out.2.symm, hb _ _⟩
  · have e := Lib.hid (class_yes h1)
    have h0 := (isChrR h1).1
    go_enter Tryd.func40, Tryd.ntmps40
    go_wp2_with (first
      | (go_at_call 21; refine (specIsChar_b _ _).mono ?_; rintro e w' ⟨rfl, rfl⟩)
      | (go_at_call 80; refine (l2Class_any _ _ h0).mono ?_; rintro e w' ⟨rfl, rfl⟩))
    exact bodyPost_ret (v := .agg #[.int .i64 0, .int .i64 (classN c)]) (by simp [results, Tryd.results40, go_sem]) rfl ⟨agg2 e.out.1.symm e.out.2.symm, hb _ _⟩

set_option maxRecDepth 100000 in
set_option maxHeartbeats 1000000 in
theorem classOf_val (c : Int) (w : World) (_ : (Lit.int .i64 c).wf = true) :
    Calls Tryd.prog 31 #[.int .i64 c] w fun e w' => e = .returned (.agg #[.int .i64 (classC c), .int .i64 (classV c)]) ∧ Below w.heap.size w w' := by
  have b0 := (Below.refl w.heap.size w).alloc (Nat.le_refl _) (.cells #[.int .i64 0, .int .i64 0] 47)
  have k0 := Blk.new w 47 #[.int .i64 0, .int .i64 0]
  go_enter Tryd.func31, Tryd.ntmps31
  go_wp2_with fail
  refine (isChar_b _ _).mono ?_
  rintro e w1 ⟨rfl, b1⟩
  have k1 := k0.below b1 k0.lt
  have b2 := below_on b0 b1 (Nat.le_refl _)
  cases h1 : isChr c
  · have e := Lib.hid (class_no h1)
    have hd0 := k1.cell 0 (u := .int .i64 0) rfl
    have hd1 := k1.cell 1 (u := .int .i64 0) rfl
    have hf0 := k1.frozen 0
    have hf1 := k1.frozen 1
    go_wp2
    exact bodyPost_ret (v := .agg #[.int .i64 3, .int .i64 0]) (by simp [results, Tryd.results31, go_sem, hd0, hd1]) rfl ⟨agg2 e.out.1.symm e.out.2.symm, (b2.setCell (by simp) _).setCell (by simp) _⟩
  · have e := Lib.hid (class_yes h1)
    go_wp2_with fail
    refine (classRules_any _).mono ?_
    rintro e w2 ⟨⟨rfl, es, clock, hm⟩, b3⟩
    have HM := Lib.hid hm
    have k2 := k1.below b3 k1.lt
    have b4 := below_on b2 b3 (Nat.le_refl _)
    clear hm
    go_wp2_with fail
    refine (classBy_any _ _ _ _ _ HM.out).mono ?_
    rintro e w3 ⟨rfl, b5⟩
    have k3 := k2.below b5 k2.lt
    have b6 := below_on b4 b5 (Nat.le_refl _)
    have hd0 := k3.cell 0 (u := .int .i64 0) rfl
    have hd1 := k3.cell 1 (u := .int .i64 0) rfl
    have hf0 := k3.frozen 0
    have hf1 := k3.frozen 1
    go_wp2
    exact bodyPost_ret (v := .agg #[.int .i64 0, .int .i64 (classN c)]) (by simp [results, Tryd.results31, go_sem, hd0, hd1]) rfl ⟨agg2 e.out.1.symm e.out.2.symm, (b6.setCell (by simp) _).setCell (by simp) _⟩

def isoB (k : Int) : Bool := decide (19 ≤ k ∧ k ≤ 22)
def shownK (k : Int) : Bool := !removedB k && (k != 10) && !isoB k
def shownB (c : Int) : Bool := isChr c && shownK (classN c)
theorem l2Isolate_any (k : Int) (w : World) :
    Calls Tryd.prog 97 #[.int .i64 k] w fun e w' => e = .returned (.bool (isoB k)) ∧ w = w' := by
  go_enter Tryd.func97, Tryd.ntmps97
  go_wp2_with (go_at_call 68; refine (l1In_any _ _ _ _).mono ?_; rintro e w' ⟨rfl, rfl⟩)
  go_ret
  exact ⟨rbool (by simp [isoB]), rfl⟩

set_option maxRecDepth 100000 in
set_option maxHeartbeats 1000000 in
theorem l2Shown_any (c : Int) (w : World) (h0 : 0 ≤ c) :
    Calls Tryd.prog 85 #[.int .i64 c] w fun e w' => e = .returned (.bool (shownK (classN c))) ∧ w = w' := by
  have hc := fun w => l2Class_any c w h0
  generalize classN c = k at *
  have e := Lib.hid (show shownK k = (!removedB k && (k != 10) && !isoB k) from rfl)
  have HC := Lib.hid hc
  clear hc
  cases h1 : removedB k
  · by_cases h2 : k = 10
    · subst h2
      go_enter Tryd.func85, Tryd.ntmps85
      go_wp2_with (first
        | (go_at_call 80; refine (HC.out _).mono ?_; rintro e w' ⟨rfl, rfl⟩)
        | (go_at_call 46; refine (specIsRemoved_any _ _).mono ?_; rintro e w' ⟨rfl, rfl⟩)
        | (go_at_call 97; refine (l2Isolate_any _ _).mono ?_; rintro e w' ⟨rfl, rfl⟩))
      go_ret
      exact ⟨rbool (by rw [e.out, h1]; rfl), rfl⟩
    · have h3 := ne_no h2
      have H2 := Lib.hid h2
      clear h2
      cases h4 : isoB k
      all_goals
        go_enter Tryd.func85, Tryd.ntmps85
        go_wp2_with (first
          | (go_at_call 80; refine (HC.out _).mono ?_; rintro e w' ⟨rfl, rfl⟩)
          | (go_at_call 46; refine (specIsRemoved_any _ _).mono ?_; rintro e w' ⟨rfl, rfl⟩)
          | (go_at_call 97; refine (l2Isolate_any _ _).mono ?_; rintro e w' ⟨rfl, rfl⟩))
        go_ret
        exact ⟨rbool (by rw [e.out, h1, h4, ne_no H2.out]; rfl), rfl⟩
  · go_enter Tryd.func85, Tryd.ntmps85
    go_wp2_with (first
      | (go_at_call 80; refine (HC.out _).mono ?_; rintro e w' ⟨rfl, rfl⟩)
      | (go_at_call 46; refine (specIsRemoved_any _ _).mono ?_; rintro e w' ⟨rfl, rfl⟩)
      | (go_at_call 97; refine (l2Isolate_any _ _).mono ?_; rintro e w' ⟨rfl, rfl⟩))
    go_ret
    exact ⟨rbool (by rw [e.out, h1]; rfl), rfl⟩
set_option maxRecDepth 100000 in
set_option maxHeartbeats 1000000 in
theorem specIsShown_val (c : Int) (w : World) (_ : (Lit.int .i64 c).wf = true) :
    Calls Tryd.prog 48 #[.int .i64 c] w fun e w' => e = .returned (.bool (shownB c)) ∧ Below w.heap.size w w' := by
  cases h1 : isChr c
  · have e := Lib.hid (show shownB c = false by unfold shownB; rw [h1]; rfl)
    go_enter Tryd.func48, Tryd.ntmps48
    go_wp2_with (go_at_call 21; refine (specIsChar_b _ _).mono ?_; rintro e w' ⟨rfl, rfl⟩)
    go_ret
    exact ⟨rbool e.out.symm, Below.refl _ _⟩
  · have e := Lib.hid (show shownB c = shownK (classN c) by unfold shownB; rw [h1]; rfl)
    have h0 := (isChrR h1).1
    go_enter Tryd.func48, Tryd.ntmps48
    go_wp2_with (first
      | (go_at_call 21; refine (specIsChar_b _ _).mono ?_; rintro e w' ⟨rfl, rfl⟩)
      | (go_at_call 85; refine (l2Shown_any _ _ h0).mono ?_; rintro e w' ⟨rfl, rfl⟩))
    go_ret
    exact ⟨rbool e.out.symm, Below.refl _ _⟩

set_option maxRecDepth 100000 in
set_option maxHeartbeats 1000000 in
theorem isShown_val (c : Int) (w : World) (hw : (Lit.int .i64 c).wf = true) :
    Calls Tryd.prog 47 #[.int .i64 c] w fun e w' => e = .returned (.bool (shownB c)) ∧ Below w.heap.size w w' := by
  have HW := Lib.hid hw
  clear hw
  go_enter Tryd.func47, Tryd.ntmps47
  go_wp2_with fail
  refine (classOf_val _ _ HW.out).mono ?_
  rintro e w1 ⟨rfl, b1⟩
  have k1 := Blk.new w1 47 #[.int .i64 (classC c), .int .i64 (classV c)]
  have hd0 := k1.cell 0 (u := .int .i64 (classC c)) rfl
  have hd1 := k1.cell 1 (u := .int .i64 (classV c)) rfl
  have b2 := b1.alloc b1.size (.cells #[.int .i64 (classC c), .int .i64 (classV c)] 47)
  cases h1 : isChr c
  · rw [(class_no h1).1, (class_no h1).2] at *
    have e := Lib.hid (show shownB c = false by unfold shownB; rw [h1]; rfl)
    go_wp2
    go_ret
    exact ⟨rbool e.out.symm, b2⟩
  · rw [(class_yes h1).1, (class_yes h1).2] at *
    have e := Lib.hid (show shownB c = shownK (classN c) by unfold shownB; rw [h1]; rfl)
    generalize classN c = k at *
    have ek := Lib.hid (show shownK k = (!removedB k && (k != 10) && !isoB k) from rfl)
    have szk := k1.lt
    cases h2 : removedB k
    · go_wp2_with fail
      refine (isRemoved_any _ _).mono ?_
      rintro e w2 ⟨rfl, b3⟩
      have k2 := k1.below b3 k1.lt
      have b4 := below_on b2 b3 (Nat.le_refl _)
      clear hd0 hd1
      have hd0 := (k2.alloc (.cells #[.int .i64 10, .int .i64 10, .int .i64 19, .int .i64 22] 2)).cell 1 (u := .int .i64 k) rfl
      have hd1 := k2.cell 1 (u := .int .i64 k) rfl
      rw [h2]
      go_wp2_with (go_at_call 67; ((with_reducible refine (within_lit4 _ _ _ _ _ _ _ _ (by simp)).mono ?_); rintro e w' ⟨rfl, rfl⟩))
      go_ret
      refine ⟨rbool ?_, b4.alloc b4.size _⟩
      rw [e.out, ek.out, h2]
      simp only [spans, isoB]
      rw [Bool.eq_iff_iff]; simp; omega
    · go_wp2_with fail
      refine (isRemoved_any _ _).mono ?_
      rintro e w2 ⟨rfl, b3⟩
      rw [h2]
      go_wp2
      go_ret
      refine ⟨rbool ?_, below_on b2 b3 (Nat.le_refl _)⟩
      rw [e.out, ek.out, h2]; rfl
end Go.Proofs.YtflnpfkmlocllaaDoor
