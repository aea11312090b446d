/- Chapter 6's mathematics: each loop's step; runs; two steps in one. No program is named here. -/
import Derived.Test.YtcfnhjpmihngdaaW0
namespace Go.Proofs.Ytcfnhjpmihngdaa
open Go.RowKit

theorem set_same (a : List Int) (k : Nat) (z : Int) (h : nth a k = z) : a.set k z = a := by
  by_cases hk : k < a.length
  · refine nth_eq_of _ _ (by simp) fun j hj => ?_
    rw [nth_set _ _ _ _ hk]
    by_cases e : k = j
    · subst e; rw [if_pos rfl, h]
    · rw [if_neg e]
  · exact List.set_eq_of_length_le (by omega)
theorem hasC_no {os : List Int} {z : Int} (h : z ∉ os) : hasC os z = false := by
  cases e : hasC os z
  · rfl
  · exact absurd ((hasC_mem _ _).1 e) h
theorem hasC_yes {os : List Int} {z : Int} (h : z ∈ os) : hasC os z = true := (hasC_mem _ _).2 h
theorem fSep_eq (cs : List Int) (k : Nat) : fSep cs k = if betw cs k 3 = true then 3 else if nth cs k = 7 ∧ betw cs k 6 = true then 6 else nth cs k := rfl
theorem betw_eq (cs : List Int) (k : Nat) (c : Int) : betw cs k c = (decide (0 < k ∧ k - 1 < cs.length ∧ nth cs (k - 1) = c) && decide (k + 1 < cs.length ∧ nth cs (k + 1) = c)) := by unfold betw; rw [hasAt_pre, hasAt_nxt]
theorem fTerm_eq (cs : List Int) (k : Nat) : fTerm cs k = if hasAt cs ((k : Int) - 1) 3 = true ∨ hasAt cs (endR cs k) 3 = true then 3 else 5 := rfl
theorem fNum_eq (s : Int) (cs : List Int) (k : Nat) : fNum s cs k = if lastA [0, 1, 2] s cs k = 2 then 6 else 3 := rfl
theorem fSide_eq (s : Int) (cs : List Int) (k : Nat) : fSide s cs k = if lastA [0, 1] s cs k = 0 then 0 else 3 := rfl
theorem fEnd_eq (s : Int) (cs : List Int) (k : Nat) : fEnd s cs k = if nth cs k = 3 then fSide s cs k else 13 := rfl
theorem le_ind {P : Nat → Prop} {i : Nat} (base : P i) (succ : ∀ k, i ≤ k → P k → P (k + 1)) : ∀ k, i ≤ k → P k := by
  intro k hk
  obtain ⟨m, rfl⟩ : ∃ m, k = i + m := ⟨k - i, by omega⟩
  clear hk
  induction m with
  | zero => exact base
  | succ m ih => exact succ _ (Nat.le_add_right i m) ih
section
variable (xs : List Int) (s : Int)
/-- what is just ahead, or the side -/
def prevV (s : Int) (cs : List Int) (k : Nat) : Int := if k = 0 then s else nth cs (k - 1)
theorem prevV_next (cs : List Int) (k : Nat) : prevV s cs (k + 1) = nth cs k := by unfold prevV; rw [if_neg (by omega)]; rfl
def mV (a : Int) : Int := if 19 ≤ a ∧ a ≤ 22 then 13 else a
theorem fMark_eq (cs : List Int) (k : Nat) : fMark s cs k = mV (prevV s cs k) := rfl
theorem mark_hit {k : Nat} (h : nth (stepN [8] (fMark s) xs k) k = 8) : stepN [8] (fMark s) xs (k + 1) = (stepN [8] (fMark s) xs k).set k (mV (prevV s (stepN [8] (fMark s) xs k) k)) := stepN_hit _ _ _ k (hasC_yes (by simp [h]))
theorem mark_miss {k : Nat} (h : nth (stepN [8] (fMark s) xs k) k ≠ 8) : stepN [8] (fMark s) xs (k + 1) = stepN [8] (fMark s) xs k := stepN_miss _ _ _ k (hasC_no (by simp [h]))

-- numbers
theorem num_lit {k : Nat} (h : nth (stepN [3] (fNum s) xs k) k ≠ 3) : stepN [3] (fNum s) xs (k + 1) = stepN [3] (fNum s) xs k := stepN_miss _ _ _ k (hasC_no (by simp [h]))
theorem num_strong {k : Nat} (h : nth (stepN [3] (fNum s) xs k) k = 0 ∨ nth (stepN [3] (fNum s) xs k) k = 1 ∨ nth (stepN [3] (fNum s) xs k) k = 2) :
    stepN [3] (fNum s) xs (k + 1) = stepN [3] (fNum s) xs k ∧ lastA [0, 1, 2] s (stepN [3] (fNum s) xs (k + 1)) (k + 1) = nth (stepN [3] (fNum s) xs k) k := by
  have e := num_lit xs s (k := k) (by omega)
  rw [e]
  exact ⟨rfl, lastA_hit _ _ _ _ (hasC_yes (by simpa using h))⟩
theorem num_other {k : Nat} (h : ¬ (0 ≤ nth (stepN [3] (fNum s) xs k) k ∧ nth (stepN [3] (fNum s) xs k) k ≤ 3)) :
    stepN [3] (fNum s) xs (k + 1) = stepN [3] (fNum s) xs k ∧ lastA [0, 1, 2] s (stepN [3] (fNum s) xs (k + 1)) (k + 1) = lastA [0, 1, 2] s (stepN [3] (fNum s) xs k) k := by
  have e := num_lit xs s (k := k) (by omega)
  rw [e]
  exact ⟨rfl, lastA_miss _ _ _ _ (hasC_no (by simp; omega))⟩
theorem num_en {k : Nat} (hk : k < xs.length) (h : nth (stepN [3] (fNum s) xs k) k = 3) :
    stepN [3] (fNum s) xs (k + 1) = (if lastA [0, 1, 2] s (stepN [3] (fNum s) xs k) k = 2 then (stepN [3] (fNum s) xs k).set k 6 else stepN [3] (fNum s) xs k) ∧
    lastA [0, 1, 2] s (stepN [3] (fNum s) xs (k + 1)) (k + 1) = lastA [0, 1, 2] s (stepN [3] (fNum s) xs k) k := by
  have e := stepN_hit [3] (fNum s) xs k (hasC_yes (by simp [h]))
  have e1 : stepN [3] (fNum s) xs (k + 1) = (if lastA [0, 1, 2] s (stepN [3] (fNum s) xs k) k = 2 then (stepN [3] (fNum s) xs k).set k 6 else stepN [3] (fNum s) xs k) := by
    rw [e, fNum_eq]
    split
    · rfl
    · exact set_same _ _ _ h
  refine ⟨e1, ?_⟩
  have n := stepN_next [3] (fNum s) xs k k hk
  rw [if_pos rfl, if_pos (hasC_yes (by simp [h]))] at n
  rw [lastA_miss _ _ _ _ (hasC_no (by rw [n, fNum_eq]; split <;> simp))]
  exact lastA_congr _ _ _ _ _ fun j hj => by rw [stepN_next _ _ _ k j hk, if_neg (by omega)]
theorem let_hit {k : Nat} (h : nth (stepN [2] fLet xs k) k = 2) : stepN [2] fLet xs (k + 1) = (stepN [2] fLet xs k).set k 1 := stepN_hit _ _ _ k (hasC_yes (by simp [h]))
theorem let_miss {k : Nat} (h : nth (stepN [2] fLet xs k) k ≠ 2) : stepN [2] fLet xs (k + 1) = stepN [2] fLet xs k := stepN_miss _ _ _ k (hasC_no (by simp [h]))

-- separators
theorem sep_edge {k : Nat} (h : k = 0 ∨ xs.length ≤ k + 1) : stepN [4, 7] fSep xs (k + 1) = stepN [4, 7] fSep xs k := by
  by_cases hc : hasC [4, 7] (nth (stepN [4, 7] fSep xs k) k) = true
  · rw [stepN_hit _ _ _ k hc]
    refine set_same _ _ _ ?_
    have hb : ∀ c, betw (stepN [4, 7] fSep xs k) k c = false := by
      intro c
      rw [betw_eq, stepN_len]
      rcases h with h | h
      · subst h; simp
      · rw [show decide (k + 1 < xs.length ∧ _) = false from decide_eq_false (by omega)]; simp
    rw [fSep_eq, hb, hb]; simp
  · exact stepN_miss _ _ _ k (by simpa using hc)
def sepOn (a z b : Int) : Prop := a = b ∧ (a = 3 ∨ a = 6) ∧ (z = 7 ∨ z = 4 ∧ a = 3)
theorem sep_on {k : Nat} (h0 : 0 < k) (hk : k + 1 < xs.length) (h : sepOn (nth (stepN [4, 7] fSep xs k) (k - 1)) (nth (stepN [4, 7] fSep xs k) k) (nth (stepN [4, 7] fSep xs k) (k + 1))) :
    stepN [4, 7] fSep xs (k + 1) = (stepN [4, 7] fSep xs k).set k (nth (stepN [4, 7] fSep xs k) (k - 1)) := by
  obtain ⟨h1, h2, h3⟩ := h
  rw [stepN_hit _ _ _ k (hasC_yes (by simp; omega))]
  congr 1
  rw [fSep_eq, betw_eq, betw_eq, stepN_len]
  generalize nth (stepN [4, 7] fSep xs k) (k - 1) = a at *
  generalize nth (stepN [4, 7] fSep xs k) k = z at *
  rw [← h1]
  rcases h2 with rfl | rfl
  · rw [if_pos (by simp; omega)]
  · rw [if_neg (by simp), if_pos ⟨by omega, by simp; omega⟩]
theorem sep_off {k : Nat} (h : ¬ sepOn (nth (stepN [4, 7] fSep xs k) (k - 1)) (nth (stepN [4, 7] fSep xs k) k) (nth (stepN [4, 7] fSep xs k) (k + 1))) :
    stepN [4, 7] fSep xs (k + 1) = stepN [4, 7] fSep xs k := by
  by_cases hc : hasC [4, 7] (nth (stepN [4, 7] fSep xs k) k) = true
  · rw [stepN_hit _ _ _ k hc]
    refine set_same _ _ _ ?_
    rw [hasC_mem] at hc
    rw [fSep_eq, betw_eq, betw_eq, stepN_len]
    generalize nth (stepN [4, 7] fSep xs k) (k - 1) = a at *
    generalize nth (stepN [4, 7] fSep xs k) k = z at *
    generalize nth (stepN [4, 7] fSep xs k) (k + 1) = b at *
    have hz : z = 4 ∨ z = 7 := by simpa using hc
    unfold sepOn at h
    have n1 : ¬ ((decide (0 < k ∧ k - 1 < xs.length ∧ a = 3) && decide (k + 1 < xs.length ∧ b = 3)) = true) := by
      intro e
      rw [Bool.and_eq_true] at e
      have e1 := of_decide_eq_true e.1
      have e2 := of_decide_eq_true e.2
      exact h ⟨by omega, by omega, by omega⟩
    have n2 : ¬ (z = 7 ∧ (decide (0 < k ∧ k - 1 < xs.length ∧ a = 6) && decide (k + 1 < xs.length ∧ b = 6)) = true) := by
      rintro ⟨e0, e⟩
      rw [Bool.and_eq_true] at e
      have e1 := of_decide_eq_true e.1
      have e2 := of_decide_eq_true e.2
      exact h ⟨by omega, by omega, by omega⟩
    rw [if_neg n1, if_neg n2]
  · exact stepN_miss _ _ _ k (by simpa using hc)

-- terminators
theorem term_miss {k : Nat} (h : nth (stepN [5] fTerm xs k) k ≠ 5) : stepN [5] fTerm xs (k + 1) = stepN [5] fTerm xs k := stepN_miss _ _ _ k (hasC_no (by simp [h]))
theorem term_end {i k : Nat} (hi : i ≤ k) (hk : k < endR (stepN [5] fTerm xs i) i) : k < xs.length ∧ nth (stepN [5] fTerm xs k) k = 5 ∧ endR (stepN [5] fTerm xs k) k = endR (stepN [5] fTerm xs i) i := by
  have in5 : ∀ j, i ≤ j → j < endR (stepN [5] fTerm xs i) i → j < xs.length ∧ nth xs j = 5 := by
    intro j h1 h2
    have := endR_in _ _ j h1 h2
    rw [hasAt_nat, stepN_len] at this
    have h3 := of_decide_eq_true this
    have e := stepN_far [5] fTerm xs i j h1 (by omega)
    exact ⟨h3.1, by rw [← e]; exact h3.2⟩
  have kk := in5 k hi hk
  refine ⟨kk.1, by rw [stepN_far _ _ _ k k (Nat.le_refl _) (by omega)]; exact kk.2, ?_⟩
  refine endR_eq _ _ _ (by omega) (fun j h1 h2 => ?_) ?_
  · have := in5 j (by omega) h2
    rw [hasAt_nat, stepN_len, stepN_far _ _ _ k j h1 (by omega)]
    exact decide_eq_true this
  · have := endR_out (stepN [5] fTerm xs i) i
    rw [hasAt_nat, stepN_len] at this ⊢
    rw [stepN_far _ _ _ i _ (by omega) (by omega)] at this
    rw [stepN_far _ _ _ k _ (by omega) (by omega)]
    exact this
def termOn (cs : List Int) (i : Nat) : Prop := (0 < i ∧ nth cs (i - 1) = 3) ∨ (endR cs i < cs.length ∧ nth cs (endR cs i) = 3)
theorem term_yes {i : Nat} (ho : termOn (stepN [5] fTerm xs i) i) : ∀ k, i ≤ k → k < endR (stepN [5] fTerm xs i) i → fTerm (stepN [5] fTerm xs k) k = 3 ∧ stepN [5] fTerm xs (k + 1) = (stepN [5] fTerm xs k).set k 3 := by
  refine le_ind ?base ?succ
  case base =>
    intro hk
    have t := term_end xs (Nat.le_refl i) hk
    have hf : fTerm (stepN [5] fTerm xs i) i = 3 := by
      rw [fTerm_eq, if_pos]
      rw [hasAt_pre, hasAt_nat]
      rcases ho with ⟨h1, h2⟩ | ⟨h1, h2⟩
      · left; rw [stepN_len]; simp [h2]; omega
      · right; simp [h1, h2]
    exact ⟨hf, by rw [stepN_hit _ _ _ i (hasC_yes (by simp [t.2.1])), hf]⟩
  case succ =>
    intro k hi ih hk
    have t := term_end xs (show i ≤ k + 1 by omega) hk
    have ih := ih (by omega)
    have hf : fTerm (stepN [5] fTerm xs (k + 1)) (k + 1) = 3 := by
      rw [fTerm_eq, if_pos]
      left
      rw [hasAt_pre, stepN_len]
      have e : nth (stepN [5] fTerm xs (k + 1)) (k + 1 - 1) = 3 := by
        rw [ih.2]
        show nth _ k = 3
        rw [nth_set _ _ _ _ (by rw [stepN_len]; omega), if_pos rfl]
      rw [e]; simp; omega
    exact ⟨hf, by rw [stepN_hit _ _ _ (k + 1) (hasC_yes (by simp [t.2.1])), hf]⟩
theorem term_no {i : Nat} (ho : ¬ termOn (stepN [5] fTerm xs i) i) : ∀ k, i ≤ k → k ≤ endR (stepN [5] fTerm xs i) i → stepN [5] fTerm xs k = stepN [5] fTerm xs i := by
  refine le_ind ?base ?succ
  case base => intro _; rfl
  case succ =>
    intro k hi ih hk
    have t := term_end xs hi (show k < endR (stepN [5] fTerm xs i) i by omega)
    have ih := ih (by omega)
    rw [stepN_hit _ _ _ k (hasC_yes (by simp [t.2.1]))]
    have hf : fTerm (stepN [5] fTerm xs k) k = 5 := by
      rw [fTerm_eq, if_neg]
      rw [hasAt_pre, t.2.2, hasAt_nat, ih]
      unfold termOn at ho
      intro h
      rcases h with h | h
      · have h := of_decide_eq_true h
        by_cases e : k = i
        · subst e; exact ho (.inl ⟨h.1, h.2.2⟩)
        · have t2 := term_end xs (show i ≤ k - 1 by omega) (show k - 1 < endR (stepN [5] fTerm xs i) i by omega)
          have e1 := stepN_far [5] fTerm xs (k - 1) (k - 1) (Nat.le_refl _) (by omega)
          have e2 := stepN_far [5] fTerm xs i (k - 1) (by omega) (by omega)
          omega
      · exact ho (.inr (of_decide_eq_true h))
    rw [hf, set_same _ _ _ t.2.1, ih]

-- the end of signs: two steps in one
theorem end_other {k : Nat} (h : nth (stepN [3, 4, 5, 7] (fEnd s) xs k) k ∉ ([0, 1, 3, 4, 5, 7] : List Int)) :
    stepN [3, 4, 5, 7] (fEnd s) xs (k + 1) = stepN [3, 4, 5, 7] (fEnd s) xs k ∧ lastA [0, 1] s (stepN [3, 4, 5, 7] (fEnd s) xs (k + 1)) (k + 1) = lastA [0, 1] s (stepN [3, 4, 5, 7] (fEnd s) xs k) k := by
  have e := stepN_miss [3, 4, 5, 7] (fEnd s) xs k (hasC_no (by simp at h ⊢; omega))
  rw [e]
  exact ⟨rfl, lastA_miss _ _ _ _ (hasC_no (by simp at h ⊢; omega))⟩
theorem end_strong {k : Nat} (h : nth (stepN [3, 4, 5, 7] (fEnd s) xs k) k = 0 ∨ nth (stepN [3, 4, 5, 7] (fEnd s) xs k) k = 1) :
    stepN [3, 4, 5, 7] (fEnd s) xs (k + 1) = stepN [3, 4, 5, 7] (fEnd s) xs k ∧ lastA [0, 1] s (stepN [3, 4, 5, 7] (fEnd s) xs (k + 1)) (k + 1) = nth (stepN [3, 4, 5, 7] (fEnd s) xs k) k := by
  have e := stepN_miss [3, 4, 5, 7] (fEnd s) xs k (hasC_no (by simp; omega))
  rw [e]
  exact ⟨rfl, lastA_hit _ _ _ _ (hasC_yes (by simpa using h))⟩
theorem end_rest {k : Nat} (hk : k < xs.length) (h : nth (stepN [3, 4, 5, 7] (fEnd s) xs k) k = 4 ∨ nth (stepN [3, 4, 5, 7] (fEnd s) xs k) k = 5 ∨ nth (stepN [3, 4, 5, 7] (fEnd s) xs k) k = 7) :
    stepN [3, 4, 5, 7] (fEnd s) xs (k + 1) = (stepN [3, 4, 5, 7] (fEnd s) xs k).set k 13 ∧ lastA [0, 1] s (stepN [3, 4, 5, 7] (fEnd s) xs (k + 1)) (k + 1) = lastA [0, 1] s (stepN [3, 4, 5, 7] (fEnd s) xs k) k := by
  have e := stepN_hit [3, 4, 5, 7] (fEnd s) xs k (hasC_yes (by simp [h]))
  have hf : fEnd s (stepN [3, 4, 5, 7] (fEnd s) xs k) k = 13 := by rw [fEnd_eq, if_neg (by omega)]
  rw [hf] at e
  refine ⟨e, ?_⟩
  have n : nth (stepN [3, 4, 5, 7] (fEnd s) xs (k + 1)) k = 13 := by rw [e, nth_set _ _ _ _ (by rw [stepN_len]; exact hk), if_pos rfl]
  rw [lastA_miss _ _ _ _ (hasC_no (by rw [n]; simp))]
  exact lastA_congr _ _ _ _ _ fun j hj => by rw [stepN_next _ _ _ k j hk, if_neg (by omega)]
theorem end_en {k : Nat} (hk : k < xs.length) (h : nth (stepN [3, 4, 5, 7] (fEnd s) xs k) k = 3) :
    stepN [3, 4, 5, 7] (fEnd s) xs (k + 1) = (if lastA [0, 1] s (stepN [3, 4, 5, 7] (fEnd s) xs k) k = 0 then (stepN [3, 4, 5, 7] (fEnd s) xs k).set k 0 else stepN [3, 4, 5, 7] (fEnd s) xs k) ∧
    lastA [0, 1] s (stepN [3, 4, 5, 7] (fEnd s) xs (k + 1)) (k + 1) = lastA [0, 1] s (stepN [3, 4, 5, 7] (fEnd s) xs k) k := by
  have e := stepN_hit [3, 4, 5, 7] (fEnd s) xs k (hasC_yes (by simp [h]))
  have hf : fEnd s (stepN [3, 4, 5, 7] (fEnd s) xs k) k = if lastA [0, 1] s (stepN [3, 4, 5, 7] (fEnd s) xs k) k = 0 then 0 else 3 := by rw [fEnd_eq, if_pos h]; rfl
  rw [hf] at e
  have cg : lastA [0, 1] s (stepN [3, 4, 5, 7] (fEnd s) xs (k + 1)) k = lastA [0, 1] s (stepN [3, 4, 5, 7] (fEnd s) xs k) k := lastA_congr _ _ _ _ _ fun j hj => by rw [stepN_next _ _ _ k j hk, if_neg (by omega)]
  have n : nth (stepN [3, 4, 5, 7] (fEnd s) xs (k + 1)) k = if lastA [0, 1] s (stepN [3, 4, 5, 7] (fEnd s) xs k) k = 0 then 0 else 3 := by rw [e, nth_set _ _ _ _ (by rw [stepN_len]; exact hk), if_pos rfl]
  by_cases hl : lastA [0, 1] s (stepN [3, 4, 5, 7] (fEnd s) xs k) k = 0
  · rw [if_pos hl] at e n ⊢
    refine ⟨e, ?_⟩
    rw [lastA_hit _ _ _ _ (hasC_yes (by rw [n]; simp)), n, hl]
  · rw [if_neg hl] at e n ⊢
    refine ⟨by rw [e, set_same _ _ _ h], ?_⟩
    rw [lastA_miss _ _ _ _ (hasC_no (by rw [n]; simp)), cg]
theorem end_both : doStep [3] (fSide s) (doStep [4, 5, 7] fRest xs) = doStep [3, 4, 5, 7] (fEnd s) xs := by
  have hA : (doStep [4, 5, 7] fRest xs).length = xs.length := doStep_len _ _ _
  have main : ∀ k, k ≤ xs.length → ∀ j, j < k → nth (stepN [3] (fSide s) (doStep [4, 5, 7] fRest xs) k) j = nth (stepN [3, 4, 5, 7] (fEnd s) xs k) j := by
    intro k
    induction k with
    | zero => intro _ j hj; omega
    | succ k ih =>
      intro hk j hj
      have ih := ih (by omega)
      rw [stepN_next _ _ _ k j (by omega), stepN_next _ _ _ k j (by omega)]
      by_cases e : j = k
      · subst e
        rw [if_pos rfl, if_pos rfl, stepN_far _ _ _ j j (Nat.le_refl _) (by omega), stepN_far _ _ _ j j (Nat.le_refl _) (by omega), step_at _ _ _ j (by omega)]
        have cg : fSide s (stepN [3] (fSide s) (doStep [4, 5, 7] fRest xs) j) j = fSide s (stepN [3, 4, 5, 7] (fEnd s) xs j) j := by rw [fSide_eq, fSide_eq, lastA_congr _ _ _ _ _ ih]
        have fe : fEnd s (stepN [3, 4, 5, 7] (fEnd s) xs j) j = if nth xs j = 3 then fSide s (stepN [3, 4, 5, 7] (fEnd s) xs j) j else 13 := by rw [fEnd_eq, stepN_far _ _ _ j j (Nat.le_refl _) (by omega)]
        rw [cg, fe]
        generalize nth xs j = z
        show _ = _
        by_cases h3 : z = 3
        · subst h3; simp [hasC]
        · by_cases h4 : z = 4 ∨ z = 5 ∨ z = 7
          · rw [hasC_yes (os := [4, 5, 7]) (by simpa using h4), hasC_yes (os := [3, 4, 5, 7]) (by simp [h4])]
            simp [hasC, fRest, h3]
          · rw [hasC_no (os := [4, 5, 7]) (by simpa using h4), hasC_no (os := [3, 4, 5, 7]) (by simp; omega)]
            simp [hasC]
            intro e; exact absurd e h3
      · rw [if_neg e, if_neg e]; exact ih j (by omega)
  refine nth_eq_of _ _ (by rw [doStep_len, doStep_len, doStep_len]) fun j hj => ?_
  rw [doStep_len, hA] at hj
  have := main xs.length (Nat.le_refl _) j hj
  unfold doStep at *
  rw [hA]; exact this
end
end Go.Proofs.Ytcfnhjpmihngdaa
