/- Chapter 6: what the program's walk tells of a place. -/
import Derived.Test.YtcfnhjpmihngdaaGreatY09
import Derived.Test.YtcfnhjpmihngdaaGreatY02
import Derived.Test.YtcfnhjpmihngdaaGreatY01
import Derived.Test.YtcfnhjpmihngdaaGreatY08
namespace Go.Proofs.YtcfnhjpmihngdaaGreat
open Go.RowKit

theorem set_same (a : List Int) (k : Nat) (z : Int) (h : nth a k = z) : a.set k z = a := by
  by_cases hk : k < a.length
  · refine nth_eq_of _ _ (by simp) fun j hj => ?_
    rw [nth_set _ _ _ _ hk]
    by_cases e : k = j
    · subst e; rw [if_pos rfl, h]
    · rw [if_neg e]
  · exact List.set_eq_of_length_le (by omega)
theorem hasC_no {os : List Int} {z : Int} (h : z ∉ os) : hasC os z = false := by
  cases e : hasC os z
  · rfl
  · exact absurd ((hasC_mem _ _).1 e) h
theorem hasC_yes {os : List Int} {z : Int} (h : z ∈ os) : hasC os z = true := (hasC_mem _ _).2 h
theorem fSep_eq (cs : List Int) (k : Nat) : fSep cs k = if betw cs k 3 = true then 3 else if nth cs k = 7 ∧ betw cs k 6 = true then 6 else nth cs k := rfl
theorem betw_eq (cs : List Int) (k : Nat) (c : Int) : betw cs k c = (decide (0 < k ∧ k - 1 < cs.length ∧ nth cs (k - 1) = c) && decide (k + 1 < cs.length ∧ nth cs (k + 1) = c)) := by unfold betw; rw [hasAt_pre, hasAt_nxt]
theorem fTerm_eq (cs : List Int) (k : Nat) : fTerm cs k = if hasAt cs ((k : Int) - 1) 3 = true ∨ hasAt cs (endR cs k) 3 = true then 3 else 5 := rfl
theorem fNum_eq (s : Int) (cs : List Int) (k : Nat) : fNum s cs k = if lastA [0, 1, 2] s cs k = 2 then 6 else 3 := rfl
theorem fSide_eq (s : Int) (cs : List Int) (k : Nat) : fSide s cs k = if lastA [0, 1] s cs k = 0 then 0 else 3 := rfl
theorem fEnd_eq (s : Int) (cs : List Int) (k : Nat) : fEnd s cs k = if nth cs k = 3 then fSide s cs k else 13 := rfl
theorem le_ind {P : Nat → Prop} {i : Nat} (base : P i) (succ : ∀ k, i ≤ k → P k → P (k + 1)) : ∀ k, i ≤ k → P k := by
  intro k hk
  obtain ⟨m, rfl⟩ : ∃ m, k = i + m := ⟨k - i, by omega⟩
  clear hk
  induction m with
  | zero => exact base
  | succ m ih => exact succ _ (Nat.le_add_right i m) ih
section
variable (xs : List Int) (s : Int)
/-- what is just ahead, or the side -/
def prevV (s : Int) (cs : List Int) (k : Nat) : Int := if k = 0 then s else nth cs (k - 1)
theorem prevV_next (cs : List Int) (k : Nat) : prevV s cs (k + 1) = nth cs k := by unfold prevV; rw [if_neg (by omega)]; rfl
def mV (a : Int) : Int := if 19 ≤ a ∧ a ≤ 22 then 13 else a
theorem fMark_eq (cs : List Int) (k : Nat) : fMark s cs k = mV (prevV s cs k) := rfl
theorem mark_hit {k : Nat} (h : nth (stepN [8] (fMark s) xs k) k = 8) : stepN [8] (fMark s) xs (k + 1) = (stepN [8] (fMark s) xs k).set k (mV (prevV s (stepN [8] (fMark s) xs k) k)) := stepN_hit _ _ _ k (hasC_yes (by simp [h]))
theorem mark_miss {k : Nat} (h : nth (stepN [8] (fMark s) xs k) k ≠ 8) : stepN [8] (fMark s) xs (k + 1) = stepN [8] (fMark s) xs k := stepN_miss _ _ _ k (hasC_no (by simp [h]))

-- numbers
theorem num_lit {k : Nat} (h : nth (stepN [3] (fNum s) xs k) k ≠ 3) : stepN [3] (fNum s) xs (k + 1) = stepN [3] (fNum s) xs k := stepN_miss _ _ _ k (hasC_no (by simp [h]))
theorem num_strong {k : Nat} (h : nth (stepN [3] (fNum s) xs k) k = 0 ∨ nth (stepN [3] (fNum s) xs k) k = 1 ∨ nth (stepN [3] (fNum s) xs k) k = 2) :
    stepN [3] (fNum s) xs (k + 1) = stepN [3] (fNum s) xs k ∧ lastA [0, 1, 2] s (stepN [3] (fNum s) xs (k + 1)) (k + 1) = nth (stepN [3] (fNum s) xs k) k := by
  have e := num_lit xs s (k := k) (by omega)
  rw [e]
  exact ⟨rfl, lastA_hit _ _ _ _ (hasC_yes (by simpa using h))⟩
theorem num_other {k : Nat} (h : ¬ (0 ≤ nth (stepN [3] (fNum s) xs k) k ∧ nth (stepN [3] (fNum s) xs k) k ≤ 3)) :
    stepN [3] (fNum s) xs (k + 1) = stepN [3] (fNum s) xs k ∧ lastA [0, 1, 2] s (stepN [3] (fNum s) xs (k + 1)) (k + 1) = lastA [0, 1, 2] s (stepN [3] (fNum s) xs k) k := by
  have e := num_lit xs s (k := k) (by omega)
  rw [e]
  exact ⟨rfl, lastA_miss _ _ _ _ (hasC_no (by simp; omega))⟩
theorem num_en {k : Nat} (hk : k < xs.length) (h : nth (stepN [3] (fNum s) xs k) k = 3) :
    stepN [3] (fNum s) xs (k + 1) = (if lastA [0, 1, 2] s (stepN [3] (fNum s) xs k) k = 2 then (stepN [3] (fNum s) xs k).set k 6 else stepN [3] (fNum s) xs k) ∧
    lastA [0, 1, 2] s (stepN [3] (fNum s) xs (k + 1)) (k + 1) = lastA [0, 1, 2] s (stepN [3] (fNum s) xs k) k := by
  have e := stepN_hit [3] (fNum s) xs k (hasC_yes (by simp [h]))
  have e1 : stepN [3] (fNum s) xs (k + 1) = (if lastA [0, 1, 2] s (stepN [3] (fNum s) xs k) k = 2 then (stepN [3] (fNum s) xs k).set k 6 else stepN [3] (fNum s) xs k) := by
    rw [e, fNum_eq]
    split
    · rfl
    · exact set_same _ _ _ h
  refine ⟨e1, ?_⟩
  have n := stepN_next [3] (fNum s) xs k k hk
  rw [if_pos rfl, if_pos (hasC_yes (by simp [h]))] at n
  rw [lastA_miss _ _ _ _ (hasC_no (by rw [n, fNum_eq]; split <;> simp))]
  exact lastA_congr _ _ _ _ _ fun j hj => by rw [stepN_next _ _ _ k j hk, if_neg (by omega)]
theorem let_hit {k : Nat} (h : nth (stepN [2] fLet xs k) k = 2) : stepN [2] fLet xs (k + 1) = (stepN [2] fLet xs k).set k 1 := stepN_hit _ _ _ k (hasC_yes (by simp [h]))
theorem let_miss {k : Nat} (h : nth (stepN [2] fLet xs k) k ≠ 2) : stepN [2] fLet xs (k + 1) = stepN [2] fLet xs k := stepN_miss _ _ _ k (hasC_no (by simp [h]))

-- separators
theorem sep_edge {k : Nat} (h : k = 0 ∨ xs.length ≤ k + 1) : stepN [4, 7] fSep xs (k + 1) = stepN [4, 7] fSep xs k := by
  by_cases hc : hasC [4, 7] (nth (stepN [4, 7] fSep xs k) k) = true
  · rw [stepN_hit _ _ _ k hc]
    refine set_same _ _ _ ?_
    have hb : ∀ c, betw (stepN [4, 7] fSep xs k) k c = false := by
      intro c
      rw [betw_eq, stepN_len]
      rcases h with h | h
      · subst h; simp
      · rw [show decide (k + 1 < xs.length ∧ _) = false from decide_eq_false (by omega)]; simp
    rw [fSep_eq, hb, hb]; simp
  · exact stepN_miss _ _ _ k (by simpa using hc)
def sepOn (a z b : Int) : Prop := a = b ∧ (a = 3 ∨ a = 6) ∧ (z = 7 ∨ z = 4 ∧ a = 3)
theorem sep_on {k : Nat} (h0 : 0 < k) (hk : k + 1 < xs.length) (h : sepOn (nth (stepN [4, 7] fSep xs k) (k - 1)) (nth (stepN [4, 7] fSep xs k) k) (nth (stepN [4, 7] fSep xs k) (k + 1))) :
    stepN [4, 7] fSep xs (k + 1) = (stepN [4, 7] fSep xs k).set k (nth (stepN [4, 7] fSep xs k) (k - 1)) := by
  obtain ⟨h1, h2, h3⟩ := h
  rw [stepN_hit _ _ _ k (hasC_yes (by simp; omega))]
  congr 1
  rw [fSep_eq, betw_eq, betw_eq, stepN_len]
  generalize nth (stepN [4, 7] fSep xs k) (k - 1) = a at *
  generalize nth (stepN [4, 7] fSep xs k) k = z at *
  rw [← h1]
  rcases h2 with rfl | rfl
  · rw [if_pos (by simp; omega)]
  · rw [if_neg (by simp), if_pos ⟨by omega, by simp; omega⟩]
theorem sep_off {k : Nat} (h : ¬ sepOn (nth (stepN [4, 7] fSep xs k) (k - 1)) (nth (stepN [4, 7] fSep xs k) k) (nth (stepN [4, 7] fSep xs k) (k + 1))) :
    stepN [4, 7] fSep xs (k + 1) = stepN [4, 7] fSep xs k := by
  by_cases hc : hasC [4, 7] (nth (stepN [4, 7] fSep xs k) k) = true
  · rw [stepN_hit _ _ _ k hc]
    refine set_same _ _ _ ?_
    rw [hasC_mem] at hc
    rw [fSep_eq, betw_eq, betw_eq, stepN_len]
    generalize nth (stepN [4, 7] fSep xs k) (k - 1) = a at *
    generalize nth (stepN [4, 7] fSep xs k) k = z at *
    generalize nth (stepN [4, 7] fSep xs k) (k + 1) = b at *
    have hz : z = 4 ∨ z = 7 := by simpa using hc
    unfold sepOn at h
    have n1 : ¬ ((decide (0 < k ∧ k - 1 < xs.length ∧ a = 3) && decide (k + 1 < xs.length ∧ b = 3)) = true) := by
      intro e
      rw [Bool.and_eq_true] at e
      have e1 := of_decide_eq_true e.1
      have e2 := of_decide_eq_true e.2
      exact h ⟨by omega, by omega, by omega⟩
    have n2 : ¬ (z = 7 ∧ (decide (0 < k ∧ k - 1 < xs.length ∧ a = 6) && decide (k + 1 < xs.length ∧ b = 6)) = true) := by
      rintro ⟨e0, e⟩
      rw [Bool.and_eq_true] at e
      have e1 := of_decide_eq_true e.1
      have e2 := of_decide_eq_true e.2
      exact h ⟨by omega, by omega, by omega⟩
    rw [if_neg n1, if_neg n2]
  · exact stepN_miss _ _ _ k (by simpa using hc)

-- terminators
theorem term_miss {k : Nat} (h : nth (stepN [5] fTerm xs k) k ≠ 5) : stepN [5] fTerm xs (k + 1) = stepN [5] fTerm xs k := stepN_miss _ _ _ k (hasC_no (by simp [h]))
theorem term_end {i k : Nat} (hi : i ≤ k) (hk : k < endR (stepN [5] fTerm xs i) i) : k < xs.length ∧ nth (stepN [5] fTerm xs k) k = 5 ∧ endR (stepN [5] fTerm xs k) k = endR (stepN [5] fTerm xs i) i := by
  have in5 : ∀ j, i ≤ j → j < endR (stepN [5] fTerm xs i) i → j < xs.length ∧ nth xs j = 5 := by
    intro j h1 h2
    have := endR_in _ _ j h1 h2
    rw [hasAt_nat, stepN_len] at this
    have h3 := of_decide_eq_true this
    have e := stepN_far [5] fTerm xs i j h1 (by omega)
    exact ⟨h3.1, by rw [← e]; exact h3.2⟩
  have kk := in5 k hi hk
  refine ⟨kk.1, by rw [stepN_far _ _ _ k k (Nat.le_refl _) (by omega)]; exact kk.2, ?_⟩
  refine endR_eq _ _ _ (by omega) (fun j h1 h2 => ?_) ?_
  · have := in5 j (by omega) h2
    rw [hasAt_nat, stepN_len, stepN_far _ _ _ k j h1 (by omega)]
    exact decide_eq_true this
  · have := endR_out (stepN [5] fTerm xs i) i
    rw [hasAt_nat, stepN_len] at this ⊢
    rw [stepN_far _ _ _ i _ (by omega) (by omega)] at this
    rw [stepN_far _ _ _ k _ (by omega) (by omega)]
    exact this
def termOn (cs : List Int) (i : Nat) : Prop := (0 < i ∧ nth cs (i - 1) = 3) ∨ (endR cs i < cs.length ∧ nth cs (endR cs i) = 3)
theorem term_yes {i : Nat} (ho : termOn (stepN [5] fTerm xs i) i) : ∀ k, i ≤ k → k < endR (stepN [5] fTerm xs i) i → fTerm (stepN [5] fTerm xs k) k = 3 ∧ stepN [5] fTerm xs (k + 1) = (stepN [5] fTerm xs k).set k 3 := by
  refine le_ind ?base ?succ
  case base =>
    intro hk
    have t := term_end xs (Nat.le_refl i) hk
    have hf : fTerm (stepN [5] fTerm xs i) i = 3 := by
      rw [fTerm_eq, if_pos]
      rw [hasAt_pre, hasAt_nat]
      rcases ho with ⟨h1, h2⟩ | ⟨h1, h2⟩
      · left; rw [stepN_len]; simp [h2]; omega
      · right; simp [h1, h2]
    exact ⟨hf, by rw [stepN_hit _ _ _ i (hasC_yes (by simp [t.2.1])), hf]⟩
  case succ =>
    intro k hi ih hk
    have t := term_end xs (show i ≤ k + 1 by omega) hk
    have ih := ih (by omega)
    have hf : fTerm (stepN [5] fTerm xs (k + 1)) (k + 1) = 3 := by
      rw [fTerm_eq, if_pos]
      left
      rw [hasAt_pre, stepN_len]
      have e : nth (stepN [5] fTerm xs (k + 1)) (k + 1 - 1) = 3 := by
        rw [ih.2]
        show nth _ k = 3
        rw [nth_set _ _ _ _ (by rw [stepN_len]; omega), if_pos rfl]
      rw [e]; simp; omega
    exact ⟨hf, by rw [stepN_hit _ _ _ (k + 1) (hasC_yes (by simp [t.2.1])), hf]⟩
theorem term_no {i : Nat} (ho : ¬ termOn (stepN [5] fTerm xs i) i) : ∀ k, i ≤ k → k ≤ endR (stepN [5] fTerm xs i) i → stepN [5] fTerm xs k = stepN [5] fTerm xs i := by
  refine le_ind ?base ?succ
  case base => intro _; rfl
  case succ =>
    intro k hi ih hk
    have t := term_end xs hi (show k < endR (stepN [5] fTerm xs i) i by omega)
    have ih := ih (by omega)
    rw [stepN_hit _ _ _ k (hasC_yes (by simp [t.2.1]))]
    have hf : fTerm (stepN [5] fTerm xs k) k = 5 := by
      rw [fTerm_eq, if_neg]
      rw [hasAt_pre, t.2.2, hasAt_nat, ih]
      unfold termOn at ho
      intro h
      rcases h with h | h
      · have h := of_decide_eq_true h
        by_cases e : k = i
        · subst e; exact ho (.inl ⟨h.1, h.2.2⟩)
        · have t2 := term_end xs (show i ≤ k - 1 by omega) (show k - 1 < endR (stepN [5] fTerm xs i) i by omega)
          have e1 := stepN_far [5] fTerm xs (k - 1) (k - 1) (Nat.le_refl _) (by omega)
          have e2 := stepN_far [5] fTerm xs i (k - 1) (by omega) (by omega)
          omega
      · exact ho (.inr (of_decide_eq_true h))
    rw [hf, set_same _ _ _ t.2.1, ih]

-- the end of signs: two steps in one
theorem end_other {k : Nat} (h : nth (stepN [3, 4, 5, 7] (fEnd s) xs k) k ∉ ([0, 1, 3, 4, 5, 7] : List Int)) :
    stepN [3, 4, 5, 7] (fEnd s) xs (k + 1) = stepN [3, 4, 5, 7] (fEnd s) xs k ∧ lastA [0, 1] s (stepN [3, 4, 5, 7] (fEnd s) xs (k + 1)) (k + 1) = lastA [0, 1] s (stepN [3, 4, 5, 7] (fEnd s) xs k) k := by
  have e := stepN_miss [3, 4, 5, 7] (fEnd s) xs k (hasC_no (by simp at h ⊢; omega))
  rw [e]
  exact ⟨rfl, lastA_miss _ _ _ _ (hasC_no (by simp at h ⊢; omega))⟩
theorem end_strong {k : Nat} (h : nth (stepN [3, 4, 5, 7] (fEnd s) xs k) k = 0 ∨ nth (stepN [3, 4, 5, 7] (fEnd s) xs k) k = 1) :
    stepN [3, 4, 5, 7] (fEnd s) xs (k + 1) = stepN [3, 4, 5, 7] (fEnd s) xs k ∧ lastA [0, 1] s (stepN [3, 4, 5, 7] (fEnd s) xs (k + 1)) (k + 1) = nth (stepN [3, 4, 5, 7] (fEnd s) xs k) k := by
  have e := stepN_miss [3, 4, 5, 7] (fEnd s) xs k (hasC_no (by simp; omega))
  rw [e]
  exact ⟨rfl, lastA_hit _ _ _ _ (hasC_yes (by simpa using h))⟩
theorem end_rest {k : Nat} (hk : k < xs.length) (h : nth (stepN [3, 4, 5, 7] (fEnd s) xs k) k = 4 ∨ nth (stepN [3, 4, 5, 7] (fEnd s) xs k) k = 5 ∨ nth (stepN [3, 4, 5, 7] (fEnd s) xs k) k = 7) :
    stepN [3, 4, 5, 7] (fEnd s) xs (k + 1) = (stepN [3, 4, 5, 7] (fEnd s) xs k).set k 13 ∧ lastA [0, 1] s (stepN [3, 4, 5, 7] (fEnd s) xs (k + 1)) (k + 1) = lastA [0, 1] s (stepN [3, 4, 5, 7] (fEnd s) xs k) k := by
  have e := stepN_hit [3, 4, 5, 7] (fEnd s) xs k (hasC_yes (by simp [h]))
  have hf : fEnd s (stepN [3, 4, 5, 7] (fEnd s) xs k) k = 13 := by rw [fEnd_eq, if_neg (by omega)]
  rw [hf] at e
  refine ⟨e, ?_⟩
  have n : nth (stepN [3, 4, 5, 7] (fEnd s) xs (k + 1)) k = 13 := by rw [e, nth_set _ _ _ _ (by rw [stepN_len]; exact hk), if_pos rfl]
  rw [lastA_miss _ _ _ _ (hasC_no (by rw [n]; simp))]
  exact lastA_congr _ _ _ _ _ fun j hj => by rw [stepN_next _ _ _ k j hk, if_neg (by omega)]
theorem end_en {k : Nat} (hk : k < xs.length) (h : nth (stepN [3, 4, 5, 7] (fEnd s) xs k) k = 3) :
    stepN [3, 4, 5, 7] (fEnd s) xs (k + 1) = (if lastA [0, 1] s (stepN [3, 4, 5, 7] (fEnd s) xs k) k = 0 then (stepN [3, 4, 5, 7] (fEnd s) xs k).set k 0 else stepN [3, 4, 5, 7] (fEnd s) xs k) ∧
    lastA [0, 1] s (stepN [3, 4, 5, 7] (fEnd s) xs (k + 1)) (k + 1) = lastA [0, 1] s (stepN [3, 4, 5, 7] (fEnd s) xs k) k := by
  have e := stepN_hit [3, 4, 5, 7] (fEnd s) xs k (hasC_yes (by simp [h]))
  have hf : fEnd s (stepN [3, 4, 5, 7] (fEnd s) xs k) k = if lastA [0, 1] s (stepN [3, 4, 5, 7] (fEnd s) xs k) k = 0 then 0 else 3 := by rw [fEnd_eq, if_pos h]; rfl
  rw [hf] at e
  have cg : lastA [0, 1] s (stepN [3, 4, 5, 7] (fEnd s) xs (k + 1)) k = lastA [0, 1] s (stepN [3, 4, 5, 7] (fEnd s) xs k) k := lastA_congr _ _ _ _ _ fun j hj => by rw [stepN_next _ _ _ k j hk, if_neg (by omega)]
  have n : nth (stepN [3, 4, 5, 7] (fEnd s) xs (k + 1)) k = if lastA [0, 1] s (stepN [3, 4, 5, 7] (fEnd s) xs k) k = 0 then 0 else 3 := by rw [e, nth_set _ _ _ _ (by rw [stepN_len]; exact hk), if_pos rfl]
  by_cases hl : lastA [0, 1] s (stepN [3, 4, 5, 7] (fEnd s) xs k) k = 0
  · rw [if_pos hl] at e n ⊢
    refine ⟨e, ?_⟩
    rw [lastA_hit _ _ _ _ (hasC_yes (by rw [n]; simp)), n, hl]
  · rw [if_neg hl] at e n ⊢
    refine ⟨by rw [e, set_same _ _ _ h], ?_⟩
    rw [lastA_miss _ _ _ _ (hasC_no (by rw [n]; simp)), cg]
theorem end_both : doStep [3] (fSide s) (doStep [4, 5, 7] fRest xs) = doStep [3, 4, 5, 7] (fEnd s) xs := by
  have hA : (doStep [4, 5, 7] fRest xs).length = xs.length := doStep_len _ _ _
  have main : ∀ k, k ≤ xs.length → ∀ j, j < k → nth (stepN [3] (fSide s) (doStep [4, 5, 7] fRest xs) k) j = nth (stepN [3, 4, 5, 7] (fEnd s) xs k) j := by
    intro k
    induction k with
    | zero => intro _ j hj; omega
    | succ k ih =>
      intro hk j hj
      have ih := ih (by omega)
      rw [stepN_next _ _ _ k j (by omega), stepN_next _ _ _ k j (by omega)]
      by_cases e : j = k
      · subst e
        rw [if_pos rfl, if_pos rfl, stepN_far _ _ _ j j (Nat.le_refl _) (by omega), stepN_far _ _ _ j j (Nat.le_refl _) (by omega), step_at _ _ _ j (by omega)]
        have cg : fSide s (stepN [3] (fSide s) (doStep [4, 5, 7] fRest xs) j) j = fSide s (stepN [3, 4, 5, 7] (fEnd s) xs j) j := by rw [fSide_eq, fSide_eq, lastA_congr _ _ _ _ _ ih]
        have fe : fEnd s (stepN [3, 4, 5, 7] (fEnd s) xs j) j = if nth xs j = 3 then fSide s (stepN [3, 4, 5, 7] (fEnd s) xs j) j else 13 := by rw [fEnd_eq, stepN_far _ _ _ j j (Nat.le_refl _) (by omega)]
        rw [cg, fe]
        generalize nth xs j = z
        show _ = _
        by_cases h3 : z = 3
        · subst h3; simp [hasC]
        · by_cases h4 : z = 4 ∨ z = 5 ∨ z = 7
          · rw [hasC_yes (os := [4, 5, 7]) (by simpa using h4), hasC_yes (os := [3, 4, 5, 7]) (by simp [h4])]
            simp [hasC, fRest, h3]
          · rw [hasC_no (os := [4, 5, 7]) (by simpa using h4), hasC_no (os := [3, 4, 5, 7]) (by simp; omega)]
            simp [hasC]
            intro e; exact absurd e h3
      · rw [if_neg e, if_neg e]; exact ih j (by omega)
  refine nth_eq_of _ _ (by rw [doStep_len, doStep_len, doStep_len]) fun j hj => ?_
  rw [doStep_len, hA] at hj
  have := main xs.length (Nat.le_refl _) j hj
  unfold doStep at *
  rw [hA]; exact this
end
end Go.Proofs.YtcfnhjpmihngdaaGreat

namespace Go.Proofs.YtcfnhjpmihngdaaGreat
open Go.RowKit Go.Maps

theorem classF_many {xs : List Int} {s : Int} (h : 600 < xs.length) : classF xs s = 2 := by unfold classF; rw [if_pos h]
theorem classF_range {xs : List Int} {s : Int} (h : ¬ 600 < xs.length) (h2 : xs.all clsB = false) : classF xs s = 3 := by unfold classF; rw [if_neg h, if_neg (by rw [h2]; simp)]
theorem classF_form {xs : List Int} {s : Int} (h : ¬ 600 < xs.length) (h2 : xs.all clsB = true) (h3 : ¬ (0 ≤ s ∧ s ≤ 1)) : classF xs s = 1 := by unfold classF; rw [if_neg h, if_pos h2, if_neg h3]
theorem classF_ok {xs : List Int} {s : Int} (h : ¬ 600 < xs.length) (h2 : xs.all clsB = true) (h3 : 0 ≤ s ∧ s ≤ 1) : classF xs s = 0 := by unfold classF; rw [if_neg h, if_pos h2, if_pos h3]
theorem all_step6 (zs : List Int) (k : Nat) (hk : k < zs.length) (h : clsB (nth zs k) = true) : (zs.take (k + 1)).all clsB = (zs.take k).all clsB := by rw [take_nth zs k hk, List.all_append]; simp [h]
theorem all_false6 (zs : List Int) (k : Nat) (hk : k < zs.length) (h : clsB (nth zs k) = false) : zs.all clsB = false := by
  rw [List.all_eq_false]
  exact ⟨nth zs k, by unfold nth; rw [List.getElem?_eq_getElem hk]; exact List.getElem_mem hk, by rw [h]; simp⟩
theorem spans_cls (z : Int) : spans z [0, 22] = clsB z := by simp [spans, clsB, Bool.decide_and]
set_option maxRecDepth 100000 in
set_option maxHeartbeats 1000000 in
theorem classesFault_any (A : Option Addr) (zs : List Int) (c : Nat) (s : Int) (w : World) (B : Nat) (h1 : Rd w B A (nums .i64 zs)) (hB : B ≤ w.heap.size) (hl : zs.length < 1000000000) :
    Calls Tryz.prog 102 #[.slice A zs.length c, .int .i64 s] w fun e w' => e = .returned (.int .i64 (classF zs s)) ∧ Below w.heap.size w w' := by
  by_cases h6 : 600 < zs.length
  · have e := Lib.hid (classF_many (s := s) h6)
    go_enter Tryz.func102, Tryz.ntmps102
    go_wp2
    go_ret
    exact ⟨rint e.out.symm, Below.refl _ _⟩
  · have H1 := Lib.hid h1
    have B0 := Lib.hid (Below.refl w.heap.size w)
    clear h1
    go_enter Tryz.func102, Tryz.ntmps102
    go_wp2
    go_loopw [12] (fun i wr => ∃ k : Nat, k ≤ zs.length ∧ i = .int .i64 k ∧ Hid ((zs.take k).all clsB = true) ∧ Hid (Below w.heap.size w wr)) (fun i _ => zs.length - (intOf i).toNat)
    case atStart => exact ⟨0, by omega, rfl, Lib.hid rfl, B0⟩
    case round =>
      clear B0
      obtain ⟨k, hk, rfl, hs, hbr⟩ := hrel
      by_cases hlt : k < zs.length
      · obtain ⟨b, off, rfl, hb, hc⟩ := (H1.out.below hbr.out hB).int (by omega)
        have hc0 := hc k hlt
        clear hc
        obtain ⟨z, hz⟩ : ∃ z, Hid (z = nth zs k) := ⟨_, Lib.hid rfl⟩
        rw [← hz.out] at hc0
        have BA := Lib.hid (hbr.out.alloc hbr.out.size (.cells #[.int .i64 0, .int .i64 22] 2))
        by_cases hp : clsB z = true
        · have hsp := Lib.hid ((spans_cls z).trans hp)
          have HS2 := Lib.hid (show (zs.take (k + 1)).all clsB = true by rw [all_step6 zs k hlt (by rw [← hz.out]; exact hp)]; exact hs.out)
          clear hp
          go_wp2_with (go_at_call 67; (with_reducible refine (within_lit2 _ _ _ _ _ _ (by simp)).mono ?_); rintro e w' ⟨rfl, rfl⟩; rw [hsp.out])
          go_roundw
          case rel => exact ⟨k + 1, by omega, by go_num, HS2, BA⟩
          case measure => first | omega | (simp [intOf]; omega)
        · have hp : clsB z = false := by simpa using hp
          have hsp := Lib.hid ((spans_cls z).trans hp)
          have E := Lib.hid (classF_range (s := s) h6 (all_false6 zs k hlt (by rw [← hz.out]; exact hp)))
          clear hp
          go_wp2_with (go_at_call 67; (with_reducible refine (within_lit2 _ _ _ _ _ _ (by simp)).mono ?_); rintro e w' ⟨rfl, rfl⟩; rw [hsp.out])
          go_ret
          exact ⟨rint E.out.symm, BA.out⟩
      · have HA := Lib.hid (show zs.all clsB = true by have := hs.out; rwa [List.take_of_length_le (by omega)] at this)
        have BA := Lib.hid (hbr.out.alloc hbr.out.size (.cells #[.int .i64 0, .int .i64 1] 2))
        by_cases hp : 0 ≤ s ∧ s ≤ 1
        · have hsp := Lib.hid (show spans s [0, 1] = true by simp [spans, hp])
          have E := Lib.hid (classF_ok h6 HA.out hp)
          clear hp
          go_wp2_with (go_at_call 67; (with_reducible refine (within_lit2 _ _ _ _ _ _ (by simp)).mono ?_); rintro e w' ⟨rfl, rfl⟩; rw [hsp.out])
          go_ret
          exact ⟨rint E.out.symm, BA.out⟩
        · have hsp := Lib.hid (show spans s [0, 1] = false by simp [spans]; omega)
          have E := Lib.hid (classF_form h6 HA.out hp)
          clear hp
          go_wp2_with (go_at_call 67; (with_reducible refine (within_lit2 _ _ _ _ _ _ (by simp)).mono ?_); rintro e w' ⟨rfl, rfl⟩; rw [hsp.out])
          go_ret
          exact ⟨rint E.out.symm, BA.out⟩
theorem classesFault_val (v : Value) (zs : List Int) (s : Int) (w : World) (B : Nat) (h : Sees w B .i64 v zs) (hB : B ≤ w.heap.size) (l : zs.length < 1000000000) (_ : ∀ n ∈ zs, (Lit.int .i64 n).wf = true) (_ : (Lit.int .i64 s).wf = true) :
    Calls Tryz.prog 102 #[v, .int .i64 s] w fun e w' => e = .returned (.int .i64 (classF zs s)) ∧ Below w.heap.size w w' := by
  obtain ⟨A, c, rfl, hr⟩ := h
  exact classesFault_any A zs c s w B hr hB l
end Go.Proofs.YtcfnhjpmihngdaaGreat

namespace Go.Proofs.YtcfnhjpmihngdaaGreat
open Go.RowKit Go.Shelf
attribute [local go_sem] Oper.semAt_some

/-- what a walk holds, all of it only read -/
structure WkR (w : World) (T : TypeId) (B g : Nat) (A : Option Addr) (c : Nat) (cs : List Int) (s : Int) : Prop where
  blk : Blk w g T #[.slice A cs.length c, .int .i64 s]
  lt : g < B
  rd : Rd w B A (nums .i64 cs)
theorem WkR.below {w w' : World} {T : TypeId} {B C g : Nat} {A : Option Addr} {c : Nat} {cs : List Int} {s : Int} (h : WkR w T B g A c cs s) (hb : Below C w w') (hC : B ≤ C) : WkR w' T B g A c cs s :=
  ⟨h.blk.below hb (by have := h.lt; omega), h.lt, h.rd.below hb hC⟩
theorem WkR.drew {w : World} {T : TypeId} {B g : Nat} {A : Option Addr} {c : Nat} {cs : List Int} {s : Int} (h : WkR w T B g A c cs s) (n : Nat) : WkR (w.drewN n) T B g A c cs s := ⟨h.blk, h.lt, h.rd⟩

theorem lastA_take (am : List Int) (s : Int) (cs : List Int) (p : Nat) : lastA am s (cs.take p) p = lastA am s cs p := by
  refine lastA_congr _ _ _ _ _ fun j hj => ?_
  unfold nth; rw [List.getElem?_take, if_pos hj]
theorem lastA_skip (am : List Int) (s : Int) (zs : List Int) (m : Nat) : ∀ j, j ≤ m → (∀ x ∈ dn m j, hasC am (nth zs x) = false) → lastA am s zs m = lastA am s zs (m - j)
  | 0, _, _ => rfl
  | j + 1, h, hs => by
    rw [dn_succ] at hs
    rw [lastA_skip am s zs m j (by omega) fun x hx => hs x (List.mem_append_left _ hx)]
    have h1 := hs (m - 1 - j) (by simp)
    have e : m - j = (m - 1 - j) + 1 := by omega
    rw [e, lastA_miss _ _ _ _ h1]
    congr 1
    omega
theorem lastA_at (am : List Int) (s : Int) (zs : List Int) (m j : Nat) (h : j < m) (hs : ∀ x ∈ dn m j, hasC am (nth zs x) = false) (hx : hasC am (nth zs (m - 1 - j)) = true) : lastA am s zs m = nth zs (m - 1 - j) := by
  rw [lastA_skip am s zs m j (by omega) hs]
  have e : m - j = (m - 1 - j) + 1 := by omega
  rw [e, lastA_hit _ _ _ _ hx]

theorem containsC_any (A : Option Addr) (ks : List Int) (c : Nat) (z : Int) (w : World) (B : Nat) (h1 : Rd w B A (nums .i64 ks)) (hl : ks.length ≤ 600) :
    Calls Tryz.prog 68 #[.slice A ks.length c, .int .i64 z] w fun e w' => e = .returned (.bool (hasC ks z)) ∧ w = w' := contains_any A ks c z w B h1 hl
section
variable {w : World} {B g : Nat} {A : Option Addr} {c : Nat} {cs : List Int} {s : Int}
set_option maxRecDepth 100000 in
set_option maxHeartbeats 1000000 in
theorem has_any (h : WkR w 132 B g A c cs s) (hl : cs.length ≤ 600) (p z : Int) :
    Calls Tryz.prog 122 #[.pointer (some ⟨g, 0, none⟩), .int .i64 p, .int .i64 z] w fun e w' => e = .returned (.bool (hasAt cs p z)) ∧ w = w' := by
  have e0 := h.blk.cell 0 (u := .slice A cs.length c) rfl
  by_cases h0 : 0 ≤ p
  · obtain ⟨n, rfl⟩ : ∃ n : Nat, p = (n : Int) := ⟨p.toNat, by omega⟩
    have E := Lib.hid (hasAt_nat cs n z)
    by_cases hn : n < cs.length
    · obtain ⟨b, off, rfl, _, hc⟩ := h.rd.int (by omega)
      have hc0 := hc n hn
      clear hc h
      obtain ⟨q, hq⟩ : ∃ q, Hid (q = nth cs n) := ⟨_, Lib.hid rfl⟩
      rw [← hq.out] at hc0 E
      have E2 := Lib.hid (show hasAt cs n z = (q == z) by rw [E.out, decide_eq_decide.2 (show (n < cs.length ∧ q = z) ↔ q = z from ⟨fun x => x.2, fun x => ⟨hn, x⟩⟩)]; rfl)
      go_enter Tryz.func122, Tryz.ntmps122
      go_wp2
      go_ret
      exact ⟨rbool E2.out.symm, rfl⟩
    · have E2 := Lib.hid (show hasAt cs n z = false by rw [E.out]; exact decide_eq_false (fun x => hn x.1))
      clear h
      go_enter Tryz.func122, Tryz.ntmps122
      go_wp2
      go_ret
      exact ⟨rbool E2.out.symm, rfl⟩
  · have E2 := Lib.hid (show hasAt cs p z = false from decide_eq_false (fun x => h0 x.1))
    clear h
    go_enter Tryz.func122, Tryz.ntmps122
    go_wp2
    go_ret
    exact ⟨rbool E2.out.symm, rfl⟩
set_option maxRecDepth 100000 in
set_option maxHeartbeats 1000000 in
theorem isBetween_any (h : WkR w 132 B g A c cs s) (hl : cs.length ≤ 600) (k : Nat) (hk : k ≤ 600) (z : Int) :
    Calls Tryz.prog 121 #[.pointer (some ⟨g, 0, none⟩), .int .i64 k, .int .i64 z] w fun e w' => e = .returned (.bool (betw cs k z)) ∧ w = w' := by
  have H := Lib.hid h
  have E := Lib.hid (show betw cs k z = (hasAt cs ((k : Int) - 1) z && hasAt cs ((k : Int) + 1) z) from rfl)
  clear h
  go_enter Tryz.func121, Tryz.ntmps121
  go_wp2_with (go_at_call 122; refine (has_any H.out hl _ _).mono ?_; rintro e w' ⟨rfl, rfl⟩)
  all_goals
    go_ret
    refine ⟨rbool ?_, rfl⟩
    rw [E.out]
    simp_all
set_option maxRecDepth 100000 in
set_option maxHeartbeats 1000000 in
theorem mark_any (h : WkR w 132 B g A c cs s) (hl : cs.length ≤ 600) (k : Nat) (hk : k < cs.length) :
    Calls Tryz.prog 112 #[.pointer (some ⟨g, 0, none⟩), .int .i64 k] w fun e w' => e = .returned (.int .i64 (fMark s cs k)) ∧ Below w.heap.size w w' := by
  have e0 := h.blk.cell 0 (u := .slice A cs.length c) rfl
  have e1 := h.blk.cell 1 (u := .int .i64 s) rfl
  have sp : ∀ x : Int, spans x [19, 22] = decide (19 ≤ x ∧ x ≤ 22) := fun x => by simp [spans, Bool.decide_and]
  have BA := Lib.hid ((Below.refl w.heap.size w).alloc (Nat.le_refl _) (.cells #[.int .i64 19, .int .i64 22] 2))
  have E := Lib.hid (fMark_eq s cs k)
  obtain ⟨b, off, rfl, _, hc⟩ := h.rd.int (by omega)
  by_cases h0 : k = 0
  · subst h0
    have E2 := Lib.hid (show fMark s cs 0 = mV s by rw [E.out]; rfl)
    clear h hc
    by_cases hm : 19 ≤ s ∧ s ≤ 22
    · have S2 := Lib.hid ((sp s).trans (decide_eq_true hm))
      have E3 := Lib.hid (show fMark s cs 0 = 13 by rw [E2.out]; unfold mV; rw [if_pos hm])
      clear sp hm
      go_enter Tryz.func112, Tryz.ntmps112
      go_wp2_with (go_at_call 67; (with_reducible refine (within_lit2 _ _ _ _ _ _ (by simp)).mono ?_); rintro e w' ⟨rfl, rfl⟩; rw [S2.out])
      go_ret
      exact ⟨rint E3.out.symm, BA.out⟩
    · have S2 := Lib.hid ((sp s).trans (decide_eq_false hm))
      have E3 := Lib.hid (show fMark s cs 0 = s by rw [E2.out]; unfold mV; rw [if_neg hm])
      clear sp hm
      go_enter Tryz.func112, Tryz.ntmps112
      go_wp2_with (go_at_call 67; (with_reducible refine (within_lit2 _ _ _ _ _ _ (by simp)).mono ?_); rintro e w' ⟨rfl, rfl⟩; rw [S2.out])
      go_ret
      exact ⟨rint E3.out.symm, BA.out⟩
  · obtain ⟨j, rfl⟩ : ∃ j, k = j + 1 := ⟨k - 1, by omega⟩
    have hc0 := hc j (by omega)
    have E2 := Lib.hid (show fMark s cs (j + 1) = mV (nth cs j) by rw [E.out, prevV_next])
    obtain ⟨q, hq⟩ : ∃ q, Hid (q = nth cs j) := ⟨_, Lib.hid rfl⟩
    rw [← hq.out] at hc0 E2
    clear h hc h0
    have hj : j < 600 := by omega
    by_cases hm : 19 ≤ q ∧ q ≤ 22
    · have S2 := Lib.hid ((sp q).trans (decide_eq_true hm))
      have E3 := Lib.hid (show fMark s cs (j + 1) = 13 by rw [E2.out]; unfold mV; rw [if_pos hm])
      clear sp hm
      go_enter Tryz.func112, Tryz.ntmps112
      go_wp2_with (go_at_call 67; (with_reducible refine (within_lit2 _ _ _ _ _ _ (by simp)).mono ?_); rintro e w' ⟨rfl, rfl⟩; rw [S2.out])
      go_ret
      exact ⟨rint E3.out.symm, BA.out⟩
    · have S2 := Lib.hid ((sp q).trans (decide_eq_false hm))
      have E3 := Lib.hid (show fMark s cs (j + 1) = q by rw [E2.out]; unfold mV; rw [if_neg hm])
      clear sp hm
      go_enter Tryz.func112, Tryz.ntmps112
      go_wp2_with (go_at_call 67; (with_reducible refine (within_lit2 _ _ _ _ _ _ (by simp)).mono ?_); rintro e w' ⟨rfl, rfl⟩; rw [S2.out])
      go_ret
      exact ⟨rint E3.out.symm, BA.out⟩
set_option maxRecDepth 100000 in
set_option maxHeartbeats 2000000 in
theorem lastAhead_any (h : WkR w 132 B g A c cs s) (hB : B ≤ w.heap.size) (k : Nat) (hk : k ≤ cs.length) (hl : cs.length ≤ 600) (hcp : cs.length ≤ c) (Am : Option Addr) (am : List Int) (cm Bm : Nat) (hm : Rd w Bm Am (nums .i64 am)) (hBm : Bm ≤ w.heap.size) (hml : am.length ≤ 600) :
    Calls Tryz.prog 120 #[.pointer (some ⟨g, 0, none⟩), .int .i64 k, .slice Am am.length cm] w fun e w' => e = .returned (.int .i64 (lastA am s cs k)) ∧ Below w.heap.size w w' := by
  have glt := h.lt
  have AT := Lib.hid (lastA_take am s cs k)
  obtain ⟨zs, hzs⟩ : ∃ zs, Hid (zs = cs.take k) := ⟨_, Lib.hid rfl⟩
  have hzl : zs.length = k := by rw [hzs.out, List.length_take]; omega
  have RZ : Hid (Rd w B A (nums .i64 zs)) := Lib.hid (by rw [hzs.out]; have := h.rd.take k; simpa [nums, List.map_take] using this)
  rw [← hzs.out] at AT
  subst hzl
  rw [← AT.out]
  have H := Lib.hid h
  have HM := Lib.hid hm
  clear h hm
  have b00 : Below w.heap.size w ((w.alloc (.cells #[.slice Am am.length cm] 22)).alloc (.cells #[.int .i64 0] 2)) := ((Below.refl _ w).alloc (Nat.le_refl _) _).alloc (by simp) _
  have H1 := Lib.hid (H.out.below b00 hB)
  have e3 := H1.out.blk.cell 0 (u := .slice A cs.length c) rfl
  rw [← callsIn_wide (n := 5)]
  refine callsIn_of_wp_marks Tryz.func120 rfl trivial ?_ rfl
  simp only [Tryz.ntmps120, List.size_toArray, List.length_cons, List.length_nil, Nat.reduceAdd, Nat.reduceSub, Array.replicate_succ, Array.replicate_zero, List.push_toArray, List.append_toArray, List.nil_append, List.cons_append]
  gi_wp2_with (refine ⟨trivial, ?_⟩; gi_at_call 101; refine (callsIn_wide.2 (backward_any A zs.length c _)).mono ?_; rintro e w' ⟨rfl, rfl⟩)
  clear e3 b00
  have bX := Boxed.new w 22 (.slice Am am.length cm)
  have bR := Boxed.new (w.alloc (.cells #[.slice Am am.length cm] 22)) 2 (.int .i64 0)
  have bN := Boxed.new ((w.alloc (.cells #[.slice Am am.length cm] 22)).alloc (.cells #[.int .i64 0] 2)) 22 (.slice A zs.length c)
  rw [World.size_alloc] at bR
  rw [World.size_alloc, World.size_alloc] at bN
  have hB0 : Below w.heap.size w (((w.alloc (.cells #[.slice Am am.length cm] 22)).alloc (.cells #[.int .i64 0] 2)).alloc (.cells #[.slice A zs.length c] 22)) := (((Below.refl _ w).alloc (Nat.le_refl _) _).alloc (by simp) _).alloc (by simp; omega) _
  have H2 := Lib.hid (H.out.below hB0 hB)
  have RZ2 : Hid (Rd (((w.alloc (.cells #[.slice Am am.length cm] 22)).alloc (.cells #[.int .i64 0] 2)).alloc (.cells #[.slice A zs.length c] 22)) (w.heap.size + 3) A (nums .i64 zs)) := Lib.hid ((RZ.out.below hB0 hB).more (by omega))
  refine wpIn_rangeFunc_ownG rfl (by omega) (gf := 110) (lb := #[.pointer (some ⟨w.heap.size + 1 + 1, 0, none⟩)]) rfl trivial (enters_of Tryz.func110 (by kernel_rfl) rfl)
    (back_stops 4 (by omega) (w.heap.size + 1 + 1) (w.heap.size + 3) c A zs (by omega) _ (by omega) (by simp) bN.cell RZ2.out) belowK_t (belowK_b (by simp)) (Below.refl _ _) (fun _ => rfl)
    (fun pre W => ((∀ x ∈ pre, hasC am (nth zs x) = false) ∧ W.cell? ⟨w.heap.size + 1, 0, none⟩ = some (.int .i64 0) ∧ W.frozen? ⟨w.heap.size + 1, 0, none⟩ = false ∧ W.cell? ⟨w.heap.size, 0, none⟩ = some (.slice Am am.length cm)) ∧ Below w.heap.size w W)
    (fun c pre W => (c = .ret ∧ ∃ ini last, pre = ini ++ [last] ∧ (∀ x ∈ ini, hasC am (nth zs x) = false) ∧ hasC am (nth zs last) = true ∧ W.cell? ⟨w.heap.size + 1, 0, none⟩ = some (.int .i64 (nth zs last))) ∧ Below w.heap.size w W)
    (OwnFrom.and (Own.from (fun s A B row hs hg hr => ⟨hs.1, cell_kept hs.2.1 hg hr, (frozen_kept hs.2.1 hg hr).trans hs.2.2.1, cell_kept hs.2.2.2 hg hr⟩) _) (ownFrom_below (Nat.le_refl _) (by simp; omega)))
    (fun c => OwnFrom.and (Own.from (fun s A B row hs hg hr => by obtain ⟨hc, ini, last, e1, e2, e3, e4⟩ := hs; exact ⟨hc, ini, last, e1, e2, e3, cell_kept e4 hg hr⟩) _) (ownFrom_below (Nat.le_refl _) (by simp; omega)))
    ⟨⟨by simp, (bR.alloc _).cell, (bR.alloc _).frozen, ((bX.alloc _).alloc _).cell⟩, hB0⟩
    (fun x => { tmps := #[.pointer (some ⟨g, 0, none⟩), .int .i64 zs.length, .slice Am am.length cm, undef, undef, .pointer (some ⟨w.heap.size, 0, none⟩), .pointer (some ⟨w.heap.size + 1, 0, none⟩), undef, .int .i64 (nth zs x), .pointer (some ⟨g, 0, none⟩), .pointer (some ⟨g, 0, none⟩), .pointer (some ⟨g, 0, none⟩), .slice A cs.length c, .int .i64 zs.length, .slice A zs.length c, .func (.func 110) #[] #[.pointer (some ⟨w.heap.size + 1 + 1, 0, none⟩)], .int .i64 (x : Int), .int .i64 (nth zs x), undef, undef, undef, undef, undef, undef, undef, undef], defers := [] }) ?assign ?body ?done ?stop
  case assign =>
    intro l x W K hK
    gi_wp2
    exact hK
  case body =>
    rintro l pre x W ⟨⟨hp', hcr, hfr, hbx⟩, hBW⟩ _
    have HMW := Lib.hid (HM.out.below hBW hBm)
    cases hx : hasC am (nth zs x) with
    | false =>
      have HX := Lib.hid hx
      obtain ⟨q, hq⟩ : ∃ q, Hid (q = nth zs x) := ⟨_, Lib.hid rfl⟩
      rw [← hq.out] at hx ⊢
      have HX2 := Lib.hid hx
      clear hx
      gi_wp2_with (refine ⟨trivial, ?_⟩; gi_at_call 68; refine (CallsIn.inRound l (callsIn_wide.2 (containsC_any Am am cm q W _ HMW.out hml))).mono ?_; rintro e W1 ⟨rfl, rfl⟩; rw [HX2.out])
      exact ⟨KeepsFrom.refl _ _, Below.refl _ _, ⟨fun y hy => (List.mem_append.1 hy).elim (hp' y) (fun e => by simp at e; subst e; exact HX.out), hcr, hfr, hbx⟩, hBW⟩
    | true =>
      have HX := Lib.hid hx
      obtain ⟨q, hq⟩ : ∃ q, Hid (q = nth zs x) := ⟨_, Lib.hid rfl⟩
      rw [← hq.out] at hx ⊢
      have HX2 := Lib.hid hx
      clear hx
      gi_wp2_with (refine ⟨trivial, ?_⟩; gi_at_call 68; refine (CallsIn.inRound l (callsIn_wide.2 (containsC_any Am am cm q W _ HMW.out hml))).mono ?_; rintro e W1 ⟨rfl, rfl⟩; rw [HX2.out])
      exact ⟨(KeepsOthers.setCell _ _ _).from _, ⟨rfl, pre, x, rfl, hp', HX.out, by rw [← hq.out]; exact World.cell?_setCell_same' _ _ _ (by rw [hcr]; rfl)⟩, hBW.setCell (p := ⟨w.heap.size + 1, 0, none⟩) (by simp) _⟩
  case done =>
    rintro D ys W hD rfl ⟨⟨hne, hcr, hfr, hbx⟩, hBW⟩ hK
    have H3 := H.out.below hBW hB
    have e0 := H3.blk.cell 1 (u := .int .i64 s) rfl
    have E := Lib.hid (show lastA am s zs zs.length = s by rw [lastA_skip am s zs zs.length zs.length (Nat.le_refl _) hne, Nat.sub_self]; rfl)
    clear hne
    gi_wp2
    have hK' := (KeepsOthers.setCell W ⟨w.heap.size + 1, 0, none⟩ (.int .i64 s)).same D _ hK rfl
    refine ⟨by simp, .inl ⟨_, _, rfl, run_takeDeferred hK', ?_⟩⟩
    have hc5 := cell_kept (World.cell?_setCell_same' W ⟨w.heap.size + 1, 0, none⟩ (.int .i64 s) (by rw [hcr]; rfl)) (grownBy_putObj' _ D (.deferred none)) (fun r e => by cases e; exact ⟨_, hK', rfl⟩)
    refine ⟨.int .i64 s, ?_, rint E.out.symm, (hBW.setCell (p := ⟨w.heap.size + 1, 0, none⟩) (by simp) _).trans (belowK_b (w := w) (Nat.le_refl _) _ D _ _ (by simp at hD; omega) hK' rfl rfl)⟩
    simp [results, Tryz.results120, go_sem, hc5]
  case stop =>
    rintro D c' pre W hD ⟨k, hk, rfl⟩ ⟨⟨rfl, ini, last, e1, e2, e3, hcr⟩, hBW⟩ hK
    obtain ⟨k', rfl⟩ : ∃ k', k = k' + 1 := by
      cases k with
      | zero => simp [dn] at e1
      | succ k' => exact ⟨k', rfl⟩
    rw [dn_succ] at e1
    obtain ⟨rfl, e5⟩ := List.append_inj' e1 rfl
    obtain rfl : zs.length - 1 - k' = last := by simpa using e5
    have E := Lib.hid (lastA_at am s zs zs.length k' (by omega) e2 e3)
    obtain ⟨q, hq⟩ : ∃ q, Hid (q = nth zs (zs.length - 1 - k')) := ⟨_, Lib.hid rfl⟩
    rw [← hq.out] at hcr E
    clear e1 e2 e3 e5
    gi_wp2
    refine ⟨by simp, .inl ⟨_, _, rfl, run_takeDeferred hK, ?_⟩⟩
    have hc5 := cell_kept hcr (grownBy_putObj' _ D (.deferred none)) (fun r e => by cases e; exact ⟨_, hK, rfl⟩)
    refine ⟨.int .i64 q, ?_, rint E.out.symm, hBW.trans (belowK_b (w := w) (Nat.le_refl _) W D _ _ (by simp at hD; omega) hK rfl rfl)⟩
    simp [results, Tryz.results120, go_sem, hc5]
end
end Go.Proofs.YtcfnhjpmihngdaaGreat
