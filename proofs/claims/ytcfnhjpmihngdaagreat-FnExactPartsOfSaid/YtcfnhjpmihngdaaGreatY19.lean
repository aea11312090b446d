/- FnWeaks' mathematics: what classes come of the steps, and that they stay. No program is named here. -/
import Derived.Test.YtcfnhjpmihngdaaGreatY10
namespace Go.Proofs.YtcfnhjpmihngdaaGreat
open Go.RowKit

theorem doStep_same (os : List Int) (f : List Int → Nat → Int) (xs : List Int) (h : ∀ k, k < xs.length → hasC os (nth xs k) = true → f xs k = nth xs k) : doStep os f xs = xs := by
  have : ∀ k, k ≤ xs.length → stepN os f xs k = xs := by
    intro k
    induction k with
    | zero => intro _; rfl
    | succ k ih =>
      intro hk
      have e := ih (by omega)
      cases hc : hasC os (nth (stepN os f xs k) k) with
      | true =>
        rw [stepN_hit _ _ _ k hc, e]
        rw [e] at hc
        exact set_same _ _ _ (h k (by omega) hc).symm
      | false => rw [stepN_miss _ _ _ k hc, e]
  exact this _ (Nat.le_refl _)
theorem lastA_of (am : List Int) (s : Int) (cs : List Int) : ∀ k, lastA am s cs k = s ∨ ∃ j, j < k ∧ lastA am s cs k = nth cs j
  | 0 => .inl rfl
  | k + 1 => by
    cases h : hasC am (nth cs k) with
    | true => exact .inr ⟨k, by omega, lastA_hit _ _ _ _ h⟩
    | false =>
      rw [lastA_miss _ _ _ _ h]
      rcases lastA_of am s cs k with e | ⟨j, hj, e⟩
      · exact .inl e
      · exact .inr ⟨j, by omega, e⟩
def In (x : Int) : Prop := 0 ≤ x ∧ x ≤ 22
section
variable {xs : List Int} {s : Int}
theorem marks_in (h : ∀ x ∈ xs, In x) (hs : 0 ≤ s ∧ s ≤ 1) : ∀ x ∈ marksW xs s, In x :=
  doStep_all _ _ _ h fun cs k _ hc hk _ => by
    rw [fMark_eq]
    have : In (prevV s cs k) := by
      unfold prevV
      split
      · unfold In; omega
      · exact nth_all hc _ (by omega)
    unfold mV
    split
    · unfold In; omega
    · exact this
theorem nums_in (h : ∀ x ∈ xs, In x) : ∀ x ∈ numsW xs s, In x :=
  doStep_all _ _ _ (doStep_all _ _ _ h fun cs k _ _ _ _ => by rw [fNum_eq]; split <;> (unfold In; omega)) fun cs k _ _ _ _ => by show In 1; unfold In; omega
theorem signs_in (h : ∀ x ∈ xs, In x) : ∀ x ∈ signsW xs s, In x := by
  unfold signsW termW sepW
  refine doStep_all _ _ _ (doStep_all _ _ _ (doStep_all _ _ _ (doStep_all _ _ _ h fun cs k _ hc hk _ => ?_) fun cs k _ _ _ _ => ?_) fun cs k _ _ _ _ => ?_) fun cs k _ _ _ _ => ?_
  · rw [fSep_eq]
    split
    · unfold In; omega
    · split
      · unfold In; omega
      · exact nth_all hc _ hk
  · rw [fTerm_eq]; split <;> (unfold In; omega)
  · show In 13; unfold In; omega
  · rw [fSide_eq]; split <;> (unfold In; omega)
theorem weak_in (h : ∀ x ∈ xs, In x) (hs : 0 ≤ s ∧ s ≤ 1) : ∀ x ∈ weakW xs s, In x := signs_in (nums_in (marks_in h hs))
theorem marks_no8 (hs : 0 ≤ s ∧ s ≤ 1) : ∀ j, j < xs.length → nth (marksW xs s) j ≠ 8 := by
  have main : ∀ k, k ≤ xs.length → ∀ j, j < k → nth (stepN [8] (fMark s) xs k) j ≠ 8 := by
    intro k
    induction k with
    | zero => intro _ j hj; omega
    | succ k ih =>
      intro hk j hj
      have ih := ih (by omega)
      rw [stepN_next _ _ _ k j (by omega)]
      by_cases e : j = k
      · subst e
        rw [if_pos rfl]
        by_cases hc : hasC [8] (nth (stepN [8] (fMark s) xs j) j) = true
        · rw [if_pos hc, fMark_eq]
          have : prevV s (stepN [8] (fMark s) xs j) j ≠ 8 := by
            unfold prevV
            split
            · omega
            · exact ih (j - 1) (by omega)
          unfold mV
          split
          · omega
          · exact this
        · rw [if_neg hc]
          intro h8
          exact hc (hasC_yes (by simp [h8]))
      · rw [if_neg e]; exact ih j (by omega)
  exact main _ (Nat.le_refl _)
/-- the classes that are left -/
def Left (x : Int) : Prop := x ≠ 2 ∧ x ≠ 4 ∧ x ≠ 5 ∧ x ≠ 7 ∧ x ≠ 8
theorem nums_no (h : ∀ x ∈ xs, x ≠ 8) : ∀ x ∈ numsW xs s, x ≠ 2 ∧ x ≠ 8 := by
  have h1 : ∀ x ∈ doStep [3] (fNum s) xs, x ≠ 8 := doStep_all _ _ _ h fun cs k _ _ _ _ => by rw [fNum_eq]; split <;> omega
  have h2 : ∀ x ∈ numsW xs s, x ≠ 8 := doStep_all _ _ _ h1 fun cs k _ _ _ _ => by show (1 : Int) ≠ 8; omega
  refine all_nth fun j hj => ?_
  refine ⟨?_, nth_all h2 j hj⟩
  unfold numsW at hj ⊢
  rw [doStep_len] at hj
  rw [step_at _ _ _ j hj]
  by_cases hc : hasC [2] (nth (doStep [3] (fNum s) xs) j) = true
  · rw [if_pos hc]; show (1 : Int) ≠ 2; omega
  · rw [if_neg hc]
    intro e
    exact hc (hasC_yes (by simp [e]))
theorem signs_left (h : ∀ x ∈ xs, x ≠ 2 ∧ x ≠ 8) : ∀ x ∈ signsW xs s, Left x := by
  have h1 : ∀ x ∈ sepW xs, x ≠ 2 ∧ x ≠ 8 := doStep_all _ _ _ h fun cs k _ hc hk _ => by
    rw [fSep_eq]
    split
    · omega
    · split
      · omega
      · exact nth_all hc _ hk
  have h2 : ∀ x ∈ termW (sepW xs), x ≠ 2 ∧ x ≠ 8 := doStep_all _ _ _ h1 fun cs k _ _ _ _ => by rw [fTerm_eq]; split <;> omega
  have h3 : ∀ x ∈ doStep [4, 5, 7] fRest (termW (sepW xs)), Left x := by
    refine all_nth fun j hj => ?_
    rw [doStep_len] at hj
    rw [step_at _ _ _ j hj]
    by_cases hc : hasC [4, 5, 7] (nth (termW (sepW xs)) j) = true
    · rw [if_pos hc]; show Left 13; unfold Left; omega
    · rw [if_neg hc]
      have a := nth_all h2 j hj
      have b : ¬ (nth (termW (sepW xs)) j ∈ ([4, 5, 7] : List Int)) := fun e => hc (hasC_yes e)
      simp at b
      unfold Left
      omega
  exact doStep_all _ _ _ h3 fun cs k _ _ _ _ => by rw [fSide_eq]; split <;> (unfold Left; omega)
theorem weak_left (hs : 0 ≤ s ∧ s ≤ 1) : ∀ x ∈ weakW xs s, Left x := signs_left (nums_no (all_nth fun j hj => marks_no8 hs j (by rwa [marksW_len] at hj)))
/-- what is left stays as it is -/
theorem weak_stays (hs : 0 ≤ s ∧ s ≤ 1) : weakW (weakW xs s) s = weakW xs s := by
  have hl := weak_left (xs := xs) hs
  obtain ⟨ys, hys⟩ : ∃ ys, ys = weakW xs s := ⟨_, rfl⟩
  have hfix : doStep [3] (fSide s) ys = ys := by
    obtain ⟨A, hA⟩ : ∃ A, ys = doStep [3] (fSide s) A := ⟨_, hys⟩
    refine doStep_same _ _ _ fun k hk hc => ?_
    have h3 : nth ys k = 3 := by have := (hasC_mem _ _).1 hc; simpa using this
    rw [h3, fSide_eq, if_neg]
    have hkA : k < A.length := by rw [hA, doStep_len] at hk; exact hk
    have e := step_at [3] (fSide s) A k hkA
    rw [← hA, h3] at e
    by_cases hcA : hasC [3] (nth A k) = true
    · rw [if_pos hcA, fSide_eq] at e
      have cg : lastA [0, 1] s (stepN [3] (fSide s) A k) k = lastA [0, 1] s ys k := lastA_congr _ _ _ _ _ fun j hj => by rw [stepN_done _ _ _ k j hj (by omega), ← hA]
      rw [cg] at e
      intro h0
      rw [if_pos h0] at e
      omega
    · rw [if_neg hcA] at e
      exact absurd (hasC_yes (by simp [← e])) hcA
  rw [← hys] at hl ⊢
  have m1 : marksW ys s = ys := doStep_none _ _ _ fun x hx => by have := hl x hx; unfold Left at this; simp; omega
  have n1 : doStep [3] (fNum s) ys = ys := by
    refine doStep_same _ _ _ fun k hk hc => ?_
    have h3 : nth ys k = 3 := by have := (hasC_mem _ _).1 hc; simpa using this
    rw [h3, fNum_eq, if_neg]
    rcases lastA_of [0, 1, 2] s ys k with e | ⟨j, hj, e⟩
    · omega
    · rw [e]; exact (nth_all hl j (by omega)).1
  have n2 : numsW ys s = ys := by
    unfold numsW
    rw [n1]
    exact doStep_none _ _ _ fun x hx => by have := hl x hx; unfold Left at this; simp; omega
  have s1 : signsW ys s = ys := by
    unfold signsW termW sepW
    rw [doStep_none [4, 7] fSep ys fun x hx => by have := hl x hx; unfold Left at this; simp; omega, doStep_none [5] fTerm ys fun x hx => by have := hl x hx; unfold Left at this; simp; omega, doStep_none [4, 5, 7] fRest ys fun x hx => by have := hl x hx; unfold Left at this; simp; omega]
    exact hfix
  unfold weakW
  rw [m1, n2, s1]
end
/-- all that the law asks of a list that has no fault -/
structure WeakFacts (ts : List Int) (s : Int) : Prop where
  lenW : (weakV ts s).length = ts.length
  lenM : (marksV ts s).length = ts.length
  left : ∀ j, j < ts.length → Left (nth (weakV ts s) j)
  no8 : ∀ j, j < ts.length → nth (marksV ts s) j ≠ 8
  inW : ∀ x ∈ weakV ts s, In x
  inM : ∀ x ∈ marksV ts s, In x
  inN : ∀ x ∈ numsV (marksV ts s) s, In x
  stays : weakV (weakV ts s) s = weakV ts s
  three : signsV (numsV (marksV ts s) s) s = weakV ts s
theorem weak_facts {ts : List Int} {s : Int} (h : classF ts s = 0) : WeakFacts ts s := by
  obtain ⟨h1, h2, h3⟩ := classF_zero h
  have eW : weakV ts s = weakW ts s := by unfold weakV; rw [if_pos h]
  have eM : marksV ts s = marksW ts s := by unfold marksV; rw [if_pos h]
  have iW : ∀ x ∈ weakW ts s, In x := weak_in h2 h3
  have iM : ∀ x ∈ marksW ts s, In x := marks_in h2 h3
  have iN : ∀ x ∈ numsW (marksW ts s) s, In x := nums_in iM
  have cW : classF (weakW ts s) s = 0 := classF_yes (by rw [weakW_len]; exact h1) iW h3
  have cM : classF (marksW ts s) s = 0 := classF_yes (by rw [marksW_len]; exact h1) iM h3
  have cN : classF (numsW (marksW ts s) s) s = 0 := classF_yes (by rw [numsW_len, marksW_len]; exact h1) iN h3
  have eN : numsV (marksV ts s) s = numsW (marksW ts s) s := by rw [eM]; unfold numsV; rw [if_pos cM]
  refine ⟨by rw [eW, weakW_len], by rw [eM, marksW_len], fun j hj => ?_, fun j hj => ?_, by rw [eW]; exact iW, by rw [eM]; exact iM, by rw [eN]; exact iN, ?_, ?_⟩
  · rw [eW]; exact nth_all (weak_left h3) j (by rw [weakW_len]; exact hj)
  · rw [eM]; exact marks_no8 h3 j hj
  · rw [eW]; unfold weakV; rw [if_pos cW]; exact weak_stays h3
  · rw [eN, eW]; unfold signsV; rw [if_pos cN]; rfl
end Go.Proofs.YtcfnhjpmihngdaaGreat
