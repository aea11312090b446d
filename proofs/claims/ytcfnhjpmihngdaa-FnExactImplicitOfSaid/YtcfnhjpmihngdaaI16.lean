/- FnPairs' and FnSides' mathematics. No program is named here. -/
import Derived.Test.YtcfnhjpmihngdaaX0
namespace Go.Proofs.Ytcfnhjpmihngdaa
open Go.RowKit

/-- what FnPairs asks of the pairs -/
structure PairFacts (T : List Int) (ps : List Pr) : Prop where
  each : ∀ i, i < ps.length → ∃ o c : Nat, (nthP ps i).1 = (o : Int) ∧ (nthP ps i).2 = (c : Int) ∧ o < c ∧ c < T.length ∧ brC (nth T o) = 0 ∧ brO (nth T o) = true ∧ brC (nth T c) = 0 ∧ brO (nth T c) = false ∧ brN (nth T o) = brN (nth T c)
  rises : ∀ i j, i < j → j < ps.length → (nthP ps i).1 < (nthP ps j).1
  nest : ∀ i j, i < j → j < ps.length → ¬ ((nthP ps j).1 < (nthP ps i).2 ∧ (nthP ps i).2 < (nthP ps j).2)
  few : ps.length ≤ T.length
theorem pair_facts (T N : List Int) : PairFacts T (pairsN T N) := by
  have inv := qinv_run T N T.length
  have ri : ∀ i j, i < j → j < (pairsN T N).length → (nthP (pairsN T N) i).1 < (nthP (pairsN T N) j).1 := by
    intro i j hij hj
    have := (List.pairwise_iff_getElem.1 inv.rises) i j (by unfold pairsN at hj; omega) hj hij
    unfold nthP
    rw [List.getElem?_eq_getElem (show i < (pairsN T N).length by omega), List.getElem?_eq_getElem hj]
    exact this
  exact ⟨fun i hi => inv.out _ (nthP_mem hi), ri, fun i j hij hj => inv.nest _ (nthP_mem (by unfold pairsN at *; omega)) _ (nthP_mem hj) (ri i j hij hj), inv.total⟩

theorem runZ_none (l : List Int) (k : Nat) (h : isNeu (nth l k) = false) : ∀ n, runZ l n k = k
  | 0 => rfl
  | n + 1 => by show (if _ then _ else _) = _; rw [if_neg (by rw [h]; simp)]
theorem neutrals_same (l : List Int) (way sos eos : Int) (h : ∀ x ∈ l, isNeu x = false) : neutralsN l way sos eos = l := by
  refine nth_eq_of _ _ (neutralsN_len _ _ _ _) fun j hj => ?_
  rw [neutralsN_len] at hj
  rw [neutralsN_nth _ _ _ _ j hj]
  unfold neuAt
  rw [if_neg (by rw [nth_all h j hj]; simp)]
theorem neutrals_in (l : List Int) {way sos eos : Int} (hw : way = 0 ∨ way = 1) (hs : sos = 0 ∨ sos = 1) (h : ∀ x ∈ l, In x) : ∀ x ∈ neutralsN l way sos eos, In x ∧ isNeu x = false := by
  refine all_nth fun j hj => ?_
  rw [neutralsN_len] at hj
  rw [neutralsN_nth _ _ _ _ j hj]
  unfold neuAt
  cases hn : isNeu (nth l j) with
  | true =>
    rw [if_pos rfl]
    rcases neuV_cases l hw hs (runA l j) (runEnd l j) with e | e
    · rw [e]; exact ⟨by unfold In; omega, by decide⟩
    · rw [e]; exact ⟨by unfold In; omega, by decide⟩
  | false => rw [if_neg (by simp)]; exact ⟨nth_all h j hj, hn⟩
theorem pairs_none (T N : List Int) (h : ∀ k, k < T.length → nth N k ≠ 13) : pairsN T N = [] := by
  have : ∀ k, k ≤ T.length → qrun T N k = ⟨[], [], false⟩ := by
    intro k
    induction k with
    | zero => intro _; rfl
    | succ k ih => intro hk; rw [qrun_none (fun e => h k (by omega) e.2), ih (by omega)]
  unfold pairsN
  rw [this _ (Nat.le_refl _)]
/-- what FnSides asks of a part that has no fault -/
structure SideFacts (p : Prt) : Prop where
  lenS : (sidesN p).length = p.T.length
  lenB : (bracketsN p).length = p.T.length
  left : ∀ j, j < p.T.length → isNeu (nth (sidesN p) j) = false ∧ In (nth (sidesN p) j)
  inS : ∀ x ∈ sidesN p, In x
  again : partF ⟨p.T, p.F, sidesN p, p.L, p.S, p.E⟩ = 0
  same : sidesN ⟨p.T, p.F, sidesN p, p.L, p.S, p.E⟩ = sidesN p
theorem side_facts {p : Prt} (h : partF p = 0) : SideFacts p := by
  obtain ⟨h1, h2, h3, h4, h5, h6, h7⟩ := partF_zero h
  have c2 := classF_zero h2
  have c3 := classF_zero h3
  have hs : p.S = 0 ∨ p.S = 1 := by have := c2.2.2; omega
  have hw := sideL_cases p.L
  have bi : ∀ x ∈ bracketsN p, In x := brun_all (P := In) p.F hw p.S p.N _ (show 0 ≤ (0 : Int) ∧ (0 : Int) ≤ 22 by omega) (show 0 ≤ (1 : Int) ∧ (1 : Int) ≤ 22 by omega) c3.2.1 _
  have si : ∀ x ∈ sidesN p, In x ∧ isNeu x = false := neutrals_in _ hw hs bi
  have ls : (sidesN p).length = p.T.length := by rw [sidesN_len]; exact h5
  have c4 : classF (sidesN p) p.E = 0 := classF_yes (by rw [sidesN_len]; exact c3.1) (fun x hx => (si x hx).1) c3.2.2
  refine ⟨ls, by rw [bracketsN_len]; exact h5, fun j hj => ⟨(nth_all si j (by omega)).2, (nth_all si j (by omega)).1⟩, fun x hx => (si x hx).1, partF_yes h1 h2 c4 h4 ls ⟨h6, h7⟩, ?_⟩
  have np : pairsN p.T (sidesN p) = [] := pairs_none _ _ fun k hk e => by
    have := (nth_all si k (by omega)).2
    rw [e] at this
    exact absurd this (by decide)
  have eb : bracketsN ⟨p.T, p.F, sidesN p, p.L, p.S, p.E⟩ = sidesN p := by
    unfold bracketsN
    show brun p.F (sideL p.L) p.S (sidesN p) (pairsN p.T (sidesN p)) (pairsN p.T (sidesN p)).length = _
    rw [np]; rfl
  have e : sidesN ⟨p.T, p.F, sidesN p, p.L, p.S, p.E⟩ = neutralsN (bracketsN ⟨p.T, p.F, sidesN p, p.L, p.S, p.E⟩) (sideL p.L) p.S p.E := rfl
  rw [e, eb]
  exact neutrals_same _ _ _ _ fun x hx => (si x hx).2
end Go.Proofs.Ytcfnhjpmihngdaa
