/- FnSequences' mathematics: what the law's loops have met. No program is named here. -/
import Derived.Test.YtmcmfklkljehiaaGreatY30
import Derived.Test.YtmcmfklkljehiaaGreatY33
namespace Go.Proofs.YtmcmfklkljehiaaGreat
open Go.RowKit

/-- the places met ahead of the k-th place of the i-th sequence -/
def metL (Q : List Sq) (i k : Nat) : List Int := ((Q.take i).map (·.places)).flatten ++ (nthQ Q i).places.take k
theorem metL_zero (Q : List Sq) : metL Q 0 0 = [] := by simp [metL]
theorem metL_step (Q : List Sq) (i k : Nat) (hk : k < (nthQ Q i).places.length) : metL Q i (k + 1) = metL Q i k ++ [nth (nthQ Q i).places k] := by
  unfold metL; rw [take_nth _ k hk, List.append_assoc]
theorem metL_next (Q : List Sq) (i : Nat) (hi : i < Q.length) : metL Q (i + 1) 0 = metL Q i (nthQ Q i).places.length := by
  unfold metL
  rw [List.take_succ_eq_append_getElem hi, List.map_append, List.flatten_append]
  simp [nthQ, List.getElem?_eq_getElem hi]
theorem metL_end (Q : List Sq) (i : Nat) (hi : Q.length ≤ i) : metL Q i 0 = (Q.map (·.places)).flatten := by
  unfold metL
  rw [List.take_of_length_le hi]; simp
theorem metL_pre (Q : List Sq) (i k : Nat) : (metL Q i k).Sublist (Q.map (·.places)).flatten := by
  by_cases hi : i < Q.length
  · have e : Q = Q.take i ++ nthQ Q i :: Q.drop (i + 1) := by
      have h1 : Q.drop i = nthQ Q i :: Q.drop (i + 1) := by rw [List.drop_eq_getElem_cons hi]; simp [nthQ, List.getElem?_eq_getElem hi]
      rw [← h1, List.take_append_drop]
    have e2 : (Q.map (·.places)).flatten = ((Q.take i).map (·.places)).flatten ++ ((nthQ Q i).places ++ ((Q.drop (i + 1)).map (·.places)).flatten) := by
      conv => lhs; rw [e]
      rw [List.map_append, List.flatten_append, List.map_cons, List.flatten_cons]
    rw [e2]
    exact (List.Sublist.refl _).append ((List.take_sublist k _).trans (List.sublist_append_left _ _))
  · have e : nthQ Q i = ⟨[], 0, 0, 0⟩ := by unfold nthQ; rw [List.getElem?_eq_none (by omega)]; rfl
    unfold metL
    rw [List.take_of_length_le (by omega), e]; simp
/-- the next place has not been met -/
theorem metL_fresh (Q : List Sq) (hQ : (Q.map (·.places)).flatten.Nodup) (i k : Nat) (hk : k < (nthQ Q i).places.length) : nth (nthQ Q i).places k ∉ metL Q i k := by
  have h := (metL_pre Q i (k + 1)).nodup hQ
  rw [metL_step Q i k hk] at h
  have := (List.pairwise_append.1 h).2.2
  exact fun hm => this _ hm _ (by simp) rfl
theorem metL_len (Q : List Sq) (i k : Nat) : (metL Q i k).length ≤ (Q.map (·.places)).flatten.length := (metL_pre Q i k).length_le
/-- the row of signs that says which places have been met -/
def signs (n : Nat) (l : List Int) : List Bool := (List.range n).map fun x : Nat => decide ((x : Int) ∈ l)
theorem signs_len (n : Nat) (l : List Int) : (signs n l).length = n := by simp [signs]
theorem signs_nil (n : Nat) : signs n [] = List.replicate n false := by simp [signs, List.map_const']
theorem signs_get (n : Nat) (l : List Int) (x : Nat) (h : x < n) : (signs n l)[x]? = some (decide ((x : Int) ∈ l)) := by simp [signs, List.getElem?_map, List.getElem?_range h]
theorem signs_set (n : Nat) (l : List Int) (x : Nat) : (signs n l).set x true = signs n (l ++ [(x : Int)]) := by
  apply List.ext_getElem?
  intro i
  by_cases hi : i < n
  · rw [signs_get n _ i hi]
    by_cases e : i = x
    · subst e
      rw [List.getElem?_set_self (by rw [signs_len]; exact hi)]; simp
    · rw [List.getElem?_set_ne (by omega), signs_get n _ i hi]
      congr 1
      simp; omega
  · rw [List.getElem?_eq_none (by rw [List.length_set, signs_len]; omega), List.getElem?_eq_none (by rw [signs_len]; omega)]
/-- the law's own count of what is kept: as many as keptN has -/
theorem kept_count (ls : List Int) (k : Nat) : ((keptN ls (k + 1)).length : Int) = (keptN ls k).length + (if nth ls k = -1 then 0 else 1) := by
  by_cases h : nth ls k = -1
  · rw [keptN_gone h, if_pos h]; omega
  · rw [keptN_kept h, if_neg h, List.length_append]; simp
end Go.Proofs.YtmcmfklkljehiaaGreat
