/- The laws' helpers at lists of pairs, and at PairsResult. -/
import Derived.Test.YtkkojemnbcddfaaH1
import Derived.Test.YtkkojemnbcddfaaX1
import Derived.Deep.RegionHeld3
namespace Go.Proofs.Ytkkojemnbcddfaa
open Go.RowKit

def marksP (k : Int) (l : List Pr) : List Pr := (List.range l.length).map fun j => (k + ((2 * j : Nat) : Int), k + ((2 * j + 1 : Nat) : Int))
theorem marksP_length (k : Int) (l : List Pr) : (marksP k l).length = l.length := by simp [marksP]
theorem marksP_nth (k : Int) (l : List Pr) (j : Nat) (h : j < l.length) : nthP (marksP k l) j = (k + ((2 * j : Nat) : Int), k + ((2 * j + 1 : Nat) : Int)) := by simp [marksP, nthP, h]
def mixP (a b : List Pr) (j : Nat) : List Pr := a.take j ++ b.drop j
theorem mixP_length (a b : List Pr) (j : Nat) (h : a.length = b.length) : (mixP a b j).length = b.length := by simp [mixP, h]; omega
theorem mixP_step (a b : List Pr) (j : Nat) (h : a.length = b.length) (hj : j < b.length) : (mixP a b j).set j (nthP a j) = mixP a b (j + 1) := by
  have e : a.take (j + 1) = a.take j ++ [nthP a j] := by
    rw [List.take_succ_eq_append_getElem (by omega)]; simp [nthP, List.getElem?_eq_getElem (show j < a.length by omega)]
  unfold mixP
  rw [List.set_append_right _ _ (by simp; omega), List.length_take, Nat.min_eq_left (by omega), Nat.sub_self, List.drop_eq_getElem_cons hj, List.set_cons_zero, e]
  simp
theorem mixP_zero (a b : List Pr) : mixP a b 0 = b := by simp [mixP]
theorem mixP_all (a b : List Pr) (j : Nat) (h : a.length = b.length) (hj : b.length ≤ j) : mixP a b j = a := by
  unfold mixP; rw [List.drop_of_length_le hj, List.take_of_length_le (by omega), List.append_nil]
theorem prs_set : ∀ (l : List Pr) (k : Nat) (a b : Int), k < l.length → ((prs l).set (k * 2) (.int .i64 a)).set (k * 2 + 1) (.int .i64 b) = prs (l.set k (a, b))
  | [], k, _, _, h => by simp at h
  | x :: l, 0, a, b, _ => rfl
  | x :: l, k + 1, a, b, h => by
    have ih := prs_set l k a b (by simpa using h)
    rw [prs_cons, show (k + 1) * 2 = (k * 2) + 1 + 1 by omega, show k * 2 + 1 + 1 + 1 = (k * 2 + 1) + 1 + 1 by omega, List.set_cons_succ, List.set_cons_succ, List.set_cons_succ, List.set_cons_succ, ih, List.set_cons_succ, prs_cons]
theorem out_set1 (w : World) {lo hi g : Nat} (h1 : lo ≤ g) (h2 : g < hi) (i : Nat) (u : Value) : Out lo hi w (w.setCell ⟨g, i, none⟩ u) :=
  ⟨rfl, rfl, rfl, by simp, fun k _ hn => heap_setCell_other w ⟨g, i, none⟩ k u (by intro e; subst e; exact hn ⟨h1, h2⟩)⟩
end Go.Proofs.Ytkkojemnbcddfaa
