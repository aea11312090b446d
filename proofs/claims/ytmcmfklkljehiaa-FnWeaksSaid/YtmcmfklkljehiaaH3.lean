/- The laws' helpers at slices of slices: the comparison, the marks. -/
import Derived.Test.YtmcmfklkljehiaaH1
import Derived.Test.YtmcmfklkljehiaaO1
import Derived.Test.YtmcmfklkljehiaaG0
namespace Go.Proofs.Ytmcmfklkljehiaa
open Go.RowKit

def marksSS : Int → List (List Int) → List (List Int)
  | _, [] => []
  | k, zs :: r => marks k zs.length :: marksSS (k + zs.length) r
theorem marksSS_length : ∀ (k : Int) (zss : List (List Int)), (marksSS k zss).length = zss.length
  | _, [] => rfl
  | k, zs :: r => by simp [marksSS, marksSS_length]
theorem nthL_zero (zs : List Int) (r : List (List Int)) : nthL (zs :: r) 0 = zs := rfl
theorem nthL_succ (zs : List Int) (r : List (List Int)) (j : Nat) : nthL (zs :: r) (j + 1) = nthL r j := by simp [nthL]
theorem total_cons (zs : List Int) (r : List (List Int)) : total (zs :: r) = zs.length + total r := by simp [total]
theorem marksSS_nth : ∀ (k : Int) (zss : List (List Int)) (j : Nat), j < zss.length → nthL (marksSS k zss) j = marks (k + (total (zss.take j) : Int)) (nthL zss j).length
  | _, [], _, h => by simp at h
  | k, zs :: r, 0, _ => by simp [marksSS, nthL_zero, total]
  | k, zs :: r, j + 1, h => by
    rw [marksSS, nthL_succ, nthL_succ, marksSS_nth (k + zs.length) r j (by simpa using h), List.take_succ_cons, total_cons]
    congr 1
    omega
theorem total_take_step (zss : List (List Int)) (j : Nat) (h : j < zss.length) : total (zss.take (j + 1)) = total (zss.take j) + (nthL zss j).length := by
  rw [List.take_succ_eq_append_getElem h, total_app, total_one]
  simp [nthL, List.getElem?_eq_getElem h]
theorem total_take_le : ∀ (zss : List (List Int)) (j : Nat), total (zss.take j) ≤ total zss
  | [], j => by simp
  | zs :: r, 0 => by simp [total]
  | zs :: r, j + 1 => by rw [List.take_succ_cons, total_cons, total_cons]; have := total_take_le r j; omega
theorem total_nth_le (zss : List (List Int)) (j : Nat) (h : j < zss.length) : total (zss.take j) + (nthL zss j).length ≤ total zss := by
  rw [← total_take_step zss j h]; exact total_take_le _ _
/-- the first j of a, then those of b -/
def mixL (a b : List (List Int)) (j : Nat) : List (List Int) := a.take j ++ b.drop j
theorem mixL_length (a b : List (List Int)) (j : Nat) (h : a.length = b.length) : (mixL a b j).length = b.length := by simp [mixL, h]; omega
theorem mixL_nth (a b : List (List Int)) (j : Nat) (h : a.length = b.length) (hj : j < b.length) : nthL (mixL a b j) j = nthL b j := by
  unfold nthL mixL
  rw [List.getElem?_append_right (by simp; omega), List.getElem?_drop, List.length_take, Nat.min_eq_left (by omega)]
  congr 2
  omega
theorem mixL_step (a b : List (List Int)) (j : Nat) (h : a.length = b.length) (hj : j < b.length) : (mixL a b j).set j (nthL a j) = mixL a b (j + 1) := by
  have e : a.take (j + 1) = a.take j ++ [nthL a j] := by
    rw [List.take_succ_eq_append_getElem (by omega)]; simp [nthL, List.getElem?_eq_getElem (show j < a.length by omega)]
  unfold mixL
  rw [List.set_append_right _ _ (by simp; omega), List.length_take, Nat.min_eq_left (by omega), Nat.sub_self, List.drop_eq_getElem_cons hj, List.set_cons_zero, e]
  simp
theorem mixL_zero (a b : List (List Int)) : mixL a b 0 = b := by simp [mixL]
theorem mixL_all (a b : List (List Int)) (j : Nat) (h : a.length = b.length) (hj : b.length ≤ j) : mixL a b j = a := by
  unfold mixL; rw [List.drop_of_length_le hj, List.take_of_length_le (by omega), List.append_nil]

theorem lwNums_same (v u : Value) (zs : List Int) (w : World) (B B' : Nat) (h1 : Sees w B .i64 v zs) (h2 : Sees w B' .i64 u zs) (hl : zs.length < 1000000000) :
    Calls Try.prog 16 #[v, u] w fun e w' => e = .returned (.bool true) ∧ ∃ n, w' = w.drewN n := by
  obtain ⟨A, c, rfl, hr⟩ := h1
  obtain ⟨A', c', rfl, hr'⟩ := h2
  exact (lwNums_any A A' zs zs c c' w B B' hr hr' hl hl).mono fun e w' ⟨he, hw⟩ => ⟨by rw [he]; simp, hw⟩


end Go.Proofs.Ytmcmfklkljehiaa
