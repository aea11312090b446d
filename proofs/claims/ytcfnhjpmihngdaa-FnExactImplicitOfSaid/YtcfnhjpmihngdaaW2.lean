/- Chapter 6: ClassesFault, the program's and the model's. -/
import Derived.Test.YtcfnhjpmihngdaaW1
import Derived.Test.YtcfnhjpmihngdaaC1
import Derived.Test.YtcfnhjpmihngdaaA1
namespace Go.Proofs.Ytcfnhjpmihngdaa
open Go.RowKit Go.Maps

theorem classF_many {xs : List Int} {s : Int} (h : 600 < xs.length) : classF xs s = 2 := by unfold classF; rw [if_pos h]
theorem classF_range {xs : List Int} {s : Int} (h : ¬ 600 < xs.length) (h2 : xs.all clsB = false) : classF xs s = 3 := by unfold classF; rw [if_neg h, if_neg (by rw [h2]; simp)]
theorem classF_form {xs : List Int} {s : Int} (h : ¬ 600 < xs.length) (h2 : xs.all clsB = true) (h3 : ¬ (0 ≤ s ∧ s ≤ 1)) : classF xs s = 1 := by unfold classF; rw [if_neg h, if_pos h2, if_neg h3]
theorem classF_ok {xs : List Int} {s : Int} (h : ¬ 600 < xs.length) (h2 : xs.all clsB = true) (h3 : 0 ≤ s ∧ s ≤ 1) : classF xs s = 0 := by unfold classF; rw [if_neg h, if_pos h2, if_pos h3]
theorem all_step6 (zs : List Int) (k : Nat) (hk : k < zs.length) (h : clsB (nth zs k) = true) : (zs.take (k + 1)).all clsB = (zs.take k).all clsB := by rw [take_nth zs k hk, List.all_append]; simp [h]
theorem all_false6 (zs : List Int) (k : Nat) (hk : k < zs.length) (h : clsB (nth zs k) = false) : zs.all clsB = false := by
  rw [List.all_eq_false]
  exact ⟨nth zs k, by unfold nth; rw [List.getElem?_eq_getElem hk]; exact List.getElem_mem hk, by rw [h]; simp⟩
theorem spans_cls (z : Int) : spans z [0, 22] = clsB z := by simp [spans, clsB, Bool.decide_and]
end Go.Proofs.Ytcfnhjpmihngdaa
