/- Chapter 8: what a level becomes. No program is named here. -/
import Derived.Test.YtcfnhjpmihngdaaX0
namespace Go.Proofs.Ytcfnhjpmihngdaa
open Go.RowKit

/-- the level of a class in a part of this level -/
def implF (l c : Int) : Int := if 0 ≤ l ∧ l ≤ 126 then (if sideC c = -1 then 1 else 0) else 3
def implN (l c : Int) : Int := if l % 2 = 0 then (if c = 1 then l + 1 else if c = 0 then l else l + 2) else (if c = 1 then l else l + 1)
theorem implN_near (l c : Int) : l ≤ implN l c ∧ implN l c ≤ l + 2 := by
  unfold implN
  split
  · split
    · omega
    · split <;> omega
  · split <;> omega

def implV (l c : Int) : Int := if implF l c = 0 then implN l c else 0
theorem implF_range {l c : Int} (h : ¬ (0 ≤ l ∧ l ≤ 126)) : implF l c = 3 ∧ implV l c = 0 := by
  have e : implF l c = 3 := by unfold implF; rw [if_neg h]
  exact ⟨e, by unfold implV; rw [if_neg (by omega)]⟩
theorem implF_form {l c : Int} (h : 0 ≤ l ∧ l ≤ 126) (hc : sideC c = -1) : implF l c = 1 ∧ implV l c = 0 := by
  have e : implF l c = 1 := by unfold implF; rw [if_pos h, if_pos hc]
  exact ⟨e, by unfold implV; rw [if_neg (by omega)]⟩
theorem implF_none {l c : Int} (h : 0 ≤ l ∧ l ≤ 126) (hc : ¬ sideC c = -1) : implF l c = 0 ∧ implV l c = implN l c := by
  have e : implF l c = 0 := by unfold implF; rw [if_pos h, if_neg hc]
  exact ⟨e, by unfold implV; rw [if_pos e]⟩
theorem sideC_of (c : Int) : sideC c = -1 ∨ sideC c = 0 ∨ sideC c = 1 := by
  unfold sideC
  split
  · simp
  · split <;> simp
/-- a level's rise, by its way and the class -/
def riseN (way c : Int) : Int := if c = way then 0 else if way = 0 ∧ c ≠ 1 then 2 else 1
theorem implN_rise (l c : Int) : implN l c = l + riseN (sideL l) c := by
  unfold implN riseN sideL
  by_cases hl : l % 2 = 0
  · rw [if_pos hl, if_pos hl]
    by_cases h1 : c = 1
    · subst h1; simp
    · by_cases h0 : c = 0
      · subst h0; simp
      · rw [if_neg h1, if_neg h0, if_neg h0, if_pos ⟨rfl, h1⟩]
  · rw [if_neg hl, if_neg hl]
    by_cases h1 : c = 1
    · subst h1; simp
    · rw [if_neg h1, if_neg h1, if_neg (by omega)]

end Go.Proofs.Ytcfnhjpmihngdaa
