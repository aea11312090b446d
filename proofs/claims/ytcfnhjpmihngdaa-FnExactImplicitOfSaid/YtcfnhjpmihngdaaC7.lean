/- Chapter 2: MirrorOf, BracketOf: the program's and the model's. -/
import Derived.Test.YtcfnhjpmihngdaaC6
namespace Go.Proofs.Ytcfnhjpmihngdaa
open Go.RowKit

def mirN (c : Int) : Int := if isPaired c = true then (if c = pFirst c then pSecond c else pFirst c) else c
def mirC (c : Int) : Int := if isChr c = true then 0 else 3
def mirV (c : Int) : Int := if isChr c = true then mirN c else 0
theorem mir_no {c : Int} (h : isChr c = false) : mirC c = 3 ∧ mirV c = 0 := by unfold mirC mirV; simp [h]
theorem mir_yes {c : Int} (h : isChr c = true) : mirC c = 0 ∧ mirV c = mirN c := by unfold mirC mirV; simp [h]
def isBr (c : Int) : Bool := isPaired c && !(pName c == 0)
def brC (c : Int) : Int := if isChr c = true then (if isBr c = true then 0 else 4) else 3
def brO (c : Int) : Bool := isChr c && isBr c && (c == pFirst c)
def brN (c : Int) : Int := if isChr c = true then (if isBr c = true then pName c else 0) else 0
theorem br_no {c : Int} (h : isChr c = false) : brC c = 3 ∧ brO c = false ∧ brN c = 0 := by unfold brC brO brN; simp [h]
theorem br_none {c : Int} (h : isChr c = true) (k : isBr c = false) : brC c = 4 ∧ brO c = false ∧ brN c = 0 := by unfold brC brO brN; simp [h, k]
theorem br_yes {c : Int} (h : isChr c = true) (k : isBr c = true) : brC c = 0 ∧ brO c = (c == pFirst c) ∧ brN c = pName c := by unfold brC brO brN; simp [h, k]
theorem agg3 {a a' n n' : Int} {o o' : Bool} (h : a = a') (k : o = o') (l : n = n') : Ending.returned (.agg #[.int .i64 a, .bool o, .int .i64 n]) = .returned (.agg #[.int .i64 a', .bool o', .int .i64 n']) := by rw [h, k, l]

def flatL : List Int := [40, 41, 60, 62, 91, 93, 123, 125, 9001, 9002, 12296, 12297]
def flatLeft (k : Nat) (c : Int) : Prop := ∀ j x, j < k → flatL[j]? = some x → c ≠ x
theorem flat_end {c : Int} (h : flatLeft 12 c) : isPaired c = false := by
  have : pairsLeft 6 c := by
    intro j p hj hp
    match j, hp with
    | 0, hp => cases hp; exact ⟨h 0 _ (by omega) rfl, h 1 _ (by omega) rfl⟩
    | 1, hp => cases hp; exact ⟨h 2 _ (by omega) rfl, h 3 _ (by omega) rfl⟩
    | 2, hp => cases hp; exact ⟨h 4 _ (by omega) rfl, h 5 _ (by omega) rfl⟩
    | 3, hp => cases hp; exact ⟨h 6 _ (by omega) rfl, h 7 _ (by omega) rfl⟩
    | 4, hp => cases hp; exact ⟨h 8 _ (by omega) rfl, h 9 _ (by omega) rfl⟩
    | 5, hp => cases hp; exact ⟨h 10 _ (by omega) rfl, h 11 _ (by omega) rfl⟩
    | j + 6, _ => omega
  unfold isPaired
  rw [pairAt_none this]; rfl
theorem flat_step {c : Int} {k : Nat} {x : Int} (hk : flatL[k]? = some x) (h : flatLeft k c) (h1 : c ≠ x) : flatLeft (k + 1) c := by
  intro j q hj hq
  by_cases e : j = k
  · subst e; rw [hk] at hq; cases hq; exact h1
  · exact h j q (by omega) hq

end Go.Proofs.Ytcfnhjpmihngdaa
