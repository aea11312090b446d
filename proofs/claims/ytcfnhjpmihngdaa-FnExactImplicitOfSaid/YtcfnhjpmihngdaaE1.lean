/- Characters to bytes: the model's l1Char, l1Encode, EncodeText. -/
import Derived.Test.YtcfnhjpmihngdaaA1
import Derived.Test.YtcfnhjpmihngdaaH1
import Derived.Maps.AppendAt
import Derived.Laws.AppendOwnNone
namespace Go.Proofs.Ytcfnhjpmihngdaa
open Go.RowKit

def Chr (c : Int) : Prop := (0 ≤ c ∧ c ≤ 55295) ∨ (57344 ≤ c ∧ c ≤ 1114111)
theorem Chr.lo {c : Int} (h : Chr c) : 0 ≤ c := by unfold Chr at h; omega
theorem Chr.hi {c : Int} (h : Chr c) : c ≤ 1114111 := by unfold Chr at h; omega

def enc1 (c : Int) : List Int :=
  if c < 128 then [c] else if c < 2048 then [192 + c / 64, 128 + c % 64]
  else if c < 65536 then [224 + c / 4096, 128 + c / 64 % 64, 128 + c % 64]
  else [240 + c / 262144, 128 + c / 4096 % 64, 128 + c / 64 % 64, 128 + c % 64]

theorem own_new (w : World) (t : TypeId) (vs : Array Value) (n : Nat) (h : vs.size = n) (hm : n ≤ 1000) :
    (w.alloc (.cells vs t)).ownsRow w.heap.size t 1 (.slice (some ⟨w.heap.size, 0, none⟩) n n) n vs.toList :=
  World.ownsRow_lit w vs n (Nat.le_refl _) (by unfold maxLen; omega) (by omega)


def encs (zs : List Int) : List Int := zs.flatMap enc1
theorem enc1_len (c : Int) : (enc1 c).length ≤ 4 := by
  unfold enc1; split <;> try split <;> try split
  all_goals simp
theorem enc1_pos (c : Int) : 0 < (enc1 c).length := by
  unfold enc1
  repeat' split
  all_goals simp
theorem encs_len (zs : List Int) : (encs zs).length ≤ 4 * zs.length := by
  induction zs with
  | nil => simp [encs]
  | cons z zs ih => have := enc1_len z; simp [encs] at ih ⊢; omega
theorem encs_step (zs : List Int) (k : Nat) (h : k < zs.length) : encs (zs.take (k + 1)) = encs (zs.take k) ++ enc1 (nth zs k) := by
  rw [take_nth zs k h]; simp [encs]


def chrB (c : Int) : Bool := decide ((0 ≤ c ∧ c ≤ 55295) ∨ (57344 ≤ c ∧ c ≤ 1114111))
def encode (zs : List Int) : Int × List Int := if 600 < zs.length then (2, []) else if zs.all chrB then (0, encs zs) else (3, [])

theorem all_step (p : Int → Bool) (zs : List Int) (k : Nat) (h : k < zs.length) (hp : p (nth zs k) = true) : (zs.take (k + 1)).all p = (zs.take k).all p := by
  rw [take_nth zs k h, List.all_append]; simp [hp]
theorem all_false (p : Int → Bool) (zs : List Int) (k : Nat) (h : k < zs.length) (hp : p (nth zs k) = false) : zs.all p = false := by
  rw [List.all_eq_false]
  exact ⟨nth zs k, by simp [nth, List.getElem?_eq_getElem h], by simp [hp]⟩
theorem all_chr (zs : List Int) (h : zs.all chrB = true) : ∀ z ∈ zs, 0 ≤ z ∧ z ≤ 1114111 := by
  intro z hz
  have := List.all_eq_true.1 h z hz
  simp only [chrB, decide_eq_true_eq] at this
  omega


def textF (zs : List Int) : Int := if 600 < zs.length then 2 else if zs.all chrB then 0 else 3
theorem textF_many {zs : List Int} (h : 600 < zs.length) : textF zs = 2 := by unfold textF; rw [if_pos h]
theorem textF_no {zs : List Int} (h : ¬ 600 < zs.length) (h' : zs.all chrB = false) : textF zs = 3 := by unfold textF; rw [if_neg h, h']; rfl
theorem textF_ok {zs : List Int} (h : ¬ 600 < zs.length) (h' : zs.all chrB = true) : textF zs = 0 := by unfold textF; rw [if_neg h, h']; rfl
theorem textF_zero {zs : List Int} (h : textF zs = 0) : zs.length ≤ 600 ∧ zs.all chrB = true := by
  unfold textF at h
  split at h
  · omega
  · split at h
    · exact ⟨by omega, by assumption⟩
    · omega
theorem textF_range (zs : List Int) : 0 ≤ textF zs ∧ textF zs ≤ 3 := by
  unfold textF
  repeat' split
  all_goals omega
end Go.Proofs.Ytcfnhjpmihngdaa
