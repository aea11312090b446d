/- Characters to bytes: the model's l1Char, l1Encode, EncodeText. -/
import Derived.Test.YtcfnhjpmihngdaaGreatY02
import Derived.Test.YtcfnhjpmihngdaaGreatY01
import Derived.Maps.AppendAt
import Derived.Laws.AppendOwnNone
namespace Go.Proofs.YtcfnhjpmihngdaaGreat
open Go.RowKit

def pairCells : Array Value := #[.int .i64 40, .int .i64 41, .int .i64 40, .int .i64 60, .int .i64 62, .int .i64 0, .int .i64 91, .int .i64 93, .int .i64 91, .int .i64 123, .int .i64 125, .int .i64 123, .int .i64 9001, .int .i64 9002, .int .i64 9001, .int .i64 12296, .int .i64 12297, .int .i64 9001]

abbrev Row3 := Int × Int × Int
def pairL : List Row3 := [(40, 41, 40), (60, 62, 0), (91, 93, 91), (123, 125, 123), (9001, 9002, 9001), (12296, 12297, 9001)]
def pairAt (c : Int) : Option Row3 := pairL.find? fun p => decide (c = p.1) || decide (c = p.2.1)
def pFirst (c : Int) : Int := ((pairAt c).getD (0, 0, 0)).1
def pSecond (c : Int) : Int := ((pairAt c).getD (0, 0, 0)).2.1
def pName (c : Int) : Int := ((pairAt c).getD (0, 0, 0)).2.2
def isPaired (c : Int) : Bool := (pairAt c).isSome
def pairsLeft (k : Nat) (c : Int) : Prop := ∀ j p, j < k → pairL[j]? = some p → c ≠ p.1 ∧ c ≠ p.2.1

theorem find_ge {c : Int} {f : Row3 → Bool} : ∀ (l : List Row3) (k : Nat) (p : Row3), l[k]? = some p → f p = true → (∀ j q, j < k → l[j]? = some q → f q = false) → l.find? f = some p
  | [], _, _, h, _, _ => by simp at h
  | x :: l, 0, p, h, hf, _ => by simp at h; subst h; simp [hf]
  | x :: l, k + 1, p, h, hf, hn => by
    rw [List.find?_cons_of_neg (by rw [hn 0 x (by omega) rfl]; decide)]
    exact find_ge (c := c) l k p (by simpa using h) hf (fun j q hj hq => hn (j + 1) q (by omega) (by simpa using hq))

theorem pairAt_of {c : Int} {k : Nat} {p : Row3} (hk : pairL[k]? = some p) (h : pairsLeft k c) (hc : c = p.1 ∨ c = p.2.1) : pairAt c = some p :=
  find_ge (c := c) pairL k p hk (by simpa using hc) (fun j q hj hq => by have := h j q hj hq; simp [this.1, this.2])
theorem pairAt_none {c : Int} (h : pairsLeft 6 c) : pairAt c = none := by
  unfold pairAt
  rw [List.find?_eq_none]
  intro p hp
  obtain ⟨j, hj, rfl⟩ := List.getElem_of_mem hp
  have := h j _ hj (List.getElem?_eq_getElem hj)
  simp [this.1, this.2]
theorem pairsLeft_step {c : Int} {k : Nat} {p : Row3} (hk : pairL[k]? = some p) (h : pairsLeft k c) (h1 : c ≠ p.1) (h2 : c ≠ p.2.1) : pairsLeft (k + 1) c := by
  intro j q hj hq
  by_cases e : j = k
  · subst e; rw [hk] at hq; cases hq; exact ⟨h1, h2⟩
  · exact h j q (by omega) hq

end Go.Proofs.YtcfnhjpmihngdaaGreat

namespace Go.Proofs.YtcfnhjpmihngdaaGreat
open Go.RowKit

def mirN (c : Int) : Int := if isPaired c = true then (if c = pFirst c then pSecond c else pFirst c) else c
def mirC (c : Int) : Int := if isChr c = true then 0 else 3
def mirV (c : Int) : Int := if isChr c = true then mirN c else 0
theorem mir_no {c : Int} (h : isChr c = false) : mirC c = 3 ∧ mirV c = 0 := by unfold mirC mirV; simp [h]
theorem mir_yes {c : Int} (h : isChr c = true) : mirC c = 0 ∧ mirV c = mirN c := by unfold mirC mirV; simp [h]
def isBr (c : Int) : Bool := isPaired c && !(pName c == 0)
def brC (c : Int) : Int := if isChr c = true then (if isBr c = true then 0 else 4) else 3
def brO (c : Int) : Bool := isChr c && isBr c && (c == pFirst c)
def brN (c : Int) : Int := if isChr c = true then (if isBr c = true then pName c else 0) else 0
theorem br_no {c : Int} (h : isChr c = false) : brC c = 3 ∧ brO c = false ∧ brN c = 0 := by unfold brC brO brN; simp [h]
theorem br_none {c : Int} (h : isChr c = true) (k : isBr c = false) : brC c = 4 ∧ brO c = false ∧ brN c = 0 := by unfold brC brO brN; simp [h, k]
theorem br_yes {c : Int} (h : isChr c = true) (k : isBr c = true) : brC c = 0 ∧ brO c = (c == pFirst c) ∧ brN c = pName c := by unfold brC brO brN; simp [h, k]
theorem agg3 {a a' n n' : Int} {o o' : Bool} (h : a = a') (k : o = o') (l : n = n') : Ending.returned (.agg #[.int .i64 a, .bool o, .int .i64 n]) = .returned (.agg #[.int .i64 a', .bool o', .int .i64 n']) := by rw [h, k, l]

def flatL : List Int := [40, 41, 60, 62, 91, 93, 123, 125, 9001, 9002, 12296, 12297]
def flatLeft (k : Nat) (c : Int) : Prop := ∀ j x, j < k → flatL[j]? = some x → c ≠ x
theorem flat_end {c : Int} (h : flatLeft 12 c) : isPaired c = false := by
  have : pairsLeft 6 c := by
    intro j p hj hp
    match j, hp with
    | 0, hp => cases hp; exact ⟨h 0 _ (by omega) rfl, h 1 _ (by omega) rfl⟩
    | 1, hp => cases hp; exact ⟨h 2 _ (by omega) rfl, h 3 _ (by omega) rfl⟩
    | 2, hp => cases hp; exact ⟨h 4 _ (by omega) rfl, h 5 _ (by omega) rfl⟩
    | 3, hp => cases hp; exact ⟨h 6 _ (by omega) rfl, h 7 _ (by omega) rfl⟩
    | 4, hp => cases hp; exact ⟨h 8 _ (by omega) rfl, h 9 _ (by omega) rfl⟩
    | 5, hp => cases hp; exact ⟨h 10 _ (by omega) rfl, h 11 _ (by omega) rfl⟩
    | j + 6, _ => omega
  unfold isPaired
  rw [pairAt_none this]; rfl
theorem flat_step {c : Int} {k : Nat} {x : Int} (hk : flatL[k]? = some x) (h : flatLeft k c) (h1 : c ≠ x) : flatLeft (k + 1) c := by
  intro j q hj hq
  by_cases e : j = k
  · subst e; rw [hk] at hq; cases hq; exact h1
  · exact h j q (by omega) hq

end Go.Proofs.YtcfnhjpmihngdaaGreat

namespace Go.Proofs.YtcfnhjpmihngdaaGreat
open Go.RowKit

def Chr (c : Int) : Prop := (0 ≤ c ∧ c ≤ 55295) ∨ (57344 ≤ c ∧ c ≤ 1114111)
theorem Chr.lo {c : Int} (h : Chr c) : 0 ≤ c := by unfold Chr at h; omega
theorem Chr.hi {c : Int} (h : Chr c) : c ≤ 1114111 := by unfold Chr at h; omega

def enc1 (c : Int) : List Int :=
  if c < 128 then [c] else if c < 2048 then [192 + c / 64, 128 + c % 64]
  else if c < 65536 then [224 + c / 4096, 128 + c / 64 % 64, 128 + c % 64]
  else [240 + c / 262144, 128 + c / 4096 % 64, 128 + c / 64 % 64, 128 + c % 64]

theorem own_new (w : World) (t : TypeId) (vs : Array Value) (n : Nat) (h : vs.size = n) (hm : n ≤ 1000) :
    (w.alloc (.cells vs t)).ownsRow w.heap.size t 1 (.slice (some ⟨w.heap.size, 0, none⟩) n n) n vs.toList :=
  World.ownsRow_lit w vs n (Nat.le_refl _) (by unfold maxLen; omega) (by omega)


def encs (zs : List Int) : List Int := zs.flatMap enc1
theorem enc1_len (c : Int) : (enc1 c).length ≤ 4 := by
  unfold enc1; split <;> try split <;> try split
  all_goals simp
theorem enc1_pos (c : Int) : 0 < (enc1 c).length := by
  unfold enc1
  repeat' split
  all_goals simp
theorem encs_len (zs : List Int) : (encs zs).length ≤ 4 * zs.length := by
  induction zs with
  | nil => simp [encs]
  | cons z zs ih => have := enc1_len z; simp [encs] at ih ⊢; omega
theorem encs_step (zs : List Int) (k : Nat) (h : k < zs.length) : encs (zs.take (k + 1)) = encs (zs.take k) ++ enc1 (nth zs k) := by
  rw [take_nth zs k h]; simp [encs]


def chrB (c : Int) : Bool := decide ((0 ≤ c ∧ c ≤ 55295) ∨ (57344 ≤ c ∧ c ≤ 1114111))
def encode (zs : List Int) : Int × List Int := if 600 < zs.length then (2, []) else if zs.all chrB then (0, encs zs) else (3, [])

theorem all_step (p : Int → Bool) (zs : List Int) (k : Nat) (h : k < zs.length) (hp : p (nth zs k) = true) : (zs.take (k + 1)).all p = (zs.take k).all p := by
  rw [take_nth zs k h, List.all_append]; simp [hp]
theorem all_false (p : Int → Bool) (zs : List Int) (k : Nat) (h : k < zs.length) (hp : p (nth zs k) = false) : zs.all p = false := by
  rw [List.all_eq_false]
  exact ⟨nth zs k, by simp [nth, List.getElem?_eq_getElem h], by simp [hp]⟩
theorem all_chr (zs : List Int) (h : zs.all chrB = true) : ∀ z ∈ zs, 0 ≤ z ∧ z ≤ 1114111 := by
  intro z hz
  have := List.all_eq_true.1 h z hz
  simp only [chrB, decide_eq_true_eq] at this
  omega


def textF (zs : List Int) : Int := if 600 < zs.length then 2 else if zs.all chrB then 0 else 3
theorem textF_many {zs : List Int} (h : 600 < zs.length) : textF zs = 2 := by unfold textF; rw [if_pos h]
theorem textF_no {zs : List Int} (h : ¬ 600 < zs.length) (h' : zs.all chrB = false) : textF zs = 3 := by unfold textF; rw [if_neg h, h']; rfl
theorem textF_ok {zs : List Int} (h : ¬ 600 < zs.length) (h' : zs.all chrB = true) : textF zs = 0 := by unfold textF; rw [if_neg h, h']; rfl
theorem textF_zero {zs : List Int} (h : textF zs = 0) : zs.length ≤ 600 ∧ zs.all chrB = true := by
  unfold textF at h
  split at h
  · omega
  · split at h
    · exact ⟨by omega, by assumption⟩
    · omega
theorem textF_range (zs : List Int) : 0 ≤ textF zs ∧ textF zs ≤ 3 := by
  unfold textF
  repeat' split
  all_goals omega
end Go.Proofs.YtcfnhjpmihngdaaGreat
