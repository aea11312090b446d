/- Chapter 2: the pairs: MirrorOf, BracketOf. -/
import Derived.Test.YtcfnhjpmihngdaaC1
namespace Go.Proofs.Ytcfnhjpmihngdaa
open Go.RowKit

def pairCells : Array Value := #[.int .i64 40, .int .i64 41, .int .i64 40, .int .i64 60, .int .i64 62, .int .i64 0, .int .i64 91, .int .i64 93, .int .i64 91, .int .i64 123, .int .i64 125, .int .i64 123, .int .i64 9001, .int .i64 9002, .int .i64 9001, .int .i64 12296, .int .i64 12297, .int .i64 9001]

abbrev Row3 := Int × Int × Int
def pairL : List Row3 := [(40, 41, 40), (60, 62, 0), (91, 93, 91), (123, 125, 123), (9001, 9002, 9001), (12296, 12297, 9001)]
def pairAt (c : Int) : Option Row3 := pairL.find? fun p => decide (c = p.1) || decide (c = p.2.1)
def pFirst (c : Int) : Int := ((pairAt c).getD (0, 0, 0)).1
def pSecond (c : Int) : Int := ((pairAt c).getD (0, 0, 0)).2.1
def pName (c : Int) : Int := ((pairAt c).getD (0, 0, 0)).2.2
def isPaired (c : Int) : Bool := (pairAt c).isSome
def pairsLeft (k : Nat) (c : Int) : Prop := ∀ j p, j < k → pairL[j]? = some p → c ≠ p.1 ∧ c ≠ p.2.1

theorem find_ge {c : Int} {f : Row3 → Bool} : ∀ (l : List Row3) (k : Nat) (p : Row3), l[k]? = some p → f p = true → (∀ j q, j < k → l[j]? = some q → f q = false) → l.find? f = some p
  | [], _, _, h, _, _ => by simp at h
  | x :: l, 0, p, h, hf, _ => by simp at h; subst h; simp [hf]
  | x :: l, k + 1, p, h, hf, hn => by
    rw [List.find?_cons_of_neg (by rw [hn 0 x (by omega) rfl]; decide)]
    exact find_ge (c := c) l k p (by simpa using h) hf (fun j q hj hq => hn (j + 1) q (by omega) (by simpa using hq))

theorem pairAt_of {c : Int} {k : Nat} {p : Row3} (hk : pairL[k]? = some p) (h : pairsLeft k c) (hc : c = p.1 ∨ c = p.2.1) : pairAt c = some p :=
  find_ge (c := c) pairL k p hk (by simpa using hc) (fun j q hj hq => by have := h j q hj hq; simp [this.1, this.2])
theorem pairAt_none {c : Int} (h : pairsLeft 6 c) : pairAt c = none := by
  unfold pairAt
  rw [List.find?_eq_none]
  intro p hp
  obtain ⟨j, hj, rfl⟩ := List.getElem_of_mem hp
  have := h j _ hj (List.getElem?_eq_getElem hj)
  simp [this.1, this.2]
theorem pairsLeft_step {c : Int} {k : Nat} {p : Row3} (hk : pairL[k]? = some p) (h : pairsLeft k c) (h1 : c ≠ p.1) (h2 : c ≠ p.2.1) : pairsLeft (k + 1) c := by
  intro j q hj hq
  by_cases e : j = k
  · subst e; rw [hk] at hq; cases hq; exact ⟨h1, h2⟩
  · exact h j q (by omega) hq

end Go.Proofs.Ytcfnhjpmihngdaa
