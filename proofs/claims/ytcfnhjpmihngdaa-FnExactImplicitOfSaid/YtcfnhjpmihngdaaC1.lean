/- Chapter 2, what needs no map and no table: forms, ligatures, what is removed. -/
import Derived.Test.YtcfnhjpmihngdaaA1
import Derived.Test.YtcfnhjpmihngdaaH1
import Derived.BigQuiet
import Derived.Deep.QuietTactic
namespace Go.Proofs.Ytcfnhjpmihngdaa
open Go.RowKit

theorem within_lit2 (n a0 a1 : Int) (w : World) (t : TypeId) (g : Nat) (hg : w.heap.size = g) :
    Calls Try.prog 10 #[.int .i64 n, .slice (some ⟨g, 0, none⟩) 2 2] (w.alloc (.cells #[.int .i64 a0, .int .i64 a1] t)) fun e w' => e = .returned (.bool (spans n [a0, a1])) ∧ w.alloc (.cells #[.int .i64 a0, .int .i64 a1] t) = w' := by
  subst hg
  exact within_any n _ [a0, a1] 2 _ _ (Rd.lit w #[.int .i64 a0, .int .i64 a1] t) (by simp)
theorem within_lit4 (n a0 a1 a2 a3 : Int) (w : World) (t : TypeId) (g : Nat) (hg : w.heap.size = g) :
    Calls Try.prog 10 #[.int .i64 n, .slice (some ⟨g, 0, none⟩) 4 4] (w.alloc (.cells #[.int .i64 a0, .int .i64 a1, .int .i64 a2, .int .i64 a3] t)) fun e w' => e = .returned (.bool (spans n [a0, a1, a2, a3])) ∧ w.alloc (.cells #[.int .i64 a0, .int .i64 a1, .int .i64 a2, .int .i64 a3] t) = w' := by
  subst hg
  exact within_any n _ [a0, a1, a2, a3] 4 _ _ (Rd.lit w #[.int .i64 a0, .int .i64 a1, .int .i64 a2, .int .i64 a3] t) (by simp)
theorem within_lit6 (n a0 a1 a2 a3 a4 a5 : Int) (w : World) (t : TypeId) (g : Nat) (hg : w.heap.size = g) :
    Calls Try.prog 10 #[.int .i64 n, .slice (some ⟨g, 0, none⟩) 6 6] (w.alloc (.cells #[.int .i64 a0, .int .i64 a1, .int .i64 a2, .int .i64 a3, .int .i64 a4, .int .i64 a5] t)) fun e w' => e = .returned (.bool (spans n [a0, a1, a2, a3, a4, a5])) ∧ w.alloc (.cells #[.int .i64 a0, .int .i64 a1, .int .i64 a2, .int .i64 a3, .int .i64 a4, .int .i64 a5] t) = w' := by
  subst hg
  exact within_any n _ [a0, a1, a2, a3, a4, a5] 6 _ _ (Rd.lit w #[.int .i64 a0, .int .i64 a1, .int .i64 a2, .int .i64 a3, .int .i64 a4, .int .i64 a5] t) (by simp)
theorem within_lit8 (n a0 a1 a2 a3 a4 a5 a6 a7 : Int) (w : World) (t : TypeId) (g : Nat) (hg : w.heap.size = g) :
    Calls Try.prog 10 #[.int .i64 n, .slice (some ⟨g, 0, none⟩) 8 8] (w.alloc (.cells #[.int .i64 a0, .int .i64 a1, .int .i64 a2, .int .i64 a3, .int .i64 a4, .int .i64 a5, .int .i64 a6, .int .i64 a7] t)) fun e w' => e = .returned (.bool (spans n [a0, a1, a2, a3, a4, a5, a6, a7])) ∧ w.alloc (.cells #[.int .i64 a0, .int .i64 a1, .int .i64 a2, .int .i64 a3, .int .i64 a4, .int .i64 a5, .int .i64 a6, .int .i64 a7] t) = w' := by
  subst hg
  exact within_any n _ [a0, a1, a2, a3, a4, a5, a6, a7] 8 _ _ (Rd.lit w #[.int .i64 a0, .int .i64 a1, .int .i64 a2, .int .i64 a3, .int .i64 a4, .int .i64 a5, .int .i64 a6, .int .i64 a7] t) (by simp)
theorem within_lit10 (n a0 a1 a2 a3 a4 a5 a6 a7 a8 a9 : Int) (w : World) (t : TypeId) (g : Nat) (hg : w.heap.size = g) :
    Calls Try.prog 10 #[.int .i64 n, .slice (some ⟨g, 0, none⟩) 10 10] (w.alloc (.cells #[.int .i64 a0, .int .i64 a1, .int .i64 a2, .int .i64 a3, .int .i64 a4, .int .i64 a5, .int .i64 a6, .int .i64 a7, .int .i64 a8, .int .i64 a9] t)) fun e w' => e = .returned (.bool (spans n [a0, a1, a2, a3, a4, a5, a6, a7, a8, a9])) ∧ w.alloc (.cells #[.int .i64 a0, .int .i64 a1, .int .i64 a2, .int .i64 a3, .int .i64 a4, .int .i64 a5, .int .i64 a6, .int .i64 a7, .int .i64 a8, .int .i64 a9] t) = w' := by
  subst hg
  exact within_any n _ [a0, a1, a2, a3, a4, a5, a6, a7, a8, a9] 10 _ _ (Rd.lit w #[.int .i64 a0, .int .i64 a1, .int .i64 a2, .int .i64 a3, .int .i64 a4, .int .i64 a5, .int .i64 a6, .int .i64 a7, .int .i64 a8, .int .i64 a9] t) (by simp)
/-- a character -/
def isChr (c : Int) : Bool := decide ((0 ≤ c ∧ c ≤ 55295) ∨ (57344 ≤ c ∧ c ≤ 1114111))
theorem eq_no {a b : Int} (h : a ≠ b) : (a == b) = false := by simpa using h
theorem eq_yes {a b : Int} (h : a = b) : (a == b) = true := by simpa using h
theorem ne_no {a b : Int} (h : a ≠ b) : (a != b) = true := by simpa using h
theorem ne_yes {a b : Int} (h : a = b) : (a != b) = false := by simpa using h
theorem agg2 {a a' b b' : Int} (h : a = a') (k : b = b') : Ending.returned (.agg #[.int .i64 a, .int .i64 b]) = .returned (.agg #[.int .i64 a', .int .i64 b']) := by rw [h, k]

/-- how many forms -/
def formsN (c : Int) : Int :=
  if c = 1569 then 1
  else if (1570 ≤ c ∧ c ≤ 1573) ∨ c = 1575 ∨ c = 1577 ∨ (1583 ≤ c ∧ c ≤ 1586) ∨ c = 1608 ∨ c = 1609 then 2
  else if (1569 ≤ c ∧ c ≤ 1594) ∨ (1601 ≤ c ∧ c ≤ 1610) then 4 else 0

theorem formsN_lo (c : Int) : 0 ≤ formsN c ∧ formsN c ≤ 4 := by unfold formsN; repeat (split; omega); omega

end Go.Proofs.Ytcfnhjpmihngdaa
