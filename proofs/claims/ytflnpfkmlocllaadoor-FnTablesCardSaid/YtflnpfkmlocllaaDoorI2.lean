/- The plain mathematics of FnTables. No program is named here. -/
import Derived.Test.YtflnpfkmlocllaaDoorC7
import Derived.Test.YtflnpfkmlocllaaDoorC5
import Derived.Test.YtflnpfkmlocllaaDoorC2
namespace Go.Proofs.YtflnpfkmlocllaaDoor
open Go.RowKit

theorem paired_cases (c : Int) : isPaired c = false ∨ c = 40 ∨ c = 41 ∨ c = 60 ∨ c = 62 ∨ c = 91 ∨ c = 93 ∨ c = 123 ∨ c = 125 ∨ c = 9001 ∨ c = 9002 ∨ c = 12296 ∨ c = 12297 := by
  by_cases h : c = 40 ∨ c = 41 ∨ c = 60 ∨ c = 62 ∨ c = 91 ∨ c = 93 ∨ c = 123 ∨ c = 125 ∨ c = 9001 ∨ c = 9002 ∨ c = 12296 ∨ c = 12297
  · exact .inr h
  · left
    have hn : pairsLeft 6 c := by
      intro j p hj hp
      have hm : p ∈ pairL := List.mem_of_getElem? hp
      simp only [pairL, List.mem_cons, List.not_mem_nil, or_false] at hm
      rcases hm with rfl | rfl | rfl | rfl | rfl | rfl <;> (simp only; omega)
    unfold isPaired
    rw [pairAt_none hn]; rfl
theorem mir_mir (c : Int) (h : isChr c = true) : isChr (mirN c) = true ∧ mirN (mirN c) = c := by
  rcases paired_cases c with h0 | h | h | h | h | h | h | h | h | h | h | h | h
  · have e : mirN c = c := by unfold mirN; rw [h0]; rfl
    rw [e, e]; exact ⟨h, rfl⟩
  all_goals
    subst h
    decide
theorem br_mir (c : Int) (hb : isBr c = true) : isChr (mirN c) = true ∧ isBr (mirN c) = true ∧ (mirN c == pFirst (mirN c)) = !(c == pFirst c) ∧ pName (mirN c) = pName c ∧ classN c = 13 := by
  rcases paired_cases c with h0 | h | h | h | h | h | h | h | h | h | h | h | h
  · unfold isBr at hb; rw [h0] at hb; cases hb
  all_goals
    subst h
    first | (exact absurd hb (by decide)) | decide
theorem lig_two (c : Int) (j : Bool) (h : ligN c j ≠ 0) : ligN c (!j) ≠ ligN c j := by
  unfold ligN at *
  cases j
  all_goals
    simp only [Bool.not_false, Bool.not_true, if_true, Bool.false_eq_true, if_false] at *
    split
    · omega
    · split
      · omega
      · split
        · omega
        · split
          · omega
          · rename_i a b c d
            rw [if_neg a, if_neg b, if_neg c, if_neg d] at h
            exact absurd rfl h
theorem forms_all : ∀ n : Nat, n < 42 → ∀ b a : Bool, 65152 ≤ formF (1569 + (n : Int)) b a ∧ (formsN (1569 + (n : Int)) ≠ 0 → formF (1569 + (n : Int)) b a ≤ 65268) := by decide +kernel
theorem forms_bounds (c : Int) (b a : Bool) (h : formsC c = 0) : 65152 ≤ formV c b a ∧ formV c b a ≤ 65268 ∧ 1 ≤ formsV c := by
  have hn : formsN c ≠ 0 := by
    intro e
    unfold formsC at h
    rw [if_pos e] at h
    split at h <;> omega
  have hr := formsN_range hn
  have hl := formsN_lo c
  obtain ⟨n, hn'⟩ : ∃ n : Nat, c = 1569 + (n : Int) := ⟨(c - 1569).toNat, by omega⟩
  have := forms_all n (by omega) b a
  rw [← hn'] at this
  rw [formV_yes b a h, (formsC_yes h).1]
  exact ⟨this.1, this.2 hn, by omega⟩
theorem classN_range (c : Int) : 0 ≤ classN c ∧ classN c ≤ 22 := by
  unfold classN
  repeat' split
  all_goals omega
theorem classV_range (c : Int) : 0 ≤ classV c ∧ classV c ≤ 22 := by
  unfold classV
  split
  · exact classN_range c
  · omega
/-- what the law asks of the answers -/
theorem tab_mir {c : Int} (h : mirC c = 0) : mirC (mirV c) = 0 ∧ mirV (mirV c) = c := by
  cases hc : isChr c
  · rw [(mir_no hc).1] at h; omega
  · rw [(mir_yes hc).2]
    have ⟨h1, h2⟩ := mir_mir c hc
    rw [(mir_yes h1).1, (mir_yes h1).2]
    exact ⟨rfl, h2⟩
theorem tab_br {c : Int} (h : brC c = 0) : brC (mirV c) = 0 ∧ brO (mirV c) = !brO c ∧ brN (mirV c) = brN c ∧ classV c = 13 := by
  cases hc : isChr c
  · rw [(br_no hc).1] at h; omega
  · cases hb : isBr c
    · rw [(br_none hc hb).1] at h; omega
    · rw [(mir_yes hc).2]
      have ⟨h1, h2, h3, h4, h5⟩ := br_mir c hb
      rw [(br_yes h1 h2).1, (br_yes h1 h2).2.1, (br_yes h1 h2).2.2, (br_yes hc hb).2.1, (br_yes hc hb).2.2, (class_yes hc).2]
      exact ⟨rfl, h3, h4, h5⟩
theorem tab_lig {c : Int} {j : Bool} (h : ligC c j = 0) : ligV c (!j) ≠ ligV c j := by
  unfold ligC at h
  unfold ligV
  split at h
  · split at h
    · omega
    · rename_i h1 h2
      rw [if_pos h1, if_pos h1]; exact lig_two c j h2
  · omega
end Go.Proofs.YtflnpfkmlocllaaDoor
