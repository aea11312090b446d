/- The mathematics of FnDeeps: the bound of levels, what is removed has none, nothing hangs on what comes later. -/
import Derived.Test.YthhbikilighemaaL17
namespace Go.Proofs.Ythhbikilighemaa

theorem popR_mem : ∀ (l : List Tier) (e : Tier), e ∈ popR l → e ∈ l
  | [], _, h => by simp [popR] at h
  | x :: l, e, h => by
    unfold popR at h
    split at h
    · simp [h]
    · simp [popR_mem l e h]
theorem popIso_mem (l : List Tier) (e : Tier) (h : e ∈ popIso l) : e ∈ l := by
  unfold popIso at h
  have := popR_mem l.reverse e (by simpa using h)
  simpa using this
/-- no level below the base -/
def Floor (b : Int) (s : Tell) : Prop := ∀ e ∈ s.stk, b ≤ e.lev
theorem Floor.push {b : Int} {s : Tell} (h : Floor b s) (e : Tier) (he : b ≤ e.lev) (li le is : Nat) : Floor b ⟨s.stk ++ [e], li, le, is⟩ := by
  intro x hx
  simp only [List.mem_append, List.mem_cons, List.not_mem_nil, or_false] at hx
  rcases hx with hx | rfl
  · exact h x hx
  · exact he
theorem Floor.step {b : Int} {s : Tell} {i : Nat} (h : Floor b s) (hw : WfT s i) (own : Bool) (k : Int) : Floor b (stepS own k s) := by
  have tb := h _ (topT_mem _ hw.pos)
  have nl := fun left => nextL_low left s.stk hw.top.1
  unfold stepS
  split
  · unfold embS
    split
    · split
      · exact h
      · exact h
    · exact h.push _ (by have := nl (leftK k); show b ≤ nextL _ _; omega) _ _ _
  · split
    · unfold isoS
      split
      · exact h
      · exact h.push _ (by have := nl own; show b ≤ nextL _ _; omega) _ _ _
    · split
      · unfold endS
        split
        · exact h
        · split
          · intro e he; exact h e (popIso_mem _ _ he)
          · exact h
      · split
        · unfold popS
          split
          · exact h
          · split
            · exact h
            · split
              · intro e he; exact h e (List.dropLast_subset _ he)
              · exact h
        · exact h
theorem eat_floor (ks : List Int) (b : Int) (hb : 0 ≤ b ∧ b ≤ 1) : ∀ i, Floor b (eat ks b i).1
  | 0 => by
    intro e he
    simp only [eat, List.mem_cons, List.not_mem_nil, or_false] at he
    subst he
    exact Int.le_refl _
  | i + 1 => (eat_floor ks b hb i).step (eat_wf ks b hb i) _ _
theorem Floor.ends {b : Int} {s : Tell} (h : Floor b s) : Floor b (endS s) := by
  unfold endS
  split
  · exact h
  · split
    · intro e he; exact h e (popIso_mem _ _ he)
    · exact h
/-- what stays is kept: the i-th level -/
theorem eat_nth (ks : List Int) (b : Int) (i : Nat) : ∀ n, i < n → nth (eat ks b n).2.1 i = lvS (nth ks i) (eat ks b i).1
  | 0, h => by omega
  | n + 1, h => by
    rw [eat_succ]
    have hl := (eat_len ks b n).1
    by_cases e : i = n
    · subst e
      show nth ((eat ks b i).2.1 ++ [lvS (nth ks i) (eat ks b i).1]) i = _
      have := nth_right (eat ks b i).2.1 (lvS (nth ks i) (eat ks b i).1)
      rw [hl] at this; exact this
    · show nth ((eat ks b n).2.1 ++ [lvS (nth ks n) (eat ks b n).1]) i = _
      rw [nth_left _ _ _ (by omega)]; exact eat_nth ks b i n (by omega)
theorem lev_facts (ks : List Int) (b : Int) (hb : 0 ≤ b ∧ b ≤ 1) (i : Nat) (hi : i < ks.length) :
    (gone (nth ks i) = true ∧ nth (levN ks b) i = -1) ∨ (gone (nth ks i) = false ∧ b ≤ nth (levN ks b) i ∧ nth (levN ks b) i ≤ 125 ∧ 0 ≤ nth (levN ks b) i) := by
  have hw := eat_wf ks b hb i
  have hf := eat_floor ks b hb i
  have e : nth (levN ks b) i = lvS (nth ks i) (eat ks b i).1 := eat_nth ks b i _ hi
  rw [e]
  have key : b ≤ (topT (atS (nth ks i) (eat ks b i).1).stk).lev ∧ 0 ≤ (topT (atS (nth ks i) (eat ks b i).1).stk).lev ∧ (topT (atS (nth ks i) (eat ks b i).1).stk).lev ≤ 125 := by
    unfold atS
    split
    · have t := topT_mem _ hw.ends.pos
      have h1 := hw.ends.lev _ t
      exact ⟨hf.ends _ t, h1.1, h1.2.1⟩
    · have t := topT_mem _ hw.pos
      have h1 := hw.lev _ t
      exact ⟨hf _ t, h1.1, h1.2.1⟩
  cases hg : gone (nth ks i)
  · refine .inr ⟨rfl, ?_⟩
    have : lvS (nth ks i) (eat ks b i).1 = (topT (atS (nth ks i) (eat ks b i).1).stk).lev := by unfold lvS; rw [hg]; rfl
    rw [this]; exact ⟨key.1, key.2.2, key.2.1⟩
  · exact .inl ⟨rfl, by unfold lvS; rw [hg]; rfl⟩
/-- no isolate of its own way -/
def NoOwn (ks : List Int) : Prop := ∀ i, i < ks.length → nth ks i ≠ 21
theorem leftOf_plain {ks : List Int} {i : Nat} (h : nth ks i ≠ 21) : leftOf ks i = decide (nth ks i = 20) := by unfold leftOf; rw [if_neg h]
theorem eat_cut (ks : List Int) (b : Int) (c : Nat) (hc : c ≤ ks.length) (hn : NoOwn ks) : ∀ i, i ≤ c → eat (ks.take c) b i = eat ks b i
  | 0, _ => rfl
  | i + 1, h => by
    have e : nth (ks.take c) i = nth ks i := nth_take ks c i (by omega)
    have l1 := leftOf_plain (hn i (by omega))
    have l2 : leftOf (ks.take c) i = decide (nth (ks.take c) i = 20) := leftOf_plain (by rw [e]; exact hn i (by omega))
    rw [eat_succ, eat_succ, eat_cut ks b c hc hn i (by omega), l1, l2, e]
theorem eat_take (ks : List Int) (b : Int) (c : Nat) : ∀ n, c ≤ n → (eat ks b n).2.1.take c = (eat ks b c).2.1 ∧ (eat ks b n).2.2.take c = (eat ks b c).2.2
  | 0, h => by obtain rfl : c = 0 := by omega
               exact ⟨rfl, rfl⟩
  | n + 1, h => by
    by_cases e : c = n + 1
    · subst e
      have := eat_len ks b (n + 1)
      exact ⟨List.take_of_length_le (by omega), List.take_of_length_le (by omega)⟩
    · have ih := eat_take ks b c n (by omega)
      have l := eat_len ks b n
      rw [eat_succ]
      refine ⟨?_, ?_⟩
      · show ((eat ks b n).2.1 ++ _).take c = _
        rw [List.take_append_of_le_length (by omega)]; exact ih.1
      · show ((eat ks b n).2.2 ++ _).take c = _
        rw [List.take_append_of_le_length (by omega)]; exact ih.2
theorem classesN_take (zs : List Int) (c : Nat) : classesN (zs.take c) = (classesN zs).take c := by unfold classesN; rw [List.map_take]
theorem hasB_take {ks : List Int} (h : hasB ks = false) (c : Nat) : hasB (ks.take c) = false := by
  unfold hasB at *
  rw [List.any_eq_false] at *
  exact fun x hx => h x (List.mem_of_mem_take hx)
theorem paraF_take {zs : List Int} {b : Int} (h : paraF zs b = 0) (c : Nat) : paraF (zs.take c) b = 0 := by
  obtain ⟨h1, h2, h3, h4⟩ := paraF_zero h
  have z := textF_zero h1
  have Z2 := List.all_eq_true.1 z.2
  have t : textF (zs.take c) = 0 := textF_ok (by rw [List.length_take]; omega) (by
    rw [List.all_eq_true] at *
    exact fun x hx => Z2 x (List.mem_of_mem_take hx))
  rw [paraF_in t ⟨h2, h3⟩, classesN_take, hasB_take h4 c]; rfl
/-- nothing hangs on what comes later -/
theorem part_same {zs : List Int} {b : Int} (h : paraF zs b = 0) (hn : NoOwn (classesN zs)) (c : Nat) (hc : c ≤ zs.length) :
    explL (zs.take c) b = (explL zs b).take c ∧ explC (zs.take c) b = (explC zs b).take c := by
  have p := paraF_take h c
  have kl := classesN_len zs
  have tl : (classesN (zs.take c)).length = c := by rw [classesN_len, List.length_take]; omega
  unfold explL explC
  rw [if_pos h, if_pos p, if_pos h, if_pos p]
  unfold levN clsN
  rw [tl, classesN_take, eat_cut _ b c (by omega) hn c (Nat.le_refl _)]
  have := eat_take (classesN zs) b c (classesN zs).length (by omega)
  exact ⟨this.1.symm, this.2.symm⟩
end Go.Proofs.Ythhbikilighemaa
