/- The plain mathematics of FnParas. No program is named here. -/
import Derived.Test.YthhbikilighemaaG5
namespace Go.Proofs.Ythhbikilighemaa
open Go.RowKit

/-- what matches matches back -/
structure MInv (st : List Int × List Int) : Prop where
  back : ∀ p : Nat, p < st.1.length → nth st.1 p = -1 ∨ (0 ≤ nth st.1 p ∧ nth st.1 p < st.1.length ∧ nth st.1 p ≠ p ∧ nth st.1 (nth st.1 p).toNat = p)
  open_ : ∀ i, i < st.2.length → nth st.1 (nth st.2 i).toNat = -1
theorem nth_snoc (a : List Int) (z : Int) (k : Nat) (h : k < a.length + 1) : nth (a ++ [z]) k = if k = a.length then z else nth a k := by
  by_cases e : k = a.length
  · subst e; rw [nth_right, if_pos rfl]
  · rw [nth_left _ _ _ (by omega), if_neg e]
theorem MInv.step {st : List Int × List Int} (w : WfO st) (h : MInv st) (k : Int) : MInv (mstep st k) := by
  have plain : ∀ o : List Int, (∀ i, i < o.length → (0 ≤ nth o i ∧ nth o i ≤ st.1.length) ∧ ((nth o i).toNat = st.1.length ∨ nth st.1 (nth o i).toNat = -1)) → MInv (st.1 ++ [-1], o) := by
    intro o ho
    refine ⟨fun p hp => ?_, fun i hi => ?_⟩
    · simp only [List.length_append, List.length_cons, List.length_nil] at hp ⊢
      rw [nth_snoc _ _ _ (by omega)]
      by_cases e : p = st.1.length
      · rw [if_pos e]; exact .inl rfl
      · rw [if_neg e]
        rcases h.back p (by omega) with h1 | ⟨h1, h2, h3, h4⟩
        · exact .inl h1
        · refine .inr ⟨h1, by omega, h3, ?_⟩
          rw [nth_snoc _ _ _ (by omega), if_neg (by omega)]; exact h4
    · have := ho i hi
      show nth (st.1 ++ [-1]) (nth o i).toNat = -1
      rw [nth_snoc _ _ _ (by omega)]
      split
      · rfl
      · rcases this.2 with h1 | h1
        · omega
        · exact h1
  unfold mstep
  split
  · refine plain _ fun i hi => ?_
    simp only [List.length_append, List.length_cons, List.length_nil] at hi
    by_cases e : i < st.2.length
    · rw [nth_left _ _ _ e]
      have := w.lt i e
      exact ⟨by omega, .inr (h.open_ i e)⟩
    · obtain rfl : i = st.2.length := by omega
      rw [nth_right]
      exact ⟨by omega, .inl (by omega)⟩
  · split
    · rename_i h1 h2
      have lst := w.last h2.2
      obtain ⟨x, hx⟩ : ∃ x : Nat, lastOf st.2 = (x : Int) := ⟨(lastOf st.2).toNat, by omega⟩
      rw [hx] at lst ⊢
      have lx : x < st.1.length := by omega
      have ho := h.open_ (st.2.length - 1) (by omega)
      rw [show nth st.2 (st.2.length - 1) = lastOf st.2 from rfl, hx] at ho
      simp only [Int.toNat_natCast] at ho ⊢
      have get : ∀ q : Nat, q < st.1.length + 1 → nth (st.1.set x (st.1.length : Int) ++ [(x : Int)]) q = if q = st.1.length then (x : Int) else if x = q then (st.1.length : Int) else nth st.1 q := by
        intro q hq
        rw [nth_snoc _ _ _ (by simpa using hq), List.length_set]
        split
        · rfl
        · rw [nth_set _ _ _ _ lx]
      refine ⟨fun p hp => ?_, fun i hi => ?_⟩
      · simp only [List.length_append, List.length_cons, List.length_nil, List.length_set] at hp ⊢
        rw [get p (by omega)]
        by_cases e : p = st.1.length
        · rw [if_pos e]
          refine .inr ⟨by omega, by omega, by omega, ?_⟩
          simp only [Int.toNat_natCast]
          rw [get x (by omega), if_neg (by omega), if_pos rfl]
          omega
        · rw [if_neg e]
          by_cases e2 : x = p
          · rw [if_pos e2]
            refine .inr ⟨by omega, by omega, by omega, ?_⟩
            simp only [Int.toNat_natCast]
            rw [get _ (by omega), if_pos rfl, e2]
          · rw [if_neg e2]
            rcases h.back p (by omega) with g1 | ⟨g1, g2, g3, g4⟩
            · exact .inl g1
            · refine .inr ⟨g1, by omega, g3, ?_⟩
              rw [get _ (by omega), if_neg (by omega)]
              by_cases e3 : x = (nth st.1 p).toNat
              · rw [← e3] at g4; omega
              · rw [if_neg e3]; exact g4
      · simp only [List.length_dropLast] at hi
        rw [nth_dropLast _ _ (by omega)]
        have l1 := w.lt i (by omega)
        have l2 := w.rise i (st.2.length - 1) (by omega) (by omega)
        rw [show nth st.2 (st.2.length - 1) = lastOf st.2 from rfl, hx] at l2
        show nth (st.1.set x (st.1.length : Int) ++ [(x : Int)]) _ = -1
        rw [get _ (by omega), if_neg (by omega), if_neg (by omega)]
        exact h.open_ i (by omega)
    · exact plain _ fun i hi => ⟨by have := w.lt i hi; omega, .inr (h.open_ i hi)⟩
theorem foldl_inv : ∀ (l : List Int) (st : List Int × List Int), WfO st → MInv st → MInv (l.foldl mstep st)
  | [], _, _, h => h
  | k :: l, _, w, h => foldl_inv l _ (w.step k) (h.step w k)
theorem match_back (ks : List Int) (p : Nat) (hp : p < ks.length) : nth (matchN ks) p = -1 ∨ (0 ≤ nth (matchN ks) p ∧ nth (matchN ks) p < ks.length ∧ nth (matchN ks) p ≠ p ∧ nth (matchN ks) (nth (matchN ks) p).toNat = p) := by
  have h := foldl_inv ks ([], []) WfO.nil ⟨fun p hp => by simp at hp, fun i hi => by simp at hi⟩
  have := h.back p (by rw [show (ks.foldl mstep ([], [])).1 = matchN ks from rfl, matchN_len]; exact hp)
  rw [show (ks.foldl mstep ([], [])).1 = matchN ks from rfl, matchN_len] at this
  exact this

/-- the paragraphs are all that is no separator -/
def keepN (zs : List Int) : List Int := zs.filter fun c => classN c != 10
theorem pfold_kept : ∀ (zs : List Int) (s : PSt), (zs.foldl (pstep classN) s).paras.flatten ++ (zs.foldl (pstep classN) s).now = s.paras.flatten ++ s.now ++ keepN zs
  | [], s => by simp [keepN]
  | z :: zs, s => by
    rw [List.foldl_cons, pfold_kept zs]
    unfold pstep keepN
    rw [List.filter_cons]
    by_cases h1 : s.ahead = 13 ∧ z = 10
    · rw [if_pos h1, h1.2]
      simp [class_ten]
    · rw [if_neg h1]
      by_cases h2 : classN z = 10
      · rw [if_pos h2]; simp [h2]
      · rw [if_neg h2]; simp [h2]
theorem paras_kept (zs : List Int) : (parasN classN zs).flatten = keepN zs := by
  have := pfold_kept zs ⟨[], [], -1⟩
  simp only [List.flatten_nil, List.nil_append] at this
  unfold parasN
  split
  · rename_i h
    have e : (prun classN zs).now = [] := List.eq_nil_of_length_eq_zero h
    rw [← this]
    show _ = (prun classN zs).paras.flatten ++ (prun classN zs).now
    rw [e]; simp
  · rw [← this]; simp [prun]
theorem keepN_step (zs : List Int) (k : Nat) (h : k < zs.length) : keepN (zs.take (k + 1)) = keepN (zs.take k) ++ (if classN (nth zs k) != 10 then [nth zs k] else []) := by
  rw [take_nth zs k h]
  unfold keepN
  rw [List.filter_append, List.filter_cons]
  split <;> simp_all
theorem keepN_len (zs : List Int) : (keepN zs).length ≤ zs.length := List.length_filter_le _ _
theorem flat_step (zss : List (List Int)) (k : Nat) (h : k < zss.length) : (zss.take (k + 1)).flatten = (zss.take k).flatten ++ nthL zss k := by
  have e : zss.take (k + 1) = zss.take k ++ [nthL zss k] := by
    rw [List.take_succ_eq_append_getElem h]; simp [nthL, List.getElem?_eq_getElem h]
  rw [e]; simp
theorem flat_len (zss : List (List Int)) : zss.flatten.length = total zss := by simp [total, List.length_flatten]
def flatN (zss : List (List Int)) (k : Nat) : List Int := (zss.take k).flatten
theorem flatN_zero (zss : List (List Int)) : flatN zss 0 = [] := by simp [flatN]
theorem flatN_step (zss : List (List Int)) (k : Nat) (h : k < zss.length) : flatN zss (k + 1) = flatN zss k ++ nthL zss k := flat_step zss k h
theorem flatN_all (zss : List (List Int)) (k : Nat) (h : zss.length ≤ k) : flatN zss k = zss.flatten := by unfold flatN; rw [List.take_of_length_le h]
theorem flatN_len (zss : List (List Int)) (k : Nat) : (flatN zss k).length ≤ total zss := by
  unfold flatN
  conv => rhs; rw [← flat_len, ← List.take_append_drop k zss, List.flatten_append, List.length_append]
  omega
end Go.Proofs.Ythhbikilighemaa
