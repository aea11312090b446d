/- Chapter 2, what needs no map and no table: forms, ligatures, what is removed. -/
import Derived.Test.YtcfnhjpmihngdaaGreatY01
import Derived.Test.YtcfnhjpmihngdaaGreatRows
import Derived.WalkKit
import Derived.WalkSpells
import Derived.BigQuiet
import Derived.Deep.QuietTactic
import Derived.Laws.OwnMore
namespace Go.Proofs.YtcfnhjpmihngdaaGreat

def isOp (k : Int) : Prop := 19 ≤ k ∧ k ≤ 21
instance (k : Int) : Decidable (isOp k) := inferInstanceAs (Decidable (19 ≤ k ∧ k ≤ 21))
/-- the last of those that are open -/
def lastOf (o : List Int) : Int := nth o (o.length - 1)
/-- a class more: the matches so far, the places that are open -/
def mstep (st : List Int × List Int) (k : Int) : List Int × List Int :=
  if isOp k then (st.1 ++ [-1], st.2 ++ [(st.1.length : Int)])
  else if k = 22 ∧ 0 < st.2.length then (st.1.set (lastOf st.2).toNat (st.1.length : Int) ++ [lastOf st.2], st.2.dropLast)
  else (st.1 ++ [-1], st.2)
def mrun (ks : List Int) : List Int × List Int := ks.foldl mstep ([], [])
def matchN (ks : List Int) : List Int := (mrun ks).1

theorem mrun_step (ks : List Int) (k : Nat) (h : k < ks.length) : mrun (ks.take (k + 1)) = mstep (mrun (ks.take k)) (nth ks k) := by
  unfold mrun; rw [take_nth ks k h, List.foldl_append]; rfl
theorem mstep_len (st : List Int × List Int) (k : Int) : (mstep st k).1.length = st.1.length + 1 := by
  unfold mstep
  repeat' split
  all_goals simp
theorem foldl_len : ∀ (l : List Int) (st : List Int × List Int), (l.foldl mstep st).1.length = st.1.length + l.length
  | [], st => by simp
  | k :: l, st => by rw [List.foldl_cons, foldl_len l, mstep_len]; simp; omega
theorem mrun_len (ks : List Int) : (mrun ks).1.length = ks.length := by unfold mrun; rw [foldl_len]; simp
theorem matchN_len (ks : List Int) : (matchN ks).length = ks.length := mrun_len ks

theorem nth_left (a b : List Int) (k : Nat) (h : k < a.length) : nth (a ++ b) k = nth a k := by simp [nth, List.getElem?_append_left h]
theorem nth_right (a : List Int) (z : Int) : nth (a ++ [z]) a.length = z := by simp [nth]
theorem nth_set (a : List Int) (i k : Nat) (z : Int) (h : i < a.length) : nth (a.set i z) k = if i = k then z else nth a k := by
  unfold nth
  rw [List.getElem?_set]
  split
  · subst_vars; simp
  · rfl
theorem nth_dropLast (a : List Int) (k : Nat) (h : k < a.length - 1) : nth a.dropLast k = nth a k := by
  unfold nth; rw [List.getElem?_dropLast, if_pos h]

/-- those that are open rise and have been met -/
structure WfO (st : List Int × List Int) : Prop where
  rise : ∀ i j, i < j → j < st.2.length → nth st.2 i < nth st.2 j
  lt : ∀ i, i < st.2.length → 0 ≤ nth st.2 i ∧ nth st.2 i < st.1.length
theorem WfO.last {st : List Int × List Int} (h : WfO st) (h0 : 0 < st.2.length) : 0 ≤ lastOf st.2 ∧ lastOf st.2 < st.1.length := h.lt _ (by omega)
theorem WfO.nil : WfO ([], []) := ⟨fun i j _ h => by simp at h, fun i h => by simp at h⟩
theorem WfO.step {st : List Int × List Int} (h : WfO st) (k : Int) : WfO (mstep st k) := by
  unfold mstep
  split
  · refine ⟨fun i j hij hj => ?_, fun i hi => ?_⟩
    · simp only [List.length_append, List.length_cons, List.length_nil] at hj
      rw [nth_left _ _ _ (by omega)]
      by_cases e : j < st.2.length
      · rw [nth_left _ _ _ e]; exact h.rise i j hij e
      · obtain rfl : j = st.2.length := by omega
        rw [nth_right]; exact (h.lt i (by omega)).2
    · simp only [List.length_append, List.length_cons, List.length_nil] at hi
      by_cases e : i < st.2.length
      · rw [nth_left _ _ _ e]; have := h.lt i e; simp; omega
      · obtain rfl : i = st.2.length := by omega
        rw [nth_right]; simp; omega
  · split
    · refine ⟨fun i j hij hj => ?_, fun i hi => ?_⟩
      · simp only [List.length_dropLast] at hj
        rw [nth_dropLast _ _ (by omega), nth_dropLast _ _ (by omega)]; exact h.rise i j hij (by omega)
      · simp only [List.length_dropLast] at hi
        rw [nth_dropLast _ _ (by omega)]; have := h.lt i (by omega); simp; omega
    · refine ⟨h.rise, fun i hi => ?_⟩
      have := h.lt i hi
      simp; omega
theorem foldl_wf : ∀ (l : List Int) (st : List Int × List Int), WfO st → WfO (l.foldl mstep st)
  | [], _, h => h
  | k :: l, _, h => foldl_wf l _ (h.step k)
theorem mrun_wf (ks : List Int) : WfO (mrun ks) := foldl_wf ks _ WfO.nil
theorem open_len : ∀ (l : List Int) (st : List Int × List Int), (l.foldl mstep st).2.length ≤ st.2.length + l.length
  | [], st => by simp
  | k :: l, st => by
    rw [List.foldl_cons]
    have := open_len l (mstep st k)
    have h2 : (mstep st k).2.length ≤ st.2.length + 1 := by
      unfold mstep
      repeat' split
      all_goals simp
      omega
    simp; omega
theorem mrun_open (ks : List Int) : (mrun ks).2.length ≤ ks.length := by have := open_len ks ([], []); simpa [mrun] using this

/-- how far what closes the (o+1)-th open one is -/
def closeAt : Nat → List Int → Option Nat
  | _, [] => none
  | o, k :: l => if isOp k then (closeAt (o + 1) l).map (· + 1) else if k = 22 then (if o = 0 then some 0 else (closeAt (o - 1) l).map (· + 1)) else (closeAt o l).map (· + 1)
theorem closeAt_cons (o : Nat) (k : Int) (l : List Int) : closeAt o (k :: l) = if isOp k then (closeAt (o + 1) l).map (· + 1) else if k = 22 then (if o = 0 then some 0 else (closeAt (o - 1) l).map (· + 1)) else (closeAt o l).map (· + 1) := by cases o <;> rfl
def orElse (o : Option Nat) (n : Nat) (z : Int) : Int := match o with | some d => ((n + d : Nat) : Int) | none => z
theorem orElse_map (o : Option Nat) (n : Nat) (z : Int) : orElse (o.map (· + 1)) n z = orElse o (n + 1) z := by
  cases o
  · rfl
  · simp [orElse]; omega

theorem foldl_keeps : ∀ (l : List Int) (st : List Int × List Int), WfO st →
    (∀ p : Nat, p < st.1.length → (∀ i, i < st.2.length → nth st.2 i ≠ p) → nth (l.foldl mstep st).1 p = nth st.1 p) ∧
    (∀ m : Nat, m < st.2.length → nth (l.foldl mstep st).1 (nth st.2 (st.2.length - 1 - m)).toNat = orElse (closeAt m l) st.1.length (nth st.1 (nth st.2 (st.2.length - 1 - m)).toNat))
  | [], st, _ => ⟨fun _ _ _ => rfl, fun _ _ => rfl⟩
  | k :: l, st, h => by
    obtain ⟨ih1, ih2⟩ := foldl_keeps l (mstep st k) (h.step k)
    rw [List.foldl_cons]
    by_cases h1 : isOp k
    · have e : mstep st k = (st.1 ++ [-1], st.2 ++ [(st.1.length : Int)]) := by unfold mstep; rw [if_pos h1]
      rw [e] at ih1 ih2 ⊢
      simp only [List.length_append, List.length_cons, List.length_nil] at ih1 ih2
      refine ⟨fun p hp hn => ?_, fun m hm => ?_⟩
      · rw [ih1 p (by omega) ?_, nth_left _ _ _ hp]
        intro i hi
        by_cases hil : i < st.2.length
        · rw [nth_left _ _ _ hil]; exact hn i hil
        · obtain rfl : i = st.2.length := by omega
          rw [nth_right]; omega
      · have := ih2 (m + 1) (by omega)
        have e2 : st.2.length + (0 + 1) - 1 - (m + 1) = st.2.length - 1 - m := by omega
        have lt := h.lt (st.2.length - 1 - m) (by omega)
        rw [e2, nth_left st.2 _ (st.2.length - 1 - m) (by omega), nth_left st.1 _ _ (by omega)] at this
        rw [this]
        rw [closeAt_cons, if_pos h1, orElse_map]
    · by_cases h2 : k = 22
      · by_cases h3 : 0 < st.2.length
        · have e : mstep st k = (st.1.set (lastOf st.2).toNat (st.1.length : Int) ++ [lastOf st.2], st.2.dropLast) := by unfold mstep; rw [if_neg h1, if_pos ⟨h2, h3⟩]
          have lst := h.last h3
          rw [e] at ih1 ih2 ⊢
          simp only [List.length_append, List.length_cons, List.length_nil, List.length_set, List.length_dropLast] at ih1 ih2
          refine ⟨fun p hp hn => ?_, fun m hm => ?_⟩
          · have hne : (lastOf st.2).toNat ≠ p := by have := hn (st.2.length - 1) (by omega); unfold lastOf at *; omega
            rw [ih1 p (by omega) ?_, nth_left _ _ _ (by simpa using hp), nth_set _ _ _ _ (by omega), if_neg hne]
            intro i hi
            rw [nth_dropLast _ _ hi]; exact hn i (by omega)
          · cases m with
            | zero =>
              have e3 : nth st.2 (st.2.length - 1 - 0) = lastOf st.2 := rfl
              rw [e3, ih1 (lastOf st.2).toNat (by omega) ?_, nth_left _ _ _ (by simp; omega), nth_set _ _ _ _ (by omega), if_pos rfl]
              · rw [closeAt_cons, if_neg h1, if_pos h2]; rfl
              · intro i hi
                rw [nth_dropLast _ _ hi]
                have := h.rise i (st.2.length - 1) (by omega) (by omega)
                unfold lastOf at *
                omega
            | succ m =>
              have := ih2 m (by omega)
              have e2 : st.2.length - 1 - 1 - m = st.2.length - 1 - (m + 1) := by omega
              have lt := h.lt (st.2.length - 1 - (m + 1)) (by omega)
              have ri := h.rise (st.2.length - 1 - (m + 1)) (st.2.length - 1) (by omega) (by omega)
              have hne : (lastOf st.2).toNat ≠ (nth st.2 (st.2.length - 1 - (m + 1))).toNat := by unfold lastOf at *; omega
              rw [e2, nth_dropLast _ _ (by omega), nth_left _ _ _ (by simp; omega), nth_set _ _ _ _ (by omega), if_neg hne] at this
              rw [this]
              rw [closeAt_cons, if_neg h1, if_pos h2, if_neg (by omega), orElse_map]
              rfl
        · have e : mstep st k = (st.1 ++ [-1], st.2) := by unfold mstep; rw [if_neg h1, if_neg (by omega)]
          rw [e] at ih1 ih2 ⊢
          simp only [List.length_append, List.length_cons, List.length_nil] at ih1 ih2
          exact ⟨fun p hp hn => by rw [ih1 p (by omega) hn, nth_left _ _ _ hp], fun m hm => by omega⟩
      · have e : mstep st k = (st.1 ++ [-1], st.2) := by unfold mstep; rw [if_neg h1, if_neg (by omega)]
        rw [e] at ih1 ih2 ⊢
        simp only [List.length_append, List.length_cons, List.length_nil] at ih1 ih2
        refine ⟨fun p hp hn => by rw [ih1 p (by omega) hn, nth_left _ _ _ hp], fun m hm => ?_⟩
        have := ih2 m hm
        have lt := h.lt (st.2.length - 1 - m) (by omega)
        rw [nth_left st.1 _ _ (by omega)] at this
        rw [this]
        rw [closeAt_cons, if_neg h1, if_neg h2, orElse_map]

/-- what opens matches what closes it -/
theorem match_open (ks : List Int) (i : Nat) (hi : i < ks.length) (ho : isOp (nth ks i)) : nth (matchN ks) i = orElse (closeAt 0 (ks.drop (i + 1))) (i + 1) (-1) := by
  have e : matchN ks = ((ks.drop (i + 1)).foldl mstep (mrun (ks.take (i + 1)))).1 := by
    unfold matchN mrun; rw [← List.foldl_append, List.take_append_drop]
  have hs : mrun (ks.take (i + 1)) = ((mrun (ks.take i)).1 ++ [-1], (mrun (ks.take i)).2 ++ [(i : Int)]) := by
    rw [mrun_step ks i hi]
    unfold mstep
    rw [if_pos ho, mrun_len, List.length_take, Nat.min_eq_left (by omega)]
  have hl : (mrun (ks.take i)).1.length = i := by rw [mrun_len, List.length_take]; omega
  have h2 := (foldl_keeps (ks.drop (i + 1)) (mrun (ks.take (i + 1))) (mrun_wf _)).2 0 (by rw [hs]; simp)
  rw [← e, hs] at h2
  simp only [List.length_append, List.length_cons, List.length_nil] at h2
  have e3 : nth ((mrun (ks.take i)).2 ++ [(i : Int)]) ((mrun (ks.take i)).2.length + (0 + 1) - 1 - 0) = i := by
    have : (mrun (ks.take i)).2.length + (0 + 1) - 1 - 0 = (mrun (ks.take i)).2.length := by omega
    rw [this, nth_right]
  rw [e3, hl] at h2
  have e4 : nth ((mrun (ks.take i)).1 ++ [-1]) (i : Int).toNat = -1 := by
    have : (i : Int).toNat = (mrun (ks.take i)).1.length := by omega
    rw [this, nth_right]
  rw [e4] at h2
  have e5 : (i : Int).toNat = i := by omega
  rw [e5] at h2
  simpa using h2

theorem closeAt_lt : ∀ (l : List Int) (o d : Nat), closeAt o l = some d → d < l.length
  | [], _, _, h => by simp [closeAt] at h
  | k :: l, o, d, h => by
    rw [closeAt_cons] at h
    have aux : ∀ o', (closeAt o' l).map (· + 1) = some d → d < (k :: l).length := by
      intro o' h'
      cases e : closeAt o' l with
      | none => rw [e] at h'; simp at h'
      | some x => rw [e] at h'; simp at h'; have := closeAt_lt l o' x e; simp; omega
    split at h
    · exact aux _ h
    · split at h
      · split at h
        · injection h with h; subst h; simp
        · exact aux _ h
      · exact aux _ h
theorem closeAt_take : ∀ (l : List Int) (o n : Nat), closeAt o (l.take n) = match closeAt o l with | some d => if d < n then some d else none | none => none
  | [], o, n => by simp [closeAt]
  | k :: l, o, 0 => by
    simp only [List.take_zero]
    show none = _
    split <;> simp
  | k :: l, o, n + 1 => by
    have aux : ∀ o', (closeAt o' (l.take n)).map (· + 1) = match (closeAt o' l).map (· + 1) with | some d => if d < n + 1 then some d else none | none => none := by
      intro o'
      rw [closeAt_take l o' n]
      cases closeAt o' l with
      | none => rfl
      | some d =>
        simp only [Option.map_some]
        by_cases h : d < n
        · rw [if_pos h, if_pos (by omega)]; rfl
        · rw [if_neg h, if_neg (by omega)]; rfl
    rw [List.take_succ_cons, closeAt_cons, closeAt_cons]
    split
    · exact aux _
    · split
      · split
        · simp
        · exact aux _
      · exact aux _

/-- the way of classes, o isolates being open -/
def baseG : Nat → List Int → Int
  | _, [] => 0
  | o, k :: l => if isOp k then baseG (o + 1) l else if k = 22 then baseG (o - 1) l else if o = 0 ∧ k = 0 then 0 else if o = 0 ∧ (k = 1 ∨ k = 2) then 1 else baseG o l
theorem baseG_cons (o : Nat) (k : Int) (l : List Int) : baseG o (k :: l) = if isOp k then baseG (o + 1) l else if k = 22 then baseG (o - 1) l else if o = 0 ∧ k = 0 then 0 else if o = 0 ∧ (k = 1 ∨ k = 2) then 1 else baseG o l := by cases o <;> rfl
theorem baseG_close : ∀ (l : List Int) (o : Nat), baseG (o + 1) l = match closeAt o l with | some d => baseG 0 (l.drop (d + 1)) | none => 0
  | [], _ => rfl
  | k :: l, o => by
    have aux : ∀ o', baseG (o' + 1) l = match (closeAt o' l).map (· + 1) with | some d => baseG 0 ((k :: l).drop (d + 1)) | none => 0 := by
      intro o'
      rw [baseG_close l o']
      cases closeAt o' l with
      | none => rfl
      | some d => rfl
    rw [baseG_cons, closeAt_cons]
    by_cases h1 : isOp k
    · rw [if_pos h1, if_pos h1]; exact aux _
    · rw [if_neg h1, if_neg h1]
      by_cases h2 : k = 22
      · rw [if_pos h2, if_pos h2]
        cases o with
        | zero => simp
        | succ o => rw [if_neg (by omega)]; exact aux o
      · rw [if_neg h2, if_neg h2, if_neg (by omega), if_neg (by omega)]; exact aux o
theorem baseG_range : ∀ (l : List Int) (o : Nat), baseG o l = 0 ∨ baseG o l = 1
  | [], _ => .inl rfl
  | k :: l, o => by
    rw [baseG_cons]
    split
    · exact baseG_range l _
    · split
      · exact baseG_range l _
      · split
        · exact .inl rfl
        · split
          · exact .inr rfl
          · exact baseG_range l o
def baseN (ks : List Int) : Int := baseG 0 ks

theorem nth_take (ks : List Int) (to k : Nat) (h : k < to) : nth (ks.take to) k = nth ks k := by unfold nth; rw [List.getElem?_take, if_pos h]
/-- one step of the way over isolates -/
theorem base_cons (ks : List Int) (to k : Nat) (hk : k < to) (ht : to ≤ ks.length) : baseG 0 ((ks.take to).drop k) =
    if isOp (nth ks k) then baseG 1 ((ks.take to).drop (k + 1)) else if nth ks k = 22 then baseG 0 ((ks.take to).drop (k + 1)) else if nth ks k = 0 then 0 else if nth ks k = 1 ∨ nth ks k = 2 then 1 else baseG 0 ((ks.take to).drop (k + 1)) := by
  rw [drop_nth (ks.take to) k (by rw [List.length_take]; omega), nth_take ks to k hk, baseG_cons]
  simp
theorem base_open (ks : List Int) (to k : Nat) (ho : isOp (nth ks k)) (hk : k < to) (ht : to ≤ ks.length) : baseG 0 ((ks.take to).drop k) =
    match closeAt 0 (ks.drop (k + 1)) with | some d => baseG 0 ((ks.take to).drop (k + 1 + d + 1)) | none => 0 := by
  rw [base_cons ks to k hk ht, if_pos ho, baseG_close]
  have e : (ks.take to).drop (k + 1) = (ks.drop (k + 1)).take (to - (k + 1)) := by rw [List.drop_take]
  rw [e, closeAt_take]
  cases h : closeAt 0 (ks.drop (k + 1)) with
  | none => rfl
  | some d =>
    by_cases hd : d < to - (k + 1)
    · simp only [hd, if_true]
      rw [← e, List.drop_drop]
      rfl
    · simp only [hd, if_false]
      rw [List.drop_of_length_le (by rw [List.length_take]; omega)]
      rfl

/-! paragraphs -/
/-- a character more: the paragraphs, the one at hand, the character ahead -/
structure PSt where
  paras : List (List Int)
  now : List Int
  ahead : Int
def pstep (cls : Int → Int) (s : PSt) (c : Int) : PSt :=
  if s.ahead = 13 ∧ c = 10 then ⟨s.paras, s.now, c⟩ else if cls c = 10 then ⟨s.paras ++ [s.now], [], c⟩ else ⟨s.paras, s.now ++ [c], c⟩
def prun (cls : Int → Int) (zs : List Int) : PSt := zs.foldl (pstep cls) ⟨[], [], -1⟩
theorem prun_step (cls : Int → Int) (zs : List Int) (k : Nat) (h : k < zs.length) : prun cls (zs.take (k + 1)) = pstep cls (prun cls (zs.take k)) (nth zs k) := by
  unfold prun; rw [take_nth zs k h, List.foldl_append]; rfl
def parasN (cls : Int → Int) (zs : List Int) : List (List Int) := if (prun cls zs).now.length = 0 then (prun cls zs).paras else (prun cls zs).paras ++ [(prun cls zs).now]
def endedN (cls : Int → Int) (zs : List Int) : Bool := decide ((prun cls zs).now.length = 0)
def total (zss : List (List Int)) : Nat := (zss.map List.length).sum
theorem total_app (a b : List (List Int)) : total (a ++ b) = total a + total b := by simp [total]
theorem total_one (a : List Int) : total [a] = a.length := by simp [total]
theorem pfold_total (cls : Int → Int) : ∀ (zs : List Int) (s : PSt), total (zs.foldl (pstep cls) s).paras + (zs.foldl (pstep cls) s).now.length ≤ total s.paras + s.now.length + zs.length ∧
    (zs.foldl (pstep cls) s).paras.length ≤ s.paras.length + zs.length
  | [], s => by simp
  | z :: zs, s => by
    rw [List.foldl_cons]
    have ⟨h1, h2⟩ := pfold_total cls zs (pstep cls s z)
    have h3 : total (pstep cls s z).paras + (pstep cls s z).now.length ≤ total s.paras + s.now.length + 1 ∧ (pstep cls s z).paras.length ≤ s.paras.length + 1 := by
      unfold pstep
      split
      · simp
      · split
        · simp [total_app, total_one]
        · simp; omega
    simp only [List.length_cons]
    omega
theorem prun_total (cls : Int → Int) (zs : List Int) : total (prun cls zs).paras + (prun cls zs).now.length ≤ zs.length ∧ (prun cls zs).paras.length ≤ zs.length := by
  have := pfold_total cls zs ⟨[], [], -1⟩
  simpa [total, prun] using this
theorem parasN_total (cls : Int → Int) (zs : List Int) : total (parasN cls zs) ≤ zs.length ∧ (parasN cls zs).length ≤ zs.length + 1 := by
  have := prun_total cls zs
  unfold parasN
  split
  · omega
  · rw [total_app, total_one, List.length_append]; simp; omega
theorem prun_ahead (cls : Int → Int) (zs : List Int) (k : Nat) (h : k < zs.length) : (prun cls (zs.take (k + 1))).ahead = nth zs k := by
  rw [prun_step cls zs k h]
  unfold pstep
  split
  · rfl
  · split <;> rfl
theorem match_lists (M : List Int) (k x n : Nat) (hM : M.length = k) (hx : x < k) : (((M ++ [-1]) ++ List.replicate n (0 : Int)).set k (x : Int)).set x (k : Int) = (M.set x (k : Int) ++ [(x : Int)]) ++ List.replicate n 0 := by
  subst hM
  rw [List.append_assoc, List.set_append_right _ _ (Nat.le_refl _), Nat.sub_self, List.set_append_left _ _ hx]
  simp
theorem match_lists1 (M : List Int) (k x n : Nat) (y : Int) (hM : M.length = k) (hx : x < k) : (((M ++ List.replicate (n + 1) y).set x (k : Int)).set k (x : Int)) = (M.set x (k : Int) ++ [(x : Int)]) ++ List.replicate n y := by
  subst hM
  rw [List.set_append_left _ _ hx, List.set_append_right _ _ (by simp), List.length_set, Nat.sub_self, List.replicate_succ]
  simp
end Go.Proofs.YtcfnhjpmihngdaaGreat

namespace Go.Proofs.YtcfnhjpmihngdaaGreat
open Go.RowKit

theorem info_int64 : (Tryz.prog.info? 2).map (fun i => (i.zero, i.size, i.bytes)) = some (some (.int .i64 0), 1, 8) := by kernel_rfl
theorem info_uint8 : (Tryz.prog.info? 5).map (fun i => (i.zero, i.size, i.bytes)) = some (some (.int .u8 0), 1, 1) := by kernel_rfl
def marks (k : Int) (n : Nat) : List Int := (List.range n).map fun (j : Nat) => k + (j : Int)
theorem marks_length (k : Int) (n : Nat) : (marks k n).length = n := by simp [marks]
theorem marks_nth (k : Int) (n j : Nat) (h : j < n) : nth (marks k n) j = k + j := by simp [marks, nth, h]

def marks8 (k : Int) (n : Nat) : List Int := (List.range n).map fun (j : Nat) => (k + (j : Int)) % 256
theorem marks8_length (k : Int) (n : Nat) : (marks8 k n).length = n := by simp [marks8]
theorem marks8_nth (k : Int) (n j : Nat) (h : j < n) : nth (marks8 k n) j = (k + j) % 256 := by simp [marks8, nth, h]

theorem eqI_step (zs ys : List Int) (k : Nat) (hk : k < zs.length) (hk' : k < ys.length) (h : nth zs k = nth ys k) : zs.drop k = ys.drop k ↔ zs.drop (k + 1) = ys.drop (k + 1) := by
  rw [drop_nth zs k hk, drop_nth ys k hk', h]; simp
theorem eqI_part (zs ys : List Int) (k : Nat) (h : nth zs k ≠ nth ys k) : zs ≠ ys := by
  intro e; subst e; exact h rfl

set_option maxRecDepth 100000 in
set_option maxHeartbeats 400000 in
theorem eqInt64S_any (A A' : Option Addr) (zs ys : List Int) (c c' : Nat) (w : World) (B B' : Nat) (h1 : Rd w B A (nums .i64 zs)) (h2 : Rd w B' A' (nums .i64 ys)) (hl : zs.length < 1000000000) (hl' : ys.length < 1000000000) :
    Calls Tryz.prog 8 #[.slice A zs.length c, .slice A' ys.length c'] w fun e w' => e = .returned (.bool (decide (zs = ys))) ∧ ∃ n, w' = w.drewN n := by
  by_cases hn : zs.length = ys.length
  · have hne : ((zs.length : Int) != (ys.length : Int)) = false := by simp [hn]
    have HN := Lib.hid hn
    have H1 := Lib.hid h1
    have H2 := Lib.hid h2
    clear hn h1 h2
    go_enter Tryz.func8, Tryz.ntmps8
    go_wp2
    go_loopw [5] (fun i wr => ∃ k n : Nat, k ≤ zs.length ∧ i = .int .i64 k ∧ Hid (zs = ys ↔ zs.drop k = ys.drop k) ∧ wr = w.drewN n) (fun i _ => zs.length - (intOf i).toNat)
    case atStart => exact ⟨0, 0, by omega, rfl, Lib.hid (by simp), rfl⟩
    case round =>
      obtain ⟨k, n, hk, rfl, hs, rfl⟩ := hrel
      by_cases hlt : k < zs.length
      · have hlt' : k < ys.length := by rw [← HN.out]; exact hlt
        obtain ⟨b, off, rfl, hb, hc⟩ := H1.out.int (by omega)
        have hc0 := hc k (by omega)
        obtain ⟨b', off', rfl, hb', hc'⟩ := H2.out.int (by omega)
        have hc1 := hc' k (by omega)
        clear hc hc'
        by_cases he : nth zs k = nth ys k
        · have hE := Lib.hid (eqI_step zs ys k hlt hlt' he)
          have hd : (nth zs k != nth ys k) = false := by simp [he]
          clear he
          go_wp2
          go_quiet (fail)
          go_wp2
          go_roundw
          case rel => exact ⟨k + 1, _, by omega, by go_num, Lib.hid (by rw [hs.out, hE.out]), rfl⟩
          case measure => first | omega | (simp [intOf]; omega)
        · have hE := Lib.hid (eqI_part zs ys k he)
          have hd : (nth zs k != nth ys k) = true := by simp [he]
          clear he
          go_wp2
          go_quiet (fail)
          go_wp2
          go_ret
          exact ⟨rbool (by simp [hE.out]), _, World.drewN_drewN _ _ _⟩
      · go_wp2
        go_ret
        refine ⟨rbool ?_, n, rfl⟩
        rw [eq_comm, decide_eq_true_iff, hs.out, List.drop_of_length_le (by omega), List.drop_of_length_le (by have := HN.out; omega)]
  · have hne : ((zs.length : Int) != (ys.length : Int)) = true := by simp; omega
    have HN := Lib.hid hn
    clear hn
    go_enter Tryz.func8, Tryz.ntmps8
    go_wp2
    go_ret
    exact ⟨rbool (by rw [eq_comm, decide_eq_false_iff_not]; intro e; exact HN.out (by rw [e])), 0, rfl⟩



set_option maxRecDepth 100000 in
set_option maxHeartbeats 400000 in
theorem toInt64S_any (A : Option Addr) (zs : List Int) (c : Nat) (w : World) (B : Nat) (h1 : Rd w B A (nums .i64 zs)) (hB : B ≤ w.heap.size) (hl : zs.length < 1000000000) :
    Calls Tryz.prog 5 #[.slice A zs.length c] w fun e w' => (∃ A' c', e = .returned (.slice A' zs.length c') ∧ w'.ownsRow w.heap.size 2 1 (.slice A' zs.length c') zs.length (nums .i64 zs)) ∧ Below w.heap.size w w' := by
  obtain ⟨i0, hi, hz0, hz1, hz2⟩ := info_parts info_int64
  have H1 := Lib.hid h1
  clear h1
  go_enter Tryz.func5, Tryz.ntmps5
  go_wp2_with (at_make; refine wpList_make_full _ rfl _ _ _ rfl w.heap.size 2 i0 (.int .i64 0) 1 Tryz.underlying22 hi hz0 hz1 _ _ _ _ zs.length rfl rfl rfl rfl (by rw [hz2]; omega) (by unfold maxLen; omega) (Nat.le_refl _) ?_; intro w1 hown1 hg1)
  have hb1 : Below w.heap.size w w1 := (Below.refl _ _).grown hg1 (Nat.le_refl _) (by simp)
  have HO := Lib.hid hown1
  clear hown1 hg1
  go_loopw [4] (fun i wr => ∃ k : Nat, k ≤ zs.length ∧ i = .int .i64 k ∧ Hid (∃ xs, wr.ownsRow w.heap.size 2 1 (.slice (some ⟨w.heap.size, 0, none⟩) zs.length zs.length) zs.length xs ∧ xs.take k = (nums .i64 zs).take k) ∧ Below w.heap.size w wr) (fun i _ => zs.length - (intOf i).toNat)
  case atStart => exact ⟨0, by omega, rfl, Lib.hid ⟨_, HO.out, by simp⟩, hb1⟩
  case round =>
    obtain ⟨k, hk, rfl, hs, hbr⟩ := hrel
    obtain ⟨xs, hox, hxs⟩ := hs.out
    clear hs
    by_cases hlt : k < zs.length
    · obtain ⟨b, off, rfl, hb, hc⟩ := (H1.out.below hbr hB).int (by omega)
      have hc0 := hc k hlt
      clear hc
      have hd := hox.cellAt k (by omega)
      have hf := hox.frozenAt k
      have HX := Lib.hid hox
      have HXS := Lib.hid hxs
      obtain ⟨u, hu⟩ : ∃ u, xs[k]? = some u := ⟨xs[k]'(by rw [hox.1]; omega), List.getElem?_eq_getElem _⟩
      rw [hu] at hd
      clear hu hox hxs
      go_wp2
      go_roundw
      case rel =>
        have st := HX.out.stored k (.int .i64 (nth zs k))
        exact ⟨k + 1, by omega, by go_num, Lib.hid ⟨_, st.1, set_take HXS.out (by rw [HX.out.1]; omega) (nums_get .i64 zs k hlt)⟩, hbr.grown st.2 hbr.size (by simp)⟩
      case measure => first | omega | (simp [intOf]; omega)
    · have HX := Lib.hid hox
      have HXS := Lib.hid hxs
      clear hox hxs
      go_wp2
      go_ret
      refine ⟨⟨_, _, rfl, ?_⟩, hbr⟩
      have e : xs = nums .i64 zs := by
        have h2 := HXS.out
        rwa [List.take_of_length_le (by have := HX.out.1; omega), List.take_of_length_le (by simp [nums]; omega)] at h2
      rw [← e]; exact HX.out

set_option maxRecDepth 100000 in
set_option maxHeartbeats 400000 in
theorem markInt64S_any (A : Option Addr) (cap : Nat) (xs : List Value) (n : Nat) (k : Int) (w : World) (base : Nat) (h1 : w.ownsRow base 2 1 (.slice A n cap) n xs) (hl : n < 1000000000) (hk0 : 0 ≤ k) (hk1 : k < 1000000000000) :
    Calls Tryz.prog 9 #[.slice A n cap, .int .i64 k] w fun e w' => (e = .returned (.int .i64 (k + n)) ∧ w'.ownsRow base 2 1 (.slice A n cap) n (nums .i64 (marks k n))) ∧ w.grownBy w' (Value.slice A n cap).ownBlock := by
  have HO := Lib.hid h1
  clear h1
  by_cases hn : n = 0
  · subst hn
    go_enter Tryz.func9, Tryz.ntmps9
    go_wp2
    refine wp_loop_rounds 1 ?_
    rw [rounds_succ]
    go_wp2
    go_ret
    refine ⟨⟨rint (by omega), ?_⟩, World.grownBy.refl w _⟩
    have e : xs = nums .i64 (marks k 0) := by
      have h := HO.out.1
      simp at h
      simp [h, marks, nums]
    rw [← e]
    exact HO.out
  · obtain ⟨g, rfl⟩ : ∃ g, A = some ⟨g, 0, none⟩ := by
      rcases HO.out.2 with ⟨_, h⟩ | ⟨g, _, _, h, _⟩
      · exact absurd h hn
      · exact ⟨g, by injection h⟩
    clear hn
    go_enter Tryz.func9, Tryz.ntmps9
    go_wp2
    go_loopw [1, 5] (fun kk i wr => ∃ j : Nat, j ≤ n ∧ i = .int .i64 j ∧ kk = .int .i64 (k + j) ∧ Hid (∃ xs, wr.ownsRow base 2 1 (.slice (some ⟨g, 0, none⟩) n cap) n xs ∧ xs.take j = (nums .i64 (marks k n)).take j) ∧ w.grownBy wr (some g)) (fun _ i _ => n - (intOf i).toNat)
    case atStart => exact ⟨0, by omega, rfl, by simp, Lib.hid ⟨_, HO.out, by simp⟩, World.grownBy.refl w _⟩
    case round =>
      obtain ⟨j, hj, rfl, rfl, hs, hbr⟩ := hrel
      obtain ⟨xs, hox, hxs⟩ := hs.out
      clear hs
      by_cases hlt : j < n
      · have hd := hox.cellAt j (by omega)
        have hf := hox.frozenAt j
        have HX := Lib.hid hox
        have HXS := Lib.hid hxs
        obtain ⟨u, hu⟩ : ∃ u, xs[j]? = some u := ⟨xs[j]'(by rw [hox.1]; omega), List.getElem?_eq_getElem _⟩
        rw [hu] at hd
        clear hu hox hxs
        go_wp2
        go_roundw
        case rel =>
          have st := HX.out.stored j (.int .i64 (k + j))
          have e := nums_get .i64 (marks k n) j (by rw [marks_length]; exact hlt)
          rw [marks_nth _ _ _ hlt] at e
          exact ⟨j + 1, by omega, by go_num, by go_num, Lib.hid ⟨_, st.1, set_take HXS.out (by rw [HX.out.1]; omega) e⟩, hbr.trans st.2⟩
        case measure => first | omega | (simp [intOf]; omega)
      · have HX := Lib.hid hox
        have HXS := Lib.hid hxs
        clear hox hxs
        obtain rfl : j = n := by omega
        go_wp2
        go_ret
        refine ⟨⟨rfl, ?_⟩, hbr⟩
        have e : xs = nums .i64 (marks k j) := by
          have h2 := HXS.out
          rwa [List.take_of_length_le (by have := HX.out.1; omega), List.take_of_length_le (by simp [nums, marks_length])] at h2
        rw [← e]; exact HX.out

set_option maxRecDepth 100000 in
set_option maxHeartbeats 400000 in
theorem heldInt64S_any (A : Option Addr) (cap : Nat) (n : Nat) (k : Int) (w : World) (B : Nat) (h1 : Rd w B A (nums .i64 (marks k n))) (hl : n < 1000000000) (hk0 : 0 ≤ k) (hk1 : k < 1000000000000) :
    Calls Tryz.prog 41 #[.slice A n cap, .int .i64 k] w fun e w' => e = .returned (.int .i64 (k + n)) ∧ w = w' := by
  have HR := Lib.hid h1
  clear h1
  go_enter Tryz.func41, Tryz.ntmps41
  go_wp2
  go_loop [1, 5] (fun kk i => ∃ j : Nat, j ≤ n ∧ i = .int .i64 j ∧ kk = .int .i64 (k + j)) (fun _ i => n - (intOf i).toNat)
  case atStart => exact ⟨0, by omega, rfl, by simp⟩
  case round =>
    obtain ⟨j, hj, rfl, rfl⟩ := hrel
    by_cases hlt : j < n
    · obtain ⟨b, off, rfl, hb, hc⟩ := HR.out.int (by rw [marks_length]; omega)
      have hc0 := hc j (by rw [marks_length]; omega)
      rw [marks_nth _ _ _ hlt] at hc0
      clear hc
      go_wp2
      go_round
      case rel => exact ⟨j + 1, by omega, by go_num, by go_num⟩
      case measure => first | omega | (simp [intOf]; omega)
    · obtain rfl : j = n := by omega
      go_wp2
      go_ret
      exact ⟨rfl, rfl⟩




/-! the same, said of values -/
theorem eqInt64S_same (v u : Value) (zs : List Int) (w : World) (B B' : Nat) (h1 : Sees w B .i64 v zs) (h2 : Sees w B' .i64 u zs) (hl : zs.length < 1000000000) :
    Calls Tryz.prog 8 #[v, u] w fun e w' => e = .returned (.bool true) ∧ ∃ n, w' = w.drewN n := by
  obtain ⟨A, c, rfl, hr⟩ := h1
  obtain ⟨A', c', rfl, hr'⟩ := h2
  exact (eqInt64S_any A A' zs zs c c' w B B' hr hr' hl hl).mono fun e w' ⟨he, hw⟩ => ⟨by rw [he]; simp, hw⟩
theorem toInt64S_own (v : Value) (zs : List Int) (w : World) (B : Nat) (h1 : Sees w B .i64 v zs) (hB : B ≤ w.heap.size) (hl : zs.length < 1000000000) :
    Calls Tryz.prog 5 #[v] w fun e w' => (∃ v', e = .returned v' ∧ Own w' w.heap.size w'.heap.size 2 .i64 v' zs) ∧ Below w.heap.size w w' := by
  obtain ⟨A, c, rfl, hr⟩ := h1
  exact (toInt64S_any A zs c w B hr hB hl).mono fun e w' ⟨⟨A', c', he, ho⟩, hb⟩ => ⟨⟨_, he, Own.mk_ ho rfl⟩, hb⟩
theorem markInt64S_own (v : Value) (zs : List Int) (k : Int) (w : World) (lo hi : Nat) (h1 : Own w lo hi 2 .i64 v zs) (hl : zs.length < 1000000000) (hk0 : 0 ≤ k) (hk1 : k < 1000000000000) :
    Calls Tryz.prog 9 #[v, .int .i64 k] w fun e w' => (e = .returned (.int .i64 (k + zs.length)) ∧ Own w' lo hi 2 .i64 v (marks k zs.length)) ∧ w.grownBy w' v.ownBlock := by
  obtain ⟨A, c, rfl⟩ := h1.form
  exact (markInt64S_any A c _ zs.length k w lo h1.1 hl hk0 hk1).mono fun e w' ⟨⟨he, ho⟩, hb⟩ => ⟨⟨he, by rw [marks_length]; exact ho, h1.2⟩, hb⟩
theorem heldInt64S_own (v : Value) (n : Nat) (k : Int) (w : World) (B : Nat) (h1 : Sees w B .i64 v (marks k n)) (hl : n < 1000000000) (hk0 : 0 ≤ k) (hk1 : k < 1000000000000) :
    Calls Tryz.prog 41 #[v, .int .i64 k] w fun e w' => e = .returned (.int .i64 (k + n)) ∧ w = w' := by
  obtain ⟨A, c, rfl, hr⟩ := h1
  rw [marks_length]
  exact heldInt64S_any A c n k w B hr hl hk0 hk1
end Go.Proofs.YtcfnhjpmihngdaaGreat

namespace Go.Proofs.YtcfnhjpmihngdaaGreat
open Go.RowKit

theorem within_lit2 (n a0 a1 : Int) (w : World) (t : TypeId) (g : Nat) (hg : w.heap.size = g) :
    Calls Tryz.prog 67 #[.int .i64 n, .slice (some ⟨g, 0, none⟩) 2 2] (w.alloc (.cells #[.int .i64 a0, .int .i64 a1] t)) fun e w' => e = .returned (.bool (spans n [a0, a1])) ∧ w.alloc (.cells #[.int .i64 a0, .int .i64 a1] t) = w' := by
  subst hg
  exact within_any n _ [a0, a1] 2 _ _ (Rd.lit w #[.int .i64 a0, .int .i64 a1] t) (by simp)
theorem within_lit4 (n a0 a1 a2 a3 : Int) (w : World) (t : TypeId) (g : Nat) (hg : w.heap.size = g) :
    Calls Tryz.prog 67 #[.int .i64 n, .slice (some ⟨g, 0, none⟩) 4 4] (w.alloc (.cells #[.int .i64 a0, .int .i64 a1, .int .i64 a2, .int .i64 a3] t)) fun e w' => e = .returned (.bool (spans n [a0, a1, a2, a3])) ∧ w.alloc (.cells #[.int .i64 a0, .int .i64 a1, .int .i64 a2, .int .i64 a3] t) = w' := by
  subst hg
  exact within_any n _ [a0, a1, a2, a3] 4 _ _ (Rd.lit w #[.int .i64 a0, .int .i64 a1, .int .i64 a2, .int .i64 a3] t) (by simp)
theorem within_lit6 (n a0 a1 a2 a3 a4 a5 : Int) (w : World) (t : TypeId) (g : Nat) (hg : w.heap.size = g) :
    Calls Tryz.prog 67 #[.int .i64 n, .slice (some ⟨g, 0, none⟩) 6 6] (w.alloc (.cells #[.int .i64 a0, .int .i64 a1, .int .i64 a2, .int .i64 a3, .int .i64 a4, .int .i64 a5] t)) fun e w' => e = .returned (.bool (spans n [a0, a1, a2, a3, a4, a5])) ∧ w.alloc (.cells #[.int .i64 a0, .int .i64 a1, .int .i64 a2, .int .i64 a3, .int .i64 a4, .int .i64 a5] t) = w' := by
  subst hg
  exact within_any n _ [a0, a1, a2, a3, a4, a5] 6 _ _ (Rd.lit w #[.int .i64 a0, .int .i64 a1, .int .i64 a2, .int .i64 a3, .int .i64 a4, .int .i64 a5] t) (by simp)
theorem within_lit8 (n a0 a1 a2 a3 a4 a5 a6 a7 : Int) (w : World) (t : TypeId) (g : Nat) (hg : w.heap.size = g) :
    Calls Tryz.prog 67 #[.int .i64 n, .slice (some ⟨g, 0, none⟩) 8 8] (w.alloc (.cells #[.int .i64 a0, .int .i64 a1, .int .i64 a2, .int .i64 a3, .int .i64 a4, .int .i64 a5, .int .i64 a6, .int .i64 a7] t)) fun e w' => e = .returned (.bool (spans n [a0, a1, a2, a3, a4, a5, a6, a7])) ∧ w.alloc (.cells #[.int .i64 a0, .int .i64 a1, .int .i64 a2, .int .i64 a3, .int .i64 a4, .int .i64 a5, .int .i64 a6, .int .i64 a7] t) = w' := by
  subst hg
  exact within_any n _ [a0, a1, a2, a3, a4, a5, a6, a7] 8 _ _ (Rd.lit w #[.int .i64 a0, .int .i64 a1, .int .i64 a2, .int .i64 a3, .int .i64 a4, .int .i64 a5, .int .i64 a6, .int .i64 a7] t) (by simp)
theorem within_lit10 (n a0 a1 a2 a3 a4 a5 a6 a7 a8 a9 : Int) (w : World) (t : TypeId) (g : Nat) (hg : w.heap.size = g) :
    Calls Tryz.prog 67 #[.int .i64 n, .slice (some ⟨g, 0, none⟩) 10 10] (w.alloc (.cells #[.int .i64 a0, .int .i64 a1, .int .i64 a2, .int .i64 a3, .int .i64 a4, .int .i64 a5, .int .i64 a6, .int .i64 a7, .int .i64 a8, .int .i64 a9] t)) fun e w' => e = .returned (.bool (spans n [a0, a1, a2, a3, a4, a5, a6, a7, a8, a9])) ∧ w.alloc (.cells #[.int .i64 a0, .int .i64 a1, .int .i64 a2, .int .i64 a3, .int .i64 a4, .int .i64 a5, .int .i64 a6, .int .i64 a7, .int .i64 a8, .int .i64 a9] t) = w' := by
  subst hg
  exact within_any n _ [a0, a1, a2, a3, a4, a5, a6, a7, a8, a9] 10 _ _ (Rd.lit w #[.int .i64 a0, .int .i64 a1, .int .i64 a2, .int .i64 a3, .int .i64 a4, .int .i64 a5, .int .i64 a6, .int .i64 a7, .int .i64 a8, .int .i64 a9] t) (by simp)
/-- a character -/
def isChr (c : Int) : Bool := decide ((0 ≤ c ∧ c ≤ 55295) ∨ (57344 ≤ c ∧ c ≤ 1114111))
theorem specIsChar_b (c : Int) (w : World) : Calls Tryz.prog 42 #[.int .i64 c] w fun e w' => e = .returned (.bool (isChr c)) ∧ w = w' := specIsChar_any c w
theorem isChar_b (c : Int) (w : World) : Calls Tryz.prog 89 #[.int .i64 c] w fun e w' => e = .returned (.bool (isChr c)) ∧ Below w.heap.size w w' := isChar_any c w
theorem eq_no {a b : Int} (h : a ≠ b) : (a == b) = false := by simpa using h
theorem eq_yes {a b : Int} (h : a = b) : (a == b) = true := by simpa using h
theorem ne_no {a b : Int} (h : a ≠ b) : (a != b) = true := by simpa using h
theorem ne_yes {a b : Int} (h : a = b) : (a != b) = false := by simpa using h
theorem agg2 {a a' b b' : Int} (h : a = a') (k : b = b') : Ending.returned (.agg #[.int .i64 a, .int .i64 b]) = .returned (.agg #[.int .i64 a', .int .i64 b']) := by rw [h, k]

/-- how many forms -/
def formsN (c : Int) : Int :=
  if c = 1569 then 1
  else if (1570 ≤ c ∧ c ≤ 1573) ∨ c = 1575 ∨ c = 1577 ∨ (1583 ≤ c ∧ c ≤ 1586) ∨ c = 1608 ∨ c = 1609 then 2
  else if (1569 ≤ c ∧ c ≤ 1594) ∨ (1601 ≤ c ∧ c ≤ 1610) then 4 else 0

theorem formsN_lo (c : Int) : 0 ≤ formsN c ∧ formsN c ≤ 4 := by unfold formsN; repeat (split; omega); omega

end Go.Proofs.YtcfnhjpmihngdaaGreat
