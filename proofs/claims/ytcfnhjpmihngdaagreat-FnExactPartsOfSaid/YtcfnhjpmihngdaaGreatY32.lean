/- FnSequences' mathematics: each place that is kept is in just one sequence, of its level. No program is named here. -/
import Derived.Test.YtcfnhjpmihngdaaGreatY31
namespace Go.Proofs.YtcfnhjpmihngdaaGreat
open Go.RowKit

theorem popIso_in (A : List Tier) : ∀ (n : Nat) (ext : List Tier), ext.length = n → 0 < isos ext → ∃ m, popIso (A ++ ext) = A ++ m ∧ isos m + 1 = isos ext ∧ ∀ x ∈ m, x ∈ ext
  | 0, ext, h, h0 => by
    have := List.eq_nil_of_length_eq_zero h
    subst this
    simp [isos] at h0
  | n + 1, ext, h, h0 => by
    rcases List.eq_nil_or_concat ext with rfl | ⟨a, e, he⟩
    · simp at h
    · rw [List.concat_eq_append] at he
      subst he
      rw [← List.append_assoc, popIso_app]
      rw [isos_app, isos_one] at h0 ⊢
      simp only [List.length_append, List.length_cons, List.length_nil] at h
      by_cases hb : e.iso = true
      · rw [if_pos hb]
        exact ⟨a, rfl, by rw [if_pos hb], fun x hx => by simp [hx]⟩
      · rw [if_neg hb] at h0 ⊢
        rw [if_neg hb]
        obtain ⟨m, e1, e2, e3⟩ := popIso_in A n a (by omega) h0
        exact ⟨m, e1, by omega, fun x hx => by simp [e3 x hx]⟩
theorem popIso_out (A : List Tier) : ∀ (n : Nat) (ext : List Tier), ext.length = n → isos ext = 0 → popIso (A ++ ext) = popIso A
  | 0, ext, h, _ => by
    have := List.eq_nil_of_length_eq_zero h
    subst this
    rw [List.append_nil]
  | n + 1, ext, h, h0 => by
    rcases List.eq_nil_or_concat ext with rfl | ⟨a, e, he⟩
    · simp at h
    · rw [List.concat_eq_append] at he
      subst he
      rw [← List.append_assoc, popIso_app]
      rw [isos_app, isos_one] at h0
      simp only [List.length_append, List.length_cons, List.length_nil] at h
      by_cases hb : e.iso = true
      · rw [if_pos hb] at h0; omega
      · rw [if_neg hb] at h0 ⊢
        exact popIso_out A n a (by omega) (by omega)
theorem top_over (A : List Tier) (e : Tier) (ext : List Tier) (hx : ∀ x ∈ ext, e.lev < x.lev) : e.lev ≤ (topT (A ++ e :: ext)).lev := by
  rcases List.eq_nil_or_concat ext with rfl | ⟨a, x, he⟩
  · rw [topT_app]; exact Int.le_refl _
  · rw [List.concat_eq_append] at he
    subst he
    rw [show A ++ e :: (a ++ [x]) = (A ++ e :: a) ++ [x] by simp, topT_app]
    exact Int.le_of_lt (hx x (by simp))

/-- s stands o isolates deep in what an isolate holds that was met in state t, and pushed at level n -/
structure UndK (t : Tell) (n : Int) (o : Nat) (s : Tell) : Prop where
  form : ∃ ext, s.stk = t.stk ++ ⟨n, -1, true⟩ :: ext ∧ (∀ e ∈ ext, n < e.lev) ∧ o = isos ext + s.li ∧ s.is = t.is + 1 + isos ext
/-- the same of one that is lost -/
structure UndL (t : Tell) (o : Nat) (s : Tell) : Prop where
  stk : s.stk = t.stk
  li : s.li = t.li + 1 + o
  le : s.le = t.le
  is : s.is = t.is

theorem UndK.top {t : Tell} {n : Int} {o : Nat} {s : Tell} (h : UndK t n o s) : n ≤ (topT s.stk).lev := by
  obtain ⟨ext, h1, h2, _, _⟩ := h.form
  rw [h1]; exact top_over _ _ _ h2
theorem UndK.emb {t : Tell} {n : Int} {o : Nat} {s : Tell} (h : UndK t n o s) (hn : 0 ≤ n) (left : Bool) (w : Int) : UndK t n o (embS left w s) := by
  have ht := h.top
  have nl := nextL_low left s.stk (by omega)
  obtain ⟨ext, h1, h2, h3, h4⟩ := h.form
  unfold embS
  split
  · split
    · exact ⟨ext, h1, h2, h3, h4⟩
    · exact h
  · refine ⟨ext ++ [⟨nextL left s.stk, w, false⟩], by simp [h1], fun e he => ?_, ?_, ?_⟩
    · rcases List.mem_append.1 he with he | he
      · exact h2 e he
      · simp at he; subst he; show n < nextL left s.stk; omega
    · rw [isos_app, isos_one]; simp; exact h3
    · rw [isos_app, isos_one]; simp; exact h4
theorem UndK.iso {t : Tell} {n : Int} {o : Nat} {s : Tell} (h : UndK t n o s) (hn : 0 ≤ n) (left : Bool) : UndK t n (o + 1) (isoS left s) := by
  have ht := h.top
  have nl := nextL_low left s.stk (by omega)
  obtain ⟨ext, h1, h2, h3, h4⟩ := h.form
  unfold isoS
  split
  · exact ⟨ext, h1, h2, by show o + 1 = isos ext + (s.li + 1); omega, h4⟩
  · refine ⟨ext ++ [⟨nextL left s.stk, -1, true⟩], by simp [h1], fun e he => ?_, ?_, ?_⟩
    · rcases List.mem_append.1 he with he | he
      · exact h2 e he
      · simp at he; subst he; show n < nextL left s.stk; omega
    · rw [isos_app, isos_one]; simp; omega
    · rw [isos_app, isos_one]; simp; omega
theorem UndK.pop {t : Tell} {n : Int} {o : Nat} {s : Tell} (h : UndK t n o s) : UndK t n o (popS s) := by
  obtain ⟨ext, h1, h2, h3, h4⟩ := h.form
  unfold popS
  split
  · exact h
  · split
    · exact ⟨ext, h1, h2, h3, h4⟩
    · split
      · rename_i hp
        rcases List.eq_nil_or_concat ext with rfl | ⟨a, x, he⟩
        · rw [h1, topT_app] at hp; simp at hp
        · rw [List.concat_eq_append] at he
          subst he
          have e : t.stk ++ ⟨n, -1, true⟩ :: (a ++ [x]) = (t.stk ++ ⟨n, -1, true⟩ :: a) ++ [x] := by simp
          rw [h1, e, topT_app] at hp
          rw [isos_app, isos_one, hp.1] at h3 h4
          refine ⟨a, ?_, fun y hy => h2 y (by simp [hy]), by simpa using h3, by simpa using h4⟩
          show s.stk.dropLast = _
          rw [h1, e, List.dropLast_concat]
      · exact h
theorem UndK.fin {t : Tell} {n : Int} {o : Nat} {s : Tell} (h : UndK t n (o + 1) s) : UndK t n o (endS s) := by
  obtain ⟨ext, h1, h2, h3, h4⟩ := h.form
  unfold endS
  split
  · exact ⟨ext, h1, h2, by show o = isos ext + (s.li - 1); omega, h4⟩
  · rw [if_pos (by omega)]
    obtain ⟨m, e1, e2, e3⟩ := popIso_in (t.stk ++ [⟨n, -1, true⟩]) _ ext rfl (by omega)
    refine ⟨m, ?_, fun e he => h2 e (e3 e he), by show o = isos m + s.li; omega, by show s.is - 1 = _; omega⟩
    show popIso s.stk = _
    rw [h1, show t.stk ++ ⟨n, -1, true⟩ :: ext = (t.stk ++ [⟨n, -1, true⟩]) ++ ext by simp, e1]; simp
theorem UndK.back {t : Tell} {n : Int} {s : Tell} (h : UndK t n 0 s) (hl : t.li = 0) (he : t.le = 0) : endS s = t := by
  obtain ⟨ext, h1, h2, h3, h4⟩ := h.form
  unfold endS
  rw [if_neg (by omega), if_pos (by omega)]
  have e : popIso s.stk = t.stk := by
    rw [h1, show t.stk ++ ⟨n, -1, true⟩ :: ext = (t.stk ++ [⟨n, -1, true⟩]) ++ ext by simp, popIso_out _ _ ext rfl (by omega), popIso_app]
    simp
  obtain ⟨a, b, c, d⟩ := t
  simp only at hl he e h4 ⊢
  rw [e, show s.li = b by omega, show s.is - 1 = d by omega, he]

theorem UndL.emb {t : Tell} {o : Nat} {s : Tell} (h : UndL t o s) (left : Bool) (w : Int) : UndL t o (embS left w s) := by
  have := h.li
  unfold embS
  rw [if_pos (show Full _ _ from .inr (.inl (by omega))), if_neg (by omega)]; exact h
theorem UndL.iso {t : Tell} {o : Nat} {s : Tell} (h : UndL t o s) (left : Bool) : UndL t (o + 1) (isoS left s) := by
  have := h.li
  unfold isoS
  rw [if_pos (show Full _ _ from .inr (.inl (by omega)))]
  exact ⟨h.stk, by show s.li + 1 = _; omega, h.le, h.is⟩
theorem UndL.pop {t : Tell} {o : Nat} {s : Tell} (h : UndL t o s) : UndL t o (popS s) := by
  have := h.li
  unfold popS
  rw [if_pos (by omega)]; exact h
theorem UndL.fin {t : Tell} {o : Nat} {s : Tell} (h : UndL t (o + 1) s) : UndL t o (endS s) := by
  have := h.li
  unfold endS
  rw [if_pos (by omega)]
  exact ⟨h.stk, by show s.li - 1 = _; omega, h.le, h.is⟩
theorem UndL.back {t : Tell} {s : Tell} (h : UndL t 0 s) : endS s = t := by
  have h2 := h.li
  have h1 := h.stk
  have h3 := h.le
  have h4 := h.is
  unfold endS
  rw [if_pos (by omega)]
  obtain ⟨a, b, c, d⟩ := t
  simp only at h1 h2 h3 h4 ⊢
  rw [h1, h3, h4, show s.li - 1 = b by omega]

/-- what each character keeps, whose isolates are counted -/
structure Kept (P : Nat → Tell → Prop) : Prop where
  emb : ∀ {o s}, P o s → ∀ left w, P o (embS left w s)
  iso : ∀ {o s}, P o s → ∀ left, P (o + 1) (isoS left s)
  pop : ∀ {o s}, P o s → P o (popS s)
  fin : ∀ {o s}, P (o + 1) s → P o (endS s)
theorem undK_kept (t : Tell) (n : Int) (hn : 0 ≤ n) : Kept (UndK t n) := ⟨fun h l w => h.emb hn l w, fun h l => h.iso hn l, fun h => h.pop, fun h => h.fin⟩
theorem undL_kept (t : Tell) : Kept (UndL t) := ⟨fun h l w => h.emb l w, fun h l => h.iso l, fun h => h.pop, fun h => h.fin⟩
theorem Kept.up {P : Nat → Tell → Prop} (K : Kept P) {o : Nat} {s : Tell} (h : P o s) (own : Bool) (k : Int) (hk : isOp k) : P (o + 1) (stepS own k s) := by
  unfold stepS
  unfold isOp at hk
  rw [if_neg (by unfold isEmb; omega), if_pos (by unfold isOp; omega)]; exact K.iso h own
theorem Kept.down {P : Nat → Tell → Prop} (K : Kept P) {o : Nat} {s : Tell} (h : P (o + 1) s) (own : Bool) : P o (stepS own 22 s) := by
  unfold stepS
  rw [if_neg (by unfold isEmb; omega), if_neg (by unfold isOp; omega), if_pos rfl]; exact K.fin h
theorem Kept.even {P : Nat → Tell → Prop} (K : Kept P) {o : Nat} {s : Tell} (h : P o s) (own : Bool) (k : Int) (hk : ¬ isOp k) (h2 : k ≠ 22) : P o (stepS own k s) := by
  unfold stepS
  by_cases he : isEmb k
  · rw [if_pos he]; exact K.emb h _ _
  · rw [if_neg he, if_neg hk, if_neg h2]
    split
    · exact K.pop h
    · exact h
theorem drop_cons (ks : List Int) (m : Nat) (h : m < ks.length) : ks.drop m = nth ks m :: ks.drop (m + 1) := by
  rw [List.drop_eq_getElem_cons h]; simp [nth, List.getElem?_eq_getElem h]
/-- from where it is so up to what ends the isolate -/
theorem Kept.walk {P : Nat → Tell → Prop} (K : Kept P) (ks : List Int) (b : Int) : ∀ (d o m : Nat), closeAt o (ks.drop m) = some d → P o (eat ks b m).1 →
    nth ks (m + d) = 22 ∧ P 0 (eat ks b (m + d)).1 ∧ ∀ x, m ≤ x → x < m + d → ∃ o, P o (eat ks b x).1 ∧ (nth ks x = 22 → 0 < o) := by
  intro d
  induction d with
  | zero =>
    intro o m hc hP
    have hm : m < ks.length := by have := closeAt_lt _ _ _ hc; rw [List.length_drop] at this; omega
    rw [drop_cons ks m hm, closeAt_cons] at hc
    split at hc
    · cases hx : closeAt (o + 1) (ks.drop (m + 1)) <;> rw [hx] at hc <;> simp at hc
    · split at hc
      · rename_i h22
        split at hc
        · rename_i ho
          subst ho
          exact ⟨h22, hP, fun x h1 h2 => by omega⟩
        · cases hx : closeAt (o - 1) (ks.drop (m + 1)) <;> rw [hx] at hc <;> simp at hc
      · cases hx : closeAt o (ks.drop (m + 1)) <;> rw [hx] at hc <;> simp at hc
  | succ d ih =>
    intro o m hc hP
    have hm : m < ks.length := by have := closeAt_lt _ _ _ hc; rw [List.length_drop] at this; omega
    rw [drop_cons ks m hm, closeAt_cons] at hc
    have go : ∀ o', (closeAt o' (ks.drop (m + 1))).map (· + 1) = some (d + 1) → P o' (eat ks b (m + 1)).1 → (nth ks m = 22 → 0 < o) →
        nth ks (m + (d + 1)) = 22 ∧ P 0 (eat ks b (m + (d + 1))).1 ∧ ∀ x, m ≤ x → x < m + (d + 1) → ∃ o, P o (eat ks b x).1 ∧ (nth ks x = 22 → 0 < o) := by
      intro o' hc' hP' h22
      have hc2 : closeAt o' (ks.drop (m + 1)) = some d := by
        cases hx : closeAt o' (ks.drop (m + 1)) with
        | none => rw [hx] at hc'; simp at hc'
        | some y => rw [hx] at hc'; simp at hc'; rw [hc']
      obtain ⟨r1, r2, r3⟩ := ih o' (m + 1) hc2 hP'
      rw [show m + 1 + d = m + (d + 1) by omega] at r1 r2 r3
      refine ⟨r1, r2, fun x h1 h2 => ?_⟩
      by_cases e : x = m
      · subst e; exact ⟨o, hP, h22⟩
      · exact r3 x (by omega) h2
    split at hc
    · rename_i ho
      exact go _ hc (by rw [eat_succ]; exact K.up hP _ _ ho) (fun h => by unfold isOp at ho; omega)
    · rename_i ho
      split at hc
      · rename_i h22
        split at hc
        · simp at hc
        · rename_i h0
          obtain ⟨o', rfl⟩ : ∃ o', o = o' + 1 := ⟨o - 1, by omega⟩
          have dn : P o' (stepS (leftKs ks m) (nth ks m) (eat ks b m).1) := by rw [h22]; exact K.down hP _
          exact go o' (by rw [Nat.add_sub_cancel] at hc; exact hc) (by rw [eat_succ]; exact dn) (fun _ => by omega)
      · rename_i h22
        exact go _ hc (by rw [eat_succ]; exact K.even hP _ _ ho h22) (fun h => absurd h h22)
/-- the level of a place is the one of a state that keeps it -/
theorem Kept.level {P : Nat → Tell → Prop} (K : Kept P) (ks : List Int) (b : Int) (x : Nat) (hx : x < ks.length) {o : Nat} (h : P o (eat ks b x).1) (h22 : nth ks x = 22 → 0 < o) :
    nth (levN ks b) x = -1 ∨ ∃ o' s, P o' s ∧ nth (levN ks b) x = (topT s.stk).lev := by
  have e : nth (levN ks b) x = lvS (nth ks x) (eat ks b x).1 := eat_nth ks b x _ hx
  rw [e]
  unfold lvS
  split
  · exact .inl rfl
  · right
    unfold atS
    split
    · rename_i h2
      obtain ⟨o', rfl⟩ : ∃ o', o = o' + 1 := ⟨o - 1, by have := h22 h2; omega⟩
      exact ⟨o', _, K.fin h, rfl⟩
    · exact ⟨o, _, h, rfl⟩

/-- what opens an isolate and what ends it are of one level; what it holds is all deeper, or (it is lost) all of that level -/
theorem pair_levels (ks : List Int) (b : Int) (hb : 0 ≤ b ∧ b ≤ 1) (i j : Nat) (hi : i < ks.length) (ho : isOp (nth ks i)) (hm : nth (matchN ks) i = j) :
    nth (levN ks b) j = nth (levN ks b) i ∧
    ((∀ x : Nat, i < x → x < j → nth (levN ks b) x = -1 ∨ nth (levN ks b) i < nth (levN ks b) x) ∨ (∀ x : Nat, i < x → x < j → nth (levN ks b) x = -1 ∨ nth (levN ks b) x = nth (levN ks b) i)) := by
  have wf := eat_wf ks b hb i
  have m := match_open ks i hi ho
  rw [hm] at m
  obtain ⟨d, hc, hj⟩ : ∃ d, closeAt 0 (ks.drop (i + 1)) = some d ∧ j = i + 1 + d := by
    cases hc : closeAt 0 (ks.drop (i + 1)) with
    | none => rw [hc] at m; have m' : ((j : Nat) : Int) = -1 := m; omega
    | some d => rw [hc] at m; have m' : ((j : Nat) : Int) = ((i + 1 + d : Nat) : Int) := m; exact ⟨d, rfl, by omega⟩
  have hjl : j < ks.length := by have := closeAt_lt _ _ _ hc; rw [List.length_drop] at this; omega
  have ei : nth (levN ks b) i = (topT (eat ks b i).1.stk).lev := by
    rw [show nth (levN ks b) i = lvS (nth ks i) (eat ks b i).1 from eat_nth ks b i _ hi]
    unfold isOp at ho
    unfold lvS atS
    rw [if_neg (by simp [gone]; omega), if_neg (by omega)]
  have ej : nth ks j = 22 → endS (eat ks b j).1 = (eat ks b i).1 → nth (levN ks b) j = nth (levN ks b) i := by
    intro h22 he
    rw [ei, show nth (levN ks b) j = lvS (nth ks j) (eat ks b j).1 from eat_nth ks b j _ hjl]
    unfold lvS atS
    rw [if_neg (by rw [h22]; decide), if_pos h22, he]
  have e1 : (eat ks b (i + 1)).1 = isoS (leftKs ks i) (eat ks b i).1 := by
    rw [eat_succ]
    unfold isOp at ho
    show stepS _ _ _ = _
    unfold stepS
    rw [if_neg (by unfold isEmb; omega), if_pos (by unfold isOp; omega)]
  have nl := nextL_low (leftKs ks i) (eat ks b i).1.stk wf.top.1
  have tp := wf.top.1
  by_cases hf : Full (nextL (leftKs ks i) (eat ks b i).1.stk) (eat ks b i).1
  · have h0 : UndL (eat ks b i).1 0 (eat ks b (i + 1)).1 := by rw [e1]; unfold isoS; rw [if_pos hf]; exact ⟨rfl, rfl, rfl, rfl⟩
    obtain ⟨r1, r2, r3⟩ := (undL_kept (eat ks b i).1).walk ks b d 0 (i + 1) hc h0
    rw [← hj] at r1 r2 r3
    refine ⟨ej r1 r2.back, .inr fun x h1 h2 => ?_⟩
    obtain ⟨o, hP, h22⟩ := r3 x (by omega) h2
    rcases (undL_kept (eat ks b i).1).level ks b x (by omega) hP h22 with h | ⟨o', s, hs, h⟩
    · exact .inl h
    · rw [h, ei, hs.stk]; exact .inr rfl
  · have h0 : UndK (eat ks b i).1 (nextL (leftKs ks i) (eat ks b i).1.stk) 0 (eat ks b (i + 1)).1 := by
      rw [e1]; unfold isoS; rw [if_neg hf]
      unfold Full at hf
      exact ⟨[], rfl, by simp, by simp [isos]; omega, by simp [isos]⟩
    have K := undK_kept (eat ks b i).1 (nextL (leftKs ks i) (eat ks b i).1.stk) (by omega)
    obtain ⟨r1, r2, r3⟩ := K.walk ks b d 0 (i + 1) hc h0
    rw [← hj] at r1 r2 r3
    unfold Full at hf
    refine ⟨ej r1 (r2.back (by omega) (by omega)), .inl fun x h1 h2 => ?_⟩
    obtain ⟨o, hP, h22⟩ := r3 x (by omega) h2
    rcases K.level ks b x (by omega) hP h22 with h | ⟨o', s, hs, h⟩
    · exact .inl h
    · rw [h, ei]; have := hs.top; exact .inr (by omega)
end Go.Proofs.YtcfnhjpmihngdaaGreat

namespace Go.Proofs.YtcfnhjpmihngdaaGreat
open Go.RowKit

/-! a run is as long as it can be -/
theorem gfold_done (f : Int → Int) : ∀ (C : List Int) (s : GS) (r : List Int), r ∈ s.done → r ∈ (C.foldl (gstep f) s).done
  | [], _, _, h => h
  | x :: C, s, r, h => by
    rw [List.foldl_cons]
    refine gfold_done f C _ r ?_
    unfold gstep
    split
    · exact h
    · show r ∈ s.out
      unfold GS.out
      split
      · exact h
      · exact List.mem_append_left _ h
theorem done_out {s : GS} {r : List Int} (h : r ∈ s.done) : r ∈ s.out := by
  unfold GS.out
  split
  · exact h
  · exact List.mem_append_left _ h
theorem gfold_now (f : Int → Int) : ∀ (C : List Int) (s : GS), s.now.length ≠ 0 → ∃ r ∈ (C.foldl (gstep f) s).out, ∀ z ∈ s.now, z ∈ r
  | [], s, h => ⟨s.now, by show s.now ∈ s.out; rw [out_full h]; simp, fun _ h => h⟩
  | x :: C, s, h => by
    rw [List.foldl_cons]
    by_cases e : f x = s.val
    · have e2 : gstep f s x = ⟨s.done, s.now ++ [x], s.val⟩ := by unfold gstep; rw [if_pos e]
      obtain ⟨r, h1, h2⟩ := gfold_now f C (gstep f s x) (by rw [e2]; simp)
      exact ⟨r, h1, fun z hz => h2 z (by rw [e2]; exact List.mem_append_left _ hz)⟩
    · have e2 : gstep f s x = ⟨s.out, [x], f x⟩ := by unfold gstep; rw [if_neg e]
      refine ⟨s.now, done_out (gfold_done f C _ _ ?_), fun _ h => h⟩
      rw [e2]
      show s.now ∈ s.out
      rw [out_full h]; simp
theorem gfold_on (f : Int → Int) (v : Int) : ∀ (B : List Int) (s : GS), s.val = v → (∀ x ∈ B, f x = v) → (B.foldl (gstep f) s).now = s.now ++ B
  | [], s, _, _ => by simp
  | x :: B, s, h, hB => by
    have e2 : gstep f s x = ⟨s.done, s.now ++ [x], s.val⟩ := by unfold gstep; rw [if_pos (by rw [h]; exact hB x (by simp))]
    rw [List.foldl_cons, gfold_on f v B _ (by rw [e2]; exact h) (fun y hy => hB y (by simp [hy])), e2]
    simp
theorem gstep_has (f : Int → Int) (s : GS) (x : Int) : x ∈ (gstep f s x).now ∧ (gstep f s x).val = f x := by
  unfold gstep
  split
  · rename_i h; exact ⟨by simp, h.symm⟩
  · exact ⟨by simp, rfl⟩
theorem grun_long (f : Int → Int) (A B C : List Int) (x : Int) (hB : ∀ y ∈ B, f y = f x) : ∃ r ∈ (grun f (A ++ x :: (B ++ C))).out, x ∈ r ∧ ∀ y ∈ B, y ∈ r := by
  have g := gstep_has f (grun f A) x
  have e : grun f (A ++ x :: (B ++ C)) = C.foldl (gstep f) (B.foldl (gstep f) (gstep f (grun f A) x)) := by
    unfold grun
    rw [List.foldl_append, List.foldl_cons, List.foldl_append]
  have n := gfold_on f (f x) B _ g.2 hB
  have hx : x ∈ (B.foldl (gstep f) (gstep f (grun f A) x)).now := by rw [n]; exact List.mem_append_left _ g.1
  rw [e]
  obtain ⟨r, h1, h2⟩ := gfold_now f C (B.foldl (gstep f) (gstep f (grun f A) x)) (by intro h0; rw [List.eq_nil_of_length_eq_zero h0] at hx; simp at hx)
  exact ⟨r, h1, h2 x hx, fun y hy => h2 y (by rw [n]; exact List.mem_append_right _ hy)⟩
theorem runs_long {ls : List Int} {x y : Nat} (hxy : x < y) (hy : y < ls.length) (kx : nth ls x ≠ -1) (ey : nth ls y = nth ls x) (mid : ∀ z : Nat, x < z → z < y → nth ls z = -1 ∨ nth ls z = nth ls x) :
    ∃ r ∈ runsN ls, (x : Int) ∈ r ∧ (y : Int) ∈ r := by
  have mx : (x : Int) ∈ keptL ls := mem_keptN (by omega) kx
  have my : (y : Int) ∈ keptL ls := mem_keptN hy (by rw [ey]; exact kx)
  have rise : (keptL ls).Pairwise (· < ·) := keptN_rise ls ls.length
  obtain ⟨A, M, e⟩ := List.append_of_mem mx
  rw [e] at rise my
  have r1 := List.pairwise_append.1 rise
  have r2 := List.pairwise_cons.1 r1.2.1
  have hyM : (y : Int) ∈ M := by
    rcases List.mem_append.1 my with h | h
    · have := r1.2.2 _ h (x : Int) (by simp); omega
    · rcases List.mem_cons.1 h with h | h
      · omega
      · exact h
  obtain ⟨B, C, e2⟩ := List.append_of_mem hyM
  rw [e2] at r2
  have r3 := List.pairwise_append.1 r2.2
  have hB : ∀ z ∈ B ++ [(y : Int)], lev ls z = lev ls (x : Int) := by
    intro z hz
    rcases List.mem_append.1 hz with h | h
    · have h1 := r2.1 z (List.mem_append_left _ h)
      have h2 := r3.2.2 z h (y : Int) (by simp)
      have hk : z ∈ keptL ls := by rw [e, e2]; simp [h]
      have := keptN_mem hk
      rcases mid z.toNat (by omega) (by omega) with h3 | h3
      · exact absurd h3 this.2.2
      · simpa [lev] using h3
    · simp at h; subst h; simpa [lev] using ey
  obtain ⟨r, h1, h2, h3⟩ := grun_long (lev ls) A (B ++ [(y : Int)]) C x hB
  refine ⟨r, ?_, h2, h3 _ (by simp)⟩
  unfold runsN
  rw [e, e2]
  simpa using h1
theorem runs_apart (ls : List Int) : (runsN ls).Pairwise (fun r q => ∀ x ∈ r, ∀ y ∈ q, x < y) := by
  have h : (keptL ls).Pairwise (· < ·) := keptN_rise ls ls.length
  rw [← runsN_flat] at h
  exact (List.pairwise_flatten.1 h).2
theorem runs_two {ls : List Int} {r q : List Int} (hr : r ∈ runsN ls) (hq : q ∈ runsN ls) : r = q ∨ (∀ x ∈ r, ∀ y ∈ q, x < y) ∨ (∀ y ∈ q, ∀ x ∈ r, y < x) := by
  obtain ⟨i, hi, rfl⟩ := List.getElem_of_mem hr
  obtain ⟨j, hj, rfl⟩ := List.getElem_of_mem hq
  have h := List.pairwise_iff_getElem.1 (runs_apart ls)
  rcases Nat.lt_trichotomy i j with hij | hij | hij
  · exact .inr (.inl (h i j hi hj hij))
  · subst hij; exact .inl rfl
  · exact .inr (.inr (h j i hj hi hij))
theorem runs_one {ls : List Int} {r q : List Int} (hr : r ∈ runsN ls) (hq : q ∈ runsN ls) {x : Int} (h1 : x ∈ r) (h2 : x ∈ q) : r = q := by
  rcases runs_two hr hq with h | h | h
  · exact h
  · have := h x h1 x h2; omega
  · have := h x h2 x h1; omega
theorem runs_mid {ls : List Int} {r : List Int} (hr : r ∈ runsN ls) {x y z : Int} (hx : x ∈ r) (hy : y ∈ r) (hz : z ∈ keptL ls) (h1 : x < z) (h2 : z < y) : z ∈ r := by
  rw [← runsN_flat] at hz
  obtain ⟨q, hq, h⟩ := List.mem_flatten.1 hz
  rcases runs_two hr hq with e | e | e
  · rw [e]; exact h
  · have := e y hy z h; omega
  · have := e z h x hx; omega
theorem rise_first {r : List Int} (h : r.Pairwise (· < ·)) {x : Int} (hx : x ∈ r) : nth r 0 ≤ x ∧ x ≤ lastOf r := by
  obtain ⟨j, hj, e⟩ := List.getElem_of_mem hx
  have e3 : nth r j = x := by rw [← e]; simp [nth, List.getElem?_eq_getElem hj]
  constructor
  · by_cases e2 : j = 0
    · subst e2; omega
    · have := rise_lt h 0 j (by omega) hj; omega
  · unfold lastOf
    by_cases e2 : j = r.length - 1
    · rw [← e2]; omega
    · have := rise_lt h j (r.length - 1) (by omega) (by omega); omega

/-! two ends of an isolate -/
/-- what opens a matched isolate and what ends it are of one run, or the one is the last of its run and the other the first -/
theorem pair_runs {ks : List Int} {b : Int} (hb : 0 ≤ b ∧ b ≤ 1) {i j : Nat} (hi : i < ks.length) (hj : j < ks.length) (hij : i < j) (ho : isOp (nth ks i)) (hm : nth (matchN ks) i = j)
    {r q : List Int} (hr : r ∈ runsN (levN ks b)) (hq : q ∈ runsN (levN ks b)) (mi : (i : Int) ∈ r) (mj : (j : Int) ∈ q) :
    r = q ∨ (lastOf r = i ∧ nth q 0 = j ∧ lev (levN ks b) i = lev (levN ks b) j) := by
  obtain ⟨e, h⟩ := pair_levels ks b hb i j hi ho hm
  by_cases hrq : r = q
  · exact .inl hrq
  right
  have ki : nth (levN ks b) i ≠ -1 := lev_kept hb hi (.inl ho)
  have kil : (i : Int) ∈ keptL (levN ks b) := mem_keptN (by rw [levN_len]; exact hi) ki
  have kjl : (j : Int) ∈ keptL (levN ks b) := mem_keptN (by rw [levN_len]; exact hj) (by rw [e]; exact ki)
  have above : ∀ x : Nat, i < x → x < j → nth (levN ks b) x = -1 ∨ nth (levN ks b) i < nth (levN ks b) x := by
    rcases h with h | h
    · exact h
    · exfalso
      obtain ⟨p, hp, h1, h2⟩ := runs_long hij (by rw [levN_len]; exact hj) ki e h
      exact hrq ((runs_one hr hp mi h1).trans (runs_one hp hq h2 mj))
  have rr := run_facts hr
  have rq := run_facts hq
  have li := rise_first (runsN_rise _ _ hr) mi
  have lj := rise_first (runsN_rise _ _ hq) mj
  have il : lastOf r ∈ r := lastOf_mem rr.pos
  have f0 : nth q 0 ∈ q := nth_mem rq.pos
  have bi := rr.bound _ il
  have bj := rq.bound _ f0
  have s1 : lev (levN ks b) (lastOf r) = lev (levN ks b) i := (runsN_each _ _ hr).2 _ il _ mi
  have s2 : lev (levN ks b) (nth q 0) = lev (levN ks b) j := (runsN_each _ _ hq).2 _ f0 _ mj
  have t1 : lev (levN ks b) (i : Int) = nth (levN ks b) i := by simp [lev]
  have t2 : lev (levN ks b) (j : Int) = nth (levN ks b) j := by simp [lev]
  refine ⟨?_, ?_, by rw [t1, t2, e]⟩
  · apply Classical.byContradiction
    intro hne
    have hlt : (i : Int) < lastOf r := by omega
    by_cases hc : (j : Int) ≤ lastOf r
    · have : (j : Int) ∈ r := by
        by_cases h3 : (j : Int) = lastOf r
        · rw [h3]; exact il
        · exact runs_mid hr mi il kjl (by omega) (by omega)
      exact hrq (runs_one hr hq this mj)
    · have := (runsN_mem hr _ il).2.2
      rcases above (lastOf r).toNat (by omega) (by omega) with h3 | h3
      · exact this h3
      · unfold lev at s1 t1; rw [t1] at s1; omega
  · apply Classical.byContradiction
    intro hne
    have hlt : nth q 0 < (j : Int) := by omega
    by_cases hc : nth q 0 ≤ (i : Int)
    · have : (i : Int) ∈ q := by
        by_cases h3 : nth q 0 = (i : Int)
        · rw [← h3]; exact f0
        · exact runs_mid hq f0 mj kil (by omega) (by omega)
      exact hrq (runs_one hr hq mi this)
    · have := (runsN_mem hq _ f0).2.2
      rcases above (nth q 0).toNat (by omega) (by omega) with h3 | h3
      · exact this h3
      · unfold lev at s2 t2; rw [t2, e] at s2; omega
end Go.Proofs.YtcfnhjpmihngdaaGreat

namespace Go.Proofs.YtcfnhjpmihngdaaGreat
open Go.RowKit

section
variable {ks : List Int} {b : Int}
/-- where a run goes on, there another begins that is of its level -/
theorem next_run (hb : 0 ≤ b ∧ b ≤ 1) {r q : List Int} (hr : r ∈ runsN (levN ks b)) (he : nextR (matchN ks) (runsN (levN ks b)) r = q) (hn : q.length ≠ 0) :
    q ∈ runsN (levN ks b) ∧ nth (matchN ks) (lastOf r).toNat = nth q 0 ∧ lastOf r < nth q 0 ∧ lev (levN ks b) (lastOf r) = lev (levN ks b) (nth q 0) ∧ beginsN (matchN ks) q = false := by
  have rf := run_facts hr
  have il := lastOf_mem rf.pos
  have hl := rf.bound _ il
  unfold nextR at he
  split at he
  · rw [← he] at hn; simp at hn
  · rename_i hlt
    unfold findR at he
    cases h : idxR (runsN (levN ks b)) (nth (matchN ks) (lastOf r).toNat) with
    | none => rw [h] at he; simp only at he; rw [← he] at hn; simp at hn
    | some k =>
      rw [h] at he
      simp only at he
      have is := idxR_some h
      rw [he] at is
      have hq : q ∈ runsN (levN ks b) := by rw [← he]; exact nthL_mem is.1
      have mb := match_back ks (lastOf r).toNat (by omega)
      have mk := match_kind ks (lastOf r).toNat (by omega)
      rcases mk with mk | ⟨_, mk⟩ | ⟨ho, mk⟩
      · omega
      · omega
      · have e : (((nth (matchN ks) (lastOf r).toNat).toNat : Nat) : Int) = nth (matchN ks) (lastOf r).toNat := by omega
        have e2 : (((lastOf r).toNat : Nat) : Int) = lastOf r := by omega
        rcases pair_runs hb (i := (lastOf r).toNat) (j := (nth (matchN ks) (lastOf r).toNat).toNat) (by omega) (by omega) (by omega) ho e.symm hr hq (by rw [e2]; exact il) (by rw [e]; exact is.2) with h2 | ⟨_, h3, h4⟩
        · exfalso
          subst h2
          have := (rise_first (runsN_rise _ _ hr) is.2).2
          omega
        · rw [e] at h3 h4
          rw [e2] at h4
          refine ⟨hq, h3.symm, by omega, by rw [h3]; exact h4, ?_⟩
          unfold beginsN
          have : nth (matchN ks) (nth (matchN ks) (lastOf r).toNat).toNat = (lastOf r).toNat := by rcases mb with h | h <;> first | omega | exact h.2.2.2
          rw [h3, this]
          simp; omega
theorem next_inj (hb : 0 ≤ b ∧ b ≤ 1) {r1 r2 q : List Int} (h1 : r1 ∈ runsN (levN ks b)) (h2 : r2 ∈ runsN (levN ks b)) (e1 : nextR (matchN ks) (runsN (levN ks b)) r1 = q) (e2 : nextR (matchN ks) (runsN (levN ks b)) r2 = q) (hn : q.length ≠ 0) : r1 = r2 := by
  have n1 := next_run hb h1 e1 hn
  have n2 := next_run hb h2 e2 hn
  have l1 := lastOf_mem (run_facts h1).pos
  have l2 := lastOf_mem (run_facts h2).pos
  have b1 := (run_facts h1).bound _ l1
  have b2 := (run_facts h2).bound _ l2
  have m1 := match_back ks (lastOf r1).toNat (by omega)
  have m2 := match_back ks (lastOf r2).toNat (by omega)
  rw [n1.2.1] at m1
  rw [n2.2.1] at m2
  have e : lastOf r1 = lastOf r2 := by
    rcases m1 with h | ⟨_, _, _, h⟩
    · omega
    · rcases m2 with h' | ⟨_, _, _, h'⟩
      · omega
      · omega
  exact runs_one h1 h2 l1 (by rw [e]; exact l2)
/-- what does not begin is gone on with -/
theorem pred_run (hb : 0 ≤ b ∧ b ≤ 1) {r : List Int} (hr : r ∈ runsN (levN ks b)) (hg : beginsN (matchN ks) r = false) :
    ∃ p ∈ runsN (levN ks b), nextR (matchN ks) (runsN (levN ks b)) p = r ∧ lastOf p < lastOf r := by
  have rf := run_facts hr
  have f0 : nth r 0 ∈ r := nth_mem rf.pos
  have hl := rf.bound _ f0
  have hk : nth ks (nth r 0).toNat = 22 ∧ 0 ≤ nth (matchN ks) (nth r 0).toNat := (begins_kind hl).2 hg
  obtain ⟨ia, hi⟩ : ∃ ia : Nat, nth (matchN ks) (nth r 0).toNat = ia := ⟨(nth (matchN ks) (nth r 0).toNat).toNat, by omega⟩
  have ej : (((nth r 0).toNat : Nat) : Int) = nth r 0 := by omega
  have mk := match_kind ks (nth r 0).toNat (by omega)
  have mb := match_back ks (nth r 0).toNat (by omega)
  have hij : ia < (nth r 0).toNat := by
    rcases mk with h | ⟨_, _, h⟩ | ⟨h, _⟩
    · omega
    · omega
    · unfold isOp at h; omega
  have back : nth (matchN ks) ia = (nth r 0).toNat := by
    rcases mb with h | ⟨_, _, _, h⟩
    · omega
    · rw [hi] at h; simpa using h
  have ho : isOp (nth ks ia) := by
    rcases match_kind ks ia (by omega) with h | ⟨_, h⟩ | ⟨h, _⟩
    · omega
    · omega
    · exact h
  obtain ⟨k, hp⟩ := match_kept hb (p := (nth r 0).toNat) (by omega) (ks := ks) (by omega)
  rw [hi] at hp
  have is := idxR_some hp
  have hpr := nthL_mem is.1
  rcases pair_runs hb (i := ia) (j := (nth r 0).toNat) (by omega) (by omega) hij ho back hpr hr is.2 (by rw [ej]; exact f0) with h | ⟨h1, _, _⟩
  · exfalso
    rw [h] at is
    have := (rise_first (runsN_rise _ _ hr) is.2).1
    omega
  · refine ⟨nthL (runsN (levN ks b)) k, hpr, ?_, by have := (rise_first (runsN_rise _ _ hr) f0).2; omega⟩
    unfold nextR
    rw [h1]
    rw [show ((ia : Nat) : Int).toNat = ia by simp, back, ej, if_neg (by omega)]
    obtain ⟨m, hm⟩ := kept_in_run (ks := ks) (b := b) (p := (nth r 0).toNat) (by omega) (lev_kept hb (by omega) (.inr hk.1))
    rw [ej] at hm
    unfold findR
    rw [hm]
    have im := idxR_some hm
    exact runs_one (nthL_mem im.1) hr im.2 f0

/-! chains of runs -/
def cR (nx : List Int → List Int) : Nat → List Int → List (List Int)
  | 0, _ => []
  | f + 1, r => if r.length = 0 then [] else r :: cR nx f (nx r)
theorem cR_cons (nx : List Int → List Int) (f : Nat) (r : List Int) (h : r.length ≠ 0) : cR nx (f + 1) r = r :: cR nx f (nx r) := by show (if _ then _ else _) = _; rw [if_neg h]
theorem cR_nil (nx : List Int → List Int) (f : Nat) (r : List Int) (h : r.length = 0) : cR nx f r = [] := by
  cases f with
  | zero => rfl
  | succ f => show (if _ then _ else _) = _; rw [if_pos h]
theorem chain_flat (nx : List Int → List Int) : ∀ (f : Nat) (r : List Int), chain nx f r = (cR nx f r).flatten
  | 0, _ => rfl
  | f + 1, r => by
    by_cases h : r.length = 0
    · rw [cR_nil _ _ _ h, List.eq_nil_of_length_eq_zero h, chain_nil]; rfl
    · rw [chain_cons _ _ _ h, cR_cons _ _ _ h, chain_flat nx f]; rfl
def nxtR (ks : List Int) (b : Int) (r : List Int) : List Int := nextR (matchN ks) (runsN (levN ks b)) r
theorem cR_runs (hb : 0 ≤ b ∧ b ≤ 1) : ∀ (f : Nat) (r : List Int), (r.length = 0 ∨ r ∈ runsN (levN ks b)) → ∀ q ∈ cR (nxtR ks b) f r, q ∈ runsN (levN ks b)
  | 0, _, _, q, h => by simp [cR] at h
  | f + 1, r, hr, q, h => by
    by_cases h0 : r.length = 0
    · rw [cR_nil _ _ _ h0] at h; simp at h
    · rw [cR_cons _ _ _ h0] at h
      have hr := hr.resolve_left h0
      rcases List.mem_cons.1 h with h | h
      · rw [h]; exact hr
      · refine cR_runs hb f _ ?_ q h
        by_cases h1 : (nxtR ks b r).length = 0
        · exact .inl h1
        · exact .inr (next_run hb hr rfl h1).1
/-- a chain rises and is of one level -/
theorem chain_rise (hb : 0 ≤ b ∧ b ≤ 1) : ∀ (f : Nat) (r : List Int), r ∈ runsN (levN ks b) →
    (chain (nxtR ks b) f r).Pairwise (· < ·) ∧ ∀ x ∈ chain (nxtR ks b) f r, nth r 0 ≤ x ∧ x < ks.length ∧ lev (levN ks b) x = lev (levN ks b) (nth r 0)
  | 0, _, _ => ⟨List.Pairwise.nil, fun x h => by simp [chain] at h⟩
  | f + 1, r, hr => by
    have rf := run_facts hr
    have f0 : nth r 0 ∈ r := nth_mem rf.pos
    have il := lastOf_mem rf.pos
    have rise := runsN_rise _ _ hr
    have own : ∀ x ∈ r, nth r 0 ≤ x ∧ x < ks.length ∧ lev (levN ks b) x = lev (levN ks b) (nth r 0) := fun x hx => ⟨(rise_first rise hx).1, (rf.bound x hx).2, (runsN_each _ _ hr).2 _ hx _ f0⟩
    rw [chain_cons _ _ _ (by have := rf.pos; omega)]
    by_cases h1 : (nxtR ks b r).length = 0
    · rw [List.eq_nil_of_length_eq_zero h1, chain_nil, List.append_nil]
      exact ⟨rise, own⟩
    · obtain ⟨n1, n2, n3, n4, _⟩ := next_run hb hr rfl h1
      obtain ⟨i1, i2⟩ := chain_rise hb f _ n1
      refine ⟨List.pairwise_append.2 ⟨rise, i1, fun x hx y hy => ?_⟩, fun x hx => ?_⟩
      · have h2 := (i2 y hy).1
        have h3 := (rise_first rise hx).2
        have h4 : lastOf r < nth (nxtR ks b r) 0 := n3
        have h5 : nth (nxtR ks b r) 0 ≤ y := h2
        omega
      · rcases List.mem_append.1 hx with hx | hx
        · exact own x hx
        · have h2 := i2 x hx
          have h4 : lastOf r < nth (nxtR ks b r) 0 := n3
          have h5 : nth (nxtR ks b r) 0 ≤ x := h2.1
          have h6 := (rise_first rise il).1
          refine ⟨by omega, h2.2.1, h2.2.2.trans ?_⟩
          exact n4.symm.trans ((runsN_each _ _ hr).2 _ il _ f0)
theorem cR_back : ∀ (f : Nat) (r q : List Int), q ∈ cR (nxtR ks b) f r → q = r ∨ ∃ p ∈ cR (nxtR ks b) f r, nxtR ks b p = q
  | 0, _, q, h => by simp [cR] at h
  | f + 1, r, q, h => by
    by_cases h0 : r.length = 0
    · rw [cR_nil _ _ _ h0] at h; simp at h
    · rw [cR_cons _ _ _ h0] at h ⊢
      rcases List.mem_cons.1 h with h | h
      · exact .inl h
      · rcases cR_back f _ q h with e | ⟨p, hp, e⟩
        · exact .inr ⟨r, by simp, e.symm⟩
        · exact .inr ⟨p, by simp [hp], e⟩
/-- two chains that meet begin with the same run -/
theorem cR_meet (hb : 0 ≤ b ∧ b ≤ 1) {r1 r2 : List Int} (h1 : r1 ∈ runsN (levN ks b)) (h2 : r2 ∈ runsN (levN ks b)) (g1 : beginsN (matchN ks) r1 = true) (g2 : beginsN (matchN ks) r2 = true) (f1 f2 : Nat) :
    ∀ (n : Nat) (q : List Int), lastOf q < n → q ∈ cR (nxtR ks b) f1 r1 → q ∈ cR (nxtR ks b) f2 r2 → r1 = r2
  | 0, q, hn, m1, _ => by
    have := (run_facts (cR_runs hb f1 r1 (.inr h1) q m1)).bound _ (lastOf_mem (run_facts (cR_runs hb f1 r1 (.inr h1) q m1)).pos)
    omega
  | n + 1, q, hn, m1, m2 => by
    have hq := cR_runs hb f1 r1 (.inr h1) q m1
    have pos := (run_facts hq).pos
    rcases cR_back f1 r1 q m1 with e1 | ⟨p1, p1m, e1⟩
    · rcases cR_back f2 r2 q m2 with e2 | ⟨p2, p2m, e2⟩
      · exact e1.symm.trans e2
      · have := (next_run hb (cR_runs hb f2 r2 (.inr h2) p2 p2m) e2 (by omega)).2.2.2.2
        rw [e1, g1] at this; cases this
    · rcases cR_back f2 r2 q m2 with e2 | ⟨p2, p2m, e2⟩
      · have := (next_run hb (cR_runs hb f1 r1 (.inr h1) p1 p1m) e1 (by omega)).2.2.2.2
        rw [e2, g2] at this; cases this
      · have k1 := cR_runs hb f1 r1 (.inr h1) p1 p1m
        have k2 := cR_runs hb f2 r2 (.inr h2) p2 p2m
        have e := next_inj hb k1 k2 e1 e2 (by omega)
        subst e
        have lt := (next_run hb k1 e1 (by omega)).2.2.1
        have := (rise_first (runsN_rise _ _ hq) (nth_mem pos)).2
        exact cR_meet hb h1 h2 g1 g2 f1 f2 n p1 (by omega) p1m p2m
theorem cR_on (hb : 0 ≤ b ∧ b ≤ 1) : ∀ (f : Nat) (r q : List Int), r ∈ runsN (levN ks b) → (ks.length : Int) - lastOf r ≤ f → q ∈ cR (nxtR ks b) f r → (nxtR ks b q).length ≠ 0 → nxtR ks b q ∈ cR (nxtR ks b) f r
  | 0, _, q, _, _, h, _ => by simp [cR] at h
  | f + 1, r, q, hr, hf, h, hn => by
    have rf := run_facts hr
    rw [cR_cons _ _ _ (by have := rf.pos; omega)] at h ⊢
    have step : (nxtR ks b r).length ≠ 0 → nxtR ks b r ∈ runsN (levN ks b) ∧ (ks.length : Int) - lastOf (nxtR ks b r) ≤ f ∧ lastOf (nxtR ks b r) < ks.length := by
      intro h1
      obtain ⟨n1, _, n3, _⟩ := next_run hb hr rfl h1
      have n3' : lastOf r < nth (nxtR ks b r) 0 := n3
      have n1' : nxtR ks b r ∈ runsN (levN ks b) := n1
      have := (rise_first (runsN_rise _ _ n1') (nth_mem (run_facts n1').pos)).2
      have := (run_facts n1').bound _ (lastOf_mem (run_facts n1').pos)
      exact ⟨n1', by omega, by omega⟩
    rcases List.mem_cons.1 h with h | h
    · subst h
      obtain ⟨s1, s2, s3⟩ := step hn
      obtain ⟨f', rfl⟩ : ∃ f', f = f' + 1 := ⟨f - 1, by omega⟩
      rw [cR_cons _ _ _ hn]; simp
    · by_cases h1 : (nxtR ks b r).length = 0
      · rw [cR_nil _ _ _ h1] at h; simp at h
      · obtain ⟨s1, s2, _⟩ := step h1
        exact List.mem_cons_of_mem _ (cR_on hb f _ q s1 s2 h hn)
/-- each run is in a chain -/
theorem cR_all (hb : 0 ≤ b ∧ b ≤ 1) : ∀ (n : Nat) (r : List Int), lastOf r < n → r ∈ runsN (levN ks b) → ∃ r0 ∈ runsN (levN ks b), beginsN (matchN ks) r0 = true ∧ r ∈ cR (nxtR ks b) ks.length r0
  | 0, r, hn, hr => by
    have := (run_facts hr).bound _ (lastOf_mem (run_facts hr).pos)
    omega
  | n + 1, r, hn, hr => by
    have rf := run_facts hr
    have bd := rf.bound _ (lastOf_mem rf.pos)
    cases hg : beginsN (matchN ks) r with
    | true =>
      refine ⟨r, hr, hg, ?_⟩
      obtain ⟨m, hm⟩ : ∃ m, ks.length = m + 1 := ⟨ks.length - 1, by omega⟩
      rw [hm, cR_cons _ _ _ (by have := rf.pos; omega)]; simp
    | false =>
      obtain ⟨p, hp, e, hlt⟩ := pred_run hb hr hg
      obtain ⟨r0, h0, g0, hm⟩ := cR_all hb n p (by omega) hp
      have := cR_on hb ks.length r0 p h0 (by have := (run_facts h0).bound _ (lastOf_mem (run_facts h0).pos); omega) hm (by show (nextR _ _ p).length ≠ 0; rw [e]; have := rf.pos; omega)
      have e' : nxtR ks b p = r := e
      rw [e'] at this
      exact ⟨r0, h0, g0, this⟩

/-! all sequences -/
theorem seq_mem {q : Sq} (hq : q ∈ seqsN ks b) : ∃ r ∈ runsN (levN ks b), beginsN (matchN ks) r = true ∧ q.places = chain (nxtR ks b) ks.length r ∧ q.level = lev (levN ks b) (nth r 0) ∧ (q.sos = 0 ∨ q.sos = 1) ∧ (q.eos = 0 ∨ q.eos = 1) := by
  have side : ∀ n, sideN n = 0 ∨ sideN n = 1 := fun n => by unfold sideN; split <;> simp
  unfold seqsN sqsOf at hq
  obtain ⟨r, hr, e⟩ := List.mem_map.1 hq
  have := List.mem_filter.1 hr
  subst e
  refine ⟨r, this.1, this.2, ?_, rfl, side _, side _⟩
  show chain _ (levN ks b).length r = _
  rw [levN_len]; rfl
/-- what stands in a sequence -/
theorem seq_facts (hb : 0 ≤ b ∧ b ≤ 1) {q : Sq} (hq : q ∈ seqsN ks b) : q.places.Pairwise (· < ·) ∧ (∀ x ∈ q.places, 0 ≤ x ∧ x < ks.length ∧ lev (levN ks b) x = q.level) ∧ (q.sos = 0 ∨ q.sos = 1) ∧ (q.eos = 0 ∨ q.eos = 1) := by
  obtain ⟨r, hr, _, e1, e2, s1, s2⟩ := seq_mem hq
  obtain ⟨h1, h2⟩ := chain_rise hb ks.length r hr
  have f0 := (run_facts hr).bound _ (nth_mem (run_facts hr).pos)
  rw [e1, e2]
  exact ⟨h1, fun x hx => ⟨by have := (h2 x hx).1; omega, (h2 x hx).2⟩, s1, s2⟩
def allPlaces (ks : List Int) (b : Int) : List Int := ((seqsN ks b).map (·.places)).flatten
theorem places_mem (hb : 0 ≤ b ∧ b ≤ 1) (x : Int) : x ∈ allPlaces ks b ↔ x ∈ keptL (levN ks b) := by
  unfold allPlaces
  rw [← runsN_flat]
  constructor
  · intro h
    obtain ⟨l, hl, hx⟩ := List.mem_flatten.1 h
    obtain ⟨q, hq, rfl⟩ := List.mem_map.1 hl
    obtain ⟨r, hr, _, e1, _⟩ := seq_mem hq
    rw [e1, chain_flat] at hx
    obtain ⟨p, hp, hx⟩ := List.mem_flatten.1 hx
    exact List.mem_flatten.2 ⟨p, cR_runs hb _ _ (.inr hr) p hp, hx⟩
  · intro h
    obtain ⟨r, hr, hx⟩ := List.mem_flatten.1 h
    obtain ⟨r0, h0, g0, hm⟩ := cR_all hb _ r (by have := (run_facts hr).bound _ (lastOf_mem (run_facts hr).pos); exact this.2) hr
    refine List.mem_flatten.2 ⟨chain (nxtR ks b) ks.length r0, List.mem_map.2 ⟨sqOf ks (matchN ks) (levN ks b) (runsN (levN ks b)) b r0, List.mem_map.2 ⟨r0, List.mem_filter.2 ⟨h0, g0⟩, rfl⟩, ?_⟩, ?_⟩
    · show chain _ (levN ks b).length r0 = _
      rw [levN_len]; rfl
    · rw [chain_flat]; exact List.mem_flatten.2 ⟨r, hm, hx⟩
theorem places_once (hb : 0 ≤ b ∧ b ≤ 1) : (allPlaces ks b).Nodup := by
  unfold allPlaces
  refine List.pairwise_flatten.2 ⟨fun l hl => ?_, ?_⟩
  · obtain ⟨q, hq, rfl⟩ := List.mem_map.1 hl
    exact (seq_facts hb hq).1.imp fun h => by omega
  · unfold seqsN sqsOf
    rw [List.map_map]
    refine List.pairwise_map.2 ?_
    have ap := (runs_apart (levN ks b)).filter (beginsN (matchN ks))
    refine List.Pairwise.imp_of_mem ?_ ap
    intro r1 r2 h1 h2 hlt x hx y hy e
    subst e
    have m1 := List.mem_filter.1 h1
    have m2 := List.mem_filter.1 h2
    have hx' : x ∈ chain (nxtR ks b) (levN ks b).length r1 := hx
    have hy' : x ∈ chain (nxtR ks b) (levN ks b).length r2 := hy
    rw [chain_flat] at hx' hy'
    obtain ⟨p, hp, xp⟩ := List.mem_flatten.1 hx'
    obtain ⟨q, hq, xq⟩ := List.mem_flatten.1 hy'
    have e := runs_one (cR_runs hb _ _ (.inr m1.1) p hp) (cR_runs hb _ _ (.inr m2.1) q hq) xp xq
    subst e
    have rp := run_facts (cR_runs hb _ _ (.inr m1.1) p hp)
    have := cR_meet hb m1.1 m2.1 m1.2 m2.2 _ _ _ p (rp.bound _ (lastOf_mem rp.pos)).2 hp hq
    subst this
    have f0 := nth_mem (run_facts m1.1).pos
    have := hlt _ f0 _ f0
    omega
theorem places_perm (hb : 0 ≤ b ∧ b ≤ 1) : (allPlaces ks b).Perm (keptL (levN ks b)) :=
  (List.perm_ext_iff_of_nodup (places_once hb) ((keptN_rise (levN ks b) _).imp fun h => by omega)).2 (places_mem hb)
theorem places_len (hb : 0 ≤ b ∧ b ≤ 1) : (allPlaces ks b).length = (keptL (levN ks b)).length := (places_perm hb).length_eq
end
end Go.Proofs.YtcfnhjpmihngdaaGreat
