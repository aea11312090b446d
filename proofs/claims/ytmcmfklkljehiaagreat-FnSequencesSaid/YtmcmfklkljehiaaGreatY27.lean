/- Chapter 5's mathematics: what is kept, runs, what goes on with what, sequences. No program is named here. -/
import Derived.Test.YtmcmfklkljehiaaGreatY26
import Derived.Test.YtmcmfklkljehiaaGreatY15
namespace Go.Proofs.YtmcmfklkljehiaaGreat

theorem popR_mem : ∀ (l : List Tier) (e : Tier), e ∈ popR l → e ∈ l
  | [], _, h => by simp [popR] at h
  | x :: l, e, h => by
    unfold popR at h
    split at h
    · simp [h]
    · simp [popR_mem l e h]
theorem popIso_mem (l : List Tier) (e : Tier) (h : e ∈ popIso l) : e ∈ l := by
  unfold popIso at h
  have := popR_mem l.reverse e (by simpa using h)
  simpa using this
/-- no level below the base -/
def Floor (b : Int) (s : Tell) : Prop := ∀ e ∈ s.stk, b ≤ e.lev
theorem Floor.push {b : Int} {s : Tell} (h : Floor b s) (e : Tier) (he : b ≤ e.lev) (li le is : Nat) : Floor b ⟨s.stk ++ [e], li, le, is⟩ := by
  intro x hx
  simp only [List.mem_append, List.mem_cons, List.not_mem_nil, or_false] at hx
  rcases hx with hx | rfl
  · exact h x hx
  · exact he
theorem Floor.step {b : Int} {s : Tell} {i : Nat} (h : Floor b s) (hw : WfT s i) (own : Bool) (k : Int) : Floor b (stepS own k s) := by
  have tb := h _ (topT_mem _ hw.pos)
  have nl := fun left => nextL_low left s.stk hw.top.1
  unfold stepS
  split
  · unfold embS
    split
    · split
      · exact h
      · exact h
    · exact h.push _ (by have := nl (leftK k); show b ≤ nextL _ _; omega) _ _ _
  · split
    · unfold isoS
      split
      · exact h
      · exact h.push _ (by have := nl own; show b ≤ nextL _ _; omega) _ _ _
    · split
      · unfold endS
        split
        · exact h
        · split
          · intro e he; exact h e (popIso_mem _ _ he)
          · exact h
      · split
        · unfold popS
          split
          · exact h
          · split
            · exact h
            · split
              · intro e he; exact h e (List.dropLast_subset _ he)
              · exact h
        · exact h
theorem eat_floor (ks : List Int) (b : Int) (hb : 0 ≤ b ∧ b ≤ 1) : ∀ i, Floor b (eat ks b i).1
  | 0 => by
    intro e he
    simp only [eat, List.mem_cons, List.not_mem_nil, or_false] at he
    subst he
    exact Int.le_refl _
  | i + 1 => (eat_floor ks b hb i).step (eat_wf ks b hb i) _ _
theorem Floor.ends {b : Int} {s : Tell} (h : Floor b s) : Floor b (endS s) := by
  unfold endS
  split
  · exact h
  · split
    · intro e he; exact h e (popIso_mem _ _ he)
    · exact h
/-- what stays is kept: the i-th level -/
theorem eat_nth (ks : List Int) (b : Int) (i : Nat) : ∀ n, i < n → nth (eat ks b n).2.1 i = lvS (nth ks i) (eat ks b i).1
  | 0, h => by omega
  | n + 1, h => by
    rw [eat_succ]
    have hl := (eat_len ks b n).1
    by_cases e : i = n
    · subst e
      show nth ((eat ks b i).2.1 ++ [lvS (nth ks i) (eat ks b i).1]) i = _
      have := nth_right (eat ks b i).2.1 (lvS (nth ks i) (eat ks b i).1)
      rw [hl] at this; exact this
    · show nth ((eat ks b n).2.1 ++ [lvS (nth ks n) (eat ks b n).1]) i = _
      rw [nth_left _ _ _ (by omega)]; exact eat_nth ks b i n (by omega)
theorem lev_facts (ks : List Int) (b : Int) (hb : 0 ≤ b ∧ b ≤ 1) (i : Nat) (hi : i < ks.length) :
    (gone (nth ks i) = true ∧ nth (levN ks b) i = -1) ∨ (gone (nth ks i) = false ∧ b ≤ nth (levN ks b) i ∧ nth (levN ks b) i ≤ 125 ∧ 0 ≤ nth (levN ks b) i) := by
  have hw := eat_wf ks b hb i
  have hf := eat_floor ks b hb i
  have e : nth (levN ks b) i = lvS (nth ks i) (eat ks b i).1 := eat_nth ks b i _ hi
  rw [e]
  have key : b ≤ (topT (atS (nth ks i) (eat ks b i).1).stk).lev ∧ 0 ≤ (topT (atS (nth ks i) (eat ks b i).1).stk).lev ∧ (topT (atS (nth ks i) (eat ks b i).1).stk).lev ≤ 125 := by
    unfold atS
    split
    · have t := topT_mem _ hw.ends.pos
      have h1 := hw.ends.lev _ t
      exact ⟨hf.ends _ t, h1.1, h1.2.1⟩
    · have t := topT_mem _ hw.pos
      have h1 := hw.lev _ t
      exact ⟨hf _ t, h1.1, h1.2.1⟩
  cases hg : gone (nth ks i)
  · refine .inr ⟨rfl, ?_⟩
    have : lvS (nth ks i) (eat ks b i).1 = (topT (atS (nth ks i) (eat ks b i).1).stk).lev := by unfold lvS; rw [hg]; rfl
    rw [this]; exact ⟨key.1, key.2.2, key.2.1⟩
  · exact .inl ⟨rfl, by unfold lvS; rw [hg]; rfl⟩
/-- no isolate of its own way -/
def NoOwn (ks : List Int) : Prop := ∀ i, i < ks.length → nth ks i ≠ 21
theorem leftOf_plain {ks : List Int} {i : Nat} (h : nth ks i ≠ 21) : leftOf ks i = decide (nth ks i = 20) := by unfold leftOf; rw [if_neg h]
theorem eat_cut (ks : List Int) (b : Int) (c : Nat) (hc : c ≤ ks.length) (hn : NoOwn ks) : ∀ i, i ≤ c → eat (ks.take c) b i = eat ks b i
  | 0, _ => rfl
  | i + 1, h => by
    have e : nth (ks.take c) i = nth ks i := nth_take ks c i (by omega)
    have l1 := leftOf_plain (hn i (by omega))
    have l2 : leftOf (ks.take c) i = decide (nth (ks.take c) i = 20) := leftOf_plain (by rw [e]; exact hn i (by omega))
    rw [eat_succ, eat_succ, eat_cut ks b c hc hn i (by omega), l1, l2, e]
theorem eat_take (ks : List Int) (b : Int) (c : Nat) : ∀ n, c ≤ n → (eat ks b n).2.1.take c = (eat ks b c).2.1 ∧ (eat ks b n).2.2.take c = (eat ks b c).2.2
  | 0, h => by obtain rfl : c = 0 := by omega
               exact ⟨rfl, rfl⟩
  | n + 1, h => by
    by_cases e : c = n + 1
    · subst e
      have := eat_len ks b (n + 1)
      exact ⟨List.take_of_length_le (by omega), List.take_of_length_le (by omega)⟩
    · have ih := eat_take ks b c n (by omega)
      have l := eat_len ks b n
      rw [eat_succ]
      refine ⟨?_, ?_⟩
      · show ((eat ks b n).2.1 ++ _).take c = _
        rw [List.take_append_of_le_length (by omega)]; exact ih.1
      · show ((eat ks b n).2.2 ++ _).take c = _
        rw [List.take_append_of_le_length (by omega)]; exact ih.2
theorem classesN_take (zs : List Int) (c : Nat) : classesN (zs.take c) = (classesN zs).take c := by unfold classesN; rw [List.map_take]
theorem hasB_take {ks : List Int} (h : hasB ks = false) (c : Nat) : hasB (ks.take c) = false := by
  unfold hasB at *
  rw [List.any_eq_false] at *
  exact fun x hx => h x (List.mem_of_mem_take hx)
theorem paraF_take {zs : List Int} {b : Int} (h : paraF zs b = 0) (c : Nat) : paraF (zs.take c) b = 0 := by
  obtain ⟨h1, h2, h3, h4⟩ := paraF_zero h
  have z := textF_zero h1
  have Z2 := List.all_eq_true.1 z.2
  have t : textF (zs.take c) = 0 := textF_ok (by rw [List.length_take]; omega) (by
    rw [List.all_eq_true] at *
    exact fun x hx => Z2 x (List.mem_of_mem_take hx))
  rw [paraF_in t ⟨h2, h3⟩, classesN_take, hasB_take h4 c]; rfl
/-- nothing hangs on what comes later -/
theorem part_same {zs : List Int} {b : Int} (h : paraF zs b = 0) (hn : NoOwn (classesN zs)) (c : Nat) (hc : c ≤ zs.length) :
    explL (zs.take c) b = (explL zs b).take c ∧ explC (zs.take c) b = (explC zs b).take c := by
  have p := paraF_take h c
  have kl := classesN_len zs
  have tl : (classesN (zs.take c)).length = c := by rw [classesN_len, List.length_take]; omega
  unfold explL explC
  rw [if_pos h, if_pos p, if_pos h, if_pos p]
  unfold levN clsN
  rw [tl, classesN_take, eat_cut _ b c (by omega) hn c (Nat.le_refl _)]
  have := eat_take (classesN zs) b c (classesN zs).length (by omega)
  exact ⟨this.1.symm, this.2.symm⟩
end Go.Proofs.YtmcmfklkljehiaaGreat

namespace Go.Proofs.YtmcmfklkljehiaaGreat
open Go.RowKit

/-! what is kept -/
def lev (ls : List Int) (x : Int) : Int := nth ls x.toNat
def keptN (ls : List Int) : Nat → List Int
  | 0 => []
  | k + 1 => if nth ls k = -1 then keptN ls k else keptN ls k ++ [(k : Int)]
def keptL (ls : List Int) : List Int := keptN ls ls.length
theorem keptN_gone {ls : List Int} {k : Nat} (h : nth ls k = -1) : keptN ls (k + 1) = keptN ls k := by show (if _ then _ else _) = _; rw [if_pos h]
theorem keptN_kept {ls : List Int} {k : Nat} (h : nth ls k ≠ -1) : keptN ls (k + 1) = keptN ls k ++ [(k : Int)] := by show (if _ then _ else _) = _; rw [if_neg h]
theorem keptN_len (ls : List Int) : ∀ k, (keptN ls k).length ≤ k
  | 0 => Nat.le_refl _
  | k + 1 => by
    have := keptN_len ls k
    by_cases h : nth ls k = -1
    · rw [keptN_gone h]; omega
    · rw [keptN_kept h, List.length_append]; simp; omega
theorem keptN_mem {ls : List Int} : ∀ {k : Nat} {x : Int}, x ∈ keptN ls k → 0 ≤ x ∧ x < k ∧ lev ls x ≠ -1
  | 0, x, h => by simp [keptN] at h
  | k + 1, x, h => by
    by_cases hk : nth ls k = -1
    · rw [keptN_gone hk] at h; have := keptN_mem h; exact ⟨this.1, by omega, this.2.2⟩
    · rw [keptN_kept hk] at h
      rcases List.mem_append.1 h with h | h
      · have := keptN_mem h; exact ⟨this.1, by omega, this.2.2⟩
      · simp at h; subst h; exact ⟨by omega, by omega, by simpa [lev] using hk⟩
theorem mem_keptN {ls : List Int} : ∀ {k : Nat} {x : Nat}, x < k → nth ls x ≠ -1 → (x : Int) ∈ keptN ls k
  | 0, x, h, _ => by omega
  | k + 1, x, h, hx => by
    by_cases e : x = k
    · subst e; rw [keptN_kept hx]; simp
    · have := mem_keptN (k := k) (by omega) hx
      by_cases hk : nth ls k = -1
      · rw [keptN_gone hk]; exact this
      · rw [keptN_kept hk]; exact List.mem_append_left _ this
theorem keptN_rise (ls : List Int) : ∀ k, (keptN ls k).Pairwise (· < ·)
  | 0 => List.Pairwise.nil
  | k + 1 => by
    have ih := keptN_rise ls k
    by_cases hk : nth ls k = -1
    · rw [keptN_gone hk]; exact ih
    · rw [keptN_kept hk]
      refine List.pairwise_append.2 ⟨ih, by simp, fun a ha c hc => ?_⟩
      simp at hc; subst hc
      exact (keptN_mem ha).2.1

/-! runs -/
structure GS where
  done : List (List Int)
  now : List Int
  val : Int
def GS.out (s : GS) : List (List Int) := if s.now.length = 0 then s.done else s.done ++ [s.now]
def gstep (f : Int → Int) (s : GS) (x : Int) : GS := if f x = s.val then ⟨s.done, s.now ++ [x], s.val⟩ else ⟨s.out, [x], f x⟩
def grun (f : Int → Int) (xs : List Int) : GS := xs.foldl (gstep f) ⟨[], [], -1⟩
theorem grun_app (f : Int → Int) (xs : List Int) (x : Int) : grun f (xs ++ [x]) = gstep f (grun f xs) x := by simp [grun]
theorem grun_step (f : Int → Int) (xs : List Int) (k : Nat) (h : k < xs.length) : grun f (xs.take (k + 1)) = gstep f (grun f (xs.take k)) (nth xs k) := by
  rw [take_nth xs k h, grun_app]
theorem out_full {s : GS} (h : s.now.length ≠ 0) : s.out = s.done ++ [s.now] := by unfold GS.out; rw [if_neg h]
theorem gstep_out (f : Int → Int) (s : GS) (x : Int) (h : f x ≠ s.val) : (gstep f s x).out = s.out ++ [[x]] := by
  unfold gstep; rw [if_neg h]; exact out_full (by simp)
theorem gstep_on (f : Int → Int) (s : GS) (x : Int) (h : f x = s.val) : (gstep f s x).out = s.done ++ [s.now ++ [x]] := by
  unfold gstep; rw [if_pos h]; exact out_full (by simp)
theorem out_flat (s : GS) : s.out.flatten = s.done.flatten ++ s.now := by
  unfold GS.out
  split
  · rename_i h; rw [List.eq_nil_of_length_eq_zero h, List.append_nil]
  · simp
theorem gstep_flat (f : Int → Int) (s : GS) (x : Int) : (gstep f s x).out.flatten = s.out.flatten ++ [x] := by
  by_cases h : f x = s.val
  · rw [gstep_on f s x h, out_flat]; simp
  · rw [gstep_out f s x h]; simp
theorem gfold_flat (f : Int → Int) : ∀ (xs : List Int) (s : GS), (xs.foldl (gstep f) s).out.flatten = s.out.flatten ++ xs
  | [], s => by simp
  | x :: xs, s => by rw [List.foldl_cons, gfold_flat f xs, gstep_flat]; simp
theorem grun_flat (f : Int → Int) (xs : List Int) : (grun f xs).out.flatten = xs := by
  unfold grun; rw [gfold_flat]; simp [GS.out]
/-- what stands in a state -/
structure WfG (f : Int → Int) (s : GS) : Prop where
  none : s.now.length = 0 → s.val = -1 ∧ s.done = []
  one : ∀ x ∈ s.now, f x = s.val
  each : ∀ r ∈ s.done, r ≠ [] ∧ ∀ x ∈ r, ∀ y ∈ r, f x = f y
theorem WfG.step {f : Int → Int} {s : GS} (h : WfG f s) (x : Int) (hx : f x ≠ -1) : WfG f (gstep f s x) := by
  unfold gstep
  split
  · rename_i e
    refine ⟨fun h0 => by simp at h0, fun y hy => ?_, h.each⟩
    rcases List.mem_append.1 hy with hy | hy
    · exact h.one y hy
    · simp at hy; subst hy; exact e
  · refine ⟨fun h0 => by simp at h0, fun y hy => by simp at hy; subst hy; rfl, fun r hr => ?_⟩
    unfold GS.out at hr
    split at hr
    · exact h.each r hr
    · rcases List.mem_append.1 hr with hr | hr
      · exact h.each r hr
      · simp at hr; subst hr
        exact ⟨fun e => by simp_all, fun a ha c hc => (h.one a ha).trans (h.one c hc).symm⟩
theorem gfold_wf {f : Int → Int} : ∀ (xs : List Int) (s : GS), WfG f s → (∀ x ∈ xs, f x ≠ -1) → WfG f (xs.foldl (gstep f) s)
  | [], _, h, _ => h
  | x :: xs, s, h, hx => gfold_wf xs _ (h.step x (hx x (by simp))) fun y hy => hx y (by simp [hy])
theorem grun_wf {f : Int → Int} {xs : List Int} (hx : ∀ x ∈ xs, f x ≠ -1) : WfG f (grun f xs) :=
  gfold_wf xs _ ⟨fun _ => ⟨rfl, rfl⟩, by simp, by simp⟩ hx
theorem WfG.out {f : Int → Int} {s : GS} (h : WfG f s) : ∀ r ∈ s.out, r ≠ [] ∧ ∀ x ∈ r, ∀ y ∈ r, f x = f y := by
  intro r hr
  unfold GS.out at hr
  split at hr
  · exact h.each r hr
  · rcases List.mem_append.1 hr with hr | hr
    · exact h.each r hr
    · simp at hr; subst hr
      exact ⟨fun e => by simp_all, fun a ha c hc => (h.one a ha).trans (h.one c hc).symm⟩
def runsN (ls : List Int) : List (List Int) := (grun (lev ls) (keptL ls)).out
theorem runsN_flat (ls : List Int) : (runsN ls).flatten = keptL ls := grun_flat _ _
theorem runsN_each (ls : List Int) : ∀ r ∈ runsN ls, r ≠ [] ∧ ∀ x ∈ r, ∀ y ∈ r, lev ls x = lev ls y := (grun_wf fun _ hx => (keptN_mem hx).2.2).out
theorem runsN_mem {ls : List Int} {r : List Int} (hr : r ∈ runsN ls) : ∀ x ∈ r, 0 ≤ x ∧ x < ls.length ∧ lev ls x ≠ -1 := fun x hx =>
  keptN_mem (k := ls.length) (by have : x ∈ (runsN ls).flatten := List.mem_flatten.2 ⟨r, hr, hx⟩; rwa [runsN_flat] at this)
theorem runsN_total (ls : List Int) : total (runsN ls) ≤ ls.length := by rw [← flat_len, runsN_flat]; exact keptN_len _ _
theorem len_le_total : ∀ (zss : List (List Int)), (∀ r ∈ zss, r ≠ []) → zss.length ≤ total zss
  | [], _ => by simp
  | r :: zss, h => by
    have h1 := len_le_total zss fun r hr => h r (by simp [hr])
    have h2 : 0 < r.length := List.length_pos_iff.2 (h r (by simp))
    have : total (r :: zss) = r.length + total zss := by simp [total]
    simp; omega
theorem runsN_len (ls : List Int) : (runsN ls).length ≤ ls.length := by
  have := len_le_total (runsN ls) fun r hr => (runsN_each ls r hr).1
  have := runsN_total ls
  omega
theorem rise_lt {xs : List Int} (h : xs.Pairwise (· < ·)) (i j : Nat) (hij : i < j) (hj : j < xs.length) : nth xs i < nth xs j := by
  have := List.pairwise_iff_getElem.1 h i j (by omega) hj hij
  simpa [nth, List.getElem?_eq_getElem hj, List.getElem?_eq_getElem (show i < xs.length by omega)] using this
theorem runsN_rise (ls : List Int) : ∀ r ∈ runsN ls, r.Pairwise (· < ·) := by
  intro r hr
  have h := keptN_rise ls ls.length
  have e : keptN ls ls.length = (runsN ls).flatten := (runsN_flat ls).symm
  rw [e] at h
  exact (List.pairwise_flatten.1 h).1 r hr

/-! the run in which a place is -/
def idxR : List (List Int) → Int → Option Nat
  | [], _ => none
  | r :: R, p => if p ∈ r then some 0 else (idxR R p).map (· + 1)
theorem idxR_cons (r : List Int) (R : List (List Int)) (p : Int) : idxR (r :: R) p = if p ∈ r then some 0 else (idxR R p).map (· + 1) := rfl
theorem idxR_some : ∀ {R : List (List Int)} {p : Int} {i : Nat}, idxR R p = some i → i < R.length ∧ p ∈ nthL R i
  | [], _, _, h => by cases h
  | r :: R, p, i, h => by
    rw [idxR_cons] at h
    split at h
    · injection h with h; subst h; exact ⟨by simp, by simpa [nthL] using by assumption⟩
    · cases hx : idxR R p with
      | none => rw [hx] at h; cases h
      | some j =>
        rw [hx] at h
        simp at h
        subst h
        have := idxR_some hx
        exact ⟨by simp; omega, by simpa [nthL] using this.2⟩
theorem idxR_none : ∀ {R : List (List Int)} {p : Int}, idxR R p = none → ∀ r ∈ R, p ∉ r
  | [], _, _, _, h => by cases h
  | r :: R, p, h, q, hq => by
    rw [idxR_cons] at h
    split at h
    · cases h
    · rcases List.mem_cons.1 hq with e | e
      · subst e; assumption
      · cases hx : idxR R p with
        | none => exact idxR_none hx q e
        | some j => rw [hx] at h; cases h
def findR (R : List (List Int)) (p : Int) : List Int := match idxR R p with | some i => nthL R i | none => []
theorem drop_nthL (R : List (List Int)) (k : Nat) (h : k < R.length) : R.drop k = nthL R k :: R.drop (k + 1) := by
  rw [List.drop_eq_getElem_cons h]; simp [nthL, List.getElem?_eq_getElem h]
theorem findR_in {R : List (List Int)} {p : Int} {k : Nat} (h : k < R.length) (hp : p ∈ nthL R k) : findR (R.drop k) p = nthL R k := by
  rw [drop_nthL R k h]; unfold findR; rw [idxR_cons, if_pos hp]; simp [nthL]
theorem findR_out {R : List (List Int)} {p : Int} {k : Nat} (h : k < R.length) (hp : p ∉ nthL R k) : findR (R.drop k) p = findR (R.drop (k + 1)) p := by
  rw [drop_nthL R k h]; unfold findR; rw [idxR_cons, if_neg hp]
  cases idxR (R.drop (k + 1)) p <;> simp [nthL]
theorem findR_nil (p : Int) : findR [] p = [] := rfl

/-! what matches, by its class -/
theorem match_kind_run (ks : List Int) : ∀ k, k ≤ ks.length →
    (∀ p, p < k → nth (mrun (ks.take k)).1 p = -1 ∨ (nth ks p = 22 ∧ 0 ≤ nth (mrun (ks.take k)).1 p ∧ nth (mrun (ks.take k)).1 p < p) ∨ (isOp (nth ks p) ∧ (p : Int) < nth (mrun (ks.take k)).1 p ∧ nth (mrun (ks.take k)).1 p < k)) ∧
    (∀ i, i < (mrun (ks.take k)).2.length → isOp (nth ks (nth (mrun (ks.take k)).2 i).toNat))
  | 0, _ => ⟨fun p h => by omega, fun i h => by simp [mrun] at h⟩
  | k + 1, hk => by
    obtain ⟨h1, h2⟩ := match_kind_run ks k (by omega)
    have wf := mrun_wf (ks.take k)
    have hml : (mrun (ks.take k)).1.length = k := by rw [mrun_len, List.length_take]; omega
    rw [mrun_step ks k (by omega)]
    obtain ⟨M, hM⟩ : ∃ M, M = mrun (ks.take k) := ⟨_, rfl⟩
    rw [← hM] at h1 h2 wf hml ⊢
    have old : ∀ p, p < k + 1 → nth (M.1 ++ [-1]) p = -1 ∨ (nth ks p = 22 ∧ 0 ≤ nth (M.1 ++ [-1]) p ∧ nth (M.1 ++ [-1]) p < p) ∨ (isOp (nth ks p) ∧ (p : Int) < nth (M.1 ++ [-1]) p ∧ nth (M.1 ++ [-1]) p < ((k + 1 : Nat) : Int)) := by
      intro p hp
      rw [nth_snoc _ _ _ (by omega)]
      split
      · exact .inl rfl
      · rcases h1 p (by omega) with h | ⟨a, b, c⟩ | ⟨a, b, c⟩
        · exact .inl h
        · exact .inr (.inl ⟨a, b, c⟩)
        · exact .inr (.inr ⟨a, b, by omega⟩)
    unfold mstep
    split
    · rename_i ho
      refine ⟨old, fun i hi => ?_⟩
      simp only [List.length_append, List.length_cons, List.length_nil] at hi
      simp only
      rw [nth_snoc _ _ _ hi]
      split
      · rw [hml]; simpa using ho
      · exact h2 i (by omega)
    · split
      · rename_i h22
        obtain ⟨h22, h0⟩ := h22
        have lst := wf.last h0
        have hop := h2 (M.2.length - 1) (by omega)
        refine ⟨fun p hp => ?_, fun i hi => ?_⟩
        · simp only
          have hx : (lastOf M.2).toNat < M.1.length := by omega
          rw [nth_snoc _ _ _ (by simp; omega)]
          rw [List.length_set]
          split
          · rename_i e
            rw [hml] at e
            subst e
            exact .inr (.inl ⟨h22, lst.1, by omega⟩)
          · rw [nth_set _ _ _ _ hx]
            split
            · rename_i e
              subst e
              refine .inr (.inr ⟨hop, ?_, ?_⟩) <;> omega
            · have := old p hp
              rw [nth_snoc _ _ _ (by omega), if_neg (by assumption)] at this
              exact this
        · simp only at hi ⊢
          rw [List.length_dropLast] at hi
          rw [nth_dropLast _ _ hi]
          exact h2 i (by omega)
      · exact ⟨old, h2⟩
theorem match_kind (ks : List Int) (p : Nat) (hp : p < ks.length) : nth (matchN ks) p = -1 ∨ (nth ks p = 22 ∧ 0 ≤ nth (matchN ks) p ∧ nth (matchN ks) p < p) ∨ (isOp (nth ks p) ∧ (p : Int) < nth (matchN ks) p ∧ nth (matchN ks) p < ks.length) := by
  have := (match_kind_run ks ks.length (Nat.le_refl _)).1 p hp
  rwa [List.take_of_length_le (Nat.le_refl _)] at this
theorem match_low (ks : List Int) (p : Nat) (hp : p < ks.length) : -1 ≤ nth (matchN ks) p ∧ nth (matchN ks) p < ks.length := by
  rcases match_kind ks p hp with h | ⟨_, h⟩ | ⟨_, h⟩ <;> omega

/-! what goes on with what -/
def nextR (M : List Int) (R : List (List Int)) (r : List Int) : List Int := if nth M (lastOf r).toNat < lastOf r then [] else findR R (nth M (lastOf r).toNat)
def chain (nx : List Int → List Int) : Nat → List Int → List Int
  | 0, _ => []
  | f + 1, r => if r.length = 0 then [] else r ++ chain nx f (nx r)
theorem chain_nil (nx : List Int → List Int) (f : Nat) : chain nx f [] = [] := by cases f <;> rfl
theorem chain_cons (nx : List Int → List Int) (f : Nat) (r : List Int) (h : r.length ≠ 0) : chain nx (f + 1) r = r ++ chain nx f (nx r) := by show (if _ then _ else _) = _; rw [if_neg h]
def beginsN (M : List Int) (r : List Int) : Bool := !decide (0 ≤ nth M (nth r 0).toNat ∧ nth M (nth r 0).toNat ≤ nth r 0)
/-- the level of the last one that is kept ahead of a place, of the first one that is kept in a list -/
def aheadN (ls : List Int) (b : Int) : Nat → Int
  | 0 => b
  | k + 1 => if nth ls k = -1 then aheadN ls b k else nth ls k
def firstK (b : Int) : List Int → Int
  | [] => b
  | x :: l => if x = -1 then firstK b l else x
def sideN (n : Int) : Int := if n % 2 = 0 then 0 else 1
def behindN (ks M ls : List Int) (b : Int) (p : Int) : Int := if isOp (nth ks p.toNat) ∧ nth M p.toNat < 0 then b else firstK b (ls.drop (p.toNat + 1))
structure Sq where
  places : List Int
  level : Int
  sos : Int
  eos : Int
def mx (a b : Int) : Int := if b < a then a else b
def sqOf (ks M ls : List Int) (R : List (List Int)) (b : Int) (r : List Int) : Sq :=
  ⟨chain (nextR M R) ls.length r, lev ls (nth r 0), sideN (mx (lev ls (nth r 0)) (aheadN ls b (nth r 0).toNat)),
   sideN (mx (lev ls (nth r 0)) (behindN ks M ls b (lastOf (chain (nextR M R) ls.length r))))⟩
def sqsOf (ks M ls : List Int) (R : List (List Int)) (b : Int) (rs : List (List Int)) : List Sq := (rs.filter (beginsN M)).map (sqOf ks M ls R b)
theorem sqs_step (ks M ls : List Int) (R : List (List Int)) (b : Int) (rs : List (List Int)) (k : Nat) (h : k < rs.length) :
    sqsOf ks M ls R b (rs.take (k + 1)) = sqsOf ks M ls R b (rs.take k) ++ (if beginsN M (nthL rs k) then [sqOf ks M ls R b (nthL rs k)] else []) := by
  have e : rs.take (k + 1) = rs.take k ++ [nthL rs k] := by
    rw [List.take_succ_eq_append_getElem h]; simp [nthL, List.getElem?_eq_getElem h]
  unfold sqsOf
  rw [e, List.filter_append, List.map_append]
  by_cases hb : beginsN M (nthL rs k) <;> simp [hb]
def seqsN (ks : List Int) (b : Int) : List Sq := sqsOf ks (matchN ks) (levN ks b) (runsN (levN ks b)) b (runsN (levN ks b))
/-- what RunsOf, what SequencesOf answers -/
def runsV (zs : List Int) (b : Int) : List (List Int) := if paraF zs b = 0 then runsN (levN (classesN zs) b) else []
def seqsV (zs : List Int) (b : Int) : List Sq := if paraF zs b = 0 then seqsN (classesN zs) b else []
theorem levN_len (ks : List Int) (b : Int) : (levN ks b).length = ks.length := (eat_len ks b _).1

/-- what the places of runs are, for given classes -/
structure RunFacts (ks : List Int) (b : Int) (R : List (List Int)) (r : List Int) : Prop where
  pos : 0 < r.length
  bound : ∀ x ∈ r, 0 ≤ x ∧ x < ks.length
theorem nth_mem {xs : List Int} {k : Nat} (h : k < xs.length) : nth xs k ∈ xs := by
  unfold nth; rw [List.getElem?_eq_getElem h]; exact List.getElem_mem h
theorem nthL_mem {xs : List (List Int)} {k : Nat} (h : k < xs.length) : nthL xs k ∈ xs := by
  unfold nthL; rw [List.getElem?_eq_getElem h]; exact List.getElem_mem h
theorem lastOf_mem {xs : List Int} (h : 0 < xs.length) : lastOf xs ∈ xs := nth_mem (by omega)
theorem lastOf_app (a r : List Int) (h : 0 < r.length) : lastOf (a ++ r) = lastOf r := by
  unfold lastOf nth
  rw [List.length_append, List.getElem?_append_right (by omega), show a.length + r.length - 1 - a.length = r.length - 1 by omega]
theorem run_facts {ks : List Int} {b : Int} {r : List Int} (hr : r ∈ runsN (levN ks b)) : RunFacts ks b (runsN (levN ks b)) r :=
  ⟨List.length_pos_iff.2 (runsN_each _ r hr).1, fun x hx => by have := runsN_mem hr x hx; rw [levN_len] at this; exact ⟨this.1, this.2.1⟩⟩
/-- a match that opens or ends an isolate is kept, so it is in a run -/
theorem kept_in_run {ks : List Int} {b : Int} {p : Nat} (hp : p < ks.length) (hk : nth (levN ks b) p ≠ -1) : ∃ i, idxR (runsN (levN ks b)) p = some i := by
  cases h : idxR (runsN (levN ks b)) p with
  | some i => exact ⟨i, rfl⟩
  | none =>
    exfalso
    have h1 : (p : Int) ∈ keptL (levN ks b) := mem_keptN (by rw [levN_len]; exact hp) hk
    rw [← runsN_flat] at h1
    obtain ⟨r, hr, hm⟩ := List.mem_flatten.1 h1
    exact idxR_none h r hr hm
theorem lev_kept {ks : List Int} {b : Int} (hb : 0 ≤ b ∧ b ≤ 1) {p : Nat} (hp : p < ks.length) (hk : isOp (nth ks p) ∨ nth ks p = 22) : nth (levN ks b) p ≠ -1 := by
  rcases lev_facts ks b hb p hp with ⟨h, _⟩ | ⟨_, h⟩
  · exfalso
    simp only [gone, decide_eq_true_eq] at h
    unfold isOp at hk
    omega
  · omega
theorem match_kept {ks : List Int} {b : Int} (hb : 0 ≤ b ∧ b ≤ 1) {p : Nat} (hp : p < ks.length) (h0 : 0 ≤ nth (matchN ks) p) : ∃ i, idxR (runsN (levN ks b)) (nth (matchN ks) p) = some i := by
  have mb := match_back ks p hp
  have hlt : (nth (matchN ks) p).toNat < ks.length := by rcases mb with h | h <;> omega
  have mk := match_kind ks _ hlt
  have e : (((nth (matchN ks) p).toNat : Nat) : Int) = nth (matchN ks) p := by omega
  have hx : nth (matchN ks) (nth (matchN ks) p).toNat = p := by rcases mb with h | h <;> first | omega | exact h.2.2.2
  rw [hx] at mk
  have := kept_in_run (ks := ks) (b := b) hlt (lev_kept hb hlt (by rcases mk with h | h | h <;> first | omega | exact .inr h.1 | exact .inl h.1))
  rw [e] at this
  exact this
/-- where a sequence goes on, it goes on behind -/
theorem next_facts {ks : List Int} {b : Int} {r : List Int} (hr : r ∈ runsN (levN ks b)) (hn : (nextR (matchN ks) (runsN (levN ks b)) r).length ≠ 0) :
    nextR (matchN ks) (runsN (levN ks b)) r ∈ runsN (levN ks b) ∧ lastOf r < lastOf (nextR (matchN ks) (runsN (levN ks b)) r) := by
  have rf := run_facts hr
  have hl := rf.bound _ (lastOf_mem rf.pos)
  unfold nextR at hn ⊢
  split at hn
  · simp at hn
  · rename_i hlt
    rw [if_neg hlt]
    unfold findR at hn ⊢
    cases h : idxR (runsN (levN ks b)) (nth (matchN ks) (lastOf r).toNat) with
    | none => rw [h] at hn; simp at hn
    | some i =>
      have is := idxR_some h
      have hm := nthL_mem is.1
      refine ⟨hm, ?_⟩
      have mb := match_back ks (lastOf r).toNat (by omega)
      have lt1 : lastOf r < nth (matchN ks) (lastOf r).toNat := by rcases mb with h | h <;> omega
      have rf2 := run_facts hm
      have rise := runsN_rise _ _ hm
      obtain ⟨j, hj, e⟩ := List.getElem_of_mem is.2
      have le2 : nth (nthL (runsN (levN ks b)) i) j ≤ lastOf (nthL (runsN (levN ks b)) i) := by
        unfold lastOf
        by_cases e2 : j = (nthL (runsN (levN ks b)) i).length - 1
        · rw [← e2]; exact Int.le_refl _
        · exact Int.le_of_lt (rise_lt rise _ _ (by omega) (by omega))
      have e3 : nth (nthL (runsN (levN ks b)) i) j = nth (matchN ks) (lastOf r).toNat := by rw [← e]; simp [nth, List.getElem?_eq_getElem hj]
      show lastOf r < lastOf (nthL (runsN (levN ks b)) i)
      omega
/-- where it does not go on, what stands at its end does not open what is matched -/
theorem end_facts {ks : List Int} {b : Int} (hb : 0 ≤ b ∧ b ≤ 1) {r : List Int} (hr : r ∈ runsN (levN ks b)) (hn : (nextR (matchN ks) (runsN (levN ks b)) r).length = 0) : nth (matchN ks) (lastOf r).toNat < lastOf r := by
  have rf := run_facts hr
  have hl := rf.bound _ (lastOf_mem rf.pos)
  apply Classical.byContradiction
  intro hlt
  unfold nextR at hn
  rw [if_neg hlt] at hn
  obtain ⟨i, h⟩ := match_kept hb (ks := ks) (p := (lastOf r).toNat) (by omega) (by omega)
  unfold findR at hn
  rw [h] at hn
  have is := idxR_some h
  have := (run_facts (nthL_mem is.1)).pos
  simp only at hn
  omega
theorem begins_kind {ks : List Int} {r : List Int} (hp : 0 ≤ nth r 0 ∧ nth r 0 < ks.length) : (nth ks (nth r 0).toNat = 22 ∧ 0 ≤ nth (matchN ks) (nth r 0).toNat) ↔ beginsN (matchN ks) r = false := by
  unfold beginsN
  rcases match_kind ks (nth r 0).toNat (by omega) with h | ⟨h, h1, h2⟩ | ⟨h, h1, h2⟩
  · constructor
    · intro ⟨_, h3⟩; omega
    · intro h3; simp at h3; omega
  · constructor
    · intro _; simp; omega
    · intro _; exact ⟨h, h1⟩
  · constructor
    · intro ⟨h3, _⟩; unfold isOp at h; omega
    · intro h3; simp at h3; omega
end Go.Proofs.YtmcmfklkljehiaaGreat
