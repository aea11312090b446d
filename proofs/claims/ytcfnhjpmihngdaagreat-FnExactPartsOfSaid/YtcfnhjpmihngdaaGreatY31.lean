/- Chapter 5: the model's run with a place, the model's next kept level. -/
import Derived.Test.YtcfnhjpmihngdaaGreatY16
import Derived.Test.YtcfnhjpmihngdaaGreatY30
import Derived.BigQuiet
import Derived.Test.YtcfnhjpmihngdaaGreatY05
namespace Go.Proofs.YtcfnhjpmihngdaaGreat
open Go.RowKit

/-! what is kept -/
def lev (ls : List Int) (x : Int) : Int := nth ls x.toNat
def keptN (ls : List Int) : Nat → List Int
  | 0 => []
  | k + 1 => if nth ls k = -1 then keptN ls k else keptN ls k ++ [(k : Int)]
def keptL (ls : List Int) : List Int := keptN ls ls.length
theorem keptN_gone {ls : List Int} {k : Nat} (h : nth ls k = -1) : keptN ls (k + 1) = keptN ls k := by show (if _ then _ else _) = _; rw [if_pos h]
theorem keptN_kept {ls : List Int} {k : Nat} (h : nth ls k ≠ -1) : keptN ls (k + 1) = keptN ls k ++ [(k : Int)] := by show (if _ then _ else _) = _; rw [if_neg h]
theorem keptN_len (ls : List Int) : ∀ k, (keptN ls k).length ≤ k
  | 0 => Nat.le_refl _
  | k + 1 => by
    have := keptN_len ls k
    by_cases h : nth ls k = -1
    · rw [keptN_gone h]; omega
    · rw [keptN_kept h, List.length_append]; simp; omega
theorem keptN_mem {ls : List Int} : ∀ {k : Nat} {x : Int}, x ∈ keptN ls k → 0 ≤ x ∧ x < k ∧ lev ls x ≠ -1
  | 0, x, h => by simp [keptN] at h
  | k + 1, x, h => by
    by_cases hk : nth ls k = -1
    · rw [keptN_gone hk] at h; have := keptN_mem h; exact ⟨this.1, by omega, this.2.2⟩
    · rw [keptN_kept hk] at h
      rcases List.mem_append.1 h with h | h
      · have := keptN_mem h; exact ⟨this.1, by omega, this.2.2⟩
      · simp at h; subst h; exact ⟨by omega, by omega, by simpa [lev] using hk⟩
theorem mem_keptN {ls : List Int} : ∀ {k : Nat} {x : Nat}, x < k → nth ls x ≠ -1 → (x : Int) ∈ keptN ls k
  | 0, x, h, _ => by omega
  | k + 1, x, h, hx => by
    by_cases e : x = k
    · subst e; rw [keptN_kept hx]; simp
    · have := mem_keptN (k := k) (by omega) hx
      by_cases hk : nth ls k = -1
      · rw [keptN_gone hk]; exact this
      · rw [keptN_kept hk]; exact List.mem_append_left _ this
theorem keptN_rise (ls : List Int) : ∀ k, (keptN ls k).Pairwise (· < ·)
  | 0 => List.Pairwise.nil
  | k + 1 => by
    have ih := keptN_rise ls k
    by_cases hk : nth ls k = -1
    · rw [keptN_gone hk]; exact ih
    · rw [keptN_kept hk]
      refine List.pairwise_append.2 ⟨ih, by simp, fun a ha c hc => ?_⟩
      simp at hc; subst hc
      exact (keptN_mem ha).2.1

/-! runs -/
structure GS where
  done : List (List Int)
  now : List Int
  val : Int
def GS.out (s : GS) : List (List Int) := if s.now.length = 0 then s.done else s.done ++ [s.now]
def gstep (f : Int → Int) (s : GS) (x : Int) : GS := if f x = s.val then ⟨s.done, s.now ++ [x], s.val⟩ else ⟨s.out, [x], f x⟩
def grun (f : Int → Int) (xs : List Int) : GS := xs.foldl (gstep f) ⟨[], [], -1⟩
theorem grun_app (f : Int → Int) (xs : List Int) (x : Int) : grun f (xs ++ [x]) = gstep f (grun f xs) x := by simp [grun]
theorem grun_step (f : Int → Int) (xs : List Int) (k : Nat) (h : k < xs.length) : grun f (xs.take (k + 1)) = gstep f (grun f (xs.take k)) (nth xs k) := by
  rw [take_nth xs k h, grun_app]
theorem out_full {s : GS} (h : s.now.length ≠ 0) : s.out = s.done ++ [s.now] := by unfold GS.out; rw [if_neg h]
theorem gstep_out (f : Int → Int) (s : GS) (x : Int) (h : f x ≠ s.val) : (gstep f s x).out = s.out ++ [[x]] := by
  unfold gstep; rw [if_neg h]; exact out_full (by simp)
theorem gstep_on (f : Int → Int) (s : GS) (x : Int) (h : f x = s.val) : (gstep f s x).out = s.done ++ [s.now ++ [x]] := by
  unfold gstep; rw [if_pos h]; exact out_full (by simp)
theorem out_flat (s : GS) : s.out.flatten = s.done.flatten ++ s.now := by
  unfold GS.out
  split
  · rename_i h; rw [List.eq_nil_of_length_eq_zero h, List.append_nil]
  · simp
theorem gstep_flat (f : Int → Int) (s : GS) (x : Int) : (gstep f s x).out.flatten = s.out.flatten ++ [x] := by
  by_cases h : f x = s.val
  · rw [gstep_on f s x h, out_flat]; simp
  · rw [gstep_out f s x h]; simp
theorem gfold_flat (f : Int → Int) : ∀ (xs : List Int) (s : GS), (xs.foldl (gstep f) s).out.flatten = s.out.flatten ++ xs
  | [], s => by simp
  | x :: xs, s => by rw [List.foldl_cons, gfold_flat f xs, gstep_flat]; simp
theorem grun_flat (f : Int → Int) (xs : List Int) : (grun f xs).out.flatten = xs := by
  unfold grun; rw [gfold_flat]; simp [GS.out]
/-- what stands in a state -/
structure WfG (f : Int → Int) (s : GS) : Prop where
  none : s.now.length = 0 → s.val = -1 ∧ s.done = []
  one : ∀ x ∈ s.now, f x = s.val
  each : ∀ r ∈ s.done, r ≠ [] ∧ ∀ x ∈ r, ∀ y ∈ r, f x = f y
theorem WfG.step {f : Int → Int} {s : GS} (h : WfG f s) (x : Int) (hx : f x ≠ -1) : WfG f (gstep f s x) := by
  unfold gstep
  split
  · rename_i e
    refine ⟨fun h0 => by simp at h0, fun y hy => ?_, h.each⟩
    rcases List.mem_append.1 hy with hy | hy
    · exact h.one y hy
    · simp at hy; subst hy; exact e
  · refine ⟨fun h0 => by simp at h0, fun y hy => by simp at hy; subst hy; rfl, fun r hr => ?_⟩
    unfold GS.out at hr
    split at hr
    · exact h.each r hr
    · rcases List.mem_append.1 hr with hr | hr
      · exact h.each r hr
      · simp at hr; subst hr
        exact ⟨fun e => by simp_all, fun a ha c hc => (h.one a ha).trans (h.one c hc).symm⟩
theorem gfold_wf {f : Int → Int} : ∀ (xs : List Int) (s : GS), WfG f s → (∀ x ∈ xs, f x ≠ -1) → WfG f (xs.foldl (gstep f) s)
  | [], _, h, _ => h
  | x :: xs, s, h, hx => gfold_wf xs _ (h.step x (hx x (by simp))) fun y hy => hx y (by simp [hy])
theorem grun_wf {f : Int → Int} {xs : List Int} (hx : ∀ x ∈ xs, f x ≠ -1) : WfG f (grun f xs) :=
  gfold_wf xs _ ⟨fun _ => ⟨rfl, rfl⟩, by simp, by simp⟩ hx
theorem WfG.out {f : Int → Int} {s : GS} (h : WfG f s) : ∀ r ∈ s.out, r ≠ [] ∧ ∀ x ∈ r, ∀ y ∈ r, f x = f y := by
  intro r hr
  unfold GS.out at hr
  split at hr
  · exact h.each r hr
  · rcases List.mem_append.1 hr with hr | hr
    · exact h.each r hr
    · simp at hr; subst hr
      exact ⟨fun e => by simp_all, fun a ha c hc => (h.one a ha).trans (h.one c hc).symm⟩
def runsN (ls : List Int) : List (List Int) := (grun (lev ls) (keptL ls)).out
theorem runsN_flat (ls : List Int) : (runsN ls).flatten = keptL ls := grun_flat _ _
theorem runsN_each (ls : List Int) : ∀ r ∈ runsN ls, r ≠ [] ∧ ∀ x ∈ r, ∀ y ∈ r, lev ls x = lev ls y := (grun_wf fun _ hx => (keptN_mem hx).2.2).out
theorem runsN_mem {ls : List Int} {r : List Int} (hr : r ∈ runsN ls) : ∀ x ∈ r, 0 ≤ x ∧ x < ls.length ∧ lev ls x ≠ -1 := fun x hx =>
  keptN_mem (k := ls.length) (by have : x ∈ (runsN ls).flatten := List.mem_flatten.2 ⟨r, hr, hx⟩; rwa [runsN_flat] at this)
theorem runsN_total (ls : List Int) : total (runsN ls) ≤ ls.length := by rw [← flat_len, runsN_flat]; exact keptN_len _ _
theorem len_le_total : ∀ (zss : List (List Int)), (∀ r ∈ zss, r ≠ []) → zss.length ≤ total zss
  | [], _ => by simp
  | r :: zss, h => by
    have h1 := len_le_total zss fun r hr => h r (by simp [hr])
    have h2 : 0 < r.length := List.length_pos_iff.2 (h r (by simp))
    have : total (r :: zss) = r.length + total zss := by simp [total]
    simp; omega
theorem runsN_len (ls : List Int) : (runsN ls).length ≤ ls.length := by
  have := len_le_total (runsN ls) fun r hr => (runsN_each ls r hr).1
  have := runsN_total ls
  omega
theorem rise_lt {xs : List Int} (h : xs.Pairwise (· < ·)) (i j : Nat) (hij : i < j) (hj : j < xs.length) : nth xs i < nth xs j := by
  have := List.pairwise_iff_getElem.1 h i j (by omega) hj hij
  simpa [nth, List.getElem?_eq_getElem hj, List.getElem?_eq_getElem (show i < xs.length by omega)] using this
theorem runsN_rise (ls : List Int) : ∀ r ∈ runsN ls, r.Pairwise (· < ·) := by
  intro r hr
  have h := keptN_rise ls ls.length
  have e : keptN ls ls.length = (runsN ls).flatten := (runsN_flat ls).symm
  rw [e] at h
  exact (List.pairwise_flatten.1 h).1 r hr

/-! the run in which a place is -/
def idxR : List (List Int) → Int → Option Nat
  | [], _ => none
  | r :: R, p => if p ∈ r then some 0 else (idxR R p).map (· + 1)
theorem idxR_cons (r : List Int) (R : List (List Int)) (p : Int) : idxR (r :: R) p = if p ∈ r then some 0 else (idxR R p).map (· + 1) := rfl
theorem idxR_some : ∀ {R : List (List Int)} {p : Int} {i : Nat}, idxR R p = some i → i < R.length ∧ p ∈ nthL R i
  | [], _, _, h => by cases h
  | r :: R, p, i, h => by
    rw [idxR_cons] at h
    split at h
    · injection h with h; subst h; exact ⟨by simp, by simpa [nthL] using by assumption⟩
    · cases hx : idxR R p with
      | none => rw [hx] at h; cases h
      | some j =>
        rw [hx] at h
        simp at h
        subst h
        have := idxR_some hx
        exact ⟨by simp; omega, by simpa [nthL] using this.2⟩
theorem idxR_none : ∀ {R : List (List Int)} {p : Int}, idxR R p = none → ∀ r ∈ R, p ∉ r
  | [], _, _, _, h => by cases h
  | r :: R, p, h, q, hq => by
    rw [idxR_cons] at h
    split at h
    · cases h
    · rcases List.mem_cons.1 hq with e | e
      · subst e; assumption
      · cases hx : idxR R p with
        | none => exact idxR_none hx q e
        | some j => rw [hx] at h; cases h
def findR (R : List (List Int)) (p : Int) : List Int := match idxR R p with | some i => nthL R i | none => []
theorem drop_nthL (R : List (List Int)) (k : Nat) (h : k < R.length) : R.drop k = nthL R k :: R.drop (k + 1) := by
  rw [List.drop_eq_getElem_cons h]; simp [nthL, List.getElem?_eq_getElem h]
theorem findR_in {R : List (List Int)} {p : Int} {k : Nat} (h : k < R.length) (hp : p ∈ nthL R k) : findR (R.drop k) p = nthL R k := by
  rw [drop_nthL R k h]; unfold findR; rw [idxR_cons, if_pos hp]; simp [nthL]
theorem findR_out {R : List (List Int)} {p : Int} {k : Nat} (h : k < R.length) (hp : p ∉ nthL R k) : findR (R.drop k) p = findR (R.drop (k + 1)) p := by
  rw [drop_nthL R k h]; unfold findR; rw [idxR_cons, if_neg hp]
  cases idxR (R.drop (k + 1)) p <;> simp [nthL]
theorem findR_nil (p : Int) : findR [] p = [] := rfl

/-! what matches, by its class -/
theorem match_kind_run (ks : List Int) : ∀ k, k ≤ ks.length →
    (∀ p, p < k → nth (mrun (ks.take k)).1 p = -1 ∨ (nth ks p = 22 ∧ 0 ≤ nth (mrun (ks.take k)).1 p ∧ nth (mrun (ks.take k)).1 p < p) ∨ (isOp (nth ks p) ∧ (p : Int) < nth (mrun (ks.take k)).1 p ∧ nth (mrun (ks.take k)).1 p < k)) ∧
    (∀ i, i < (mrun (ks.take k)).2.length → isOp (nth ks (nth (mrun (ks.take k)).2 i).toNat))
  | 0, _ => ⟨fun p h => by omega, fun i h => by simp [mrun] at h⟩
  | k + 1, hk => by
    obtain ⟨h1, h2⟩ := match_kind_run ks k (by omega)
    have wf := mrun_wf (ks.take k)
    have hml : (mrun (ks.take k)).1.length = k := by rw [mrun_len, List.length_take]; omega
    rw [mrun_step ks k (by omega)]
    obtain ⟨M, hM⟩ : ∃ M, M = mrun (ks.take k) := ⟨_, rfl⟩
    rw [← hM] at h1 h2 wf hml ⊢
    have old : ∀ p, p < k + 1 → nth (M.1 ++ [-1]) p = -1 ∨ (nth ks p = 22 ∧ 0 ≤ nth (M.1 ++ [-1]) p ∧ nth (M.1 ++ [-1]) p < p) ∨ (isOp (nth ks p) ∧ (p : Int) < nth (M.1 ++ [-1]) p ∧ nth (M.1 ++ [-1]) p < ((k + 1 : Nat) : Int)) := by
      intro p hp
      rw [nth_snoc _ _ _ (by omega)]
      split
      · exact .inl rfl
      · rcases h1 p (by omega) with h | ⟨a, b, c⟩ | ⟨a, b, c⟩
        · exact .inl h
        · exact .inr (.inl ⟨a, b, c⟩)
        · exact .inr (.inr ⟨a, b, by omega⟩)
    unfold mstep
    split
    · rename_i ho
      refine ⟨old, fun i hi => ?_⟩
      simp only [List.length_append, List.length_cons, List.length_nil] at hi
      simp only
      rw [nth_snoc _ _ _ hi]
      split
      · rw [hml]; simpa using ho
      · exact h2 i (by omega)
    · split
      · rename_i h22
        obtain ⟨h22, h0⟩ := h22
        have lst := wf.last h0
        have hop := h2 (M.2.length - 1) (by omega)
        refine ⟨fun p hp => ?_, fun i hi => ?_⟩
        · simp only
          have hx : (lastOf M.2).toNat < M.1.length := by omega
          rw [nth_snoc _ _ _ (by simp; omega)]
          rw [List.length_set]
          split
          · rename_i e
            rw [hml] at e
            subst e
            exact .inr (.inl ⟨h22, lst.1, by omega⟩)
          · rw [nth_set _ _ _ _ hx]
            split
            · rename_i e
              subst e
              refine .inr (.inr ⟨hop, ?_, ?_⟩) <;> omega
            · have := old p hp
              rw [nth_snoc _ _ _ (by omega), if_neg (by assumption)] at this
              exact this
        · simp only at hi ⊢
          rw [List.length_dropLast] at hi
          rw [nth_dropLast _ _ hi]
          exact h2 i (by omega)
      · exact ⟨old, h2⟩
theorem match_kind (ks : List Int) (p : Nat) (hp : p < ks.length) : nth (matchN ks) p = -1 ∨ (nth ks p = 22 ∧ 0 ≤ nth (matchN ks) p ∧ nth (matchN ks) p < p) ∨ (isOp (nth ks p) ∧ (p : Int) < nth (matchN ks) p ∧ nth (matchN ks) p < ks.length) := by
  have := (match_kind_run ks ks.length (Nat.le_refl _)).1 p hp
  rwa [List.take_of_length_le (Nat.le_refl _)] at this
theorem match_low (ks : List Int) (p : Nat) (hp : p < ks.length) : -1 ≤ nth (matchN ks) p ∧ nth (matchN ks) p < ks.length := by
  rcases match_kind ks p hp with h | ⟨_, h⟩ | ⟨_, h⟩ <;> omega

/-! what goes on with what -/
def nextR (M : List Int) (R : List (List Int)) (r : List Int) : List Int := if nth M (lastOf r).toNat < lastOf r then [] else findR R (nth M (lastOf r).toNat)
def chain (nx : List Int → List Int) : Nat → List Int → List Int
  | 0, _ => []
  | f + 1, r => if r.length = 0 then [] else r ++ chain nx f (nx r)
theorem chain_nil (nx : List Int → List Int) (f : Nat) : chain nx f [] = [] := by cases f <;> rfl
theorem chain_cons (nx : List Int → List Int) (f : Nat) (r : List Int) (h : r.length ≠ 0) : chain nx (f + 1) r = r ++ chain nx f (nx r) := by show (if _ then _ else _) = _; rw [if_neg h]
def beginsN (M : List Int) (r : List Int) : Bool := !decide (0 ≤ nth M (nth r 0).toNat ∧ nth M (nth r 0).toNat ≤ nth r 0)
/-- the level of the last one that is kept ahead of a place, of the first one that is kept in a list -/
def aheadN (ls : List Int) (b : Int) : Nat → Int
  | 0 => b
  | k + 1 => if nth ls k = -1 then aheadN ls b k else nth ls k
def firstK (b : Int) : List Int → Int
  | [] => b
  | x :: l => if x = -1 then firstK b l else x
def sideN (n : Int) : Int := if n % 2 = 0 then 0 else 1
def behindN (ks M ls : List Int) (b : Int) (p : Int) : Int := if isOp (nth ks p.toNat) ∧ nth M p.toNat < 0 then b else firstK b (ls.drop (p.toNat + 1))
structure Sq where
  places : List Int
  level : Int
  sos : Int
  eos : Int
def mx (a b : Int) : Int := if b < a then a else b
def sqOf (ks M ls : List Int) (R : List (List Int)) (b : Int) (r : List Int) : Sq :=
  ⟨chain (nextR M R) ls.length r, lev ls (nth r 0), sideN (mx (lev ls (nth r 0)) (aheadN ls b (nth r 0).toNat)),
   sideN (mx (lev ls (nth r 0)) (behindN ks M ls b (lastOf (chain (nextR M R) ls.length r))))⟩
def sqsOf (ks M ls : List Int) (R : List (List Int)) (b : Int) (rs : List (List Int)) : List Sq := (rs.filter (beginsN M)).map (sqOf ks M ls R b)
theorem sqs_step (ks M ls : List Int) (R : List (List Int)) (b : Int) (rs : List (List Int)) (k : Nat) (h : k < rs.length) :
    sqsOf ks M ls R b (rs.take (k + 1)) = sqsOf ks M ls R b (rs.take k) ++ (if beginsN M (nthL rs k) then [sqOf ks M ls R b (nthL rs k)] else []) := by
  have e : rs.take (k + 1) = rs.take k ++ [nthL rs k] := by
    rw [List.take_succ_eq_append_getElem h]; simp [nthL, List.getElem?_eq_getElem h]
  unfold sqsOf
  rw [e, List.filter_append, List.map_append]
  by_cases hb : beginsN M (nthL rs k) <;> simp [hb]
def seqsN (ks : List Int) (b : Int) : List Sq := sqsOf ks (matchN ks) (levN ks b) (runsN (levN ks b)) b (runsN (levN ks b))
/-- what RunsOf, what SequencesOf answers -/
def runsV (zs : List Int) (b : Int) : List (List Int) := if paraF zs b = 0 then runsN (levN (classesN zs) b) else []
def seqsV (zs : List Int) (b : Int) : List Sq := if paraF zs b = 0 then seqsN (classesN zs) b else []
theorem levN_len (ks : List Int) (b : Int) : (levN ks b).length = ks.length := (eat_len ks b _).1

/-- what the places of runs are, for given classes -/
structure RunFacts (ks : List Int) (b : Int) (R : List (List Int)) (r : List Int) : Prop where
  pos : 0 < r.length
  bound : ∀ x ∈ r, 0 ≤ x ∧ x < ks.length
theorem nth_mem {xs : List Int} {k : Nat} (h : k < xs.length) : nth xs k ∈ xs := by
  unfold nth; rw [List.getElem?_eq_getElem h]; exact List.getElem_mem h
theorem nthL_mem {xs : List (List Int)} {k : Nat} (h : k < xs.length) : nthL xs k ∈ xs := by
  unfold nthL; rw [List.getElem?_eq_getElem h]; exact List.getElem_mem h
theorem lastOf_mem {xs : List Int} (h : 0 < xs.length) : lastOf xs ∈ xs := nth_mem (by omega)
theorem lastOf_app (a r : List Int) (h : 0 < r.length) : lastOf (a ++ r) = lastOf r := by
  unfold lastOf nth
  rw [List.length_append, List.getElem?_append_right (by omega), show a.length + r.length - 1 - a.length = r.length - 1 by omega]
theorem run_facts {ks : List Int} {b : Int} {r : List Int} (hr : r ∈ runsN (levN ks b)) : RunFacts ks b (runsN (levN ks b)) r :=
  ⟨List.length_pos_iff.2 (runsN_each _ r hr).1, fun x hx => by have := runsN_mem hr x hx; rw [levN_len] at this; exact ⟨this.1, this.2.1⟩⟩
/-- a match that opens or ends an isolate is kept, so it is in a run -/
theorem kept_in_run {ks : List Int} {b : Int} {p : Nat} (hp : p < ks.length) (hk : nth (levN ks b) p ≠ -1) : ∃ i, idxR (runsN (levN ks b)) p = some i := by
  cases h : idxR (runsN (levN ks b)) p with
  | some i => exact ⟨i, rfl⟩
  | none =>
    exfalso
    have h1 : (p : Int) ∈ keptL (levN ks b) := mem_keptN (by rw [levN_len]; exact hp) hk
    rw [← runsN_flat] at h1
    obtain ⟨r, hr, hm⟩ := List.mem_flatten.1 h1
    exact idxR_none h r hr hm
theorem lev_kept {ks : List Int} {b : Int} (hb : 0 ≤ b ∧ b ≤ 1) {p : Nat} (hp : p < ks.length) (hk : isOp (nth ks p) ∨ nth ks p = 22) : nth (levN ks b) p ≠ -1 := by
  rcases lev_facts ks b hb p hp with ⟨h, _⟩ | ⟨_, h⟩
  · exfalso
    simp only [gone, decide_eq_true_eq] at h
    unfold isOp at hk
    omega
  · omega
theorem match_kept {ks : List Int} {b : Int} (hb : 0 ≤ b ∧ b ≤ 1) {p : Nat} (hp : p < ks.length) (h0 : 0 ≤ nth (matchN ks) p) : ∃ i, idxR (runsN (levN ks b)) (nth (matchN ks) p) = some i := by
  have mb := match_back ks p hp
  have hlt : (nth (matchN ks) p).toNat < ks.length := by rcases mb with h | h <;> omega
  have mk := match_kind ks _ hlt
  have e : (((nth (matchN ks) p).toNat : Nat) : Int) = nth (matchN ks) p := by omega
  have hx : nth (matchN ks) (nth (matchN ks) p).toNat = p := by rcases mb with h | h <;> first | omega | exact h.2.2.2
  rw [hx] at mk
  have := kept_in_run (ks := ks) (b := b) hlt (lev_kept hb hlt (by rcases mk with h | h | h <;> first | omega | exact .inr h.1 | exact .inl h.1))
  rw [e] at this
  exact this
/-- where a sequence goes on, it goes on behind -/
theorem next_facts {ks : List Int} {b : Int} {r : List Int} (hr : r ∈ runsN (levN ks b)) (hn : (nextR (matchN ks) (runsN (levN ks b)) r).length ≠ 0) :
    nextR (matchN ks) (runsN (levN ks b)) r ∈ runsN (levN ks b) ∧ lastOf r < lastOf (nextR (matchN ks) (runsN (levN ks b)) r) := by
  have rf := run_facts hr
  have hl := rf.bound _ (lastOf_mem rf.pos)
  unfold nextR at hn ⊢
  split at hn
  · simp at hn
  · rename_i hlt
    rw [if_neg hlt]
    unfold findR at hn ⊢
    cases h : idxR (runsN (levN ks b)) (nth (matchN ks) (lastOf r).toNat) with
    | none => rw [h] at hn; simp at hn
    | some i =>
      have is := idxR_some h
      have hm := nthL_mem is.1
      refine ⟨hm, ?_⟩
      have mb := match_back ks (lastOf r).toNat (by omega)
      have lt1 : lastOf r < nth (matchN ks) (lastOf r).toNat := by rcases mb with h | h <;> omega
      have rf2 := run_facts hm
      have rise := runsN_rise _ _ hm
      obtain ⟨j, hj, e⟩ := List.getElem_of_mem is.2
      have le2 : nth (nthL (runsN (levN ks b)) i) j ≤ lastOf (nthL (runsN (levN ks b)) i) := by
        unfold lastOf
        by_cases e2 : j = (nthL (runsN (levN ks b)) i).length - 1
        · rw [← e2]; exact Int.le_refl _
        · exact Int.le_of_lt (rise_lt rise _ _ (by omega) (by omega))
      have e3 : nth (nthL (runsN (levN ks b)) i) j = nth (matchN ks) (lastOf r).toNat := by rw [← e]; simp [nth, List.getElem?_eq_getElem hj]
      show lastOf r < lastOf (nthL (runsN (levN ks b)) i)
      omega
/-- where it does not go on, what stands at its end does not open what is matched -/
theorem end_facts {ks : List Int} {b : Int} (hb : 0 ≤ b ∧ b ≤ 1) {r : List Int} (hr : r ∈ runsN (levN ks b)) (hn : (nextR (matchN ks) (runsN (levN ks b)) r).length = 0) : nth (matchN ks) (lastOf r).toNat < lastOf r := by
  have rf := run_facts hr
  have hl := rf.bound _ (lastOf_mem rf.pos)
  apply Classical.byContradiction
  intro hlt
  unfold nextR at hn
  rw [if_neg hlt] at hn
  obtain ⟨i, h⟩ := match_kept hb (ks := ks) (p := (lastOf r).toNat) (by omega) (by omega)
  unfold findR at hn
  rw [h] at hn
  have is := idxR_some h
  have := (run_facts (nthL_mem is.1)).pos
  simp only at hn
  omega
theorem begins_kind {ks : List Int} {r : List Int} (hp : 0 ≤ nth r 0 ∧ nth r 0 < ks.length) : (nth ks (nth r 0).toNat = 22 ∧ 0 ≤ nth (matchN ks) (nth r 0).toNat) ↔ beginsN (matchN ks) r = false := by
  unfold beginsN
  rcases match_kind ks (nth r 0).toNat (by omega) with h | ⟨h, h1, h2⟩ | ⟨h, h1, h2⟩
  · constructor
    · intro ⟨_, h3⟩; omega
    · intro h3; simp at h3; omega
  · constructor
    · intro _; simp; omega
    · intro _; exact ⟨h, h1⟩
  · constructor
    · intro ⟨h3, _⟩; unfold isOp at h; omega
    · intro h3; simp at h3; omega
end Go.Proofs.YtcfnhjpmihngdaaGreat

namespace Go.Proofs.YtcfnhjpmihngdaaGreat
open Go.RowKit Go.Maps

theorem odd_tmod (n : Int) : (n.tmod 2 != 0) = !decide (n % 2 = 0) := by
  have h : n.tmod 2 = 0 ↔ n % 2 = 0 := by
    rw [Int.tmod_eq_emod]
    split
    · simp
    · rename_i hn
      simp at hn
      omega
  by_cases h0 : n % 2 = 0
  · simp [h.2 h0, h0]
  · have : n.tmod 2 ≠ 0 := fun e => h0 (h.1 e)
    simp [this, h0]

theorem sideOf_any (n : Int) (w : World) : Calls Tryz.prog 84 #[.int .i64 n] w fun e w' => e = .returned (.int .i64 (sideN n)) ∧ w = w' := by
  have hm := odd_tmod n
  by_cases h : n % 2 = 0
  · have E : sideN n = 0 := by unfold sideN; rw [if_pos h]
    rw [decide_eq_true h] at hm
    clear h
    go_enter Tryz.func84, Tryz.ntmps84
    go_wp2
    go_ret
    exact ⟨rint E.symm, rfl⟩
  · have E : sideN n = 1 := by unfold sideN; rw [if_neg h]
    rw [decide_eq_false h] at hm
    clear h
    go_enter Tryz.func84, Tryz.ntmps84
    go_wp2
    go_ret
    exact ⟨rint E.symm, rfl⟩
theorem sideOf_val (n : Int) (w : World) (_ : (Lit.int .i64 n).wf = true) : Calls Tryz.prog 84 #[.int .i64 n] w fun e w' => e = .returned (.int .i64 (sideN n)) ∧ Below w.heap.size w w' :=
  (sideOf_any n w).mono fun _ _ ⟨he, hw⟩ => ⟨he, by subst hw; exact Below.refl _ _⟩
theorem l5Odd_any (n : Int) (w : World) : Calls Tryz.prog 47 #[.int .i64 n] w fun e w' => e = .returned (.bool (!decide (n % 2 = 0))) ∧ w = w' := by
  have hm := odd_tmod n
  by_cases h : n % 2 = 0
  · rw [decide_eq_true h] at hm ⊢
    clear h
    go_enter Tryz.func47, Tryz.ntmps47
    go_wp2
    go_ret
    exact ⟨rbool (by simp), rfl⟩
  · rw [decide_eq_false h] at hm ⊢
    clear h
    go_enter Tryz.func47, Tryz.ntmps47
    go_wp2
    go_ret
    exact ⟨rbool (by simp), rfl⟩
theorem specSideOf_any (n : Int) (w : World) : Calls Tryz.prog 34 #[.int .i64 n] w fun e w' => e = .returned (.int .i64 (sideN n)) ∧ w = w' := by
  by_cases h : n % 2 = 0
  · have E := Lib.hid (show sideN n = 0 by unfold sideN; rw [if_pos h])
    have D := Lib.hid (decide_eq_true h)
    clear h
    go_enter Tryz.func34, Tryz.ntmps34
    go_wp2_with (go_at_call 47; refine (l5Odd_any _ _).mono ?_; rintro e w' ⟨rfl, rfl⟩; rw [D.out])
    go_ret
    exact ⟨rint E.out.symm, rfl⟩
  · have E := Lib.hid (show sideN n = 1 by unfold sideN; rw [if_neg h])
    have D := Lib.hid (decide_eq_false h)
    clear h
    go_enter Tryz.func34, Tryz.ntmps34
    go_wp2_with (go_at_call 47; refine (l5Odd_any _ _).mono ?_; rintro e w' ⟨rfl, rfl⟩; rw [D.out])
    go_ret
    exact ⟨rint E.out.symm, rfl⟩
theorem specSideOf_val (n : Int) (w : World) (_ : (Lit.int .i64 n).wf = true) : Calls Tryz.prog 34 #[.int .i64 n] w fun e w' => e = .returned (.int .i64 (sideN n)) ∧ Below w.heap.size w w' :=
  (specSideOf_any n w).mono fun _ _ ⟨he, hw⟩ => ⟨he, by subst hw; exact Below.refl _ _⟩
theorem l1Max_any (a b : Int) (w : World) : Calls Tryz.prog 35 #[.int .i64 a, .int .i64 b] w fun e w' => e = .returned (.int .i64 (mx a b)) ∧ w = w' := by
  by_cases h : b < a
  · have E := Lib.hid (show mx a b = a by unfold mx; rw [if_pos h])
    go_enter Tryz.func35, Tryz.ntmps35
    go_wp2
    go_ret
    exact ⟨rint E.out.symm, rfl⟩
  · have E := Lib.hid (show mx a b = b by unfold mx; rw [if_neg h])
    go_enter Tryz.func35, Tryz.ntmps35
    go_wp2
    go_ret
    exact ⟨rint E.out.symm, rfl⟩

set_option maxRecDepth 100000 in
set_option maxHeartbeats 1000000 in
theorem keptAmong_any (A : Option Addr) (ls : List Int) (c : Nat) (w : World) (B : Nat) (h1 : Rd w B A (nums .i64 ls)) (hB : B ≤ w.heap.size) (hl : ls.length ≤ 600) :
    Calls Tryz.prog 100 #[.slice A ls.length c] w fun e w' => (∃ v, e = .returned v ∧ Own w' w.heap.size w'.heap.size 2 .i64 v (keptL ls)) ∧ Below w.heap.size w w' := by
  obtain ⟨i0, hi, hz0, hz1, hz2⟩ := info_parts info_int64
  have H1 := Lib.hid h1
  clear h1
  obtain ⟨n, hn⟩ : ∃ n, Hid (n = ls.length) := ⟨_, Lib.hid rfl⟩
  rw [← hn.out] at hl ⊢
  have O0 : Hid (w.ownsRow w.heap.size 2 1 (.slice none 0 0) (keptN ls 0).length (nums .i64 (keptN ls 0))) := Lib.hid (World.ownsRow_nil _ _ _ _)
  have B0 := Lib.hid (Below.refl w.heap.size w)
  go_enter Tryz.func100, Tryz.ntmps100
  go_wp2
  go_loopw [3, 8] (fun v i wr => ∃ k : Nat, k ≤ n ∧ i = .int .i64 k ∧ Hid (wr.ownsRow w.heap.size 2 1 v (keptN ls k).length (nums .i64 (keptN ls k))) ∧ Hid (Below w.heap.size w wr)) (fun _ i _ => n - (intOf i).toNat)
  case atStart => exact ⟨0, by omega, rfl, O0, B0⟩
  case round =>
    clear O0 B0
    obtain ⟨k, hk, rfl, ho, hbr⟩ := hrel
    by_cases hlt : k < n
    · obtain ⟨b, off, rfl, hb, hc⟩ := (H1.out.below hbr.out (by omega)).int (by rw [← hn.out]; omega)
      have hc0 := hc k (by rw [← hn.out]; exact hlt)
      have kl := keptN_len ls k
      clear hc
      by_cases hg : nth ls k = -1
      · have E := Lib.hid (keptN_gone hg)
        rw [hg] at hc0
        have HO := Lib.hid (show wr.ownsRow w.heap.size 2 1 _ (keptN ls (k + 1)).length (nums .i64 (keptN ls (k + 1))) by rw [E.out]; exact ho.out)
        clear hg ho
        go_wp2
        go_roundw
        case rel => exact ⟨k + 1, by omega, by go_num, HO, hbr⟩
        case measure => first | omega | (simp [intOf]; omega)
      · have E := Lib.hid (keptN_kept hg)
        have hne : (nth ls k != -1) = true := by simpa using hg
        obtain ⟨q, hq⟩ : ∃ q, Hid (q = nth ls k) := ⟨_, Lib.hid rfl⟩
        rw [← hq.out] at hc0 hne
        clear hg
        go_wp2_with (at_builtin; go_loud (refine wpList_app rfl _ _ _ rfl w.heap.size Tryz.underlying22 hi hz0 hz1 hz2 rfl (by omega) rfl (ho.out.alloc _) rfl (Rd.lit wr #[.int .i64 k] _) (m := 1) rfl (nums_one .i64 [(k : Int)]) (by omega) (by omega) (by have := hbr.out.size; simp; omega) ?_); intro v' w5 o5 g5 a5; obtain ⟨A5, c5, rfl⟩ := own_form o5)
        have gg : wr.grownBy w5 _ := (World.grownBy_alloc wr _ _).trans g5
        have P5 : Hid (w5.ownsRow w.heap.size 2 1 (.slice A5 ((keptN ls k).length + 1) c5) (keptN ls (k + 1)).length (nums .i64 (keptN ls (k + 1)))) := Lib.hid (by rw [E.out]; exact own_app1 o5 rfl)
        have B5 := Lib.hid (hbr.out.grown gg hbr.out.size (fun b hb => (ho.out.lt b hb).1))
        clear o5 g5 a5 gg ho
        go_roundw
        case rel => exact ⟨k + 1, by omega, by go_num, P5, B5⟩
        case measure => first | omega | (simp [intOf]; omega)
    · have e : k = ls.length := by rw [← hn.out]; omega
      have HO := Lib.hid (show Own wr w.heap.size wr.heap.size 2 .i64 _ (keptL ls) from Own.mk_ (by have := ho.out; rw [e] at this; exact this) rfl)
      obtain ⟨A5, c5, rfl⟩ := own_form ho.out
      clear e ho
      go_wp2
      go_ret
      exact ⟨⟨_, rfl, HO.out⟩, hbr.out⟩
end Go.Proofs.YtcfnhjpmihngdaaGreat

namespace Go.Proofs.YtcfnhjpmihngdaaGreat
open Go.RowKit Go.Maps

def idxI (R : List (List Int)) (p : Int) : Int := match idxR R p with | some i => (i : Int) | none => -1
theorem idxI_in {R : List (List Int)} {p : Int} {k : Nat} (h : k < R.length) (hp : p ∈ nthL R k) : idxI (R.drop k) p = 0 := by
  rw [drop_nthL R k h]; unfold idxI; rw [idxR_cons, if_pos hp]; rfl
theorem idxI_out {R : List (List Int)} {p : Int} {k : Nat} (h : k < R.length) (hp : p ∉ nthL R k) : idxI (R.drop k) p = if idxI (R.drop (k + 1)) p = -1 then -1 else idxI (R.drop (k + 1)) p + 1 := by
  rw [drop_nthL R k h]; unfold idxI; rw [idxR_cons, if_neg hp]
  cases idxR (R.drop (k + 1)) p with
  | none => simp
  | some i =>
    simp only [Option.map_some]
    rw [if_neg (by omega)]
    omega
theorem idxI_low (R : List (List Int)) (p : Int) : -1 ≤ idxI R p := by unfold idxI; split <;> omega
/-- the answer, told from k on -/
def withN (R : List (List Int)) (p : Int) (k : Nat) : Int := if idxI (R.drop k) p = -1 then -1 else idxI (R.drop k) p + k
theorem withN_in {R : List (List Int)} {p : Int} {k : Nat} (h : k < R.length) (hp : p ∈ nthL R k) : withN R p k = k := by unfold withN; rw [idxI_in h hp, if_neg (by omega)]; omega
theorem withN_out {R : List (List Int)} {p : Int} {k : Nat} (h : k < R.length) (hp : p ∉ nthL R k) : withN R p k = withN R p (k + 1) := by
  have l := idxI_low (R.drop (k + 1)) p
  unfold withN; rw [idxI_out h hp]
  by_cases e : idxI (R.drop (k + 1)) p = -1
  · rw [if_pos e, if_pos rfl, if_pos e]
  · rw [if_neg e, if_neg (by omega), if_neg e]; omega
theorem withN_end (R : List (List Int)) (p : Int) (k : Nat) (h : R.length ≤ k) : withN R p k = -1 := by unfold withN; rw [List.drop_of_length_le h]; rfl
theorem withN_zero (R : List (List Int)) (p : Int) : withN R p 0 = idxI R p := by
  have l := idxI_low R p
  unfold withN
  rw [List.drop_zero]
  split <;> omega
theorem mem_drop_at {xs : List Int} {j : Nat} (h : j < xs.length) (p : Int) (hx : nth xs j ≠ p) (hm : p ∉ xs.take j) : p ∉ xs.take (j + 1) := by
  rw [take_nth xs j h]
  intro hc
  rcases List.mem_append.1 hc with hc | hc
  · exact hm hc
  · simp at hc; exact hx hc.symm

set_option maxRecDepth 100000 in
set_option maxHeartbeats 2000000 in
theorem l5With_any (v : Value) (R : List (List Int)) (p : Int) (w : World) (B : Nat) (h : SeesSS w B .i64 v R) (hR : ∀ q ∈ R, q.length ≤ 600) (hl : R.length ≤ 600) :
    Calls Tryz.prog 32 #[v, .int .i64 p] w fun e w' => e = .returned (.int .i64 (idxI R p)) ∧ w = w' := by
  have RR := Lib.hid h
  have HR := Lib.hid hR
  obtain ⟨usR, ⟨AR, cR, rfl, _⟩, _⟩ := h
  rw [← withN_zero]
  obtain ⟨ans, hans⟩ : ∃ ans, Hid (ans = withN R p 0) := ⟨_, Lib.hid rfl⟩
  rw [← hans.out]
  clear hR
  go_enter Tryz.func32, Tryz.ntmps32
  go_wp2
  go_loop [5] (fun i => ∃ k : Nat, k ≤ R.length ∧ i = .int .i64 k ∧ Hid (ans = withN R p k)) (fun i => R.length + 1 - (intOf i).toNat)
  case atStart => exact ⟨0, by omega, rfl, hans⟩
  case round =>
    clear hans
    obtain ⟨k, hk, rfl, hs⟩ := hrel
    by_cases hlt : k < R.length
    · obtain ⟨bR, oR, cR', u, e1, hbR, hcu, su⟩ := RR.out.at_ k hlt
      cases e1
      have ql := HR.out _ (nthL_mem hlt)
      have FI := Lib.hid (fun hp => withN_in (R := R) (p := p) (k := k) hlt hp)
      have FO := Lib.hid (fun hp => withN_out (R := R) (p := p) (k := k) hlt hp)
      obtain ⟨q, hq⟩ : ∃ q, Hid (q = nthL R k) := ⟨_, Lib.hid rfl⟩
      rw [← hq.out] at su ql FI FO
      obtain ⟨Au, cu, rfl, ru⟩ := su
      have RU := Lib.hid ru
      have Z0 := Lib.hid (show p ∉ q.take 0 by simp)
      clear ru
      go_wp2
      go_loop [6] (fun i => ∃ j : Nat, j ≤ q.length ∧ i = .int .i64 j ∧ Hid (p ∉ q.take j)) (fun i => q.length + 1 - (intOf i).toNat)
      case atStart => exact ⟨0, by omega, rfl, Z0⟩
      case round =>
        clear Z0
        obtain ⟨j, hj, rfl, hz⟩ := hrel
        by_cases hjl : j < q.length
        · obtain ⟨bq, oq, rfl, _, hcq⟩ := RU.out.int (by omega)
          have hc0 := hcq j hjl
          have NM := Lib.hid (show nth q j ∈ q from nth_mem hjl)
          have MD := Lib.hid (fun hx => mem_drop_at hjl p hx hz.out)
          obtain ⟨x, hx⟩ : ∃ x, Hid (x = nth q j) := ⟨_, Lib.hid rfl⟩
          rw [← hx.out] at hc0 NM MD
          clear hcq
          by_cases hxp : x = p
          · have hxe : (x == p) = true := by simp [hxp]
            have E := Lib.hid (show ans = (k : Int) by rw [hs.out]; exact FI.out (by rw [← hxp]; exact NM.out))
            clear hxp
            go_wp2
            go_ret
            exact ⟨rint E.out.symm, rfl⟩
          · have hxe : (x == p) = false := by simpa using hxp
            have E := Lib.hid (MD.out hxp)
            clear hxp
            go_wp2
            go_round
            case rel => exact ⟨j + 1, by omega, by go_num, E⟩
            case measure => first | omega | (simp [intOf]; omega)
        · have E := Lib.hid (show ans = withN R p (k + 1) by rw [hs.out]; exact FO.out (by have := hz.out; rwa [List.take_of_length_le (by omega)] at this))
          go_wp2
          go_round
          case rel => exact ⟨k + 1, by omega, by go_num, E⟩
          case measure => first | omega | (simp [intOf]; omega)
    · have E := Lib.hid (show ans = -1 by rw [hs.out]; exact withN_end R p k (by omega))
      go_wp2
      go_ret
      exact ⟨rint E.out.symm, rfl⟩
set_option maxRecDepth 100000 in
set_option maxHeartbeats 1000000 in
theorem l5Kept_back (A : Option Addr) (ls : List Int) (c : Nat) (b : Int) (w : World) (B : Nat) (h1 : Rd w B A (nums .i64 ls)) (hl : ls.length ≤ 600) (p : Nat) (hp : p ≤ ls.length) :
    Calls Tryz.prog 33 #[.slice A ls.length c, .int .i64 ((p : Int) - 1), .int .i64 (-1), .int .i64 b] w fun e w' => e = .returned (.int .i64 (aheadN ls b p)) ∧ w = w' := by
  have H1 := Lib.hid h1
  clear h1
  obtain ⟨ans, hans⟩ : ∃ ans, Hid (ans = aheadN ls b p) := ⟨_, Lib.hid rfl⟩
  rw [← hans.out]
  go_enter Tryz.func33, Tryz.ntmps33
  go_wp2
  go_loop [1] (fun i => ∃ k : Nat, k ≤ ls.length ∧ i = .int .i64 ((k : Int) - 1) ∧ Hid (ans = aheadN ls b k)) (fun i => (intOf i + 1).toNat)
  case atStart => exact ⟨p, hp, rfl, hans⟩
  case round =>
    clear hans
    obtain ⟨k, hk, rfl, hs⟩ := hrel
    cases k with
    | zero =>
      have E := Lib.hid (show ans = b from hs.out)
      go_wp2
      go_ret
      exact ⟨rint E.out.symm, rfl⟩
    | succ k =>
      have hlt : k < ls.length := by omega
      obtain ⟨bb, oo, rfl, _, hc⟩ := H1.out.int (by omega)
      have hc0 := hc k hlt
      have AS := Lib.hid (show aheadN ls b (k + 1) = if nth ls k = -1 then aheadN ls b k else nth ls k from rfl)
      obtain ⟨x, hx⟩ : ∃ x, Hid (x = nth ls k) := ⟨_, Lib.hid rfl⟩
      rw [← hx.out] at hc0 AS
      have ek : (((k + 1 : Nat) : Int) - 1) = (k : Int) := by omega
      rw [ek]
      clear hc
      by_cases hg : x = -1
      · have hge : (x != -1) = false := by simp [hg]
        have E := Lib.hid (show ans = aheadN ls b k by rw [hs.out, AS.out, if_pos hg])
        clear hg
        go_wp2
        go_round
        case rel => exact ⟨k, by omega, by first | rfl | go_num, E⟩
        case measure => simp [intOf]; omega
      · have hge : (x != -1) = true := by simpa using hg
        have E := Lib.hid (show ans = x by rw [hs.out, AS.out, if_neg hg])
        clear hg
        go_wp2
        go_ret
        exact ⟨rint E.out.symm, rfl⟩
set_option maxRecDepth 100000 in
set_option maxHeartbeats 1000000 in
theorem l5Kept_on (A : Option Addr) (ls : List Int) (c : Nat) (b : Int) (w : World) (B : Nat) (h1 : Rd w B A (nums .i64 ls)) (hl : ls.length ≤ 600) (p : Nat) (hp : p < ls.length) :
    Calls Tryz.prog 33 #[.slice A ls.length c, .int .i64 ((p : Int) + 1), .int .i64 1, .int .i64 b] w fun e w' => e = .returned (.int .i64 (firstK b (ls.drop (p + 1)))) ∧ w = w' := by
  have H1 := Lib.hid h1
  clear h1
  obtain ⟨ans, hans⟩ : ∃ ans, Hid (ans = firstK b (ls.drop (p + 1))) := ⟨_, Lib.hid rfl⟩
  rw [← hans.out]
  go_enter Tryz.func33, Tryz.ntmps33
  go_wp2
  go_loop [1] (fun i => ∃ k : Nat, k ≤ ls.length ∧ i = .int .i64 k ∧ Hid (ans = firstK b (ls.drop k))) (fun i => ls.length + 1 - (intOf i).toNat)
  case atStart => exact ⟨p + 1, by omega, by simp, hans⟩
  case round =>
    clear hans
    obtain ⟨k, hk, rfl, hs⟩ := hrel
    by_cases hlt : k < ls.length
    · obtain ⟨bb, oo, rfl, _, hc⟩ := H1.out.int (by omega)
      have hc0 := hc k hlt
      have FS := Lib.hid (show firstK b (ls.drop k) = if nth ls k = -1 then firstK b (ls.drop (k + 1)) else nth ls k by rw [drop_nth ls k hlt]; rfl)
      obtain ⟨x, hx⟩ : ∃ x, Hid (x = nth ls k) := ⟨_, Lib.hid rfl⟩
      rw [← hx.out] at hc0 FS
      clear hc
      by_cases hg : x = -1
      · have hge : (x != -1) = false := by simp [hg]
        have E := Lib.hid (show ans = firstK b (ls.drop (k + 1)) by rw [hs.out, FS.out, if_pos hg])
        clear hg
        go_wp2
        go_round
        case rel => exact ⟨k + 1, by omega, by go_num, E⟩
        case measure => first | omega | (simp [intOf]; omega)
      · have hge : (x != -1) = true := by simpa using hg
        have E := Lib.hid (show ans = x by rw [hs.out, FS.out, if_neg hg])
        clear hg
        go_wp2
        go_ret
        exact ⟨rint E.out.symm, rfl⟩
    · have E := Lib.hid (show ans = b by rw [hs.out, List.drop_of_length_le (by omega)]; rfl)
      go_wp2
      go_ret
      exact ⟨rint E.out.symm, rfl⟩
end Go.Proofs.YtcfnhjpmihngdaaGreat
