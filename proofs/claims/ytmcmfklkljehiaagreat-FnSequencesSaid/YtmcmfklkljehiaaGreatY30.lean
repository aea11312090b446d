/- Chapter 5: the program's runs. -/
import Derived.Test.YtmcmfklkljehiaaGreatY29
import Derived.Test.YtmcmfklkljehiaaGreatY28
import Derived.Test.YtmcmfklkljehiaaGreatY08
import Derived.Test.YtmcmfklkljehiaaGreatY11
import Derived.WalkMore
import Derived.BigQuiet
namespace Go.Proofs.YtmcmfklkljehiaaGreat
open Go.RowKit

section
variable {ks : List Int} {b : Int}
/-- where a run goes on, there another begins that is of its level -/
theorem next_run (hb : 0 ≤ b ∧ b ≤ 1) {r q : List Int} (hr : r ∈ runsN (levN ks b)) (he : nextR (matchN ks) (runsN (levN ks b)) r = q) (hn : q.length ≠ 0) :
    q ∈ runsN (levN ks b) ∧ nth (matchN ks) (lastOf r).toNat = nth q 0 ∧ lastOf r < nth q 0 ∧ lev (levN ks b) (lastOf r) = lev (levN ks b) (nth q 0) ∧ beginsN (matchN ks) q = false := by
  have rf := run_facts hr
  have il := lastOf_mem rf.pos
  have hl := rf.bound _ il
  unfold nextR at he
  split at he
  · rw [← he] at hn; simp at hn
  · rename_i hlt
    unfold findR at he
    cases h : idxR (runsN (levN ks b)) (nth (matchN ks) (lastOf r).toNat) with
    | none => rw [h] at he; simp only at he; rw [← he] at hn; simp at hn
    | some k =>
      rw [h] at he
      simp only at he
      have is := idxR_some h
      rw [he] at is
      have hq : q ∈ runsN (levN ks b) := by rw [← he]; exact nthL_mem is.1
      have mb := match_back ks (lastOf r).toNat (by omega)
      have mk := match_kind ks (lastOf r).toNat (by omega)
      rcases mk with mk | ⟨_, mk⟩ | ⟨ho, mk⟩
      · omega
      · omega
      · have e : (((nth (matchN ks) (lastOf r).toNat).toNat : Nat) : Int) = nth (matchN ks) (lastOf r).toNat := by omega
        have e2 : (((lastOf r).toNat : Nat) : Int) = lastOf r := by omega
        rcases pair_runs hb (i := (lastOf r).toNat) (j := (nth (matchN ks) (lastOf r).toNat).toNat) (by omega) (by omega) (by omega) ho e.symm hr hq (by rw [e2]; exact il) (by rw [e]; exact is.2) with h2 | ⟨_, h3, h4⟩
        · exfalso
          subst h2
          have := (rise_first (runsN_rise _ _ hr) is.2).2
          omega
        · rw [e] at h3 h4
          rw [e2] at h4
          refine ⟨hq, h3.symm, by omega, by rw [h3]; exact h4, ?_⟩
          unfold beginsN
          have : nth (matchN ks) (nth (matchN ks) (lastOf r).toNat).toNat = (lastOf r).toNat := by rcases mb with h | h <;> first | omega | exact h.2.2.2
          rw [h3, this]
          simp; omega
theorem next_inj (hb : 0 ≤ b ∧ b ≤ 1) {r1 r2 q : List Int} (h1 : r1 ∈ runsN (levN ks b)) (h2 : r2 ∈ runsN (levN ks b)) (e1 : nextR (matchN ks) (runsN (levN ks b)) r1 = q) (e2 : nextR (matchN ks) (runsN (levN ks b)) r2 = q) (hn : q.length ≠ 0) : r1 = r2 := by
  have n1 := next_run hb h1 e1 hn
  have n2 := next_run hb h2 e2 hn
  have l1 := lastOf_mem (run_facts h1).pos
  have l2 := lastOf_mem (run_facts h2).pos
  have b1 := (run_facts h1).bound _ l1
  have b2 := (run_facts h2).bound _ l2
  have m1 := match_back ks (lastOf r1).toNat (by omega)
  have m2 := match_back ks (lastOf r2).toNat (by omega)
  rw [n1.2.1] at m1
  rw [n2.2.1] at m2
  have e : lastOf r1 = lastOf r2 := by
    rcases m1 with h | ⟨_, _, _, h⟩
    · omega
    · rcases m2 with h' | ⟨_, _, _, h'⟩
      · omega
      · omega
  exact runs_one h1 h2 l1 (by rw [e]; exact l2)
/-- what does not begin is gone on with -/
theorem pred_run (hb : 0 ≤ b ∧ b ≤ 1) {r : List Int} (hr : r ∈ runsN (levN ks b)) (hg : beginsN (matchN ks) r = false) :
    ∃ p ∈ runsN (levN ks b), nextR (matchN ks) (runsN (levN ks b)) p = r ∧ lastOf p < lastOf r := by
  have rf := run_facts hr
  have f0 : nth r 0 ∈ r := nth_mem rf.pos
  have hl := rf.bound _ f0
  have hk : nth ks (nth r 0).toNat = 22 ∧ 0 ≤ nth (matchN ks) (nth r 0).toNat := (begins_kind hl).2 hg
  obtain ⟨ia, hi⟩ : ∃ ia : Nat, nth (matchN ks) (nth r 0).toNat = ia := ⟨(nth (matchN ks) (nth r 0).toNat).toNat, by omega⟩
  have ej : (((nth r 0).toNat : Nat) : Int) = nth r 0 := by omega
  have mk := match_kind ks (nth r 0).toNat (by omega)
  have mb := match_back ks (nth r 0).toNat (by omega)
  have hij : ia < (nth r 0).toNat := by
    rcases mk with h | ⟨_, _, h⟩ | ⟨h, _⟩
    · omega
    · omega
    · unfold isOp at h; omega
  have back : nth (matchN ks) ia = (nth r 0).toNat := by
    rcases mb with h | ⟨_, _, _, h⟩
    · omega
    · rw [hi] at h; simpa using h
  have ho : isOp (nth ks ia) := by
    rcases match_kind ks ia (by omega) with h | ⟨_, h⟩ | ⟨h, _⟩
    · omega
    · omega
    · exact h
  obtain ⟨k, hp⟩ := match_kept hb (p := (nth r 0).toNat) (by omega) (ks := ks) (by omega)
  rw [hi] at hp
  have is := idxR_some hp
  have hpr := nthL_mem is.1
  rcases pair_runs hb (i := ia) (j := (nth r 0).toNat) (by omega) (by omega) hij ho back hpr hr is.2 (by rw [ej]; exact f0) with h | ⟨h1, _, _⟩
  · exfalso
    rw [h] at is
    have := (rise_first (runsN_rise _ _ hr) is.2).1
    omega
  · refine ⟨nthL (runsN (levN ks b)) k, hpr, ?_, by have := (rise_first (runsN_rise _ _ hr) f0).2; omega⟩
    unfold nextR
    rw [h1]
    rw [show ((ia : Nat) : Int).toNat = ia by simp, back, ej, if_neg (by omega)]
    obtain ⟨m, hm⟩ := kept_in_run (ks := ks) (b := b) (p := (nth r 0).toNat) (by omega) (lev_kept hb (by omega) (.inr hk.1))
    rw [ej] at hm
    unfold findR
    rw [hm]
    have im := idxR_some hm
    exact runs_one (nthL_mem im.1) hr im.2 f0

/-! chains of runs -/
def cR (nx : List Int → List Int) : Nat → List Int → List (List Int)
  | 0, _ => []
  | f + 1, r => if r.length = 0 then [] else r :: cR nx f (nx r)
theorem cR_cons (nx : List Int → List Int) (f : Nat) (r : List Int) (h : r.length ≠ 0) : cR nx (f + 1) r = r :: cR nx f (nx r) := by show (if _ then _ else _) = _; rw [if_neg h]
theorem cR_nil (nx : List Int → List Int) (f : Nat) (r : List Int) (h : r.length = 0) : cR nx f r = [] := by
  cases f with
  | zero => rfl
  | succ f => show (if _ then _ else _) = _; rw [if_pos h]
theorem chain_flat (nx : List Int → List Int) : ∀ (f : Nat) (r : List Int), chain nx f r = (cR nx f r).flatten
  | 0, _ => rfl
  | f + 1, r => by
    by_cases h : r.length = 0
    · rw [cR_nil _ _ _ h, List.eq_nil_of_length_eq_zero h, chain_nil]; rfl
    · rw [chain_cons _ _ _ h, cR_cons _ _ _ h, chain_flat nx f]; rfl
def nxtR (ks : List Int) (b : Int) (r : List Int) : List Int := nextR (matchN ks) (runsN (levN ks b)) r
theorem cR_runs (hb : 0 ≤ b ∧ b ≤ 1) : ∀ (f : Nat) (r : List Int), (r.length = 0 ∨ r ∈ runsN (levN ks b)) → ∀ q ∈ cR (nxtR ks b) f r, q ∈ runsN (levN ks b)
  | 0, _, _, q, h => by simp [cR] at h
  | f + 1, r, hr, q, h => by
    by_cases h0 : r.length = 0
    · rw [cR_nil _ _ _ h0] at h; simp at h
    · rw [cR_cons _ _ _ h0] at h
      have hr := hr.resolve_left h0
      rcases List.mem_cons.1 h with h | h
      · rw [h]; exact hr
      · refine cR_runs hb f _ ?_ q h
        by_cases h1 : (nxtR ks b r).length = 0
        · exact .inl h1
        · exact .inr (next_run hb hr rfl h1).1
/-- a chain rises and is of one level -/
theorem chain_rise (hb : 0 ≤ b ∧ b ≤ 1) : ∀ (f : Nat) (r : List Int), r ∈ runsN (levN ks b) →
    (chain (nxtR ks b) f r).Pairwise (· < ·) ∧ ∀ x ∈ chain (nxtR ks b) f r, nth r 0 ≤ x ∧ x < ks.length ∧ lev (levN ks b) x = lev (levN ks b) (nth r 0)
  | 0, _, _ => ⟨List.Pairwise.nil, fun x h => by simp [chain] at h⟩
  | f + 1, r, hr => by
    have rf := run_facts hr
    have f0 : nth r 0 ∈ r := nth_mem rf.pos
    have il := lastOf_mem rf.pos
    have rise := runsN_rise _ _ hr
    have own : ∀ x ∈ r, nth r 0 ≤ x ∧ x < ks.length ∧ lev (levN ks b) x = lev (levN ks b) (nth r 0) := fun x hx => ⟨(rise_first rise hx).1, (rf.bound x hx).2, (runsN_each _ _ hr).2 _ hx _ f0⟩
    rw [chain_cons _ _ _ (by have := rf.pos; omega)]
    by_cases h1 : (nxtR ks b r).length = 0
    · rw [List.eq_nil_of_length_eq_zero h1, chain_nil, List.append_nil]
      exact ⟨rise, own⟩
    · obtain ⟨n1, n2, n3, n4, _⟩ := next_run hb hr rfl h1
      obtain ⟨i1, i2⟩ := chain_rise hb f _ n1
      refine ⟨List.pairwise_append.2 ⟨rise, i1, fun x hx y hy => ?_⟩, fun x hx => ?_⟩
      · have h2 := (i2 y hy).1
        have h3 := (rise_first rise hx).2
        have h4 : lastOf r < nth (nxtR ks b r) 0 := n3
        have h5 : nth (nxtR ks b r) 0 ≤ y := h2
        omega
      · rcases List.mem_append.1 hx with hx | hx
        · exact own x hx
        · have h2 := i2 x hx
          have h4 : lastOf r < nth (nxtR ks b r) 0 := n3
          have h5 : nth (nxtR ks b r) 0 ≤ x := h2.1
          have h6 := (rise_first rise il).1
          refine ⟨by omega, h2.2.1, h2.2.2.trans ?_⟩
          exact n4.symm.trans ((runsN_each _ _ hr).2 _ il _ f0)
theorem cR_back : ∀ (f : Nat) (r q : List Int), q ∈ cR (nxtR ks b) f r → q = r ∨ ∃ p ∈ cR (nxtR ks b) f r, nxtR ks b p = q
  | 0, _, q, h => by simp [cR] at h
  | f + 1, r, q, h => by
    by_cases h0 : r.length = 0
    · rw [cR_nil _ _ _ h0] at h; simp at h
    · rw [cR_cons _ _ _ h0] at h ⊢
      rcases List.mem_cons.1 h with h | h
      · exact .inl h
      · rcases cR_back f _ q h with e | ⟨p, hp, e⟩
        · exact .inr ⟨r, by simp, e.symm⟩
        · exact .inr ⟨p, by simp [hp], e⟩
/-- two chains that meet begin with the same run -/
theorem cR_meet (hb : 0 ≤ b ∧ b ≤ 1) {r1 r2 : List Int} (h1 : r1 ∈ runsN (levN ks b)) (h2 : r2 ∈ runsN (levN ks b)) (g1 : beginsN (matchN ks) r1 = true) (g2 : beginsN (matchN ks) r2 = true) (f1 f2 : Nat) :
    ∀ (n : Nat) (q : List Int), lastOf q < n → q ∈ cR (nxtR ks b) f1 r1 → q ∈ cR (nxtR ks b) f2 r2 → r1 = r2
  | 0, q, hn, m1, _ => by
    have := (run_facts (cR_runs hb f1 r1 (.inr h1) q m1)).bound _ (lastOf_mem (run_facts (cR_runs hb f1 r1 (.inr h1) q m1)).pos)
    omega
  | n + 1, q, hn, m1, m2 => by
    have hq := cR_runs hb f1 r1 (.inr h1) q m1
    have pos := (run_facts hq).pos
    rcases cR_back f1 r1 q m1 with e1 | ⟨p1, p1m, e1⟩
    · rcases cR_back f2 r2 q m2 with e2 | ⟨p2, p2m, e2⟩
      · exact e1.symm.trans e2
      · have := (next_run hb (cR_runs hb f2 r2 (.inr h2) p2 p2m) e2 (by omega)).2.2.2.2
        rw [e1, g1] at this; cases this
    · rcases cR_back f2 r2 q m2 with e2 | ⟨p2, p2m, e2⟩
      · have := (next_run hb (cR_runs hb f1 r1 (.inr h1) p1 p1m) e1 (by omega)).2.2.2.2
        rw [e2, g2] at this; cases this
      · have k1 := cR_runs hb f1 r1 (.inr h1) p1 p1m
        have k2 := cR_runs hb f2 r2 (.inr h2) p2 p2m
        have e := next_inj hb k1 k2 e1 e2 (by omega)
        subst e
        have lt := (next_run hb k1 e1 (by omega)).2.2.1
        have := (rise_first (runsN_rise _ _ hq) (nth_mem pos)).2
        exact cR_meet hb h1 h2 g1 g2 f1 f2 n p1 (by omega) p1m p2m
theorem cR_on (hb : 0 ≤ b ∧ b ≤ 1) : ∀ (f : Nat) (r q : List Int), r ∈ runsN (levN ks b) → (ks.length : Int) - lastOf r ≤ f → q ∈ cR (nxtR ks b) f r → (nxtR ks b q).length ≠ 0 → nxtR ks b q ∈ cR (nxtR ks b) f r
  | 0, _, q, _, _, h, _ => by simp [cR] at h
  | f + 1, r, q, hr, hf, h, hn => by
    have rf := run_facts hr
    rw [cR_cons _ _ _ (by have := rf.pos; omega)] at h ⊢
    have step : (nxtR ks b r).length ≠ 0 → nxtR ks b r ∈ runsN (levN ks b) ∧ (ks.length : Int) - lastOf (nxtR ks b r) ≤ f ∧ lastOf (nxtR ks b r) < ks.length := by
      intro h1
      obtain ⟨n1, _, n3, _⟩ := next_run hb hr rfl h1
      have n3' : lastOf r < nth (nxtR ks b r) 0 := n3
      have n1' : nxtR ks b r ∈ runsN (levN ks b) := n1
      have := (rise_first (runsN_rise _ _ n1') (nth_mem (run_facts n1').pos)).2
      have := (run_facts n1').bound _ (lastOf_mem (run_facts n1').pos)
      exact ⟨n1', by omega, by omega⟩
    rcases List.mem_cons.1 h with h | h
    · subst h
      obtain ⟨s1, s2, s3⟩ := step hn
      obtain ⟨f', rfl⟩ : ∃ f', f = f' + 1 := ⟨f - 1, by omega⟩
      rw [cR_cons _ _ _ hn]; simp
    · by_cases h1 : (nxtR ks b r).length = 0
      · rw [cR_nil _ _ _ h1] at h; simp at h
      · obtain ⟨s1, s2, _⟩ := step h1
        exact List.mem_cons_of_mem _ (cR_on hb f _ q s1 s2 h hn)
/-- each run is in a chain -/
theorem cR_all (hb : 0 ≤ b ∧ b ≤ 1) : ∀ (n : Nat) (r : List Int), lastOf r < n → r ∈ runsN (levN ks b) → ∃ r0 ∈ runsN (levN ks b), beginsN (matchN ks) r0 = true ∧ r ∈ cR (nxtR ks b) ks.length r0
  | 0, r, hn, hr => by
    have := (run_facts hr).bound _ (lastOf_mem (run_facts hr).pos)
    omega
  | n + 1, r, hn, hr => by
    have rf := run_facts hr
    have bd := rf.bound _ (lastOf_mem rf.pos)
    cases hg : beginsN (matchN ks) r with
    | true =>
      refine ⟨r, hr, hg, ?_⟩
      obtain ⟨m, hm⟩ : ∃ m, ks.length = m + 1 := ⟨ks.length - 1, by omega⟩
      rw [hm, cR_cons _ _ _ (by have := rf.pos; omega)]; simp
    | false =>
      obtain ⟨p, hp, e, hlt⟩ := pred_run hb hr hg
      obtain ⟨r0, h0, g0, hm⟩ := cR_all hb n p (by omega) hp
      have := cR_on hb ks.length r0 p h0 (by have := (run_facts h0).bound _ (lastOf_mem (run_facts h0).pos); omega) hm (by show (nextR _ _ p).length ≠ 0; rw [e]; have := rf.pos; omega)
      have e' : nxtR ks b p = r := e
      rw [e'] at this
      exact ⟨r0, h0, g0, this⟩

/-! all sequences -/
theorem seq_mem {q : Sq} (hq : q ∈ seqsN ks b) : ∃ r ∈ runsN (levN ks b), beginsN (matchN ks) r = true ∧ q.places = chain (nxtR ks b) ks.length r ∧ q.level = lev (levN ks b) (nth r 0) ∧ (q.sos = 0 ∨ q.sos = 1) ∧ (q.eos = 0 ∨ q.eos = 1) := by
  have side : ∀ n, sideN n = 0 ∨ sideN n = 1 := fun n => by unfold sideN; split <;> simp
  unfold seqsN sqsOf at hq
  obtain ⟨r, hr, e⟩ := List.mem_map.1 hq
  have := List.mem_filter.1 hr
  subst e
  refine ⟨r, this.1, this.2, ?_, rfl, side _, side _⟩
  show chain _ (levN ks b).length r = _
  rw [levN_len]; rfl
/-- what stands in a sequence -/
theorem seq_facts (hb : 0 ≤ b ∧ b ≤ 1) {q : Sq} (hq : q ∈ seqsN ks b) : q.places.Pairwise (· < ·) ∧ (∀ x ∈ q.places, 0 ≤ x ∧ x < ks.length ∧ lev (levN ks b) x = q.level) ∧ (q.sos = 0 ∨ q.sos = 1) ∧ (q.eos = 0 ∨ q.eos = 1) := by
  obtain ⟨r, hr, _, e1, e2, s1, s2⟩ := seq_mem hq
  obtain ⟨h1, h2⟩ := chain_rise hb ks.length r hr
  have f0 := (run_facts hr).bound _ (nth_mem (run_facts hr).pos)
  rw [e1, e2]
  exact ⟨h1, fun x hx => ⟨by have := (h2 x hx).1; omega, (h2 x hx).2⟩, s1, s2⟩
def allPlaces (ks : List Int) (b : Int) : List Int := ((seqsN ks b).map (·.places)).flatten
theorem places_mem (hb : 0 ≤ b ∧ b ≤ 1) (x : Int) : x ∈ allPlaces ks b ↔ x ∈ keptL (levN ks b) := by
  unfold allPlaces
  rw [← runsN_flat]
  constructor
  · intro h
    obtain ⟨l, hl, hx⟩ := List.mem_flatten.1 h
    obtain ⟨q, hq, rfl⟩ := List.mem_map.1 hl
    obtain ⟨r, hr, _, e1, _⟩ := seq_mem hq
    rw [e1, chain_flat] at hx
    obtain ⟨p, hp, hx⟩ := List.mem_flatten.1 hx
    exact List.mem_flatten.2 ⟨p, cR_runs hb _ _ (.inr hr) p hp, hx⟩
  · intro h
    obtain ⟨r, hr, hx⟩ := List.mem_flatten.1 h
    obtain ⟨r0, h0, g0, hm⟩ := cR_all hb _ r (by have := (run_facts hr).bound _ (lastOf_mem (run_facts hr).pos); exact this.2) hr
    refine List.mem_flatten.2 ⟨chain (nxtR ks b) ks.length r0, List.mem_map.2 ⟨sqOf ks (matchN ks) (levN ks b) (runsN (levN ks b)) b r0, List.mem_map.2 ⟨r0, List.mem_filter.2 ⟨h0, g0⟩, rfl⟩, ?_⟩, ?_⟩
    · show chain _ (levN ks b).length r0 = _
      rw [levN_len]; rfl
    · rw [chain_flat]; exact List.mem_flatten.2 ⟨r, hm, hx⟩
theorem places_once (hb : 0 ≤ b ∧ b ≤ 1) : (allPlaces ks b).Nodup := by
  unfold allPlaces
  refine List.pairwise_flatten.2 ⟨fun l hl => ?_, ?_⟩
  · obtain ⟨q, hq, rfl⟩ := List.mem_map.1 hl
    exact (seq_facts hb hq).1.imp fun h => by omega
  · unfold seqsN sqsOf
    rw [List.map_map]
    refine List.pairwise_map.2 ?_
    have ap := (runs_apart (levN ks b)).filter (beginsN (matchN ks))
    refine List.Pairwise.imp_of_mem ?_ ap
    intro r1 r2 h1 h2 hlt x hx y hy e
    subst e
    have m1 := List.mem_filter.1 h1
    have m2 := List.mem_filter.1 h2
    have hx' : x ∈ chain (nxtR ks b) (levN ks b).length r1 := hx
    have hy' : x ∈ chain (nxtR ks b) (levN ks b).length r2 := hy
    rw [chain_flat] at hx' hy'
    obtain ⟨p, hp, xp⟩ := List.mem_flatten.1 hx'
    obtain ⟨q, hq, xq⟩ := List.mem_flatten.1 hy'
    have e := runs_one (cR_runs hb _ _ (.inr m1.1) p hp) (cR_runs hb _ _ (.inr m2.1) q hq) xp xq
    subst e
    have rp := run_facts (cR_runs hb _ _ (.inr m1.1) p hp)
    have := cR_meet hb m1.1 m2.1 m1.2 m2.2 _ _ _ p (rp.bound _ (lastOf_mem rp.pos)).2 hp hq
    subst this
    have f0 := nth_mem (run_facts m1.1).pos
    have := hlt _ f0 _ f0
    omega
theorem places_perm (hb : 0 ≤ b ∧ b ≤ 1) : (allPlaces ks b).Perm (keptL (levN ks b)) :=
  (List.perm_ext_iff_of_nodup (places_once hb) ((keptN_rise (levN ks b) _).imp fun h => by omega)).2 (places_mem hb)
theorem places_len (hb : 0 ≤ b ∧ b ≤ 1) : (allPlaces ks b).length = (keptL (levN ks b)).length := (places_perm hb).length_eq
end
end Go.Proofs.YtmcmfklkljehiaaGreat

namespace Go.Proofs.YtmcmfklkljehiaaGreat
open Go.RowKit Go.Maps

/-- where the program's cutting stands: R is cut, what is kept from f on and ahead of t is of one level -/
structure Cut (ls : List Int) (f t : Nat) (R : List (List Int)) : Prop where
  le : f ≤ t
  top : t ≤ (keptL ls).length
  open_ : f < t → (grun (lev ls) ((keptL ls).take t)).done = R ∧ (grun (lev ls) ((keptL ls).take t)).now = ((keptL ls).take t).drop f ∧ (grun (lev ls) ((keptL ls).take t)).val = lev ls (nth (keptL ls) f)
  shut : f = t → (grun (lev ls) ((keptL ls).take t)).out = R ∧ (t < (keptL ls).length → lev ls (nth (keptL ls) t) ≠ (grun (lev ls) ((keptL ls).take t)).val)
theorem kept_lev {ls : List Int} {k : Nat} (h : k < (keptL ls).length) : lev ls (nth (keptL ls) k) ≠ -1 := (keptN_mem (k := ls.length) (nth_mem h)).2.2
theorem kept_place {ls : List Int} {k : Nat} (h : k < (keptL ls).length) : 0 ≤ nth (keptL ls) k ∧ nth (keptL ls) k < ls.length := by
  have := keptN_mem (k := ls.length) (nth_mem h)
  exact ⟨this.1, this.2.1⟩
theorem Cut.zero (ls : List Int) : Cut ls 0 0 [] := ⟨Nat.le_refl _, by omega, fun h => by omega, fun _ => ⟨rfl, fun h => kept_lev h⟩⟩
theorem Cut.end_ {ls : List Int} {t : Nat} {R : List (List Int)} (h : Cut ls (keptL ls).length t R) : R = runsN ls := by
  have e : t = (keptL ls).length := by have := h.le; have := h.top; omega
  subst e
  have := (h.shut rfl).1
  rw [List.take_of_length_le (Nat.le_refl _)] at this
  exact this.symm
theorem Cut.lt {ls : List Int} {f t : Nat} {R : List (List Int)} (h : Cut ls f t R) (hf : f < (keptL ls).length) (hc : t = (keptL ls).length ∨ lev ls (nth (keptL ls) t) ≠ lev ls (nth (keptL ls) f)) : f < t := by
  have := h.le
  rcases hc with hc | hc
  · omega
  · apply Classical.byContradiction
    intro hn
    obtain rfl : f = t := by omega
    exact hc rfl
theorem Cut.cut {ls : List Int} {f t : Nat} {R : List (List Int)} (h : Cut ls f t R) (hf : f < (keptL ls).length) (hc : t = (keptL ls).length ∨ lev ls (nth (keptL ls) t) ≠ lev ls (nth (keptL ls) f)) : Cut ls t t (R ++ [((keptL ls).take t).drop f]) := by
  have hlt := h.lt hf hc
  have ht := h.top
  obtain ⟨o1, o2, o3⟩ := h.open_ hlt
  refine ⟨Nat.le_refl _, ht, fun h => by omega, fun _ => ⟨?_, fun h => ?_⟩⟩
  · rw [out_full (by rw [o2, List.length_drop, List.length_take]; omega), o1, o2]
  · rw [o3]
    rcases hc with hc | hc
    · omega
    · exact hc
theorem Cut.on {ls : List Int} {f t : Nat} {R : List (List Int)} (h : Cut ls f t R) (ht : t < (keptL ls).length) (hc : lev ls (nth (keptL ls) t) = lev ls (nth (keptL ls) f)) : Cut ls f (t + 1) R := by
  have hle := h.le
  refine ⟨by omega, ht, fun _ => ?_, fun h => by omega⟩
  rw [grun_step _ _ _ ht]
  by_cases hlt : f < t
  · obtain ⟨o1, o2, o3⟩ := h.open_ hlt
    unfold gstep
    rw [if_pos (by rw [o3]; exact hc)]
    refine ⟨o1, ?_, o3⟩
    show _ ++ _ = _
    rw [o2, take_nth _ _ ht, List.drop_append_of_le_length (by rw [List.length_take]; omega)]
  · obtain rfl : f = t := by omega
    obtain ⟨s1, s2⟩ := h.shut rfl
    unfold gstep
    rw [if_neg (s2 ht)]
    refine ⟨s1, ?_, rfl⟩
    show [_] = _
    rw [take_nth _ _ ht, List.drop_append_of_le_length (by rw [List.length_take]; omega), List.drop_of_length_le (by rw [List.length_take]; omega), List.nil_append]
theorem Cut.len {ls : List Int} {f t : Nat} {R : List (List Int)} (h : Cut ls f t R) : R.length ≤ f ∧ total R ≤ f := by
  have key : total R ≤ f ∧ ∀ r ∈ R, r ≠ [] := by
    have wf : WfG (lev ls) (grun (lev ls) ((keptL ls).take t)) := grun_wf fun x hx => (keptN_mem (k := ls.length) (List.mem_of_mem_take hx)).2.2
    have tk : ((keptL ls).take t).length = t := by rw [List.length_take]; have := h.top; omega
    have fl := grun_flat (lev ls) ((keptL ls).take t)
    by_cases hlt : f < t
    · obtain ⟨o1, o2, o3⟩ := h.open_ hlt
      rw [out_flat, o1, o2] at fl
      have := congrArg List.length fl
      rw [List.length_append, flat_len, List.length_drop, tk] at this
      exact ⟨by omega, fun r hr => (wf.each r (by rw [o1]; exact hr)).1⟩
    · have hle := h.le
      obtain rfl : f = t := by omega
      obtain ⟨s1, s2⟩ := h.shut rfl
      rw [s1] at fl
      have := congrArg List.length fl
      rw [flat_len, tk] at this
      exact ⟨by omega, fun r hr => (wf.out r (by rw [s1]; exact hr)).1⟩
  have := len_le_total R key.2
  exact ⟨by omega, key.1⟩
theorem sub_slice {zs : List Int} (f t : Nat) (ht : t ≤ zs.length) : ((zs.take t).drop f).length = t - f := by rw [List.length_drop, List.length_take]; omega
/-- a part of a slice that reads -/
theorem Rd.part {kd : IntKind} {w : World} {B : Nat} {b off : Nat} {zs : List Int} (h : Rd w B (some ⟨b, off, none⟩) (nums kd zs)) (f t : Nat) : Rd w B (some ⟨b, off + f, none⟩) (nums kd ((zs.take t).drop f)) := by
  intro k u hu
  have e : nums kd ((zs.take t).drop f) = ((nums kd zs).take t).drop f := by simp [nums, List.map_take, List.map_drop]
  rw [e, List.getElem?_drop, List.getElem?_take] at hu
  split at hu
  · obtain ⟨b', off', e1, h1, h2⟩ := h _ u hu
    injection e1 with e1
    injection e1 with e2 e3
    subst e2; subst e3
    exact ⟨_, _, rfl, h1, by rw [Nat.add_assoc]; exact h2⟩
  · cases hu

set_option maxRecDepth 100000 in
set_option maxHeartbeats 2000000 in
theorem runsAmong_any (A : Option Addr) (ls : List Int) (c : Nat) (w : World) (B : Nat) (h1 : Rd w B A (nums .i64 ls)) (hB : B ≤ w.heap.size) (hl : ls.length ≤ 600) :
    Calls Tryz.prog 25 #[.slice A ls.length c] w fun e w' => (∃ v, e = .returned v ∧ OwnSS w' w.heap.size w'.heap.size 24 2 .i64 v (runsN ls)) ∧ Below w.heap.size w w' := by
  obtain ⟨i1, ki, kz0, kz1, kz2⟩ := info_parts info_ints
  have H1 := Lib.hid h1
  clear h1
  go_enter Tryz.func25, Tryz.ntmps25
  go_wp2
  go_step3
  go_wp2_with fail
  refine (keptAmong_any A ls c w B H1.out hB hl).mono ?_
  rintro e w1 ⟨⟨v1, rfl, o1⟩, b1⟩
  obtain ⟨A1, c1, rfl⟩ := o1.form
  have KL : Hid ((keptL ls).length ≤ ls.length) := Lib.hid (keptN_len ls ls.length)
  obtain ⟨m, hm⟩ : ∃ m, Hid (m = (keptL ls).length) := ⟨_, Lib.hid rfl⟩
  rw [← hm.out] at KL ⊢
  have hml : m ≤ 600 := by have := KL.out; omega
  have R1 := Lib.hid (Rd.of o1.1)
  have cp : m ≤ c1 := by have := (own_cap o1.1).1; rw [← hm.out] at this; exact this
  have B1 := Lib.hid b1
  have L1 := Lib.hid (H1.out.below b1 hB)
  have s1 := b1.size
  have T0 : Hid (OwnC w1 w1.heap.size w1.heap.size 24 1 (.slice none 0 0) ([] : List (List Int)).length [] (contsL 2 .i64 [])) := Lib.hid (OwnC.nil w1 _ _ _ 1)
  have C0 := Lib.hid (Cut.zero ls)
  clear o1 b1
  go_wp2
  go_step3
  go_wp2
  go_loopw [4, 5, 6] (fun vR vf vt wr => ∃ (f t : Nat) (R : List (List Int)) (us : List Value), f ≤ t ∧ t ≤ m ∧ vf = .int .i64 f ∧ vt = .int .i64 t ∧ Hid (Cut ls f t R) ∧
    Hid (OwnC wr w1.heap.size wr.heap.size 24 1 vR R.length us (contsL 2 .i64 R)) ∧ Hid (Below w1.heap.size w1 wr)) (fun _ f t _ => 2 * m - (intOf f).toNat - (intOf t).toNat)
  case atStart => exact ⟨0, 0, [], [], by omega, by omega, rfl, rfl, C0, T0, Lib.hid (Below.refl _ _)⟩
  case round =>
    clear T0 C0
    obtain ⟨f, t, R, us, hft, htm, rfl, rfl, hcut, ho, hbr⟩ := hrel
    have wsz := hbr.out.size
    obtain ⟨AR, cR, rfl⟩ := own_form ho.out.row
    by_cases hf : f = m
    · have ER := Lib.hid (show R = runsN ls from (by have := hcut.out; rw [show f = (keptL ls).length by rw [hf, hm.out]] at this; exact this.end_))
      have HO := Lib.hid (show OwnSS wr w.heap.size wr.heap.size 24 2 .i64 (.slice AR R.length cR) R from (show OwnSS wr w1.heap.size wr.heap.size 24 2 .i64 (.slice AR R.length cR) R from ⟨us, ho.out⟩).more s1 (Nat.le_refl _))
      have fe : (((f : Nat) : Int) == ((m : Nat) : Int)) = true := by simp [hf]
      have BB := Lib.hid (B1.out.trans (hbr.out.mono (by omega)))
      clear hf ho hcut
      go_wp2
      rw [Exit.noGoto_ret]
      go_ret
      exact ⟨⟨_, rfl, by rw [← ER.out]; exact HO.out⟩, BB.out⟩
    · have fe : (((f : Nat) : Int) == ((m : Nat) : Int)) = false := by simp; omega
      have flt : f < m := by omega
      obtain ⟨bk, ok, rfl, hbk, hck⟩ := (R1.out.below hbr.out (Nat.le_refl _)).int (by rw [← hm.out]; omega)
      have pf := kept_place (ls := ls) (k := f) (by rw [← hm.out]; exact flt)
      obtain ⟨x, hx⟩ : ∃ x : Nat, Hid (nth (keptL ls) f = (x : Int)) := ⟨(nth (keptL ls) f).toNat, Lib.hid (by show nth _ _ = _; omega)⟩
      have kf := hck f (by rw [← hm.out]; exact flt)
      rw [hx.out] at kf pf
      obtain ⟨bl, ol, rfl, hbl, hcl⟩ := ((L1.out.below hbr.out (by omega))).int (by omega)
      have lf := hcl x (by omega)
      have LF := Lib.hid (show lev ls (nth (keptL ls) f) = nth ls x by rw [hx.out]; simp [lev])
      obtain ⟨p, hp⟩ : ∃ p, Hid (p = nth ls x) := ⟨_, Lib.hid rfl⟩
      rw [← hp.out] at lf LF
      have RDK := Lib.hid (R1.out.below hbr.out (Nat.le_refl _))
      have hcf : ¬ c1 = f := by omega
      -- the cut, wherever the test came out so
      have CUTS : Hid (t = m ∨ lev ls (nth (keptL ls) t) ≠ p → Cut ls t t (R ++ [((keptL ls).take t).drop f]) ∧ f < t) := Lib.hid fun h => by
        have h2 : t = (keptL ls).length ∨ lev ls (nth (keptL ls) t) ≠ lev ls (nth (keptL ls) f) := by rw [LF.out, ← hm.out]; exact h
        exact ⟨hcut.out.cut (by rw [← hm.out]; exact flt) h2, hcut.out.lt (by rw [← hm.out]; exact flt) h2⟩
      have CLEN := Lib.hid hcut.out.len
      have ON : Hid (t < m → lev ls (nth (keptL ls) t) = p → Cut ls f (t + 1) R) := Lib.hid fun h1 h2 => hcut.out.on (by rw [← hm.out]; exact h1) (by rw [LF.out]; exact h2)
      have HO := Lib.hid ho.out
      have rl1 : R.length ≤ 600 := by have := CLEN.out.1; omega
      clear hcut ho hf CLEN
      obtain ⟨zs, hzs⟩ : ∃ zs, Hid (zs = ((keptL ls).take t).drop f) := ⟨_, Lib.hid rfl⟩
      have ZL : Hid (zs.length = t - f) := Lib.hid (by rw [hzs.out]; exact sub_slice f t (by rw [← hm.out]; exact htm))
      have SZ : Hid (Sees wr w1.heap.size .i64 (.slice (some ⟨bk, ok + f, none⟩) (t - f) (c1 - f)) zs) := Lib.hid ⟨_, _, by rw [ZL.out], by rw [hzs.out]; exact RDK.out.part f t⟩
      rw [← hzs.out] at CUTS
      have STEP : Hid (∀ (wd : World) (n5 : Nat) (v5 : Value) (w5 w6 : World) (vR' : Value), wd = wr.drewN n5 → Own w5 wd.heap.size w5.heap.size 2 .i64 v5 zs → Below wd.heap.size wd w5 → 
          w6.ownsRow w1.heap.size 24 1 vR' (R.length + 1) (us ++ [v5]) → (w5.alloc (.cells #[v5] 24)).grownBy w6 (Value.slice AR R.length cR).ownBlock → (vR'.ownBlock = (Value.slice AR R.length cR).ownBlock ∨ vR'.ownBlock = some (w5.alloc (.cells #[v5] 24)).heap.size) →
          OwnC w6 w1.heap.size w6.heap.size 24 1 vR' (R ++ [zs]).length (us ++ [v5]) (contsL 2 .i64 (R ++ [zs])) ∧ Below w1.heap.size w1 w6) := Lib.hid (by
        intro wd n5 v5 w5 w6 vR' hwd o5 b5 o6 g6 a6
        subst hwd
        have o5' : Own w5 wr.heap.size w5.heap.size 2 .i64 v5 zs := o5
        have s5 : wr.heap.size ≤ w5.heap.size := b5.size
        have r5 : OwnC w5 w1.heap.size wr.heap.size 24 1 (.slice AR R.length cR) R.length us (contsL 2 .i64 R) := (HO.out.drew n5).below b5 (Nat.le_refl _)
        have T5 : Two w5 w1.heap.size w5.heap.size 24 2 (.slice AR R.length cR) v5 R zs us := by
          refine ⟨r5.more (Nat.le_refl _) s5, o5'.more (by omega) (Nat.le_refl _), fun i y hy => ?_, ?_⟩
          · by_cases hn : y.ownBlock = none
            · exact .inl hn
            · refine .inr fun e2 => ?_
              obtain ⟨g, hg⟩ := Option.ne_none_iff_exists'.1 hn
              have h1 := r5.lts i y g hy hg
              have h2 := o5'.lt g (by rw [← e2, hg])
              omega
          · by_cases hn : v5.ownBlock = none
            · exact .inl hn
            · refine .inr fun e2 => ?_
              obtain ⟨g, hg⟩ := Option.ne_none_iff_exists'.1 hn
              have h1 := o5'.lt g hg
              have h2 := r5.vlt g (by rw [← e2, hg])
              omega
        have T6 := (T5.alloc (.cells #[v5] 24)).push (by simp) o6 g6 a6
        refine ⟨T6, ?_⟩
        have b6 : Below w1.heap.size w1 w5 := (below_drewN hbr.out n5).trans (b5.mono (by simpa using wsz))
        exact b6.grown ((World.grownBy_alloc w5 _ _).trans g6) b6.size (fun b hb => (r5.vlt b hb).1))
      by_cases ht : t = m
      · have te : (((t : Nat) : Int) == ((m : Nat) : Int)) = true := by simp [ht]
        obtain ⟨cu, fl⟩ := CUTS.out (.inl ht)
        have CU := Lib.hid cu
        clear cu ht
        go_wp2
        go_quiet (fail)
        go_wp2_with (first
          | (go_at_call 52; refine (cloneInt_own (.slice (some ⟨bk, ok + f, none⟩) (t - f) (c1 - f)) zs _ w1.heap.size (SZ.out.drew _) (by simpa using wsz) (by rw [ZL.out]; omega)).mono ?_; rintro e w5 ⟨⟨v5, rfl, o5⟩, b5⟩; obtain ⟨A5, c5, rfl⟩ := o5.form; have OR5 := Lib.hid ((HO.out.drew _).below b5 (Nat.le_refl _)).row; have s5 : wr.heap.size ≤ w5.heap.size := b5.size)
          | (at_builtin; go_loud (refine wpList_app rfl _ _ _ rfl w1.heap.size Tryz.underlying31 ki kz0 kz1 kz2 rfl (by omega) rfl (OR5.out.alloc _) rfl (Rd.lit w5 #[.slice A5 zs.length c5] _) (m := 1) rfl (slice_one _ _ _) (by omega) (by omega) (by simp; omega) ?_); intro v6 w6 o6 g6 a6; obtain ⟨A6, c6, rfl⟩ := own_form o6; obtain ⟨f1, f2⟩ := STEP.out _ _ _ _ _ _ rfl o5 b5 o6 g6 a6; have F1 := Lib.hid f1; have F2 := Lib.hid f2; clear f1 f2 o6 g6 a6 o5 b5))
        go_roundw
        case rel => exact ⟨t, t, R ++ [zs], _, by omega, by omega, rfl, rfl, CU, F1, F2⟩
        case measure => first | omega | (simp [intOf]; omega)
      · have te : (((t : Nat) : Int) == ((m : Nat) : Int)) = false := by simp; omega
        have tlt : t < m := by omega
        have pt := kept_place (ls := ls) (k := t) (by rw [← hm.out]; exact tlt)
        obtain ⟨y, hy⟩ : ∃ y : Nat, Hid (nth (keptL ls) t = (y : Int)) := ⟨(nth (keptL ls) t).toNat, Lib.hid (by show nth _ _ = _; omega)⟩
        have kt := hck t (by rw [← hm.out]; exact tlt)
        rw [hy.out] at kt pt
        have lt := hcl y (by omega)
        have LT := Lib.hid (show lev ls (nth (keptL ls) t) = nth ls y by rw [hy.out]; simp [lev])
        obtain ⟨q, hq⟩ : ∃ q, Hid (q = nth ls y) := ⟨_, Lib.hid rfl⟩
        rw [← hq.out] at lt LT
        clear hck hcl ht
        by_cases hpq : q = p
        · have qe : (q != p) = false := by simp [hpq]
          have CU := Lib.hid (ON.out tlt (by rw [LT.out]; exact hpq))
          clear hpq
          go_wp2
          go_quiet (fail)
          go_wp2
          go_roundw
          case rel => exact ⟨f, t + 1, R, us, by omega, by omega, rfl, by go_num, CU, HO.out.drew _, below_drewN hbr.out _⟩
          case measure => first | omega | (simp [intOf]; omega)
        · have qe : (q != p) = true := by simpa using hpq
          obtain ⟨cu, fl⟩ := CUTS.out (.inr (by rw [LT.out]; exact hpq))
          have CU := Lib.hid cu
          clear cu hpq
          go_wp2
          go_quiet (fail)
          go_wp2_with (first
            | (go_at_call 52; refine (cloneInt_own (.slice (some ⟨bk, ok + f, none⟩) (t - f) (c1 - f)) zs _ w1.heap.size (SZ.out.drew _) (by simpa using wsz) (by rw [ZL.out]; omega)).mono ?_; rintro e w5 ⟨⟨v5, rfl, o5⟩, b5⟩; obtain ⟨A5, c5, rfl⟩ := o5.form; have OR5 := Lib.hid ((HO.out.drew _).below b5 (Nat.le_refl _)).row; have s5 : wr.heap.size ≤ w5.heap.size := b5.size)
            | (at_builtin; go_loud (refine wpList_app rfl _ _ _ rfl w1.heap.size Tryz.underlying31 ki kz0 kz1 kz2 rfl (by omega) rfl (OR5.out.alloc _) rfl (Rd.lit w5 #[.slice A5 zs.length c5] _) (m := 1) rfl (slice_one _ _ _) (by omega) (by omega) (by simp; omega) ?_); intro v6 w6 o6 g6 a6; obtain ⟨A6, c6, rfl⟩ := own_form o6; obtain ⟨f1, f2⟩ := STEP.out _ _ _ _ _ _ rfl o5 b5 o6 g6 a6; have F1 := Lib.hid f1; have F2 := Lib.hid f2; clear f1 f2 o6 g6 a6 o5 b5))
          go_roundw
          case rel => exact ⟨t, t, R ++ [zs], _, by omega, by omega, rfl, rfl, CU, F1, F2⟩
          case measure => first | omega | (simp [intOf]; omega)
end Go.Proofs.YtmcmfklkljehiaaGreat
