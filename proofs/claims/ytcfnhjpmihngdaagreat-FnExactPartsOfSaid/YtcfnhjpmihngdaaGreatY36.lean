/- Chapter 8's mathematics: the parts of a paragraph, the levels that come of them. No program is named here. -/
import Derived.Test.YtcfnhjpmihngdaaGreatY20
import Derived.Test.YtcfnhjpmihngdaaGreatY32
import Derived.Test.YtcfnhjpmihngdaaGreatY34
namespace Go.Proofs.YtcfnhjpmihngdaaGreat
open Go.RowKit

/-- what stands at each of the places -/
def pickN (l ps : List Int) : List Int := ps.map fun x => nth l x.toNat
theorem pickN_len (l ps : List Int) : (pickN l ps).length = ps.length := by simp [pickN]
theorem pickN_nth (l ps : List Int) (k : Nat) (h : k < ps.length) : nth (pickN l ps) k = nth l (nth ps k).toNat := by
  simp [pickN, nth, List.getElem?_eq_getElem h]
theorem pickN_step (l ps : List Int) (k : Nat) (h : k < ps.length) : pickN l (ps.take (k + 1)) = pickN l (ps.take k) ++ [nth l (nth ps k).toNat] := by
  rw [take_nth ps k h]; simp [pickN]
def partOf (ts cs : List Int) (q : Sq) : Prt := ⟨pickN ts q.places, pickN cs q.places, weakW (pickN cs q.places) q.sos, q.level, q.sos, q.eos⟩
def partsN (ts : List Int) (b : Int) : List Prt := (seqsN (classesN ts) b).map (partOf ts (clsN (classesN ts) b))
def partsV (ts : List Int) (b : Int) : List Prt := if paraF ts b = 0 then partsN ts b else []

/-- values laid at the first k of the places -/
def layN (out ps vs : List Int) : Nat → List Int
  | 0 => out
  | k + 1 => (layN out ps vs k).set (nth ps k).toNat (nth vs k)
theorem layN_len (out ps vs : List Int) : ∀ k, (layN out ps vs k).length = out.length
  | 0 => rfl
  | k + 1 => by show (List.set _ _ _).length = _; rw [List.length_set, layN_len out ps vs k]
theorem nth_set10 (l : List Int) (i x : Nat) (v : Int) : nth (l.set i v) x = if i = x ∧ x < l.length then v else nth l x := by
  unfold nth
  by_cases h : i = x
  · subst h
    by_cases hl : i < l.length
    · rw [if_pos ⟨rfl, hl⟩, List.getElem?_set_self hl]; rfl
    · rw [if_neg (fun e => hl e.2), List.getElem?_eq_none (by rw [List.length_set]; omega), List.getElem?_eq_none (by omega)]
  · rw [if_neg (fun e => h e.1), List.getElem?_set_ne h]
theorem layN_all (P : Nat → Int → Prop) (out ps vs : List Int) (h : ∀ x, x < out.length → P x (nth out x)) (hv : ∀ j, j < ps.length → P (nth ps j).toNat (nth vs j)) : ∀ k, k ≤ ps.length → ∀ x, x < out.length → P x (nth (layN out ps vs k) x)
  | 0, _, x, hx => h x hx
  | k + 1, hk, x, hx => by
    show P x (nth (List.set _ _ _) x)
    rw [nth_set10]
    split
    · rename_i e; rw [← e.1]; exact hv k (by omega)
    · exact layN_all P out ps vs h hv k (by omega) x hx
theorem layN_keep (P : Int → Prop) (out ps vs : List Int) (hv : ∀ j, j < ps.length → P (nth vs j)) (x : Nat) (h : P (nth out x)) : ∀ k, k ≤ ps.length → P (nth (layN out ps vs k) x)
  | 0, _ => h
  | k + 1, hk => by
    show P (nth (List.set _ _ _) x)
    rw [nth_set10]
    split
    · exact hv k (by omega)
    · exact layN_keep P out ps vs hv x h k (by omega)
theorem layN_hit (P : Int → Prop) (out ps vs : List Int) (hv : ∀ j, j < ps.length → P (nth vs j)) : ∀ k, k ≤ ps.length → ∀ j, j < k → (nth ps j).toNat < out.length → P (nth (layN out ps vs k) (nth ps j).toNat)
  | 0, _, j, hj, _ => by omega
  | k + 1, hk, j, hj, hx => by
    show P (nth (List.set _ _ _) _)
    rw [nth_set10, layN_len]
    split
    · exact hv k (by omega)
    · rename_i e
      refine layN_hit P out ps vs hv k (by omega) j ?_ hx
      rcases Nat.lt_or_ge j k with h | h
      · exact h
      · exact absurd ⟨by rw [show j = k by omega], hx⟩ e

/-- what a sequence's places get -/
def valsN (ts cs : List Int) (q : Sq) : List Int := (sidesN (partOf ts cs q)).map (implN q.level)
theorem valsN_len (ts cs : List Int) (q : Sq) : (valsN ts cs q).length = q.places.length := by
  unfold valsN; rw [List.length_map, sidesN_len]; show (weakW _ _).length = _; rw [weakW_len, pickN_len]
theorem valsN_nth (ts cs : List Int) (q : Sq) (k : Nat) (h : k < q.places.length) : nth (valsN ts cs q) k = implN q.level (nth (sidesN (partOf ts cs q)) k) := by
  have hl := valsN_len ts cs q
  unfold valsN at hl ⊢
  rw [List.length_map] at hl
  simp [nth, List.getElem?_map, List.getElem?_eq_getElem (show k < (sidesN (partOf ts cs q)).length by omega)]
/-- the levels laid by the first i sequences -/
def laidN (ts cs : List Int) (Q : List Sq) (n : Nat) : Nat → List Int
  | 0 => List.replicate n (-1)
  | i + 1 => layN (laidN ts cs Q n i) (nthQ Q i).places (valsN ts cs (nthQ Q i)) (nthQ Q i).places.length
theorem laidN_len (ts cs : List Int) (Q : List Sq) (n : Nat) : ∀ i, (laidN ts cs Q n i).length = n
  | 0 => by simp [laidN]
  | i + 1 => by show (layN _ _ _ _).length = _; rw [layN_len, laidN_len ts cs Q n i]
def levelsN (ts : List Int) (b : Int) : List Int := laidN ts (clsN (classesN ts) b) (seqsN (classesN ts) b) ts.length (seqsN (classesN ts) b).length
def levelsV (ts : List Int) (b : Int) : List Int := if paraF ts b = 0 then levelsN ts b else []
theorem levelsN_len (ts : List Int) (b : Int) : (levelsN ts b).length = ts.length := laidN_len _ _ _ _ _

/-- classes that are told are classes -/
theorem eat_nthC (ks : List Int) (b : Int) (i : Nat) : ∀ n, i < n → nth (eat ks b n).2.2 i = clS (nth ks i) (eat ks b i).1
  | 0, h => by omega
  | n + 1, h => by
    rw [eat_succ]
    have hl := (eat_len ks b n).2
    by_cases e : i = n
    · subst e
      show nth ((eat ks b i).2.2 ++ [clS (nth ks i) (eat ks b i).1]) i = _
      have := nth_right (eat ks b i).2.2 (clS (nth ks i) (eat ks b i).1)
      rw [hl] at this; exact this
    · show nth ((eat ks b n).2.2 ++ [clS (nth ks n) (eat ks b n).1]) i = _
      rw [nth_left _ _ _ (by omega)]; exact eat_nthC ks b i n (by omega)
theorem clsN_len (ks : List Int) (b : Int) : (clsN ks b).length = ks.length := (eat_len ks b _).2
theorem clsN_in (ks : List Int) (b : Int) (hb : 0 ≤ b ∧ b ≤ 1) (hk : ∀ x ∈ ks, In x) (i : Nat) (hi : i < ks.length) : In (nth (clsN ks b) i) := by
  have hw := eat_wf ks b hb i
  have e : nth (clsN ks b) i = clS (nth ks i) (eat ks b i).1 := eat_nthC ks b i _ hi
  have h0 := nth_all hk i hi
  rw [e]
  have key : -1 ≤ (topT (atS (nth ks i) (eat ks b i).1).stk).way ∧ (topT (atS (nth ks i) (eat ks b i).1).stk).way ≤ 1 := by
    unfold atS
    split
    · exact (hw.ends.lev _ (topT_mem _ hw.ends.pos)).2.2
    · exact (hw.lev _ (topT_mem _ hw.pos)).2.2
  unfold clS
  split
  · exact h0
  · split
    · exact h0
    · unfold In at *; omega
theorem classesN_in {ts : List Int} (h : ∀ x ∈ ts, 0 ≤ x) : ∀ x ∈ classesN ts, In x := by
  intro x hx
  unfold classesN at hx
  obtain ⟨c, hc, rfl⟩ := List.mem_map.1 hx
  exact classN_in (h c hc)
theorem seq_level {ks : List Int} {b : Int} (hb : 0 ≤ b ∧ b ≤ 1) {q : Sq} (hq : q ∈ seqsN ks b) : 0 ≤ q.level ∧ q.level ≤ 125 := by
  obtain ⟨r, hr, _, _, e2, _, _⟩ := seq_mem hq
  have m := nth_mem (run_facts hr).pos
  have f := runsN_mem hr _ m
  have g := (run_facts hr).bound _ m
  rw [e2]
  unfold lev at f ⊢
  rcases lev_facts ks b hb (nth r 0).toNat (by omega) with ⟨_, h⟩ | ⟨_, _, h1, h2⟩
  · exact absurd h f.2.2
  · exact ⟨h2, h1⟩
theorem seq_few {ks : List Int} {b : Int} (hb : 0 ≤ b ∧ b ≤ 1) {q : Sq} (hq : q ∈ seqsN ks b) : q.places.length ≤ ks.length := by
  have h1 := (List.sublist_flatten_of_mem (List.mem_map.2 ⟨q, hq, rfl⟩ : q.places ∈ (seqsN ks b).map (·.places))).length_le
  have h2 := places_len (ks := ks) hb
  unfold allPlaces at h2
  have h3 := keptN_len (levN ks b) (levN ks b).length
  rw [levN_len] at h3
  have h4 : (keptL (levN ks b)).length = (keptN (levN ks b) ks.length).length := by unfold keptL; rw [levN_len]
  omega
/-- no part of a paragraph that has no fault has one -/
theorem part_none {ts : List Int} {b : Int} (h : paraF ts b = 0) {q : Sq} (hq : q ∈ seqsN (classesN ts) b) : partF (partOf ts (clsN (classesN ts) b) q) = 0 := by
  obtain ⟨h1, hb0, hb1, _⟩ := paraF_zero h
  obtain ⟨h2, h3⟩ := textF_zero h1
  have hb : 0 ≤ b ∧ b ≤ 1 := ⟨hb0, hb1⟩
  obtain ⟨_, f2, f3, f4⟩ := seq_facts hb hq
  have hn := seq_few hb hq
  rw [classesN_len] at hn f2
  have hl := seq_level hb hq
  have hc : ∀ x ∈ ts, chrB x = true := List.all_eq_true.1 h3
  have ci : ∀ x ∈ pickN (clsN (classesN ts) b) q.places, In x := by
    intro x hx
    obtain ⟨p, hp, rfl⟩ := List.mem_map.1 hx
    have := f2 p hp
    exact clsN_in _ b hb (classesN_in fun c hc' => by have := hc c hc'; unfold chrB at this; have := of_decide_eq_true this; omega) _ (by rw [classesN_len]; omega)
  refine partF_yes (textF_ok (by show ¬ 600 < (pickN _ _).length; rw [pickN_len]; omega) ?_) (classF_yes ?_ ci (by show 0 ≤ q.sos ∧ q.sos ≤ 1; omega)) (classF_yes ?_ (weak_in ci (by omega)) (by show 0 ≤ q.eos ∧ q.eos ≤ 1; omega)) ?_ ?_ (by show 0 ≤ q.level ∧ q.level ≤ 126; omega)
  · refine List.all_eq_true.2 fun x hx => ?_
    obtain ⟨p, hp, rfl⟩ := List.mem_map.1 hx
    have := f2 p hp
    exact nth_all hc _ (by omega)
  · show (pickN _ _).length ≤ _; rw [pickN_len]; omega
  · show (weakW _ _).length ≤ _; rw [weakW_len, pickN_len]; omega
  · show (pickN _ _).length = (pickN _ _).length; rw [pickN_len, pickN_len]
  · show (weakW _ _).length = (pickN _ _).length; rw [weakW_len, pickN_len, pickN_len]
theorem nthQ_mem10 {Q : List Sq} {i : Nat} (h : i < Q.length) : nthQ Q i ∈ Q := by
  unfold nthQ; rw [List.getElem?_eq_getElem h]; exact List.getElem_mem h
/-- what FnLevels asks of the levels -/
structure LevelFacts (ts : List Int) (b : Int) (L : List Int) : Prop where
  len : L.length = ts.length
  each : ∀ i, i < ts.length → (nth L i = -1 ↔ nth (levN (classesN ts) b) i = -1) ∧ nth (levN (classesN ts) b) i ≤ nth L i ∧ nth L i ≤ nth (levN (classesN ts) b) i + 2
theorem level_facts {ts : List Int} {b : Int} (hb : 0 ≤ b ∧ b ≤ 1) : LevelFacts ts b (levelsN ts b) := by
  refine ⟨levelsN_len ts b, fun x hx => ?_⟩
  let D := levN (classesN ts) b
  have val : ∀ q ∈ seqsN (classesN ts) b, ∀ j, j < q.places.length → 0 ≤ nth (valsN ts (clsN (classesN ts) b) q) j ∧ (nth q.places j).toNat < ts.length ∧ nth D (nth q.places j).toNat = q.level ∧ q.level ≤ nth (valsN ts (clsN (classesN ts) b) q) j ∧ nth (valsN ts (clsN (classesN ts) b) q) j ≤ q.level + 2 := by
    intro q hq j hj
    rw [valsN_nth _ _ _ _ hj]
    have h1 := implN_near q.level (nth (sidesN (partOf ts (clsN (classesN ts) b) q)) j)
    have h2 := seq_level hb hq
    have h3 := (seq_facts hb hq).2.1 _ (nth_mem hj)
    rw [classesN_len] at h3
    exact ⟨by omega, by omega, h3.2.2, h1.1, h1.2⟩
  -- what is laid is near the level that is told
  have near : ∀ i, i ≤ (seqsN (classesN ts) b).length → ∀ y, y < ts.length → nth (laidN ts (clsN (classesN ts) b) (seqsN (classesN ts) b) ts.length i) y = -1 ∨ (0 ≤ nth D y ∧ nth D y ≤ nth (laidN ts (clsN (classesN ts) b) (seqsN (classesN ts) b) ts.length i) y ∧ nth (laidN ts (clsN (classesN ts) b) (seqsN (classesN ts) b) ts.length i) y ≤ nth D y + 2) := by
    intro i
    induction i with
    | zero => intro _ y hy; left; simp [laidN, nth, hy]
    | succ i ih =>
      intro hi y hy
      have hq := nthQ_mem10 (show i < (seqsN (classesN ts) b).length by omega)
      exact layN_all (fun y v => v = -1 ∨ (0 ≤ nth D y ∧ nth D y ≤ v ∧ v ≤ nth D y + 2)) _ _ _ (fun y hy => by rw [laidN_len] at hy; exact ih (by omega) y hy) (fun j hj => by
        have := val _ hq j hj
        have h2 := seq_level hb hq
        right; rw [this.2.2.1]; omega) _ (Nat.le_refl _) y (by rw [laidN_len]; exact hy)
  -- what is in a sequence has a level
  have has : ∀ i, i ≤ (seqsN (classesN ts) b).length → ∀ m, m < i → ∀ j, j < (nthQ (seqsN (classesN ts) b) m).places.length → 0 ≤ nth (laidN ts (clsN (classesN ts) b) (seqsN (classesN ts) b) ts.length i) (nth (nthQ (seqsN (classesN ts) b) m).places j).toNat := by
    intro i
    induction i with
    | zero => intro _ m hm; omega
    | succ i ih =>
      intro hi m hm j hj
      have hq := nthQ_mem10 (show i < (seqsN (classesN ts) b).length by omega)
      have hv : ∀ j, j < (nthQ (seqsN (classesN ts) b) i).places.length → 0 ≤ nth (valsN ts (clsN (classesN ts) b) (nthQ (seqsN (classesN ts) b) i)) j := fun j hj => (val _ hq j hj).1
      rcases Nat.lt_or_ge m i with h | h
      · exact layN_keep (fun v => 0 ≤ v) _ _ _ hv _ (ih (by omega) m h j hj) _ (Nat.le_refl _)
      · have e : m = i := by omega
        subst e
        exact layN_hit (fun v => 0 ≤ v) _ _ _ hv _ (Nat.le_refl _) j hj (by rw [laidN_len]; exact (val _ hq j hj).2.1)
  have hn := near _ (Nat.le_refl _) x hx
  show (nth (levelsN ts b) x = -1 ↔ _) ∧ _
  unfold levelsN
  rcases lev_facts (classesN ts) b hb x (by rw [classesN_len]; exact hx) with ⟨_, h⟩ | ⟨_, _, _, h⟩
  · have h' : nth D x = -1 := h
    rw [h]
    rcases hn with e | e
    · rw [e]; exact ⟨by simp, by omega, by omega⟩
    · omega
  · have h' : 0 ≤ nth D x := h
    have kept : (x : Int) ∈ keptL D := mem_keptN (by rw [levN_len, classesN_len]; exact hx) (by omega)
    obtain ⟨ps, hps, hx'⟩ := List.mem_flatten.1 ((places_mem (ks := classesN ts) hb (x : Int)).2 kept)
    obtain ⟨q, hq, rfl⟩ := List.mem_map.1 hps
    obtain ⟨m, hm, em⟩ := List.getElem_of_mem hq
    obtain ⟨j, hj, ej⟩ := List.getElem_of_mem hx'
    have eq : nthQ (seqsN (classesN ts) b) m = q := by unfold nthQ; rw [List.getElem?_eq_getElem hm, em]; rfl
    have hp := has _ (Nat.le_refl _) m hm j (by rw [eq]; exact hj)
    have ex : (nth q.places j).toNat = x := by unfold nth; rw [List.getElem?_eq_getElem hj]; show (q.places[j]).toNat = x; rw [ej]; omega
    rw [eq, ex] at hp
    rcases hn with e | e
    · omega
    · exact ⟨⟨fun e2 => by omega, fun e2 => by omega⟩, e.2.1, e.2.2⟩
end Go.Proofs.YtcfnhjpmihngdaaGreat
