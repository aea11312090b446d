/- Chapter 7: the program's own mathematics: what is open as a map, pairs sorted, sides by what is within, fills. No program is named here. -/
import Derived.Test.YtcfnhjpmihngdaaX0
import Derived.Test.YtcfnhjpmihngdaaG0
import Derived.Maps.OwnSet
namespace Go.Proofs.Ytcfnhjpmihngdaa
open Go.RowKit

/-! pairs, sorted -/
theorem perm_rises : ∀ {a b : List Pr}, a.Perm b → Rises b → a.Pairwise (fun x y => x.1 ≤ y.1) → a = b
  | [], b, h, _, _ => by rw [List.nil_perm.1 h]
  | x :: a, b, h, hb, ha => by
    cases b with
    | nil => exact absurd (List.Perm.length_eq h) (by simp)
    | cons y b =>
      have h1 := List.pairwise_cons.1 ha
      have h2 := List.pairwise_cons.1 hb
      have hx : x ∈ y :: b := h.subset (by simp)
      have hy : y ∈ x :: a := h.symm.subset (by simp)
      have e : x = y := by
        rcases List.mem_cons.1 hx with e | hx
        · exact e
        · rcases List.mem_cons.1 hy with e | hy
          · exact e.symm
          · have := h1.1 y hy; have := h2.1 x hx; omega
      subst e
      rw [perm_rises (List.Perm.cons_inv h) h2.2 h1.2]
theorem putP_perm (x : Pr) : ∀ l, (putP x l).Perm (x :: l)
  | [] => List.Perm.refl _
  | y :: r => by
    show (if _ then _ else _ : List Pr).Perm _
    split
    · exact List.Perm.refl _
    · exact ((putP_perm x r).cons y).trans (List.Perm.swap x y r)
theorem snoc_perm {a b : List Pr} (x : Pr) (h : a.Perm b) : (a ++ [x]).Perm (putP x b) :=
  (List.perm_append_singleton x a).trans ((h.cons x).trans (putP_perm x b).symm)

/-! the last open one of a name -/
def lastP (nm : Int) (st : List Pr) : Int := match lastN nm st st.length with
  | some j => (nthP st j).1
  | none => -1
theorem lastN_none {nm : Int} {l : List Pr} : ∀ {k : Nat}, lastN nm l k = none → ∀ j, j < k → (nthP l j).2 ≠ nm
  | 0, _, j, h => by omega
  | k + 1, h, j, hj => by
    have e : lastN nm l (k + 1) = if (nthP l k).2 = nm then some k else lastN nm l k := rfl
    rw [e] at h
    by_cases hk : (nthP l k).2 = nm
    · rw [if_pos hk] at h; cases h
    · rw [if_neg hk] at h
      by_cases ej : j = k
      · subst ej; exact hk
      · exact lastN_none h j (by omega)
theorem lastN_max {nm : Int} {l : List Pr} : ∀ {k j : Nat}, lastN nm l k = some j → ∀ i, i < k → (nthP l i).2 = nm → i ≤ j
  | 0, _, h, _, _, _ => by cases h
  | k + 1, j, h, i, hi, hn => by
    have e : lastN nm l (k + 1) = if (nthP l k).2 = nm then some k else lastN nm l k := rfl
    rw [e] at h
    by_cases hk : (nthP l k).2 = nm
    · rw [if_pos hk] at h; injection h with h; omega
    · rw [if_neg hk] at h
      by_cases ei : i = k
      · subst ei; exact absurd hn hk
      · exact lastN_max h i (by omega) hn
def LastV (nm : Int) (st : List Pr) (left : Lit → Bool) (v : Int) : Prop :=
  (v = -1 ∧ ∀ x ∈ st, left (.int .i64 x.1) = false → x.2 ≠ nm) ∨ (∃ x ∈ st, x.2 = nm ∧ x.1 = v) ∧ ∀ y ∈ st, left (.int .i64 y.1) = false → y.2 = nm → y.1 ≤ v
theorem mem_nthP {l : List Pr} {x : Pr} (h : x ∈ l) : ∃ i, i < l.length ∧ nthP l i = x := by
  obtain ⟨i, hi, rfl⟩ := List.mem_iff_getElem.1 h
  exact ⟨i, hi, by simp [nthP, List.getElem?_eq_getElem hi]⟩
theorem nthP_up {l : List Pr} (h : l.Pairwise fun a b => a.1 < b.1) {i j : Nat} (hij : i < j) (hj : j < l.length) : (nthP l i).1 < (nthP l j).1 := by
  have := (List.pairwise_iff_getElem.1 h) i j (by omega) hj hij
  rw [show nthP l i = l[i] by simp [nthP, List.getElem?_eq_getElem (show i < l.length by omega)], show nthP l j = l[j] by simp [nthP, List.getElem?_eq_getElem hj]]
  exact this
theorem lastP_of {nm : Int} {st : List Pr} {left : Lit → Bool} {v : Int} (h : LastV nm st left v) (hl : ∀ kl, left kl = false) (hup : st.Pairwise fun a b => a.1 < b.1) : v = lastP nm st := by
  unfold lastP
  rcases h with ⟨rfl, h⟩ | ⟨⟨x, hx, hn, rfl⟩, h⟩
  · cases hj : lastN nm st st.length with
    | none => rfl
    | some j => exact absurd (lastN_some hj).2 (h _ (nthP_mem (lastN_some hj).1) (hl _))
  · obtain ⟨i, hi, rfl⟩ := mem_nthP hx
    cases hj : lastN nm st st.length with
    | none => exact absurd hn (lastN_none hj i hi)
    | some j =>
      have h1 := lastN_some hj
      have h2 := lastN_max hj i hi hn
      have h3 := h _ (nthP_mem h1.1) (hl _) h1.2
      by_cases e : i = j
      · subst e; rfl
      · have := nthP_up hup (show i < j by omega) h1.1
        show (nthP st i).1 = (nthP st j).1
        omega

/-! what is open, as a map -/
def isK (p : Int) : Lit → Bool
  | .int .i64 q => decide (q = p)
  | _ => false
theorem isK_iff {p : Int} {kl : Lit} : isK p kl = true ↔ kl = .int .i64 p := by
  constructor
  · intro h
    unfold isK at h
    split at h
    · rw [of_decide_eq_true h]
    · cases h
  · rintro rfl; exact decide_eq_true rfl
theorem isK_self (p : Int) : isK p (.int .i64 p) = true := decide_eq_true rfl
theorem isK_no {p : Int} {kl : Lit} (h : kl ≠ .int .i64 p) : isK p kl = false := by
  cases e : isK p kl with
  | false => rfl
  | true => exact absurd (isK_iff.1 e) h
structure Opn (D : DataW Unit) (st : List Pr) : Prop where
  has : ∀ kl, Maps.has D kl = st.any fun x => isK x.1 kl
  at_ : ∀ x ∈ st, ∀ z, D.atKey (.int .i64 x.1) z = .lit (.int .i64 x.2)
theorem Opn.nil : Opn (.map []) [] := ⟨fun _ => rfl, by simp⟩
theorem Opn.mem {D : DataW Unit} {st : List Pr} (h : Opn D st) {p c : Int} (hh : Maps.has D (.int .i64 p) = true) (ha : ∀ z, D.atKey (.int .i64 p) z = .lit (.int .i64 c)) : (p, c) ∈ st := by
  rw [h.has] at hh
  obtain ⟨x, hx, e⟩ := List.any_eq_true.1 hh
  have e := isK_iff.1 e
  injection e with _ e
  have h1 := h.at_ x hx (.lit (.int .i64 0))
  rw [← e, ha] at h1
  injection h1 with h1
  injection h1 with _ h1
  obtain ⟨x1, x2⟩ := x
  have e : p = x1 := e
  have h1 : c = x2 := h1
  rw [e, h1]
  exact hx
theorem Opn.val {D : DataW Unit} {st : List Pr} (h : Opn D st) {p c d : Int} (hc : (p, c) ∈ st) (hd : (p, d) ∈ st) : c = d := by
  have h1 := h.at_ _ hc (.lit (.int .i64 0))
  have h2 := h.at_ _ hd (.lit (.int .i64 0))
  rw [h1] at h2
  injection h2 with h2
  injection h2
theorem Opn.put {D : DataW Unit} {st : List Pr} (h : Opn D st) (hm : Maps.IsMap D) (k nm : Int) (hn : ∀ x ∈ st, x.1 ≠ k) : Opn (D.put (.int .i64 k) (.lit (.int .i64 nm))) (st ++ [(k, nm)]) := by
  refine ⟨fun kl => ?_, fun x hx z => ?_⟩
  · by_cases e : kl = .int .i64 k
    · subst e
      rw [Maps.has_put_same (k := .int .i64 k) hm trivial, List.any_append]
      simp [isK_self]
    · rw [Maps.has_put_other e, h.has, List.any_append]
      have : ([(k, nm)].any fun x : Pr => isK x.1 kl) = false := by simp [isK_no e]
      rw [this, Bool.or_false]
  · rcases List.mem_append.1 hx with hx | hx
    · rw [Maps.atKey_put_other (by intro e; injection e with _ e; exact hn x hx e), h.at_ x hx z]
    · rw [List.mem_singleton.1 hx, Maps.atKey_put_same (k := .int .i64 k) hm trivial]
theorem kt_size {st : List Pr} : ∀ {D : DataW Unit}, (∃ es, D = .map es ∧ es.Pairwise (fun p q => p.1 ≠ q.1) ∧ ∀ p ∈ es, WideAt.IsKeyLit p.1) → (∀ kl, Maps.has D kl = st.any fun x => isK x.1 kl) → st.Pairwise (fun a b => a.1 < b.1) → Maps.size D = st.length := by
  induction st with
  | nil =>
    rintro D ⟨es, rfl, hp, hk⟩ hh _
    cases es with
    | nil => rfl
    | cons p es =>
      have := hh p.1
      rw [Maps.has_eq] at this
      simp [WideAt.sameKey_self (hk p (by simp))] at this
  | cons x st ih =>
    rintro D ⟨es, rfl, hp, hk⟩ hh hup
    have hc := List.pairwise_cons.1 hup
    have hx : Maps.has (.map es) (.int .i64 x.1) = true := by rw [hh, List.any_cons, isK_self, Bool.true_or]
    have hd := Maps.size_del (k := .int .i64 x.1) (D := (.map es : DataW Unit)) ⟨es, rfl, hp⟩
    rw [if_pos hx] at hd
    have := ih (D := (DataW.map es).del (.int .i64 x.1)) ⟨_, rfl, hp.filter _, fun p hp => hk p (List.mem_filter.1 hp).1⟩ (fun kl => ?_) hc.2
    · simp; omega
    · by_cases e : kl = .int .i64 x.1
      · subst e
        rw [Maps.has_del_same]
        symm
        rw [List.any_eq_false]
        intro y hy
        have := hc.1 y hy
        rw [isK_iff]
        intro e
        injection e with _ e
        omega
      · rw [Maps.has_del_other e, hh, List.any_cons, isK_no e, Bool.false_or]
/-- is a key below a place? -/
def under (f : Int) : Lit → Bool
  | .int .i64 p => decide (p < f)
  | _ => true
structure Shut (D D0 : DataW Unit) (f : Int) (left : Lit → Bool) : Prop where
  has : ∀ kl, Maps.has D kl = (Maps.has D0 kl && (left kl || under f kl))
  at_ : ∀ kl z, Maps.has D kl = true → D.atKey kl z = D0.atKey kl z
theorem Shut.start (D0 : DataW Unit) (f : Int) : Shut D0 D0 f (Maps.has D0) := ⟨fun kl => by cases Maps.has D0 kl <;> rfl, fun _ _ _ => rfl⟩
theorem Shut.del {D D0 : DataW Unit} {f p : Int} {left left' : Lit → Bool} (h : Shut D D0 f left) (hf : f ≤ p) (hl : left' = fun z => left z && !z.sameKey (.int .i64 p)) : Shut (D.del (.int .i64 p)) D0 f left' := by
  subst hl
  refine ⟨fun kl => ?_, fun kl z hk => ?_⟩
  · by_cases e : kl = .int .i64 p
    · subst e
      have u : under f (.int .i64 p) = false := decide_eq_false (by omega)
      have s : (Lit.int .i64 p).sameKey (.int .i64 p) = true := WideAt.sameKey_self trivial
      rw [Maps.has_del_same, u]
      simp [s]
    · rw [Maps.has_del_other e, h.has]
      have s := Maps.sameKey_ne e
      simp [s]
  · by_cases e : kl = .int .i64 p
    · subst e; rw [Maps.has_del_same] at hk; cases hk
    · rw [Maps.has_del_other e] at hk
      rw [Maps.atKey_del_other e]
      exact h.at_ kl z hk
theorem Shut.stay {D D0 : DataW Unit} {f p : Int} {left left' : Lit → Bool} (h : Shut D D0 f left) (hf : p < f) (hl : left' = fun z => left z && !z.sameKey (.int .i64 p)) : Shut D D0 f left' := by
  subst hl
  refine ⟨fun kl => ?_, h.at_⟩
  rw [h.has]
  by_cases e : kl = .int .i64 p
  · subst e
    have u : under f (.int .i64 p) = true := decide_eq_true hf
    rw [u]; simp
  · have s := Maps.sameKey_ne e
    simp [s]
theorem Shut.done {D D0 : DataW Unit} {f : Int} {left : Lit → Bool} {st : List Pr} (h : Shut D D0 f left) (h0 : Opn D0 st) (hl : ∀ kl, left kl = false) : Opn D (st.filter fun x => decide (x.1 < f)) := by
  refine ⟨fun kl => ?_, fun x hx z => ?_⟩
  · rw [h.has, hl, Bool.false_or, h0.has, List.any_filter]
    cases ha : st.any (fun x => isK x.1 kl) with
    | false =>
      rw [Bool.false_and]
      symm
      rw [List.any_eq_false] at ha ⊢
      intro x hx e
      rw [Bool.and_eq_true] at e
      exact ha x hx e.2
    | true =>
      obtain ⟨x, hx, e⟩ := List.any_eq_true.1 ha
      have e := isK_iff.1 e
      subst e
      rw [Bool.true_and]
      cases hu : under f (.int .i64 x.1) with
      | true =>
        symm
        rw [List.any_eq_true]
        exact ⟨x, hx, by rw [Bool.and_eq_true]; exact ⟨hu, isK_self _⟩⟩
      | false =>
        symm
        rw [List.any_eq_false]
        intro y hy e
        rw [Bool.and_eq_true] at e
        have e2 := isK_iff.1 e.2
        injection e2 with _ e2
        have e3 : decide (y.1 < f) = under f (.int .i64 x.1) := by rw [e2]; rfl
        rw [e.1, hu] at e3
        cases e3
  · have hx2 := List.mem_filter.1 hx
    have hh : Maps.has D (.int .i64 x.1) = true := by
      rw [h.has, hl, Bool.false_or, h0.has, Bool.and_eq_true]
      exact ⟨List.any_eq_true.2 ⟨x, hx2.1, isK_self _⟩, hx2.2⟩
    rw [h.at_ _ _ hh, h0.at_ x hx2.1]
theorem filter_take {st : List Pr} (hup : st.Pairwise fun a b => a.1 < b.1) {j : Nat} (hj : j < st.length) : (st.filter fun x => decide (x.1 < (nthP st j).1)) = st.take j := by
  have e : st = st.take j ++ st.drop j := (List.take_append_drop j st).symm
  have g : (nthP st j).1 = (st[j]).1 := by simp [nthP, List.getElem?_eq_getElem hj]
  have e2 : (st.filter fun x => decide (x.1 < (nthP st j).1)) = (st.take j).filter (fun x => decide (x.1 < (nthP st j).1)) ++ (st.drop j).filter (fun x => decide (x.1 < (nthP st j).1)) := by rw [← List.filter_append, ← e]
  rw [e2]
  have h1 : (st.take j).filter (fun x => decide (x.1 < (nthP st j).1)) = st.take j := by
    rw [List.filter_eq_self]
    intro x hx
    obtain ⟨i, hi, rfl⟩ := List.mem_iff_getElem.1 hx
    rw [List.length_take] at hi
    rw [List.getElem_take]
    have := (List.pairwise_iff_getElem.1 hup) i j (by omega) hj (by omega)
    rw [g]
    exact decide_eq_true this
  have h2 : (st.drop j).filter (fun x => decide (x.1 < (nthP st j).1)) = [] := by
    rw [List.filter_eq_nil_iff]
    intro x hx e
    obtain ⟨i, hi, rfl⟩ := List.mem_iff_getElem.1 hx
    rw [List.length_drop] at hi
    have e := of_decide_eq_true e
    rw [List.getElem_drop, g] at e
    by_cases i0 : i = 0
    · subst i0; simp at e
    · have := (List.pairwise_iff_getElem.1 hup) j (j + i) hj (by omega) (by omega)
      omega
  rw [h1, h2, List.append_nil]

/-! fills -/
def fillN (s : Int) : Nat → Nat → List Int → List Int
  | 0, _, l => l
  | n + 1, k, l => fillN s n (k + 1) (l.set k s)
theorem fillN_len (s : Int) : ∀ n k l, (fillN s n k l).length = l.length
  | 0, _, _ => rfl
  | n + 1, k, l => by show (fillN s n (k + 1) (l.set k s)).length = _; rw [fillN_len s n]; simp
theorem fillN_nth (s : Int) : ∀ n k (l : List Int), k + n ≤ l.length → ∀ j, nth (fillN s n k l) j = if k ≤ j ∧ j < k + n then s else nth l j
  | 0, k, l, _, j => by rw [if_neg (by omega)]; rfl
  | n + 1, k, l, h, j => by
    show nth (fillN s n (k + 1) (l.set k s)) j = _
    rw [fillN_nth s n (k + 1) _ (by simp; omega) j]
    by_cases h1 : k + 1 ≤ j ∧ j < k + 1 + n
    · rw [if_pos h1, if_pos (by omega)]
    · rw [if_neg h1, nth_set _ _ _ _ (by omega)]
      by_cases e : k = j
      · rw [if_pos e, if_pos (by omega)]
      · rw [if_neg e, if_neg (by omega)]
theorem fillN_snoc (s : Int) : ∀ n k (l : List Int), fillN s (n + 1) k l = (fillN s n k l).set (k + n) s
  | 0, k, l => rfl
  | n + 1, k, l => by
    show fillN s (n + 1) (k + 1) (l.set k s) = (fillN s n (k + 1) (l.set k s)).set (k + (n + 1)) s
    rw [fillN_snoc s n (k + 1)]
    congr 1
    omega
/-- where the marks end -/
def endM (F : List Int) : Nat → Nat → Nat
  | 0, k => k
  | n + 1, k => if nth F k = 8 then endM F n (k + 1) else k
theorem endM_le (F : List Int) : ∀ n k, k ≤ endM F n k ∧ endM F n k ≤ k + n
  | 0, k => ⟨Nat.le_refl _, Nat.le_refl _⟩
  | n + 1, k => by
    show k ≤ (if _ then _ else _) ∧ (if _ then _ else _) ≤ _
    split
    · have := endM_le F n (k + 1); omega
    · omega
theorem endM_hit {F : List Int} {n k : Nat} (h : nth F k = 8) : endM F (n + 1) k = endM F n (k + 1) := by show (if _ then _ else _) = _; rw [if_pos h]
theorem endM_miss {F : List Int} {n k : Nat} (h : nth F k ≠ 8) : endM F (n + 1) k = k := by show (if _ then _ else _) = _; rw [if_neg h]
theorem spread_fill (F : List Int) (s : Int) : ∀ n k l, spreadN F s n k l = fillN s (endM F n k - k) k l
  | 0, k, l => by show l = fillN s (k - k) k l; rw [Nat.sub_self]; rfl
  | n + 1, k, l => by
    by_cases h : nth F k = 8
    · rw [spreadN_hit h, endM_hit h, spread_fill F s n (k + 1)]
      have := endM_le F n (k + 1)
      obtain ⟨m, hm⟩ : ∃ m, endM F n (k + 1) - k = m + 1 := ⟨endM F n (k + 1) - k - 1, by omega⟩
      rw [hm, show endM F n (k + 1) - (k + 1) = m by omega]
      rfl
    · rw [spreadN_miss h, endM_miss h, Nat.sub_self]; rfl
def lastM (F : List Int) (a : Nat) : Nat := endM F (F.length - (a + 1)) (a + 1) - 1
theorem lastM_le (F : List Int) (a : Nat) (h : a < F.length) : a ≤ lastM F a ∧ lastM F a < F.length := by
  unfold lastM; have := endM_le F (F.length - (a + 1)) (a + 1); omega
theorem spreadW_fill (F l : List Int) (a : Nat) (s : Int) (h : F.length = l.length) : spreadW F l a s = fillN s (lastM F a + 1 - a) a l := by
  unfold spreadW lastM
  rw [spread_fill, h]
  have := endM_le F (l.length - (a + 1)) (a + 1)
  obtain ⟨m, hm⟩ : ∃ m, endM F (l.length - (a + 1)) (a + 1) - 1 + 1 - a = m + 1 := ⟨endM F (l.length - (a + 1)) (a + 1) - 1 - a, by omega⟩
  rw [hm, show endM F (l.length - (a + 1)) (a + 1) - (a + 1) = m by omega]
  rfl

/-! what a pair becomes -/
def hasW (now : List Int) (p : Int → Bool) : Nat → Nat → Bool
  | 0, _ => false
  | n + 1, i => p (nth now i) || hasW now p n (i + 1)
theorem scanB_eq (now : List Int) (way : Int) : ∀ n i o, scanB now way n i o = if hasW now (fun z => decide (sideC z = way)) n i = true then none else some (o || hasW now (fun z => decide (0 ≤ sideC z)) n i)
  | 0, i, o => by
    show some o = if false = true then none else some (o || false)
    simp
  | n + 1, i, o => by
    show scanB now way (n + 1) i o = if (decide (sideC (nth now i) = way) || hasW now _ n (i + 1)) = true then none else some (o || (decide (0 ≤ sideC (nth now i)) || hasW now _ n (i + 1)))
    by_cases h : sideC (nth now i) = way
    · rw [scanB_hit h, decide_eq_true h]; simp
    · rw [scanB_miss h, scanB_eq now way n (i + 1), decide_eq_false h, Bool.false_or, Bool.or_assoc]
def anyS (ys : List Int) (s : Int) : Bool := ys.any fun z => decide (sideC z = s)
def amid (now : List Int) (a z : Nat) : List Int := (now.take z).drop a
theorem amid_len (now : List Int) (a z : Nat) (hz : z ≤ now.length) : (amid now a z).length = z - a := by unfold amid; rw [List.length_drop, List.length_take]; omega
theorem anyS_amid (now : List Int) (s : Int) (z : Nat) (hz : z ≤ now.length) : ∀ n a, a + n = z → anyS (amid now a z) s = hasW now (fun z => decide (sideC z = s)) n a
  | 0, a, h => by
    have : amid now a z = [] := List.eq_nil_of_length_eq_zero (by rw [amid_len _ _ _ hz]; omega)
    rw [this]; rfl
  | n + 1, a, h => by
    have e : amid now a z = nth now a :: amid now (a + 1) z := by
      unfold amid
      rw [drop_nth _ _ (by rw [List.length_take]; omega), nth_take _ _ _ (by omega)]
    rw [e]
    show (decide (sideC (nth now a) = s) || anyS (amid now (a + 1) z) s) = _
    rw [anyS_amid now s z hz n (a + 1) (by omega)]
    rfl
theorem hasW_imp (now : List Int) {p q : Int → Bool} (h : ∀ z, p z = true → q z = true) : ∀ n i, hasW now p n i = true → hasW now q n i = true
  | 0, _, e => by cases e
  | n + 1, i, e => by
    have e : (p (nth now i) || hasW now p n (i + 1)) = true := e
    show (q (nth now i) || hasW now q n (i + 1)) = true
    rw [Bool.or_eq_true] at e ⊢
    rcases e with e | e
    · exact .inl (h _ e)
    · exact .inr (hasW_imp now h n (i + 1) e)
theorem hasW_or (now : List Int) {p q r : Int → Bool} (h : ∀ z, p z = true → q z = true ∨ r z = true) : ∀ n i, hasW now p n i = true → hasW now q n i = true ∨ hasW now r n i = true
  | 0, _, e => by cases e
  | n + 1, i, e => by
    have e : (p (nth now i) || hasW now p n (i + 1)) = true := e
    show (q (nth now i) || hasW now q n (i + 1)) = true ∨ (r (nth now i) || hasW now r n (i + 1)) = true
    rw [Bool.or_eq_true] at e
    rw [Bool.or_eq_true, Bool.or_eq_true]
    rcases e with e | e
    · rcases h _ e with e | e <;> simp [e]
    · rcases hasW_or now h n (i + 1) e with e | e <;> simp [e]
theorem aheadS_cases (now : List Int) {sos : Int} (hs : sos = 0 ∨ sos = 1) : ∀ k, aheadS now sos k = 0 ∨ aheadS now sos k = 1
  | 0 => hs
  | k + 1 => by
    by_cases h : 0 ≤ sideC (nth now k)
    · rw [aheadS_hit h]; rcases sideC_cases (nth now k) with e | e | e <;> omega
    · rw [aheadS_miss h]; exact aheadS_cases now hs k
theorem becomes_eq (now : List Int) (o c : Nat) (hoc : o < c) (hc : c ≤ now.length) {way sos : Int} (hw : way = 0 ∨ way = 1) (hs : sos = 0 ∨ sos = 1) :
    becomesN now ((o : Int), (c : Int)) way sos = if anyS (amid now (o + 1) c) way = true then way else if anyS (amid now (o + 1) c) (1 - way) = true then aheadS now sos o else -1 := by
  unfold becomesN
  show (match scanB now way ((c : Int) - ((o : Int) + 1)).toNat ((o : Int) + 1).toNat false with | none => way | some false => -1 | some true => if aheadS now sos ((o : Int)).toNat = way then way else 1 - way) = _
  rw [show ((c : Int) - ((o : Int) + 1)).toNat = c - (o + 1) by omega, show ((o : Int) + 1).toNat = o + 1 by omega, Int.toNat_natCast, scanB_eq, anyS_amid now way c hc (c - (o + 1)) (o + 1) (by omega), anyS_amid now (1 - way) c hc (c - (o + 1)) (o + 1) (by omega), Bool.false_or]
  by_cases h1 : hasW now (fun z => decide (sideC z = way)) (c - (o + 1)) (o + 1) = true
  · rw [if_pos h1, if_pos h1]
  · rw [if_neg h1, if_neg h1]
    by_cases h3 : hasW now (fun z => decide (sideC z = 1 - way)) (c - (o + 1)) (o + 1) = true
    · have h2 := hasW_imp now (q := fun z => decide (0 ≤ sideC z)) (fun z hz => by have := of_decide_eq_true hz; exact decide_eq_true (by omega)) _ _ h3
      rw [h2, if_pos h3]
      show (if _ then _ else _) = _
      by_cases h4 : aheadS now sos o = way
      · rw [if_pos h4, h4]
      · rw [if_neg h4]
        rcases aheadS_cases now hs o with e | e <;> omega
    · rw [if_neg h3]
      cases h2 : hasW now (fun z => decide (0 ≤ sideC z)) (c - (o + 1)) (o + 1) with
      | false => rfl
      | true =>
        rcases hasW_or now (q := fun z => decide (sideC z = way)) (r := fun z => decide (sideC z = 1 - way)) (fun z hz => by
          have hz := of_decide_eq_true hz
          rcases sideC_cases z with e | e | e
          · rcases hw with rfl | rfl
            · exact .inl (decide_eq_true e)
            · exact .inr (decide_eq_true e)
          · rcases hw with rfl | rfl
            · exact .inr (decide_eq_true e)
            · exact .inl (decide_eq_true e)
          · omega) _ _ h2 with e | e
        · exact absurd e h1
        · exact absurd e h3
end Go.Proofs.Ytcfnhjpmihngdaa
