/- The plain mathematics of chapter 4: the stack of entries, the three numbers, the levels that come of them. No program is named here. -/
import Derived.Test.YthhbikilighemaaG0
namespace Go.Proofs.Ythhbikilighemaa

/-- an entry of the stack -/
structure Tier where
  lev : Int
  way : Int
  iso : Bool
/-- the stack (its last entry behind), lost isolates, lost embeddings, isolates -/
structure Tell where
  stk : List Tier
  li : Nat
  le : Nat
  is : Nat
def lodd (n : Int) : Int := n + 1 + n % 2
def leven (n : Int) : Int := n + 2 - n % 2
def topT (l : List Tier) : Tier := l.getLast?.getD ⟨0, -1, false⟩
def nextL (left : Bool) (l : List Tier) : Int := if left then lodd (topT l).lev else leven (topT l).lev
def Full (n : Int) (s : Tell) : Prop := 125 < n ∨ 0 < s.li ∨ 0 < s.le
instance (n : Int) (s : Tell) : Decidable (Full n s) := inferInstanceAs (Decidable (125 < n ∨ 0 < s.li ∨ 0 < s.le))
def embS (left : Bool) (way : Int) (s : Tell) : Tell :=
  if Full (nextL left s.stk) s then (if s.li = 0 then ⟨s.stk, s.li, s.le + 1, s.is⟩ else s) else ⟨s.stk ++ [⟨nextL left s.stk, way, false⟩], s.li, s.le, s.is⟩
def isoS (left : Bool) (s : Tell) : Tell :=
  if Full (nextL left s.stk) s then ⟨s.stk, s.li + 1, s.le, s.is⟩ else ⟨s.stk ++ [⟨nextL left s.stk, -1, true⟩], s.li, s.le, s.is + 1⟩
def popR : List Tier → List Tier
  | [] => []
  | e :: l => if e.iso then l else popR l
def popIso (l : List Tier) : List Tier := (popR l.reverse).reverse
def endS (s : Tell) : Tell :=
  if 0 < s.li then ⟨s.stk, s.li - 1, s.le, s.is⟩ else if 0 < s.is then ⟨popIso s.stk, s.li, 0, s.is - 1⟩ else s
def popS (s : Tell) : Tell :=
  if 0 < s.li then s else if 0 < s.le then ⟨s.stk, s.li, s.le - 1, s.is⟩ else if (topT s.stk).iso = false ∧ 1 < s.stk.length then ⟨s.stk.dropLast, s.li, s.le, s.is⟩ else s
def isEmb (k : Int) : Prop := k = 14 ∨ k = 15 ∨ k = 17 ∨ k = 18
instance (k : Int) : Decidable (isEmb k) := inferInstanceAs (Decidable (k = 14 ∨ k = 15 ∨ k = 17 ∨ k = 18))
def wayK (k : Int) : Int := if k = 17 then 0 else if k = 18 then 1 else -1
def leftK (k : Int) : Bool := decide (k = 15 ∨ k = 18)
/-- a character of class k is met; own: whether an isolate goes to the left -/
def stepS (own : Bool) (k : Int) (s : Tell) : Tell :=
  if isEmb k then embS (leftK k) (wayK k) s else if isOp k then isoS own s else if k = 22 then endS s else if k = 16 then popS s else s
/-- what is removed -/
def gone (k : Int) : Bool := decide (k = 9 ∨ (14 ≤ k ∧ k ≤ 18))
/-- whose last entry it takes -/
def atS (k : Int) (s : Tell) : Tell := if k = 22 then endS s else s
def lvS (k : Int) (s : Tell) : Int := if gone k then -1 else (topT (atS k s).stk).lev
def clS (k : Int) (s : Tell) : Int := if gone k then k else if (topT (atS k s).stk).way = -1 then k else (topT (atS k s).stk).way
/-- where what an isolate holds ends -/
def endOf (ks : List Int) (i : Nat) : Nat := if 0 ≤ nth (matchN ks) i then (nth (matchN ks) i).toNat else ks.length
def ownWay (ks : List Int) (i : Nat) : Int := baseG 0 ((ks.take (endOf ks i)).drop (i + 1))
def leftOf (ks : List Int) (i : Nat) : Bool := if nth ks i = 21 then decide (ownWay ks i = 1) else decide (nth ks i = 20)
def eat (ks : List Int) (base : Int) : Nat → Tell × List Int × List Int
  | 0 => (⟨[⟨base, -1, false⟩], 0, 0, 0⟩, [], [])
  | i + 1 => (stepS (leftOf ks i) (nth ks i) (eat ks base i).1, (eat ks base i).2.1 ++ [lvS (nth ks i) (eat ks base i).1], (eat ks base i).2.2 ++ [clS (nth ks i) (eat ks base i).1])
def levN (ks : List Int) (base : Int) : List Int := (eat ks base ks.length).2.1
def clsN (ks : List Int) (base : Int) : List Int := (eat ks base ks.length).2.2
theorem eat_len (ks : List Int) (base : Int) : ∀ i, (eat ks base i).2.1.length = i ∧ (eat ks base i).2.2.length = i
  | 0 => ⟨rfl, rfl⟩
  | i + 1 => by have := eat_len ks base i; simp [eat, this]
theorem eat_succ (ks : List Int) (base : Int) (i : Nat) : eat ks base (i + 1) = (stepS (leftOf ks i) (nth ks i) (eat ks base i).1, (eat ks base i).2.1 ++ [lvS (nth ks i) (eat ks base i).1], (eat ks base i).2.2 ++ [clS (nth ks i) (eat ks base i).1]) := rfl

theorem endOf_bound (ks : List Int) (i : Nat) (hi : i < ks.length) (ho : isOp (nth ks i)) : i + 1 ≤ endOf ks i ∧ endOf ks i ≤ ks.length := by
  have m := match_open ks i hi ho
  have c := closeAt_lt (ks.drop (i + 1)) 0
  unfold endOf
  cases h : closeAt 0 (ks.drop (i + 1)) with
  | none =>
    rw [h] at m
    have m' : nth (matchN ks) i = -1 := m
    rw [if_neg (by omega)]; omega
  | some d =>
    rw [h] at m
    have m' : nth (matchN ks) i = ((i + 1 + d : Nat) : Int) := m
    have := c d h
    rw [List.length_drop] at this
    rw [if_pos (by omega)]; omega

/-- how many isolates stand in a stack -/
def isos (l : List Tier) : Nat := (l.filter (·.iso)).length
theorem isos_app (a b : List Tier) : isos (a ++ b) = isos a + isos b := by simp [isos]
theorem isos_one (e : Tier) : isos [e] = if e.iso then 1 else 0 := by unfold isos; cases h : e.iso <;> simp [h]
theorem topT_app (a : List Tier) (e : Tier) : topT (a ++ [e]) = e := by simp [topT]
theorem split_last (l : List Tier) (h : 0 < l.length) : l = l.dropLast ++ [topT l] := by
  rcases List.eq_nil_or_concat l with rfl | ⟨a, e, rfl⟩
  · simp at h
  · simp [List.concat_eq_append, topT]
theorem popIso_app (a : List Tier) (e : Tier) : popIso (a ++ [e]) = if e.iso then a else popIso a := by
  unfold popIso
  rw [List.reverse_append]
  show (if e.iso then a.reverse else popR a.reverse).reverse = _
  split
  · simp
  · rfl
theorem popIso_last (l : List Tier) (h : 0 < l.length) : popIso l = if (topT l).iso then l.dropLast else popIso l.dropLast := by
  have := split_last l h
  conv => lhs; rw [this]
  rw [popIso_app]
/-- what is always so of a stack -/
structure WfT (s : Tell) (i : Nat) : Prop where
  head : ∃ e l, s.stk = e :: l ∧ e.iso = false
  many : isos s.stk = s.is
  len : s.stk.length ≤ i + 1
  lev : ∀ e ∈ s.stk, 0 ≤ e.lev ∧ e.lev ≤ 125 ∧ -1 ≤ e.way ∧ e.way ≤ 1
  li : s.li ≤ i
  le : s.le ≤ i
  is : s.is ≤ i
theorem WfT.pos {s : Tell} {i : Nat} (h : WfT s i) : 0 < s.stk.length := by obtain ⟨e, l, h, _⟩ := h.head; rw [h]; simp
theorem topT_mem (l : List Tier) (h : 0 < l.length) : topT l ∈ l := by
  have := split_last l h
  rw [this, topT_app]; simp
theorem WfT.top {s : Tell} {i : Nat} (h : WfT s i) : 0 ≤ (topT s.stk).lev ∧ (topT s.stk).lev ≤ 125 ∧ -1 ≤ (topT s.stk).way ∧ (topT s.stk).way ≤ 1 := h.lev _ (topT_mem _ h.pos)
theorem WfT.more {s : Tell} {i j : Nat} (h : WfT s i) (hj : i ≤ j) : WfT s j := ⟨h.head, h.many, by have := h.len; omega, h.lev, by have := h.li; omega, by have := h.le; omega, by have := h.is; omega⟩
theorem nextL_low (left : Bool) (l : List Tier) (h : 0 ≤ (topT l).lev) : 0 ≤ nextL left l ∧ (topT l).lev < nextL left l ∧ nextL left l ≤ (topT l).lev + 2 := by
  unfold nextL lodd leven
  split <;> omega
theorem WfT.push {s : Tell} {i : Nat} (h : WfT s i) (n w : Int) (b : Bool) (li le is : Nat) (hn : 0 ≤ n ∧ n ≤ 125) (hw : -1 ≤ w ∧ w ≤ 1) (hi : is = s.is + (if b then 1 else 0)) (h1 : li ≤ i + 1) (h2 : le ≤ i + 1) :
    WfT ⟨s.stk ++ [⟨n, w, b⟩], li, le, is⟩ (i + 1) := by
  obtain ⟨e, l, he, hb⟩ := h.head
  refine ⟨⟨e, l ++ [⟨n, w, b⟩], by simp [he], hb⟩, ?_, ?_, ?_, h1, h2, ?_⟩
  · simp only [isos_app, h.many, isos_one, hi]
  · have := h.len; simp; omega
  · intro e he
    simp only [List.mem_append, List.mem_cons, List.not_mem_nil, or_false] at he
    rcases he with he | rfl
    · exact h.lev e he
    · exact ⟨hn.1, hn.2, hw.1, hw.2⟩
  · have := h.is
    simp only [hi]
    split <;> omega
theorem WfT.emb {s : Tell} {i : Nat} (h : WfT s i) (left : Bool) (w : Int) (hw : -1 ≤ w ∧ w ≤ 1) : WfT (embS left w s) (i + 1) := by
  unfold embS
  have t := nextL_low left s.stk h.top.1
  split
  · split
    · exact ⟨h.head, h.many, by have := h.len; simp; omega, h.lev, by have := h.li; simp; omega, by have := h.le; simp; omega, by have := h.is; simp; omega⟩
    · exact h.more (by omega)
  · rename_i hf
    unfold Full at hf
    exact h.push _ _ _ _ _ _ (by omega) hw (by simp) (by omega) (by omega)
theorem WfT.iso {s : Tell} {i : Nat} (h : WfT s i) (left : Bool) : WfT (isoS left s) (i + 1) := by
  unfold isoS
  have t := nextL_low left s.stk h.top.1
  split
  · exact ⟨h.head, h.many, by have := h.len; simp; omega, h.lev, by have := h.li; simp; omega, by have := h.le; simp; omega, by have := h.is; simp; omega⟩
  · rename_i hf
    unfold Full at hf
    exact h.push _ _ _ _ _ _ (by omega) (by omega) (by simp) (by omega) (by omega)
theorem popR_app (a : List Tier) (e : Tier) (h : e.iso = false) : ∀ (l : List Tier), 0 < isos l → ∃ m, popR (l ++ [e]) = m ++ [e] ∧ isos m + 1 = isos l ∧ m.length ≤ l.length ∧ ∀ x ∈ m, x ∈ l
  | [], h0 => by simp [isos] at h0
  | x :: l, h0 => by
    have hc : isos (x :: l) = isos [x] + isos l := isos_app [x] l
    by_cases hx : x.iso = true
    · refine ⟨l, by simp [popR, hx], ?_, by simp, fun y hy => by simp [hy]⟩
      rw [hc, isos_one, if_pos hx]; omega
    · rw [isos_one, if_neg hx] at hc
      obtain ⟨m, h1, h2, h3, h4⟩ := popR_app a e h l (by omega)
      refine ⟨m, by simp [popR, hx, h1], by omega, by simp; omega, fun y hy => by simp [h4 y hy]⟩
theorem isos_rev (l : List Tier) : isos l.reverse = isos l := by unfold isos; rw [List.filter_reverse, List.length_reverse]
theorem WfT.ends {s : Tell} {i : Nat} (h : WfT s i) : WfT (endS s) (i + 1) := by
  unfold endS
  split
  · exact ⟨h.head, h.many, by have := h.len; simp; omega, h.lev, by have := h.li; simp; omega, by have := h.le; simp; omega, by have := h.is; simp; omega⟩
  · split
    · rename_i h0
      obtain ⟨e, l, he, hb⟩ := h.head
      have hm := h.many
      have hl : isos (e :: l) = isos [e] + isos l := isos_app [e] l
      rw [he, hl, isos_one, hb] at hm
      have hm' : isos l = s.is := by simpa using hm
      obtain ⟨m, h1, h2, h3, h4⟩ := popR_app [] e hb l.reverse (by rw [isos_rev]; omega)
      have ep : popIso s.stk = e :: m.reverse := by
        unfold popIso
        rw [he, List.reverse_cons, h1, List.reverse_append]; rfl
      rw [ep]
      rw [isos_rev] at h2
      refine ⟨⟨e, _, rfl, hb⟩, ?_, ?_, ?_, ?_, ?_, ?_⟩
      · show isos ([e] ++ m.reverse) = s.is - 1
        rw [isos_app, isos_one, hb, isos_rev]; simp; omega
      · have := h.len
        rw [he] at this
        simp at this h3 ⊢
        omega
      · intro x hx
        simp only [List.mem_cons, List.mem_reverse] at hx
        rcases hx with rfl | hx
        · exact h.lev _ (by rw [he]; simp)
        · exact h.lev _ (by rw [he]; have := h4 x hx; simp at this; simp [this])
      · have := h.li; simp; omega
      · simp
      · have := h.is; simp; omega
    · exact h.more (by omega)
theorem WfT.pops {s : Tell} {i : Nat} (h : WfT s i) : WfT (popS s) (i + 1) := by
  unfold popS
  split
  · exact h.more (by omega)
  · split
    · exact ⟨h.head, h.many, by have := h.len; simp; omega, h.lev, by have := h.li; simp; omega, by have := h.le; simp; omega, by have := h.is; simp; omega⟩
    · split
      · rename_i ht
        obtain ⟨ht, hl⟩ := ht
        have sl := split_last s.stk h.pos
        have hm := h.many
        rw [sl, isos_app, isos_one, ht] at hm
        refine ⟨?_, by simpa using hm, ?_, fun e he => h.lev e (List.dropLast_subset _ he), by have := h.li; simp; omega, by have := h.le; simp; omega, by have := h.is; simp; omega⟩
        · obtain ⟨e, l, he, hb⟩ := h.head
          rw [he] at hl ⊢
          match l, hl with
          | y :: l', _ => exact ⟨e, (y :: l').dropLast, rfl, hb⟩
        · have := h.len; simp; omega
      · exact h.more (by omega)
theorem wayK_range (k : Int) : -1 ≤ wayK k ∧ wayK k ≤ 1 := by
  unfold wayK
  split
  · omega
  · split <;> omega
theorem WfT.step {s : Tell} {i : Nat} (h : WfT s i) (own : Bool) (k : Int) : WfT (stepS own k s) (i + 1) := by
  unfold stepS
  split
  · exact h.emb _ _ (wayK_range k)
  · split
    · exact h.iso own
    · split
      · exact h.ends
      · split
        · exact h.pops
        · exact h.more (by omega)
theorem eat_wf (ks : List Int) (base : Int) (hb : 0 ≤ base ∧ base ≤ 1) : ∀ i, WfT (eat ks base i).1 i
  | 0 => ⟨⟨_, [], rfl, rfl⟩, rfl, by simp [eat], by
      intro e he
      simp only [eat, List.mem_cons, List.not_mem_nil, or_false] at he
      subst he
      exact ⟨hb.1, by show base ≤ 125; omega, by show (-1 : Int) ≤ -1; omega, by show (-1 : Int) ≤ 1; omega⟩, by simp [eat], by simp [eat], by simp [eat]⟩
  | i + 1 => (eat_wf ks base hb i).step _ _
end Go.Proofs.Ythhbikilighemaa
