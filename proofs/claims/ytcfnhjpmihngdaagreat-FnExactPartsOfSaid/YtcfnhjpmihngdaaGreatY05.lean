/- Rows whose cells hold slices of numbers of the call's own: memory facts. No program is named here. -/
import Derived.Test.YtcfnhjpmihngdaaGreatY02
import Derived.Test.YtcfnhjpmihngdaaGreatY01
namespace Go.Proofs.YtcfnhjpmihngdaaGreat
open Go.RowKit

end Go.Proofs.YtcfnhjpmihngdaaGreat

namespace Go.Proofs.YtcfnhjpmihngdaaGreat

/-- an entry of the stack -/
structure Tier where
  lev : Int
  way : Int
  iso : Bool
/-- the stack (its last entry behind), lost isolates, lost embeddings, isolates -/
structure Tell where
  stk : List Tier
  li : Nat
  le : Nat
  is : Nat
def lodd (n : Int) : Int := n + 1 + n % 2
def leven (n : Int) : Int := n + 2 - n % 2
def topT (l : List Tier) : Tier := l.getLast?.getD ⟨0, -1, false⟩
def nextL (left : Bool) (l : List Tier) : Int := if left then lodd (topT l).lev else leven (topT l).lev
def Full (n : Int) (s : Tell) : Prop := 125 < n ∨ 0 < s.li ∨ 0 < s.le
instance (n : Int) (s : Tell) : Decidable (Full n s) := inferInstanceAs (Decidable (125 < n ∨ 0 < s.li ∨ 0 < s.le))
def embS (left : Bool) (way : Int) (s : Tell) : Tell :=
  if Full (nextL left s.stk) s then (if s.li = 0 then ⟨s.stk, s.li, s.le + 1, s.is⟩ else s) else ⟨s.stk ++ [⟨nextL left s.stk, way, false⟩], s.li, s.le, s.is⟩
def isoS (left : Bool) (s : Tell) : Tell :=
  if Full (nextL left s.stk) s then ⟨s.stk, s.li + 1, s.le, s.is⟩ else ⟨s.stk ++ [⟨nextL left s.stk, -1, true⟩], s.li, s.le, s.is + 1⟩
def popR : List Tier → List Tier
  | [] => []
  | e :: l => if e.iso then l else popR l
def popIso (l : List Tier) : List Tier := (popR l.reverse).reverse
def endS (s : Tell) : Tell :=
  if 0 < s.li then ⟨s.stk, s.li - 1, s.le, s.is⟩ else if 0 < s.is then ⟨popIso s.stk, s.li, 0, s.is - 1⟩ else s
def popS (s : Tell) : Tell :=
  if 0 < s.li then s else if 0 < s.le then ⟨s.stk, s.li, s.le - 1, s.is⟩ else if (topT s.stk).iso = false ∧ 1 < s.stk.length then ⟨s.stk.dropLast, s.li, s.le, s.is⟩ else s
def isEmb (k : Int) : Prop := k = 14 ∨ k = 15 ∨ k = 17 ∨ k = 18
instance (k : Int) : Decidable (isEmb k) := inferInstanceAs (Decidable (k = 14 ∨ k = 15 ∨ k = 17 ∨ k = 18))
def wayK (k : Int) : Int := if k = 17 then 0 else if k = 18 then 1 else -1
def leftK (k : Int) : Bool := decide (k = 15 ∨ k = 18)
/-- a character of class k is met; own: whether an isolate goes to the left -/
def stepS (own : Bool) (k : Int) (s : Tell) : Tell :=
  if isEmb k then embS (leftK k) (wayK k) s else if isOp k then isoS own s else if k = 22 then endS s else if k = 16 then popS s else s
/-- what is removed -/
def gone (k : Int) : Bool := decide (k = 9 ∨ (14 ≤ k ∧ k ≤ 18))
/-- whose last entry it takes -/
def atS (k : Int) (s : Tell) : Tell := if k = 22 then endS s else s
def lvS (k : Int) (s : Tell) : Int := if gone k then -1 else (topT (atS k s).stk).lev
def clS (k : Int) (s : Tell) : Int := if gone k then k else if (topT (atS k s).stk).way = -1 then k else (topT (atS k s).stk).way
/-- where what an isolate holds ends -/
def endOf (ks : List Int) (i : Nat) : Nat := if 0 ≤ nth (matchN ks) i then (nth (matchN ks) i).toNat else ks.length
def ownWay (ks : List Int) (i : Nat) : Int := baseG 0 ((ks.take (endOf ks i)).drop (i + 1))
def leftKs (ks : List Int) (i : Nat) : Bool := if nth ks i = 21 then decide (ownWay ks i = 1) else decide (nth ks i = 20)
def eat (ks : List Int) (base : Int) : Nat → Tell × List Int × List Int
  | 0 => (⟨[⟨base, -1, false⟩], 0, 0, 0⟩, [], [])
  | i + 1 => (stepS (leftKs ks i) (nth ks i) (eat ks base i).1, (eat ks base i).2.1 ++ [lvS (nth ks i) (eat ks base i).1], (eat ks base i).2.2 ++ [clS (nth ks i) (eat ks base i).1])
def levN (ks : List Int) (base : Int) : List Int := (eat ks base ks.length).2.1
def clsN (ks : List Int) (base : Int) : List Int := (eat ks base ks.length).2.2
theorem eat_len (ks : List Int) (base : Int) : ∀ i, (eat ks base i).2.1.length = i ∧ (eat ks base i).2.2.length = i
  | 0 => ⟨rfl, rfl⟩
  | i + 1 => by have := eat_len ks base i; simp [eat, this]
theorem eat_succ (ks : List Int) (base : Int) (i : Nat) : eat ks base (i + 1) = (stepS (leftKs ks i) (nth ks i) (eat ks base i).1, (eat ks base i).2.1 ++ [lvS (nth ks i) (eat ks base i).1], (eat ks base i).2.2 ++ [clS (nth ks i) (eat ks base i).1]) := rfl

theorem endOf_bound (ks : List Int) (i : Nat) (hi : i < ks.length) (ho : isOp (nth ks i)) : i + 1 ≤ endOf ks i ∧ endOf ks i ≤ ks.length := by
  have m := match_open ks i hi ho
  have c := closeAt_lt (ks.drop (i + 1)) 0
  unfold endOf
  cases h : closeAt 0 (ks.drop (i + 1)) with
  | none =>
    rw [h] at m
    have m' : nth (matchN ks) i = -1 := m
    rw [if_neg (by omega)]; omega
  | some d =>
    rw [h] at m
    have m' : nth (matchN ks) i = ((i + 1 + d : Nat) : Int) := m
    have := c d h
    rw [List.length_drop] at this
    rw [if_pos (by omega)]; omega

/-- how many isolates stand in a stack -/
def isos (l : List Tier) : Nat := (l.filter (·.iso)).length
theorem isos_app (a b : List Tier) : isos (a ++ b) = isos a + isos b := by simp [isos]
theorem isos_one (e : Tier) : isos [e] = if e.iso then 1 else 0 := by unfold isos; cases h : e.iso <;> simp [h]
theorem topT_app (a : List Tier) (e : Tier) : topT (a ++ [e]) = e := by simp [topT]
theorem split_last (l : List Tier) (h : 0 < l.length) : l = l.dropLast ++ [topT l] := by
  rcases List.eq_nil_or_concat l with rfl | ⟨a, e, rfl⟩
  · simp at h
  · simp [List.concat_eq_append, topT]
theorem popIso_app (a : List Tier) (e : Tier) : popIso (a ++ [e]) = if e.iso then a else popIso a := by
  unfold popIso
  rw [List.reverse_append]
  show (if e.iso then a.reverse else popR a.reverse).reverse = _
  split
  · simp
  · rfl
theorem popIso_last (l : List Tier) (h : 0 < l.length) : popIso l = if (topT l).iso then l.dropLast else popIso l.dropLast := by
  have := split_last l h
  conv => lhs; rw [this]
  rw [popIso_app]
/-- what is always so of a stack -/
structure WfT (s : Tell) (i : Nat) : Prop where
  head : ∃ e l, s.stk = e :: l ∧ e.iso = false
  many : isos s.stk = s.is
  len : s.stk.length ≤ i + 1
  lev : ∀ e ∈ s.stk, 0 ≤ e.lev ∧ e.lev ≤ 125 ∧ -1 ≤ e.way ∧ e.way ≤ 1
  li : s.li ≤ i
  le : s.le ≤ i
  is : s.is ≤ i
theorem WfT.pos {s : Tell} {i : Nat} (h : WfT s i) : 0 < s.stk.length := by obtain ⟨e, l, h, _⟩ := h.head; rw [h]; simp
theorem topT_mem (l : List Tier) (h : 0 < l.length) : topT l ∈ l := by
  have := split_last l h
  rw [this, topT_app]; simp
theorem WfT.top {s : Tell} {i : Nat} (h : WfT s i) : 0 ≤ (topT s.stk).lev ∧ (topT s.stk).lev ≤ 125 ∧ -1 ≤ (topT s.stk).way ∧ (topT s.stk).way ≤ 1 := h.lev _ (topT_mem _ h.pos)
theorem WfT.more {s : Tell} {i j : Nat} (h : WfT s i) (hj : i ≤ j) : WfT s j := ⟨h.head, h.many, by have := h.len; omega, h.lev, by have := h.li; omega, by have := h.le; omega, by have := h.is; omega⟩
theorem nextL_low (left : Bool) (l : List Tier) (h : 0 ≤ (topT l).lev) : 0 ≤ nextL left l ∧ (topT l).lev < nextL left l ∧ nextL left l ≤ (topT l).lev + 2 := by
  unfold nextL lodd leven
  split <;> omega
theorem WfT.push {s : Tell} {i : Nat} (h : WfT s i) (n w : Int) (b : Bool) (li le is : Nat) (hn : 0 ≤ n ∧ n ≤ 125) (hw : -1 ≤ w ∧ w ≤ 1) (hi : is = s.is + (if b then 1 else 0)) (h1 : li ≤ i + 1) (h2 : le ≤ i + 1) :
    WfT ⟨s.stk ++ [⟨n, w, b⟩], li, le, is⟩ (i + 1) := by
  obtain ⟨e, l, he, hb⟩ := h.head
  refine ⟨⟨e, l ++ [⟨n, w, b⟩], by simp [he], hb⟩, ?_, ?_, ?_, h1, h2, ?_⟩
  · simp only [isos_app, h.many, isos_one, hi]
  · have := h.len; simp; omega
  · intro e he
    simp only [List.mem_append, List.mem_cons, List.not_mem_nil, or_false] at he
    rcases he with he | rfl
    · exact h.lev e he
    · exact ⟨hn.1, hn.2, hw.1, hw.2⟩
  · have := h.is
    simp only [hi]
    split <;> omega
theorem WfT.emb {s : Tell} {i : Nat} (h : WfT s i) (left : Bool) (w : Int) (hw : -1 ≤ w ∧ w ≤ 1) : WfT (embS left w s) (i + 1) := by
  unfold embS
  have t := nextL_low left s.stk h.top.1
  split
  · split
    · exact ⟨h.head, h.many, by have := h.len; simp; omega, h.lev, by have := h.li; simp; omega, by have := h.le; simp; omega, by have := h.is; simp; omega⟩
    · exact h.more (by omega)
  · rename_i hf
    unfold Full at hf
    exact h.push _ _ _ _ _ _ (by omega) hw (by simp) (by omega) (by omega)
theorem WfT.iso {s : Tell} {i : Nat} (h : WfT s i) (left : Bool) : WfT (isoS left s) (i + 1) := by
  unfold isoS
  have t := nextL_low left s.stk h.top.1
  split
  · exact ⟨h.head, h.many, by have := h.len; simp; omega, h.lev, by have := h.li; simp; omega, by have := h.le; simp; omega, by have := h.is; simp; omega⟩
  · rename_i hf
    unfold Full at hf
    exact h.push _ _ _ _ _ _ (by omega) (by omega) (by simp) (by omega) (by omega)
theorem popR_app (a : List Tier) (e : Tier) (h : e.iso = false) : ∀ (l : List Tier), 0 < isos l → ∃ m, popR (l ++ [e]) = m ++ [e] ∧ isos m + 1 = isos l ∧ m.length ≤ l.length ∧ ∀ x ∈ m, x ∈ l
  | [], h0 => by simp [isos] at h0
  | x :: l, h0 => by
    have hc : isos (x :: l) = isos [x] + isos l := isos_app [x] l
    by_cases hx : x.iso = true
    · refine ⟨l, by simp [popR, hx], ?_, by simp, fun y hy => by simp [hy]⟩
      rw [hc, isos_one, if_pos hx]; omega
    · rw [isos_one, if_neg hx] at hc
      obtain ⟨m, h1, h2, h3, h4⟩ := popR_app a e h l (by omega)
      refine ⟨m, by simp [popR, hx, h1], by omega, by simp; omega, fun y hy => by simp [h4 y hy]⟩
theorem isos_rev (l : List Tier) : isos l.reverse = isos l := by unfold isos; rw [List.filter_reverse, List.length_reverse]
theorem WfT.ends {s : Tell} {i : Nat} (h : WfT s i) : WfT (endS s) (i + 1) := by
  unfold endS
  split
  · exact ⟨h.head, h.many, by have := h.len; simp; omega, h.lev, by have := h.li; simp; omega, by have := h.le; simp; omega, by have := h.is; simp; omega⟩
  · split
    · rename_i h0
      obtain ⟨e, l, he, hb⟩ := h.head
      have hm := h.many
      have hl : isos (e :: l) = isos [e] + isos l := isos_app [e] l
      rw [he, hl, isos_one, hb] at hm
      have hm' : isos l = s.is := by simpa using hm
      obtain ⟨m, h1, h2, h3, h4⟩ := popR_app [] e hb l.reverse (by rw [isos_rev]; omega)
      have ep : popIso s.stk = e :: m.reverse := by
        unfold popIso
        rw [he, List.reverse_cons, h1, List.reverse_append]; rfl
      rw [ep]
      rw [isos_rev] at h2
      refine ⟨⟨e, _, rfl, hb⟩, ?_, ?_, ?_, ?_, ?_, ?_⟩
      · show isos ([e] ++ m.reverse) = s.is - 1
        rw [isos_app, isos_one, hb, isos_rev]; simp; omega
      · have := h.len
        rw [he] at this
        simp at this h3 ⊢
        omega
      · intro x hx
        simp only [List.mem_cons, List.mem_reverse] at hx
        rcases hx with rfl | hx
        · exact h.lev _ (by rw [he]; simp)
        · exact h.lev _ (by rw [he]; have := h4 x hx; simp at this; simp [this])
      · have := h.li; simp; omega
      · simp
      · have := h.is; simp; omega
    · exact h.more (by omega)
theorem WfT.pops {s : Tell} {i : Nat} (h : WfT s i) : WfT (popS s) (i + 1) := by
  unfold popS
  split
  · exact h.more (by omega)
  · split
    · exact ⟨h.head, h.many, by have := h.len; simp; omega, h.lev, by have := h.li; simp; omega, by have := h.le; simp; omega, by have := h.is; simp; omega⟩
    · split
      · rename_i ht
        obtain ⟨ht, hl⟩ := ht
        have sl := split_last s.stk h.pos
        have hm := h.many
        rw [sl, isos_app, isos_one, ht] at hm
        refine ⟨?_, by simpa using hm, ?_, fun e he => h.lev e (List.dropLast_subset _ he), by have := h.li; simp; omega, by have := h.le; simp; omega, by have := h.is; simp; omega⟩
        · obtain ⟨e, l, he, hb⟩ := h.head
          rw [he] at hl ⊢
          match l, hl with
          | y :: l', _ => exact ⟨e, (y :: l').dropLast, rfl, hb⟩
        · have := h.len; simp; omega
      · exact h.more (by omega)
theorem wayK_range (k : Int) : -1 ≤ wayK k ∧ wayK k ≤ 1 := by
  unfold wayK
  split
  · omega
  · split <;> omega
theorem WfT.step {s : Tell} {i : Nat} (h : WfT s i) (own : Bool) (k : Int) : WfT (stepS own k s) (i + 1) := by
  unfold stepS
  split
  · exact h.emb _ _ (wayK_range k)
  · split
    · exact h.iso own
    · split
      · exact h.ends
      · split
        · exact h.pops
        · exact h.more (by omega)
theorem eat_wf (ks : List Int) (base : Int) (hb : 0 ≤ base ∧ base ≤ 1) : ∀ i, WfT (eat ks base i).1 i
  | 0 => ⟨⟨_, [], rfl, rfl⟩, rfl, by simp [eat], by
      intro e he
      simp only [eat, List.mem_cons, List.not_mem_nil, or_false] at he
      subst he
      exact ⟨hb.1, by show base ≤ 125; omega, by show (-1 : Int) ≤ -1; omega, by show (-1 : Int) ≤ 1; omega⟩, by simp [eat], by simp [eat], by simp [eat]⟩
  | i + 1 => (eat_wf ks base hb i).step _ _
end Go.Proofs.YtcfnhjpmihngdaaGreat

namespace Go.Proofs.YtcfnhjpmihngdaaGreat
open Go.RowKit

/-- what a cell that is a slice of numbers holds -/
structure Cont where
  t : TypeId
  kd : IntKind
  zs : List Int

/-- v is a slice of n elements of 'size' cells each, the call's own; its cells are us; those that cs names are slices of the call's own, no two in one block -/
structure OwnC (w : World) (lo hi : Nat) (tt : TypeId) (size : Nat) (v : Value) (n : Nat) (us : List Value) (cs : Nat → Option Cont) : Prop where
  row : w.ownsRow lo tt size v n us
  top : ∀ g, v.ownBlock = some g → g < hi
  each : ∀ k c, cs k = some c → ∃ u, us[k]? = some u ∧ Own w lo hi c.t c.kd u c.zs
  bare : ∀ (k : Nat) (u : Value), us[k]? = some u → cs k = none → u.ownBlock = none
  apart : ∀ (i j : Nat) (u u' : Value), i < j → us[i]? = some u → us[j]? = some u' → u.ownBlock = none ∨ u.ownBlock ≠ u'.ownBlock
  off : ∀ (k : Nat) (u : Value), us[k]? = some u → u.ownBlock = none ∨ u.ownBlock ≠ v.ownBlock

theorem ownsRow_keep {w w' : World} {base n : Nat} {e : TypeId} {size : Nat} {v : Value} {xs : List Value} (h : w.ownsRow base e size v n xs) (hk : ∀ g, v.ownBlock = some g → w'.heap[g]? = w.heap[g]?) : w'.ownsRow base e size v n xs := by
  refine ⟨h.1, ?_⟩
  rcases h.2 with hn | ⟨g, cap, cur, rfl, hb, hg, rest⟩
  · exact .inl hn
  · exact .inr ⟨g, cap, cur, rfl, hb, by rw [hk g rfl]; exact hg, rest⟩

section
variable {w w' : World} {lo hi : Nat} {tt : TypeId} {size : Nat} {v : Value} {n : Nat} {us : List Value} {cs : Nat → Option Cont}

theorem OwnC.lts (h : OwnC w lo hi tt size v n us cs) : ∀ (k : Nat) (u : Value) (g : Nat), us[k]? = some u → u.ownBlock = some g → lo ≤ g ∧ g < hi ∧ g < w.heap.size := by
  intro k u g hu hg
  cases hc : cs k with
  | none => rw [h.bare k u hu hc] at hg; cases hg
  | some c =>
    obtain ⟨u', h1, h2⟩ := h.each k c hc
    rw [hu] at h1
    injection h1 with h1
    subst h1
    have := h2.lt g hg
    have := h2.1.lt g hg
    omega
theorem OwnC.vlt (h : OwnC w lo hi tt size v n us cs) : ∀ g, v.ownBlock = some g → lo ≤ g ∧ g < hi ∧ g < w.heap.size := fun g hg => ⟨(h.row.lt g hg).1, h.top g hg, (h.row.lt g hg).2⟩
theorem OwnC.keep (h : OwnC w lo hi tt size v n us cs) (hk : ∀ k, k < w.heap.size → lo ≤ k → k < hi → w'.heap[k]? = w.heap[k]?) : OwnC w' lo hi tt size v n us cs :=
  ⟨ownsRow_keep h.row fun g hg => hk g (h.row.lt g hg).2 (h.row.lt g hg).1 (h.top g hg), h.top,
   fun k c hc => by obtain ⟨u, h1, h2⟩ := h.each k c hc; exact ⟨u, h1, h2.keep hk⟩, h.bare, h.apart, h.off⟩
theorem OwnC.below {B : Nat} (h : OwnC w lo hi tt size v n us cs) (hb : Below B w w') (hB : hi ≤ B) : OwnC w' lo hi tt size v n us cs :=
  h.keep fun k _ _ hk => hb.block k (Nat.lt_of_lt_of_le hk hB)
theorem OwnC.out {lo' hi' : Nat} (h : OwnC w lo hi tt size v n us cs) (hb : Out lo' hi' w w') (hd : hi ≤ lo' ∨ hi' ≤ lo) : OwnC w' lo hi tt size v n us cs :=
  h.keep fun k hk h1 h2 => hb.block k hk (by omega)
theorem OwnC.alloc (h : OwnC w lo hi tt size v n us cs) (o : Obj) : OwnC (w.alloc o) lo hi tt size v n us cs := h.keep fun k hk _ _ => Below.heap_alloc w o k hk
theorem OwnC.set (h : OwnC w lo hi tt size v n us cs) (p : Addr) (u : Value) (hp : p.block < lo ∨ hi ≤ p.block) : OwnC (w.setCell p u) lo hi tt size v n us cs :=
  h.keep fun k _ h1 h2 => heap_setCell_other w p k u (by omega)
theorem OwnC.more {lo' hi' : Nat} (h : OwnC w lo hi tt size v n us cs) (h1 : lo' ≤ lo) (h2 : hi ≤ hi') : OwnC w lo' hi' tt size v n us cs :=
  ⟨own_more h.row h1, fun g hg => Nat.lt_of_lt_of_le (h.top g hg) h2, fun k c hc => by obtain ⟨u, a, b⟩ := h.each k c hc; exact ⟨u, a, b.more h1 h2⟩, h.bare, h.apart, h.off⟩
theorem OwnC.drew (h : OwnC w lo hi tt size v n us cs) (k : Nat) : OwnC (w.drewN k) lo hi tt size v n us cs := h.keep fun _ _ _ _ => rfl
/-- another block has turned -/
theorem OwnC.grown {b : Option Nat} (h : OwnC w lo hi tt size v n us cs) (hg : w.grownBy w' b) (hv : v.ownBlock = none ∨ v.ownBlock ≠ b) (hu : ∀ (k : Nat) (u : Value), us[k]? = some u → u.ownBlock = none ∨ u.ownBlock ≠ b) : OwnC w' lo hi tt size v n us cs :=
  ⟨h.row.kept hg hv, h.top, fun k c hc => by
    obtain ⟨u, a, o⟩ := h.each k c hc
    refine ⟨u, a, ⟨o.1.kept hg (hu k u a), o.2⟩⟩, h.bare, h.apart, h.off⟩
theorem OwnC.nil (w : World) (lo hi : Nat) (tt : TypeId) (size : Nat) : OwnC w lo hi tt size (.slice none 0 0) 0 [] (fun _ => none) :=
  ⟨World.ownsRow_nil _ _ _ _, by simp [Value.ownBlock], by simp, by simp, by simp, by simp⟩
/-- one of the slices in it has been written -/
theorem OwnC.turn (h : OwnC w lo hi tt size v n us cs) {k : Nat} {c : Cont} {u : Value} {ys : List Int} (hc : cs k = some c) (hu : us[k]? = some u) (hg : w.grownBy w' u.ownBlock) (ho : Own w' lo hi c.t c.kd u ys) :
    OwnC w' lo hi tt size v n us (fun j => if j = k then some { c with zs := ys } else cs j) := by
  have hne : ∀ (j : Nat) (u' : Value), j ≠ k → us[j]? = some u' → u'.ownBlock = none ∨ u'.ownBlock ≠ u.ownBlock := by
    intro j u' hj hu'
    rcases Nat.lt_or_gt_of_ne hj with hlt | hgt
    · exact h.apart j k u' u hlt hu' hu
    · exact own_ne_symm (h.apart k j u u' hgt hu hu')
  refine ⟨h.row.kept hg (own_ne_symm (h.off k u hu)), h.top, ?_, ?_, h.apart, h.off⟩
  · intro j c' hj
    by_cases e : j = k
    · subst e
      rw [if_pos rfl] at hj
      injection hj with hj
      subst hj
      exact ⟨u, hu, ho⟩
    · rw [if_neg e] at hj
      obtain ⟨u', h1, h2⟩ := h.each j c' hj
      exact ⟨u', h1, ⟨h2.1.kept hg (hne j u' e h1), h2.2⟩⟩
  · intro j u' hu' hj
    by_cases e : j = k
    · rw [if_pos e] at hj; cases hj
    · rw [if_neg e] at hj; exact h.bare j u' hu' hj
/-- elements put behind -/
theorem OwnC.push (h : OwnC w lo hi tt size v n us cs) {v' : Value} {m : Nat} {news : List Value} {cn : Nat → Option Cont} (hrow : w'.ownsRow lo tt size v' (n + m) (us ++ news)) (hg : w.grownBy w' v.ownBlock)
    (hv : v'.ownBlock = v.ownBlock ∨ v'.ownBlock = some w.heap.size) (hhi : hi ≤ w.heap.size)
    (hn : ∀ k c, cn k = some c → ∃ u, news[k]? = some u ∧ Own w lo hi c.t c.kd u c.zs) (hb : ∀ (k : Nat) (u : Value), news[k]? = some u → cn k = none → u.ownBlock = none)
    (a1 : ∀ (i j : Nat) (u u' : Value), i < j → news[i]? = some u → news[j]? = some u' → u.ownBlock = none ∨ u.ownBlock ≠ u'.ownBlock)
    (a2 : ∀ (i j : Nat) (u u' : Value), us[i]? = some u → news[j]? = some u' → u.ownBlock = none ∨ u.ownBlock ≠ u'.ownBlock)
    (a3 : ∀ (k : Nat) (u : Value), news[k]? = some u → u.ownBlock = none ∨ u.ownBlock ≠ v.ownBlock) :
    OwnC w' lo w'.heap.size tt size v' (n + m) (us ++ news) (fun k => if k < us.length then cs k else cn (k - us.length)) := by
  have hsz := hg.size
  have nlt : ∀ (k : Nat) (u : Value) (g : Nat), news[k]? = some u → u.ownBlock = some g → g < hi := by
    intro k u g hu hgb
    cases hc : cn k with
    | none => rw [hb k u hu hc] at hgb; cases hgb
    | some c =>
      obtain ⟨u', h1, h2⟩ := hn k c hc
      rw [hu] at h1
      injection h1 with h1
      subst h1
      exact h2.2 g hgb
  have get : ∀ (k : Nat) (u : Value), (us ++ news)[k]? = some u → (k < us.length ∧ us[k]? = some u) ∨ (us.length ≤ k ∧ news[k - us.length]? = some u) := by
    intro k u hu
    by_cases hk : k < us.length
    · rw [List.getElem?_append_left hk] at hu; exact .inl ⟨hk, hu⟩
    · rw [List.getElem?_append_right (by omega)] at hu; exact .inr ⟨by omega, hu⟩
  refine ⟨hrow, fun g hgb => (hrow.lt g hgb).2, ?_, ?_, ?_, ?_⟩
  · intro k c hc
    by_cases hk : k < us.length
    · simp only [hk, if_true] at hc
      obtain ⟨u, h1, h2⟩ := h.each k c hc
      exact ⟨u, by rw [List.getElem?_append_left hk]; exact h1, ⟨h2.1.kept hg (h.off k u h1), fun g hgb => by have := h2.2 g hgb; omega⟩⟩
    · simp only [hk, if_false] at hc
      obtain ⟨u, h1, h2⟩ := hn _ c hc
      exact ⟨u, by rw [List.getElem?_append_right (by omega)]; exact h1, ⟨h2.1.kept hg (a3 _ u h1), fun g hgb => by have := h2.2 g hgb; omega⟩⟩
  · intro k u hu hc
    rcases get k u hu with ⟨hk, h1⟩ | ⟨hk, h1⟩
    · simp only [hk, if_true] at hc; exact h.bare k u h1 hc
    · have hk' : ¬ k < us.length := by omega
      simp only [hk', if_false] at hc; exact hb _ u h1 hc
  · intro i j u u' hij hu hu'
    rcases get i u hu with ⟨hi1, g1⟩ | ⟨hi1, g1⟩
    · rcases get j u' hu' with ⟨hj, g2⟩ | ⟨hj, g2⟩
      · exact h.apart i j u u' hij g1 g2
      · exact a2 i _ u u' g1 g2
    · rcases get j u' hu' with ⟨hj, g2⟩ | ⟨hj, g2⟩
      · omega
      · exact a1 _ _ u u' (by omega) g1 g2
  · intro k u hu
    have hlt : ∀ g, u.ownBlock = some g → g < hi := by
      intro g hgb
      rcases get k u hu with ⟨hk, h1⟩ | ⟨hk, h1⟩
      · exact (h.lts k u g h1 hgb).2.1
      · exact nlt _ u g h1 hgb
    by_cases hx : u.ownBlock = none
    · exact .inl hx
    · right
      rcases hv with e | e
      · rw [e]
        rcases get k u hu with ⟨hk, h1⟩ | ⟨hk, h1⟩
        · exact (h.off k u h1).resolve_left hx
        · exact (a3 _ u h1).resolve_left hx
      · intro e2
        rw [e] at e2
        have := hlt _ e2
        omega
end

/-- v reads as cells us; those that cs names are slices that read -/
def SeesC (w : World) (B : Nat) (size : Nat) (v : Value) (n : Nat) (us : List Value) (cs : Nat → Option Cont) : Prop :=
  (∃ A c, v = .slice A n c ∧ Rd w B A us) ∧ us.length = n * size ∧ ∀ k c, cs k = some c → ∃ u, us[k]? = some u ∧ Sees w B c.kd u c.zs
section
variable {w w' : World} {B size n : Nat} {v : Value} {us : List Value} {cs : Nat → Option Cont}
theorem SeesC.keep (h : SeesC w B size v n us cs) (hk : ∀ k, k < B → w'.heap[k]? = w.heap[k]?) : SeesC w' B size v n us cs := by
  obtain ⟨⟨A, c, rfl, hr⟩, hl, he⟩ := h
  refine ⟨⟨A, c, rfl, hr.keep fun p hp => by unfold World.cell?; rw [hk p.block hp]⟩, hl, fun k c hc => ?_⟩
  obtain ⟨u, h1, h2⟩ := he k c hc
  exact ⟨u, h1, h2.keep hk⟩
theorem SeesC.below {C : Nat} (h : SeesC w B size v n us cs) (hb : Below C w w') (hB : B ≤ C) : SeesC w' B size v n us cs := h.keep fun k hk => hb.block k (Nat.lt_of_lt_of_le hk hB)
theorem SeesC.out {lo hi : Nat} (h : SeesC w B size v n us cs) (hb : Out lo hi w w') (hB : B ≤ lo) (hw : B ≤ w.heap.size) : SeesC w' B size v n us cs := h.keep fun k hk => hb.block k (by omega) (by omega)
theorem SeesC.alloc (h : SeesC w B size v n us cs) (hB : B ≤ w.heap.size) (o : Obj) : SeesC (w.alloc o) B size v n us cs := h.keep fun k hk => Below.heap_alloc w o k (Nat.lt_of_lt_of_le hk hB)
theorem SeesC.drew (h : SeesC w B size v n us cs) (k : Nat) : SeesC (w.drewN k) B size v n us cs := h
theorem OwnC.sees {lo hi : Nat} {tt : TypeId} (h : OwnC w lo hi tt size v n us cs) : SeesC w hi size v n us cs := by
  obtain ⟨A, c, rfl⟩ := own_form h.row
  refine ⟨⟨A, c, rfl, ?_⟩, h.row.1, fun k c hc => ?_⟩
  · intro k u hu
    obtain ⟨b, off, rfl, hb, hc⟩ := Rd.of h.row k u hu
    exact ⟨b, off, rfl, h.top b rfl, hc⟩
  · obtain ⟨u, h1, h2⟩ := h.each k c hc
    exact ⟨u, h1, h2.sees⟩
end

/-! slices of slices of numbers -/
def contsL (t : TypeId) (kd : IntKind) (zss : List (List Int)) : Nat → Option Cont := fun k => zss[k]?.map fun zs => ⟨t, kd, zs⟩
/-- an element, closed to simp -/
def nthL (zss : List (List Int)) (k : Nat) : List Int := zss[k]?.getD []
theorem nthL_get (zss : List (List Int)) (k : Nat) (h : k < zss.length) : zss[k]? = some (nthL zss k) := by simp [nthL, List.getElem?_eq_getElem h]
theorem contsL_get (t : TypeId) (kd : IntKind) (zss : List (List Int)) (k : Nat) (h : k < zss.length) : contsL t kd zss k = some ⟨t, kd, nthL zss k⟩ := by
  unfold contsL; rw [nthL_get zss k h]; rfl
theorem contsL_none (t : TypeId) (kd : IntKind) (zss : List (List Int)) (k : Nat) (h : zss.length ≤ k) : contsL t kd zss k = none := by
  unfold contsL; rw [List.getElem?_eq_none h]; rfl
theorem contsL_app (t : TypeId) (kd : IntKind) (zss : List (List Int)) (zs : List Int) (l : Nat) (hl : l = zss.length) :
    (fun k => if k < l then contsL t kd zss k else contsL t kd [zs] (k - l)) = contsL t kd (zss ++ [zs]) := by
  subst hl
  funext k
  by_cases hk : k < zss.length
  · rw [if_pos hk, contsL_get _ _ _ _ hk]
    unfold contsL
    rw [List.getElem?_append_left hk, nthL_get _ _ hk]; rfl
  · rw [if_neg hk]
    unfold contsL
    rw [List.getElem?_append_right (by omega)]
theorem contsL_set (t : TypeId) (kd : IntKind) (zss : List (List Int)) (k : Nat) (ys : List Int) (hk : k < zss.length) :
    (fun j => if j = k then some { (⟨t, kd, nthL zss k⟩ : Cont) with zs := ys } else contsL t kd zss j) = contsL t kd (zss.set k ys) := by
  funext j
  by_cases e : j = k
  · subst e
    rw [if_pos rfl]
    unfold contsL
    rw [List.getElem?_set_self hk]; rfl
  · rw [if_neg e]
    unfold contsL
    rw [List.getElem?_set_ne (by omega)]

/-- v is a slice of slices of numbers, all the call's own, no two in one block -/
def OwnSS (w : World) (lo hi : Nat) (tt t : TypeId) (kd : IntKind) (v : Value) (zss : List (List Int)) : Prop := ∃ us, OwnC w lo hi tt 1 v zss.length us (contsL t kd zss)
def SeesSS (w : World) (B : Nat) (kd : IntKind) (v : Value) (zss : List (List Int)) : Prop := ∃ us, SeesC w B 1 v zss.length us (contsL 0 kd zss)
section
variable {w w' : World} {lo hi B : Nat} {tt t : TypeId} {kd : IntKind} {v : Value} {zss : List (List Int)}
theorem OwnSS.form (h : OwnSS w lo hi tt t kd v zss) : ∃ A c, v = .slice A zss.length c := by obtain ⟨us, h⟩ := h; exact own_form h.row
theorem OwnSS.nil (w : World) (lo hi : Nat) (tt t : TypeId) (kd : IntKind) : OwnSS w lo hi tt t kd (.slice none 0 0) [] := ⟨[], by
  have := OwnC.nil w lo hi tt 1
  exact this⟩
theorem OwnSS.vlt (h : OwnSS w lo hi tt t kd v zss) : ∀ g, v.ownBlock = some g → lo ≤ g ∧ g < hi := by obtain ⟨us, h⟩ := h; exact fun g hg => ⟨(h.vlt g hg).1, (h.vlt g hg).2.1⟩
theorem OwnSS.below {C : Nat} (h : OwnSS w lo hi tt t kd v zss) (hb : Below C w w') (hB : hi ≤ C) : OwnSS w' lo hi tt t kd v zss := by obtain ⟨us, h⟩ := h; exact ⟨us, h.below hb hB⟩
theorem OwnSS.out {lo' hi' : Nat} (h : OwnSS w lo hi tt t kd v zss) (hb : Out lo' hi' w w') (hd : hi ≤ lo' ∨ hi' ≤ lo) : OwnSS w' lo hi tt t kd v zss := by obtain ⟨us, h⟩ := h; exact ⟨us, h.out hb hd⟩
theorem OwnSS.alloc (h : OwnSS w lo hi tt t kd v zss) (o : Obj) : OwnSS (w.alloc o) lo hi tt t kd v zss := by obtain ⟨us, h⟩ := h; exact ⟨us, h.alloc o⟩
theorem OwnSS.set (h : OwnSS w lo hi tt t kd v zss) (p : Addr) (u : Value) (hp : p.block < lo ∨ hi ≤ p.block) : OwnSS (w.setCell p u) lo hi tt t kd v zss := by obtain ⟨us, h⟩ := h; exact ⟨us, h.set p u hp⟩
theorem OwnSS.more {lo' hi' : Nat} (h : OwnSS w lo hi tt t kd v zss) (h1 : lo' ≤ lo) (h2 : hi ≤ hi') : OwnSS w lo' hi' tt t kd v zss := by obtain ⟨us, h⟩ := h; exact ⟨us, h.more h1 h2⟩
theorem OwnSS.keep (h : OwnSS w lo hi tt t kd v zss) (hk : ∀ k, k < w.heap.size → lo ≤ k → k < hi → w'.heap[k]? = w.heap[k]?) : OwnSS w' lo hi tt t kd v zss := by obtain ⟨us, h⟩ := h; exact ⟨us, h.keep hk⟩
theorem OwnSS.sees (h : OwnSS w lo hi tt t kd v zss) : SeesSS w hi kd v zss := by
  obtain ⟨us, h⟩ := h
  obtain ⟨a, b, c⟩ := h.sees
  refine ⟨us, a, b, fun k c' hc => ?_⟩
  have hk : k < zss.length := by
    apply Classical.byContradiction; intro hn
    rw [contsL_none _ _ _ _ (by omega)] at hc; cases hc
  rw [contsL_get _ _ _ _ hk] at hc
  injection hc with hc
  subst hc
  obtain ⟨u, h1, h2⟩ := c k _ (contsL_get t kd zss k hk)
  exact ⟨u, h1, h2⟩
theorem SeesSS.below {C : Nat} (h : SeesSS w B kd v zss) (hb : Below C w w') (hB : B ≤ C) : SeesSS w' B kd v zss := by obtain ⟨us, h⟩ := h; exact ⟨us, h.below hb hB⟩
theorem SeesSS.out (h : SeesSS w B kd v zss) (hb : Out lo hi w w') (hB : B ≤ lo) (hw : B ≤ w.heap.size) : SeesSS w' B kd v zss := by obtain ⟨us, h⟩ := h; exact ⟨us, h.out hb hB hw⟩
theorem SeesSS.alloc (h : SeesSS w B kd v zss) (hB : B ≤ w.heap.size) (o : Obj) : SeesSS (w.alloc o) B kd v zss := by obtain ⟨us, h⟩ := h; exact ⟨us, h.alloc hB o⟩
theorem SeesSS.more {B' : Nat} (h : SeesSS w B kd v zss) (hB : B ≤ B') : SeesSS w B' kd v zss := by
  obtain ⟨us, ⟨A, c, e, r⟩, hl, he⟩ := h
  exact ⟨us, ⟨A, c, e, r.more hB⟩, hl, fun k c' hc => by obtain ⟨u, h1, A', c'', e', r'⟩ := he k c' hc; exact ⟨u, h1, A', c'', e', r'.more hB⟩⟩
theorem SeesSS.drew (h : SeesSS w B kd v zss) (k : Nat) : SeesSS (w.drewN k) B kd v zss := h
/-- where the k-th lies, and that it reads -/
theorem SeesSS.at_ (h : SeesSS w B kd v zss) (k : Nat) (hk : k < zss.length) : ∃ b off c u, v = .slice (some ⟨b, off, none⟩) zss.length c ∧ b < B ∧ w.cell? ⟨b, off + k, none⟩ = some u ∧ Sees w B kd u (nthL zss k) := by
  obtain ⟨us, ⟨A, c, rfl, hr⟩, hl, he⟩ := h
  obtain ⟨u, h1, h2⟩ := he k _ (contsL_get 0 kd zss k hk)
  obtain ⟨b, off, rfl, hb, hc⟩ := hr k u h1
  exact ⟨b, off, c, u, rfl, hb, hc, h2⟩
/-- the k-th: where it lies, and what comes of a write into it -/
theorem OwnSS.at_ (h : OwnSS w lo hi tt t kd v zss) (k : Nat) (hk : k < zss.length) : ∃ g c u, v = .slice (some ⟨g, 0, none⟩) zss.length c ∧ w.cell? ⟨g, k, none⟩ = some u ∧ Own w lo hi t kd u (nthL zss k) ∧
    ∀ w' ys, w.grownBy w' u.ownBlock → Own w' lo hi t kd u ys → OwnSS w' lo hi tt t kd v (zss.set k ys) := by
  obtain ⟨us, h⟩ := h
  obtain ⟨u, h1, h2⟩ := h.each k _ (contsL_get t kd zss k hk)
  have hrow := h.row
  rcases hrow.2 with ⟨_, h0⟩ | ⟨g, cap, cur, hv, hb, hg, hn, hm, hs, htk⟩
  · omega
  · subst hv
    refine ⟨g, cap, u, rfl, ?_, h2, fun w' ys hg' ho => ⟨us, ?_⟩⟩
    · rw [hrow.cellAt k (by omega)]; exact h1
    · have := h.turn (contsL_get t kd zss k hk) h1 hg' ho
      rw [contsL_set t kd zss k ys hk] at this
      rw [List.length_set]
      exact this
/-- one slice put behind -/
theorem OwnSS.push (h : OwnSS w lo hi tt t kd v zss) {us : List Value} (hus : ∀ us', OwnC w lo hi tt 1 v zss.length us' (contsL t kd zss) → us' = us) {v' u : Value} {zs : List Int}
    (hrow : w'.ownsRow lo tt 1 v' (zss.length + 1) (us ++ [u])) (hg : w.grownBy w' v.ownBlock) (hv : v'.ownBlock = v.ownBlock ∨ v'.ownBlock = some w.heap.size) (hhi : hi ≤ w.heap.size)
    (ho : Own w lo hi t kd u zs) (a2 : ∀ (i : Nat) (x : Value), us[i]? = some x → x.ownBlock = none ∨ x.ownBlock ≠ u.ownBlock) (a3 : u.ownBlock = none ∨ u.ownBlock ≠ v.ownBlock) : OwnSS w' lo w'.heap.size tt t kd v' (zss ++ [zs]) := by
  obtain ⟨us', h⟩ := h
  obtain rfl := hus us' h
  have hl := h.row.1
  rw [Nat.mul_one] at hl
  have := h.push (cn := contsL t kd [zs]) hrow hg hv hhi
    (fun k c hc => by
      have hk : k = 0 := by
        apply Classical.byContradiction; intro hn
        rw [contsL_none _ _ _ _ (by simp; omega)] at hc; cases hc
      subst hk
      rw [contsL_get _ _ _ _ (by simp)] at hc
      injection hc with hc
      subst hc
      exact ⟨u, rfl, ho⟩)
    (fun k x hx hc => by
      have hk : k = 0 := by have := (List.getElem?_eq_some_iff.1 hx).1; simp at this; exact this
      subst hk
      rw [contsL_get _ _ _ _ (by simp)] at hc; cases hc)
    (fun i j x y hij hx hy => by have := (List.getElem?_eq_some_iff.1 hy).1; simp at this; omega)
    (fun i j x y hx hy => by
      have hk : j = 0 := by have := (List.getElem?_eq_some_iff.1 hy).1; simp at this; exact this
      subst hk
      simp at hy
      subst hy
      exact a2 i x hx)
    (fun k x hx => by
      have hk : k = 0 := by have := (List.getElem?_eq_some_iff.1 hx).1; simp at this; exact this
      subst hk
      simp at hx
      subst hx
      exact a3)
  rw [contsL_app t kd zss zs us'.length hl] at this
  refine ⟨us' ++ [u], ?_⟩
  rw [List.length_append]
  exact this
end
end Go.Proofs.YtcfnhjpmihngdaaGreat
