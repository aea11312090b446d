/- The draws' base: a source of numbers, a number picked, a character, a text. -/
import Derived.Test.YtmcmfklkljehiaaGreatY02
import Derived.Test.YtmcmfklkljehiaaGreatY04
import Derived.Deep.RegionWith
import Derived.Deep.RegionHeld
import Derived.IntWalk
namespace Go.Proofs.YtmcmfklkljehiaaGreat

/-- an entry of the stack -/
structure Tier where
  lev : Int
  way : Int
  iso : Bool
/-- the stack (its last entry behind), lost isolates, lost embeddings, isolates -/
structure Tell where
  stk : List Tier
  li : Nat
  le : Nat
  is : Nat
def lodd (n : Int) : Int := n + 1 + n % 2
def leven (n : Int) : Int := n + 2 - n % 2
def topT (l : List Tier) : Tier := l.getLast?.getD ⟨0, -1, false⟩
def nextL (left : Bool) (l : List Tier) : Int := if left then lodd (topT l).lev else leven (topT l).lev
def Full (n : Int) (s : Tell) : Prop := 125 < n ∨ 0 < s.li ∨ 0 < s.le
instance (n : Int) (s : Tell) : Decidable (Full n s) := inferInstanceAs (Decidable (125 < n ∨ 0 < s.li ∨ 0 < s.le))
def embS (left : Bool) (way : Int) (s : Tell) : Tell :=
  if Full (nextL left s.stk) s then (if s.li = 0 then ⟨s.stk, s.li, s.le + 1, s.is⟩ else s) else ⟨s.stk ++ [⟨nextL left s.stk, way, false⟩], s.li, s.le, s.is⟩
def isoS (left : Bool) (s : Tell) : Tell :=
  if Full (nextL left s.stk) s then ⟨s.stk, s.li + 1, s.le, s.is⟩ else ⟨s.stk ++ [⟨nextL left s.stk, -1, true⟩], s.li, s.le, s.is + 1⟩
def popR : List Tier → List Tier
  | [] => []
  | e :: l => if e.iso then l else popR l
def popIso (l : List Tier) : List Tier := (popR l.reverse).reverse
def endS (s : Tell) : Tell :=
  if 0 < s.li then ⟨s.stk, s.li - 1, s.le, s.is⟩ else if 0 < s.is then ⟨popIso s.stk, s.li, 0, s.is - 1⟩ else s
def popS (s : Tell) : Tell :=
  if 0 < s.li then s else if 0 < s.le then ⟨s.stk, s.li, s.le - 1, s.is⟩ else if (topT s.stk).iso = false ∧ 1 < s.stk.length then ⟨s.stk.dropLast, s.li, s.le, s.is⟩ else s
def isEmb (k : Int) : Prop := k = 14 ∨ k = 15 ∨ k = 17 ∨ k = 18
instance (k : Int) : Decidable (isEmb k) := inferInstanceAs (Decidable (k = 14 ∨ k = 15 ∨ k = 17 ∨ k = 18))
def wayK (k : Int) : Int := if k = 17 then 0 else if k = 18 then 1 else -1
def leftK (k : Int) : Bool := decide (k = 15 ∨ k = 18)
/-- a character of class k is met; own: whether an isolate goes to the left -/
def stepS (own : Bool) (k : Int) (s : Tell) : Tell :=
  if isEmb k then embS (leftK k) (wayK k) s else if isOp k then isoS own s else if k = 22 then endS s else if k = 16 then popS s else s
/-- what is removed -/
def gone (k : Int) : Bool := decide (k = 9 ∨ (14 ≤ k ∧ k ≤ 18))
/-- whose last entry it takes -/
def atS (k : Int) (s : Tell) : Tell := if k = 22 then endS s else s
def lvS (k : Int) (s : Tell) : Int := if gone k then -1 else (topT (atS k s).stk).lev
def clS (k : Int) (s : Tell) : Int := if gone k then k else if (topT (atS k s).stk).way = -1 then k else (topT (atS k s).stk).way
/-- where what an isolate holds ends -/
def endOf (ks : List Int) (i : Nat) : Nat := if 0 ≤ nth (matchN ks) i then (nth (matchN ks) i).toNat else ks.length
def ownWay (ks : List Int) (i : Nat) : Int := baseG 0 ((ks.take (endOf ks i)).drop (i + 1))
def leftOf (ks : List Int) (i : Nat) : Bool := if nth ks i = 21 then decide (ownWay ks i = 1) else decide (nth ks i = 20)
def eat (ks : List Int) (base : Int) : Nat → Tell × List Int × List Int
  | 0 => (⟨[⟨base, -1, false⟩], 0, 0, 0⟩, [], [])
  | i + 1 => (stepS (leftOf ks i) (nth ks i) (eat ks base i).1, (eat ks base i).2.1 ++ [lvS (nth ks i) (eat ks base i).1], (eat ks base i).2.2 ++ [clS (nth ks i) (eat ks base i).1])
def levN (ks : List Int) (base : Int) : List Int := (eat ks base ks.length).2.1
def clsN (ks : List Int) (base : Int) : List Int := (eat ks base ks.length).2.2
theorem eat_len (ks : List Int) (base : Int) : ∀ i, (eat ks base i).2.1.length = i ∧ (eat ks base i).2.2.length = i
  | 0 => ⟨rfl, rfl⟩
  | i + 1 => by have := eat_len ks base i; simp [eat, this]
theorem eat_succ (ks : List Int) (base : Int) (i : Nat) : eat ks base (i + 1) = (stepS (leftOf ks i) (nth ks i) (eat ks base i).1, (eat ks base i).2.1 ++ [lvS (nth ks i) (eat ks base i).1], (eat ks base i).2.2 ++ [clS (nth ks i) (eat ks base i).1]) := rfl

theorem endOf_bound (ks : List Int) (i : Nat) (hi : i < ks.length) (ho : isOp (nth ks i)) : i + 1 ≤ endOf ks i ∧ endOf ks i ≤ ks.length := by
  have m := match_open ks i hi ho
  have c := closeAt_lt (ks.drop (i + 1)) 0
  unfold endOf
  cases h : closeAt 0 (ks.drop (i + 1)) with
  | none =>
    rw [h] at m
    have m' : nth (matchN ks) i = -1 := m
    rw [if_neg (by omega)]; omega
  | some d =>
    rw [h] at m
    have m' : nth (matchN ks) i = ((i + 1 + d : Nat) : Int) := m
    have := c d h
    rw [List.length_drop] at this
    rw [if_pos (by omega)]; omega

/-- how many isolates stand in a stack -/
def isos (l : List Tier) : Nat := (l.filter (·.iso)).length
theorem isos_app (a b : List Tier) : isos (a ++ b) = isos a + isos b := by simp [isos]
theorem isos_one (e : Tier) : isos [e] = if e.iso then 1 else 0 := by unfold isos; cases h : e.iso <;> simp [h]
theorem topT_app (a : List Tier) (e : Tier) : topT (a ++ [e]) = e := by simp [topT]
theorem split_last (l : List Tier) (h : 0 < l.length) : l = l.dropLast ++ [topT l] := by
  rcases List.eq_nil_or_concat l with rfl | ⟨a, e, rfl⟩
  · simp at h
  · simp [List.concat_eq_append, topT]
theorem popIso_app (a : List Tier) (e : Tier) : popIso (a ++ [e]) = if e.iso then a else popIso a := by
  unfold popIso
  rw [List.reverse_append]
  show (if e.iso then a.reverse else popR a.reverse).reverse = _
  split
  · simp
  · rfl
theorem popIso_last (l : List Tier) (h : 0 < l.length) : popIso l = if (topT l).iso then l.dropLast else popIso l.dropLast := by
  have := split_last l h
  conv => lhs; rw [this]
  rw [popIso_app]
/-- what is always so of a stack -/
structure WfT (s : Tell) (i : Nat) : Prop where
  head : ∃ e l, s.stk = e :: l ∧ e.iso = false
  many : isos s.stk = s.is
  len : s.stk.length ≤ i + 1
  lev : ∀ e ∈ s.stk, 0 ≤ e.lev ∧ e.lev ≤ 125 ∧ -1 ≤ e.way ∧ e.way ≤ 1
  li : s.li ≤ i
  le : s.le ≤ i
  is : s.is ≤ i
theorem WfT.pos {s : Tell} {i : Nat} (h : WfT s i) : 0 < s.stk.length := by obtain ⟨e, l, h, _⟩ := h.head; rw [h]; simp
theorem topT_mem (l : List Tier) (h : 0 < l.length) : topT l ∈ l := by
  have := split_last l h
  rw [this, topT_app]; simp
theorem WfT.top {s : Tell} {i : Nat} (h : WfT s i) : 0 ≤ (topT s.stk).lev ∧ (topT s.stk).lev ≤ 125 ∧ -1 ≤ (topT s.stk).way ∧ (topT s.stk).way ≤ 1 := h.lev _ (topT_mem _ h.pos)
theorem WfT.more {s : Tell} {i j : Nat} (h : WfT s i) (hj : i ≤ j) : WfT s j := ⟨h.head, h.many, by have := h.len; omega, h.lev, by have := h.li; omega, by have := h.le; omega, by have := h.is; omega⟩
theorem nextL_low (left : Bool) (l : List Tier) (h : 0 ≤ (topT l).lev) : 0 ≤ nextL left l ∧ (topT l).lev < nextL left l ∧ nextL left l ≤ (topT l).lev + 2 := by
  unfold nextL lodd leven
  split <;> omega
theorem WfT.push {s : Tell} {i : Nat} (h : WfT s i) (n w : Int) (b : Bool) (li le is : Nat) (hn : 0 ≤ n ∧ n ≤ 125) (hw : -1 ≤ w ∧ w ≤ 1) (hi : is = s.is + (if b then 1 else 0)) (h1 : li ≤ i + 1) (h2 : le ≤ i + 1) :
    WfT ⟨s.stk ++ [⟨n, w, b⟩], li, le, is⟩ (i + 1) := by
  obtain ⟨e, l, he, hb⟩ := h.head
  refine ⟨⟨e, l ++ [⟨n, w, b⟩], by simp [he], hb⟩, ?_, ?_, ?_, h1, h2, ?_⟩
  · simp only [isos_app, h.many, isos_one, hi]
  · have := h.len; simp; omega
  · intro e he
    simp only [List.mem_append, List.mem_cons, List.not_mem_nil, or_false] at he
    rcases he with he | rfl
    · exact h.lev e he
    · exact ⟨hn.1, hn.2, hw.1, hw.2⟩
  · have := h.is
    simp only [hi]
    split <;> omega
theorem WfT.emb {s : Tell} {i : Nat} (h : WfT s i) (left : Bool) (w : Int) (hw : -1 ≤ w ∧ w ≤ 1) : WfT (embS left w s) (i + 1) := by
  unfold embS
  have t := nextL_low left s.stk h.top.1
  split
  · split
    · exact ⟨h.head, h.many, by have := h.len; simp; omega, h.lev, by have := h.li; simp; omega, by have := h.le; simp; omega, by have := h.is; simp; omega⟩
    · exact h.more (by omega)
  · rename_i hf
    unfold Full at hf
    exact h.push _ _ _ _ _ _ (by omega) hw (by simp) (by omega) (by omega)
theorem WfT.iso {s : Tell} {i : Nat} (h : WfT s i) (left : Bool) : WfT (isoS left s) (i + 1) := by
  unfold isoS
  have t := nextL_low left s.stk h.top.1
  split
  · exact ⟨h.head, h.many, by have := h.len; simp; omega, h.lev, by have := h.li; simp; omega, by have := h.le; simp; omega, by have := h.is; simp; omega⟩
  · rename_i hf
    unfold Full at hf
    exact h.push _ _ _ _ _ _ (by omega) (by omega) (by simp) (by omega) (by omega)
theorem popR_app (a : List Tier) (e : Tier) (h : e.iso = false) : ∀ (l : List Tier), 0 < isos l → ∃ m, popR (l ++ [e]) = m ++ [e] ∧ isos m + 1 = isos l ∧ m.length ≤ l.length ∧ ∀ x ∈ m, x ∈ l
  | [], h0 => by simp [isos] at h0
  | x :: l, h0 => by
    have hc : isos (x :: l) = isos [x] + isos l := isos_app [x] l
    by_cases hx : x.iso = true
    · refine ⟨l, by simp [popR, hx], ?_, by simp, fun y hy => by simp [hy]⟩
      rw [hc, isos_one, if_pos hx]; omega
    · rw [isos_one, if_neg hx] at hc
      obtain ⟨m, h1, h2, h3, h4⟩ := popR_app a e h l (by omega)
      refine ⟨m, by simp [popR, hx, h1], by omega, by simp; omega, fun y hy => by simp [h4 y hy]⟩
theorem isos_rev (l : List Tier) : isos l.reverse = isos l := by unfold isos; rw [List.filter_reverse, List.length_reverse]
theorem WfT.ends {s : Tell} {i : Nat} (h : WfT s i) : WfT (endS s) (i + 1) := by
  unfold endS
  split
  · exact ⟨h.head, h.many, by have := h.len; simp; omega, h.lev, by have := h.li; simp; omega, by have := h.le; simp; omega, by have := h.is; simp; omega⟩
  · split
    · rename_i h0
      obtain ⟨e, l, he, hb⟩ := h.head
      have hm := h.many
      have hl : isos (e :: l) = isos [e] + isos l := isos_app [e] l
      rw [he, hl, isos_one, hb] at hm
      have hm' : isos l = s.is := by simpa using hm
      obtain ⟨m, h1, h2, h3, h4⟩ := popR_app [] e hb l.reverse (by rw [isos_rev]; omega)
      have ep : popIso s.stk = e :: m.reverse := by
        unfold popIso
        rw [he, List.reverse_cons, h1, List.reverse_append]; rfl
      rw [ep]
      rw [isos_rev] at h2
      refine ⟨⟨e, _, rfl, hb⟩, ?_, ?_, ?_, ?_, ?_, ?_⟩
      · show isos ([e] ++ m.reverse) = s.is - 1
        rw [isos_app, isos_one, hb, isos_rev]; simp; omega
      · have := h.len
        rw [he] at this
        simp at this h3 ⊢
        omega
      · intro x hx
        simp only [List.mem_cons, List.mem_reverse] at hx
        rcases hx with rfl | hx
        · exact h.lev _ (by rw [he]; simp)
        · exact h.lev _ (by rw [he]; have := h4 x hx; simp at this; simp [this])
      · have := h.li; simp; omega
      · simp
      · have := h.is; simp; omega
    · exact h.more (by omega)
theorem WfT.pops {s : Tell} {i : Nat} (h : WfT s i) : WfT (popS s) (i + 1) := by
  unfold popS
  split
  · exact h.more (by omega)
  · split
    · exact ⟨h.head, h.many, by have := h.len; simp; omega, h.lev, by have := h.li; simp; omega, by have := h.le; simp; omega, by have := h.is; simp; omega⟩
    · split
      · rename_i ht
        obtain ⟨ht, hl⟩ := ht
        have sl := split_last s.stk h.pos
        have hm := h.many
        rw [sl, isos_app, isos_one, ht] at hm
        refine ⟨?_, by simpa using hm, ?_, fun e he => h.lev e (List.dropLast_subset _ he), by have := h.li; simp; omega, by have := h.le; simp; omega, by have := h.is; simp; omega⟩
        · obtain ⟨e, l, he, hb⟩ := h.head
          rw [he] at hl ⊢
          match l, hl with
          | y :: l', _ => exact ⟨e, (y :: l').dropLast, rfl, hb⟩
        · have := h.len; simp; omega
      · exact h.more (by omega)
theorem wayK_range (k : Int) : -1 ≤ wayK k ∧ wayK k ≤ 1 := by
  unfold wayK
  split
  · omega
  · split <;> omega
theorem WfT.step {s : Tell} {i : Nat} (h : WfT s i) (own : Bool) (k : Int) : WfT (stepS own k s) (i + 1) := by
  unfold stepS
  split
  · exact h.emb _ _ (wayK_range k)
  · split
    · exact h.iso own
    · split
      · exact h.ends
      · split
        · exact h.pops
        · exact h.more (by omega)
theorem eat_wf (ks : List Int) (base : Int) (hb : 0 ≤ base ∧ base ≤ 1) : ∀ i, WfT (eat ks base i).1 i
  | 0 => ⟨⟨_, [], rfl, rfl⟩, rfl, by simp [eat], by
      intro e he
      simp only [eat, List.mem_cons, List.not_mem_nil, or_false] at he
      subst he
      exact ⟨hb.1, by show base ≤ 125; omega, by show (-1 : Int) ≤ -1; omega, by show (-1 : Int) ≤ 1; omega⟩, by simp [eat], by simp [eat], by simp [eat]⟩
  | i + 1 => (eat_wf ks base hb i).step _ _
end Go.Proofs.YtmcmfklkljehiaaGreat

namespace Go.Proofs.YtmcmfklkljehiaaGreat
open Go.RowKit

/-- the number drawn from bytes at a place, below n -/
def nxt (zs : List Int) (at_ n : Int) : Int :=
  if n < 1 then 0 else if zs.length = 0 then (at_ * 7) % n
  else
    let k : Int := zs.length
    let v0 := nth zs (at_ % k).toNat + at_ / k * 37
    let v1 := if 200 < n then v0 * 251 + nth zs ((at_ + 1) % k).toNat * 13 + at_ else v0
    let v2 := if 60000 < n then v1 * 257 + nth zs ((at_ + 2) % k).toNat else v1
    v2 % n

theorem nxt_range (zs : List Int) (at_ n : Int) (h : 1 ≤ n) : 0 ≤ nxt zs at_ n ∧ nxt zs at_ n < n := by
  unfold nxt
  rw [if_neg (by omega)]
  split
  · exact ⟨Int.emod_nonneg _ (by omega), Int.emod_lt_of_pos _ (by omega)⟩
  · exact ⟨Int.emod_nonneg _ (by omega), Int.emod_lt_of_pos _ (by omega)⟩

theorem Out.drew {lo hi : Nat} {w w' : World} (h : Out lo hi w w') (n : Nat) : Out lo hi w (w'.drewN n) := ⟨h.os, h.tape, h.output, h.size, h.block⟩

set_option maxRecDepth 100000 in
set_option maxHeartbeats 1000000 in
theorem l1Next_any (g : Nat) (A : Option Addr) (c : Nat) (zs : List Int) (at_ n : Int) (w : World) (hs : Blk w g 73 #[.slice A zs.length c, .int .i64 at_]) (hr : Rd w g A (nums .u8 zs)) (hb : ∀ b ∈ zs, isByte b) (hl : zs.length < 2000000) (ha : 0 ≤ at_ ∧ at_ ≤ 1000000) (hn : n ≤ 60000) :
    Calls Tryz.prog 29 #[.pointer (some ⟨g, 0, none⟩), .int .i64 n] w fun e w' => e = .returned (.int .i64 (nxt zs at_ n)) ∧ Blk w' g 73 #[.slice A zs.length c, .int .i64 (at_ + 1)] ∧ Out g (g + 1) w w' := by
  have HR := Lib.hid hr
  have HB := Lib.hid hb
  have c1 := hs.cell 1 (u := .int .i64 at_) rfl
  have c0 := hs.cell 0 (u := .slice A zs.length c) rfl
  have f1 := hs.frozen 1
  clear hr hb
  have ks := hs.set 1 (.int .i64 (at_ + 1))
  have ou : Out g (g + 1) w (w.setCell ⟨g, 1, none⟩ (.int .i64 (at_ + 1))) := ⟨rfl, rfl, rfl, by simp, fun k hk hn => heap_setCell_other w ⟨g, 1, none⟩ k _ (by simp; omega)⟩
  have KS := Lib.hid (show Blk (w.setCell ⟨g, 1, none⟩ (.int .i64 (at_ + 1))) g 73 #[.slice A zs.length c, .int .i64 (at_ + 1)] by simpa using ks)
  have OU := Lib.hid ou
  clear ks ou
  by_cases n1 : n < 1
  · go_enter Tryz.func29, Tryz.ntmps29
    go_wp2
    go_ret
    exact ⟨rint (by unfold nxt; rw [if_pos n1]), KS.out, OU.out⟩
  · by_cases hz : zs.length = 0
    · have z0 : ((zs.length : Int) == 0) = true := by simp [hz]
      have EN : Hid (nxt zs at_ n = at_ * 7 % n) := Lib.hid (by unfold nxt; rw [if_neg n1, if_pos hz])
      clear hz
      go_enter Tryz.func29, Tryz.ntmps29
      go_wp2
      go_ret
      exact ⟨rint EN.out.symm, KS.out, OU.out⟩
    · have z0 : ((zs.length : Int) == 0) = false := beq_eq_false_iff_ne.2 (by omega)
      obtain ⟨b, off, rfl, hbg, hcell⟩ := HR.out.int (by omega)
      have m0 := Int.emod_nonneg at_ (show (zs.length : Int) ≠ 0 by omega)
      have m1 := Int.emod_lt_of_pos at_ (show 0 < (zs.length : Int) by omega)
      obtain ⟨r, hr⟩ : ∃ r : Nat, Hid (at_ % (zs.length : Int) = r) := ⟨(at_ % (zs.length : Int)).toNat, Lib.hid (by omega)⟩
      rw [hr.out] at m0 m1
      have d0 := Int.ediv_nonneg ha.1 (show 0 ≤ (zs.length : Int) by omega)
      have d1 : at_ / (zs.length : Int) ≤ at_ := Int.ediv_le_self _ ha.1
      obtain ⟨d, hd⟩ : ∃ d : Int, Hid (at_ / (zs.length : Int) = d) := ⟨_, Lib.hid rfl⟩
      rw [hd.out] at d0 d1
      have rl : r < zs.length := by omega
      have rb := HB.out (nth zs r) (by simp only [nth, List.getElem?_eq_getElem rl, Option.getD_some]; exact List.getElem_mem rl)
      unfold isByte at rb
      have q1 : at_.tmod (zs.length : Int) = (r : Int) := by rw [Int.tmod_eq_emod_of_nonneg ha.1]; exact hr.out
      have q2 : at_.tdiv (zs.length : Int) = d := by rw [Int.tdiv_eq_ediv_of_nonneg ha.1]; exact hd.out
      have w1 : IntKind.i64.wrap (r : Int) = (r : Int) := IntWalk.i64_in _ (by omega)
      have w2 : IntKind.i64.wrap d = d := IntWalk.i64_in _ (by omega)
      have w3 : IntKind.i64.wrap (d * 37) = d * 37 := IntWalk.i64_in _ (by omega)
      have w4 : IntKind.i64.wrap (nth zs r) = nth zs r := IntWalk.i64_in _ (by omega)
      have w5 : IntKind.i64.wrap (nth zs r + d * 37) = nth zs r + d * 37 := IntWalk.i64_in _ (by omega)
      have hx := (World.cell?_setCell_far w ⟨g, 1, none⟩ ⟨b, off + r, none⟩ (.int .i64 (at_ + 1)) (by simp; omega)).trans (hcell r rl)
      have kc0 := KS.out.cell 0 (u := .slice (some ⟨b, off, none⟩) zs.length c) rfl
      have kc1 := KS.out.cell 1 (u := .int .i64 (at_ + 1)) rfl
      clear m0 m1
      by_cases n2 : n ≤ 200
      · have EN : Hid (nxt zs at_ n = (nth zs r + d * 37) % n) := Lib.hid (by unfold nxt; rw [if_neg n1, if_neg hz]; simp only [if_neg (show ¬ 200 < n by omega), if_neg (show ¬ 60000 < n by omega), hr.out, hd.out, Int.toNat_natCast])
        clear hcell
        go_enter Tryz.func29, Tryz.ntmps29
        go_wp2
        generalize w.setCell ⟨g, 1, none⟩ (.int .i64 (at_ + 1)) = W at *
        go_quiet (fail)
        go_wp2
        go_ret
        exact ⟨rint EN.out.symm, KS.out, Out.drew OU.out _⟩
      · have m2 := Int.emod_nonneg (at_ + 1) (show (zs.length : Int) ≠ 0 by omega)
        have m3 := Int.emod_lt_of_pos (at_ + 1) (show 0 < (zs.length : Int) by omega)
        obtain ⟨r2, hr2⟩ : ∃ r : Nat, Hid ((at_ + 1) % (zs.length : Int) = r) := ⟨((at_ + 1) % (zs.length : Int)).toNat, Lib.hid (by omega)⟩
        rw [hr2.out] at m2 m3
        have rl2 : r2 < zs.length := by omega
        have rb2 := HB.out (nth zs r2) (by simp only [nth, List.getElem?_eq_getElem rl2, Option.getD_some]; exact List.getElem_mem rl2)
        unfold isByte at rb2
        have q3 : (at_ + 1).tmod (zs.length : Int) = (r2 : Int) := by rw [Int.tmod_eq_emod_of_nonneg (by omega)]; exact hr2.out
        have hx2 := (World.cell?_setCell_far w ⟨g, 1, none⟩ ⟨b, off + r2, none⟩ (.int .i64 (at_ + 1)) (by simp; omega)).trans (hcell r2 rl2)
        have EN : Hid (nxt zs at_ n = ((nth zs r + d * 37) * 251 + nth zs r2 * 13 + at_) % n) := Lib.hid (by unfold nxt; rw [if_neg n1, if_neg hz]; simp only [if_pos (show 200 < n by omega), if_neg (show ¬ 60000 < n by omega), hr.out, hr2.out, hd.out, Int.toNat_natCast])
        have w0 : IntKind.i64.wrap (at_ + 1) = at_ + 1 := IntWalk.i64_in _ (by omega)
        have w6 : IntKind.i64.wrap (r2 : Int) = (r2 : Int) := IntWalk.i64_in _ (by omega)
        have w7 : IntKind.i64.wrap (nth zs r2) = nth zs r2 := IntWalk.i64_in _ (by omega)
        have w8 : IntKind.i64.wrap (nth zs r2 * 13) = nth zs r2 * 13 := IntWalk.i64_in _ (by omega)
        have w9 : IntKind.i64.wrap ((nth zs r + d * 37) * 251) = (nth zs r + d * 37) * 251 := IntWalk.i64_in _ (by omega)
        have w10 : IntKind.i64.wrap ((nth zs r + d * 37) * 251 + nth zs r2 * 13) = (nth zs r + d * 37) * 251 + nth zs r2 * 13 := IntWalk.i64_in _ (by omega)
        have w11 : IntKind.i64.wrap ((nth zs r + d * 37) * 251 + nth zs r2 * 13 + at_) = (nth zs r + d * 37) * 251 + nth zs r2 * 13 + at_ := IntWalk.i64_in _ (by omega)
        have n3 : 200 < n := by omega
        clear hcell m2 m3 n2
        go_enter Tryz.func29, Tryz.ntmps29
        go_wp2
        generalize w.setCell ⟨g, 1, none⟩ (.int .i64 (at_ + 1)) = W at *
        go_quiet (fail)
        go_wp2
        go_quiet (fail)
        go_wp2

        go_ret
        exact ⟨rint EN.out.symm, KS.out, Out.drew OU.out _⟩

/-- a source at a place: its block, and what its bytes read -/
def Src (w : World) (g : Nat) (zs : List Int) (at_ : Int) : Prop := ∃ A c, Blk w g 73 #[.slice A zs.length c, .int .i64 at_] ∧ Rd w g A (nums .u8 zs)
theorem Rd.out {w w' : World} {B lo hi : Nat} {A : Option Addr} {xs : List Value} (h : Rd w B A xs) (ho : Out lo hi w w') (hB : B ≤ lo) (hw : B ≤ w.heap.size) : Rd w' B A xs :=
  h.keep fun p hp => by unfold World.cell?; rw [ho.block p.block (by omega) (by omega)]
theorem Src.out {w w' : World} {g lo hi : Nat} {zs : List Int} {at_ : Int} (h : Src w g zs at_) (ho : Out lo hi w w') (hd : g < lo) : Src w' g zs at_ := by
  obtain ⟨A, c, hk, hr⟩ := h
  exact ⟨A, c, hk.out ho (.inl hd), hr.out ho (by omega) (by have := hk.lt; omega)⟩
theorem Src.below {w w' : World} {g : Nat} {zs : List Int} {at_ : Int} (h : Src w g zs at_) (hb : Below w.heap.size w w') : Src w' g zs at_ := by
  obtain ⟨A, c, hk, hr⟩ := h
  exact ⟨A, c, hk.below hb hk.lt, hr.below hb (by have := hk.lt; omega)⟩
theorem Src.lt {w : World} {g : Nat} {zs : List Int} {at_ : Int} (h : Src w g zs at_) : g < w.heap.size := by
  obtain ⟨A, c, hk, hr⟩ := h
  exact hk.lt
theorem next_src (g : Nat) (zs : List Int) (at_ n : Int) (w : World) (hs : Src w g zs at_) (hb : ∀ b ∈ zs, isByte b) (hl : zs.length < 2000000) (ha : 0 ≤ at_ ∧ at_ ≤ 1000000) (hn : n ≤ 60000) :
    Calls Tryz.prog 29 #[.pointer (some ⟨g, 0, none⟩), .int .i64 n] w fun e w' => e = .returned (.int .i64 (nxt zs at_ n)) ∧ Src w' g zs (at_ + 1) ∧ Out g (g + 1) w w' := by
  obtain ⟨A, c, hk, hr⟩ := hs
  refine (l1Next_any g A c zs at_ n w hk hr hb hl ha hn).mono fun e w' ⟨he, hk', ho⟩ => ⟨he, ⟨A, c, hk', hr.out ho (Nat.le_refl _) (by have := hk.lt; omega)⟩, ho⟩

set_option maxRecDepth 100000 in
set_option maxHeartbeats 400000 in
theorem l1Source_any (A : Option Addr) (c : Nat) (zs : List Int) (w : World) (hr : Rd w w.heap.size A (nums .u8 zs)) :
    Calls Tryz.prog 19 #[.slice A zs.length c] w fun e w' => e = .returned (.pointer (some ⟨w.heap.size, 0, none⟩)) ∧ Src w' w.heap.size zs 0 ∧ Below w.heap.size w w' := by
  have HR := Lib.hid hr
  clear hr
  have b := (Below.refl w.heap.size w).alloc (Nat.le_refl _) (.cells #[.slice A zs.length c, .int .i64 0] 73)
  go_enter Tryz.func19, Tryz.ntmps19
  go_wp2
  go_ret
  exact ⟨rfl, ⟨A, c, Blk.new w _ _, HR.out.below b (Nat.le_refl _)⟩, b⟩

set_option maxRecDepth 100000 in
set_option maxHeartbeats 400000 in
theorem l1Chance_any (g : Nat) (zs : List Int) (at_ n : Int) (w : World) (hs : Src w g zs at_) (hb : ∀ b ∈ zs, isByte b) (hl : zs.length < 2000000) (ha : 0 ≤ at_ ∧ at_ ≤ 1000000) (hn : n ≤ 60000) :
    Calls Tryz.prog 28 #[.pointer (some ⟨g, 0, none⟩), .int .i64 n] w fun e w' => e = .returned (.bool (nxt zs at_ n == 0)) ∧ Src w' g zs (at_ + 1) ∧ Out g (g + 1) w w' := by
  go_enter Tryz.func28, Tryz.ntmps28
  go_wp2_with fail
  refine (next_src g zs at_ n w hs hb hl ha hn).mono ?_
  rintro e w1 ⟨rfl, hs1, o1⟩
  go_wp2
  go_ret
  exact ⟨rfl, hs1, o1⟩

set_option maxRecDepth 100000 in
set_option maxHeartbeats 400000 in
theorem l1Pick_any (g p m : Nat) (T : TypeId) (ls : List Int) (zs : List Int) (at_ : Int) (w : World) (hp : Blk w p T (Array.mk (nums .i64 ls))) (hpg : p ≠ g) (hm : ls.length = m) (hm1 : 1 ≤ m) (hm2 : m ≤ 200) (hs : Src w g zs at_) (hb : ∀ b ∈ zs, isByte b) (hl : zs.length < 2000000) (ha : 0 ≤ at_ ∧ at_ ≤ 1000000) :
    Calls Tryz.prog 26 #[.pointer (some ⟨g, 0, none⟩), .slice (some ⟨p, 0, none⟩) m m] w fun e w' => e = .returned (.int .i64 (nth ls (nxt zs at_ m).toNat)) ∧ Src w' g zs (at_ + 1) ∧ Out g (g + 1) w w' := by
  have hx := nxt_range zs at_ m (by omega)
  obtain ⟨r, hr⟩ : ∃ r : Nat, Hid (nxt zs at_ m = r) := ⟨(nxt zs at_ m).toNat, Lib.hid (by omega)⟩
  rw [hr.out] at hx
  go_enter Tryz.func26, Tryz.ntmps26
  go_wp2_with fail
  refine (next_src g zs at_ m w hs hb hl ha (by omega)).mono ?_
  rintro e w1 ⟨rfl, hs1, o1⟩
  rw [hr.out]
  have e1 := (hp.out o1 (by omega)).cell r (u := .int .i64 (nth ls r)) (by simpa using nums_get .i64 ls r (by omega))
  have i1 : (r : Int) < (m : Int) := hx.2
  go_wp2
  go_ret
  exact ⟨rint (by rw [hr.out, Int.toNat_natCast]), hs1, o1⟩
theorem Out.later {lo hi lo' hi' : Nat} {a b c : World} (h : Out lo hi a b) (k : Out lo' hi' b c) (hl : a.heap.size ≤ lo') : Out lo hi a c :=
  ⟨k.os.trans h.os, k.tape.trans h.tape, k.output.trans h.output, Nat.le_trans h.size k.size, fun i hi hn => (k.block i (Nat.lt_of_lt_of_le hi h.size) (by omega)).trans (h.block i hi hn)⟩
theorem Out.alloc {lo hi : Nat} {a b : World} (h : Out lo hi a b) (o : Obj) : Out lo hi a (b.alloc o) := h.trans (Out.of_below ((Below.refl _ b).alloc (Nat.le_refl _) o))
theorem Src.alloc {w : World} {g : Nat} {zs : List Int} {at_ : Int} (h : Src w g zs at_) (o : Obj) : Src (w.alloc o) g zs at_ := h.below ((Below.refl _ w).alloc (Nat.le_refl _) o)
theorem row_out {w w' : World} {base n : Nat} {e : TypeId} {size : Nat} {v : Value} {xs : List Value} (h : w.ownsRow base e size v n xs) (hg : w.grownBy w' v.ownBlock) : Out base w.heap.size w w' :=
  Out.of_grown hg fun r hr => h.lt r hr

theorem nth_in (ls : List Int) (k : Nat) (h : k < ls.length) : nth ls k ∈ ls := by
  simp only [nth, List.getElem?_eq_getElem h, Option.getD_some]
  exact List.getElem_mem h
theorem chrB_range {c : Int} (h : chrB c = true) : 0 ≤ c ∧ c ≤ 1114111 := by
  unfold chrB at h
  rw [decide_eq_true_eq] at h
  omega
theorem Sees.more {w : World} {B B' : Nat} {kd : IntKind} {v : Value} {zs : List Int} (h : Sees w B kd v zs) (hB : B ≤ B') : Sees w B' kd v zs := by
  obtain ⟨A, c, e, rd⟩ := h
  exact ⟨A, c, e, rd.more hB⟩
def drawL : List Int := [97, 98, 97, 66, 49, 50, 49, 43, 45, 44, 46, 58, 36, 37, 32, 32, 32, 9, 40, 41, 91, 93, 60, 62, 33, 1488, 1489, 1490, 1488, 1575, 1576, 1604, 1604, 1575, 1577, 1569, 1605, 1632, 1633, 769, 1611, 8234, 8235, 8236, 8237, 8238, 8294, 8295, 8296, 8297, 8236, 8297, 8203, 9001, 12296, 12297, 128512, 65533]
set_option maxRecDepth 100000 in
set_option maxHeartbeats 1000000 in
theorem l1DrawChar_any (g : Nat) (zs : List Int) (at_ : Int) (w : World) (hs : Src w g zs at_) (hb : ∀ b ∈ zs, isByte b) (hl : zs.length < 2000000) (ha : 0 ≤ at_ ∧ at_ + 10 ≤ 1000000) :
    Calls Tryz.prog 68 #[.pointer (some ⟨g, 0, none⟩)] w fun e w' => (∃ c, e = .returned (.int .i64 c) ∧ chrB c = true) ∧ Src w' g zs (at_ + 1) ∧ Out g (g + 1) w w' := by
  have HB := Lib.hid hb
  have HS := Lib.hid hs
  have gl := hs.lt
  have hx := nxt_range zs at_ 58 (by omega)
  obtain ⟨r, hr⟩ : ∃ r : Nat, Hid (nxt zs at_ 58 = r) := ⟨(nxt zs at_ 58).toNat, Lib.hid (by omega)⟩
  rw [hr.out] at hx
  have CC : Hid (chrB (nth drawL r) = true) := Lib.hid ((by decide : ∀ x ∈ drawL, chrB x = true) _ (nth_in drawL r (by simp [drawL]; omega)))
  have kb : Blk (w.alloc (.cells #[.int .i64 97, .int .i64 98, .int .i64 97, .int .i64 66, .int .i64 49, .int .i64 50, .int .i64 49, .int .i64 43, .int .i64 45, .int .i64 44, .int .i64 46, .int .i64 58, .int .i64 36, .int .i64 37, .int .i64 32, .int .i64 32, .int .i64 32, .int .i64 9, .int .i64 40, .int .i64 41, .int .i64 91, .int .i64 93, .int .i64 60, .int .i64 62, .int .i64 33, .int .i64 1488, .int .i64 1489, .int .i64 1490, .int .i64 1488, .int .i64 1575, .int .i64 1576, .int .i64 1604, .int .i64 1604, .int .i64 1575, .int .i64 1577, .int .i64 1569, .int .i64 1605, .int .i64 1632, .int .i64 1633, .int .i64 769, .int .i64 1611, .int .i64 8234, .int .i64 8235, .int .i64 8236, .int .i64 8237, .int .i64 8238, .int .i64 8294, .int .i64 8295, .int .i64 8296, .int .i64 8297, .int .i64 8236, .int .i64 8297, .int .i64 8203, .int .i64 9001, .int .i64 12296, .int .i64 12297, .int .i64 128512, .int .i64 65533] 2)) w.heap.size 2 (Array.mk (nums .i64 drawL)) := Blk.new w _ _
  clear hs hb
  go_enter Tryz.func68, Tryz.ntmps68
  go_wp2_with fail
  refine (next_src g zs at_ 58 _ (HS.out.alloc _) HB.out hl (by omega) (by omega)).mono ?_
  rintro e w1 ⟨rfl, hs1, o1⟩
  rw [hr.out]
  have e1 := (kb.out o1 (by omega)).cell r (u := .int .i64 (nth drawL r)) (by simpa using nums_get .i64 drawL r (by simp [drawL]; omega))
  have S1 := Lib.hid hs1
  have a1 : Out g (g + 1) w w1 := ((Out.refl _ _ w).alloc _).trans o1
  clear kb o1 hs1
  obtain ⟨C, hC⟩ : ∃ C, Hid (nth drawL r = C) := ⟨_, Lib.hid rfl⟩
  rw [hC.out] at e1 CC
  go_wp2
  go_ret
  exact ⟨⟨C, rfl, CC.out⟩, S1.out, a1⟩
set_option maxRecDepth 100000 in
set_option maxHeartbeats 1000000 in
theorem l1DrawText_any (g : Nat) (zs : List Int) (at_ : Int) (n : Nat) (w : World) (hs : Src w g zs at_) (hb : ∀ b ∈ zs, isByte b) (hl : zs.length < 2000000) (ha : 0 ≤ at_ ∧ at_ + n + 10 ≤ 1000000) :
    Calls Tryz.prog 39 #[.pointer (some ⟨g, 0, none⟩), .int .i64 n] w fun e w' => (∃ v, e = .returned v ∧ ∃ ts, Own w' w.heap.size w'.heap.size 2 .i64 v ts ∧ ts.length = n ∧ ∀ t ∈ ts, chrB t = true) ∧ Src w' g zs (at_ + n) ∧ Out g (g + 1) w w' := by
  obtain ⟨i0, hi, hz0, hz1, hz2⟩ := info_parts info_int64
  have HB := Lib.hid hb
  have HS := Lib.hid hs
  have gl := hs.lt
  clear hs hb
  go_enter Tryz.func39, Tryz.ntmps39
  go_wp2
  go_loopw [1, 5] (fun nv v wr => ∃ (k : Nat) (ts : List Int), k ≤ n ∧ ts.length = k ∧ nv = .int .i64 ((n : Int) - k) ∧ Hid (∀ t ∈ ts, chrB t = true) ∧ Hid (wr.ownsRow w.heap.size 2 1 v k (nums .i64 ts)) ∧ Hid (Src wr g zs (at_ + (k : Int))) ∧ Out g (g + 1) w wr) (fun nv _ _ => (intOf nv).toNat)
  case atStart => exact ⟨0, [], by omega, rfl, by simp, Lib.hid (by simp), Lib.hid (by simpa [nums] using own_new w 2 #[] 0 rfl (by omega)), Lib.hid (by simpa using HS.out.alloc _), (Out.refl _ _ _).alloc _⟩
  case round =>
    obtain ⟨k, ts, hk, htk, rfl, ht, ho, hsr, hou⟩ := hrel
    have sz := hou.size
    by_cases hlt : k < n
    · have c0 : (0 : Int) < (n : Int) - k := by omega
      obtain ⟨A1, c1, rfl⟩ := own_form ho.out
      have HTK := Lib.hid htk
      clear htk
      go_wp2_with fail
      refine (l1DrawChar_any g zs _ wr hsr.out HB.out hl (by omega)).mono ?_
      rintro e w1 ⟨⟨x, rfl, hx⟩, hs1, o1⟩
      have HX := Lib.hid hx
      have S1 := Lib.hid hs1
      have r1 := Lib.hid (((Own.mk_ (kd := .i64) (zs := ts) ho.out HTK.out.symm).out o1 (.inr (by omega))).1)
      rw [HTK.out] at r1
      have ou1 := hou.trans o1
      have sz1 := ou1.size
      clear o1 hs1 hx
      go_wp2_with (at_builtin; refine wpList_app rfl _ _ _ rfl w.heap.size Tryz.underlying24 hi hz0 hz1 hz2 rfl (by omega) rfl (r1.out.alloc _) rfl (Rd.lit _ #[.int .i64 x] _) (m := 1) rfl (nums_one .i64 [x]) (by omega) (by omega) (by simp; omega) ?_; intro v' w2 o2 g2 a2)
      have g3 : (w1.alloc (.cells #[.int .i64 x] 2)).grownBy w2 (Value.slice A1 k c1).ownBlock := g2
      have ro := row_out (r1.out.alloc (.cells #[.int .i64 x] 2)) g3
      clear g2 a2 g3
      go_roundw
      case rel => exact ⟨k + 1, ts ++ [x], by omega, by simp [HTK.out], by simp; omega, Lib.hid (fun t h => by rcases List.mem_append.1 h with h | h; exact ht.out t h; rw [List.mem_singleton.1 h]; exact HX.out), Lib.hid (by simpa [nums] using o2), Lib.hid (by have := (S1.out.alloc (.cells #[.int .i64 x] 2)).out ro gl; simpa [Int.add_assoc] using this), (ou1.alloc _).later ro (Nat.le_refl _)⟩
      case measure => first | omega | (simp [intOf]; omega)
    · obtain rfl : k = n := by omega
      have c0 : ¬ (0 : Int) < (k : Int) - k := by omega
      go_wp2
      go_ret
      exact ⟨⟨_, rfl, ts, Own.mk_ ho.out htk.symm, htk, ht.out⟩, hsr.out, hou⟩
theorem pick_in (ls : List Int) (zs : List Int) (at_ : Int) (m : Nat) (hm : ls.length = m) (h1 : 1 ≤ m) : nth ls (nxt zs at_ m).toNat ∈ ls := by
  have := nxt_range zs at_ m (by omega)
  exact nth_in ls _ (by omega)
theorem out_new {w w1 w2 : World} (b : Below w.heap.size w w1) (o : Out w.heap.size (w.heap.size + 1) w1 w2) : Below w.heap.size w w2 := b.trans (o.to_below (Nat.le_refl _) b.size)
end Go.Proofs.YtmcmfklkljehiaaGreat
