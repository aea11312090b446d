/- Chapter 8: what a level becomes. No program is named here. -/
import Derived.Test.YtcfnhjpmihngdaaGreatY03
import Derived.Test.YtcfnhjpmihngdaaGreatY19
namespace Go.Proofs.YtcfnhjpmihngdaaGreat
open Go.RowKit

structure Prt where
  T : List Int
  F : List Int
  N : List Int
  L : Int
  S : Int
  E : Int
def partF (p : Prt) : Int := if textF p.T = 0 then (if classF p.F p.S = 0 then (if classF p.N p.E = 0 then (if p.F.length = p.T.length ∧ p.N.length = p.T.length then (if 0 ≤ p.L ∧ p.L ≤ 126 then 0 else 3) else 8) else classF p.N p.E) else classF p.F p.S) else textF p.T
theorem partF_zero {p : Prt} (h : partF p = 0) : textF p.T = 0 ∧ classF p.F p.S = 0 ∧ classF p.N p.E = 0 ∧ p.F.length = p.T.length ∧ p.N.length = p.T.length ∧ 0 ≤ p.L ∧ p.L ≤ 126 := by
  unfold partF at h
  by_cases h1 : textF p.T = 0
  · rw [if_pos h1] at h
    by_cases h2 : classF p.F p.S = 0
    · rw [if_pos h2] at h
      by_cases h3 : classF p.N p.E = 0
      · rw [if_pos h3] at h
        by_cases h4 : p.F.length = p.T.length ∧ p.N.length = p.T.length
        · rw [if_pos h4] at h
          by_cases h5 : 0 ≤ p.L ∧ p.L ≤ 126
          · exact ⟨h1, h2, h3, h4.1, h4.2, h5.1, h5.2⟩
          · rw [if_neg h5] at h; omega
        · rw [if_neg h4] at h; omega
      · rw [if_neg h3] at h; exact absurd h h3
    · rw [if_neg h2] at h; exact absurd h h2
  · rw [if_neg h1] at h; exact absurd h h1
theorem partF_yes {p : Prt} (h1 : textF p.T = 0) (h2 : classF p.F p.S = 0) (h3 : classF p.N p.E = 0) (h4 : p.F.length = p.T.length) (h5 : p.N.length = p.T.length) (h6 : 0 ≤ p.L ∧ p.L ≤ 126) : partF p = 0 := by
  unfold partF; rw [if_pos h1, if_pos h2, if_pos h3, if_pos ⟨h4, h5⟩, if_pos h6]

/-! pairs -/
abbrev Pr := Int × Int
/-- an element, closed to simp -/
def nthP (l : List Pr) (k : Nat) : Pr := l[k]?.getD (0, 0)
theorem nthP_get (l : List Pr) (k : Nat) (h : k < l.length) : l[k]? = some (nthP l k) := by simp [nthP, List.getElem?_eq_getElem h]
theorem nthP_mem {l : List Pr} {k : Nat} (h : k < l.length) : nthP l k ∈ l := List.mem_of_getElem? (nthP_get l k h)
theorem nthP_left (l m : List Pr) (k : Nat) (h : k < l.length) : nthP (l ++ m) k = nthP l k := by unfold nthP; rw [List.getElem?_append_left h]
theorem nthP_right (l : List Pr) (x : Pr) : nthP (l ++ [x]) l.length = x := by simp [nthP]
theorem nthP_take (l : List Pr) (n k : Nat) (h : k < n) : nthP (l.take n) k = nthP l k := by unfold nthP; rw [List.getElem?_take, if_pos h]
/-- the last one of the first k that has this name -/
def lastN (nm : Int) (l : List Pr) : Nat → Option Nat
  | 0 => none
  | k + 1 => if (nthP l k).2 = nm then some k else lastN nm l k
theorem lastN_some {nm : Int} {l : List Pr} : ∀ {k j : Nat}, lastN nm l k = some j → j < k ∧ (nthP l j).2 = nm
  | 0, _, h => by cases h
  | k + 1, j, h => by
    have e : lastN nm l (k + 1) = if (nthP l k).2 = nm then some k else lastN nm l k := rfl
    rw [e] at h
    by_cases hk : (nthP l k).2 = nm
    · rw [if_pos hk] at h; injection h with h; subst h; exact ⟨by omega, hk⟩
    · rw [if_neg hk] at h; have := lastN_some h; exact ⟨by omega, this.2⟩
theorem lastN_hit {nm : Int} {l : List Pr} {k : Nat} (h : (nthP l k).2 = nm) : lastN nm l (k + 1) = some k := by show (if _ then _ else _) = _; rw [if_pos h]
theorem lastN_miss {nm : Int} {l : List Pr} {k : Nat} (h : (nthP l k).2 ≠ nm) : lastN nm l (k + 1) = lastN nm l k := by show (if _ then _ else _) = _; rw [if_neg h]
/-- a pair at its place -/
def putP (x : Pr) : List Pr → List Pr
  | [] => [x]
  | y :: r => if x.1 < y.1 then x :: y :: r else y :: putP x r
theorem putP_len (x : Pr) : ∀ l, (putP x l).length = l.length + 1
  | [] => rfl
  | y :: r => by
    show (if _ then _ else _ : List Pr).length = _
    split
    · rfl
    · simp [putP_len x r]
theorem putP_mem (x y : Pr) : ∀ l, y ∈ putP x l ↔ y = x ∨ y ∈ l
  | [] => by simp [putP]
  | z :: r => by
    show y ∈ (if _ then _ else _ : List Pr) ↔ _
    split
    · simp
    · rw [List.mem_cons, putP_mem x y r, List.mem_cons]
      constructor
      · rintro (h | h | h) <;> simp [h]
      · rintro (h | h | h) <;> simp [h]
def Rises (l : List Pr) : Prop := l.Pairwise fun a b => a.1 < b.1
theorem putP_rises (x : Pr) : ∀ {l : List Pr}, Rises l → (∀ y ∈ l, y.1 ≠ x.1) → Rises (putP x l)
  | [], _, _ => List.pairwise_singleton _ _
  | y :: r, h, hne => by
    have hc := List.pairwise_cons.1 h
    show Rises (if _ then _ else _)
    split
    · rename_i hl
      refine List.pairwise_cons.2 ⟨fun z hz => ?_, h⟩
      rcases List.mem_cons.1 hz with rfl | hz
      · exact hl
      · have := hc.1 z hz; omega
    · rename_i hl
      have hy := hne y (by simp)
      refine List.pairwise_cons.2 ⟨fun z hz => ?_, putP_rises x hc.2 fun z hz => hne z (by simp [hz])⟩
      rcases (putP_mem x z r).1 hz with rfl | hz
      · omega
      · exact hc.1 z hz
structure PS where
  out : List Pr
  stk : List Pr
  dead : Bool
def qstep (s : PS) (i : Nat) (c n : Int) : PS :=
  if s.dead = true then s
  else if brC c = 0 ∧ n = 13 then
    (if brO c = true then (if 63 ≤ s.stk.length then ⟨[], [], true⟩ else ⟨s.out, s.stk ++ [((i : Int), brN c)], false⟩)
    else match lastN (brN c) s.stk s.stk.length with
      | some k => ⟨putP ((nthP s.stk k).1, (i : Int)) s.out, s.stk.take k, false⟩
      | none => s)
  else s
def qrun (T N : List Int) : Nat → PS
  | 0 => ⟨[], [], false⟩
  | k + 1 => qstep (qrun T N k) k (nth T k) (nth N k)
def pairsN (T N : List Int) : List Pr := (qrun T N T.length).out
section
variable {T N : List Int} {k : Nat}
theorem qrun_dead (h : (qrun T N k).dead = true) : qrun T N (k + 1) = qrun T N k := by show qstep _ _ _ _ = _; unfold qstep; rw [if_pos h]
theorem qrun_none (h : ¬ (brC (nth T k) = 0 ∧ nth N k = 13)) : qrun T N (k + 1) = qrun T N k := by
  show qstep _ _ _ _ = _
  unfold qstep
  by_cases hd : (qrun T N k).dead = true
  · rw [if_pos hd]
  · rw [if_neg hd, if_neg h]
theorem qrun_many (hd : (qrun T N k).dead = false) (h : brC (nth T k) = 0 ∧ nth N k = 13) (ho : brO (nth T k) = true) (hm : 63 ≤ (qrun T N k).stk.length) : qrun T N (k + 1) = ⟨[], [], true⟩ := by
  show qstep _ _ _ _ = _
  unfold qstep
  rw [if_neg (by rw [hd]; simp), if_pos h, if_pos ho, if_pos hm]
theorem qrun_open (hd : (qrun T N k).dead = false) (h : brC (nth T k) = 0 ∧ nth N k = 13) (ho : brO (nth T k) = true) (hm : ¬ 63 ≤ (qrun T N k).stk.length) : qrun T N (k + 1) = ⟨(qrun T N k).out, (qrun T N k).stk ++ [((k : Int), brN (nth T k))], false⟩ := by
  show qstep _ _ _ _ = _
  unfold qstep
  rw [if_neg (by rw [hd]; simp), if_pos h, if_pos ho, if_neg hm]
theorem qrun_close (hd : (qrun T N k).dead = false) (h : brC (nth T k) = 0 ∧ nth N k = 13) (ho : brO (nth T k) = false) {j : Nat} (hj : lastN (brN (nth T k)) (qrun T N k).stk (qrun T N k).stk.length = some j) :
    qrun T N (k + 1) = ⟨putP ((nthP (qrun T N k).stk j).1, (k : Int)) (qrun T N k).out, (qrun T N k).stk.take j, false⟩ := by
  show qstep _ _ _ _ = _
  unfold qstep
  rw [if_neg (by rw [hd]; simp), if_pos h, if_neg (by rw [ho]; simp), hj]
theorem qrun_lone (hd : (qrun T N k).dead = false) (h : brC (nth T k) = 0 ∧ nth N k = 13) (ho : brO (nth T k) = false) (hj : lastN (brN (nth T k)) (qrun T N k).stk (qrun T N k).stk.length = none) : qrun T N (k + 1) = qrun T N k := by
  show qstep _ _ _ _ = _
  unfold qstep
  rw [if_neg (by rw [hd]; simp), if_pos h, if_neg (by rw [ho]; simp), hj]
end
theorem qrun_dead_on {T N : List Int} {k : Nat} (h : (qrun T N k).dead = true) : ∀ m, qrun T N (k + m) = qrun T N k
  | 0 => rfl
  | m + 1 => by
    have e := qrun_dead_on h m
    rw [show k + (m + 1) = (k + m) + 1 by omega, qrun_dead (by rw [e]; exact h), e]
/-- what holds of pairs and of what is open -/
structure PInv (T : List Int) (s : PS) (i : Nat) : Prop where
  few : s.stk.length ≤ 63
  up : s.stk.Pairwise fun a b => a.1 < b.1
  stk : ∀ x ∈ s.stk, ∃ o : Nat, x.1 = (o : Int) ∧ o < i ∧ brC (nth T o) = 0 ∧ brO (nth T o) = true ∧ brN (nth T o) = x.2
  out : ∀ x ∈ s.out, ∃ o c : Nat, x.1 = (o : Int) ∧ x.2 = (c : Int) ∧ o < c ∧ c < i ∧ brC (nth T o) = 0 ∧ brO (nth T o) = true ∧ brC (nth T c) = 0 ∧ brO (nth T c) = false ∧ brN (nth T o) = brN (nth T c)
  rises : Rises s.out
  apart : ∀ x ∈ s.out, ∀ y ∈ s.stk, y.1 < x.1 ∨ x.2 < y.1
  nest : ∀ x ∈ s.out, ∀ y ∈ s.out, x.1 < y.1 → ¬ (y.1 < x.2 ∧ x.2 < y.2)
  total : s.out.length ≤ i
theorem qinv_run (T N : List Int) : ∀ k, PInv T (qrun T N k) k
  | 0 => ⟨by simp [qrun], List.Pairwise.nil, by simp [qrun], by simp [qrun], List.Pairwise.nil, by simp [qrun], by simp [qrun], by simp [qrun]⟩
  | k + 1 => by
    have ih := qinv_run T N k
    have keep : PInv T (qrun T N k) (k + 1) :=
      ⟨ih.few, ih.up, fun x hx => by obtain ⟨o, h1, h2, h3⟩ := ih.stk x hx; exact ⟨o, h1, by omega, h3⟩, fun x hx => by obtain ⟨o, c, h1, h2, h3, h4, h5⟩ := ih.out x hx; exact ⟨o, c, h1, h2, h3, by omega, h5⟩, ih.rises, ih.apart, ih.nest, by have := ih.total; omega⟩
    cases hd : (qrun T N k).dead with
    | true => rw [qrun_dead hd]; exact keep
    | false =>
      by_cases h : brC (nth T k) = 0 ∧ nth N k = 13
      · cases ho : brO (nth T k) with
        | true =>
          by_cases hm : 63 ≤ (qrun T N k).stk.length
          · rw [qrun_many hd h ho hm]
            exact ⟨by simp, List.Pairwise.nil, by simp, by simp, List.Pairwise.nil, by simp, by simp, by simp⟩
          · rw [qrun_open hd h ho hm]
            refine ⟨by simp; omega, ?_, ?_, keep.out, ih.rises, ?_, ih.nest, keep.total⟩
            · refine List.pairwise_append.2 ⟨ih.up, List.pairwise_singleton _ _, fun a ha b hb => ?_⟩
              obtain ⟨o, h1, h2, _⟩ := ih.stk a ha
              rw [List.mem_singleton.1 hb]
              show a.1 < (k : Int)
              omega
            · intro x hx
              rcases List.mem_append.1 hx with hx | hx
              · exact keep.stk x hx
              · rw [List.mem_singleton.1 hx]; exact ⟨k, rfl, by omega, h.1, ho, rfl⟩
            · intro x hx y hy
              rcases List.mem_append.1 hy with hy | hy
              · exact ih.apart x hx y hy
              · obtain ⟨o, c, h1, h2, h3, h4, _⟩ := ih.out x hx
                rw [List.mem_singleton.1 hy]
                show (k : Int) < x.1 ∨ x.2 < (k : Int)
                omega
        | false =>
          cases hj : lastN (brN (nth T k)) (qrun T N k).stk (qrun T N k).stk.length with
          | none => rw [qrun_lone hd h ho hj]; exact keep
          | some j =>
            rw [qrun_close hd h ho hj]
            obtain ⟨jl, jn⟩ := lastN_some hj
            have jm := nthP_mem jl
            obtain ⟨oj, e1, e2, e3, e4, e5⟩ := ih.stk _ jm
            have tk : ∀ x ∈ (qrun T N k).stk.take j, x ∈ (qrun T N k).stk ∧ x.1 < (oj : Int) := by
              intro x hx
              obtain ⟨m, hm, rfl⟩ := List.mem_iff_getElem.1 hx
              have hm' : m < j := by rw [List.length_take] at hm; omega
              have hms : m < (qrun T N k).stk.length := by omega
              rw [List.getElem_take]
              refine ⟨List.getElem_mem hms, ?_⟩
              have := (List.pairwise_iff_getElem.1 ih.up) m j hms jl hm'
              have ej : (qrun T N k).stk[j] = nthP (qrun T N k).stk j := by simp [nthP, List.getElem?_eq_getElem jl]
              rw [ej, e1] at this
              exact this
            have ne : ∀ y ∈ (qrun T N k).out, y.1 ≠ (nthP (qrun T N k).stk j).1 := by
              intro y hy e
              obtain ⟨o, c, h1, h2, h3, h4, _⟩ := ih.out y hy
              have := ih.apart y hy _ jm
              omega
            refine ⟨by rw [List.length_take]; have := ih.few; omega, ih.up.sublist (List.take_sublist _ _), fun x hx => keep.stk x (tk x hx).1, ?_, putP_rises _ ih.rises ne, ?_, ?_, by rw [putP_len]; have := ih.total; omega⟩
            · intro x hx
              rcases (putP_mem _ x _).1 hx with rfl | hx
              · exact ⟨oj, k, e1, rfl, e2, by omega, e3, e4, h.1, ho, by rw [e5, jn]⟩
              · exact keep.out x hx
            · intro x hx y hy
              have ty := tk y hy
              rcases (putP_mem _ x _).1 hx with rfl | hx
              · left; show y.1 < (nthP _ j).1; omega
              · exact ih.apart x hx y ty.1
            · intro x hx y hy hlt hno
              rcases (putP_mem _ x _).1 hx with rfl | hx
              · rcases (putP_mem _ y _).1 hy with rfl | hy
                · omega
                · obtain ⟨o, c, h1, h2, h3, h4, _⟩ := ih.out y hy
                  have q1 : (nthP (qrun T N k).stk j).1 < y.1 := hlt
                  have q2 : y.1 < (k : Int) ∧ (k : Int) < y.2 := hno
                  omega
              · rcases (putP_mem _ y _).1 hy with rfl | hy
                · obtain ⟨o, c, h1, h2, h3, h4, _⟩ := ih.out x hx
                  have ap := ih.apart x hx _ jm
                  have q1 : x.1 < (nthP (qrun T N k).stk j).1 := hlt
                  have q2 : (nthP (qrun T N k).stk j).1 < x.2 ∧ x.2 < (k : Int) := hno
                  omega
                · exact ih.nest x hx y hy hlt hno
      · rw [qrun_none h]; exact keep

/-! sides -/
def sideC (z : Int) : Int := if z = 0 then 0 else if z = 1 ∨ z = 3 ∨ z = 6 then 1 else -1
theorem sideC_cases (z : Int) : sideC z = 0 ∨ sideC z = 1 ∨ sideC z = -1 := by unfold sideC; split <;> (try split) <;> simp
/-- the last side ahead of a place -/
def aheadS (now : List Int) (sos : Int) : Nat → Int
  | 0 => sos
  | k + 1 => if 0 ≤ sideC (nth now k) then sideC (nth now k) else aheadS now sos k
theorem aheadS_hit {now : List Int} {sos : Int} {k : Nat} (h : 0 ≤ sideC (nth now k)) : aheadS now sos (k + 1) = sideC (nth now k) := by show (if _ then _ else _) = _; rw [if_pos h]
theorem aheadS_miss {now : List Int} {sos : Int} {k : Nat} (h : ¬ 0 ≤ sideC (nth now k)) : aheadS now sos (k + 1) = aheadS now sos k := by show (if _ then _ else _) = _; rw [if_neg h]
/-- whether the way is among these places (none), and else whether another side is -/
def scanB (now : List Int) (way : Int) : Nat → Nat → Bool → Option Bool
  | 0, _, o => some o
  | n + 1, i, o => if sideC (nth now i) = way then none else scanB now way n (i + 1) (o || decide (0 ≤ sideC (nth now i)))
theorem scanB_hit {now : List Int} {way : Int} {n i : Nat} {o : Bool} (h : sideC (nth now i) = way) : scanB now way (n + 1) i o = none := by show (if _ then _ else _) = _; rw [if_pos h]
theorem scanB_miss {now : List Int} {way : Int} {n i : Nat} {o : Bool} (h : sideC (nth now i) ≠ way) : scanB now way (n + 1) i o = scanB now way n (i + 1) (o || decide (0 ≤ sideC (nth now i))) := by show (if _ then _ else _) = _; rw [if_neg h]
def becomesN (now : List Int) (x : Pr) (way sos : Int) : Int :=
  match scanB now way (x.2 - (x.1 + 1)).toNat (x.1 + 1).toNat false with
  | none => way
  | some false => -1
  | some true => if aheadS now sos x.1.toNat = way then way else 1 - way
theorem becomesN_cases (now : List Int) (x : Pr) {way sos : Int} (hw : way = 0 ∨ way = 1) : becomesN now x way sos = -1 ∨ becomesN now x way sos = 0 ∨ becomesN now x way sos = 1 := by
  unfold becomesN
  split
  · omega
  · simp
  · split <;> omega
/-- a side, and what was a mark behind it -/
def spreadN (F : List Int) (side : Int) : Nat → Nat → List Int → List Int
  | 0, _, l => l
  | n + 1, k, l => if nth F k = 8 then spreadN F side n (k + 1) (l.set k side) else l
theorem spreadN_hit {F : List Int} {side : Int} {n k : Nat} {l : List Int} (h : nth F k = 8) : spreadN F side (n + 1) k l = spreadN F side n (k + 1) (l.set k side) := by show (if _ then _ else _) = _; rw [if_pos h]
theorem spreadN_miss {F : List Int} {side : Int} {n k : Nat} {l : List Int} (h : nth F k ≠ 8) : spreadN F side (n + 1) k l = l := by show (if _ then _ else _) = _; rw [if_neg h]
theorem spreadN_len (F : List Int) (side : Int) : ∀ n k l, (spreadN F side n k l).length = l.length
  | 0, _, _ => rfl
  | n + 1, k, l => by
    show (if _ then _ else _ : List Int).length = _
    split
    · rw [spreadN_len F side n]; simp
    · rfl
theorem spreadN_all {P : Int → Prop} (F : List Int) (side : Int) (hs : P side) : ∀ n k l, (∀ x ∈ l, P x) → ∀ x ∈ spreadN F side n k l, P x
  | 0, _, _, h => h
  | n + 1, k, l, h => by
    show ∀ x ∈ (if nth F k = 8 then spreadN F side n (k + 1) (l.set k side) else l), P x
    split
    · refine spreadN_all F side hs n (k + 1) _ fun x hx => ?_
      rcases List.mem_or_eq_of_mem_set hx with hx | rfl
      · exact h x hx
      · exact hs
    · exact h
def spreadW (F : List Int) (l : List Int) (at_ : Nat) (side : Int) : List Int := spreadN F side (l.length - (at_ + 1)) (at_ + 1) (l.set at_ side)
theorem spreadW_len (F l : List Int) (a : Nat) (s : Int) : (spreadW F l a s).length = l.length := by unfold spreadW; rw [spreadN_len]; simp
theorem spreadW_all {P : Int → Prop} (F l : List Int) (a : Nat) (s : Int) (hs : P s) (h : ∀ x ∈ l, P x) : ∀ x ∈ spreadW F l a s, P x :=
  spreadN_all F s hs _ _ _ fun x hx => by
    rcases List.mem_or_eq_of_mem_set hx with hx | rfl
    · exact h x hx
    · exact hs
def bstep (F : List Int) (way sos : Int) (now : List Int) (x : Pr) : List Int :=
  if becomesN now x way sos < 0 then now else spreadW F (spreadW F now x.1.toNat (becomesN now x way sos)) x.2.toNat (becomesN now x way sos)
theorem bstep_len (F : List Int) (way sos : Int) (now : List Int) (x : Pr) : (bstep F way sos now x).length = now.length := by
  unfold bstep
  split
  · rfl
  · rw [spreadW_len, spreadW_len]
theorem bstep_all {P : Int → Prop} (F : List Int) {way : Int} (hw : way = 0 ∨ way = 1) (sos : Int) (now : List Int) (x : Pr) (h0 : P 0) (h1 : P 1) (h : ∀ z ∈ now, P z) : ∀ z ∈ bstep F way sos now x, P z := by
  unfold bstep
  split
  · exact h
  · have : P (becomesN now x way sos) := by
      rcases becomesN_cases now x (sos := sos) hw with e | e | e
      · omega
      · rw [e]; exact h0
      · rw [e]; exact h1
    exact spreadW_all _ _ _ _ this (spreadW_all _ _ _ _ this h)
/-- the classes behind the first k pairs -/
def brun (F : List Int) (way sos : Int) (now : List Int) (ps : List Pr) : Nat → List Int
  | 0 => now
  | k + 1 => bstep F way sos (brun F way sos now ps k) (nthP ps k)
theorem brun_len (F : List Int) (way sos : Int) (now : List Int) (ps : List Pr) : ∀ k, (brun F way sos now ps k).length = now.length
  | 0 => rfl
  | k + 1 => by show (bstep _ _ _ _ _).length = _; rw [bstep_len, brun_len F way sos now ps k]
theorem brun_all {P : Int → Prop} (F : List Int) {way : Int} (hw : way = 0 ∨ way = 1) (sos : Int) (now : List Int) (ps : List Pr) (h0 : P 0) (h1 : P 1) (h : ∀ z ∈ now, P z) : ∀ k, ∀ z ∈ brun F way sos now ps k, P z
  | 0 => h
  | k + 1 => bstep_all F hw sos _ _ h0 h1 (brun_all F hw sos now ps h0 h1 h k)
def sideL (n : Int) : Int := if n % 2 = 0 then 0 else 1
theorem sideL_cases (n : Int) : sideL n = 0 ∨ sideL n = 1 := by unfold sideL; split <;> simp
def bracketsN (p : Prt) : List Int := brun p.F (sideL p.L) p.S p.N (pairsN p.T p.N) (pairsN p.T p.N).length
theorem bracketsN_len (p : Prt) : (bracketsN p).length = p.N.length := brun_len _ _ _ _ _ _

/-! what has no side -/
def isNeu (z : Int) : Bool := decide ((10 ≤ z ∧ z ≤ 13) ∨ (19 ≤ z ∧ z ≤ 22))
def nearS (l : List Int) (i edge : Int) : Int := if 0 ≤ i ∧ i < l.length ∧ 0 ≤ sideC (nth l i.toNat) then sideC (nth l i.toNat) else edge
theorem nearS_cases (l : List Int) (i : Int) {edge : Int} (he : edge = 0 ∨ edge = 1) : nearS l i edge = 0 ∨ nearS l i edge = 1 := by
  unfold nearS
  split
  · rename_i h
    rcases sideC_cases (nth l i.toNat) with e | e | e <;> omega
  · exact he
/-- the run of such classes that k is in: its first place, and the place behind its last one -/
def runA (l : List Int) : Nat → Nat
  | 0 => 0
  | k + 1 => if isNeu (nth l k) = true then runA l k else k + 1
def runZ (l : List Int) : Nat → Nat → Nat
  | 0, k => k
  | n + 1, k => if isNeu (nth l k) = true then runZ l n (k + 1) else k
def runEnd (l : List Int) (k : Nat) : Nat := runZ l (l.length - k) k
def neuV (l : List Int) (way sos eos : Int) (a z : Nat) : Int := if nearS l ((a : Int) - 1) sos = nearS l z eos then nearS l ((a : Int) - 1) sos else way
def neuAt (l : List Int) (way sos eos : Int) (k : Nat) : Int := if isNeu (nth l k) = true then neuV l way sos eos (runA l k) (runEnd l k) else nth l k
def neutralsN (l : List Int) (way sos eos : Int) : List Int := (List.range l.length).map (neuAt l way sos eos)
theorem neutralsN_len (l : List Int) (way sos eos : Int) : (neutralsN l way sos eos).length = l.length := by simp [neutralsN]
theorem neutralsN_nth (l : List Int) (way sos eos : Int) (k : Nat) (h : k < l.length) : nth (neutralsN l way sos eos) k = neuAt l way sos eos k := by simp [neutralsN, nth, List.getElem?_map, List.getElem?_range h]
theorem neuV_cases (l : List Int) {way sos eos : Int} (hw : way = 0 ∨ way = 1) (hs : sos = 0 ∨ sos = 1) (a z : Nat) : neuV l way sos eos a z = 0 ∨ neuV l way sos eos a z = 1 := by
  unfold neuV
  split
  · exact nearS_cases l _ hs
  · exact hw
def sidesN (p : Prt) : List Int := neutralsN (bracketsN p) (sideL p.L) p.S p.E
theorem sidesN_len (p : Prt) : (sidesN p).length = p.N.length := by unfold sidesN; rw [neutralsN_len, bracketsN_len]
/-- the end of a run, by what is in it and what is behind it -/
theorem runZ_le (l : List Int) : ∀ n k, k ≤ runZ l n k ∧ runZ l n k ≤ k + n
  | 0, k => ⟨Nat.le_refl _, Nat.le_refl _⟩
  | n + 1, k => by
    show k ≤ (if _ then _ else _) ∧ (if _ then _ else _) ≤ _
    split
    · have := runZ_le l n (k + 1); omega
    · omega
theorem runZ_eq (l : List Int) : ∀ n k e, k ≤ e → e ≤ k + n → (∀ j, k ≤ j → j < e → isNeu (nth l j) = true) → (e = k + n ∨ isNeu (nth l e) = false) → runZ l n k = e
  | 0, k, e, h1, h2, _, _ => by show k = e; omega
  | n + 1, k, e, h1, h2, h3, h4 => by
    show (if _ then _ else _) = _
    by_cases hk : isNeu (nth l k) = true
    · rw [if_pos hk]
      by_cases e0 : e = k
      · subst e0
        rcases h4 with h4 | h4
        · omega
        · rw [hk] at h4; cases h4
      · exact runZ_eq l n (k + 1) e (by omega) (by omega) (fun j a b => h3 j (by omega) b) (by rcases h4 with h4 | h4; left; omega; right; exact h4)
    · rw [if_neg hk]
      by_cases e0 : e = k
      · exact e0.symm
      · exact absurd (h3 k (Nat.le_refl _) (by omega)) hk
theorem runEnd_eq (l : List Int) (k e : Nat) (h1 : k ≤ e) (h2 : e ≤ l.length) (h3 : ∀ j, k ≤ j → j < e → isNeu (nth l j) = true) (h4 : e = l.length ∨ isNeu (nth l e) = false) : runEnd l k = e :=
  runZ_eq l _ _ _ h1 (by omega) h3 (by rcases h4 with h4 | h4; left; omega; right; exact h4)
theorem runA_eq (l : List Int) : ∀ k a, a ≤ k → (∀ j, a ≤ j → j < k → isNeu (nth l j) = true) → (a = 0 ∨ isNeu (nth l (a - 1)) = false) → runA l k = a
  | 0, a, h1, _, _ => by show 0 = a; omega
  | k + 1, a, h1, h2, h3 => by
    show (if _ then _ else _) = _
    by_cases hk : isNeu (nth l k) = true
    · rw [if_pos hk]
      by_cases e0 : a = k + 1
      · subst e0
        rcases h3 with h3 | h3
        · omega
        · rw [show k + 1 - 1 = k by omega, hk] at h3; cases h3
      · exact runA_eq l k a (by omega) (fun j x y => h2 j x (by omega)) h3
    · rw [if_neg hk]
      by_cases e0 : a = k + 1
      · exact e0.symm
      · exact absurd (h2 k (by omega) (by omega)) hk
/-- all of one run -/
theorem neu_run (l : List Int) (way sos eos : Int) (a e : Nat) (_ : a < e) (h2 : e ≤ l.length) (h3 : ∀ j, a ≤ j → j < e → isNeu (nth l j) = true) (h4 : e = l.length ∨ isNeu (nth l e) = false) (h5 : a = 0 ∨ isNeu (nth l (a - 1)) = false) :
    ∀ k, a ≤ k → k < e → nth (neutralsN l way sos eos) k = neuV l way sos eos a e := by
  intro k hk1 hk2
  rw [neutralsN_nth _ _ _ _ k (by omega)]
  unfold neuAt
  rw [if_pos (h3 k hk1 hk2), runA_eq l k a hk1 (fun j x y => h3 j x (by omega)) h5, runEnd_eq l k e (by omega) h2 (fun j x y => h3 j (by omega) y) h4]
end Go.Proofs.YtcfnhjpmihngdaaGreat

namespace Go.Proofs.YtcfnhjpmihngdaaGreat
open Go.RowKit

/-- what FnPairs asks of the pairs -/
structure PairFacts (T : List Int) (ps : List Pr) : Prop where
  each : ∀ i, i < ps.length → ∃ o c : Nat, (nthP ps i).1 = (o : Int) ∧ (nthP ps i).2 = (c : Int) ∧ o < c ∧ c < T.length ∧ brC (nth T o) = 0 ∧ brO (nth T o) = true ∧ brC (nth T c) = 0 ∧ brO (nth T c) = false ∧ brN (nth T o) = brN (nth T c)
  rises : ∀ i j, i < j → j < ps.length → (nthP ps i).1 < (nthP ps j).1
  nest : ∀ i j, i < j → j < ps.length → ¬ ((nthP ps j).1 < (nthP ps i).2 ∧ (nthP ps i).2 < (nthP ps j).2)
  few : ps.length ≤ T.length
theorem pair_facts (T N : List Int) : PairFacts T (pairsN T N) := by
  have inv := qinv_run T N T.length
  have ri : ∀ i j, i < j → j < (pairsN T N).length → (nthP (pairsN T N) i).1 < (nthP (pairsN T N) j).1 := by
    intro i j hij hj
    have := (List.pairwise_iff_getElem.1 inv.rises) i j (by unfold pairsN at hj; omega) hj hij
    unfold nthP
    rw [List.getElem?_eq_getElem (show i < (pairsN T N).length by omega), List.getElem?_eq_getElem hj]
    exact this
  exact ⟨fun i hi => inv.out _ (nthP_mem hi), ri, fun i j hij hj => inv.nest _ (nthP_mem (by unfold pairsN at *; omega)) _ (nthP_mem hj) (ri i j hij hj), inv.total⟩

theorem runZ_none (l : List Int) (k : Nat) (h : isNeu (nth l k) = false) : ∀ n, runZ l n k = k
  | 0 => rfl
  | n + 1 => by show (if _ then _ else _) = _; rw [if_neg (by rw [h]; simp)]
theorem neutrals_same (l : List Int) (way sos eos : Int) (h : ∀ x ∈ l, isNeu x = false) : neutralsN l way sos eos = l := by
  refine nth_eq_of _ _ (neutralsN_len _ _ _ _) fun j hj => ?_
  rw [neutralsN_len] at hj
  rw [neutralsN_nth _ _ _ _ j hj]
  unfold neuAt
  rw [if_neg (by rw [nth_all h j hj]; simp)]
theorem neutrals_in (l : List Int) {way sos eos : Int} (hw : way = 0 ∨ way = 1) (hs : sos = 0 ∨ sos = 1) (h : ∀ x ∈ l, In x) : ∀ x ∈ neutralsN l way sos eos, In x ∧ isNeu x = false := by
  refine all_nth fun j hj => ?_
  rw [neutralsN_len] at hj
  rw [neutralsN_nth _ _ _ _ j hj]
  unfold neuAt
  cases hn : isNeu (nth l j) with
  | true =>
    rw [if_pos rfl]
    rcases neuV_cases l hw hs (runA l j) (runEnd l j) with e | e
    · rw [e]; exact ⟨by unfold In; omega, by decide⟩
    · rw [e]; exact ⟨by unfold In; omega, by decide⟩
  | false => rw [if_neg (by simp)]; exact ⟨nth_all h j hj, hn⟩
theorem pairs_none (T N : List Int) (h : ∀ k, k < T.length → nth N k ≠ 13) : pairsN T N = [] := by
  have : ∀ k, k ≤ T.length → qrun T N k = ⟨[], [], false⟩ := by
    intro k
    induction k with
    | zero => intro _; rfl
    | succ k ih => intro hk; rw [qrun_none (fun e => h k (by omega) e.2), ih (by omega)]
  unfold pairsN
  rw [this _ (Nat.le_refl _)]
/-- what FnSides asks of a part that has no fault -/
structure SideFacts (p : Prt) : Prop where
  lenS : (sidesN p).length = p.T.length
  lenB : (bracketsN p).length = p.T.length
  left : ∀ j, j < p.T.length → isNeu (nth (sidesN p) j) = false ∧ In (nth (sidesN p) j)
  inS : ∀ x ∈ sidesN p, In x
  again : partF ⟨p.T, p.F, sidesN p, p.L, p.S, p.E⟩ = 0
  same : sidesN ⟨p.T, p.F, sidesN p, p.L, p.S, p.E⟩ = sidesN p
theorem side_facts {p : Prt} (h : partF p = 0) : SideFacts p := by
  obtain ⟨h1, h2, h3, h4, h5, h6, h7⟩ := partF_zero h
  have c2 := classF_zero h2
  have c3 := classF_zero h3
  have hs : p.S = 0 ∨ p.S = 1 := by have := c2.2.2; omega
  have hw := sideL_cases p.L
  have bi : ∀ x ∈ bracketsN p, In x := brun_all (P := In) p.F hw p.S p.N _ (show 0 ≤ (0 : Int) ∧ (0 : Int) ≤ 22 by omega) (show 0 ≤ (1 : Int) ∧ (1 : Int) ≤ 22 by omega) c3.2.1 _
  have si : ∀ x ∈ sidesN p, In x ∧ isNeu x = false := neutrals_in _ hw hs bi
  have ls : (sidesN p).length = p.T.length := by rw [sidesN_len]; exact h5
  have c4 : classF (sidesN p) p.E = 0 := classF_yes (by rw [sidesN_len]; exact c3.1) (fun x hx => (si x hx).1) c3.2.2
  refine ⟨ls, by rw [bracketsN_len]; exact h5, fun j hj => ⟨(nth_all si j (by omega)).2, (nth_all si j (by omega)).1⟩, fun x hx => (si x hx).1, partF_yes h1 h2 c4 h4 ls ⟨h6, h7⟩, ?_⟩
  have np : pairsN p.T (sidesN p) = [] := pairs_none _ _ fun k hk e => by
    have := (nth_all si k (by omega)).2
    rw [e] at this
    exact absurd this (by decide)
  have eb : bracketsN ⟨p.T, p.F, sidesN p, p.L, p.S, p.E⟩ = sidesN p := by
    unfold bracketsN
    show brun p.F (sideL p.L) p.S (sidesN p) (pairsN p.T (sidesN p)) (pairsN p.T (sidesN p)).length = _
    rw [np]; rfl
  have e : sidesN ⟨p.T, p.F, sidesN p, p.L, p.S, p.E⟩ = neutralsN (bracketsN ⟨p.T, p.F, sidesN p, p.L, p.S, p.E⟩) (sideL p.L) p.S p.E := rfl
  rw [e, eb]
  exact neutrals_same _ _ _ _ fun x hx => (si x hx).2
end Go.Proofs.YtcfnhjpmihngdaaGreat

namespace Go.Proofs.YtcfnhjpmihngdaaGreat
open Go.RowKit

/-- the level of a class in a part of this level -/
def implF (l c : Int) : Int := if 0 ≤ l ∧ l ≤ 126 then (if sideC c = -1 then 1 else 0) else 3
def implN (l c : Int) : Int := if l % 2 = 0 then (if c = 1 then l + 1 else if c = 0 then l else l + 2) else (if c = 1 then l else l + 1)
theorem implN_near (l c : Int) : l ≤ implN l c ∧ implN l c ≤ l + 2 := by
  unfold implN
  split
  · split
    · omega
    · split <;> omega
  · split <;> omega

def implV (l c : Int) : Int := if implF l c = 0 then implN l c else 0
theorem implF_range {l c : Int} (h : ¬ (0 ≤ l ∧ l ≤ 126)) : implF l c = 3 ∧ implV l c = 0 := by
  have e : implF l c = 3 := by unfold implF; rw [if_neg h]
  exact ⟨e, by unfold implV; rw [if_neg (by omega)]⟩
theorem implF_form {l c : Int} (h : 0 ≤ l ∧ l ≤ 126) (hc : sideC c = -1) : implF l c = 1 ∧ implV l c = 0 := by
  have e : implF l c = 1 := by unfold implF; rw [if_pos h, if_pos hc]
  exact ⟨e, by unfold implV; rw [if_neg (by omega)]⟩
theorem implF_none {l c : Int} (h : 0 ≤ l ∧ l ≤ 126) (hc : ¬ sideC c = -1) : implF l c = 0 ∧ implV l c = implN l c := by
  have e : implF l c = 0 := by unfold implF; rw [if_pos h, if_neg hc]
  exact ⟨e, by unfold implV; rw [if_pos e]⟩
theorem sideC_of (c : Int) : sideC c = -1 ∨ sideC c = 0 ∨ sideC c = 1 := by
  unfold sideC
  split
  · simp
  · split <;> simp
/-- a level's rise, by its way and the class -/
def riseN (way c : Int) : Int := if c = way then 0 else if way = 0 ∧ c ≠ 1 then 2 else 1
theorem implN_rise (l c : Int) : implN l c = l + riseN (sideL l) c := by
  unfold implN riseN sideL
  by_cases hl : l % 2 = 0
  · rw [if_pos hl, if_pos hl]
    by_cases h1 : c = 1
    · subst h1; simp
    · by_cases h0 : c = 0
      · subst h0; simp
      · rw [if_neg h1, if_neg h0, if_neg h0, if_pos ⟨rfl, h1⟩]
  · rw [if_neg hl, if_neg hl]
    by_cases h1 : c = 1
    · subst h1; simp
    · rw [if_neg h1, if_neg h1, if_neg (by omega)]

theorem wf_small8 {n : Int} (h : -1000000 ≤ n) (h2 : n ≤ 1000000) : (Lit.int .i64 n).wf = true := by
  have h1 : IntKind.i64.min = -9223372036854775808 := rfl
  have h2 : IntKind.i64.max = 9223372036854775807 := rfl
  simp only [Lit.wf, Bool.and_eq_true, decide_eq_true_eq, h1, h2]
  omega
end Go.Proofs.YtcfnhjpmihngdaaGreat
