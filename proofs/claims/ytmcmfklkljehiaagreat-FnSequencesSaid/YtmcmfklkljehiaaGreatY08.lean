/- A slice in a row of slices put in the place of the one that it is made of. No program is named here. -/
import Derived.Test.YtmcmfklkljehiaaGreatY06
namespace Go.Proofs.YtmcmfklkljehiaaGreat
open Go.RowKit

/-- vO holds paras, vN now, all the call's own, nothing shared -/
structure Two (w : World) (lo hi : Nat) (tt t : TypeId) (vO vN : Value) (paras : List (List Int)) (now : List Int) (us : List Value) : Prop where
  rows : OwnC w lo hi tt 1 vO paras.length us (contsL t .i64 paras)
  one : Own w lo hi t .i64 vN now
  each : ∀ (i : Nat) (x : Value), us[i]? = some x → x.ownBlock = none ∨ x.ownBlock ≠ vN.ownBlock
  row : vN.ownBlock = none ∨ vN.ownBlock ≠ vO.ownBlock
section
variable {w w' : World} {lo hi : Nat} {tt t : TypeId} {vO vN : Value} {paras : List (List Int)} {now : List Int} {us : List Value}
theorem Two.keep (h : Two w lo hi tt t vO vN paras now us) (hk : ∀ k, k < w.heap.size → lo ≤ k → k < hi → w'.heap[k]? = w.heap[k]?) : Two w' lo hi tt t vO vN paras now us := ⟨h.rows.keep hk, h.one.keep hk, h.each, h.row⟩
theorem Two.alloc (h : Two w lo hi tt t vO vN paras now us) (o : Obj) : Two (w.alloc o) lo hi tt t vO vN paras now us := h.keep fun k hk _ _ => Below.heap_alloc w o k hk
theorem Two.below {B : Nat} (h : Two w lo hi tt t vO vN paras now us) (hb : Below B w w') (hB : hi ≤ B) : Two w' lo hi tt t vO vN paras now us := h.keep fun k _ _ hk => hb.block k (Nat.lt_of_lt_of_le hk hB)
theorem Two.set (h : Two w lo hi tt t vO vN paras now us) (p : Addr) (u : Value) (hp : p.block < lo ∨ hi ≤ p.block) : Two (w.setCell p u) lo hi tt t vO vN paras now us := h.keep fun k _ h1 h2 => heap_setCell_other w p k u (by omega)
theorem Two.more {lo' hi' : Nat} (h : Two w lo hi tt t vO vN paras now us) (h1 : lo' ≤ lo) (h2 : hi ≤ hi') : Two w lo' hi' tt t vO vN paras now us := ⟨h.rows.more h1 h2, h.one.more h1 h2, h.each, h.row⟩
/-- another number behind the one at hand -/
theorem Two.add (h : Two w lo hi tt t vO vN paras now us) (hhi : hi ≤ w.heap.size) {vN' : Value} {c : Int} (hrow : w'.ownsRow lo t 1 vN' (now.length + 1) (nums .i64 now ++ [.int .i64 c])) (hg : w.grownBy w' vN.ownBlock)
    (hv : vN'.ownBlock = vN.ownBlock ∨ vN'.ownBlock = some w.heap.size) : Two w' lo w'.heap.size tt t vO vN' paras (now ++ [c]) us := by
  have hsz := hg.size
  refine ⟨(h.rows.grown hg (own_ne_symm h.row) h.each).more (Nat.le_refl _) (by omega), Own.mk_ (n := now.length + 1) (by simpa [nums] using hrow) (by simp), fun i x hx => ?_, ?_⟩
  · rcases hv with e | e
    · rw [e]; exact h.each i x hx
    · rw [e]
      by_cases hn : x.ownBlock = none
      · exact .inl hn
      · refine .inr fun e2 => ?_
        have := h.rows.lts i x _ hx e2
        omega
  · rcases hv with e | e
    · rw [e]; exact h.row
    · rw [e]
      refine .inr fun e2 => ?_
      have := h.rows.vlt _ e2.symm
      omega
/-- the one at hand put behind the others -/
theorem Two.push (h : Two w lo hi tt t vO vN paras now us) (hhi : hi ≤ w.heap.size) {vO' : Value} (hrow : w'.ownsRow lo tt 1 vO' (paras.length + 1) (us ++ [vN])) (hg : w.grownBy w' vO.ownBlock)
    (hv : vO'.ownBlock = vO.ownBlock ∨ vO'.ownBlock = some w.heap.size) : OwnC w' lo w'.heap.size tt 1 vO' (paras ++ [now]).length (us ++ [vN]) (contsL t .i64 (paras ++ [now])) := by
  have hl := h.rows.row.1
  rw [Nat.mul_one] at hl
  have k0 : ∀ (j : Nat) (y : Value), [vN][j]? = some y → j = 0 ∧ y = vN := by
    intro j y hy
    have hj : j = 0 := by have := (List.getElem?_eq_some_iff.1 hy).1; simp at this; exact this
    subst hj
    simp at hy
    exact ⟨rfl, hy.symm⟩
  have := h.rows.push (cn := contsL t .i64 [now]) hrow hg hv hhi
    (fun k c hc => by
      have hk : k = 0 := by
        apply Classical.byContradiction; intro hn
        rw [contsL_none _ _ _ _ (by simp; omega)] at hc; cases hc
      subst hk
      rw [contsL_get _ _ _ _ (by simp)] at hc
      injection hc with hc
      subst hc
      exact ⟨vN, rfl, h.one⟩)
    (fun k x hx hc => by
      obtain ⟨rfl, rfl⟩ := k0 k x hx
      rw [contsL_get _ _ _ _ (by simp)] at hc; cases hc)
    (fun i j x y hij hx hy => by
      obtain ⟨rfl, rfl⟩ := k0 j y hy
      omega)
    (fun i j x y hx hy => by
      obtain ⟨rfl, rfl⟩ := k0 j y hy
      exact h.each i x hx)
    (fun k x hx => by
      obtain ⟨rfl, rfl⟩ := k0 k x hx
      exact h.row)
  rw [contsL_app t .i64 paras now us.length hl] at this
  rw [List.length_append]
  exact this
/-- nothing at hand -/
theorem Two.nil (h : OwnC w lo hi tt 1 vO paras.length us (contsL t .i64 paras)) : Two w lo hi tt t vO (.slice none 0 0) paras [] us :=
  ⟨h, Own.nil _ _ _ _ _, fun i x hx => by
    by_cases hn : x.ownBlock = none
    · exact .inl hn
    · exact .inr hn, .inl rfl⟩
/-- an empty slice at hand that lies in a new block -/
theorem Two.fresh (h : OwnC w lo hi tt 1 vO paras.length us (contsL t .i64 paras)) (hlo : lo ≤ w.heap.size) (hhi : hi ≤ w.heap.size) : Two (w.alloc (.cells #[] t)) lo (w.heap.size + 1) tt t vO (.slice (some ⟨w.heap.size, 0, none⟩) 0 0) paras [] us := by
  refine ⟨(h.alloc _).more (Nat.le_refl _) (by omega), ⟨own_more (World.ownsRow_lit w #[] 0 (Nat.le_refl _) (by unfold maxLen; omega) (by simp)) hlo, fun g hg => by simp [Value.ownBlock] at hg; omega⟩, fun i x hx => ?_, .inr fun e => ?_⟩
  · by_cases hn : x.ownBlock = none
    · exact .inl hn
    · refine .inr fun e2 => ?_
      have := h.lts i x _ hx e2
      simp at this
  · have := h.vlt _ e.symm
    simp at this
theorem Two.out (h : Two w lo hi tt t vO vN paras now us) : OwnSS w lo hi tt t .i64 vO paras := ⟨us, h.rows⟩
end
end Go.Proofs.YtmcmfklkljehiaaGreat

namespace Go.Proofs.YtmcmfklkljehiaaGreat
open Go.RowKit

section
variable {w w1 w2 : World} {lo hi : Nat} {tt : TypeId} {size : Nat} {v : Value} {n : Nat} {us : List Value} {cs : Nat → Option Cont}
/-- the k-th slice has been written (and may lie in a new block), and what came of it stands in its place -/
theorem OwnC.swap (h : OwnC w lo hi tt size v n us cs) {k : Nat} {c : Cont} {u u' : Value} {ys : List Int} (hc : cs k = some c) (hu : us[k]? = some u) (hhi : hi ≤ w.heap.size)
    (ho : w1.ownsRow lo c.t 1 u' ys.length (nums c.kd ys)) (hg : w.grownBy w1 u.ownBlock) (ha : u'.ownBlock = u.ownBlock ∨ u'.ownBlock = some w.heap.size)
    (hrow : w2.ownsRow lo tt size v n (us.set k u')) (hg2 : w1.grownBy w2 v.ownBlock) :
    OwnC w2 lo w2.heap.size tt size v n (us.set k u') (fun j => if j = k then some { c with zs := ys } else cs j) := by
  have hk : k < us.length := (List.getElem?_eq_some_iff.1 hu).1
  have s1 := hg.size
  have s2 := hg2.size
  have offv : u'.ownBlock = none ∨ u'.ownBlock ≠ v.ownBlock := by
    rcases ha with e | e
    · rw [e]; exact h.off k u hu
    · rw [e]
      refine .inr fun e2 => ?_
      have := h.vlt _ e2.symm
      omega
  have apartu : ∀ (j : Nat) (x : Value), j ≠ k → us[j]? = some x → x.ownBlock = none ∨ x.ownBlock ≠ u'.ownBlock := by
    intro j x hj hx
    by_cases hn : x.ownBlock = none
    · exact .inl hn
    · rcases ha with e | e
      · rw [e]
        rcases Nat.lt_or_gt_of_ne hj with hlt | hgt
        · exact h.apart j k x u hlt hx hu
        · exact own_ne_symm (h.apart k j u x hgt hu hx)
      · rw [e]
        refine .inr fun e2 => ?_
        have := h.lts j x _ hx e2
        omega
  have get : ∀ (j : Nat) (x : Value), (us.set k u')[j]? = some x → (j = k ∧ x = u') ∨ (j ≠ k ∧ us[j]? = some x) := by
    intro j x hx
    by_cases e : j = k
    · subst e
      rw [List.getElem?_set_self hk] at hx
      injection hx with hx
      exact .inl ⟨rfl, hx.symm⟩
    · rw [List.getElem?_set_ne (by omega)] at hx
      exact .inr ⟨e, hx⟩
  refine ⟨hrow, fun g hgb => (hrow.lt g hgb).2, ?_, ?_, ?_, ?_⟩
  · intro j c' hj
    by_cases e : j = k
    · subst e
      rw [if_pos rfl] at hj
      injection hj with hj
      subst hj
      exact ⟨u', by rw [List.getElem?_set_self hk], ho.kept hg2 offv, fun g hgb => by have := (ho.lt g hgb).2; omega⟩
    · rw [if_neg e] at hj
      obtain ⟨x, h1, h2⟩ := h.each j c' hj
      have hx : x.ownBlock = none ∨ x.ownBlock ≠ u.ownBlock := by
        rcases Nat.lt_or_gt_of_ne e with hlt | hgt
        · exact h.apart j k x u hlt h1 hu
        · exact own_ne_symm (h.apart k j u x hgt hu h1)
      exact ⟨x, by rw [List.getElem?_set_ne (by omega)]; exact h1, (h2.1.kept hg hx).kept hg2 (h.off j x h1), fun g hgb => by have := h2.2 g hgb; omega⟩
  · intro j x hx hj
    by_cases e : j = k
    · rw [if_pos e] at hj; cases hj
    · rw [if_neg e] at hj
      rcases get j x hx with ⟨e2, _⟩ | ⟨_, h1⟩
      · exact absurd e2 e
      · exact h.bare j x h1 hj
  · intro i j x y hij hx hy
    rcases get i x hx with ⟨e1, rfl⟩ | ⟨e1, h1⟩
    · rcases get j y hy with ⟨e2, rfl⟩ | ⟨e2, h2⟩
      · omega
      · exact own_ne_symm (apartu j y e2 h2)
    · rcases get j y hy with ⟨e2, rfl⟩ | ⟨e2, h2⟩
      · exact apartu i x e1 h1
      · exact h.apart i j x y hij h1 h2
  · intro j x hx
    rcases get j x hx with ⟨_, rfl⟩ | ⟨_, h1⟩
    · exact offv
    · exact h.off j x h1
end
/-- the last one of a row of slices of numbers grows by one -/
theorem OwnC.last {w w1 w2 : World} {lo hi : Nat} {tt t : TypeId} {v u u' : Value} {D : List (List Int)} {N : List Int} {us : List Value} (h : OwnC w lo hi tt 1 v (D ++ [N]).length us (contsL t .i64 (D ++ [N]))) (hu : us[D.length]? = some u) (hhi : hi ≤ w.heap.size) {z : Int}
    (ho : w1.ownsRow lo t 1 u' (N.length + 1) (nums .i64 N ++ [.int .i64 z])) (hg : w.grownBy w1 u.ownBlock) (ha : u'.ownBlock = u.ownBlock ∨ u'.ownBlock = some w.heap.size)
    (hrow : w2.ownsRow lo tt 1 v (D ++ [N]).length (us.set D.length u')) (hg2 : w1.grownBy w2 v.ownBlock) :
    OwnC w2 lo w2.heap.size tt 1 v (D ++ [N ++ [z]]).length (us.set D.length u') (contsL t .i64 (D ++ [N ++ [z]])) := by
  have hk : D.length < (D ++ [N]).length := by simp
  have hN : nthL (D ++ [N]) D.length = N := by simp [nthL]
  have hc := contsL_get t .i64 (D ++ [N]) D.length hk
  have := h.swap (ys := N ++ [z]) hc hu hhi (by simpa [nums] using ho) hg ha hrow hg2
  rw [contsL_set t .i64 (D ++ [N]) D.length (N ++ [z]) hk] at this
  have e : (D ++ [N]).set D.length (N ++ [z]) = D ++ [N ++ [z]] := by simp
  rw [e] at this
  have el : (D ++ [N]).length = (D ++ [N ++ [z]]).length := by simp
  rw [← el]
  exact this
/-- the last one lies there -/
theorem OwnC.lastAt {w : World} {lo hi : Nat} {tt t : TypeId} {v : Value} {D : List (List Int)} {N : List Int} {us : List Value} (h : OwnC w lo hi tt 1 v (D ++ [N]).length us (contsL t .i64 (D ++ [N]))) :
    ∃ g c u, v = .slice (some ⟨g, 0, none⟩) (D.length + 1) c ∧ D.length + 1 ≤ c ∧ us[D.length]? = some u ∧ w.cell? ⟨g, D.length, none⟩ = some u ∧ w.ownsRow lo t 1 u N.length (nums .i64 N) ∧ lo ≤ g ∧ g < hi ∧ (u.ownBlock = none ∨ u.ownBlock ≠ some g) := by
  have hk : D.length < (D ++ [N]).length := by simp
  have hN : nthL (D ++ [N]) D.length = N := by simp [nthL]
  obtain ⟨u, h1, h2⟩ := h.each D.length _ (contsL_get t .i64 (D ++ [N]) D.length hk)
  rw [hN] at h2
  have hrow := h.row
  rcases hrow.2 with ⟨_, h0⟩ | ⟨g, cap, cur, hv, hb, hg, hn, hm, hs, htk⟩
  · omega
  · subst hv
    refine ⟨g, cap, u, by simp, by simpa using hn, h1, ?_, h2.1, hb, h.top g rfl, h.off _ u h1⟩
    rw [hrow.cellAt D.length (by omega)]; exact h1
end Go.Proofs.YtmcmfklkljehiaaGreat
