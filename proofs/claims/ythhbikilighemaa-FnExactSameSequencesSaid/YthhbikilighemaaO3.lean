/- A slice of slices beside the slice that is put behind next. No program is named here. -/
import Derived.Test.YthhbikilighemaaO1
namespace Go.Proofs.Ythhbikilighemaa
open Go.RowKit

/-- vO holds paras, vN now, all the call's own, nothing shared -/
structure Two (w : World) (lo hi : Nat) (tt t : TypeId) (vO vN : Value) (paras : List (List Int)) (now : List Int) (us : List Value) : Prop where
  rows : OwnC w lo hi tt 1 vO paras.length us (contsL t .i64 paras)
  one : Own w lo hi t .i64 vN now
  each : ∀ (i : Nat) (x : Value), us[i]? = some x → x.ownBlock = none ∨ x.ownBlock ≠ vN.ownBlock
  row : vN.ownBlock = none ∨ vN.ownBlock ≠ vO.ownBlock
section
variable {w w' : World} {lo hi : Nat} {tt t : TypeId} {vO vN : Value} {paras : List (List Int)} {now : List Int} {us : List Value}
theorem Two.keep (h : Two w lo hi tt t vO vN paras now us) (hk : ∀ k, k < w.heap.size → lo ≤ k → k < hi → w'.heap[k]? = w.heap[k]?) : Two w' lo hi tt t vO vN paras now us := ⟨h.rows.keep hk, h.one.keep hk, h.each, h.row⟩
theorem Two.alloc (h : Two w lo hi tt t vO vN paras now us) (o : Obj) : Two (w.alloc o) lo hi tt t vO vN paras now us := h.keep fun k hk _ _ => Below.heap_alloc w o k hk
theorem Two.below {B : Nat} (h : Two w lo hi tt t vO vN paras now us) (hb : Below B w w') (hB : hi ≤ B) : Two w' lo hi tt t vO vN paras now us := h.keep fun k _ _ hk => hb.block k (Nat.lt_of_lt_of_le hk hB)
theorem Two.set (h : Two w lo hi tt t vO vN paras now us) (p : Addr) (u : Value) (hp : p.block < lo ∨ hi ≤ p.block) : Two (w.setCell p u) lo hi tt t vO vN paras now us := h.keep fun k _ h1 h2 => heap_setCell_other w p k u (by omega)
theorem Two.more {lo' hi' : Nat} (h : Two w lo hi tt t vO vN paras now us) (h1 : lo' ≤ lo) (h2 : hi ≤ hi') : Two w lo' hi' tt t vO vN paras now us := ⟨h.rows.more h1 h2, h.one.more h1 h2, h.each, h.row⟩
/-- another number behind the one at hand -/
theorem Two.add (h : Two w lo hi tt t vO vN paras now us) (hhi : hi ≤ w.heap.size) {vN' : Value} {c : Int} (hrow : w'.ownsRow lo t 1 vN' (now.length + 1) (nums .i64 now ++ [.int .i64 c])) (hg : w.grownBy w' vN.ownBlock)
    (hv : vN'.ownBlock = vN.ownBlock ∨ vN'.ownBlock = some w.heap.size) : Two w' lo w'.heap.size tt t vO vN' paras (now ++ [c]) us := by
  have hsz := hg.size
  refine ⟨(h.rows.grown hg (own_ne_symm h.row) h.each).more (Nat.le_refl _) (by omega), Own.mk_ (n := now.length + 1) (by simpa [nums] using hrow) (by simp), fun i x hx => ?_, ?_⟩
  · rcases hv with e | e
    · rw [e]; exact h.each i x hx
    · rw [e]
      by_cases hn : x.ownBlock = none
      · exact .inl hn
      · refine .inr fun e2 => ?_
        have := h.rows.lts i x _ hx e2
        omega
  · rcases hv with e | e
    · rw [e]; exact h.row
    · rw [e]
      refine .inr fun e2 => ?_
      have := h.rows.vlt _ e2.symm
      omega
/-- the one at hand put behind the others -/
theorem Two.push (h : Two w lo hi tt t vO vN paras now us) (hhi : hi ≤ w.heap.size) {vO' : Value} (hrow : w'.ownsRow lo tt 1 vO' (paras.length + 1) (us ++ [vN])) (hg : w.grownBy w' vO.ownBlock)
    (hv : vO'.ownBlock = vO.ownBlock ∨ vO'.ownBlock = some w.heap.size) : OwnC w' lo w'.heap.size tt 1 vO' (paras ++ [now]).length (us ++ [vN]) (contsL t .i64 (paras ++ [now])) := by
  have hl := h.rows.row.1
  rw [Nat.mul_one] at hl
  have k0 : ∀ (j : Nat) (y : Value), [vN][j]? = some y → j = 0 ∧ y = vN := by
    intro j y hy
    have hj : j = 0 := by have := (List.getElem?_eq_some_iff.1 hy).1; simp at this; exact this
    subst hj
    simp at hy
    exact ⟨rfl, hy.symm⟩
  have := h.rows.push (cn := contsL t .i64 [now]) hrow hg hv hhi
    (fun k c hc => by
      have hk : k = 0 := by
        apply Classical.byContradiction; intro hn
        rw [contsL_none _ _ _ _ (by simp; omega)] at hc; cases hc
      subst hk
      rw [contsL_get _ _ _ _ (by simp)] at hc
      injection hc with hc
      subst hc
      exact ⟨vN, rfl, h.one⟩)
    (fun k x hx hc => by
      obtain ⟨rfl, rfl⟩ := k0 k x hx
      rw [contsL_get _ _ _ _ (by simp)] at hc; cases hc)
    (fun i j x y hij hx hy => by
      obtain ⟨rfl, rfl⟩ := k0 j y hy
      omega)
    (fun i j x y hx hy => by
      obtain ⟨rfl, rfl⟩ := k0 j y hy
      exact h.each i x hx)
    (fun k x hx => by
      obtain ⟨rfl, rfl⟩ := k0 k x hx
      exact h.row)
  rw [contsL_app t .i64 paras now us.length hl] at this
  rw [List.length_append]
  exact this
/-- nothing at hand -/
theorem Two.nil (h : OwnC w lo hi tt 1 vO paras.length us (contsL t .i64 paras)) : Two w lo hi tt t vO (.slice none 0 0) paras [] us :=
  ⟨h, Own.nil _ _ _ _ _, fun i x hx => by
    by_cases hn : x.ownBlock = none
    · exact .inl hn
    · exact .inr hn, .inl rfl⟩
/-- an empty slice at hand that lies in a new block -/
theorem Two.fresh (h : OwnC w lo hi tt 1 vO paras.length us (contsL t .i64 paras)) (hlo : lo ≤ w.heap.size) (hhi : hi ≤ w.heap.size) : Two (w.alloc (.cells #[] t)) lo (w.heap.size + 1) tt t vO (.slice (some ⟨w.heap.size, 0, none⟩) 0 0) paras [] us := by
  refine ⟨(h.alloc _).more (Nat.le_refl _) (by omega), ⟨own_more (World.ownsRow_lit w #[] 0 (Nat.le_refl _) (by unfold maxLen; omega) (by simp)) hlo, fun g hg => by simp [Value.ownBlock] at hg; omega⟩, fun i x hx => ?_, .inr fun e => ?_⟩
  · by_cases hn : x.ownBlock = none
    · exact .inl hn
    · refine .inr fun e2 => ?_
      have := h.lts i x _ hx e2
      simp at this
  · have := h.vlt _ e.symm
    simp at this
theorem Two.out (h : Two w lo hi tt t vO vN paras now us) : OwnSS w lo hi tt t .i64 vO paras := ⟨us, h.rows⟩
end
end Go.Proofs.Ythhbikilighemaa
