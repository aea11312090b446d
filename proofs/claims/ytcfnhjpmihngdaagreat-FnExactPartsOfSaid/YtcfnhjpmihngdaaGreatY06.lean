/- A slice of slices beside the slice that is put behind next. No program is named here. -/
import Derived.Test.YtcfnhjpmihngdaaGreatY02
import Derived.Test.YtcfnhjpmihngdaaGreatY05
import Derived.Test.YtcfnhjpmihngdaaGreatY01
import Derived.Great.BuildSlice
namespace Go.Proofs.YtcfnhjpmihngdaaGreat
open Go.RowKit

def marksSS : Int → List (List Int) → List (List Int)
  | _, [] => []
  | k, zs :: r => marks k zs.length :: marksSS (k + zs.length) r
theorem marksSS_length : ∀ (k : Int) (zss : List (List Int)), (marksSS k zss).length = zss.length
  | _, [] => rfl
  | k, zs :: r => by simp [marksSS, marksSS_length]
theorem nthL_zero (zs : List Int) (r : List (List Int)) : nthL (zs :: r) 0 = zs := rfl
theorem nthL_succ (zs : List Int) (r : List (List Int)) (j : Nat) : nthL (zs :: r) (j + 1) = nthL r j := by simp [nthL]
theorem total_cons (zs : List Int) (r : List (List Int)) : total (zs :: r) = zs.length + total r := by simp [total]
theorem marksSS_nth : ∀ (k : Int) (zss : List (List Int)) (j : Nat), j < zss.length → nthL (marksSS k zss) j = marks (k + (total (zss.take j) : Int)) (nthL zss j).length
  | _, [], _, h => by simp at h
  | k, zs :: r, 0, _ => by simp [marksSS, nthL_zero, total]
  | k, zs :: r, j + 1, h => by
    rw [marksSS, nthL_succ, nthL_succ, marksSS_nth (k + zs.length) r j (by simpa using h), List.take_succ_cons, total_cons]
    congr 1
    omega
theorem total_take_step (zss : List (List Int)) (j : Nat) (h : j < zss.length) : total (zss.take (j + 1)) = total (zss.take j) + (nthL zss j).length := by
  rw [List.take_succ_eq_append_getElem h, total_app, total_one]
  simp [nthL, List.getElem?_eq_getElem h]
theorem total_take_le : ∀ (zss : List (List Int)) (j : Nat), total (zss.take j) ≤ total zss
  | [], j => by simp
  | zs :: r, 0 => by simp [total]
  | zs :: r, j + 1 => by rw [List.take_succ_cons, total_cons, total_cons]; have := total_take_le r j; omega
theorem total_nth_le (zss : List (List Int)) (j : Nat) (h : j < zss.length) : total (zss.take j) + (nthL zss j).length ≤ total zss := by
  rw [← total_take_step zss j h]; exact total_take_le _ _
/-- the first j of a, then those of b -/
def mixL (a b : List (List Int)) (j : Nat) : List (List Int) := a.take j ++ b.drop j
theorem mixL_length (a b : List (List Int)) (j : Nat) (h : a.length = b.length) : (mixL a b j).length = b.length := by simp [mixL, h]; omega
theorem mixL_nth (a b : List (List Int)) (j : Nat) (h : a.length = b.length) (hj : j < b.length) : nthL (mixL a b j) j = nthL b j := by
  unfold nthL mixL
  rw [List.getElem?_append_right (by simp; omega), List.getElem?_drop, List.length_take, Nat.min_eq_left (by omega)]
  congr 2
  omega
theorem mixL_step (a b : List (List Int)) (j : Nat) (h : a.length = b.length) (hj : j < b.length) : (mixL a b j).set j (nthL a j) = mixL a b (j + 1) := by
  have e : a.take (j + 1) = a.take j ++ [nthL a j] := by
    rw [List.take_succ_eq_append_getElem (by omega)]; simp [nthL, List.getElem?_eq_getElem (show j < a.length by omega)]
  unfold mixL
  rw [List.set_append_right _ _ (by simp; omega), List.length_take, Nat.min_eq_left (by omega), Nat.sub_self, List.drop_eq_getElem_cons hj, List.set_cons_zero, e]
  simp
theorem mixL_zero (a b : List (List Int)) : mixL a b 0 = b := by simp [mixL]
theorem mixL_all (a b : List (List Int)) (j : Nat) (h : a.length = b.length) (hj : b.length ≤ j) : mixL a b j = a := by
  unfold mixL; rw [List.drop_of_length_le hj, List.take_of_length_le (by omega), List.append_nil]



end Go.Proofs.YtcfnhjpmihngdaaGreat

namespace Go.Proofs.YtcfnhjpmihngdaaGreat
open Go.RowKit

theorem cells_one {u : Value} (h1 : u.oneCell' = true) : u.cells = #[u] := by cases u <;> first | rfl | cases h1
theorem run_put {P : Program} (w : World) (ty : TypeId) (p : Addr) (u old : Value) (i : TypeInfo) (hi : P.info? ty = some i) (hs : i.size = 1) (h1 : u.oneCell' = true) (hc : w.cell? p = some old) (hf : w.frozen? p = false) :
    (Instr.storeAt ty (.pointer (some p)) u).run P w = .ok () (w.setCell p u) := by
  have hst := run_store P w p u .plain (by cases u <;> first | rfl | cases h1)
  have e0 : p.add 0 = p := by unfold Addr.add; split <;> simp_all
  simp [Instr.storeAt, Instr.sureAddr, storeVar, sizeOf, typeInfo, hi, hs, cells_one h1, storeCells, e0, hst, hc, hf]
theorem wpList_put {P : Program} {w : World} {ops : Array Oper} {rest : List Oper} {o : Oper} {a : Act} {Q : Exit → Act → World → Prop} (hgd : o.guard = none) (ty : TypeId) (x y : Operand) (ho : o.op = .store ty x y)
    (i : TypeInfo) (hi : P.info? ty = some i) (hs : i.size = 1) {base n cap g : Nat} {e : TypeId} {xs : List Value} (j : Nat) (u : Value)
    (hx : a.eval x = .pointer (some ⟨g, j, none⟩)) (hy : a.eval y = u) (h1 : u.oneCell' = true) (hown : w.ownsRow base e 1 (.slice (some ⟨g, 0, none⟩) n cap) n xs) (hj : j < n)
    (h : ∀ w', w'.ownsRow base e 1 (.slice (some ⟨g, 0, none⟩) n cap) n (xs.set j u) → w.grownBy w' (some g) → wpList P ops Q rest (a.put o.dst undef) w') : wpList P ops Q (o :: rest) a w := by
  have st := hown.stored j u
  have hl : xs.length = n := by have := hown.1; omega
  have hrun := run_put (P := P) w ty ⟨g, j, none⟩ u (xs[j]'(by omega)) i hi hs h1 (by rw [hown.cellAt j (by omega)]; exact List.getElem?_eq_getElem _) (hown.frozenAt j)
  refine wpList_plain hgd fun K hK => ?_
  unfold Oper.wp
  simp [execOp, ho, hx, hy, hrun, Result.andThen]
  exact hK _ _ (h _ st.1 st.2)
theorem nums_set (kd : IntKind) (ys : List Int) (j : Nat) (z : Int) : (nums kd ys).set j (.int kd z) = nums kd (ys.set j z) := by simp [nums]
/-- an owned row of numbers after a store -/
theorem own_set {w : World} {base n : Nat} {e : TypeId} {v : Value} {kd : IntKind} {ys : List Int} {j : Nat} {z : Int} (h : w.ownsRow base e 1 v n ((nums kd ys).set j (.int kd z))) : w.ownsRow base e 1 v n (nums kd (ys.set j z)) := by
  rw [← nums_set]; exact h
theorem own_cell {w : World} {base n cap g : Nat} {e : TypeId} {kd : IntKind} {ys : List Int} (h : w.ownsRow base e 1 (.slice (some ⟨g, 0, none⟩) n cap) n (nums kd ys)) (k : Nat) (hk : k < n) : w.cell? ⟨g, k, none⟩ = some (.int kd (nth ys k)) := by
  have hl : ys.length = n := by have := h.1; simpa [nums] using this
  rw [h.cellAt k (by omega)]
  exact nums_get kd ys k (by omega)
/-- an owned row that is not empty lies somewhere -/
theorem own_addr {w : World} {base n : Nat} {e : TypeId} {v : Value} {xs : List Value} (h : w.ownsRow base e 1 v n xs) (hn : 0 < n) : ∃ g c, v = .slice (some ⟨g, 0, none⟩) n c ∧ base ≤ g := by
  rcases h.2 with ⟨_, h0⟩ | ⟨g, cap, _, h1, h2, _⟩
  · omega
  · exact ⟨g, cap, h1, h2⟩
theorem own_apart {w : World} {base n size b : Nat} {e : TypeId} {v : Value} {xs : List Value} (h : w.ownsRow base e size v n xs) (hb : b < base) : v.ownBlock = none ∨ v.ownBlock ≠ some b := by
  by_cases e : v.ownBlock = none
  · exact .inl e
  · exact .inr fun e2 => by have := (h.lt _ e2).1; omega
end Go.Proofs.YtcfnhjpmihngdaaGreat

namespace Go.Proofs.YtcfnhjpmihngdaaGreat
open Go.RowKit

/-- vO holds paras, vN now, all the call's own, nothing shared -/
structure Two (w : World) (lo hi : Nat) (tt t : TypeId) (vO vN : Value) (paras : List (List Int)) (now : List Int) (us : List Value) : Prop where
  rows : OwnC w lo hi tt 1 vO paras.length us (contsL t .i64 paras)
  one : Own w lo hi t .i64 vN now
  each : ∀ (i : Nat) (x : Value), us[i]? = some x → x.ownBlock = none ∨ x.ownBlock ≠ vN.ownBlock
  row : vN.ownBlock = none ∨ vN.ownBlock ≠ vO.ownBlock
section
variable {w w' : World} {lo hi : Nat} {tt t : TypeId} {vO vN : Value} {paras : List (List Int)} {now : List Int} {us : List Value}
theorem Two.keep (h : Two w lo hi tt t vO vN paras now us) (hk : ∀ k, k < w.heap.size → lo ≤ k → k < hi → w'.heap[k]? = w.heap[k]?) : Two w' lo hi tt t vO vN paras now us := ⟨h.rows.keep hk, h.one.keep hk, h.each, h.row⟩
theorem Two.alloc (h : Two w lo hi tt t vO vN paras now us) (o : Obj) : Two (w.alloc o) lo hi tt t vO vN paras now us := h.keep fun k hk _ _ => Below.heap_alloc w o k hk
theorem Two.below {B : Nat} (h : Two w lo hi tt t vO vN paras now us) (hb : Below B w w') (hB : hi ≤ B) : Two w' lo hi tt t vO vN paras now us := h.keep fun k _ _ hk => hb.block k (Nat.lt_of_lt_of_le hk hB)
theorem Two.set (h : Two w lo hi tt t vO vN paras now us) (p : Addr) (u : Value) (hp : p.block < lo ∨ hi ≤ p.block) : Two (w.setCell p u) lo hi tt t vO vN paras now us := h.keep fun k _ h1 h2 => heap_setCell_other w p k u (by omega)
theorem Two.more {lo' hi' : Nat} (h : Two w lo hi tt t vO vN paras now us) (h1 : lo' ≤ lo) (h2 : hi ≤ hi') : Two w lo' hi' tt t vO vN paras now us := ⟨h.rows.more h1 h2, h.one.more h1 h2, h.each, h.row⟩
/-- another number behind the one at hand -/
theorem Two.add (h : Two w lo hi tt t vO vN paras now us) (hhi : hi ≤ w.heap.size) {vN' : Value} {c : Int} (hrow : w'.ownsRow lo t 1 vN' (now.length + 1) (nums .i64 now ++ [.int .i64 c])) (hg : w.grownBy w' vN.ownBlock)
    (hv : vN'.ownBlock = vN.ownBlock ∨ vN'.ownBlock = some w.heap.size) : Two w' lo w'.heap.size tt t vO vN' paras (now ++ [c]) us := by
  have hsz := hg.size
  refine ⟨(h.rows.grown hg (own_ne_symm h.row) h.each).more (Nat.le_refl _) (by omega), Own.mk_ (n := now.length + 1) (by simpa [nums] using hrow) (by simp), fun i x hx => ?_, ?_⟩
  · rcases hv with e | e
    · rw [e]; exact h.each i x hx
    · rw [e]
      by_cases hn : x.ownBlock = none
      · exact .inl hn
      · refine .inr fun e2 => ?_
        have := h.rows.lts i x _ hx e2
        omega
  · rcases hv with e | e
    · rw [e]; exact h.row
    · rw [e]
      refine .inr fun e2 => ?_
      have := h.rows.vlt _ e2.symm
      omega
/-- the one at hand put behind the others -/
theorem Two.push (h : Two w lo hi tt t vO vN paras now us) (hhi : hi ≤ w.heap.size) {vO' : Value} (hrow : w'.ownsRow lo tt 1 vO' (paras.length + 1) (us ++ [vN])) (hg : w.grownBy w' vO.ownBlock)
    (hv : vO'.ownBlock = vO.ownBlock ∨ vO'.ownBlock = some w.heap.size) : OwnC w' lo w'.heap.size tt 1 vO' (paras ++ [now]).length (us ++ [vN]) (contsL t .i64 (paras ++ [now])) := by
  have hl := h.rows.row.1
  rw [Nat.mul_one] at hl
  have k0 : ∀ (j : Nat) (y : Value), [vN][j]? = some y → j = 0 ∧ y = vN := by
    intro j y hy
    have hj : j = 0 := by have := (List.getElem?_eq_some_iff.1 hy).1; simp at this; exact this
    subst hj
    simp at hy
    exact ⟨rfl, hy.symm⟩
  have := h.rows.push (cn := contsL t .i64 [now]) hrow hg hv hhi
    (fun k c hc => by
      have hk : k = 0 := by
        apply Classical.byContradiction; intro hn
        rw [contsL_none _ _ _ _ (by simp; omega)] at hc; cases hc
      subst hk
      rw [contsL_get _ _ _ _ (by simp)] at hc
      injection hc with hc
      subst hc
      exact ⟨vN, rfl, h.one⟩)
    (fun k x hx hc => by
      obtain ⟨rfl, rfl⟩ := k0 k x hx
      rw [contsL_get _ _ _ _ (by simp)] at hc; cases hc)
    (fun i j x y hij hx hy => by
      obtain ⟨rfl, rfl⟩ := k0 j y hy
      omega)
    (fun i j x y hx hy => by
      obtain ⟨rfl, rfl⟩ := k0 j y hy
      exact h.each i x hx)
    (fun k x hx => by
      obtain ⟨rfl, rfl⟩ := k0 k x hx
      exact h.row)
  rw [contsL_app t .i64 paras now us.length hl] at this
  rw [List.length_append]
  exact this
/-- nothing at hand -/
theorem Two.nil (h : OwnC w lo hi tt 1 vO paras.length us (contsL t .i64 paras)) : Two w lo hi tt t vO (.slice none 0 0) paras [] us :=
  ⟨h, Own.nil _ _ _ _ _, fun i x hx => by
    by_cases hn : x.ownBlock = none
    · exact .inl hn
    · exact .inr hn, .inl rfl⟩
/-- an empty slice at hand that lies in a new block -/
theorem Two.fresh (h : OwnC w lo hi tt 1 vO paras.length us (contsL t .i64 paras)) (hlo : lo ≤ w.heap.size) (hhi : hi ≤ w.heap.size) : Two (w.alloc (.cells #[] t)) lo (w.heap.size + 1) tt t vO (.slice (some ⟨w.heap.size, 0, none⟩) 0 0) paras [] us := by
  refine ⟨(h.alloc _).more (Nat.le_refl _) (by omega), ⟨own_more (World.ownsRow_lit w #[] 0 (Nat.le_refl _) (by unfold maxLen; omega) (by simp)) hlo, fun g hg => by simp [Value.ownBlock] at hg; omega⟩, fun i x hx => ?_, .inr fun e => ?_⟩
  · by_cases hn : x.ownBlock = none
    · exact .inl hn
    · refine .inr fun e2 => ?_
      have := h.lts i x _ hx e2
      simp at this
  · have := h.vlt _ e.symm
    simp at this
theorem Two.out (h : Two w lo hi tt t vO vN paras now us) : OwnSS w lo hi tt t .i64 vO paras := ⟨us, h.rows⟩
end
end Go.Proofs.YtcfnhjpmihngdaaGreat
