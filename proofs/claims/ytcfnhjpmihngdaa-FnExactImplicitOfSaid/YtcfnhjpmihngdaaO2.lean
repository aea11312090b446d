/- A store into an owned row as a law whose world is a variable. No program is named here. -/
import Derived.Test.YtcfnhjpmihngdaaB0
import Derived.Great.BuildSlice
namespace Go.Proofs.Ytcfnhjpmihngdaa
open Go.RowKit

theorem cells_one {u : Value} (h1 : u.oneCell' = true) : u.cells = #[u] := by cases u <;> first | rfl | cases h1
theorem run_put {P : Program} (w : World) (ty : TypeId) (p : Addr) (u old : Value) (i : TypeInfo) (hi : P.info? ty = some i) (hs : i.size = 1) (h1 : u.oneCell' = true) (hc : w.cell? p = some old) (hf : w.frozen? p = false) :
    (Instr.storeAt ty (.pointer (some p)) u).run P w = .ok () (w.setCell p u) := by
  have hst := run_store P w p u .plain (by cases u <;> first | rfl | cases h1)
  have e0 : p.add 0 = p := by unfold Addr.add; split <;> simp_all
  simp [Instr.storeAt, Instr.sureAddr, storeVar, sizeOf, typeInfo, hi, hs, cells_one h1, storeCells, e0, hst, hc, hf]
theorem wpList_put {P : Program} {w : World} {ops : Array Oper} {rest : List Oper} {o : Oper} {a : Act} {Q : Exit → Act → World → Prop} (hgd : o.guard = none) (ty : TypeId) (x y : Operand) (ho : o.op = .store ty x y)
    (i : TypeInfo) (hi : P.info? ty = some i) (hs : i.size = 1) {base n cap g : Nat} {e : TypeId} {xs : List Value} (j : Nat) (u : Value)
    (hx : a.eval x = .pointer (some ⟨g, j, none⟩)) (hy : a.eval y = u) (h1 : u.oneCell' = true) (hown : w.ownsRow base e 1 (.slice (some ⟨g, 0, none⟩) n cap) n xs) (hj : j < n)
    (h : ∀ w', w'.ownsRow base e 1 (.slice (some ⟨g, 0, none⟩) n cap) n (xs.set j u) → w.grownBy w' (some g) → wpList P ops Q rest (a.put o.dst undef) w') : wpList P ops Q (o :: rest) a w := by
  have st := hown.stored j u
  have hl : xs.length = n := by have := hown.1; omega
  have hrun := run_put (P := P) w ty ⟨g, j, none⟩ u (xs[j]'(by omega)) i hi hs h1 (by rw [hown.cellAt j (by omega)]; exact List.getElem?_eq_getElem _) (hown.frozenAt j)
  refine wpList_plain hgd fun K hK => ?_
  unfold Oper.wp
  simp [execOp, ho, hx, hy, hrun, Result.andThen]
  exact hK _ _ (h _ st.1 st.2)
theorem nums_set (kd : IntKind) (ys : List Int) (j : Nat) (z : Int) : (nums kd ys).set j (.int kd z) = nums kd (ys.set j z) := by simp [nums]
/-- an owned row of numbers after a store -/
theorem own_set {w : World} {base n : Nat} {e : TypeId} {v : Value} {kd : IntKind} {ys : List Int} {j : Nat} {z : Int} (h : w.ownsRow base e 1 v n ((nums kd ys).set j (.int kd z))) : w.ownsRow base e 1 v n (nums kd (ys.set j z)) := by
  rw [← nums_set]; exact h
theorem own_cell {w : World} {base n cap g : Nat} {e : TypeId} {kd : IntKind} {ys : List Int} (h : w.ownsRow base e 1 (.slice (some ⟨g, 0, none⟩) n cap) n (nums kd ys)) (k : Nat) (hk : k < n) : w.cell? ⟨g, k, none⟩ = some (.int kd (nth ys k)) := by
  have hl : ys.length = n := by have := h.1; simpa [nums] using this
  rw [h.cellAt k (by omega)]
  exact nums_get kd ys k (by omega)
/-- an owned row that is not empty lies somewhere -/
theorem own_addr {w : World} {base n : Nat} {e : TypeId} {v : Value} {xs : List Value} (h : w.ownsRow base e 1 v n xs) (hn : 0 < n) : ∃ g c, v = .slice (some ⟨g, 0, none⟩) n c ∧ base ≤ g := by
  rcases h.2 with ⟨_, h0⟩ | ⟨g, cap, _, h1, h2, _⟩
  · omega
  · exact ⟨g, cap, h1, h2⟩
theorem own_apart {w : World} {base n size b : Nat} {e : TypeId} {v : Value} {xs : List Value} (h : w.ownsRow base e size v n xs) (hb : b < base) : v.ownBlock = none ∨ v.ownBlock ≠ some b := by
  by_cases e : v.ownBlock = none
  · exact .inl e
  · exact .inr fun e2 => by have := (h.lt _ e2).1; omega
end Go.Proofs.Ytcfnhjpmihngdaa
