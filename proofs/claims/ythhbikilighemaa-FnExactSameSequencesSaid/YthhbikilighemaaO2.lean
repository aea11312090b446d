/- A store into an owned row as a law whose world is a variable. No program is named here. -/
import Derived.Test.YthhbikilighemaaB0
import Derived.Great.BuildSlice
namespace Go.Proofs.Ythhbikilighemaa
open Go.RowKit

theorem cells_one {u : Value} (h1 : u.oneCell' = true) : u.cells = #[u] := by cases u <;> first | rfl | cases h1
theorem run_put {P : Program} (w : World) (ty : TypeId) (p : Addr) (u old : Value) (i : TypeInfo) (hi : P.info? ty = some i) (hs : i.size = 1) (h1 : u.oneCell' = true) (hc : w.cell? p = some old) (hf : w.frozen? p = false) :
    (Instr.storeAt ty (.pointer (some p)) u).run P w = .ok () (w.setCell p u) := by
  have hst := run_store P w p u .plain (by cases u <;> first | rfl | cases h1)
  have e0 : p.add 0 = p := by unfold Addr.add; split <;> simp_all
  simp [Instr.storeAt, Instr.sureAddr, storeVar, sizeOf, typeInfo, hi, hs, cells_one h1, storeCells, e0, hst, stored, hc, hf]
theorem wpList_put {P : Program} {w : World} {ops : Array Oper} {rest : List Oper} {o : Oper} {a : Act} {Q : Exit → Act → World → Prop} (hgd : o.guard = none) (ty : TypeId) (x y : Operand) (ho : o.op = .store ty x y)
    (i : TypeInfo) (hi : P.info? ty = some i) (hs : i.size = 1) {base n cap g : Nat} {e : TypeId} {xs : List Value} (j : Nat) (u : Value)
    (hx : a.eval x = .pointer (some ⟨g, j, none⟩)) (hy : a.eval y = u) (h1 : u.oneCell' = true) (hown : w.ownsRow base e 1 (.slice (some ⟨g, 0, none⟩) n cap) n xs) (hj : j < n)
    (h : ∀ w', w'.ownsRow base e 1 (.slice (some ⟨g, 0, none⟩) n cap) n (xs.set j u) → w.grownBy w' (some g) → wpList P ops Q rest (a.put o.dst undef) w') : wpList P ops Q (o :: rest) a w := by
  have st := hown.stored j u
  have hl : xs.length = n := by have := hown.1; omega
  have hrun := run_put (P := P) w ty ⟨g, j, none⟩ u (xs[j]'(by omega)) i hi hs h1 (by rw [hown.cellAt j (by omega)]; exact List.getElem?_eq_getElem _) (hown.frozenAt j)
  refine wpList_plain hgd fun K hK => ?_
  unfold Oper.wp
  simp [execOp, ho, hx, hy, hrun, Result.andThen]
  exact hK _ _ (h _ st.1 st.2)
end Go.Proofs.Ythhbikilighemaa
