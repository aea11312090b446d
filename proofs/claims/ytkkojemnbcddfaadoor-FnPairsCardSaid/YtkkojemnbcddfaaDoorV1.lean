/- What a row's list of the program's own table of pairs gives: the table lies in the world; and a world for the witness. -/
import Derived.Test.YtkkojemnbcddfaaDoorC6
import Derived.Test.YtkkojemnbcddfaaDoorB1
import Derived.Test.YtkkojemnbcddfaaDoorCards
import Derived.Test.YtkkojemnbcddfaaDoorTie
import Derived.Deep.DeepHandedRow
import Derived.Lib.LaidU8
import Derived.Lib.LaidTab
namespace Go.Proofs.YtkkojemnbcddfaaDoor
open Go.RowKit Go.ChangeShapes Go.WideShapes Go.ChangeAt

theorem rows_flat {α : Type} (m : Nat) : ∀ (rows : List (List α)) (cs : List α), cs.length = rows.length * m → (∀ i r, rows[i]? = some r → (cs.drop (i * m)).take m = r) → cs = rows.flatten
  | [], cs, hl, _ => by simp at hl; simp [hl]
  | r :: rs, cs, hl, h => by
    have h0 := h 0 r rfl
    simp only [Nat.zero_mul, List.drop_zero] at h0
    have ih := rows_flat m rs (cs.drop m) (by rw [List.length_drop, hl, List.length_cons, Nat.add_mul]; omega) (fun i q hq => by
      have := h (i + 1) q (by simpa using hq)
      rw [List.drop_drop]
      rwa [show m + i * m = (i + 1) * m by rw [Nat.add_mul]; omega])
    rw [List.flatten_cons, ← ih, ← h0, List.take_append_drop]

theorem pairsNamed : Tryd.prog.globalNamed "loop.example/g00739/impl.pairs" = some 0 := by kernel_rfl
theorem pairsType : (Tryd.prog.globals[(0 : Nat)]?).map (·.type) = some 103 := by kernel_rfl
theorem cellsInt : Tryd.prog.cellsOf 2 = 1 := by kernel_rfl
theorem cellsPair : Tryd.prog.cellsOf 94 = 3 := by kernel_rfl
theorem cellsPairs : Tryd.prog.cellsOf 103 = 18 := by kernel_rfl
def pairRow (i : Nat) : List Int := let p := pairL.getD i (0, 0, 0); [p.1, p.2.1, p.2.2]
theorem pairsDatum : (Rows.laid_loop_example_g00739_impl_pairs : DataW Unit) = .agg ((List.range 6).map fun i => .agg ((pairRow i).map fun z => .lit (.int .i64 z))) := by kernel_rfl

theorem pairs_of {l : List (String × DataW Unit)} {W : World} (h : laidMet Tryd.prog l W) (hm : ("loop.example/g00739/impl.pairs", Rows.laid_loop_example_g00739_impl_pairs) ∈ l) : Pairs W := by
  obtain ⟨g, t, cs, fuel, p, hg, hty, hvar, hd⟩ := Lib.laidMet.reads h hm
  obtain rfl := Option.some.inj (pairsNamed.symm.trans hg)
  obtain rfl := Option.some.inj (pairsType.symm.trans hty)
  rw [pairsDatum] at hd
  have hlen : cs.toList.length = 6 * 3 := by
    cases fuel with
    | zero => simp [DataW.trod] at hd
    | succ fuel =>
      simp only [DataW.trod, Tryd.underlying103, cellsPairs] at hd
      split at hd
      · assumption
      · cases hd
  have key : cs.toList = ((List.range 6).map fun i => (pairRow i).map fun z => Value.int .i64 z).flatten := by
    refine rows_flat 3 _ _ (by simpa using hlen) ?_
    intro i r hr
    obtain ⟨hi, rfl⟩ : i < 6 ∧ (pairRow i).map (fun z => Value.int .i64 z) = r := by
      by_cases hi : i < 6
      · rw [List.getElem?_map, List.getElem?_range hi] at hr
        exact ⟨hi, by simpa using hr⟩
      · rw [List.getElem?_eq_none (by simp; omega)] at hr; cases hr
    obtain ⟨fuel', d, q, hdi, he⟩ := Lib.array_elem Tryd.underlying103 hd i hi
    simp only [List.getElem?_map, List.getElem?_range hi, Option.map_some, Option.some.injEq] at hdi
    subst hdi
    rw [cellsPair] at he
    exact Lib.ints_of_struct Tryd.underlying94 (fun j f hj => by
      match j, hj with
      | 0, hj => simp at hj; subst hj; exact ⟨Tryd.underlying2, rfl, cellsInt⟩
      | 1, hj => simp at hj; subst hj; exact ⟨Tryd.underlying2, rfl, cellsInt⟩
      | 2, hj => simp at hj; subst hj; exact ⟨Tryd.underlying2, rfl, cellsInt⟩
      | j + 3, hj => simp at hj) (by rw [cellsPair]; rfl) he
  have hcs : cs = pairCells := by
    apply Array.toList_inj.1
    rw [key]
    rfl
  unfold World.var? at hvar
  rw [pairsNamed] at hvar
  simp only [Option.bind_some] at hvar
  cases hh : W.heap[(0 : Nat)]? with
  | none => rw [hh] at hvar; cases hvar
  | some o =>
    rw [hh] at hvar
    cases o with
    | cells c t fr =>
      simp only [Option.some.injEq] at hvar
      rw [hvar, hcs] at hh
      exact ⟨t, fr, hh⟩
    | _ => cases hvar

/-- a block filled anew -/
def refillV (cs : Array Value) : Obj → Obj
  | .cells _ t frozen => .cells cs t frozen
  | o => o
/-- A world for the witness: the settled one, the table of pairs holding what it is laid with. -/
noncomputable def pairsWorld (os : Os) : World :=
  { World.holding Tryd.prog os ⟨#[], #[], []⟩ with heap := (World.holding Tryd.prog os ⟨#[], #[], []⟩).heap.modify 0 (refillV pairCells) }
end Go.Proofs.YtkkojemnbcddfaaDoor
