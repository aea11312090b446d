/- What a row's list of the library's two tables gives: the tables lie in the world; and a world for the witness. -/
import Derived.Test.YtmkpbfghnkmcgaaDoorT1
import Derived.Test.YtmkpbfghnkmcgaaDoorB1
import Derived.Test.YtmkpbfghnkmcgaaDoorCards
import Derived.Test.YtmkpbfghnkmcgaaDoorTie
import Derived.Deep.DeepHandedRow
import Derived.Lib.LaidTab
namespace Go.Proofs.YtmkpbfghnkmcgaaDoor
open Go.RowKit Go.ChangeShapes Go.WideShapes Go.ChangeAt

theorem firstNamed : Tryd.prog.globalNamed "unicode/utf8.first" = some 0 := by kernel_rfl
theorem acceptNamed : Tryd.prog.globalNamed "unicode/utf8.acceptRanges" = some 1 := by kernel_rfl
theorem firstType : (Tryd.prog.globals[(0 : Nat)]?).map (·.type) = some 85 := by kernel_rfl
theorem acceptType : (Tryd.prog.globals[(1 : Nat)]?).map (·.type) = some 88 := by kernel_rfl
theorem cellsByte : Tryd.prog.cellsOf 5 = 1 := by kernel_rfl
theorem cellsFirst : Tryd.prog.cellsOf 85 = 256 := by kernel_rfl
theorem cellsAccept : Tryd.prog.cellsOf 87 = 2 := by kernel_rfl
theorem firstDatum : Go.Pinned.utf8First = Lib.tabData .u8 Lib.firstTab := by kernel_rfl
theorem acceptDatum : (Rows.laid_unicode_utf8_acceptRanges : DataW Unit) = Lib.acceptData := by kernel_rfl

theorem tabs_of {W : World} (h : laidMet Tryd.prog [("unicode/utf8.acceptRanges", Rows.laid_unicode_utf8_acceptRanges), ("unicode/utf8.first", Rows.laid_unicode_utf8_first)] W) : Tabs W := by
  refine ⟨fun c hc => ?_, fun i hi => ?_⟩
  · obtain ⟨g, t, cs, fuel, p, hg, hty, hvar, hd⟩ := Lib.laidMet.reads h (n := "unicode/utf8.first") (d := Rows.laid_unicode_utf8_first) (by simp)
    obtain rfl := Option.some.inj (firstNamed.symm.trans hg)
    obtain rfl := Option.some.inj (firstType.symm.trans hty)
    rw [show Rows.laid_unicode_utf8_first = Lib.tabData .u8 Lib.firstTab from firstDatum] at hd
    have hcs := Lib.cells_of_tab Tryd.underlying85 Tryd.underlying5 cellsByte cellsFirst hd
    rw [World.var?_cell hg hvar c, ← Array.getElem?_toList, hcs]
    simp [Lib.firstTab, hc]
  · obtain ⟨g, t, cs, fuel, p, hg, hty, hvar, hd⟩ := Lib.laidMet.reads h (n := "unicode/utf8.acceptRanges") (d := Rows.laid_unicode_utf8_acceptRanges) (by simp)
    obtain rfl := Option.some.inj (acceptNamed.symm.trans hg)
    obtain rfl := Option.some.inj (acceptType.symm.trans hty)
    rw [acceptDatum] at hd
    obtain ⟨fuel', d, q, hdi, he⟩ := Lib.array_elem Tryd.underlying88 hd i hi
    simp only [List.getElem?_map, List.getElem?_range hi, Option.map_some, Option.some.injEq] at hdi
    subst hdi
    rw [cellsAccept] at he
    have hcs := Lib.ints_of_struct Tryd.underlying87 (fun j f hj => by
      match j, hj with
      | 0, hj => simp at hj; subst hj; exact ⟨Tryd.underlying5, rfl, cellsByte⟩
      | 1, hj => simp at hj; subst hj; exact ⟨Tryd.underlying5, rfl, cellsByte⟩
      | j + 2, hj => simp at hj) (by rw [cellsAccept]; rfl) he
    have e0 := congrArg (·[0]?) hcs
    have e1 := congrArg (·[1]?) hcs
    simp only [List.getElem?_take, List.getElem?_drop] at e0 e1
    constructor
    · rw [World.var?_cell hg hvar (2 * i), ← Array.getElem?_toList]
      simpa [Nat.mul_comm] using e0
    · rw [World.var?_cell hg hvar (2 * i + 1), ← Array.getElem?_toList]
      simpa [Nat.mul_comm] using e1

/-- a block filled anew -/
def refill (cs : List Value) : Obj → Obj
  | .cells _ t frozen => .cells cs.toArray t frozen
  | o => o
def firstCells : List Value := Lib.firstTab.map fun z => Value.int .u8 z
def acceptCells : List Value := (List.range 16).flatMap fun i => [Value.int .u8 (Lib.accLo i : Nat), Value.int .u8 (Lib.accHi i : Nat)]
/-- A world for the witness: the settled one, the two tables holding what they are laid with. -/
noncomputable def laidWorld (os : Os) : World :=
  { World.holding Tryd.prog os ⟨#[], #[], []⟩ with heap := ((World.holding Tryd.prog os ⟨#[], #[], []⟩).heap.modify 0 (refill firstCells)).modify 1 (refill acceptCells) }
end Go.Proofs.YtmkpbfghnkmcgaaDoor
