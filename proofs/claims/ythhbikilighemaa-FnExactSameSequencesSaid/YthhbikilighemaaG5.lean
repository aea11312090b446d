/- Chapter 3: the model's paragraphs. -/
import Derived.Test.YthhbikilighemaaG2
import Derived.Test.YthhbikilighemaaO3
namespace Go.Proofs.Ythhbikilighemaa
open Go.RowKit Go.Maps

theorem info_ints : (Try.prog.info? 22).map (fun i => (i.zero, i.size, i.bytes)) = some (some (.slice none 0 0), 1, 24) := by kernel_rfl
theorem slice_one (A : Option Addr) (n c : Nat) : ∀ u ∈ [Value.slice A n c], u.oneCell' = true := by intro u hu; simp at hu; subst hu; rfl
theorem class_ten : classN 10 = 10 := rfl
def parasV (zs : List Int) : List (List Int) := if textF zs = 0 then parasN classN zs else []
def endedV (zs : List Int) : Bool := if textF zs = 0 then endedN classN zs else false
theorem parasV_total (zs : List Int) : (parasV zs).length + total (parasV zs) ≤ 2000 := by
  unfold parasV
  split
  · have := parasN_total classN zs
    have := (textF_zero (by assumption)).1
    omega
  · simp [total]

end Go.Proofs.Ythhbikilighemaa
