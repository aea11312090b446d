/- The laws' own helpers: a copy of a slice, the comparison, the marks. -/
import Derived.Test.YtcfnhjpmihngdaaRows
import Derived.Test.YtcfnhjpmihngdaaB0
import Derived.WalkKit
import Derived.WalkSpells
import Derived.BigQuiet
import Derived.Deep.QuietTactic
import Derived.Laws.OwnMore
namespace Go.Proofs.Ytcfnhjpmihngdaa
open Go.RowKit

theorem info_int64 : (Try.prog.info? 2).map (fun i => (i.zero, i.size, i.bytes)) = some (some (.int .i64 0), 1, 8) := by kernel_rfl
theorem info_uint8 : (Try.prog.info? 5).map (fun i => (i.zero, i.size, i.bytes)) = some (some (.int .u8 0), 1, 1) := by kernel_rfl
def marks (k : Int) (n : Nat) : List Int := (List.range n).map fun (j : Nat) => k + (j : Int)
theorem marks_length (k : Int) (n : Nat) : (marks k n).length = n := by simp [marks]
theorem marks_nth (k : Int) (n j : Nat) (h : j < n) : nth (marks k n) j = k + j := by simp [marks, nth, h]

def marks8 (k : Int) (n : Nat) : List Int := (List.range n).map fun (j : Nat) => (k + (j : Int)) % 256
theorem marks8_length (k : Int) (n : Nat) : (marks8 k n).length = n := by simp [marks8]
theorem marks8_nth (k : Int) (n j : Nat) (h : j < n) : nth (marks8 k n) j = (k + j) % 256 := by simp [marks8, nth, h]

theorem eqI_step (zs ys : List Int) (k : Nat) (hk : k < zs.length) (hk' : k < ys.length) (h : nth zs k = nth ys k) : zs.drop k = ys.drop k ↔ zs.drop (k + 1) = ys.drop (k + 1) := by
  rw [drop_nth zs k hk, drop_nth ys k hk', h]; simp
theorem eqI_part (zs ys : List Int) (k : Nat) (h : nth zs k ≠ nth ys k) : zs ≠ ys := by
  intro e; subst e; exact h rfl










/-! the same, said of values -/
end Go.Proofs.Ytcfnhjpmihngdaa
