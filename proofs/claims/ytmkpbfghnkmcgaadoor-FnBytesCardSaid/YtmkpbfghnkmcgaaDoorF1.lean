/- FnBytes: the laws' byte comparison; the walk. -/
import Derived.Test.YtmkpbfghnkmcgaaDoorD6
import Derived.Test.YtmkpbfghnkmcgaaDoorE2
import Derived.Laws.BytesArg
namespace Go.Proofs.YtmkpbfghnkmcgaaDoor
open Go.RowKit

theorem conv_any (A : Option Addr) (c : Nat) (xs : List Int) (w : World) (B : Nat) (h : Rd w B A (nums .u8 xs)) : (convert 22 9 (.slice A xs.length c)).run Tryd.prog w = .ok (.string (strOfNums xs)) w := by
  by_cases h0 : 0 < xs.length
  · obtain ⟨b, off, rfl, _, hc⟩ := h.int h0
    exact run_convert_bytes_arg w 22 5 Tryd.underlying22 Tryd.underlying5 b off xs.length c xs rfl (fun i hi => by rw [hc i hi]; simp [nth, List.getD]) 9 Tryd.underlying9
  · obtain rfl : xs = [] := List.eq_nil_of_length_eq_zero (by omega)
    cases A with
    | none => exact run_convert_bytes_nil w 22 5 Tryd.underlying22 Tryd.underlying5 0 c 9 Tryd.underlying9
    | some a =>
      rw [run_convert_bytes_string w 22 9 5 (some a) _ c Tryd.underlying22 Tryd.underlying5 Tryd.underlying9]
      have := run_bytesToString (P := Tryd.prog) w a 0 c [] (by simpa using run_loadCells_list (P := Tryd.prog) w a [] (by simp))
      exact this

set_option maxRecDepth 100000 in
set_option maxHeartbeats 400000 in
theorem lwSame_any (A0 A1 : Option Addr) (c0 c1 : Nat) (xs : List Int) (w : World) (B : Nat) (h0 : Rd w B A0 (nums .u8 xs)) (h1 : Rd w B A1 (nums .u8 xs)) :
    Calls Tryd.prog 27 #[.slice A0 xs.length c0, .slice A1 xs.length c1] w fun e w' => e = .returned (.bool true) ∧ Below w.heap.size w w' := by
  have e0 := conv_any A0 c0 xs w B h0
  have e1 := conv_any A1 c1 xs w B h1
  go_enter Tryd.func27, Tryd.ntmps27
  go_wp2
  go_ret
  exact ⟨rfl, Below.refl _ _⟩
end Go.Proofs.YtmkpbfghnkmcgaaDoor
