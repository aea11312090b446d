/- Chapter 7: the model's brackets, whole. -/
import Derived.Test.YtcfnhjpmihngdaaX5
import Derived.Test.YtcfnhjpmihngdaaI16
namespace Go.Proofs.Ytcfnhjpmihngdaa
open Go.RowKit

theorem odd_tmod7 (n : Int) : (n.tmod 2 != 0) = !decide (n % 2 = 0) := by
  have h : n.tmod 2 = 0 ↔ n % 2 = 0 := by
    rw [Int.tmod_eq_emod]
    split
    · simp
    · rename_i hn
      simp at hn
      omega
  by_cases h0 : n % 2 = 0
  · simp [h.2 h0, h0]
  · have : n.tmod 2 ≠ 0 := fun e => h0 (h.1 e)
    simp [this, h0]
theorem sideOf7_any (n : Int) (w : World) : Calls Try.prog 13 #[.int .i64 n] w fun e w' => e = .returned (.int .i64 (sideL n)) ∧ w = w' := by
  have hm := odd_tmod7 n
  by_cases h : n % 2 = 0
  · have E : sideL n = 0 := by unfold sideL; rw [if_pos h]
    rw [decide_eq_true h] at hm
    clear h
    go_enter Try.func13, Try.ntmps13
    go_wp2
    go_ret
    exact ⟨rint E.symm, rfl⟩
  · have E : sideL n = 1 := by unfold sideL; rw [if_neg h]
    rw [decide_eq_false h] at hm
    clear h
    go_enter Try.func13, Try.ntmps13
    go_wp2
    go_ret
    exact ⟨rint E.symm, rfl⟩
theorem l5Odd7_any (n : Int) (w : World) : Calls Try.prog 14 #[.int .i64 n] w fun e w' => e = .returned (.bool (!decide (n % 2 = 0))) ∧ w = w' := by
  have hm := odd_tmod7 n
  by_cases h : n % 2 = 0
  · rw [decide_eq_true h] at hm ⊢
    clear h
    go_enter Try.func14, Try.ntmps14
    go_wp2
    go_ret
    exact ⟨rbool (by simp), rfl⟩
  · rw [decide_eq_false h] at hm ⊢
    clear h
    go_enter Try.func14, Try.ntmps14
    go_wp2
    go_ret
    exact ⟨rbool (by simp), rfl⟩
abbrev Row7 (w : World) (lo : Nat) (A : Option Addr) (n c : Nat) (cs : List Int) : Prop := w.ownsRow lo 2 1 (.slice A n c) n (nums .i64 cs)
/-- behind the first j of a pair's two ends -/
def endsW (F cur : List Int) (o e : Nat) (s : Int) (j : Nat) : List Int := if j = 0 then cur else if j = 1 then spreadW F cur o s else spreadW F (spreadW F cur o s) e s
theorem endsW_len (F cur : List Int) (o e : Nat) (s : Int) (j : Nat) : (endsW F cur o e s j).length = cur.length := by unfold endsW; split; rfl; split <;> simp [spreadW_len]
theorem endsW_step (F cur : List Int) (o e : Nat) (s : Int) (j : Nat) (h : j < 2) : endsW F cur o e s (j + 1) = spreadW F (endsW F cur o e s j) (if j = 0 then o else e) s := by
  obtain rfl | rfl : j = 0 ∨ j = 1 := by omega
  · rfl
  · rfl
theorem sl_eq {A A' : Option Addr} {n n' c c' : Nat} (h : Value.slice A n c = .slice A' n' c') : A = A' ∧ n = n' ∧ c = c' := by injection h with a b c; exact ⟨a, b, c⟩
theorem cell_alloc {w : World} {a : Addr} {v : Value} (h : w.cell? a = some v) (o : Obj) : (w.alloc o).cell? a = some v := by
  have hl : a.block < w.heap.size := by
    by_cases hl : a.block < w.heap.size
    · exact hl
    · have e : w.heap[a.block]? = none := Array.getElem?_eq_none (by omega)
      unfold World.cell? at h
      rw [e] at h
      cases h
  unfold World.cell?
  rw [Below.heap_alloc w o a.block hl]
  exact h
theorem PtR.out {w w' : World} {T : TypeId} {B g lo hi : Nat} {v0 v1 v2 : Value} {p : Prt} (h : PtR w T B g v0 v1 v2 p) (ho : Out lo hi w w') (hB : B ≤ lo) (hw : B ≤ w.heap.size) : PtR w' T B g v0 v1 v2 p :=
  ⟨(ho.block g (by have := h.lt; omega) (by have := h.lt; omega)).trans h.blk, h.lt, h.s0.out ho hB hw, h.s1.out ho hB hw, h.s2.out ho hB hw⟩
end Go.Proofs.Ytcfnhjpmihngdaa
