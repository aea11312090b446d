/- slices.Backward at []int64. -/
import Derived.Test.YtkkojemnbcddfaaDoorRows
import Derived.Test.YtkkojemnbcddfaaDoorB0
import Derived.RangeFuncNested
import Derived.RangeFuncBound
import Derived.RangeFuncBox
import Derived.RangeFuncCalls
import Derived.RangeFuncLeaves
import Derived.Shelf.Abstract
import Derived.Shelf.RegionOpen
import Derived.OwnWalkIn
import Derived.TacticsInMore
import Derived.LoopNIn
import Derived.LoopIn
namespace Go.Proofs.YtkkojemnbcddfaaDoor
open Go.RowKit Go.Shelf
attribute [local go_sem] Oper.semAt_some

/-- the places from the last one on, j of m -/
def dn (m j : Nat) : List Nat := (List.range j).map fun i => m - 1 - i
theorem dn_succ (m j : Nat) : dn m (j + 1) = dn m j ++ [m - 1 - j] := by simp [dn, List.range_succ]
theorem dn_len (m j : Nat) : (dn m j).length = j := by simp [dn]

set_option maxRecDepth 100000 in
set_option maxHeartbeats 2000000 in
theorem back1_in (n : Nat) (hn : 1 ≤ n) (l Bs n₀ b off C : Nat) (zs : List Int) (hl : zs.length ≤ 1000000) (hb : b < n₀) (hbs : Bs < n₀) (J Jx : List Nat → World → Prop)
    (hY : ∀ pre (x : Nat) W, J pre W → pre.length < zs.length → YieldAt Fence.wide (n - 1) Tryd.prog l #[.int .i64 (x : Int), .int .i64 (nth zs x)] W fun e W' =>
      (e = .returned (.bool true) ∧ J (pre ++ [x]) W' ∧ Below n₀ W W') ∨ (e = .returned (.bool false) ∧ Jx (pre ++ [x]) W'))
    (W : World) (hBs : W.cell? ⟨Bs, 0, none⟩ = some (.slice (some ⟨b, off, none⟩) zs.length C)) (hr : Rd W n₀ (some ⟨b, off, none⟩) (nums .i64 zs)) (h0 : J [] W) :
    CallsIn Fence.wide n Tryd.prog 123 #[.func (.yield l) #[] #[], .pointer (some ⟨Bs, 0, none⟩)] W fun e W' => (∃ v, e = .returned v) ∧
      ((∃ ys, ys = dn zs.length zs.length ∧ J ys W') ∨ (∃ pre, (∃ j, j ≤ zs.length ∧ pre = dn zs.length j) ∧ Jx pre W')) := by
  have HR := Lib.hid hr
  have HB := Lib.hid hBs
  obtain ⟨m, hm⟩ : ∃ m, Hid (m = zs.length) := ⟨_, Lib.hid rfl⟩
  rw [← hm.out] at hl hY hBs HB ⊢
  clear hr
  refine callsIn_of_wp Tryd.func123 rfl trivial ?_ rfl
  simp only [Tryd.ntmps123, List.size_toArray, List.length_cons, List.length_nil, Nat.reduceAdd, Nat.reduceSub, Array.replicate_succ, Array.replicate_zero, List.push_toArray, List.append_toArray, List.nil_append, List.cons_append]
  gi_wp2
  gi_loopw [3] (fun i wr => ∃ j : Nat, j ≤ m ∧ i = .int .i64 ((m : Int) - 1 - j) ∧ J (dn m j) wr ∧ Below n₀ W wr) (fun i _ => (intOf i + 1).toNat)
  case atStart => exact ⟨0, Nat.zero_le _, by simp, h0, Below.refl _ _⟩
  case round =>
    obtain ⟨j, hj, rfl, hJs, hnx⟩ := hrel
    by_cases hlt : j < m
    · have hc0 := ((HR.out.keep fun p hp => hnx.cell (p := p) hp).int (by rw [← hm.out]; omega))
      obtain ⟨b', off', e1, _, hc⟩ := hc0
      cases e1
      have ei : ((m : Int) - 1 - (j : Int)) = ((m - 1 - j : Nat) : Int) := by omega
      have hcx := hc (m - 1 - j) (by rw [← hm.out]; omega)
      obtain ⟨fn, tmps, assign, body, hy, hR⟩ := hY _ (m - 1 - j) wr hJs (by rw [dn_len]; exact hlt)
      have hbx : wr.cell? ⟨Bs, 0, none⟩ = some (.slice (some ⟨b, off, none⟩) m C) := (hnx.cell (p := ⟨Bs, 0, none⟩) hbs).trans HB.out
      rw [ei]
      have hD := Lib.hid (dn_succ m j)
      obtain ⟨x, hx⟩ : ∃ x, Hid (x = m - 1 - j) := ⟨_, Lib.hid rfl⟩
      rw [← hx.out] at hcx hy hR ei hD ⊢
      have hxm : x < m := by have := hx.out; omega
      clear hc
      gi_wp2
      refine hR.mono ?_
      rintro e W3 (⟨rfl, hJ3, hk3⟩ | ⟨rfl, hJx3⟩)
      · gi_wp2
        go_roundw
        case rel => exact ⟨j + 1, by omega, by have := hx.out; first | (congr 1; done) | (congr 1; omega), by rw [hD.out]; exact hJ3, hnx.trans hk3⟩
        case measure => have := hx.out; first | (simp [intOf]; done) | (simp [intOf]; omega)
      · gi_wp2
        refine bodyPost_ret (results_none rfl _ _ _) rfl ?_
        exact ⟨⟨_, rfl⟩, .inr ⟨_, ⟨j + 1, by omega, hD.out.symm⟩, hJx3⟩⟩
    · obtain rfl : j = m := by omega
      have ei : ((j : Int) - 1 - (j : Int)) = -1 := by omega
      rw [ei]
      gi_wp2
      go_end0
      exact ⟨⟨_, rfl⟩, .inl ⟨_, rfl, hJs⟩⟩

set_option maxRecDepth 100000 in
set_option maxHeartbeats 1000000 in
theorem back1_nil (n : Nat) (l Bs C : Nat) (A : Option Addr) (J : List Nat → World → Prop) (W : World) (hBs : W.cell? ⟨Bs, 0, none⟩ = some (.slice A 0 C)) (h0 : J [] W) :
    CallsIn Fence.wide n Tryd.prog 123 #[.func (.yield l) #[] #[], .pointer (some ⟨Bs, 0, none⟩)] W fun e W' => (∃ v, e = .returned v) ∧ J [] W' := by
  refine callsIn_of_wp Tryd.func123 rfl trivial ?_ rfl
  simp only [Tryd.ntmps123, List.size_toArray, List.length_cons, List.length_nil, Nat.reduceAdd, Nat.reduceSub, Array.replicate_succ, Array.replicate_zero, List.push_toArray, List.append_toArray, List.nil_append, List.cons_append]
  gi_wp2
  gi_loopw [3] (fun i wr => i = .int .i64 (-1) ∧ wr = W) (fun _ _ => 0)
  case atStart => exact ⟨rfl, rfl⟩
  case round =>
    obtain ⟨rfl, rfl⟩ := hrel
    gi_wp2
    go_end0
    exact ⟨⟨_, rfl⟩, h0⟩

theorem back_stops (n : Nat) (hn : 1 ≤ n) (Bs n₀ C : Nat) (A : Option Addr) (zs : List Int) (hl : zs.length ≤ 1000000) (w : World) (hBs' : Bs < n₀) (hn₀ : n₀ ≤ w.heap.size)
    (hBs : w.cell? ⟨Bs, 0, none⟩ = some (.slice A zs.length C)) (hr : Rd w n₀ A (nums .i64 zs)) :
    SeqStopsK Fence.wide n Tryd.prog 123 #[.pointer (some ⟨Bs, 0, none⟩)] (fun x : Nat => #[Value.int .i64 (x : Int), Value.int .i64 (nth zs x)]) (Below n₀) (fun ys => ys = dn zs.length zs.length) (fun pre => ∃ j, j ≤ zs.length ∧ pre = dn zs.length j) zs.length w := by
  intro l J Jx W hW _ _ hY h0
  have hBs2 := (hW.cell (p := ⟨Bs, 0, none⟩) (show Bs < w.heap.size by omega)).trans hBs
  by_cases hz : 0 < zs.length
  · obtain ⟨b, off, rfl, hb, _⟩ := hr.int hz
    exact back1_in n hn l Bs n₀ b off C zs hl hb hBs' J Jx hY W hBs2 (hr.below hW hn₀) h0
  · obtain rfl : zs = [] := List.eq_nil_of_length_eq_zero (by omega)
    exact (back1_nil n l Bs C A J W hBs2 h0).mono fun e W' ⟨he, hj⟩ => ⟨he, .inl ⟨_, rfl, hj⟩⟩

set_option maxRecDepth 100000 in
set_option maxHeartbeats 1000000 in
theorem backward_any (A : Option Addr) (m c : Nat) (w : World) :
    Calls Tryd.prog 115 #[.slice A m c] w fun e w' => e = .returned (.func (.func 123) #[] #[.pointer (some ⟨w.heap.size, 0, none⟩)]) ∧ w' = w.alloc (.cells #[.slice A m c] 24) := by
  go_enter Tryd.func115, Tryd.ntmps115
  go_wp2
  go_ret
  exact ⟨rfl, rfl⟩
end Go.Proofs.YtkkojemnbcddfaaDoor
