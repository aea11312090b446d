/- slices.Backward at []int64. -/
import Derived.Test.YtcfnhjpmihngdaaGreatY02
import Derived.Lib.AppendZerosOnto
import Derived.Lib.AppendZeros
import Derived.Lib.SliceRun
import Derived.Test.YtcfnhjpmihngdaaGreatRows
import Derived.Test.YtcfnhjpmihngdaaGreatY01
import Derived.RangeFuncNested
import Derived.RangeFuncBound
import Derived.RangeFuncBox
import Derived.RangeFuncCalls
import Derived.RangeFuncLeaves
import Derived.Shelf.Abstract
import Derived.Shelf.RegionOpen
import Derived.OwnWalkIn
import Derived.TacticsInMore
import Derived.LoopNIn
import Derived.LoopIn
namespace Go.Proofs.YtcfnhjpmihngdaaGreat
open Go.RowKit



set_option maxRecDepth 100000 in
set_option maxHeartbeats 1000000 in
theorem cloneInt_own (v : Value) (zs : List Int) (w : World) (B : Nat) (h : Sees w B .i64 v zs) (hB : B ≤ w.heap.size) (l : zs.length < 1000000000) :
    Calls Tryz.prog 71 #[v] w fun e w' => (∃ v', e = .returned v' ∧ Own w' w.heap.size w'.heap.size 2 .i64 v' zs) ∧ Below w.heap.size w w' := by
  obtain ⟨i0, hi, hz0, hz1, hz2⟩ := info_parts info_int64
  obtain ⟨A, c, rfl, hr⟩ := h
  have hnil := Lib.run_eql_slice_nil (P := Tryz.prog) w 22 2 A zs.length c 0 0 Tryz.underlying22
  have HR := Lib.hid (hr.below ((Below.refl B w).alloc hB (.cells #[] 2)) (Nat.le_refl _))
  have o0 := Lib.hid (World.ownsRow_lit (base := w.heap.size) (e := 2) (size := 1) w #[] 0 (Nat.le_refl _) (by unfold maxLen; omega) rfl)
  cases A with
  | none =>
    have hzs : zs = [] := by
      cases zs with
      | nil => rfl
      | cons z zs =>
        obtain ⟨_, _, e, _⟩ := hr 0 _ (nums_get .i64 (z :: zs) 0 (by simp))
        cases e
    subst hzs
    clear hr hnil
    rw [List.length_nil]
    have hnil := Lib.run_eql_slice_nil (P := Tryz.prog) w 22 2 none 0 c 0 0 Tryz.underlying22
    go_enter Tryz.func71, Tryz.ntmps71
    go_wp2
    go_ret
    exact ⟨⟨_, rfl, Own.nil _ _ _ _ _⟩, Below.refl _ _⟩
  | some a =>
    clear hr
    go_enter Tryz.func71, Tryz.ntmps71
    go_wp2_with (at_builtin; refine wpList_app rfl _ _ _ rfl w.heap.size Tryz.underlying22 hi hz0 hz1 hz2 rfl (by omega) rfl o0.out rfl HR.out (by rw [nums_length, Nat.mul_one]) (nums_one _ _) (by omega) (by omega) (by simp) ?_; intro v' w2 o2 g2 a2)
    go_ret
    refine ⟨⟨v', rfl, Own.mk_ (n := 0 + zs.length) (by simpa using o2) (by omega)⟩, ((Below.refl w.heap.size w).alloc (Nat.le_refl _) _).grown g2 (by simp) (fun k hk => (o0.out.lt k hk).1)⟩
end Go.Proofs.YtcfnhjpmihngdaaGreat

namespace Go.Proofs.YtcfnhjpmihngdaaGreat
open Go.RowKit Go.Maps

/-- where z stands first, or -1, from k on -/
def idxF (ks : List Int) (z : Int) (k : Nat) : Int := if (ks.drop k).any (fun x => decide (z = x)) then 0 else -1
set_option maxRecDepth 100000 in
set_option maxHeartbeats 1000000 in
theorem index_any (A : Option Addr) (ks : List Int) (c : Nat) (z : Int) (w : World) (B : Nat) (h1 : Rd w B A (nums .i64 ks)) (hl : ks.length ≤ 600) :
    Calls Tryz.prog 90 #[.slice A ks.length c, .int .i64 z] w fun e w' => (∃ n : Int, e = .returned (.int .i64 n) ∧ decide (0 ≤ n) = ks.any (fun x => decide (z = x))) ∧ w = w' := by
  have H1 := Lib.hid h1
  clear h1
  obtain ⟨ans, hans⟩ : ∃ x, Hid (x = ks.any (fun x => decide (z = x))) := ⟨_, Lib.hid rfl⟩
  rw [← hans.out]
  have EL : Hid (ans = (ks.drop 0).any (fun x => decide (z = x))) := hans
  go_enter Tryz.func90, Tryz.ntmps90
  go_wp2
  go_loop [8] (fun i => ∃ k : Nat, k ≤ ks.length ∧ i = .int .i64 k ∧ Hid (ans = (ks.drop k).any (fun x => decide (z = x)))) (fun i => ks.length - (intOf i).toNat)
  case atStart => exact ⟨0, by omega, rfl, EL⟩
  case round =>
    obtain ⟨k, hk, rfl, hs⟩ := hrel
    by_cases hlt : k < ks.length
    · obtain ⟨b', off, rfl, hb', hc⟩ := H1.out.int (by omega)
      have hc0 := hc k hlt
      clear hc
      have BC := Lib.hid (show (ks.drop k).any (fun x => decide (z = x)) = (decide (z = nth ks k) || (ks.drop (k + 1)).any (fun x => decide (z = x))) by rw [drop_nth ks k hlt]; rfl)
      obtain ⟨q, hq⟩ : ∃ q, Hid (q = nth ks k) := ⟨_, Lib.hid rfl⟩
      rw [← hq.out] at hc0 BC
      by_cases hzq : z = q
      · have nq : (z == q) = true := by simp [hzq]
        have E := Lib.hid (show ans = true by rw [hs.out, BC.out]; simp [hzq])
        clear hzq
        go_wp2
        go_ret
        exact ⟨⟨_, rfl, by rw [E.out]; simp⟩, rfl⟩
      · have nq : (z == q) = false := by simpa using hzq
        have E := Lib.hid (show ans = (ks.drop (k + 1)).any (fun x => decide (z = x)) by rw [hs.out, BC.out]; simp [hzq])
        clear hzq
        go_wp2
        go_round
        case rel => exact ⟨k + 1, by omega, by go_num, E⟩
        case measure => first | omega | (simp [intOf]; omega)
    · have E := Lib.hid (show ans = false by rw [hs.out, List.drop_of_length_le (by omega)]; rfl)
      go_wp2
      go_ret
      exact ⟨⟨_, rfl, by rw [E.out]; simp⟩, rfl⟩
theorem contains_any (A : Option Addr) (ks : List Int) (c : Nat) (z : Int) (w : World) (B : Nat) (h1 : Rd w B A (nums .i64 ks)) (hl : ks.length ≤ 600) :
    Calls Tryz.prog 68 #[.slice A ks.length c, .int .i64 z] w fun e w' => e = .returned (.bool (ks.any (fun x => decide (z = x)))) ∧ w = w' := by
  have H1 := Lib.hid h1
  clear h1
  go_enter Tryz.func68, Tryz.ntmps68
  go_wp2_with fail
  refine (index_any A ks c z w B H1.out hl).mono ?_
  rintro e w' ⟨⟨n, rfl, hn⟩, rfl⟩
  have HN := Lib.hid hn
  clear hn
  go_wp2
  go_ret
  exact ⟨rbool (by rw [← HN.out]), rfl⟩
end Go.Proofs.YtcfnhjpmihngdaaGreat

namespace Go.Proofs.YtcfnhjpmihngdaaGreat
open Go.RowKit Go.Shelf
attribute [local go_sem] Oper.semAt_some

/-- the places from the last one on, j of m -/
def dn (m j : Nat) : List Nat := (List.range j).map fun i => m - 1 - i
theorem dn_succ (m j : Nat) : dn m (j + 1) = dn m j ++ [m - 1 - j] := by simp [dn, List.range_succ]
theorem dn_len (m j : Nat) : (dn m j).length = j := by simp [dn]

set_option maxRecDepth 100000 in
set_option maxHeartbeats 2000000 in
theorem back1_in (n : Nat) (hn : 1 ≤ n) (l Bs n₀ b off C : Nat) (zs : List Int) (hl : zs.length ≤ 1000000) (_ : b < n₀) (hbs : Bs < n₀) (J Jx : List Nat → World → Prop)
    (hY : ∀ pre (x : Nat) W, J pre W → pre.length < zs.length → YieldAt Fence.wide (n - 1) Tryz.prog l #[.int .i64 (x : Int), .int .i64 (nth zs x)] W fun e W' =>
      (e = .returned (.bool true) ∧ J (pre ++ [x]) W' ∧ Below n₀ W W') ∨ (e = .returned (.bool false) ∧ Jx (pre ++ [x]) W'))
    (W : World) (hBs : W.cell? ⟨Bs, 0, none⟩ = some (.slice (some ⟨b, off, none⟩) zs.length C)) (hr : Rd W n₀ (some ⟨b, off, none⟩) (nums .i64 zs)) (h0 : J [] W) :
    CallsIn Fence.wide n Tryz.prog 110 #[.func (.yield l) #[] #[], .pointer (some ⟨Bs, 0, none⟩)] W fun e W' => (∃ v, e = .returned v) ∧
      ((∃ ys, ys = dn zs.length zs.length ∧ J ys W') ∨ (∃ pre, (∃ j, j ≤ zs.length ∧ pre = dn zs.length j) ∧ Jx pre W')) := by
  have HR := Lib.hid hr
  have HB := Lib.hid hBs
  obtain ⟨m, hm⟩ : ∃ m, Hid (m = zs.length) := ⟨_, Lib.hid rfl⟩
  rw [← hm.out] at hl hY hBs HB ⊢
  clear hr
  refine callsIn_of_wp Tryz.func110 rfl trivial ?_ rfl
  simp only [Tryz.ntmps110, List.size_toArray, List.length_cons, List.length_nil, Nat.reduceAdd, Nat.reduceSub, Array.replicate_succ, Array.replicate_zero, List.push_toArray, List.append_toArray, List.nil_append, List.cons_append]
  gi_wp2
  gi_loopw [3] (fun i wr => ∃ j : Nat, j ≤ m ∧ i = .int .i64 ((m : Int) - 1 - j) ∧ J (dn m j) wr ∧ Below n₀ W wr) (fun i _ => (intOf i + 1).toNat)
  case atStart => exact ⟨0, Nat.zero_le _, by simp, h0, Below.refl _ _⟩
  case round =>
    obtain ⟨j, hj, rfl, hJs, hnx⟩ := hrel
    by_cases hlt : j < m
    · have hc0 := ((HR.out.keep fun p hp => hnx.cell (p := p) hp).int (by rw [← hm.out]; omega))
      obtain ⟨b', off', e1, _, hc⟩ := hc0
      cases e1
      have ei : ((m : Int) - 1 - (j : Int)) = ((m - 1 - j : Nat) : Int) := by omega
      have hcx := hc (m - 1 - j) (by rw [← hm.out]; omega)
      obtain ⟨fn, tmps, assign, body, hy, hR⟩ := hY _ (m - 1 - j) wr hJs (by rw [dn_len]; exact hlt)
      have hbx : wr.cell? ⟨Bs, 0, none⟩ = some (.slice (some ⟨b, off, none⟩) m C) := (hnx.cell (p := ⟨Bs, 0, none⟩) hbs).trans HB.out
      rw [ei]
      have hD := Lib.hid (dn_succ m j)
      obtain ⟨x, hx⟩ : ∃ x, Hid (x = m - 1 - j) := ⟨_, Lib.hid rfl⟩
      rw [← hx.out] at hcx hy hR ei hD ⊢
      have hxm : x < m := by have := hx.out; omega
      clear hc
      gi_wp2
      refine hR.mono ?_
      rintro e W3 (⟨rfl, hJ3, hk3⟩ | ⟨rfl, hJx3⟩)
      · gi_wp2
        go_roundw
        case rel => exact ⟨j + 1, by omega, by have := hx.out; first | (congr 1; done) | (congr 1; omega), by rw [hD.out]; exact hJ3, hnx.trans hk3⟩
        case measure => have := hx.out; first | (simp [intOf]; done) | (simp [intOf]; omega)
      · gi_wp2
        refine bodyPost_ret (results_none rfl _ _ _) rfl ?_
        exact ⟨⟨_, rfl⟩, .inr ⟨_, ⟨j + 1, by omega, hD.out.symm⟩, hJx3⟩⟩
    · obtain rfl : j = m := by omega
      have ei : ((j : Int) - 1 - (j : Int)) = -1 := by omega
      rw [ei]
      gi_wp2
      go_end0
      exact ⟨⟨_, rfl⟩, .inl ⟨_, rfl, hJs⟩⟩

set_option maxRecDepth 100000 in
set_option maxHeartbeats 1000000 in
theorem back1_nil (n : Nat) (l Bs C : Nat) (A : Option Addr) (J : List Nat → World → Prop) (W : World) (hBs : W.cell? ⟨Bs, 0, none⟩ = some (.slice A 0 C)) (h0 : J [] W) :
    CallsIn Fence.wide n Tryz.prog 110 #[.func (.yield l) #[] #[], .pointer (some ⟨Bs, 0, none⟩)] W fun e W' => (∃ v, e = .returned v) ∧ J [] W' := by
  refine callsIn_of_wp Tryz.func110 rfl trivial ?_ rfl
  simp only [Tryz.ntmps110, List.size_toArray, List.length_cons, List.length_nil, Nat.reduceAdd, Nat.reduceSub, Array.replicate_succ, Array.replicate_zero, List.push_toArray, List.append_toArray, List.nil_append, List.cons_append]
  gi_wp2
  gi_loopw [3] (fun i wr => i = .int .i64 (-1) ∧ wr = W) (fun _ _ => 0)
  case atStart => exact ⟨rfl, rfl⟩
  case round =>
    obtain ⟨rfl, rfl⟩ := hrel
    gi_wp2
    go_end0
    exact ⟨⟨_, rfl⟩, h0⟩

theorem back_stops (n : Nat) (hn : 1 ≤ n) (Bs n₀ C : Nat) (A : Option Addr) (zs : List Int) (hl : zs.length ≤ 1000000) (w : World) (hBs' : Bs < n₀) (hn₀ : n₀ ≤ w.heap.size)
    (hBs : w.cell? ⟨Bs, 0, none⟩ = some (.slice A zs.length C)) (hr : Rd w n₀ A (nums .i64 zs)) :
    SeqStopsK Fence.wide n Tryz.prog 110 #[.pointer (some ⟨Bs, 0, none⟩)] (fun x : Nat => #[Value.int .i64 (x : Int), Value.int .i64 (nth zs x)]) (Below n₀) (fun ys => ys = dn zs.length zs.length) (fun pre => ∃ j, j ≤ zs.length ∧ pre = dn zs.length j) zs.length w := by
  intro l J Jx W hW _ _ hY h0
  have hBs2 := (hW.cell (p := ⟨Bs, 0, none⟩) (show Bs < w.heap.size by omega)).trans hBs
  by_cases hz : 0 < zs.length
  · obtain ⟨b, off, rfl, hb, _⟩ := hr.int hz
    exact back1_in n hn l Bs n₀ b off C zs hl hb hBs' J Jx hY W hBs2 (hr.below hW hn₀) h0
  · obtain rfl : zs = [] := List.eq_nil_of_length_eq_zero (by omega)
    exact (back1_nil n l Bs C A J W hBs2 h0).mono fun e W' ⟨he, hj⟩ => ⟨he, .inl ⟨_, rfl, hj⟩⟩

set_option maxRecDepth 100000 in
set_option maxHeartbeats 1000000 in
theorem backward_any (A : Option Addr) (m c : Nat) (w : World) :
    Calls Tryz.prog 101 #[.slice A m c] w fun e w' => e = .returned (.func (.func 110) #[] #[.pointer (some ⟨w.heap.size, 0, none⟩)]) ∧ w' = w.alloc (.cells #[.slice A m c] 22) := by
  go_enter Tryz.func101, Tryz.ntmps101
  go_wp2
  go_ret
  exact ⟨rfl, rfl⟩
end Go.Proofs.YtcfnhjpmihngdaaGreat
