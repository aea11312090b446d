/- The library's slices at the program's own types: Grow of nil, Concat, Clone. -/
import Derived.Test.YtkkojemnbcddfaaDoorH1
import Derived.Lib.AppendZerosOnto
import Derived.Lib.AppendZeros
import Derived.Lib.SliceRun
namespace Go.Proofs.YtkkojemnbcddfaaDoor
open Go.RowKit



set_option maxRecDepth 100000 in
set_option maxHeartbeats 1000000 in
theorem cloneInt_own (v : Value) (zs : List Int) (w : World) (B : Nat) (h : Sees w B .i64 v zs) (hB : B ≤ w.heap.size) (l : zs.length < 1000000000) :
    Calls Tryd.prog 70 #[v] w fun e w' => (∃ v', e = .returned v' ∧ Own w' w.heap.size w'.heap.size 2 .i64 v' zs) ∧ Below w.heap.size w w' := by
  obtain ⟨i0, hi, hz0, hz1, hz2⟩ := info_parts info_int64
  obtain ⟨A, c, rfl, hr⟩ := h
  have hnil := Lib.run_eql_slice_nil (P := Tryd.prog) w 24 2 A zs.length c 0 0 Tryd.underlying24
  have HR := Lib.hid (hr.below ((Below.refl B w).alloc hB (.cells #[] 2)) (Nat.le_refl _))
  have o0 := Lib.hid (World.ownsRow_lit (base := w.heap.size) (e := 2) (size := 1) w #[] 0 (Nat.le_refl _) (by unfold maxLen; omega) rfl)
  cases A with
  | none =>
    have hzs : zs = [] := by
      cases zs with
      | nil => rfl
      | cons z zs =>
        obtain ⟨_, _, e, _⟩ := hr 0 _ (nums_get .i64 (z :: zs) 0 (by simp))
        cases e
    subst hzs
    clear hr hnil
    rw [List.length_nil]
    have hnil := Lib.run_eql_slice_nil (P := Tryd.prog) w 24 2 none 0 c 0 0 Tryd.underlying24
    go_enter Tryd.func70, Tryd.ntmps70
    go_wp2
    go_ret
    exact ⟨⟨_, rfl, Own.nil _ _ _ _ _⟩, Below.refl _ _⟩
  | some a =>
    clear hr
    go_enter Tryd.func70, Tryd.ntmps70
    go_wp2_with (at_builtin; refine wpList_app rfl _ _ _ rfl w.heap.size Tryd.underlying24 hi hz0 hz1 hz2 rfl (by omega) rfl o0.out rfl HR.out (by rw [nums_length, Nat.mul_one]) (nums_one _ _) (by omega) (by omega) (by simp) ?_; intro v' w2 o2 g2 a2)
    go_ret
    refine ⟨⟨v', rfl, Own.mk_ (n := 0 + zs.length) (by simpa using o2) (by omega)⟩, ((Below.refl w.heap.size w).alloc (Nat.le_refl _) _).grown g2 (by simp) (fun k hk => (o0.out.lt k hk).1)⟩
end Go.Proofs.YtkkojemnbcddfaaDoor
