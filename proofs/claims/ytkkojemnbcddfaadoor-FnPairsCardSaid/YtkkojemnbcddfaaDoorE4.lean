/- The program's TextFault. -/
import Derived.Test.YtkkojemnbcddfaaDoorE1
namespace Go.Proofs.YtkkojemnbcddfaaDoor
open Go.RowKit Go.Maps

set_option maxRecDepth 100000 in
set_option maxHeartbeats 400000 in
theorem textFault_any (A : Option Addr) (zs : List Int) (c : Nat) (w : World) (B : Nat) (h1 : Rd w B A (nums .i64 zs)) (hB : B ≤ w.heap.size) (hl : zs.length < 1000000000) :
    Calls Tryd.prog 38 #[.slice A zs.length c] w fun e w' => e = .returned (.int .i64 (textF zs)) ∧ Below w.heap.size w w' := by
  by_cases h6 : 600 < zs.length
  · have e := Lib.hid (textF_many h6)
    go_enter Tryd.func38, Tryd.ntmps38
    go_wp2
    go_ret
    exact ⟨rint e.out.symm, Below.refl _ _⟩
  · have H1 := Lib.hid h1
    clear h1
    go_enter Tryd.func38, Tryd.ntmps38
    go_wp2
    go_loopw [10] (fun i wr => ∃ k : Nat, k ≤ zs.length ∧ i = .int .i64 k ∧ Hid ((zs.take k).all chrB = true) ∧ Below w.heap.size w wr) (fun i _ => zs.length - (intOf i).toNat)
    case atStart => exact ⟨0, by omega, rfl, rfl, Below.refl _ _⟩
    case round =>
      obtain ⟨k, hk, rfl, hs, hbr⟩ := hrel
      by_cases hlt : k < zs.length
      · obtain ⟨b, off, rfl, hb, hc⟩ := (H1.out.below hbr hB).int (by omega)
        have hc0 := hc k hlt
        clear hc
        obtain ⟨z, hz⟩ : ∃ z, Hid (z = nth zs k) := ⟨_, Lib.hid rfl⟩
        rw [← hz.out] at hc0
        by_cases hp : chrB z = true
        · have hp' : Hid (decide ((0 ≤ z ∧ z ≤ 55295) ∨ (57344 ≤ z ∧ z ≤ 1114111)) = true) := Lib.hid hp
          have HP := Lib.hid hp
          clear hp
          go_wp2_with fail
          refine (isChar_any _ _).mono ?_
          rintro e w1 ⟨rfl, b1⟩
          rw [hp'.out]
          have hb1 := below_on hbr b1 (Nat.le_refl _)
          clear hbr b1
          go_wp2
          go_roundw
          case rel => exact ⟨k + 1, by omega, by go_num, Lib.hid (by rw [all_step chrB zs k hlt (by rw [← hz.out]; exact HP.out)]; exact hs.out), hb1⟩
          case measure => first | omega | (simp [intOf]; omega)
        · have hp' : Hid (decide ((0 ≤ z ∧ z ≤ 55295) ∨ (57344 ≤ z ∧ z ≤ 1114111)) = false) := Lib.hid (by simpa [chrB] using hp)
          have E := Lib.hid (textF_no h6 (all_false chrB zs k hlt (by rw [← hz.out]; simpa using hp)))
          clear hp
          go_wp2_with fail
          refine (isChar_any _ _).mono ?_
          rintro e w1 ⟨rfl, b1⟩
          rw [hp'.out]
          have hb1 := below_on hbr b1 (Nat.le_refl _)
          clear hbr b1
          go_wp2
          go_ret
          exact ⟨rint E.out.symm, hb1⟩
      · have E := Lib.hid (textF_ok h6 (by have := hs.out; rwa [List.take_of_length_le (by omega)] at this))
        go_wp2
        go_ret
        exact ⟨rint E.out.symm, hbr⟩

theorem textFault_val (v : Value) (zs : List Int) (w : World) (B : Nat) (h : Sees w B .i64 v zs) (hB : B ≤ w.heap.size) (l : zs.length < 1000000000) (_ : ∀ n ∈ zs, (Lit.int .i64 n).wf = true) :
    Calls Tryd.prog 38 #[v] w fun e w' => e = .returned (.int .i64 (textF zs)) ∧ Below w.heap.size w w' := by
  obtain ⟨A, c, rfl, hr⟩ := h
  exact textFault_any A zs c w B hr hB l
end Go.Proofs.YtkkojemnbcddfaaDoor
