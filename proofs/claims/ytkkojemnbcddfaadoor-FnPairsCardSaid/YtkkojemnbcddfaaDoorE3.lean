/- The model's TextFault. -/
import Derived.Test.YtkkojemnbcddfaaDoorE1
namespace Go.Proofs.YtkkojemnbcddfaaDoor
open Go.RowKit Go.Maps

set_option maxRecDepth 100000 in
set_option maxHeartbeats 400000 in
theorem specTextFault_any (A : Option Addr) (zs : List Int) (c : Nat) (w : World) (B : Nat) (h1 : Rd w B A (nums .i64 zs)) (hl : zs.length < 1000000000) :
    Calls Tryd.prog 41 #[.slice A zs.length c] w fun e w' => e = .returned (.int .i64 (textF zs)) ∧ w = w' := by
  by_cases h6 : 600 < zs.length
  · have e := Lib.hid (textF_many h6)
    go_enter Tryd.func41, Tryd.ntmps41
    go_wp2
    go_ret
    exact ⟨rint e.out.symm, rfl⟩
  · have H1 := Lib.hid h1
    clear h1
    go_enter Tryd.func41, Tryd.ntmps41
    go_wp2
    go_loop [3] (fun i => ∃ k : Nat, k ≤ zs.length ∧ i = .int .i64 k ∧ Hid ((zs.take k).all chrB = true)) (fun i => zs.length - (intOf i).toNat)
    case atStart => exact ⟨0, by omega, rfl, rfl⟩
    case round =>
      obtain ⟨k, hk, rfl, hs⟩ := hrel
      by_cases hlt : k < zs.length
      · obtain ⟨b, off, rfl, hb, hc⟩ := H1.out.int (by omega)
        have hc0 := hc k hlt
        clear hc
        obtain ⟨z, hz⟩ : ∃ z, Hid (z = nth zs k) := ⟨_, Lib.hid rfl⟩
        rw [← hz.out] at hc0
        by_cases hp : chrB z = true
        · have hp' : Hid (decide ((0 ≤ z ∧ z ≤ 55295) ∨ (57344 ≤ z ∧ z ≤ 1114111)) = true) := Lib.hid hp
          have HP := Lib.hid hp
          clear hp
          go_wp2_with (go_at_call 44; refine (specIsChar_any _ _).mono ?_; rintro e w' ⟨rfl, rfl⟩; rw [hp'.out])
          go_round
          case rel => exact ⟨k + 1, by omega, by go_num, Lib.hid (by rw [all_step chrB zs k hlt (by rw [← hz.out]; exact HP.out)]; exact hs.out)⟩
          case measure => first | omega | (simp [intOf]; omega)
        · have hp' : Hid (decide ((0 ≤ z ∧ z ≤ 55295) ∨ (57344 ≤ z ∧ z ≤ 1114111)) = false) := Lib.hid (by simpa [chrB] using hp)
          have E := Lib.hid (textF_no h6 (all_false chrB zs k hlt (by rw [← hz.out]; simpa using hp)))
          clear hp
          go_wp2_with (go_at_call 44; refine (specIsChar_any _ _).mono ?_; rintro e w' ⟨rfl, rfl⟩; rw [hp'.out])
          go_ret
          exact ⟨rint E.out.symm, rfl⟩
      · have E := Lib.hid (textF_ok h6 (by have := hs.out; rwa [List.take_of_length_le (by omega)] at this))
        go_wp2
        go_ret
        exact ⟨rint E.out.symm, rfl⟩
theorem specTextFault_val (v : Value) (zs : List Int) (w : World) (B : Nat) (h : Sees w B .i64 v zs) (_ : B ≤ w.heap.size) (l : zs.length < 1000000000) (_ : ∀ n ∈ zs, (Lit.int .i64 n).wf = true) :
    Calls Tryd.prog 41 #[v] w fun e w' => e = .returned (.int .i64 (textF zs)) ∧ Below w.heap.size w w' := by
  obtain ⟨A, c, rfl, hr⟩ := h
  exact (specTextFault_any A zs c w B hr l).mono fun e w' ⟨h1, h2⟩ => ⟨h1, by subst h2; exact Below.refl _ _⟩
end Go.Proofs.YtkkojemnbcddfaaDoor
