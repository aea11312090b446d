/- Chapter 6: ClassesFault, the program's and the model's. -/
import Derived.Test.YtkkojemnbcddfaaDoorW1
import Derived.Test.YtkkojemnbcddfaaDoorC1
import Derived.Test.YtkkojemnbcddfaaDoorA1
namespace Go.Proofs.YtkkojemnbcddfaaDoor
open Go.RowKit Go.Maps

theorem classF_many {xs : List Int} {s : Int} (h : 600 < xs.length) : classF xs s = 2 := by unfold classF; rw [if_pos h]
theorem classF_range {xs : List Int} {s : Int} (h : ¬ 600 < xs.length) (h2 : xs.all clsB = false) : classF xs s = 3 := by unfold classF; rw [if_neg h, if_neg (by rw [h2]; simp)]
theorem classF_form {xs : List Int} {s : Int} (h : ¬ 600 < xs.length) (h2 : xs.all clsB = true) (h3 : ¬ (0 ≤ s ∧ s ≤ 1)) : classF xs s = 1 := by unfold classF; rw [if_neg h, if_pos h2, if_neg h3]
theorem classF_ok {xs : List Int} {s : Int} (h : ¬ 600 < xs.length) (h2 : xs.all clsB = true) (h3 : 0 ≤ s ∧ s ≤ 1) : classF xs s = 0 := by unfold classF; rw [if_neg h, if_pos h2, if_pos h3]
theorem all_step6 (zs : List Int) (k : Nat) (hk : k < zs.length) (h : clsB (nth zs k) = true) : (zs.take (k + 1)).all clsB = (zs.take k).all clsB := by rw [take_nth zs k hk, List.all_append]; simp [h]
theorem all_false6 (zs : List Int) (k : Nat) (hk : k < zs.length) (h : clsB (nth zs k) = false) : zs.all clsB = false := by
  rw [List.all_eq_false]
  exact ⟨nth zs k, by unfold nth; rw [List.getElem?_eq_getElem hk]; exact List.getElem_mem hk, by rw [h]; simp⟩
theorem spans_cls (z : Int) : spans z [0, 22] = clsB z := by simp [spans, clsB, Bool.decide_and]
set_option maxRecDepth 100000 in
set_option maxHeartbeats 1000000 in
theorem classesFault_any (A : Option Addr) (zs : List Int) (c : Nat) (s : Int) (w : World) (B : Nat) (h1 : Rd w B A (nums .i64 zs)) (hB : B ≤ w.heap.size) (hl : zs.length < 1000000000) :
    Calls Tryd.prog 39 #[.slice A zs.length c, .int .i64 s] w fun e w' => e = .returned (.int .i64 (classF zs s)) ∧ Below w.heap.size w w' := by
  by_cases h6 : 600 < zs.length
  · have e := Lib.hid (classF_many (s := s) h6)
    go_enter Tryd.func39, Tryd.ntmps39
    go_wp2
    go_ret
    exact ⟨rint e.out.symm, Below.refl _ _⟩
  · have H1 := Lib.hid h1
    have B0 := Lib.hid (Below.refl w.heap.size w)
    clear h1
    go_enter Tryd.func39, Tryd.ntmps39
    go_wp2
    go_loopw [12] (fun i wr => ∃ k : Nat, k ≤ zs.length ∧ i = .int .i64 k ∧ Hid ((zs.take k).all clsB = true) ∧ Hid (Below w.heap.size w wr)) (fun i _ => zs.length - (intOf i).toNat)
    case atStart => exact ⟨0, by omega, rfl, Lib.hid rfl, B0⟩
    case round =>
      clear B0
      obtain ⟨k, hk, rfl, hs, hbr⟩ := hrel
      by_cases hlt : k < zs.length
      · obtain ⟨b, off, rfl, hb, hc⟩ := (H1.out.below hbr.out hB).int (by omega)
        have hc0 := hc k hlt
        clear hc
        obtain ⟨z, hz⟩ : ∃ z, Hid (z = nth zs k) := ⟨_, Lib.hid rfl⟩
        rw [← hz.out] at hc0
        have BA := Lib.hid (hbr.out.alloc hbr.out.size (.cells #[.int .i64 0, .int .i64 22] 2))
        by_cases hp : clsB z = true
        · have hsp := Lib.hid ((spans_cls z).trans hp)
          have HS2 := Lib.hid (show (zs.take (k + 1)).all clsB = true by rw [all_step6 zs k hlt (by rw [← hz.out]; exact hp)]; exact hs.out)
          clear hp
          go_wp2_with (go_at_call 40; (with_reducible refine (within_lit2 _ _ _ _ _ _ (by simp)).mono ?_); rintro e w' ⟨rfl, rfl⟩; rw [hsp.out])
          go_roundw
          case rel => exact ⟨k + 1, by omega, by go_num, HS2, BA⟩
          case measure => first | omega | (simp [intOf]; omega)
        · have hp : clsB z = false := by simpa using hp
          have hsp := Lib.hid ((spans_cls z).trans hp)
          have E := Lib.hid (classF_range (s := s) h6 (all_false6 zs k hlt (by rw [← hz.out]; exact hp)))
          clear hp
          go_wp2_with (go_at_call 40; (with_reducible refine (within_lit2 _ _ _ _ _ _ (by simp)).mono ?_); rintro e w' ⟨rfl, rfl⟩; rw [hsp.out])
          go_ret
          exact ⟨rint E.out.symm, BA.out⟩
      · have HA := Lib.hid (show zs.all clsB = true by have := hs.out; rwa [List.take_of_length_le (by omega)] at this)
        have BA := Lib.hid (hbr.out.alloc hbr.out.size (.cells #[.int .i64 0, .int .i64 1] 2))
        by_cases hp : 0 ≤ s ∧ s ≤ 1
        · have hsp := Lib.hid (show spans s [0, 1] = true by simp [spans, hp])
          have E := Lib.hid (classF_ok h6 HA.out hp)
          clear hp
          go_wp2_with (go_at_call 40; (with_reducible refine (within_lit2 _ _ _ _ _ _ (by simp)).mono ?_); rintro e w' ⟨rfl, rfl⟩; rw [hsp.out])
          go_ret
          exact ⟨rint E.out.symm, BA.out⟩
        · have hsp := Lib.hid (show spans s [0, 1] = false by simp [spans]; omega)
          have E := Lib.hid (classF_form h6 HA.out hp)
          clear hp
          go_wp2_with (go_at_call 40; (with_reducible refine (within_lit2 _ _ _ _ _ _ (by simp)).mono ?_); rintro e w' ⟨rfl, rfl⟩; rw [hsp.out])
          go_ret
          exact ⟨rint E.out.symm, BA.out⟩
theorem classesFault_val (v : Value) (zs : List Int) (s : Int) (w : World) (B : Nat) (h : Sees w B .i64 v zs) (hB : B ≤ w.heap.size) (l : zs.length < 1000000000) (_ : ∀ n ∈ zs, (Lit.int .i64 n).wf = true) (_ : (Lit.int .i64 s).wf = true) :
    Calls Tryd.prog 39 #[v, .int .i64 s] w fun e w' => e = .returned (.int .i64 (classF zs s)) ∧ Below w.heap.size w w' := by
  obtain ⟨A, c, rfl, hr⟩ := h
  exact classesFault_any A zs c s w B hr hB l
theorem l1In_cls (z : Int) (w : World) : Calls Tryd.prog 43 #[.int .i64 z, .int .i64 0, .int .i64 22] w fun e w' => e = .returned (.bool (clsB z)) ∧ w = w' :=
  (l1In_any z 0 22 w).mono fun e w' ⟨he, hw⟩ => ⟨by rw [he]; exact rbool (by simp [clsB]), hw⟩
set_option maxRecDepth 100000 in
set_option maxHeartbeats 1000000 in
theorem specClassesFault_any (A : Option Addr) (zs : List Int) (c : Nat) (s : Int) (w : World) (B : Nat) (h1 : Rd w B A (nums .i64 zs)) (hl : zs.length < 1000000000) :
    Calls Tryd.prog 42 #[.slice A zs.length c, .int .i64 s] w fun e w' => e = .returned (.int .i64 (classF zs s)) ∧ w = w' := by
  by_cases h6 : 600 < zs.length
  · have e := Lib.hid (classF_many (s := s) h6)
    go_enter Tryd.func42, Tryd.ntmps42
    go_wp2
    go_ret
    exact ⟨rint e.out.symm, rfl⟩
  · have H1 := Lib.hid h1
    clear h1
    go_enter Tryd.func42, Tryd.ntmps42
    go_wp2
    go_loop [5] (fun i => ∃ k : Nat, k ≤ zs.length ∧ i = .int .i64 k ∧ Hid ((zs.take k).all clsB = true)) (fun i => zs.length - (intOf i).toNat)
    case atStart => exact ⟨0, by omega, rfl, Lib.hid rfl⟩
    case round =>
      obtain ⟨k, hk, rfl, hs⟩ := hrel
      by_cases hlt : k < zs.length
      · obtain ⟨b, off, rfl, hb, hc⟩ := H1.out.int (by omega)
        have hc0 := hc k hlt
        clear hc
        obtain ⟨z, hz⟩ : ∃ z, Hid (z = nth zs k) := ⟨_, Lib.hid rfl⟩
        rw [← hz.out] at hc0
        by_cases hp : clsB z = true
        · have HP := Lib.hid hp
          have HS2 := Lib.hid (show (zs.take (k + 1)).all clsB = true by rw [all_step6 zs k hlt (by rw [← hz.out]; exact hp)]; exact hs.out)
          clear hp
          go_wp2_with (go_at_call 43; refine (l1In_cls _ _).mono ?_; rintro e w' ⟨rfl, rfl⟩; rw [HP.out])
          go_round
          case rel => exact ⟨k + 1, by omega, by go_num, HS2⟩
          case measure => first | omega | (simp [intOf]; omega)
        · have hp : clsB z = false := by simpa using hp
          have HP := Lib.hid hp
          have E := Lib.hid (classF_range (s := s) h6 (all_false6 zs k hlt (by rw [← hz.out]; exact hp)))
          clear hp
          go_wp2_with (go_at_call 43; refine (l1In_cls _ _).mono ?_; rintro e w' ⟨rfl, rfl⟩; rw [HP.out])
          go_ret
          exact ⟨rint E.out.symm, rfl⟩
      · have HA := Lib.hid (show zs.all clsB = true by have := hs.out; rwa [List.take_of_length_le (by omega)] at this)
        by_cases hp : 0 ≤ s ∧ s ≤ 1
        · have E := Lib.hid (classF_ok h6 HA.out hp)
          have hs01 : s = 0 ∨ s = 1 := by omega
          clear hp
          rcases hs01 with rfl | rfl
          all_goals
            go_wp2
            go_ret
            exact ⟨rint E.out.symm, rfl⟩
        · have E := Lib.hid (classF_form h6 HA.out hp)
          have e0 : (s != 0) = true := by simp; omega
          have e1 : (s != 1) = true := by simp; omega
          clear hp
          go_wp2
          go_ret
          exact ⟨rint E.out.symm, rfl⟩
theorem specClassesFault_val (v : Value) (zs : List Int) (s : Int) (w : World) (B : Nat) (h : Sees w B .i64 v zs) (_ : B ≤ w.heap.size) (l : zs.length < 1000000000) (_ : ∀ n ∈ zs, (Lit.int .i64 n).wf = true) (_ : (Lit.int .i64 s).wf = true) :
    Calls Tryd.prog 42 #[v, .int .i64 s] w fun e w' => e = .returned (.int .i64 (classF zs s)) ∧ Below w.heap.size w w' := by
  obtain ⟨A, c, rfl, hr⟩ := h
  exact (specClassesFault_any A zs c s w B hr l).mono fun e w' ⟨he, hw⟩ => ⟨he, by subst hw; exact Below.refl _ _⟩
end Go.Proofs.YtkkojemnbcddfaaDoor
