/- Beginnings: isBeginning and CarryFault of the program, l1Size, l1Second, l1Front and CarryFault of the model. -/
import Derived.Test.YtmkpbfghnkmcgaaDoorT1
import Derived.Test.YtmkpbfghnkmcgaaDoorA1
import Derived.IntWalk
namespace Go.Proofs.YtmkpbfghnkmcgaaDoor
open Go.RowKit

set_option maxRecDepth 100000 in
set_option maxHeartbeats 400000 in
theorem isBeginning_any (A : Option Addr) (bs : List Int) (c : Nat) (w : World) (B : Nat) (hT : Tabs w) (hr : Rd w B A (nums .u8 bs)) (hB : B ≤ w.heap.size) (hb : ∀ b ∈ bs, isByte b) (hl : bs.length < 1000000000) :
    Calls Tryd.prog 49 #[.slice A bs.length c] w fun e w' => e = .returned (.bool (decide (0 < bs.length) && begins bs)) ∧ Below w.heap.size w w' := by
  have HR := Lib.hid hr
  have HT := Lib.hid hT
  have HB := Lib.hid hb
  clear hr hT hb
  by_cases h0 : 0 < bs.length
  · go_enter Tryd.func49, Tryd.ntmps49
    go_wp2_with (go_at_call 60; refine (fullRune_any A bs c w B HT.out HR.out hB HB.out h0 hl).mono ?_; rintro e w' ⟨rfl, hw⟩)
    go_ret
    exact ⟨rbool (by simp [h0]), hw⟩
  · go_enter Tryd.func49, Tryd.ntmps49
    go_wp2
    go_ret
    exact ⟨rbool (by simp [h0]), Below.refl _ _⟩

def carryF (bs : List Int) : Int := if bs.length = 0 ∨ begins bs = true then 0 else 1

set_option maxRecDepth 100000 in
set_option maxHeartbeats 400000 in
theorem carryFault_any (A : Option Addr) (bs : List Int) (c : Nat) (w : World) (B : Nat) (hT : Tabs w) (hr : Rd w B A (nums .u8 bs)) (hB : B ≤ w.heap.size) (hb : ∀ b ∈ bs, isByte b) (hl : bs.length < 1000000000) :
    Calls Tryd.prog 24 #[.slice A bs.length c] w fun e w' => e = .returned (.int .i64 (carryF bs)) ∧ Below w.heap.size w w' := by
  have HR := Lib.hid hr
  have HT := Lib.hid hT
  have HB := Lib.hid hb
  clear hr hT hb
  by_cases h0 : 0 < bs.length
  · by_cases hg : begins bs = true
    · have e0 : Hid (carryF bs = 0) := Lib.hid (by unfold carryF; rw [if_pos (.inr hg)])
      have e1 : Hid ((decide (0 < bs.length) && begins bs) = true) := Lib.hid (by simp [h0, hg])
      clear hg
      go_enter Tryd.func24, Tryd.ntmps24
      go_wp2_with (go_at_call 49; refine (isBeginning_any A bs c w B HT.out HR.out hB HB.out hl).mono ?_; rintro e w' ⟨rfl, hw⟩; rw [e1.out])
      go_ret
      exact ⟨rint e0.out.symm, hw⟩
    · have e0 : Hid (carryF bs = 1) := Lib.hid (by unfold carryF; rw [if_neg (by simp only [hg]; simp; intro e; simp [e] at h0)])
      have e1 : Hid ((decide (0 < bs.length) && begins bs) = false) := Lib.hid (by simp [hg])
      clear hg
      go_enter Tryd.func24, Tryd.ntmps24
      go_wp2_with (go_at_call 49; refine (isBeginning_any A bs c w B HT.out HR.out hB HB.out hl).mono ?_; rintro e w' ⟨rfl, hw⟩; rw [e1.out])
      go_ret
      exact ⟨rint e0.out.symm, hw⟩
  · have e0 : Hid (carryF bs = 0) := Lib.hid (by unfold carryF; rw [if_pos (.inl (by omega))])
    go_enter Tryd.func24, Tryd.ntmps24
    go_wp2
    go_ret
    exact ⟨rint e0.out.symm, Below.refl _ _⟩

set_option maxRecDepth 100000 in
set_option maxHeartbeats 400000 in
theorem l1Size_any (b : Int) (w : World) (h0 : 0 ≤ b) (h1 : b ≤ 255) :
    Calls Tryd.prog 50 #[.int .i64 b] w fun e w' => e = .returned (.int .i64 (size0 b)) ∧ w = w' := by
  rcases (show b < 128 ∨ (128 ≤ b ∧ b < 194) ∨ (194 ≤ b ∧ b ≤ 223) ∨ (224 ≤ b ∧ b ≤ 239) ∨ (240 ≤ b ∧ b ≤ 244) ∨ 245 ≤ b by omega) with h | h | h | h | h | h
  all_goals
    go_enter Tryd.func50, Tryd.ntmps50
    go_wp2
    go_ret
    refine ⟨rint ?_, rfl⟩
    unfold size0
    repeat' split
    all_goals omega

set_option maxRecDepth 100000 in
set_option maxHeartbeats 400000 in
theorem l1Second_any (f b : Int) (w : World) (h0 : 0 ≤ f) (h1 : f ≤ 255) :
    Calls Tryd.prog 61 #[.int .i64 f, .int .i64 b] w fun e w' => e = .returned (.bool (snd f b)) ∧ w = w' := by
  rcases (show f = 224 ∨ f = 237 ∨ f = 240 ∨ f = 244 ∨ (f ≠ 224 ∧ f ≠ 237 ∧ f ≠ 240 ∧ f ≠ 244) by omega) with h | h | h | h | ⟨g1, g2, g3, g4⟩
  · subst h
    go_enter Tryd.func61, Tryd.ntmps61
    go_wp2_with (go_at_call 47; refine (l1In_any _ _ _ _).mono ?_; rintro e w' ⟨rfl, rfl⟩)
    go_ret
    exact ⟨rbool (by simp [snd, lo2, hi2]), rfl⟩
  · subst h
    go_enter Tryd.func61, Tryd.ntmps61
    go_wp2_with (go_at_call 47; refine (l1In_any _ _ _ _).mono ?_; rintro e w' ⟨rfl, rfl⟩)
    go_ret
    exact ⟨rbool (by simp [snd, lo2, hi2]), rfl⟩
  · subst h
    go_enter Tryd.func61, Tryd.ntmps61
    go_wp2_with (go_at_call 47; refine (l1In_any _ _ _ _).mono ?_; rintro e w' ⟨rfl, rfl⟩)
    go_ret
    exact ⟨rbool (by simp [snd, lo2, hi2]), rfl⟩
  · subst h
    go_enter Tryd.func61, Tryd.ntmps61
    go_wp2_with (go_at_call 47; refine (l1In_any _ _ _ _).mono ?_; rintro e w' ⟨rfl, rfl⟩)
    go_ret
    exact ⟨rbool (by simp [snd, lo2, hi2]), rfl⟩
  · have e : Hid (snd f b = decide (128 ≤ b ∧ b ≤ 191)) := Lib.hid (by simp [snd, lo2, hi2, g1, g2, g3, g4])
    have d1 : (f == 224) = false := by simp [g1]
    have d2 : (f == 237) = false := by simp [g2]
    have d3 : (f == 240) = false := by simp [g3]
    have d4 : (f == 244) = false := by simp [g4]
    clear g1 g2 g3 g4
    go_enter Tryd.func61, Tryd.ntmps61
    go_wp2_with (go_at_call 47; refine (l1In_any _ _ _ _).mono ?_; rintro e w' ⟨rfl, rfl⟩)
    go_ret
    exact ⟨rbool (by rw [e.out]; simp), rfl⟩

theorem okAt_one (bs : List Int) : okAt bs 1 = snd (nth bs 0) (nth bs 1) := by unfold okAt; rw [if_pos rfl]
theorem okAt_more (bs : List Int) (k : Nat) (h : 1 < k) : okAt bs k = cont (nth bs k) := by unfold okAt; rw [if_neg (by omega)]

set_option maxRecDepth 100000 in
set_option maxHeartbeats 1000000 in
theorem l1Front_any (A : Option Addr) (bs : List Int) (c : Nat) (w : World) (B : Nat) (hr : Rd w B A (nums .u8 bs)) (hb : ∀ b ∈ bs, isByte b) (h0 : 0 < bs.length) (hl : bs.length < 1000000000) :
    Calls Tryd.prog 51 #[.slice A bs.length c] w fun e w' => e = .returned (.int .i64 (front bs)) ∧ ∃ n, w' = w.drewN n := by
  obtain ⟨b, off, rfl, hbB, hc⟩ := hr.int h0
  have hc0 := hc 0 h0
  simp only [Nat.add_zero] at hc0
  have HC := Lib.hid hc
  have HB := Lib.hid (fun k (hk : k < bs.length) => hb (nth bs k) (by simp [nth, List.getElem?_eq_getElem hk]))
  have r0 := HB.out 0 h0
  unfold isByte at r0
  have s4 := size0_cases (nth bs 0)
  obtain ⟨S, hS⟩ : ∃ S, Hid (S = size0 (nth bs 0)) := ⟨_, Lib.hid rfl⟩
  rw [← hS.out] at s4
  clear hc hb hr
  go_enter Tryd.func51, Tryd.ntmps51
  go_wp2_with (go_at_call 50; refine (l1Size_any _ _ (by omega) (by omega)).mono ?_; rintro e w' ⟨rfl, rfl⟩; rw [← hS.out])
  go_loopw [4] (fun i wr => ∃ k n : Nat, 1 ≤ k ∧ k ≤ 4 ∧ i = .int .i64 k ∧ Hid (k ≤ front bs) ∧ wr = w.drewN n) (fun i _ => 5 - (intOf i).toNat)
  case atStart => exact ⟨1, 0, by omega, by omega, rfl, Lib.hid (front_lo bs), rfl⟩
  case round =>
    obtain ⟨k, n, hk1, hk4, rfl, hf, rfl⟩ := hrel
    by_cases g1 : (k : Int) < S
    · by_cases g2 : k < bs.length
      · have hck := HC.out k g2
        have rk := HB.out k g2
        unfold isByte at rk
        by_cases hk : k = 1
        · subst hk
          rw [show ((1 : Nat) : Int) = 1 from rfl]
          have i1 : (1 : Int) < (bs.length : Int) := by omega
          have i0 : (0 : Int) < (bs.length : Int) := by omega
          have v0 : IntKind.i64.wrap (nth bs 0) = nth bs 0 := IntWalk.i64_in _ (by omega)
          have v1 : IntKind.i64.wrap (nth bs 1) = nth bs 1 := IntWalk.i64_in _ (by omega)
          by_cases g3 : snd (nth bs 0) (nth bs 1) = true
          · have G3 := Lib.hid g3
            clear g3
            go_wp2
            go_quiet ((go_at_call 61; exact quiet_add (same_draw (v' := .bool true) (l1Second_any _ _ _ r0.1 r0.2) (by rw [G3.out]))))
            go_wp2
            go_roundw
            case rel => exact ⟨2, _, by omega, by omega, rfl, Lib.hid (front_up bs 1 (by omega) hf.out (by rw [← hS.out]; exact g1) g2 (by rw [okAt_one]; exact G3.out)), rfl⟩
            case measure => first | omega | (simp [intOf])
          · have G3 : Hid (snd (nth bs 0) (nth bs 1) = false) := Lib.hid (by simpa using g3)
            clear g3
            go_wp2
            go_quiet ((go_at_call 61; exact quiet_add (same_draw (v' := .bool false) (l1Second_any _ _ _ r0.1 r0.2) (by rw [G3.out]))))
            go_wp2
            go_ret
            refine ⟨rint ?_, _, World.drewN_drewN _ _ _⟩
            rw [front_eq bs 1 (by omega) hf.out (by rw [okAt_one, G3.out]; simp)]
            rfl
        · have v1 : IntKind.i64.wrap (nth bs k) = nth bs k := IntWalk.i64_in _ (by omega)
          have j1 : ((k : Int) == 1) = false := by simp; omega
          have j2 : decide ((1 : Int) < (k : Int)) = true := by simp; omega
          by_cases g3 : cont (nth bs k) = true
          · have G3 := Lib.hid g3
            clear g3
            go_wp2
            go_quiet ((go_at_call 47; exact quiet_add (same_draw (v' := .bool true) (l1In_any _ _ _ _) (by have := G3.out; simp only [cont] at this; simp at this; simp [this]))))
            go_wp2
            go_roundw
            case rel => exact ⟨k + 1, _, by omega, by have := size0_cases (nth bs 0); have := hS.out; omega, by go_num, Lib.hid (front_up bs k (by omega) hf.out (by rw [← hS.out]; exact g1) g2 (by rw [okAt_more bs k (by omega)]; exact G3.out)), rfl⟩
            case measure => first | omega | (simp [intOf]; omega)
          · have G3 : Hid (cont (nth bs k) = false) := Lib.hid (by simpa using g3)
            clear g3
            go_wp2
            go_quiet ((go_at_call 47; exact quiet_add (same_draw (v' := .bool false) (l1In_any _ _ _ _) (by have := G3.out; simp only [cont] at this; simp at this; simp; exact this))))
            go_wp2
            go_ret
            refine ⟨rint ?_, _, World.drewN_drewN _ _ _⟩
            rw [front_eq bs k (by omega) hf.out (by rw [okAt_more bs k (by omega), G3.out]; simp)]
      · go_wp2
        go_ret
        exact ⟨rint (by rw [front_eq bs k (by omega) hf.out (by omega)]), n, rfl⟩
    · have g1' : S ≤ (k : Int) := by omega
      clear g1
      go_wp2
      go_ret
      exact ⟨rint (by rw [front_eq bs k (by omega) hf.out (by have := hS.out; omega)]), n, rfl⟩

set_option maxRecDepth 100000 in
set_option maxHeartbeats 1000000 in
theorem specCarryFault_any (A : Option Addr) (bs : List Int) (c : Nat) (w : World) (B : Nat) (hr : Rd w B A (nums .u8 bs)) (hb : ∀ b ∈ bs, isByte b) (hl : bs.length < 1000000000) :
    Calls Tryd.prog 25 #[.slice A bs.length c] w fun e w' => e = .returned (.int .i64 (carryF bs)) ∧ ∃ n, w' = w.drewN n := by
  by_cases h0 : bs.length = 0
  · have e0 : Hid (carryF bs = 0) := Lib.hid (by unfold carryF; rw [if_pos (.inl h0)])
    have i0 : ((bs.length : Int) == 0) = true := by simp [h0]
    clear h0
    go_enter Tryd.func25, Tryd.ntmps25
    go_wp2
    go_ret
    exact ⟨rint e0.out.symm, 0, rfl⟩
  · have h0' : 0 < bs.length := by omega
    have i0 : ((bs.length : Int) == 0) = false := beq_eq_false_iff_ne.2 (by omega)
    obtain ⟨b, off, rfl, hbB, hc⟩ := hr.int h0'
    have hc0 := hc 0 h0'
    simp only [Nat.add_zero] at hc0
    have r0 := hb (nth bs 0) (by simp [nth, List.getElem?_eq_getElem h0'])
    unfold isByte at r0
    have HR := Lib.hid hr
    have HB := Lib.hid hb
    obtain ⟨S, hS⟩ : ∃ S, Hid (S = size0 (nth bs 0)) := ⟨_, Lib.hid rfl⟩
    have s4 := size0_cases (nth bs 0)
    rw [← hS.out] at s4
    have e0 : Hid (carryF bs = if (decide (bs.length ≤ 3) && decide (front bs = bs.length) && decide ((bs.length : Int) < size0 (nth bs 0))) = true then 0 else 1) := by
      apply Lib.hid
      unfold carryF
      rw [← begins_eq bs h0']
      simp [h0]
    have fl := front_len bs h0'
    clear hc hr hb h0
    by_cases g1 : 3 < bs.length
    · have e1 : Hid (carryF bs = 1) := Lib.hid (by rw [e0.out]; simp [show ¬ bs.length ≤ 3 by omega])
      go_enter Tryd.func25, Tryd.ntmps25
      go_wp2_with (go_at_call 50; refine (l1Size_any _ _ (by omega) (by omega)).mono ?_; rintro e w' ⟨rfl, rfl⟩; rw [← hS.out])
      go_ret
      exact ⟨rint e1.out.symm, 0, rfl⟩
    · by_cases g2 : front bs = bs.length
      · have j2 : ((front bs : Int) != (bs.length : Int)) = false := by simp; omega
        have G2 := Lib.hid g2
        clear g2
        by_cases g3 : (bs.length : Int) < S
        · have e1 : Hid (carryF bs = 0) := Lib.hid (by rw [e0.out, ← hS.out]; simp [G2.out, g3]; omega)
          go_enter Tryd.func25, Tryd.ntmps25
          go_wp2_with (first
            | (go_at_call 50; refine (l1Size_any _ _ (by omega) (by omega)).mono ?_; rintro e w' ⟨rfl, rfl⟩; rw [← hS.out])
            | (go_at_call 51; refine (l1Front_any _ bs c _ _ HR.out HB.out h0' hl).mono ?_; rintro e w' ⟨rfl, n, rfl⟩))
          go_ret
          exact ⟨rint e1.out.symm, _, rfl⟩
        · have e1 : Hid (carryF bs = 1) := Lib.hid (by rw [e0.out, ← hS.out]; simp [g3])
          go_enter Tryd.func25, Tryd.ntmps25
          go_wp2_with (first
            | (go_at_call 50; refine (l1Size_any _ _ (by omega) (by omega)).mono ?_; rintro e w' ⟨rfl, rfl⟩; rw [← hS.out])
            | (go_at_call 51; refine (l1Front_any _ bs c _ _ HR.out HB.out h0' hl).mono ?_; rintro e w' ⟨rfl, n, rfl⟩))
          go_ret
          exact ⟨rint e1.out.symm, _, rfl⟩
      · have j2 : ((front bs : Int) != (bs.length : Int)) = true := by simp; omega
        have e1 : Hid (carryF bs = 1) := Lib.hid (by rw [e0.out]; simp [g2])
        clear g2
        go_enter Tryd.func25, Tryd.ntmps25
        go_wp2_with (first
          | (go_at_call 50; refine (l1Size_any _ _ (by omega) (by omega)).mono ?_; rintro e w' ⟨rfl, rfl⟩; rw [← hS.out])
          | (go_at_call 51; refine (l1Front_any _ bs c _ _ HR.out HB.out h0' hl).mono ?_; rintro e w' ⟨rfl, n, rfl⟩))
        go_ret
        exact ⟨rint e1.out.symm, _, rfl⟩

theorem carryFault_val (v : Value) (zs : List Int) (w : World) (hT : Tabs w) (B : Nat) (h : Sees w B .u8 v zs) (hB : B ≤ w.heap.size) (l : zs.length < 1000000000) (hw : ∀ n ∈ zs, (Lit.int .u8 n).wf = true) :
    Calls Tryd.prog 24 #[v] w fun e w' => e = .returned (.int .i64 (carryF zs)) ∧ Below w.heap.size w w' := by
  obtain ⟨A, c, rfl, hr⟩ := h
  exact carryFault_any A zs c w B hT hr hB (bytes_of hw) l
theorem specCarryFault_val (v : Value) (zs : List Int) (w : World) (_ : Tabs w) (B : Nat) (h : Sees w B .u8 v zs) (_ : B ≤ w.heap.size) (l : zs.length < 1000000000) (hw : ∀ n ∈ zs, (Lit.int .u8 n).wf = true) :
    Calls Tryd.prog 25 #[v] w fun e w' => e = .returned (.int .i64 (carryF zs)) ∧ Below w.heap.size w w' := by
  obtain ⟨A, c, rfl, hr⟩ := h
  exact (specCarryFault_any A zs c w B hr (bytes_of hw) l).mono fun e w' ⟨he, n, hn⟩ => ⟨he, by subst hn; exact below_draw w n _⟩
end Go.Proofs.YtmkpbfghnkmcgaaDoor
