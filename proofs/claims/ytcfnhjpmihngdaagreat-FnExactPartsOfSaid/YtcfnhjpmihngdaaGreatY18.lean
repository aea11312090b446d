/- Chapter 4: the model's state: its last entry, what takes it, the next level. -/
import Derived.Test.YtcfnhjpmihngdaaGreatY05
import Derived.Test.YtcfnhjpmihngdaaGreatY17
import Derived.Test.YtcfnhjpmihngdaaGreatY15
import Derived.Test.YtcfnhjpmihngdaaGreatY08
import Derived.Test.YtcfnhjpmihngdaaGreatY16
namespace Go.Proofs.YtcfnhjpmihngdaaGreat
open Go.RowKit Go.Maps

def lvl (n : Int) : Bool := decide (0 ≤ n ∧ n ≤ 999)
def oddV (n : Int) : Int := if 0 ≤ n ∧ n ≤ 999 then lodd n else 0
def evenV (n : Int) : Int := if 0 ≤ n ∧ n ≤ 999 then leven n else 0
theorem oddV_in {n : Int} (h : 0 ≤ n ∧ n ≤ 999) : oddV n = lodd n := by unfold oddV; rw [if_pos h]
theorem evenV_in {n : Int} (h : 0 ≤ n ∧ n ≤ 999) : evenV n = leven n := by unfold evenV; rw [if_pos h]
theorem l4Level_any (n : Int) (w : World) : Calls Tryz.prog 88 #[.int .i64 n] w fun e w' => e = .returned (.bool (lvl n)) ∧ w = w' := by
  go_enter Tryz.func88, Tryz.ntmps88
  go_wp2_with (go_at_call 21; refine (l1In_any _ _ _ _).mono ?_; rintro e w' ⟨rfl, rfl⟩)
  go_ret
  exact ⟨rbool (by simp [lvl]), rfl⟩
theorem specLeastOdd_any (n : Int) (w : World) : Calls Tryz.prog 60 #[.int .i64 n] w fun e w' => e = .returned (.int .i64 (oddV n)) ∧ w = w' := by
  by_cases h : 0 ≤ n ∧ n ≤ 999
  · have hl : lvl n = true := by unfold lvl; simp [h]
    have hv := Lib.hid (show oddV n = lodd n by unfold oddV; rw [if_pos h])
    obtain ⟨h0, h1⟩ := h
    go_enter Tryz.func60, Tryz.ntmps60
    go_wp2_with (go_at_call 88; refine (l4Level_any _ _).mono ?_; rintro e w' ⟨rfl, rfl⟩)
    go_ret
    refine ⟨rint ?_, rfl⟩
    rw [hv.out]
    unfold lodd
    first | (with_reducible rfl) | simp only []
  · have hl : lvl n = false := by unfold lvl; simp [h]
    have hv := Lib.hid (show oddV n = 0 by unfold oddV; rw [if_neg h])
    clear h
    go_enter Tryz.func60, Tryz.ntmps60
    go_wp2_with (go_at_call 88; refine (l4Level_any _ _).mono ?_; rintro e w' ⟨rfl, rfl⟩)
    go_ret
    exact ⟨rint hv.out.symm, rfl⟩
theorem specLeastOdd_val (n : Int) (w : World) (_ : (Lit.int .i64 n).wf = true) : Calls Tryz.prog 60 #[.int .i64 n] w fun e w' => e = .returned (.int .i64 (oddV n)) ∧ Below w.heap.size w w' :=
  (specLeastOdd_any n w).mono fun _ _ ⟨he, hw⟩ => ⟨he, by subst hw; exact Below.refl _ _⟩
theorem leastOdd_any (n : Int) (w : World) : Calls Tryz.prog 107 #[.int .i64 n] w fun e w' => e = .returned (.int .i64 (oddV n)) ∧ Below w.heap.size w w' := by
  have b0 := (Below.refl w.heap.size w).alloc (Nat.le_refl _) (.cells #[.int .i64 0, .int .i64 999] 2)
  by_cases h : 0 ≤ n ∧ n ≤ 999
  · have hl : spans n [0, 999] = true := by simp [spans, h]
    have hv := Lib.hid (show oddV n = lodd n by unfold oddV; rw [if_pos h])
    obtain ⟨h0, h1⟩ := h
    go_enter Tryz.func107, Tryz.ntmps107
    go_wp2_with (go_at_call 67; (with_reducible refine (within_lit2 _ _ _ _ _ _ (by simp)).mono ?_); rintro e w' ⟨rfl, rfl⟩)
    go_ret
    refine ⟨rint ?_, b0⟩
    rw [hv.out]
    unfold lodd
    first | (with_reducible rfl) | simp only []
  · have hl : spans n [0, 999] = false := by simp [spans]; omega
    have hv := Lib.hid (show oddV n = 0 by unfold oddV; rw [if_neg h])
    clear h
    go_enter Tryz.func107, Tryz.ntmps107
    go_wp2_with (go_at_call 67; (with_reducible refine (within_lit2 _ _ _ _ _ _ (by simp)).mono ?_); rintro e w' ⟨rfl, rfl⟩)
    go_ret
    exact ⟨rint hv.out.symm, b0⟩
theorem leastOdd_val (n : Int) (w : World) (_ : (Lit.int .i64 n).wf = true) : Calls Tryz.prog 107 #[.int .i64 n] w fun e w' => e = .returned (.int .i64 (oddV n)) ∧ Below w.heap.size w w' := leastOdd_any n w
theorem specLeastEven_any (n : Int) (w : World) : Calls Tryz.prog 61 #[.int .i64 n] w fun e w' => e = .returned (.int .i64 (evenV n)) ∧ w = w' := by
  by_cases h : 0 ≤ n ∧ n ≤ 999
  · have hl : lvl n = true := by unfold lvl; simp [h]
    have hv := Lib.hid (show evenV n = leven n by unfold evenV; rw [if_pos h])
    obtain ⟨h0, h1⟩ := h
    go_enter Tryz.func61, Tryz.ntmps61
    go_wp2_with (go_at_call 88; refine (l4Level_any _ _).mono ?_; rintro e w' ⟨rfl, rfl⟩)
    go_ret
    refine ⟨rint ?_, rfl⟩
    rw [hv.out]
    unfold leven
    first | (with_reducible rfl) | simp only []
  · have hl : lvl n = false := by unfold lvl; simp [h]
    have hv := Lib.hid (show evenV n = 0 by unfold evenV; rw [if_neg h])
    clear h
    go_enter Tryz.func61, Tryz.ntmps61
    go_wp2_with (go_at_call 88; refine (l4Level_any _ _).mono ?_; rintro e w' ⟨rfl, rfl⟩)
    go_ret
    exact ⟨rint hv.out.symm, rfl⟩
theorem specLeastEven_val (n : Int) (w : World) (_ : (Lit.int .i64 n).wf = true) : Calls Tryz.prog 61 #[.int .i64 n] w fun e w' => e = .returned (.int .i64 (evenV n)) ∧ Below w.heap.size w w' :=
  (specLeastEven_any n w).mono fun _ _ ⟨he, hw⟩ => ⟨he, by subst hw; exact Below.refl _ _⟩
theorem leastEven_any (n : Int) (w : World) : Calls Tryz.prog 108 #[.int .i64 n] w fun e w' => e = .returned (.int .i64 (evenV n)) ∧ Below w.heap.size w w' := by
  have b0 := (Below.refl w.heap.size w).alloc (Nat.le_refl _) (.cells #[.int .i64 0, .int .i64 999] 2)
  by_cases h : 0 ≤ n ∧ n ≤ 999
  · have hl : spans n [0, 999] = true := by simp [spans, h]
    have hv := Lib.hid (show evenV n = leven n by unfold evenV; rw [if_pos h])
    obtain ⟨h0, h1⟩ := h
    go_enter Tryz.func108, Tryz.ntmps108
    go_wp2_with (go_at_call 67; (with_reducible refine (within_lit2 _ _ _ _ _ _ (by simp)).mono ?_); rintro e w' ⟨rfl, rfl⟩)
    go_ret
    refine ⟨rint ?_, b0⟩
    rw [hv.out]
    unfold leven
    first | (with_reducible rfl) | simp only []
  · have hl : spans n [0, 999] = false := by simp [spans]; omega
    have hv := Lib.hid (show evenV n = 0 by unfold evenV; rw [if_neg h])
    clear h
    go_enter Tryz.func108, Tryz.ntmps108
    go_wp2_with (go_at_call 67; (with_reducible refine (within_lit2 _ _ _ _ _ _ (by simp)).mono ?_); rintro e w' ⟨rfl, rfl⟩)
    go_ret
    exact ⟨rint hv.out.symm, b0⟩
theorem leastEven_val (n : Int) (w : World) (_ : (Lit.int .i64 n).wf = true) : Calls Tryz.prog 108 #[.int .i64 n] w fun e w' => e = .returned (.int .i64 (evenV n)) ∧ Below w.heap.size w w' := leastEven_any n w

/-- whether a class separates paragraphs -/
def hasB (ks : List Int) : Bool := ks.any (fun k => decide (k = 10))
theorem hasB_cons (ks : List Int) (k : Nat) (h : k < ks.length) : hasB (ks.drop k) = (decide (nth ks k = 10) || hasB (ks.drop (k + 1))) := by rw [drop_nth ks k h]; rfl
def paraF (zs : List Int) (base : Int) : Int := if textF zs = 0 then (if 0 ≤ base ∧ base ≤ 1 then (if hasB (classesN zs) then 1 else 0) else 3) else textF zs
theorem paraF_bad {zs : List Int} {b : Int} (h : textF zs ≠ 0) : paraF zs b = textF zs := by unfold paraF; rw [if_neg h]
theorem paraF_base {zs : List Int} {b : Int} (h : textF zs = 0) (h2 : ¬ (0 ≤ b ∧ b ≤ 1)) : paraF zs b = 3 := by unfold paraF; rw [if_pos h, if_neg h2]
theorem paraF_in {zs : List Int} {b : Int} (h : textF zs = 0) (h2 : 0 ≤ b ∧ b ≤ 1) : paraF zs b = if hasB (classesN zs) then 1 else 0 := by unfold paraF; rw [if_pos h, if_pos h2]
theorem paraF_zero {zs : List Int} {b : Int} (h : paraF zs b = 0) : textF zs = 0 ∧ 0 ≤ b ∧ b ≤ 1 ∧ hasB (classesN zs) = false := by
  unfold paraF at h
  split at h
  · split at h
    · split at h
      · omega
      · rename_i h1 h2 h3
        exact ⟨h1, h2.1, h2.2, by simpa using h3⟩
    · omega
  · omega

set_option maxRecDepth 100000 in
set_option maxHeartbeats 1000000 in
theorem specParaFault_any (A : Option Addr) (zs : List Int) (c : Nat) (b : Int) (w : World) (B : Nat) (h1 : Rd w B A (nums .i64 zs)) (hl : zs.length < 1000000000) :
    Calls Tryz.prog 12 #[.slice A zs.length c, .int .i64 b] w fun e w' => e = .returned (.int .i64 (paraF zs b)) ∧ w = w' := by
  have H1 := Lib.hid h1
  clear h1
  by_cases hz : textF zs = 0
  · have HZ := Lib.hid (textF_zero hz)
    by_cases hb : 0 ≤ b ∧ b ≤ 1
    · have PF := Lib.hid (paraF_in hz hb)
      have hbb : (decide (0 ≤ b ∧ b ≤ 1)) = true := decide_eq_true hb
      obtain ⟨ans, hans⟩ : ∃ x, Hid (x = paraF zs b) := ⟨_, Lib.hid rfl⟩
      rw [← hans.out] at PF ⊢
      go_enter Tryz.func12, Tryz.ntmps12
      go_wp2_with (first
        | (go_at_call 20; refine (specTextFault_any A zs c _ B H1.out hl).mono ?_; rintro e w' ⟨rfl, rfl⟩; rw [hz])
        | (go_at_call 21; refine (l1In_any _ _ _ _).mono ?_; rintro e w' ⟨rfl, rfl⟩; rw [hbb]))
      go_loop [6] (fun i => ∃ k : Nat, k ≤ zs.length ∧ i = .int .i64 k ∧ Hid (ans = if hasB ((classesN zs).drop k) then 1 else 0)) (fun i => zs.length + 1 - (intOf i).toNat)
      case atStart => exact ⟨0, by omega, rfl, PF⟩
      case round =>
        obtain ⟨k, hk, rfl, hs⟩ := hrel
        by_cases hlt : k < zs.length
        · obtain ⟨b', off, rfl, hb', hc⟩ := H1.out.int (by omega)
          have hc0 := hc k hlt
          clear hc
          have hch := chr_nth zs HZ.out.2 k hlt
          have hz1' : 0 ≤ nth zs k := by simp only [chrB, decide_eq_true_eq] at hch; omega
          have hcl := fun w => l2Class_any (nth zs k) w hz1'
          have BC := Lib.hid (hasB_cons (classesN zs) k (by rw [classesN_len]; exact hlt))
          rw [← classesN_nth zs k hlt] at hcl
          have HCL := Lib.hid hcl
          clear hcl hch hz1'
          obtain ⟨z, hzz⟩ : ∃ z, Hid (z = nth zs k) := ⟨_, Lib.hid rfl⟩
          rw [← hzz.out] at hc0 HCL
          obtain ⟨q, hq⟩ : ∃ q, Hid (q = nth (classesN zs) k) := ⟨_, Lib.hid rfl⟩
          rw [← hq.out] at HCL BC
          by_cases h10 : q = 10
          · have n10 : (q == 10) = true := by simp [h10]
            have E := Lib.hid (show ans = 1 by rw [hs.out, BC.out]; simp [h10])
            clear h10
            go_wp2_with (go_at_call 22; refine (HCL.out _).mono ?_; rintro e w' ⟨rfl, rfl⟩)
            go_ret
            exact ⟨rint E.out.symm, rfl⟩
          · have n10 : (q == 10) = false := by simpa using h10
            have E := Lib.hid (show ans = if hasB ((classesN zs).drop (k + 1)) then 1 else 0 by rw [hs.out, BC.out]; simp [h10])
            clear h10
            go_wp2_with (go_at_call 22; refine (HCL.out _).mono ?_; rintro e w' ⟨rfl, rfl⟩)
            go_round
            case rel => exact ⟨k + 1, by omega, by go_num, E⟩
            case measure => first | omega | (simp [intOf]; omega)
        · have E := Lib.hid (show ans = 0 by rw [hs.out, List.drop_of_length_le (by rw [classesN_len]; omega)]; rfl)
          go_wp2
          go_ret
          exact ⟨rint E.out.symm, rfl⟩
    · have PF := Lib.hid (paraF_base hz hb)
      have hbb : (decide (0 ≤ b ∧ b ≤ 1)) = false := decide_eq_false hb
      go_enter Tryz.func12, Tryz.ntmps12
      go_wp2_with (first
        | (go_at_call 20; refine (specTextFault_any A zs c _ B H1.out hl).mono ?_; rintro e w' ⟨rfl, rfl⟩; rw [hz])
        | (go_at_call 21; refine (l1In_any _ _ _ _).mono ?_; rintro e w' ⟨rfl, rfl⟩; rw [hbb]))
      go_ret
      exact ⟨rint PF.out.symm, rfl⟩
  · have PF := Lib.hid (paraF_bad (b := b) hz)
    obtain ⟨q, hq⟩ : ∃ q, Hid (q = textF zs) := ⟨_, Lib.hid rfl⟩
    have hne : (q != 0) = true := by rw [hq.out]; simpa using hz
    rw [← hq.out] at PF
    clear hz
    go_enter Tryz.func12, Tryz.ntmps12
    go_wp2_with (go_at_call 20; refine (specTextFault_any A zs c _ B H1.out hl).mono ?_; rintro e w' ⟨rfl, rfl⟩; rw [← hq.out])
    go_ret
    exact ⟨rint PF.out.symm, rfl⟩
theorem specParaFault_val (v : Value) (zs : List Int) (b : Int) (w : World) (B : Nat) (h : Sees w B .i64 v zs) (_ : B ≤ w.heap.size) (l : zs.length < 1000000000) (_ : ∀ n ∈ zs, (Lit.int .i64 n).wf = true) (_ : (Lit.int .i64 b).wf = true) :
    Calls Tryz.prog 12 #[v, .int .i64 b] w fun e w' => e = .returned (.int .i64 (paraF zs b)) ∧ Below w.heap.size w w' := by
  obtain ⟨A, c, rfl, hr⟩ := h
  exact (specParaFault_any A zs c b w B hr l).mono fun _ _ ⟨he, hw⟩ => ⟨he, by subst hw; exact Below.refl _ _⟩


set_option maxRecDepth 100000 in
set_option maxHeartbeats 1000000 in
theorem paraFault_any (A : Option Addr) (zs : List Int) (c : Nat) (b : Int) (w : World) (B : Nat) (h1 : Rd w B A (nums .i64 zs)) (hB : B ≤ w.heap.size) (hl : zs.length < 1000000000) :
    Calls Tryz.prog 51 #[.slice A zs.length c, .int .i64 b] w fun e w' => e = .returned (.int .i64 (paraF zs b)) ∧ Below w.heap.size w w' := by
  have H1 := Lib.hid h1
  clear h1
  go_enter Tryz.func51, Tryz.ntmps51
  go_wp2_with fail
  refine (textFault_any A zs c w B H1.out hB hl).mono ?_
  rintro e w1 ⟨rfl, b1⟩
  have R1 := Lib.hid (H1.out.below b1 hB)
  have s1 := b1.size
  have B1 := Lib.hid b1
  clear b1 H1
  by_cases hz : textF zs = 0
  · have HZ := Lib.hid hz
    by_cases hb : 0 ≤ b ∧ b ≤ 1
    · have PF := Lib.hid (paraF_in hz hb)
      have hsp : spans b [0, 1] = true := by simp [spans, hb]
      have hll := (textF_zero hz).1
      rw [hz]
      clear hz hb
      go_wp2_with (go_at_call 67; (with_reducible refine (within_lit2 _ _ _ _ _ _ (by simp)).mono ?_); rintro e w' ⟨rfl, rfl⟩)
      refine (classesOf_any A zs c _ B (R1.out.below ((Below.refl B w1).alloc (by omega) _) (Nat.le_refl _)) (by simp; omega) HZ.out).mono ?_
      rintro e w2 ⟨⟨v2, rfl, o2⟩, b3⟩
      obtain ⟨A2, c2, rfl⟩ := o2.form
      have HB := Lib.hid (below_on (B1.out.alloc B1.out.size _) b3 (Nat.le_refl _))
      have R2 := Lib.hid (Rd.of o2.1)
      have HKL := Lib.hid (classesN_len zs)
      clear o2 b3
      go_wp2_with fail
      refine (contains_any A2 (classesN zs) c2 10 w2 _ R2.out (by rw [HKL.out]; exact hll)).mono ?_
      rintro e w' ⟨rfl, rfl⟩
      have HE := Lib.hid (show (classesN zs).any (fun x => decide (10 = x)) = hasB (classesN zs) by unfold hasB; congr 1; funext x; simp [eq_comm])
      rw [HE.out]
      cases hh : hasB (classesN zs) with
      | true =>
        have E := Lib.hid (show paraF zs b = 1 by rw [PF.out, hh]; rfl)
        clear hh
        go_wp2
        go_ret
        exact ⟨rint E.out.symm, HB.out⟩
      | false =>
        have E := Lib.hid (show paraF zs b = 0 by rw [PF.out, hh]; rfl)
        clear hh
        go_wp2
        go_ret
        exact ⟨rint E.out.symm, HB.out⟩
    · have PF := Lib.hid (paraF_base hz hb)
      have hsp : spans b [0, 1] = false := by simp [spans]; omega
      rw [hz]
      clear hz hb
      go_wp2_with (go_at_call 67; (with_reducible refine (within_lit2 _ _ _ _ _ _ (by simp)).mono ?_); rintro e w' ⟨rfl, rfl⟩)
      go_ret
      exact ⟨rint PF.out.symm, B1.out.alloc B1.out.size _⟩
  · have PF := Lib.hid (paraF_bad (b := b) hz)
    obtain ⟨q, hq⟩ : ∃ q, Hid (q = textF zs) := ⟨_, Lib.hid rfl⟩
    have hne : (q != 0) = true := by rw [hq.out]; simpa using hz
    rw [← hq.out] at PF ⊢
    clear hz
    go_wp2
    go_ret
    exact ⟨rint PF.out.symm, B1.out⟩
theorem paraFault_val (v : Value) (zs : List Int) (b : Int) (w : World) (B : Nat) (h : Sees w B .i64 v zs) (hB : B ≤ w.heap.size) (l : zs.length < 1000000000) (_ : ∀ n ∈ zs, (Lit.int .i64 n).wf = true) (_ : (Lit.int .i64 b).wf = true) :
    Calls Tryz.prog 51 #[v, .int .i64 b] w fun e w' => e = .returned (.int .i64 (paraF zs b)) ∧ Below w.heap.size w w' := by
  obtain ⟨A, c, rfl, hr⟩ := h
  exact paraFault_any A zs c b w B hr hB l
end Go.Proofs.YtcfnhjpmihngdaaGreat

namespace Go.Proofs.YtcfnhjpmihngdaaGreat
open Go.RowKit Go.Maps

/-- the model's state at this program's types -/
abbrev MSt (w : World) (S : Nat → Prop) (g : Nat) (s : Tell) (L C : List Int) (v1 v2 v3 : Value) : Prop := SSt w S g 59 56 2 s L C v1 v2 v3

set_option maxRecDepth 100000 in
set_option maxHeartbeats 1000000 in
theorem sLast_any (w : World) (S : Nat → Prop) (g : Nat) (s : Tell) (L C : List Int) (v1 v2 v3 : Value) (h : MSt w S g s L C v1 v2 v3) (hp : 0 < s.stk.length) (hl : s.stk.length ≤ 700) :
    Calls Tryz.prog 45 #[.pointer (some ⟨g, 0, none⟩)] w fun e w' => e = .returned (.agg #[.int .i64 (topT s.stk).lev, .int .i64 (topT s.stk).way, .bool (topT s.stk).iso]) ∧ Below w.heap.size w w' := by
  obtain ⟨m, hm⟩ : ∃ m, s.stk.length = m + 1 := ⟨s.stk.length - 1, by omega⟩
  have h2 := h.alloc (.cells #[.int .i64 0, .int .i64 0, .bool false] 56)
  obtain ⟨b, c, rfl, -, hbg⟩ := h.r1.addr hp
  have r1 := h2.r1
  rw [hm] at r1
  obtain ⟨t0, t1, t2⟩ := r1.topcells hm
  have hc0 := h2.blk.cell 0 (u := .slice (some ⟨b, 0, none⟩) (m + 1) c) (by rw [hm]; rfl)
  have hcap := r1.cap
  have k0 := Blk.new w 56 #[.int .i64 0, .int .i64 0, .bool false]
  have hbw := h.r1.lt b rfl
  have hgw := h.blk.lt
  have hd0 := k0.cell 0 (u := .int .i64 0) rfl
  have hd1 := k0.cell 1 (u := .int .i64 0) rfl
  have hd2 := k0.cell 2 (u := .bool false) rfl
  have hf0 := k0.frozen 0
  have hf1 := k0.frozen 1
  have hf2 := k0.frozen 2
  have hml : m < 700 := by omega
  obtain ⟨t, ht⟩ : ∃ t, t = topT s.stk := ⟨_, rfl⟩
  rw [← ht] at t0 t1 t2 ⊢
  clear h h2 r1 k0 ht
  go_enter Tryz.func45, Tryz.ntmps45
  go_wp2
  go_region
  go_wp2
  refine bodyPost_ret (v := .agg #[.int .i64 t.lev, .int .i64 t.way, .bool t.iso]) (by simp [results, Tryz.results45, go_sem]) rfl ?_
  exact ⟨rfl, ((Below.refl _ _).alloc (Nat.le_refl _) _).trans ⟨rfl, rfl, rfl, Nat.le_refl _, fun _ _ => rfl⟩⟩

/-- which way the next level is of -/
def leftQ (k : Int) : Bool := decide (k = 15 ∨ k = 18 ∨ k = 20)
def nextN (left : Bool) (n : Int) : Int := if left then lodd n else leven n
theorem nextN_low (left : Bool) (n : Int) (_ : 0 ≤ n) : n < nextN left n ∧ nextN left n ≤ n + 2 := by unfold nextN lodd leven; split <;> omega
set_option maxRecDepth 100000 in
set_option maxHeartbeats 1000000 in
theorem sNext_any (k n : Int) (w : World) (h0 : 0 ≤ n) (h1 : n ≤ 999) :
    Calls Tryz.prog 44 #[.int .i64 k, .int .i64 n] w fun e w' => e = .returned (.int .i64 (nextN (leftQ k) n)) ∧ w = w' := by
  have ho := Lib.hid (oddV_in ⟨h0, h1⟩)
  have he := Lib.hid (evenV_in ⟨h0, h1⟩)
  by_cases hk : k = 15 ∨ k = 18 ∨ k = 20
  · have hE := Lib.hid (show nextN (leftQ k) n = lodd n by unfold nextN leftQ; rw [decide_eq_true hk]; rfl)
    rcases hk with rfl | rfl | rfl
    all_goals
      go_enter Tryz.func44, Tryz.ntmps44
      go_wp2_with (first
        | (go_at_call 60; refine (specLeastOdd_any _ _).mono ?_; rintro e w' ⟨rfl, rfl⟩)
        | (go_at_call 61; refine (specLeastEven_any _ _).mono ?_; rintro e w' ⟨rfl, rfl⟩))
      go_ret
      exact ⟨rint (by rw [hE.out, ho.out]), rfl⟩
  · have hE := Lib.hid (show nextN (leftQ k) n = leven n by unfold nextN leftQ; rw [decide_eq_false hk]; rfl)
    have n1 : (k == 15) = false := by simp; omega
    have n2 : (k == 18) = false := by simp; omega
    have n3 : (k == 20) = false := by simp; omega
    clear hk
    go_enter Tryz.func44, Tryz.ntmps44
    go_wp2_with (first
      | (go_at_call 60; refine (specLeastOdd_any _ _).mono ?_; rintro e w' ⟨rfl, rfl⟩)
      | (go_at_call 61; refine (specLeastEven_any _ _).mono ?_; rintro e w' ⟨rfl, rfl⟩))
    go_ret
    exact ⟨rint (by rw [hE.out, he.out]), rfl⟩

/-- the classes, one turned to a way -/
def turnC (C : List Int) (k : Nat) (t : Tier) : List Int := if t.way = -1 then C else C.set k t.way
set_option maxRecDepth 100000 in
set_option maxHeartbeats 1000000 in
theorem sTake_any (w : World) (S : Nat → Prop) (g : Nat) (s : Tell) (L C : List Int) (v1 v2 v3 : Value) (h : MSt w S g s L C v1 v2 v3) (hp : 0 < s.stk.length) (hl : s.stk.length ≤ 700) (k : Nat)
    (hkL : k < L.length) (hkC : k < C.length) (hL : L.length ≤ 700) (hC : C.length ≤ 700) :
    Calls Tryz.prog 25 #[.pointer (some ⟨g, 0, none⟩), .int .i64 k] w fun e w' => (e = .returned (.tuple #[]) ∧ MSt w' S g s (L.set k (topT s.stk).lev) (turnC C k (topT s.stk)) v1 v2 v3) ∧ Fr S w w' := by
  obtain ⟨b2, c2, rfl, hs2, hg2⟩ := h.r2.addr (by omega)
  obtain ⟨b3, c3, rfl, hs3, hg3⟩ := h.r3.addr (by omega)
  have H := Lib.hid h
  go_enter Tryz.func25, Tryz.ntmps25
  go_wp2_with fail
  refine (sLast_any w S g s L C _ _ _ h hp hl).mono ?_
  rintro e w1 ⟨rfl, bl⟩
  obtain ⟨t, ht⟩ : ∃ t, Hid (t = topT s.stk) := ⟨_, Lib.hid rfl⟩
  rw [← ht.out]
  have h1 := h.below bl
  have F1 := Lib.hid (Fr.of_below (S := S) bl)
  have h2 := h1.alloc (.cells #[.int .i64 t.lev, .int .i64 t.way, .bool t.iso] 56)
  have k0 := Blk.new w1 56 #[.int .i64 t.lev, .int .i64 t.way, .bool t.iso]
  have hb2 := h1.r2.lt b2 rfl
  have hb3 := h1.r3.lt b3 rfl
  have hgl := h1.blk.lt
  have st := h1.r2.1.stored k (.int .i64 t.lev)
  obtain ⟨w2, hw2⟩ : ∃ x, Hid (x = w1.setCell ⟨b2, k, none⟩ (.int .i64 t.lev)) := ⟨_, Lib.hid rfl⟩
  rw [← hw2.out] at st
  have h3 : Hid (MSt (w2.alloc (.cells #[.int .i64 t.lev, .int .i64 t.way, .bool t.iso] 56)).drew S g s (L.set k t.lev) C v1 (.slice (some ⟨b2, 0, none⟩) L.length c2) (.slice (some ⟨b3, 0, none⟩) C.length c3)) :=
    Lib.hid (((h1.putL rfl st.1 st.2).alloc _).below (drew_below _))
  have F3 : Hid (Fr S w (w2.alloc (.cells #[.int .i64 t.lev, .int .i64 t.way, .bool t.iso] 56)).drew) :=
    Lib.hid (((F1.out.trans (Fr.grown st.2 (fun g e => by injection e with e; subst e; exact hs2))).trans (Fr.alloc _ _)).trans (Fr.of_below (drew_below _)))
  have s2 : w2.heap.size = w1.heap.size := by rw [hw2.out]; simp
  have k3 : Hid (Blk (w2.alloc (.cells #[.int .i64 t.lev, .int .i64 t.way, .bool t.iso] 56)).drew w1.heap.size 56 #[.int .i64 t.lev, .int .i64 t.way, .bool t.iso]) :=
    Lib.hid (by have := Blk.new w2 56 #[.int .i64 t.lev, .int .i64 t.way, .bool t.iso]; rw [s2] at this; exact this)
  have e4 := h2.blk.cell 4 rfl
  have e5 := h2.blk.cell 5 rfl
  have q0 := k0.cell 0 rfl
  have q1 := k0.cell 1 rfl
  have q2 := k0.cell 2 rfl
  have m0 := own_cell h2.r2.1 k hkL
  have m1 := h2.r2.1.frozenAt k
  have S2 := Lib.hid s2
  clear h h1 h2 k0 st bl F1 s2
  go_wp2
  go_region
  clear e4 e5 q0 q1 q2 m0 m1
  rw [← hw2.out]
  obtain ⟨w3, hw3⟩ : ∃ x, x = (w2.alloc (.cells #[.int .i64 t.lev, .int .i64 t.way, .bool t.iso] 56)).drew := ⟨_, rfl⟩
  rw [← hw3] at h3 F3 k3 ⊢
  have sz : w1.heap.size < w3.heap.size := k3.out.lt
  clear hw3 hw2 S2
  have q1 := k3.out.cell 1 rfl
  by_cases hw : t.way = -1
  · have nw : (t.way != -1) = false := by simp [hw]
    have E := Lib.hid (show turnC C k t = C by unfold turnC; rw [if_pos hw])
    clear hw
    go_wp2
    go_end0
    rw [← ht.out, E.out]
    exact ⟨⟨rfl, h3.out⟩, F3.out⟩
  · have nw : (t.way != -1) = true := by simpa using hw
    have E := Lib.hid (show turnC C k t = C.set k t.way by unfold turnC; rw [if_neg hw])
    have e5 := h3.out.blk.cell 5 rfl
    have m0 := own_cell h3.out.r3.1 k hkC
    have m1 := h3.out.r3.1.frozenAt k
    have st := h3.out.r3.1.stored k (.int .i64 t.way)
    have h4 := Lib.hid ((h3.out.putC rfl st.1 st.2).below (drew_below _))
    have F4 := Lib.hid ((F3.out.trans (Fr.grown st.2 (fun g e => by injection e with e; subst e; exact hs3))).trans (Fr.of_below (drew_below _)))
    clear hw st
    go_wp2
    go_region
    go_wp2
    go_end0
    rw [← ht.out, E.out]
    exact ⟨⟨rfl, h4.out⟩, F4.out⟩
end Go.Proofs.YtcfnhjpmihngdaaGreat
