/- Chapter 4: LeastOdd, LeastEven, ParaFault: the program's and the model's. -/
import Derived.Test.YthhbikilighemaaL0
import Derived.Test.YthhbikilighemaaG4
import Derived.Test.YthhbikilighemaaG3
namespace Go.Proofs.Ythhbikilighemaa
open Go.RowKit Go.Maps

def lvl (n : Int) : Bool := decide (0 ≤ n ∧ n ≤ 999)
def oddV (n : Int) : Int := if 0 ≤ n ∧ n ≤ 999 then lodd n else 0
def evenV (n : Int) : Int := if 0 ≤ n ∧ n ≤ 999 then leven n else 0
theorem oddV_in {n : Int} (h : 0 ≤ n ∧ n ≤ 999) : oddV n = lodd n := by unfold oddV; rw [if_pos h]
theorem evenV_in {n : Int} (h : 0 ≤ n ∧ n ≤ 999) : evenV n = leven n := by unfold evenV; rw [if_pos h]
theorem l4Level_any (n : Int) (w : World) : Calls Try.prog 110 #[.int .i64 n] w fun e w' => e = .returned (.bool (lvl n)) ∧ w = w' := by
  go_enter Try.func110, Try.ntmps110
  go_wp2_with (go_at_call 50; refine (l1In_any _ _ _ _).mono ?_; rintro e w' ⟨rfl, rfl⟩)
  go_ret
  exact ⟨rbool (by simp [lvl]), rfl⟩
theorem specLeastOdd_any (n : Int) (w : World) : Calls Try.prog 97 #[.int .i64 n] w fun e w' => e = .returned (.int .i64 (oddV n)) ∧ w = w' := by
  by_cases h : 0 ≤ n ∧ n ≤ 999
  · have hl : lvl n = true := by unfold lvl; simp [h]
    have hv := Lib.hid (show oddV n = lodd n by unfold oddV; rw [if_pos h])
    obtain ⟨h0, h1⟩ := h
    go_enter Try.func97, Try.ntmps97
    go_wp2_with (go_at_call 110; refine (l4Level_any _ _).mono ?_; rintro e w' ⟨rfl, rfl⟩)
    go_ret
    refine ⟨rint ?_, rfl⟩
    rw [hv.out]
    unfold lodd
    try simp only [Int.tmod_eq_emod_of_nonneg h0]
  · have hl : lvl n = false := by unfold lvl; simp [h]
    have hv := Lib.hid (show oddV n = 0 by unfold oddV; rw [if_neg h])
    clear h
    go_enter Try.func97, Try.ntmps97
    go_wp2_with (go_at_call 110; refine (l4Level_any _ _).mono ?_; rintro e w' ⟨rfl, rfl⟩)
    go_ret
    exact ⟨rint hv.out.symm, rfl⟩
theorem specLeastOdd_val (n : Int) (w : World) (_ : (Lit.int .i64 n).wf = true) : Calls Try.prog 97 #[.int .i64 n] w fun e w' => e = .returned (.int .i64 (oddV n)) ∧ Below w.heap.size w w' :=
  (specLeastOdd_any n w).mono fun _ _ ⟨he, hw⟩ => ⟨he, by subst hw; exact Below.refl _ _⟩
theorem leastOdd_any (n : Int) (w : World) : Calls Try.prog 113 #[.int .i64 n] w fun e w' => e = .returned (.int .i64 (oddV n)) ∧ Below w.heap.size w w' := by
  have b0 := (Below.refl w.heap.size w).alloc (Nat.le_refl _) (.cells #[.int .i64 0, .int .i64 999] 2)
  by_cases h : 0 ≤ n ∧ n ≤ 999
  · have hl : spans n [0, 999] = true := by simp [spans, h]
    have hv := Lib.hid (show oddV n = lodd n by unfold oddV; rw [if_pos h])
    obtain ⟨h0, h1⟩ := h
    go_enter Try.func113, Try.ntmps113
    go_wp2_with (go_at_call 73; (with_reducible refine (within_lit2 _ _ _ _ _ _ (by simp)).mono ?_); rintro e w' ⟨rfl, rfl⟩)
    go_ret
    refine ⟨rint ?_, b0⟩
    rw [hv.out]
    unfold lodd
    try simp only [Int.tmod_eq_emod_of_nonneg h0]
  · have hl : spans n [0, 999] = false := by simp [spans]; omega
    have hv := Lib.hid (show oddV n = 0 by unfold oddV; rw [if_neg h])
    clear h
    go_enter Try.func113, Try.ntmps113
    go_wp2_with (go_at_call 73; (with_reducible refine (within_lit2 _ _ _ _ _ _ (by simp)).mono ?_); rintro e w' ⟨rfl, rfl⟩)
    go_ret
    exact ⟨rint hv.out.symm, b0⟩
theorem leastOdd_val (n : Int) (w : World) (_ : (Lit.int .i64 n).wf = true) : Calls Try.prog 113 #[.int .i64 n] w fun e w' => e = .returned (.int .i64 (oddV n)) ∧ Below w.heap.size w w' := leastOdd_any n w
theorem specLeastEven_any (n : Int) (w : World) : Calls Try.prog 98 #[.int .i64 n] w fun e w' => e = .returned (.int .i64 (evenV n)) ∧ w = w' := by
  by_cases h : 0 ≤ n ∧ n ≤ 999
  · have hl : lvl n = true := by unfold lvl; simp [h]
    have hv := Lib.hid (show evenV n = leven n by unfold evenV; rw [if_pos h])
    obtain ⟨h0, h1⟩ := h
    go_enter Try.func98, Try.ntmps98
    go_wp2_with (go_at_call 110; refine (l4Level_any _ _).mono ?_; rintro e w' ⟨rfl, rfl⟩)
    go_ret
    refine ⟨rint ?_, rfl⟩
    rw [hv.out]
    unfold leven
    try simp only [Int.tmod_eq_emod_of_nonneg h0]
  · have hl : lvl n = false := by unfold lvl; simp [h]
    have hv := Lib.hid (show evenV n = 0 by unfold evenV; rw [if_neg h])
    clear h
    go_enter Try.func98, Try.ntmps98
    go_wp2_with (go_at_call 110; refine (l4Level_any _ _).mono ?_; rintro e w' ⟨rfl, rfl⟩)
    go_ret
    exact ⟨rint hv.out.symm, rfl⟩
theorem specLeastEven_val (n : Int) (w : World) (_ : (Lit.int .i64 n).wf = true) : Calls Try.prog 98 #[.int .i64 n] w fun e w' => e = .returned (.int .i64 (evenV n)) ∧ Below w.heap.size w w' :=
  (specLeastEven_any n w).mono fun _ _ ⟨he, hw⟩ => ⟨he, by subst hw; exact Below.refl _ _⟩
theorem leastEven_any (n : Int) (w : World) : Calls Try.prog 114 #[.int .i64 n] w fun e w' => e = .returned (.int .i64 (evenV n)) ∧ Below w.heap.size w w' := by
  have b0 := (Below.refl w.heap.size w).alloc (Nat.le_refl _) (.cells #[.int .i64 0, .int .i64 999] 2)
  by_cases h : 0 ≤ n ∧ n ≤ 999
  · have hl : spans n [0, 999] = true := by simp [spans, h]
    have hv := Lib.hid (show evenV n = leven n by unfold evenV; rw [if_pos h])
    obtain ⟨h0, h1⟩ := h
    go_enter Try.func114, Try.ntmps114
    go_wp2_with (go_at_call 73; (with_reducible refine (within_lit2 _ _ _ _ _ _ (by simp)).mono ?_); rintro e w' ⟨rfl, rfl⟩)
    go_ret
    refine ⟨rint ?_, b0⟩
    rw [hv.out]
    unfold leven
    try simp only [Int.tmod_eq_emod_of_nonneg h0]
  · have hl : spans n [0, 999] = false := by simp [spans]; omega
    have hv := Lib.hid (show evenV n = 0 by unfold evenV; rw [if_neg h])
    clear h
    go_enter Try.func114, Try.ntmps114
    go_wp2_with (go_at_call 73; (with_reducible refine (within_lit2 _ _ _ _ _ _ (by simp)).mono ?_); rintro e w' ⟨rfl, rfl⟩)
    go_ret
    exact ⟨rint hv.out.symm, b0⟩
theorem leastEven_val (n : Int) (w : World) (_ : (Lit.int .i64 n).wf = true) : Calls Try.prog 114 #[.int .i64 n] w fun e w' => e = .returned (.int .i64 (evenV n)) ∧ Below w.heap.size w w' := leastEven_any n w

/-- whether a class separates paragraphs -/
def hasB (ks : List Int) : Bool := ks.any (fun k => decide (k = 10))
theorem hasB_cons (ks : List Int) (k : Nat) (h : k < ks.length) : hasB (ks.drop k) = (decide (nth ks k = 10) || hasB (ks.drop (k + 1))) := by rw [drop_nth ks k h]; rfl
def paraF (zs : List Int) (base : Int) : Int := if textF zs = 0 then (if 0 ≤ base ∧ base ≤ 1 then (if hasB (classesN zs) then 1 else 0) else 3) else textF zs
theorem paraF_bad {zs : List Int} {b : Int} (h : textF zs ≠ 0) : paraF zs b = textF zs := by unfold paraF; rw [if_neg h]
theorem paraF_base {zs : List Int} {b : Int} (h : textF zs = 0) (h2 : ¬ (0 ≤ b ∧ b ≤ 1)) : paraF zs b = 3 := by unfold paraF; rw [if_pos h, if_neg h2]
theorem paraF_in {zs : List Int} {b : Int} (h : textF zs = 0) (h2 : 0 ≤ b ∧ b ≤ 1) : paraF zs b = if hasB (classesN zs) then 1 else 0 := by unfold paraF; rw [if_pos h, if_pos h2]
theorem paraF_zero {zs : List Int} {b : Int} (h : paraF zs b = 0) : textF zs = 0 ∧ 0 ≤ b ∧ b ≤ 1 ∧ hasB (classesN zs) = false := by
  unfold paraF at h
  split at h
  · split at h
    · split at h
      · omega
      · rename_i h1 h2 h3
        exact ⟨h1, h2.1, h2.2, by simpa using h3⟩
    · omega
  · omega

set_option maxRecDepth 100000 in
set_option maxHeartbeats 1000000 in
theorem specParaFault_any (A : Option Addr) (zs : List Int) (c : Nat) (b : Int) (w : World) (B : Nat) (h1 : Rd w B A (nums .i64 zs)) (hl : zs.length < 1000000000) :
    Calls Try.prog 27 #[.slice A zs.length c, .int .i64 b] w fun e w' => e = .returned (.int .i64 (paraF zs b)) ∧ w = w' := by
  have H1 := Lib.hid h1
  clear h1
  by_cases hz : textF zs = 0
  · have HZ := Lib.hid (textF_zero hz)
    by_cases hb : 0 ≤ b ∧ b ≤ 1
    · have PF := Lib.hid (paraF_in hz hb)
      have hbb : (decide (0 ≤ b ∧ b ≤ 1)) = true := decide_eq_true hb
      obtain ⟨ans, hans⟩ : ∃ x, Hid (x = paraF zs b) := ⟨_, Lib.hid rfl⟩
      rw [← hans.out] at PF ⊢
      go_enter Try.func27, Try.ntmps27
      go_wp2_with (first
        | (go_at_call 49; refine (specTextFault_any A zs c _ B H1.out hl).mono ?_; rintro e w' ⟨rfl, rfl⟩; rw [hz])
        | (go_at_call 50; refine (l1In_any _ _ _ _).mono ?_; rintro e w' ⟨rfl, rfl⟩; rw [hbb]))
      go_loop [6] (fun i => ∃ k : Nat, k ≤ zs.length ∧ i = .int .i64 k ∧ Hid (ans = if hasB ((classesN zs).drop k) then 1 else 0)) (fun i => zs.length + 1 - (intOf i).toNat)
      case atStart => exact ⟨0, by omega, rfl, PF⟩
      case round =>
        obtain ⟨k, hk, rfl, hs⟩ := hrel
        by_cases hlt : k < zs.length
        · obtain ⟨b', off, rfl, hb', hc⟩ := H1.out.int (by omega)
          have hc0 := hc k hlt
          clear hc
          have hch := chr_nth zs HZ.out.2 k hlt
          have hz1' : 0 ≤ nth zs k := by simp only [chrB, decide_eq_true_eq] at hch; omega
          have hcl := fun w => l2Class_any (nth zs k) w hz1'
          have BC := Lib.hid (hasB_cons (classesN zs) k (by rw [classesN_len]; exact hlt))
          rw [← classesN_nth zs k hlt] at hcl
          have HCL := Lib.hid hcl
          clear hcl hch hz1'
          obtain ⟨z, hzz⟩ : ∃ z, Hid (z = nth zs k) := ⟨_, Lib.hid rfl⟩
          rw [← hzz.out] at hc0 HCL
          obtain ⟨q, hq⟩ : ∃ q, Hid (q = nth (classesN zs) k) := ⟨_, Lib.hid rfl⟩
          rw [← hq.out] at HCL BC
          by_cases h10 : q = 10
          · have n10 : (q == 10) = true := by simp [h10]
            have E := Lib.hid (show ans = 1 by rw [hs.out, BC.out]; simp [h10])
            clear h10
            go_wp2_with (go_at_call 51; refine (HCL.out _).mono ?_; rintro e w' ⟨rfl, rfl⟩)
            go_ret
            exact ⟨rint E.out.symm, rfl⟩
          · have n10 : (q == 10) = false := by simpa using h10
            have E := Lib.hid (show ans = if hasB ((classesN zs).drop (k + 1)) then 1 else 0 by rw [hs.out, BC.out]; simp [h10])
            clear h10
            go_wp2_with (go_at_call 51; refine (HCL.out _).mono ?_; rintro e w' ⟨rfl, rfl⟩)
            go_round
            case rel => exact ⟨k + 1, by omega, by go_num, E⟩
            case measure => first | omega | (simp [intOf]; omega)
        · have E := Lib.hid (show ans = 0 by rw [hs.out, List.drop_of_length_le (by rw [classesN_len]; omega)]; rfl)
          go_wp2
          go_ret
          exact ⟨rint E.out.symm, rfl⟩
    · have PF := Lib.hid (paraF_base hz hb)
      have hbb : (decide (0 ≤ b ∧ b ≤ 1)) = false := decide_eq_false hb
      go_enter Try.func27, Try.ntmps27
      go_wp2_with (first
        | (go_at_call 49; refine (specTextFault_any A zs c _ B H1.out hl).mono ?_; rintro e w' ⟨rfl, rfl⟩; rw [hz])
        | (go_at_call 50; refine (l1In_any _ _ _ _).mono ?_; rintro e w' ⟨rfl, rfl⟩; rw [hbb]))
      go_ret
      exact ⟨rint PF.out.symm, rfl⟩
  · have PF := Lib.hid (paraF_bad (b := b) hz)
    obtain ⟨q, hq⟩ : ∃ q, Hid (q = textF zs) := ⟨_, Lib.hid rfl⟩
    have hne : (q != 0) = true := by rw [hq.out]; simpa using hz
    rw [← hq.out] at PF
    clear hz
    go_enter Try.func27, Try.ntmps27
    go_wp2_with (go_at_call 49; refine (specTextFault_any A zs c _ B H1.out hl).mono ?_; rintro e w' ⟨rfl, rfl⟩; rw [← hq.out])
    go_ret
    exact ⟨rint PF.out.symm, rfl⟩
theorem specParaFault_val (v : Value) (zs : List Int) (b : Int) (w : World) (B : Nat) (h : Sees w B .i64 v zs) (_ : B ≤ w.heap.size) (l : zs.length < 1000000000) (_ : ∀ n ∈ zs, (Lit.int .i64 n).wf = true) (_ : (Lit.int .i64 b).wf = true) :
    Calls Try.prog 27 #[v, .int .i64 b] w fun e w' => e = .returned (.int .i64 (paraF zs b)) ∧ Below w.heap.size w w' := by
  obtain ⟨A, c, rfl, hr⟩ := h
  exact (specParaFault_any A zs c b w B hr l).mono fun _ _ ⟨he, hw⟩ => ⟨he, by subst hw; exact Below.refl _ _⟩

/-- where z stands first, or -1, from k on -/
def idxF (ks : List Int) (z : Int) (k : Nat) : Int := if (ks.drop k).any (fun x => decide (z = x)) then 0 else -1
set_option maxRecDepth 100000 in
set_option maxHeartbeats 1000000 in
theorem index_any (A : Option Addr) (ks : List Int) (c : Nat) (z : Int) (w : World) (B : Nat) (h1 : Rd w B A (nums .i64 ks)) (hl : ks.length ≤ 600) :
    Calls Try.prog 100 #[.slice A ks.length c, .int .i64 z] w fun e w' => (∃ n : Int, e = .returned (.int .i64 n) ∧ decide (0 ≤ n) = ks.any (fun x => decide (z = x))) ∧ w = w' := by
  have H1 := Lib.hid h1
  clear h1
  obtain ⟨ans, hans⟩ : ∃ x, Hid (x = ks.any (fun x => decide (z = x))) := ⟨_, Lib.hid rfl⟩
  rw [← hans.out]
  have EL : Hid (ans = (ks.drop 0).any (fun x => decide (z = x))) := hans
  go_enter Try.func100, Try.ntmps100
  go_wp2
  go_loop [8] (fun i => ∃ k : Nat, k ≤ ks.length ∧ i = .int .i64 k ∧ Hid (ans = (ks.drop k).any (fun x => decide (z = x)))) (fun i => ks.length - (intOf i).toNat)
  case atStart => exact ⟨0, by omega, rfl, EL⟩
  case round =>
    obtain ⟨k, hk, rfl, hs⟩ := hrel
    by_cases hlt : k < ks.length
    · obtain ⟨b', off, rfl, hb', hc⟩ := H1.out.int (by omega)
      have hc0 := hc k hlt
      clear hc
      have BC := Lib.hid (show (ks.drop k).any (fun x => decide (z = x)) = (decide (z = nth ks k) || (ks.drop (k + 1)).any (fun x => decide (z = x))) by rw [drop_nth ks k hlt]; rfl)
      obtain ⟨q, hq⟩ : ∃ q, Hid (q = nth ks k) := ⟨_, Lib.hid rfl⟩
      rw [← hq.out] at hc0 BC
      by_cases hzq : z = q
      · have nq : (z == q) = true := by simp [hzq]
        have E := Lib.hid (show ans = true by rw [hs.out, BC.out]; simp [hzq])
        clear hzq
        go_wp2
        go_ret
        exact ⟨⟨_, rfl, by rw [E.out]; simp⟩, rfl⟩
      · have nq : (z == q) = false := by simpa using hzq
        have E := Lib.hid (show ans = (ks.drop (k + 1)).any (fun x => decide (z = x)) by rw [hs.out, BC.out]; simp [hzq])
        clear hzq
        go_wp2
        go_round
        case rel => exact ⟨k + 1, by omega, by go_num, E⟩
        case measure => first | omega | (simp [intOf]; omega)
    · have E := Lib.hid (show ans = false by rw [hs.out, List.drop_of_length_le (by omega)]; rfl)
      go_wp2
      go_ret
      exact ⟨⟨_, rfl, by rw [E.out]; simp⟩, rfl⟩
theorem contains_any (A : Option Addr) (ks : List Int) (c : Nat) (z : Int) (w : World) (B : Nat) (h1 : Rd w B A (nums .i64 ks)) (hl : ks.length ≤ 600) :
    Calls Try.prog 85 #[.slice A ks.length c, .int .i64 z] w fun e w' => e = .returned (.bool (ks.any (fun x => decide (z = x)))) ∧ w = w' := by
  have H1 := Lib.hid h1
  clear h1
  go_enter Try.func85, Try.ntmps85
  go_wp2_with fail
  refine (index_any A ks c z w B H1.out hl).mono ?_
  rintro e w' ⟨⟨n, rfl, hn⟩, rfl⟩
  have HN := Lib.hid hn
  clear hn
  go_wp2
  go_ret
  exact ⟨rbool (by rw [← HN.out]), rfl⟩

set_option maxRecDepth 100000 in
set_option maxHeartbeats 1000000 in
theorem paraFault_any (A : Option Addr) (zs : List Int) (c : Nat) (b : Int) (w : World) (B : Nat) (h1 : Rd w B A (nums .i64 zs)) (hB : B ≤ w.heap.size) (hl : zs.length < 1000000000) :
    Calls Try.prog 59 #[.slice A zs.length c, .int .i64 b] w fun e w' => e = .returned (.int .i64 (paraF zs b)) ∧ Below w.heap.size w w' := by
  have H1 := Lib.hid h1
  clear h1
  go_enter Try.func59, Try.ntmps59
  go_wp2_with fail
  refine (textFault_any A zs c w B H1.out hB hl).mono ?_
  rintro e w1 ⟨rfl, b1⟩
  have R1 := Lib.hid (H1.out.below b1 hB)
  have s1 := b1.size
  have B1 := Lib.hid b1
  clear b1 H1
  by_cases hz : textF zs = 0
  · have HZ := Lib.hid hz
    by_cases hb : 0 ≤ b ∧ b ≤ 1
    · have PF := Lib.hid (paraF_in hz hb)
      have hsp : spans b [0, 1] = true := by simp [spans, hb]
      have hll := (textF_zero hz).1
      rw [hz]
      clear hz hb
      go_wp2_with (go_at_call 73; (with_reducible refine (within_lit2 _ _ _ _ _ _ (by simp)).mono ?_); rintro e w' ⟨rfl, rfl⟩)
      refine (classesOf_any A zs c _ B (R1.out.below ((Below.refl B w1).alloc (by omega) _) (Nat.le_refl _)) (by simp; omega) HZ.out).mono ?_
      rintro e w2 ⟨⟨v2, rfl, o2⟩, b3⟩
      obtain ⟨A2, c2, rfl⟩ := o2.form
      have HB := Lib.hid (below_on (B1.out.alloc B1.out.size _) b3 (Nat.le_refl _))
      have R2 := Lib.hid (Rd.of o2.1)
      have HKL := Lib.hid (classesN_len zs)
      clear o2 b3
      go_wp2_with fail
      refine (contains_any A2 (classesN zs) c2 10 w2 _ R2.out (by rw [HKL.out]; exact hll)).mono ?_
      rintro e w' ⟨rfl, rfl⟩
      have HE := Lib.hid (show (classesN zs).any (fun x => decide (10 = x)) = hasB (classesN zs) by unfold hasB; congr 1; funext x; simp [eq_comm])
      rw [HE.out]
      cases hh : hasB (classesN zs) with
      | true =>
        have E := Lib.hid (show paraF zs b = 1 by rw [PF.out, hh]; rfl)
        clear hh
        go_wp2
        go_ret
        exact ⟨rint E.out.symm, HB.out⟩
      | false =>
        have E := Lib.hid (show paraF zs b = 0 by rw [PF.out, hh]; rfl)
        clear hh
        go_wp2
        go_ret
        exact ⟨rint E.out.symm, HB.out⟩
    · have PF := Lib.hid (paraF_base hz hb)
      have hsp : spans b [0, 1] = false := by simp [spans]; omega
      rw [hz]
      clear hz hb
      go_wp2_with (go_at_call 73; (with_reducible refine (within_lit2 _ _ _ _ _ _ (by simp)).mono ?_); rintro e w' ⟨rfl, rfl⟩)
      go_ret
      exact ⟨rint PF.out.symm, B1.out.alloc B1.out.size _⟩
  · have PF := Lib.hid (paraF_bad (b := b) hz)
    obtain ⟨q, hq⟩ : ∃ q, Hid (q = textF zs) := ⟨_, Lib.hid rfl⟩
    have hne : (q != 0) = true := by rw [hq.out]; simpa using hz
    rw [← hq.out] at PF ⊢
    clear hz
    go_wp2
    go_ret
    exact ⟨rint PF.out.symm, B1.out⟩
theorem paraFault_val (v : Value) (zs : List Int) (b : Int) (w : World) (B : Nat) (h : Sees w B .i64 v zs) (hB : B ≤ w.heap.size) (l : zs.length < 1000000000) (_ : ∀ n ∈ zs, (Lit.int .i64 n).wf = true) (_ : (Lit.int .i64 b).wf = true) :
    Calls Try.prog 59 #[v, .int .i64 b] w fun e w' => e = .returned (.int .i64 (paraF zs b)) ∧ Below w.heap.size w w' := by
  obtain ⟨A, c, rfl, hr⟩ := h
  exact paraFault_any A zs c b w B hr hB l
end Go.Proofs.Ythhbikilighemaa
