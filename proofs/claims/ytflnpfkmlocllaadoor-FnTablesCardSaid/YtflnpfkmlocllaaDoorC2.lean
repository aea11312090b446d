/- Chapter 2: the form of a letter, ligatures. -/
import Derived.Test.YtflnpfkmlocllaaDoorC1
namespace Go.Proofs.YtflnpfkmlocllaaDoor
open Go.RowKit

/-- all forms ahead -/
def sumF : Nat → Int
  | 0 => 0
  | n + 1 => sumF n + formsN (1569 + n)
theorem sumF_lo (n : Nat) : 0 ≤ sumF n ∧ sumF n ≤ 4 * n := by
  induction n with
  | zero => simp [sumF]
  | succ n ih => have := formsN_lo (1569 + n); simp only [sumF]; omega
def formF (c : Int) (b a : Bool) : Int :=
  65152 + sumF (c - 1569).toNat + (if b = true ∧ 2 ≤ formsN c then 1 else 0) + (if a = true ∧ formsN c = 4 then 2 else 0)
theorem formsN_range {c : Int} (h : formsN c ≠ 0) : 1569 ≤ c ∧ c ≤ 1610 := by
  unfold formsN at h
  by_cases h1 : 1569 ≤ c ∧ c ≤ 1610
  · exact h1
  · rw [if_neg (by omega), if_neg (by omega), if_neg (by omega)] at h; exact absurd rfl h

set_option maxRecDepth 100000 in
set_option maxHeartbeats 1000000 in
theorem l2Form_any (c : Int) (b a : Bool) (w : World) (h : 1569 ≤ c ∧ c ≤ 1610) :
    Calls Tryd.prog 82 #[.int .i64 c, .bool b, .bool a] w fun e w' => e = .returned (.int .i64 (formF c b a)) ∧ w = w' := by
  obtain ⟨h1, h2⟩ := h
  have E := fun (n : Nat) (hn : c = 1569 + n) => show formF c b a = 65152 + sumF n + (if b = true ∧ 2 ≤ formsN c then 1 else 0) + (if a = true ∧ formsN c = 4 then 2 else 0) by unfold formF; rw [show (c - 1569).toNat = n by omega]
  have HE := Lib.hid E
  clear E
  have fl := formsN_lo c
  go_enter Tryd.func82, Tryd.ntmps82
  go_wp2
  go_loop [7, 8] (fun t x => ∃ k : Nat, 1569 + (k : Int) ≤ c ∧ x = .int .i64 (1569 + k) ∧ t = .int .i64 (65152 + sumF k)) (fun _ x => (c - intOf x).toNat)
  case atStart => exact ⟨0, by omega, rfl, rfl⟩
  case round =>
    obtain ⟨k, hk, rfl, rfl⟩ := hrel
    have hs := sumF_lo k
    have hf := formsN_lo (1569 + k)
    by_cases hlt : 1569 + (k : Int) < c
    · have hstep : Hid (sumF (k + 1) = sumF k + formsN (1569 + k)) := Lib.hid rfl
      go_wp2_with (go_at_call 83; refine (l2Forms_any _ _).mono ?_; rintro e w' ⟨rfl, rfl⟩)
      go_round
      case rel => exact ⟨k + 1, by omega, by go_num, by rw [hstep.out]; go_num⟩
      case measure => simp [intOf]; omega
    · have e := Lib.hid (HE.out k (by omega))
      have hge : c ≤ 1569 + (k : Int) := by omega
      clear hlt
      cases b
      all_goals cases a
      all_goals
        go_wp2_with (go_at_call 83; refine (l2Forms_any _ _).mono ?_; rintro e w' ⟨rfl, rfl⟩)
        all_goals
          go_ret
          refine ⟨rint ?_, rfl⟩
          rw [e.out]
          try simp only [beq_iff_eq, beq_eq_false_iff_ne, ne_eq] at *
          repeat' split
          all_goals first | omega | simp_all
def formV (c : Int) (b a : Bool) : Int := if formsC c = 0 then formF c b a else 0
theorem formV_yes {c : Int} (b a : Bool) (h : formsC c = 0) : formV c b a = formF c b a := by unfold formV; rw [if_pos h]
theorem formV_no {c : Int} (b a : Bool) (h : formsC c ≠ 0) : formV c b a = 0 := by unfold formV; rw [if_neg h]
theorem formsC_yes {c : Int} (h : formsC c = 0) : formsV c = formsN c ∧ 1569 ≤ c ∧ c ≤ 1610 := by
  unfold formsC at h
  unfold formsV
  by_cases h1 : isChr c = true
  · rw [if_pos h1] at h ⊢
    by_cases h2 : formsN c = 0
    · rw [if_pos h2] at h; exact absurd h (by decide)
    · exact ⟨rfl, formsN_range h2⟩
  · rw [if_neg h1] at h; exact absurd h (by decide)
theorem formsC_no {c : Int} (h : formsC c ≠ 0) : formsV c = 0 := by
  unfold formsC at h
  unfold formsV
  by_cases h1 : isChr c = true
  · rw [if_pos h1] at h ⊢
    by_cases h2 : formsN c = 0
    · exact h2
    · rw [if_neg h2] at h; exact absurd rfl h
  · rw [if_neg h1]

set_option maxRecDepth 100000 in
set_option maxHeartbeats 1000000 in
theorem specFormOf_val (c : Int) (b a : Bool) (w : World) (hw : (Lit.int .i64 c).wf = true) :
    Calls Tryd.prog 42 #[.int .i64 c, .bool b, .bool a] w fun e w' => e = .returned (.agg #[.int .i64 (formsC c), .int .i64 (formV c b a)]) ∧ Below w.heap.size w w' := by
  have HW := Lib.hid hw
  clear hw
  have b0 := (Below.refl w.heap.size w).alloc (Nat.le_refl _) (.cells #[.int .i64 0, .int .i64 0] 47)
  have k0 := Blk.new w 47 #[.int .i64 0, .int .i64 0]
  go_enter Tryd.func42, Tryd.ntmps42
  go_wp2_with fail
  refine (specFormsOf_val _ _ HW.out).mono ?_
  rintro e w1 ⟨rfl, b1⟩
  have k1 := (k0.below b1 k0.lt).alloc (.cells #[.int .i64 (formsC c), .int .i64 (formsV c)] 47)
  have b2 := (below_on b0 b1 (Nat.le_refl _)).alloc (below_on b0 b1 (Nat.le_refl _)).size (.cells #[.int .i64 (formsC c), .int .i64 (formsV c)] 47)
  have hd0 := k1.cell 0 (u := .int .i64 0) rfl
  have hd1 := k1.cell 1 (u := .int .i64 0) rfl
  have hf0 := k1.frozen 0
  have hf1 := k1.frozen 1
  by_cases h : formsC c = 0
  · have e1 := Lib.hid (formV_yes b a h)
    have h2 := ne_yes h
    have HR := Lib.hid (formsC_yes h).2
    have HC := Lib.hid h
    clear h
    go_wp2_with (go_at_call 82; refine (l2Form_any _ _ _ _ HR.out).mono ?_; rintro e w' ⟨rfl, rfl⟩)
    exact bodyPost_ret (v := .agg #[.int .i64 0, .int .i64 (formF c b a)]) (by simp [results, Tryd.results42, go_sem, hd0, hd1]) rfl ⟨agg2 HC.out.symm e1.out.symm, (b2.setCell (by simp) _).setCell (by simp) _⟩
  · have e1 := Lib.hid (formV_no b a h)
    have h2 := ne_no h
    clear h
    go_wp2
    exact bodyPost_ret (v := .agg #[.int .i64 (formsC c), .int .i64 0]) (by simp [results, Tryd.results42, go_sem, hd0, hd1]) rfl ⟨agg2 rfl e1.out.symm, (b2.setCell (by simp) _).setCell (by simp) _⟩

set_option maxRecDepth 100000 in
set_option maxHeartbeats 1000000 in
theorem formOf_val (c : Int) (b a : Bool) (w : World) (hw : (Lit.int .i64 c).wf = true) :
    Calls Tryd.prog 34 #[.int .i64 c, .bool b, .bool a] w fun e w' => e = .returned (.agg #[.int .i64 (formsC c), .int .i64 (formV c b a)]) ∧ Below w.heap.size w w' := by
  have HW := Lib.hid hw
  clear hw
  have b0 := (Below.refl w.heap.size w).alloc (Nat.le_refl _) (.cells #[.int .i64 0, .int .i64 0] 47)
  have k0 := Blk.new w 47 #[.int .i64 0, .int .i64 0]
  go_enter Tryd.func34, Tryd.ntmps34
  go_wp2_with fail
  refine (formsOf_val _ _ HW.out).mono ?_
  rintro e w1 ⟨rfl, b1⟩
  by_cases h : formsC c = 0
  · rw [(formsC_yes h).1]
    have k1 := (k0.below b1 k0.lt).alloc (.cells #[.int .i64 (formsC c), .int .i64 (formsN c)] 47)
    have j1 := Blk.new w1 47 #[.int .i64 (formsC c), .int .i64 (formsN c)]
    have b2 := (below_on b0 b1 (Nat.le_refl _)).alloc (below_on b0 b1 (Nat.le_refl _)).size (.cells #[.int .i64 (formsC c), .int .i64 (formsN c)] 47)
    have hd0 := k1.cell 0 (u := .int .i64 0) rfl
    have hd1 := k1.cell 1 (u := .int .i64 0) rfl
    have hf0 := k1.frozen 0
    have hf1 := k1.frozen 1
    have e1 := Lib.hid (formV_yes b a h)
    have h2 := ne_yes h
    obtain ⟨_, hlo, hhi⟩ := formsC_yes h
    have HC := Lib.hid h
    have E := fun (n : Nat) (hn : c = 1569 + n) => show formF c b a = 65152 + sumF n + (if b = true ∧ 2 ≤ formsN c then 1 else 0) + (if a = true ∧ formsN c = 4 then 2 else 0) by unfold formF; rw [show (c - 1569).toNat = n by omega]
    have HE := Lib.hid E
    have fl := formsN_lo c
    clear h E hd0 hd1 hf0 hf1
    have K1 := Lib.hid k1
    have J1 := Lib.hid j1
    have B2 := Lib.hid b2
    clear k1 j1 b2
    go_wp2
    generalize w1.alloc (.cells #[.int .i64 (formsC c), .int .i64 (formsN c)] 47) = w2 at *
    clear b1
    go_loopw [8, 9] (fun t x wr => ∃ k : Nat, 1569 + (k : Int) ≤ c ∧ x = .int .i64 (1569 + k) ∧ t = .int .i64 (65152 + sumF k) ∧ Below w2.heap.size w2 wr) (fun _ x _ => (c - intOf x).toNat)
    case atStart => exact ⟨0, by omega, rfl, rfl, Below.refl _ _⟩
    case round =>
      obtain ⟨k, hk, rfl, rfl, hb⟩ := hrel
      have hs := sumF_lo k
      have hf := formsN_lo (1569 + k)
      by_cases hlt : 1569 + (k : Int) < c
      · have hstep : Hid (sumF (k + 1) = sumF k + formsN (1569 + k)) := Lib.hid rfl
        go_wp2_with fail
        refine (formCount_any _ _).mono ?_
        rintro e w3 ⟨rfl, b3⟩
        go_wp2
        go_roundw
        case rel => exact ⟨k + 1, by omega, by go_num, by rw [hstep.out]; go_num, below_on hb b3 (Nat.le_refl _)⟩
        case measure => first | omega | (simp [intOf]; omega)
      · have e := Lib.hid (HE.out k (by omega))
        have hge : c ≤ 1569 + (k : Int) := by omega
        have k3 := K1.out.below hb K1.out.lt
        have j3 := J1.out.below hb J1.out.lt
        have B3 := Lib.hid (below_on B2.out hb (Nat.le_refl _))
        have hd0 := k3.cell 0 (u := .int .i64 0) rfl
        have hd1 := k3.cell 1 (u := .int .i64 0) rfl
        have hf0 := k3.frozen 0
        have hf1 := k3.frozen 1
        have hc1 := j3.cell 1 (u := .int .i64 (formsN c)) rfl
        have lw := hb.size
        clear hlt hb
        cases b
        all_goals cases a
        all_goals
          go_wp2
          all_goals
            first
              | (refine bodyPost_ret (v := .agg #[.int .i64 0, .int .i64 (65152 + sumF k)]) ?hr rfl ⟨agg2 HC.out.symm ?_, (B3.out.setCell (by simp) _).setCell (by simp) _⟩; (case hr => simp [results, Tryd.results34, go_sem, hd0, hd1]; done))
              | (refine bodyPost_ret (v := .agg #[.int .i64 0, .int .i64 (65152 + sumF k + 1)]) ?hr rfl ⟨agg2 HC.out.symm ?_, (B3.out.setCell (by simp) _).setCell (by simp) _⟩; (case hr => simp [results, Tryd.results34, go_sem, hd0, hd1]; done))
              | (refine bodyPost_ret (v := .agg #[.int .i64 0, .int .i64 (65152 + sumF k + 2)]) ?hr rfl ⟨agg2 HC.out.symm ?_, (B3.out.setCell (by simp) _).setCell (by simp) _⟩; (case hr => simp [results, Tryd.results34, go_sem, hd0, hd1]; done))
              | (refine bodyPost_ret (v := .agg #[.int .i64 0, .int .i64 (65152 + sumF k + 1 + 2)]) ?hr rfl ⟨agg2 HC.out.symm ?_, (B3.out.setCell (by simp) _).setCell (by simp) _⟩; (case hr => simp [results, Tryd.results34, go_sem, hd0, hd1]; done))
            rw [e1.out, e.out]
            try simp only [beq_iff_eq, beq_eq_false_iff_ne, ne_eq] at *
            repeat' split
            all_goals first | omega | (exfalso; omega) | (rename_i h5 h6; simp at h5 h6 <;> omega)
  · have k1 := (k0.below b1 k0.lt).alloc (.cells #[.int .i64 (formsC c), .int .i64 (formsV c)] 47)
    have j1 := Blk.new w1 47 #[.int .i64 (formsC c), .int .i64 (formsV c)]
    have b2 := (below_on b0 b1 (Nat.le_refl _)).alloc (below_on b0 b1 (Nat.le_refl _)).size (.cells #[.int .i64 (formsC c), .int .i64 (formsV c)] 47)
    have hd0 := k1.cell 0 (u := .int .i64 0) rfl
    have hd1 := k1.cell 1 (u := .int .i64 0) rfl
    have hf0 := k1.frozen 0
    have hf1 := k1.frozen 1
    have e1 := Lib.hid (formV_no b a h)
    have h2 := ne_no h
    have HV := Lib.hid (formsC_no h)
    clear h
    go_wp2
    exact bodyPost_ret (v := .agg #[.int .i64 (formsC c), .int .i64 (formsV c)]) (by simp [results, Tryd.results34, go_sem, hd0, hd1]) rfl ⟨agg2 rfl (HV.out.trans e1.out.symm), (b2.setCell (by simp) _).setCell (by simp) _⟩
def ligN (c : Int) (j : Bool) : Int :=
  if c = 1570 then (if j then 65270 else 65269) else if c = 1571 then (if j then 65272 else 65271)
  else if c = 1573 then (if j then 65274 else 65273) else if c = 1575 then (if j then 65276 else 65275) else 0
def ligC (c : Int) (j : Bool) : Int := if isChr c = true then (if ligN c j = 0 then 4 else 0) else 3
def ligV (c : Int) (j : Bool) : Int := if isChr c = true then ligN c j else 0

def ligLeft (k : Nat) (c : Int) : Prop := (0 < k → c ≠ 1570) ∧ (1 < k → c ≠ 1571) ∧ (2 < k → c ≠ 1573) ∧ (3 < k → c ≠ 1575)
theorem ligN_none {c : Int} {j : Bool} (h : ligLeft 4 c) : ligN c j = 0 := by
  obtain ⟨h1, h2, h3, h4⟩ := h
  unfold ligN
  rw [if_neg (h1 (by omega)), if_neg (h2 (by omega)), if_neg (h3 (by omega)), if_neg (h4 (by omega))]

set_option maxRecDepth 100000 in
set_option maxHeartbeats 1000000 in
theorem l2Ligature_any (c : Int) (j : Bool) (w : World) :
    Calls Tryd.prog 84 #[.int .i64 c, .bool j] w fun e w' => e = .returned (.int .i64 (ligN c j)) ∧ Below w.heap.size w w' := by
  have b0 := (Below.refl w.heap.size w).alloc (Nat.le_refl _) (.cells #[.int .i64 1570, .int .i64 1571, .int .i64 1573, .int .i64 1575] 2)
  have E : Hid (ligN c j = if c = 1570 then (if j then 65270 else 65269) else if c = 1571 then (if j then 65272 else 65271)
    else if c = 1573 then (if j then 65274 else 65273) else if c = 1575 then (if j then 65276 else 65275) else 0) := Lib.hid rfl
  go_enter Tryd.func84, Tryd.ntmps84
  go_wp2
  go_loop [6] (fun i => ∃ k : Nat, k ≤ 4 ∧ i = .int .i64 k ∧ Hid (ligLeft k c)) (fun i => (4 - intOf i).toNat)
  case atStart => exact ⟨0, by omega, rfl, Lib.hid ⟨by omega, by omega, by omega, by omega⟩⟩
  case round =>
    obtain ⟨k, hk, rfl, hl⟩ := hrel
    rcases (by omega : k = 0 ∨ k = 1 ∨ k = 2 ∨ k = 3 ∨ k = 4) with rfl | rfl | rfl | rfl | rfl
    · by_cases h : c = 1570
      · subst h
        cases j
        all_goals
          go_wp2
          go_ret
          exact ⟨rint (by rw [E.out]; simp), b0⟩
      · have g : ((1570 : Int) == c) = false := by simp; omega
        have h' := Lib.hid h
        clear h
        go_wp2
        go_round
        case rel => exact ⟨1, by omega, rfl, Lib.hid ⟨fun _ => h'.out, by omega, by omega, by omega⟩⟩
        case measure => simp [intOf]
    · by_cases h : c = 1571
      · subst h
        cases j
        all_goals
          go_wp2
          go_ret
          exact ⟨rint (by rw [E.out]; simp), b0⟩
      · have g : ((1571 : Int) == c) = false := by simp; omega
        have h' := Lib.hid h
        clear h
        go_wp2
        go_round
        case rel => exact ⟨2, by omega, rfl, Lib.hid ⟨fun _ => hl.out.1 (by omega), fun _ => h'.out, by omega, by omega⟩⟩
        case measure => simp [intOf]
    · by_cases h : c = 1573
      · subst h
        cases j
        all_goals
          go_wp2
          go_ret
          exact ⟨rint (by rw [E.out]; simp), b0⟩
      · have g : ((1573 : Int) == c) = false := by simp; omega
        have h' := Lib.hid h
        clear h
        go_wp2
        go_round
        case rel => exact ⟨3, by omega, rfl, Lib.hid ⟨fun _ => hl.out.1 (by omega), fun _ => hl.out.2.1 (by omega), fun _ => h'.out, by omega⟩⟩
        case measure => simp [intOf]
    · by_cases h : c = 1575
      · subst h
        cases j
        all_goals
          go_wp2
          go_ret
          exact ⟨rint (by rw [E.out]; simp), b0⟩
      · have g : ((1575 : Int) == c) = false := by simp; omega
        have h' := Lib.hid h
        clear h
        go_wp2
        go_round
        case rel => exact ⟨4, by omega, rfl, Lib.hid ⟨fun _ => hl.out.1 (by omega), fun _ => hl.out.2.1 (by omega), fun _ => hl.out.2.2.1 (by omega), fun _ => h'.out⟩⟩
        case measure => simp [intOf]
    · go_wp2
      go_ret
      exact ⟨rint (ligN_none hl.out).symm, b0⟩

theorem lig_no {c : Int} {j : Bool} (h : isChr c = false) : ligC c j = 3 ∧ ligV c j = 0 := by unfold ligC ligV; simp [h]
theorem lig_none {c : Int} {j : Bool} (h : isChr c = true) (k : ligN c j = 0) : ligC c j = 4 ∧ ligV c j = 0 := by unfold ligC ligV; simp [h, k]
theorem lig_yes {c : Int} {j : Bool} (h : isChr c = true) (k : ligN c j ≠ 0) : ligC c j = 0 ∧ ligV c j = ligN c j := by unfold ligC ligV; simp [h, k]

set_option maxRecDepth 100000 in
set_option maxHeartbeats 1000000 in
theorem specLigatureOf_val (c : Int) (j : Bool) (w : World) (_ : (Lit.int .i64 c).wf = true) :
    Calls Tryd.prog 44 #[.int .i64 c, .bool j] w fun e w' => e = .returned (.agg #[.int .i64 (ligC c j), .int .i64 (ligV c j)]) ∧ Below w.heap.size w w' := by
  have b0 := (Below.refl w.heap.size w).alloc (Nat.le_refl _) (.cells #[.int .i64 0, .int .i64 0] 47)
  have k0 := Blk.new w 47 #[.int .i64 0, .int .i64 0]
  cases h1 : isChr c
  · have e := Lib.hid (lig_no (j := j) h1)
    go_enter Tryd.func44, Tryd.ntmps44
    go_wp2_with (go_at_call 21; refine (specIsChar_b _ _).mono ?_; rintro e w' ⟨rfl, rfl⟩)
    exact bodyPost_ret (v := .agg #[.int .i64 3, .int .i64 0]) (by simp [results, Tryd.results44, go_sem]) rfl ⟨agg2 e.out.1.symm e.out.2.symm, (Below.refl w.heap.size w).alloc (Nat.le_refl _) _⟩
  · go_enter Tryd.func44, Tryd.ntmps44
    go_wp2_with (go_at_call 21; refine (specIsChar_b _ _).mono ?_; rintro e w' ⟨rfl, rfl⟩)
    refine (l2Ligature_any _ _ _).mono ?_
    rintro e w2 ⟨rfl, b1⟩
    have k2 := k0.below b1 k0.lt
    have b4 := below_on b0 b1 (Nat.le_refl _)
    have hd0 := k2.cell 0 (u := .int .i64 0) rfl
    have hd1 := k2.cell 1 (u := .int .i64 0) rfl
    have hf0 := k2.frozen 0
    have hf1 := k2.frozen 1
    by_cases h2 : ligN c j = 0
    · have e := Lib.hid (lig_none h1 h2)
      have h3 := eq_yes h2
      clear h2
      go_wp2
      exact bodyPost_ret (v := .agg #[.int .i64 4, .int .i64 0]) (by simp [results, Tryd.results44, go_sem, hd0, hd1]) rfl ⟨agg2 e.out.1.symm e.out.2.symm, (b4.setCell (by simp) _).setCell (by simp) _⟩
    · have e := Lib.hid (lig_yes h1 h2)
      have h3 := eq_no h2
      clear h2
      go_wp2
      exact bodyPost_ret (v := .agg #[.int .i64 0, .int .i64 (ligN c j)]) (by simp [results, Tryd.results44, go_sem, hd0, hd1]) rfl ⟨agg2 e.out.1.symm e.out.2.symm, (b4.setCell (by simp) _).setCell (by simp) _⟩

set_option maxRecDepth 100000 in
set_option maxHeartbeats 1000000 in
theorem ligatureOf_val (c : Int) (j : Bool) (w : World) (_ : (Lit.int .i64 c).wf = true) :
    Calls Tryd.prog 37 #[.int .i64 c, .bool j] w fun e w' => e = .returned (.agg #[.int .i64 (ligC c j), .int .i64 (ligV c j)]) ∧ Below w.heap.size w w' := by
  have b0 := (Below.refl w.heap.size w).alloc (Nat.le_refl _) (.cells #[.int .i64 0, .int .i64 0] 47)
  have k0 := Blk.new w 47 #[.int .i64 0, .int .i64 0]
  go_enter Tryd.func37, Tryd.ntmps37
  go_wp2_with fail
  refine (isChar_b _ _).mono ?_
  rintro e w1 ⟨rfl, b1⟩
  have k1 := k0.below b1 k0.lt
  have b2 := below_on b0 b1 (Nat.le_refl _)
  have hd0 := k1.cell 0 (u := .int .i64 0) rfl
  have hd1 := k1.cell 1 (u := .int .i64 0) rfl
  have hf0 := k1.frozen 0
  have hf1 := k1.frozen 1
  cases h1 : isChr c
  · have e := Lib.hid (lig_no (j := j) h1)
    go_wp2
    exact bodyPost_ret (v := .agg #[.int .i64 3, .int .i64 0]) (by simp [results, Tryd.results37, go_sem, hd0, hd1]) rfl ⟨agg2 e.out.1.symm e.out.2.symm, (b2.setCell (by simp) _).setCell (by simp) _⟩
  · by_cases h2 : ligN c j = 0
    · have e := Lib.hid (lig_none h1 h2)
      have g : c ≠ 1570 ∧ c ≠ 1571 ∧ c ≠ 1573 ∧ c ≠ 1575 := by
        unfold ligN at h2
        refine ⟨?_, ?_, ?_, ?_⟩ <;> rintro rfl <;> cases j <;> simp at h2
      obtain ⟨g1, g2, g3, g4⟩ := g
      have g1 := eq_no g1
      have g2 := eq_no g2
      have g3 := eq_no g3
      have g4 := eq_no g4
      clear h2
      go_wp2
      exact bodyPost_ret (v := .agg #[.int .i64 4, .int .i64 0]) (by simp [results, Tryd.results37, go_sem, hd0, hd1]) rfl ⟨agg2 e.out.1.symm e.out.2.symm, (b2.setCell (by simp) _).setCell (by simp) _⟩
    · have e := Lib.hid (lig_yes h1 h2)
      have g : c = 1570 ∨ c = 1571 ∨ c = 1573 ∨ c = 1575 := by
        unfold ligN at h2
        by_cases h5 : c = 1570
        · exact .inl h5
        · by_cases h6 : c = 1571
          · exact .inr (.inl h6)
          · by_cases h7 : c = 1573
            · exact .inr (.inr (.inl h7))
            · by_cases h8 : c = 1575
              · exact .inr (.inr (.inr h8))
              · rw [if_neg h5, if_neg h6, if_neg h7, if_neg h8] at h2; exact absurd rfl h2
      clear h2
      have EL : Hid (∀ c, ligN c j = if c = 1570 then (if j then 65270 else 65269) else if c = 1571 then (if j then 65272 else 65271)
        else if c = 1573 then (if j then 65274 else 65273) else if c = 1575 then (if j then 65276 else 65275) else 0) := Lib.hid fun _ => rfl
      clear h1
      rcases g with rfl | rfl | rfl | rfl
      all_goals cases j
      · go_wp2
        exact bodyPost_ret (v := .agg #[.int .i64 0, .int .i64 65269]) (by simp [results, Tryd.results37, go_sem, hd0, hd1]) rfl ⟨agg2 e.out.1.symm ((by rw [EL.out]; simp : (65269 : Int) = ligN _ _).trans e.out.2.symm), (b2.setCell (by simp) _).setCell (by simp) _⟩
      · go_wp2
        exact bodyPost_ret (v := .agg #[.int .i64 0, .int .i64 65270]) (by simp [results, Tryd.results37, go_sem, hd0, hd1]) rfl ⟨agg2 e.out.1.symm ((by rw [EL.out]; simp : (65270 : Int) = ligN _ _).trans e.out.2.symm), (b2.setCell (by simp) _).setCell (by simp) _⟩
      · go_wp2
        exact bodyPost_ret (v := .agg #[.int .i64 0, .int .i64 65271]) (by simp [results, Tryd.results37, go_sem, hd0, hd1]) rfl ⟨agg2 e.out.1.symm ((by rw [EL.out]; simp : (65271 : Int) = ligN _ _).trans e.out.2.symm), (b2.setCell (by simp) _).setCell (by simp) _⟩
      · go_wp2
        exact bodyPost_ret (v := .agg #[.int .i64 0, .int .i64 65272]) (by simp [results, Tryd.results37, go_sem, hd0, hd1]) rfl ⟨agg2 e.out.1.symm ((by rw [EL.out]; simp : (65272 : Int) = ligN _ _).trans e.out.2.symm), (b2.setCell (by simp) _).setCell (by simp) _⟩
      · go_wp2
        exact bodyPost_ret (v := .agg #[.int .i64 0, .int .i64 65273]) (by simp [results, Tryd.results37, go_sem, hd0, hd1]) rfl ⟨agg2 e.out.1.symm ((by rw [EL.out]; simp : (65273 : Int) = ligN _ _).trans e.out.2.symm), (b2.setCell (by simp) _).setCell (by simp) _⟩
      · go_wp2
        exact bodyPost_ret (v := .agg #[.int .i64 0, .int .i64 65274]) (by simp [results, Tryd.results37, go_sem, hd0, hd1]) rfl ⟨agg2 e.out.1.symm ((by rw [EL.out]; simp : (65274 : Int) = ligN _ _).trans e.out.2.symm), (b2.setCell (by simp) _).setCell (by simp) _⟩
      · go_wp2
        exact bodyPost_ret (v := .agg #[.int .i64 0, .int .i64 65275]) (by simp [results, Tryd.results37, go_sem, hd0, hd1]) rfl ⟨agg2 e.out.1.symm ((by rw [EL.out]; simp : (65275 : Int) = ligN _ _).trans e.out.2.symm), (b2.setCell (by simp) _).setCell (by simp) _⟩
      · go_wp2
        exact bodyPost_ret (v := .agg #[.int .i64 0, .int .i64 65276]) (by simp [results, Tryd.results37, go_sem, hd0, hd1]) rfl ⟨agg2 e.out.1.symm ((by rw [EL.out]; simp : (65276 : Int) = ligN _ _).trans e.out.2.symm), (b2.setCell (by simp) _).setCell (by simp) _⟩
end Go.Proofs.YtflnpfkmlocllaaDoor
