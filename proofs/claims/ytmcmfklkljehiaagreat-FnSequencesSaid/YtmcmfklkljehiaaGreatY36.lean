/- SameSequences: how much the arguments hold; the model's and the program's comparison. -/
import Derived.Test.YtmcmfklkljehiaaGreatY34
namespace Go.Proofs.YtmcmfklkljehiaaGreat
open Go.RowKit

/-- two sequences are the same -/
def eq1 (q p : Sq) : Bool := decide (q.places = p.places) && decide (q.level = p.level) && decide (q.sos = p.sos) && decide (q.eos = p.eos)
def eqQ : List Sq → List Sq → Bool
  | [], [] => true
  | q :: r, p :: s => eq1 q p && eqQ r s
  | [], _ :: _ => false
  | _ :: _, [] => false
theorem eqQ_len : ∀ (a b : List Sq), a.length ≠ b.length → eqQ a b = false
  | [], [], h => by simp at h
  | [], _ :: _, _ => rfl
  | _ :: _, [], _ => rfl
  | q :: r, p :: s, h => by
    show (eq1 q p && eqQ r s) = false
    rw [eqQ_len r s (by simpa using h), Bool.and_false]
theorem drop_nthQ (qs : List Sq) (k : Nat) (h : k < qs.length) : qs.drop k = nthQ qs k :: qs.drop (k + 1) := by
  rw [List.drop_eq_getElem_cons h]; simp [nthQ, List.getElem?_eq_getElem h]
theorem eqQ_step (a b : List Sq) (k : Nat) (ha : k < a.length) (hb : k < b.length) : eqQ (a.drop k) (b.drop k) = (eq1 (nthQ a k) (nthQ b k) && eqQ (a.drop (k + 1)) (b.drop (k + 1))) := by
  rw [drop_nthQ a k ha, drop_nthQ b k hb]; rfl
/-- which of the five ways -/
theorem eq1_ways (q p : Sq) : (q.places ≠ p.places ∧ eq1 q p = false) ∨ (q.places = p.places ∧ q.level ≠ p.level ∧ eq1 q p = false) ∨ (q.places = p.places ∧ q.level = p.level ∧ q.sos ≠ p.sos ∧ eq1 q p = false) ∨
    (q.places = p.places ∧ q.level = p.level ∧ q.sos = p.sos ∧ q.eos ≠ p.eos ∧ eq1 q p = false) ∨ (q.places = p.places ∧ q.level = p.level ∧ q.sos = p.sos ∧ q.eos = p.eos ∧ eq1 q p = true) := by
  unfold eq1
  by_cases h1 : q.places = p.places <;> by_cases h2 : q.level = p.level <;> by_cases h3 : q.sos = p.sos <;> by_cases h4 : q.eos = p.eos <;> simp [h1, h2, h3, h4]

set_option maxRecDepth 100000 in
set_option maxHeartbeats 2000000 in
theorem sameSequence_any (u u' : Value) (q p : Sq) (w : World) (B B' : Nat) (h1 : Sees w B .i64 u q.places) (h2 : Sees w B' .i64 u' p.places) (hB : B ≤ w.heap.size) (hB' : B' ≤ w.heap.size) (hl : q.places.length < 1000000000) (hl' : p.places.length < 1000000000) :
    Calls Tryz.prog 34 #[.agg #[u, .int .i64 q.level, .int .i64 q.sos, .int .i64 q.eos], .agg #[u', .int .i64 p.level, .int .i64 p.sos, .int .i64 p.eos]] w fun e w' => e = .returned (.bool (eq1 q p)) ∧ Below w.heap.size w w' := by
  have b0 := ((Below.refl w.heap.size w).alloc (Nat.le_refl _) (.cells #[u, .int .i64 q.level, .int .i64 q.sos, .int .i64 q.eos] 46)).alloc (by simp) (.cells #[u', .int .i64 p.level, .int .i64 p.sos, .int .i64 p.eos] 46)
  have S1 := h1.below b0 hB
  have S2 := h2.below b0 hB'
  obtain ⟨A, c, rfl, _⟩ := h1
  obtain ⟨A', c', rfl, _⟩ := h2
  obtain ⟨_, _, x1, r1⟩ := S1
  obtain ⟨_, _, x2, r2⟩ := S2
  cases x1
  cases x2
  have CT := Lib.hid (slicesEqualInt_any A A' q.places p.places c c' _ B B' r1 r2 hl hl')
  have B0 := Lib.hid b0
  clear r1 r2 b0
  rcases eq1_ways q p with ⟨d1, ev⟩ | ⟨d1, d2, ev⟩ | ⟨d1, d2, d3, ev⟩ | ⟨d1, d2, d3, d4, ev⟩ | ⟨d1, d2, d3, d4, ev⟩
  · have P0 := Lib.hid (show decide (q.places = p.places) = false from decide_eq_false d1)
    have EV := Lib.hid ev
    clear ev d1
    go_enter Tryz.func34, Tryz.ntmps34
    go_wp2_with (first
      | (go_at_call 67; refine CT.out.mono ?_; rintro e w5 ⟨rfl, n, rfl⟩; rw [P0.out]))
    go_ret
    exact ⟨rbool EV.out.symm, below_drewN B0.out _⟩
  · have P0 := Lib.hid (show decide (q.places = p.places) = true from decide_eq_true d1)
    have n1a : (q.level == p.level) = false := by simp [d2]
    have n1b : (q.level != p.level) = true := by simp [d2]
    have EV := Lib.hid ev
    clear ev d1 d2
    go_enter Tryz.func34, Tryz.ntmps34
    go_wp2_with (first
      | (go_at_call 67; refine CT.out.mono ?_; rintro e w5 ⟨rfl, n, rfl⟩; rw [P0.out]))
    go_ret
    exact ⟨rbool EV.out.symm, below_drewN B0.out _⟩
  · have P0 := Lib.hid (show decide (q.places = p.places) = true from decide_eq_true d1)
    have n1a : (q.level == p.level) = true := by simp [d2]
    have n1b : (q.level != p.level) = false := by simp [d2]
    have n2a : (q.sos == p.sos) = false := by simp [d3]
    have n2b : (q.sos != p.sos) = true := by simp [d3]
    have EV := Lib.hid ev
    clear ev d1 d2 d3
    go_enter Tryz.func34, Tryz.ntmps34
    go_wp2_with (first
      | (go_at_call 67; refine CT.out.mono ?_; rintro e w5 ⟨rfl, n, rfl⟩; rw [P0.out]))
    go_ret
    exact ⟨rbool EV.out.symm, below_drewN B0.out _⟩
  · have P0 := Lib.hid (show decide (q.places = p.places) = true from decide_eq_true d1)
    have n1a : (q.level == p.level) = true := by simp [d2]
    have n1b : (q.level != p.level) = false := by simp [d2]
    have n2a : (q.sos == p.sos) = true := by simp [d3]
    have n2b : (q.sos != p.sos) = false := by simp [d3]
    have n3a : (q.eos == p.eos) = false := by simp [d4]
    have n3b : (q.eos != p.eos) = true := by simp [d4]
    have EV := Lib.hid ev
    clear ev d1 d2 d3 d4
    go_enter Tryz.func34, Tryz.ntmps34
    go_wp2_with (first
      | (go_at_call 67; refine CT.out.mono ?_; rintro e w5 ⟨rfl, n, rfl⟩; rw [P0.out]))
    go_ret
    exact ⟨rbool EV.out.symm, below_drewN B0.out _⟩
  · have P0 := Lib.hid (show decide (q.places = p.places) = true from decide_eq_true d1)
    have n1a : (q.level == p.level) = true := by simp [d2]
    have n1b : (q.level != p.level) = false := by simp [d2]
    have n2a : (q.sos == p.sos) = true := by simp [d3]
    have n2b : (q.sos != p.sos) = false := by simp [d3]
    have n3a : (q.eos == p.eos) = true := by simp [d4]
    have n3b : (q.eos != p.eos) = false := by simp [d4]
    have EV := Lib.hid ev
    clear ev d1 d2 d3 d4
    go_enter Tryz.func34, Tryz.ntmps34
    go_wp2_with (first
      | (go_at_call 67; refine CT.out.mono ?_; rintro e w5 ⟨rfl, n, rfl⟩; rw [P0.out]))
    go_ret
    exact ⟨rbool EV.out.symm, below_drewN B0.out _⟩
theorem specST_see {A A' : Option Addr} {n n' c c' : Nat} {xs ys : List Int} {w : World} {B B' : Nat} {bb : Bool} (h1 : Sees w B .i64 (.slice A n c) xs) (h2 : Sees w B' .i64 (.slice A' n' c') ys) (l1 : xs.length < 1000000000) (l2 : ys.length < 1000000000) (hbb : decide (xs = ys) = bb) :
    Calls Tryz.prog 38 #[.slice A n c, .slice A' n' c'] w fun e w' => e = .returned (.bool bb) ∧ ∃ n, w' = w.drewN n := by
  obtain ⟨_, _, e, r⟩ := h1
  obtain ⟨_, _, e', r'⟩ := h2
  cases e
  cases e'
  rw [← hbb]
  exact specSameTexts_any A A' xs ys c c' w B B' r r' l1 l2
set_option maxRecDepth 100000 in
set_option maxHeartbeats 4000000 in
theorem specSame_any (v u : Value) (qs ps : List Sq) (w : World) (B B' : Nat) (h1 : SeesQS w B v qs) (h2 : SeesQS w B' u ps) (hB : B ≤ w.heap.size) (hB' : B' ≤ w.heap.size) (hl : qs.length < 2000000) (hl' : ps.length < 2000000) (l1 : ∀ j, j < qs.length → (nthQ qs j).places.length < 1000000000) (l2 : ∀ j, j < ps.length → (nthQ ps j).places.length < 1000000000) :
    Calls Tryz.prog 16 #[v, u] w fun e w' => e = .returned (.bool (eqQ qs ps)) ∧ Below w.heap.size w w' := by
  obtain ⟨us1, h1⟩ := h1
  obtain ⟨us2, h2⟩ := h2
  have H1 := Lib.hid h1
  have H2 := Lib.hid h2
  obtain ⟨A, c, rfl⟩ := h1.form
  obtain ⟨A', c', rfl⟩ := h2.form
  have T1 := Lib.hid l1
  have T2 := Lib.hid l2
  clear h1 h2 l1 l2
  by_cases hn : qs.length = ps.length
  · have hne : ((qs.length : Int) != (ps.length : Int)) = false := by simp [hn]
    have HN := Lib.hid hn
    have E0 : Hid (eqQ qs ps = eqQ (qs.drop 0) (ps.drop 0)) := Lib.hid rfl
    obtain ⟨ans, hans⟩ : ∃ ans, Hid (ans = eqQ qs ps) := ⟨_, Lib.hid rfl⟩
    rw [← hans.out] at E0 ⊢
    clear hn
    go_enter Tryz.func16, Tryz.ntmps16
    go_wp2
    go_loopw [5] (fun i wr => ∃ k : Nat, k ≤ qs.length ∧ i = .int .i64 k ∧ Hid (ans = eqQ (qs.drop k) (ps.drop k)) ∧ Hid (Below w.heap.size w wr)) (fun i _ => qs.length - (intOf i).toNat)
    case atStart => exact ⟨0, by omega, rfl, E0, Lib.hid (Below.refl _ _)⟩
    case round =>
    clear E0
    obtain ⟨k, hk, rfl, hs, hbr⟩ := hrel
    by_cases hlt : k < qs.length
    · have hlt' : k < ps.length := by rw [← HN.out]; exact hlt
      have H1r := Lib.hid (H1.out.below hbr.out hB)
      have H2r := Lib.hid (H2.out.below hbr.out hB')
      obtain ⟨b, off, cc, x1, e1, hb, hc0, s1, hc1, hc2, hc3⟩ := H1r.out.at_ k hlt
      obtain ⟨b', off', cc', x2, e2, hb', hd0, s2, hd1, hd2, hd3⟩ := H2r.out.at_ k hlt'
      cases e1
      cases e2
      have t1 := T1.out k hlt
      have t2 := T2.out k hlt'
      have ES := Lib.hid (eqQ_step qs ps k hlt hlt')
      obtain ⟨A1, c1, rfl, r1⟩ := s1
      obtain ⟨A2, c2, rfl, r2⟩ := s2
      obtain ⟨q, hq⟩ : ∃ q, Hid (q = nthQ qs k) := ⟨_, Lib.hid rfl⟩
      obtain ⟨p, hp⟩ : ∃ p, Hid (p = nthQ ps k) := ⟨_, Lib.hid rfl⟩
      rw [← hq.out] at hc0 hc1 hc2 hc3 r1 t1
      rw [← hp.out] at hd0 hd1 hd2 hd3 r2 t2
      rw [← hq.out, ← hp.out] at ES
      have hc1' : wr.cell? ⟨b, off + k * 4 + 1, none⟩ = some (.int .i64 q.level) := hc1
      have hc2' : wr.cell? ⟨b, off + k * 4 + 2, none⟩ = some (.int .i64 q.sos) := hc2
      have hc3' : wr.cell? ⟨b, off + k * 4 + 3, none⟩ = some (.int .i64 q.eos) := hc3
      have hd1' : wr.cell? ⟨b', off' + k * 4 + 1, none⟩ = some (.int .i64 p.level) := hd1
      have hd2' : wr.cell? ⟨b', off' + k * 4 + 2, none⟩ = some (.int .i64 p.sos) := hd2
      have hd3' : wr.cell? ⟨b', off' + k * 4 + 3, none⟩ = some (.int .i64 p.eos) := hd3
      have SQ := Lib.hid (show Sees wr B .i64 (.slice A1 q.places.length c1) q.places from ⟨_, _, rfl, r1⟩)
      have SP := Lib.hid (show Sees wr B' .i64 (.slice A2 p.places.length c2) p.places from ⟨_, _, rfl, r2⟩)
      clear hc1 hc2 hc3 hd1 hd2 hd3 r1 r2
      rcases eq1_ways q p with ⟨d1, ev⟩ | ⟨d1, d2, ev⟩ | ⟨d1, d2, d3, ev⟩ | ⟨d1, d2, d3, d4, ev⟩ | ⟨d1, d2, d3, d4, ev⟩
      · have P0 := Lib.hid (show decide (q.places = p.places) = false from decide_eq_false d1)
        have EV := Lib.hid ev
        clear ev d1
        have ST := Lib.hid (fun n : Nat => specST_see (bb := false) (SQ.out.drew n) (SP.out.drew n) t1 t2 P0.out)
        go_wp2
        go_quiet ((go_at_call 38; exact quiet_own (ST.out _)))
        go_wp2
        go_ret
        exact ⟨rbool (by rw [hs.out, ES.out, EV.out, Bool.false_and]), below_drewN hbr.out _⟩
      · have P0 := Lib.hid (show decide (q.places = p.places) = true from decide_eq_true d1)
        have n1a : (q.level == p.level) = false := by simp [d2]
        have n1b : (q.level != p.level) = true := by simp [d2]
        have EV := Lib.hid ev
        clear ev d1 d2
        have ST := Lib.hid (fun n : Nat => specST_see (bb := true) (SQ.out.drew n) (SP.out.drew n) t1 t2 P0.out)
        go_wp2
        go_quiet ((go_at_call 38; exact quiet_own (ST.out _)))
        go_wp2
        go_ret
        exact ⟨rbool (by rw [hs.out, ES.out, EV.out, Bool.false_and]), below_drewN hbr.out _⟩
      · have P0 := Lib.hid (show decide (q.places = p.places) = true from decide_eq_true d1)
        have n1a : (q.level == p.level) = true := by simp [d2]
        have n1b : (q.level != p.level) = false := by simp [d2]
        have n2a : (q.sos == p.sos) = false := by simp [d3]
        have n2b : (q.sos != p.sos) = true := by simp [d3]
        have EV := Lib.hid ev
        clear ev d1 d2 d3
        have ST := Lib.hid (fun n : Nat => specST_see (bb := true) (SQ.out.drew n) (SP.out.drew n) t1 t2 P0.out)
        go_wp2
        go_quiet ((go_at_call 38; exact quiet_own (ST.out _)))
        go_wp2
        go_ret
        exact ⟨rbool (by rw [hs.out, ES.out, EV.out, Bool.false_and]), below_drewN hbr.out _⟩
      · have P0 := Lib.hid (show decide (q.places = p.places) = true from decide_eq_true d1)
        have n1a : (q.level == p.level) = true := by simp [d2]
        have n1b : (q.level != p.level) = false := by simp [d2]
        have n2a : (q.sos == p.sos) = true := by simp [d3]
        have n2b : (q.sos != p.sos) = false := by simp [d3]
        have n3a : (q.eos == p.eos) = false := by simp [d4]
        have n3b : (q.eos != p.eos) = true := by simp [d4]
        have EV := Lib.hid ev
        clear ev d1 d2 d3 d4
        have ST := Lib.hid (fun n : Nat => specST_see (bb := true) (SQ.out.drew n) (SP.out.drew n) t1 t2 P0.out)
        go_wp2
        go_quiet ((go_at_call 38; exact quiet_own (ST.out _)))
        go_wp2
        go_ret
        exact ⟨rbool (by rw [hs.out, ES.out, EV.out, Bool.false_and]), below_drewN hbr.out _⟩
      · have P0 := Lib.hid (show decide (q.places = p.places) = true from decide_eq_true d1)
        have n1a : (q.level == p.level) = true := by simp [d2]
        have n1b : (q.level != p.level) = false := by simp [d2]
        have n2a : (q.sos == p.sos) = true := by simp [d3]
        have n2b : (q.sos != p.sos) = false := by simp [d3]
        have n3a : (q.eos == p.eos) = true := by simp [d4]
        have n3b : (q.eos != p.eos) = false := by simp [d4]
        have EV := Lib.hid ev
        clear ev d1 d2 d3 d4
        have ST := Lib.hid (fun n : Nat => specST_see (bb := true) (SQ.out.drew n) (SP.out.drew n) t1 t2 P0.out)
        go_wp2
        go_quiet ((go_at_call 38; exact quiet_own (ST.out _)))
        go_wp2
        go_roundw
        case rel => exact ⟨k + 1, by omega, by go_num, Lib.hid (by rw [hs.out, ES.out, EV.out, Bool.true_and]), Lib.hid (below_drewN hbr.out _)⟩
        case measure => first | omega | (simp [intOf]; omega)
    · have E := Lib.hid (show ans = true by rw [hs.out, List.drop_of_length_le (by omega), List.drop_of_length_le (by have := HN.out; omega)]; rfl)
      go_wp2
      go_ret
      exact ⟨rbool E.out.symm, hbr.out⟩
  · have hne : ((qs.length : Int) != (ps.length : Int)) = true := by simp; omega
    have E := Lib.hid (eqQ_len qs ps hn)
    clear hn
    go_enter Tryz.func16, Tryz.ntmps16
    go_wp2
    go_ret
    exact ⟨rbool E.out.symm, Below.refl _ _⟩
end Go.Proofs.YtmcmfklkljehiaaGreat
