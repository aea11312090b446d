/- SameSequences: the library's EqualFunc at sequences; the program's. -/
import Derived.Test.YtmcmfklkljehiaaGreatY36
namespace Go.Proofs.YtmcmfklkljehiaaGreat
open Go.RowKit

set_option maxRecDepth 100000 in
set_option maxHeartbeats 4000000 in
theorem equalFunc_any (v u : Value) (qs ps : List Sq) (w : World) (B B' : Nat) (h1 : SeesQS w B v qs) (h2 : SeesQS w B' u ps) (hB : B ≤ w.heap.size) (hB' : B' ≤ w.heap.size) (hl : qs.length < 2000000) (hl' : ps.length < 2000000) (l1 : ∀ j, j < qs.length → (nthQ qs j).places.length < 1000000000) (l2 : ∀ j, j < ps.length → (nthQ ps j).places.length < 1000000000) :
    Calls Tryz.prog 33 #[v, u, .func (.func 34) #[] #[]] w fun e w' => e = .returned (.bool (eqQ qs ps)) ∧ Below w.heap.size w w' := by
  obtain ⟨us1, h1⟩ := h1
  obtain ⟨us2, h2⟩ := h2
  have H1 := Lib.hid h1
  have H2 := Lib.hid h2
  obtain ⟨A, c, rfl⟩ := h1.form
  obtain ⟨A', c', rfl⟩ := h2.form
  have T1 := Lib.hid l1
  have T2 := Lib.hid l2
  clear h1 h2 l1 l2
  by_cases hn : qs.length = ps.length
  · have hne : ((qs.length : Int) != (ps.length : Int)) = false := by simp [hn]
    have HN := Lib.hid hn
    have E0 : Hid (eqQ qs ps = eqQ (qs.drop 0) (ps.drop 0)) := Lib.hid rfl
    obtain ⟨ans, hans⟩ : ∃ ans, Hid (ans = eqQ qs ps) := ⟨_, Lib.hid rfl⟩
    rw [← hans.out] at E0 ⊢
    clear hn
    go_enter Tryz.func33, Tryz.ntmps33
    go_wp2
    go_loopw [17] (fun i wr => ∃ k : Nat, k ≤ qs.length ∧ i = .int .i64 k ∧ Hid (ans = eqQ (qs.drop k) (ps.drop k)) ∧ Hid (Below w.heap.size w wr)) (fun i _ => qs.length - (intOf i).toNat)
    case atStart => exact ⟨0, by omega, rfl, E0, Lib.hid (Below.refl _ _)⟩
    case round =>
    clear E0
    obtain ⟨k, hk, rfl, hs, hbr⟩ := hrel
    have wsz := hbr.out.size
    by_cases hlt : k < qs.length
    · have hlt' : k < ps.length := by rw [← HN.out]; exact hlt
      have H1r := Lib.hid (H1.out.below hbr.out hB)
      have H2r := Lib.hid (H2.out.below hbr.out hB')
      obtain ⟨b, off, cc, x1, e1, hb, hc0, s1, hc1, hc2, hc3⟩ := H1r.out.at_ k hlt
      obtain ⟨b', off', cc', x2, e2, hb', hd0, s2, hd1, hd2, hd3⟩ := H2r.out.at_ k hlt'
      cases e1
      cases e2
      have t1 := T1.out k hlt
      have t2 := T2.out k hlt'
      have ES := Lib.hid (eqQ_step qs ps k hlt hlt')
      obtain ⟨A1, c1, rfl, r1⟩ := s1
      obtain ⟨A2, c2, rfl, r2⟩ := s2
      obtain ⟨q, hq⟩ : ∃ q, Hid (q = nthQ qs k) := ⟨_, Lib.hid rfl⟩
      obtain ⟨p, hp⟩ : ∃ p, Hid (p = nthQ ps k) := ⟨_, Lib.hid rfl⟩
      rw [← hq.out] at hc0 hc1 hc2 hc3 r1 t1
      rw [← hp.out] at hd0 hd1 hd2 hd3 r2 t2
      rw [← hq.out, ← hp.out] at ES
      have hc1' : wr.cell? ⟨b, off + k * 4 + 1, none⟩ = some (.int .i64 q.level) := hc1
      have hc2' : wr.cell? ⟨b, off + k * 4 + 2, none⟩ = some (.int .i64 q.sos) := hc2
      have hc3' : wr.cell? ⟨b, off + k * 4 + 3, none⟩ = some (.int .i64 q.eos) := hc3
      have hd1' : wr.cell? ⟨b', off' + k * 4 + 1, none⟩ = some (.int .i64 p.level) := hd1
      have hd2' : wr.cell? ⟨b', off' + k * 4 + 2, none⟩ = some (.int .i64 p.sos) := hd2
      have hd3' : wr.cell? ⟨b', off' + k * 4 + 3, none⟩ = some (.int .i64 p.eos) := hd3
      have SQ := Lib.hid (show Sees wr B .i64 (.slice A1 q.places.length c1) q.places from ⟨_, _, rfl, r1⟩)
      have SP := Lib.hid (show Sees wr B' .i64 (.slice A2 p.places.length c2) p.places from ⟨_, _, rfl, r2⟩)
      clear hc1 hc2 hc3 hd1 hd2 hd3 r1 r2
      have bb := ((Below.refl wr.heap.size wr).alloc (Nat.le_refl _) (.cells #[.slice A1 q.places.length c1, .int .i64 q.level, .int .i64 q.sos, .int .i64 q.eos] 46)).alloc (by simp) (.cells #[.slice A2 p.places.length c2, .int .i64 p.level, .int .i64 p.sos, .int .i64 p.eos] 46)
      have b1 := ((Below.refl wr.heap.size wr).alloc (Nat.le_refl _) (.cells #[.slice A1 q.places.length c1, .int .i64 q.level, .int .i64 q.sos, .int .i64 q.eos] 46))
      have lb' : b' < wr.heap.size := by omega
      have hd0'' := (b1.cell (p := ⟨b', off' + k * 4, none⟩) lb').trans hd0
      have hd1'' := (b1.cell (p := ⟨b', off' + k * 4 + 1, none⟩) lb').trans hd1'
      have hd2'' := (b1.cell (p := ⟨b', off' + k * 4 + 2, none⟩) lb').trans hd2'
      have hd3'' := (b1.cell (p := ⟨b', off' + k * 4 + 3, none⟩) lb').trans hd3'
      have CT := Lib.hid (sameSequence_any (.slice A1 q.places.length c1) (.slice A2 p.places.length c2) q p _ B B' (SQ.out.below bb (by omega)) (SP.out.below bb (by omega)) (by simp; omega) (by simp; omega) t1 t2)
      have BB := Lib.hid (hbr.out.trans (bb.mono wsz))
      have szb : wr.heap.size ≤ ((wr.alloc (.cells #[.slice A1 q.places.length c1, .int .i64 q.level, .int .i64 q.sos, .int .i64 q.eos] 46)).alloc (.cells #[.slice A2 p.places.length c2, .int .i64 p.level, .int .i64 p.sos, .int .i64 p.eos] 46)).heap.size := by simp; omega
      clear bb b1
      by_cases he : eq1 q p = true
      · have EV := Lib.hid he
        rw [he] at CT
        clear he
        go_wp2_with (first
          | (go_at_call 34; refine CT.out.mono ?_; rintro e w5 ⟨rfl, b5⟩; have B5 := Lib.hid (below_on BB.out b5 (Nat.le_refl _)); clear b5))
        go_roundw
        case rel => exact ⟨k + 1, by omega, by go_num, Lib.hid (by rw [hs.out, ES.out, EV.out, Bool.true_and]), B5⟩
        case measure => first | omega | (simp [intOf]; omega)
      · have hf : eq1 q p = false := by simpa using he
        have EV := Lib.hid hf
        rw [hf] at CT
        clear he hf
        go_wp2_with (first
          | (go_at_call 34; refine CT.out.mono ?_; rintro e w5 ⟨rfl, b5⟩; have B5 := Lib.hid (below_on BB.out b5 (Nat.le_refl _)); clear b5))
        go_ret
        exact ⟨rbool (by rw [hs.out, ES.out, EV.out, Bool.false_and]), B5.out⟩
    · have E := Lib.hid (show ans = true by rw [hs.out, List.drop_of_length_le (by omega), List.drop_of_length_le (by have := HN.out; omega)]; rfl)
      go_wp2
      go_ret
      exact ⟨rbool E.out.symm, hbr.out⟩
  · have hne : ((qs.length : Int) != (ps.length : Int)) = true := by simp; omega
    have E := Lib.hid (eqQ_len qs ps hn)
    clear hn
    go_enter Tryz.func33, Tryz.ntmps33
    go_wp2
    go_ret
    exact ⟨rbool E.out.symm, Below.refl _ _⟩
set_option maxRecDepth 100000 in
set_option maxHeartbeats 1000000 in
theorem sameSequences_any (v u : Value) (qs ps : List Sq) (w : World) (B B' : Nat) (h1 : SeesQS w B v qs) (h2 : SeesQS w B' u ps) (hB : B ≤ w.heap.size) (hB' : B' ≤ w.heap.size) (hl : qs.length < 2000000) (hl' : ps.length < 2000000) (l1 : ∀ j, j < qs.length → (nthQ qs j).places.length < 1000000000) (l2 : ∀ j, j < ps.length → (nthQ ps j).places.length < 1000000000) :
    Calls Tryz.prog 11 #[v, u] w fun e w' => e = .returned (.bool (eqQ qs ps)) ∧ Below w.heap.size w w' := by
  have CT := Lib.hid (equalFunc_any v u qs ps w B B' h1 h2 hB hB' hl hl' l1 l2)
  obtain ⟨A, c, rfl⟩ : ∃ A c, v = .slice A qs.length c := by obtain ⟨us, h⟩ := h1; exact h.form
  obtain ⟨A', c', rfl⟩ : ∃ A c, u = .slice A ps.length c := by obtain ⟨us, h⟩ := h2; exact h.form
  clear h1 h2
  go_enter Tryz.func11, Tryz.ntmps11
  go_wp2_with (first
    | (go_at_call 33; refine CT.out.mono ?_; rintro e w5 ⟨rfl, b5⟩))
  go_ret
  exact ⟨rfl, b5⟩
end Go.Proofs.YtmcmfklkljehiaaGreat
