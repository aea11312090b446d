/- Chapter 6: what the program's steps make of a place. -/
import Derived.Test.YtmcmfklkljehiaaW3
namespace Go.Proofs.Ytmcmfklkljehiaa
open Go.RowKit Go.Shelf

section
variable {w : World} {B g : Nat} {A : Option Addr} {c : Nat} {cs : List Int} {s : Int}
set_option maxRecDepth 100000 in
set_option maxHeartbeats 1000000 in
theorem number_any (h : WkR w 51 B g A c cs s) (hB : B ≤ w.heap.size) (hl : cs.length ≤ 600) (hcp : cs.length ≤ c) (k : Nat) (hk : k < cs.length) :
    Calls Try.prog 49 #[.pointer (some ⟨g, 0, none⟩), .int .i64 k] w fun e w' => e = .returned (.int .i64 (fNum s cs k)) ∧ Below w.heap.size w w' := by
  have b0 := (Below.refl w.heap.size w).alloc (Nat.le_refl _) (.cells #[.int .i64 0, .int .i64 1, .int .i64 2] 2)
  have H1 := Lib.hid (h.below b0 hB)
  have B0 := Lib.hid b0
  have LI := Lib.hid (Rd.lit w #[.int .i64 0, .int .i64 1, .int .i64 2] 2)
  have E := Lib.hid (fNum_eq s cs k)
  obtain ⟨q, hq⟩ : ∃ q, Hid (q = lastA [0, 1, 2] s cs k) := ⟨_, Lib.hid rfl⟩
  rw [← hq.out] at E
  clear h b0
  go_enter Try.func49, Try.ntmps49
  go_wp2_with fail
  refine (lastAhead_any H1.out (by simp; omega) k (by omega) hl hcp _ [0, 1, 2] 3 _ LI.out (by simp) (by simp)).mono ?_
  rintro e w2 ⟨rfl, b2⟩
  rw [← hq.out]
  have B2 := Lib.hid (below_on B0.out b2 (Nat.le_refl _))
  clear b2
  by_cases hc : q = 2
  · have E2 := Lib.hid (show fNum s cs k = 6 by rw [E.out, if_pos hc])
    have hb : (q == 2) = true := by simp [hc]
    clear hc
    go_wp2
    go_ret
    exact ⟨rint E2.out.symm, B2.out⟩
  · have E2 := Lib.hid (show fNum s cs k = 3 by rw [E.out, if_neg hc])
    have hb : (q == 2) = false := by simpa using hc
    clear hc
    go_wp2
    go_ret
    exact ⟨rint E2.out.symm, B2.out⟩
set_option maxRecDepth 100000 in
set_option maxHeartbeats 1000000 in
theorem numberOfSide_any (h : WkR w 51 B g A c cs s) (hB : B ≤ w.heap.size) (hl : cs.length ≤ 600) (hcp : cs.length ≤ c) (k : Nat) (hk : k < cs.length) :
    Calls Try.prog 54 #[.pointer (some ⟨g, 0, none⟩), .int .i64 k] w fun e w' => e = .returned (.int .i64 (fSide s cs k)) ∧ Below w.heap.size w w' := by
  have b0 := (Below.refl w.heap.size w).alloc (Nat.le_refl _) (.cells #[.int .i64 0, .int .i64 1] 2)
  have H1 := Lib.hid (h.below b0 hB)
  have B0 := Lib.hid b0
  have LI := Lib.hid (Rd.lit w #[.int .i64 0, .int .i64 1] 2)
  have E := Lib.hid (fSide_eq s cs k)
  obtain ⟨q, hq⟩ : ∃ q, Hid (q = lastA [0, 1] s cs k) := ⟨_, Lib.hid rfl⟩
  rw [← hq.out] at E
  clear h b0
  go_enter Try.func54, Try.ntmps54
  go_wp2_with fail
  refine (lastAhead_any H1.out (by simp; omega) k (by omega) hl hcp _ [0, 1] 2 _ LI.out (by simp) (by simp)).mono ?_
  rintro e w2 ⟨rfl, b2⟩
  rw [← hq.out]
  have B2 := Lib.hid (below_on B0.out b2 (Nat.le_refl _))
  clear b2
  by_cases hc : q = 0
  · have E2 := Lib.hid (show fSide s cs k = 0 by rw [E.out, if_pos hc])
    have hb : (q == 0) = true := by simp [hc]
    clear hc
    go_wp2
    go_ret
    exact ⟨rint E2.out.symm, B2.out⟩
  · have E2 := Lib.hid (show fSide s cs k = 3 by rw [E.out, if_neg hc])
    have hb : (q == 0) = false := by simpa using hc
    clear hc
    go_wp2
    go_ret
    exact ⟨rint E2.out.symm, B2.out⟩
theorem letter_any (k : Nat) : Calls Try.prog 50 #[.pointer (some ⟨g, 0, none⟩), .int .i64 k] w fun e w' => e = .returned (.int .i64 (fLet cs k)) ∧ Below w.heap.size w w' := by
  go_enter Try.func50, Try.ntmps50
  go_wp2
  go_ret
  exact ⟨rfl, Below.refl _ _⟩
theorem rest_any (k : Nat) : Calls Try.prog 53 #[.pointer (some ⟨g, 0, none⟩), .int .i64 k] w fun e w' => e = .returned (.int .i64 (fRest cs k)) ∧ Below w.heap.size w w' := by
  go_enter Try.func53, Try.ntmps53
  go_wp2
  go_ret
  exact ⟨rfl, Below.refl _ _⟩
set_option maxRecDepth 100000 in
set_option maxHeartbeats 1000000 in
theorem separator_any (h : WkR w 51 B g A c cs s) (hl : cs.length ≤ 600) (k : Nat) (hk : k < cs.length) :
    Calls Try.prog 51 #[.pointer (some ⟨g, 0, none⟩), .int .i64 k] w fun e w' => e = .returned (.int .i64 (fSep cs k)) ∧ Below w.heap.size w w' := by
  have e0 := h.blk.cell 0 (u := .slice A cs.length c) rfl
  have E := Lib.hid (fSep_eq cs k)
  have H := Lib.hid h
  obtain ⟨b, off, rfl, _, hc⟩ := h.rd.int (by omega)
  have hc0 := hc k hk
  obtain ⟨q, hq⟩ : ∃ q, Hid (q = nth cs k) := ⟨_, Lib.hid rfl⟩
  rw [← hq.out] at hc0 E
  clear h hc
  cases h3 : betw cs k 3 with
  | true =>
    have E2 := Lib.hid (show fSep cs k = 3 by rw [E.out, if_pos h3])
    have H3 := Lib.hid h3
    clear h3
    go_enter Try.func51, Try.ntmps51
    go_wp2_with (go_at_call 57; refine (isBetween_any H.out hl _ (by omega) _).mono ?_; rintro e w' ⟨rfl, rfl⟩; rw [H3.out])
    go_ret
    exact ⟨rint E2.out.symm, Below.refl _ _⟩
  | false =>
    have H3 := Lib.hid h3
    by_cases h7 : q = 7
    · have hb : (q == 7) = true := by simp [h7]
      cases h6 : betw cs k 6 with
      | true =>
        have E2 := Lib.hid (show fSep cs k = 6 by rw [E.out, if_neg (by rw [h3]; simp), if_pos ⟨h7, h6⟩])
        have H6 := Lib.hid h6
        clear h3 h6 h7
        go_enter Try.func51, Try.ntmps51
        go_wp2_with (go_at_call 57; refine (isBetween_any H.out hl _ (by omega) _).mono ?_; rintro e w' ⟨rfl, rfl⟩; first | rw [H3.out] | rw [H6.out])
        go_ret
        exact ⟨rint E2.out.symm, Below.refl _ _⟩
      | false =>
        have E2 := Lib.hid (show fSep cs k = q by rw [E.out, if_neg (by rw [h3]; simp), if_neg (by rw [h6]; simp)])
        have H6 := Lib.hid h6
        clear h3 h6 h7
        go_enter Try.func51, Try.ntmps51
        go_wp2_with (go_at_call 57; refine (isBetween_any H.out hl _ (by omega) _).mono ?_; rintro e w' ⟨rfl, rfl⟩; first | rw [H3.out] | rw [H6.out])
        go_ret
        exact ⟨rint E2.out.symm, Below.refl _ _⟩
    · have hb : (q == 7) = false := by simpa using h7
      have E2 := Lib.hid (show fSep cs k = q by rw [E.out, if_neg (by rw [h3]; simp), if_neg (fun x => h7 x.1)])
      clear h3 h7
      go_enter Try.func51, Try.ntmps51
      go_wp2_with (go_at_call 57; refine (isBetween_any H.out hl _ (by omega) _).mono ?_; rintro e w' ⟨rfl, rfl⟩; rw [H3.out])
      go_ret
      exact ⟨rint E2.out.symm, Below.refl _ _⟩
set_option maxRecDepth 100000 in
set_option maxHeartbeats 1000000 in
theorem terminator_any (h : WkR w 51 B g A c cs s) (hl : cs.length ≤ 600) (k : Nat) (hk : k < cs.length) :
    Calls Try.prog 52 #[.pointer (some ⟨g, 0, none⟩), .int .i64 k] w fun e w' => e = .returned (.int .i64 (fTerm cs k)) ∧ Below w.heap.size w w' := by
  have E := Lib.hid (fTerm_eq cs k)
  have EO := Lib.hid (endR_out cs k)
  have EI := Lib.hid (endR_in cs k)
  have el := endR_le cs k
  have eh := endR_len cs k (by omega)
  obtain ⟨m, hm⟩ : ∃ m, Hid (m = endR cs k) := ⟨_, Lib.hid rfl⟩
  rw [← hm.out] at E EO EI el eh
  have H := Lib.hid h
  clear h
  go_enter Try.func52, Try.ntmps52
  go_wp2
  go_loop [5] (fun i => ∃ j : Nat, k ≤ j ∧ j ≤ m ∧ i = .int .i64 j) (fun i => m - (intOf i).toNat)
  case atStart => exact ⟨k, by omega, el, rfl⟩
  case round =>
    obtain ⟨j, hj1, hj2, rfl⟩ := hrel
    by_cases hlt : j < m
    · have HI := Lib.hid (EI.out j hj1 hlt)
      go_wp2_with (go_at_call 58; refine (has_any H.out hl _ _).mono ?_; rintro e w' ⟨rfl, rfl⟩; rw [HI.out])
      go_round
      case rel => exact ⟨j + 1, by omega, by omega, by go_num⟩
      case measure => first | omega | (simp [intOf]; omega)
    · obtain rfl : j = m := by omega
      cases h1 : hasAt cs ((k : Int) - 1) 3 with
      | true =>
        have E2 := Lib.hid (show fTerm cs k = 3 by rw [E.out, if_pos (.inl h1)])
        have H1 := Lib.hid h1
        clear h1
        go_wp2_with (go_at_call 58; refine (has_any H.out hl _ _).mono ?_; rintro e w' ⟨rfl, rfl⟩; first | rw [EO.out] | rw [H1.out])
        go_ret
        exact ⟨rint E2.out.symm, Below.refl _ _⟩
      | false =>
        have H1 := Lib.hid h1
        cases h2 : hasAt cs (j : Int) 3 with
        | true =>
          have E2 := Lib.hid (show fTerm cs k = 3 by rw [E.out, if_pos (.inr h2)])
          have H2 := Lib.hid h2
          clear h1 h2
          go_wp2_with (go_at_call 58; refine (has_any H.out hl _ _).mono ?_; rintro e w' ⟨rfl, rfl⟩; first | rw [EO.out] | rw [H1.out] | rw [H2.out])
          go_ret
          exact ⟨rint E2.out.symm, Below.refl _ _⟩
        | false =>
          have E2 := Lib.hid (show fTerm cs k = 5 by rw [E.out, if_neg (by rw [h1, h2]; simp)])
          have H2 := Lib.hid h2
          clear h1 h2
          go_wp2_with (go_at_call 58; refine (has_any H.out hl _ _).mono ?_; rintro e w' ⟨rfl, rfl⟩; first | rw [EO.out] | rw [H1.out] | rw [H2.out])
          go_ret
          exact ⟨rint E2.out.symm, Below.refl _ _⟩
end
end Go.Proofs.Ytmcmfklkljehiaa
