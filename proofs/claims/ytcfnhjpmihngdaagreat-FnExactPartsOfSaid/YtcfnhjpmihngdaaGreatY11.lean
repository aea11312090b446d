/- Chapter 6: the model's steps. -/
import Derived.Test.YtcfnhjpmihngdaaGreatY10
import Derived.Test.YtcfnhjpmihngdaaGreatY06
import Derived.Test.YtcfnhjpmihngdaaGreatY09
namespace Go.Proofs.YtcfnhjpmihngdaaGreat
open Go.RowKit Go.Shelf

section
variable {w : World} {B g : Nat} {A : Option Addr} {c : Nat} {cs : List Int} {s : Int}
set_option maxRecDepth 100000 in
set_option maxHeartbeats 1000000 in
theorem number_any (h : WkR w 132 B g A c cs s) (hB : B ≤ w.heap.size) (hl : cs.length ≤ 600) (hcp : cs.length ≤ c) (k : Nat) (hk : k < cs.length) :
    Calls Tryz.prog 113 #[.pointer (some ⟨g, 0, none⟩), .int .i64 k] w fun e w' => e = .returned (.int .i64 (fNum s cs k)) ∧ Below w.heap.size w w' := by
  have b0 := (Below.refl w.heap.size w).alloc (Nat.le_refl _) (.cells #[.int .i64 0, .int .i64 1, .int .i64 2] 2)
  have H1 := Lib.hid (h.below b0 hB)
  have B0 := Lib.hid b0
  have LI := Lib.hid (Rd.lit w #[.int .i64 0, .int .i64 1, .int .i64 2] 2)
  have E := Lib.hid (fNum_eq s cs k)
  obtain ⟨q, hq⟩ : ∃ q, Hid (q = lastA [0, 1, 2] s cs k) := ⟨_, Lib.hid rfl⟩
  rw [← hq.out] at E
  clear h b0
  go_enter Tryz.func113, Tryz.ntmps113
  go_wp2_with fail
  refine (lastAhead_any H1.out (by simp; omega) k (by omega) hl hcp _ [0, 1, 2] 3 _ LI.out (by simp) (by simp)).mono ?_
  rintro e w2 ⟨rfl, b2⟩
  rw [← hq.out]
  have B2 := Lib.hid (below_on B0.out b2 (Nat.le_refl _))
  clear b2
  by_cases hc : q = 2
  · have E2 := Lib.hid (show fNum s cs k = 6 by rw [E.out, if_pos hc])
    have hb : (q == 2) = true := by simp [hc]
    clear hc
    go_wp2
    go_ret
    exact ⟨rint E2.out.symm, B2.out⟩
  · have E2 := Lib.hid (show fNum s cs k = 3 by rw [E.out, if_neg hc])
    have hb : (q == 2) = false := by simpa using hc
    clear hc
    go_wp2
    go_ret
    exact ⟨rint E2.out.symm, B2.out⟩
set_option maxRecDepth 100000 in
set_option maxHeartbeats 1000000 in
theorem numberOfSide_any (h : WkR w 132 B g A c cs s) (hB : B ≤ w.heap.size) (hl : cs.length ≤ 600) (hcp : cs.length ≤ c) (k : Nat) (hk : k < cs.length) :
    Calls Tryz.prog 118 #[.pointer (some ⟨g, 0, none⟩), .int .i64 k] w fun e w' => e = .returned (.int .i64 (fSide s cs k)) ∧ Below w.heap.size w w' := by
  have b0 := (Below.refl w.heap.size w).alloc (Nat.le_refl _) (.cells #[.int .i64 0, .int .i64 1] 2)
  have H1 := Lib.hid (h.below b0 hB)
  have B0 := Lib.hid b0
  have LI := Lib.hid (Rd.lit w #[.int .i64 0, .int .i64 1] 2)
  have E := Lib.hid (fSide_eq s cs k)
  obtain ⟨q, hq⟩ : ∃ q, Hid (q = lastA [0, 1] s cs k) := ⟨_, Lib.hid rfl⟩
  rw [← hq.out] at E
  clear h b0
  go_enter Tryz.func118, Tryz.ntmps118
  go_wp2_with fail
  refine (lastAhead_any H1.out (by simp; omega) k (by omega) hl hcp _ [0, 1] 2 _ LI.out (by simp) (by simp)).mono ?_
  rintro e w2 ⟨rfl, b2⟩
  rw [← hq.out]
  have B2 := Lib.hid (below_on B0.out b2 (Nat.le_refl _))
  clear b2
  by_cases hc : q = 0
  · have E2 := Lib.hid (show fSide s cs k = 0 by rw [E.out, if_pos hc])
    have hb : (q == 0) = true := by simp [hc]
    clear hc
    go_wp2
    go_ret
    exact ⟨rint E2.out.symm, B2.out⟩
  · have E2 := Lib.hid (show fSide s cs k = 3 by rw [E.out, if_neg hc])
    have hb : (q == 0) = false := by simpa using hc
    clear hc
    go_wp2
    go_ret
    exact ⟨rint E2.out.symm, B2.out⟩
theorem letter_any (k : Nat) : Calls Tryz.prog 114 #[.pointer (some ⟨g, 0, none⟩), .int .i64 k] w fun e w' => e = .returned (.int .i64 (fLet cs k)) ∧ Below w.heap.size w w' := by
  go_enter Tryz.func114, Tryz.ntmps114
  go_wp2
  go_ret
  exact ⟨rfl, Below.refl _ _⟩
theorem rest_any (k : Nat) : Calls Tryz.prog 117 #[.pointer (some ⟨g, 0, none⟩), .int .i64 k] w fun e w' => e = .returned (.int .i64 (fRest cs k)) ∧ Below w.heap.size w w' := by
  go_enter Tryz.func117, Tryz.ntmps117
  go_wp2
  go_ret
  exact ⟨rfl, Below.refl _ _⟩
set_option maxRecDepth 100000 in
set_option maxHeartbeats 1000000 in
theorem separator_any (h : WkR w 132 B g A c cs s) (hl : cs.length ≤ 600) (k : Nat) (hk : k < cs.length) :
    Calls Tryz.prog 115 #[.pointer (some ⟨g, 0, none⟩), .int .i64 k] w fun e w' => e = .returned (.int .i64 (fSep cs k)) ∧ Below w.heap.size w w' := by
  have e0 := h.blk.cell 0 (u := .slice A cs.length c) rfl
  have E := Lib.hid (fSep_eq cs k)
  have H := Lib.hid h
  obtain ⟨b, off, rfl, _, hc⟩ := h.rd.int (by omega)
  have hc0 := hc k hk
  obtain ⟨q, hq⟩ : ∃ q, Hid (q = nth cs k) := ⟨_, Lib.hid rfl⟩
  rw [← hq.out] at hc0 E
  clear h hc
  cases h3 : betw cs k 3 with
  | true =>
    have E2 := Lib.hid (show fSep cs k = 3 by rw [E.out, if_pos h3])
    have H3 := Lib.hid h3
    clear h3
    go_enter Tryz.func115, Tryz.ntmps115
    go_wp2_with (go_at_call 121; refine (isBetween_any H.out hl _ (by omega) _).mono ?_; rintro e w' ⟨rfl, rfl⟩; rw [H3.out])
    go_ret
    exact ⟨rint E2.out.symm, Below.refl _ _⟩
  | false =>
    have H3 := Lib.hid h3
    by_cases h7 : q = 7
    · have hb : (q == 7) = true := by simp [h7]
      cases h6 : betw cs k 6 with
      | true =>
        have E2 := Lib.hid (show fSep cs k = 6 by rw [E.out, if_neg (by rw [h3]; simp), if_pos ⟨h7, h6⟩])
        have H6 := Lib.hid h6
        clear h3 h6 h7
        go_enter Tryz.func115, Tryz.ntmps115
        go_wp2_with (go_at_call 121; refine (isBetween_any H.out hl _ (by omega) _).mono ?_; rintro e w' ⟨rfl, rfl⟩; first | rw [H3.out] | rw [H6.out])
        go_ret
        exact ⟨rint E2.out.symm, Below.refl _ _⟩
      | false =>
        have E2 := Lib.hid (show fSep cs k = q by rw [E.out, if_neg (by rw [h3]; simp), if_neg (by rw [h6]; simp)])
        have H6 := Lib.hid h6
        clear h3 h6 h7
        go_enter Tryz.func115, Tryz.ntmps115
        go_wp2_with (go_at_call 121; refine (isBetween_any H.out hl _ (by omega) _).mono ?_; rintro e w' ⟨rfl, rfl⟩; first | rw [H3.out] | rw [H6.out])
        go_ret
        exact ⟨rint E2.out.symm, Below.refl _ _⟩
    · have hb : (q == 7) = false := by simpa using h7
      have E2 := Lib.hid (show fSep cs k = q by rw [E.out, if_neg (by rw [h3]; simp), if_neg (fun x => h7 x.1)])
      clear h3 h7
      go_enter Tryz.func115, Tryz.ntmps115
      go_wp2_with (go_at_call 121; refine (isBetween_any H.out hl _ (by omega) _).mono ?_; rintro e w' ⟨rfl, rfl⟩; rw [H3.out])
      go_ret
      exact ⟨rint E2.out.symm, Below.refl _ _⟩
set_option maxRecDepth 100000 in
set_option maxHeartbeats 1000000 in
theorem terminator_any (h : WkR w 132 B g A c cs s) (hl : cs.length ≤ 600) (k : Nat) (hk : k < cs.length) :
    Calls Tryz.prog 116 #[.pointer (some ⟨g, 0, none⟩), .int .i64 k] w fun e w' => e = .returned (.int .i64 (fTerm cs k)) ∧ Below w.heap.size w w' := by
  have E := Lib.hid (fTerm_eq cs k)
  have EO := Lib.hid (endR_out cs k)
  have EI := Lib.hid (endR_in cs k)
  have el := endR_le cs k
  have eh := endR_len cs k (by omega)
  obtain ⟨m, hm⟩ : ∃ m, Hid (m = endR cs k) := ⟨_, Lib.hid rfl⟩
  rw [← hm.out] at E EO EI el eh
  have H := Lib.hid h
  clear h
  go_enter Tryz.func116, Tryz.ntmps116
  go_wp2
  go_loop [5] (fun i => ∃ j : Nat, k ≤ j ∧ j ≤ m ∧ i = .int .i64 j) (fun i => m - (intOf i).toNat)
  case atStart => exact ⟨k, by omega, el, rfl⟩
  case round =>
    obtain ⟨j, hj1, hj2, rfl⟩ := hrel
    by_cases hlt : j < m
    · have HI := Lib.hid (EI.out j hj1 hlt)
      go_wp2_with (go_at_call 122; refine (has_any H.out hl _ _).mono ?_; rintro e w' ⟨rfl, rfl⟩; rw [HI.out])
      go_round
      case rel => exact ⟨j + 1, by omega, by omega, by go_num⟩
      case measure => first | omega | (simp [intOf]; omega)
    · obtain rfl : j = m := by omega
      cases h1 : hasAt cs ((k : Int) - 1) 3 with
      | true =>
        have E2 := Lib.hid (show fTerm cs k = 3 by rw [E.out, if_pos (.inl h1)])
        have H1 := Lib.hid h1
        clear h1
        go_wp2_with (go_at_call 122; refine (has_any H.out hl _ _).mono ?_; rintro e w' ⟨rfl, rfl⟩; first | rw [EO.out] | rw [H1.out])
        go_ret
        exact ⟨rint E2.out.symm, Below.refl _ _⟩
      | false =>
        have H1 := Lib.hid h1
        cases h2 : hasAt cs (j : Int) 3 with
        | true =>
          have E2 := Lib.hid (show fTerm cs k = 3 by rw [E.out, if_pos (.inr h2)])
          have H2 := Lib.hid h2
          clear h1 h2
          go_wp2_with (go_at_call 122; refine (has_any H.out hl _ _).mono ?_; rintro e w' ⟨rfl, rfl⟩; first | rw [EO.out] | rw [H1.out] | rw [H2.out])
          go_ret
          exact ⟨rint E2.out.symm, Below.refl _ _⟩
        | false =>
          have E2 := Lib.hid (show fTerm cs k = 5 by rw [E.out, if_neg (by rw [h1, h2]; simp)])
          have H2 := Lib.hid h2
          clear h1 h2
          go_wp2_with (go_at_call 122; refine (has_any H.out hl _ _).mono ?_; rintro e w' ⟨rfl, rfl⟩; first | rw [EO.out] | rw [H1.out] | rw [H2.out])
          go_ret
          exact ⟨rint E2.out.symm, Below.refl _ _⟩
end
end Go.Proofs.YtcfnhjpmihngdaaGreat

namespace Go.Proofs.YtcfnhjpmihngdaaGreat
open Go.RowKit

theorem l2Iso6_any (k : Int) (w : World) :
    Calls Tryz.prog 65 #[.int .i64 k] w fun e w' => e = .returned (.bool (decide (19 ≤ k ∧ k ≤ 22))) ∧ w = w' := by
  go_enter Tryz.func65, Tryz.ntmps65
  go_wp2_with (go_at_call 21; refine (l1In_any _ _ _ _).mono ?_; rintro e w' ⟨rfl, rfl⟩)
  go_ret
  exact ⟨rbool (by simp), rfl⟩
/-- the row of classes in the model's hands -/
abbrev Row6 (w : World) (lo : Nat) (A : Option Addr) (n c : Nat) (cs : List Int) : Prop := w.ownsRow lo 2 1 (.slice A n c) n (nums .i64 cs)
theorem own_put_cell {w : World} {base n cap g : Nat} {e : TypeId} {xs : List Value} {k : Nat} {u : Value} (h : w.ownsRow base e 1 (.slice (some ⟨g, 0, none⟩) n cap) n (xs.set k u)) (hk : k < n) : w.cell? ⟨g, k, none⟩ = some u := by
  have hl : xs.length = n := by have := h.1; simpa using this
  rw [h.cellAt k (by omega), List.getElem?_set_self (by omega)]
theorem below_put {w w0 w' : World} {lo g n cap : Nat} {e : TypeId} {xs : List Value} (hb : Below lo w0 w) (h : w.ownsRow lo e 1 (.slice (some ⟨g, 0, none⟩) n cap) n xs) (hg : w.grownBy w' (some g)) (hlo : lo ≤ w.heap.size) : Below lo w0 w' :=
  hb.grown hg hlo fun k hk => (h.lt k hk).1
set_option maxRecDepth 100000 in
set_option maxHeartbeats 2000000 in
theorem l6Marks_any (v : Value) (xs : List Int) (s : Int) (w : World) (B : Nat) (h : Sees w B .i64 v xs) (hB : B ≤ w.heap.size) (hl : xs.length ≤ 600) :
    Calls Tryz.prog 50 #[v, .int .i64 s] w fun e w' => (∃ u, e = .returned u ∧ Own w' w.heap.size w'.heap.size 2 .i64 u (marksW xs s)) ∧ Below w.heap.size w w' := by
  obtain ⟨i0, hi, hz0, hz1, hz2⟩ := info_parts info_int64
  obtain ⟨A0, c0, rfl, hr⟩ := h
  have HS := Lib.hid (show Sees w B .i64 (.slice A0 xs.length c0) xs from ⟨A0, c0, rfl, hr⟩)
  clear hr
  go_enter Tryz.func50, Tryz.ntmps50
  go_wp2_with fail
  refine (l1Ints_own _ xs w B HS.out hB (by omega)).mono ?_
  rintro e w1 ⟨⟨u, rfl, o1⟩, b1⟩
  obtain ⟨A, c, rfl⟩ := o1.form
  obtain ⟨n, hn⟩ : ∃ n, Hid (n = xs.length) := ⟨_, Lib.hid rfl⟩
  have R1 := Lib.hid o1.1
  rw [← hn.out] at R1 hl ⊢
  have R1 : Hid (Row6 w1 w.heap.size A n c (stepN [8] (fMark s) xs 0)) := R1
  have B1 := Lib.hid b1
  clear o1 b1
  go_wp2
  go_loopw [6, 7] (fun l i wr => ∃ k : Nat, k ≤ n ∧ i = .int .i64 k ∧ l = .int .i64 (prevV s (stepN [8] (fMark s) xs k) k) ∧ Hid (Row6 wr w.heap.size A n c (stepN [8] (fMark s) xs k)) ∧ Hid (Below w.heap.size w wr)) (fun _ i _ => n - (intOf i).toNat)
  case atStart => exact ⟨0, by omega, rfl, rfl, R1, B1⟩
  case round =>
    clear R1 B1
    obtain ⟨k, hk, rfl, rfl, hw, hbr⟩ := hrel
    by_cases hlt : k < n
    · obtain ⟨ga, ca, eA, hga⟩ := own_addr hw.out (by omega)
      injection eA with eA e2 e3
      subst eA; subst e3
      clear e2
      have hc0 := own_cell hw.out k hlt
      have HIT := Lib.hid (fun h => mark_hit xs s (k := k) h)
      have MISS := Lib.hid (fun h => mark_miss xs s (k := k) h)
      have PN := Lib.hid (prevV_next s (stepN [8] (fMark s) xs (k + 1)) k)
      have FAR := Lib.hid (stepN_len [8] (fMark s) xs k)
      obtain ⟨S, hS⟩ : ∃ S, Hid (S = stepN [8] (fMark s) xs k) := ⟨_, Lib.hid rfl⟩
      rw [← hS.out] at hc0 HIT MISS hw FAR ⊢
      obtain ⟨q, hq⟩ : ∃ q, Hid (q = nth S k) := ⟨_, Lib.hid rfl⟩
      obtain ⟨a, ha⟩ : ∃ a, Hid (a = prevV s S k) := ⟨_, Lib.hid rfl⟩
      rw [← hq.out] at hc0 HIT MISS
      rw [← ha.out] at HIT ⊢
      by_cases h8 : q = 8
      · have E := Lib.hid (HIT.out h8)
        have hb8 : (q == 8) = true := by simp [h8]
        have PV := Lib.hid (show prevV s (stepN [8] (fMark s) xs (k + 1)) (k + 1) = mV a by rw [PN.out, E.out, nth_set _ _ _ _ (by rw [FAR.out, ← hn.out]; exact hlt), if_pos rfl])
        by_cases hm : 19 ≤ a ∧ a ≤ 22
        · have D := Lib.hid (decide_eq_true hm)
          have M := Lib.hid (show mV a = 13 by unfold mV; rw [if_pos hm])
          have hbsz := hbr.out.size
          clear h8 hm
          have tok1 : True := trivial
          go_wp2_with (first
            | (go_at_call 65; refine (l2Iso6_any _ _).mono ?_; rintro e w' ⟨rfl, rfl⟩; rw [D.out])
            | (have _t := tok1; refine wpList_put rfl _ _ _ rfl i0 hi hz1 k (.int .i64 a) rfl rfl rfl hw.out hlt ?_; intro w2 o2 g2; clear tok1 hc0)
            | (refine wpList_put rfl _ _ _ rfl i0 hi hz1 k (.int .i64 13) rfl rfl rfl o2 hlt ?_; intro w3 o3 g3; have hc3 := own_put_cell o3 hlt))
          have R3 := Lib.hid (show Row6 w3 w.heap.size (some ⟨ga, 0, none⟩) n c (stepN [8] (fMark s) xs (k + 1)) by
            rw [E.out, M.out]
            have := own_set (ys := S.set k a) (by rw [← nums_set]; exact o3)
            rwa [List.set_set] at this)
          have B3 := Lib.hid (below_put (below_put hbr.out hw.out g2 hbsz) o2 g3 (by have := g2.size; omega))
          have PV2 := Lib.hid (PV.out.trans M.out)
          clear o2 o3 g2 g3
          go_roundw
          case rel => exact ⟨k + 1, by omega, by go_num, by rw [PV2.out], R3, B3⟩
          case measure => first | omega | (simp [intOf]; omega)
        · have D := Lib.hid (decide_eq_false hm)
          have M := Lib.hid (show mV a = a by unfold mV; rw [if_neg hm])
          have hbsz := hbr.out.size
          clear h8 hm
          go_wp2_with (first
            | (go_at_call 65; refine (l2Iso6_any _ _).mono ?_; rintro e w' ⟨rfl, rfl⟩; rw [D.out])
            | (refine wpList_put rfl _ _ _ rfl i0 hi hz1 k (.int .i64 a) rfl rfl rfl hw.out hlt ?_; intro w2 o2 g2; have hc3 := own_put_cell o2 hlt; clear hc0))
          have R3 := Lib.hid (show Row6 w2 w.heap.size (some ⟨ga, 0, none⟩) n c (stepN [8] (fMark s) xs (k + 1)) by
            rw [E.out, M.out]
            exact own_set o2)
          have B3 := Lib.hid (below_put hbr.out hw.out g2 hbsz)
          have PV2 := Lib.hid (PV.out.trans M.out)
          clear o2 g2
          go_roundw
          case rel => exact ⟨k + 1, by omega, by go_num, by rw [PV2.out], R3, B3⟩
          case measure => first | omega | (simp [intOf]; omega)
      · have E := Lib.hid (MISS.out h8)
        have hb8 : (q == 8) = false := by simpa using h8
        have PV := Lib.hid (show prevV s (stepN [8] (fMark s) xs (k + 1)) (k + 1) = q by rw [PN.out, E.out, ← hq.out])
        have R3 := Lib.hid (show Row6 wr w.heap.size (some ⟨ga, 0, none⟩) n c (stepN [8] (fMark s) xs (k + 1)) by rw [E.out]; exact hw.out)
        clear h8
        go_wp2
        go_roundw
        case rel => exact ⟨k + 1, by omega, by go_num, by rw [PV.out], R3, hbr⟩
        case measure => first | omega | (simp [intOf]; omega)
    · obtain rfl : k = n := by omega
      have HO := Lib.hid (show Own wr w.heap.size wr.heap.size 2 .i64 (.slice A k c) (marksW xs s) from Own.mk_ (by unfold marksW doStep; rw [← hn.out]; exact hw.out) (by rw [marksW_len]; exact hn.out))
      go_wp2
      go_ret
      exact ⟨⟨_, rfl, HO.out⟩, hbr.out⟩
set_option maxRecDepth 100000 in
set_option maxHeartbeats 4000000 in
theorem l6Numbers_any (v : Value) (xs : List Int) (s : Int) (w : World) (B : Nat) (h : Sees w B .i64 v xs) (hB : B ≤ w.heap.size) (hl : xs.length ≤ 600) :
    Calls Tryz.prog 49 #[v, .int .i64 s] w fun e w' => (∃ u, e = .returned u ∧ Own w' w.heap.size w'.heap.size 2 .i64 u (numsW xs s)) ∧ Below w.heap.size w w' := by
  obtain ⟨i0, hi, hz0, hz1, hz2⟩ := info_parts info_int64
  obtain ⟨A0, c0, rfl, hr⟩ := h
  have HS := Lib.hid (show Sees w B .i64 (.slice A0 xs.length c0) xs from ⟨A0, c0, rfl, hr⟩)
  clear hr
  go_enter Tryz.func49, Tryz.ntmps49
  go_wp2_with fail
  refine (l1Ints_own _ xs w B HS.out hB (by omega)).mono ?_
  rintro e w1 ⟨⟨u, rfl, o1⟩, b1⟩
  obtain ⟨A, c, rfl⟩ := o1.form
  obtain ⟨n, hn⟩ : ∃ n, Hid (n = xs.length) := ⟨_, Lib.hid rfl⟩
  have R1 := Lib.hid o1.1
  rw [← hn.out] at R1 hl ⊢
  have R1 : Hid (Row6 w1 w.heap.size A n c (stepN [3] (fNum s) xs 0)) := R1
  have B1 := Lib.hid b1
  clear o1 b1
  go_wp2
  go_loopw [6, 7] (fun l i wr => ∃ k : Nat, k ≤ n ∧ i = .int .i64 k ∧ l = .int .i64 (lastA [0, 1, 2] s (stepN [3] (fNum s) xs k) k) ∧ Hid (Row6 wr w.heap.size A n c (stepN [3] (fNum s) xs k)) ∧ Hid (Below w.heap.size w wr)) (fun _ i _ => n - (intOf i).toNat)
  case atStart => exact ⟨0, by omega, rfl, rfl, R1, B1⟩
  case round =>
    clear R1 B1
    obtain ⟨k, hk, rfl, rfl, hw, hbr⟩ := hrel
    by_cases hlt : k < n
    · obtain ⟨ga, ca, eA, hga⟩ := own_addr hw.out (by omega)
      injection eA with eA e2 e3
      subst eA; subst e3
      clear e2
      have hc0 := own_cell hw.out k hlt
      have STR := Lib.hid (fun h => num_strong xs s (k := k) h)
      have OTH := Lib.hid (fun h => num_other xs s (k := k) h)
      have EN := Lib.hid (fun h => num_en xs s (k := k) (by rw [← hn.out]; exact hlt) h)
      have hbsz := hbr.out.size
      obtain ⟨S, hS⟩ : ∃ S, Hid (S = stepN [3] (fNum s) xs k) := ⟨_, Lib.hid rfl⟩
      rw [← hS.out] at hc0 STR OTH EN hw ⊢
      obtain ⟨q, hq⟩ : ∃ q, Hid (q = nth S k) := ⟨_, Lib.hid rfl⟩
      obtain ⟨a, ha⟩ : ∃ a, Hid (a = lastA [0, 1, 2] s S k) := ⟨_, Lib.hid rfl⟩
      rw [← hq.out] at hc0 STR OTH EN
      rw [← ha.out] at OTH EN ⊢
      obtain ⟨S', hS'⟩ : ∃ S', Hid (S' = stepN [3] (fNum s) xs (k + 1)) := ⟨_, Lib.hid rfl⟩
      rw [← hS'.out] at STR OTH EN
      by_cases h3 : q = 3
      · have E := Lib.hid (EN.out h3)
        subst h3
        clear STR OTH EN
        by_cases h2 : a = 2
        · have R0 := Lib.hid (show S' = S.set k 6 by rw [E.out.1, if_pos h2])
          have L0 := Lib.hid (E.out.2)
          have b2 : (a == 2) = true := by simp [h2]
          clear h2
          go_wp2_with (refine wpList_put rfl _ _ _ rfl i0 hi hz1 k (.int .i64 6) rfl rfl rfl hw.out hlt ?_; intro w2 o2 g2)
          have R3 := Lib.hid (show Row6 w2 w.heap.size (some ⟨ga, 0, none⟩) n c (stepN [3] (fNum s) xs (k + 1)) by rw [← hS'.out, R0.out]; exact own_set o2)
          have B3 := Lib.hid (below_put hbr.out hw.out g2 hbsz)
          clear o2 g2
          go_roundw
          case rel => exact ⟨k + 1, by omega, by go_num, by rw [← hS'.out, L0.out], R3, B3⟩
          case measure => first | omega | (simp [intOf]; omega)
        · have R0 := Lib.hid (show S' = S by rw [E.out.1, if_neg h2])
          have L0 := Lib.hid (E.out.2)
          have b2 : (a == 2) = false := by simpa using h2
          have R3 := Lib.hid (show Row6 wr w.heap.size (some ⟨ga, 0, none⟩) n c (stepN [3] (fNum s) xs (k + 1)) by rw [← hS'.out, R0.out]; exact hw.out)
          clear h2
          go_wp2
          go_roundw
          case rel => exact ⟨k + 1, by omega, by go_num, by rw [← hS'.out, L0.out], R3, hbr⟩
          case measure => first | omega | (simp [intOf]; omega)
      · by_cases hst : q = 0 ∨ q = 1 ∨ q = 2
        · have E := Lib.hid (STR.out hst)
          have R3 := Lib.hid (show Row6 wr w.heap.size (some ⟨ga, 0, none⟩) n c (stepN [3] (fNum s) xs (k + 1)) by rw [← hS'.out, E.out.1]; exact hw.out)
          have L3 := Lib.hid (show lastA [0, 1, 2] s (stepN [3] (fNum s) xs (k + 1)) (k + 1) = q by rw [← hS'.out, E.out.2])
          clear STR OTH EN E h3
          rcases hst with rfl | rfl | rfl
          all_goals
            go_wp2
            go_roundw
            case rel => exact ⟨k + 1, by omega, by go_num, by rw [L3.out], R3, hbr⟩
            case measure => first | omega | (simp [intOf]; omega)
        · have E := Lib.hid (OTH.out (by omega))
          have R3 := Lib.hid (show Row6 wr w.heap.size (some ⟨ga, 0, none⟩) n c (stepN [3] (fNum s) xs (k + 1)) by rw [← hS'.out, E.out.1]; exact hw.out)
          have L3 := Lib.hid (show lastA [0, 1, 2] s (stepN [3] (fNum s) xs (k + 1)) (k + 1) = a by rw [← hS'.out, E.out.2])
          have n0 : (q == 0) = false := by simp; omega
          have n1 : (q == 1) = false := by simp; omega
          have n2 : (q == 2) = false := by simp; omega
          have n3 : (q == 3) = false := by simp; omega
          clear STR OTH EN E h3 hst
          go_wp2
          go_roundw
          case rel => exact ⟨k + 1, by omega, by go_num, by rw [L3.out], R3, hbr⟩
          case measure => first | omega | (simp [intOf]; omega)
    · obtain rfl : k = n := by omega
      obtain ⟨ys, hys⟩ : ∃ ys, Hid (ys = doStep [3] (fNum s) xs) := ⟨_, Lib.hid rfl⟩
      have R1 := Lib.hid (show Row6 wr w.heap.size A k c (stepN [2] fLet ys 0) by show Row6 _ _ _ _ _ ys; rw [hys.out]; unfold doStep; rw [← hn.out]; exact hw.out)
      have YL := Lib.hid (show k = ys.length by rw [hys.out, doStep_len]; exact hn.out)
      have B1 := hbr
      clear hw hbr
      generalize wr = w2 at *
      clear wr
      go_wp2
      go_loopw [8] (fun i wr => ∃ j : Nat, j ≤ k ∧ i = .int .i64 j ∧ Hid (Row6 wr w.heap.size A k c (stepN [2] fLet ys j)) ∧ Hid (Below w.heap.size w wr)) (fun i _ => k - (intOf i).toNat)
      case atStart => exact ⟨0, by omega, rfl, R1, B1⟩
      case round =>
        clear R1 B1
        obtain ⟨j, hj, rfl, hw, hbr⟩ := hrel
        by_cases hlt : j < k
        · obtain ⟨ga, ca, eA, hga⟩ := own_addr hw.out (by omega)
          injection eA with eA e2 e3
          subst eA; subst e3
          clear e2
          have hc0 := own_cell hw.out j hlt
          have HIT := Lib.hid (fun h => let_hit ys (k := j) h)
          have MISS := Lib.hid (fun h => let_miss ys (k := j) h)
          have hbsz := hbr.out.size
          obtain ⟨S, hS⟩ : ∃ S, Hid (S = stepN [2] fLet ys j) := ⟨_, Lib.hid rfl⟩
          rw [← hS.out] at hc0 HIT MISS hw
          obtain ⟨q, hq⟩ : ∃ q, Hid (q = nth S j) := ⟨_, Lib.hid rfl⟩
          rw [← hq.out] at hc0 HIT MISS
          by_cases h2 : q = 2
          · have E := Lib.hid (HIT.out h2)
            have b2 : (q == 2) = true := by simp [h2]
            clear h2 HIT MISS
            go_wp2_with (refine wpList_put rfl _ _ _ rfl i0 hi hz1 j (.int .i64 1) rfl rfl rfl hw.out hlt ?_; intro w3 o3 g3)
            have R3 := Lib.hid (show Row6 w3 w.heap.size (some ⟨ga, 0, none⟩) k c (stepN [2] fLet ys (j + 1)) by rw [E.out]; exact own_set o3)
            have B3 := Lib.hid (below_put hbr.out hw.out g3 hbsz)
            clear o3 g3
            go_roundw
            case rel => exact ⟨j + 1, by omega, by go_num, R3, B3⟩
            case measure => first | omega | (simp [intOf]; omega)
          · have E := Lib.hid (MISS.out h2)
            have b2 : (q == 2) = false := by simpa using h2
            have R3 := Lib.hid (show Row6 wr w.heap.size (some ⟨ga, 0, none⟩) k c (stepN [2] fLet ys (j + 1)) by rw [E.out]; exact hw.out)
            clear h2 HIT MISS
            go_wp2
            go_roundw
            case rel => exact ⟨j + 1, by omega, by go_num, R3, hbr⟩
            case measure => first | omega | (simp [intOf]; omega)
        · obtain rfl : j = k := by omega
          have HO := Lib.hid (show Own wr w.heap.size wr.heap.size 2 .i64 (.slice A j c) (numsW xs s) from Own.mk_ (by
            have e : numsW xs s = stepN [2] fLet ys j := by unfold numsW; rw [← hys.out]; unfold doStep; rw [← YL.out]
            rw [e]; exact hw.out) (by rw [numsW_len]; exact hn.out))
          go_wp2
          go_ret
          exact ⟨⟨_, rfl, HO.out⟩, hbr.out⟩
end Go.Proofs.YtcfnhjpmihngdaaGreat
