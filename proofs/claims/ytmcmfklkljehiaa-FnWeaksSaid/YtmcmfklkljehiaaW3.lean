/- Chapter 6: what the program's walk tells of a place. -/
import Derived.Test.YtmcmfklkljehiaaW2
import Derived.Test.YtmcmfklkljehiaaS2
import Derived.Test.YtmcmfklkljehiaaS3
namespace Go.Proofs.Ytmcmfklkljehiaa
open Go.RowKit Go.Shelf
attribute [local go_sem] Oper.semAt_some

/-- what a walk holds, all of it only read -/
structure WkR (w : World) (T : TypeId) (B g : Nat) (A : Option Addr) (c : Nat) (cs : List Int) (s : Int) : Prop where
  blk : Blk w g T #[.slice A cs.length c, .int .i64 s]
  lt : g < B
  rd : Rd w B A (nums .i64 cs)
theorem WkR.below {w w' : World} {T : TypeId} {B C g : Nat} {A : Option Addr} {c : Nat} {cs : List Int} {s : Int} (h : WkR w T B g A c cs s) (hb : Below C w w') (hC : B ≤ C) : WkR w' T B g A c cs s :=
  ⟨h.blk.below hb (by have := h.lt; omega), h.lt, h.rd.below hb hC⟩
theorem WkR.drew {w : World} {T : TypeId} {B g : Nat} {A : Option Addr} {c : Nat} {cs : List Int} {s : Int} (h : WkR w T B g A c cs s) (n : Nat) : WkR (w.drewN n) T B g A c cs s := ⟨h.blk, h.lt, h.rd⟩

theorem lastA_take (am : List Int) (s : Int) (cs : List Int) (p : Nat) : lastA am s (cs.take p) p = lastA am s cs p := by
  refine lastA_congr _ _ _ _ _ fun j hj => ?_
  unfold nth; rw [List.getElem?_take, if_pos hj]
theorem lastA_skip (am : List Int) (s : Int) (zs : List Int) (m : Nat) : ∀ j, j ≤ m → (∀ x ∈ dn m j, hasC am (nth zs x) = false) → lastA am s zs m = lastA am s zs (m - j)
  | 0, _, _ => rfl
  | j + 1, h, hs => by
    rw [dn_succ] at hs
    rw [lastA_skip am s zs m j (by omega) fun x hx => hs x (List.mem_append_left _ hx)]
    have h1 := hs (m - 1 - j) (by simp)
    have e : m - j = (m - 1 - j) + 1 := by omega
    rw [e, lastA_miss _ _ _ _ h1]
    congr 1
    omega
theorem lastA_at (am : List Int) (s : Int) (zs : List Int) (m j : Nat) (h : j < m) (hs : ∀ x ∈ dn m j, hasC am (nth zs x) = false) (hx : hasC am (nth zs (m - 1 - j)) = true) : lastA am s zs m = nth zs (m - 1 - j) := by
  rw [lastA_skip am s zs m j (by omega) hs]
  have e : m - j = (m - 1 - j) + 1 := by omega
  rw [e, lastA_hit _ _ _ _ hx]

theorem containsC_any (A : Option Addr) (ks : List Int) (c : Nat) (z : Int) (w : World) (B : Nat) (h1 : Rd w B A (nums .i64 ks)) (hl : ks.length ≤ 600) :
    Calls Try.prog 55 #[.slice A ks.length c, .int .i64 z] w fun e w' => e = .returned (.bool (hasC ks z)) ∧ w = w' := contains_any A ks c z w B h1 hl
section
variable {w : World} {B g : Nat} {A : Option Addr} {c : Nat} {cs : List Int} {s : Int}
set_option maxRecDepth 100000 in
set_option maxHeartbeats 1000000 in
theorem has_any (h : WkR w 51 B g A c cs s) (hl : cs.length ≤ 600) (p z : Int) :
    Calls Try.prog 58 #[.pointer (some ⟨g, 0, none⟩), .int .i64 p, .int .i64 z] w fun e w' => e = .returned (.bool (hasAt cs p z)) ∧ w = w' := by
  have e0 := h.blk.cell 0 (u := .slice A cs.length c) rfl
  by_cases h0 : 0 ≤ p
  · obtain ⟨n, rfl⟩ : ∃ n : Nat, p = (n : Int) := ⟨p.toNat, by omega⟩
    have E := Lib.hid (hasAt_nat cs n z)
    by_cases hn : n < cs.length
    · obtain ⟨b, off, rfl, _, hc⟩ := h.rd.int (by omega)
      have hc0 := hc n hn
      clear hc h
      obtain ⟨q, hq⟩ : ∃ q, Hid (q = nth cs n) := ⟨_, Lib.hid rfl⟩
      rw [← hq.out] at hc0 E
      have E2 := Lib.hid (show hasAt cs n z = (q == z) by rw [E.out, decide_eq_decide.2 (show (n < cs.length ∧ q = z) ↔ q = z from ⟨fun x => x.2, fun x => ⟨hn, x⟩⟩)]; rfl)
      go_enter Try.func58, Try.ntmps58
      go_wp2
      go_ret
      exact ⟨rbool E2.out.symm, rfl⟩
    · have E2 := Lib.hid (show hasAt cs n z = false by rw [E.out]; exact decide_eq_false (fun x => hn x.1))
      clear h
      go_enter Try.func58, Try.ntmps58
      go_wp2
      go_ret
      exact ⟨rbool E2.out.symm, rfl⟩
  · have E2 := Lib.hid (show hasAt cs p z = false from decide_eq_false (fun x => h0 x.1))
    clear h
    go_enter Try.func58, Try.ntmps58
    go_wp2
    go_ret
    exact ⟨rbool E2.out.symm, rfl⟩
set_option maxRecDepth 100000 in
set_option maxHeartbeats 1000000 in
theorem isBetween_any (h : WkR w 51 B g A c cs s) (hl : cs.length ≤ 600) (k : Nat) (hk : k ≤ 600) (z : Int) :
    Calls Try.prog 57 #[.pointer (some ⟨g, 0, none⟩), .int .i64 k, .int .i64 z] w fun e w' => e = .returned (.bool (betw cs k z)) ∧ w = w' := by
  have H := Lib.hid h
  have E := Lib.hid (show betw cs k z = (hasAt cs ((k : Int) - 1) z && hasAt cs ((k : Int) + 1) z) from rfl)
  clear h
  go_enter Try.func57, Try.ntmps57
  go_wp2_with (go_at_call 58; refine (has_any H.out hl _ _).mono ?_; rintro e w' ⟨rfl, rfl⟩)
  all_goals
    go_ret
    refine ⟨rbool ?_, rfl⟩
    rw [E.out]
    simp_all
set_option maxRecDepth 100000 in
set_option maxHeartbeats 1000000 in
theorem mark_any (h : WkR w 51 B g A c cs s) (hl : cs.length ≤ 600) (k : Nat) (hk : k < cs.length) :
    Calls Try.prog 48 #[.pointer (some ⟨g, 0, none⟩), .int .i64 k] w fun e w' => e = .returned (.int .i64 (fMark s cs k)) ∧ Below w.heap.size w w' := by
  have e0 := h.blk.cell 0 (u := .slice A cs.length c) rfl
  have e1 := h.blk.cell 1 (u := .int .i64 s) rfl
  have sp : ∀ x : Int, spans x [19, 22] = decide (19 ≤ x ∧ x ≤ 22) := fun x => by simp [spans, Bool.decide_and]
  have BA := Lib.hid ((Below.refl w.heap.size w).alloc (Nat.le_refl _) (.cells #[.int .i64 19, .int .i64 22] 2))
  have E := Lib.hid (fMark_eq s cs k)
  obtain ⟨b, off, rfl, _, hc⟩ := h.rd.int (by omega)
  by_cases h0 : k = 0
  · subst h0
    have E2 := Lib.hid (show fMark s cs 0 = mV s by rw [E.out]; rfl)
    clear h hc
    by_cases hm : 19 ≤ s ∧ s ≤ 22
    · have S2 := Lib.hid ((sp s).trans (decide_eq_true hm))
      have E3 := Lib.hid (show fMark s cs 0 = 13 by rw [E2.out]; unfold mV; rw [if_pos hm])
      clear sp hm
      go_enter Try.func48, Try.ntmps48
      go_wp2_with (go_at_call 35; (with_reducible refine (within_lit2 _ _ _ _ _ _ (by simp)).mono ?_); rintro e w' ⟨rfl, rfl⟩; rw [S2.out])
      go_ret
      exact ⟨rint E3.out.symm, BA.out⟩
    · have S2 := Lib.hid ((sp s).trans (decide_eq_false hm))
      have E3 := Lib.hid (show fMark s cs 0 = s by rw [E2.out]; unfold mV; rw [if_neg hm])
      clear sp hm
      go_enter Try.func48, Try.ntmps48
      go_wp2_with (go_at_call 35; (with_reducible refine (within_lit2 _ _ _ _ _ _ (by simp)).mono ?_); rintro e w' ⟨rfl, rfl⟩; rw [S2.out])
      go_ret
      exact ⟨rint E3.out.symm, BA.out⟩
  · obtain ⟨j, rfl⟩ : ∃ j, k = j + 1 := ⟨k - 1, by omega⟩
    have hc0 := hc j (by omega)
    have E2 := Lib.hid (show fMark s cs (j + 1) = mV (nth cs j) by rw [E.out, prevV_next])
    obtain ⟨q, hq⟩ : ∃ q, Hid (q = nth cs j) := ⟨_, Lib.hid rfl⟩
    rw [← hq.out] at hc0 E2
    clear h hc h0
    have hj : j < 600 := by omega
    by_cases hm : 19 ≤ q ∧ q ≤ 22
    · have S2 := Lib.hid ((sp q).trans (decide_eq_true hm))
      have E3 := Lib.hid (show fMark s cs (j + 1) = 13 by rw [E2.out]; unfold mV; rw [if_pos hm])
      clear sp hm
      go_enter Try.func48, Try.ntmps48
      go_wp2_with (go_at_call 35; (with_reducible refine (within_lit2 _ _ _ _ _ _ (by simp)).mono ?_); rintro e w' ⟨rfl, rfl⟩; rw [S2.out])
      go_ret
      exact ⟨rint E3.out.symm, BA.out⟩
    · have S2 := Lib.hid ((sp q).trans (decide_eq_false hm))
      have E3 := Lib.hid (show fMark s cs (j + 1) = q by rw [E2.out]; unfold mV; rw [if_neg hm])
      clear sp hm
      go_enter Try.func48, Try.ntmps48
      go_wp2_with (go_at_call 35; (with_reducible refine (within_lit2 _ _ _ _ _ _ (by simp)).mono ?_); rintro e w' ⟨rfl, rfl⟩; rw [S2.out])
      go_ret
      exact ⟨rint E3.out.symm, BA.out⟩
set_option maxRecDepth 100000 in
set_option maxHeartbeats 2000000 in
theorem lastAhead_any (h : WkR w 51 B g A c cs s) (hB : B ≤ w.heap.size) (k : Nat) (hk : k ≤ cs.length) (hl : cs.length ≤ 600) (hcp : cs.length ≤ c) (Am : Option Addr) (am : List Int) (cm Bm : Nat) (hm : Rd w Bm Am (nums .i64 am)) (hBm : Bm ≤ w.heap.size) (hml : am.length ≤ 600) :
    Calls Try.prog 56 #[.pointer (some ⟨g, 0, none⟩), .int .i64 k, .slice Am am.length cm] w fun e w' => e = .returned (.int .i64 (lastA am s cs k)) ∧ Below w.heap.size w w' := by
  have glt := h.lt
  have AT := Lib.hid (lastA_take am s cs k)
  obtain ⟨zs, hzs⟩ : ∃ zs, Hid (zs = cs.take k) := ⟨_, Lib.hid rfl⟩
  have hzl : zs.length = k := by rw [hzs.out, List.length_take]; omega
  have RZ : Hid (Rd w B A (nums .i64 zs)) := Lib.hid (by rw [hzs.out]; have := h.rd.take k; simpa [nums, List.map_take] using this)
  rw [← hzs.out] at AT
  subst hzl
  rw [← AT.out]
  have H := Lib.hid h
  have HM := Lib.hid hm
  clear h hm
  have b00 : Below w.heap.size w ((w.alloc (.cells #[.slice Am am.length cm] 24)).alloc (.cells #[.int .i64 0] 2)) := ((Below.refl _ w).alloc (Nat.le_refl _) _).alloc (by simp) _
  have H1 := Lib.hid (H.out.below b00 hB)
  have e3 := H1.out.blk.cell 0 (u := .slice A cs.length c) rfl
  rw [← callsIn_wide (n := 5)]
  refine callsIn_of_wp_marks Try.func56 rfl trivial ?_ rfl
  simp only [Try.ntmps56, List.size_toArray, List.length_cons, List.length_nil, Nat.reduceAdd, Nat.reduceSub, Array.replicate_succ, Array.replicate_zero, List.push_toArray, List.append_toArray, List.nil_append, List.cons_append]
  gi_wp2_with (refine ⟨trivial, ?_⟩; gi_at_call 60; refine (callsIn_wide.2 (backward_any A zs.length c _)).mono ?_; rintro e w' ⟨rfl, rfl⟩)
  clear e3 b00
  have bX := Boxed.new w 24 (.slice Am am.length cm)
  have bR := Boxed.new (w.alloc (.cells #[.slice Am am.length cm] 24)) 2 (.int .i64 0)
  have bN := Boxed.new ((w.alloc (.cells #[.slice Am am.length cm] 24)).alloc (.cells #[.int .i64 0] 2)) 24 (.slice A zs.length c)
  rw [World.size_alloc] at bR
  rw [World.size_alloc, World.size_alloc] at bN
  have hB0 : Below w.heap.size w (((w.alloc (.cells #[.slice Am am.length cm] 24)).alloc (.cells #[.int .i64 0] 2)).alloc (.cells #[.slice A zs.length c] 24)) := (((Below.refl _ w).alloc (Nat.le_refl _) _).alloc (by simp) _).alloc (by simp; omega) _
  have H2 := Lib.hid (H.out.below hB0 hB)
  have RZ2 : Hid (Rd (((w.alloc (.cells #[.slice Am am.length cm] 24)).alloc (.cells #[.int .i64 0] 2)).alloc (.cells #[.slice A zs.length c] 24)) (w.heap.size + 3) A (nums .i64 zs)) := Lib.hid ((RZ.out.below hB0 hB).more (by omega))
  refine wpIn_rangeFunc_ownG rfl (by omega) (gf := 61) (lb := #[.pointer (some ⟨w.heap.size + 1 + 1, 0, none⟩)]) rfl trivial (enters_of Try.func61 (by kernel_rfl) rfl)
    (back_stops 4 (by omega) (w.heap.size + 1 + 1) (w.heap.size + 3) c A zs (by omega) _ (by omega) (by simp) bN.cell RZ2.out) belowK_t (belowK_b (by simp)) (Below.refl _ _) (fun _ => rfl)
    (fun pre W => ((∀ x ∈ pre, hasC am (nth zs x) = false) ∧ W.cell? ⟨w.heap.size + 1, 0, none⟩ = some (.int .i64 0) ∧ W.frozen? ⟨w.heap.size + 1, 0, none⟩ = false ∧ W.cell? ⟨w.heap.size, 0, none⟩ = some (.slice Am am.length cm)) ∧ Below w.heap.size w W)
    (fun c pre W => (c = .ret ∧ ∃ ini last, pre = ini ++ [last] ∧ (∀ x ∈ ini, hasC am (nth zs x) = false) ∧ hasC am (nth zs last) = true ∧ W.cell? ⟨w.heap.size + 1, 0, none⟩ = some (.int .i64 (nth zs last))) ∧ Below w.heap.size w W)
    (OwnFrom.and (Own.from (fun s A B row hs hg hr => ⟨hs.1, cell_kept hs.2.1 hg hr, (frozen_kept hs.2.1 hg hr).trans hs.2.2.1, cell_kept hs.2.2.2 hg hr⟩) _) (ownFrom_below (Nat.le_refl _) (by simp; omega)))
    (fun c => OwnFrom.and (Own.from (fun s A B row hs hg hr => by obtain ⟨hc, ini, last, e1, e2, e3, e4⟩ := hs; exact ⟨hc, ini, last, e1, e2, e3, cell_kept e4 hg hr⟩) _) (ownFrom_below (Nat.le_refl _) (by simp; omega)))
    ⟨⟨by simp, (bR.alloc _).cell, (bR.alloc _).frozen, ((bX.alloc _).alloc _).cell⟩, hB0⟩
    (fun x => { tmps := #[.pointer (some ⟨g, 0, none⟩), .int .i64 zs.length, .slice Am am.length cm, undef, undef, .pointer (some ⟨w.heap.size, 0, none⟩), .pointer (some ⟨w.heap.size + 1, 0, none⟩), undef, .int .i64 (nth zs x), .pointer (some ⟨g, 0, none⟩), .pointer (some ⟨g, 0, none⟩), .pointer (some ⟨g, 0, none⟩), .slice A cs.length c, .int .i64 zs.length, .slice A zs.length c, .func (.func 61) #[] #[.pointer (some ⟨w.heap.size + 1 + 1, 0, none⟩)], .int .i64 (x : Int), .int .i64 (nth zs x), undef, undef, undef, undef, undef, undef, undef, undef], defers := [] }) ?assign ?body ?done ?stop
  case assign =>
    intro l x W K hK
    gi_wp2
    exact hK
  case body =>
    rintro l pre x W ⟨⟨hp', hcr, hfr, hbx⟩, hBW⟩ _
    have HMW := Lib.hid (HM.out.below hBW hBm)
    cases hx : hasC am (nth zs x) with
    | false =>
      have HX := Lib.hid hx
      obtain ⟨q, hq⟩ : ∃ q, Hid (q = nth zs x) := ⟨_, Lib.hid rfl⟩
      rw [← hq.out] at hx ⊢
      have HX2 := Lib.hid hx
      clear hx
      gi_wp2_with (refine ⟨trivial, ?_⟩; gi_at_call 55; refine (CallsIn.inRound l (callsIn_wide.2 (containsC_any Am am cm q W _ HMW.out hml))).mono ?_; rintro e W1 ⟨rfl, rfl⟩; rw [HX2.out])
      exact ⟨KeepsFrom.refl _ _, Below.refl _ _, ⟨fun y hy => (List.mem_append.1 hy).elim (hp' y) (fun e => by simp at e; subst e; exact HX.out), hcr, hfr, hbx⟩, hBW⟩
    | true =>
      have HX := Lib.hid hx
      obtain ⟨q, hq⟩ : ∃ q, Hid (q = nth zs x) := ⟨_, Lib.hid rfl⟩
      rw [← hq.out] at hx ⊢
      have HX2 := Lib.hid hx
      clear hx
      gi_wp2_with (refine ⟨trivial, ?_⟩; gi_at_call 55; refine (CallsIn.inRound l (callsIn_wide.2 (containsC_any Am am cm q W _ HMW.out hml))).mono ?_; rintro e W1 ⟨rfl, rfl⟩; rw [HX2.out])
      exact ⟨(KeepsOthers.setCell _ _ _).from _, ⟨rfl, pre, x, rfl, hp', HX.out, by rw [← hq.out]; exact World.cell?_setCell_same' _ _ _ (by rw [hcr]; rfl)⟩, hBW.setCell (p := ⟨w.heap.size + 1, 0, none⟩) (by simp) _⟩
  case done =>
    rintro D ys W hD rfl ⟨⟨hne, hcr, hfr, hbx⟩, hBW⟩ hK
    have H3 := H.out.below hBW hB
    have e0 := H3.blk.cell 1 (u := .int .i64 s) rfl
    have E := Lib.hid (show lastA am s zs zs.length = s by rw [lastA_skip am s zs zs.length zs.length (Nat.le_refl _) hne, Nat.sub_self]; rfl)
    clear hne
    gi_wp2
    have hK' := (KeepsOthers.setCell W ⟨w.heap.size + 1, 0, none⟩ (.int .i64 s)).same D _ hK rfl
    refine ⟨by simp, .inl ⟨_, _, rfl, run_takeDeferred hK', ?_⟩⟩
    have hc5 := cell_kept (World.cell?_setCell_same' W ⟨w.heap.size + 1, 0, none⟩ (.int .i64 s) (by rw [hcr]; rfl)) (grownBy_putObj' _ D (.deferred none)) (fun r e => by cases e; exact ⟨_, hK', rfl⟩)
    refine ⟨.int .i64 s, ?_, rint E.out.symm, (hBW.setCell (p := ⟨w.heap.size + 1, 0, none⟩) (by simp) _).trans (belowK_b (w := w) (Nat.le_refl _) _ D _ _ (by simp at hD; omega) hK' rfl rfl)⟩
    simp [results, Try.results56, go_sem, hc5]
  case stop =>
    rintro D c' pre W hD ⟨k, hk, rfl⟩ ⟨⟨rfl, ini, last, e1, e2, e3, hcr⟩, hBW⟩ hK
    obtain ⟨k', rfl⟩ : ∃ k', k = k' + 1 := by
      cases k with
      | zero => simp [dn] at e1
      | succ k' => exact ⟨k', rfl⟩
    rw [dn_succ] at e1
    obtain ⟨rfl, e5⟩ := List.append_inj' e1 rfl
    obtain rfl : zs.length - 1 - k' = last := by simpa using e5
    have E := Lib.hid (lastA_at am s zs zs.length k' (by omega) e2 e3)
    obtain ⟨q, hq⟩ : ∃ q, Hid (q = nth zs (zs.length - 1 - k')) := ⟨_, Lib.hid rfl⟩
    rw [← hq.out] at hcr E
    clear e1 e2 e3 e5
    gi_wp2
    refine ⟨by simp, .inl ⟨_, _, rfl, run_takeDeferred hK, ?_⟩⟩
    have hc5 := cell_kept hcr (grownBy_putObj' _ D (.deferred none)) (fun r e => by cases e; exact ⟨_, hK, rfl⟩)
    refine ⟨.int .i64 q, ?_, rint E.out.symm, hBW.trans (belowK_b (w := w) (Nat.le_refl _) W D _ _ (by simp at hD; omega) hK rfl rfl)⟩
    simp [results, Try.results56, go_sem, hc5]
end
end Go.Proofs.Ytmcmfklkljehiaa
