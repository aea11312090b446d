/- Chapter 7: the model's PartFault and sides. -/
import Derived.Test.YtkkojemnbcddfaaDoorX7
import Derived.Test.YtkkojemnbcddfaaDoorE3
namespace Go.Proofs.YtkkojemnbcddfaaDoor
open Go.RowKit

set_option maxRecDepth 100000 in
set_option maxHeartbeats 4000000 in
theorem l7Sides_any {w : World} {B g : Nat} {v0 v1 v2 : Value} {p : Prt} (h : PtR w 26 B g v0 v1 v2 p) (hB : B ≤ w.heap.size) (hT : p.T.length ≤ 600) (hN : p.N.length = p.T.length) (hF : p.F.length = p.T.length) (hc : ∀ z ∈ p.T, chrB z = true) :
    Calls Tryd.prog 48 #[.pointer (some ⟨g, 0, none⟩)] w fun e w' => (∃ u, e = .returned u ∧ Own w' w.heap.size w'.heap.size 2 .i64 u (sidesN p)) ∧ Below w.heap.size w w' := by
  have CB := l7Brackets_any (w := w.drew) (B := B) (v0 := v0) (v1 := v1) (v2 := v2) (p := p) ⟨h.blk, h.lt, h.s0, h.s1, h.s2⟩ hB hT hN hF hc
  obtain ⟨bs, hbs⟩ : ∃ bs, Hid (bs = bracketsN p) := ⟨_, Lib.hid rfl⟩
  obtain ⟨ss, hss⟩ : ∃ ss, Hid (ss = neutralsN bs (sideL p.L) p.S p.E) := ⟨_, Lib.hid rfl⟩
  have SD : sidesN p = ss := by rw [hss.out, hbs.out]; rfl
  rw [SD]
  rw [← hbs.out] at CB
  have BL : bs.length ≤ 600 := by rw [hbs.out, bracketsN_len]; omega
  have CBh := Lib.hid CB
  have HP := Lib.hid h
  have f3 := h.blk.cell 3 (u := .int .i64 p.L) rfl
  have f4 := h.blk.cell 4 (u := .int .i64 p.S) rfl
  have f5 := h.blk.cell 5 (u := .int .i64 p.E) rfl
  clear h hc CB SD hT hN hF
  go_enter Tryd.func48, Tryd.ntmps48
  go_wp2_with fail
  go_region_held3 (fun w' => w'.cell? ⟨g, 3, none⟩ = some (.int .i64 p.L) ∧ w'.cell? ⟨g, 4, none⟩ = some (.int .i64 p.S) ∧ w'.cell? ⟨g, 5, none⟩ = some (.int .i64 p.E)) (first | exact ⟨f3, f4, f5⟩ | exact ⟨f31, f41, f51⟩ | exact ⟨f32, f42, f52⟩) (first
    | (go_at_call 49; refine CBh.out.mono ?_; rintro e w1 ⟨⟨u1, rfl, o1⟩, b1⟩
       have qb1 : Below w.heap.size w w1 := ⟨b1.os, b1.tape, b1.output, b1.size, b1.block⟩
       have P1 := Lib.hid (HP.out.below qb1 hB)
       have O1 := Lib.hid o1
       have B1 := Lib.hid qb1
       have s1 := qb1.size
       obtain ⟨A1, c1, rfl⟩ := o1.form
       have f31 := P1.out.blk.cell 3 (u := .int .i64 p.L) rfl
       have f41 := P1.out.blk.cell 4 (u := .int .i64 p.S) rfl
       have f51 := P1.out.blk.cell 5 (u := .int .i64 p.E) rfl
       clear o1 b1 qb1)
    | (go_at_call 50; refine (l7Neutrals_any _ bs p.L p.S p.E w1 _ O1.out.sees (Nat.le_refl _) BL).mono ?_; rintro e w2 ⟨⟨u2, rfl, o2⟩, b2⟩
       rw [← hss.out] at o2
       obtain ⟨A2, c2, rfl⟩ := o2.form
       have P2 := Lib.hid (P1.out.below b2 (by omega))
       have OW := Lib.hid (o2.more (show w.heap.size ≤ w1.heap.size from s1) (Nat.le_refl _))
       have BB := Lib.hid (below_on B1.out b2 (Nat.le_refl _))
       have f32 := P2.out.blk.cell 3 (u := .int .i64 p.L) rfl
       have f42 := P2.out.blk.cell 4 (u := .int .i64 p.S) rfl
       have f52 := P2.out.blk.cell 5 (u := .int .i64 p.E) rfl
       clear o2 b2))
  go_wp2
  go_ret
  exact ⟨⟨_, rfl, OW.out⟩, BB.out⟩
set_option maxRecDepth 100000 in
set_option maxHeartbeats 4000000 in
theorem specPartFault_any (v0 v1 v2 : Value) (p : Prt) (w : World) (B : Nat) (h0 : Sees w B .i64 v0 p.T) (h1 : Sees w B .i64 v1 p.F) (h2 : Sees w B .i64 v2 p.N) (hB : B ≤ w.heap.size) (l0 : p.T.length < 1000000000) (l1 : p.F.length < 1000000000) (l2 : p.N.length < 1000000000) :
    Calls Tryd.prog 13 #[.agg #[v0, v1, v2, .int .i64 p.L, .int .i64 p.S, .int .i64 p.E]] w fun e w' => e = .returned (.int .i64 (partF p)) ∧ Below w.heap.size w w' := by
  have PT := Lib.hid (PtR.new w 26 B v0 v1 v2 p hB h0 h1 h2)
  have BW := Lib.hid ((Below.refl w.heap.size w).alloc (Nat.le_refl _) (.cells #[v0, v1, v2, .int .i64 p.L, .int .i64 p.S, .int .i64 p.E] 26))
  obtain ⟨A0, c0, rfl, _⟩ := h0
  obtain ⟨A1, c1, rfl, _⟩ := h1
  obtain ⟨A2, c2, rfl, _⟩ := h2
  go_enter Tryd.func13, Tryd.ntmps13
  have f0 := PT.out.blk.cell 0 (u := .slice A0 p.T.length c0) rfl
  have f1 := PT.out.blk.cell 1 (u := .slice A1 p.F.length c1) rfl
  have f2 := PT.out.blk.cell 2 (u := .slice A2 p.N.length c2) rfl
  have f3 := PT.out.blk.cell 3 (u := .int .i64 p.L) rfl
  have f4 := PT.out.blk.cell 4 (u := .int .i64 p.S) rfl
  have f5 := PT.out.blk.cell 5 (u := .int .i64 p.E) rfl
  have RT : Hid (Rd (w.alloc (.cells #[.slice A0 p.T.length c0, .slice A1 p.F.length c1, .slice A2 p.N.length c2, .int .i64 p.L, .int .i64 p.S, .int .i64 p.E] 26)) (w.heap.size + 1) A0 (nums .i64 p.T)) := Lib.hid (by obtain ⟨A', c', e, r⟩ := PT.out.s0; have := (sl_eq e).1; subst this; exact r)
  have RF : Hid (Rd (w.alloc (.cells #[.slice A0 p.T.length c0, .slice A1 p.F.length c1, .slice A2 p.N.length c2, .int .i64 p.L, .int .i64 p.S, .int .i64 p.E] 26)) (w.heap.size + 1) A1 (nums .i64 p.F)) := Lib.hid (by obtain ⟨A', c', e, r⟩ := PT.out.s1; have := (sl_eq e).1; subst this; exact r)
  have RN : Hid (Rd (w.alloc (.cells #[.slice A0 p.T.length c0, .slice A1 p.F.length c1, .slice A2 p.N.length c2, .int .i64 p.L, .int .i64 p.S, .int .i64 p.E] 26)) (w.heap.size + 1) A2 (nums .i64 p.N)) := Lib.hid (by obtain ⟨A', c', e, r⟩ := PT.out.s2; have := (sl_eq e).1; subst this; exact r)
  obtain ⟨a, ha⟩ : ∃ a, Hid (a = textF p.T) := ⟨_, Lib.hid rfl⟩
  obtain ⟨b, hb⟩ : ∃ b, Hid (b = classF p.F p.S) := ⟨_, Lib.hid rfl⟩
  obtain ⟨c, hc⟩ : ∃ c, Hid (c = classF p.N p.E) := ⟨_, Lib.hid rfl⟩
  have E := Lib.hid (show partF p = if a = 0 then (if b = 0 then (if c = 0 then (if p.F.length = p.T.length ∧ p.N.length = p.T.length then (if 0 ≤ p.L ∧ p.L ≤ 126 then 0 else 3) else 8) else c) else b) else a by unfold partF; rw [ha.out, hb.out, hc.out])
  obtain ⟨r, hr⟩ : ∃ r, Hid (partF p = r) := ⟨_, Lib.hid rfl⟩
  rw [hr.out] at E ⊢
  go_wp2_with fail
  refine (specTextFault_any A0 p.T c0 _ _ RT.out l0).mono ?_
  rintro e w' ⟨rfl, rfl⟩
  rw [← ha.out]
  by_cases ha0 : a = 0
  · rw [if_pos ha0] at E
    have n1 : (a != 0) = false := by simp [ha0]
    clear ha0
    go_wp2_with fail
    refine (specClassesFault_any A1 p.F c1 p.S _ _ RF.out l1).mono ?_
    rintro e w' ⟨rfl, rfl⟩
    rw [← hb.out]
    by_cases hb0 : b = 0
    · rw [if_pos hb0] at E
      have n2 : (b != 0) = false := by simp [hb0]
      clear hb0
      go_wp2_with fail
      refine (specClassesFault_any A2 p.N c2 p.E _ _ RN.out l2).mono ?_
      rintro e w' ⟨rfl, rfl⟩
      rw [← hc.out]
      by_cases hc0 : c = 0
      · rw [if_pos hc0] at E
        have n3 : (c != 0) = false := by simp [hc0]
        clear hc0
        by_cases hl1 : p.F.length = p.T.length
        · by_cases hl2 : p.N.length = p.T.length
          · rw [if_pos ⟨hl1, hl2⟩] at E
            have m1 : ((p.F.length : Int) != (p.T.length : Int)) = false := by simp [hl1]
            have m2 : ((p.N.length : Int) != (p.T.length : Int)) = false := by simp [hl2]
            have m3 : (p.F.length != p.T.length) = false := by simp [hl1]
            have m4 : (p.N.length != p.T.length) = false := by simp [hl2]
            by_cases hlv : 0 ≤ p.L ∧ p.L ≤ 126
            · rw [if_pos hlv] at E
              have d1 := decide_eq_true hlv
              clear hlv hl1 hl2
              go_wp2_with (go_at_call 43; refine (l1In_any _ _ _ _).mono ?_; rintro e w' ⟨rfl, rfl⟩; rw [d1])
              go_ret
              exact ⟨rint E.out.symm, BW.out⟩
            · rw [if_neg hlv] at E
              have d1 := decide_eq_false hlv
              clear hlv hl1 hl2
              go_wp2_with (go_at_call 43; refine (l1In_any _ _ _ _).mono ?_; rintro e w' ⟨rfl, rfl⟩; rw [d1])
              go_ret
              exact ⟨rint E.out.symm, BW.out⟩
          · rw [if_neg (fun h => hl2 h.2)] at E
            have m1 : ((p.F.length : Int) != (p.T.length : Int)) = false := by simp [hl1]
            have m2 : ((p.N.length : Int) != (p.T.length : Int)) = true := by simp; omega
            have m3 : (p.F.length != p.T.length) = false := by simp [hl1]
            have m4 : (p.N.length != p.T.length) = true := by simp [hl2]
            clear hl1 hl2
            go_wp2
            go_ret
            exact ⟨rint E.out.symm, BW.out⟩
        · rw [if_neg (fun h => hl1 h.1)] at E
          have m1 : ((p.F.length : Int) != (p.T.length : Int)) = true := by simp; omega
          have m3 : (p.F.length != p.T.length) = true := by simp [hl1]
          clear hl1
          go_wp2
          go_ret
          exact ⟨rint E.out.symm, BW.out⟩
      · rw [if_neg hc0] at E
        have n3 : (c != 0) = true := by simpa using hc0
        clear hc0
        go_wp2
        go_ret
        exact ⟨rint E.out.symm, BW.out⟩
    · rw [if_neg hb0] at E
      have n2 : (b != 0) = true := by simpa using hb0
      clear hb0
      go_wp2
      go_ret
      exact ⟨rint E.out.symm, BW.out⟩
  · rw [if_neg ha0] at E
    have n1 : (a != 0) = true := by simpa using ha0
    clear ha0
    go_wp2
    go_ret
    exact ⟨rint E.out.symm, BW.out⟩
end Go.Proofs.YtkkojemnbcddfaaDoor
