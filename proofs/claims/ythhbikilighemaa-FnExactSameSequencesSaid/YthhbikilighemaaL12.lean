/- Chapter 4: the program's teller: what takes an entry, the next level, whether there is room. -/
import Derived.Test.YthhbikilighemaaL11
namespace Go.Proofs.Ythhbikilighemaa
open Go.RowKit Go.Maps
attribute [local go_sem] iEntry_lev iEntry_iso

section
variable (w : World) (S : Nat → Prop) (g gs : Nat) (s : Tell) (L C : List Int) (vk vm v1 v2 v3 : Value) (h : TSt w S g gs s L C vk vm v1 v2 v3)
include h
set_option maxRecDepth 100000 in
set_option maxHeartbeats 1000000 in
theorem iTake_any (hp : 0 < s.stk.length) (hl : s.stk.length ≤ 700) (k : Nat) (hkL : k < L.length) (hkC : k < C.length) (hL : L.length ≤ 700) (hC : C.length ≤ 700) :
    Calls Try.prog 93 #[.pointer (some ⟨g, 0, none⟩), .int .i64 k] w fun e w' => (e = .returned (.tuple #[]) ∧ TSt w' S g gs s (L.set k (topT s.stk).lev) (turnC C k (topT s.stk)) vk vm v1 v2 v3) ∧ Fr S w w' := by
  obtain ⟨b2, c2, rfl, hs2, hg2⟩ := h.r2.addr (by omega)
  obtain ⟨b3, c3, rfl, hs3, hg3⟩ := h.r3.addr (by omega)
  have H := Lib.hid h
  have ep := h.blk.cell 2 (u := .pointer (some ⟨gs, 0, none⟩)) rfl
  go_enter Try.func93, Try.ntmps93
  go_wp2_with fail
  refine (iLast_any w S g gs s L C _ _ _ _ _ h hp hl).mono ?_
  rintro e w1 ⟨rfl, bl⟩
  obtain ⟨t, ht⟩ : ∃ t, Hid (t = topT s.stk) := ⟨_, Lib.hid rfl⟩
  rw [← ht.out]
  have h1 := h.below bl
  have F1 := Lib.hid (Fr.of_below (S := S) bl)
  have h2 := h1.alloc (.cells #[.int .i64 t.lev, .int .i64 t.way, .bool t.iso] 104)
  have k0 := Blk.new w1 104 #[.int .i64 t.lev, .int .i64 t.way, .bool t.iso]
  have hb2 := h1.r2.lt b2 rfl
  have hb3 := h1.r3.lt b3 rfl
  have hgl := h1.blk.lt
  have st := h1.r2.1.stored k (.int .i64 t.lev)
  obtain ⟨w2, hw2⟩ : ∃ x, Hid (x = w1.setCell ⟨b2, k, none⟩ (.int .i64 t.lev)) := ⟨_, Lib.hid rfl⟩
  rw [← hw2.out] at st
  have h3 : Hid (TSt (w2.alloc (.cells #[.int .i64 t.lev, .int .i64 t.way, .bool t.iso] 104)).drew S g gs s (L.set k t.lev) C vk vm v1 (.slice (some ⟨b2, 0, none⟩) L.length c2) (.slice (some ⟨b3, 0, none⟩) C.length c3)) :=
    Lib.hid (((h1.putL rfl st.1 st.2).alloc _).below (drew_below _))
  have F3 : Hid (Fr S w (w2.alloc (.cells #[.int .i64 t.lev, .int .i64 t.way, .bool t.iso] 104)).drew) :=
    Lib.hid (((F1.out.trans (Fr.grown st.2 (fun g e => by injection e with e; subst e; exact hs2))).trans (Fr.alloc _ _)).trans (Fr.of_below (drew_below _)))
  have s2 : w2.heap.size = w1.heap.size := by rw [hw2.out]; simp
  have k3 : Hid (Blk (w2.alloc (.cells #[.int .i64 t.lev, .int .i64 t.way, .bool t.iso] 104)).drew w1.heap.size 104 #[.int .i64 t.lev, .int .i64 t.way, .bool t.iso]) :=
    Lib.hid (by have := Blk.new w2 104 #[.int .i64 t.lev, .int .i64 t.way, .bool t.iso]; rw [s2] at this; exact this)
  have e4 := h2.blk.cell 7 rfl
  have e5 := h2.blk.cell 8 rfl
  have q0 := k0.cell 0 rfl
  have q1 := k0.cell 1 rfl
  have q2 := k0.cell 2 rfl
  have m0 := own_cell h2.r2.1 k hkL
  have m1 := h2.r2.1.frozenAt k
  have S2 := Lib.hid s2
  clear h h1 h2 k0 st bl F1 s2 ep
  go_wp2
  go_region
  clear e4 e5 q0 q1 q2 m0 m1
  rw [← hw2.out]
  obtain ⟨w3, hw3⟩ : ∃ x, x = (w2.alloc (.cells #[.int .i64 t.lev, .int .i64 t.way, .bool t.iso] 104)).drew := ⟨_, rfl⟩
  rw [← hw3] at h3 F3 k3 ⊢
  have sz : w1.heap.size < w3.heap.size := k3.out.lt
  clear hw3 hw2 S2
  have q1 := k3.out.cell 1 rfl
  by_cases hw : t.way = -1
  · have nw : (t.way != -1) = false := by simp [hw]
    have E := Lib.hid (show turnC C k t = C by unfold turnC; rw [if_pos hw])
    clear hw
    go_wp2
    go_end0
    rw [← ht.out, E.out]
    exact ⟨⟨rfl, h3.out⟩, F3.out⟩
  · have nw : (t.way != -1) = true := by simpa using hw
    have E := Lib.hid (show turnC C k t = C.set k t.way by unfold turnC; rw [if_neg hw])
    have e5 := h3.out.blk.cell 8 rfl
    have m0 := own_cell h3.out.r3.1 k hkC
    have m1 := h3.out.r3.1.frozenAt k
    have st := h3.out.r3.1.stored k (.int .i64 t.way)
    have h4 := Lib.hid ((h3.out.putC rfl st.1 st.2).below (drew_below _))
    have F4 := Lib.hid ((F3.out.trans (Fr.grown st.2 (fun g e => by injection e with e; subst e; exact hs3))).trans (Fr.of_below (drew_below _)))
    clear hw st
    go_wp2
    go_region
    go_wp2
    go_end0
    rw [← ht.out, E.out]
    exact ⟨⟨rfl, h4.out⟩, F4.out⟩
set_option maxRecDepth 100000 in
set_option maxHeartbeats 1000000 in
theorem iNext_any (hp : 0 < s.stk.length) (hl : s.stk.length ≤ 700) (h0 : 0 ≤ (topT s.stk).lev) (h1 : (topT s.stk).lev ≤ 999) (left : Bool) :
    Calls Try.prog 102 #[.pointer (some ⟨g, 0, none⟩), .bool left] w fun e w' => e = .returned (.int .i64 (nextL left s.stk)) ∧ Below w.heap.size w w' := by
  have ho := Lib.hid (oddV_in ⟨h0, h1⟩)
  have he := Lib.hid (evenV_in ⟨h0, h1⟩)
  have ep := h.blk.cell 2 (u := .pointer (some ⟨gs, 0, none⟩)) rfl
  cases left with
  | true =>
    have hE := Lib.hid (show nextL true s.stk = lodd (topT s.stk).lev from rfl)
    go_enter Try.func102, Try.ntmps102
    go_wp2_with fail
    refine (iLast_any w S g gs s L C _ _ _ _ _ h hp hl).mono ?_
    rintro e w1 ⟨rfl, bl⟩
    clear ep h
    go_wp2_with fail
    refine (leastOdd_any _ w1).mono ?_
    rintro e w2 ⟨rfl, b2⟩
    rw [ho.out]
    go_wp2
    go_ret
    exact ⟨rint hE.out.symm, below_on bl b2 (Nat.le_refl _)⟩
  | false =>
    have hE := Lib.hid (show nextL false s.stk = leven (topT s.stk).lev from rfl)
    go_enter Try.func102, Try.ntmps102
    go_wp2_with fail
    refine (iLast_any w S g gs s L C _ _ _ _ _ h hp hl).mono ?_
    rintro e w1 ⟨rfl, bl⟩
    clear ep h
    go_wp2_with fail
    refine (leastEven_any _ w1).mono ?_
    rintro e w2 ⟨rfl, b2⟩
    rw [he.out]
    go_wp2
    go_ret
    exact ⟨rint hE.out.symm, below_on bl b2 (Nat.le_refl _)⟩
set_option maxRecDepth 100000 in
set_option maxHeartbeats 1000000 in
theorem iRoom_any (hli : s.li ≤ 600) (hle : s.le ≤ 600) (n y : Int) (z : Bool) (h0 : 0 ≤ n) (h1 : n ≤ 2000) :
    Calls Try.prog 103 #[.pointer (some ⟨g, 0, none⟩), .agg #[.int .i64 n, .int .i64 y, .bool z]] w fun e w' => e = .returned (.bool (decide (¬ Full n s))) ∧ Below w.heap.size w w' := by
  have b0 := (Below.refl w.heap.size w).alloc (Nat.le_refl _) (.cells #[.int .i64 n, .int .i64 y, .bool z] 104)
  have h2 := h.alloc (.cells #[.int .i64 n, .int .i64 y, .bool z] 104)
  have k0 := Blk.new w 104 #[.int .i64 n, .int .i64 y, .bool z]
  have q0 := k0.cell 0 (u := .int .i64 n) rfl
  have q1 := k0.cell 1 (u := .int .i64 y) rfl
  have q2 := k0.cell 2 (u := .bool z) rfl
  have e3 := h2.blk.cell 3 (u := .int .i64 s.li) rfl
  have e4 := h2.blk.cell 4 (u := .int .i64 s.le) rfl
  have hgl := h.blk.lt
  clear h h2 k0
  obtain ⟨ans, hans⟩ : ∃ x, Hid (x = decide (¬ Full n s)) := ⟨_, Lib.hid rfl⟩
  rw [← hans.out]
  by_cases h5 : n ≤ 125
  · by_cases h6 : s.li = 0
    · by_cases h7 : s.le = 0
      · have E := Lib.hid (show ans = true by rw [hans.out]; unfold Full; simp; omega)
        go_enter Try.func103, Try.ntmps103
        go_wp2
        go_ret
        exact ⟨rbool E.out.symm, b0⟩
      · have E := Lib.hid (show ans = false by rw [hans.out]; unfold Full; simp; omega)
        have n7 : ((s.le : Int) == 0) = false := by simp; omega
        go_enter Try.func103, Try.ntmps103
        go_wp2
        go_ret
        exact ⟨rbool E.out.symm, b0⟩
    · have E := Lib.hid (show ans = false by rw [hans.out]; unfold Full; simp; omega)
      have n6 : ((s.li : Int) == 0) = false := by simp; omega
      go_enter Try.func103, Try.ntmps103
      go_wp2
      go_ret
      exact ⟨rbool E.out.symm, b0⟩
  · have E := Lib.hid (show ans = false by rw [hans.out]; unfold Full; simp; omega)
    have n5 : decide (n ≤ 125) = false := decide_eq_false h5
    go_enter Try.func103, Try.ntmps103
    go_wp2
    go_ret
    exact ⟨rbool E.out.symm, b0⟩
end
end Go.Proofs.Ythhbikilighemaa
