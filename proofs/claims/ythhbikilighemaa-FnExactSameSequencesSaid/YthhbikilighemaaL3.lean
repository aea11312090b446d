/- Chapter 4: the model's state: its last entry, what takes it, the next level. -/
import Derived.Test.YthhbikilighemaaL1
import Derived.Test.YthhbikilighemaaL2
namespace Go.Proofs.Ythhbikilighemaa
open Go.RowKit Go.Maps

/-- the model's state at this program's types -/
abbrev MSt (w : World) (S : Nat → Prop) (g : Nat) (s : Tell) (L C : List Int) (v1 v2 v3 : Value) : Prop := SSt w S g 77 74 2 s L C v1 v2 v3

set_option maxRecDepth 100000 in
set_option maxHeartbeats 1000000 in
theorem sLast_any (w : World) (S : Nat → Prop) (g : Nat) (s : Tell) (L C : List Int) (v1 v2 v3 : Value) (h : MSt w S g s L C v1 v2 v3) (hp : 0 < s.stk.length) (hl : s.stk.length ≤ 700) :
    Calls Try.prog 82 #[.pointer (some ⟨g, 0, none⟩)] w fun e w' => e = .returned (.agg #[.int .i64 (topT s.stk).lev, .int .i64 (topT s.stk).way, .bool (topT s.stk).iso]) ∧ Below w.heap.size w w' := by
  obtain ⟨m, hm⟩ : ∃ m, s.stk.length = m + 1 := ⟨s.stk.length - 1, by omega⟩
  have h2 := h.alloc (.cells #[.int .i64 0, .int .i64 0, .bool false] 74)
  obtain ⟨b, c, rfl, -, hbg⟩ := h.r1.addr hp
  have r1 := h2.r1
  rw [hm] at r1
  obtain ⟨t0, t1, t2⟩ := r1.topcells hm
  have hc0 := h2.blk.cell 0 (u := .slice (some ⟨b, 0, none⟩) (m + 1) c) (by rw [hm]; rfl)
  have hcap := r1.cap
  have k0 := Blk.new w 74 #[.int .i64 0, .int .i64 0, .bool false]
  have hbw := h.r1.lt b rfl
  have hgw := h.blk.lt
  have hd0 := k0.cell 0 (u := .int .i64 0) rfl
  have hd1 := k0.cell 1 (u := .int .i64 0) rfl
  have hd2 := k0.cell 2 (u := .bool false) rfl
  have hf0 := k0.frozen 0
  have hf1 := k0.frozen 1
  have hf2 := k0.frozen 2
  have hml : m < 700 := by omega
  obtain ⟨t, ht⟩ : ∃ t, t = topT s.stk := ⟨_, rfl⟩
  rw [← ht] at t0 t1 t2 ⊢
  clear h h2 r1 k0 ht
  go_enter Try.func82, Try.ntmps82
  go_wp2
  go_region
  go_wp2
  refine bodyPost_ret (v := .agg #[.int .i64 t.lev, .int .i64 t.way, .bool t.iso]) (by simp [results, Try.results82, go_sem]) rfl ?_
  exact ⟨rfl, ((Below.refl _ _).alloc (Nat.le_refl _) _).trans ⟨rfl, rfl, rfl, Nat.le_refl _, fun _ _ => rfl⟩⟩

/-- which way the next level is of -/
def leftQ (k : Int) : Bool := decide (k = 15 ∨ k = 18 ∨ k = 20)
def nextN (left : Bool) (n : Int) : Int := if left then lodd n else leven n
theorem nextN_low (left : Bool) (n : Int) (h : 0 ≤ n) : n < nextN left n ∧ nextN left n ≤ n + 2 := by unfold nextN lodd leven; split <;> omega
set_option maxRecDepth 100000 in
set_option maxHeartbeats 1000000 in
theorem sNext_any (k n : Int) (w : World) (h0 : 0 ≤ n) (h1 : n ≤ 999) :
    Calls Try.prog 81 #[.int .i64 k, .int .i64 n] w fun e w' => e = .returned (.int .i64 (nextN (leftQ k) n)) ∧ w = w' := by
  have ho := Lib.hid (oddV_in ⟨h0, h1⟩)
  have he := Lib.hid (evenV_in ⟨h0, h1⟩)
  by_cases hk : k = 15 ∨ k = 18 ∨ k = 20
  · have hE := Lib.hid (show nextN (leftQ k) n = lodd n by unfold nextN leftQ; rw [decide_eq_true hk]; rfl)
    rcases hk with rfl | rfl | rfl
    all_goals
      go_enter Try.func81, Try.ntmps81
      go_wp2_with (first
        | (go_at_call 97; refine (specLeastOdd_any _ _).mono ?_; rintro e w' ⟨rfl, rfl⟩)
        | (go_at_call 98; refine (specLeastEven_any _ _).mono ?_; rintro e w' ⟨rfl, rfl⟩))
      go_ret
      exact ⟨rint (by rw [hE.out, ho.out]), rfl⟩
  · have hE := Lib.hid (show nextN (leftQ k) n = leven n by unfold nextN leftQ; rw [decide_eq_false hk]; rfl)
    have n1 : (k == 15) = false := by simp; omega
    have n2 : (k == 18) = false := by simp; omega
    have n3 : (k == 20) = false := by simp; omega
    clear hk
    go_enter Try.func81, Try.ntmps81
    go_wp2_with (first
      | (go_at_call 97; refine (specLeastOdd_any _ _).mono ?_; rintro e w' ⟨rfl, rfl⟩)
      | (go_at_call 98; refine (specLeastEven_any _ _).mono ?_; rintro e w' ⟨rfl, rfl⟩))
    go_ret
    exact ⟨rint (by rw [hE.out, he.out]), rfl⟩

/-- the classes, one turned to a way -/
def turnC (C : List Int) (k : Nat) (t : Tier) : List Int := if t.way = -1 then C else C.set k t.way
set_option maxRecDepth 100000 in
set_option maxHeartbeats 1000000 in
theorem sTake_any (w : World) (S : Nat → Prop) (g : Nat) (s : Tell) (L C : List Int) (v1 v2 v3 : Value) (h : MSt w S g s L C v1 v2 v3) (hp : 0 < s.stk.length) (hl : s.stk.length ≤ 700) (k : Nat)
    (hkL : k < L.length) (hkC : k < C.length) (hL : L.length ≤ 700) (hC : C.length ≤ 700) :
    Calls Try.prog 54 #[.pointer (some ⟨g, 0, none⟩), .int .i64 k] w fun e w' => (e = .returned (.tuple #[]) ∧ MSt w' S g s (L.set k (topT s.stk).lev) (turnC C k (topT s.stk)) v1 v2 v3) ∧ Fr S w w' := by
  obtain ⟨b2, c2, rfl, hs2, hg2⟩ := h.r2.addr (by omega)
  obtain ⟨b3, c3, rfl, hs3, hg3⟩ := h.r3.addr (by omega)
  have H := Lib.hid h
  go_enter Try.func54, Try.ntmps54
  go_wp2_with fail
  refine (sLast_any w S g s L C _ _ _ h hp hl).mono ?_
  rintro e w1 ⟨rfl, bl⟩
  obtain ⟨t, ht⟩ : ∃ t, Hid (t = topT s.stk) := ⟨_, Lib.hid rfl⟩
  rw [← ht.out]
  have h1 := h.below bl
  have F1 := Lib.hid (Fr.of_below (S := S) bl)
  have h2 := h1.alloc (.cells #[.int .i64 t.lev, .int .i64 t.way, .bool t.iso] 74)
  have k0 := Blk.new w1 74 #[.int .i64 t.lev, .int .i64 t.way, .bool t.iso]
  have hb2 := h1.r2.lt b2 rfl
  have hb3 := h1.r3.lt b3 rfl
  have hgl := h1.blk.lt
  have st := h1.r2.1.stored k (.int .i64 t.lev)
  obtain ⟨w2, hw2⟩ : ∃ x, Hid (x = w1.setCell ⟨b2, k, none⟩ (.int .i64 t.lev)) := ⟨_, Lib.hid rfl⟩
  rw [← hw2.out] at st
  have h3 : Hid (MSt (w2.alloc (.cells #[.int .i64 t.lev, .int .i64 t.way, .bool t.iso] 74)).drew S g s (L.set k t.lev) C v1 (.slice (some ⟨b2, 0, none⟩) L.length c2) (.slice (some ⟨b3, 0, none⟩) C.length c3)) :=
    Lib.hid (((h1.putL rfl st.1 st.2).alloc _).below (drew_below _))
  have F3 : Hid (Fr S w (w2.alloc (.cells #[.int .i64 t.lev, .int .i64 t.way, .bool t.iso] 74)).drew) :=
    Lib.hid (((F1.out.trans (Fr.grown st.2 (fun g e => by injection e with e; subst e; exact hs2))).trans (Fr.alloc _ _)).trans (Fr.of_below (drew_below _)))
  have s2 : w2.heap.size = w1.heap.size := by rw [hw2.out]; simp
  have k3 : Hid (Blk (w2.alloc (.cells #[.int .i64 t.lev, .int .i64 t.way, .bool t.iso] 74)).drew w1.heap.size 74 #[.int .i64 t.lev, .int .i64 t.way, .bool t.iso]) :=
    Lib.hid (by have := Blk.new w2 74 #[.int .i64 t.lev, .int .i64 t.way, .bool t.iso]; rw [s2] at this; exact this)
  have e4 := h2.blk.cell 4 rfl
  have e5 := h2.blk.cell 5 rfl
  have q0 := k0.cell 0 rfl
  have q1 := k0.cell 1 rfl
  have q2 := k0.cell 2 rfl
  have m0 := own_cell h2.r2.1 k hkL
  have m1 := h2.r2.1.frozenAt k
  have S2 := Lib.hid s2
  clear h h1 h2 k0 st bl F1 s2
  go_wp2
  go_region
  clear e4 e5 q0 q1 q2 m0 m1
  rw [← hw2.out]
  obtain ⟨w3, hw3⟩ : ∃ x, x = (w2.alloc (.cells #[.int .i64 t.lev, .int .i64 t.way, .bool t.iso] 74)).drew := ⟨_, rfl⟩
  rw [← hw3] at h3 F3 k3 ⊢
  have sz : w1.heap.size < w3.heap.size := k3.out.lt
  clear hw3 hw2 S2
  have q1 := k3.out.cell 1 rfl
  by_cases hw : t.way = -1
  · have nw : (t.way != -1) = false := by simp [hw]
    have E := Lib.hid (show turnC C k t = C by unfold turnC; rw [if_pos hw])
    clear hw
    go_wp2
    go_end0
    rw [← ht.out, E.out]
    exact ⟨⟨rfl, h3.out⟩, F3.out⟩
  · have nw : (t.way != -1) = true := by simpa using hw
    have E := Lib.hid (show turnC C k t = C.set k t.way by unfold turnC; rw [if_neg hw])
    have e5 := h3.out.blk.cell 5 rfl
    have m0 := own_cell h3.out.r3.1 k hkC
    have m1 := h3.out.r3.1.frozenAt k
    have st := h3.out.r3.1.stored k (.int .i64 t.way)
    have h4 := Lib.hid ((h3.out.putC rfl st.1 st.2).below (drew_below _))
    have F4 := Lib.hid ((F3.out.trans (Fr.grown st.2 (fun g e => by injection e with e; subst e; exact hs3))).trans (Fr.of_below (drew_below _)))
    clear hw st
    go_wp2
    go_region
    go_wp2
    go_end0
    rw [← ht.out, E.out]
    exact ⟨⟨rfl, h4.out⟩, F4.out⟩
end Go.Proofs.Ythhbikilighemaa
