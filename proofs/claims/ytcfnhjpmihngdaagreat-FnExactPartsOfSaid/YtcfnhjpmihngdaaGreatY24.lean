/- Chapter 4: the model's state: isolates. -/
import Derived.Test.YtcfnhjpmihngdaaGreatY16
import Derived.Test.YtcfnhjpmihngdaaGreatY23
namespace Go.Proofs.YtcfnhjpmihngdaaGreat
open Go.RowKit Go.Maps

/-- the program's state at this program's types -/
abbrev TSt (w : World) (S : Nat → Prop) (g gs : Nat) (s : Tell) (L C : List Int) (vk vm v1 v2 v3 : Value) : Prop := ISt w S g gs 85 100 104 2 s L C vk vm v1 v2 v3
theorem info_iEntry : (Tryz.prog.info? 104).map (fun i => (i.zero, i.size, i.bytes)) = some (some (.agg #[.int .i64 0, .int .i64 0, .bool false]), 3, 24) := by kernel_rfl
theorem iEntry_lev (x y : Int) (z : Bool) (w : World) : (Instr.field 104 (.agg #[.int .i64 x, .int .i64 y, .bool z]) 0).run Tryz.prog w = .ok (.int .i64 x) w := by
  simp [Instr.field, go_sem, asAgg]
theorem iEntry_iso (x y : Int) (z : Bool) (w : World) : (Instr.field 104 (.agg #[.int .i64 x, .int .i64 y, .bool z]) 2).run Tryz.prog w = .ok (.bool z) w := by
  simp [Instr.field, go_sem, asAgg]

section
variable (w : World) (S : Nat → Prop) (g gs : Nat) (s : Tell) (L C : List Int) (vk vm v1 v2 v3 : Value) (h : TSt w S g gs s L C vk vm v1 v2 v3)
include h
set_option maxRecDepth 100000 in
set_option maxHeartbeats 1000000 in
theorem iLast_any (hp : 0 < s.stk.length) (hl : s.stk.length ≤ 700) :
    Calls Tryz.prog 98 #[.pointer (some ⟨gs, 0, none⟩)] w fun e w' => e = .returned (.agg #[.int .i64 (topT s.stk).lev, .int .i64 (topT s.stk).way, .bool (topT s.stk).iso]) ∧ Below w.heap.size w w' := by
  obtain ⟨m, hm⟩ : ∃ m, s.stk.length = m + 1 := ⟨s.stk.length - 1, by omega⟩
  have h2 := h.alloc (.cells #[.int .i64 0, .int .i64 0, .bool false] 104)
  obtain ⟨b, c, rfl, -, -⟩ := h.r1.addr hp
  have r1 := h2.r1
  rw [hm] at r1
  obtain ⟨t0, t1, t2⟩ := r1.topcells hm
  have hc0 := h2.sbk.cell 0 (u := .slice (some ⟨b, 0, none⟩) (m + 1) c) (by rw [hm]; rfl)
  have hcap := r1.cap
  have k0 := Blk.new w 104 #[.int .i64 0, .int .i64 0, .bool false]
  have hbw := h.r1.lt b rfl
  have hgw := h.sbk.lt
  have hd0 := k0.cell 0 (u := .int .i64 0) rfl
  have hd1 := k0.cell 1 (u := .int .i64 0) rfl
  have hd2 := k0.cell 2 (u := .bool false) rfl
  have hf0 := k0.frozen 0
  have hf1 := k0.frozen 1
  have hf2 := k0.frozen 2
  have hml : m < 700 := by omega
  obtain ⟨t, ht⟩ : ∃ t, t = topT s.stk := ⟨_, rfl⟩
  rw [← ht] at t0 t1 t2 ⊢
  clear h h2 r1 k0 ht
  go_enter Tryz.func98, Tryz.ntmps98
  go_wp2
  go_region
  go_wp2
  refine bodyPost_ret (v := .agg #[.int .i64 t.lev, .int .i64 t.way, .bool t.iso]) (by simp [results, Tryz.results98, go_sem]) rfl ?_
  exact ⟨rfl, ((Below.refl _ _).alloc (Nat.le_refl _) _).trans ⟨rfl, rfl, rfl, Nat.le_refl _, fun _ _ => rfl⟩⟩
theorem iSize_any (_ : s.stk.length ≤ 700) :
    Calls Tryz.prog 99 #[.pointer (some ⟨gs, 0, none⟩)] w fun e w' => e = .returned (.int .i64 s.stk.length) ∧ w = w' := by
  obtain ⟨A1, c1, rfl⟩ := h.r1.form
  have hc0 := h.sbk.cell 0 (u := .slice A1 s.stk.length c1) rfl
  clear h
  go_enter Tryz.func99, Tryz.ntmps99
  go_wp2
  go_ret
  exact ⟨rfl, rfl⟩
set_option maxRecDepth 100000 in
set_option maxHeartbeats 1000000 in
theorem iPut_any (hO : Open S w) (hl : s.stk.length ≤ 700) (n y : Int) (z : Bool) :
    Calls Tryz.prog 72 #[.pointer (some ⟨gs, 0, none⟩), .agg #[.int .i64 n, .int .i64 y, .bool z]] w fun e w' => (e = .returned (.tuple #[]) ∧ ∃ u, TSt w' S g gs ⟨s.stk ++ [⟨n, y, z⟩], s.li, s.le, s.is⟩ L C vk vm u v2 v3) ∧ Fr S w w' := by
  obtain ⟨i0, hif, hz0, hz1, hz2⟩ := info_parts info_iEntry
  obtain ⟨A1, c1, rfl⟩ := h.r1.form
  have H2 := Lib.hid (h.alloc (.cells #[.int .i64 n, .int .i64 y, .bool z] 104))
  have O2 := Lib.hid (hO.on (w' := w.alloc (.cells #[.int .i64 n, .int .i64 y, .bool z] 104)) (by simp))
  have F2 := Lib.hid (Fr.alloc (S := S) w (.cells #[.int .i64 n, .int .i64 y, .bool z] 104))
  have k2 := Blk.new w 104 #[.int .i64 n, .int .i64 y, .bool z]
  have r0 := k2.cell 0 (u := .int .i64 n) rfl
  have r1 := k2.cell 1 (u := .int .i64 y) rfl
  have r2 := k2.cell 2 (u := .bool z) rfl
  have e0 := H2.out.sbk.cell 0 (u := .slice A1 s.stk.length c1) rfl
  have HB := Lib.hid ((H2.out.alloc (.cells #[.int .i64 n, .int .i64 y, .bool z] 104)).below (drew_below _))
  have OB : Hid (Open S (((w.alloc (.cells #[.int .i64 n, .int .i64 y, .bool z] 104)).alloc (.cells #[.int .i64 n, .int .i64 y, .bool z] 104)).drew)) := Lib.hid (O2.out.on (by show _ ≤ ((w.alloc _).alloc _).heap.size; simp))
  have FB := Lib.hid ((F2.out.trans (Fr.alloc _ (.cells #[.int .i64 n, .int .i64 y, .bool z] 104))).trans (Fr.of_below (drew_below _)))
  have RB := Lib.hid (by
    have q := Rd.lit (w.alloc (.cells #[.int .i64 n, .int .i64 y, .bool z] 104)) #[.int .i64 n, .int .i64 y, .bool z] 104
    rw [World.size_alloc] at q
    exact q.below (drew_below _) (by simp))
  have hgl := h.sbk.lt
  clear h hO k2
  go_enter Tryz.func72, Tryz.ntmps72
  go_wp2
  go_region_law (refine step_apps (by rfl) _ _ _ rfl 0 Tryz.underlying98 hif hz0 hz1 hz2 rfl (by omega) rfl HB.out.r1.1 rfl (B := w.heap.size + 1 + 1) (A := some ⟨w.heap.size + 1, 0, none⟩) (m := 1) (news := [.int .i64 n, .int .i64 y, .bool z]) RB.out rfl (by simp [Value.oneCell']) (by omega) (by omega) (by omega) ?_; intro v' w5 o5 g5 a5; obtain ⟨A5, c5, rfl⟩ := own_form o5; have HP := Lib.hid (HB.out.push OB.out ⟨n, y, z⟩ o5 g5 a5); have FP := Lib.hid ((FB.out.trans (Fr.grown g5 (fun b hb => (HB.out.r1.2 b hb).1))).trans (Fr.set w5 ⟨gs, 0, none⟩ (.slice A5 (s.stk.length + 1) c5) HB.out.ins)); have KP : Blk w5 gs _ _ := (g5.block gs HB.out.sbk.lt (fun e => (HB.out.x1 gs e.symm) rfl)).trans HB.out.sbk; have x0 := KP.cell 0 (u := .slice A1 s.stk.length c1) rfl; have x1 := KP.frozen 0; clear KP o5 g5 a5)
  all_goals
    go_wp2
    go_end0
    exact ⟨⟨rfl, _, HP.out⟩, FP.out⟩
set_option maxRecDepth 100000 in
set_option maxHeartbeats 1000000 in
theorem iTakeOff_any (hOS : S w.heap.size) (hp : 0 < s.stk.length) (hl : s.stk.length ≤ 700) :
    Calls Tryz.prog 97 #[.pointer (some ⟨gs, 0, none⟩)] w fun e w' => (e = .returned (.agg #[.int .i64 (topT s.stk).lev, .int .i64 (topT s.stk).way, .bool (topT s.stk).iso]) ∧ ∃ u, TSt w' S g gs ⟨s.stk.dropLast, s.li, s.le, s.is⟩ L C vk vm u v2 v3) ∧ Fr S w w' := by
  obtain ⟨m, hm⟩ : ∃ m, s.stk.length = m + 1 := ⟨s.stk.length - 1, by omega⟩
  have HM := Lib.hid hm
  have h0 := h.alloc (.cells #[.int .i64 0, .int .i64 0, .bool false] 104)
  have k0 := Blk.new w 104 #[.int .i64 0, .int .i64 0, .bool false]
  have F0 := Lib.hid (Fr.alloc (S := S) w (.cells #[.int .i64 0, .int .i64 0, .bool false] 104))
  have NG := Lib.hid h.blk.lt
  have NS := Lib.hid h.sbk.lt
  have N1 := Lib.hid h.r1.lt
  have N2 := Lib.hid h.r2.lt
  have N3 := Lib.hid h.r3.lt
  clear h
  go_enter Tryz.func97, Tryz.ntmps97
  go_wp2_with fail
  refine (iLast_any _ S g gs s L C vk vm _ v2 v3 h0 hp hl).mono ?_
  rintro e w1 ⟨rfl, bl⟩
  have h1 := h0.below bl
  have k1 := k0.below bl k0.lt
  have F1 := Lib.hid (F0.out.trans (Fr.of_below (S := S) bl))
  obtain ⟨t, ht⟩ : ∃ t, Hid (t = topT s.stk) := ⟨_, Lib.hid rfl⟩
  rw [← ht.out]
  obtain ⟨b, c, rfl, -, -⟩ := h1.r1.addr hp
  clear h0 k0 bl
  have H1 : Hid (TSt (w1.alloc (.cells #[.int .i64 t.lev, .int .i64 t.way, .bool t.iso] 104)) S g gs s L C vk vm (.slice (some ⟨b, 0, none⟩) (m + 1) c) v2 v3) := Lib.hid (by rw [← hm]; exact h1.alloc _)
  have k2 := Blk.new w1 104 #[.int .i64 t.lev, .int .i64 t.way, .bool t.iso]
  have K1 := Lib.hid (k1.alloc (.cells #[.int .i64 t.lev, .int .i64 t.way, .bool t.iso] 104))
  have e0 := H1.out.sbk.cell 0 (u := .slice (some ⟨b, 0, none⟩) (m + 1) c) rfl
  have f0 := H1.out.sbk.frozen 0
  have hcap : m + 1 ≤ c ∧ c ≤ maxLen := by have := h1.r1.cap; omega
  have hgs := h1.sbk.lt
  have hkw := k1.lt
  have hml : m < 700 := by omega
  have q0 := k2.cell 0 (u := .int .i64 t.lev) rfl
  have q1 := k2.cell 1 (u := .int .i64 t.way) rfl
  have q2 := k2.cell 2 (u := .bool t.iso) rfl
  have H2 := (H1.out.pop HM.out rfl)
  have hwl : w.heap.size < w1.heap.size := hkw
  obtain ⟨w2, hw2⟩ : ∃ x, Hid (x = w1.setCell ⟨gs, 0, none⟩ (.slice (some ⟨b, 0, none⟩) m c)) := ⟨_, Lib.hid rfl⟩
  have H1b : TSt w1 S g gs s L C vk vm (.slice (some ⟨b, 0, none⟩) (m + 1) c) v2 v3 := by rw [← hm]; exact h1
  have H2b := H1b.pop HM.out rfl
  rw [← hw2.out] at H2b
  have s2 : w2.heap.size = w1.heap.size := by rw [hw2.out]; simp
  have hgne : w.heap.size ≠ gs := by have := NS.out; omega
  have k3 : Blk w2 w.heap.size 104 #[.int .i64 0, .int .i64 0, .bool false] := by rw [hw2.out]; exact k1.setB gs _ _ hgne
  have H3 := Lib.hid ((H2b.alloc (.cells #[.int .i64 t.lev, .int .i64 t.way, .bool t.iso] 104)).below (drew_below _))
  have K3 := Lib.hid ((k3.alloc (.cells #[.int .i64 t.lev, .int .i64 t.way, .bool t.iso] 104)).below (drew_below _) (by simp; have := k3.lt; omega))
  have k4 := (Blk.new w2 104 #[.int .i64 t.lev, .int .i64 t.way, .bool t.iso]).below (drew_below _) (by simp)
  have F3 := Lib.hid (((F1.out.trans (by have := Fr.set (S := S) w1 ⟨gs, 0, none⟩ (.slice (some ⟨b, 0, none⟩) m c) h1.ins; rw [← hw2.out] at this; exact this)).trans (Fr.alloc w2 (.cells #[.int .i64 t.lev, .int .i64 t.way, .bool t.iso] 104))).trans (Fr.of_below (drew_below _)))
  obtain ⟨w3, hw3⟩ : ∃ x, Hid (x = (w2.alloc (.cells #[.int .i64 t.lev, .int .i64 t.way, .bool t.iso] 104)).drew) := ⟨_, Lib.hid rfl⟩
  rw [← hw3.out] at H3 K3 F3 k4
  rw [s2] at k4
  have K4 := Lib.hid k4
  have XS := Lib.hid (show S w.heap.size from hOS)
  clear h1 k1 k2 H2 H1b H2b k3 k4 s2
  go_wp2
  go_region
  rw [← hw2.out, ← hw3.out]
  clear q0 q1 q2 e0 f0
  have p0 := K3.out.cell 0 (u := .int .i64 0) rfl
  have p1 := K3.out.cell 1 (u := .int .i64 0) rfl
  have p2 := K3.out.cell 2 (u := .bool false) rfl
  have f0 := K3.out.frozen 0
  have f1 := K3.out.frozen 1
  have f2 := K3.out.frozen 2
  have q0 := K4.out.cell 0 (u := .int .i64 t.lev) rfl
  have q1 := K4.out.cell 1 (u := .int .i64 t.way) rfl
  have q2 := K4.out.cell 2 (u := .bool t.iso) rfl
  go_wp2
  refine bodyPost_ret (v := .agg #[.int .i64 t.lev, .int .i64 t.way, .bool t.iso]) (by simp [results, Tryz.results97, go_sem, p0, p1, p2]) rfl ?_
  rw [ht.out] at *
  have n1 : ∀ x, (Value.slice (some ⟨b, 0, none⟩) m c).ownBlock = some x → x ≠ w.heap.size := fun x hx => by have := N1.out x hx; omega
  have n2 : ∀ x, v2.ownBlock = some x → x ≠ w.heap.size := fun x hx => by have := N2.out x hx; omega
  have n3 : ∀ x, v3.ownBlock = some x → x ≠ w.heap.size := fun x hx => by have := N3.out x hx; omega
  have ng : g ≠ w.heap.size := by have := NG.out; omega
  have ns : gs ≠ w.heap.size := by have := NS.out; omega
  exact ⟨⟨rfl, _, ((H3.out.setB _ _ _ ng ns n1 n2 n3).setB _ _ _ ng ns n1 n2 n3).setB _ _ _ ng ns n1 n2 n3⟩, ((F3.out.trans (Fr.set _ _ _ XS.out)).trans (Fr.set _ _ _ XS.out)).trans (Fr.set _ _ _ XS.out)⟩
end
end Go.Proofs.YtcfnhjpmihngdaaGreat

namespace Go.Proofs.YtcfnhjpmihngdaaGreat
open Go.RowKit Go.Maps
attribute [local go_sem] iEntry_lev iEntry_iso

section
variable (w : World) (S : Nat → Prop) (g gs : Nat) (s : Tell) (L C : List Int) (vk vm v1 v2 v3 : Value) (h : TSt w S g gs s L C vk vm v1 v2 v3)
include h
set_option maxRecDepth 100000 in
set_option maxHeartbeats 1000000 in
theorem iTake_any (hp : 0 < s.stk.length) (hl : s.stk.length ≤ 700) (k : Nat) (hkL : k < L.length) (hkC : k < C.length) (hL : L.length ≤ 700) (hC : C.length ≤ 700) :
    Calls Tryz.prog 81 #[.pointer (some ⟨g, 0, none⟩), .int .i64 k] w fun e w' => (e = .returned (.tuple #[]) ∧ TSt w' S g gs s (L.set k (topT s.stk).lev) (turnC C k (topT s.stk)) vk vm v1 v2 v3) ∧ Fr S w w' := by
  obtain ⟨b2, c2, rfl, hs2, hg2⟩ := h.r2.addr (by omega)
  obtain ⟨b3, c3, rfl, hs3, hg3⟩ := h.r3.addr (by omega)
  have H := Lib.hid h
  have ep := h.blk.cell 2 (u := .pointer (some ⟨gs, 0, none⟩)) rfl
  go_enter Tryz.func81, Tryz.ntmps81
  go_wp2_with fail
  refine (iLast_any w S g gs s L C _ _ _ _ _ h hp hl).mono ?_
  rintro e w1 ⟨rfl, bl⟩
  obtain ⟨t, ht⟩ : ∃ t, Hid (t = topT s.stk) := ⟨_, Lib.hid rfl⟩
  rw [← ht.out]
  have h1 := h.below bl
  have F1 := Lib.hid (Fr.of_below (S := S) bl)
  have h2 := h1.alloc (.cells #[.int .i64 t.lev, .int .i64 t.way, .bool t.iso] 104)
  have k0 := Blk.new w1 104 #[.int .i64 t.lev, .int .i64 t.way, .bool t.iso]
  have hb2 := h1.r2.lt b2 rfl
  have hb3 := h1.r3.lt b3 rfl
  have hgl := h1.blk.lt
  have st := h1.r2.1.stored k (.int .i64 t.lev)
  obtain ⟨w2, hw2⟩ : ∃ x, Hid (x = w1.setCell ⟨b2, k, none⟩ (.int .i64 t.lev)) := ⟨_, Lib.hid rfl⟩
  rw [← hw2.out] at st
  have h3 : Hid (TSt (w2.alloc (.cells #[.int .i64 t.lev, .int .i64 t.way, .bool t.iso] 104)).drew S g gs s (L.set k t.lev) C vk vm v1 (.slice (some ⟨b2, 0, none⟩) L.length c2) (.slice (some ⟨b3, 0, none⟩) C.length c3)) :=
    Lib.hid (((h1.putL rfl st.1 st.2).alloc _).below (drew_below _))
  have F3 : Hid (Fr S w (w2.alloc (.cells #[.int .i64 t.lev, .int .i64 t.way, .bool t.iso] 104)).drew) :=
    Lib.hid (((F1.out.trans (Fr.grown st.2 (fun g e => by injection e with e; subst e; exact hs2))).trans (Fr.alloc _ _)).trans (Fr.of_below (drew_below _)))
  have s2 : w2.heap.size = w1.heap.size := by rw [hw2.out]; simp
  have k3 : Hid (Blk (w2.alloc (.cells #[.int .i64 t.lev, .int .i64 t.way, .bool t.iso] 104)).drew w1.heap.size 104 #[.int .i64 t.lev, .int .i64 t.way, .bool t.iso]) :=
    Lib.hid (by have := Blk.new w2 104 #[.int .i64 t.lev, .int .i64 t.way, .bool t.iso]; rw [s2] at this; exact this)
  have e4 := h2.blk.cell 7 rfl
  have e5 := h2.blk.cell 8 rfl
  have q0 := k0.cell 0 rfl
  have q1 := k0.cell 1 rfl
  have q2 := k0.cell 2 rfl
  have m0 := own_cell h2.r2.1 k hkL
  have m1 := h2.r2.1.frozenAt k
  have S2 := Lib.hid s2
  clear h h1 h2 k0 st bl F1 s2 ep
  go_wp2
  go_region
  clear e4 e5 q0 q1 q2 m0 m1
  rw [← hw2.out]
  obtain ⟨w3, hw3⟩ : ∃ x, x = (w2.alloc (.cells #[.int .i64 t.lev, .int .i64 t.way, .bool t.iso] 104)).drew := ⟨_, rfl⟩
  rw [← hw3] at h3 F3 k3 ⊢
  have sz : w1.heap.size < w3.heap.size := k3.out.lt
  clear hw3 hw2 S2
  have q1 := k3.out.cell 1 rfl
  by_cases hw : t.way = -1
  · have nw : (t.way != -1) = false := by simp [hw]
    have E := Lib.hid (show turnC C k t = C by unfold turnC; rw [if_pos hw])
    clear hw
    go_wp2
    go_end0
    rw [← ht.out, E.out]
    exact ⟨⟨rfl, h3.out⟩, F3.out⟩
  · have nw : (t.way != -1) = true := by simpa using hw
    have E := Lib.hid (show turnC C k t = C.set k t.way by unfold turnC; rw [if_neg hw])
    have e5 := h3.out.blk.cell 8 rfl
    have m0 := own_cell h3.out.r3.1 k hkC
    have m1 := h3.out.r3.1.frozenAt k
    have st := h3.out.r3.1.stored k (.int .i64 t.way)
    have h4 := Lib.hid ((h3.out.putC rfl st.1 st.2).below (drew_below _))
    have F4 := Lib.hid ((F3.out.trans (Fr.grown st.2 (fun g e => by injection e with e; subst e; exact hs3))).trans (Fr.of_below (drew_below _)))
    clear hw st
    go_wp2
    go_region
    go_wp2
    go_end0
    rw [← ht.out, E.out]
    exact ⟨⟨rfl, h4.out⟩, F4.out⟩
set_option maxRecDepth 100000 in
set_option maxHeartbeats 1000000 in
theorem iNext_any (hp : 0 < s.stk.length) (hl : s.stk.length ≤ 700) (h0 : 0 ≤ (topT s.stk).lev) (h1 : (topT s.stk).lev ≤ 999) (left : Bool) :
    Calls Tryz.prog 94 #[.pointer (some ⟨g, 0, none⟩), .bool left] w fun e w' => e = .returned (.int .i64 (nextL left s.stk)) ∧ Below w.heap.size w w' := by
  have ho := Lib.hid (oddV_in ⟨h0, h1⟩)
  have he := Lib.hid (evenV_in ⟨h0, h1⟩)
  have ep := h.blk.cell 2 (u := .pointer (some ⟨gs, 0, none⟩)) rfl
  cases left with
  | true =>
    have hE := Lib.hid (show nextL true s.stk = lodd (topT s.stk).lev from rfl)
    go_enter Tryz.func94, Tryz.ntmps94
    go_wp2_with fail
    refine (iLast_any w S g gs s L C _ _ _ _ _ h hp hl).mono ?_
    rintro e w1 ⟨rfl, bl⟩
    clear ep h
    go_wp2_with fail
    refine (leastOdd_any _ w1).mono ?_
    rintro e w2 ⟨rfl, b2⟩
    rw [ho.out]
    go_wp2
    go_ret
    exact ⟨rint hE.out.symm, below_on bl b2 (Nat.le_refl _)⟩
  | false =>
    have hE := Lib.hid (show nextL false s.stk = leven (topT s.stk).lev from rfl)
    go_enter Tryz.func94, Tryz.ntmps94
    go_wp2_with fail
    refine (iLast_any w S g gs s L C _ _ _ _ _ h hp hl).mono ?_
    rintro e w1 ⟨rfl, bl⟩
    clear ep h
    go_wp2_with fail
    refine (leastEven_any _ w1).mono ?_
    rintro e w2 ⟨rfl, b2⟩
    rw [he.out]
    go_wp2
    go_ret
    exact ⟨rint hE.out.symm, below_on bl b2 (Nat.le_refl _)⟩
set_option maxRecDepth 100000 in
set_option maxHeartbeats 1000000 in
theorem iRoom_any (_ : s.li ≤ 600) (_ : s.le ≤ 600) (n y : Int) (z : Bool) (h0 : 0 ≤ n) (h1 : n ≤ 2000) :
    Calls Tryz.prog 95 #[.pointer (some ⟨g, 0, none⟩), .agg #[.int .i64 n, .int .i64 y, .bool z]] w fun e w' => e = .returned (.bool (decide (¬ Full n s))) ∧ Below w.heap.size w w' := by
  have b0 := (Below.refl w.heap.size w).alloc (Nat.le_refl _) (.cells #[.int .i64 n, .int .i64 y, .bool z] 104)
  have h2 := h.alloc (.cells #[.int .i64 n, .int .i64 y, .bool z] 104)
  have k0 := Blk.new w 104 #[.int .i64 n, .int .i64 y, .bool z]
  have q0 := k0.cell 0 (u := .int .i64 n) rfl
  have q1 := k0.cell 1 (u := .int .i64 y) rfl
  have q2 := k0.cell 2 (u := .bool z) rfl
  have e3 := h2.blk.cell 3 (u := .int .i64 s.li) rfl
  have e4 := h2.blk.cell 4 (u := .int .i64 s.le) rfl
  have hgl := h.blk.lt
  clear h h2 k0
  obtain ⟨ans, hans⟩ : ∃ x, Hid (x = decide (¬ Full n s)) := ⟨_, Lib.hid rfl⟩
  rw [← hans.out]
  by_cases h5 : n ≤ 125
  · by_cases h6 : s.li = 0
    · by_cases h7 : s.le = 0
      · have E := Lib.hid (show ans = true by rw [hans.out]; unfold Full; simp; omega)
        go_enter Tryz.func95, Tryz.ntmps95
        go_wp2
        go_ret
        exact ⟨rbool E.out.symm, b0⟩
      · have E := Lib.hid (show ans = false by rw [hans.out]; unfold Full; simp; omega)
        have n7 : ((s.le : Int) == 0) = false := by simp; omega
        go_enter Tryz.func95, Tryz.ntmps95
        go_wp2
        go_ret
        exact ⟨rbool E.out.symm, b0⟩
    · have E := Lib.hid (show ans = false by rw [hans.out]; unfold Full; simp; omega)
      have n6 : ((s.li : Int) == 0) = false := by simp; omega
      go_enter Tryz.func95, Tryz.ntmps95
      go_wp2
      go_ret
      exact ⟨rbool E.out.symm, b0⟩
  · have E := Lib.hid (show ans = false by rw [hans.out]; unfold Full; simp; omega)
    have n5 : decide (n ≤ 125) = false := decide_eq_false h5
    go_enter Tryz.func95, Tryz.ntmps95
    go_wp2
    go_ret
    exact ⟨rbool E.out.symm, b0⟩
end
end Go.Proofs.YtcfnhjpmihngdaaGreat

namespace Go.Proofs.YtcfnhjpmihngdaaGreat
open Go.RowKit Go.Maps
attribute [local go_sem] sEntry_lev sEntry_iso

set_option maxRecDepth 100000 in
set_option maxHeartbeats 1000000 in
theorem sIsolate_any (w : World) (S : Nat → Prop) (g : Nat) (s : Tell) (L C : List Int) (v1 v2 v3 : Value) (h : MSt w S g s L C v1 v2 v3) (hO : Open S w) (i : Nat) (hW : WfT s i) (hi : i ≤ 600) (k : Int) :
    Calls Tryz.prog 26 #[.pointer (some ⟨g, 0, none⟩), .int .i64 k] w fun e w' => (e = .returned (.tuple #[]) ∧ ∃ u, MSt w' S g (isoS (leftQ k) s) L C u v2 v3) ∧ Fr S w w' := by
  obtain ⟨i0, hif, hz0, hz1, hz2⟩ := info_parts info_sEntry
  have hp := hW.pos
  have hl : s.stk.length ≤ 700 := by have := hW.len; omega
  have tp := hW.top
  have nl := nextN_low (leftQ k) (topT s.stk).lev tp.1
  have hEN : nextL (leftQ k) s.stk = nextN (leftQ k) (topT s.stk).lev := nextL_eq _ _
  have hli : s.li ≤ 600 := by have := hW.li; omega
  have hle : s.le ≤ 600 := by have := hW.le; omega
  have his : s.is ≤ 600 := by have := hW.is; omega
  obtain ⟨n, hn⟩ : ∃ n, Hid (n = nextN (leftQ k) (topT s.stk).lev) := ⟨_, Lib.hid rfl⟩
  rw [← hn.out] at hEN nl
  have n0 : 0 ≤ n := by omega
  have n1 : n ≤ 127 := by omega
  have tl := tp.1
  have th := tp.2.1
  clear nl tp
  have HEN := Lib.hid hEN
  clear hEN
  go_enter Tryz.func26, Tryz.ntmps26
  go_wp2_with fail
  refine (sLast_any w S g s L C _ _ _ h hp hl).mono ?_
  rintro e w1 ⟨rfl, bl⟩
  have h1 := h.below bl
  have O1 := Lib.hid (hO.on bl.size)
  have F1 := Lib.hid (Fr.of_below (S := S) bl)
  clear bl h hO
  go_wp2_with fail
  refine (sNext_any k _ w1 tl (by omega)).mono ?_
  rintro e w' ⟨rfl, rfl⟩
  rw [← hn.out]
  have H1 := Lib.hid h1
  have e1 := h1.blk.cell 1 (u := .int .i64 s.li) rfl
  have e2 := h1.blk.cell 2 (u := .int .i64 s.le) rfl
  have e3 := h1.blk.cell 3 (u := .int .i64 s.is) rfl
  have f1 := h1.blk.frozen 1
  have f3 := h1.blk.frozen 3
  have hgl := h1.blk.lt
  clear h1 hW
  by_cases hF : Full n s
  · have E := Lib.hid (isoS_full HEN.out hF)
    have h2 := Lib.hid (H1.out.num 1 (s.li + 1) ⟨s.stk, s.li + 1, s.le, s.is⟩ rfl rfl)
    have F2 := Lib.hid (F1.out.trans (Fr.set w1 ⟨g, 1, none⟩ (.int .i64 ((s.li + 1 : Nat) : Int)) H1.out.ing))
    by_cases h5 : 125 < n
    · clear hF
      go_wp2
      refine bodyPost_ret (results_none rfl _ _ _) rfl ?_
      rw [E.out]
      exact ⟨⟨rfl, _, h2.out⟩, F2.out⟩
    · by_cases h0 : 0 < s.li
      · clear hF
        go_wp2
        refine bodyPost_ret (results_none rfl _ _ _) rfl ?_
        rw [E.out]
        exact ⟨⟨rfl, _, h2.out⟩, F2.out⟩
      · have h00 : s.li = 0 := by omega
        have hl0 : 0 < s.le := by unfold Full at hF; omega
        have e10 : ((s.li + 1 : Nat) : Int) = 1 := by omega
        rw [e10] at h2 F2
        clear hF
        go_wp2
        refine bodyPost_ret (results_none rfl _ _ _) rfl ?_
        rw [E.out]
        exact ⟨⟨rfl, _, h2.out⟩, F2.out⟩
  · have E := Lib.hid (isoS_room HEN.out hF)
    have h5 : ¬ 125 < n := by unfold Full at hF; omega
    have h6 : s.li = 0 := by unfold Full at hF; omega
    have h7 : s.le = 0 := by unfold Full at hF; omega
    have hln : s.stk.length + 1 ≤ 701 := by omega
    obtain ⟨A1, c1, rfl⟩ := H1.out.r1.form
    have H2 := Lib.hid (H1.out.num 3 (s.is + 1) ⟨s.stk, s.li, s.le, s.is + 1⟩ rfl rfl)
    have F2 := Lib.hid (F1.out.trans (Fr.set w1 ⟨g, 3, none⟩ (.int .i64 ((s.is + 1 : Nat) : Int)) H1.out.ing))
    have O2 : Hid (Open S (w1.setCell ⟨g, 3, none⟩ (.int .i64 ((s.is + 1 : Nat) : Int)))) := Lib.hid (O1.out.on (by simp))
    obtain ⟨w2, hw2⟩ : ∃ x, Hid (x = w1.setCell ⟨g, 3, none⟩ (.int .i64 ((s.is + 1 : Nat) : Int))) := ⟨_, Lib.hid rfl⟩
    rw [← hw2.out] at H2 F2 O2
    have s2 : w2.heap.size = w1.heap.size := by rw [hw2.out]; simp
    have hgl2 : g < w2.heap.size := by omega
    have HB := Lib.hid (H2.out.alloc (.cells #[.int .i64 n, .int .i64 (-1), .bool true] 56))
    have OB : Hid (Open S (w2.alloc (.cells #[.int .i64 n, .int .i64 (-1), .bool true] 56))) := Lib.hid (O2.out.on (by simp))
    have FB := Lib.hid (F2.out.trans (Fr.alloc _ (.cells #[.int .i64 n, .int .i64 (-1), .bool true] 56)))
    have RB := Lib.hid (Rd.lit w2 #[.int .i64 n, .int .i64 (-1), .bool true] 56)
    rw [hw2.out] at HB OB FB RB
    rw [World.size_setCell] at RB
    have e0 := H2.out.blk.cell 0 (u := .slice A1 s.stk.length c1) rfl
    rw [hw2.out] at e0
    have ec : ((s.is + 1 : Nat) : Int) = (s.is : Int) + 1 := by omega
    rw [ec] at e0 HB OB FB RB
    have RR : Hid (World.ownsRow _ 0 _ 3 (.slice A1 s.stk.length c1) s.stk.length (tcells s.stk)) := Lib.hid HB.out.r1.1
    have RI : Hid (∀ b, (Value.slice A1 s.stk.length c1).ownBlock = some b → S b ∧ b ≠ g) := Lib.hid HB.out.r1.2
    clear ec
    have S2 := Lib.hid s2
    clear hF s2 hgl2
    go_wp2_with (at_builtin; go_loud (refine wpList_app rfl _ _ _ rfl 0 Tryz.underlying57 hif hz0 hz1 hz2 rfl (by omega) rfl RR.out rfl (B := w1.heap.size + 1) (A := some ⟨w1.heap.size, 0, none⟩) (m := 1) (news := [.int .i64 n, .int .i64 (-1), .bool true]) RB.out rfl (by simp [Value.oneCell']) (by omega) (by omega) (by omega) ?_); intro v' w5 o5 g5 a5; obtain ⟨A5, c5, rfl⟩ := own_form o5; have HP := Lib.hid (HB.out.push OB.out ⟨n, -1, true⟩ o5 g5 a5); have FP := Lib.hid ((FB.out.trans (Fr.grown g5 (fun b hb => (RI.out b hb).1))).trans (Fr.set w5 ⟨g, 0, none⟩ (.slice A5 (s.stk.length + 1) c5) HB.out.ing)); have KP : Blk w5 g _ _ := (g5.block g HB.out.blk.lt (fun e => (RI.out g e.symm).2 rfl)).trans HB.out.blk; have x0 := KP.cell 0 (u := .slice A1 s.stk.length c1) rfl; have x1 := KP.frozen 0; clear KP o5 g5 a5)
    all_goals
      go_wp2
      go_end0
      rw [E.out]
      exact ⟨⟨rfl, _, HP.out⟩, FP.out⟩
end Go.Proofs.YtcfnhjpmihngdaaGreat
