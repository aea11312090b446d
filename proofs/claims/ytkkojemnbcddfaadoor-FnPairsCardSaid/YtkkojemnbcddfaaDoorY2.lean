/- The laws' copies of parts, and their other helpers at parts. -/
import Derived.Test.YtkkojemnbcddfaaDoorH1
import Derived.Test.YtkkojemnbcddfaaDoorX1
namespace Go.Proofs.YtkkojemnbcddfaaDoor
open Go.RowKit

set_option maxRecDepth 100000 in
set_option maxHeartbeats 400000 in
theorem eqPart_same (x3 : Int) (x4 : Int) (x5 : Int) (v0 u0 : Value) (zs0 : List Int) (v1 u1 : Value) (zs1 : List Int) (v2 u2 : Value) (zs2 : List Int) (w : World) (B B' : Nat) (h0 : Sees w B .i64 v0 zs0) (g0 : Sees w B' .i64 u0 zs0) (l0 : zs0.length < 1000000000) (h1 : Sees w B .i64 v1 zs1) (g1 : Sees w B' .i64 u1 zs1) (l1 : zs1.length < 1000000000) (h2 : Sees w B .i64 v2 zs2) (g2 : Sees w B' .i64 u2 zs2) (l2 : zs2.length < 1000000000) (hB : B ≤ w.heap.size) (hB' : B' ≤ w.heap.size) :
    Calls Tryd.prog 26 #[.agg #[v0, v1, v2, .int .i64 x3, .int .i64 x4, .int .i64 x5], .agg #[u0, u1, u2, .int .i64 x3, .int .i64 x4, .int .i64 x5]] w fun e w' => e = .returned (.bool true) ∧ Below w.heap.size w w' := by
  have k3 : (x3 != x3) = false := by simp
  have k4 : (x4 != x4) = false := by simp
  have k5 : (x5 != x5) = false := by simp
  have b0 := ((Below.refl w.heap.size w).alloc (Nat.le_refl _) (.cells #[v0, v1, v2, .int .i64 x3, .int .i64 x4, .int .i64 x5] 26)).alloc (by simp) (.cells #[u0, u1, u2, .int .i64 x3, .int .i64 x4, .int .i64 x5] 26)
  go_enter Tryd.func26, Tryd.ntmps26
  go_wp2_with fail
  refine (eqInt64S_same _ _ zs0 _ B B' (h0.below b0 hB) (g0.below b0 hB') l0).mono ?_
  rintro e w0 ⟨rfl, n0, rfl⟩
  have b1 := below_drewN b0 n0
  go_wp2_with fail
  refine (eqInt64S_same _ _ zs1 _ B B' (h1.below b1 hB) (g1.below b1 hB') l1).mono ?_
  rintro e w1 ⟨rfl, n1, rfl⟩
  have b2 := below_drewN b1 n1
  go_wp2_with fail
  refine (eqInt64S_same _ _ zs2 _ B B' (by simpa only [World.drewN_drewN] using h2.below b2 hB) (by simpa only [World.drewN_drewN] using g2.below b2 hB') l2).mono ?_
  rintro e w2 ⟨rfl, n2, rfl⟩
  have b3 := below_drewN b2 n2
  go_wp2
  go_ret
  exact ⟨rfl, by simpa only [World.drewN_drewN] using b3⟩
set_option maxRecDepth 100000 in
set_option maxHeartbeats 400000 in
theorem markPart_own (x3 : Int) (x4 : Int) (x5 : Int) (v0 : Value) (zs0 : List Int) (v1 : Value) (zs1 : List Int) (v2 : Value) (zs2 : List Int) (k : Int) (w : World) (lo hi : Nat) (h0 : Own w lo hi 2 .i64 v0 zs0) (l0 : zs0.length < 1000000000) (h1 : Own w lo hi 2 .i64 v1 zs1) (l1 : zs1.length < 1000000000) (h2 : Own w lo hi 2 .i64 v2 zs2) (l2 : zs2.length < 1000000000) (d01 : v0.ownBlock = none ∨ v0.ownBlock ≠ v1.ownBlock) (d02 : v0.ownBlock = none ∨ v0.ownBlock ≠ v2.ownBlock) (d10 : v1.ownBlock = none ∨ v1.ownBlock ≠ v0.ownBlock) (d12 : v1.ownBlock = none ∨ v1.ownBlock ≠ v2.ownBlock) (d20 : v2.ownBlock = none ∨ v2.ownBlock ≠ v0.ownBlock) (d21 : v2.ownBlock = none ∨ v2.ownBlock ≠ v1.ownBlock) (hk0 : 0 ≤ k) (hk1 : k < 1000000000) (hw : hi ≤ w.heap.size) :
    Calls Tryd.prog 27 #[.agg #[v0, v1, v2, .int .i64 x3, .int .i64 x4, .int .i64 x5], .int .i64 k] w fun e w' => (e = .returned (.int .i64 (k + (zs0.length : Int) + (zs1.length : Int) + (zs2.length : Int))) ∧ Own w' lo hi 2 .i64 v0 (marks (k) zs0.length) ∧ Own w' lo hi 2 .i64 v1 (marks (k + (zs0.length : Int)) zs1.length) ∧ Own w' lo hi 2 .i64 v2 (marks (k + (zs0.length : Int) + (zs1.length : Int)) zs2.length)) ∧ Out lo hi w w' := by
  have b0 := (Below.refl w.heap.size w).alloc (Nat.le_refl _) (.cells #[v0, v1, v2, .int .i64 x3, .int .i64 x4, .int .i64 x5] 26)
  have o0 := h0.below b0 hw
  have o1 := h1.below b0 hw
  have o2 := h2.below b0 hw
  have q0 : Out lo hi w _ := Out.of_below b0
  have c0 := Blk.new w 26 #[v0, v1, v2, .int .i64 x3, .int .i64 x4, .int .i64 x5]
  go_enter Tryd.func27, Tryd.ntmps27
  go_wp2_with fail
  refine (markInt64S_own v0 zs0 _ _ lo hi o0 l0 (by omega) (by omega)).mono ?_
  rintro e w1 ⟨⟨rfl, p0⟩, g1⟩
  replace o1 := o1.grown g1 d10
  replace o2 := o2.grown g1 d20
  have q1 := q0.trans (Out.of_grown g1 o0.lt)
  have c1 := c0.out (Out.of_grown (lo := lo) (hi := hi) g1 o0.lt) (.inr hw)
  have e1 := c1.cell 1 (u := v1) rfl
  go_wp2_with fail
  refine (markInt64S_own v1 zs1 _ _ lo hi o1 l1 (by omega) (by omega)).mono ?_
  rintro e w2 ⟨⟨rfl, p1⟩, g2⟩
  replace o2 := o2.grown g2 d21
  replace p0 := p0.grown g2 d01
  have q2 := q1.trans (Out.of_grown g2 o1.lt)
  have c2 := c1.out (Out.of_grown (lo := lo) (hi := hi) g2 o1.lt) (.inr hw)
  have e2 := c2.cell 2 (u := v2) rfl
  go_wp2_with fail
  refine (markInt64S_own v2 zs2 _ _ lo hi o2 l2 (by omega) (by omega)).mono ?_
  rintro e w3 ⟨⟨rfl, p2⟩, g3⟩
  replace p0 := p0.grown g3 d02
  replace p1 := p1.grown g3 d12
  have q3 := q2.trans (Out.of_grown g3 o2.lt)
  go_wp2
  go_ret
  exact ⟨⟨rfl, p0, p1, p2⟩, q3⟩
set_option maxRecDepth 100000 in
set_option maxHeartbeats 400000 in
theorem szInt7_any (A : Option Addr) (n c : Nat) (k : Int) (w : World) (hk : 0 ≤ k ∧ k ≤ 1048576) (hn : n ≤ 9223372036854775807) :
    Calls Tryd.prog 51 #[.slice A n c, .int .i64 k] w fun e w' => e = .returned (.int .i64 (if (n : Int) ≤ k then k - n else -1)) ∧ w = w' := by
  by_cases h : (n : Int) ≤ k
  · rw [if_pos h]
    go_enter Tryd.func51, Tryd.ntmps51
    go_wp2
    go_ret
    exact ⟨rfl, rfl⟩
  · rw [if_neg h]
    go_enter Tryd.func51, Tryd.ntmps51
    go_wp2
    go_ret
    exact ⟨rfl, rfl⟩
set_option maxRecDepth 100000 in
set_option maxHeartbeats 1000000 in
theorem szPart_any (A0 A1 A2 : Option Addr) (n0 n1 n2 c0 c1 c2 : Nat) (l s e : Int) (w : World) (h0 : n0 ≤ 9223372036854775807) (h1 : n1 ≤ 9223372036854775807) (h2 : n2 ≤ 9223372036854775807) :
    Calls Tryd.prog 23 #[.agg #[.slice A0 n0 c0, .slice A1 n1 c1, .slice A2 n2 c2, .int .i64 l, .int .i64 s, .int .i64 e], .int .i64 1048576] w fun x w' => x = .returned (.int .i64 (if ((n0 + n1 + n2 : Nat) : Int) ≤ 1048576 then 1048576 - ((n0 + n1 + n2 : Nat) : Int) else -1)) ∧ Below w.heap.size w w' := by
  have b0 := Lib.hid ((Below.refl w.heap.size w).alloc (Nat.le_refl _) (.cells #[.slice A0 n0 c0, .slice A1 n1 c1, .slice A2 n2 c2, .int .i64 l, .int .i64 s, .int .i64 e] 42))
  have k1 := Blk.new w 42 #[.slice A0 n0 c0, .slice A1 n1 c1, .slice A2 n2 c2, .int .i64 l, .int .i64 s, .int .i64 e]
  have f0 := k1.cell 0 (u := .slice A0 n0 c0) rfl
  have f1 := k1.cell 1 (u := .slice A1 n1 c1) rfl
  have f2 := k1.cell 2 (u := .slice A2 n2 c2) rfl
  obtain ⟨ans, hans⟩ : ∃ ans, Hid (ans = if ((n0 + n1 + n2 : Nat) : Int) ≤ 1048576 then 1048576 - ((n0 + n1 + n2 : Nat) : Int) else -1) := ⟨_, Lib.hid rfl⟩
  rw [← hans.out]
  clear k1
  have C0 := Lib.hid (fun w => szInt7_any A0 n0 c0 1048576 w ⟨by omega, by omega⟩ h0)
  go_enter Tryd.func23, Tryd.ntmps23
  go_wp2_with fail
  refine (C0.out _).mono ?_
  rintro e w' ⟨rfl, rfl⟩
  by_cases g0 : (n0 : Int) ≤ 1048576
  · rw [if_pos g0]
    have m0 : ¬ ((1048576 : Int) - (n0 : Int) < 0) := by omega
    obtain ⟨k, hk⟩ : ∃ k, Hid (k = (1048576 : Int) - (n0 : Int)) := ⟨_, Lib.hid rfl⟩
    have kb : 0 ≤ k ∧ k ≤ 1048576 := by have := hk.out; omega
    rw [← hk.out] at m0 ⊢
    have C1 := Lib.hid (fun w => szInt7_any A1 n1 c1 k w kb h1)
    go_wp2_with fail
    refine (C1.out _).mono ?_
    rintro e w' ⟨rfl, rfl⟩
    by_cases g1 : (n1 : Int) ≤ k
    · rw [if_pos g1]
      have m1 : ¬ (k - (n1 : Int) < 0) := by omega
      obtain ⟨q, hq⟩ : ∃ q, Hid (q = k - (n1 : Int)) := ⟨_, Lib.hid rfl⟩
      have qb : 0 ≤ q ∧ q ≤ 1048576 := by have := hq.out; omega
      rw [← hq.out] at m1 ⊢
      have C2 := Lib.hid (fun w => szInt7_any A2 n2 c2 q w qb h2)
      go_wp2_with fail
      refine (C2.out _).mono ?_
      rintro e w' ⟨rfl, rfl⟩
      by_cases g2 : (n2 : Int) ≤ q
      · rw [if_pos g2]
        have m2 : ¬ (q - (n2 : Int) < 0) := by omega
        have E := Lib.hid (show q - (n2 : Int) = ans by rw [hans.out]; have := hk.out; have := hq.out; rw [if_pos (by omega)]; omega)
        obtain ⟨z, hz⟩ : ∃ z, Hid (z = q - (n2 : Int)) := ⟨_, Lib.hid rfl⟩
        rw [← hz.out] at m2 E ⊢
        clear g0 g1 g2
        go_wp2
        go_ret
        exact ⟨rint E.out, b0.out⟩
      · rw [if_neg g2]
        have E := Lib.hid (show (-1 : Int) = ans by rw [hans.out]; have := hk.out; have := hq.out; rw [if_neg (by omega)])
        clear g0 g1 g2
        go_wp2
        go_ret
        exact ⟨rint E.out, b0.out⟩
    · rw [if_neg g1]
      have E := Lib.hid (show (-1 : Int) = ans by rw [hans.out]; have := hk.out; rw [if_neg (by omega)])
      clear g0 g1
      go_wp2
      go_ret
      exact ⟨rint E.out, b0.out⟩
  · rw [if_neg g0]
    have E := Lib.hid (show (-1 : Int) = ans by rw [hans.out]; rw [if_neg (by omega)])
    clear g0
    go_wp2
    go_ret
    exact ⟨rint E.out, b0.out⟩
/-- a part of the call's own: three slices in blocks of their own -/
structure OwnPart (w : World) (lo hi : Nat) (t : TypeId) (v0 v1 v2 : Value) (p : Prt) : Prop where
  o0 : Own w lo hi t .i64 v0 p.T
  o1 : Own w lo hi t .i64 v1 p.F
  o2 : Own w lo hi t .i64 v2 p.N
  d01 : v0.ownBlock = none ∨ v0.ownBlock ≠ v1.ownBlock
  d02 : v0.ownBlock = none ∨ v0.ownBlock ≠ v2.ownBlock
  d10 : v1.ownBlock = none ∨ v1.ownBlock ≠ v0.ownBlock
  d12 : v1.ownBlock = none ∨ v1.ownBlock ≠ v2.ownBlock
  d20 : v2.ownBlock = none ∨ v2.ownBlock ≠ v0.ownBlock
  d21 : v2.ownBlock = none ∨ v2.ownBlock ≠ v1.ownBlock
theorem own_far {w w' : World} {lo mid lo' hi : Nat} {t t' : TypeId} {kd kd' : IntKind} {v u : Value} {zs ys : List Int} (h : Own w lo mid t kd v zs) (k : Own w' lo' hi t' kd' u ys) (hm : mid ≤ lo') : v.ownBlock = none ∨ v.ownBlock ≠ u.ownBlock := by
  cases e : v.ownBlock with
  | none => exact .inl rfl
  | some g =>
    right
    intro e2
    have h1 := h.lt g e
    have h2 := k.lt g (by rw [← e2])
    omega
theorem own_far' {w w' : World} {lo mid lo' hi : Nat} {t t' : TypeId} {kd kd' : IntKind} {v u : Value} {zs ys : List Int} (h : Own w lo mid t kd v zs) (k : Own w' lo' hi t' kd' u ys) (hm : mid ≤ lo') : u.ownBlock = none ∨ u.ownBlock ≠ v.ownBlock := by
  cases e : u.ownBlock with
  | none => exact .inl rfl
  | some g =>
    right
    intro e2
    have h1 := k.lt g e
    have h2 := h.lt g (by rw [← e2])
    omega
theorem blk_away {w : World} {g : Nat} {t : TypeId} {cs : Array Value} (h : Blk w g t cs) (p : Addr) (u : Value) (hp : g ≠ p.block) : Blk (w.setCell p u) g t cs := (heap_setCell_other w p g u hp).trans h
set_option maxRecDepth 100000 in
set_option maxHeartbeats 4000000 in
theorem toPart_own (v0 v1 v2 : Value) (p : Prt) (w : World) (B : Nat) (h0 : Sees w B .i64 v0 p.T) (h1 : Sees w B .i64 v1 p.F) (h2 : Sees w B .i64 v2 p.N) (hB : B ≤ w.heap.size) (l0 : p.T.length < 1000000000) (l1 : p.F.length < 1000000000) (l2 : p.N.length < 1000000000) :
    Calls Tryd.prog 24 #[.agg #[v0, v1, v2, .int .i64 p.L, .int .i64 p.S, .int .i64 p.E]] w fun e w' => (∃ u0 u1 u2, e = .returned (.agg #[u0, u1, u2, .int .i64 p.L, .int .i64 p.S, .int .i64 p.E]) ∧ OwnPart w' w.heap.size w'.heap.size 2 u0 u1 u2 p) ∧ Below w.heap.size w w' := by
  have b0 := (((Below.refl w.heap.size w).alloc (Nat.le_refl _) (.cells #[v0, v1, v2, .int .i64 p.L, .int .i64 p.S, .int .i64 p.E] 42)).alloc (by simp) (.cells #[.slice none 0 0, .slice none 0 0, .slice none 0 0, .int .i64 0, .int .i64 0, .int .i64 0] 26)).alloc (by simp; omega) (.cells #[.slice none 0 0, .slice none 0 0, .slice none 0 0, .int .i64 0, .int .i64 0, .int .i64 0] 26)
  have k1 := ((Blk.new w 42 #[v0, v1, v2, .int .i64 p.L, .int .i64 p.S, .int .i64 p.E]).alloc (.cells #[.slice none 0 0, .slice none 0 0, .slice none 0 0, .int .i64 0, .int .i64 0, .int .i64 0] 26)).alloc (.cells #[.slice none 0 0, .slice none 0 0, .slice none 0 0, .int .i64 0, .int .i64 0, .int .i64 0] 26)
  have k2 := (Blk.new (w.alloc (.cells #[v0, v1, v2, .int .i64 p.L, .int .i64 p.S, .int .i64 p.E] 42)) 26 #[.slice none 0 0, .slice none 0 0, .slice none 0 0, .int .i64 0, .int .i64 0, .int .i64 0]).alloc (.cells #[.slice none 0 0, .slice none 0 0, .slice none 0 0, .int .i64 0, .int .i64 0, .int .i64 0] 26)
  have k3 := Blk.new ((w.alloc (.cells #[v0, v1, v2, .int .i64 p.L, .int .i64 p.S, .int .i64 p.E] 42)).alloc (.cells #[.slice none 0 0, .slice none 0 0, .slice none 0 0, .int .i64 0, .int .i64 0, .int .i64 0] 26)) 26 #[.slice none 0 0, .slice none 0 0, .slice none 0 0, .int .i64 0, .int .i64 0, .int .i64 0]
  simp only [World.size_alloc] at k2 k3
  have sz0 : (((w.alloc (.cells #[v0, v1, v2, .int .i64 p.L, .int .i64 p.S, .int .i64 p.E] 42)).alloc (.cells #[.slice none 0 0, .slice none 0 0, .slice none 0 0, .int .i64 0, .int .i64 0, .int .i64 0] 26)).alloc (.cells #[.slice none 0 0, .slice none 0 0, .slice none 0 0, .int .i64 0, .int .i64 0, .int .i64 0] 26)).heap.size = w.heap.size + 1 + 1 + 1 := by simp
  have S0 := Lib.hid (h0.below b0 hB)
  have S1 := Lib.hid h1
  have S2 := Lib.hid h2
  have HB0 := Lib.hid b0
  have f0 := k1.cell 0 (u := v0) rfl
  have f1 := k1.cell 1 (u := v1) rfl
  have f2 := k1.cell 2 (u := v2) rfl
  clear h0 h1 h2 b0
  go_enter Tryd.func24, Tryd.ntmps24
  go_wp2_with fail
  generalize ((w.alloc (.cells #[v0, v1, v2, .int .i64 p.L, .int .i64 p.S, .int .i64 p.E] 42)).alloc (.cells #[.slice none 0 0, .slice none 0 0, .slice none 0 0, .int .i64 0, .int .i64 0, .int .i64 0] 26)).alloc (.cells #[.slice none 0 0, .slice none 0 0, .slice none 0 0, .int .i64 0, .int .i64 0, .int .i64 0] 26) = x0 at *
  refine (toInt64S_own v0 p.T _ _ S0.out (by omega) l0).mono ?_
  rintro e w1 ⟨⟨u0, rfl, o1⟩, b1⟩
  obtain ⟨U0, d0, rfl⟩ := o1.form
  replace k1 := k1.below b1 k1.lt
  replace k2 := k2.below b1 k2.lt
  replace k3 := k3.below b1 k3.lt
  have sz1 := b1.size
  have c0 := k3.cell 0 (u := .slice none 0 0) rfl
  have r0 := k3.frozen 0
  have y1 : Own (w1.setCell ⟨w.heap.size + 1 + 1, 0, none⟩ (.slice U0 p.T.length d0)) (w.heap.size + 1 + 1 + 1) w1.heap.size 2 .i64 (.slice U0 p.T.length d0) p.T := (o1.more (by omega) (Nat.le_refl _)).set _ _ (.inl (by simp <;> omega))
  have B1 : Below w.heap.size w (w1.setCell ⟨w.heap.size + 1 + 1, 0, none⟩ (.slice U0 p.T.length d0)) := (below_on HB0.out b1 (by omega)).setCell (by simp; omega) _
  have z1 : (w1.setCell ⟨w.heap.size + 1 + 1, 0, none⟩ (.slice U0 p.T.length d0)).heap.size = w1.heap.size := by simp
  replace k1 := blk_away k1 ⟨w.heap.size + 1 + 1, 0, none⟩ (.slice U0 p.T.length d0) (by show w.heap.size ≠ w.heap.size + 1 + 1; omega)
  replace k2 := blk_away k2 ⟨w.heap.size + 1 + 1, 0, none⟩ (.slice U0 p.T.length d0) (by show w.heap.size + 1 ≠ w.heap.size + 1 + 1; omega)
  replace k3 : Blk (w1.setCell ⟨w.heap.size + 1 + 1, 0, none⟩ (.slice U0 p.T.length d0)) (w.heap.size + 1 + 1) 26 #[.slice U0 p.T.length d0, .slice none 0 0, .slice none 0 0, .int .i64 0, .int .i64 0, .int .i64 0] := k3.set 0 (.slice U0 p.T.length d0)
  have f1 := k1.cell 1 (u := v1) rfl
  clear o1 b1
  go_wp2_with fail
  generalize w1.setCell ⟨w.heap.size + 1 + 1, 0, none⟩ (.slice U0 p.T.length d0) = x1 at *
  clear c0 r0 f1
  refine (toInt64S_own v1 p.F _ _ (S1.out.below B1 hB) (by omega) l1).mono ?_
  rintro e w2 ⟨⟨u1, rfl, o2⟩, b2⟩
  obtain ⟨U1, d1, rfl⟩ := o2.form
  replace k1 := k1.below b2 k1.lt
  replace k2 := k2.below b2 k2.lt
  replace k3 := k3.below b2 k3.lt
  have sz2 := b2.size
  have c1 := k3.cell 1 (u := .slice none 0 0) rfl
  have r1 := k3.frozen 1
  have y2 : Own (w2.setCell ⟨w.heap.size + 1 + 1, 1, none⟩ (.slice U1 p.F.length d1)) (x1.heap.size) w2.heap.size 2 .i64 (.slice U1 p.F.length d1) p.F := (o2.more (by omega) (Nat.le_refl _)).set _ _ (.inl (by simp <;> omega))
  replace y1 := (y1.below b2 (by omega)).set ⟨w.heap.size + 1 + 1, 1, none⟩ (.slice U1 p.F.length d1) (.inl (by simp <;> omega))
  have B2 : Below w.heap.size w (w2.setCell ⟨w.heap.size + 1 + 1, 1, none⟩ (.slice U1 p.F.length d1)) := (below_on B1 b2 (by omega)).setCell (by simp; omega) _
  clear B1
  have z2 : (w2.setCell ⟨w.heap.size + 1 + 1, 1, none⟩ (.slice U1 p.F.length d1)).heap.size = w2.heap.size := by simp
  replace k1 := blk_away k1 ⟨w.heap.size + 1 + 1, 1, none⟩ (.slice U1 p.F.length d1) (by show w.heap.size ≠ w.heap.size + 1 + 1; omega)
  replace k2 := blk_away k2 ⟨w.heap.size + 1 + 1, 1, none⟩ (.slice U1 p.F.length d1) (by show w.heap.size + 1 ≠ w.heap.size + 1 + 1; omega)
  replace k3 : Blk (w2.setCell ⟨w.heap.size + 1 + 1, 1, none⟩ (.slice U1 p.F.length d1)) (w.heap.size + 1 + 1) 26 #[.slice U0 p.T.length d0, .slice U1 p.F.length d1, .slice none 0 0, .int .i64 0, .int .i64 0, .int .i64 0] := k3.set 1 (.slice U1 p.F.length d1)
  have f2 := k1.cell 2 (u := v2) rfl
  clear o2 b2
  go_wp2_with fail
  generalize w2.setCell ⟨w.heap.size + 1 + 1, 1, none⟩ (.slice U1 p.F.length d1) = x2 at *
  clear c1 r1 f2
  refine (toInt64S_own v2 p.N _ _ (S2.out.below B2 hB) (by omega) l2).mono ?_
  rintro e w3 ⟨⟨u2, rfl, o3⟩, b3⟩
  obtain ⟨U2, d2, rfl⟩ := o3.form
  replace k1 := k1.below b3 k1.lt
  replace k2 := k2.below b3 k2.lt
  replace k3 := k3.below b3 k3.lt
  have sz3 := b3.size
  have y3 : Own w3 (x2.heap.size) w3.heap.size 2 .i64 (.slice U2 p.N.length d2) p.N := o3.more (by omega) (Nat.le_refl _)
  replace y1 := y1.below b3 (by omega)
  replace y2 := y2.below b3 (by omega)
  have B3 := Lib.hid (below_on B2 b3 (by omega))
  clear B2 o3 b3
  have a3 := k1.cell 3 (u := .int .i64 p.L) rfl
  have a4 := k1.cell 4 (u := .int .i64 p.S) rfl
  have a5 := k1.cell 5 (u := .int .i64 p.E) rfl
  have n0 := k2.cell 0 (u := .slice none 0 0) rfl
  have m0 := k2.frozen 0
  have c0 := k3.cell 0 (u := .slice U0 p.T.length d0) rfl
  have r0 := k3.frozen 0
  have n1 := k2.cell 1 (u := .slice none 0 0) rfl
  have m1 := k2.frozen 1
  have c1 := k3.cell 1 (u := .slice U1 p.F.length d1) rfl
  have r1 := k3.frozen 1
  have n2 := k2.cell 2 (u := .slice none 0 0) rfl
  have m2 := k2.frozen 2
  have c2 := k3.cell 2 (u := .slice none 0 0) rfl
  have r2 := k3.frozen 2
  have n3 := k2.cell 3 (u := .int .i64 0) rfl
  have m3 := k2.frozen 3
  have c3 := k3.cell 3 (u := .int .i64 0) rfl
  have r3 := k3.frozen 3
  have n4 := k2.cell 4 (u := .int .i64 0) rfl
  have m4 := k2.frozen 4
  have c4 := k3.cell 4 (u := .int .i64 0) rfl
  have r4 := k3.frozen 4
  have n5 := k2.cell 5 (u := .int .i64 0) rfl
  have m5 := k2.frozen 5
  have c5 := k3.cell 5 (u := .int .i64 0) rfl
  have r5 := k3.frozen 5
  have Y1 := Lib.hid y1
  have Y2 := Lib.hid y2
  have Y3 := Lib.hid y3
  have D12 := Lib.hid (own_far y1 y2 (by omega))
  have D21 := Lib.hid (own_far' y1 y2 (by omega))
  have D13 := Lib.hid (own_far y1 y3 (by omega))
  have D31 := Lib.hid (own_far' y1 y3 (by omega))
  have D23 := Lib.hid (own_far y2 y3 (by omega))
  have D32 := Lib.hid (own_far' y2 y3 (by omega))
  clear y1 y2 y3 k1 k2 k3
  go_wp2
  refine bodyPost_ret (v := .agg #[.slice U0 p.T.length d0, .slice U1 p.F.length d1, .slice U2 p.N.length d2, .int .i64 p.L, .int .i64 p.S, .int .i64 p.E]) (by simp [results, Tryd.results24, go_sem, n0, n1, n2, n3, n4, n5]) rfl ?_
  refine ⟨⟨_, _, _, rfl, ⟨?_, ?_, ?_, D12.out, D13.out, D21.out, D23.out, D31.out, D32.out⟩⟩, ?_⟩
  · refine Own.more (lo := w.heap.size + 1 + 1 + 1) (hi := w1.heap.size) ?_ (by omega) (by simp <;> omega)
    iterate 10 refine Own.set ?_ _ _ (.inl (by first | (simp; done) | (simp; omega) | omega))
    exact Y1.out
  · refine Own.more (lo := x1.heap.size) (hi := w2.heap.size) ?_ (by omega) (by simp <;> omega)
    iterate 10 refine Own.set ?_ _ _ (.inl (by first | (simp; done) | (simp; omega) | omega))
    exact Y2.out
  · refine Own.more (lo := x2.heap.size) (hi := w3.heap.size) ?_ (by omega) (by simp <;> omega)
    iterate 10 refine Own.set ?_ _ _ (.inl (by first | (simp; done) | (simp; omega) | omega))
    exact Y3.out
  · iterate 10 refine Below.setCell ?_ (by first | (simp; done) | (simp; omega) | omega) _
    exact B3.out
end Go.Proofs.YtkkojemnbcddfaaDoor
