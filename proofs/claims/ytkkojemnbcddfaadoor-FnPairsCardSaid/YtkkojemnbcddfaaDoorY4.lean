/- Chapter 7: the walks of the exact laws at a part. -/
import Derived.Test.YtkkojemnbcddfaaDoorY1
import Derived.Test.YtkkojemnbcddfaaDoorY2
import Derived.Test.YtkkojemnbcddfaaDoorY3
import Derived.Test.YtkkojemnbcddfaaDoorH8
import Derived.Test.YtkkojemnbcddfaaDoorX9
import Derived.Deep.RegionHeld3
namespace Go.Proofs.YtkkojemnbcddfaaDoor
open Go.RowKit

structure PartWf (p : Prt) : Prop where
  w0 : ∀ z ∈ p.T, (Lit.int .i64 z).wf = true
  w1 : ∀ z ∈ p.F, (Lit.int .i64 z).wf = true
  w2 : ∀ z ∈ p.N, (Lit.int .i64 z).wf = true
  wL : (Lit.int .i64 p.L).wf = true
  wS : (Lit.int .i64 p.S).wf = true
  wE : (Lit.int .i64 p.E).wf = true
theorem drewB (w : World) : Below w.heap.size w w.drew := ⟨rfl, rfl, rfl, Nat.le_refl _, fun _ _ => rfl⟩
theorem OwnPart.below {w w' : World} {lo hi B : Nat} {t : TypeId} {v0 v1 v2 : Value} {p : Prt} (h : OwnPart w lo hi t v0 v1 v2 p) (hb : Below B w w') (hB : hi ≤ B) : OwnPart w' lo hi t v0 v1 v2 p :=
  ⟨h.o0.below hb hB, h.o1.below hb hB, h.o2.below hb hB, h.d01, h.d02, h.d10, h.d12, h.d20, h.d21⟩
theorem OwnPart.out {w w' : World} {lo hi lo' hi' : Nat} {t : TypeId} {v0 v1 v2 : Value} {p : Prt} (h : OwnPart w lo hi t v0 v1 v2 p) (hb : Out lo' hi' w w') (hd : hi ≤ lo' ∨ hi' ≤ lo) : OwnPart w' lo hi t v0 v1 v2 p :=
  ⟨h.o0.out hb hd, h.o1.out hb hd, h.o2.out hb hd, h.d01, h.d02, h.d10, h.d12, h.d20, h.d21⟩

set_option maxRecDepth 100000 in
set_option maxHeartbeats 8000000 in
theorem exactBracketsOf_walk (HS : ∀ (v0 v1 v2 : Value) (p : Prt) (w : World) (B : Nat), Sees w B .i64 v0 p.T → Sees w B .i64 v1 p.F → Sees w B .i64 v2 p.N → B ≤ w.heap.size → p.T.length < 1000000000 → p.F.length < 1000000000 → p.N.length < 1000000000 → PartWf p →
      Calls Tryd.prog 21 #[.agg #[v0, v1, v2, .int .i64 p.L, .int .i64 p.S, .int .i64 p.E]] w fun e w' => (∃ u, e = .returned (.agg #[.int .i64 (partF p), u]) ∧ Own w' w.heap.size w'.heap.size 2 .i64 u (bracketsV p)) ∧ Below w.heap.size w w')
    (HI : ∀ (v0 v1 v2 : Value) (p : Prt) (w : World) (B : Nat), Sees w B .i64 v0 p.T → Sees w B .i64 v1 p.F → Sees w B .i64 v2 p.N → B ≤ w.heap.size → p.T.length < 1000000000 → p.F.length < 1000000000 → p.N.length < 1000000000 → PartWf p → Pairs w →
      Calls Tryd.prog 17 #[.agg #[v0, v1, v2, .int .i64 p.L, .int .i64 p.S, .int .i64 p.E]] w fun e w' => (∃ u, e = .returned (.agg #[.int .i64 (partF p), u]) ∧ Own w' w.heap.size w'.heap.size 2 .i64 u (bracketsV p)) ∧ Below w.heap.size w w')
    {v0 v1 v2 : Value} {p : Prt} {w : World} (h : PartIn w v0 v1 v2 p) (hT : Pairs w) (hv : (bracketsV p).length < 300000001) :
    Calls Tryd.prog 6 #[.agg #[v0, v1, v2, .int .i64 p.L, .int .i64 p.S, .int .i64 p.E]] w fun e w' => e = .returned (.bool true) ∧ Below w.heap.size w w' := by
  have WF : PartWf p := ⟨h.w0, h.w1, h.w2, h.wL, h.wS, h.wE⟩
  have WFh := Lib.hid WF
  have HSh := Lib.hid HS
  have HIh := Lib.hid HI
  have mx : maxLen ≤ 9223372036854775807 := by unfold maxLen; omega
  have sA0 := h.s0
  have sA1 := h.s1
  have sA2 := h.s2
  have m0 := h.l0
  have m1 := h.l1
  have m2 := h.l2
  clear h HS HI WF
  have kA := Blk.new w 42 #[v0, v1, v2, .int .i64 p.L, .int .i64 p.S, .int .i64 p.E]
  have hb := (Below.refl w.heap.size w).alloc (Nat.le_refl _) (.cells #[v0, v1, v2, .int .i64 p.L, .int .i64 p.S, .int .i64 p.E] 42)
  have z0 : (w.alloc (.cells #[v0, v1, v2, .int .i64 p.L, .int .i64 p.S, .int .i64 p.E] 42)).heap.size = w.heap.size + 1 := by simp
  replace sA0 := sA0.below hb (Nat.le_refl _)
  replace sA1 := sA1.below hb (Nat.le_refl _)
  replace sA2 := sA2.below hb (Nat.le_refl _)
  obtain ⟨A0, a0, rfl, _⟩ := id sA0
  obtain ⟨A1, a1, rfl, _⟩ := id sA1
  obtain ⟨A2, a2, rfl, _⟩ := id sA2
  have hT0 := hT.lt
  replace hT := hT.on hb
  have SZ := Lib.hid (fun w => szPart_any A0 A1 A2 p.T.length p.F.length p.N.length a0 a1 a2 p.L p.S p.E w (by omega) (by omega) (by omega))
  go_enter Tryd.func6, Tryd.ntmps6
  have ckA0 := kA.cell 0 (u := .slice A0 p.T.length a0) rfl
  have ckA1 := kA.cell 1 (u := .slice A1 p.F.length a1) rfl
  have ckA2 := kA.cell 2 (u := .slice A2 p.N.length a2) rfl
  have ckA3 := kA.cell 3 (u := .int .i64 p.L) rfl
  have ckA4 := kA.cell 4 (u := .int .i64 p.S) rfl
  have ckA5 := kA.cell 5 (u := .int .i64 p.E) rfl
  go_wp2_with fail
  clear ckA0 ckA1 ckA2 ckA3 ckA4 ckA5
  generalize w.alloc (.cells #[.slice A0 p.T.length a0, .slice A1 p.F.length a1, .slice A2 p.N.length a2, .int .i64 p.L, .int .i64 p.S, .int .i64 p.E] 42) = x0 at *
  refine (SZ.out _).mono ?_
  rintro e w1 ⟨rfl, b1⟩
  have s1 := b1.size
  replace sA0 := sA0.below b1 (by omega)
  replace sA1 := sA1.below b1 (by omega)
  replace sA2 := sA2.below b1 (by omega)
  replace kA := kA.below b1 kA.lt
  replace hT := hT.on b1
  replace hb := below_on hb b1 (Nat.le_refl _)
  clear SZ b1
  by_cases hsz : ((p.T.length + p.F.length + p.N.length : Nat) : Int) ≤ 1048576
  case neg =>
    rw [if_neg hsz]
    clear hsz
    go_wp2
    go_ret
    exact ⟨rfl, hb⟩
  rw [if_pos hsz]
  have l0 : p.T.length < 1000000000 := by omega
  have l1 : p.F.length < 1000000000 := by omega
  have l2 : p.N.length < 1000000000 := by omega
  have hnn : ¬ ((1048576 : Int) - ((p.T.length + p.F.length + p.N.length : Nat) : Int) < 0) := by omega
  obtain ⟨lf, hlf⟩ : ∃ lf, lf = (1048576 : Int) - ((p.T.length + p.F.length + p.N.length : Nat) : Int) := ⟨_, rfl⟩
  rw [← hlf] at hnn ⊢
  clear hlf hsz
  have ckA0 := kA.cell 0 (u := .slice A0 p.T.length a0) rfl
  have ckA1 := kA.cell 1 (u := .slice A1 p.F.length a1) rfl
  have ckA2 := kA.cell 2 (u := .slice A2 p.N.length a2) rfl
  have ckA3 := kA.cell 3 (u := .int .i64 p.L) rfl
  have ckA4 := kA.cell 4 (u := .int .i64 p.S) rfl
  have ckA5 := kA.cell 5 (u := .int .i64 p.E) rfl
  go_wp2_with fail
  clear ckA0 ckA1 ckA2 ckA3 ckA4 ckA5
  refine (toPart_own _ _ _ p _ _ sA0 sA1 sA2 (by omega) l0 l1 l2).mono ?_
  rintro e w2 ⟨⟨p2_0, p2_1, p2_2, rfl, o2⟩, b2⟩
  have s2 := b2.size
  obtain ⟨P2_0, e2_0, rfl⟩ := o2.o0.form
  obtain ⟨P2_1, e2_1, rfl⟩ := o2.o1.form
  obtain ⟨P2_2, e2_2, rfl⟩ := o2.o2.form
  replace sA0 := sA0.below b2 (by omega)
  replace sA1 := sA1.below b2 (by omega)
  replace sA2 := sA2.below b2 (by omega)
  replace kA := kA.below b2 kA.lt
  replace hT := hT.on b2
  replace hb := below_on hb b2 (Nat.le_refl _)
  clear b2
  have ckA0 := kA.cell 0 (u := .slice A0 p.T.length a0) rfl
  have ckA1 := kA.cell 1 (u := .slice A1 p.F.length a1) rfl
  have ckA2 := kA.cell 2 (u := .slice A2 p.N.length a2) rfl
  have ckA3 := kA.cell 3 (u := .int .i64 p.L) rfl
  have ckA4 := kA.cell 4 (u := .int .i64 p.S) rfl
  have ckA5 := kA.cell 5 (u := .int .i64 p.E) rfl
  go_wp2_with fail
  clear ckA0 ckA1 ckA2 ckA3 ckA4 ckA5
  refine (HSh.out _ _ _ p _ _ o2.o0.sees o2.o1.sees o2.o2.sees (by omega) l0 l1 l2 WFh.out).mono ?_
  rintro e w3 ⟨⟨u3, rfl, o3⟩, b3⟩
  have s3 := b3.size
  obtain ⟨U3, f3, rfl⟩ := o3.form
  replace sA0 := sA0.below b3 (by omega)
  replace sA1 := sA1.below b3 (by omega)
  replace sA2 := sA2.below b3 (by omega)
  replace kA := kA.below b3 kA.lt
  replace hT := hT.on b3
  replace o2 := o2.below b3 (by omega)
  replace hb := below_on hb b3 (Nat.le_refl _)
  clear b3
  clear o2
  have ab3 := (Below.refl w3.heap.size w3).alloc (Nat.le_refl _) (.cells #[.int .i64 (partF p), .slice U3 (bracketsV p).length f3] 39)
  have as3 : (w3.alloc (.cells #[.int .i64 (partF p), .slice U3 (bracketsV p).length f3] 39)).heap.size = w3.heap.size + 1 := by simp
  replace sA0 := sA0.below ab3 (by omega)
  replace sA1 := sA1.below ab3 (by omega)
  replace sA2 := sA2.below ab3 (by omega)
  replace kA := kA.below ab3 kA.lt
  replace hT := hT.on ab3
  replace o3 := o3.below ab3 (by omega)
  replace hb := below_on hb ab3 (Nat.le_refl _)
  have kW := Blk.new w3 39 #[.int .i64 (partF p), .slice U3 (bracketsV p).length f3]
  clear ab3
  have ckA0 := kA.cell 0 (u := .slice A0 p.T.length a0) rfl
  have ckA1 := kA.cell 1 (u := .slice A1 p.F.length a1) rfl
  have ckA2 := kA.cell 2 (u := .slice A2 p.N.length a2) rfl
  have ckA3 := kA.cell 3 (u := .int .i64 p.L) rfl
  have ckA4 := kA.cell 4 (u := .int .i64 p.S) rfl
  have ckA5 := kA.cell 5 (u := .int .i64 p.E) rfl
  have ckW0 := kW.cell 0 (u := .int .i64 (partF p)) rfl
  have ckW1 := kW.cell 1 (u := .slice U3 (bracketsV p).length f3) rfl
  go_wp2_with fail
  clear ckA0 ckA1 ckA2 ckA3 ckA4 ckA5 ckW0 ckW1
  generalize w3.alloc (.cells #[.int .i64 (partF p), .slice U3 (bracketsV p).length f3] 39) = x3 at *
  refine (toPart_own _ _ _ p _ _ sA0 sA1 sA2 (by omega) l0 l1 l2).mono ?_
  rintro e w4 ⟨⟨p4_0, p4_1, p4_2, rfl, o4⟩, b4⟩
  have s4 := b4.size
  obtain ⟨P4_0, e4_0, rfl⟩ := o4.o0.form
  obtain ⟨P4_1, e4_1, rfl⟩ := o4.o1.form
  obtain ⟨P4_2, e4_2, rfl⟩ := o4.o2.form
  replace sA0 := sA0.below b4 (by omega)
  replace sA1 := sA1.below b4 (by omega)
  replace sA2 := sA2.below b4 (by omega)
  replace kA := kA.below b4 kA.lt
  replace hT := hT.on b4
  replace o3 := o3.below b4 (by omega)
  replace kW := kW.below b4 kW.lt
  replace hb := below_on hb b4 (Nat.le_refl _)
  clear b4
  have ab4 := (Below.refl w4.heap.size w4).alloc (Nat.le_refl _) (.cells #[.slice P4_0 p.T.length e4_0, .slice P4_1 p.F.length e4_1, .slice P4_2 p.N.length e4_2, .int .i64 p.L, .int .i64 p.S, .int .i64 p.E] 26)
  have as4 : (w4.alloc (.cells #[.slice P4_0 p.T.length e4_0, .slice P4_1 p.F.length e4_1, .slice P4_2 p.N.length e4_2, .int .i64 p.L, .int .i64 p.S, .int .i64 p.E] 26)).heap.size = w4.heap.size + 1 := by simp
  replace sA0 := sA0.below ab4 (by omega)
  replace sA1 := sA1.below ab4 (by omega)
  replace sA2 := sA2.below ab4 (by omega)
  replace kA := kA.below ab4 kA.lt
  replace hT := hT.on ab4
  replace o3 := o3.below ab4 (by omega)
  replace kW := kW.below ab4 kW.lt
  replace o4 := o4.below ab4 (by omega)
  replace hb := below_on hb ab4 (Nat.le_refl _)
  have kX := Blk.new w4 26 #[.slice P4_0 p.T.length e4_0, .slice P4_1 p.F.length e4_1, .slice P4_2 p.N.length e4_2, .int .i64 p.L, .int .i64 p.S, .int .i64 p.E]
  clear ab4
  have ckA0 := kA.cell 0 (u := .slice A0 p.T.length a0) rfl
  have ckA1 := kA.cell 1 (u := .slice A1 p.F.length a1) rfl
  have ckA2 := kA.cell 2 (u := .slice A2 p.N.length a2) rfl
  have ckA3 := kA.cell 3 (u := .int .i64 p.L) rfl
  have ckA4 := kA.cell 4 (u := .int .i64 p.S) rfl
  have ckA5 := kA.cell 5 (u := .int .i64 p.E) rfl
  have ckW0 := kW.cell 0 (u := .int .i64 (partF p)) rfl
  have ckW1 := kW.cell 1 (u := .slice U3 (bracketsV p).length f3) rfl
  have ckX0 := kX.cell 0 (u := .slice P4_0 p.T.length e4_0) rfl
  have ckX1 := kX.cell 1 (u := .slice P4_1 p.F.length e4_1) rfl
  have ckX2 := kX.cell 2 (u := .slice P4_2 p.N.length e4_2) rfl
  have ckX3 := kX.cell 3 (u := .int .i64 p.L) rfl
  have ckX4 := kX.cell 4 (u := .int .i64 p.S) rfl
  have ckX5 := kX.cell 5 (u := .int .i64 p.E) rfl
  go_wp2_with fail
  clear ckA0 ckA1 ckA2 ckA3 ckA4 ckA5 ckW0 ckW1 ckX0 ckX1 ckX2 ckX3 ckX4 ckX5
  generalize w4.alloc (.cells #[.slice P4_0 p.T.length e4_0, .slice P4_1 p.F.length e4_1, .slice P4_2 p.N.length e4_2, .int .i64 p.L, .int .i64 p.S, .int .i64 p.E] 26) = x4 at *
  refine (HIh.out _ _ _ p _ _ o4.o0.sees o4.o1.sees o4.o2.sees (by omega) l0 l1 l2 WFh.out hT).mono ?_
  rintro e w5 ⟨⟨u5, rfl, o5⟩, b5⟩
  have s5 := b5.size
  obtain ⟨U5, f5, rfl⟩ := o5.form
  replace sA0 := sA0.below b5 (by omega)
  replace sA1 := sA1.below b5 (by omega)
  replace sA2 := sA2.below b5 (by omega)
  replace kA := kA.below b5 kA.lt
  replace hT := hT.on b5
  replace o3 := o3.below b5 (by omega)
  replace kW := kW.below b5 kW.lt
  replace o4 := o4.below b5 (by omega)
  replace kX := kX.below b5 kX.lt
  replace hb := below_on hb b5 (Nat.le_refl _)
  clear b5
  have ab5 := (Below.refl w5.heap.size w5).alloc (Nat.le_refl _) (.cells #[.int .i64 (partF p), .slice U5 (bracketsV p).length f5] 39)
  have as5 : (w5.alloc (.cells #[.int .i64 (partF p), .slice U5 (bracketsV p).length f5] 39)).heap.size = w5.heap.size + 1 := by simp
  replace sA0 := sA0.below ab5 (by omega)
  replace sA1 := sA1.below ab5 (by omega)
  replace sA2 := sA2.below ab5 (by omega)
  replace kA := kA.below ab5 kA.lt
  replace hT := hT.on ab5
  replace o3 := o3.below ab5 (by omega)
  replace kW := kW.below ab5 kW.lt
  replace o4 := o4.below ab5 (by omega)
  replace kX := kX.below ab5 kX.lt
  replace o5 := o5.below ab5 (by omega)
  replace hb := below_on hb ab5 (Nat.le_refl _)
  have kG := Blk.new w5 39 #[.int .i64 (partF p), .slice U5 (bracketsV p).length f5]
  clear ab5
  have ckA0 := kA.cell 0 (u := .slice A0 p.T.length a0) rfl
  have ckA1 := kA.cell 1 (u := .slice A1 p.F.length a1) rfl
  have ckA2 := kA.cell 2 (u := .slice A2 p.N.length a2) rfl
  have ckA3 := kA.cell 3 (u := .int .i64 p.L) rfl
  have ckA4 := kA.cell 4 (u := .int .i64 p.S) rfl
  have ckA5 := kA.cell 5 (u := .int .i64 p.E) rfl
  have ckW0 := kW.cell 0 (u := .int .i64 (partF p)) rfl
  have ckW1 := kW.cell 1 (u := .slice U3 (bracketsV p).length f3) rfl
  have ckX0 := kX.cell 0 (u := .slice P4_0 p.T.length e4_0) rfl
  have ckX1 := kX.cell 1 (u := .slice P4_1 p.F.length e4_1) rfl
  have ckX2 := kX.cell 2 (u := .slice P4_2 p.N.length e4_2) rfl
  have ckX3 := kX.cell 3 (u := .int .i64 p.L) rfl
  have ckX4 := kX.cell 4 (u := .int .i64 p.S) rfl
  have ckX5 := kX.cell 5 (u := .int .i64 p.E) rfl
  have ckG0 := kG.cell 0 (u := .int .i64 (partF p)) rfl
  have ckG1 := kG.cell 1 (u := .slice U5 (bracketsV p).length f5) rfl
  go_wp2_with fail
  clear ckA0 ckA1 ckA2 ckA3 ckA4 ckA5 ckW0 ckW1 ckX0 ckX1 ckX2 ckX3 ckX4 ckX5 ckG0 ckG1
  generalize w5.alloc (.cells #[.int .i64 (partF p), .slice U5 (bracketsV p).length f5] 39) = x5 at *
  refine (eqClassesResult_same _ _ _ _ _ _ _ o5.sees o3.sees (by omega) (by omega) (by omega)).mono ?_
  rintro e w6 ⟨rfl, b6⟩
  have s6 := b6.size
  replace sA0 := sA0.below b6 (by omega)
  replace sA1 := sA1.below b6 (by omega)
  replace sA2 := sA2.below b6 (by omega)
  replace kA := kA.below b6 kA.lt
  replace hT := hT.on b6
  replace o3 := o3.below b6 (by omega)
  replace kW := kW.below b6 kW.lt
  replace o4 := o4.below b6 (by omega)
  replace kX := kX.below b6 kX.lt
  replace o5 := o5.below b6 (by omega)
  replace kG := kG.below b6 kG.lt
  replace hb := below_on hb b6 (Nat.le_refl _)
  clear b6
  have ckA0 := kA.cell 0 (u := .slice A0 p.T.length a0) rfl
  have ckA1 := kA.cell 1 (u := .slice A1 p.F.length a1) rfl
  have ckA2 := kA.cell 2 (u := .slice A2 p.N.length a2) rfl
  have ckA3 := kA.cell 3 (u := .int .i64 p.L) rfl
  have ckA4 := kA.cell 4 (u := .int .i64 p.S) rfl
  have ckA5 := kA.cell 5 (u := .int .i64 p.E) rfl
  have ckW0 := kW.cell 0 (u := .int .i64 (partF p)) rfl
  have ckW1 := kW.cell 1 (u := .slice U3 (bracketsV p).length f3) rfl
  have ckX0 := kX.cell 0 (u := .slice P4_0 p.T.length e4_0) rfl
  have ckX1 := kX.cell 1 (u := .slice P4_1 p.F.length e4_1) rfl
  have ckX2 := kX.cell 2 (u := .slice P4_2 p.N.length e4_2) rfl
  have ckX3 := kX.cell 3 (u := .int .i64 p.L) rfl
  have ckX4 := kX.cell 4 (u := .int .i64 p.S) rfl
  have ckX5 := kX.cell 5 (u := .int .i64 p.E) rfl
  have ckG0 := kG.cell 0 (u := .int .i64 (partF p)) rfl
  have ckG1 := kG.cell 1 (u := .slice U5 (bracketsV p).length f5) rfl
  have CT := Lib.hid (toPart_own (.slice A0 p.T.length a0) (.slice A1 p.F.length a1) (.slice A2 p.N.length a2) p w6.drew _ (sA0.below (drewB w6) (by omega)) (sA1.below (drewB w6) (by omega)) (sA2.below (drewB w6) (by omega)) (show w.heap.size ≤ w6.heap.size by omega) l0 l1 l2)
  go_wp2_with fail
  go_region_held3 (fun w' => w'.cell? ⟨w4.heap.size, 0, none⟩ = some (.slice P4_0 p.T.length e4_0) ∧ w'.cell? ⟨w4.heap.size, 1, none⟩ = some (.slice P4_1 p.F.length e4_1) ∧ w'.cell? ⟨w4.heap.size, 2, none⟩ = some (.slice P4_2 p.N.length e4_2) ∧ w'.cell? ⟨w4.heap.size, 3, none⟩ = some (.int .i64 p.L) ∧ w'.cell? ⟨w4.heap.size, 4, none⟩ = some (.int .i64 p.S) ∧ w'.cell? ⟨w4.heap.size, 5, none⟩ = some (.int .i64 p.E) ∧ w'.cell? ⟨w.heap.size, 0, none⟩ = some (.slice A0 p.T.length a0) ∧ w'.cell? ⟨w.heap.size, 1, none⟩ = some (.slice A1 p.F.length a1) ∧ w'.cell? ⟨w.heap.size, 2, none⟩ = some (.slice A2 p.N.length a2) ∧ w'.cell? ⟨w.heap.size, 3, none⟩ = some (.int .i64 p.L) ∧ w'.cell? ⟨w.heap.size, 4, none⟩ = some (.int .i64 p.S) ∧ w'.cell? ⟨w.heap.size, 5, none⟩ = some (.int .i64 p.E)) (first | exact ⟨ckX0, ckX1, ckX2, ckX3, ckX4, ckX5, ckA0, ckA1, ckA2, ckA3, ckA4, ckA5⟩ | exact ⟨x7kX0, x7kX1, x7kX2, x7kX3, x7kX4, x7kX5, x7kA0, x7kA1, x7kA2, x7kA3, x7kA4, x7kA5⟩ | exact ⟨x8kX0, x8kX1, x8kX2, x8kX3, x8kX4, x8kX5, x8kA0, x8kA1, x8kA2, x8kA3, x8kA4, x8kA5⟩) (first
    | (go_at_call 24; refine CT.out.mono ?_; rintro e w7 ⟨⟨p7_0, p7_1, p7_2, rfl, o7⟩, b7⟩
       have qb7 : Below w6.heap.size w6 w7 := ⟨b7.os, b7.tape, b7.output, b7.size, b7.block⟩
       have s7 := qb7.size
       obtain ⟨P7_0, e7_0, rfl⟩ := o7.o0.form
       obtain ⟨P7_1, e7_1, rfl⟩ := o7.o1.form
       obtain ⟨P7_2, e7_2, rfl⟩ := o7.o2.form
       replace sA0 := sA0.below qb7 (by omega)
       replace sA1 := sA1.below qb7 (by omega)
       replace sA2 := sA2.below qb7 (by omega)
       replace kA := kA.below qb7 kA.lt
       replace hT := hT.on qb7
       replace o3 := o3.below qb7 (by omega)
       replace kW := kW.below qb7 kW.lt
       replace o4 := o4.below qb7 (by omega)
       replace kX := kX.below qb7 kX.lt
       replace o5 := o5.below qb7 (by omega)
       replace kG := kG.below qb7 kG.lt
       replace hb := below_on hb qb7 (Nat.le_refl _)
       clear b7 qb7
       have x7kX0 := kX.cell 0 (u := .slice P4_0 p.T.length e4_0) rfl
       have x7kX1 := kX.cell 1 (u := .slice P4_1 p.F.length e4_1) rfl
       have x7kX2 := kX.cell 2 (u := .slice P4_2 p.N.length e4_2) rfl
       have x7kX3 := kX.cell 3 (u := .int .i64 p.L) rfl
       have x7kX4 := kX.cell 4 (u := .int .i64 p.S) rfl
       have x7kX5 := kX.cell 5 (u := .int .i64 p.E) rfl
       have x7kA0 := kA.cell 0 (u := .slice A0 p.T.length a0) rfl
       have x7kA1 := kA.cell 1 (u := .slice A1 p.F.length a1) rfl
       have x7kA2 := kA.cell 2 (u := .slice A2 p.N.length a2) rfl
       have x7kA3 := kA.cell 3 (u := .int .i64 p.L) rfl
       have x7kA4 := kA.cell 4 (u := .int .i64 p.S) rfl
       have x7kA5 := kA.cell 5 (u := .int .i64 p.E) rfl)
    | (go_at_call 26; refine (eqPart_same _ _ _ _ _ _ _ _ _ _ _ _ _ _ _ o4.o0.sees o7.o0.sees l0 o4.o1.sees o7.o1.sees l1 o4.o2.sees o7.o2.sees l2 (by omega) (by omega)).mono ?_; rintro e w8 ⟨rfl, b8⟩
       have s8 := b8.size
       replace sA0 := sA0.below b8 (by omega)
       replace sA1 := sA1.below b8 (by omega)
       replace sA2 := sA2.below b8 (by omega)
       replace kA := kA.below b8 kA.lt
       replace hT := hT.on b8
       replace o3 := o3.below b8 (by omega)
       replace kW := kW.below b8 kW.lt
       replace o4 := o4.below b8 (by omega)
       replace kX := kX.below b8 kX.lt
       replace o5 := o5.below b8 (by omega)
       replace kG := kG.below b8 kG.lt
       replace hb := below_on hb b8 (Nat.le_refl _)
       clear b8 o7
       have x8kX0 := kX.cell 0 (u := .slice P4_0 p.T.length e4_0) rfl
       have x8kX1 := kX.cell 1 (u := .slice P4_1 p.F.length e4_1) rfl
       have x8kX2 := kX.cell 2 (u := .slice P4_2 p.N.length e4_2) rfl
       have x8kX3 := kX.cell 3 (u := .int .i64 p.L) rfl
       have x8kX4 := kX.cell 4 (u := .int .i64 p.S) rfl
       have x8kX5 := kX.cell 5 (u := .int .i64 p.E) rfl
       have x8kA0 := kA.cell 0 (u := .slice A0 p.T.length a0) rfl
       have x8kA1 := kA.cell 1 (u := .slice A1 p.F.length a1) rfl
       have x8kA2 := kA.cell 2 (u := .slice A2 p.N.length a2) rfl
       have x8kA3 := kA.cell 3 (u := .int .i64 p.L) rfl
       have x8kA4 := kA.cell 4 (u := .int .i64 p.S) rfl
       have x8kA5 := kA.cell 5 (u := .int .i64 p.E) rfl))
  clear CT ckA0 ckA1 ckA2 ckA3 ckA4 ckA5 ckW0 ckW1 ckX0 ckX1 ckX2 ckX3 ckX4 ckX5 ckG0 ckG1 x7kX0 x7kX1 x7kX2 x7kX3 x7kX4 x7kX5 x7kA0 x7kA1 x7kA2 x7kA3 x7kA4 x7kA5 x8kX0 x8kX1 x8kX2 x8kX3 x8kX4 x8kX5 x8kA0 x8kA1 x8kA2 x8kA3 x8kA4 x8kA5
  have ckA0 := kA.cell 0 (u := .slice A0 p.T.length a0) rfl
  have ckA1 := kA.cell 1 (u := .slice A1 p.F.length a1) rfl
  have ckA2 := kA.cell 2 (u := .slice A2 p.N.length a2) rfl
  have ckA3 := kA.cell 3 (u := .int .i64 p.L) rfl
  have ckA4 := kA.cell 4 (u := .int .i64 p.S) rfl
  have ckA5 := kA.cell 5 (u := .int .i64 p.E) rfl
  have ckW0 := kW.cell 0 (u := .int .i64 (partF p)) rfl
  have ckW1 := kW.cell 1 (u := .slice U3 (bracketsV p).length f3) rfl
  have ckX0 := kX.cell 0 (u := .slice P4_0 p.T.length e4_0) rfl
  have ckX1 := kX.cell 1 (u := .slice P4_1 p.F.length e4_1) rfl
  have ckX2 := kX.cell 2 (u := .slice P4_2 p.N.length e4_2) rfl
  have ckX3 := kX.cell 3 (u := .int .i64 p.L) rfl
  have ckX4 := kX.cell 4 (u := .int .i64 p.S) rfl
  have ckX5 := kX.cell 5 (u := .int .i64 p.E) rfl
  have ckG0 := kG.cell 0 (u := .int .i64 (partF p)) rfl
  have ckG1 := kG.cell 1 (u := .slice U5 (bracketsV p).length f5) rfl
  go_wp2_with fail
  clear ckA0 ckA1 ckA2 ckA3 ckA4 ckA5 ckW0 ckW1 ckX0 ckX1 ckX2 ckX3 ckX4 ckX5 ckG0 ckG1
  refine (markPart_own _ _ _ _ _ _ _ _ _ 1 _ _ _ o4.o0 l0 o4.o1 l1 o4.o2 l2 o4.d01 o4.d02 o4.d10 o4.d12 o4.d20 o4.d21 (by omega) (by omega) (by omega)).mono ?_
  rintro e w9 ⟨⟨rfl, -⟩, q9⟩
  clear o4
  have s9 := q9.size
  replace sA0 := sA0.out q9 (by omega) (by omega)
  replace sA1 := sA1.out q9 (by omega) (by omega)
  replace sA2 := sA2.out q9 (by omega) (by omega)
  replace kA := kA.out q9 (by omega)
  replace hT := hT.out q9 (by omega) (by omega)
  replace o3 := o3.out q9 (by omega)
  replace kW := kW.out q9 (by omega)
  replace kX := kX.out q9 (by omega)
  replace o5 := o5.out q9 (by omega)
  replace kG := kG.out q9 (by omega)
  replace hb := hb.trans (q9.to_below (by omega) (by omega))
  clear q9
  have hk9 : ¬ ((1 : Int) + (p.T.length : Int) + (p.F.length : Int) + (p.N.length : Int) < 0) := by omega
  have ckA0 := kA.cell 0 (u := .slice A0 p.T.length a0) rfl
  have ckA1 := kA.cell 1 (u := .slice A1 p.F.length a1) rfl
  have ckA2 := kA.cell 2 (u := .slice A2 p.N.length a2) rfl
  have ckA3 := kA.cell 3 (u := .int .i64 p.L) rfl
  have ckA4 := kA.cell 4 (u := .int .i64 p.S) rfl
  have ckA5 := kA.cell 5 (u := .int .i64 p.E) rfl
  have ckW0 := kW.cell 0 (u := .int .i64 (partF p)) rfl
  have ckW1 := kW.cell 1 (u := .slice U3 (bracketsV p).length f3) rfl
  have ckX0 := kX.cell 0 (u := .slice P4_0 p.T.length e4_0) rfl
  have ckX1 := kX.cell 1 (u := .slice P4_1 p.F.length e4_1) rfl
  have ckX2 := kX.cell 2 (u := .slice P4_2 p.N.length e4_2) rfl
  have ckX3 := kX.cell 3 (u := .int .i64 p.L) rfl
  have ckX4 := kX.cell 4 (u := .int .i64 p.S) rfl
  have ckX5 := kX.cell 5 (u := .int .i64 p.E) rfl
  have ckG0 := kG.cell 0 (u := .int .i64 (partF p)) rfl
  have ckG1 := kG.cell 1 (u := .slice U5 (bracketsV p).length f5) rfl
  go_wp2_with fail
  clear ckA0 ckA1 ckA2 ckA3 ckA4 ckA5 ckW0 ckW1 ckX0 ckX1 ckX2 ckX3 ckX4 ckX5 ckG0 ckG1
  refine (eqClassesResult_same _ _ _ _ _ _ _ o5.sees o3.sees (by omega) (by omega) (by omega)).mono ?_
  rintro e w10 ⟨rfl, b10⟩
  have s10 := b10.size
  replace sA0 := sA0.below b10 (by omega)
  replace sA1 := sA1.below b10 (by omega)
  replace sA2 := sA2.below b10 (by omega)
  replace kA := kA.below b10 kA.lt
  replace hT := hT.on b10
  replace o3 := o3.below b10 (by omega)
  replace kW := kW.below b10 kW.lt
  replace kX := kX.below b10 kX.lt
  replace o5 := o5.below b10 (by omega)
  replace kG := kG.below b10 kG.lt
  replace hb := below_on hb b10 (Nat.le_refl _)
  clear b10
  have ckA0 := kA.cell 0 (u := .slice A0 p.T.length a0) rfl
  have ckA1 := kA.cell 1 (u := .slice A1 p.F.length a1) rfl
  have ckA2 := kA.cell 2 (u := .slice A2 p.N.length a2) rfl
  have ckA3 := kA.cell 3 (u := .int .i64 p.L) rfl
  have ckA4 := kA.cell 4 (u := .int .i64 p.S) rfl
  have ckA5 := kA.cell 5 (u := .int .i64 p.E) rfl
  have ckW0 := kW.cell 0 (u := .int .i64 (partF p)) rfl
  have ckW1 := kW.cell 1 (u := .slice U3 (bracketsV p).length f3) rfl
  have ckX0 := kX.cell 0 (u := .slice P4_0 p.T.length e4_0) rfl
  have ckX1 := kX.cell 1 (u := .slice P4_1 p.F.length e4_1) rfl
  have ckX2 := kX.cell 2 (u := .slice P4_2 p.N.length e4_2) rfl
  have ckX3 := kX.cell 3 (u := .int .i64 p.L) rfl
  have ckX4 := kX.cell 4 (u := .int .i64 p.S) rfl
  have ckX5 := kX.cell 5 (u := .int .i64 p.E) rfl
  have ckG0 := kG.cell 0 (u := .int .i64 (partF p)) rfl
  have ckG1 := kG.cell 1 (u := .slice U5 (bracketsV p).length f5) rfl
  go_wp2_with fail
  clear ckA0 ckA1 ckA2 ckA3 ckA4 ckA5 ckW0 ckW1 ckX0 ckX1 ckX2 ckX3 ckX4 ckX5 ckG0 ckG1
  refine (markClassesResult_own _ _ _ 1 _ _ _ o5 (by omega) (by omega) (by omega) (by omega)).mono ?_
  rintro e w11 ⟨⟨rfl, m5⟩, q11⟩
  clear o5
  have s11 := q11.size
  replace sA0 := sA0.out q11 (by omega) (by omega)
  replace sA1 := sA1.out q11 (by omega) (by omega)
  replace sA2 := sA2.out q11 (by omega) (by omega)
  replace kA := kA.out q11 (by omega)
  replace hT := hT.out q11 (by omega) (by omega)
  replace o3 := o3.out q11 (by omega)
  replace kW := kW.out q11 (by omega)
  replace kX := kX.out q11 (by omega)
  replace kG := kG.out q11 (by omega)
  replace hb := hb.trans (q11.to_below (by omega) (by omega))
  clear q11
  have ckA0 := kA.cell 0 (u := .slice A0 p.T.length a0) rfl
  have ckA1 := kA.cell 1 (u := .slice A1 p.F.length a1) rfl
  have ckA2 := kA.cell 2 (u := .slice A2 p.N.length a2) rfl
  have ckA3 := kA.cell 3 (u := .int .i64 p.L) rfl
  have ckA4 := kA.cell 4 (u := .int .i64 p.S) rfl
  have ckA5 := kA.cell 5 (u := .int .i64 p.E) rfl
  have ckW0 := kW.cell 0 (u := .int .i64 (partF p)) rfl
  have ckW1 := kW.cell 1 (u := .slice U3 (bracketsV p).length f3) rfl
  have ckX0 := kX.cell 0 (u := .slice P4_0 p.T.length e4_0) rfl
  have ckX1 := kX.cell 1 (u := .slice P4_1 p.F.length e4_1) rfl
  have ckX2 := kX.cell 2 (u := .slice P4_2 p.N.length e4_2) rfl
  have ckX3 := kX.cell 3 (u := .int .i64 p.L) rfl
  have ckX4 := kX.cell 4 (u := .int .i64 p.S) rfl
  have ckX5 := kX.cell 5 (u := .int .i64 p.E) rfl
  have ckG0 := kG.cell 0 (u := .int .i64 (partF p)) rfl
  have ckG1 := kG.cell 1 (u := .slice U5 (bracketsV p).length f5) rfl
  go_wp2_with fail
  clear ckA0 ckA1 ckA2 ckA3 ckA4 ckA5 ckW0 ckW1 ckX0 ckX1 ckX2 ckX3 ckX4 ckX5 ckG0 ckG1
  refine (heldClassesResult_own _ _ (bracketsV p).length 1 _ _ m5.sees (by omega) (by omega) (by omega) (by omega)).mono ?_
  rintro e w12 ⟨rfl, b12⟩
  have s12 := b12.size
  replace sA0 := sA0.below b12 (by omega)
  replace sA1 := sA1.below b12 (by omega)
  replace sA2 := sA2.below b12 (by omega)
  replace kA := kA.below b12 kA.lt
  replace hT := hT.on b12
  replace o3 := o3.below b12 (by omega)
  replace kW := kW.below b12 kW.lt
  replace kX := kX.below b12 kX.lt
  replace kG := kG.below b12 kG.lt
  replace m5 := m5.below b12 (by omega)
  replace hb := below_on hb b12 (Nat.le_refl _)
  clear b12
  have ckA0 := kA.cell 0 (u := .slice A0 p.T.length a0) rfl
  have ckA1 := kA.cell 1 (u := .slice A1 p.F.length a1) rfl
  have ckA2 := kA.cell 2 (u := .slice A2 p.N.length a2) rfl
  have ckA3 := kA.cell 3 (u := .int .i64 p.L) rfl
  have ckA4 := kA.cell 4 (u := .int .i64 p.S) rfl
  have ckA5 := kA.cell 5 (u := .int .i64 p.E) rfl
  have ckW0 := kW.cell 0 (u := .int .i64 (partF p)) rfl
  have ckW1 := kW.cell 1 (u := .slice U3 (bracketsV p).length f3) rfl
  have ckX0 := kX.cell 0 (u := .slice P4_0 p.T.length e4_0) rfl
  have ckX1 := kX.cell 1 (u := .slice P4_1 p.F.length e4_1) rfl
  have ckX2 := kX.cell 2 (u := .slice P4_2 p.N.length e4_2) rfl
  have ckX3 := kX.cell 3 (u := .int .i64 p.L) rfl
  have ckX4 := kX.cell 4 (u := .int .i64 p.S) rfl
  have ckX5 := kX.cell 5 (u := .int .i64 p.E) rfl
  have ckG0 := kG.cell 0 (u := .int .i64 (partF p)) rfl
  have ckG1 := kG.cell 1 (u := .slice U5 (bracketsV p).length f5) rfl
  go_wp2_with fail
  clear ckA0 ckA1 ckA2 ckA3 ckA4 ckA5 ckW0 ckW1 ckX0 ckX1 ckX2 ckX3 ckX4 ckX5 ckG0 ckG1
  refine (toPart_own _ _ _ p _ _ sA0 sA1 sA2 (by omega) l0 l1 l2).mono ?_
  rintro e w13 ⟨⟨p13_0, p13_1, p13_2, rfl, o13⟩, b13⟩
  have s13 := b13.size
  obtain ⟨P13_0, e13_0, rfl⟩ := o13.o0.form
  obtain ⟨P13_1, e13_1, rfl⟩ := o13.o1.form
  obtain ⟨P13_2, e13_2, rfl⟩ := o13.o2.form
  replace sA0 := sA0.below b13 (by omega)
  replace sA1 := sA1.below b13 (by omega)
  replace sA2 := sA2.below b13 (by omega)
  replace kA := kA.below b13 kA.lt
  replace hT := hT.on b13
  replace o3 := o3.below b13 (by omega)
  replace kW := kW.below b13 kW.lt
  replace kX := kX.below b13 kX.lt
  replace kG := kG.below b13 kG.lt
  replace m5 := m5.below b13 (by omega)
  replace hb := below_on hb b13 (Nat.le_refl _)
  clear b13
  have ckA0 := kA.cell 0 (u := .slice A0 p.T.length a0) rfl
  have ckA1 := kA.cell 1 (u := .slice A1 p.F.length a1) rfl
  have ckA2 := kA.cell 2 (u := .slice A2 p.N.length a2) rfl
  have ckA3 := kA.cell 3 (u := .int .i64 p.L) rfl
  have ckA4 := kA.cell 4 (u := .int .i64 p.S) rfl
  have ckA5 := kA.cell 5 (u := .int .i64 p.E) rfl
  have ckW0 := kW.cell 0 (u := .int .i64 (partF p)) rfl
  have ckW1 := kW.cell 1 (u := .slice U3 (bracketsV p).length f3) rfl
  have ckX0 := kX.cell 0 (u := .slice P4_0 p.T.length e4_0) rfl
  have ckX1 := kX.cell 1 (u := .slice P4_1 p.F.length e4_1) rfl
  have ckX2 := kX.cell 2 (u := .slice P4_2 p.N.length e4_2) rfl
  have ckX3 := kX.cell 3 (u := .int .i64 p.L) rfl
  have ckX4 := kX.cell 4 (u := .int .i64 p.S) rfl
  have ckX5 := kX.cell 5 (u := .int .i64 p.E) rfl
  have ckG0 := kG.cell 0 (u := .int .i64 (partF p)) rfl
  have ckG1 := kG.cell 1 (u := .slice U5 (bracketsV p).length f5) rfl
  go_wp2_with fail
  clear ckA0 ckA1 ckA2 ckA3 ckA4 ckA5 ckW0 ckW1 ckX0 ckX1 ckX2 ckX3 ckX4 ckX5 ckG0 ckG1
  refine (HIh.out _ _ _ p _ _ o13.o0.sees o13.o1.sees o13.o2.sees (by omega) l0 l1 l2 WFh.out hT).mono ?_
  rintro e w14 ⟨⟨u14, rfl, o14⟩, b14⟩
  have s14 := b14.size
  obtain ⟨U14, f14, rfl⟩ := o14.form
  replace sA0 := sA0.below b14 (by omega)
  replace sA1 := sA1.below b14 (by omega)
  replace sA2 := sA2.below b14 (by omega)
  replace kA := kA.below b14 kA.lt
  replace hT := hT.on b14
  replace o3 := o3.below b14 (by omega)
  replace kW := kW.below b14 kW.lt
  replace kX := kX.below b14 kX.lt
  replace kG := kG.below b14 kG.lt
  replace m5 := m5.below b14 (by omega)
  replace o13 := o13.below b14 (by omega)
  replace hb := below_on hb b14 (Nat.le_refl _)
  clear b14
  clear o13
  have ab14 := (Below.refl w14.heap.size w14).alloc (Nat.le_refl _) (.cells #[.int .i64 (partF p), .slice U14 (bracketsV p).length f14] 39)
  have as14 : (w14.alloc (.cells #[.int .i64 (partF p), .slice U14 (bracketsV p).length f14] 39)).heap.size = w14.heap.size + 1 := by simp
  replace sA0 := sA0.below ab14 (by omega)
  replace sA1 := sA1.below ab14 (by omega)
  replace sA2 := sA2.below ab14 (by omega)
  replace kA := kA.below ab14 kA.lt
  replace hT := hT.on ab14
  replace o3 := o3.below ab14 (by omega)
  replace kW := kW.below ab14 kW.lt
  replace kX := kX.below ab14 kX.lt
  replace kG := kG.below ab14 kG.lt
  replace m5 := m5.below ab14 (by omega)
  replace o14 := o14.below ab14 (by omega)
  replace hb := below_on hb ab14 (Nat.le_refl _)
  have kH := Blk.new w14 39 #[.int .i64 (partF p), .slice U14 (bracketsV p).length f14]
  clear ab14
  have ckA0 := kA.cell 0 (u := .slice A0 p.T.length a0) rfl
  have ckA1 := kA.cell 1 (u := .slice A1 p.F.length a1) rfl
  have ckA2 := kA.cell 2 (u := .slice A2 p.N.length a2) rfl
  have ckA3 := kA.cell 3 (u := .int .i64 p.L) rfl
  have ckA4 := kA.cell 4 (u := .int .i64 p.S) rfl
  have ckA5 := kA.cell 5 (u := .int .i64 p.E) rfl
  have ckW0 := kW.cell 0 (u := .int .i64 (partF p)) rfl
  have ckW1 := kW.cell 1 (u := .slice U3 (bracketsV p).length f3) rfl
  have ckX0 := kX.cell 0 (u := .slice P4_0 p.T.length e4_0) rfl
  have ckX1 := kX.cell 1 (u := .slice P4_1 p.F.length e4_1) rfl
  have ckX2 := kX.cell 2 (u := .slice P4_2 p.N.length e4_2) rfl
  have ckX3 := kX.cell 3 (u := .int .i64 p.L) rfl
  have ckX4 := kX.cell 4 (u := .int .i64 p.S) rfl
  have ckX5 := kX.cell 5 (u := .int .i64 p.E) rfl
  have ckG0 := kG.cell 0 (u := .int .i64 (partF p)) rfl
  have ckG1 := kG.cell 1 (u := .slice U5 (bracketsV p).length f5) rfl
  have ckH0 := kH.cell 0 (u := .int .i64 (partF p)) rfl
  have ckH1 := kH.cell 1 (u := .slice U14 (bracketsV p).length f14) rfl
  go_wp2_with fail
  clear ckA0 ckA1 ckA2 ckA3 ckA4 ckA5 ckW0 ckW1 ckX0 ckX1 ckX2 ckX3 ckX4 ckX5 ckG0 ckG1 ckH0 ckH1
  generalize w14.alloc (.cells #[.int .i64 (partF p), .slice U14 (bracketsV p).length f14] 39) = x14 at *
  refine (eqClassesResult_same _ _ _ _ _ _ _ o14.sees o3.sees (by omega) (by omega) (by omega)).mono ?_
  rintro e w15 ⟨rfl, b15⟩
  have s15 := b15.size
  replace sA0 := sA0.below b15 (by omega)
  replace sA1 := sA1.below b15 (by omega)
  replace sA2 := sA2.below b15 (by omega)
  replace kA := kA.below b15 kA.lt
  replace hT := hT.on b15
  replace o3 := o3.below b15 (by omega)
  replace kW := kW.below b15 kW.lt
  replace kX := kX.below b15 kX.lt
  replace kG := kG.below b15 kG.lt
  replace m5 := m5.below b15 (by omega)
  replace o14 := o14.below b15 (by omega)
  replace kH := kH.below b15 kH.lt
  replace hb := below_on hb b15 (Nat.le_refl _)
  clear b15
  have ckA0 := kA.cell 0 (u := .slice A0 p.T.length a0) rfl
  have ckA1 := kA.cell 1 (u := .slice A1 p.F.length a1) rfl
  have ckA2 := kA.cell 2 (u := .slice A2 p.N.length a2) rfl
  have ckA3 := kA.cell 3 (u := .int .i64 p.L) rfl
  have ckA4 := kA.cell 4 (u := .int .i64 p.S) rfl
  have ckA5 := kA.cell 5 (u := .int .i64 p.E) rfl
  have ckW0 := kW.cell 0 (u := .int .i64 (partF p)) rfl
  have ckW1 := kW.cell 1 (u := .slice U3 (bracketsV p).length f3) rfl
  have ckX0 := kX.cell 0 (u := .slice P4_0 p.T.length e4_0) rfl
  have ckX1 := kX.cell 1 (u := .slice P4_1 p.F.length e4_1) rfl
  have ckX2 := kX.cell 2 (u := .slice P4_2 p.N.length e4_2) rfl
  have ckX3 := kX.cell 3 (u := .int .i64 p.L) rfl
  have ckX4 := kX.cell 4 (u := .int .i64 p.S) rfl
  have ckX5 := kX.cell 5 (u := .int .i64 p.E) rfl
  have ckG0 := kG.cell 0 (u := .int .i64 (partF p)) rfl
  have ckG1 := kG.cell 1 (u := .slice U5 (bracketsV p).length f5) rfl
  have ckH0 := kH.cell 0 (u := .int .i64 (partF p)) rfl
  have ckH1 := kH.cell 1 (u := .slice U14 (bracketsV p).length f14) rfl
  go_wp2_with fail
  clear ckA0 ckA1 ckA2 ckA3 ckA4 ckA5 ckW0 ckW1 ckX0 ckX1 ckX2 ckX3 ckX4 ckX5 ckG0 ckG1 ckH0 ckH1
  refine (heldClassesResult_own _ _ (bracketsV p).length 1 _ _ m5.sees (by omega) (by omega) (by omega) (by omega)).mono ?_
  rintro e w16 ⟨rfl, b16⟩
  have s16 := b16.size
  replace sA0 := sA0.below b16 (by omega)
  replace sA1 := sA1.below b16 (by omega)
  replace sA2 := sA2.below b16 (by omega)
  replace kA := kA.below b16 kA.lt
  replace hT := hT.on b16
  replace o3 := o3.below b16 (by omega)
  replace kW := kW.below b16 kW.lt
  replace kX := kX.below b16 kX.lt
  replace kG := kG.below b16 kG.lt
  replace m5 := m5.below b16 (by omega)
  replace o14 := o14.below b16 (by omega)
  replace kH := kH.below b16 kH.lt
  replace hb := below_on hb b16 (Nat.le_refl _)
  clear b16
  go_wp2
  go_ret
  exact ⟨rfl, hb⟩
set_option maxRecDepth 100000 in
set_option maxHeartbeats 8000000 in
theorem exactSidesOf_walk (HS : ∀ (v0 v1 v2 : Value) (p : Prt) (w : World) (B : Nat), Sees w B .i64 v0 p.T → Sees w B .i64 v1 p.F → Sees w B .i64 v2 p.N → B ≤ w.heap.size → p.T.length < 1000000000 → p.F.length < 1000000000 → p.N.length < 1000000000 → PartWf p →
      Calls Tryd.prog 19 #[.agg #[v0, v1, v2, .int .i64 p.L, .int .i64 p.S, .int .i64 p.E]] w fun e w' => (∃ u, e = .returned (.agg #[.int .i64 (partF p), u]) ∧ Own w' w.heap.size w'.heap.size 2 .i64 u (sidesV p)) ∧ Below w.heap.size w w')
    (HI : ∀ (v0 v1 v2 : Value) (p : Prt) (w : World) (B : Nat), Sees w B .i64 v0 p.T → Sees w B .i64 v1 p.F → Sees w B .i64 v2 p.N → B ≤ w.heap.size → p.T.length < 1000000000 → p.F.length < 1000000000 → p.N.length < 1000000000 → PartWf p → Pairs w →
      Calls Tryd.prog 16 #[.agg #[v0, v1, v2, .int .i64 p.L, .int .i64 p.S, .int .i64 p.E]] w fun e w' => (∃ u, e = .returned (.agg #[.int .i64 (partF p), u]) ∧ Own w' w.heap.size w'.heap.size 2 .i64 u (sidesV p)) ∧ Below w.heap.size w w')
    {v0 v1 v2 : Value} {p : Prt} {w : World} (h : PartIn w v0 v1 v2 p) (hT : Pairs w) (hv : (sidesV p).length < 300000001) :
    Calls Tryd.prog 7 #[.agg #[v0, v1, v2, .int .i64 p.L, .int .i64 p.S, .int .i64 p.E]] w fun e w' => e = .returned (.bool true) ∧ Below w.heap.size w w' := by
  have WF : PartWf p := ⟨h.w0, h.w1, h.w2, h.wL, h.wS, h.wE⟩
  have WFh := Lib.hid WF
  have HSh := Lib.hid HS
  have HIh := Lib.hid HI
  have mx : maxLen ≤ 9223372036854775807 := by unfold maxLen; omega
  have sA0 := h.s0
  have sA1 := h.s1
  have sA2 := h.s2
  have m0 := h.l0
  have m1 := h.l1
  have m2 := h.l2
  clear h HS HI WF
  have kA := Blk.new w 42 #[v0, v1, v2, .int .i64 p.L, .int .i64 p.S, .int .i64 p.E]
  have hb := (Below.refl w.heap.size w).alloc (Nat.le_refl _) (.cells #[v0, v1, v2, .int .i64 p.L, .int .i64 p.S, .int .i64 p.E] 42)
  have z0 : (w.alloc (.cells #[v0, v1, v2, .int .i64 p.L, .int .i64 p.S, .int .i64 p.E] 42)).heap.size = w.heap.size + 1 := by simp
  replace sA0 := sA0.below hb (Nat.le_refl _)
  replace sA1 := sA1.below hb (Nat.le_refl _)
  replace sA2 := sA2.below hb (Nat.le_refl _)
  obtain ⟨A0, a0, rfl, _⟩ := id sA0
  obtain ⟨A1, a1, rfl, _⟩ := id sA1
  obtain ⟨A2, a2, rfl, _⟩ := id sA2
  have hT0 := hT.lt
  replace hT := hT.on hb
  have SZ := Lib.hid (fun w => szPart_any A0 A1 A2 p.T.length p.F.length p.N.length a0 a1 a2 p.L p.S p.E w (by omega) (by omega) (by omega))
  go_enter Tryd.func7, Tryd.ntmps7
  have ckA0 := kA.cell 0 (u := .slice A0 p.T.length a0) rfl
  have ckA1 := kA.cell 1 (u := .slice A1 p.F.length a1) rfl
  have ckA2 := kA.cell 2 (u := .slice A2 p.N.length a2) rfl
  have ckA3 := kA.cell 3 (u := .int .i64 p.L) rfl
  have ckA4 := kA.cell 4 (u := .int .i64 p.S) rfl
  have ckA5 := kA.cell 5 (u := .int .i64 p.E) rfl
  go_wp2_with fail
  clear ckA0 ckA1 ckA2 ckA3 ckA4 ckA5
  generalize w.alloc (.cells #[.slice A0 p.T.length a0, .slice A1 p.F.length a1, .slice A2 p.N.length a2, .int .i64 p.L, .int .i64 p.S, .int .i64 p.E] 42) = x0 at *
  refine (SZ.out _).mono ?_
  rintro e w1 ⟨rfl, b1⟩
  have s1 := b1.size
  replace sA0 := sA0.below b1 (by omega)
  replace sA1 := sA1.below b1 (by omega)
  replace sA2 := sA2.below b1 (by omega)
  replace kA := kA.below b1 kA.lt
  replace hT := hT.on b1
  replace hb := below_on hb b1 (Nat.le_refl _)
  clear SZ b1
  by_cases hsz : ((p.T.length + p.F.length + p.N.length : Nat) : Int) ≤ 1048576
  case neg =>
    rw [if_neg hsz]
    clear hsz
    go_wp2
    go_ret
    exact ⟨rfl, hb⟩
  rw [if_pos hsz]
  have l0 : p.T.length < 1000000000 := by omega
  have l1 : p.F.length < 1000000000 := by omega
  have l2 : p.N.length < 1000000000 := by omega
  have hnn : ¬ ((1048576 : Int) - ((p.T.length + p.F.length + p.N.length : Nat) : Int) < 0) := by omega
  obtain ⟨lf, hlf⟩ : ∃ lf, lf = (1048576 : Int) - ((p.T.length + p.F.length + p.N.length : Nat) : Int) := ⟨_, rfl⟩
  rw [← hlf] at hnn ⊢
  clear hlf hsz
  have ckA0 := kA.cell 0 (u := .slice A0 p.T.length a0) rfl
  have ckA1 := kA.cell 1 (u := .slice A1 p.F.length a1) rfl
  have ckA2 := kA.cell 2 (u := .slice A2 p.N.length a2) rfl
  have ckA3 := kA.cell 3 (u := .int .i64 p.L) rfl
  have ckA4 := kA.cell 4 (u := .int .i64 p.S) rfl
  have ckA5 := kA.cell 5 (u := .int .i64 p.E) rfl
  go_wp2_with fail
  clear ckA0 ckA1 ckA2 ckA3 ckA4 ckA5
  refine (toPart_own _ _ _ p _ _ sA0 sA1 sA2 (by omega) l0 l1 l2).mono ?_
  rintro e w2 ⟨⟨p2_0, p2_1, p2_2, rfl, o2⟩, b2⟩
  have s2 := b2.size
  obtain ⟨P2_0, e2_0, rfl⟩ := o2.o0.form
  obtain ⟨P2_1, e2_1, rfl⟩ := o2.o1.form
  obtain ⟨P2_2, e2_2, rfl⟩ := o2.o2.form
  replace sA0 := sA0.below b2 (by omega)
  replace sA1 := sA1.below b2 (by omega)
  replace sA2 := sA2.below b2 (by omega)
  replace kA := kA.below b2 kA.lt
  replace hT := hT.on b2
  replace hb := below_on hb b2 (Nat.le_refl _)
  clear b2
  have ckA0 := kA.cell 0 (u := .slice A0 p.T.length a0) rfl
  have ckA1 := kA.cell 1 (u := .slice A1 p.F.length a1) rfl
  have ckA2 := kA.cell 2 (u := .slice A2 p.N.length a2) rfl
  have ckA3 := kA.cell 3 (u := .int .i64 p.L) rfl
  have ckA4 := kA.cell 4 (u := .int .i64 p.S) rfl
  have ckA5 := kA.cell 5 (u := .int .i64 p.E) rfl
  go_wp2_with fail
  clear ckA0 ckA1 ckA2 ckA3 ckA4 ckA5
  refine (HSh.out _ _ _ p _ _ o2.o0.sees o2.o1.sees o2.o2.sees (by omega) l0 l1 l2 WFh.out).mono ?_
  rintro e w3 ⟨⟨u3, rfl, o3⟩, b3⟩
  have s3 := b3.size
  obtain ⟨U3, f3, rfl⟩ := o3.form
  replace sA0 := sA0.below b3 (by omega)
  replace sA1 := sA1.below b3 (by omega)
  replace sA2 := sA2.below b3 (by omega)
  replace kA := kA.below b3 kA.lt
  replace hT := hT.on b3
  replace o2 := o2.below b3 (by omega)
  replace hb := below_on hb b3 (Nat.le_refl _)
  clear b3
  clear o2
  have ab3 := (Below.refl w3.heap.size w3).alloc (Nat.le_refl _) (.cells #[.int .i64 (partF p), .slice U3 (sidesV p).length f3] 39)
  have as3 : (w3.alloc (.cells #[.int .i64 (partF p), .slice U3 (sidesV p).length f3] 39)).heap.size = w3.heap.size + 1 := by simp
  replace sA0 := sA0.below ab3 (by omega)
  replace sA1 := sA1.below ab3 (by omega)
  replace sA2 := sA2.below ab3 (by omega)
  replace kA := kA.below ab3 kA.lt
  replace hT := hT.on ab3
  replace o3 := o3.below ab3 (by omega)
  replace hb := below_on hb ab3 (Nat.le_refl _)
  have kW := Blk.new w3 39 #[.int .i64 (partF p), .slice U3 (sidesV p).length f3]
  clear ab3
  have ckA0 := kA.cell 0 (u := .slice A0 p.T.length a0) rfl
  have ckA1 := kA.cell 1 (u := .slice A1 p.F.length a1) rfl
  have ckA2 := kA.cell 2 (u := .slice A2 p.N.length a2) rfl
  have ckA3 := kA.cell 3 (u := .int .i64 p.L) rfl
  have ckA4 := kA.cell 4 (u := .int .i64 p.S) rfl
  have ckA5 := kA.cell 5 (u := .int .i64 p.E) rfl
  have ckW0 := kW.cell 0 (u := .int .i64 (partF p)) rfl
  have ckW1 := kW.cell 1 (u := .slice U3 (sidesV p).length f3) rfl
  go_wp2_with fail
  clear ckA0 ckA1 ckA2 ckA3 ckA4 ckA5 ckW0 ckW1
  generalize w3.alloc (.cells #[.int .i64 (partF p), .slice U3 (sidesV p).length f3] 39) = x3 at *
  refine (toPart_own _ _ _ p _ _ sA0 sA1 sA2 (by omega) l0 l1 l2).mono ?_
  rintro e w4 ⟨⟨p4_0, p4_1, p4_2, rfl, o4⟩, b4⟩
  have s4 := b4.size
  obtain ⟨P4_0, e4_0, rfl⟩ := o4.o0.form
  obtain ⟨P4_1, e4_1, rfl⟩ := o4.o1.form
  obtain ⟨P4_2, e4_2, rfl⟩ := o4.o2.form
  replace sA0 := sA0.below b4 (by omega)
  replace sA1 := sA1.below b4 (by omega)
  replace sA2 := sA2.below b4 (by omega)
  replace kA := kA.below b4 kA.lt
  replace hT := hT.on b4
  replace o3 := o3.below b4 (by omega)
  replace kW := kW.below b4 kW.lt
  replace hb := below_on hb b4 (Nat.le_refl _)
  clear b4
  have ab4 := (Below.refl w4.heap.size w4).alloc (Nat.le_refl _) (.cells #[.slice P4_0 p.T.length e4_0, .slice P4_1 p.F.length e4_1, .slice P4_2 p.N.length e4_2, .int .i64 p.L, .int .i64 p.S, .int .i64 p.E] 26)
  have as4 : (w4.alloc (.cells #[.slice P4_0 p.T.length e4_0, .slice P4_1 p.F.length e4_1, .slice P4_2 p.N.length e4_2, .int .i64 p.L, .int .i64 p.S, .int .i64 p.E] 26)).heap.size = w4.heap.size + 1 := by simp
  replace sA0 := sA0.below ab4 (by omega)
  replace sA1 := sA1.below ab4 (by omega)
  replace sA2 := sA2.below ab4 (by omega)
  replace kA := kA.below ab4 kA.lt
  replace hT := hT.on ab4
  replace o3 := o3.below ab4 (by omega)
  replace kW := kW.below ab4 kW.lt
  replace o4 := o4.below ab4 (by omega)
  replace hb := below_on hb ab4 (Nat.le_refl _)
  have kX := Blk.new w4 26 #[.slice P4_0 p.T.length e4_0, .slice P4_1 p.F.length e4_1, .slice P4_2 p.N.length e4_2, .int .i64 p.L, .int .i64 p.S, .int .i64 p.E]
  clear ab4
  have ckA0 := kA.cell 0 (u := .slice A0 p.T.length a0) rfl
  have ckA1 := kA.cell 1 (u := .slice A1 p.F.length a1) rfl
  have ckA2 := kA.cell 2 (u := .slice A2 p.N.length a2) rfl
  have ckA3 := kA.cell 3 (u := .int .i64 p.L) rfl
  have ckA4 := kA.cell 4 (u := .int .i64 p.S) rfl
  have ckA5 := kA.cell 5 (u := .int .i64 p.E) rfl
  have ckW0 := kW.cell 0 (u := .int .i64 (partF p)) rfl
  have ckW1 := kW.cell 1 (u := .slice U3 (sidesV p).length f3) rfl
  have ckX0 := kX.cell 0 (u := .slice P4_0 p.T.length e4_0) rfl
  have ckX1 := kX.cell 1 (u := .slice P4_1 p.F.length e4_1) rfl
  have ckX2 := kX.cell 2 (u := .slice P4_2 p.N.length e4_2) rfl
  have ckX3 := kX.cell 3 (u := .int .i64 p.L) rfl
  have ckX4 := kX.cell 4 (u := .int .i64 p.S) rfl
  have ckX5 := kX.cell 5 (u := .int .i64 p.E) rfl
  go_wp2_with fail
  clear ckA0 ckA1 ckA2 ckA3 ckA4 ckA5 ckW0 ckW1 ckX0 ckX1 ckX2 ckX3 ckX4 ckX5
  generalize w4.alloc (.cells #[.slice P4_0 p.T.length e4_0, .slice P4_1 p.F.length e4_1, .slice P4_2 p.N.length e4_2, .int .i64 p.L, .int .i64 p.S, .int .i64 p.E] 26) = x4 at *
  refine (HIh.out _ _ _ p _ _ o4.o0.sees o4.o1.sees o4.o2.sees (by omega) l0 l1 l2 WFh.out hT).mono ?_
  rintro e w5 ⟨⟨u5, rfl, o5⟩, b5⟩
  have s5 := b5.size
  obtain ⟨U5, f5, rfl⟩ := o5.form
  replace sA0 := sA0.below b5 (by omega)
  replace sA1 := sA1.below b5 (by omega)
  replace sA2 := sA2.below b5 (by omega)
  replace kA := kA.below b5 kA.lt
  replace hT := hT.on b5
  replace o3 := o3.below b5 (by omega)
  replace kW := kW.below b5 kW.lt
  replace o4 := o4.below b5 (by omega)
  replace kX := kX.below b5 kX.lt
  replace hb := below_on hb b5 (Nat.le_refl _)
  clear b5
  have ab5 := (Below.refl w5.heap.size w5).alloc (Nat.le_refl _) (.cells #[.int .i64 (partF p), .slice U5 (sidesV p).length f5] 39)
  have as5 : (w5.alloc (.cells #[.int .i64 (partF p), .slice U5 (sidesV p).length f5] 39)).heap.size = w5.heap.size + 1 := by simp
  replace sA0 := sA0.below ab5 (by omega)
  replace sA1 := sA1.below ab5 (by omega)
  replace sA2 := sA2.below ab5 (by omega)
  replace kA := kA.below ab5 kA.lt
  replace hT := hT.on ab5
  replace o3 := o3.below ab5 (by omega)
  replace kW := kW.below ab5 kW.lt
  replace o4 := o4.below ab5 (by omega)
  replace kX := kX.below ab5 kX.lt
  replace o5 := o5.below ab5 (by omega)
  replace hb := below_on hb ab5 (Nat.le_refl _)
  have kG := Blk.new w5 39 #[.int .i64 (partF p), .slice U5 (sidesV p).length f5]
  clear ab5
  have ckA0 := kA.cell 0 (u := .slice A0 p.T.length a0) rfl
  have ckA1 := kA.cell 1 (u := .slice A1 p.F.length a1) rfl
  have ckA2 := kA.cell 2 (u := .slice A2 p.N.length a2) rfl
  have ckA3 := kA.cell 3 (u := .int .i64 p.L) rfl
  have ckA4 := kA.cell 4 (u := .int .i64 p.S) rfl
  have ckA5 := kA.cell 5 (u := .int .i64 p.E) rfl
  have ckW0 := kW.cell 0 (u := .int .i64 (partF p)) rfl
  have ckW1 := kW.cell 1 (u := .slice U3 (sidesV p).length f3) rfl
  have ckX0 := kX.cell 0 (u := .slice P4_0 p.T.length e4_0) rfl
  have ckX1 := kX.cell 1 (u := .slice P4_1 p.F.length e4_1) rfl
  have ckX2 := kX.cell 2 (u := .slice P4_2 p.N.length e4_2) rfl
  have ckX3 := kX.cell 3 (u := .int .i64 p.L) rfl
  have ckX4 := kX.cell 4 (u := .int .i64 p.S) rfl
  have ckX5 := kX.cell 5 (u := .int .i64 p.E) rfl
  have ckG0 := kG.cell 0 (u := .int .i64 (partF p)) rfl
  have ckG1 := kG.cell 1 (u := .slice U5 (sidesV p).length f5) rfl
  go_wp2_with fail
  clear ckA0 ckA1 ckA2 ckA3 ckA4 ckA5 ckW0 ckW1 ckX0 ckX1 ckX2 ckX3 ckX4 ckX5 ckG0 ckG1
  generalize w5.alloc (.cells #[.int .i64 (partF p), .slice U5 (sidesV p).length f5] 39) = x5 at *
  refine (eqClassesResult_same _ _ _ _ _ _ _ o5.sees o3.sees (by omega) (by omega) (by omega)).mono ?_
  rintro e w6 ⟨rfl, b6⟩
  have s6 := b6.size
  replace sA0 := sA0.below b6 (by omega)
  replace sA1 := sA1.below b6 (by omega)
  replace sA2 := sA2.below b6 (by omega)
  replace kA := kA.below b6 kA.lt
  replace hT := hT.on b6
  replace o3 := o3.below b6 (by omega)
  replace kW := kW.below b6 kW.lt
  replace o4 := o4.below b6 (by omega)
  replace kX := kX.below b6 kX.lt
  replace o5 := o5.below b6 (by omega)
  replace kG := kG.below b6 kG.lt
  replace hb := below_on hb b6 (Nat.le_refl _)
  clear b6
  have ckA0 := kA.cell 0 (u := .slice A0 p.T.length a0) rfl
  have ckA1 := kA.cell 1 (u := .slice A1 p.F.length a1) rfl
  have ckA2 := kA.cell 2 (u := .slice A2 p.N.length a2) rfl
  have ckA3 := kA.cell 3 (u := .int .i64 p.L) rfl
  have ckA4 := kA.cell 4 (u := .int .i64 p.S) rfl
  have ckA5 := kA.cell 5 (u := .int .i64 p.E) rfl
  have ckW0 := kW.cell 0 (u := .int .i64 (partF p)) rfl
  have ckW1 := kW.cell 1 (u := .slice U3 (sidesV p).length f3) rfl
  have ckX0 := kX.cell 0 (u := .slice P4_0 p.T.length e4_0) rfl
  have ckX1 := kX.cell 1 (u := .slice P4_1 p.F.length e4_1) rfl
  have ckX2 := kX.cell 2 (u := .slice P4_2 p.N.length e4_2) rfl
  have ckX3 := kX.cell 3 (u := .int .i64 p.L) rfl
  have ckX4 := kX.cell 4 (u := .int .i64 p.S) rfl
  have ckX5 := kX.cell 5 (u := .int .i64 p.E) rfl
  have ckG0 := kG.cell 0 (u := .int .i64 (partF p)) rfl
  have ckG1 := kG.cell 1 (u := .slice U5 (sidesV p).length f5) rfl
  have CT := Lib.hid (toPart_own (.slice A0 p.T.length a0) (.slice A1 p.F.length a1) (.slice A2 p.N.length a2) p w6.drew _ (sA0.below (drewB w6) (by omega)) (sA1.below (drewB w6) (by omega)) (sA2.below (drewB w6) (by omega)) (show w.heap.size ≤ w6.heap.size by omega) l0 l1 l2)
  go_wp2_with fail
  go_region_held3 (fun w' => w'.cell? ⟨w4.heap.size, 0, none⟩ = some (.slice P4_0 p.T.length e4_0) ∧ w'.cell? ⟨w4.heap.size, 1, none⟩ = some (.slice P4_1 p.F.length e4_1) ∧ w'.cell? ⟨w4.heap.size, 2, none⟩ = some (.slice P4_2 p.N.length e4_2) ∧ w'.cell? ⟨w4.heap.size, 3, none⟩ = some (.int .i64 p.L) ∧ w'.cell? ⟨w4.heap.size, 4, none⟩ = some (.int .i64 p.S) ∧ w'.cell? ⟨w4.heap.size, 5, none⟩ = some (.int .i64 p.E) ∧ w'.cell? ⟨w.heap.size, 0, none⟩ = some (.slice A0 p.T.length a0) ∧ w'.cell? ⟨w.heap.size, 1, none⟩ = some (.slice A1 p.F.length a1) ∧ w'.cell? ⟨w.heap.size, 2, none⟩ = some (.slice A2 p.N.length a2) ∧ w'.cell? ⟨w.heap.size, 3, none⟩ = some (.int .i64 p.L) ∧ w'.cell? ⟨w.heap.size, 4, none⟩ = some (.int .i64 p.S) ∧ w'.cell? ⟨w.heap.size, 5, none⟩ = some (.int .i64 p.E)) (first | exact ⟨ckX0, ckX1, ckX2, ckX3, ckX4, ckX5, ckA0, ckA1, ckA2, ckA3, ckA4, ckA5⟩ | exact ⟨x7kX0, x7kX1, x7kX2, x7kX3, x7kX4, x7kX5, x7kA0, x7kA1, x7kA2, x7kA3, x7kA4, x7kA5⟩ | exact ⟨x8kX0, x8kX1, x8kX2, x8kX3, x8kX4, x8kX5, x8kA0, x8kA1, x8kA2, x8kA3, x8kA4, x8kA5⟩) (first
    | (go_at_call 24; refine CT.out.mono ?_; rintro e w7 ⟨⟨p7_0, p7_1, p7_2, rfl, o7⟩, b7⟩
       have qb7 : Below w6.heap.size w6 w7 := ⟨b7.os, b7.tape, b7.output, b7.size, b7.block⟩
       have s7 := qb7.size
       obtain ⟨P7_0, e7_0, rfl⟩ := o7.o0.form
       obtain ⟨P7_1, e7_1, rfl⟩ := o7.o1.form
       obtain ⟨P7_2, e7_2, rfl⟩ := o7.o2.form
       replace sA0 := sA0.below qb7 (by omega)
       replace sA1 := sA1.below qb7 (by omega)
       replace sA2 := sA2.below qb7 (by omega)
       replace kA := kA.below qb7 kA.lt
       replace hT := hT.on qb7
       replace o3 := o3.below qb7 (by omega)
       replace kW := kW.below qb7 kW.lt
       replace o4 := o4.below qb7 (by omega)
       replace kX := kX.below qb7 kX.lt
       replace o5 := o5.below qb7 (by omega)
       replace kG := kG.below qb7 kG.lt
       replace hb := below_on hb qb7 (Nat.le_refl _)
       clear b7 qb7
       have x7kX0 := kX.cell 0 (u := .slice P4_0 p.T.length e4_0) rfl
       have x7kX1 := kX.cell 1 (u := .slice P4_1 p.F.length e4_1) rfl
       have x7kX2 := kX.cell 2 (u := .slice P4_2 p.N.length e4_2) rfl
       have x7kX3 := kX.cell 3 (u := .int .i64 p.L) rfl
       have x7kX4 := kX.cell 4 (u := .int .i64 p.S) rfl
       have x7kX5 := kX.cell 5 (u := .int .i64 p.E) rfl
       have x7kA0 := kA.cell 0 (u := .slice A0 p.T.length a0) rfl
       have x7kA1 := kA.cell 1 (u := .slice A1 p.F.length a1) rfl
       have x7kA2 := kA.cell 2 (u := .slice A2 p.N.length a2) rfl
       have x7kA3 := kA.cell 3 (u := .int .i64 p.L) rfl
       have x7kA4 := kA.cell 4 (u := .int .i64 p.S) rfl
       have x7kA5 := kA.cell 5 (u := .int .i64 p.E) rfl)
    | (go_at_call 26; refine (eqPart_same _ _ _ _ _ _ _ _ _ _ _ _ _ _ _ o4.o0.sees o7.o0.sees l0 o4.o1.sees o7.o1.sees l1 o4.o2.sees o7.o2.sees l2 (by omega) (by omega)).mono ?_; rintro e w8 ⟨rfl, b8⟩
       have s8 := b8.size
       replace sA0 := sA0.below b8 (by omega)
       replace sA1 := sA1.below b8 (by omega)
       replace sA2 := sA2.below b8 (by omega)
       replace kA := kA.below b8 kA.lt
       replace hT := hT.on b8
       replace o3 := o3.below b8 (by omega)
       replace kW := kW.below b8 kW.lt
       replace o4 := o4.below b8 (by omega)
       replace kX := kX.below b8 kX.lt
       replace o5 := o5.below b8 (by omega)
       replace kG := kG.below b8 kG.lt
       replace hb := below_on hb b8 (Nat.le_refl _)
       clear b8 o7
       have x8kX0 := kX.cell 0 (u := .slice P4_0 p.T.length e4_0) rfl
       have x8kX1 := kX.cell 1 (u := .slice P4_1 p.F.length e4_1) rfl
       have x8kX2 := kX.cell 2 (u := .slice P4_2 p.N.length e4_2) rfl
       have x8kX3 := kX.cell 3 (u := .int .i64 p.L) rfl
       have x8kX4 := kX.cell 4 (u := .int .i64 p.S) rfl
       have x8kX5 := kX.cell 5 (u := .int .i64 p.E) rfl
       have x8kA0 := kA.cell 0 (u := .slice A0 p.T.length a0) rfl
       have x8kA1 := kA.cell 1 (u := .slice A1 p.F.length a1) rfl
       have x8kA2 := kA.cell 2 (u := .slice A2 p.N.length a2) rfl
       have x8kA3 := kA.cell 3 (u := .int .i64 p.L) rfl
       have x8kA4 := kA.cell 4 (u := .int .i64 p.S) rfl
       have x8kA5 := kA.cell 5 (u := .int .i64 p.E) rfl))
  clear CT ckA0 ckA1 ckA2 ckA3 ckA4 ckA5 ckW0 ckW1 ckX0 ckX1 ckX2 ckX3 ckX4 ckX5 ckG0 ckG1 x7kX0 x7kX1 x7kX2 x7kX3 x7kX4 x7kX5 x7kA0 x7kA1 x7kA2 x7kA3 x7kA4 x7kA5 x8kX0 x8kX1 x8kX2 x8kX3 x8kX4 x8kX5 x8kA0 x8kA1 x8kA2 x8kA3 x8kA4 x8kA5
  have ckA0 := kA.cell 0 (u := .slice A0 p.T.length a0) rfl
  have ckA1 := kA.cell 1 (u := .slice A1 p.F.length a1) rfl
  have ckA2 := kA.cell 2 (u := .slice A2 p.N.length a2) rfl
  have ckA3 := kA.cell 3 (u := .int .i64 p.L) rfl
  have ckA4 := kA.cell 4 (u := .int .i64 p.S) rfl
  have ckA5 := kA.cell 5 (u := .int .i64 p.E) rfl
  have ckW0 := kW.cell 0 (u := .int .i64 (partF p)) rfl
  have ckW1 := kW.cell 1 (u := .slice U3 (sidesV p).length f3) rfl
  have ckX0 := kX.cell 0 (u := .slice P4_0 p.T.length e4_0) rfl
  have ckX1 := kX.cell 1 (u := .slice P4_1 p.F.length e4_1) rfl
  have ckX2 := kX.cell 2 (u := .slice P4_2 p.N.length e4_2) rfl
  have ckX3 := kX.cell 3 (u := .int .i64 p.L) rfl
  have ckX4 := kX.cell 4 (u := .int .i64 p.S) rfl
  have ckX5 := kX.cell 5 (u := .int .i64 p.E) rfl
  have ckG0 := kG.cell 0 (u := .int .i64 (partF p)) rfl
  have ckG1 := kG.cell 1 (u := .slice U5 (sidesV p).length f5) rfl
  go_wp2_with fail
  clear ckA0 ckA1 ckA2 ckA3 ckA4 ckA5 ckW0 ckW1 ckX0 ckX1 ckX2 ckX3 ckX4 ckX5 ckG0 ckG1
  refine (markPart_own _ _ _ _ _ _ _ _ _ 1 _ _ _ o4.o0 l0 o4.o1 l1 o4.o2 l2 o4.d01 o4.d02 o4.d10 o4.d12 o4.d20 o4.d21 (by omega) (by omega) (by omega)).mono ?_
  rintro e w9 ⟨⟨rfl, -⟩, q9⟩
  clear o4
  have s9 := q9.size
  replace sA0 := sA0.out q9 (by omega) (by omega)
  replace sA1 := sA1.out q9 (by omega) (by omega)
  replace sA2 := sA2.out q9 (by omega) (by omega)
  replace kA := kA.out q9 (by omega)
  replace hT := hT.out q9 (by omega) (by omega)
  replace o3 := o3.out q9 (by omega)
  replace kW := kW.out q9 (by omega)
  replace kX := kX.out q9 (by omega)
  replace o5 := o5.out q9 (by omega)
  replace kG := kG.out q9 (by omega)
  replace hb := hb.trans (q9.to_below (by omega) (by omega))
  clear q9
  have hk9 : ¬ ((1 : Int) + (p.T.length : Int) + (p.F.length : Int) + (p.N.length : Int) < 0) := by omega
  have ckA0 := kA.cell 0 (u := .slice A0 p.T.length a0) rfl
  have ckA1 := kA.cell 1 (u := .slice A1 p.F.length a1) rfl
  have ckA2 := kA.cell 2 (u := .slice A2 p.N.length a2) rfl
  have ckA3 := kA.cell 3 (u := .int .i64 p.L) rfl
  have ckA4 := kA.cell 4 (u := .int .i64 p.S) rfl
  have ckA5 := kA.cell 5 (u := .int .i64 p.E) rfl
  have ckW0 := kW.cell 0 (u := .int .i64 (partF p)) rfl
  have ckW1 := kW.cell 1 (u := .slice U3 (sidesV p).length f3) rfl
  have ckX0 := kX.cell 0 (u := .slice P4_0 p.T.length e4_0) rfl
  have ckX1 := kX.cell 1 (u := .slice P4_1 p.F.length e4_1) rfl
  have ckX2 := kX.cell 2 (u := .slice P4_2 p.N.length e4_2) rfl
  have ckX3 := kX.cell 3 (u := .int .i64 p.L) rfl
  have ckX4 := kX.cell 4 (u := .int .i64 p.S) rfl
  have ckX5 := kX.cell 5 (u := .int .i64 p.E) rfl
  have ckG0 := kG.cell 0 (u := .int .i64 (partF p)) rfl
  have ckG1 := kG.cell 1 (u := .slice U5 (sidesV p).length f5) rfl
  go_wp2_with fail
  clear ckA0 ckA1 ckA2 ckA3 ckA4 ckA5 ckW0 ckW1 ckX0 ckX1 ckX2 ckX3 ckX4 ckX5 ckG0 ckG1
  refine (eqClassesResult_same _ _ _ _ _ _ _ o5.sees o3.sees (by omega) (by omega) (by omega)).mono ?_
  rintro e w10 ⟨rfl, b10⟩
  have s10 := b10.size
  replace sA0 := sA0.below b10 (by omega)
  replace sA1 := sA1.below b10 (by omega)
  replace sA2 := sA2.below b10 (by omega)
  replace kA := kA.below b10 kA.lt
  replace hT := hT.on b10
  replace o3 := o3.below b10 (by omega)
  replace kW := kW.below b10 kW.lt
  replace kX := kX.below b10 kX.lt
  replace o5 := o5.below b10 (by omega)
  replace kG := kG.below b10 kG.lt
  replace hb := below_on hb b10 (Nat.le_refl _)
  clear b10
  have ckA0 := kA.cell 0 (u := .slice A0 p.T.length a0) rfl
  have ckA1 := kA.cell 1 (u := .slice A1 p.F.length a1) rfl
  have ckA2 := kA.cell 2 (u := .slice A2 p.N.length a2) rfl
  have ckA3 := kA.cell 3 (u := .int .i64 p.L) rfl
  have ckA4 := kA.cell 4 (u := .int .i64 p.S) rfl
  have ckA5 := kA.cell 5 (u := .int .i64 p.E) rfl
  have ckW0 := kW.cell 0 (u := .int .i64 (partF p)) rfl
  have ckW1 := kW.cell 1 (u := .slice U3 (sidesV p).length f3) rfl
  have ckX0 := kX.cell 0 (u := .slice P4_0 p.T.length e4_0) rfl
  have ckX1 := kX.cell 1 (u := .slice P4_1 p.F.length e4_1) rfl
  have ckX2 := kX.cell 2 (u := .slice P4_2 p.N.length e4_2) rfl
  have ckX3 := kX.cell 3 (u := .int .i64 p.L) rfl
  have ckX4 := kX.cell 4 (u := .int .i64 p.S) rfl
  have ckX5 := kX.cell 5 (u := .int .i64 p.E) rfl
  have ckG0 := kG.cell 0 (u := .int .i64 (partF p)) rfl
  have ckG1 := kG.cell 1 (u := .slice U5 (sidesV p).length f5) rfl
  go_wp2_with fail
  clear ckA0 ckA1 ckA2 ckA3 ckA4 ckA5 ckW0 ckW1 ckX0 ckX1 ckX2 ckX3 ckX4 ckX5 ckG0 ckG1
  refine (markClassesResult_own _ _ _ 1 _ _ _ o5 (by omega) (by omega) (by omega) (by omega)).mono ?_
  rintro e w11 ⟨⟨rfl, m5⟩, q11⟩
  clear o5
  have s11 := q11.size
  replace sA0 := sA0.out q11 (by omega) (by omega)
  replace sA1 := sA1.out q11 (by omega) (by omega)
  replace sA2 := sA2.out q11 (by omega) (by omega)
  replace kA := kA.out q11 (by omega)
  replace hT := hT.out q11 (by omega) (by omega)
  replace o3 := o3.out q11 (by omega)
  replace kW := kW.out q11 (by omega)
  replace kX := kX.out q11 (by omega)
  replace kG := kG.out q11 (by omega)
  replace hb := hb.trans (q11.to_below (by omega) (by omega))
  clear q11
  have ckA0 := kA.cell 0 (u := .slice A0 p.T.length a0) rfl
  have ckA1 := kA.cell 1 (u := .slice A1 p.F.length a1) rfl
  have ckA2 := kA.cell 2 (u := .slice A2 p.N.length a2) rfl
  have ckA3 := kA.cell 3 (u := .int .i64 p.L) rfl
  have ckA4 := kA.cell 4 (u := .int .i64 p.S) rfl
  have ckA5 := kA.cell 5 (u := .int .i64 p.E) rfl
  have ckW0 := kW.cell 0 (u := .int .i64 (partF p)) rfl
  have ckW1 := kW.cell 1 (u := .slice U3 (sidesV p).length f3) rfl
  have ckX0 := kX.cell 0 (u := .slice P4_0 p.T.length e4_0) rfl
  have ckX1 := kX.cell 1 (u := .slice P4_1 p.F.length e4_1) rfl
  have ckX2 := kX.cell 2 (u := .slice P4_2 p.N.length e4_2) rfl
  have ckX3 := kX.cell 3 (u := .int .i64 p.L) rfl
  have ckX4 := kX.cell 4 (u := .int .i64 p.S) rfl
  have ckX5 := kX.cell 5 (u := .int .i64 p.E) rfl
  have ckG0 := kG.cell 0 (u := .int .i64 (partF p)) rfl
  have ckG1 := kG.cell 1 (u := .slice U5 (sidesV p).length f5) rfl
  go_wp2_with fail
  clear ckA0 ckA1 ckA2 ckA3 ckA4 ckA5 ckW0 ckW1 ckX0 ckX1 ckX2 ckX3 ckX4 ckX5 ckG0 ckG1
  refine (heldClassesResult_own _ _ (sidesV p).length 1 _ _ m5.sees (by omega) (by omega) (by omega) (by omega)).mono ?_
  rintro e w12 ⟨rfl, b12⟩
  have s12 := b12.size
  replace sA0 := sA0.below b12 (by omega)
  replace sA1 := sA1.below b12 (by omega)
  replace sA2 := sA2.below b12 (by omega)
  replace kA := kA.below b12 kA.lt
  replace hT := hT.on b12
  replace o3 := o3.below b12 (by omega)
  replace kW := kW.below b12 kW.lt
  replace kX := kX.below b12 kX.lt
  replace kG := kG.below b12 kG.lt
  replace m5 := m5.below b12 (by omega)
  replace hb := below_on hb b12 (Nat.le_refl _)
  clear b12
  have ckA0 := kA.cell 0 (u := .slice A0 p.T.length a0) rfl
  have ckA1 := kA.cell 1 (u := .slice A1 p.F.length a1) rfl
  have ckA2 := kA.cell 2 (u := .slice A2 p.N.length a2) rfl
  have ckA3 := kA.cell 3 (u := .int .i64 p.L) rfl
  have ckA4 := kA.cell 4 (u := .int .i64 p.S) rfl
  have ckA5 := kA.cell 5 (u := .int .i64 p.E) rfl
  have ckW0 := kW.cell 0 (u := .int .i64 (partF p)) rfl
  have ckW1 := kW.cell 1 (u := .slice U3 (sidesV p).length f3) rfl
  have ckX0 := kX.cell 0 (u := .slice P4_0 p.T.length e4_0) rfl
  have ckX1 := kX.cell 1 (u := .slice P4_1 p.F.length e4_1) rfl
  have ckX2 := kX.cell 2 (u := .slice P4_2 p.N.length e4_2) rfl
  have ckX3 := kX.cell 3 (u := .int .i64 p.L) rfl
  have ckX4 := kX.cell 4 (u := .int .i64 p.S) rfl
  have ckX5 := kX.cell 5 (u := .int .i64 p.E) rfl
  have ckG0 := kG.cell 0 (u := .int .i64 (partF p)) rfl
  have ckG1 := kG.cell 1 (u := .slice U5 (sidesV p).length f5) rfl
  go_wp2_with fail
  clear ckA0 ckA1 ckA2 ckA3 ckA4 ckA5 ckW0 ckW1 ckX0 ckX1 ckX2 ckX3 ckX4 ckX5 ckG0 ckG1
  refine (toPart_own _ _ _ p _ _ sA0 sA1 sA2 (by omega) l0 l1 l2).mono ?_
  rintro e w13 ⟨⟨p13_0, p13_1, p13_2, rfl, o13⟩, b13⟩
  have s13 := b13.size
  obtain ⟨P13_0, e13_0, rfl⟩ := o13.o0.form
  obtain ⟨P13_1, e13_1, rfl⟩ := o13.o1.form
  obtain ⟨P13_2, e13_2, rfl⟩ := o13.o2.form
  replace sA0 := sA0.below b13 (by omega)
  replace sA1 := sA1.below b13 (by omega)
  replace sA2 := sA2.below b13 (by omega)
  replace kA := kA.below b13 kA.lt
  replace hT := hT.on b13
  replace o3 := o3.below b13 (by omega)
  replace kW := kW.below b13 kW.lt
  replace kX := kX.below b13 kX.lt
  replace kG := kG.below b13 kG.lt
  replace m5 := m5.below b13 (by omega)
  replace hb := below_on hb b13 (Nat.le_refl _)
  clear b13
  have ckA0 := kA.cell 0 (u := .slice A0 p.T.length a0) rfl
  have ckA1 := kA.cell 1 (u := .slice A1 p.F.length a1) rfl
  have ckA2 := kA.cell 2 (u := .slice A2 p.N.length a2) rfl
  have ckA3 := kA.cell 3 (u := .int .i64 p.L) rfl
  have ckA4 := kA.cell 4 (u := .int .i64 p.S) rfl
  have ckA5 := kA.cell 5 (u := .int .i64 p.E) rfl
  have ckW0 := kW.cell 0 (u := .int .i64 (partF p)) rfl
  have ckW1 := kW.cell 1 (u := .slice U3 (sidesV p).length f3) rfl
  have ckX0 := kX.cell 0 (u := .slice P4_0 p.T.length e4_0) rfl
  have ckX1 := kX.cell 1 (u := .slice P4_1 p.F.length e4_1) rfl
  have ckX2 := kX.cell 2 (u := .slice P4_2 p.N.length e4_2) rfl
  have ckX3 := kX.cell 3 (u := .int .i64 p.L) rfl
  have ckX4 := kX.cell 4 (u := .int .i64 p.S) rfl
  have ckX5 := kX.cell 5 (u := .int .i64 p.E) rfl
  have ckG0 := kG.cell 0 (u := .int .i64 (partF p)) rfl
  have ckG1 := kG.cell 1 (u := .slice U5 (sidesV p).length f5) rfl
  go_wp2_with fail
  clear ckA0 ckA1 ckA2 ckA3 ckA4 ckA5 ckW0 ckW1 ckX0 ckX1 ckX2 ckX3 ckX4 ckX5 ckG0 ckG1
  refine (HIh.out _ _ _ p _ _ o13.o0.sees o13.o1.sees o13.o2.sees (by omega) l0 l1 l2 WFh.out hT).mono ?_
  rintro e w14 ⟨⟨u14, rfl, o14⟩, b14⟩
  have s14 := b14.size
  obtain ⟨U14, f14, rfl⟩ := o14.form
  replace sA0 := sA0.below b14 (by omega)
  replace sA1 := sA1.below b14 (by omega)
  replace sA2 := sA2.below b14 (by omega)
  replace kA := kA.below b14 kA.lt
  replace hT := hT.on b14
  replace o3 := o3.below b14 (by omega)
  replace kW := kW.below b14 kW.lt
  replace kX := kX.below b14 kX.lt
  replace kG := kG.below b14 kG.lt
  replace m5 := m5.below b14 (by omega)
  replace o13 := o13.below b14 (by omega)
  replace hb := below_on hb b14 (Nat.le_refl _)
  clear b14
  clear o13
  have ab14 := (Below.refl w14.heap.size w14).alloc (Nat.le_refl _) (.cells #[.int .i64 (partF p), .slice U14 (sidesV p).length f14] 39)
  have as14 : (w14.alloc (.cells #[.int .i64 (partF p), .slice U14 (sidesV p).length f14] 39)).heap.size = w14.heap.size + 1 := by simp
  replace sA0 := sA0.below ab14 (by omega)
  replace sA1 := sA1.below ab14 (by omega)
  replace sA2 := sA2.below ab14 (by omega)
  replace kA := kA.below ab14 kA.lt
  replace hT := hT.on ab14
  replace o3 := o3.below ab14 (by omega)
  replace kW := kW.below ab14 kW.lt
  replace kX := kX.below ab14 kX.lt
  replace kG := kG.below ab14 kG.lt
  replace m5 := m5.below ab14 (by omega)
  replace o14 := o14.below ab14 (by omega)
  replace hb := below_on hb ab14 (Nat.le_refl _)
  have kH := Blk.new w14 39 #[.int .i64 (partF p), .slice U14 (sidesV p).length f14]
  clear ab14
  have ckA0 := kA.cell 0 (u := .slice A0 p.T.length a0) rfl
  have ckA1 := kA.cell 1 (u := .slice A1 p.F.length a1) rfl
  have ckA2 := kA.cell 2 (u := .slice A2 p.N.length a2) rfl
  have ckA3 := kA.cell 3 (u := .int .i64 p.L) rfl
  have ckA4 := kA.cell 4 (u := .int .i64 p.S) rfl
  have ckA5 := kA.cell 5 (u := .int .i64 p.E) rfl
  have ckW0 := kW.cell 0 (u := .int .i64 (partF p)) rfl
  have ckW1 := kW.cell 1 (u := .slice U3 (sidesV p).length f3) rfl
  have ckX0 := kX.cell 0 (u := .slice P4_0 p.T.length e4_0) rfl
  have ckX1 := kX.cell 1 (u := .slice P4_1 p.F.length e4_1) rfl
  have ckX2 := kX.cell 2 (u := .slice P4_2 p.N.length e4_2) rfl
  have ckX3 := kX.cell 3 (u := .int .i64 p.L) rfl
  have ckX4 := kX.cell 4 (u := .int .i64 p.S) rfl
  have ckX5 := kX.cell 5 (u := .int .i64 p.E) rfl
  have ckG0 := kG.cell 0 (u := .int .i64 (partF p)) rfl
  have ckG1 := kG.cell 1 (u := .slice U5 (sidesV p).length f5) rfl
  have ckH0 := kH.cell 0 (u := .int .i64 (partF p)) rfl
  have ckH1 := kH.cell 1 (u := .slice U14 (sidesV p).length f14) rfl
  go_wp2_with fail
  clear ckA0 ckA1 ckA2 ckA3 ckA4 ckA5 ckW0 ckW1 ckX0 ckX1 ckX2 ckX3 ckX4 ckX5 ckG0 ckG1 ckH0 ckH1
  generalize w14.alloc (.cells #[.int .i64 (partF p), .slice U14 (sidesV p).length f14] 39) = x14 at *
  refine (eqClassesResult_same _ _ _ _ _ _ _ o14.sees o3.sees (by omega) (by omega) (by omega)).mono ?_
  rintro e w15 ⟨rfl, b15⟩
  have s15 := b15.size
  replace sA0 := sA0.below b15 (by omega)
  replace sA1 := sA1.below b15 (by omega)
  replace sA2 := sA2.below b15 (by omega)
  replace kA := kA.below b15 kA.lt
  replace hT := hT.on b15
  replace o3 := o3.below b15 (by omega)
  replace kW := kW.below b15 kW.lt
  replace kX := kX.below b15 kX.lt
  replace kG := kG.below b15 kG.lt
  replace m5 := m5.below b15 (by omega)
  replace o14 := o14.below b15 (by omega)
  replace kH := kH.below b15 kH.lt
  replace hb := below_on hb b15 (Nat.le_refl _)
  clear b15
  have ckA0 := kA.cell 0 (u := .slice A0 p.T.length a0) rfl
  have ckA1 := kA.cell 1 (u := .slice A1 p.F.length a1) rfl
  have ckA2 := kA.cell 2 (u := .slice A2 p.N.length a2) rfl
  have ckA3 := kA.cell 3 (u := .int .i64 p.L) rfl
  have ckA4 := kA.cell 4 (u := .int .i64 p.S) rfl
  have ckA5 := kA.cell 5 (u := .int .i64 p.E) rfl
  have ckW0 := kW.cell 0 (u := .int .i64 (partF p)) rfl
  have ckW1 := kW.cell 1 (u := .slice U3 (sidesV p).length f3) rfl
  have ckX0 := kX.cell 0 (u := .slice P4_0 p.T.length e4_0) rfl
  have ckX1 := kX.cell 1 (u := .slice P4_1 p.F.length e4_1) rfl
  have ckX2 := kX.cell 2 (u := .slice P4_2 p.N.length e4_2) rfl
  have ckX3 := kX.cell 3 (u := .int .i64 p.L) rfl
  have ckX4 := kX.cell 4 (u := .int .i64 p.S) rfl
  have ckX5 := kX.cell 5 (u := .int .i64 p.E) rfl
  have ckG0 := kG.cell 0 (u := .int .i64 (partF p)) rfl
  have ckG1 := kG.cell 1 (u := .slice U5 (sidesV p).length f5) rfl
  have ckH0 := kH.cell 0 (u := .int .i64 (partF p)) rfl
  have ckH1 := kH.cell 1 (u := .slice U14 (sidesV p).length f14) rfl
  go_wp2_with fail
  clear ckA0 ckA1 ckA2 ckA3 ckA4 ckA5 ckW0 ckW1 ckX0 ckX1 ckX2 ckX3 ckX4 ckX5 ckG0 ckG1 ckH0 ckH1
  refine (heldClassesResult_own _ _ (sidesV p).length 1 _ _ m5.sees (by omega) (by omega) (by omega) (by omega)).mono ?_
  rintro e w16 ⟨rfl, b16⟩
  have s16 := b16.size
  replace sA0 := sA0.below b16 (by omega)
  replace sA1 := sA1.below b16 (by omega)
  replace sA2 := sA2.below b16 (by omega)
  replace kA := kA.below b16 kA.lt
  replace hT := hT.on b16
  replace o3 := o3.below b16 (by omega)
  replace kW := kW.below b16 kW.lt
  replace kX := kX.below b16 kX.lt
  replace kG := kG.below b16 kG.lt
  replace m5 := m5.below b16 (by omega)
  replace o14 := o14.below b16 (by omega)
  replace kH := kH.below b16 kH.lt
  replace hb := below_on hb b16 (Nat.le_refl _)
  clear b16
  go_wp2
  go_ret
  exact ⟨rfl, hb⟩
set_option maxRecDepth 100000 in
set_option maxHeartbeats 8000000 in
theorem exactPairsOf_walk (HS : ∀ (v0 v1 v2 : Value) (p : Prt) (w : World) (B : Nat), Sees w B .i64 v0 p.T → Sees w B .i64 v1 p.F → Sees w B .i64 v2 p.N → B ≤ w.heap.size → p.T.length < 1000000000 → p.F.length < 1000000000 → p.N.length < 1000000000 → PartWf p →
      Calls Tryd.prog 11 #[.agg #[v0, v1, v2, .int .i64 p.L, .int .i64 p.S, .int .i64 p.E]] w fun e w' => (∃ u, e = .returned (.agg #[.int .i64 (partF p), u]) ∧ OwnPr w' w.heap.size w'.heap.size 34 u (pairsV p)) ∧ Below w.heap.size w w')
    (HI : ∀ (v0 v1 v2 : Value) (p : Prt) (w : World) (B : Nat), Sees w B .i64 v0 p.T → Sees w B .i64 v1 p.F → Sees w B .i64 v2 p.N → B ≤ w.heap.size → p.T.length < 1000000000 → p.F.length < 1000000000 → p.N.length < 1000000000 → PartWf p → Pairs w →
      Calls Tryd.prog 10 #[.agg #[v0, v1, v2, .int .i64 p.L, .int .i64 p.S, .int .i64 p.E]] w fun e w' => (∃ u, e = .returned (.agg #[.int .i64 (partF p), u]) ∧ OwnPr w' w.heap.size w'.heap.size 34 u (pairsV p)) ∧ Below w.heap.size w w')
    {v0 v1 v2 : Value} {p : Prt} {w : World} (h : PartIn w v0 v1 v2 p) (hT : Pairs w) (hv : (pairsV p).length < 300000001) :
    Calls Tryd.prog 5 #[.agg #[v0, v1, v2, .int .i64 p.L, .int .i64 p.S, .int .i64 p.E]] w fun e w' => e = .returned (.bool true) ∧ Below w.heap.size w w' := by
  have WF : PartWf p := ⟨h.w0, h.w1, h.w2, h.wL, h.wS, h.wE⟩
  have WFh := Lib.hid WF
  have HSh := Lib.hid HS
  have HIh := Lib.hid HI
  have mx : maxLen ≤ 9223372036854775807 := by unfold maxLen; omega
  have sA0 := h.s0
  have sA1 := h.s1
  have sA2 := h.s2
  have m0 := h.l0
  have m1 := h.l1
  have m2 := h.l2
  clear h HS HI WF
  have kA := Blk.new w 42 #[v0, v1, v2, .int .i64 p.L, .int .i64 p.S, .int .i64 p.E]
  have hb := (Below.refl w.heap.size w).alloc (Nat.le_refl _) (.cells #[v0, v1, v2, .int .i64 p.L, .int .i64 p.S, .int .i64 p.E] 42)
  have z0 : (w.alloc (.cells #[v0, v1, v2, .int .i64 p.L, .int .i64 p.S, .int .i64 p.E] 42)).heap.size = w.heap.size + 1 := by simp
  replace sA0 := sA0.below hb (Nat.le_refl _)
  replace sA1 := sA1.below hb (Nat.le_refl _)
  replace sA2 := sA2.below hb (Nat.le_refl _)
  obtain ⟨A0, a0, rfl, _⟩ := id sA0
  obtain ⟨A1, a1, rfl, _⟩ := id sA1
  obtain ⟨A2, a2, rfl, _⟩ := id sA2
  have hT0 := hT.lt
  replace hT := hT.on hb
  have SZ := Lib.hid (fun w => szPart_any A0 A1 A2 p.T.length p.F.length p.N.length a0 a1 a2 p.L p.S p.E w (by omega) (by omega) (by omega))
  go_enter Tryd.func5, Tryd.ntmps5
  have ckA0 := kA.cell 0 (u := .slice A0 p.T.length a0) rfl
  have ckA1 := kA.cell 1 (u := .slice A1 p.F.length a1) rfl
  have ckA2 := kA.cell 2 (u := .slice A2 p.N.length a2) rfl
  have ckA3 := kA.cell 3 (u := .int .i64 p.L) rfl
  have ckA4 := kA.cell 4 (u := .int .i64 p.S) rfl
  have ckA5 := kA.cell 5 (u := .int .i64 p.E) rfl
  go_wp2_with fail
  clear ckA0 ckA1 ckA2 ckA3 ckA4 ckA5
  generalize w.alloc (.cells #[.slice A0 p.T.length a0, .slice A1 p.F.length a1, .slice A2 p.N.length a2, .int .i64 p.L, .int .i64 p.S, .int .i64 p.E] 42) = x0 at *
  refine (SZ.out _).mono ?_
  rintro e w1 ⟨rfl, b1⟩
  have s1 := b1.size
  replace sA0 := sA0.below b1 (by omega)
  replace sA1 := sA1.below b1 (by omega)
  replace sA2 := sA2.below b1 (by omega)
  replace kA := kA.below b1 kA.lt
  replace hT := hT.on b1
  replace hb := below_on hb b1 (Nat.le_refl _)
  clear SZ b1
  by_cases hsz : ((p.T.length + p.F.length + p.N.length : Nat) : Int) ≤ 1048576
  case neg =>
    rw [if_neg hsz]
    clear hsz
    go_wp2
    go_ret
    exact ⟨rfl, hb⟩
  rw [if_pos hsz]
  have l0 : p.T.length < 1000000000 := by omega
  have l1 : p.F.length < 1000000000 := by omega
  have l2 : p.N.length < 1000000000 := by omega
  have hnn : ¬ ((1048576 : Int) - ((p.T.length + p.F.length + p.N.length : Nat) : Int) < 0) := by omega
  obtain ⟨lf, hlf⟩ : ∃ lf, lf = (1048576 : Int) - ((p.T.length + p.F.length + p.N.length : Nat) : Int) := ⟨_, rfl⟩
  rw [← hlf] at hnn ⊢
  clear hlf hsz
  have ckA0 := kA.cell 0 (u := .slice A0 p.T.length a0) rfl
  have ckA1 := kA.cell 1 (u := .slice A1 p.F.length a1) rfl
  have ckA2 := kA.cell 2 (u := .slice A2 p.N.length a2) rfl
  have ckA3 := kA.cell 3 (u := .int .i64 p.L) rfl
  have ckA4 := kA.cell 4 (u := .int .i64 p.S) rfl
  have ckA5 := kA.cell 5 (u := .int .i64 p.E) rfl
  go_wp2_with fail
  clear ckA0 ckA1 ckA2 ckA3 ckA4 ckA5
  refine (toPart_own _ _ _ p _ _ sA0 sA1 sA2 (by omega) l0 l1 l2).mono ?_
  rintro e w2 ⟨⟨p2_0, p2_1, p2_2, rfl, o2⟩, b2⟩
  have s2 := b2.size
  obtain ⟨P2_0, e2_0, rfl⟩ := o2.o0.form
  obtain ⟨P2_1, e2_1, rfl⟩ := o2.o1.form
  obtain ⟨P2_2, e2_2, rfl⟩ := o2.o2.form
  replace sA0 := sA0.below b2 (by omega)
  replace sA1 := sA1.below b2 (by omega)
  replace sA2 := sA2.below b2 (by omega)
  replace kA := kA.below b2 kA.lt
  replace hT := hT.on b2
  replace hb := below_on hb b2 (Nat.le_refl _)
  clear b2
  have ckA0 := kA.cell 0 (u := .slice A0 p.T.length a0) rfl
  have ckA1 := kA.cell 1 (u := .slice A1 p.F.length a1) rfl
  have ckA2 := kA.cell 2 (u := .slice A2 p.N.length a2) rfl
  have ckA3 := kA.cell 3 (u := .int .i64 p.L) rfl
  have ckA4 := kA.cell 4 (u := .int .i64 p.S) rfl
  have ckA5 := kA.cell 5 (u := .int .i64 p.E) rfl
  go_wp2_with fail
  clear ckA0 ckA1 ckA2 ckA3 ckA4 ckA5
  refine (HSh.out _ _ _ p _ _ o2.o0.sees o2.o1.sees o2.o2.sees (by omega) l0 l1 l2 WFh.out).mono ?_
  rintro e w3 ⟨⟨u3, rfl, o3⟩, b3⟩
  have s3 := b3.size
  obtain ⟨U3, f3, rfl⟩ := o3.form
  replace sA0 := sA0.below b3 (by omega)
  replace sA1 := sA1.below b3 (by omega)
  replace sA2 := sA2.below b3 (by omega)
  replace kA := kA.below b3 kA.lt
  replace hT := hT.on b3
  replace o2 := o2.below b3 (by omega)
  replace hb := below_on hb b3 (Nat.le_refl _)
  clear b3
  clear o2
  have ab3 := (Below.refl w3.heap.size w3).alloc (Nat.le_refl _) (.cells #[.int .i64 (partF p), .slice U3 (pairsV p).length f3] 30)
  have as3 : (w3.alloc (.cells #[.int .i64 (partF p), .slice U3 (pairsV p).length f3] 30)).heap.size = w3.heap.size + 1 := by simp
  replace sA0 := sA0.below ab3 (by omega)
  replace sA1 := sA1.below ab3 (by omega)
  replace sA2 := sA2.below ab3 (by omega)
  replace kA := kA.below ab3 kA.lt
  replace hT := hT.on ab3
  replace o3 := o3.below ab3 (by omega)
  replace hb := below_on hb ab3 (Nat.le_refl _)
  have kW := Blk.new w3 30 #[.int .i64 (partF p), .slice U3 (pairsV p).length f3]
  clear ab3
  have ckA0 := kA.cell 0 (u := .slice A0 p.T.length a0) rfl
  have ckA1 := kA.cell 1 (u := .slice A1 p.F.length a1) rfl
  have ckA2 := kA.cell 2 (u := .slice A2 p.N.length a2) rfl
  have ckA3 := kA.cell 3 (u := .int .i64 p.L) rfl
  have ckA4 := kA.cell 4 (u := .int .i64 p.S) rfl
  have ckA5 := kA.cell 5 (u := .int .i64 p.E) rfl
  have ckW0 := kW.cell 0 (u := .int .i64 (partF p)) rfl
  have ckW1 := kW.cell 1 (u := .slice U3 (pairsV p).length f3) rfl
  go_wp2_with fail
  clear ckA0 ckA1 ckA2 ckA3 ckA4 ckA5 ckW0 ckW1
  generalize w3.alloc (.cells #[.int .i64 (partF p), .slice U3 (pairsV p).length f3] 30) = x3 at *
  refine (toPart_own _ _ _ p _ _ sA0 sA1 sA2 (by omega) l0 l1 l2).mono ?_
  rintro e w4 ⟨⟨p4_0, p4_1, p4_2, rfl, o4⟩, b4⟩
  have s4 := b4.size
  obtain ⟨P4_0, e4_0, rfl⟩ := o4.o0.form
  obtain ⟨P4_1, e4_1, rfl⟩ := o4.o1.form
  obtain ⟨P4_2, e4_2, rfl⟩ := o4.o2.form
  replace sA0 := sA0.below b4 (by omega)
  replace sA1 := sA1.below b4 (by omega)
  replace sA2 := sA2.below b4 (by omega)
  replace kA := kA.below b4 kA.lt
  replace hT := hT.on b4
  replace o3 := o3.below b4 (by omega)
  replace kW := kW.below b4 kW.lt
  replace hb := below_on hb b4 (Nat.le_refl _)
  clear b4
  have ab4 := (Below.refl w4.heap.size w4).alloc (Nat.le_refl _) (.cells #[.slice P4_0 p.T.length e4_0, .slice P4_1 p.F.length e4_1, .slice P4_2 p.N.length e4_2, .int .i64 p.L, .int .i64 p.S, .int .i64 p.E] 26)
  have as4 : (w4.alloc (.cells #[.slice P4_0 p.T.length e4_0, .slice P4_1 p.F.length e4_1, .slice P4_2 p.N.length e4_2, .int .i64 p.L, .int .i64 p.S, .int .i64 p.E] 26)).heap.size = w4.heap.size + 1 := by simp
  replace sA0 := sA0.below ab4 (by omega)
  replace sA1 := sA1.below ab4 (by omega)
  replace sA2 := sA2.below ab4 (by omega)
  replace kA := kA.below ab4 kA.lt
  replace hT := hT.on ab4
  replace o3 := o3.below ab4 (by omega)
  replace kW := kW.below ab4 kW.lt
  replace o4 := o4.below ab4 (by omega)
  replace hb := below_on hb ab4 (Nat.le_refl _)
  have kX := Blk.new w4 26 #[.slice P4_0 p.T.length e4_0, .slice P4_1 p.F.length e4_1, .slice P4_2 p.N.length e4_2, .int .i64 p.L, .int .i64 p.S, .int .i64 p.E]
  clear ab4
  have ckA0 := kA.cell 0 (u := .slice A0 p.T.length a0) rfl
  have ckA1 := kA.cell 1 (u := .slice A1 p.F.length a1) rfl
  have ckA2 := kA.cell 2 (u := .slice A2 p.N.length a2) rfl
  have ckA3 := kA.cell 3 (u := .int .i64 p.L) rfl
  have ckA4 := kA.cell 4 (u := .int .i64 p.S) rfl
  have ckA5 := kA.cell 5 (u := .int .i64 p.E) rfl
  have ckW0 := kW.cell 0 (u := .int .i64 (partF p)) rfl
  have ckW1 := kW.cell 1 (u := .slice U3 (pairsV p).length f3) rfl
  have ckX0 := kX.cell 0 (u := .slice P4_0 p.T.length e4_0) rfl
  have ckX1 := kX.cell 1 (u := .slice P4_1 p.F.length e4_1) rfl
  have ckX2 := kX.cell 2 (u := .slice P4_2 p.N.length e4_2) rfl
  have ckX3 := kX.cell 3 (u := .int .i64 p.L) rfl
  have ckX4 := kX.cell 4 (u := .int .i64 p.S) rfl
  have ckX5 := kX.cell 5 (u := .int .i64 p.E) rfl
  go_wp2_with fail
  clear ckA0 ckA1 ckA2 ckA3 ckA4 ckA5 ckW0 ckW1 ckX0 ckX1 ckX2 ckX3 ckX4 ckX5
  generalize w4.alloc (.cells #[.slice P4_0 p.T.length e4_0, .slice P4_1 p.F.length e4_1, .slice P4_2 p.N.length e4_2, .int .i64 p.L, .int .i64 p.S, .int .i64 p.E] 26) = x4 at *
  refine (HIh.out _ _ _ p _ _ o4.o0.sees o4.o1.sees o4.o2.sees (by omega) l0 l1 l2 WFh.out hT).mono ?_
  rintro e w5 ⟨⟨u5, rfl, o5⟩, b5⟩
  have s5 := b5.size
  obtain ⟨U5, f5, rfl⟩ := o5.form
  replace sA0 := sA0.below b5 (by omega)
  replace sA1 := sA1.below b5 (by omega)
  replace sA2 := sA2.below b5 (by omega)
  replace kA := kA.below b5 kA.lt
  replace hT := hT.on b5
  replace o3 := o3.below b5 (by omega)
  replace kW := kW.below b5 kW.lt
  replace o4 := o4.below b5 (by omega)
  replace kX := kX.below b5 kX.lt
  replace hb := below_on hb b5 (Nat.le_refl _)
  clear b5
  have ab5 := (Below.refl w5.heap.size w5).alloc (Nat.le_refl _) (.cells #[.int .i64 (partF p), .slice U5 (pairsV p).length f5] 30)
  have as5 : (w5.alloc (.cells #[.int .i64 (partF p), .slice U5 (pairsV p).length f5] 30)).heap.size = w5.heap.size + 1 := by simp
  replace sA0 := sA0.below ab5 (by omega)
  replace sA1 := sA1.below ab5 (by omega)
  replace sA2 := sA2.below ab5 (by omega)
  replace kA := kA.below ab5 kA.lt
  replace hT := hT.on ab5
  replace o3 := o3.below ab5 (by omega)
  replace kW := kW.below ab5 kW.lt
  replace o4 := o4.below ab5 (by omega)
  replace kX := kX.below ab5 kX.lt
  replace o5 := o5.below ab5 (by omega)
  replace hb := below_on hb ab5 (Nat.le_refl _)
  have kG := Blk.new w5 30 #[.int .i64 (partF p), .slice U5 (pairsV p).length f5]
  clear ab5
  have ckA0 := kA.cell 0 (u := .slice A0 p.T.length a0) rfl
  have ckA1 := kA.cell 1 (u := .slice A1 p.F.length a1) rfl
  have ckA2 := kA.cell 2 (u := .slice A2 p.N.length a2) rfl
  have ckA3 := kA.cell 3 (u := .int .i64 p.L) rfl
  have ckA4 := kA.cell 4 (u := .int .i64 p.S) rfl
  have ckA5 := kA.cell 5 (u := .int .i64 p.E) rfl
  have ckW0 := kW.cell 0 (u := .int .i64 (partF p)) rfl
  have ckW1 := kW.cell 1 (u := .slice U3 (pairsV p).length f3) rfl
  have ckX0 := kX.cell 0 (u := .slice P4_0 p.T.length e4_0) rfl
  have ckX1 := kX.cell 1 (u := .slice P4_1 p.F.length e4_1) rfl
  have ckX2 := kX.cell 2 (u := .slice P4_2 p.N.length e4_2) rfl
  have ckX3 := kX.cell 3 (u := .int .i64 p.L) rfl
  have ckX4 := kX.cell 4 (u := .int .i64 p.S) rfl
  have ckX5 := kX.cell 5 (u := .int .i64 p.E) rfl
  have ckG0 := kG.cell 0 (u := .int .i64 (partF p)) rfl
  have ckG1 := kG.cell 1 (u := .slice U5 (pairsV p).length f5) rfl
  go_wp2_with fail
  clear ckA0 ckA1 ckA2 ckA3 ckA4 ckA5 ckW0 ckW1 ckX0 ckX1 ckX2 ckX3 ckX4 ckX5 ckG0 ckG1
  generalize w5.alloc (.cells #[.int .i64 (partF p), .slice U5 (pairsV p).length f5] 30) = x5 at *
  refine (eqPairsResult_same _ _ _ _ _ _ _ o5.sees o3.sees hv (by omega) (by omega)).mono ?_
  rintro e w6 ⟨rfl, b6⟩
  have s6 := b6.size
  replace sA0 := sA0.below b6 (by omega)
  replace sA1 := sA1.below b6 (by omega)
  replace sA2 := sA2.below b6 (by omega)
  replace kA := kA.below b6 kA.lt
  replace hT := hT.on b6
  replace o3 := o3.below b6 (by omega)
  replace kW := kW.below b6 kW.lt
  replace o4 := o4.below b6 (by omega)
  replace kX := kX.below b6 kX.lt
  replace o5 := o5.below b6 (by omega)
  replace kG := kG.below b6 kG.lt
  replace hb := below_on hb b6 (Nat.le_refl _)
  clear b6
  have ckA0 := kA.cell 0 (u := .slice A0 p.T.length a0) rfl
  have ckA1 := kA.cell 1 (u := .slice A1 p.F.length a1) rfl
  have ckA2 := kA.cell 2 (u := .slice A2 p.N.length a2) rfl
  have ckA3 := kA.cell 3 (u := .int .i64 p.L) rfl
  have ckA4 := kA.cell 4 (u := .int .i64 p.S) rfl
  have ckA5 := kA.cell 5 (u := .int .i64 p.E) rfl
  have ckW0 := kW.cell 0 (u := .int .i64 (partF p)) rfl
  have ckW1 := kW.cell 1 (u := .slice U3 (pairsV p).length f3) rfl
  have ckX0 := kX.cell 0 (u := .slice P4_0 p.T.length e4_0) rfl
  have ckX1 := kX.cell 1 (u := .slice P4_1 p.F.length e4_1) rfl
  have ckX2 := kX.cell 2 (u := .slice P4_2 p.N.length e4_2) rfl
  have ckX3 := kX.cell 3 (u := .int .i64 p.L) rfl
  have ckX4 := kX.cell 4 (u := .int .i64 p.S) rfl
  have ckX5 := kX.cell 5 (u := .int .i64 p.E) rfl
  have ckG0 := kG.cell 0 (u := .int .i64 (partF p)) rfl
  have ckG1 := kG.cell 1 (u := .slice U5 (pairsV p).length f5) rfl
  have CT := Lib.hid (toPart_own (.slice A0 p.T.length a0) (.slice A1 p.F.length a1) (.slice A2 p.N.length a2) p w6.drew _ (sA0.below (drewB w6) (by omega)) (sA1.below (drewB w6) (by omega)) (sA2.below (drewB w6) (by omega)) (show w.heap.size ≤ w6.heap.size by omega) l0 l1 l2)
  go_wp2_with fail
  go_region_held3 (fun w' => w'.cell? ⟨w4.heap.size, 0, none⟩ = some (.slice P4_0 p.T.length e4_0) ∧ w'.cell? ⟨w4.heap.size, 1, none⟩ = some (.slice P4_1 p.F.length e4_1) ∧ w'.cell? ⟨w4.heap.size, 2, none⟩ = some (.slice P4_2 p.N.length e4_2) ∧ w'.cell? ⟨w4.heap.size, 3, none⟩ = some (.int .i64 p.L) ∧ w'.cell? ⟨w4.heap.size, 4, none⟩ = some (.int .i64 p.S) ∧ w'.cell? ⟨w4.heap.size, 5, none⟩ = some (.int .i64 p.E) ∧ w'.cell? ⟨w.heap.size, 0, none⟩ = some (.slice A0 p.T.length a0) ∧ w'.cell? ⟨w.heap.size, 1, none⟩ = some (.slice A1 p.F.length a1) ∧ w'.cell? ⟨w.heap.size, 2, none⟩ = some (.slice A2 p.N.length a2) ∧ w'.cell? ⟨w.heap.size, 3, none⟩ = some (.int .i64 p.L) ∧ w'.cell? ⟨w.heap.size, 4, none⟩ = some (.int .i64 p.S) ∧ w'.cell? ⟨w.heap.size, 5, none⟩ = some (.int .i64 p.E)) (first | exact ⟨ckX0, ckX1, ckX2, ckX3, ckX4, ckX5, ckA0, ckA1, ckA2, ckA3, ckA4, ckA5⟩ | exact ⟨x7kX0, x7kX1, x7kX2, x7kX3, x7kX4, x7kX5, x7kA0, x7kA1, x7kA2, x7kA3, x7kA4, x7kA5⟩ | exact ⟨x8kX0, x8kX1, x8kX2, x8kX3, x8kX4, x8kX5, x8kA0, x8kA1, x8kA2, x8kA3, x8kA4, x8kA5⟩) (first
    | (go_at_call 24; refine CT.out.mono ?_; rintro e w7 ⟨⟨p7_0, p7_1, p7_2, rfl, o7⟩, b7⟩
       have qb7 : Below w6.heap.size w6 w7 := ⟨b7.os, b7.tape, b7.output, b7.size, b7.block⟩
       have s7 := qb7.size
       obtain ⟨P7_0, e7_0, rfl⟩ := o7.o0.form
       obtain ⟨P7_1, e7_1, rfl⟩ := o7.o1.form
       obtain ⟨P7_2, e7_2, rfl⟩ := o7.o2.form
       replace sA0 := sA0.below qb7 (by omega)
       replace sA1 := sA1.below qb7 (by omega)
       replace sA2 := sA2.below qb7 (by omega)
       replace kA := kA.below qb7 kA.lt
       replace hT := hT.on qb7
       replace o3 := o3.below qb7 (by omega)
       replace kW := kW.below qb7 kW.lt
       replace o4 := o4.below qb7 (by omega)
       replace kX := kX.below qb7 kX.lt
       replace o5 := o5.below qb7 (by omega)
       replace kG := kG.below qb7 kG.lt
       replace hb := below_on hb qb7 (Nat.le_refl _)
       clear b7 qb7
       have x7kX0 := kX.cell 0 (u := .slice P4_0 p.T.length e4_0) rfl
       have x7kX1 := kX.cell 1 (u := .slice P4_1 p.F.length e4_1) rfl
       have x7kX2 := kX.cell 2 (u := .slice P4_2 p.N.length e4_2) rfl
       have x7kX3 := kX.cell 3 (u := .int .i64 p.L) rfl
       have x7kX4 := kX.cell 4 (u := .int .i64 p.S) rfl
       have x7kX5 := kX.cell 5 (u := .int .i64 p.E) rfl
       have x7kA0 := kA.cell 0 (u := .slice A0 p.T.length a0) rfl
       have x7kA1 := kA.cell 1 (u := .slice A1 p.F.length a1) rfl
       have x7kA2 := kA.cell 2 (u := .slice A2 p.N.length a2) rfl
       have x7kA3 := kA.cell 3 (u := .int .i64 p.L) rfl
       have x7kA4 := kA.cell 4 (u := .int .i64 p.S) rfl
       have x7kA5 := kA.cell 5 (u := .int .i64 p.E) rfl)
    | (go_at_call 26; refine (eqPart_same _ _ _ _ _ _ _ _ _ _ _ _ _ _ _ o4.o0.sees o7.o0.sees l0 o4.o1.sees o7.o1.sees l1 o4.o2.sees o7.o2.sees l2 (by omega) (by omega)).mono ?_; rintro e w8 ⟨rfl, b8⟩
       have s8 := b8.size
       replace sA0 := sA0.below b8 (by omega)
       replace sA1 := sA1.below b8 (by omega)
       replace sA2 := sA2.below b8 (by omega)
       replace kA := kA.below b8 kA.lt
       replace hT := hT.on b8
       replace o3 := o3.below b8 (by omega)
       replace kW := kW.below b8 kW.lt
       replace o4 := o4.below b8 (by omega)
       replace kX := kX.below b8 kX.lt
       replace o5 := o5.below b8 (by omega)
       replace kG := kG.below b8 kG.lt
       replace hb := below_on hb b8 (Nat.le_refl _)
       clear b8 o7
       have x8kX0 := kX.cell 0 (u := .slice P4_0 p.T.length e4_0) rfl
       have x8kX1 := kX.cell 1 (u := .slice P4_1 p.F.length e4_1) rfl
       have x8kX2 := kX.cell 2 (u := .slice P4_2 p.N.length e4_2) rfl
       have x8kX3 := kX.cell 3 (u := .int .i64 p.L) rfl
       have x8kX4 := kX.cell 4 (u := .int .i64 p.S) rfl
       have x8kX5 := kX.cell 5 (u := .int .i64 p.E) rfl
       have x8kA0 := kA.cell 0 (u := .slice A0 p.T.length a0) rfl
       have x8kA1 := kA.cell 1 (u := .slice A1 p.F.length a1) rfl
       have x8kA2 := kA.cell 2 (u := .slice A2 p.N.length a2) rfl
       have x8kA3 := kA.cell 3 (u := .int .i64 p.L) rfl
       have x8kA4 := kA.cell 4 (u := .int .i64 p.S) rfl
       have x8kA5 := kA.cell 5 (u := .int .i64 p.E) rfl))
  clear CT ckA0 ckA1 ckA2 ckA3 ckA4 ckA5 ckW0 ckW1 ckX0 ckX1 ckX2 ckX3 ckX4 ckX5 ckG0 ckG1 x7kX0 x7kX1 x7kX2 x7kX3 x7kX4 x7kX5 x7kA0 x7kA1 x7kA2 x7kA3 x7kA4 x7kA5 x8kX0 x8kX1 x8kX2 x8kX3 x8kX4 x8kX5 x8kA0 x8kA1 x8kA2 x8kA3 x8kA4 x8kA5
  have ckA0 := kA.cell 0 (u := .slice A0 p.T.length a0) rfl
  have ckA1 := kA.cell 1 (u := .slice A1 p.F.length a1) rfl
  have ckA2 := kA.cell 2 (u := .slice A2 p.N.length a2) rfl
  have ckA3 := kA.cell 3 (u := .int .i64 p.L) rfl
  have ckA4 := kA.cell 4 (u := .int .i64 p.S) rfl
  have ckA5 := kA.cell 5 (u := .int .i64 p.E) rfl
  have ckW0 := kW.cell 0 (u := .int .i64 (partF p)) rfl
  have ckW1 := kW.cell 1 (u := .slice U3 (pairsV p).length f3) rfl
  have ckX0 := kX.cell 0 (u := .slice P4_0 p.T.length e4_0) rfl
  have ckX1 := kX.cell 1 (u := .slice P4_1 p.F.length e4_1) rfl
  have ckX2 := kX.cell 2 (u := .slice P4_2 p.N.length e4_2) rfl
  have ckX3 := kX.cell 3 (u := .int .i64 p.L) rfl
  have ckX4 := kX.cell 4 (u := .int .i64 p.S) rfl
  have ckX5 := kX.cell 5 (u := .int .i64 p.E) rfl
  have ckG0 := kG.cell 0 (u := .int .i64 (partF p)) rfl
  have ckG1 := kG.cell 1 (u := .slice U5 (pairsV p).length f5) rfl
  go_wp2_with fail
  clear ckA0 ckA1 ckA2 ckA3 ckA4 ckA5 ckW0 ckW1 ckX0 ckX1 ckX2 ckX3 ckX4 ckX5 ckG0 ckG1
  refine (markPart_own _ _ _ _ _ _ _ _ _ 1 _ _ _ o4.o0 l0 o4.o1 l1 o4.o2 l2 o4.d01 o4.d02 o4.d10 o4.d12 o4.d20 o4.d21 (by omega) (by omega) (by omega)).mono ?_
  rintro e w9 ⟨⟨rfl, -⟩, q9⟩
  clear o4
  have s9 := q9.size
  replace sA0 := sA0.out q9 (by omega) (by omega)
  replace sA1 := sA1.out q9 (by omega) (by omega)
  replace sA2 := sA2.out q9 (by omega) (by omega)
  replace kA := kA.out q9 (by omega)
  replace hT := hT.out q9 (by omega) (by omega)
  replace o3 := o3.out q9 (by omega)
  replace kW := kW.out q9 (by omega)
  replace kX := kX.out q9 (by omega)
  replace o5 := o5.out q9 (by omega)
  replace kG := kG.out q9 (by omega)
  replace hb := hb.trans (q9.to_below (by omega) (by omega))
  clear q9
  have hk9 : ¬ ((1 : Int) + (p.T.length : Int) + (p.F.length : Int) + (p.N.length : Int) < 0) := by omega
  have ckA0 := kA.cell 0 (u := .slice A0 p.T.length a0) rfl
  have ckA1 := kA.cell 1 (u := .slice A1 p.F.length a1) rfl
  have ckA2 := kA.cell 2 (u := .slice A2 p.N.length a2) rfl
  have ckA3 := kA.cell 3 (u := .int .i64 p.L) rfl
  have ckA4 := kA.cell 4 (u := .int .i64 p.S) rfl
  have ckA5 := kA.cell 5 (u := .int .i64 p.E) rfl
  have ckW0 := kW.cell 0 (u := .int .i64 (partF p)) rfl
  have ckW1 := kW.cell 1 (u := .slice U3 (pairsV p).length f3) rfl
  have ckX0 := kX.cell 0 (u := .slice P4_0 p.T.length e4_0) rfl
  have ckX1 := kX.cell 1 (u := .slice P4_1 p.F.length e4_1) rfl
  have ckX2 := kX.cell 2 (u := .slice P4_2 p.N.length e4_2) rfl
  have ckX3 := kX.cell 3 (u := .int .i64 p.L) rfl
  have ckX4 := kX.cell 4 (u := .int .i64 p.S) rfl
  have ckX5 := kX.cell 5 (u := .int .i64 p.E) rfl
  have ckG0 := kG.cell 0 (u := .int .i64 (partF p)) rfl
  have ckG1 := kG.cell 1 (u := .slice U5 (pairsV p).length f5) rfl
  go_wp2_with fail
  clear ckA0 ckA1 ckA2 ckA3 ckA4 ckA5 ckW0 ckW1 ckX0 ckX1 ckX2 ckX3 ckX4 ckX5 ckG0 ckG1
  refine (eqPairsResult_same _ _ _ _ _ _ _ o5.sees o3.sees hv (by omega) (by omega)).mono ?_
  rintro e w10 ⟨rfl, b10⟩
  have s10 := b10.size
  replace sA0 := sA0.below b10 (by omega)
  replace sA1 := sA1.below b10 (by omega)
  replace sA2 := sA2.below b10 (by omega)
  replace kA := kA.below b10 kA.lt
  replace hT := hT.on b10
  replace o3 := o3.below b10 (by omega)
  replace kW := kW.below b10 kW.lt
  replace kX := kX.below b10 kX.lt
  replace o5 := o5.below b10 (by omega)
  replace kG := kG.below b10 kG.lt
  replace hb := below_on hb b10 (Nat.le_refl _)
  clear b10
  have ckA0 := kA.cell 0 (u := .slice A0 p.T.length a0) rfl
  have ckA1 := kA.cell 1 (u := .slice A1 p.F.length a1) rfl
  have ckA2 := kA.cell 2 (u := .slice A2 p.N.length a2) rfl
  have ckA3 := kA.cell 3 (u := .int .i64 p.L) rfl
  have ckA4 := kA.cell 4 (u := .int .i64 p.S) rfl
  have ckA5 := kA.cell 5 (u := .int .i64 p.E) rfl
  have ckW0 := kW.cell 0 (u := .int .i64 (partF p)) rfl
  have ckW1 := kW.cell 1 (u := .slice U3 (pairsV p).length f3) rfl
  have ckX0 := kX.cell 0 (u := .slice P4_0 p.T.length e4_0) rfl
  have ckX1 := kX.cell 1 (u := .slice P4_1 p.F.length e4_1) rfl
  have ckX2 := kX.cell 2 (u := .slice P4_2 p.N.length e4_2) rfl
  have ckX3 := kX.cell 3 (u := .int .i64 p.L) rfl
  have ckX4 := kX.cell 4 (u := .int .i64 p.S) rfl
  have ckX5 := kX.cell 5 (u := .int .i64 p.E) rfl
  have ckG0 := kG.cell 0 (u := .int .i64 (partF p)) rfl
  have ckG1 := kG.cell 1 (u := .slice U5 (pairsV p).length f5) rfl
  go_wp2_with fail
  clear ckA0 ckA1 ckA2 ckA3 ckA4 ckA5 ckW0 ckW1 ckX0 ckX1 ckX2 ckX3 ckX4 ckX5 ckG0 ckG1
  refine (markPairsResult_own _ _ _ 1 _ _ _ o5 hv (by omega) (by omega) (by omega)).mono ?_
  rintro e w11 ⟨⟨rfl, m5⟩, q11⟩
  clear o5
  have s11 := q11.size
  replace sA0 := sA0.out q11 (by omega) (by omega)
  replace sA1 := sA1.out q11 (by omega) (by omega)
  replace sA2 := sA2.out q11 (by omega) (by omega)
  replace kA := kA.out q11 (by omega)
  replace hT := hT.out q11 (by omega) (by omega)
  replace o3 := o3.out q11 (by omega)
  replace kW := kW.out q11 (by omega)
  replace kX := kX.out q11 (by omega)
  replace kG := kG.out q11 (by omega)
  replace hb := hb.trans (q11.to_below (by omega) (by omega))
  clear q11
  have ckA0 := kA.cell 0 (u := .slice A0 p.T.length a0) rfl
  have ckA1 := kA.cell 1 (u := .slice A1 p.F.length a1) rfl
  have ckA2 := kA.cell 2 (u := .slice A2 p.N.length a2) rfl
  have ckA3 := kA.cell 3 (u := .int .i64 p.L) rfl
  have ckA4 := kA.cell 4 (u := .int .i64 p.S) rfl
  have ckA5 := kA.cell 5 (u := .int .i64 p.E) rfl
  have ckW0 := kW.cell 0 (u := .int .i64 (partF p)) rfl
  have ckW1 := kW.cell 1 (u := .slice U3 (pairsV p).length f3) rfl
  have ckX0 := kX.cell 0 (u := .slice P4_0 p.T.length e4_0) rfl
  have ckX1 := kX.cell 1 (u := .slice P4_1 p.F.length e4_1) rfl
  have ckX2 := kX.cell 2 (u := .slice P4_2 p.N.length e4_2) rfl
  have ckX3 := kX.cell 3 (u := .int .i64 p.L) rfl
  have ckX4 := kX.cell 4 (u := .int .i64 p.S) rfl
  have ckX5 := kX.cell 5 (u := .int .i64 p.E) rfl
  have ckG0 := kG.cell 0 (u := .int .i64 (partF p)) rfl
  have ckG1 := kG.cell 1 (u := .slice U5 (pairsV p).length f5) rfl
  go_wp2_with fail
  clear ckA0 ckA1 ckA2 ckA3 ckA4 ckA5 ckW0 ckW1 ckX0 ckX1 ckX2 ckX3 ckX4 ckX5 ckG0 ckG1
  refine (heldPairsResult_own _ _ (pairsV p) 1 _ _ m5.sees hv (by omega) (by omega) (by omega)).mono ?_
  rintro e w12 ⟨rfl, b12⟩
  have s12 := b12.size
  replace sA0 := sA0.below b12 (by omega)
  replace sA1 := sA1.below b12 (by omega)
  replace sA2 := sA2.below b12 (by omega)
  replace kA := kA.below b12 kA.lt
  replace hT := hT.on b12
  replace o3 := o3.below b12 (by omega)
  replace kW := kW.below b12 kW.lt
  replace kX := kX.below b12 kX.lt
  replace kG := kG.below b12 kG.lt
  replace m5 := m5.below b12 (by omega)
  replace hb := below_on hb b12 (Nat.le_refl _)
  clear b12
  have ckA0 := kA.cell 0 (u := .slice A0 p.T.length a0) rfl
  have ckA1 := kA.cell 1 (u := .slice A1 p.F.length a1) rfl
  have ckA2 := kA.cell 2 (u := .slice A2 p.N.length a2) rfl
  have ckA3 := kA.cell 3 (u := .int .i64 p.L) rfl
  have ckA4 := kA.cell 4 (u := .int .i64 p.S) rfl
  have ckA5 := kA.cell 5 (u := .int .i64 p.E) rfl
  have ckW0 := kW.cell 0 (u := .int .i64 (partF p)) rfl
  have ckW1 := kW.cell 1 (u := .slice U3 (pairsV p).length f3) rfl
  have ckX0 := kX.cell 0 (u := .slice P4_0 p.T.length e4_0) rfl
  have ckX1 := kX.cell 1 (u := .slice P4_1 p.F.length e4_1) rfl
  have ckX2 := kX.cell 2 (u := .slice P4_2 p.N.length e4_2) rfl
  have ckX3 := kX.cell 3 (u := .int .i64 p.L) rfl
  have ckX4 := kX.cell 4 (u := .int .i64 p.S) rfl
  have ckX5 := kX.cell 5 (u := .int .i64 p.E) rfl
  have ckG0 := kG.cell 0 (u := .int .i64 (partF p)) rfl
  have ckG1 := kG.cell 1 (u := .slice U5 (pairsV p).length f5) rfl
  go_wp2_with fail
  clear ckA0 ckA1 ckA2 ckA3 ckA4 ckA5 ckW0 ckW1 ckX0 ckX1 ckX2 ckX3 ckX4 ckX5 ckG0 ckG1
  refine (toPart_own _ _ _ p _ _ sA0 sA1 sA2 (by omega) l0 l1 l2).mono ?_
  rintro e w13 ⟨⟨p13_0, p13_1, p13_2, rfl, o13⟩, b13⟩
  have s13 := b13.size
  obtain ⟨P13_0, e13_0, rfl⟩ := o13.o0.form
  obtain ⟨P13_1, e13_1, rfl⟩ := o13.o1.form
  obtain ⟨P13_2, e13_2, rfl⟩ := o13.o2.form
  replace sA0 := sA0.below b13 (by omega)
  replace sA1 := sA1.below b13 (by omega)
  replace sA2 := sA2.below b13 (by omega)
  replace kA := kA.below b13 kA.lt
  replace hT := hT.on b13
  replace o3 := o3.below b13 (by omega)
  replace kW := kW.below b13 kW.lt
  replace kX := kX.below b13 kX.lt
  replace kG := kG.below b13 kG.lt
  replace m5 := m5.below b13 (by omega)
  replace hb := below_on hb b13 (Nat.le_refl _)
  clear b13
  have ckA0 := kA.cell 0 (u := .slice A0 p.T.length a0) rfl
  have ckA1 := kA.cell 1 (u := .slice A1 p.F.length a1) rfl
  have ckA2 := kA.cell 2 (u := .slice A2 p.N.length a2) rfl
  have ckA3 := kA.cell 3 (u := .int .i64 p.L) rfl
  have ckA4 := kA.cell 4 (u := .int .i64 p.S) rfl
  have ckA5 := kA.cell 5 (u := .int .i64 p.E) rfl
  have ckW0 := kW.cell 0 (u := .int .i64 (partF p)) rfl
  have ckW1 := kW.cell 1 (u := .slice U3 (pairsV p).length f3) rfl
  have ckX0 := kX.cell 0 (u := .slice P4_0 p.T.length e4_0) rfl
  have ckX1 := kX.cell 1 (u := .slice P4_1 p.F.length e4_1) rfl
  have ckX2 := kX.cell 2 (u := .slice P4_2 p.N.length e4_2) rfl
  have ckX3 := kX.cell 3 (u := .int .i64 p.L) rfl
  have ckX4 := kX.cell 4 (u := .int .i64 p.S) rfl
  have ckX5 := kX.cell 5 (u := .int .i64 p.E) rfl
  have ckG0 := kG.cell 0 (u := .int .i64 (partF p)) rfl
  have ckG1 := kG.cell 1 (u := .slice U5 (pairsV p).length f5) rfl
  go_wp2_with fail
  clear ckA0 ckA1 ckA2 ckA3 ckA4 ckA5 ckW0 ckW1 ckX0 ckX1 ckX2 ckX3 ckX4 ckX5 ckG0 ckG1
  refine (HIh.out _ _ _ p _ _ o13.o0.sees o13.o1.sees o13.o2.sees (by omega) l0 l1 l2 WFh.out hT).mono ?_
  rintro e w14 ⟨⟨u14, rfl, o14⟩, b14⟩
  have s14 := b14.size
  obtain ⟨U14, f14, rfl⟩ := o14.form
  replace sA0 := sA0.below b14 (by omega)
  replace sA1 := sA1.below b14 (by omega)
  replace sA2 := sA2.below b14 (by omega)
  replace kA := kA.below b14 kA.lt
  replace hT := hT.on b14
  replace o3 := o3.below b14 (by omega)
  replace kW := kW.below b14 kW.lt
  replace kX := kX.below b14 kX.lt
  replace kG := kG.below b14 kG.lt
  replace m5 := m5.below b14 (by omega)
  replace o13 := o13.below b14 (by omega)
  replace hb := below_on hb b14 (Nat.le_refl _)
  clear b14
  clear o13
  have ab14 := (Below.refl w14.heap.size w14).alloc (Nat.le_refl _) (.cells #[.int .i64 (partF p), .slice U14 (pairsV p).length f14] 30)
  have as14 : (w14.alloc (.cells #[.int .i64 (partF p), .slice U14 (pairsV p).length f14] 30)).heap.size = w14.heap.size + 1 := by simp
  replace sA0 := sA0.below ab14 (by omega)
  replace sA1 := sA1.below ab14 (by omega)
  replace sA2 := sA2.below ab14 (by omega)
  replace kA := kA.below ab14 kA.lt
  replace hT := hT.on ab14
  replace o3 := o3.below ab14 (by omega)
  replace kW := kW.below ab14 kW.lt
  replace kX := kX.below ab14 kX.lt
  replace kG := kG.below ab14 kG.lt
  replace m5 := m5.below ab14 (by omega)
  replace o14 := o14.below ab14 (by omega)
  replace hb := below_on hb ab14 (Nat.le_refl _)
  have kH := Blk.new w14 30 #[.int .i64 (partF p), .slice U14 (pairsV p).length f14]
  clear ab14
  have ckA0 := kA.cell 0 (u := .slice A0 p.T.length a0) rfl
  have ckA1 := kA.cell 1 (u := .slice A1 p.F.length a1) rfl
  have ckA2 := kA.cell 2 (u := .slice A2 p.N.length a2) rfl
  have ckA3 := kA.cell 3 (u := .int .i64 p.L) rfl
  have ckA4 := kA.cell 4 (u := .int .i64 p.S) rfl
  have ckA5 := kA.cell 5 (u := .int .i64 p.E) rfl
  have ckW0 := kW.cell 0 (u := .int .i64 (partF p)) rfl
  have ckW1 := kW.cell 1 (u := .slice U3 (pairsV p).length f3) rfl
  have ckX0 := kX.cell 0 (u := .slice P4_0 p.T.length e4_0) rfl
  have ckX1 := kX.cell 1 (u := .slice P4_1 p.F.length e4_1) rfl
  have ckX2 := kX.cell 2 (u := .slice P4_2 p.N.length e4_2) rfl
  have ckX3 := kX.cell 3 (u := .int .i64 p.L) rfl
  have ckX4 := kX.cell 4 (u := .int .i64 p.S) rfl
  have ckX5 := kX.cell 5 (u := .int .i64 p.E) rfl
  have ckG0 := kG.cell 0 (u := .int .i64 (partF p)) rfl
  have ckG1 := kG.cell 1 (u := .slice U5 (pairsV p).length f5) rfl
  have ckH0 := kH.cell 0 (u := .int .i64 (partF p)) rfl
  have ckH1 := kH.cell 1 (u := .slice U14 (pairsV p).length f14) rfl
  go_wp2_with fail
  clear ckA0 ckA1 ckA2 ckA3 ckA4 ckA5 ckW0 ckW1 ckX0 ckX1 ckX2 ckX3 ckX4 ckX5 ckG0 ckG1 ckH0 ckH1
  generalize w14.alloc (.cells #[.int .i64 (partF p), .slice U14 (pairsV p).length f14] 30) = x14 at *
  refine (eqPairsResult_same _ _ _ _ _ _ _ o14.sees o3.sees hv (by omega) (by omega)).mono ?_
  rintro e w15 ⟨rfl, b15⟩
  have s15 := b15.size
  replace sA0 := sA0.below b15 (by omega)
  replace sA1 := sA1.below b15 (by omega)
  replace sA2 := sA2.below b15 (by omega)
  replace kA := kA.below b15 kA.lt
  replace hT := hT.on b15
  replace o3 := o3.below b15 (by omega)
  replace kW := kW.below b15 kW.lt
  replace kX := kX.below b15 kX.lt
  replace kG := kG.below b15 kG.lt
  replace m5 := m5.below b15 (by omega)
  replace o14 := o14.below b15 (by omega)
  replace kH := kH.below b15 kH.lt
  replace hb := below_on hb b15 (Nat.le_refl _)
  clear b15
  have ckA0 := kA.cell 0 (u := .slice A0 p.T.length a0) rfl
  have ckA1 := kA.cell 1 (u := .slice A1 p.F.length a1) rfl
  have ckA2 := kA.cell 2 (u := .slice A2 p.N.length a2) rfl
  have ckA3 := kA.cell 3 (u := .int .i64 p.L) rfl
  have ckA4 := kA.cell 4 (u := .int .i64 p.S) rfl
  have ckA5 := kA.cell 5 (u := .int .i64 p.E) rfl
  have ckW0 := kW.cell 0 (u := .int .i64 (partF p)) rfl
  have ckW1 := kW.cell 1 (u := .slice U3 (pairsV p).length f3) rfl
  have ckX0 := kX.cell 0 (u := .slice P4_0 p.T.length e4_0) rfl
  have ckX1 := kX.cell 1 (u := .slice P4_1 p.F.length e4_1) rfl
  have ckX2 := kX.cell 2 (u := .slice P4_2 p.N.length e4_2) rfl
  have ckX3 := kX.cell 3 (u := .int .i64 p.L) rfl
  have ckX4 := kX.cell 4 (u := .int .i64 p.S) rfl
  have ckX5 := kX.cell 5 (u := .int .i64 p.E) rfl
  have ckG0 := kG.cell 0 (u := .int .i64 (partF p)) rfl
  have ckG1 := kG.cell 1 (u := .slice U5 (pairsV p).length f5) rfl
  have ckH0 := kH.cell 0 (u := .int .i64 (partF p)) rfl
  have ckH1 := kH.cell 1 (u := .slice U14 (pairsV p).length f14) rfl
  go_wp2_with fail
  clear ckA0 ckA1 ckA2 ckA3 ckA4 ckA5 ckW0 ckW1 ckX0 ckX1 ckX2 ckX3 ckX4 ckX5 ckG0 ckG1 ckH0 ckH1
  refine (heldPairsResult_own _ _ (pairsV p) 1 _ _ m5.sees hv (by omega) (by omega) (by omega)).mono ?_
  rintro e w16 ⟨rfl, b16⟩
  have s16 := b16.size
  replace sA0 := sA0.below b16 (by omega)
  replace sA1 := sA1.below b16 (by omega)
  replace sA2 := sA2.below b16 (by omega)
  replace kA := kA.below b16 kA.lt
  replace hT := hT.on b16
  replace o3 := o3.below b16 (by omega)
  replace kW := kW.below b16 kW.lt
  replace kX := kX.below b16 kX.lt
  replace kG := kG.below b16 kG.lt
  replace m5 := m5.below b16 (by omega)
  replace o14 := o14.below b16 (by omega)
  replace kH := kH.below b16 kH.lt
  replace hb := below_on hb b16 (Nat.le_refl _)
  clear b16
  go_wp2
  go_ret
  exact ⟨rfl, hb⟩
end Go.Proofs.YtkkojemnbcddfaaDoor
