/- FnExactPartsOf: the law returns true at all its arguments and leaves all memory that was there as it was. No condition. -/
import Derived.Test.YtcfnhjpmihngdaaGreatY46
import Derived.Test.YtcfnhjpmihngdaaGreatY50
import Derived.Test.YtcfnhjpmihngdaaGreatY35
import Derived.Test.YtcfnhjpmihngdaaGreatY05
import Derived.Test.YtcfnhjpmihngdaaGreatY01
namespace Go.Proofs.YtcfnhjpmihngdaaGreat.fnExactPartsOf
open Go.ChangeShapes Go.WideShapes Go.ChangeAt Go.RowKit

theorem sumT_bound (m : Nat) : ∀ qs : List Prt, (∀ p ∈ qs, sizeT p ≤ m) → sumT qs ≤ qs.length * m
  | [], _ => by simp [sumT]
  | q :: r, h => by
    have h1 := h q (by simp)
    have h2 := sumT_bound m r fun p hp => h p (by simp [hp])
    rw [sumT_cons, List.length_cons, Nat.succ_mul]; omega
theorem partsV_bound (zs : List Int) (b : Int) : (partsV zs b).length + sumT (partsV zs b) ≤ 300000000 := by
  unfold partsV
  split
  · have PZ := paraF_zero (by assumption)
    have ok := seqs_ok (textF_zero PZ.1).1 ⟨PZ.2.1, PZ.2.2.1⟩
    have hl : (partsN zs b).length ≤ 600 := by unfold partsN; rw [List.length_map]; exact ok.len
    have h2 := sumT_bound 1800 (partsN zs b) fun p hp => by
      obtain ⟨q, hq, rfl⟩ := List.mem_map.1 hp
      obtain ⟨k, hk, rfl⟩ := List.getElem_of_mem hq
      have e := (ok.each k hk).1
      rw [show nthQ (seqsN (classesN zs) b) k = (seqsN (classesN zs) b)[k] by simp [nthQ, List.getElem?_eq_getElem hk]] at e
      unfold sizeT partOf
      simp only [pickN_len, weakW_len]
      omega
    have h3 : (partsN zs b).length * 1800 ≤ 600 * 1800 := Nat.mul_le_mul_right _ hl
    omega
  · simp [sumT]
set_option maxRecDepth 100000 in
set_option maxHeartbeats 1000000 in
theorem walk (A0 : Option Addr) (zs0 : List Int) (c0 : Nat) (x1 : Int) (w : World) (r0 : Rd w w.heap.size A0 (nums .i64 zs0)) (hw0 : ∀ n ∈ zs0, (Lit.int .i64 n).wf = true) (hx1 : (Lit.int .i64 x1).wf = true) :
    Calls Tryz.prog 3 #[.slice A0 zs0.length c0, .int .i64 x1] w fun e w' => e = .returned (.bool true) ∧ Below w.heap.size w w' := by
  by_cases hl0 : 1048576 < zs0.length
  · go_enter Tryz.func3, Tryz.ntmps3
    go_wp2
    go_ret
    exact ⟨rfl, Below.refl _ _⟩
  have l0 : zs0.length < 1000000000 := by omega
  have a0 : Sees w w.heap.size .i64 (.slice A0 zs0.length c0) zs0 := ⟨_, _, rfl, r0⟩
  replace hl0 := Nat.le_of_not_lt hl0
  have g1 : (partsV zs0 x1).length + sumT (partsV zs0 x1) < 300000001 := by have := partsV_bound zs0 x1; omega
  have hb := Below.refl w.heap.size w
  go_enter Tryz.func3, Tryz.ntmps3
  go_wp2_with fail
  refine (toInt64S_own _ _ _ _ a0 (by omega) (by omega)).mono ?_
  rintro e w1 ⟨⟨v1, rfl, o1⟩, b1⟩
  have s1 := b1.size
  replace a0 := a0.below b1 (by omega)
  replace hb := below_on hb b1 (Nat.le_refl _)
  go_wp2_with fail
  refine (specPartsOf_val _ _ _ _ _ o1.sees (by omega) l0 hw0 o1.capv hx1).mono ?_
  rintro e w2 ⟨⟨u2_1, rfl, p2_1⟩, b2⟩
  obtain ⟨U2_1, C2_1, rfl⟩ := p2_1.form
  have s2 := b2.size
  replace a0 := a0.below b2 (by omega)
  replace o1 := o1.below b2 (by omega)
  replace hb := below_on hb b2 (Nat.le_refl _)
  go_wp2_with fail
  refine (toInt64S_own _ _ _ _ (a0.alloc (by omega) _) (by simp <;> omega) (by omega)).mono ?_
  rintro e w3 ⟨⟨v3, rfl, o3⟩, b3⟩
  replace o3 := o3.more (Nat.succ_le_of_lt (alloc_lt _ _)) (Nat.le_refl _)
  have k3 := (Blk.new w2 25 #[.int .i64 (paraF zs0 x1), .slice U2_1 (partsV zs0 x1).length C2_1]).below b3 (by simp)
  have t3 := k3.lt
  replace b3 := below_alloc b3
  have s3 := b3.size
  replace a0 := a0.below b3 (by omega)
  replace p2_1 := p2_1.below b3 (by omega)
  replace hb := below_on hb b3 (Nat.le_refl _)
  have ck30 := k3.cell 0 (u := .int .i64 (paraF zs0 x1)) rfl
  have ck31 := k3.cell 1 (u := .slice U2_1 (partsV zs0 x1).length C2_1) rfl
  go_wp2_with fail
  clear ck30 ck31
  refine (partsOf_val _ _ _ _ _ o3.sees (by omega) l0 hw0 o3.capv hx1).mono ?_
  rintro e w4 ⟨⟨u4_1, rfl, p4_1⟩, b4⟩
  obtain ⟨U4_1, C4_1, rfl⟩ := p4_1.form
  have s4 := b4.size
  replace a0 := a0.below b4 (by omega)
  replace p2_1 := p2_1.below b4 (by omega)
  replace k3 := k3.below b4 k3.lt
  replace o3 := o3.below b4 (by omega)
  replace hb := below_on hb b4 (Nat.le_refl _)
  have ck30 := (k3.alloc (.cells #[.int .i64 (paraF zs0 x1), .slice U4_1 (partsV zs0 x1).length C4_1] 25)).cell 0 (u := .int .i64 (paraF zs0 x1)) rfl
  have ck31 := (k3.alloc (.cells #[.int .i64 (paraF zs0 x1), .slice U4_1 (partsV zs0 x1).length C4_1] 25)).cell 1 (u := .slice U2_1 (partsV zs0 x1).length C2_1) rfl
  go_wp2_with fail
  clear ck30 ck31
  refine (eqPartsResult_same _ _ _ _ _ _ _ ((p4_1.alloc _).sees) ((p2_1.alloc _).sees) g1 (by simp <;> omega) (by simp <;> omega)).mono ?_
  rintro e w5 ⟨rfl, b5⟩
  have k5 := (Blk.new w4 25 #[.int .i64 (paraF zs0 x1), .slice U4_1 (partsV zs0 x1).length C4_1]).below b5 (by simp)
  have t5 := k5.lt
  replace b5 := below_alloc b5
  have s5 := b5.size
  replace a0 := a0.below b5 (by omega)
  replace p2_1 := p2_1.below b5 (by omega)
  replace k3 := k3.below b5 k3.lt
  replace o3 := o3.below b5 (by omega)
  replace p4_1 := p4_1.below b5 (by omega)
  replace hb := below_on hb b5 (Nat.le_refl _)
  have ck30 := k3.cell 0 (u := .int .i64 (paraF zs0 x1)) rfl
  have ck31 := k3.cell 1 (u := .slice U2_1 (partsV zs0 x1).length C2_1) rfl
  have ck50 := k5.cell 0 (u := .int .i64 (paraF zs0 x1)) rfl
  have ck51 := k5.cell 1 (u := .slice U4_1 (partsV zs0 x1).length C4_1) rfl
  go_wp2_with fail
  clear ck30 ck31 ck50 ck51
  refine (toInt64S_own _ _ _ _ a0 (by omega) (by omega)).mono ?_
  rintro e w6 ⟨⟨v6, rfl, o6⟩, b6⟩
  have s6 := b6.size
  replace a0 := a0.below b6 (by omega)
  replace p2_1 := p2_1.below b6 (by omega)
  replace k3 := k3.below b6 k3.lt
  replace o3 := o3.below b6 (by omega)
  replace p4_1 := p4_1.below b6 (by omega)
  replace k5 := k5.below b6 k5.lt
  replace hb := below_on hb b6 (Nat.le_refl _)
  have ck30 := k3.cell 0 (u := .int .i64 (paraF zs0 x1)) rfl
  have ck31 := k3.cell 1 (u := .slice U2_1 (partsV zs0 x1).length C2_1) rfl
  have ck50 := k5.cell 0 (u := .int .i64 (paraF zs0 x1)) rfl
  have ck51 := k5.cell 1 (u := .slice U4_1 (partsV zs0 x1).length C4_1) rfl
  go_wp2_with fail
  clear ck30 ck31 ck50 ck51
  refine (eqInt64S_same _ _ _ _ _ _ o3.sees o6.sees (by omega)).mono ?_
  rintro e w7 ⟨rfl, n7, e7⟩
  have b7 := below_drawn e7
  clear e7
  have s7 := b7.size
  replace a0 := a0.below b7 (by omega)
  replace p2_1 := p2_1.below b7 (by omega)
  replace k3 := k3.below b7 k3.lt
  replace o3 := o3.below b7 (by omega)
  replace p4_1 := p4_1.below b7 (by omega)
  replace k5 := k5.below b7 k5.lt
  replace o6 := o6.below b7 (by omega)
  replace hb := below_on hb b7 (Nat.le_refl _)
  have ck30 := k3.cell 0 (u := .int .i64 (paraF zs0 x1)) rfl
  have ck31 := k3.cell 1 (u := .slice U2_1 (partsV zs0 x1).length C2_1) rfl
  have ck50 := k5.cell 0 (u := .int .i64 (paraF zs0 x1)) rfl
  have ck51 := k5.cell 1 (u := .slice U4_1 (partsV zs0 x1).length C4_1) rfl
  go_wp2_with fail
  clear ck30 ck31 ck50 ck51
  refine (markInt64S_own _ _ _ _ _ _ o3 l0 (by omega) (by omega)).mono ?_
  rintro e w8 ⟨⟨rfl, -⟩, g8_⟩
  have q8 := Out.of_grown g8_ o3.lt
  clear g8_
  have s8 := q8.size
  replace a0 := a0.out q8 (by omega) (by omega)
  replace p2_1 := p2_1.out q8 (by omega)
  replace k3 := k3.out q8 (by omega)
  replace p4_1 := p4_1.out q8 (by omega)
  replace k5 := k5.out q8 (by omega)
  replace hb := hb.trans (q8.to_below (by omega) (by omega))
  have ck30 := k3.cell 0 (u := .int .i64 (paraF zs0 x1)) rfl
  have ck31 := k3.cell 1 (u := .slice U2_1 (partsV zs0 x1).length C2_1) rfl
  have ck50 := k5.cell 0 (u := .int .i64 (paraF zs0 x1)) rfl
  have ck51 := k5.cell 1 (u := .slice U4_1 (partsV zs0 x1).length C4_1) rfl
  go_wp2_with fail
  clear ck30 ck31 ck50 ck51
  refine (eqPartsResult_same _ _ _ _ _ _ _ (p4_1.sees) (p2_1.sees) g1 (by omega) (by omega)).mono ?_
  rintro e w9 ⟨rfl, b9⟩
  have s9 := b9.size
  replace a0 := a0.below b9 (by omega)
  replace p2_1 := p2_1.below b9 (by omega)
  replace k3 := k3.below b9 k3.lt
  replace p4_1 := p4_1.below b9 (by omega)
  replace k5 := k5.below b9 k5.lt
  replace hb := below_on hb b9 (Nat.le_refl _)
  have ck30 := k3.cell 0 (u := .int .i64 (paraF zs0 x1)) rfl
  have ck31 := k3.cell 1 (u := .slice U2_1 (partsV zs0 x1).length C2_1) rfl
  have ck50 := k5.cell 0 (u := .int .i64 (paraF zs0 x1)) rfl
  have ck51 := k5.cell 1 (u := .slice U4_1 (partsV zs0 x1).length C4_1) rfl
  go_wp2_with fail
  clear ck30 ck31 ck50 ck51
  refine (markPartsResult_own _ _ _ 1 _ _ _ p4_1 g1  (by omega) (by omega) (by omega)).mono ?_
  rintro e w10 ⟨⟨rfl, m4_1⟩, q10⟩
  have s10 := q10.size
  replace a0 := a0.out q10 (by omega) (by omega)
  replace p2_1 := p2_1.out q10 (by omega)
  replace k3 := k3.out q10 (by omega)
  replace k5 := k5.out q10 (by omega)
  replace hb := hb.trans (q10.to_below (by omega) (by omega))
  have ck30 := k3.cell 0 (u := .int .i64 (paraF zs0 x1)) rfl
  have ck31 := k3.cell 1 (u := .slice U2_1 (partsV zs0 x1).length C2_1) rfl
  have ck50 := k5.cell 0 (u := .int .i64 (paraF zs0 x1)) rfl
  have ck51 := k5.cell 1 (u := .slice U4_1 (partsV zs0 x1).length C4_1) rfl
  go_wp2_with fail
  clear ck30 ck31 ck50 ck51
  refine (heldPartsResult_own _ _ _ 1 _ _ m4_1.sees g1 (by omega) (by omega) (by omega)).mono ?_
  rintro e w11 ⟨rfl, b11⟩
  have s11 := b11.size
  replace a0 := a0.below b11 (by omega)
  replace p2_1 := p2_1.below b11 (by omega)
  replace k3 := k3.below b11 k3.lt
  replace k5 := k5.below b11 k5.lt
  replace m4_1 := m4_1.below b11 (by omega)
  replace hb := below_on hb b11 (Nat.le_refl _)
  have ck30 := k3.cell 0 (u := .int .i64 (paraF zs0 x1)) rfl
  have ck31 := k3.cell 1 (u := .slice U2_1 (partsV zs0 x1).length C2_1) rfl
  have ck50 := k5.cell 0 (u := .int .i64 (paraF zs0 x1)) rfl
  have ck51 := k5.cell 1 (u := .slice U4_1 (partsV zs0 x1).length C4_1) rfl
  go_wp2_with fail
  clear ck30 ck31 ck50 ck51
  refine (toInt64S_own _ _ _ _ a0 (by omega) (by omega)).mono ?_
  rintro e w12 ⟨⟨v12, rfl, o12⟩, b12⟩
  have s12 := b12.size
  replace a0 := a0.below b12 (by omega)
  replace p2_1 := p2_1.below b12 (by omega)
  replace k3 := k3.below b12 k3.lt
  replace k5 := k5.below b12 k5.lt
  replace m4_1 := m4_1.below b12 (by omega)
  replace hb := below_on hb b12 (Nat.le_refl _)
  have ck30 := k3.cell 0 (u := .int .i64 (paraF zs0 x1)) rfl
  have ck31 := k3.cell 1 (u := .slice U2_1 (partsV zs0 x1).length C2_1) rfl
  have ck50 := k5.cell 0 (u := .int .i64 (paraF zs0 x1)) rfl
  have ck51 := k5.cell 1 (u := .slice U4_1 (partsV zs0 x1).length C4_1) rfl
  go_wp2_with fail
  clear ck30 ck31 ck50 ck51
  refine (partsOf_val _ _ _ _ _ o12.sees (by omega) l0 hw0 o12.capv hx1).mono ?_
  rintro e w13 ⟨⟨u13_1, rfl, p13_1⟩, b13⟩
  obtain ⟨U13_1, C13_1, rfl⟩ := p13_1.form
  have s13 := b13.size
  replace a0 := a0.below b13 (by omega)
  replace p2_1 := p2_1.below b13 (by omega)
  replace k3 := k3.below b13 k3.lt
  replace k5 := k5.below b13 k5.lt
  replace m4_1 := m4_1.below b13 (by omega)
  replace o12 := o12.below b13 (by omega)
  replace hb := below_on hb b13 (Nat.le_refl _)
  have ck30 := (k3.alloc (.cells #[.int .i64 (paraF zs0 x1), .slice U13_1 (partsV zs0 x1).length C13_1] 25)).cell 0 (u := .int .i64 (paraF zs0 x1)) rfl
  have ck31 := (k3.alloc (.cells #[.int .i64 (paraF zs0 x1), .slice U13_1 (partsV zs0 x1).length C13_1] 25)).cell 1 (u := .slice U2_1 (partsV zs0 x1).length C2_1) rfl
  have ck50 := (k5.alloc (.cells #[.int .i64 (paraF zs0 x1), .slice U13_1 (partsV zs0 x1).length C13_1] 25)).cell 0 (u := .int .i64 (paraF zs0 x1)) rfl
  have ck51 := (k5.alloc (.cells #[.int .i64 (paraF zs0 x1), .slice U13_1 (partsV zs0 x1).length C13_1] 25)).cell 1 (u := .slice U4_1 (partsV zs0 x1).length C4_1) rfl
  go_wp2_with fail
  clear ck30 ck31 ck50 ck51
  refine (eqPartsResult_same _ _ _ _ _ _ _ ((p13_1.alloc _).sees) ((p2_1.alloc _).sees) g1 (by simp <;> omega) (by simp <;> omega)).mono ?_
  rintro e w14 ⟨rfl, b14⟩
  have k14 := (Blk.new w13 25 #[.int .i64 (paraF zs0 x1), .slice U13_1 (partsV zs0 x1).length C13_1]).below b14 (by simp)
  have t14 := k14.lt
  replace b14 := below_alloc b14
  have s14 := b14.size
  replace a0 := a0.below b14 (by omega)
  replace p2_1 := p2_1.below b14 (by omega)
  replace k3 := k3.below b14 k3.lt
  replace k5 := k5.below b14 k5.lt
  replace m4_1 := m4_1.below b14 (by omega)
  replace p13_1 := p13_1.below b14 (by omega)
  replace hb := below_on hb b14 (Nat.le_refl _)
  have ck30 := k3.cell 0 (u := .int .i64 (paraF zs0 x1)) rfl
  have ck31 := k3.cell 1 (u := .slice U2_1 (partsV zs0 x1).length C2_1) rfl
  have ck50 := k5.cell 0 (u := .int .i64 (paraF zs0 x1)) rfl
  have ck51 := k5.cell 1 (u := .slice U4_1 (partsV zs0 x1).length C4_1) rfl
  have ck140 := k14.cell 0 (u := .int .i64 (paraF zs0 x1)) rfl
  have ck141 := k14.cell 1 (u := .slice U13_1 (partsV zs0 x1).length C13_1) rfl
  go_wp2_with fail
  clear ck30 ck31 ck50 ck51 ck140 ck141
  refine (heldPartsResult_own _ _ _ 1 _ _ m4_1.sees g1 (by omega) (by omega) (by omega)).mono ?_
  rintro e w15 ⟨rfl, b15⟩
  have s15 := b15.size
  replace a0 := a0.below b15 (by omega)
  replace p2_1 := p2_1.below b15 (by omega)
  replace k3 := k3.below b15 k3.lt
  replace k5 := k5.below b15 k5.lt
  replace m4_1 := m4_1.below b15 (by omega)
  replace p13_1 := p13_1.below b15 (by omega)
  replace k14 := k14.below b15 k14.lt
  replace hb := below_on hb b15 (Nat.le_refl _)
  go_wp2
  go_ret
  exact ⟨rfl, hb⟩

theorem own : ownKnob Tryz.prog.godebug = none := by kernel_rfl
theorem laidOut : laidOutB Tryz.prog = true := by kernel_rfl

set_option maxRecDepth 100000 in
theorem lifted (os : Os) (started : os.Started) (H : Type) (enc : TypeId × Value → H) :
    ReturnsInHanded {} Tryz.checked os 3 .any (Rows.fnExactPartsOfSpec.pre6 enc Tryz.prog Tryz.f3 Rows.fnExactPartsOfRow.domain false) (Rows.fnExactPartsOfSpec.post enc Tryz.prog Tryz.f3 false true false false) := by
  refine returnsInHanded_of_change_sized (C := Tryz.checked) own started (by kernel_rfl) Tryz.func3
    (ChangeSpec.witness6 (enc := enc) (C := Tryz.checked) false ⟨#[], #[.slice none 0 0, .int .i64 0], []⟩ 8 (by kernel_rfl) (by kernel_rfl) (by kernel_rfl) (by kernel_rfl)) ?_
  intro W base args ds gs before hval0 hW _ _ _
  have hval : ∀ (j : Nat) t v, Tryz.f3.params[j]? = some t → args[j]? = some v → Value.okWide Tryz.prog W .any base t v := hval0
  have hW' := hW
  obtain ⟨p, q, hA0, hV, rfl, _, _⟩ := hW
  have hA : DataW.TrodAll enc Tryz.prog W 0 (fun _ => true) true Tryz.f3.params.toList args.toList ds p := hA0
  rw [Tryz.params3] at hA hval
  obtain ⟨v0, vs0, d0, ds0, p0, q0, hargs, rfl, rfl, h0, r0⟩ := trodAll_cons hA
  obtain ⟨v1, vs1, d1, ds1, p1, q1, rfl, rfl, rfl, h1, r1⟩ := trodAll_cons r0
  obtain ⟨rfl, rfl, rfl⟩ := trodAll_nil r1
  obtain rfl : args = #[v0, v1] := by cases args; simp_all
  obtain ⟨rfl, rfl⟩ := trodVars_none hV
  clear hA0 hval0
  simp only [List.append_nil] at hW'
  obtain ⟨A0, zs0, c0, rfl, hr0, hw0⟩ := open_nums Tryz.underlying22 Tryz.underlying2 (by kernel_rfl) (hval 0 22 v0 rfl rfl) h0 (fun x hx => by simpa using hW'.lt x (by simp [hx]))
  obtain ⟨x1, rfl, rfl, rfl, hx1⟩ := open_int Tryz.underlying2 (hval 1 2 v1 rfl rfl) h1
  refine (walk A0 zs0 c0 x1 W hr0 hw0 hx1).mono fun e W' ⟨he, hb⟩ => ?_
  subst he
  exact ⟨_, rfl, law_post laidOut (by decide +kernel) rfl Tryz.underlying4 rfl rfl rfl rfl hW' hb⟩

theorem holds : Rows.FnExactPartsOfSaid :=
  OpenClaim.holds_of_wide 3 Tryz.f3 rfl rfl rfl rfl rfl rfl rfl ⟨rfl, rfl, rfl, rfl, rfl⟩ rfl rfl rfl rfl rfl (by kernel_rfl) Tryz.func3 (by kernel_rfl)
    (of_decide_eq_true (by kernel_rfl)) (by unfold Func.isWrapper; first | (rw [if_pos (by decide +kernel)]; kernel_rfl) | (rw [if_neg (by decide +kernel)]; exact ⟨rfl, rfl⟩))
    (fun os started H enc _ => lifted os started H enc)
#print axioms holds
end Go.Proofs.YtcfnhjpmihngdaaGreat.fnExactPartsOf
