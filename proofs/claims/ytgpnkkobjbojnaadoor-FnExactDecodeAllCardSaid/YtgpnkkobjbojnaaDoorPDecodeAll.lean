/- FnExactDecodeAll: the law returns true at every slice of bytes and leaves all memory that was there as it was. Condition: the library's two tables hold what they are laid with (the card ties them). -/
import Derived.Test.YtgpnkkobjbojnaaDoorT10
import Derived.Test.YtgpnkkobjbojnaaDoorH2
import Derived.Test.YtgpnkkobjbojnaaDoorT4
namespace Go.Proofs.YtgpnkkobjbojnaaDoor.fnExactDecodeAll
open Go.ChangeShapes Go.WideShapes Go.ChangeAt Go.RowKit

set_option maxHeartbeats 1000000 in
theorem walk {w : World} (hT : Tabs w) (A0 : Option Addr) (zs0 : List Int) (c0 : Nat) (r0 : Rd w w.heap.size A0 (nums .u8 zs0)) (hw0 : ∀ n ∈ zs0, (Lit.int .u8 n).wf = true) :
    Calls Tryd.prog 7 #[.slice A0 zs0.length c0] w fun e w' => e = .returned (.bool true) ∧ Below w.heap.size w w' := by
  by_cases hl0 : 1048576 < zs0.length
  · go_enter Tryd.func7, Tryd.ntmps7
    go_wp2
    go_ret
    exact ⟨rfl, Below.refl _ _⟩
  have l0 : zs0.length < 1000000000 := by omega
  have a0 : Sees w w.heap.size .u8 (.slice A0 zs0.length c0) zs0 := ⟨_, _, rfl, r0⟩
  replace hl0 := Nat.le_of_not_lt hl0
  have g1 : (allL zs0).length < 1000000000 := by have := allL_len zs0; omega
  have hT0 := hT.lt
  have hb := Below.refl w.heap.size w
  go_enter Tryd.func7, Tryd.ntmps7
  go_wp2_with fail
  refine (toByteS_own _ _ _ _ a0 (by omega) (by omega)).mono ?_
  rintro e w1 ⟨⟨v1, rfl, o1⟩, b1⟩
  have s1 := b1.size
  replace a0 := a0.below b1 (by omega)
  replace hT := hT.on b1
  replace hb := below_on hb b1 (Nat.le_refl _)
  go_wp2_with fail
  refine (specDecodeAll_val _ _ _ hT _ o1.sees (by omega) l0 hw0 o1.caps).mono ?_
  rintro e w2 ⟨⟨u2_1, rfl, p2_1⟩, b2⟩
  obtain ⟨U2_1, C2_1, rfl⟩ := p2_1.form
  have s2 := b2.size
  replace a0 := a0.below b2 (by omega)
  replace hT := hT.on b2
  replace o1 := o1.below b2 (by omega)
  replace hb := below_on hb b2 (Nat.le_refl _)
  go_wp2_with fail
  refine (toByteS_own _ _ _ _ (a0.alloc (by omega) _) (by simp <;> omega) (by omega)).mono ?_
  rintro e w3 ⟨⟨v3, rfl, o3⟩, b3⟩
  replace o3 := o3.more (Nat.succ_le_of_lt (alloc_lt _ _)) (Nat.le_refl _)
  have k3 := (Blk.new w2 36 #[.int .i64 (allC zs0), .slice U2_1 (allL zs0).length C2_1]).below b3 (by simp)
  have t3 := k3.lt
  replace b3 := below_alloc b3
  have s3 := b3.size
  replace a0 := a0.below b3 (by omega)
  replace hT := hT.on b3
  replace p2_1 := p2_1.below b3 (by omega)
  replace hb := below_on hb b3 (Nat.le_refl _)
  have ck30 := k3.cell 0 (u := .int .i64 (allC zs0)) rfl
  have ck31 := k3.cell 1 (u := .slice U2_1 (allL zs0).length C2_1) rfl
  go_wp2_with fail
  clear ck30 ck31
  refine (decodeAll_val _ _ _ hT _ o3.sees (by omega) l0 hw0 o3.caps).mono ?_
  rintro e w4 ⟨⟨u4_1, rfl, p4_1⟩, b4⟩
  obtain ⟨U4_1, C4_1, rfl⟩ := p4_1.form
  have s4 := b4.size
  replace a0 := a0.below b4 (by omega)
  replace hT := hT.on b4
  replace p2_1 := p2_1.below b4 (by omega)
  replace k3 := k3.below b4 k3.lt
  replace o3 := o3.below b4 (by omega)
  replace hb := below_on hb b4 (Nat.le_refl _)
  have ck30 := (k3.alloc (.cells #[.int .i64 (allC zs0), .slice U4_1 (allL zs0).length C4_1] 36)).cell 0 (u := .int .i64 (allC zs0)) rfl
  have ck31 := (k3.alloc (.cells #[.int .i64 (allC zs0), .slice U4_1 (allL zs0).length C4_1] 36)).cell 1 (u := .slice U2_1 (allL zs0).length C2_1) rfl
  go_wp2_with fail
  clear ck30 ck31
  refine (eqIntsResult_same _ _ _ _ _ _ _ ((p4_1.alloc _).sees) ((p2_1.alloc _).sees) g1 (by simp <;> omega) (by simp <;> omega)).mono ?_
  rintro e w5 ⟨rfl, b5⟩
  have k5 := (Blk.new w4 36 #[.int .i64 (allC zs0), .slice U4_1 (allL zs0).length C4_1]).below b5 (by simp)
  have t5 := k5.lt
  replace b5 := below_alloc b5
  have s5 := b5.size
  replace a0 := a0.below b5 (by omega)
  replace hT := hT.on b5
  replace p2_1 := p2_1.below b5 (by omega)
  replace k3 := k3.below b5 k3.lt
  replace o3 := o3.below b5 (by omega)
  replace p4_1 := p4_1.below b5 (by omega)
  replace hb := below_on hb b5 (Nat.le_refl _)
  have ck30 := k3.cell 0 (u := .int .i64 (allC zs0)) rfl
  have ck31 := k3.cell 1 (u := .slice U2_1 (allL zs0).length C2_1) rfl
  have ck50 := k5.cell 0 (u := .int .i64 (allC zs0)) rfl
  have ck51 := k5.cell 1 (u := .slice U4_1 (allL zs0).length C4_1) rfl
  go_wp2_with fail
  clear ck30 ck31 ck50 ck51
  refine (toByteS_own _ _ _ _ a0 (by omega) (by omega)).mono ?_
  rintro e w6 ⟨⟨v6, rfl, o6⟩, b6⟩
  have s6 := b6.size
  replace a0 := a0.below b6 (by omega)
  replace hT := hT.on b6
  replace p2_1 := p2_1.below b6 (by omega)
  replace k3 := k3.below b6 k3.lt
  replace o3 := o3.below b6 (by omega)
  replace p4_1 := p4_1.below b6 (by omega)
  replace k5 := k5.below b6 k5.lt
  replace hb := below_on hb b6 (Nat.le_refl _)
  have ck30 := k3.cell 0 (u := .int .i64 (allC zs0)) rfl
  have ck31 := k3.cell 1 (u := .slice U2_1 (allL zs0).length C2_1) rfl
  have ck50 := k5.cell 0 (u := .int .i64 (allC zs0)) rfl
  have ck51 := k5.cell 1 (u := .slice U4_1 (allL zs0).length C4_1) rfl
  go_wp2_with fail
  clear ck30 ck31 ck50 ck51
  refine (eqByteS_same _ _ _ _ _ _ o3.sees o6.sees (by omega)).mono ?_
  rintro e w7 ⟨rfl, n7, e7⟩
  have b7 := below_drawn e7
  clear e7
  have s7 := b7.size
  replace a0 := a0.below b7 (by omega)
  replace hT := hT.on b7
  replace p2_1 := p2_1.below b7 (by omega)
  replace k3 := k3.below b7 k3.lt
  replace o3 := o3.below b7 (by omega)
  replace p4_1 := p4_1.below b7 (by omega)
  replace k5 := k5.below b7 k5.lt
  replace o6 := o6.below b7 (by omega)
  replace hb := below_on hb b7 (Nat.le_refl _)
  have ck30 := k3.cell 0 (u := .int .i64 (allC zs0)) rfl
  have ck31 := k3.cell 1 (u := .slice U2_1 (allL zs0).length C2_1) rfl
  have ck50 := k5.cell 0 (u := .int .i64 (allC zs0)) rfl
  have ck51 := k5.cell 1 (u := .slice U4_1 (allL zs0).length C4_1) rfl
  go_wp2_with fail
  clear ck30 ck31 ck50 ck51
  refine (markByteS_own _ _ _ _ _ _ o3 l0 (by omega) (by omega)).mono ?_
  rintro e w8 ⟨⟨rfl, -⟩, g8_⟩
  have q8 := Out.of_grown g8_ o3.lt
  clear g8_
  have s8 := q8.size
  replace a0 := a0.out q8 (by omega) (by omega)
  replace hT := hT.out q8 (by omega) (by omega)
  replace p2_1 := p2_1.out q8 (by omega)
  replace k3 := k3.out q8 (by omega)
  replace p4_1 := p4_1.out q8 (by omega)
  replace k5 := k5.out q8 (by omega)
  replace hb := hb.trans (q8.to_below (by omega) (by omega))
  have ck30 := k3.cell 0 (u := .int .i64 (allC zs0)) rfl
  have ck31 := k3.cell 1 (u := .slice U2_1 (allL zs0).length C2_1) rfl
  have ck50 := k5.cell 0 (u := .int .i64 (allC zs0)) rfl
  have ck51 := k5.cell 1 (u := .slice U4_1 (allL zs0).length C4_1) rfl
  go_wp2_with fail
  clear ck30 ck31 ck50 ck51
  refine (eqIntsResult_same _ _ _ _ _ _ _ (p4_1.sees) (p2_1.sees) g1 (by omega) (by omega)).mono ?_
  rintro e w9 ⟨rfl, b9⟩
  have s9 := b9.size
  replace a0 := a0.below b9 (by omega)
  replace hT := hT.on b9
  replace p2_1 := p2_1.below b9 (by omega)
  replace k3 := k3.below b9 k3.lt
  replace p4_1 := p4_1.below b9 (by omega)
  replace k5 := k5.below b9 k5.lt
  replace hb := below_on hb b9 (Nat.le_refl _)
  have ck30 := k3.cell 0 (u := .int .i64 (allC zs0)) rfl
  have ck31 := k3.cell 1 (u := .slice U2_1 (allL zs0).length C2_1) rfl
  have ck50 := k5.cell 0 (u := .int .i64 (allC zs0)) rfl
  have ck51 := k5.cell 1 (u := .slice U4_1 (allL zs0).length C4_1) rfl
  go_wp2_with fail
  clear ck30 ck31 ck50 ck51
  refine (markIntsResult_own _ _ _ 1 _ _ _ p4_1 g1  (by omega) (by omega) (by omega)).mono ?_
  rintro e w10 ⟨⟨rfl, m4_1⟩, q10⟩
  have s10 := q10.size
  replace a0 := a0.out q10 (by omega) (by omega)
  replace hT := hT.out q10 (by omega) (by omega)
  replace p2_1 := p2_1.out q10 (by omega)
  replace k3 := k3.out q10 (by omega)
  replace k5 := k5.out q10 (by omega)
  replace hb := hb.trans (q10.to_below (by omega) (by omega))
  have ck30 := k3.cell 0 (u := .int .i64 (allC zs0)) rfl
  have ck31 := k3.cell 1 (u := .slice U2_1 (allL zs0).length C2_1) rfl
  have ck50 := k5.cell 0 (u := .int .i64 (allC zs0)) rfl
  have ck51 := k5.cell 1 (u := .slice U4_1 (allL zs0).length C4_1) rfl
  go_wp2_with fail
  clear ck30 ck31 ck50 ck51
  refine (heldIntsResult_own _ _ _ 1 _ _ m4_1.sees g1 (by omega) (by omega) (by omega)).mono ?_
  rintro e w11 ⟨rfl, b11⟩
  have s11 := b11.size
  replace a0 := a0.below b11 (by omega)
  replace hT := hT.on b11
  replace p2_1 := p2_1.below b11 (by omega)
  replace k3 := k3.below b11 k3.lt
  replace k5 := k5.below b11 k5.lt
  replace m4_1 := m4_1.below b11 (by omega)
  replace hb := below_on hb b11 (Nat.le_refl _)
  have ck30 := k3.cell 0 (u := .int .i64 (allC zs0)) rfl
  have ck31 := k3.cell 1 (u := .slice U2_1 (allL zs0).length C2_1) rfl
  have ck50 := k5.cell 0 (u := .int .i64 (allC zs0)) rfl
  have ck51 := k5.cell 1 (u := .slice U4_1 (allL zs0).length C4_1) rfl
  go_wp2_with fail
  clear ck30 ck31 ck50 ck51
  refine (toByteS_own _ _ _ _ a0 (by omega) (by omega)).mono ?_
  rintro e w12 ⟨⟨v12, rfl, o12⟩, b12⟩
  have s12 := b12.size
  replace a0 := a0.below b12 (by omega)
  replace hT := hT.on b12
  replace p2_1 := p2_1.below b12 (by omega)
  replace k3 := k3.below b12 k3.lt
  replace k5 := k5.below b12 k5.lt
  replace m4_1 := m4_1.below b12 (by omega)
  replace hb := below_on hb b12 (Nat.le_refl _)
  have ck30 := k3.cell 0 (u := .int .i64 (allC zs0)) rfl
  have ck31 := k3.cell 1 (u := .slice U2_1 (allL zs0).length C2_1) rfl
  have ck50 := k5.cell 0 (u := .int .i64 (allC zs0)) rfl
  have ck51 := k5.cell 1 (u := .slice U4_1 (allL zs0).length C4_1) rfl
  go_wp2_with fail
  clear ck30 ck31 ck50 ck51
  refine (decodeAll_val _ _ _ hT _ o12.sees (by omega) l0 hw0 o12.caps).mono ?_
  rintro e w13 ⟨⟨u13_1, rfl, p13_1⟩, b13⟩
  obtain ⟨U13_1, C13_1, rfl⟩ := p13_1.form
  have s13 := b13.size
  replace a0 := a0.below b13 (by omega)
  replace hT := hT.on b13
  replace p2_1 := p2_1.below b13 (by omega)
  replace k3 := k3.below b13 k3.lt
  replace k5 := k5.below b13 k5.lt
  replace m4_1 := m4_1.below b13 (by omega)
  replace o12 := o12.below b13 (by omega)
  replace hb := below_on hb b13 (Nat.le_refl _)
  have ck30 := (k3.alloc (.cells #[.int .i64 (allC zs0), .slice U13_1 (allL zs0).length C13_1] 36)).cell 0 (u := .int .i64 (allC zs0)) rfl
  have ck31 := (k3.alloc (.cells #[.int .i64 (allC zs0), .slice U13_1 (allL zs0).length C13_1] 36)).cell 1 (u := .slice U2_1 (allL zs0).length C2_1) rfl
  have ck50 := (k5.alloc (.cells #[.int .i64 (allC zs0), .slice U13_1 (allL zs0).length C13_1] 36)).cell 0 (u := .int .i64 (allC zs0)) rfl
  have ck51 := (k5.alloc (.cells #[.int .i64 (allC zs0), .slice U13_1 (allL zs0).length C13_1] 36)).cell 1 (u := .slice U4_1 (allL zs0).length C4_1) rfl
  go_wp2_with fail
  clear ck30 ck31 ck50 ck51
  refine (eqIntsResult_same _ _ _ _ _ _ _ ((p13_1.alloc _).sees) ((p2_1.alloc _).sees) g1 (by simp <;> omega) (by simp <;> omega)).mono ?_
  rintro e w14 ⟨rfl, b14⟩
  have k14 := (Blk.new w13 36 #[.int .i64 (allC zs0), .slice U13_1 (allL zs0).length C13_1]).below b14 (by simp)
  have t14 := k14.lt
  replace b14 := below_alloc b14
  have s14 := b14.size
  replace a0 := a0.below b14 (by omega)
  replace hT := hT.on b14
  replace p2_1 := p2_1.below b14 (by omega)
  replace k3 := k3.below b14 k3.lt
  replace k5 := k5.below b14 k5.lt
  replace m4_1 := m4_1.below b14 (by omega)
  replace p13_1 := p13_1.below b14 (by omega)
  replace hb := below_on hb b14 (Nat.le_refl _)
  have ck30 := k3.cell 0 (u := .int .i64 (allC zs0)) rfl
  have ck31 := k3.cell 1 (u := .slice U2_1 (allL zs0).length C2_1) rfl
  have ck50 := k5.cell 0 (u := .int .i64 (allC zs0)) rfl
  have ck51 := k5.cell 1 (u := .slice U4_1 (allL zs0).length C4_1) rfl
  have ck140 := k14.cell 0 (u := .int .i64 (allC zs0)) rfl
  have ck141 := k14.cell 1 (u := .slice U13_1 (allL zs0).length C13_1) rfl
  go_wp2_with fail
  clear ck30 ck31 ck50 ck51 ck140 ck141
  refine (heldIntsResult_own _ _ _ 1 _ _ m4_1.sees g1 (by omega) (by omega) (by omega)).mono ?_
  rintro e w15 ⟨rfl, b15⟩
  have s15 := b15.size
  replace a0 := a0.below b15 (by omega)
  replace hT := hT.on b15
  replace p2_1 := p2_1.below b15 (by omega)
  replace k3 := k3.below b15 k3.lt
  replace k5 := k5.below b15 k5.lt
  replace m4_1 := m4_1.below b15 (by omega)
  replace p13_1 := p13_1.below b15 (by omega)
  replace k14 := k14.below b15 k14.lt
  replace hb := below_on hb b15 (Nat.le_refl _)
  go_wp2
  go_ret
  exact ⟨rfl, hb⟩

theorem own : ownKnob Tryd.prog.godebug = none := by kernel_rfl
theorem laidOut : laidOutB Tryd.prog = true := by kernel_rfl

theorem contract (H : Type) (enc : TypeId × Value → H) (W : World) (base : Nat) (args : Array Value) (ds gs : List (DataW H)) (before : List MemPlace)
    (hval0 : ∀ (j : Nat) t v, Tryd.f7.params[j]? = some t → args[j]? = some v → Value.okWide Tryd.prog W .any base t v)
    (hW : DataW.Whole enc Tryd.prog Tryd.f7.params.toList Rows.fnExactDecodeAllSpec.vars false W args.toList ds gs before) (hL : laidMetH Tryd.prog Rows.fnExactDecodeAllRow.laid W) :
    Calls Tryd.prog 7 args W fun e W' => ∃ v, e = .returned v ∧ Rows.fnExactDecodeAllSpec.post enc Tryd.prog Tryd.f7 false true false false W args v W' := by
  have hval : ∀ (j : Nat) t v, Tryd.f7.params[j]? = some t → args[j]? = some v → Value.okWide Tryd.prog W .any base t v := hval0
  have hW' := hW
  obtain ⟨p, q, hA0, hV, rfl, _, _⟩ := hW
  have hA : DataW.TrodAll enc Tryd.prog W 0 (fun _ => true) true Tryd.f7.params.toList args.toList ds p := hA0
  rw [Tryd.params7] at hA hval
  obtain ⟨v0, vs0, d0, ds0, p0, q0, hargs, rfl, rfl, h0, r0⟩ := trodAll_cons hA
  obtain ⟨rfl, rfl, rfl⟩ := trodAll_nil r0
  obtain rfl : args = #[v0] := by cases args; simp_all
  obtain ⟨rfl, rfl⟩ := trodVars_none hV
  clear hA0 hval0
  simp only [List.append_nil] at hW'
  obtain ⟨A0, zs0, c0, rfl, hr0, hw0⟩ := open_nums Tryd.underlying22 Tryd.underlying5 (by kernel_rfl) (hval 0 22 v0 rfl rfl) h0 (fun x hx => by simpa using hW'.lt x (by simp [hx]))
  refine (walk (tabs_of hL) A0 zs0 c0 hr0 hw0).mono fun e W' ⟨he, hb⟩ => ?_
  subst he
  exact ⟨_, rfl, law_post laidOut (by decide +kernel) rfl Tryd.underlying4 rfl rfl rfl rfl hW' hb⟩

theorem laid_met (os : Os) : laidMet Tryd.prog Rows.fnExactDecodeAllRow.laid ((laidWorld os).forCall (fun _ _ => 0) ⟨#[], #[.slice none 0 0], []⟩).memory :=
  laidMet_of_run' 8 (by kernel_rfl) (by kernel_rfl)
theorem reads (os : Os) {H : Type} (enc : TypeId × Value → H) : ∃ places, DataW.whole enc Tryd.prog ((laidWorld os).forCall (fun _ _ => 0) ⟨#[], #[.slice none 0 0], []⟩).memory Tryd.f7.params.toList Rows.fnExactDecodeAllSpec.vars false (#[.slice none 0 0] : Array Value).toList 8 = some ([.nil], [], places) :=
  ⟨[], by kernel_rfl⟩

set_option maxRecDepth 100000 in
theorem lifted (os : Os) (started : os.Started) (H : Type) (enc : TypeId × Value → H) (F : Stop.Interp) :
    ReturnsInHanded {} Tryd.checked os 7 .any ((OpenSpec.ofChange Rows.fnExactDecodeAllSpec).preRow enc Tryd.prog Tryd.f7 Rows.fnExactDecodeAllRow.domain false Rows.fnExactDecodeAllRow.laid) (((OpenSpec.ofChange Rows.fnExactDecodeAllSpec).at F).post enc Tryd.prog Tryd.f7 false true false false) := by
  obtain ⟨places, hx⟩ := reads os enc
  refine returnsInHanded_of_row (C := Tryd.checked) (s := OpenSpec.ofChange Rows.fnExactDecodeAllSpec) own started (by kernel_rfl) Tryd.func7
    (witness_row_at (enc := enc) (C := Tryd.checked) false (laidWorld os) #[.slice none 0 0] rfl (by kernel_rfl) (by kernel_rfl) (by kernel_rfl)
      (OpenSpec.preRow_of_cond 8 hx (by kernel_rfl) (fun k hk => by cases hk) (by kernel_rfl) (laid_met os))) ?_
  intro W base args ds gs before hval hW _ _ _ hL _ _
  exact contract H enc W base args ds gs before hval hW hL

theorem said : Rows.FnExactDecodeAllSaid :=
  OpenClaim.holds_of_cond 7 Tryd.f7 rfl rfl rfl rfl rfl rfl rfl ⟨rfl, rfl, rfl, rfl, rfl⟩ rfl rfl rfl rfl rfl (by kernel_rfl) Tryd.func7 (by kernel_rfl)
    (of_decide_eq_true (by kernel_rfl)) (by unfold Func.isWrapper; first | (rw [if_pos (by decide +kernel)]; kernel_rfl) | (rw [if_neg (by decide +kernel)]; exact ⟨rfl, rfl⟩))
    (fun os started H enc _ F => by rw [OpenClaim.pre_eq_preRow]; exact lifted os started H enc F)

theorem plain (f : FuncId) (fn : Func) (hf : Tryd.pinned.checked.prog.funcNamed "loop.example/g00739/laws.FnExactDecodeAll" = some f) (hfn : Tryd.pinned.checked.prog.funcs[f]? = some fn) :
    false = Tryd.pinned.checked.prog.looks [] ∧ ∀ (j : Nat) t, fn.params[j]? = some t → Tryd.pinned.checked.prog.wantsStandIn t = false := by
  obtain rfl : f = 7 := Option.some.inj ((show Tryd.prog.funcNamed "loop.example/g00739/laws.FnExactDecodeAll" = some 7 by kernel_rfl).symm.trans hf) |>.symm
  obtain rfl : fn = Tryd.f7 := (Option.some.inj (Tryd.func7.symm.trans hfn)).symm
  refine ⟨by kernel_rfl, fun j t ht => ?_⟩
  rw [Tryd.params7] at ht
  have hm := Array.mem_of_getElem? ht
  have all : ∀ t ∈ Tryd.f7.params, Tryd.prog.wantsStandIn t = false := by decide +kernel
  exact all t (by rw [Tryd.params7]; exact hm)

theorem card : Rows.FnExactDecodeAllCardSaid :=
  Claim7.holds_tied_plain_at .later [] _ _ _ _ said (fun _ h => by cases h) (by kernel_rfl) (fun _ h => by cases h) fnExactDecodeAll_row_tie rfl ⟨rfl, rfl⟩ (by kernel_rfl) rfl plain (by kernel_rfl)
#print axioms card
end Go.Proofs.YtgpnkkobjbojnaaDoor.fnExactDecodeAll
