/- FnExactBaseLevel: the law returns true at all its arguments and leaves all memory that was there as it was. No condition. -/
import Derived.Test.YtmkpbfghnkmcgaaG3
import Derived.Test.YtmkpbfghnkmcgaaH2
import Derived.Test.YtmkpbfghnkmcgaaB1
namespace Go.Proofs.Ytmkpbfghnkmcgaa.fnExactBaseLevel
open Go.ChangeShapes Go.WideShapes Go.ChangeAt Go.RowKit

set_option maxRecDepth 100000 in
set_option maxHeartbeats 1000000 in
theorem walk (A0 : Option Addr) (zs0 : List Int) (c0 : Nat) (w : World) (r0 : Rd w w.heap.size A0 (nums .i64 zs0)) (hw0 : ∀ n ∈ zs0, (Lit.int .i64 n).wf = true) :
    Calls Try.prog 6 #[.slice A0 zs0.length c0] w fun e w' => e = .returned (.bool true) ∧ Below w.heap.size w w' := by
  by_cases hl0 : 1048576 < zs0.length
  · go_enter Try.func6, Try.ntmps6
    go_wp2
    go_ret
    exact ⟨rfl, Below.refl _ _⟩
  have l0 : zs0.length < 1000000000 := by omega
  have a0 : Sees w w.heap.size .i64 (.slice A0 zs0.length c0) zs0 := ⟨_, _, rfl, r0⟩
  replace hl0 := Nat.le_of_not_lt hl0
  have hb := Below.refl w.heap.size w
  go_enter Try.func6, Try.ntmps6
  go_wp2_with fail
  refine (toInt64S_own _ _ _ _ a0 (by omega) (by omega)).mono ?_
  rintro e w1 ⟨⟨v1, rfl, o1⟩, b1⟩
  have s1 := b1.size
  replace a0 := a0.below b1 (by omega)
  replace hb := below_on hb b1 (Nat.le_refl _)
  go_wp2_with fail
  refine (specBaseLevel_val _ _ _ _ o1.sees (by omega) l0 hw0).mono ?_
  rintro e w2 ⟨rfl, b2⟩
  have s2 := b2.size
  replace a0 := a0.below b2 (by omega)
  replace o1 := o1.below b2 (by omega)
  replace hb := below_on hb b2 (Nat.le_refl _)
  go_wp2_with fail
  refine (toInt64S_own _ _ _ _ (a0.alloc (by omega) _) (by simp <;> omega) (by omega)).mono ?_
  rintro e w3 ⟨⟨v3, rfl, o3⟩, b3⟩
  replace o3 := o3.more (Nat.succ_le_of_lt (alloc_lt _ _)) (Nat.le_refl _)
  have k3 := (Blk.new w2 34 #[.int .i64 (textF zs0), .int .i64 (baseV zs0)]).below b3 (by simp)
  have t3 := k3.lt
  replace b3 := below_alloc b3
  have s3 := b3.size
  replace a0 := a0.below b3 (by omega)
  replace hb := below_on hb b3 (Nat.le_refl _)
  have ck30 := k3.cell 0 (u := .int .i64 (textF zs0)) rfl
  have ck31 := k3.cell 1 (u := .int .i64 (baseV zs0)) rfl
  go_wp2_with fail
  clear ck30 ck31
  refine (baseLevel_val _ _ _ _ o3.sees (by omega) l0 hw0).mono ?_
  rintro e w4 ⟨rfl, b4⟩
  have s4 := b4.size
  replace a0 := a0.below b4 (by omega)
  replace k3 := k3.below b4 k3.lt
  replace o3 := o3.below b4 (by omega)
  replace hb := below_on hb b4 (Nat.le_refl _)
  have ck30 := (k3.alloc (.cells #[.int .i64 (textF zs0), .int .i64 (baseV zs0)] 34)).cell 0 (u := .int .i64 (textF zs0)) rfl
  have ck31 := (k3.alloc (.cells #[.int .i64 (textF zs0), .int .i64 (baseV zs0)] 34)).cell 1 (u := .int .i64 (baseV zs0)) rfl
  go_wp2_with fail
  clear ck30 ck31
  refine (eqIntResult_same _ _ _).mono ?_
  rintro e w5 ⟨rfl, b5⟩
  have k5 := (Blk.new w4 34 #[.int .i64 (textF zs0), .int .i64 (baseV zs0)]).below b5 (by simp)
  have t5 := k5.lt
  replace b5 := below_alloc b5
  have s5 := b5.size
  replace a0 := a0.below b5 (by omega)
  replace k3 := k3.below b5 k3.lt
  replace o3 := o3.below b5 (by omega)
  replace hb := below_on hb b5 (Nat.le_refl _)
  have ck30 := k3.cell 0 (u := .int .i64 (textF zs0)) rfl
  have ck31 := k3.cell 1 (u := .int .i64 (baseV zs0)) rfl
  have ck50 := k5.cell 0 (u := .int .i64 (textF zs0)) rfl
  have ck51 := k5.cell 1 (u := .int .i64 (baseV zs0)) rfl
  go_wp2_with fail
  clear ck30 ck31 ck50 ck51
  refine (toInt64S_own _ _ _ _ a0 (by omega) (by omega)).mono ?_
  rintro e w6 ⟨⟨v6, rfl, o6⟩, b6⟩
  have s6 := b6.size
  replace a0 := a0.below b6 (by omega)
  replace k3 := k3.below b6 k3.lt
  replace o3 := o3.below b6 (by omega)
  replace k5 := k5.below b6 k5.lt
  replace hb := below_on hb b6 (Nat.le_refl _)
  have ck30 := k3.cell 0 (u := .int .i64 (textF zs0)) rfl
  have ck31 := k3.cell 1 (u := .int .i64 (baseV zs0)) rfl
  have ck50 := k5.cell 0 (u := .int .i64 (textF zs0)) rfl
  have ck51 := k5.cell 1 (u := .int .i64 (baseV zs0)) rfl
  go_wp2_with fail
  clear ck30 ck31 ck50 ck51
  refine (eqInt64S_same _ _ _ _ _ _ o3.sees o6.sees (by omega)).mono ?_
  rintro e w7 ⟨rfl, n7, e7⟩
  have b7 := below_drawn e7
  clear e7
  have s7 := b7.size
  replace a0 := a0.below b7 (by omega)
  replace k3 := k3.below b7 k3.lt
  replace o3 := o3.below b7 (by omega)
  replace k5 := k5.below b7 k5.lt
  replace o6 := o6.below b7 (by omega)
  replace hb := below_on hb b7 (Nat.le_refl _)
  go_wp2
  go_ret
  exact ⟨rfl, hb⟩

theorem own : ownKnob Try.prog.godebug = none := by kernel_rfl
theorem laidOut : laidOutB Try.prog = true := by kernel_rfl

set_option maxRecDepth 100000 in
theorem lifted (os : Os) (started : os.Started) (H : Type) (enc : TypeId × Value → H) :
    ReturnsInHanded {} Try.checked os 6 .any (Rows.fnExactBaseLevelSpec.pre6 enc Try.prog Try.f6 Rows.fnExactBaseLevelRow.domain false) (Rows.fnExactBaseLevelSpec.post enc Try.prog Try.f6 false true false false) := by
  refine returnsInHanded_of_change_sized (C := Try.checked) own started (by kernel_rfl) Try.func6
    (ChangeSpec.witness6 (enc := enc) (C := Try.checked) false ⟨#[], #[.slice none 0 0], []⟩ 8 (by kernel_rfl) (by kernel_rfl) (by kernel_rfl) (by kernel_rfl)) ?_
  intro W base args ds gs before hval0 hW _ _ _
  have hval : ∀ (j : Nat) t v, Try.f6.params[j]? = some t → args[j]? = some v → Value.okWide Try.prog W .any base t v := hval0
  have hW' := hW
  obtain ⟨p, q, hA0, hV, rfl, _, _⟩ := hW
  have hA : DataW.TrodAll enc Try.prog W 0 (fun _ => true) true Try.f6.params.toList args.toList ds p := hA0
  rw [Try.params6] at hA hval
  obtain ⟨v0, vs0, d0, ds0, p0, q0, hargs, rfl, rfl, h0, r0⟩ := trodAll_cons hA
  obtain ⟨rfl, rfl, rfl⟩ := trodAll_nil r0
  obtain rfl : args = #[v0] := by cases args; simp_all
  obtain ⟨rfl, rfl⟩ := trodVars_none hV
  clear hA0 hval0
  simp only [List.append_nil] at hW'
  obtain ⟨A0, zs0, c0, rfl, hr0, hw0⟩ := open_nums Try.underlying24 Try.underlying2 (by kernel_rfl) (hval 0 24 v0 rfl rfl) h0 (fun x hx => by simpa using hW'.lt x (by simp [hx]))
  refine (walk A0 zs0 c0 W hr0 hw0).mono fun e W' ⟨he, hb⟩ => ?_
  subst he
  exact ⟨_, rfl, law_post laidOut (by decide +kernel) rfl Try.underlying4 rfl rfl rfl rfl hW' hb⟩

theorem holds : Rows.FnExactBaseLevelSaid :=
  OpenClaim.holds_of_wide 6 Try.f6 rfl rfl rfl rfl rfl rfl rfl ⟨rfl, rfl, rfl, rfl, rfl⟩ rfl rfl rfl rfl rfl (by kernel_rfl) Try.func6 (by kernel_rfl)
    (of_decide_eq_true (by kernel_rfl)) (by unfold Func.isWrapper; first | (rw [if_pos (by decide +kernel)]; kernel_rfl) | (rw [if_neg (by decide +kernel)]; exact ⟨rfl, rfl⟩))
    (fun os started H enc _ => lifted os started H enc)
#print axioms holds
end Go.Proofs.Ytmkpbfghnkmcgaa.fnExactBaseLevel
