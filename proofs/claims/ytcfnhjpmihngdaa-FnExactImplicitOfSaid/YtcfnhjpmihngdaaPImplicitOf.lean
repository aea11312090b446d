/- FnExactImplicitOf: the law returns true at all its arguments and leaves all memory that was there as it was. No condition. -/
import Derived.Test.YtcfnhjpmihngdaaV2
import Derived.Test.YtcfnhjpmihngdaaH2
import Derived.Test.YtcfnhjpmihngdaaB1
namespace Go.Proofs.Ytcfnhjpmihngdaa.fnExactImplicitOf
open Go.ChangeShapes Go.WideShapes Go.ChangeAt Go.RowKit

set_option maxRecDepth 100000 in
set_option maxHeartbeats 1000000 in
theorem walk (x0 : Int) (x1 : Int) (w : World) (hx0 : (Lit.int .i64 x0).wf = true) (hx1 : (Lit.int .i64 x1).wf = true) :
    Calls Try.prog 3 #[.int .i64 x0, .int .i64 x1] w fun e w' => e = .returned (.bool true) ∧ Below w.heap.size w w' := by
  have hb := Below.refl w.heap.size w
  go_enter Try.func3, Try.ntmps3
  go_wp2_with fail
  refine (specImplicitOf_val _ _ _ hx0 hx1).mono ?_
  rintro e w1 ⟨rfl, b1⟩
  have s1 := b1.size
  replace hb := below_on hb b1 (Nat.le_refl _)
  go_wp2_with fail
  refine (implicitOf_val _ _ _ hx0 hx1).mono ?_
  rintro e w2 ⟨rfl, b2⟩
  have k2 := (Blk.new w1 23 #[.int .i64 (implF x0 x1), .int .i64 (implV x0 x1)]).below b2 (by simp)
  have t2 := k2.lt
  replace b2 := below_alloc b2
  have s2 := b2.size
  replace hb := below_on hb b2 (Nat.le_refl _)
  have ck20 := (k2.alloc (.cells #[.int .i64 (implF x0 x1), .int .i64 (implV x0 x1)] 23)).cell 0 (u := .int .i64 (implF x0 x1)) rfl
  have ck21 := (k2.alloc (.cells #[.int .i64 (implF x0 x1), .int .i64 (implV x0 x1)] 23)).cell 1 (u := .int .i64 (implV x0 x1)) rfl
  go_wp2_with fail
  clear ck20 ck21
  refine (eqIntResult_same _ _ _).mono ?_
  rintro e w3 ⟨rfl, b3⟩
  have k3 := (Blk.new w2 23 #[.int .i64 (implF x0 x1), .int .i64 (implV x0 x1)]).below b3 (by simp)
  have t3 := k3.lt
  replace b3 := below_alloc b3
  have s3 := b3.size
  replace k2 := k2.below b3 k2.lt
  replace hb := below_on hb b3 (Nat.le_refl _)
  go_wp2
  go_ret
  exact ⟨rfl, hb⟩

theorem own : ownKnob Try.prog.godebug = none := by kernel_rfl
theorem laidOut : laidOutB Try.prog = true := by kernel_rfl

set_option maxRecDepth 100000 in
theorem lifted (os : Os) (started : os.Started) (H : Type) (enc : TypeId × Value → H) :
    ReturnsInHanded {} Try.checked os 3 .any (Rows.fnExactImplicitOfSpec.pre6 enc Try.prog Try.f3 Rows.fnExactImplicitOfRow.domain false) (Rows.fnExactImplicitOfSpec.post enc Try.prog Try.f3 false true false false) := by
  refine returnsInHanded_of_change_sized (C := Try.checked) own started (by kernel_rfl) Try.func3
    (ChangeSpec.witness6 (enc := enc) (C := Try.checked) false ⟨#[], #[.int .i64 0, .int .i64 0], []⟩ 8 (by kernel_rfl) (by kernel_rfl) (by kernel_rfl) (by kernel_rfl)) ?_
  intro W base args ds gs before hval0 hW _ _ _
  have hval : ∀ (j : Nat) t v, Try.f3.params[j]? = some t → args[j]? = some v → Value.okWide Try.prog W .any base t v := hval0
  have hW' := hW
  obtain ⟨p, q, hA0, hV, rfl, _, _⟩ := hW
  have hA : DataW.TrodAll enc Try.prog W 0 (fun _ => true) true Try.f3.params.toList args.toList ds p := hA0
  rw [Try.params3] at hA hval
  obtain ⟨v0, vs0, d0, ds0, p0, q0, hargs, rfl, rfl, h0, r0⟩ := trodAll_cons hA
  obtain ⟨v1, vs1, d1, ds1, p1, q1, rfl, rfl, rfl, h1, r1⟩ := trodAll_cons r0
  obtain ⟨rfl, rfl, rfl⟩ := trodAll_nil r1
  obtain rfl : args = #[v0, v1] := by cases args; simp_all
  obtain ⟨rfl, rfl⟩ := trodVars_none hV
  clear hA0 hval0
  simp only [List.append_nil] at hW'
  obtain ⟨x0, rfl, rfl, rfl, hx0⟩ := open_int Try.underlying2 (hval 0 2 v0 rfl rfl) h0
  obtain ⟨x1, rfl, rfl, rfl, hx1⟩ := open_int Try.underlying2 (hval 1 2 v1 rfl rfl) h1
  refine (walk x0 x1 W hx0 hx1).mono fun e W' ⟨he, hb⟩ => ?_
  subst he
  exact ⟨_, rfl, law_post laidOut (by decide +kernel) rfl Try.underlying4 rfl rfl rfl rfl hW' hb⟩

theorem holds : Rows.FnExactImplicitOfSaid :=
  OpenClaim.holds_of_wide 3 Try.f3 rfl rfl rfl rfl rfl rfl rfl ⟨rfl, rfl, rfl, rfl, rfl⟩ rfl rfl rfl rfl rfl (by kernel_rfl) Try.func3 (by kernel_rfl)
    (of_decide_eq_true (by kernel_rfl)) (by unfold Func.isWrapper; first | (rw [if_pos (by decide +kernel)]; kernel_rfl) | (rw [if_neg (by decide +kernel)]; exact ⟨rfl, rfl⟩))
    (fun os started H enc _ => lifted os started H enc)
#print axioms holds
end Go.Proofs.Ytcfnhjpmihngdaa.fnExactImplicitOf
