/- FnExactNeutralsOf: the law returns true at all its arguments and leaves all memory that was there as it was. No condition. -/
import Derived.Test.YtkkojemnbcddfaaY4
import Derived.Test.YtkkojemnbcddfaaZ11
import Derived.Test.YtkkojemnbcddfaaY5
namespace Go.Proofs.Ytkkojemnbcddfaa.fnExactNeutralsOf
open Go.ChangeShapes Go.WideShapes Go.ChangeAt Go.RowKit

theorem walk (v0 v1 v2 : Value) (p : Prt) (w : World) (h : PartIn w v0 v1 v2 p) :
    Calls Try.prog 4 #[.agg #[v0, v1, v2, .int .i64 p.L, .int .i64 p.S, .int .i64 p.E]] w fun e w' => e = .returned (.bool true) ∧ Below w.heap.size w w' :=
  exactNeutralsOf_walk (fun v0 v1 v2 p w B h0 h1 h2 hB l0 l1 l2 _ => specNeutralsOf_val v0 v1 v2 p w B h0 h1 h2 hB l0 l1 l2) neutralsOf_val h (neutralsV_small p)

theorem own : ownKnob Try.prog.godebug = none := by kernel_rfl
theorem laidOut : laidOutB Try.prog = true := by kernel_rfl

set_option maxRecDepth 100000 in
theorem lifted (os : Os) (started : os.Started) (H : Type) (enc : TypeId × Value → H) :
    ReturnsInHanded {} Try.checked os 4 .any (Rows.fnExactNeutralsOfSpec.pre6 enc Try.prog Try.f4 Rows.fnExactNeutralsOfRow.domain false) (Rows.fnExactNeutralsOfSpec.post enc Try.prog Try.f4 false true false false) := by
  refine returnsInHanded_of_change_sized (C := Try.checked) own started (by kernel_rfl) Try.func4
    (ChangeSpec.witness6 (enc := enc) (C := Try.checked) false ⟨#[], #[.agg #[.slice none 0 0, .slice none 0 0, .slice none 0 0, .int .i64 0, .int .i64 0, .int .i64 0]], []⟩ 8 (by kernel_rfl) (by kernel_rfl) (by kernel_rfl) (by kernel_rfl)) ?_
  intro W base args ds gs before hval0 hW _ _ _
  have hval : ∀ (j : Nat) t v, Try.f4.params[j]? = some t → args[j]? = some v → Value.okWide Try.prog W .any base t v := hval0
  have hW' := hW
  obtain ⟨p, q, hA0, hV, rfl, _, _⟩ := hW
  have hA : DataW.TrodAll enc Try.prog W 0 (fun _ => true) true Try.f4.params.toList args.toList ds p := hA0
  rw [Try.params4] at hA hval
  obtain ⟨v0, vs0, d0, ds0, p0, q0, hargs, rfl, rfl, h0, r0⟩ := trodAll_cons hA
  obtain ⟨rfl, rfl, rfl⟩ := trodAll_nil r0
  obtain rfl : args = #[v0] := by cases args; simp_all
  obtain ⟨rfl, rfl⟩ := trodVars_none hV
  clear hA0 hval0
  simp only [List.append_nil] at hW'
  obtain ⟨va0, vb0, vc0, prt0, rfl, hp0⟩ := open_part Try.underlying24 (by kernel_rfl) rfl rfl rfl rfl rfl rfl Try.underlying22 Try.underlying2 (by kernel_rfl) (by kernel_rfl) (hval 0 24 v0 rfl rfl) h0 (fun x hx => by simpa using hW'.lt x (by simp [hx]))
  refine (walk va0 vb0 vc0 prt0 W hp0).mono fun e W' ⟨he, hb⟩ => ?_
  subst he
  exact ⟨_, rfl, law_post laidOut (by decide +kernel) rfl Try.underlying4 rfl rfl rfl rfl hW' hb⟩

theorem holds : Rows.FnExactNeutralsOfSaid :=
  OpenClaim.holds_of_wide 4 Try.f4 rfl rfl rfl rfl rfl rfl rfl ⟨rfl, rfl, rfl, rfl, rfl⟩ rfl rfl rfl rfl rfl (by kernel_rfl) Try.func4 (by kernel_rfl)
    (of_decide_eq_true (by kernel_rfl)) (by unfold Func.isWrapper; first | (rw [if_pos (by decide +kernel)]; kernel_rfl) | (rw [if_neg (by decide +kernel)]; exact ⟨rfl, rfl⟩))
    (fun os started H enc _ => lifted os started H enc)
#print axioms holds
end Go.Proofs.Ytkkojemnbcddfaa.fnExactNeutralsOf
