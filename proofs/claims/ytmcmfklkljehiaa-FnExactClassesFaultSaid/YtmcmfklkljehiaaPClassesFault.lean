/- FnExactClassesFault: the law returns true at all its arguments and leaves all memory that was there as it was. No condition. -/
import Derived.Test.YtmcmfklkljehiaaW2
import Derived.Test.YtmcmfklkljehiaaH2
import Derived.Test.YtmcmfklkljehiaaB1
namespace Go.Proofs.Ytmcmfklkljehiaa.fnExactClassesFault
open Go.ChangeShapes Go.WideShapes Go.ChangeAt Go.RowKit

set_option maxRecDepth 100000 in
set_option maxHeartbeats 1000000 in
theorem walk (A0 : Option Addr) (zs0 : List Int) (c0 : Nat) (x1 : Int) (w : World) (r0 : Rd w w.heap.size A0 (nums .i64 zs0)) (hw0 : ∀ n ∈ zs0, (Lit.int .i64 n).wf = true) (hx1 : (Lit.int .i64 x1).wf = true) :
    Calls Try.prog 4 #[.slice A0 zs0.length c0, .int .i64 x1] w fun e w' => e = .returned (.bool true) ∧ Below w.heap.size w w' := by
  by_cases hl0 : 1048576 < zs0.length
  · go_enter Try.func4, Try.ntmps4
    go_wp2
    go_ret
    exact ⟨rfl, Below.refl _ _⟩
  have l0 : zs0.length < 1000000000 := by omega
  have a0 : Sees w w.heap.size .i64 (.slice A0 zs0.length c0) zs0 := ⟨_, _, rfl, r0⟩
  replace hl0 := Nat.le_of_not_lt hl0
  have hbb : ∀ b : Bool, (b != b) = false := by decide
  have hb := Below.refl w.heap.size w
  go_enter Try.func4, Try.ntmps4
  go_wp2_with fail
  refine (toInt64S_own _ _ _ _ a0 (by omega) (by omega)).mono ?_
  rintro e w1 ⟨⟨v1, rfl, o1⟩, b1⟩
  have s1 := b1.size
  replace a0 := a0.below b1 (by omega)
  replace hb := below_on hb b1 (Nat.le_refl _)
  go_wp2_with fail
  refine (specClassesFault_val _ _ _ _ _ o1.sees (by omega) l0 hw0 hx1).mono ?_
  rintro e w2 ⟨rfl, b2⟩
  have s2 := b2.size
  replace a0 := a0.below b2 (by omega)
  replace o1 := o1.below b2 (by omega)
  replace hb := below_on hb b2 (Nat.le_refl _)
  go_wp2_with fail
  refine (toInt64S_own _ _ _ _ a0 (by omega) (by omega)).mono ?_
  rintro e w3 ⟨⟨v3, rfl, o3⟩, b3⟩
  have s3 := b3.size
  replace a0 := a0.below b3 (by omega)
  replace hb := below_on hb b3 (Nat.le_refl _)
  go_wp2_with fail
  refine (classesFault_val _ _ _ _ _ o3.sees (by omega) l0 hw0 hx1).mono ?_
  rintro e w4 ⟨rfl, b4⟩
  have s4 := b4.size
  replace a0 := a0.below b4 (by omega)
  replace o3 := o3.below b4 (by omega)
  replace hb := below_on hb b4 (Nat.le_refl _)
  go_wp2_with fail
  refine (toInt64S_own _ _ _ _ a0 (by omega) (by omega)).mono ?_
  rintro e w5 ⟨⟨v5, rfl, o5⟩, b5⟩
  have s5 := b5.size
  replace a0 := a0.below b5 (by omega)
  replace o3 := o3.below b5 (by omega)
  replace hb := below_on hb b5 (Nat.le_refl _)
  go_wp2_with fail
  refine (eqInt64S_same _ _ _ _ _ _ o3.sees o5.sees (by omega)).mono ?_
  rintro e w6 ⟨rfl, n6, e6⟩
  have b6 := below_drawn e6
  clear e6
  have s6 := b6.size
  replace a0 := a0.below b6 (by omega)
  replace o3 := o3.below b6 (by omega)
  replace o5 := o5.below b6 (by omega)
  replace hb := below_on hb b6 (Nat.le_refl _)
  go_wp2
  go_ret
  exact ⟨rfl, hb⟩

theorem own : ownKnob Try.prog.godebug = none := by kernel_rfl
theorem laidOut : laidOutB Try.prog = true := by kernel_rfl

set_option maxRecDepth 100000 in
theorem lifted (os : Os) (started : os.Started) (H : Type) (enc : TypeId × Value → H) :
    ReturnsInHanded {} Try.checked os 4 .any (Rows.fnExactClassesFaultSpec.pre6 enc Try.prog Try.f4 Rows.fnExactClassesFaultRow.domain false) (Rows.fnExactClassesFaultSpec.post enc Try.prog Try.f4 false true false false) := by
  refine returnsInHanded_of_change_sized (C := Try.checked) own started (by kernel_rfl) Try.func4
    (ChangeSpec.witness6 (enc := enc) (C := Try.checked) false ⟨#[], #[.slice none 0 0, .int .i64 0], []⟩ 8 (by kernel_rfl) (by kernel_rfl) (by kernel_rfl) (by kernel_rfl)) ?_
  intro W base args ds gs before hval0 hW _ _ _
  have hval : ∀ (j : Nat) t v, Try.f4.params[j]? = some t → args[j]? = some v → Value.okWide Try.prog W .any base t v := hval0
  have hW' := hW
  obtain ⟨p, q, hA0, hV, rfl, _, _⟩ := hW
  have hA : DataW.TrodAll enc Try.prog W 0 (fun _ => true) true Try.f4.params.toList args.toList ds p := hA0
  rw [Try.params4] at hA hval
  obtain ⟨v0, vs0, d0, ds0, p0, q0, hargs, rfl, rfl, h0, r0⟩ := trodAll_cons hA
  obtain ⟨v1, vs1, d1, ds1, p1, q1, rfl, rfl, rfl, h1, r1⟩ := trodAll_cons r0
  obtain ⟨rfl, rfl, rfl⟩ := trodAll_nil r1
  obtain rfl : args = #[v0, v1] := by cases args; simp_all
  obtain ⟨rfl, rfl⟩ := trodVars_none hV
  clear hA0 hval0
  simp only [List.append_nil] at hW'
  obtain ⟨A0, zs0, c0, rfl, hr0, hw0⟩ := open_nums Try.underlying24 Try.underlying2 (by kernel_rfl) (hval 0 24 v0 rfl rfl) h0 (fun x hx => by simpa using hW'.lt x (by simp [hx]))
  obtain ⟨x1, rfl, rfl, rfl, hx1⟩ := open_int Try.underlying2 (hval 1 2 v1 rfl rfl) h1
  refine (walk A0 zs0 c0 x1 W hr0 hw0 hx1).mono fun e W' ⟨he, hb⟩ => ?_
  subst he
  exact ⟨_, rfl, law_post laidOut (by decide +kernel) rfl Try.underlying4 rfl rfl rfl rfl hW' hb⟩

theorem holds : Rows.FnExactClassesFaultSaid :=
  OpenClaim.holds_of_wide 4 Try.f4 rfl rfl rfl rfl rfl rfl rfl ⟨rfl, rfl, rfl, rfl, rfl⟩ rfl rfl rfl rfl rfl (by kernel_rfl) Try.func4 (by kernel_rfl)
    (of_decide_eq_true (by kernel_rfl)) (by unfold Func.isWrapper; first | (rw [if_pos (by decide +kernel)]; kernel_rfl) | (rw [if_neg (by decide +kernel)]; exact ⟨rfl, rfl⟩))
    (fun os started H enc _ => lifted os started H enc)
#print axioms holds
end Go.Proofs.Ytmcmfklkljehiaa.fnExactClassesFault
