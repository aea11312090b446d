/- FnExactCarryFault: the law returns true at every slice of bytes and leaves all memory that was there as it was. Condition: the library's two tables hold what they are laid with (the card ties them). -/
import Derived.Test.YtgpnkkobjbojnaaDoorT2
import Derived.Test.YtgpnkkobjbojnaaDoorH2
import Derived.Test.YtgpnkkobjbojnaaDoorT4
namespace Go.Proofs.YtgpnkkobjbojnaaDoor.fnExactCarryFault
open Go.ChangeShapes Go.WideShapes Go.ChangeAt Go.RowKit

set_option maxHeartbeats 1000000 in
theorem walk {w : World} (hT : Tabs w) (A0 : Option Addr) (zs0 : List Int) (c0 : Nat) (r0 : Rd w w.heap.size A0 (nums .u8 zs0)) (hw0 : ∀ n ∈ zs0, (Lit.int .u8 n).wf = true) :
    Calls Tryd.prog 4 #[.slice A0 zs0.length c0] w fun e w' => e = .returned (.bool true) ∧ Below w.heap.size w w' := by
  by_cases hl0 : 1048576 < zs0.length
  · go_enter Tryd.func4, Tryd.ntmps4
    go_wp2
    go_ret
    exact ⟨rfl, Below.refl _ _⟩
  have l0 : zs0.length < 1000000000 := by omega
  have a0 : Sees w w.heap.size .u8 (.slice A0 zs0.length c0) zs0 := ⟨_, _, rfl, r0⟩
  replace hl0 := Nat.le_of_not_lt hl0
  have hT0 := hT.lt
  have hb := Below.refl w.heap.size w
  go_enter Tryd.func4, Tryd.ntmps4
  go_wp2_with fail
  refine (toByteS_own _ _ _ _ a0 (by omega) (by omega)).mono ?_
  rintro e w1 ⟨⟨v1, rfl, o1⟩, b1⟩
  have s1 := b1.size
  replace a0 := a0.below b1 (by omega)
  replace hT := hT.on b1
  replace hb := below_on hb b1 (Nat.le_refl _)
  go_wp2_with fail
  refine (specCarryFault_val _ _ _ hT _ o1.sees (by omega) l0 hw0).mono ?_
  rintro e w2 ⟨rfl, b2⟩
  have s2 := b2.size
  replace a0 := a0.below b2 (by omega)
  replace hT := hT.on b2
  replace o1 := o1.below b2 (by omega)
  replace hb := below_on hb b2 (Nat.le_refl _)
  go_wp2_with fail
  refine (toByteS_own _ _ _ _ a0 (by omega) (by omega)).mono ?_
  rintro e w3 ⟨⟨v3, rfl, o3⟩, b3⟩
  have s3 := b3.size
  replace a0 := a0.below b3 (by omega)
  replace hT := hT.on b3
  replace hb := below_on hb b3 (Nat.le_refl _)
  go_wp2_with fail
  refine (carryFault_val _ _ _ hT _ o3.sees (by omega) l0 hw0).mono ?_
  rintro e w4 ⟨rfl, b4⟩
  have s4 := b4.size
  replace a0 := a0.below b4 (by omega)
  replace hT := hT.on b4
  replace o3 := o3.below b4 (by omega)
  replace hb := below_on hb b4 (Nat.le_refl _)
  go_wp2_with fail
  refine (toByteS_own _ _ _ _ a0 (by omega) (by omega)).mono ?_
  rintro e w5 ⟨⟨v5, rfl, o5⟩, b5⟩
  have s5 := b5.size
  replace a0 := a0.below b5 (by omega)
  replace hT := hT.on b5
  replace o3 := o3.below b5 (by omega)
  replace hb := below_on hb b5 (Nat.le_refl _)
  go_wp2_with fail
  refine (eqByteS_same _ _ _ _ _ _ o3.sees o5.sees (by omega)).mono ?_
  rintro e w6 ⟨rfl, n6, e6⟩
  have b6 := below_drawn e6
  clear e6
  have s6 := b6.size
  replace a0 := a0.below b6 (by omega)
  replace hT := hT.on b6
  replace o3 := o3.below b6 (by omega)
  replace o5 := o5.below b6 (by omega)
  replace hb := below_on hb b6 (Nat.le_refl _)
  go_wp2
  go_ret
  exact ⟨rfl, hb⟩

theorem own : ownKnob Tryd.prog.godebug = none := by kernel_rfl
theorem laidOut : laidOutB Tryd.prog = true := by kernel_rfl

theorem contract (H : Type) (enc : TypeId × Value → H) (W : World) (base : Nat) (args : Array Value) (ds gs : List (DataW H)) (before : List MemPlace)
    (hval0 : ∀ (j : Nat) t v, Tryd.f4.params[j]? = some t → args[j]? = some v → Value.okWide Tryd.prog W .any base t v)
    (hW : DataW.Whole enc Tryd.prog Tryd.f4.params.toList Rows.fnExactCarryFaultSpec.vars false W args.toList ds gs before) (hL : laidMetH Tryd.prog Rows.fnExactCarryFaultRow.laid W) :
    Calls Tryd.prog 4 args W fun e W' => ∃ v, e = .returned v ∧ Rows.fnExactCarryFaultSpec.post enc Tryd.prog Tryd.f4 false true false false W args v W' := by
  have hval : ∀ (j : Nat) t v, Tryd.f4.params[j]? = some t → args[j]? = some v → Value.okWide Tryd.prog W .any base t v := hval0
  have hW' := hW
  obtain ⟨p, q, hA0, hV, rfl, _, _⟩ := hW
  have hA : DataW.TrodAll enc Tryd.prog W 0 (fun _ => true) true Tryd.f4.params.toList args.toList ds p := hA0
  rw [Tryd.params4] at hA hval
  obtain ⟨v0, vs0, d0, ds0, p0, q0, hargs, rfl, rfl, h0, r0⟩ := trodAll_cons hA
  obtain ⟨rfl, rfl, rfl⟩ := trodAll_nil r0
  obtain rfl : args = #[v0] := by cases args; simp_all
  obtain ⟨rfl, rfl⟩ := trodVars_none hV
  clear hA0 hval0
  simp only [List.append_nil] at hW'
  obtain ⟨A0, zs0, c0, rfl, hr0, hw0⟩ := open_nums Tryd.underlying22 Tryd.underlying5 (by kernel_rfl) (hval 0 22 v0 rfl rfl) h0 (fun x hx => by simpa using hW'.lt x (by simp [hx]))
  refine (walk (tabs_of hL) A0 zs0 c0 hr0 hw0).mono fun e W' ⟨he, hb⟩ => ?_
  subst he
  exact ⟨_, rfl, law_post laidOut (by decide +kernel) rfl Tryd.underlying4 rfl rfl rfl rfl hW' hb⟩

theorem laid_met (os : Os) : laidMet Tryd.prog Rows.fnExactCarryFaultRow.laid ((laidWorld os).forCall (fun _ _ => 0) ⟨#[], #[.slice none 0 0], []⟩).memory :=
  laidMet_of_run' 8 (by kernel_rfl) (by kernel_rfl)
theorem reads (os : Os) {H : Type} (enc : TypeId × Value → H) : ∃ places, DataW.whole enc Tryd.prog ((laidWorld os).forCall (fun _ _ => 0) ⟨#[], #[.slice none 0 0], []⟩).memory Tryd.f4.params.toList Rows.fnExactCarryFaultSpec.vars false (#[.slice none 0 0] : Array Value).toList 8 = some ([.nil], [], places) :=
  ⟨[], by kernel_rfl⟩

set_option maxRecDepth 100000 in
theorem lifted (os : Os) (started : os.Started) (H : Type) (enc : TypeId × Value → H) (F : Stop.Interp) :
    ReturnsInHanded {} Tryd.checked os 4 .any ((OpenSpec.ofChange Rows.fnExactCarryFaultSpec).preRow enc Tryd.prog Tryd.f4 Rows.fnExactCarryFaultRow.domain false Rows.fnExactCarryFaultRow.laid) (((OpenSpec.ofChange Rows.fnExactCarryFaultSpec).at F).post enc Tryd.prog Tryd.f4 false true false false) := by
  obtain ⟨places, hx⟩ := reads os enc
  refine returnsInHanded_of_row (C := Tryd.checked) (s := OpenSpec.ofChange Rows.fnExactCarryFaultSpec) own started (by kernel_rfl) Tryd.func4
    (witness_row_at (enc := enc) (C := Tryd.checked) false (laidWorld os) #[.slice none 0 0] rfl (by kernel_rfl) (by kernel_rfl) (by kernel_rfl)
      (OpenSpec.preRow_of_cond 8 hx (by kernel_rfl) (fun k hk => by cases hk) (by kernel_rfl) (laid_met os))) ?_
  intro W base args ds gs before hval hW _ _ _ hL _ _
  exact contract H enc W base args ds gs before hval hW hL

theorem said : Rows.FnExactCarryFaultSaid :=
  OpenClaim.holds_of_cond 4 Tryd.f4 rfl rfl rfl rfl rfl rfl rfl ⟨rfl, rfl, rfl, rfl, rfl⟩ rfl rfl rfl rfl rfl (by kernel_rfl) Tryd.func4 (by kernel_rfl)
    (of_decide_eq_true (by kernel_rfl)) (by unfold Func.isWrapper; first | (rw [if_pos (by decide +kernel)]; kernel_rfl) | (rw [if_neg (by decide +kernel)]; exact ⟨rfl, rfl⟩))
    (fun os started H enc _ F => by rw [OpenClaim.pre_eq_preRow]; exact lifted os started H enc F)

theorem plain (f : FuncId) (fn : Func) (hf : Tryd.pinned.checked.prog.funcNamed "loop.example/g00739/laws.FnExactCarryFault" = some f) (hfn : Tryd.pinned.checked.prog.funcs[f]? = some fn) :
    false = Tryd.pinned.checked.prog.looks [] ∧ ∀ (j : Nat) t, fn.params[j]? = some t → Tryd.pinned.checked.prog.wantsStandIn t = false := by
  obtain rfl : f = 4 := Option.some.inj ((show Tryd.prog.funcNamed "loop.example/g00739/laws.FnExactCarryFault" = some 4 by kernel_rfl).symm.trans hf) |>.symm
  obtain rfl : fn = Tryd.f4 := (Option.some.inj (Tryd.func4.symm.trans hfn)).symm
  refine ⟨by kernel_rfl, fun j t ht => ?_⟩
  rw [Tryd.params4] at ht
  have hm := Array.mem_of_getElem? ht
  have all : ∀ t ∈ Tryd.f4.params, Tryd.prog.wantsStandIn t = false := by decide +kernel
  exact all t (by rw [Tryd.params4]; exact hm)

theorem card : Rows.FnExactCarryFaultCardSaid :=
  Claim7.holds_tied_plain_at .later [] _ _ _ _ said (fun _ h => by cases h) (by kernel_rfl) (fun _ h => by cases h) fnExactCarryFault_row_tie rfl ⟨rfl, rfl⟩ (by kernel_rfl) rfl plain (by kernel_rfl)
#print axioms card
end Go.Proofs.YtgpnkkobjbojnaaDoor.fnExactCarryFault
