/- FnExactBracketOf: the law returns true at all its arguments and leaves all memory that was there as it was. Condition: the tables that the row lists hold what they are laid with (the card ties them). -/
import Derived.Test.YtchmolpnfdbhdaaDoorC7
import Derived.Test.YtchmolpnfdbhdaaDoorH2
import Derived.Test.YtchmolpnfdbhdaaDoorV1
namespace Go.Proofs.YtchmolpnfdbhdaaDoor.fnExactBracketOf
open Go.ChangeShapes Go.WideShapes Go.ChangeAt Go.RowKit

set_option maxHeartbeats 1000000 in
theorem walk {w : World} (hT : Pairs w) (x0 : Int) (hx0 : (Lit.int .i64 x0).wf = true) :
    Calls Tryd.prog 6 #[.int .i64 x0] w fun e w' => e = .returned (.bool true) ∧ Below w.heap.size w w' := by
  have hT0 := hT.lt
  have hb := Below.refl w.heap.size w
  go_enter Tryd.func6, Tryd.ntmps6
  go_wp2_with fail
  refine (specBracketOf_val _ _ hx0).mono ?_
  rintro e w1 ⟨rfl, b1⟩
  have s1 := b1.size
  replace hT := hT.on b1
  replace hb := below_on hb b1 (Nat.le_refl _)
  go_wp2_with fail
  refine (bracketOf_val _ _ (hT.alloc _) hx0).mono ?_
  rintro e w2 ⟨rfl, b2⟩
  have k2 := (Blk.new w1 50 #[.int .i64 (brC x0), .bool (brO x0), .int .i64 (brN x0)]).below b2 (by simp)
  have t2 := k2.lt
  replace b2 := below_alloc b2
  have s2 := b2.size
  replace hT := hT.on b2
  replace hb := below_on hb b2 (Nat.le_refl _)
  have ck20 := (k2.alloc (.cells #[.int .i64 (brC x0), .bool (brO x0), .int .i64 (brN x0)] 50)).cell 0 (u := .int .i64 (brC x0)) rfl
  have ck21 := (k2.alloc (.cells #[.int .i64 (brC x0), .bool (brO x0), .int .i64 (brN x0)] 50)).cell 1 (u := .bool (brO x0)) rfl
  have ck22 := (k2.alloc (.cells #[.int .i64 (brC x0), .bool (brO x0), .int .i64 (brN x0)] 50)).cell 2 (u := .int .i64 (brN x0)) rfl
  go_wp2_with fail
  clear ck20 ck21 ck22
  refine (eqBracketResult_same _ _ _ _).mono ?_
  rintro e w3 ⟨rfl, b3⟩
  have k3 := (Blk.new w2 50 #[.int .i64 (brC x0), .bool (brO x0), .int .i64 (brN x0)]).below b3 (by simp)
  have t3 := k3.lt
  replace b3 := below_alloc b3
  have s3 := b3.size
  replace hT := hT.on b3
  replace k2 := k2.below b3 k2.lt
  replace hb := below_on hb b3 (Nat.le_refl _)
  go_wp2
  go_ret
  exact ⟨rfl, hb⟩

theorem own : ownKnob Tryd.prog.godebug = none := by kernel_rfl
theorem laidOut : laidOutB Tryd.prog = true := by kernel_rfl

set_option maxRecDepth 100000 in
theorem contract (H : Type) (enc : TypeId × Value → H) (W : World) (base : Nat) (args : Array Value) (ds gs : List (DataW H)) (before : List MemPlace)
    (hval0 : ∀ (j : Nat) t v, Tryd.f6.params[j]? = some t → args[j]? = some v → Value.okWide Tryd.prog W .any base t v)
    (hW : DataW.Whole enc Tryd.prog Tryd.f6.params.toList Rows.fnExactBracketOfSpec.vars false W args.toList ds gs before) (hL : laidMetH Tryd.prog Rows.fnExactBracketOfRow.laid W) :
    Calls Tryd.prog 6 args W fun e W' => ∃ v, e = .returned v ∧ Rows.fnExactBracketOfSpec.post enc Tryd.prog Tryd.f6 false true false false W args v W' := by
  have hval : ∀ (j : Nat) t v, Tryd.f6.params[j]? = some t → args[j]? = some v → Value.okWide Tryd.prog W .any base t v := hval0
  have hW' := hW
  obtain ⟨p, q, hA0, hV, rfl, _, _⟩ := hW
  have hA : DataW.TrodAll enc Tryd.prog W 0 (fun _ => true) true Tryd.f6.params.toList args.toList ds p := hA0
  rw [Tryd.params6] at hA hval
  obtain ⟨v0, vs0, d0, ds0, p0, q0, hargs, rfl, rfl, h0, r0⟩ := trodAll_cons hA
  obtain ⟨rfl, rfl, rfl⟩ := trodAll_nil r0
  obtain rfl : args = #[v0] := by cases args; simp_all
  obtain ⟨gv, tv, csv, fuelv, dg, pg, rfl, -⟩ := trodVars_one hV
  clear hA0 hval0
  simp only [List.append_nil] at hW'
  obtain ⟨x0, rfl, rfl, rfl, hx0⟩ := open_int Tryd.underlying2 (hval 0 2 v0 rfl rfl) h0
  refine (walk (pairs_of (l := Rows.fnExactBracketOfRow.laid) hL (by simp [Rows.fnExactBracketOfRow])) x0 hx0).mono fun e W' ⟨he, hb⟩ => ?_
  subst he
  exact ⟨_, rfl, law_postV (gs := [dg]) laidOut (by decide +kernel) (by kernel_rfl) rfl Tryd.underlying4 rfl rfl rfl hW' hb⟩

set_option maxRecDepth 100000 in
theorem laid_met (os : Os) : laidMet Tryd.prog Rows.fnExactBracketOfRow.laid ((pairsWorld os).forCall (fun _ _ => 0) ⟨#[], #[.int .i64 0], []⟩).memory :=
  laidMet_of_run' 8 (by kernel_rfl) (by kernel_rfl)
set_option maxRecDepth 100000 in
theorem reads (os : Os) {H : Type} (enc : TypeId × Value → H) : ∃ places, DataW.whole enc Tryd.prog ((pairsWorld os).forCall (fun _ _ => 0) ⟨#[], #[.int .i64 0], []⟩).memory Tryd.f6.params.toList Rows.fnExactBracketOfSpec.vars false (#[.int .i64 0] : Array Value).toList 8 = some ([.lit (.int .i64 0)], [Rows.laid_loop_example_g00739_impl_pairs], places) :=
  ⟨MemPlace.row ⟨0, 0, none⟩ 18, by kernel_rfl⟩

set_option maxRecDepth 100000 in
theorem lifted (os : Os) (started : os.Started) (H : Type) (enc : TypeId × Value → H) (F : Stop.Interp) :
    ReturnsInHanded {} Tryd.checked os 6 .any ((OpenSpec.ofChange Rows.fnExactBracketOfSpec).preRow enc Tryd.prog Tryd.f6 Rows.fnExactBracketOfRow.domain false Rows.fnExactBracketOfRow.laid) (((OpenSpec.ofChange Rows.fnExactBracketOfSpec).at F).post enc Tryd.prog Tryd.f6 false true false false) := by
  obtain ⟨places, hx⟩ := reads os enc
  refine returnsInHanded_of_row (C := Tryd.checked) (s := OpenSpec.ofChange Rows.fnExactBracketOfSpec) own started (by kernel_rfl) Tryd.func6
    (witness_row_at (enc := enc) (C := Tryd.checked) false (pairsWorld os) #[.int .i64 0] rfl (by kernel_rfl) (by kernel_rfl) (by kernel_rfl)
      (OpenSpec.preRow_of_cond 8 hx (by kernel_rfl) (fun k hk => by cases hk) (by kernel_rfl) (laid_met os))) ?_
  intro W base args ds gs before hval hW _ _ _ hL _ _
  exact contract H enc W base args ds gs before hval hW hL

theorem said : Rows.FnExactBracketOfSaid :=
  OpenClaim.holds_of_cond 6 Tryd.f6 rfl rfl rfl rfl rfl rfl rfl ⟨rfl, rfl, rfl, rfl, rfl⟩ rfl rfl rfl rfl rfl (by kernel_rfl) Tryd.func6 (by kernel_rfl)
    (of_decide_eq_true (by kernel_rfl)) (by unfold Func.isWrapper; first | (rw [if_pos (by decide +kernel)]; kernel_rfl) | (rw [if_neg (by decide +kernel)]; exact ⟨rfl, rfl⟩))
    (fun os started H enc _ F => by rw [OpenClaim.pre_eq_preRow]; exact lifted os started H enc F)

theorem plain (f : FuncId) (fn : Func) (hf : Tryd.pinned.checked.prog.funcNamed "loop.example/g00739/laws.FnExactBracketOf" = some f) (hfn : Tryd.pinned.checked.prog.funcs[f]? = some fn) :
    false = Tryd.pinned.checked.prog.looks [] ∧ ∀ (j : Nat) t, fn.params[j]? = some t → Tryd.pinned.checked.prog.wantsStandIn t = false := by
  obtain rfl : f = 6 := Option.some.inj ((show Tryd.prog.funcNamed "loop.example/g00739/laws.FnExactBracketOf" = some 6 by kernel_rfl).symm.trans hf) |>.symm
  obtain rfl : fn = Tryd.f6 := (Option.some.inj (Tryd.func6.symm.trans hfn)).symm
  refine ⟨by kernel_rfl, fun j t ht => ?_⟩
  rw [Tryd.params6] at ht
  have hm := Array.mem_of_getElem? ht
  have all : ∀ t ∈ Tryd.f6.params, Tryd.prog.wantsStandIn t = false := by decide +kernel
  exact all t (by rw [Tryd.params6]; exact hm)

theorem card : Rows.FnExactBracketOfCardSaid :=
  Claim7.holds_tied_plain_at .later [] _ _ _ _ said (fun _ h => by cases h) (by kernel_rfl) (fun _ h => by cases h) fnExactBracketOf_row_tie rfl ⟨rfl, rfl⟩ (by kernel_rfl) rfl plain (by kernel_rfl)
#print axioms card
end Go.Proofs.YtchmolpnfdbhdaaDoor.fnExactBracketOf
