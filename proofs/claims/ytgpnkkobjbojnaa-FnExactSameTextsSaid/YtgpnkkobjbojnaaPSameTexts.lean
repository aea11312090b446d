/- FnExactSameTexts: the law returns true at every two slices of int64 and leaves all memory that was there as it was. No condition. -/
import Derived.Test.YtgpnkkobjbojnaaH1
import Derived.Test.YtgpnkkobjbojnaaB1
namespace Go.Proofs.Ytgpnkkobjbojnaa.fnExactSameTexts
open Go.ChangeShapes Go.WideShapes Go.ChangeAt Go.RowKit

set_option maxHeartbeats 400000 in
theorem implSameTexts_any (A A' : Option Addr) (zs ys : List Int) (c c' : Nat) (w : World) (B B' : Nat) (h1 : Rd w B A (nums .i64 zs)) (h2 : Rd w B' A' (nums .i64 ys)) (hl : zs.length < 1000000000) (hl' : ys.length < 1000000000) :
    Calls Try.prog 17 #[.slice A zs.length c, .slice A' ys.length c'] w fun e w' => e = .returned (.bool (decide (zs = ys))) ∧ ∃ n, w' = w.drewN n := by
  go_enter Try.func17, Try.ntmps17
  go_wp2_with (go_at_call 25; refine (slicesEqualInt_any _ _ _ _ _ _ _ _ _ h1 h2 hl hl').mono ?_; rintro e w' ⟨rfl, n, rfl⟩)
  go_ret
  exact ⟨rfl, n, rfl⟩

set_option maxHeartbeats 400000 in
theorem walk (A : Option Addr) (zs : List Int) (c : Nat) (A' : Option Addr) (ys : List Int) (c' : Nat) (w : World) (h1 : Rd w w.heap.size A (nums .i64 zs)) (_ : ∀ n ∈ zs, (Lit.int .i64 n).wf = true) (h2 : Rd w w.heap.size A' (nums .i64 ys)) (_ : ∀ n ∈ ys, (Lit.int .i64 n).wf = true) :
    Calls Try.prog 5 #[.slice A zs.length c, .slice A' ys.length c'] w fun e w' => e = .returned (.bool true) ∧ Below w.heap.size w w' := by
  by_cases hl : zs.length ≤ 1048576
  · by_cases hl' : ys.length ≤ 1048576
    · go_enter Try.func5, Try.ntmps5
      go_wp2_with fail
      refine (toInt64S_any A zs c w _ h1 (Nat.le_refl _) (by omega)).mono ?_
      rintro e w1 ⟨⟨A1, c1, rfl, o1⟩, b1⟩
      replace h1 := h1.on b1
      replace h2 := h2.on b1
      have hb := b1
      clear b1
      go_wp2_with fail
      refine (toInt64S_any A' ys c' w1 _ h2 (Nat.le_refl _) (by omega)).mono ?_
      rintro e w2 ⟨⟨A2, c2, rfl, o2⟩, b2⟩
      replace h1 := h1.on b2
      replace h2 := h2.on b2
      replace o1 := own_below o1 b2
      replace hb := below_on hb b2 (Nat.le_refl _)
      clear b2
      go_wp2_with fail
      refine (specSameTexts_any A1 A2 zs ys c1 c2 w2 _ _ (Rd.of o1) (Rd.of o2) (by omega) (by omega)).mono ?_
      rintro e w3 ⟨rfl, k3, rfl⟩
      have b3 := below_draw w2 k3 w2.heap.size
      replace h1 := h1.on b3
      replace h2 := h2.on b3
      replace o1 := own_below o1 b3
      replace o2 := own_below o2 b3
      replace hb := below_on hb b3 (Nat.le_refl _)
      clear b3
      go_wp2_with fail
      refine (toInt64S_any A zs c (w2.drewN k3) _ h1 (Nat.le_refl _) (by omega)).mono ?_
      rintro e w4 ⟨⟨A4, c4, rfl, o4⟩, b4⟩
      replace h1 := h1.on b4
      replace h2 := h2.on b4
      replace hb := below_on hb b4 (Nat.le_refl _)
      clear b4
      go_wp2_with fail
      refine (toInt64S_any A' ys c' w4 _ h2 (Nat.le_refl _) (by omega)).mono ?_
      rintro e w5 ⟨⟨A5, c5, rfl, o5⟩, b5⟩
      replace h1 := h1.on b5
      replace h2 := h2.on b5
      replace o4 := own_below o4 b5
      replace hb := below_on hb b5 (Nat.le_refl _)
      clear b5
      go_wp2_with fail
      refine (implSameTexts_any A4 A5 zs ys c4 c5 w5 _ _ (Rd.of o4) (Rd.of o5) (by omega) (by omega)).mono ?_
      rintro e w6 ⟨rfl, k6, rfl⟩
      have b6 := below_draw w5 k6 w5.heap.size
      replace h1 := h1.on b6
      replace h2 := h2.on b6
      replace o4 := own_below o4 b6
      replace o5 := own_below o5 b6
      replace hb := below_on hb b6 (Nat.le_refl _)
      clear b6
      go_wp2_with fail
      refine (toInt64S_any A zs c (w5.drewN k6) _ h1 (Nat.le_refl _) (by omega)).mono ?_
      rintro e w7 ⟨⟨A7, c7, rfl, o7⟩, b7⟩
      replace h1 := h1.on b7
      replace h2 := h2.on b7
      replace o4 := own_below o4 b7
      replace o5 := own_below o5 b7
      replace hb := below_on hb b7 (Nat.le_refl _)
      clear b7
      go_wp2_with fail
      refine (eqInt64S_any A4 A7 zs zs c4 c7 w7 _ _ (Rd.of o4) (Rd.of o7) (by omega) (by omega)).mono ?_
      rintro e w8 ⟨rfl, k8, rfl⟩
      have b8 := below_draw w7 k8 w7.heap.size
      replace h1 := h1.on b8
      replace h2 := h2.on b8
      replace o4 := own_below o4 b8
      replace o5 := own_below o5 b8
      replace o7 := own_below o7 b8
      replace hb := below_on hb b8 (Nat.le_refl _)
      clear b8
      go_wp2_with fail
      refine (toInt64S_any A' ys c' (w7.drewN k8) _ h2 (Nat.le_refl _) (by omega)).mono ?_
      rintro e w9 ⟨⟨A9, c9, rfl, o9⟩, b9⟩
      replace h1 := h1.on b9
      replace h2 := h2.on b9
      replace o4 := own_below o4 b9
      replace o5 := own_below o5 b9
      replace o7 := own_below o7 b9
      replace hb := below_on hb b9 (Nat.le_refl _)
      clear b9
      go_wp2_with fail
      refine (eqInt64S_any A5 A9 ys ys c5 c9 w9 _ _ (Rd.of o5) (Rd.of o9) (by omega) (by omega)).mono ?_
      rintro e w10 ⟨rfl, k10, rfl⟩
      have b10 := below_draw w9 k10 w9.heap.size
      replace h1 := h1.on b10
      replace h2 := h2.on b10
      replace o4 := own_below o4 b10
      replace o5 := own_below o5 b10
      replace o7 := own_below o7 b10
      replace o9 := own_below o9 b10
      replace hb := below_on hb b10 (Nat.le_refl _)
      clear b10
      go_wp2
      go_ret
      exact ⟨rfl, hb⟩
    · go_enter Try.func5, Try.ntmps5
      go_wp2
      go_ret
      exact ⟨rfl, Below.refl _ _⟩
  · go_enter Try.func5, Try.ntmps5
    go_wp2
    go_ret
    exact ⟨rfl, Below.refl _ _⟩

theorem own : ownKnob Try.prog.godebug = none := by kernel_rfl
theorem laidOut : laidOutB Try.prog = true := by kernel_rfl

set_option maxRecDepth 100000 in
theorem lifted (os : Os) (started : os.Started) (H : Type) (enc : TypeId × Value → H) :
    ReturnsInHanded {} Try.checked os 5 .any (Rows.fnExactSameTextsSpec.pre6 enc Try.prog Try.f5 Rows.fnExactSameTextsRow.domain false) (Rows.fnExactSameTextsSpec.post enc Try.prog Try.f5 false true false false) := by
  refine returnsInHanded_of_change_sized (C := Try.checked) own started (by kernel_rfl) Try.func5
    (ChangeSpec.witness6 (enc := enc) (C := Try.checked) false ⟨#[], #[.slice none 0 0, .slice none 0 0], []⟩ 8 (by kernel_rfl) (by kernel_rfl) (by kernel_rfl) (by kernel_rfl)) ?_
  intro W base args ds gs before hval0 hW _ _ _
  have hval : ∀ (j : Nat) t v, Try.f5.params[j]? = some t → args[j]? = some v → Value.okWide Try.prog W .any base t v := hval0
  have hW' := hW
  obtain ⟨p, q, hA0, hV, rfl, _, _⟩ := hW
  have hA : DataW.TrodAll enc Try.prog W 0 (fun _ => true) true Try.f5.params.toList args.toList ds p := hA0
  rw [Try.params5] at hA hval
  obtain ⟨v0, vs0, d0, ds0, p0, q0, hargs, rfl, rfl, h0, r0⟩ := trodAll_cons hA
  obtain ⟨v1, vs1, d1, ds1, p1, q1, rfl, rfl, rfl, h1, r1⟩ := trodAll_cons r0
  obtain ⟨rfl, rfl, rfl⟩ := trodAll_nil r1
  obtain rfl : args = #[v0, v1] := by cases args; simp_all
  obtain ⟨rfl, rfl⟩ := trodVars_none hV
  clear hA0 hval0
  simp only [List.append_nil] at hW'
  obtain ⟨A0, zs0, c0, rfl, hr0, hw0⟩ := open_nums Try.underlying23 Try.underlying2 (by kernel_rfl) (hval 0 23 v0 rfl rfl) h0 (fun x hx => by simpa using hW'.lt x (by simp [hx]))
  obtain ⟨A1, zs1, c1, rfl, hr1, hw1⟩ := open_nums Try.underlying23 Try.underlying2 (by kernel_rfl) (hval 1 23 v1 rfl rfl) h1 (fun x hx => by simpa using hW'.lt x (by simp [hx]))
  refine (walk A0 zs0 c0 A1 zs1 c1 W hr0 hw0 hr1 hw1).mono fun e W' ⟨he, hb⟩ => ?_
  subst he
  exact ⟨_, rfl, law_post laidOut (by decide +kernel) rfl Try.underlying4 rfl rfl rfl rfl hW' hb⟩

theorem holds : Rows.FnExactSameTextsSaid :=
  OpenClaim.holds_of_wide 5 Try.f5 rfl rfl rfl rfl rfl rfl rfl ⟨rfl, rfl, rfl, rfl, rfl⟩ rfl rfl rfl rfl rfl (by kernel_rfl) Try.func5 (by kernel_rfl)
    (of_decide_eq_true (by kernel_rfl)) (by unfold Func.isWrapper; first | (rw [if_pos (by decide +kernel)]; kernel_rfl) | (rw [if_neg (by decide +kernel)]; exact ⟨rfl, rfl⟩))
    (fun os started H enc _ => lifted os started H enc)
#print axioms holds
end Go.Proofs.Ytgpnkkobjbojnaa.fnExactSameTexts
