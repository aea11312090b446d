/- FnExactSameSequences: the law returns true at all its arguments and leaves all memory that was there as it was. No condition. -/
import Derived.Test.YthhbikilighemaaJ4
import Derived.Test.YthhbikilighemaaJ1
import Derived.Test.YthhbikilighemaaB1
namespace Go.Proofs.Ythhbikilighemaa.fnExactSameSequences
open Go.ChangeShapes Go.WideShapes Go.ChangeAt Go.RowKit

theorem places_le (qs : List Sq) (h : qs.length + sumQ qs ≤ 1048576) : ∀ j, j < qs.length → (nthQ qs j).places.length < 2000000 := by
  intro j hj
  have := sumQ_nth_le qs j hj
  omega
set_option maxRecDepth 100000 in
set_option maxHeartbeats 2000000 in
theorem walk (A0 : Option Addr) (zs0 : List Sq) (c0 : Nat) (us0 : List Value) (A1 : Option Addr) (zs1 : List Sq) (c1 : Nat) (us1 : List Value) (w : World)
    (hq0 : SeesQ w w.heap.size (.slice A0 zs0.length c0) zs0 us0) (hc0 : zs0.length ≤ c0) (hm0 : c0 ≤ maxLen) (hb0 : ∀ j, j < zs0.length → (nthQ zs0 j).places.length ≤ maxLen)
    (hq1 : SeesQ w w.heap.size (.slice A1 zs1.length c1) zs1 us1) (hc1 : zs1.length ≤ c1) (hm1 : c1 ≤ maxLen) (hb1 : ∀ j, j < zs1.length → (nthQ zs1 j).places.length ≤ maxLen) :
    Calls Try.prog 6 #[.slice A0 zs0.length c0, .slice A1 zs1.length c1] w fun e w' => e = .returned (.bool true) ∧ Below w.heap.size w w' := by
  have mx : maxLen ≤ 9223372036854775807 := by unfold maxLen; omega
  have a0 : SeesQS w w.heap.size (.slice A0 zs0.length c0) zs0 := ⟨us0, hq0⟩
  have a1 : SeesQS w w.heap.size (.slice A1 zs1.length c1) zs1 := ⟨us1, hq1⟩
  have Z0 := Lib.hid (szSequenceS_any (.slice A0 zs0.length c0) zs0 1048576 w w.heap.size a0 (Nat.le_refl _) ⟨by omega, by omega⟩ (by omega) (fun j hj => Nat.le_trans (hb0 j hj) mx))
  have HB1 := Lib.hid (fun j hj => Nat.le_trans (hb1 j hj) mx)
  have l1 : zs1.length ≤ 9223372036854775807 := by omega
  clear hq0 hq1 hb0 hb1 hc0 hc1 hm0 hm1 mx
  by_cases hA : ((zs0.length + sumQ zs0 : Nat) : Int) ≤ 1048576
  · rw [if_pos hA] at Z0
    have sA : zs0.length + sumQ zs0 ≤ 1048576 := by omega
    have P0 := Lib.hid (places_le zs0 sA)
    have G0 : zs0.length + sumQ zs0 < 300000001 := by omega
    have z0 : zs0.length < 2000000 := by omega
    have n0 : ¬ ((1048576 : Int) - ((zs0.length + sumQ zs0 : Nat) : Int) < 0) := by omega
    obtain ⟨k, hk⟩ : ∃ k : Int, Hid (k = 1048576 - ((zs0.length + sumQ zs0 : Nat) : Int)) := ⟨_, Lib.hid rfl⟩
    have kb : 0 ≤ k ∧ k ≤ 1048576 := by have := hk.out; omega
    rw [← hk.out] at Z0 n0
    clear hA
    go_enter Try.func6, Try.ntmps6
    go_wp2_with fail
    refine Z0.out.mono ?_
    rintro e w1 ⟨rfl, b1⟩
    have s1 := b1.size
    replace a0 := a0.below b1 (Nat.le_refl _)
    replace a1 := a1.below b1 (Nat.le_refl _)
    have hb := b1
    clear b1
    have Z1 := Lib.hid (szSequenceS_any (.slice A1 zs1.length c1) zs1 k w1 w.heap.size a1 s1 kb l1 HB1.out)
    by_cases hB : ((zs1.length + sumQ zs1 : Nat) : Int) ≤ k
    · rw [if_pos hB] at Z1
      have sB : zs1.length + sumQ zs1 ≤ 1048576 := by omega
      have P1 := Lib.hid (places_le zs1 sB)
      have G1 : zs1.length + sumQ zs1 < 300000001 := by omega
      have z1 : zs1.length < 2000000 := by omega
      have n1 : ¬ (k - ((zs1.length + sumQ zs1 : Nat) : Int) < 0) := by omega
      have LP0 := Lib.hid (fun j hj => Nat.lt_of_lt_of_le (P0.out j hj) (show 2000000 ≤ 1000000000 by omega))
      have LP1 := Lib.hid (fun j hj => Nat.lt_of_lt_of_le (P1.out j hj) (show 2000000 ≤ 1000000000 by omega))
      clear hB
      go_wp2_with fail
      refine Z1.out.mono ?_
      rintro e w2 ⟨rfl, b2⟩
      have s2 := b2.size
      replace a0 := a0.below b2 s1
      replace a1 := a1.below b2 s1
      replace hb := below_on hb b2 (Nat.le_refl _)
      clear b2
      go_wp2_with fail
      refine (toSequenceS_own _ zs0 w2 _ a0 (by omega) z0 P0.out).mono ?_
      rintro e w3 ⟨⟨v3, rfl, o3⟩, b3⟩
      have s3 := b3.size
      replace a0 := a0.below b3 (by omega)
      replace a1 := a1.below b3 (by omega)
      replace hb := below_on hb b3 (Nat.le_refl _)
      clear b3
      obtain ⟨A3, C3, rfl⟩ := o3.form
      go_wp2_with fail
      refine (toSequenceS_own _ zs1 w3 _ a1 (by omega) z1 P1.out).mono ?_
      rintro e w4 ⟨⟨v4, rfl, o4⟩, b4⟩
      have s4 := b4.size
      replace a0 := a0.below b4 (by omega)
      replace a1 := a1.below b4 (by omega)
      replace o3 := o3.below b4 (Nat.le_refl _)
      replace hb := below_on hb b4 (Nat.le_refl _)
      clear b4
      obtain ⟨A4, C4, rfl⟩ := o4.form
      go_wp2_with fail
      refine (specSame_any _ _ zs0 zs1 w4 _ _ o3.sees o4.sees (by omega) (by omega) z0 z1 LP0.out LP1.out).mono ?_
      rintro e w5 ⟨rfl, b5⟩
      have s5 := b5.size
      replace a0 := a0.below b5 (by omega)
      replace a1 := a1.below b5 (by omega)
      replace hb := below_on hb b5 (Nat.le_refl _)
      clear b5 o3 o4
      go_wp2_with fail
      refine (toSequenceS_own _ zs0 w5 _ a0 (by omega) z0 P0.out).mono ?_
      rintro e w6 ⟨⟨v6, rfl, o6⟩, b6⟩
      have s6 := b6.size
      replace a0 := a0.below b6 (by omega)
      replace a1 := a1.below b6 (by omega)
      replace hb := below_on hb b6 (Nat.le_refl _)
      clear b6
      obtain ⟨A6, C6, rfl⟩ := o6.form
      go_wp2_with fail
      refine (toSequenceS_own _ zs1 w6 _ a1 (by omega) z1 P1.out).mono ?_
      rintro e w7 ⟨⟨v7, rfl, o7⟩, b7⟩
      have s7 := b7.size
      replace a0 := a0.below b7 (by omega)
      replace a1 := a1.below b7 (by omega)
      replace o6 := o6.below b7 (Nat.le_refl _)
      replace hb := below_on hb b7 (Nat.le_refl _)
      clear b7
      obtain ⟨A7, C7, rfl⟩ := o7.form
      go_wp2_with fail
      refine (sameSequences_any _ _ zs0 zs1 w7 _ _ o6.sees o7.sees (by omega) (by omega) z0 z1 LP0.out LP1.out).mono ?_
      rintro e w8 ⟨rfl, b8⟩
      have s8 := b8.size
      replace a0 := a0.below b8 (by omega)
      replace a1 := a1.below b8 (by omega)
      replace o6 := o6.below b8 (by omega)
      replace o7 := o7.below b8 (by omega)
      replace hb := below_on hb b8 (Nat.le_refl _)
      clear b8
      have same : (eqQ zs0 zs1 != eqQ zs0 zs1) = false := by simp
      go_wp2_with fail
      refine (toSequenceS_own _ zs0 w8 _ a0 (by omega) z0 P0.out).mono ?_
      rintro e w9 ⟨⟨v9, rfl, o9⟩, b9⟩
      have s9 := b9.size
      replace a1 := a1.below b9 (by omega)
      replace o6 := o6.below b9 (by omega)
      replace o7 := o7.below b9 (by omega)
      replace hb := below_on hb b9 (Nat.le_refl _)
      clear b9
      obtain ⟨A9, C9, rfl⟩ := o9.form
      go_wp2_with fail
      refine (eqSequenceS_same _ _ zs0 w9 _ _ o6.sees o9.sees (by omega) (by omega) G0).mono ?_
      rintro e w10 ⟨rfl, b10⟩
      have s10 := b10.size
      replace a1 := a1.below b10 (by omega)
      replace o7 := o7.below b10 (by omega)
      replace hb := below_on hb b10 (Nat.le_refl _)
      clear b10
      go_wp2_with fail
      refine (toSequenceS_own _ zs1 w10 _ a1 (by omega) z1 P1.out).mono ?_
      rintro e w11 ⟨⟨v11, rfl, o11⟩, b11⟩
      have s11 := b11.size
      replace o7 := o7.below b11 (by omega)
      replace hb := below_on hb b11 (Nat.le_refl _)
      clear b11
      obtain ⟨A11, C11, rfl⟩ := o11.form
      go_wp2_with fail
      refine (eqSequenceS_same _ _ zs1 w11 _ _ o7.sees o11.sees (by omega) (by omega) G1).mono ?_
      rintro e w12 ⟨rfl, b12⟩
      replace hb := below_on hb b12 (Nat.le_refl _)
      clear b12
      go_wp2
      go_ret
      exact ⟨rfl, hb⟩
    · rw [if_neg hB] at Z1
      clear hB
      go_wp2_with fail
      refine Z1.out.mono ?_
      rintro e w2 ⟨rfl, b2⟩
      replace hb := below_on hb b2 (Nat.le_refl _)
      go_wp2
      go_ret
      exact ⟨rfl, hb⟩
  · rw [if_neg hA] at Z0
    clear hA
    go_enter Try.func6, Try.ntmps6
    go_wp2_with fail
    refine Z0.out.mono ?_
    rintro e w1 ⟨rfl, b1⟩
    go_wp2
    go_ret
    exact ⟨rfl, b1⟩

theorem own : ownKnob Try.prog.godebug = none := by kernel_rfl
theorem laidOut : laidOutB Try.prog = true := by kernel_rfl

set_option maxRecDepth 100000 in
theorem lifted (os : Os) (started : os.Started) (H : Type) (enc : TypeId × Value → H) :
    ReturnsInHanded {} Try.checked os 6 .any (Rows.fnExactSameSequencesSpec.pre6 enc Try.prog Try.f6 Rows.fnExactSameSequencesRow.domain false) (Rows.fnExactSameSequencesSpec.post enc Try.prog Try.f6 false true false false) := by
  refine returnsInHanded_of_change_sized (C := Try.checked) own started (by kernel_rfl) Try.func6
    (ChangeSpec.witness6 (enc := enc) (C := Try.checked) false ⟨#[], #[.slice none 0 0, .slice none 0 0], []⟩ 8 (by kernel_rfl) (by kernel_rfl) (by kernel_rfl) (by kernel_rfl)) ?_
  intro W base args ds gs before hval0 hW _ _ _
  have hval : ∀ (j : Nat) t v, Try.f6.params[j]? = some t → args[j]? = some v → Value.okWide Try.prog W .any base t v := hval0
  have hW' := hW
  obtain ⟨p, q, hA0, hV, rfl, _, _⟩ := hW
  have hA : DataW.TrodAll enc Try.prog W 0 (fun _ => true) true Try.f6.params.toList args.toList ds p := hA0
  rw [Try.params6] at hA hval
  obtain ⟨v0, vs0, d0, ds0, p0, q0, hargs, rfl, rfl, h0, r0⟩ := trodAll_cons hA
  obtain ⟨v1, vs1, d1, ds1, p1, q1, rfl, rfl, rfl, h1, r1⟩ := trodAll_cons r0
  obtain ⟨rfl, rfl, rfl⟩ := trodAll_nil r1
  obtain rfl : args = #[v0, v1] := by cases args; simp_all
  obtain ⟨rfl, rfl⟩ := trodVars_none hV
  clear hA0 hval0
  simp only [List.append_nil] at hW'
  obtain ⟨A0, zs0, c0, us0, rfl, hq0, hc0, hm0, hb0⟩ := open_seqs Try.underlying41 Try.underlying66 (by kernel_rfl) (by kernel_rfl) rfl rfl rfl rfl Try.underlying22 Try.underlying2 (by kernel_rfl) (hval 0 41 v0 rfl rfl) h0 (fun x hx => by simpa using hW'.lt x (by simp [hx]))
  obtain ⟨A1, zs1, c1, us1, rfl, hq1, hc1, hm1, hb1⟩ := open_seqs Try.underlying41 Try.underlying66 (by kernel_rfl) (by kernel_rfl) rfl rfl rfl rfl Try.underlying22 Try.underlying2 (by kernel_rfl) (hval 1 41 v1 rfl rfl) h1 (fun x hx => by simpa using hW'.lt x (by simp [hx]))
  refine (walk A0 zs0 c0 us0 A1 zs1 c1 us1 W hq0 hc0 hm0 hb0 hq1 hc1 hm1 hb1).mono fun e W' ⟨he, hb⟩ => ?_
  subst he
  exact ⟨_, rfl, law_post laidOut (by decide +kernel) rfl Try.underlying4 rfl rfl rfl rfl hW' hb⟩

theorem holds : Rows.FnExactSameSequencesSaid :=
  OpenClaim.holds_of_wide 6 Try.f6 rfl rfl rfl rfl rfl rfl rfl ⟨rfl, rfl, rfl, rfl, rfl⟩ rfl rfl rfl rfl rfl (by kernel_rfl) Try.func6 (by kernel_rfl)
    (of_decide_eq_true (by kernel_rfl)) (by unfold Func.isWrapper; first | (rw [if_pos (by decide +kernel)]; kernel_rfl) | (rw [if_neg (by decide +kernel)]; exact ⟨rfl, rfl⟩))
    (fun os started H enc _ => lifted os started H enc)
#print axioms holds
end Go.Proofs.Ythhbikilighemaa.fnExactSameSequences
