/- Chapter 4: the program's teller: the way of an isolate. -/
import Derived.Test.YtcfnhjpmihngdaaGreatY27
import Derived.Test.YtcfnhjpmihngdaaGreatY26
namespace Go.Proofs.YtcfnhjpmihngdaaGreat
open Go.RowKit Go.Maps

section
variable (w : World) (S : Nat → Prop) (g gs : Nat) (s : Tell) (L C : List Int) (vk vm v1 v2 v3 : Value) (h : TSt w S g gs s L C vk vm v1 v2 v3)
include h
set_option maxRecDepth 100000 in
set_option maxHeartbeats 4000000 in
theorem iLeft_any (ks : List Int) (Ak Am : Option Addr) (ck cm B : Nat) (hvk : vk = .slice Ak ks.length ck) (hrk : Rd w B Ak (nums .i64 ks)) (hvm : vm = .slice Am ks.length cm) (hrm : Rd w B Am (nums .i64 (matchN ks))) (hB : B ≤ w.heap.size)
    (hc : ks.length ≤ ck) (k : Nat) (hk : k < ks.length) (hkl : ks.length ≤ 600) (ho : isOp (nth ks k)) :
    Calls Tryz.prog 96 #[.pointer (some ⟨g, 0, none⟩), .int .i64 k] w fun e w' => e = .returned (.bool (leftKs ks k)) ∧ Below w.heap.size w w' := by
  subst hvk; subst hvm
  have c0 := h.blk.cell 0 (u := .slice Ak ks.length ck) rfl
  have c1 := h.blk.cell 1 (u := .slice Am ks.length cm) rfl
  clear h
  have eb := endOf_bound ks k hk ho
  obtain ⟨e, he⟩ : ∃ e, Hid (e = endOf ks k) := ⟨_, Lib.hid rfl⟩
  rw [← he.out] at eb
  obtain ⟨ba, off, rfl, hb, hcA⟩ := hrk.int (by omega)
  obtain ⟨b2, off2, rfl, hb2, hcm⟩ := hrm.int (by rw [matchN_len]; omega)
  have hm0 := hcm k (by rw [matchN_len]; exact hk)
  have hq0 := hcA k hk
  have RC := Lib.hid (hrk.cut (k + 1) e)
  have LC : ((ks.take e).drop (k + 1)).length = e - (k + 1) := by rw [List.length_drop, List.length_take]; omega
  have WO := Lib.hid (show baseG 0 ((ks.take e).drop (k + 1)) = ownWay ks k by unfold ownWay; rw [← he.out])
  obtain ⟨x, hx⟩ : ∃ x, Hid (x = nth (matchN ks) k) := ⟨_, Lib.hid rfl⟩
  have HE : Hid (e = if 0 ≤ x then x.toNat else ks.length) := Lib.hid (by rw [he.out, hx.out]; rfl)
  rw [← hx.out] at hm0
  obtain ⟨ys, hys⟩ : ∃ ys, Hid (ys = (ks.take e).drop (k + 1)) := ⟨_, Lib.hid rfl⟩
  rw [← hys.out] at RC LC WO
  have hyl : ys.length ≤ 600 := by omega
  have LCH := Lib.hid LC
  obtain ⟨q, hq⟩ : ∃ q, Hid (q = nth ks k) := ⟨_, Lib.hid rfl⟩
  rw [← hq.out] at hq0 ho
  clear hrk hrm hcm hcA LC he
  by_cases hq21 : q = 21
  · subst hq21
    have HQ := Lib.hid hq.out.symm
    by_cases h0 : 0 ≤ x
    · have hxe : x = (e : Int) := by have := HE.out; rw [if_pos h0] at this; omega
      clear hx HE ho
      subst hxe
      by_cases hcc : ck = k + 1
      · have RX : Hid (Rd w B (some ⟨ba, off, none⟩) (nums .i64 ys)) := Lib.hid (by
          have : ys = [] := List.eq_nil_of_length_eq_zero (by have := LCH.out; omega)
          rw [this]; exact Rd.nil _ _ _)
        obtain rfl : ys = [] := List.eq_nil_of_length_eq_zero (by have := LCH.out; omega)
        subst hcc
        go_enter Tryz.func96, Tryz.ntmps96
        go_wp2_with fail
        try rw [← LCH.out]
        refine (baseAmong_any (some ⟨ba, off, none⟩) [] _ w B RX.out hB hyl).mono ?_
        rintro e2 w2 ⟨rfl, b2⟩
        rw [WO.out]
        by_cases hw : ownWay ks k = 1
        · have hwe : (ownWay ks k == 1) = true := by simp [hw]
          have E := Lib.hid (show leftKs ks k = true by unfold leftKs; rw [if_pos HQ.out, decide_eq_true hw])
          obtain ⟨y, hy⟩ : ∃ y, Hid (y = ownWay ks k) := ⟨_, Lib.hid rfl⟩
          rw [← hy.out] at hwe ⊢
          clear hw
          go_wp2
          go_ret
          exact ⟨rbool E.out.symm, b2⟩
        · have hwe : (ownWay ks k == 1) = false := by simpa using hw
          have E := Lib.hid (show leftKs ks k = false by unfold leftKs; rw [if_pos HQ.out, decide_eq_false hw])
          obtain ⟨y, hy⟩ : ∃ y, Hid (y = ownWay ks k) := ⟨_, Lib.hid rfl⟩
          rw [← hy.out] at hwe ⊢
          clear hw
          go_wp2
          go_ret
          exact ⟨rbool E.out.symm, b2⟩
      · have RX := RC
        go_enter Tryz.func96, Tryz.ntmps96
        go_wp2_with fail
        try rw [← LCH.out]
        refine (baseAmong_any (some ⟨ba, off + (k + 1), none⟩) ys _ w B RX.out hB hyl).mono ?_
        rintro e2 w2 ⟨rfl, b2⟩
        rw [WO.out]
        by_cases hw : ownWay ks k = 1
        · have hwe : (ownWay ks k == 1) = true := by simp [hw]
          have E := Lib.hid (show leftKs ks k = true by unfold leftKs; rw [if_pos HQ.out, decide_eq_true hw])
          obtain ⟨y, hy⟩ : ∃ y, Hid (y = ownWay ks k) := ⟨_, Lib.hid rfl⟩
          rw [← hy.out] at hwe ⊢
          clear hw
          go_wp2
          go_ret
          exact ⟨rbool E.out.symm, b2⟩
        · have hwe : (ownWay ks k == 1) = false := by simpa using hw
          have E := Lib.hid (show leftKs ks k = false by unfold leftKs; rw [if_pos HQ.out, decide_eq_false hw])
          obtain ⟨y, hy⟩ : ∃ y, Hid (y = ownWay ks k) := ⟨_, Lib.hid rfl⟩
          rw [← hy.out] at hwe ⊢
          clear hw
          go_wp2
          go_ret
          exact ⟨rbool E.out.symm, b2⟩
    · have hxe : e = ks.length := by have := HE.out; rw [if_neg h0] at this; exact this
      clear hx HE ho
      subst hxe
      by_cases hcc : ck = k + 1
      · have RX : Hid (Rd w B (some ⟨ba, off, none⟩) (nums .i64 ys)) := Lib.hid (by
          have : ys = [] := List.eq_nil_of_length_eq_zero (by have := LCH.out; omega)
          rw [this]; exact Rd.nil _ _ _)
        obtain rfl : ys = [] := List.eq_nil_of_length_eq_zero (by have := LCH.out; omega)
        subst hcc
        go_enter Tryz.func96, Tryz.ntmps96
        go_wp2_with fail
        try rw [← LCH.out]
        refine (baseAmong_any (some ⟨ba, off, none⟩) [] _ w B RX.out hB hyl).mono ?_
        rintro e2 w2 ⟨rfl, b2⟩
        rw [WO.out]
        by_cases hw : ownWay ks k = 1
        · have hwe : (ownWay ks k == 1) = true := by simp [hw]
          have E := Lib.hid (show leftKs ks k = true by unfold leftKs; rw [if_pos HQ.out, decide_eq_true hw])
          obtain ⟨y, hy⟩ : ∃ y, Hid (y = ownWay ks k) := ⟨_, Lib.hid rfl⟩
          rw [← hy.out] at hwe ⊢
          clear hw
          go_wp2
          go_ret
          exact ⟨rbool E.out.symm, b2⟩
        · have hwe : (ownWay ks k == 1) = false := by simpa using hw
          have E := Lib.hid (show leftKs ks k = false by unfold leftKs; rw [if_pos HQ.out, decide_eq_false hw])
          obtain ⟨y, hy⟩ : ∃ y, Hid (y = ownWay ks k) := ⟨_, Lib.hid rfl⟩
          rw [← hy.out] at hwe ⊢
          clear hw
          go_wp2
          go_ret
          exact ⟨rbool E.out.symm, b2⟩
      · have RX := RC
        go_enter Tryz.func96, Tryz.ntmps96
        go_wp2_with fail
        try rw [← LCH.out]
        refine (baseAmong_any (some ⟨ba, off + (k + 1), none⟩) ys _ w B RX.out hB hyl).mono ?_
        rintro e2 w2 ⟨rfl, b2⟩
        rw [WO.out]
        by_cases hw : ownWay ks k = 1
        · have hwe : (ownWay ks k == 1) = true := by simp [hw]
          have E := Lib.hid (show leftKs ks k = true by unfold leftKs; rw [if_pos HQ.out, decide_eq_true hw])
          obtain ⟨y, hy⟩ : ∃ y, Hid (y = ownWay ks k) := ⟨_, Lib.hid rfl⟩
          rw [← hy.out] at hwe ⊢
          clear hw
          go_wp2
          go_ret
          exact ⟨rbool E.out.symm, b2⟩
        · have hwe : (ownWay ks k == 1) = false := by simpa using hw
          have E := Lib.hid (show leftKs ks k = false by unfold leftKs; rw [if_pos HQ.out, decide_eq_false hw])
          obtain ⟨y, hy⟩ : ∃ y, Hid (y = ownWay ks k) := ⟨_, Lib.hid rfl⟩
          rw [← hy.out] at hwe ⊢
          clear hw
          go_wp2
          go_ret
          exact ⟨rbool E.out.symm, b2⟩
  · have n21 : (q != 21) = true := by simpa using hq21
    by_cases hq20 : q = 20
    · have n20 : (q == 20) = true := by simp [hq20]
      have E := Lib.hid (show leftKs ks k = true by unfold leftKs; rw [← hq.out, if_neg hq21, decide_eq_true hq20])
      clear hq20 hq21 ho
      go_enter Tryz.func96, Tryz.ntmps96
      go_wp2
      go_ret
      exact ⟨rbool E.out.symm, Below.refl _ _⟩
    · have n20 : (q == 20) = false := by simpa using hq20
      have E := Lib.hid (show leftKs ks k = false by unfold leftKs; rw [← hq.out, if_neg hq21, decide_eq_false hq20])
      clear hq20 hq21 ho
      go_enter Tryz.func96, Tryz.ntmps96
      go_wp2
      go_ret
      exact ⟨rbool E.out.symm, Below.refl _ _⟩
end
end Go.Proofs.YtcfnhjpmihngdaaGreat
