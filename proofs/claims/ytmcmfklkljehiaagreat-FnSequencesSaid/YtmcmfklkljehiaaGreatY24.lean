/- Chapter 4: the model's levels that are told, whole. -/
import Derived.Test.YtmcmfklkljehiaaGreatY23
namespace Go.Proofs.YtmcmfklkljehiaaGreat
open Go.RowKit Go.Maps

section
variable (w : World) (S : Nat → Prop) (g gs : Nat) (s : Tell) (L C : List Int) (vk vm v1 v2 v3 : Value) (h : TSt w S g gs s L C vk vm v1 v2 v3)
include h
set_option maxRecDepth 100000 in
set_option maxHeartbeats 4000000 in
theorem iLeft_any (ks : List Int) (Ak Am : Option Addr) (ck cm B : Nat) (hvk : vk = .slice Ak ks.length ck) (hrk : Rd w B Ak (nums .i64 ks)) (hvm : vm = .slice Am ks.length cm) (hrm : Rd w B Am (nums .i64 (matchN ks))) (hB : B ≤ w.heap.size)
    (hc : ks.length ≤ ck) (k : Nat) (hk : k < ks.length) (hkl : ks.length ≤ 600) (ho : isOp (nth ks k)) :
    Calls Tryz.prog 92 #[.pointer (some ⟨g, 0, none⟩), .int .i64 k] w fun e w' => e = .returned (.bool (leftOf ks k)) ∧ Below w.heap.size w w' := by
  subst hvk; subst hvm
  have c0 := h.blk.cell 0 (u := .slice Ak ks.length ck) rfl
  have c1 := h.blk.cell 1 (u := .slice Am ks.length cm) rfl
  clear h
  have eb := endOf_bound ks k hk ho
  obtain ⟨e, he⟩ : ∃ e, Hid (e = endOf ks k) := ⟨_, Lib.hid rfl⟩
  rw [← he.out] at eb
  obtain ⟨ba, off, rfl, hb, hcA⟩ := hrk.int (by omega)
  obtain ⟨b2, off2, rfl, hb2, hcm⟩ := hrm.int (by rw [matchN_len]; omega)
  have hm0 := hcm k (by rw [matchN_len]; exact hk)
  have hq0 := hcA k hk
  have RC := Lib.hid (hrk.cut (k + 1) e)
  have LC : ((ks.take e).drop (k + 1)).length = e - (k + 1) := by rw [List.length_drop, List.length_take]; omega
  have WO := Lib.hid (show baseG 0 ((ks.take e).drop (k + 1)) = ownWay ks k by unfold ownWay; rw [← he.out])
  obtain ⟨x, hx⟩ : ∃ x, Hid (x = nth (matchN ks) k) := ⟨_, Lib.hid rfl⟩
  have HE : Hid (e = if 0 ≤ x then x.toNat else ks.length) := Lib.hid (by rw [he.out, hx.out]; rfl)
  rw [← hx.out] at hm0
  obtain ⟨ys, hys⟩ : ∃ ys, Hid (ys = (ks.take e).drop (k + 1)) := ⟨_, Lib.hid rfl⟩
  rw [← hys.out] at RC LC WO
  have hyl : ys.length ≤ 600 := by omega
  have LCH := Lib.hid LC
  obtain ⟨q, hq⟩ : ∃ q, Hid (q = nth ks k) := ⟨_, Lib.hid rfl⟩
  rw [← hq.out] at hq0 ho
  clear hrk hrm hcm hcA LC he
  by_cases hq21 : q = 21
  · subst hq21
    have HQ := Lib.hid hq.out.symm
    by_cases h0 : 0 ≤ x
    · have hxe : x = (e : Int) := by have := HE.out; rw [if_pos h0] at this; omega
      clear hx HE ho
      subst hxe
      by_cases hcc : ck = k + 1
      · have RX : Hid (Rd w B (some ⟨ba, off, none⟩) (nums .i64 ys)) := Lib.hid (by
          have : ys = [] := List.eq_nil_of_length_eq_zero (by have := LCH.out; omega)
          rw [this]; exact Rd.nil _ _ _)
        obtain rfl : ys = [] := List.eq_nil_of_length_eq_zero (by have := LCH.out; omega)
        subst hcc
        go_enter Tryz.func92, Tryz.ntmps92
        go_wp2_with fail
        try rw [← LCH.out]
        refine (baseAmong_any (some ⟨ba, off, none⟩) [] _ w B RX.out hB hyl).mono ?_
        rintro e2 w2 ⟨rfl, b2⟩
        rw [WO.out]
        by_cases hw : ownWay ks k = 1
        · have hwe : (ownWay ks k == 1) = true := by simp [hw]
          have E := Lib.hid (show leftOf ks k = true by unfold leftOf; rw [if_pos HQ.out, decide_eq_true hw])
          obtain ⟨y, hy⟩ : ∃ y, Hid (y = ownWay ks k) := ⟨_, Lib.hid rfl⟩
          rw [← hy.out] at hwe ⊢
          clear hw
          go_wp2
          go_ret
          exact ⟨rbool E.out.symm, b2⟩
        · have hwe : (ownWay ks k == 1) = false := by simpa using hw
          have E := Lib.hid (show leftOf ks k = false by unfold leftOf; rw [if_pos HQ.out, decide_eq_false hw])
          obtain ⟨y, hy⟩ : ∃ y, Hid (y = ownWay ks k) := ⟨_, Lib.hid rfl⟩
          rw [← hy.out] at hwe ⊢
          clear hw
          go_wp2
          go_ret
          exact ⟨rbool E.out.symm, b2⟩
      · have RX := RC
        go_enter Tryz.func92, Tryz.ntmps92
        go_wp2_with fail
        try rw [← LCH.out]
        refine (baseAmong_any (some ⟨ba, off + (k + 1), none⟩) ys _ w B RX.out hB hyl).mono ?_
        rintro e2 w2 ⟨rfl, b2⟩
        rw [WO.out]
        by_cases hw : ownWay ks k = 1
        · have hwe : (ownWay ks k == 1) = true := by simp [hw]
          have E := Lib.hid (show leftOf ks k = true by unfold leftOf; rw [if_pos HQ.out, decide_eq_true hw])
          obtain ⟨y, hy⟩ : ∃ y, Hid (y = ownWay ks k) := ⟨_, Lib.hid rfl⟩
          rw [← hy.out] at hwe ⊢
          clear hw
          go_wp2
          go_ret
          exact ⟨rbool E.out.symm, b2⟩
        · have hwe : (ownWay ks k == 1) = false := by simpa using hw
          have E := Lib.hid (show leftOf ks k = false by unfold leftOf; rw [if_pos HQ.out, decide_eq_false hw])
          obtain ⟨y, hy⟩ : ∃ y, Hid (y = ownWay ks k) := ⟨_, Lib.hid rfl⟩
          rw [← hy.out] at hwe ⊢
          clear hw
          go_wp2
          go_ret
          exact ⟨rbool E.out.symm, b2⟩
    · have hxe : e = ks.length := by have := HE.out; rw [if_neg h0] at this; exact this
      clear hx HE ho
      subst hxe
      by_cases hcc : ck = k + 1
      · have RX : Hid (Rd w B (some ⟨ba, off, none⟩) (nums .i64 ys)) := Lib.hid (by
          have : ys = [] := List.eq_nil_of_length_eq_zero (by have := LCH.out; omega)
          rw [this]; exact Rd.nil _ _ _)
        obtain rfl : ys = [] := List.eq_nil_of_length_eq_zero (by have := LCH.out; omega)
        subst hcc
        go_enter Tryz.func92, Tryz.ntmps92
        go_wp2_with fail
        try rw [← LCH.out]
        refine (baseAmong_any (some ⟨ba, off, none⟩) [] _ w B RX.out hB hyl).mono ?_
        rintro e2 w2 ⟨rfl, b2⟩
        rw [WO.out]
        by_cases hw : ownWay ks k = 1
        · have hwe : (ownWay ks k == 1) = true := by simp [hw]
          have E := Lib.hid (show leftOf ks k = true by unfold leftOf; rw [if_pos HQ.out, decide_eq_true hw])
          obtain ⟨y, hy⟩ : ∃ y, Hid (y = ownWay ks k) := ⟨_, Lib.hid rfl⟩
          rw [← hy.out] at hwe ⊢
          clear hw
          go_wp2
          go_ret
          exact ⟨rbool E.out.symm, b2⟩
        · have hwe : (ownWay ks k == 1) = false := by simpa using hw
          have E := Lib.hid (show leftOf ks k = false by unfold leftOf; rw [if_pos HQ.out, decide_eq_false hw])
          obtain ⟨y, hy⟩ : ∃ y, Hid (y = ownWay ks k) := ⟨_, Lib.hid rfl⟩
          rw [← hy.out] at hwe ⊢
          clear hw
          go_wp2
          go_ret
          exact ⟨rbool E.out.symm, b2⟩
      · have RX := RC
        go_enter Tryz.func92, Tryz.ntmps92
        go_wp2_with fail
        try rw [← LCH.out]
        refine (baseAmong_any (some ⟨ba, off + (k + 1), none⟩) ys _ w B RX.out hB hyl).mono ?_
        rintro e2 w2 ⟨rfl, b2⟩
        rw [WO.out]
        by_cases hw : ownWay ks k = 1
        · have hwe : (ownWay ks k == 1) = true := by simp [hw]
          have E := Lib.hid (show leftOf ks k = true by unfold leftOf; rw [if_pos HQ.out, decide_eq_true hw])
          obtain ⟨y, hy⟩ : ∃ y, Hid (y = ownWay ks k) := ⟨_, Lib.hid rfl⟩
          rw [← hy.out] at hwe ⊢
          clear hw
          go_wp2
          go_ret
          exact ⟨rbool E.out.symm, b2⟩
        · have hwe : (ownWay ks k == 1) = false := by simpa using hw
          have E := Lib.hid (show leftOf ks k = false by unfold leftOf; rw [if_pos HQ.out, decide_eq_false hw])
          obtain ⟨y, hy⟩ : ∃ y, Hid (y = ownWay ks k) := ⟨_, Lib.hid rfl⟩
          rw [← hy.out] at hwe ⊢
          clear hw
          go_wp2
          go_ret
          exact ⟨rbool E.out.symm, b2⟩
  · have n21 : (q != 21) = true := by simpa using hq21
    by_cases hq20 : q = 20
    · have n20 : (q == 20) = true := by simp [hq20]
      have E := Lib.hid (show leftOf ks k = true by unfold leftOf; rw [← hq.out, if_neg hq21, decide_eq_true hq20])
      clear hq20 hq21 ho
      go_enter Tryz.func92, Tryz.ntmps92
      go_wp2
      go_ret
      exact ⟨rbool E.out.symm, Below.refl _ _⟩
    · have n20 : (q == 20) = false := by simpa using hq20
      have E := Lib.hid (show leftOf ks k = false by unfold leftOf; rw [← hq.out, if_neg hq21, decide_eq_false hq20])
      clear hq20 hq21 ho
      go_enter Tryz.func92, Tryz.ntmps92
      go_wp2
      go_ret
      exact ⟨rbool E.out.symm, Below.refl _ _⟩
end
end Go.Proofs.YtmcmfklkljehiaaGreat

namespace Go.Proofs.YtmcmfklkljehiaaGreat
open Go.RowKit Go.Maps

theorem set_last (L : List Int) (k : Nat) (x y : Int) (h : L.length = k) : (L ++ [x]).set k y = L ++ [y] := by
  subst h
  rw [List.set_append, if_neg (by omega), Nat.sub_self]; rfl
theorem turnC_last (C : List Int) (k : Nat) (q : Int) (t : Tier) (h : C.length = k) : turnC (C ++ [q]) k t = C ++ [if t.way = -1 then q else t.way] := by
  unfold turnC
  split
  · rfl
  · exact set_last C k q _ h
theorem eat_emb {ks : List Int} {b : Int} {k : Nat} (h : isEmb (nth ks k)) : eat ks b (k + 1) = (embS (leftK (nth ks k)) (wayK (nth ks k)) (eat ks b k).1, (eat ks b k).2.1 ++ [-1], (eat ks b k).2.2 ++ [nth ks k]) := by
  have hg : gone (nth ks k) = true := by unfold gone; unfold isEmb at h; rw [decide_eq_true]; omega
  rw [eat_succ]; unfold stepS lvS clS
  rw [if_pos h, hg]; rfl
theorem eat_iso {ks : List Int} {b : Int} {k : Nat} (h : isOp (nth ks k)) : eat ks b (k + 1) = (isoS (leftOf ks k) (eat ks b k).1, (eat ks b k).2.1 ++ [(topT (eat ks b k).1.stk).lev], (eat ks b k).2.2 ++ [if (topT (eat ks b k).1.stk).way = -1 then nth ks k else (topT (eat ks b k).1.stk).way]) := by
  have hg : gone (nth ks k) = false := by unfold gone; unfold isOp at h; rw [decide_eq_false]; omega
  have he : ¬ isEmb (nth ks k) := by unfold isOp at h; unfold isEmb; omega
  have h22 : ¬ nth ks k = 22 := by unfold isOp at h; omega
  rw [eat_succ]; unfold stepS lvS clS atS
  rw [if_neg he, if_pos h, hg, if_neg h22]; rfl
theorem eat_end {ks : List Int} {b : Int} {k : Nat} (h : nth ks k = 22) : eat ks b (k + 1) = (endS (eat ks b k).1, (eat ks b k).2.1 ++ [(topT (endS (eat ks b k).1).stk).lev], (eat ks b k).2.2 ++ [if (topT (endS (eat ks b k).1).stk).way = -1 then nth ks k else (topT (endS (eat ks b k).1).stk).way]) := by
  rw [eat_succ, h]; rfl
theorem eat_pop {ks : List Int} {b : Int} {k : Nat} (h : nth ks k = 16) : eat ks b (k + 1) = (popS (eat ks b k).1, (eat ks b k).2.1 ++ [-1], (eat ks b k).2.2 ++ [nth ks k]) := by rw [eat_succ, h]; rfl
theorem eat_bn {ks : List Int} {b : Int} {k : Nat} (h : nth ks k = 9) : eat ks b (k + 1) = ((eat ks b k).1, (eat ks b k).2.1 ++ [-1], (eat ks b k).2.2 ++ [nth ks k]) := by rw [eat_succ, h]; rfl
theorem eat_any {ks : List Int} {b : Int} {k : Nat} (h1 : ¬ isEmb (nth ks k)) (h2 : ¬ isOp (nth ks k)) (h3 : ¬ nth ks k = 22) (h4 : ¬ nth ks k = 16) (h5 : ¬ nth ks k = 9) :
    eat ks b (k + 1) = ((eat ks b k).1, (eat ks b k).2.1 ++ [(topT (eat ks b k).1.stk).lev], (eat ks b k).2.2 ++ [if (topT (eat ks b k).1.stk).way = -1 then nth ks k else (topT (eat ks b k).1.stk).way]) := by
  have hg : gone (nth ks k) = false := by unfold gone; unfold isEmb at h1; rw [decide_eq_false]; omega
  rw [eat_succ]; unfold stepS lvS clS atS
  rw [if_neg h1, if_neg h2, if_neg h3, if_neg h4, hg, if_neg h3]; rfl
/-- the model's state at this place -/
def AtS (w : World) (S : Nat → Prop) (g : Nat) (ks : List Int) (b : Int) (k : Nat) (x : Tell × List Int × List Int) (v1 v2 v3 : Value) : Prop := x = eat ks b k ∧ MSt w S g x.1 x.2.1 x.2.2 v1 v2 v3
end Go.Proofs.YtmcmfklkljehiaaGreat
