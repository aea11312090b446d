/- Chapter 4: the model's levels that are told, whole. -/
import Derived.Test.YtcfnhjpmihngdaaGreatY25
namespace Go.Proofs.YtcfnhjpmihngdaaGreat
open Go.RowKit Go.Maps

theorem classesN_cut (zs : List Int) (a b : Nat) : classesN ((zs.take b).drop a) = ((classesN zs).take b).drop a := by unfold classesN; rw [List.map_drop, List.map_take]
theorem all_cut {zs : List Int} {p : Int → Bool} (h : zs.all p = true) (a b : Nat) : ((zs.take b).drop a).all p = true := by
  rw [List.all_eq_true] at *
  exact fun x hx => h x (List.mem_of_mem_take (List.mem_of_mem_drop hx))
theorem Rd.cut {w : World} {B b off : Nat} {zs : List Int} (h : Rd w B (some ⟨b, off, none⟩) (nums .i64 zs)) (x y : Nat) : Rd w B (some ⟨b, off + x, none⟩) (nums .i64 ((zs.take y).drop x)) := by
  intro k u hu
  have hu2 : (nums .i64 zs)[x + k]? = some u := by
    simp only [nums, List.getElem?_map, List.getElem?_drop] at hu ⊢
    rw [List.getElem?_take] at hu
    split at hu
    · exact hu
    · simp at hu
  obtain ⟨b', off', e, hb, hc⟩ := h _ _ hu2
  injection e with e
  injection e with e1 e2
  subst e1; subst e2
  exact ⟨b, off + x, rfl, hb, by rw [Nat.add_assoc]; exact hc⟩
set_option maxRecDepth 100000 in
set_option maxHeartbeats 4000000 in
theorem sFirst_any (A Am : Option Addr) (zs : List Int) (c cm : Nat) (w : World) (h1 : Rd w w.heap.size A (nums .i64 zs)) (h2 : Rd w w.heap.size Am (nums .i64 (matchN (classesN zs)))) (hl : zs.length ≤ 600) (hz : zs.all chrB = true) (hc : zs.length ≤ c)
    (k : Nat) (hk : k < zs.length) (ho : isOp (nth (classesN zs) k)) :
    Calls Tryz.prog 27 #[.slice A zs.length c, .slice Am zs.length cm, .int .i64 k] w fun e w' => e = .returned (.int .i64 (if ownWay (classesN zs) k = 1 then 20 else 19)) ∧ Below w.heap.size w w' := by
  have hkl : (classesN zs).length = zs.length := classesN_len zs
  have eb := endOf_bound (classesN zs) k (by omega) ho
  rw [hkl] at eb
  obtain ⟨e, he⟩ : ∃ e, Hid (e = endOf (classesN zs) k) := ⟨_, Lib.hid rfl⟩
  rw [← he.out] at eb
  obtain ⟨b, off, rfl, hb, hcA⟩ := h1.int (by omega)
  obtain ⟨b2, off2, rfl, hb2, hcm⟩ := h2.int (by rw [matchN_len, hkl]; omega)
  have hm0 := hcm k (by rw [matchN_len, hkl]; exact hk)
  have RC := Lib.hid (h1.cut (k + 1) e)
  have WO := Lib.hid (show ownWay (classesN zs) k = baseG 0 (classesN ((zs.take e).drop (k + 1))) by unfold ownWay; rw [classesN_cut, ← he.out])
  have AC := Lib.hid (all_cut hz (k + 1) e)
  have LC : ((zs.take e).drop (k + 1)).length = e - (k + 1) := by rw [List.length_drop, List.length_take]; omega
  obtain ⟨x, hx⟩ : ∃ x, Hid (x = nth (matchN (classesN zs)) k) := ⟨_, Lib.hid rfl⟩
  have HE : Hid (e = if 0 ≤ x then x.toNat else zs.length) := Lib.hid (by rw [he.out, hx.out]; unfold endOf; rw [hkl])
  rw [← hx.out] at hm0
  obtain ⟨ys, hys⟩ : ∃ ys, Hid (ys = (zs.take e).drop (k + 1)) := ⟨_, Lib.hid rfl⟩
  rw [← hys.out] at RC WO AC LC
  have hyl : ys.length ≤ 600 := by omega
  have LCH := Lib.hid LC
  clear h1 h2 hz hcm hcA ho hkl LC he
  have MLY : Hid ((matchN (classesN ys)).length = ys.length) := Lib.hid (by rw [matchN_len, classesN_len])
  have WB : Hid (baseG 0 (((classesN ys).take ys.length).drop 0) = ownWay (classesN zs) k) := Lib.hid (by rw [WO.out, List.take_of_length_le (by rw [classesN_len]; exact Nat.le_refl _)]; rfl)
  obtain ⟨ans, hans⟩ : ∃ x : Int, Hid (x = if ownWay (classesN zs) k = 1 then 20 else 19) := ⟨_, Lib.hid rfl⟩
  rw [← hans.out]
  by_cases h0 : 0 ≤ x
  · have hxe : x = (e : Int) := by have := HE.out; rw [if_pos h0] at this; omega
    clear hx HE
    subst hxe
    by_cases hck : c = k + 1
    · have RX : Hid (Rd w w.heap.size (some ⟨b, off, none⟩) (nums .i64 ys)) := Lib.hid (by
        have : ys = [] := List.eq_nil_of_length_eq_zero (by have := LCH.out; omega)
        rw [this]; exact Rd.nil _ _ _)
      subst hck
      go_enter Tryz.func27, Tryz.ntmps27
      go_wp2_with fail
      try rw [← LCH.out]
      refine (l3Matches_any (some ⟨b, off, none⟩) ys _ w RX.out hyl AC.out).mono ?_
      rintro e1 w1 ⟨⟨v1, rfl, o1⟩, b1⟩
      obtain ⟨A1, c1, rfl⟩ := o1.form
      have R1 := Lib.hid (RX.out.below b1 (Nat.le_refl _))
      have M1 := Lib.hid (Rd.of o1.1)
      rw [MLY.out]
      have B1 := Lib.hid b1
      clear o1 b1
      go_wp2_with fail
      try rw [← LCH.out]
      refine (l3Base_any (some ⟨b, off, none⟩) A1 ys _ c1 w1 _ _ R1.out M1.out hyl AC.out 0 ys.length (by omega) (by omega)).mono ?_
      rintro e2 w2 ⟨rfl, rfl⟩
      rw [WB.out]
      by_cases hw : ownWay (classesN zs) k = 1
      · have E := Lib.hid (show ans = 20 by rw [hans.out, if_pos hw])
        rw [hw]
        go_wp2
        go_ret
        exact ⟨rint E.out.symm, B1.out⟩
      · have hwe : (ownWay (classesN zs) k == 1) = false := by simpa using hw
        have E := Lib.hid (show ans = 19 by rw [hans.out, if_neg hw])
        obtain ⟨y, hy⟩ : ∃ y, Hid (y = ownWay (classesN zs) k) := ⟨_, Lib.hid rfl⟩
        rw [← hy.out] at hwe ⊢
        clear hw
        go_wp2
        go_ret
        exact ⟨rint E.out.symm, B1.out⟩
    · have RX := RC
      go_enter Tryz.func27, Tryz.ntmps27
      go_wp2_with fail
      try rw [← LCH.out]
      refine (l3Matches_any (some ⟨b, off + (k + 1), none⟩) ys _ w RX.out hyl AC.out).mono ?_
      rintro e1 w1 ⟨⟨v1, rfl, o1⟩, b1⟩
      obtain ⟨A1, c1, rfl⟩ := o1.form
      have R1 := Lib.hid (RX.out.below b1 (Nat.le_refl _))
      have M1 := Lib.hid (Rd.of o1.1)
      rw [MLY.out]
      have B1 := Lib.hid b1
      clear o1 b1
      go_wp2_with fail
      try rw [← LCH.out]
      refine (l3Base_any (some ⟨b, off + (k + 1), none⟩) A1 ys _ c1 w1 _ _ R1.out M1.out hyl AC.out 0 ys.length (by omega) (by omega)).mono ?_
      rintro e2 w2 ⟨rfl, rfl⟩
      rw [WB.out]
      by_cases hw : ownWay (classesN zs) k = 1
      · have E := Lib.hid (show ans = 20 by rw [hans.out, if_pos hw])
        rw [hw]
        go_wp2
        go_ret
        exact ⟨rint E.out.symm, B1.out⟩
      · have hwe : (ownWay (classesN zs) k == 1) = false := by simpa using hw
        have E := Lib.hid (show ans = 19 by rw [hans.out, if_neg hw])
        obtain ⟨y, hy⟩ : ∃ y, Hid (y = ownWay (classesN zs) k) := ⟨_, Lib.hid rfl⟩
        rw [← hy.out] at hwe ⊢
        clear hw
        go_wp2
        go_ret
        exact ⟨rint E.out.symm, B1.out⟩
  · have hxe : e = zs.length := by have := HE.out; rw [if_neg h0] at this; exact this
    clear hx HE
    subst hxe
    by_cases hck : c = k + 1
    · have RX : Hid (Rd w w.heap.size (some ⟨b, off, none⟩) (nums .i64 ys)) := Lib.hid (by
        have : ys = [] := List.eq_nil_of_length_eq_zero (by have := LCH.out; omega)
        rw [this]; exact Rd.nil _ _ _)
      obtain rfl : ys = [] := List.eq_nil_of_length_eq_zero (by have := LCH.out; omega)
      subst hck
      go_enter Tryz.func27, Tryz.ntmps27
      go_wp2_with fail
      refine (l3Matches_any (some ⟨b, off, none⟩) [] _ w RX.out hyl AC.out).mono ?_
      rintro e1 w1 ⟨⟨v1, rfl, o1⟩, b1⟩
      obtain ⟨A1, c1, rfl⟩ := o1.form
      have R1 := Lib.hid (RX.out.below b1 (Nat.le_refl _))
      have M1 := Lib.hid (Rd.of o1.1)
      rw [MLY.out]
      have B1 := Lib.hid b1
      clear o1 b1
      go_wp2_with fail
      refine (l3Base_any (some ⟨b, off, none⟩) A1 [] _ c1 w1 _ _ R1.out M1.out hyl AC.out 0 0 (by omega) (by simp)).mono ?_
      rintro e2 w2 ⟨rfl, rfl⟩
      rw [show baseG 0 (List.drop 0 (List.take 0 (classesN []))) = ownWay (classesN zs) k from WB.out]
      by_cases hw : ownWay (classesN zs) k = 1
      · have E := Lib.hid (show ans = 20 by rw [hans.out, if_pos hw])
        rw [hw]
        go_wp2
        go_ret
        exact ⟨rint E.out.symm, B1.out⟩
      · have hwe : (ownWay (classesN zs) k == 1) = false := by simpa using hw
        have E := Lib.hid (show ans = 19 by rw [hans.out, if_neg hw])
        obtain ⟨y, hy⟩ : ∃ y, Hid (y = ownWay (classesN zs) k) := ⟨_, Lib.hid rfl⟩
        rw [← hy.out] at hwe ⊢
        clear hw
        go_wp2
        go_ret
        exact ⟨rint E.out.symm, B1.out⟩
    · have RX := RC
      go_enter Tryz.func27, Tryz.ntmps27
      go_wp2_with fail
      try rw [← LCH.out]
      refine (l3Matches_any (some ⟨b, off + (k + 1), none⟩) ys _ w RX.out hyl AC.out).mono ?_
      rintro e1 w1 ⟨⟨v1, rfl, o1⟩, b1⟩
      obtain ⟨A1, c1, rfl⟩ := o1.form
      have R1 := Lib.hid (RX.out.below b1 (Nat.le_refl _))
      have M1 := Lib.hid (Rd.of o1.1)
      rw [MLY.out]
      have B1 := Lib.hid b1
      clear o1 b1
      go_wp2_with fail
      try rw [← LCH.out]
      refine (l3Base_any (some ⟨b, off + (k + 1), none⟩) A1 ys _ c1 w1 _ _ R1.out M1.out hyl AC.out 0 ys.length (by omega) (by omega)).mono ?_
      rintro e2 w2 ⟨rfl, rfl⟩
      rw [WB.out]
      by_cases hw : ownWay (classesN zs) k = 1
      · have E := Lib.hid (show ans = 20 by rw [hans.out, if_pos hw])
        rw [hw]
        go_wp2
        go_ret
        exact ⟨rint E.out.symm, B1.out⟩
      · have hwe : (ownWay (classesN zs) k == 1) = false := by simpa using hw
        have E := Lib.hid (show ans = 19 by rw [hans.out, if_neg hw])
        obtain ⟨y, hy⟩ : ∃ y, Hid (y = ownWay (classesN zs) k) := ⟨_, Lib.hid rfl⟩
        rw [← hy.out] at hwe ⊢
        clear hw
        go_wp2
        go_ret
        exact ⟨rint E.out.symm, B1.out⟩
end Go.Proofs.YtcfnhjpmihngdaaGreat

namespace Go.Proofs.YtcfnhjpmihngdaaGreat
open Go.RowKit Go.Maps

theorem set_last (L : List Int) (k : Nat) (x y : Int) (h : L.length = k) : (L ++ [x]).set k y = L ++ [y] := by
  subst h
  rw [List.set_append, if_neg (by omega), Nat.sub_self]; rfl
theorem turnC_last (C : List Int) (k : Nat) (q : Int) (t : Tier) (h : C.length = k) : turnC (C ++ [q]) k t = C ++ [if t.way = -1 then q else t.way] := by
  unfold turnC
  split
  · rfl
  · exact set_last C k q _ h
theorem eat_emb {ks : List Int} {b : Int} {k : Nat} (h : isEmb (nth ks k)) : eat ks b (k + 1) = (embS (leftK (nth ks k)) (wayK (nth ks k)) (eat ks b k).1, (eat ks b k).2.1 ++ [-1], (eat ks b k).2.2 ++ [nth ks k]) := by
  have hg : gone (nth ks k) = true := by unfold gone; unfold isEmb at h; rw [decide_eq_true]; omega
  rw [eat_succ]; unfold stepS lvS clS
  rw [if_pos h, hg]; rfl
theorem eat_iso {ks : List Int} {b : Int} {k : Nat} (h : isOp (nth ks k)) : eat ks b (k + 1) = (isoS (leftKs ks k) (eat ks b k).1, (eat ks b k).2.1 ++ [(topT (eat ks b k).1.stk).lev], (eat ks b k).2.2 ++ [if (topT (eat ks b k).1.stk).way = -1 then nth ks k else (topT (eat ks b k).1.stk).way]) := by
  have hg : gone (nth ks k) = false := by unfold gone; unfold isOp at h; rw [decide_eq_false]; omega
  have he : ¬ isEmb (nth ks k) := by unfold isOp at h; unfold isEmb; omega
  have h22 : ¬ nth ks k = 22 := by unfold isOp at h; omega
  rw [eat_succ]; unfold stepS lvS clS atS
  rw [if_neg he, if_pos h, hg, if_neg h22]; rfl
theorem eat_end {ks : List Int} {b : Int} {k : Nat} (h : nth ks k = 22) : eat ks b (k + 1) = (endS (eat ks b k).1, (eat ks b k).2.1 ++ [(topT (endS (eat ks b k).1).stk).lev], (eat ks b k).2.2 ++ [if (topT (endS (eat ks b k).1).stk).way = -1 then nth ks k else (topT (endS (eat ks b k).1).stk).way]) := by
  rw [eat_succ, h]; rfl
theorem eat_pop {ks : List Int} {b : Int} {k : Nat} (h : nth ks k = 16) : eat ks b (k + 1) = (popS (eat ks b k).1, (eat ks b k).2.1 ++ [-1], (eat ks b k).2.2 ++ [nth ks k]) := by rw [eat_succ, h]; rfl
theorem eat_bn {ks : List Int} {b : Int} {k : Nat} (h : nth ks k = 9) : eat ks b (k + 1) = ((eat ks b k).1, (eat ks b k).2.1 ++ [-1], (eat ks b k).2.2 ++ [nth ks k]) := by rw [eat_succ, h]; rfl
theorem eat_any {ks : List Int} {b : Int} {k : Nat} (h1 : ¬ isEmb (nth ks k)) (h2 : ¬ isOp (nth ks k)) (h3 : ¬ nth ks k = 22) (h4 : ¬ nth ks k = 16) (h5 : ¬ nth ks k = 9) :
    eat ks b (k + 1) = ((eat ks b k).1, (eat ks b k).2.1 ++ [(topT (eat ks b k).1.stk).lev], (eat ks b k).2.2 ++ [if (topT (eat ks b k).1.stk).way = -1 then nth ks k else (topT (eat ks b k).1.stk).way]) := by
  have hg : gone (nth ks k) = false := by unfold gone; unfold isEmb at h1; rw [decide_eq_false]; omega
  rw [eat_succ]; unfold stepS lvS clS atS
  rw [if_neg h1, if_neg h2, if_neg h3, if_neg h4, hg, if_neg h3]; rfl
/-- the model's state at this place -/
def AtS (w : World) (S : Nat → Prop) (g : Nat) (ks : List Int) (b : Int) (k : Nat) (x : Tell × List Int × List Int) (v1 v2 v3 : Value) : Prop := x = eat ks b k ∧ MSt w S g x.1 x.2.1 x.2.2 v1 v2 v3
end Go.Proofs.YtcfnhjpmihngdaaGreat
