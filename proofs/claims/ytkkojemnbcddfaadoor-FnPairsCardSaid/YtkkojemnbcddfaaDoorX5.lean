/- Chapter 7: the model's brackets. -/
import Derived.Test.YtkkojemnbcddfaaDoorX4
import Derived.Test.YtkkojemnbcddfaaDoorS4
import Derived.Deep.RegionHeld3
namespace Go.Proofs.YtkkojemnbcddfaaDoor
open Go.RowKit

set_option maxRecDepth 100000 in
set_option maxHeartbeats 4000000 in
theorem l7Becomes_any (A : Option Addr) (now : List Int) (c : Nat) (o e : Nat) (way sos : Int) (w : World) (B : Nat) (h : Rd w B A (nums .i64 now)) (hB : B ≤ w.heap.size) (hoe : o < e) (he : e < now.length) (hl : now.length ≤ 600) (hw : way = 0 ∨ way = 1) :
    Calls Tryd.prog 79 #[.slice A now.length c, .agg #[.int .i64 o, .int .i64 e], .int .i64 way, .int .i64 sos] w fun x w' => x = .returned (.int .i64 (becomesN now ((o : Int), (e : Int)) way sos)) ∧ Below w.heap.size w w' := by
  have b1 := (Below.refl w.heap.size w).alloc (Nat.le_refl _) (.cells #[.int .i64 o, .int .i64 e] 34)
  have H := Lib.hid (h.below b1 hB)
  have k1 := Blk.new w 34 #[.int .i64 o, .int .i64 e]
  have x0 := k1.cell 0 (u := .int .i64 o) rfl
  have x1 := k1.cell 1 (u := .int .i64 e) rfl
  have B1 := Lib.hid b1
  have R0 := Lib.hid (show becomesN now ((o : Int), (e : Int)) way sos = match scanB now way (e - (o + 1)) (o + 1) false with | none => way | some false => -1 | some true => if aheadS now sos o = way then way else 1 - way by
    unfold becomesN
    show (match scanB now way ((e : Int) - ((o : Int) + 1)).toNat ((o : Int) + 1).toNat false with | none => way | some false => -1 | some true => if aheadS now sos ((o : Int)).toNat = way then way else 1 - way) = _
    rw [show ((e : Int) - ((o : Int) + 1)).toNat = e - (o + 1) by omega, show ((o : Int) + 1).toNat = o + 1 by omega, Int.toNat_natCast])
  obtain ⟨r, hr⟩ : ∃ r, Hid (r = scanB now way (e - (o + 1)) (o + 1) false) := ⟨_, Lib.hid rfl⟩
  rw [← hr.out] at R0
  clear h k1 b1
  go_enter Tryd.func79, Tryd.ntmps79
  go_wp2
  go_loop [9, 10] (fun ot i => ∃ (j : Nat) (ob : Bool), o + 1 ≤ j ∧ j ≤ e ∧ i = .int .i64 j ∧ ot = .bool ob ∧ Hid (r = scanB now way (e - j) j ob)) (fun _ i => e - (intOf i).toNat)
  case atStart => exact ⟨o + 1, false, Nat.le_refl _, by omega, by go_num, rfl, hr⟩
  case round =>
    obtain ⟨j, ob, hj1, hj2, rfl, rfl, hs⟩ := hrel
    by_cases hlt : j < e
    · obtain ⟨b, off, rfl, _, hc⟩ := H.out.int (by omega)
      have hc0 := hc j (by omega)
      have ji : (j : Int) < (now.length : Int) := by omega
      obtain ⟨d, hd⟩ : ∃ d, Hid (e - j = d + 1) := ⟨e - j - 1, Lib.hid (by show e - j = _; omega)⟩
      have HT := Lib.hid (fun h => scanB_hit (now := now) (way := way) (n := d) (i := j) (o := ob) h)
      have MS := Lib.hid (fun h => scanB_miss (now := now) (way := way) (n := d) (i := j) (o := ob) h)
      have d1 := Lib.hid (show e - (j + 1) = d by have := hd.out; omega)
      rw [hd.out] at hs
      obtain ⟨q, hq⟩ : ∃ q, Hid (q = nth now j) := ⟨_, Lib.hid rfl⟩
      rw [← hq.out] at hc0 HT MS
      obtain ⟨s, hsd⟩ : ∃ s, Hid (s = sideC q) := ⟨_, Lib.hid rfl⟩
      have SC := sideC_cases q
      rw [← hsd.out] at HT MS SC
      clear hc
      by_cases hsw : s = way
      · have E := Lib.hid (show becomesN now ((o : Int), (e : Int)) way sos = way by rw [R0.out, hs.out, HT.out hsw])
        have f1 : (s == way) = true := by simp [hsw]
        clear hsw HT MS
        go_wp2_with (go_at_call 96; refine (l7Side_any _ _).mono ?_; rintro e w' ⟨rfl, rfl⟩; rw [← hsd.out])
        go_ret
        exact ⟨rint E.out.symm, B1.out⟩
      · have f1 : (s == way) = false := by simpa using hsw
        have M2 := Lib.hid (MS.out hsw)
        clear hsw HT MS
        by_cases hs0 : 0 ≤ s
        · have g1 : decide (0 ≤ s) = true := decide_eq_true hs0
          have M3 := Lib.hid (show r = scanB now way (e - (j + 1)) (j + 1) true by rw [d1.out, hs.out, M2.out, g1, Bool.or_true])
          cases ob
          all_goals
            go_wp2_with (go_at_call 96; refine (l7Side_any _ _).mono ?_; rintro e w' ⟨rfl, rfl⟩; rw [← hsd.out])
            go_round
            case rel => exact ⟨j + 1, true, by omega, by omega, by go_num, rfl, M3⟩
            case measure => first | omega | (simp [intOf]; done) | (simp [intOf]; omega)
        · have g1 : decide (0 ≤ s) = false := decide_eq_false hs0
          have M3 := Lib.hid (show r = scanB now way (e - (j + 1)) (j + 1) ob by rw [d1.out, hs.out, M2.out, g1, Bool.or_false])
          cases ob
          all_goals
            go_wp2_with (go_at_call 96; refine (l7Side_any _ _).mono ?_; rintro e w' ⟨rfl, rfl⟩; rw [← hsd.out])
            go_round
            case rel => exact ⟨j + 1, _, by omega, by omega, by go_num, rfl, M3⟩
            case measure => first | omega | (simp [intOf]; done) | (simp [intOf]; omega)
    · have je : j = e := by omega
      subst je
      have hs' := Lib.hid (show r = some ob by have := hs.out; rwa [Nat.sub_self] at this)
      rw [hs'.out] at R0
      cases ob with
      | false =>
        have E := Lib.hid (show becomesN now ((o : Int), (j : Int)) way sos = -1 from R0.out)
        go_wp2
        go_ret
        exact ⟨rint E.out.symm, B1.out⟩
      | true =>
        have E := Lib.hid (show becomesN now ((o : Int), (j : Int)) way sos = if aheadS now sos o = way then way else 1 - way from R0.out)
        obtain ⟨a, ha⟩ : ∃ a, Hid (a = aheadS now sos o) := ⟨_, Lib.hid rfl⟩
        rw [← ha.out] at E
        by_cases haw : a = way
        · have f1 : (a != way) = false := by simp [haw]
          rw [if_pos haw] at E
          clear haw
          go_wp2_with (go_at_call 97; refine (l7Ahead_any A now c o sos _ _ H.out (by omega) hl).mono ?_; rintro e w' ⟨rfl, rfl⟩; rw [← ha.out])
          go_ret
          exact ⟨rint E.out.symm, B1.out⟩
        · have f1 : (a != way) = true := by simpa using haw
          rw [if_neg haw] at E
          clear haw
          rcases hw with rfl | rfl
          all_goals
            go_wp2_with (go_at_call 97; refine (l7Ahead_any A now c o sos _ _ H.out (by omega) hl).mono ?_; rintro e w' ⟨rfl, rfl⟩; rw [← ha.out])
            go_ret
            exact ⟨rint E.out.symm, B1.out⟩
end Go.Proofs.YtkkojemnbcddfaaDoor
