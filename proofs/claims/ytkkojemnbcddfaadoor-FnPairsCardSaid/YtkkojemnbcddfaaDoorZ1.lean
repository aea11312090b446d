/- Chapter 7: the program's small functions: sides, marks, fills. -/
import Derived.Test.YtkkojemnbcddfaaDoorZ0
import Derived.Test.YtkkojemnbcddfaaDoorX6
import Derived.Test.YtkkojemnbcddfaaDoorC1
import Derived.Test.YtkkojemnbcddfaaDoorS3
namespace Go.Proofs.YtkkojemnbcddfaaDoor
open Go.RowKit Go.Maps

theorem sideOfClass_any (z : Int) (w : World) : Calls Tryd.prog 94 #[.int .i64 z] w fun e w' => e = .returned (.int .i64 (sideC z)) ∧ w = w' := by
  by_cases h0 : z = 0
  · subst h0
    go_enter Tryd.func94, Tryd.ntmps94
    go_wp2
    go_ret
    exact ⟨rfl, rfl⟩
  · by_cases h1 : z = 1 ∨ z = 3 ∨ z = 6
    · have E := Lib.hid (show sideC z = 1 by unfold sideC; rw [if_neg h0, if_pos h1])
      rcases h1 with rfl | rfl | rfl
      all_goals
        go_enter Tryd.func94, Tryd.ntmps94
        go_wp2
        go_ret
        exact ⟨rfl, rfl⟩
    · have E := Lib.hid (show sideC z = -1 by unfold sideC; rw [if_neg h0, if_neg h1])
      have n0 : (z == 0) = false := by simpa using h0
      have n1 : (z == 1) = false := by simp; omega
      have n3 : (z == 3) = false := by simp; omega
      have n6 : (z == 6) = false := by simp; omega
      clear h0 h1
      go_enter Tryd.func94, Tryd.ntmps94
      go_wp2
      go_ret
      exact ⟨rint E.out.symm, rfl⟩
theorem hasSide_any (s : Int) (w : World) : Calls Tryd.prog 91 #[.int .i64 s] w fun e w' => e = .returned (.func (.func 114) #[] #[.pointer (some ⟨w.heap.size, 0, none⟩)]) ∧ w.alloc (.cells #[.int .i64 s] 2) = w' := by
  go_enter Tryd.func91, Tryd.ntmps91
  go_wp2
  go_ret
  exact ⟨rfl, rfl⟩
theorem hasSide1_any (z s : Int) (g : Nat) (w : World) (h : w.cell? ⟨g, 0, none⟩ = some (.int .i64 s)) : Calls Tryd.prog 114 #[.int .i64 z, .pointer (some ⟨g, 0, none⟩)] w fun e w' => e = .returned (.bool (decide (sideC z = s))) ∧ ∃ m, w' = w.drewN m := by
  have SC := Lib.hid (fun w => sideOfClass_any z w)
  obtain ⟨q, hq⟩ : ∃ q, Hid (sideC z = q) := ⟨_, Lib.hid rfl⟩
  rw [hq.out] at SC ⊢
  go_enter Tryd.func114, Tryd.ntmps114
  go_wp2_with fail
  go_quiet ((go_at_call 94; exact quiet_own (same_draw (SC.out _) rfl)))
  go_wp2
  go_ret
  exact ⟨rbool (by first | rfl | (rw [Bool.eq_iff_iff]; simp)), ⟨_, rfl⟩⟩
set_option maxRecDepth 100000 in
set_option maxHeartbeats 1000000 in
theorem indexSide_any (A : Option Addr) (ks : List Int) (c : Nat) (s : Int) (g : Nat) (w : World) (B : Nat) (h1 : Rd w B A (nums .i64 ks)) (hg : w.cell? ⟨g, 0, none⟩ = some (.int .i64 s)) (hl : ks.length ≤ 600) :
    Calls Tryd.prog 113 #[.slice A ks.length c, .func (.func 114) #[] #[.pointer (some ⟨g, 0, none⟩)]] w fun e w' => (∃ n : Int, e = .returned (.int .i64 n) ∧ decide (0 ≤ n) = anyS ks s) ∧ ∃ m, w' = w.drewN m := by
  have H1 := Lib.hid h1
  have HG := Lib.hid hg
  clear h1 hg
  obtain ⟨ans, hans⟩ : ∃ x, Hid (x = anyS ks s) := ⟨_, Lib.hid rfl⟩
  rw [← hans.out]
  have EL : Hid (ans = anyS (ks.drop 0) s) := hans
  go_enter Tryd.func113, Tryd.ntmps113
  go_wp2
  go_loopw [8] (fun i wr => ∃ k d : Nat, k ≤ ks.length ∧ i = .int .i64 k ∧ wr = w.drewN d ∧ Hid (ans = anyS (ks.drop k) s)) (fun i _ => ks.length - (intOf i).toNat)
  case atStart => exact ⟨0, 0, by omega, rfl, rfl, EL⟩
  case round =>
    obtain ⟨k, d, hk, rfl, rfl, hs⟩ := hrel
    by_cases hlt : k < ks.length
    · obtain ⟨b', off, rfl, hb', hc⟩ := H1.out.int (by omega)
      have hc0 : (w.drewN d).cell? ⟨b', off + k, none⟩ = some (.int .i64 (nth ks k)) := hc k hlt
      clear hc
      have BC := Lib.hid (show anyS (ks.drop k) s = (decide (sideC (nth ks k) = s) || anyS (ks.drop (k + 1)) s) by rw [drop_nth ks k hlt]; rfl)
      obtain ⟨q, hq⟩ : ∃ q, Hid (q = nth ks k) := ⟨_, Lib.hid rfl⟩
      rw [← hq.out] at hc0 BC
      go_wp2_with fail
      refine (hasSide1_any q s g (w.drewN d) HG.out).mono ?_
      rintro e w' ⟨rfl, m, rfl⟩
      by_cases hzq : sideC q = s
      · have E := Lib.hid (show ans = true by rw [hs.out, BC.out]; simp [hzq])
        rw [decide_eq_true hzq]
        clear hzq
        go_wp2
        go_ret
        exact ⟨⟨_, rfl, by rw [E.out]; simp⟩, _, rfl⟩
      · have E := Lib.hid (show ans = anyS (ks.drop (k + 1)) s by rw [hs.out, BC.out]; simp [hzq])
        rw [decide_eq_false hzq]
        clear hzq
        go_wp2
        go_roundw
        case rel => exact ⟨k + 1, d + m, by omega, by go_num, rfl, E⟩
        case measure => first | omega | (simp [intOf]; omega)
    · have E := Lib.hid (show ans = false by rw [hs.out, List.drop_of_length_le (by omega)]; rfl)
      go_wp2
      go_ret
      exact ⟨⟨_, rfl, by rw [E.out]; simp⟩, _, rfl⟩
theorem containsSide_any (A : Option Addr) (ks : List Int) (c : Nat) (s : Int) (g : Nat) (w : World) (B : Nat) (h1 : Rd w B A (nums .i64 ks)) (hg : w.cell? ⟨g, 0, none⟩ = some (.int .i64 s)) (hl : ks.length ≤ 600) :
    Calls Tryd.prog 90 #[.slice A ks.length c, .func (.func 114) #[] #[.pointer (some ⟨g, 0, none⟩)]] w fun e w' => e = .returned (.bool (anyS ks s)) ∧ ∃ m, w' = w.drewN m := by
  have H1 := Lib.hid h1
  have HG := Lib.hid hg
  clear h1 hg
  go_enter Tryd.func90, Tryd.ntmps90
  go_wp2_with fail
  refine (indexSide_any A ks c s g w B H1.out HG.out hl).mono ?_
  rintro e w' ⟨⟨n, rfl, hn⟩, m, rfl⟩
  have HN := Lib.hid hn
  clear hn
  go_wp2
  go_ret
  exact ⟨rbool (by rw [← HN.out]), _, rfl⟩
theorem spans_neu (z : Int) : spans z [10, 13, 19, 22] = isNeu z := by simp [spans, isNeu, Bool.decide_and, Bool.decide_or]
theorem isNeutral_any (z : Int) (w : World) : Calls Tryd.prog 75 #[.int .i64 z] w fun e w' => e = .returned (.bool (isNeu z)) ∧ Below w.heap.size w w' := by
  have E := Lib.hid (spans_neu z)
  have b1 := (Below.refl w.heap.size w).alloc (Nat.le_refl _) (.cells #[.int .i64 10, .int .i64 13, .int .i64 19, .int .i64 22] 2)
  go_enter Tryd.func75, Tryd.ntmps75
  go_wp2_with (go_at_call 40; (with_reducible refine (within_lit4 _ _ _ _ _ _ _ _ (by simp)).mono ?_); rintro e w' ⟨rfl, rfl⟩)
  go_ret
  exact ⟨rbool E.out, b1⟩
set_option maxRecDepth 100000 in
set_option maxHeartbeats 1000000 in
theorem lastMark_any (A : Option Addr) (F : List Int) (c : Nat) (a : Nat) (w : World) (B : Nat) (h1 : Rd w B A (nums .i64 F)) (ha : a < F.length) (hl : F.length ≤ 600) :
    Calls Tryd.prog 72 #[.slice A F.length c, .int .i64 a] w fun e w' => e = .returned (.int .i64 (lastM F a)) ∧ w = w' := by
  have H1 := Lib.hid h1
  clear h1
  obtain ⟨ans, hans⟩ : ∃ x, Hid (x = lastM F a) := ⟨_, Lib.hid rfl⟩
  rw [← hans.out]
  have EL : Hid (ans + 1 = endM F (F.length - (a + 1)) (a + 1)) := Lib.hid (by rw [hans.out]; unfold lastM; have := endM_le F (F.length - (a + 1)) (a + 1); show endM F (F.length - (a + 1)) (a + 1) - 1 + 1 = endM F (F.length - (a + 1)) (a + 1); omega)
  go_enter Tryd.func72, Tryd.ntmps72
  go_wp2
  go_loop [5] (fun i => ∃ k : Nat, a ≤ k ∧ k < F.length ∧ i = .int .i64 k ∧ Hid (ans + 1 = endM F (F.length - (k + 1)) (k + 1))) (fun i => F.length - (intOf i).toNat)
  case atStart => exact ⟨a, by omega, ha, rfl, EL⟩
  case round =>
    obtain ⟨k, hak, hk, rfl, hs⟩ := hrel
    by_cases hlt : k + 1 < F.length
    · obtain ⟨b', off, rfl, hb', hc⟩ := H1.out.int (by omega)
      have hc0 := hc (k + 1) hlt
      have hlt2 : (k : Int) + 1 < F.length := by omega
      clear hc
      obtain ⟨m, hm⟩ : ∃ m, F.length - (k + 1) = m + 1 := ⟨F.length - (k + 1) - 1, by omega⟩
      have HIT := Lib.hid (endM_hit (F := F) (n := m) (k := k + 1))
      have MIS := Lib.hid (endM_miss (F := F) (n := m) (k := k + 1))
      obtain ⟨q, hq⟩ : ∃ q, Hid (q = nth F (k + 1)) := ⟨_, Lib.hid rfl⟩
      rw [← hq.out] at hc0 HIT MIS
      by_cases hz : q = 8
      · have nq : (q == 8) = true := by simp [hz]
        have E := Lib.hid (show ans + 1 = endM F (F.length - (k + 1 + 1)) (k + 1 + 1) by rw [hs.out, hm, HIT.out hz, show F.length - (k + 1 + 1) = m by omega])
        clear hz hm
        go_wp2
        go_round
        case rel => exact ⟨k + 1, by omega, by omega, by go_num, E⟩
        case measure => first | omega | (simp [intOf]; omega)
      · have nq : (q == 8) = false := by simpa using hz
        have E := Lib.hid (show ans = k by have := hs.out; rw [hm, MIS.out hz] at this; omega)
        clear hz hm
        go_wp2
        go_ret
        exact ⟨rint (by rw [E.out]), rfl⟩
    · have hlt2 : ¬ (k : Int) + 1 < F.length := by omega
      have hd : decide ((k : Int) + 1 < F.length) = false := decide_eq_false hlt2
      have E := Lib.hid (show ans = k by have := hs.out; rw [show F.length - (k + 1) = 0 by omega] at this; have this : ans + 1 = k + 1 := this; omega)
      go_wp2
      go_ret
      exact ⟨rint (by rw [E.out]), rfl⟩
theorem fill_none (A : Option Addr) (c : Nat) (s : Int) (w : World) : Calls Tryd.prog 73 #[.slice A 0 c, .int .i64 s] w fun e w' => e = .returned (.tuple #[]) ∧ w = w' := by
  go_enter Tryd.func73, Tryd.ntmps73
  go_wp2
  refine wp_loop_rounds 1 ?_
  rw [rounds_succ]
  go_wp2
  go_end0
  exact ⟨rfl, rfl⟩
set_option maxRecDepth 100000 in
set_option maxHeartbeats 1000000 in
/-- a part of an owned row, filled -/
theorem fill_any {w : World} {lo hi g n c : Nat} {cs : List Int} (h : Row7 w lo (some ⟨g, 0, none⟩) n c cs) (hg : lo ≤ g ∧ g < hi) (a m cap : Nat) (hm : a + m ≤ n) (hl : n ≤ 600) (hc : cs.length = n) (s : Int) :
    Calls Tryd.prog 73 #[.slice (some ⟨g, a, none⟩) m cap, .int .i64 s] w fun e w' => (e = .returned (.tuple #[]) ∧ Row7 w' lo (some ⟨g, 0, none⟩) n c (fillN s m a cs)) ∧ Out lo hi w w' := by
  obtain ⟨i0, ii, hz0, hz1, hz2⟩ := info_parts info_int64
  have H0 : Hid (Row7 w lo (some ⟨g, 0, none⟩) n c (fillN s 0 a cs)) := Lib.hid h
  have O0 := Lib.hid (Out.refl lo hi w)
  clear h hc
  go_enter Tryd.func73, Tryd.ntmps73
  go_wp2
  go_loopw [7] (fun i wr => ∃ k : Nat, k ≤ m ∧ i = .int .i64 k ∧ Hid (Row7 wr lo (some ⟨g, 0, none⟩) n c (fillN s k a cs)) ∧ Hid (Out lo hi w wr)) (fun i _ => m - (intOf i).toNat)
  case atStart => exact ⟨0, by omega, rfl, H0, O0⟩
  case round =>
    clear H0 O0
    obtain ⟨k, hk, rfl, hw, ho⟩ := hrel
    by_cases hlt : k < m
    · have E := Lib.hid (fillN_snoc s k a cs)
      obtain ⟨L, hL⟩ : ∃ L, Hid (L = fillN s k a cs) := ⟨_, Lib.hid rfl⟩
      rw [← hL.out] at hw E
      go_wp2_with (refine wpList_put rfl _ _ _ rfl i0 ii hz1 (a + k) (.int .i64 s) rfl rfl rfl hw.out (by omega) ?_; intro w5 o5 g5)
      have W2 := Lib.hid (show Row7 w5 lo (some ⟨g, 0, none⟩) n c (fillN s (k + 1) a cs) by rw [E.out]; exact own_set o5)
      have OT := Lib.hid (ho.out.trans (Out.of_grown (v := .slice (some ⟨g, 0, none⟩) n c) g5 (fun b hb => by injection hb with hb; subst hb; exact hg)))
      clear o5 g5
      go_wp2
      go_roundw
      case rel => exact ⟨k + 1, by omega, by go_num, W2, OT⟩
      case measure => first | omega | (simp [intOf]; omega)
    · obtain rfl : k = m := by omega
      go_wp2
      go_end0
      exact ⟨⟨rfl, hw.out⟩, ho.out⟩
end Go.Proofs.YtkkojemnbcddfaaDoor
