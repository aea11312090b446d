/- Chapter 7: the program's small functions: sides, marks, fills. -/
import Derived.Test.YtkkojemnbcddfaaZ0
import Derived.Test.YtkkojemnbcddfaaX6
import Derived.Test.YtkkojemnbcddfaaC1
import Derived.Test.YtkkojemnbcddfaaS3
namespace Go.Proofs.Ytkkojemnbcddfaa
open Go.RowKit Go.Maps

theorem sideOfClass_any (z : Int) (w : World) : Calls Try.prog 45 #[.int .i64 z] w fun e w' => e = .returned (.int .i64 (sideC z)) ∧ w = w' := by
  by_cases h0 : z = 0
  · subst h0
    go_enter Try.func45, Try.ntmps45
    go_wp2
    go_ret
    exact ⟨rfl, rfl⟩
  · by_cases h1 : z = 1 ∨ z = 3 ∨ z = 6
    · have E := Lib.hid (show sideC z = 1 by unfold sideC; rw [if_neg h0, if_pos h1])
      rcases h1 with rfl | rfl | rfl
      all_goals
        go_enter Try.func45, Try.ntmps45
        go_wp2
        go_ret
        exact ⟨rfl, rfl⟩
    · have E := Lib.hid (show sideC z = -1 by unfold sideC; rw [if_neg h0, if_neg h1])
      have n0 : (z == 0) = false := by simpa using h0
      have n1 : (z == 1) = false := by simp; omega
      have n3 : (z == 3) = false := by simp; omega
      have n6 : (z == 6) = false := by simp; omega
      clear h0 h1
      go_enter Try.func45, Try.ntmps45
      go_wp2
      go_ret
      exact ⟨rint E.out.symm, rfl⟩
theorem spans_neu (z : Int) : spans z [10, 13, 19, 22] = isNeu z := by simp [spans, isNeu, Bool.decide_and, Bool.decide_or]
theorem isNeutral_any (z : Int) (w : World) : Calls Try.prog 38 #[.int .i64 z] w fun e w' => e = .returned (.bool (isNeu z)) ∧ Below w.heap.size w w' := by
  have E := Lib.hid (spans_neu z)
  have b1 := (Below.refl w.heap.size w).alloc (Nat.le_refl _) (.cells #[.int .i64 10, .int .i64 13, .int .i64 19, .int .i64 22] 2)
  go_enter Try.func38, Try.ntmps38
  go_wp2_with (go_at_call 24; (with_reducible refine (within_lit4 _ _ _ _ _ _ _ _ (by simp)).mono ?_); rintro e w' ⟨rfl, rfl⟩)
  go_ret
  exact ⟨rbool E.out, b1⟩
theorem fill_none (A : Option Addr) (c : Nat) (s : Int) (w : World) : Calls Try.prog 40 #[.slice A 0 c, .int .i64 s] w fun e w' => e = .returned (.tuple #[]) ∧ w = w' := by
  go_enter Try.func40, Try.ntmps40
  go_wp2
  refine wp_loop_rounds 1 ?_
  rw [rounds_succ]
  go_wp2
  go_end0
  exact ⟨rfl, rfl⟩
set_option maxRecDepth 100000 in
set_option maxHeartbeats 1000000 in
/-- a part of an owned row, filled -/
theorem fill_any {w : World} {lo hi g n c : Nat} {cs : List Int} (h : Row7 w lo (some ⟨g, 0, none⟩) n c cs) (hg : lo ≤ g ∧ g < hi) (a m cap : Nat) (hm : a + m ≤ n) (hl : n ≤ 600) (hc : cs.length = n) (s : Int) :
    Calls Try.prog 40 #[.slice (some ⟨g, a, none⟩) m cap, .int .i64 s] w fun e w' => (e = .returned (.tuple #[]) ∧ Row7 w' lo (some ⟨g, 0, none⟩) n c (fillN s m a cs)) ∧ Out lo hi w w' := by
  obtain ⟨i0, ii, hz0, hz1, hz2⟩ := info_parts info_int64
  have H0 : Hid (Row7 w lo (some ⟨g, 0, none⟩) n c (fillN s 0 a cs)) := Lib.hid h
  have O0 := Lib.hid (Out.refl lo hi w)
  clear h hc
  go_enter Try.func40, Try.ntmps40
  go_wp2
  go_loopw [7] (fun i wr => ∃ k : Nat, k ≤ m ∧ i = .int .i64 k ∧ Hid (Row7 wr lo (some ⟨g, 0, none⟩) n c (fillN s k a cs)) ∧ Hid (Out lo hi w wr)) (fun i _ => m - (intOf i).toNat)
  case atStart => exact ⟨0, by omega, rfl, H0, O0⟩
  case round =>
    clear H0 O0
    obtain ⟨k, hk, rfl, hw, ho⟩ := hrel
    by_cases hlt : k < m
    · have E := Lib.hid (fillN_snoc s k a cs)
      obtain ⟨L, hL⟩ : ∃ L, Hid (L = fillN s k a cs) := ⟨_, Lib.hid rfl⟩
      rw [← hL.out] at hw E
      go_wp2_with (refine wpList_put rfl _ _ _ rfl i0 ii hz1 (a + k) (.int .i64 s) rfl rfl rfl hw.out (by omega) ?_; intro w5 o5 g5)
      have W2 := Lib.hid (show Row7 w5 lo (some ⟨g, 0, none⟩) n c (fillN s (k + 1) a cs) by rw [E.out]; exact own_set o5)
      have OT := Lib.hid (ho.out.trans (Out.of_grown (v := .slice (some ⟨g, 0, none⟩) n c) g5 (fun b hb => by injection hb with hb; subst hb; exact hg)))
      clear o5 g5
      go_wp2
      go_roundw
      case rel => exact ⟨k + 1, by omega, by go_num, W2, OT⟩
      case measure => first | omega | (simp [intOf]; omega)
    · obtain rfl : k = m := by omega
      go_wp2
      go_end0
      exact ⟨⟨rfl, hw.out⟩, ho.out⟩
end Go.Proofs.Ytkkojemnbcddfaa
