/- Chapter 5: the side of a level; the greater one; what is kept, both ways. -/
import Derived.Test.YthhbikilighemaaK0
import Derived.BigQuiet
namespace Go.Proofs.Ythhbikilighemaa
open Go.RowKit Go.Maps

theorem odd_tmod (n : Int) : (n.tmod 2 != 0) = !decide (n % 2 = 0) := by
  have h : n.tmod 2 = 0 ↔ n % 2 = 0 := by
    rw [Int.tmod_eq_emod]
    split
    · simp
    · rename_i hn
      simp at hn
      omega
  by_cases h0 : n % 2 = 0
  · simp [h.2 h0, h0]
  · have : n.tmod 2 ≠ 0 := fun e => h0 (h.1 e)
    simp [this, h0]

theorem sideOf_any (n : Int) (w : World) : Calls Try.prog 21 #[.int .i64 n] w fun e w' => e = .returned (.int .i64 (sideN n)) ∧ w = w' := by
  have hm := odd_tmod n
  by_cases h : n % 2 = 0
  · have E : sideN n = 0 := by unfold sideN; rw [if_pos h]
    rw [decide_eq_true h] at hm
    clear h
    go_enter Try.func21, Try.ntmps21
    go_wp2
    go_ret
    exact ⟨rint E.symm, rfl⟩
  · have E : sideN n = 1 := by unfold sideN; rw [if_neg h]
    rw [decide_eq_false h] at hm
    clear h
    go_enter Try.func21, Try.ntmps21
    go_wp2
    go_ret
    exact ⟨rint E.symm, rfl⟩
theorem sideOf_val (n : Int) (w : World) (_ : (Lit.int .i64 n).wf = true) : Calls Try.prog 21 #[.int .i64 n] w fun e w' => e = .returned (.int .i64 (sideN n)) ∧ Below w.heap.size w w' :=
  (sideOf_any n w).mono fun _ _ ⟨he, hw⟩ => ⟨he, by subst hw; exact Below.refl _ _⟩
theorem l5Odd_any (n : Int) (w : World) : Calls Try.prog 42 #[.int .i64 n] w fun e w' => e = .returned (.bool (!decide (n % 2 = 0))) ∧ w = w' := by
  have hm := odd_tmod n
  by_cases h : n % 2 = 0
  · rw [decide_eq_true h] at hm ⊢
    clear h
    go_enter Try.func42, Try.ntmps42
    go_wp2
    go_ret
    exact ⟨rbool (by simp), rfl⟩
  · rw [decide_eq_false h] at hm ⊢
    clear h
    go_enter Try.func42, Try.ntmps42
    go_wp2
    go_ret
    exact ⟨rbool (by simp), rfl⟩
theorem specSideOf_any (n : Int) (w : World) : Calls Try.prog 20 #[.int .i64 n] w fun e w' => e = .returned (.int .i64 (sideN n)) ∧ w = w' := by
  by_cases h : n % 2 = 0
  · have E := Lib.hid (show sideN n = 0 by unfold sideN; rw [if_pos h])
    have D := Lib.hid (decide_eq_true h)
    clear h
    go_enter Try.func20, Try.ntmps20
    go_wp2_with (go_at_call 42; refine (l5Odd_any _ _).mono ?_; rintro e w' ⟨rfl, rfl⟩; rw [D.out])
    go_ret
    exact ⟨rint E.out.symm, rfl⟩
  · have E := Lib.hid (show sideN n = 1 by unfold sideN; rw [if_neg h])
    have D := Lib.hid (decide_eq_false h)
    clear h
    go_enter Try.func20, Try.ntmps20
    go_wp2_with (go_at_call 42; refine (l5Odd_any _ _).mono ?_; rintro e w' ⟨rfl, rfl⟩; rw [D.out])
    go_ret
    exact ⟨rint E.out.symm, rfl⟩
theorem specSideOf_val (n : Int) (w : World) (_ : (Lit.int .i64 n).wf = true) : Calls Try.prog 20 #[.int .i64 n] w fun e w' => e = .returned (.int .i64 (sideN n)) ∧ Below w.heap.size w w' :=
  (specSideOf_any n w).mono fun _ _ ⟨he, hw⟩ => ⟨he, by subst hw; exact Below.refl _ _⟩
theorem l1Max_any (a b : Int) (w : World) : Calls Try.prog 68 #[.int .i64 a, .int .i64 b] w fun e w' => e = .returned (.int .i64 (mx a b)) ∧ w = w' := by
  by_cases h : b < a
  · have E := Lib.hid (show mx a b = a by unfold mx; rw [if_pos h])
    go_enter Try.func68, Try.ntmps68
    go_wp2
    go_ret
    exact ⟨rint E.out.symm, rfl⟩
  · have E := Lib.hid (show mx a b = b by unfold mx; rw [if_neg h])
    go_enter Try.func68, Try.ntmps68
    go_wp2
    go_ret
    exact ⟨rint E.out.symm, rfl⟩

set_option maxRecDepth 100000 in
set_option maxHeartbeats 1000000 in
theorem keptAmong_any (A : Option Addr) (ls : List Int) (c : Nat) (w : World) (B : Nat) (h1 : Rd w B A (nums .i64 ls)) (hB : B ≤ w.heap.size) (hl : ls.length ≤ 600) :
    Calls Try.prog 62 #[.slice A ls.length c] w fun e w' => (∃ v, e = .returned v ∧ Own w' w.heap.size w'.heap.size 2 .i64 v (keptL ls)) ∧ Below w.heap.size w w' := by
  obtain ⟨i0, hi, hz0, hz1, hz2⟩ := info_parts info_int64
  have H1 := Lib.hid h1
  clear h1
  obtain ⟨n, hn⟩ : ∃ n, Hid (n = ls.length) := ⟨_, Lib.hid rfl⟩
  rw [← hn.out] at hl ⊢
  have O0 : Hid (w.ownsRow w.heap.size 2 1 (.slice none 0 0) (keptN ls 0).length (nums .i64 (keptN ls 0))) := Lib.hid (World.ownsRow_nil _ _ _ _)
  have B0 := Lib.hid (Below.refl w.heap.size w)
  go_enter Try.func62, Try.ntmps62
  go_wp2
  go_loopw [3, 8] (fun v i wr => ∃ k : Nat, k ≤ n ∧ i = .int .i64 k ∧ Hid (wr.ownsRow w.heap.size 2 1 v (keptN ls k).length (nums .i64 (keptN ls k))) ∧ Hid (Below w.heap.size w wr)) (fun _ i _ => n - (intOf i).toNat)
  case atStart => exact ⟨0, by omega, rfl, O0, B0⟩
  case round =>
    clear O0 B0
    obtain ⟨k, hk, rfl, ho, hbr⟩ := hrel
    by_cases hlt : k < n
    · obtain ⟨b, off, rfl, hb, hc⟩ := (H1.out.below hbr.out (by omega)).int (by rw [← hn.out]; omega)
      have hc0 := hc k (by rw [← hn.out]; exact hlt)
      have kl := keptN_len ls k
      clear hc
      by_cases hg : nth ls k = -1
      · have E := Lib.hid (keptN_gone hg)
        rw [hg] at hc0
        have HO := Lib.hid (show wr.ownsRow w.heap.size 2 1 _ (keptN ls (k + 1)).length (nums .i64 (keptN ls (k + 1))) by rw [E.out]; exact ho.out)
        clear hg ho
        go_wp2
        go_roundw
        case rel => exact ⟨k + 1, by omega, by go_num, HO, hbr⟩
        case measure => first | omega | (simp [intOf]; omega)
      · have E := Lib.hid (keptN_kept hg)
        have hne : (nth ls k != -1) = true := by simpa using hg
        obtain ⟨q, hq⟩ : ∃ q, Hid (q = nth ls k) := ⟨_, Lib.hid rfl⟩
        rw [← hq.out] at hc0 hne
        clear hg
        go_wp2_with (at_builtin; go_loud (refine wpList_app rfl _ _ _ rfl w.heap.size Try.underlying22 hi hz0 hz1 hz2 rfl (by omega) rfl (ho.out.alloc _) rfl (Rd.lit wr #[.int .i64 k] _) (m := 1) rfl (nums_one .i64 [(k : Int)]) (by omega) (by omega) (by have := hbr.out.size; simp; omega) ?_); intro v' w5 o5 g5 a5; obtain ⟨A5, c5, rfl⟩ := own_form o5)
        have gg : wr.grownBy w5 _ := (World.grownBy_alloc wr _ _).trans g5
        have P5 : Hid (w5.ownsRow w.heap.size 2 1 (.slice A5 ((keptN ls k).length + 1) c5) (keptN ls (k + 1)).length (nums .i64 (keptN ls (k + 1)))) := Lib.hid (by rw [E.out]; exact own_app1 o5 rfl)
        have B5 := Lib.hid (hbr.out.grown gg hbr.out.size (fun b hb => (ho.out.lt b hb).1))
        clear o5 g5 a5 gg ho
        go_roundw
        case rel => exact ⟨k + 1, by omega, by go_num, P5, B5⟩
        case measure => first | omega | (simp [intOf]; omega)
    · have e : k = ls.length := by rw [← hn.out]; omega
      have HO := Lib.hid (show Own wr w.heap.size wr.heap.size 2 .i64 _ (keptL ls) from Own.mk_ (by have := ho.out; rw [e] at this; exact this) rfl)
      obtain ⟨A5, c5, rfl⟩ := own_form ho.out
      clear e ho
      go_wp2
      go_ret
      exact ⟨⟨_, rfl, HO.out⟩, hbr.out⟩
end Go.Proofs.Ythhbikilighemaa
