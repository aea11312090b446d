/- The laws' helpers at lists of pairs, and at PairsResult. -/
import Derived.Test.YtkkojemnbcddfaaDoorH1
import Derived.Test.YtkkojemnbcddfaaDoorX1
import Derived.Deep.RegionHeld3
namespace Go.Proofs.YtkkojemnbcddfaaDoor
open Go.RowKit

def marksP (k : Int) (l : List Pr) : List Pr := (List.range l.length).map fun j => (k + ((2 * j : Nat) : Int), k + ((2 * j + 1 : Nat) : Int))
theorem marksP_length (k : Int) (l : List Pr) : (marksP k l).length = l.length := by simp [marksP]
theorem marksP_nth (k : Int) (l : List Pr) (j : Nat) (h : j < l.length) : nthP (marksP k l) j = (k + ((2 * j : Nat) : Int), k + ((2 * j + 1 : Nat) : Int)) := by simp [marksP, nthP, h]
def mixP (a b : List Pr) (j : Nat) : List Pr := a.take j ++ b.drop j
theorem mixP_length (a b : List Pr) (j : Nat) (h : a.length = b.length) : (mixP a b j).length = b.length := by simp [mixP, h]; omega
theorem mixP_step (a b : List Pr) (j : Nat) (h : a.length = b.length) (hj : j < b.length) : (mixP a b j).set j (nthP a j) = mixP a b (j + 1) := by
  have e : a.take (j + 1) = a.take j ++ [nthP a j] := by
    rw [List.take_succ_eq_append_getElem (by omega)]; simp [nthP, List.getElem?_eq_getElem (show j < a.length by omega)]
  unfold mixP
  rw [List.set_append_right _ _ (by simp; omega), List.length_take, Nat.min_eq_left (by omega), Nat.sub_self, List.drop_eq_getElem_cons hj, List.set_cons_zero, e]
  simp
theorem mixP_zero (a b : List Pr) : mixP a b 0 = b := by simp [mixP]
theorem mixP_all (a b : List Pr) (j : Nat) (h : a.length = b.length) (hj : b.length ≤ j) : mixP a b j = a := by
  unfold mixP; rw [List.drop_of_length_le hj, List.take_of_length_le (by omega), List.append_nil]
theorem prs_set : ∀ (l : List Pr) (k : Nat) (a b : Int), k < l.length → ((prs l).set (k * 2) (.int .i64 a)).set (k * 2 + 1) (.int .i64 b) = prs (l.set k (a, b))
  | [], k, _, _, h => by simp at h
  | x :: l, 0, a, b, _ => rfl
  | x :: l, k + 1, a, b, h => by
    have ih := prs_set l k a b (by simpa using h)
    rw [prs_cons, show (k + 1) * 2 = (k * 2) + 1 + 1 by omega, show k * 2 + 1 + 1 + 1 = (k * 2 + 1) + 1 + 1 by omega, List.set_cons_succ, List.set_cons_succ, List.set_cons_succ, List.set_cons_succ, ih, List.set_cons_succ, prs_cons]
set_option maxRecDepth 100000 in
set_option maxHeartbeats 400000 in
theorem eqPair_same (a b : Int) (w : World) : Calls Tryd.prog 82 #[.agg #[.int .i64 a, .int .i64 b], .agg #[.int .i64 a, .int .i64 b]] w fun e w' => e = .returned (.bool true) ∧ Below w.heap.size w w' := by
  have k0 : (a != a) = false := by simp
  have k1 : (b != b) = false := by simp
  have b0 := ((Below.refl w.heap.size w).alloc (Nat.le_refl _) (.cells #[.int .i64 a, .int .i64 b] 34)).alloc (by simp) (.cells #[.int .i64 a, .int .i64 b] 34)
  go_enter Tryd.func82, Tryd.ntmps82
  go_wp2
  go_ret
  exact ⟨rfl, b0⟩
set_option maxRecDepth 100000 in
set_option maxHeartbeats 2000000 in
theorem eqPairS_same (v u : Value) (l : List Pr) (w : World) (B B' : Nat) (h1 : SeesPr w B v l) (h2 : SeesPr w B' u l) (hB : B ≤ w.heap.size) (hB' : B' ≤ w.heap.size) (hl : l.length < 300000001) :
    Calls Tryd.prog 53 #[v, u] w fun e w' => e = .returned (.bool true) ∧ Below w.heap.size w w' := by
  have H1 := Lib.hid h1
  have H2 := Lib.hid h2
  obtain ⟨A, c, rfl, _⟩ := h1
  obtain ⟨A', c', rfl, _⟩ := h2
  go_enter Tryd.func53, Tryd.ntmps53
  go_wp2
  go_loopw [5] (fun i wr => ∃ k : Nat, k ≤ l.length ∧ i = .int .i64 k ∧ Hid (Below w.heap.size w wr)) (fun i _ => l.length - (intOf i).toNat)
  case atStart => exact ⟨0, by omega, rfl, Lib.hid (Below.refl _ _)⟩
  case round =>
    obtain ⟨k, hk, rfl, hbr⟩ := hrel
    have wsz := hbr.out.size
    by_cases hlt : k < l.length
    · obtain ⟨b, off, cc, e1, hb, hc0, hc1⟩ := (H1.out.below hbr.out hB).at_ k hlt
      obtain ⟨b', off', cc', e2, hb', hd0, hd1⟩ := (H2.out.below hbr.out hB').at_ k hlt
      cases e1
      cases e2
      obtain ⟨x, hx⟩ : ∃ x, Hid (x = (nthP l k).1) := ⟨_, Lib.hid rfl⟩
      obtain ⟨y, hy⟩ : ∃ y, Hid (y = (nthP l k).2) := ⟨_, Lib.hid rfl⟩
      rw [← hx.out] at hc0 hd0
      rw [← hy.out] at hc1 hd1
      have CT := Lib.hid (eqPair_same x y wr.drew)
      have kl : (k : Int) < (l.length : Int) := by omega
      go_wp2_with fail
      go_region_held3 (fun w' => w'.cell? ⟨b, off + k * 2, none⟩ = some (.int .i64 x) ∧ w'.cell? ⟨b, off + k * 2 + 1, none⟩ = some (.int .i64 y) ∧ w'.cell? ⟨b', off' + k * 2, none⟩ = some (.int .i64 x) ∧ w'.cell? ⟨b', off' + k * 2 + 1, none⟩ = some (.int .i64 y)) (first | exact ⟨hc0, hc1, hd0, hd1⟩ | exact ⟨q0, q1, q2, q3⟩) (first
        | (go_at_call 82; refine CT.out.mono ?_; rintro e w5 ⟨rfl, b5⟩
           have qb5 : Below wr.heap.size wr w5 := ⟨b5.os, b5.tape, b5.output, b5.size, b5.block⟩
           have B5 := Lib.hid (hbr.out.trans (qb5.mono wsz))
           have q0 : w5.cell? ⟨b, off + k * 2, none⟩ = some (.int .i64 x) := by unfold World.cell?; rw [qb5.block b (by omega)]; exact hc0
           have q1 : w5.cell? ⟨b, off + k * 2 + 1, none⟩ = some (.int .i64 y) := by unfold World.cell?; rw [qb5.block b (by omega)]; exact hc1
           have q2 : w5.cell? ⟨b', off' + k * 2, none⟩ = some (.int .i64 x) := by unfold World.cell?; rw [qb5.block b' (by omega)]; exact hd0
           have q3 : w5.cell? ⟨b', off' + k * 2 + 1, none⟩ = some (.int .i64 y) := by unfold World.cell?; rw [qb5.block b' (by omega)]; exact hd1
           clear b5 qb5))
      go_wp2
      go_roundw
      case rel => exact ⟨k + 1, by omega, by go_num, B5⟩
      case measure => first | omega | (simp [intOf]; omega)
    · obtain rfl : k = l.length := by omega
      go_wp2
      go_ret
      exact ⟨rfl, hbr.out⟩
theorem out_set1 (w : World) {lo hi g : Nat} (h1 : lo ≤ g) (h2 : g < hi) (i : Nat) (u : Value) : Out lo hi w (w.setCell ⟨g, i, none⟩ u) :=
  ⟨rfl, rfl, rfl, by simp, fun k _ hn => heap_setCell_other w ⟨g, i, none⟩ k u (by intro e; subst e; exact hn ⟨h1, h2⟩)⟩
set_option maxRecDepth 100000 in
set_option maxHeartbeats 2000000 in
theorem markPairS_own (v : Value) (l : List Pr) (k : Int) (w : World) (lo hi : Nat) (h : OwnPr w lo hi 34 v l) (hl : l.length < 300000001) (hk0 : 0 ≤ k) (hk1 : k < 1000000000) :
    Calls Tryd.prog 56 #[v, .int .i64 k] w fun e w' => (e = .returned (.int .i64 (k + ((2 * l.length : Nat) : Int))) ∧ OwnPr w' lo hi 34 v (marksP k l)) ∧ Out lo hi w w' := by
  obtain ⟨A, c, rfl⟩ := h.form
  have HV := Lib.hid h.2
  obtain ⟨n, hn⟩ : ∃ n, Hid (n = l.length) := ⟨_, Lib.hid rfl⟩
  have R0 : Hid (w.ownsRow lo 34 2 (.slice A n c) n (prs (mixP (marksP k l) l 0))) := Lib.hid (by rw [mixP_zero, hn.out]; exact h.1)
  rw [← hn.out] at hl HV ⊢
  clear h
  have E0 := Lib.hid (show k = k + ((2 * 0 : Nat) : Int) by simp)
  go_enter Tryd.func56, Tryd.ntmps56
  go_wp2
  go_loopw [1, 5] (fun m i wr => ∃ j : Nat, j ≤ n ∧ i = .int .i64 j ∧ m = .int .i64 (k + ((2 * j : Nat) : Int)) ∧ Hid (wr.ownsRow lo 34 2 (.slice A n c) n (prs (mixP (marksP k l) l j))) ∧ Hid (Out lo hi w wr)) (fun _ i _ => n - (intOf i).toNat)
  case atStart => exact ⟨0, by omega, rfl, by rw [← E0.out], R0, Lib.hid (Out.refl _ _ _)⟩
  case round =>
    clear R0
    obtain ⟨j, hj, rfl, rfl, hw, ho⟩ := hrel
    have ML := Lib.hid ((mixP_length (marksP k l) l j (marksP_length k l)).trans hn.out.symm)
    by_cases hlt : j < n
    · obtain ⟨g, c', e1, hg, hc0, hc1⟩ := ownPr_at hw.out (by rw [ML.out]) j (by rw [ML.out]; exact hlt)
      have eA := (show A = some ⟨g, 0, none⟩ by injection e1)
      subst eA
      clear e1
      have ghi : g < hi := HV.out g rfl
      have st0 := hw.out.stored (j * 2) (.int .i64 (k + ((2 * j : Nat) : Int)))
      have st1 := st0.1.stored (j * 2 + 1) (.int .i64 (k + ((2 * j + 1 : Nat) : Int)))
      have hf0 := hw.out.frozenAt (j * 2)
      have hf1 := hw.out.frozenAt (j * 2 + 1)
      have R1 := Lib.hid (show (( wr.setCell ⟨g, j * 2, none⟩ (.int .i64 (k + ((2 * j : Nat) : Int)))).setCell ⟨g, j * 2 + 1, none⟩ (.int .i64 (k + ((2 * j + 1 : Nat) : Int)))).ownsRow lo 34 2 (.slice (some ⟨g, 0, none⟩) n c) n (prs (mixP (marksP k l) l (j + 1))) by
        rw [← mixP_step (marksP k l) l j (marksP_length k l) (by rw [← hn.out]; exact hlt), marksP_nth k l j (by rw [← hn.out]; exact hlt), ← prs_set _ j _ _ (by rw [ML.out]; exact hlt)]
        exact st1.1)
      have O1 := Lib.hid ((ho.out.trans (out_set1 wr hg ghi (j * 2) (.int .i64 (k + ((2 * j : Nat) : Int))))).trans (out_set1 _ hg ghi (j * 2 + 1) (.int .i64 (k + ((2 * j + 1 : Nat) : Int)))))
      have jn : (j : Int) < (n : Int) := by omega
      have e1 : k + ((2 * j : Nat) : Int) + 1 = k + ((2 * j + 1 : Nat) : Int) := by omega
      have e2 : k + ((2 * j + 1 : Nat) : Int) + 1 = k + ((2 * (j + 1) : Nat) : Int) := by omega
      have b0 : -1 ≤ k + ((2 * j : Nat) : Int) ∧ k + ((2 * j : Nat) : Int) < 2000000000 := by omega
      obtain ⟨m0, hm0⟩ : ∃ m0, m0 = k + ((2 * j : Nat) : Int) := ⟨_, rfl⟩
      obtain ⟨m1, hm1⟩ : ∃ m1, m1 = k + ((2 * j + 1 : Nat) : Int) := ⟨_, rfl⟩
      have M2 := Lib.hid (show m1 + 1 = k + ((2 * (j + 1) : Nat) : Int) by rw [hm1]; exact e2)
      have e3 : m0 + 1 = m1 := by rw [hm0, hm1]; exact e1
      rw [← hm0, ← hm1] at R1 O1
      rw [← hm0] at b0 ⊢
      clear e1 e2 st0 st1 hm0 hm1
      subst e3
      go_wp2
      go_roundw
      case rel => exact ⟨j + 1, by omega, by go_num, by rw [← M2.out], R1, O1⟩
      case measure => first | omega | (simp [intOf]; omega)
    · obtain rfl : j = n := by omega
      have R1 : Hid (OwnPr wr lo hi 34 (.slice A j c) (marksP k l)) := Lib.hid ⟨by rw [marksP_length, ← hn.out]; have := hw.out; rw [mixP_all _ _ _ (marksP_length k l) (by rw [← hn.out]; exact Nat.le_refl _)] at this; exact this, HV.out⟩
      go_wp2
      go_ret
      exact ⟨⟨rfl, R1.out⟩, ho.out⟩
set_option maxRecDepth 100000 in
set_option maxHeartbeats 2000000 in
theorem heldPairS_own (v : Value) (l : List Pr) (k : Int) (w : World) (B : Nat) (h : SeesPr w B v (marksP k l)) (hl : l.length < 300000001) (hk0 : 0 ≤ k) (hk1 : k < 1000000000) :
    Calls Tryd.prog 57 #[v, .int .i64 k] w fun e w' => e = .returned (.int .i64 (k + ((2 * l.length : Nat) : Int))) ∧ w = w' := by
  have H := Lib.hid h
  obtain ⟨A, c, rfl, _⟩ := h
  obtain ⟨n, hn⟩ : ∃ n, Hid (n = l.length) := ⟨_, Lib.hid rfl⟩
  have ML := Lib.hid ((marksP_length k l).trans hn.out.symm)
  rw [ML.out]
  rw [← hn.out] at hl ⊢
  have E0 := Lib.hid (show k = k + ((2 * 0 : Nat) : Int) by simp)
  go_enter Tryd.func57, Tryd.ntmps57
  go_wp2
  go_loop [1, 5] (fun m i => ∃ j : Nat, j ≤ n ∧ i = .int .i64 j ∧ m = .int .i64 (k + ((2 * j : Nat) : Int))) (fun _ i => n - (intOf i).toNat)
  case atStart => exact ⟨0, by omega, rfl, by rw [← E0.out]⟩
  case round =>
    obtain ⟨j, hj, rfl, rfl⟩ := hrel
    by_cases hlt : j < n
    · obtain ⟨b, off, cc, e1, hb, hc0, hc1⟩ := H.out.at_ j (by rw [ML.out]; exact hlt)
      rw [ML.out] at e1
      cases e1
      rw [marksP_nth k l j (by rw [← hn.out]; exact hlt)] at hc0 hc1
      have jn : (j : Int) < (n : Int) := by omega
      have e2 : k + ((2 * j + 1 : Nat) : Int) + 1 = k + ((2 * (j + 1) : Nat) : Int) := by omega
      have b0 : -1 ≤ k + ((2 * j : Nat) : Int) ∧ k + ((2 * j : Nat) : Int) < 2000000000 := by omega
      obtain ⟨m0, hm0⟩ : ∃ m0, m0 = k + ((2 * j : Nat) : Int) := ⟨_, rfl⟩
      have M2 := Lib.hid (show m0 + 1 + 1 = k + ((2 * (j + 1) : Nat) : Int) by rw [hm0]; omega)
      have hc1' : w.cell? ⟨b, off + j * 2 + 1, none⟩ = some (.int .i64 (m0 + 1)) := by rw [hc1, hm0]; congr 2; omega
      have hc0' : w.cell? ⟨b, off + j * 2, none⟩ = some (.int .i64 m0) := by rw [hc0, hm0]
      rw [← hm0] at b0 ⊢
      have n0 : (m0 != m0) = false := by simp
      have n1 : (m0 + 1 != m0 + 1) = false := by simp
      clear e2 hm0 hc0 hc1
      go_wp2
      go_round
      case rel => exact ⟨j + 1, by omega, by go_num, by rw [← M2.out]⟩
      case measure => first | omega | (simp [intOf]; omega)
    · obtain rfl : j = n := by omega
      go_wp2
      go_ret
      exact ⟨rfl, rfl⟩
set_option maxRecDepth 100000 in
set_option maxHeartbeats 400000 in
theorem eqPairsResult_same (x0 : Int) (w : World) (v1 u1 : Value) (zs1 : List Pr) (B B' : Nat) (h1 : SeesPr w B v1 zs1) (g1 : SeesPr w B' u1 zs1) (l1 : zs1.length < 300000001) (hB : B ≤ w.heap.size) (hB' : B' ≤ w.heap.size) :
    Calls Tryd.prog 25 #[.agg #[.int .i64 x0, v1], .agg #[.int .i64 x0, u1]] w fun e w' => e = .returned (.bool true) ∧ Below w.heap.size w w' := by
  have k0 : (x0 != x0) = false := by simp
  have b0 := ((Below.refl w.heap.size w).alloc (Nat.le_refl _) (.cells #[.int .i64 x0, v1] 30)).alloc (by simp) (.cells #[.int .i64 x0, u1] 30)
  go_enter Tryd.func25, Tryd.ntmps25
  go_wp2_with fail
  refine (eqPairS_same _ _ zs1 _ B B' (h1.below b0 hB) (g1.below b0 hB') (by simp; omega) (by simp; omega) l1).mono ?_
  rintro e w1 ⟨rfl, b1⟩
  have b2 := below_on b0 b1 (Nat.le_refl _)
  go_wp2
  go_ret
  exact ⟨rfl, b2⟩
set_option maxRecDepth 100000 in
set_option maxHeartbeats 400000 in
theorem markPairsResult_own (x0 : Int) (v1 : Value) (zs1 : List Pr) (k : Int) (w : World) (lo hi : Nat) (h1 : OwnPr w lo hi 34 v1 zs1) (l1 : zs1.length < 300000001) (hk0 : 0 ≤ k) (hk1 : k < 1000000000) (hw : hi ≤ w.heap.size) :
    Calls Tryd.prog 28 #[.agg #[.int .i64 x0, v1], .int .i64 k] w fun e w' => (e = .returned (.int .i64 (k + ((2 * zs1.length : Nat) : Int))) ∧ OwnPr w' lo hi 34 v1 (marksP (k) zs1)) ∧ Out lo hi w w' := by
  have b0 := (Below.refl w.heap.size w).alloc (Nat.le_refl _) (.cells #[.int .i64 x0, v1] 30)
  have o1 := h1.below b0 hw
  have q0 : Out lo hi w _ := Out.of_below b0
  go_enter Tryd.func28, Tryd.ntmps28
  go_wp2_with fail
  refine (markPairS_own v1 zs1 _ _ lo hi o1 l1 (by omega) (by omega)).mono ?_
  rintro e w1 ⟨⟨rfl, p1⟩, g1⟩
  have q1 := q0.trans g1
  go_wp2
  go_ret
  exact ⟨⟨rfl, p1⟩, q1⟩
set_option maxRecDepth 100000 in
set_option maxHeartbeats 400000 in
theorem heldPairsResult_own (x0 : Int) (v1 : Value) (n1 : List Pr) (k : Int) (w : World) (B : Nat) (h1 : SeesPr w B v1 (marksP (k) n1)) (l1 : n1.length < 300000001) (hk0 : 0 ≤ k) (hk1 : k < 1000000000) (hB : B ≤ w.heap.size) :
    Calls Tryd.prog 29 #[.agg #[.int .i64 x0, v1], .int .i64 k] w fun e w' => e = .returned (.int .i64 (k + ((2 * n1.length : Nat) : Int))) ∧ Below w.heap.size w w' := by
  have b0 := (Below.refl w.heap.size w).alloc (Nat.le_refl _) (.cells #[.int .i64 x0, v1] 30)
  go_enter Tryd.func29, Tryd.ntmps29
  go_wp2_with fail
  refine (heldPairS_own v1 n1 _ _ B (h1.below b0 hB) l1 (by omega) (by omega)).mono ?_
  rintro e w1 ⟨rfl, rfl⟩
  have hnn : ¬ (k + ((2 * n1.length : Nat) : Int) < 0) := by omega
  go_wp2
  go_ret
  exact ⟨rfl, b0⟩
end Go.Proofs.YtkkojemnbcddfaaDoor
