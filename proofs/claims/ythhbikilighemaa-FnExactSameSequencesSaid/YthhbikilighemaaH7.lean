/- The laws' helpers at sequences. -/
import Derived.Test.YthhbikilighemaaH3
import Derived.Test.YthhbikilighemaaO6
import Derived.Test.YthhbikilighemaaL2
import Derived.Deep.RegionHeld3
namespace Go.Proofs.Ythhbikilighemaa
open Go.RowKit

def marksQ : Int → List Sq → List Sq
  | _, [] => []
  | k, q :: r => ⟨marks k q.places.length, k + q.places.length, k + q.places.length + 1, k + q.places.length + 2⟩ :: marksQ (k + q.places.length + 3) r
theorem marksQ_length : ∀ (k : Int) (qs : List Sq), (marksQ k qs).length = qs.length
  | _, [] => rfl
  | k, q :: r => by simp [marksQ, marksQ_length]
theorem marksQ_sum : ∀ (k : Int) (qs : List Sq), sumQ (marksQ k qs) = sumQ qs
  | _, [] => rfl
  | k, q :: r => by rw [marksQ, sumQ_cons, sumQ_cons, marksQ_sum, marks_length]
def markOf (k : Int) (n : Nat) : Sq := ⟨marks k n, k + n, k + n + 1, k + n + 2⟩
theorem marksQ_nth : ∀ (k : Int) (qs : List Sq) (j : Nat), j < qs.length → nthQ (marksQ k qs) j = markOf (k + ((sumQ (qs.take j) + 3 * j : Nat) : Int)) (nthQ qs j).places.length
  | _, [], _, h => by simp at h
  | k, q :: r, 0, _ => by simp [marksQ, nthQ_zero, sumQ, markOf]
  | k, q :: r, j + 1, h => by
    rw [marksQ, nthQ_succ, nthQ_succ, marksQ_nth (k + q.places.length + 3) r j (by simpa using h), List.take_succ_cons, sumQ_cons]
    congr 1
    omega
/-- the first j of a, then those of b -/
def mixQ (a b : List Sq) (j : Nat) : List Sq := a.take j ++ b.drop j
theorem mixQ_length (a b : List Sq) (j : Nat) (h : a.length = b.length) : (mixQ a b j).length = b.length := by simp [mixQ, h]; omega
theorem mixQ_nth (a b : List Sq) (j : Nat) (h : a.length = b.length) (hj : j < b.length) : nthQ (mixQ a b j) j = nthQ b j := by
  unfold nthQ mixQ
  rw [List.getElem?_append_right (by simp; omega), List.getElem?_drop, List.length_take, Nat.min_eq_left (by omega)]
  congr 2
  omega
theorem mixQ_step (a b : List Sq) (j : Nat) (h : a.length = b.length) (hj : j < b.length) : (mixQ a b j).set j (nthQ a j) = mixQ a b (j + 1) := by
  have e : a.take (j + 1) = a.take j ++ [nthQ a j] := by
    rw [List.take_succ_eq_append_getElem (by omega)]; simp [nthQ, List.getElem?_eq_getElem (show j < a.length by omega)]
  unfold mixQ
  rw [List.set_append_right _ _ (by simp; omega), List.length_take, Nat.min_eq_left (by omega), Nat.sub_self, List.drop_eq_getElem_cons hj, List.set_cons_zero, e]
  simp
theorem mixQ_zero (a b : List Sq) : mixQ a b 0 = b := by simp [mixQ]
theorem mixQ_all (a b : List Sq) (j : Nat) (h : a.length = b.length) (hj : b.length ≤ j) : mixQ a b j = a := by
  unfold mixQ; rw [List.drop_of_length_le hj, List.take_of_length_le (by omega), List.append_nil]

set_option maxRecDepth 100000 in
set_option maxHeartbeats 1000000 in
theorem eqSequence_same (u u' : Value) (ps : List Int) (l s e : Int) (w : World) (B B' : Nat) (h1 : Sees w B .i64 u ps) (h2 : Sees w B' .i64 u' ps) (hB : B ≤ w.heap.size) (hB' : B' ≤ w.heap.size) (hl : ps.length < 1000000000) :
    Calls Try.prog 48 #[.agg #[u, .int .i64 l, .int .i64 s, .int .i64 e], .agg #[u', .int .i64 l, .int .i64 s, .int .i64 e]] w fun x w' => x = .returned (.bool true) ∧ Below w.heap.size w w' := by
  have k1 : (l != l) = false := by simp
  have k2 : (s != s) = false := by simp
  have k3 : (e != e) = false := by simp
  have b0 := ((Below.refl w.heap.size w).alloc (Nat.le_refl _) (.cells #[u, .int .i64 l, .int .i64 s, .int .i64 e] 62)).alloc (by simp) (.cells #[u', .int .i64 l, .int .i64 s, .int .i64 e] 62)
  go_enter Try.func48, Try.ntmps48
  go_wp2_with fail
  refine (eqInt64S_same _ _ ps _ B B' (h1.below b0 hB) (h2.below b0 hB') hl).mono ?_
  rintro x w1 ⟨rfl, n, rfl⟩
  have b1 := below_drewN b0 n
  go_wp2
  go_ret
  exact ⟨rfl, b1⟩
set_option maxRecDepth 100000 in
set_option maxHeartbeats 2000000 in
theorem eqSequenceS_same (v u : Value) (qs : List Sq) (w : World) (B B' : Nat) (h1 : SeesQS w B v qs) (h2 : SeesQS w B' u qs) (hB : B ≤ w.heap.size) (hB' : B' ≤ w.heap.size) (hl : qs.length + sumQ qs < 300000001) :
    Calls Try.prog 26 #[v, u] w fun e w' => e = .returned (.bool true) ∧ Below w.heap.size w w' := by
  obtain ⟨us1, h1⟩ := h1
  obtain ⟨us2, h2⟩ := h2
  have H1 := Lib.hid h1
  have H2 := Lib.hid h2
  obtain ⟨A, c, rfl⟩ := h1.form
  obtain ⟨A', c', rfl⟩ := h2.form
  have TN := Lib.hid (sumQ_nth_le qs)
  clear h1 h2
  go_enter Try.func26, Try.ntmps26
  go_wp2
  go_loopw [5] (fun i wr => ∃ k : Nat, k ≤ qs.length ∧ i = .int .i64 k ∧ Hid (Below w.heap.size w wr)) (fun i _ => qs.length - (intOf i).toNat)
  case atStart => exact ⟨0, by omega, rfl, Lib.hid (Below.refl _ _)⟩
  case round =>
    obtain ⟨k, hk, rfl, hbr⟩ := hrel
    have wsz := hbr.out.size
    by_cases hlt : k < qs.length
    · have H1r := Lib.hid (H1.out.below hbr.out hB)
      have H2r := Lib.hid (H2.out.below hbr.out hB')
      obtain ⟨b, off, cc, x1, e1, hb, hc0, s1, hc1, hc2, hc3⟩ := H1r.out.at_ k hlt
      obtain ⟨b', off', cc', x2, e2, hb', hd0, s2, hd1, hd2, hd3⟩ := H2r.out.at_ k hlt
      cases e1
      cases e2
      have tn := TN.out k hlt
      obtain ⟨A1, c1, rfl, r1⟩ := s1
      obtain ⟨A2, c2, rfl, r2⟩ := s2
      obtain ⟨q, hq⟩ : ∃ q, Hid (q = nthQ qs k) := ⟨_, Lib.hid rfl⟩
      rw [← hq.out] at hc0 hc1 hc2 hc3 hd0 hd1 hd2 hd3 r1 r2 tn
      have CT := Lib.hid (eqSequence_same (.slice A1 q.places.length c1) (.slice A2 q.places.length c2) q.places q.level q.sos q.eos wr.drew B B' ⟨_, _, rfl, r1.below (drew_below wr) (by omega)⟩ ⟨_, _, rfl, r2.below (drew_below wr) (by omega)⟩ (show B ≤ wr.heap.size by omega) (show B' ≤ wr.heap.size by omega) (by omega))
      have hc1' : wr.cell? ⟨b, off + k * 4 + 1, none⟩ = some (.int .i64 q.level) := hc1
      have hc2' : wr.cell? ⟨b, off + k * 4 + 2, none⟩ = some (.int .i64 q.sos) := hc2
      have hc3' : wr.cell? ⟨b, off + k * 4 + 3, none⟩ = some (.int .i64 q.eos) := hc3
      have hd1' : wr.cell? ⟨b', off' + k * 4 + 1, none⟩ = some (.int .i64 q.level) := hd1
      have hd2' : wr.cell? ⟨b', off' + k * 4 + 2, none⟩ = some (.int .i64 q.sos) := hd2
      have hd3' : wr.cell? ⟨b', off' + k * 4 + 3, none⟩ = some (.int .i64 q.eos) := hd3
      clear r1 r2 hc1 hc2 hc3 hd1 hd2 hd3
      go_wp2
      go_region_with (go_at_call 48; refine CT.out.mono ?_; rintro e w5 ⟨rfl, b5⟩; have B5 := Lib.hid (hbr.out.trans ((show Below wr.heap.size wr w5 from ⟨b5.os, b5.tape, b5.output, b5.size, b5.block⟩).mono wsz)); clear b5)
      all_goals
        go_wp2
        go_roundw
        case rel => exact ⟨k + 1, by omega, by go_num, B5⟩
        case measure => first | omega | (simp [intOf]; omega)
    · go_wp2
      go_ret
      exact ⟨rfl, hbr.out⟩
theorem outSet (w : World) {lo hi g : Nat} (h1 : lo ≤ g) (h2 : g < hi) (i : Nat) (u : Value) : Out lo hi w (w.setCell ⟨g, i, none⟩ u) :=
  ⟨rfl, rfl, rfl, by simp, fun k _ hn => heap_setCell_other w ⟨g, i, none⟩ k u (by intro e; subst e; exact hn ⟨h1, h2⟩)⟩
set_option maxRecDepth 100000 in
set_option maxHeartbeats 2000000 in
theorem markSequenceS_own (v : Value) (qs : List Sq) (k : Int) (w : World) (lo hi : Nat) (h : OwnQS w lo hi 62 2 v qs) (hl : qs.length + sumQ qs < 300000001) (hk0 : 0 ≤ k) (hk1 : k < 1000000000) :
    Calls Try.prog 40 #[v, .int .i64 k] w fun e w' => (e = .returned (.int .i64 (k + ((sumQ qs + 3 * qs.length : Nat) : Int))) ∧ OwnQS w' lo hi 62 2 v (marksQ k qs)) ∧ Out lo hi w w' := by
  obtain ⟨us, h⟩ := h
  have HO := Lib.hid h
  obtain ⟨A, c, rfl⟩ := h.form
  clear h
  have ML := Lib.hid (marksQ_length k qs)
  go_enter Try.func40, Try.ntmps40
  go_wp2
  go_loopw [1, 5] (fun kk i wr => ∃ (j : Nat) (us : List Value), j ≤ qs.length ∧ i = .int .i64 j ∧ kk = .int .i64 (k + ((sumQ (qs.take j) + 3 * j : Nat) : Int)) ∧ Hid (OwnQ wr lo hi 62 2 (.slice A qs.length c) (mixQ (marksQ k qs) qs j) us) ∧ Hid (Out lo hi w wr)) (fun _ i _ => qs.length - (intOf i).toNat)
  case atStart => exact ⟨0, us, by omega, rfl, by simp [sumQ], by rw [mixQ_zero]; exact HO, Lib.hid (Out.refl _ _ _)⟩
  case round =>
    obtain ⟨j, us, hj, rfl, rfl, ho, hb⟩ := hrel
    have tl := sumQ_take_le qs j
    by_cases hlt : j < qs.length
    · have mlt : j < (mixQ (marksQ k qs) qs j).length := by rw [mixQ_length _ _ _ ML.out]; exact hlt
      obtain ⟨g, cc, u, e1, hg1, hg2, hu, hc0, hou, hug, hc1, hc2, hc3, hfz⟩ := ho.out.at_ j mlt
      rw [mixQ_nth _ _ _ ML.out hlt] at hou
      injection e1 with e1 e1b e1c
      clear e1b e1c hc1 hc2 hc3
      subst e1
      have HU := Lib.hid hu
      have ST := Lib.hid (sumQ_take_step qs j hlt)
      have tn := sumQ_nth_le qs j hlt
      have MN := Lib.hid (marksQ_nth k qs j hlt)
      have ML2 := Lib.hid (mixQ_length (marksQ k qs) qs j ML.out)
      have MLT := Lib.hid mlt
      obtain ⟨z1, z2, z3, S1, S2, S3⟩ : ∃ z1 z2 z3 : Int, Hid (us[j * 4 + 1]? = some (.int .i64 z1)) ∧ Hid (us[j * 4 + 2]? = some (.int .i64 z2)) ∧ Hid (us[j * 4 + 3]? = some (.int .i64 z3)) := by
        obtain ⟨s1, s2, s3⟩ := ho.out.sc j mlt
        exact ⟨_, _, _, Lib.hid s1, Lib.hid s2, Lib.hid s3⟩
      obtain ⟨t0, ht0⟩ : ∃ t0, Hid (t0 = sumQ (qs.take j)) := ⟨_, Lib.hid rfl⟩
      rw [← ht0.out] at tl tn ST MN ⊢
      obtain ⟨zs, hzs⟩ : ∃ zs, Hid (zs = (nthQ qs j).places) := ⟨_, Lib.hid rfl⟩
      rw [← hzs.out] at hou tn ST MN
      obtain ⟨A1, c1, rfl⟩ := hou.form
      have HOU := Lib.hid hou
      have UG := Lib.hid (own_ne_symm (v := .slice A1 zs.length c1) (u := .slice (some ⟨g, 0, none⟩) qs.length c) hug)
      have FZ := Lib.hid hfz
      obtain ⟨kk, hkk⟩ : ∃ kk, Hid (kk = k + ((t0 + 3 * j : Nat) : Int)) := ⟨_, Lib.hid rfl⟩
      have kk0 : 0 ≤ kk ∧ kk < 3000000000 := by have := hkk.out; omega
      rw [← hkk.out] at MN ⊢
      have Lb1 : j * 4 + 1 < qs.length * 4 := by omega
      have Lb2 : j * 4 + 2 < qs.length * 4 := by omega
      have Lb3 : j * 4 + 3 < qs.length * 4 := by omega
      clear hou mlt hfz hug
      have CT := Lib.hid (fun ww (hh : Own ww lo hi 2 .i64 (.slice A1 zs.length c1) zs) => markInt64S_own (.slice A1 zs.length c1) zs kk ww lo hi hh (by omega) (by omega) (by omega))
      go_wp2_with (first
        | (go_at_call 12
           refine (CT.out _ HOU.out).mono ?_
           rintro e w1 ⟨⟨rfl, p1⟩, g1⟩
           have P1 := Lib.hid p1
           have G1 := Lib.hid g1
           have HM := Lib.hid (ho.out.mark (n := qs.length) ML2.out.symm MLT.out HU.out g1 p1 (kk + zs.length) (kk + zs.length + 1) (kk + zs.length + 2))
           have rw1 : w1.ownsRow lo 62 4 (.slice (some ⟨g, 0, none⟩) qs.length c) qs.length us := (by have q := ho.out.rows.row.kept g1 UG.out; rw [ML2.out] at q; exact q)
           have x1 := (rw1.cellAt (j * 4 + 1) Lb1).trans S1.out
           have x2 := (rw1.cellAt (j * 4 + 2) Lb2).trans S2.out
           have x3 := (rw1.cellAt (j * 4 + 3) Lb3).trans S3.out
           have y1 := rw1.frozenAt (j * 4 + 1)
           have y2 := rw1.frozenAt (j * 4 + 2)
           have y3 := rw1.frozenAt (j * 4 + 3)
           clear p1 g1 rw1))
      have OB := Lib.hid (((hb.out.trans (Out.of_grown G1.out HOU.out.lt)).trans (outSet w1 hg1 hg2 (j * 4 + 1) (.int .i64 (kk + zs.length)))).trans ((outSet _ hg1 hg2 (j * 4 + 2) (.int .i64 (kk + zs.length + 1))).trans (outSet _ hg1 hg2 (j * 4 + 3) (.int .i64 (kk + zs.length + 2)))))
      have QF := Lib.hid (show OwnQ _ lo hi 62 2 (.slice (some ⟨g, 0, none⟩) qs.length c) (mixQ (marksQ k qs) qs (j + 1)) _ from by
        rw [← mixQ_step _ _ _ ML.out hlt, MN.out]; exact HM.out)
      have e2 : kk + (zs.length : Int) + 2 = kk + (zs.length : Int) + 1 + 1 := by omega
      rw [e2] at QF OB
      go_roundw
      case rel => exact ⟨j + 1, _, by omega, by go_num, by rw [ST.out]; have := hkk.out; congr 1; omega, QF, OB⟩
      case measure => first | omega | (simp [intOf]; omega)
    · have e : qs.take j = qs := List.take_of_length_le (by omega)
      have ej : j = qs.length := by omega
      rw [e] at *
      subst ej
      have P := ho.out
      rw [mixQ_all _ _ _ ML.out (by omega)] at P
      have HP := Lib.hid P
      clear P ho
      go_wp2
      go_ret
      exact ⟨⟨rfl, us, HP.out⟩, hb.out⟩
set_option maxRecDepth 100000 in
set_option maxHeartbeats 2000000 in
theorem heldSequenceS_own (v : Value) (qs : List Sq) (k : Int) (w : World) (B : Nat) (h : SeesQS w B v (marksQ k qs)) (hl : qs.length + sumQ qs < 300000001) (hk0 : 0 ≤ k) (hk1 : k < 1000000000) :
    Calls Try.prog 41 #[v, .int .i64 k] w fun e w' => e = .returned (.int .i64 (k + ((sumQ qs + 3 * qs.length : Nat) : Int))) ∧ w = w' := by
  obtain ⟨us, h⟩ := h
  have HO := Lib.hid h
  obtain ⟨A, c, rfl⟩ := h.form
  have ML := Lib.hid (marksQ_length k qs)
  rw [ML.out]
  clear h
  go_enter Try.func41, Try.ntmps41
  go_wp2
  go_loop [1, 5] (fun kk i => ∃ j : Nat, j ≤ qs.length ∧ i = .int .i64 j ∧ kk = .int .i64 (k + ((sumQ (qs.take j) + 3 * j : Nat) : Int))) (fun _ i => qs.length - (intOf i).toNat)
  case atStart => exact ⟨0, by omega, rfl, by simp [sumQ]⟩
  case round =>
    obtain ⟨j, hj, rfl, rfl⟩ := hrel
    have tl := sumQ_take_le qs j
    by_cases hlt : j < qs.length
    · obtain ⟨b, off, cc, u, e1, hb, hc0, hu, hc1, hc2, hc3⟩ := HO.out.at_ j (by rw [ML.out]; exact hlt)
      rw [marksQ_nth k qs j hlt] at hu hc1 hc2 hc3
      injection e1 with e1 e1b e1c
      clear e1b e1c
      subst e1
      have ST := Lib.hid (sumQ_take_step qs j hlt)
      have tn := sumQ_nth_le qs j hlt
      obtain ⟨t0, ht0⟩ : ∃ t0, Hid (t0 = sumQ (qs.take j)) := ⟨_, Lib.hid rfl⟩
      rw [← ht0.out] at tl tn ST hu hc1 hc2 hc3 ⊢
      obtain ⟨n, hn⟩ : ∃ n, Hid (n = (nthQ qs j).places.length) := ⟨_, Lib.hid rfl⟩
      rw [← hn.out] at hu hc1 hc2 hc3 tn ST
      obtain ⟨kk, hkk⟩ : ∃ kk, Hid (kk = k + ((t0 + 3 * j : Nat) : Int)) := ⟨_, Lib.hid rfl⟩
      have kk0 : 0 ≤ kk ∧ kk < 3000000000 := by have := hkk.out; omega
      rw [← hkk.out] at hu hc1 hc2 hc3 ⊢
      have g1 : w.cell? ⟨b, off + j * 4 + 1, none⟩ = some (.int .i64 (kk + n)) := hc1
      have g2 : w.cell? ⟨b, off + j * 4 + 2, none⟩ = some (.int .i64 (kk + n + 1)) := hc2
      have e2 : kk + (n : Int) + 1 + 1 = kk + (n : Int) + 2 := by omega
      have g3 : w.cell? ⟨b, off + j * 4 + 3, none⟩ = some (.int .i64 (kk + n + 1 + 1)) := by
        rw [e2]; exact hc3
      clear e2
      have HU := Lib.hid (show Sees w B .i64 u (marks kk n) from hu)
      obtain ⟨A1, c1, rfl, _⟩ := hu
      have q1 : (kk + (n : Int) != kk + (n : Int)) = false := by simp
      have q2 : (kk + (n : Int) + 1 != kk + (n : Int) + 1) = false := by simp
      have q3 : (kk + (n : Int) + 1 + 1 != kk + (n : Int) + 1 + 1) = false := by simp
      have hnn : ¬ (kk + (n : Int) < 0) := by omega
      have nb : n < 1000000000 := by omega
      clear hc1 hc2 hc3
      have CT := Lib.hid (heldInt64S_own (.slice A1 (marks kk n).length c1) n kk w B (by have := HU.out; exact this) nb (by omega) (by omega))
      go_wp2_with (go_at_call 64; refine CT.out.mono ?_; rintro e w1 ⟨rfl, rfl⟩)
      go_round
      case rel => exact ⟨j + 1, by omega, by go_num, by rw [ST.out]; have := hkk.out; congr 1; omega⟩
      case measure => first | omega | (simp [intOf]; omega)
    · have e : qs.take j = qs := List.take_of_length_le (by omega)
      have ej : j = qs.length := by omega
      rw [e] at *
      subst ej
      go_wp2
      go_ret
      exact ⟨rfl, rfl⟩
set_option maxRecDepth 100000 in
set_option maxHeartbeats 400000 in
theorem eqSequencesResult_same (x0 : Int) (w : World) (v1 u1 : Value) (zs1 : List Sq) (B B' : Nat) (h1 : SeesQS w B v1 zs1) (g1 : SeesQS w B' u1 zs1) (l1 : zs1.length + sumQ zs1 < 300000001) (hB : B ≤ w.heap.size) (hB' : B' ≤ w.heap.size) :
    Calls Try.prog 17 #[.agg #[.int .i64 x0, v1], .agg #[.int .i64 x0, u1]] w fun e w' => e = .returned (.bool true) ∧ Below w.heap.size w w' := by
  have k0 : (x0 != x0) = false := by simp
  have b0 := ((Below.refl w.heap.size w).alloc (Nat.le_refl _) (.cells #[.int .i64 x0, v1] 35)).alloc (by simp) (.cells #[.int .i64 x0, u1] 35)
  go_enter Try.func17, Try.ntmps17
  go_wp2_with fail
  refine (eqSequenceS_same _ _ zs1 _ B B' (h1.below b0 hB) (g1.below b0 hB') (by simp; omega) (by simp; omega) l1).mono ?_
  rintro e w1 ⟨rfl, b1⟩
  have b2 := below_on b0 b1 (Nat.le_refl _)
  go_wp2
  go_ret
  exact ⟨rfl, b2⟩
set_option maxRecDepth 100000 in
set_option maxHeartbeats 400000 in
theorem markSequencesResult_own (x0 : Int) (v1 : Value) (zs1 : List Sq) (k : Int) (w : World) (lo hi : Nat) (h1 : OwnQS w lo hi 62 2 v1 zs1) (l1 : zs1.length + sumQ zs1 < 300000001) (hk0 : 0 ≤ k) (hk1 : k < 1000000000) (hw : hi ≤ w.heap.size) :
    Calls Try.prog 18 #[.agg #[.int .i64 x0, v1], .int .i64 k] w fun e w' => (e = .returned (.int .i64 (k + ((sumQ zs1 + 3 * zs1.length : Nat) : Int))) ∧ OwnQS w' lo hi 62 2 v1 (marksQ (k) zs1)) ∧ Out lo hi w w' := by
  have b0 := (Below.refl w.heap.size w).alloc (Nat.le_refl _) (.cells #[.int .i64 x0, v1] 35)
  have o1 := h1.below b0 hw
  have q0 : Out lo hi w _ := Out.of_below b0
  go_enter Try.func18, Try.ntmps18
  go_wp2_with fail
  refine (markSequenceS_own v1 zs1 _ _ lo hi o1 l1 (by omega) (by omega)).mono ?_
  rintro e w1 ⟨⟨rfl, p1⟩, g1⟩
  have q1 := q0.trans g1
  go_wp2
  go_ret
  exact ⟨⟨rfl, p1⟩, q1⟩
set_option maxRecDepth 100000 in
set_option maxHeartbeats 400000 in
theorem heldSequencesResult_own (x0 : Int) (v1 : Value) (n1 : List Sq) (k : Int) (w : World) (B : Nat) (h1 : SeesQS w B v1 (marksQ (k) n1)) (l1 : n1.length + sumQ n1 < 300000001) (hk0 : 0 ≤ k) (hk1 : k < 1000000000) (hB : B ≤ w.heap.size) :
    Calls Try.prog 19 #[.agg #[.int .i64 x0, v1], .int .i64 k] w fun e w' => e = .returned (.int .i64 (k + ((sumQ n1 + 3 * n1.length : Nat) : Int))) ∧ Below w.heap.size w w' := by
  have b0 := (Below.refl w.heap.size w).alloc (Nat.le_refl _) (.cells #[.int .i64 x0, v1] 35)
  go_enter Try.func19, Try.ntmps19
  go_wp2_with fail
  refine (heldSequenceS_own v1 n1 _ _ B (h1.below b0 hB) l1 (by omega) (by omega)).mono ?_
  rintro e w1 ⟨rfl, rfl⟩
  have hnn : ¬ (k + ((sumQ n1 + 3 * n1.length : Nat) : Int) < 0) := by omega
  go_wp2
  go_ret
  exact ⟨rfl, b0⟩
end Go.Proofs.Ythhbikilighemaa
