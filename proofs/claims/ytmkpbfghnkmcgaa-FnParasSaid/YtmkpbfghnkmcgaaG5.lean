/- Chapter 3: the model's paragraphs. -/
import Derived.Test.YtmkpbfghnkmcgaaG2
import Derived.Test.YtmkpbfghnkmcgaaO3
namespace Go.Proofs.Ytmkpbfghnkmcgaa
open Go.RowKit Go.Maps

theorem info_ints : (Try.prog.info? 24).map (fun i => (i.zero, i.size, i.bytes)) = some (some (.slice none 0 0), 1, 24) := by kernel_rfl
theorem slice_one (A : Option Addr) (n c : Nat) : ∀ u ∈ [Value.slice A n c], u.oneCell' = true := by intro u hu; simp at hu; subst hu; rfl
theorem class_ten : classN 10 = 10 := rfl
def parasV (zs : List Int) : List (List Int) := if textF zs = 0 then parasN classN zs else []
def endedV (zs : List Int) : Bool := if textF zs = 0 then endedN classN zs else false
theorem parasV_total (zs : List Int) : (parasV zs).length + total (parasV zs) ≤ 2000 := by
  unfold parasV
  split
  · have := parasN_total classN zs
    have := (textF_zero (by assumption)).1
    omega
  · simp [total]

set_option maxRecDepth 100000 in
set_option maxHeartbeats 1000000 in
theorem l3Split_any (A : Option Addr) (zs : List Int) (c : Nat) (w : World) (h1 : Rd w w.heap.size A (nums .i64 zs)) (hl : zs.length ≤ 600) (hz : zs.all chrB = true) :
    Calls Try.prog 59 #[.slice A zs.length c] w fun e w' => (∃ v, e = .returned (.tuple #[v, .bool (endedN classN zs)]) ∧ OwnSS w' w.heap.size w'.heap.size 24 2 .i64 v (parasN classN zs)) ∧ Below w.heap.size w w' := by
  obtain ⟨i0, hi, hz0, hz1, hz2⟩ := info_parts info_int64
  obtain ⟨i1, ki, kz0, kz1, kz2⟩ := info_parts info_ints
  have H1 := Lib.hid h1
  have HZ := Lib.hid hz
  clear h1 hz
  have T0 : Hid (Two ((w.alloc (.cells #[] 24)).alloc (.cells #[] 2)) w.heap.size (w.heap.size + 2) 24 2 (.slice (some ⟨w.heap.size, 0, none⟩) 0 0) (.slice (some ⟨w.heap.size + 1, 0, none⟩) 0 0) (prun classN (zs.take 0)).paras (prun classN (zs.take 0)).now []) := Lib.hid (by
    have ho : OwnC (w.alloc (.cells #[] 24)) w.heap.size (w.heap.size + 1) 24 1 (.slice (some ⟨w.heap.size, 0, none⟩) 0 0) ([] : List (List Int)).length [] (contsL 2 .i64 []) :=
      ⟨own_new w _ #[] 0 rfl (by omega), fun g hg => by simp [Value.ownBlock] at hg; omega, fun k c hc => by simp [contsL] at hc, fun k u hu => by simp at hu, fun i j u u' _ hu => by simp at hu, fun k u hu => by simp at hu⟩
    have := Two.fresh ho (by simp) (by simp)
    simpa [prun] using this)
  have B0 := Lib.hid (((Below.refl w.heap.size w).alloc (Nat.le_refl _) (.cells #[] 24)).alloc (by simp) (.cells #[] 2))
  go_enter Try.func59, Try.ntmps59
  go_wp2
  go_loopw [4, 5, 6, 7] (fun vO vN vB i wr => ∃ (k : Nat) (us : List Value), k ≤ zs.length ∧ i = .int .i64 k ∧ vB = .bool (!decide ((prun classN (zs.take k)).now.length = 0)) ∧
    Hid (Two wr w.heap.size wr.heap.size 24 2 vO vN (prun classN (zs.take k)).paras (prun classN (zs.take k)).now us) ∧ Hid (Below w.heap.size w wr)) (fun _ _ _ i _ => zs.length - (intOf i).toNat)
  case atStart => exact ⟨0, [], by omega, rfl, rfl, Lib.hid (by have := T0.out; exact this.more (Nat.le_refl _) (by simp)), B0⟩
  case round =>
    clear T0 B0
    obtain ⟨k, us, hk, rfl, rfl, ht, hbr⟩ := hrel
    have hbs := hbr.out.size
    obtain ⟨AO, cO, rfl⟩ := own_form ht.out.rows.row
    obtain ⟨AN, cN, rfl⟩ := ht.out.one.form
    have PT := Lib.hid (prun_total classN (zs.take k))
    have ptl : (zs.take k).length ≤ 600 := by rw [List.length_take]; omega
    have pt1 : (prun classN (zs.take k)).paras.length ≤ 600 := by have := PT.out; omega
    have pt2 : (prun classN (zs.take k)).now.length ≤ 600 := by have := PT.out; omega
    clear PT ptl
    by_cases hlt : k < zs.length
    · obtain ⟨b, off, rfl, hb, hc⟩ := (H1.out.below hbr.out (Nat.le_refl _)).int (by omega)
      have hc0 := hc k hlt
      have HCC := Lib.hid hc
      have hch := chr_nth zs HZ.out k hlt
      have hz1' : 0 ≤ nth zs k := by simp only [chrB, decide_eq_true_eq] at hch; omega
      have HCL := Lib.hid (fun w => l2Class_any (nth zs k) w hz1')
      have HST := Lib.hid (prun_step classN zs k hlt)
      have HAH := Lib.hid (fun j (h : j < zs.length) => prun_ahead classN zs j h)
      clear hc hch hz1'
      obtain ⟨z, hzz⟩ : ∃ z, Hid (z = nth zs k) := ⟨_, Lib.hid rfl⟩
      rw [← hzz.out] at hc0 HCL HST
      obtain ⟨P, hP⟩ : ∃ P, Hid (P = prun classN (zs.take k)) := ⟨_, Lib.hid rfl⟩
      have hah : Hid (∀ j, k = j + 1 → P.ahead = nth zs j) := Lib.hid (fun j hj => by rw [hP.out, hj]; exact HAH.out j (by omega))
      have hah0 : Hid (k = 0 → P.ahead = -1) := Lib.hid (fun hj => by rw [hP.out, hj]; rfl)
      rw [← hP.out] at ht HST pt1 pt2 ⊢
      clear HAH
      obtain ⟨q, hq⟩ : ∃ q, Hid (q = classN z) := ⟨_, Lib.hid rfl⟩
      rw [← hq.out] at HCL
      go_wp2_with fail
      refine (HCL.out _).mono ?_
      rintro e w' ⟨rfl, rfl⟩
      by_cases h10 : q = 10
      · have hqn : (q != 10) = false := by simp [h10]
        by_cases hskip : P.ahead = 13 ∧ z = 10
        · obtain ⟨hs1, hs2⟩ := hskip
          have E1 := Lib.hid (show prun classN (zs.take (k + 1)) = ⟨P.paras, P.now, z⟩ by rw [HST.out]; unfold pstep; rw [if_pos ⟨hs1, hs2⟩])
          cases k with
          | zero => have := hah0.out rfl; omega
          | succ j =>
            have hc1 := HCC.out j (by omega)
            rw [← hah.out j rfl, hs1] at hc1
            have hze : (z == 10) = true := by simp [hs2]
            have T2 : Hid (Two wr w.heap.size wr.heap.size 24 2 (.slice AO P.paras.length cO) (.slice AN P.now.length cN) (prun classN (zs.take (j + 1 + 1))).paras (prun classN (zs.take (j + 1 + 1))).now us) := Lib.hid (by rw [E1.out]; exact ht.out)
            have EN := Lib.hid (show (prun classN (zs.take (j + 1 + 1))).now = P.now by rw [E1.out])
            clear hs1 hs2 h10
            go_wp2
            go_roundw
            case rel => exact ⟨j + 1 + 1, us, by omega, by go_num, by rw [EN.out]; simp, T2, hbr⟩
            case measure => first | omega | (simp [intOf]; omega)
        · have E1 := Lib.hid (show prun classN (zs.take (k + 1)) = ⟨P.paras ++ [P.now], [], z⟩ by rw [HST.out]; unfold pstep; rw [if_neg hskip, if_pos (by rw [← hq.out]; exact h10)])
          -- the test is false, whichever way
          have T1 := Lib.hid (ht.out.alloc (.cells #[.slice AN P.now.length cN] 24))
          have fin : ∀ (v' : Value) (w5 : World), w5.ownsRow w.heap.size 24 1 v' (P.paras.length + 1) (us ++ [.slice AN P.now.length cN]) → (wr.alloc (.cells #[.slice AN P.now.length cN] 24)).grownBy w5 (Value.slice AO P.paras.length cO).ownBlock →
              (v'.ownBlock = (Value.slice AO P.paras.length cO).ownBlock ∨ v'.ownBlock = some (wr.alloc (.cells #[.slice AN P.now.length cN] 24)).heap.size) →
              Two (w5.alloc (.cells #[] 2)) w.heap.size (w5.heap.size + 1) 24 2 v' (.slice (some ⟨w5.heap.size, 0, none⟩) 0 0) (prun classN (zs.take (k + 1))).paras (prun classN (zs.take (k + 1))).now (us ++ [.slice AN P.now.length cN]) ∧ Below w.heap.size w (w5.alloc (.cells #[] 2)) ∧ w.heap.size ≤ w5.heap.size := by
            intro v' w5 o5 g5 a5
            have g6 := (World.grownBy_alloc wr _ _).trans g5
            have sz5 := g6.size
            have := T1.out.push (by simp) o5 g5 a5
            rw [E1.out]
            refine ⟨Two.fresh this (by omega) (Nat.le_refl _), (hbr.out.grown g6 hbs (fun b hb => (ht.out.rows.vlt b hb).1)).alloc (by omega) _, by omega⟩
          have FIN := Lib.hid fin
          have EN := Lib.hid (show (prun classN (zs.take (k + 1))).now = [] by rw [E1.out])
          have HOR := Lib.hid ht.out.rows.row
          clear fin
          by_cases hz10 : z = 10
          · have hze : (z == 10) = true := by simp [hz10]
            cases k with
            | zero =>
              rw [Nat.add_zero] at hc0
              clear hskip hz10 h10
              go_wp2_with (at_builtin; go_loud (refine wpList_app rfl _ _ _ rfl w.heap.size Try.underlying26 ki kz0 kz1 kz2 rfl (by omega) rfl (HOR.out.alloc _) rfl (Rd.lit wr #[.slice AN P.now.length cN] _) (m := 1) rfl (slice_one _ _ _) (by omega) (by omega) (by simp; omega) ?_); intro v' w5 o5 g5 a5; obtain ⟨A5, c5, rfl⟩ := own_form o5; obtain ⟨f1, f2, f3⟩ := FIN.out _ _ o5 g5 a5; have F1 := Lib.hid f1; have F2 := Lib.hid f2; clear f1 f2 o5 g5 a5)
              go_roundw
              case rel => exact ⟨1, _, by omega, by go_num, by rw [EN.out]; rfl, Lib.hid (F1.out.more (Nat.le_refl _) (by simp)), F2⟩
              case measure => first | omega | (simp [intOf]; omega)
            | succ j =>
              have hc1 := HCC.out j (by omega)
              rw [← hah.out j rfl] at hc1
              obtain ⟨pa, hpa⟩ : ∃ pa, Hid (pa = P.ahead) := ⟨_, Lib.hid rfl⟩
              rw [← hpa.out] at hc1
              have hpe : (pa == 13) = false := by rw [hpa.out]; simp; omega
              clear hskip hz10 h10
              go_wp2_with (at_builtin; go_loud (refine wpList_app rfl _ _ _ rfl w.heap.size Try.underlying26 ki kz0 kz1 kz2 rfl (by omega) rfl (HOR.out.alloc _) rfl (Rd.lit wr #[.slice AN P.now.length cN] _) (m := 1) rfl (slice_one _ _ _) (by omega) (by omega) (by simp; omega) ?_); intro v' w5 o5 g5 a5; obtain ⟨A5, c5, rfl⟩ := own_form o5; obtain ⟨f1, f2, f3⟩ := FIN.out _ _ o5 g5 a5; have F1 := Lib.hid f1; have F2 := Lib.hid f2; clear f1 f2 o5 g5 a5)
              go_roundw
              case rel => exact ⟨j + 1 + 1, _, by omega, by go_num, by rw [EN.out]; rfl, Lib.hid (F1.out.more (Nat.le_refl _) (by simp)), F2⟩
              case measure => first | omega | (simp [intOf]; omega)
          · have hze : (z == 10) = false := by simpa using hz10
            clear hskip hz10 h10
            go_wp2_with (at_builtin; go_loud (refine wpList_app rfl _ _ _ rfl w.heap.size Try.underlying26 ki kz0 kz1 kz2 rfl (by omega) rfl (HOR.out.alloc _) rfl (Rd.lit wr #[.slice AN P.now.length cN] _) (m := 1) rfl (slice_one _ _ _) (by omega) (by omega) (by simp; omega) ?_); intro v' w5 o5 g5 a5; obtain ⟨A5, c5, rfl⟩ := own_form o5; obtain ⟨f1, f2, f3⟩ := FIN.out _ _ o5 g5 a5; have F1 := Lib.hid f1; have F2 := Lib.hid f2; clear f1 f2 o5 g5 a5)
            go_roundw
            case rel => exact ⟨k + 1, _, by omega, by go_num, by rw [EN.out]; rfl, Lib.hid (F1.out.more (Nat.le_refl _) (by simp)), F2⟩
            case measure => first | omega | (simp [intOf]; omega)
      · have hqn : (q != 10) = true := by simpa using h10
        have E1 := Lib.hid (show prun classN (zs.take (k + 1)) = ⟨P.paras, P.now ++ [z], z⟩ by
          rw [HST.out]; unfold pstep
          rw [if_neg (by rintro ⟨_, rfl⟩; exact h10 (by rw [hq.out]; rfl)), if_neg (by rw [← hq.out]; exact h10)])
        have T1 := Lib.hid (ht.out.alloc (.cells #[.int .i64 z] 2))
        have EN := Lib.hid (show (prun classN (zs.take (k + 1))).now.length = P.now.length + 1 by rw [E1.out]; simp)
        have HOR := Lib.hid ht.out.one.1
        clear h10
        go_wp2_with (at_builtin; go_loud (refine wpList_app rfl _ _ _ rfl w.heap.size Try.underlying24 hi hz0 hz1 hz2 rfl (by omega) rfl (HOR.out.alloc _) rfl (Rd.lit wr #[.int .i64 z] _) (m := 1) rfl (nums_one .i64 [z]) (by omega) (by omega) (by simp; omega) ?_); intro v' w5 o5 g5 a5; obtain ⟨A5, c5, rfl⟩ := own_form o5)
        have g6 := (World.grownBy_alloc wr (.cells #[.int .i64 z] 2) _).trans g5
        have T5 : Hid (Two w5 w.heap.size w5.heap.size 24 2 (.slice AO P.paras.length cO) (.slice A5 (P.now.length + 1) c5) (prun classN (zs.take (k + 1))).paras (prun classN (zs.take (k + 1))).now us) := Lib.hid (by rw [E1.out]; exact T1.out.add (by simp) o5 g5 a5)
        have B5 := Lib.hid (hbr.out.grown g6 hbs (fun b hb => (HOR.out.lt b hb).1))
        clear o5 g5 a5 g6
        go_roundw
        case rel => exact ⟨k + 1, us, by omega, by go_num, by rw [EN.out]; simp, T5, B5⟩
        case measure => first | omega | (simp [intOf]; omega)
    · have e : zs.take k = zs := List.take_of_length_le (by omega)
      rw [e] at ht pt1 pt2 ⊢
      by_cases hn : (prun classN zs).now.length = 0
      · have E1 := Lib.hid (show parasN classN zs = (prun classN zs).paras by unfold parasN; rw [if_pos hn])
        have E2 := Lib.hid (show endedN classN zs = true by unfold endedN; simpa using hn)
        have hd : decide ((prun classN zs).now.length = 0) = true := by simpa using hn
        have HT := Lib.hid ht.out.out
        rw [hd]
        clear hn e hd ht
        go_wp2
        go_ret2
        rw [E1.out, E2.out]
        exact ⟨⟨_, rfl, HT.out⟩, hbr.out⟩
      · have E1 := Lib.hid (show parasN classN zs = (prun classN zs).paras ++ [(prun classN zs).now] by unfold parasN; rw [if_neg hn])
        have E2 := Lib.hid (show endedN classN zs = false by unfold endedN; simpa using hn)
        have hd : decide ((prun classN zs).now.length = 0) = false := by simpa using hn
        obtain ⟨P, hP⟩ : ∃ P, Hid (P = prun classN zs) := ⟨_, Lib.hid rfl⟩
        rw [hd]
        rw [← hP.out] at ht E1 pt1 pt2 ⊢
        have T1 := Lib.hid (ht.out.alloc (.cells #[.slice AN P.now.length cN] 24))
        have HOR := Lib.hid ht.out.rows.row
        have VLT := Lib.hid ht.out.rows.vlt
        clear hn e hd ht
        go_wp2_with (at_builtin; go_loud (refine wpList_app rfl _ _ _ rfl w.heap.size Try.underlying26 ki kz0 kz1 kz2 rfl (by omega) rfl (HOR.out.alloc _) rfl (Rd.lit wr #[.slice AN P.now.length cN] _) (m := 1) rfl (slice_one _ _ _) (by omega) (by omega) (by simp; omega) ?_); intro v' w5 o5 g5 a5; obtain ⟨A5, c5, rfl⟩ := own_form o5)
        have g6 := (World.grownBy_alloc wr (.cells #[.slice AN P.now.length cN] 24) _).trans g5
        have O5 := T1.out.push (by simp) o5 g5 a5
        go_ret2
        rw [E1.out, E2.out]
        exact ⟨⟨_, rfl, ⟨_, O5⟩⟩, hbr.out.grown g6 hbs (fun b hb => (VLT.out b hb).1)⟩
end Go.Proofs.Ytmkpbfghnkmcgaa
