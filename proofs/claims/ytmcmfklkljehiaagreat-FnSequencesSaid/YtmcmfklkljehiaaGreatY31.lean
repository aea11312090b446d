/- Chapter 5: slices.Backward. -/
import Derived.Test.YtmcmfklkljehiaaGreatY28
import Derived.Test.YtmcmfklkljehiaaGreatY08
import Derived.Test.YtmcmfklkljehiaaGreatY12
import Derived.RangeFuncNested
import Derived.RangeFuncBound
import Derived.RangeFuncBox
import Derived.RangeFuncCalls
import Derived.RangeFuncLeaves
import Derived.Shelf.Abstract
import Derived.Shelf.RegionOpen
import Derived.OwnWalkIn
import Derived.TacticsInMore
import Derived.LoopNIn
import Derived.LoopIn
namespace Go.Proofs.YtmcmfklkljehiaaGreat
open Go.RowKit Go.Maps

/-- the state after k levels -/
def srun (ls : List Int) (k : Nat) : GS := grun (lev ls) (keptN ls k)
theorem srun_gone {ls : List Int} {k : Nat} (h : nth ls k = -1) : srun ls (k + 1) = srun ls k := by unfold srun; rw [keptN_gone h]
theorem srun_kept {ls : List Int} {k : Nat} (h : nth ls k ≠ -1) : srun ls (k + 1) = gstep (lev ls) (srun ls k) (k : Int) := by unfold srun; rw [keptN_kept h, grun_app]
theorem srun_wf (ls : List Int) (k : Nat) : WfG (lev ls) (srun ls k) := grun_wf fun _ hx => (keptN_mem hx).2.2
theorem lev_nat (ls : List Int) (k : Nat) : lev ls (k : Int) = nth ls k := by simp [lev]
theorem srun_len (ls : List Int) (k : Nat) : (srun ls k).out.length ≤ k ∧ total (srun ls k).out ≤ k := by
  have h1 : total (srun ls k).out ≤ k := by rw [← flat_len]; unfold srun; rw [grun_flat]; exact keptN_len ls k
  have := len_le_total _ fun r hr => ((srun_wf ls k).out r hr).1
  exact ⟨by omega, h1⟩
theorem total_two (D : List (List Int)) (N : List Int) : total (D ++ [N]) = total D + N.length := by rw [total_app, total_one]

set_option maxRecDepth 100000 in
set_option maxHeartbeats 2000000 in
theorem l5Runs_any (A : Option Addr) (ls : List Int) (c : Nat) (w : World) (B : Nat) (h1 : Rd w B A (nums .i64 ls)) (hB : B ≤ w.heap.size) (hl : ls.length ≤ 600) :
    Calls Tryz.prog 36 #[.slice A ls.length c] w fun e w' => (∃ v, e = .returned v ∧ OwnSS w' w.heap.size w'.heap.size 24 2 .i64 v (runsN ls)) ∧ Below w.heap.size w w' := by
  obtain ⟨i0, hi, hz0, hz1, hz2⟩ := info_parts info_int64
  obtain ⟨i1, ki, kz0, kz1, kz2⟩ := info_parts info_ints
  have H1 := Lib.hid h1
  clear h1
  obtain ⟨n, hn⟩ : ∃ n, Hid (n = ls.length) := ⟨_, Lib.hid rfl⟩
  rw [← hn.out] at hl ⊢
  have O0 : Hid (OwnC (w.alloc (.cells #[] 24)) w.heap.size (w.heap.size + 1) 24 1 (.slice (some ⟨w.heap.size, 0, none⟩) 0 0) (srun ls 0).out.length [] (contsL 2 .i64 (srun ls 0).out)) := Lib.hid
      ⟨own_new w _ #[] 0 rfl (by omega), fun g hg => by simp [Value.ownBlock] at hg; omega, fun k c hc => by simp [contsL, srun, keptN, grun, GS.out] at hc, fun k u hu => by simp at hu, fun i j u u' _ hu => by simp at hu, fun k u hu => by simp at hu⟩
  have B0 := Lib.hid ((Below.refl w.heap.size w).alloc (Nat.le_refl _) (.cells #[] 24))
  go_enter Tryz.func36, Tryz.ntmps36
  go_wp2
  go_loopw [3, 4, 5] (fun v x i wr => ∃ (k : Nat) (us : List Value), k ≤ n ∧ i = .int .i64 k ∧ x = .int .i64 (srun ls k).val ∧ Hid (OwnC wr w.heap.size wr.heap.size 24 1 v (srun ls k).out.length us (contsL 2 .i64 (srun ls k).out)) ∧ Hid (Below w.heap.size w wr)) (fun _ _ i _ => n - (intOf i).toNat)
  case atStart => exact ⟨0, [], by omega, rfl, rfl, Lib.hid (by have := O0.out.more (Nat.le_refl _) (show w.heap.size + 1 ≤ (w.alloc (.cells #[] 24)).heap.size by simp); exact this), B0⟩
  case round =>
    clear O0 B0
    obtain ⟨k, us, hk, rfl, rfl, ho, hbr⟩ := hrel
    have hbs := hbr.out.size
    obtain ⟨AR, cR, rfl⟩ := own_form ho.out.row
    by_cases hlt : k < n
    · obtain ⟨b, off, rfl, hb, hc⟩ := (H1.out.below hbr.out (by omega)).int (by rw [← hn.out]; omega)
      have hc0 := hc k (by rw [← hn.out]; exact hlt)
      have SL := srun_len ls k
      have s1 : (srun ls k).out.length ≤ 600 := by omega
      clear hc SL
      by_cases hg : nth ls k = -1
      · have E := Lib.hid (srun_gone hg)
        rw [hg] at hc0
        have HO := Lib.hid (show OwnC wr w.heap.size wr.heap.size 24 1 (.slice AR (srun ls k).out.length cR) (srun ls (k + 1)).out.length us (contsL 2 .i64 (srun ls (k + 1)).out) by rw [E.out]; exact ho.out)
        have EV := Lib.hid (show (srun ls k).val = (srun ls (k + 1)).val by rw [E.out])
        clear hg ho
        go_wp2
        go_roundw
        case rel => exact ⟨k + 1, us, by omega, by go_num, by rw [EV.out], HO, hbr⟩
        case measure => first | omega | (simp [intOf]; omega)
      · have E := Lib.hid (srun_kept hg)
        have WF := Lib.hid (srun_wf ls k)
        have LN := Lib.hid (lev_nat ls k)
        have TL := Lib.hid (srun_len ls k)
        have hne : (nth ls k == -1) = false := by simpa using hg
        obtain ⟨q, hq⟩ : ∃ q, Hid (q = nth ls k) := ⟨_, Lib.hid rfl⟩
        rw [← hq.out] at hc0 hne LN
        obtain ⟨S, hS⟩ : ∃ S, Hid (S = srun ls k) := ⟨_, Lib.hid rfl⟩
        rw [← hS.out] at ho s1 E WF TL ⊢
        have HG := Lib.hid (show q ≠ -1 by rw [hq.out]; exact hg)
        clear hg
        by_cases hv : q = S.val
        · -- it goes on
          have he : (q != S.val) = false := by simp [hv]
          have hn0 : S.now.length ≠ 0 := fun h => HG.out (by rw [hv]; exact (WF.out.none h).1)
          have EO := Lib.hid (out_full hn0)
          have E2 := Lib.hid (show (srun ls (k + 1)).out = S.done ++ [S.now ++ [(k : Int)]] by rw [E.out]; exact gstep_on _ _ _ (by rw [LN.out]; exact hv))
          have E3 := Lib.hid (show (srun ls (k + 1)).val = S.val by rw [E.out]; unfold gstep; rw [if_pos (by rw [LN.out]; exact hv)])
          have tl := TL.out.2
          rw [EO.out, total_two] at tl
          have tl2 : S.now.length ≤ 600 := by omega
          have oe := EO.out
          obtain ⟨D, hD⟩ : ∃ D, Hid (D = S.done) := ⟨_, Lib.hid rfl⟩
          obtain ⟨N, hN⟩ : ∃ N, Hid (N = S.now) := ⟨_, Lib.hid rfl⟩
          rw [← hD.out, ← hN.out] at oe E2
          rw [← hN.out] at tl2
          rw [oe] at ho s1
          have lD : (D ++ [N]).length = D.length + 1 := by simp
          have H5 := Lib.hid (show OwnC wr w.heap.size wr.heap.size 24 1 (.slice AR (D.length + 1) cR) (D ++ [N]).length us (contsL 2 .i64 (D ++ [N])) by rw [← lD]; exact ho.out)
          rw [lD] at s1
          have oel : S.out.length = D.length + 1 := by rw [oe]; simp
          rw [oel]
          clear oe oel hn0 tl ho lD hv
          obtain ⟨gv, cv, u5, ev, cvl, hu5, cu5, ru5, gvl, gvh, uo5⟩ := H5.out.lastAt
          injection ev with ev1 ev2 ev3
          subst ev1; subst ev3
          clear ev2
          obtain ⟨Au, cu, rfl⟩ := own_form ru5
          have RU := Lib.hid ru5
          have CU5 := Lib.hid cu5
          have HU5 := Lib.hid hu5
          have UO5 := Lib.hid uo5
          have RW := Lib.hid (show wr.ownsRow w.heap.size 24 1 (.slice (some ⟨gv, 0, none⟩) (D.length + 1) cR) (D.length + 1) us by have := H5.out.row; simpa using this)
          clear ru5 hu5 uo5
          go_wp2_with (first
            | (at_builtin; go_loud (refine wpList_app rfl _ _ _ rfl w.heap.size Tryz.underlying24 hi hz0 hz1 hz2 rfl (by omega) rfl (RU.out.alloc _) rfl (Rd.lit wr #[.int .i64 k] _) (m := 1) rfl (nums_one .i64 [(k : Int)]) (by omega) (by omega) (by simp; omega) ?_); intro v6 w6 o6 g6 a6; obtain ⟨A6, c6, rfl⟩ := own_form o6; have R6 := Lib.hid ((RW.out.alloc (.cells #[.int .i64 k] 2)).kept g6 (own_ne_symm UO5.out)))
            | (refine wpList_put rfl _ _ _ rfl i1 ki kz1 D.length (.slice A6 (N.length + 1) c6) rfl rfl rfl R6.out (by omega) ?_; intro w7 o7 g7))
          have b7 : Below w.heap.size w w7 := (hbr.out.alloc hbs (.cells #[.int .i64 k] 2)).grown g6 (by simp; omega) (fun b hb => (RU.out.lt b hb).1) |>.grown g7 (by have := g6.size; simp at this; omega) (fun b hb => by injection hb with hb; omega)
          have HL := (H5.out.alloc (.cells #[.int .i64 k] 2)).last HU5.out (by simp) o6 g6 a6 (by simpa using o7) g7
          rw [← E2.out] at HL
          have HL2 := Lib.hid HL
          have B7 := Lib.hid b7
          clear HL b7 o6 g6 a6 o7 g7
          go_roundw
          case rel => exact ⟨k + 1, _, by omega, by go_num, by rw [E3.out], HL2, B7⟩
          case measure => first | omega | (simp [intOf]; omega)
        · -- a new one
          have he : (q != S.val) = true := by simpa using hv
          obtain ⟨N, hN⟩ : ∃ N : List Int, Hid (N = []) := ⟨_, Lib.hid rfl⟩
          have E2 := Lib.hid (show (srun ls (k + 1)).out = S.out ++ [N ++ [(k : Int)]] by rw [E.out, hN.out]; exact gstep_out _ _ _ (by rw [LN.out]; exact hv))
          have E3 := Lib.hid (show (srun ls (k + 1)).val = q by rw [E.out]; unfold gstep; rw [if_neg (by rw [LN.out]; exact hv)]; exact LN.out)
          obtain ⟨D, hD⟩ : ∃ D, Hid (D = S.out) := ⟨_, Lib.hid rfl⟩
          have nl : N.length ≤ 600 := by rw [hN.out]; simp
          rw [← hD.out] at ho E2 s1 ⊢
          have T1 := Lib.hid ((Two.fresh ho.out (by omega) (Nat.le_refl _)).alloc (.cells #[.slice (some ⟨wr.heap.size, 0, none⟩) 0 0] 24))
          have HC1 : Hid (((wr.alloc (.cells #[] 2)).alloc (.cells #[.slice (some ⟨wr.heap.size, 0, none⟩) 0 0] 24)).cell? ⟨b, off + k, none⟩ = some (.int .i64 q)) := Lib.hid
            (((((Below.refl wr.heap.size wr).alloc (Nat.le_refl _) (.cells #[] 2)).alloc (by simp) (.cells #[.slice (some ⟨wr.heap.size, 0, none⟩) 0 0] 24)).cell (p := ⟨b, off + k, none⟩) (show b < wr.heap.size by omega)).trans hc0)
          have RL : Hid (Rd ((wr.alloc (.cells #[] 2)).alloc (.cells #[.slice (some ⟨wr.heap.size, 0, none⟩) 0 0] 24)) (wr.heap.size + 1 + 1) (some ⟨wr.heap.size + 1, 0, none⟩) [.slice (some ⟨wr.heap.size, 0, none⟩) 0 0]) := Lib.hid
            (by have := Rd.lit (wr.alloc (.cells #[] 2)) #[.slice (some ⟨wr.heap.size, 0, none⟩) 0 0] 24; rw [World.size_alloc] at this; exact this)
          have NB : Hid (some b ≠ (Value.slice AR D.length cR).ownBlock) := Lib.hid fun e => by have := ho.out.vlt b e.symm; omega
          have VLT := Lib.hid ho.out.vlt
          have BA := Lib.hid ((hbr.out.alloc hbs (.cells #[] 2)).alloc (by simp; omega) (.cells #[.slice (some ⟨wr.heap.size, 0, none⟩) 0 0] 24))
          clear hv ho
          have tok1 : True := trivial
          go_wp2_with (first
            | (have _t := tok1; at_builtin; go_loud (refine wpList_app rfl _ _ _ rfl w.heap.size Tryz.underlying31 ki kz0 kz1 kz2 rfl (by omega) rfl T1.out.rows.row rfl RL.out (m := 1) rfl (slice_one _ _ _) (by omega) (by omega) (by simp; omega) ?_); intro v5 w5 o5 g5 a5; clear tok1
               have hc1 : w5.cell? ⟨b, off + k, none⟩ = some (.int .i64 q) := g5.cell HC1.out NB.out
               have sz5 : wr.heap.size + 2 ≤ w5.heap.size := by have := g5.size; simp at this; omega
               have h5 := T1.out.push (by simp) o5 g5 a5
               rw [← hN.out] at h5
               have b5 := Lib.hid (BA.out.grown g5 BA.out.size (fun b hb => (VLT.out b hb).1))
               obtain ⟨gv, cv, u5, rfl, cvl, hu5, cu5, ru5, gvl, gvh, uo5⟩ := h5.lastAt
               obtain ⟨Au, cu, rfl⟩ := own_form ru5
               have H5 := Lib.hid h5
               have RU := Lib.hid ru5
               have HU5 := Lib.hid hu5
               have UO5 := Lib.hid uo5
               have RW := Lib.hid (show w5.ownsRow w.heap.size 24 1 (.slice (some ⟨gv, 0, none⟩) (D.length + 1) cv) (D.length + 1) (us ++ [.slice (some ⟨wr.heap.size, 0, none⟩) 0 0]) by have := H5.out.row; simpa using this)
               clear h5 ru5 hu5 uo5 o5 g5 a5 hc0)
            | (at_builtin; go_loud (refine wpList_app rfl _ _ _ rfl w.heap.size Tryz.underlying24 hi hz0 hz1 hz2 rfl (by omega) rfl (RU.out.alloc _) rfl (Rd.lit w5 #[.int .i64 k] _) (m := 1) rfl (nums_one .i64 [(k : Int)]) (by omega) (by omega) (by simp; omega) ?_); intro v6 w6 o6 g6 a6; obtain ⟨A6, c6, rfl⟩ := own_form o6; have R6 := Lib.hid ((RW.out.alloc (.cells #[.int .i64 k] 2)).kept g6 (own_ne_symm UO5.out)))
            | (refine wpList_put rfl _ _ _ rfl i1 ki kz1 D.length (.slice A6 (N.length + 1) c6) rfl rfl rfl R6.out (by omega) ?_; intro w7 o7 g7))
          have b7 : Below w.heap.size w w7 := (b5.out.alloc b5.out.size (.cells #[.int .i64 k] 2)).grown g6 (by simp; omega) (fun b hb => (RU.out.lt b hb).1) |>.grown g7 (by have := g6.size; simp at this; omega) (fun b hb => by injection hb with hb; omega)
          have HL := (H5.out.alloc (.cells #[.int .i64 k] 2)).last HU5.out (by simp) o6 g6 a6 (by simpa using o7) g7
          rw [← E2.out] at HL
          have HL2 := Lib.hid HL
          have B7 := Lib.hid b7
          have EL : Hid ((srun ls (k + 1)).out.length = D.length + 1) := Lib.hid (by rw [E2.out]; simp)
          clear HL b7 o6 g6 a6 o7 g7
          go_roundw
          case rel => exact ⟨k + 1, _, by omega, by go_num, by rw [E3.out], HL2, B7⟩
          case measure => first | omega | (simp [intOf]; omega)
    · have e : k = ls.length := by rw [← hn.out]; omega
      have HO := Lib.hid (show OwnSS wr w.heap.size wr.heap.size 24 2 .i64 (.slice AR (srun ls k).out.length cR) (runsN ls) from (by have := ho.out; rw [e] at this ⊢; exact ⟨us, this⟩))
      clear e ho
      go_wp2
      go_ret
      exact ⟨⟨_, rfl, HO.out⟩, hbr.out⟩
end Go.Proofs.YtmcmfklkljehiaaGreat

