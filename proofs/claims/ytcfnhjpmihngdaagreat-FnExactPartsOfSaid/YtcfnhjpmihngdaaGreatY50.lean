/- Chapter 8: the model's PartsOf. -/
import Derived.Test.YtcfnhjpmihngdaaGreatY49
import Derived.Test.YtcfnhjpmihngdaaGreatY35
import Derived.Test.YtcfnhjpmihngdaaGreatY41
import Derived.Test.YtcfnhjpmihngdaaGreatY39
namespace Go.Proofs.YtcfnhjpmihngdaaGreat
open Go.RowKit Go.Maps

theorem info_prt : (Tryz.prog.info? 39).map (fun i => (i.zero, i.size, i.bytes)) = some (some (.agg #[.slice none 0 0, .slice none 0 0, .slice none 0 0, .int .i64 0, .int .i64 0, .int .i64 0]), 6, 96) := by kernel_rfl
theorem pcells_one (A0 A1 A2 : Option Addr) (n0 n1 n2 c0 c1 c2 : Nat) (q : Prt) : ∀ u ∈ pcells (.slice A0 n0 c0) (.slice A1 n1 c1) (.slice A2 n2 c2) q, u.oneCell' = true := by
  intro u hu
  simp [pcells] at hu
  rcases hu with rfl | rfl | rfl | rfl | rfl | rfl <;> rfl
set_option maxRecDepth 100000 in
set_option maxHeartbeats 8000000 in
theorem specPartsOf_val (v : Value) (zs : List Int) (b : Int) (w : World) (B : Nat) (h : Sees w B .i64 v zs) (hB : B ≤ w.heap.size) (l : zs.length < 1000000000) (_ : ∀ n ∈ zs, (Lit.int .i64 n).wf = true) (hcp : CapV v) (_ : (Lit.int .i64 b).wf = true) :
    Calls Tryz.prog 4 #[v, .int .i64 b] w fun e w' => (∃ u, e = .returned (.agg #[.int .i64 (paraF zs b), u]) ∧ OwnPT w' w.heap.size w'.heap.size 39 2 u (partsV zs b)) ∧ Below w.heap.size w w' := by
  obtain ⟨i0, hi, hz0, hz1, hz2⟩ := info_parts info_prt
  obtain ⟨A, c, rfl, hr⟩ := h
  have hc := (hcp A zs.length c rfl).1
  have HR := Lib.hid hr
  clear hr hcp
  have b0 := (Below.refl w.heap.size w).alloc (Nat.le_refl _) (.cells #[.int .i64 0, .slice none 0 0] 25)
  have k0 := Blk.new w 25 #[.int .i64 0, .slice none 0 0]
  have R1 := Lib.hid (HR.out.below ((Below.refl B w).alloc hB (.cells #[.int .i64 0, .slice none 0 0] 25)) (Nat.le_refl _))
  by_cases hz : paraF zs b = 0
  · have EC := Lib.hid (show partsV zs b = partsN zs b by unfold partsV; rw [if_pos hz])
    have HZ := Lib.hid hz
    have PZ := paraF_zero hz
    have HBb := Lib.hid (show 0 ≤ b ∧ b ≤ 1 from ⟨PZ.2.1, PZ.2.2.1⟩)
    have hll := (textF_zero PZ.1).1
    have HA := Lib.hid (textF_zero PZ.1).2
    have OK := Lib.hid (seqs_ok hll HBb.out)
    have PA := Lib.hid (partsK_all zs b)
    have K0 := Lib.hid k0
    have B0 := Lib.hid b0
    have sz0 : (w.alloc (.cells #[.int .i64 0, .slice none 0 0] 25)).heap.size = w.heap.size + 1 := by simp
    clear k0 b0 PZ
    go_enter Tryz.func4, Tryz.ntmps4
    go_wp2_with fail
    refine (specParaFault_any A zs c b _ B R1.out l).mono ?_
    rintro e w' ⟨rfl, rfl⟩
    rw [hz]
    clear hz
    go_wp2_with fail
    refine (l4Explicit_any A zs c b _ B R1.out (by omega) hll HA.out hc HBb.out).mono ?_
    rintro e w1 ⟨⟨u1, u2, rfl, o1, o2, _⟩, b1⟩
    obtain ⟨A1, c1, rfl⟩ := o1.form
    obtain ⟨A2, c2, rfl⟩ := o2.form
    have K1 := Lib.hid (K0.out.below b1 K0.out.lt)
    have B1 := Lib.hid (below_on B0.out b1 (Nat.le_refl _))
    have s1 := K1.out.lt
    have R2 := Lib.hid (Rd.of o1.1)
    have RC := Lib.hid (Rd.of o2.1)
    have RT := Lib.hid ((R1.out.below b1 (by omega)).more (show B ≤ w1.heap.size by omega))
    clear o1 o2 b1
    go_wp2_with fail
    refine (l5Sequences_any A A1 zs (levN (classesN zs) b) c c1 b _ _ RT.out R2.out (Nat.le_refl _) hll HA.out HBb.out rfl).mono ?_
    rintro e w3 ⟨⟨v3, us, rfl, o3⟩, b3⟩
    obtain ⟨A3, c3, rfl⟩ := o3.form
    have K3 := Lib.hid (K1.out.below b3 K1.out.lt)
    have B3 := Lib.hid (below_on B1.out b3 (Nat.le_refl _))
    have s3 := b3.size
    have CLN := Lib.hid (show (clsN (classesN zs) b).length = zs.length by rw [clsN_len, classesN_len])
    obtain ⟨Q, hQ⟩ : ∃ Q, Hid (Q = seqsN (classesN zs) b) := ⟨_, Lib.hid rfl⟩
    obtain ⟨cs, hcs⟩ : ∃ cs, Hid (cs = clsN (classesN zs) b) := ⟨_, Lib.hid rfl⟩
    rw [← hQ.out] at o3 OK PA ⊢
    rw [← hcs.out] at RC CLN PA ⊢
    have SQ := Lib.hid o3.sees
    have RT3 := Lib.hid ((RT.out.below b3 (Nat.le_refl _)).more s3)
    have RC3 := Lib.hid ((RC.out.below b3 (Nat.le_refl _)).more s3)
    have qlen := OK.out.len
    clear o3 b3 R2 RC RT
    have PO := Lib.hid (Blk.new w3 25 #[.int .i64 0, .slice none 0 0])
    have BO := Lib.hid ((Below.refl w3.heap.size w3).alloc (Nat.le_refl _) (.cells #[.int .i64 0, .slice none 0 0] 25))
    have sO : (w3.alloc (.cells #[.int .i64 0, .slice none 0 0] 25)).heap.size = w3.heap.size + 1 := by simp
    go_wp2
    generalize hwO : w3.alloc (.cells #[.int .i64 0, .slice none 0 0] 25) = wO at *
    clear hwO
    go_loopw [10] (fun i wr => ∃ (k : Nat) (vP : Value) (us : List Value), k ≤ Q.length ∧ i = .int .i64 k ∧ Hid (Blk wr w3.heap.size 25 #[.int .i64 0, vP]) ∧
      Hid (OwnPs wr (w3.heap.size + 1) wr.heap.size 39 2 vP (partsK zs cs Q k) us) ∧ Hid (Below w3.heap.size w3 wr)) (fun i _ => Q.length - (intOf i).toNat)
    case atStart => exact ⟨0, _, [], by omega, rfl, PO, Lib.hid (OwnPs.nil _ _ _ _ _), BO⟩
    case round =>
      clear PO BO sO
      obtain ⟨k, vP, us, hk, rfl, hblk, hown, hbr⟩ := hrel
      have wsz := hbr.out.size
      have bl := hblk.out.lt
      by_cases hlt : k < Q.length
      · have SQr := Lib.hid (SQ.out.below hbr.out (Nat.le_refl _))
        obtain ⟨bq, oq, cq, uq, e1, hbq, q0, su, q1, q2, q3⟩ := SQr.out.at_ k hlt
        cases e1
        have EPS := Lib.hid (partsK_step zs cs Q k hlt)
        have PL := Lib.hid (partsK_len zs cs Q k (by omega))
        obtain ⟨h600, hpl⟩ := OK.out.each k hlt
        obtain ⟨P, hP⟩ : ∃ P, Hid (P = partsK zs cs Q k) := ⟨_, Lib.hid rfl⟩
        rw [← hP.out] at EPS PL hown
        obtain ⟨q, hq⟩ : ∃ q, Hid (q = nthQ Q k) := ⟨_, Lib.hid rfl⟩
        rw [← hq.out] at su q1 q2 q3 EPS h600 hpl
        have pl : P.length ≤ 600 := by have := PL.out; omega
        obtain ⟨AP, cP, rfl⟩ := hown.out.form
        have q1' : wr.drew.cell? ⟨bq, oq + k * 4 + 1, none⟩ = some (.int .i64 q.level) := q1
        have q2' : wr.drew.cell? ⟨bq, oq + k * 4 + 2, none⟩ = some (.int .i64 q.sos) := q2
        have q3' : wr.drew.cell? ⟨bq, oq + k * 4 + 3, none⟩ = some (.int .i64 q.eos) := q3
        have rz := (RT3.out.below hbr.out (Nat.le_refl _)).below (drew_below wr) (by omega)
        have rc := (RC3.out.below hbr.out (Nat.le_refl _)).below (drew_below wr) (by omega)
        have CT := Lib.hid (l8Part_any A A2 zs cs c c2 bq (oq + k * 4) q uq wr.drew w3.heap.size rz rc hbq (su.below (drew_below wr) (by omega)) q0 q1' q2' q3' (by show w3.heap.size ≤ wr.heap.size; omega) hll CLN.out h600 hpl)
        have f0 := hblk.out.cell 1 (u := .slice AP P.length cP) rfl
        clear rz rc su q0 q1 q2 q3 q1' q2' q3'
        go_wp2
        have lb : (P.length + 1) * 96 ≤ 140737488355328 := by omega
        have lm : P.length + 1 ≤ 140737488355328 := by omega
        go_region_law (first
          | (refine step_call (by rfl) ?_; go_simp; go_at_call 15; refine CT.out.mono ?_; rintro e w5 ⟨⟨u0, u1, u2, rfl, o5⟩, b5'⟩
             have b5 : Below wr.heap.size wr w5 := ⟨b5'.os, b5'.tape, b5'.output, b5'.size, b5'.block⟩
             obtain ⟨A50, c50, rfl⟩ := o5.o0.form
             obtain ⟨A51, c51, rfl⟩ := o5.o1.form
             obtain ⟨A52, c52, rfl⟩ := o5.o2.form
             have s5 := b5.size
             have K5 := Lib.hid (hblk.out.below b5 bl)
             have W6 := Lib.hid ((hown.out.below b5 (Nat.le_refl _)).alloc (.cells #[.slice A50 (partOf zs cs q).T.length c50, .slice A51 (partOf zs cs q).F.length c51, .slice A52 (partOf zs cs q).N.length c52, .int .i64 q.level, .int .i64 q.sos, .int .i64 q.eos] 39))
             have O6 := Lib.hid (show OwnPart _ wr.heap.size w5.heap.size _ _ _ _ _ from OwnPart.keepA o5 (.cells #[.slice A50 (partOf zs cs q).T.length c50, .slice A51 (partOf zs cs q).F.length c51, .slice A52 (partOf zs cs q).N.length c52, .int .i64 q.level, .int .i64 q.sos, .int .i64 q.eos] 39))
             have K6 := Lib.hid (K5.out.alloc (.cells #[.slice A50 (partOf zs cs q).T.length c50, .slice A51 (partOf zs cs q).F.length c51, .slice A52 (partOf zs cs q).N.length c52, .int .i64 q.level, .int .i64 q.sos, .int .i64 q.eos] 39))
             have B6 := Lib.hid ((below_on hbr.out b5 (Nat.le_refl _)).alloc (by omega) (.cells #[.slice A50 (partOf zs cs q).T.length c50, .slice A51 (partOf zs cs q).F.length c51, .slice A52 (partOf zs cs q).N.length c52, .int .i64 q.level, .int .i64 q.sos, .int .i64 q.eos] 39))
             have R6 := Lib.hid (Rd.lit w5 #[.slice A50 (partOf zs cs q).T.length c50, .slice A51 (partOf zs cs q).F.length c51, .slice A52 (partOf zs cs q).N.length c52, .int .i64 q.level, .int .i64 q.sos, .int .i64 q.eos] 39)
             have f5 := K5.out.cell 1 (u := .slice AP P.length cP) rfl
             have f6 := K6.out.cell 1 (u := .slice AP P.length cP) rfl
             have z6 : w3.heap.size + 1 ≤ (w5.alloc (.cells #[.slice A50 (partOf zs cs q).T.length c50, .slice A51 (partOf zs cs q).F.length c51, .slice A52 (partOf zs cs q).N.length c52, .int .i64 q.level, .int .i64 q.sos, .int .i64 q.eos] 39)).heap.size := K6.out.lt
             have y6 : w5.heap.size ≤ (w5.alloc (.cells #[.slice A50 (partOf zs cs q).T.length c50, .slice A51 (partOf zs cs q).F.length c51, .slice A52 (partOf zs cs q).N.length c52, .int .i64 q.level, .int .i64 q.sos, .int .i64 q.eos] 39)).heap.size := by simp
             clear o5 b5 b5')
          | (refine step_apps (by rfl) _ _ _ (by rfl) (w3.heap.size + 1) Tryz.underlying23 hi hz0 hz1 hz2 rfl (by omega) (by rfl) W6.out.rows.row (by rfl) (m := 1) R6.out rfl (pcells_one A50 A51 A52 _ _ _ c50 c51 c52 (partOf zs cs q)) lb lm z6 ?_; intro v' w7 o7 g7 a7
             obtain ⟨A7, c7, rfl⟩ := own_form o7
             have Q7 := W6.out.push (mid := wr.heap.size) (hi := w5.heap.size) s5 y6 (by omega) O6.out o7 g7 a7
             have b7 : Blk w7 w3.heap.size 25 _ := (g7.block w3.heap.size K6.out.lt (by intro e; have := (W6.out.rows.vlt _ e.symm).1; omega)).trans K6.out
             have f7 := b7.cell 1 (u := .slice AP P.length cP) rfl
             have ff7 := b7.frozen 1
             have K7 := Lib.hid (show Blk (w7.setCell ⟨w3.heap.size, 1, none⟩ (.slice A7 (P.length + 1) c7)) w3.heap.size 25 #[.int .i64 0, .slice A7 (P.length + 1) c7] from b7.set 1 (.slice A7 (P.length + 1) c7))
             have QF := Lib.hid (show OwnPs (w7.setCell ⟨w3.heap.size, 1, none⟩ (.slice A7 (P.length + 1) c7)) (w3.heap.size + 1) (w7.setCell ⟨w3.heap.size, 1, none⟩ (.slice A7 (P.length + 1) c7)).heap.size _ _ _ _ _ from (Q7.set ⟨w3.heap.size, 1, none⟩ (.slice A7 (P.length + 1) c7) (.inl (by show w3.heap.size < w3.heap.size + 1; omega))).more (Nat.le_refl _) (by simp))
             have B7 := Lib.hid ((B6.out.grown g7 B6.out.size (fun bb hbb => by have := (W6.out.rows.vlt bb hbb).1; omega)).setCell (p := ⟨w3.heap.size, 1, none⟩) (Nat.le_refl _) (.slice A7 (P.length + 1) c7))
             clear o7 g7 a7 b7 Q7))
        all_goals
          go_wp2
          go_roundw
          case rel => exact ⟨k + 1, _, _, by omega, by go_num, K7, by rw [EPS.out]; exact QF, B7⟩
          case measure => first | omega | (simp [intOf]; omega)
      · have EL := Lib.hid (PA.out k (by omega))
        have PL := Lib.hid (partsK_len zs cs Q k hk)
        rw [EL.out] at hown PL
        obtain ⟨AP, cP, rfl⟩ := hown.out.form
        have f0 := hblk.out.cell 0 (u := .int .i64 0) rfl
        have f1 := hblk.out.cell 1 (u := .slice AP (partsN zs b).length cP) rfl
        have Kr := Lib.hid (K3.out.below hbr.out (by have := K3.out.lt; exact this))
        have hd0 := Kr.out.cell 0 (u := .int .i64 0) rfl
        have hd1 := Kr.out.cell 1 (u := .slice none 0 0) rfl
        have hf0 := Kr.out.frozen 0
        have hf1 := Kr.out.frozen 1
        have Br := Lib.hid (below_on B3.out hbr.out (Nat.le_refl _))
        have HO := Lib.hid hown.out
        clear hown
        go_wp2
        refine bodyPost_ret (v := .agg #[.int .i64 0, .slice AP (partsN zs b).length cP]) (by simp [results, Tryz.results4, go_sem, hd0, hd1]) rfl ?_
        rw [EC.out, HZ.out]
        exact ⟨⟨_, rfl, us, ((HO.out.set _ _ (.inl (by show w.heap.size < w3.heap.size + 1; omega))).set _ _ (.inl (by show w.heap.size < w3.heap.size + 1; omega))).more (by omega) (by simp)⟩, (Br.out.setCell (by simp) _).setCell (by simp) _⟩
  · have EC := Lib.hid (show partsV zs b = [] by unfold partsV; rw [if_neg hz])
    obtain ⟨q, hq⟩ : ∃ q, Hid (q = paraF zs b) := ⟨_, Lib.hid rfl⟩
    have hne : (q != 0) = true := by rw [hq.out]; simpa using hz
    clear hz
    go_enter Tryz.func4, Tryz.ntmps4
    go_wp2_with fail
    refine (specParaFault_any A zs c b _ B R1.out l).mono ?_
    rintro e w' ⟨rfl, rfl⟩
    rw [← hq.out]
    go_wp2
    refine bodyPost_ret (v := .agg #[.int .i64 q, .slice none 0 0]) (by simp [results, Tryz.results4, go_sem]) rfl ?_
    rw [EC.out, ← hq.out]
    exact ⟨⟨_, rfl, OwnPT.nil _ _ _ _ _⟩, (Below.refl _ _).alloc (Nat.le_refl _) _⟩
end Go.Proofs.YtcfnhjpmihngdaaGreat
