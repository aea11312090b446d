/- Chapter 8: the parts, one by one; what is known of the sequences. -/
import Derived.Test.YtcfnhjpmihngdaaGreatY38
import Derived.Test.YtcfnhjpmihngdaaGreatY30
import Derived.Test.YtcfnhjpmihngdaaGreatY36
namespace Go.Proofs.YtcfnhjpmihngdaaGreat
open Go.RowKit Go.Maps

theorem info_seq : (Tryz.prog.info? 43).map (fun i => (i.zero, i.size, i.bytes)) = some (some (.agg #[.slice none 0 0, .int .i64 0, .int .i64 0, .int .i64 0]), 4, 48) := by kernel_rfl
theorem qcells_one (A : Option Addr) (n c : Nat) (q : Sq) : ∀ u ∈ qcells (.slice A n c) q, u.oneCell' = true := by
  intro u hu
  simp [qcells] at hu
  rcases hu with rfl | rfl | rfl | rfl <;> rfl
/-- what lies in the sequences, and how many they are -/
theorem sqsOf_len {ks M ls : List Int} {R : List (List Int)} {b : Int} (rs : List (List Int)) : (sqsOf ks M ls R b rs).length ≤ rs.length := by
  unfold sqsOf; rw [List.length_map]; exact List.length_filter_le _ _
set_option maxRecDepth 100000 in
set_option maxHeartbeats 400000 in
theorem sqsOf_sum {n : Nat} {ks M ls : List Int} {R : List (List Int)} {b : Int} (ok : RunsOk n M R) (hl : ls.length ≤ 600) : ∀ (rs : List (List Int)), (∀ r ∈ rs, r.length ≤ 600) → sumQ (sqsOf ks M ls R b rs) ≤ rs.length * 360000
  | [], _ => by simp [sqsOf, sumQ]
  | r :: rs, h => by
    have ih := sqsOf_sum (ks := ks) (b := b) ok hl rs fun r hr => h r (by simp [hr])
    have h1 := chain_len ok ls.length r (h r (by simp))
    have h2 : (chain (nextR M R) ls.length r).length ≤ 360000 := by omega
    by_cases hb : beginsN M r
    · have e : sqsOf ks M ls R b (r :: rs) = sqOf ks M ls R b r :: sqsOf ks M ls R b rs := by simp [sqsOf, hb]
      have e2 : sumQ (sqOf ks M ls R b r :: sqsOf ks M ls R b rs) = (chain (nextR M R) ls.length r).length + sumQ (sqsOf ks M ls R b rs) := by simp [sumQ, sqOf]
      rw [e, e2, List.length_cons, Nat.succ_mul, Nat.add_comm]; exact Nat.add_le_add ih h2
    · have e : sqsOf ks M ls R b (r :: rs) = sqsOf ks M ls R b rs := by simp [sqsOf, hb]
      rw [e, List.length_cons]; exact Nat.le_trans ih (Nat.mul_le_mul_right _ (Nat.le_succ _))
set_option maxRecDepth 100000 in
theorem seqsV_bound (zs : List Int) (b : Int) : (seqsV zs b).length + sumQ (seqsV zs b) ≤ 300000000 := by
  unfold seqsV
  split
  · have h := (textF_zero (paraF_zero (by assumption)).1).1
    have hk : (classesN zs).length ≤ 600 := by rw [classesN_len]; exact h
    have ok := runs_ok (classesN zs) b hk
    have h1 := sqsOf_len (ks := classesN zs) (M := matchN (classesN zs)) (ls := levN (classesN zs) b) (R := runsN (levN (classesN zs) b)) (b := b) (runsN (levN (classesN zs) b))
    have h2 := sqsOf_sum (ks := classesN zs) (ls := levN (classesN zs) b) (b := b) ok (by rw [levN_len]; exact hk) (runsN (levN (classesN zs) b)) fun r hr => (ok.each r hr).2.1
    have h3 := ok.len
    show (seqsN (classesN zs) b).length + sumQ (seqsN (classesN zs) b) ≤ _
    unfold seqsN
    omega
  · simp [sumQ]

set_option maxRecDepth 100000 in
set_option maxHeartbeats 2000000 in
theorem sequencesOf_val (v : Value) (zs : List Int) (b : Int) (w : World) (B : Nat) (h : Sees w B .i64 v zs) (hB : B ≤ w.heap.size) (l : zs.length < 1000000000) (hwf : ∀ n ∈ zs, (Lit.int .i64 n).wf = true) (hcp : CapV v) (hb : (Lit.int .i64 b).wf = true) :
    Calls Tryz.prog 38 #[v, .int .i64 b] w fun e w' => (∃ u us, e = .returned (.agg #[.int .i64 (paraF zs b), u]) ∧ OwnQ w' w.heap.size w'.heap.size 43 2 u (seqsV zs b) us) ∧ Below w.heap.size w w' := by
  obtain ⟨i0, hi, hz0, hz1, hz2⟩ := info_parts info_seq
  have HS := Lib.hid (h.below ((Below.refl B w).alloc hB (.cells #[.int .i64 0, .slice none 0 0] 74)) (Nat.le_refl _))
  have b0 := (Below.refl w.heap.size w).alloc (Nat.le_refl _) (.cells #[.int .i64 0, .slice none 0 0] 74)
  have k0 := Blk.new w 74 #[.int .i64 0, .slice none 0 0]
  have HW := Lib.hid hwf
  have HCP := Lib.hid hcp
  obtain ⟨A, c, rfl, hr⟩ := h
  have CT := Lib.hid (explicitOf_val (.slice A zs.length c) zs b _ B HS.out (by simp; omega) l HW.out HCP.out hb)
  clear hr hwf hcp hb
  go_enter Tryz.func38, Tryz.ntmps38
  go_wp2_with fail
  refine CT.out.mono ?_
  rintro e w1 ⟨⟨u1, u2, rfl, o1, o2, _⟩, b1⟩
  clear CT
  obtain ⟨A1, c1, rfl⟩ := o1.form
  obtain ⟨A2, c2, rfl⟩ := o2.form
  have K1 := Lib.hid (k0.below b1 k0.lt)
  have B1 := Lib.hid (below_on b0 b1 (Nat.le_refl _))
  have s1 := K1.out.lt
  have HS1 := Lib.hid (HS.out.below b1 (by simp; omega))
  have HS2 := Lib.hid (HS1.out.alloc (by omega) (.cells #[.int .i64 (paraF zs b), .slice A1 (explL zs b).length c1, .slice A2 (explC zs b).length c2] 71))
  have b2 := B1.out.alloc B1.out.size (.cells #[.int .i64 (paraF zs b), .slice A1 (explL zs b).length c1, .slice A2 (explC zs b).length c2] 71)
  have k2 := K1.out.alloc (.cells #[.int .i64 (paraF zs b), .slice A1 (explL zs b).length c1, .slice A2 (explC zs b).length c2] 71)
  have t2 := Blk.new w1 71 #[.int .i64 (paraF zs b), .slice A1 (explL zs b).length c1, .slice A2 (explC zs b).length c2]
  have O1 := Lib.hid (o1.alloc (.cells #[.int .i64 (paraF zs b), .slice A1 (explL zs b).length c1, .slice A2 (explC zs b).length c2] 71))
  have cap1 := (own_cap o1.1).1
  have T2 := Lib.hid t2
  clear o1 o2 b1 b0 k0
  by_cases hz : paraF zs b = 0
  · have EL := Lib.hid (show explL zs b = levN (classesN zs) b by unfold explL; rw [if_pos hz])
    have EC := Lib.hid (show seqsV zs b = seqsN (classesN zs) b by unfold seqsV; rw [if_pos hz])
    have HZ := Lib.hid hz
    have TF := Lib.hid (paraF_zero hz).1
    have hll := (textF_zero TF.out).1
    have OK : Hid (RunsOk (classesN zs).length (matchN (classesN zs)) (runsN (explL zs b))) := Lib.hid (by rw [EL.out]; exact runs_ok (classesN zs) b (by rw [classesN_len]; exact hll))
    have KL := Lib.hid (classesN_len zs)
    have LL := Lib.hid (show (explL zs b).length = (classesN zs).length by rw [EL.out]; exact levN_len (classesN zs) b)
    rw [hz] at b2 k2 T2 HS2 O1 ⊢
    have RL := Lib.hid (Rd.of O1.out.1)
    have e0 := T2.out.cell 0 (u := .int .i64 0) rfl
    have e1 := T2.out.cell 1 (u := .slice A1 (explL zs b).length c1) rfl
    have K2 := Lib.hid k2
    have B2 := Lib.hid b2
    clear hz b2 k2 t2 O1 HS HS1
    go_wp2
    have RZ2 : Hid (Rd (w1.alloc (.cells #[.int .i64 0, .slice A1 (explL zs b).length c1, .slice A2 (explC zs b).length c2] 71)) B A (nums .i64 zs)) := Lib.hid (by
      obtain ⟨A', c', e, r⟩ := HS2.out
      injection e with e1 e2 e3
      subst e1
      exact r)
    have sz2 : (w1.alloc (.cells #[.int .i64 0, .slice A1 (explL zs b).length c1, .slice A2 (explC zs b).length c2] 71)).heap.size = w1.heap.size + 1 := by simp
    have lt1 : w1.heap.size < (w1.alloc (.cells #[.int .i64 0, .slice A1 (explL zs b).length c1, .slice A2 (explC zs b).length c2] 71)).heap.size := by simp
    have e1' := Lib.hid e1
    have KLL : (explL zs b).length ≤ 600 := explL_len zs b
    clear HS2 K1
    generalize w1.alloc (.cells #[.int .i64 0, .slice A1 (explL zs b).length c1, .slice A2 (explC zs b).length c2] 71) = w2 at *
    have hB2 : B ≤ w2.heap.size := by omega
    have CC := Lib.hid (classesOf_any A zs c w2.drew B (RZ2.out.below (drew_below w2) hB2) hB2 TF.out)
    go_region_held3 (fun w' => w'.cell? ⟨w1.heap.size, 1, none⟩ = some (.slice A1 (explL zs b).length c1)) (first | exact e1 | exact e1b | exact e1c) (first
      | (go_at_call 53; refine CC.out.mono ?_; rintro e w3 ⟨⟨v3, rfl, o3⟩, b3⟩
         have qb3 : Below w2.heap.size w2 w3 := ⟨b3.os, b3.tape, b3.output, b3.size, b3.block⟩
         obtain ⟨A3, c3, rfl⟩ := o3.form
         have R3 := Lib.hid (Rd.of o3.1)
         have RL3 := Lib.hid ((RL.out.below qb3 (Nat.le_refl _)).more qb3.size)
         have K3 := Lib.hid (K2.out.below qb3 K2.out.lt)
         have B3 := Lib.hid (below_on B2.out qb3 (Nat.le_refl _))
         have T3 := Lib.hid (T2.out.below qb3 lt1)
         have e1b : w3.cell? ⟨w1.heap.size, 1, none⟩ = some (.slice A1 (explL zs b).length c1) := T3.out.cell 1 rfl
         have sz3 := qb3.size
         clear o3 b3 qb3)
      | (go_at_call 55; refine (linkerOf_any A3 A1 (classesN zs) (explL zs b) c3 c1 b w3 _ R3.out RL3.out (Nat.le_refl _) (by rw [KL.out]; exact hll) KLL).mono ?_; rintro e w4 ⟨⟨g, v2, AR, cR, rfl, lk⟩, b4⟩
         have LK := Lib.hid lk
         have K4 := Lib.hid (K3.out.below b4 K3.out.lt)
         have B4 := Lib.hid (below_on B3.out b4 (Nat.le_refl _))
         have T4 := Lib.hid (T3.out.below b4 (by omega))
         have e1c : w4.cell? ⟨w1.heap.size, 1, none⟩ = some (.slice A1 (explL zs b).length c1) := T4.out.cell 1 rfl
         have sz4 := b4.size
         clear lk b4))
    have eR := LK.out.blk.cell 4 (u := .slice AR (runsN (explL zs b)).length cR) rfl
    have Q0 : Hid (OwnQ w4 w4.heap.size w4.heap.size 43 2 (.slice none 0 0) (sqsOf (classesN zs) (matchN (classesN zs)) (explL zs b) (runsN (explL zs b)) b ((runsN (explL zs b)).take 0)) []) := Lib.hid (OwnQ.nil _ _ _ _ _)
    have rl := OK.out.len
    go_wp2
    go_loopw [7, 30] (fun vL i wr => ∃ (k : Nat) (us : List Value), k ≤ (runsN (explL zs b)).length ∧ i = .int .i64 k ∧
      Hid (OwnQ wr w4.heap.size wr.heap.size 43 2 vL (sqsOf (classesN zs) (matchN (classesN zs)) (explL zs b) (runsN (explL zs b)) b ((runsN (explL zs b)).take k)) us) ∧ Hid (Below w4.heap.size w4 wr)) (fun _ i _ => (runsN (explL zs b)).length + 1 - (intOf i).toNat)
    case atStart => exact ⟨0, [], by omega, rfl, Q0, Lib.hid (Below.refl _ _)⟩
    case round =>
      clear Q0 eR
      obtain ⟨k, us, hk, rfl, hq, hbr⟩ := hrel
      obtain ⟨AL, cL, rfl⟩ := hq.out.form
      have wsz := hbr.out.size
      have Lr := Lib.hid (LK.out.below hbr.out (Nat.le_refl _))
      by_cases hlt : k < (runsN (explL zs b)).length
      · have SS := Lib.hid (sqs_step (classesN zs) (matchN (classesN zs)) (explL zs b) (runsN (explL zs b)) b (runsN (explL zs b)) k hlt)
        obtain ⟨bR, oR, cR', u, e1, hbR, hcu, su⟩ := Lr.out.sR.at_ k hlt
        cases e1
        have rm := nthL_mem hlt
        obtain ⟨r, hr⟩ : ∃ r, Hid (r = nthL (runsN (explL zs b)) k) := ⟨_, Lib.hid rfl⟩
        rw [← hr.out] at su rm SS
        have re := OK.out.each r rm
        obtain ⟨Au, cu, rfl, ru⟩ := su
        have RU := Lib.hid ru
        have RE := Lib.hid re
        have RM := Lib.hid rm
        have rpos := re.1
        have eR := Lr.out.blk.cell 4 rfl
        have CB := Lib.hid (begins_any Lr.out wsz Au r cu ru re.1 (by rw [matchN_len]; exact re.2.2 _ (nth_mem re.1)))
        clear ru re rm
        obtain ⟨Q, hQ⟩ : ∃ Q, Hid (Q = sqsOf (classesN zs) (matchN (classesN zs)) (explL zs b) (runsN (explL zs b)) b ((runsN (explL zs b)).take k)) := ⟨_, Lib.hid rfl⟩
        have QL : Q.length ≤ 600 := by rw [hQ.out]; have := sqsOf_len (ks := classesN zs) (M := matchN (classesN zs)) (ls := explL zs b) (R := runsN (explL zs b)) (b := b) ((runsN (explL zs b)).take k); rw [List.length_take] at this; omega
        rw [← hQ.out] at hq SS ⊢
        go_wp2_with fail
        refine CB.out.mono ?_
        rintro e w5 ⟨rfl, b5⟩
        have L5 := Lib.hid (Lr.out.below b5 wsz)
        have RU5 := Lib.hid (RU.out.below b5 wsz)
        have Q5 := Lib.hid ((hq.out.below b5 (Nat.le_refl _)).more (Nat.le_refl _) b5.size)
        have B5 := Lib.hid (below_on hbr.out b5 (Nat.le_refl _))
        have s5 := b5.size
        have hB5 : w4.heap.size ≤ w5.heap.size := by omega
        clear b5 CB
        by_cases hbg : beginsN (matchN (classesN zs)) r = true
        · have ES := Lib.hid (show sqsOf (classesN zs) (matchN (classesN zs)) (explL zs b) (runsN (explL zs b)) b ((runsN (explL zs b)).take (k + 1)) = Q ++ [sqOf (classesN zs) (matchN (classesN zs)) (explL zs b) (runsN (explL zs b)) b r] by rw [SS.out, if_pos hbg])
          obtain ⟨q, hqq⟩ : ∃ q, Hid (q = sqOf (classesN zs) (matchN (classesN zs)) (explL zs b) (runsN (explL zs b)) b r) := ⟨_, Lib.hid rfl⟩
          have CS := Lib.hid (sequenceFrom_any L5.out hB5 Au r cu RU5.out RM.out OK.out (matchN_len _) LL.out (by rw [KL.out]; exact hll) (fun A' c' e => by injection e with e1 e2 e3; omega))
          rw [← hqq.out] at CS ES
          rw [hbg]
          clear hbg SS
          have tok1 : True := trivial
          go_wp2_with (first
            | (go_at_call 57; refine CS.out.mono ?_; rintro e w6 ⟨⟨u6, rfl, o6⟩, b6⟩
               obtain ⟨A6, c6, rfl⟩ := o6.form
               have O6 := Lib.hid (o6.alloc (.cells #[.slice A6 q.places.length c6, .int .i64 q.level, .int .i64 q.sos, .int .i64 q.eos] 43))
               have Q6 := Lib.hid ((Q5.out.below b6 (Nat.le_refl _)).alloc (.cells #[.slice A6 q.places.length c6, .int .i64 q.level, .int .i64 q.sos, .int .i64 q.eos] 43))
               have B6 := Lib.hid ((below_on B5.out b6 (Nat.le_refl _)).alloc (by have := b6.size; omega) (.cells #[.slice A6 q.places.length c6, .int .i64 q.level, .int .i64 q.sos, .int .i64 q.eos] 43))
               have R6 := Lib.hid (Rd.lit w6 #[.slice A6 q.places.length c6, .int .i64 q.level, .int .i64 q.sos, .int .i64 q.eos] 43)
               have s6 := b6.size
               clear o6 b6)
            | (have _t := tok1; at_builtin; go_loud (refine wpList_app rfl _ _ _ rfl w4.heap.size Tryz.underlying36 hi hz0 hz1 hz2 rfl (by omega) rfl Q6.out.rows.row rfl R6.out (m := 1) rfl (qcells_one _ _ _ q) (by omega) (by omega) (by simp; omega) ?_); intro v7 w7 o7 g7 a7; clear tok1; obtain ⟨A7, c7, rfl⟩ := own_form o7
               have Q7 := Lib.hid (Q6.out.push (mid := w5.heap.size) (hi := w6.heap.size) s6 (by simp) (by omega) O6.out o7 g7 a7)
               have B7 := Lib.hid (B6.out.grown g7 B6.out.size (fun bb hbb => (Q6.out.rows.vlt bb hbb).1))
               clear o7 g7 a7))
          go_roundw
          case rel => exact ⟨k + 1, _, by omega, by go_num, by rw [ES.out]; exact Q7, B7⟩
          case measure => first | omega | (simp [intOf]; omega)
        · have ES := Lib.hid (show sqsOf (classesN zs) (matchN (classesN zs)) (explL zs b) (runsN (explL zs b)) b ((runsN (explL zs b)).take (k + 1)) = Q by rw [SS.out, if_neg hbg, List.append_nil])
          have hbf : beginsN (matchN (classesN zs)) r = false := by simpa using hbg
          rw [hbf]
          clear hbg hbf SS
          go_wp2
          go_roundw
          case rel => exact ⟨k + 1, us, by omega, by go_num, by rw [ES.out]; exact Q5, B5⟩
          case measure => first | omega | (simp [intOf]; omega)
      · have ET : Hid (sqsOf (classesN zs) (matchN (classesN zs)) (explL zs b) (runsN (explL zs b)) b ((runsN (explL zs b)).take k) = seqsV zs b) := Lib.hid (by
          rw [List.take_of_length_le (by omega), EC.out, EL.out]; rfl)
        rw [ET.out] at hq ⊢
        have Kr := Lib.hid (K4.out.below hbr.out K4.out.lt)
        have Br := Lib.hid (B4.out.trans (hbr.out.mono (by omega)))
        have k4lt := K4.out.lt
        have hd0 := Kr.out.cell 0 (u := .int .i64 0) rfl
        have hd1 := Kr.out.cell 1 (u := .slice none 0 0) rfl
        have hf0 := Kr.out.frozen 0
        have hf1 := Kr.out.frozen 1
        have QF := Lib.hid hq.out
        clear hq hbr
        go_wp2
        refine bodyPost_ret (v := .agg #[.int .i64 0, .slice AL (seqsV zs b).length cL]) (by simp [results, Tryz.results38, go_sem, hd0, hd1]) rfl ?_
        rw [HZ.out]
        exact ⟨⟨_, us, rfl, ((QF.out.set _ _ (.inl (by simp; omega))).set _ _ (.inl (by simp; omega))).more (by omega) (by simp)⟩, (Br.out.setCell (by simp) _).setCell (by simp) _⟩
  · have EC := Lib.hid (show seqsV zs b = [] by unfold seqsV; rw [if_neg hz])
    obtain ⟨q, hq⟩ : ∃ q, Hid (q = paraF zs b) := ⟨_, Lib.hid rfl⟩
    have hne : (q != 0) = true := by rw [hq.out]; simpa using hz
    rw [← hq.out] at b2 k2 T2 ⊢
    have e0 := T2.out.cell 0 (u := .int .i64 q) rfl
    have hd0 := K1.out.cell 0 (u := .int .i64 0) rfl
    have hd1 := K1.out.cell 1 (u := .slice none 0 0) rfl
    have hf0 := K1.out.frozen 0
    have hf1 := K1.out.frozen 1
    clear hz b2 k2 t2
    have KS := Lib.hid (((K1.out.set 0 (.int .i64 q)).set 1 (.slice none 0 0)).alloc (.cells #[.int .i64 q, .slice A1 (explL zs b).length c1, .slice A2 (explC zs b).length c2] 71))
    go_wp2
    have hd2 := KS.out.cell 0 (u := .int .i64 q) rfl
    have hd3 := KS.out.cell 1 (u := .slice none 0 0) rfl
    refine bodyPost_ret (v := .agg #[.int .i64 q, .slice none 0 0]) (by simp [results, Tryz.results38, go_sem, hd2, hd3]) rfl ?_
    rw [EC.out, ← hq.out]
    exact ⟨⟨_, _, rfl, OwnQ.nil _ _ _ _ _⟩, ((B1.out.setCell (by simp) _).setCell (by simp) _).alloc (by simp; omega) _⟩
end Go.Proofs.YtcfnhjpmihngdaaGreat

namespace Go.Proofs.YtcfnhjpmihngdaaGreat
open Go.RowKit

/-- the parts of the first k sequences -/
def partsK (ts cs : List Int) (Q : List Sq) (k : Nat) : List Prt := (Q.take k).map (partOf ts cs)
theorem partsK_step (ts cs : List Int) (Q : List Sq) (k : Nat) (h : k < Q.length) : partsK ts cs Q (k + 1) = partsK ts cs Q k ++ [partOf ts cs (nthQ Q k)] := by
  unfold partsK
  rw [List.take_succ_eq_append_getElem h, List.map_append]
  simp [nthQ, List.getElem?_eq_getElem h]
theorem partsK_len (ts cs : List Int) (Q : List Sq) (k : Nat) (h : k ≤ Q.length) : (partsK ts cs Q k).length = k := by unfold partsK; rw [List.length_map, List.length_take]; omega
theorem partsK_all (ts : List Int) (b : Int) (k : Nat) (h : (seqsN (classesN ts) b).length ≤ k) : partsK ts (clsN (classesN ts) b) (seqsN (classesN ts) b) k = partsN ts b := by
  unfold partsK partsN; rw [List.take_of_length_le h]
theorem sqsOf_len8 {ks M ls : List Int} {R : List (List Int)} {b : Int} (rs : List (List Int)) : (sqsOf ks M ls R b rs).length ≤ rs.length := by
  unfold sqsOf; rw [List.length_map]; exact List.length_filter_le _ _
/-- what is known of the sequences of a paragraph without a fault -/
structure SeqsOk (n : Nat) (Q : List Sq) : Prop where
  len : Q.length ≤ 600
  each : ∀ k, k < Q.length → (nthQ Q k).places.length ≤ 600 ∧ ∀ j, j < (nthQ Q k).places.length → 0 ≤ nth (nthQ Q k).places j ∧ (nth (nthQ Q k).places j).toNat < n
theorem seqs_ok {zs : List Int} {b : Int} (hl : zs.length ≤ 600) (hb : 0 ≤ b ∧ b ≤ 1) : SeqsOk zs.length (seqsN (classesN zs) b) := by
  refine ⟨?_, fun k hk => ?_⟩
  · have h1 := sqsOf_len8 (ks := classesN zs) (M := matchN (classesN zs)) (ls := levN (classesN zs) b) (R := runsN (levN (classesN zs) b)) (b := b) (runsN (levN (classesN zs) b))
    have ok := runs_ok (classesN zs) b (by rw [classesN_len]; exact hl)
    have h3 := ok.len
    show (sqsOf _ _ _ _ _ _).length ≤ 600
    omega
  · have m := nthQ_mem10 hk
    have f := seq_few hb m
    rw [classesN_len] at f
    refine ⟨by omega, fun j hj => ?_⟩
    have g := (seq_facts hb m).2.1 _ (nth_mem hj)
    rw [classesN_len] at g
    omega

end Go.Proofs.YtcfnhjpmihngdaaGreat
