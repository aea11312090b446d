/- FnSides: the law returns true at every slice of bytes and leaves all memory that was there as it was. Condition: the table that the row lists holds what it is laid with (the card ties it). -/
import Derived.Test.YtkkojemnbcddfaaDoorQDraws
import Derived.Test.YtkkojemnbcddfaaDoorV1
namespace Go.Proofs.YtkkojemnbcddfaaDoor.fnSides
open Go.RowKit

attribute [local go_sem] Oper.semAt_some field7_c0 field7_c1

set_option maxRecDepth 100000 in
set_option maxHeartbeats 8000000 in
theorem walk {w : World} (hT : Pairs w) (A : Option Addr) (zs : List Int) (c : Nat) (r : Rd w w.heap.size A (nums .u8 zs)) (hw : ∀ n ∈ zs, (Lit.int .u8 n).wf = true) :
    Calls Tryd.prog 4 #[.slice A zs.length c] w fun e w' => e = .returned (.bool true) ∧ Below w.heap.size w w' := by
  by_cases hl : 1048576 < zs.length
  · have d0 : decide (1048576 < zs.length) = true := by simp [hl]
    go_enter Tryd.func4, Tryd.ntmps4
    go_wp2_with fail
    refine (lwBig_any7 A zs.length c w).mono ?_
    rintro e w1 ⟨rfl, rfl⟩
    rw [d0]
    go_wp2
    go_ret
    exact ⟨rfl, Below.refl _ _⟩
  · have d0 : decide (1048576 < zs.length) = false := by simp [hl]
    have HB := Lib.hid (bytes_of hw)
    have zl : zs.length < 2000000 := by omega
    have R := r
    clear hl r hw
    go_enter Tryd.func4, Tryd.ntmps4
    go_wp2_with fail
    refine (lwBig_any7 A zs.length c w).mono ?_
    rintro e w1 ⟨rfl, rfl⟩
    rw [d0]
    have HBW := Below.refl w.heap.size w
    go_wp2_with fail
    refine (drawSidesOf_any A c zs w R HB.out zl).mono ?_
    rintro e w1 ⟨⟨v0, v1, v2, q, rfl, ow, few⟩, b1⟩
    replace R := R.on b1
    replace hT := hT.on b1
    replace HBW := below_on HBW b1 (Nat.le_refl _)
    clear b1
    obtain ⟨A0, c0, rfl⟩ := ow.o0.form
    obtain ⟨AF, cF, rfl⟩ := ow.o1.form
    obtain ⟨AN, cN, rfl⟩ := ow.o2.form
    have sT := ow.o0.sees
    have sF := ow.o1.sees
    have sN := ow.o2.sees
    have lt := few.lt
    have lf := few.lf
    have ln := few.ln
    have WF := Lib.hid (few_wf few)
    clear ow few
    clear R
    obtain ⟨f, hf⟩ : ∃ f, Hid (partF q = f) := ⟨_, Lib.hid rfl⟩
    obtain ⟨sv, hsv⟩ : ∃ l, Hid (sidesV q = l) := ⟨_, Lib.hid rfl⟩
    obtain ⟨bv, hbv⟩ : ∃ l, Hid (bracketsV q = l) := ⟨_, Lib.hid rfl⟩
    obtain ⟨nv, hnv⟩ : ∃ l, Hid (neutralsV q = l) := ⟨_, Lib.hid rfl⟩
    have CSi := Lib.hid (cSi (.slice A0 q.T.length c0) (.slice AF q.F.length cF) (.slice AN q.N.length cN) q f sv hf.out hsv.out lt lf ln WF.out)
    have CBi := Lib.hid (cBi (.slice A0 q.T.length c0) (.slice AF q.F.length cF) (.slice AN q.N.length cN) q f bv hf.out hbv.out lt lf ln WF.out)
    have CNi := Lib.hid (cNi (.slice A0 q.T.length c0) (.slice AF q.F.length cF) (.slice AN q.N.length cN) q f nv hf.out hnv.out lt lf ln WF.out)
    have CSs := Lib.hid (cSs (.slice A0 q.T.length c0) (.slice AF q.F.length cF) (.slice AN q.N.length cN) q f sv hf.out hsv.out lt lf ln)
    have CBs := Lib.hid (cBs (.slice A0 q.T.length c0) (.slice AF q.F.length cF) (.slice AN q.N.length cN) q f bv hf.out hbv.out lt lf ln)
    have CNs := Lib.hid (cNs (.slice A0 q.T.length c0) (.slice AF q.F.length cF) (.slice AN q.N.length cN) q f nv hf.out hnv.out lt lf ln)
    have lS := Lib.hid (show sv.length < 300000001 by rw [← hsv.out]; exact sidesV_small q)
    have lB := Lib.hid (show bv.length < 300000001 by rw [← hbv.out]; exact bracketsV_small q)
    have lN := Lib.hid (show nv.length < 300000001 by rw [← hnv.out]; exact neutralsV_small q)
    have b2 := (Below.refl w1.heap.size w1).alloc (Nat.le_refl _) (.cells #[.slice A0 q.T.length c0, .slice AF q.F.length cF, .slice AN q.N.length cN, .int .i64 q.L, .int .i64 q.S, .int .i64 q.E] 26)
    have kP := Blk.new w1 26 #[.slice A0 q.T.length c0, .slice AF q.F.length cF, .slice AN q.N.length cN, .int .i64 q.L, .int .i64 q.S, .int .i64 q.E]
    replace hT := hT.on b2
    replace sT := (sT.below b2 (Nat.le_refl _)).more b2.size
    replace sF := (sF.below b2 (Nat.le_refl _)).more b2.size
    replace sN := (sN.below b2 (Nat.le_refl _)).more b2.size
    replace HBW := below_on HBW b2 (Nat.le_refl _)
    clear b2
    have fp0 := kP.cell 0 (u := .slice A0 q.T.length c0) rfl
    have fp1 := kP.cell 1 (u := .slice AF q.F.length cF) rfl
    have fp2 := kP.cell 2 (u := .slice AN q.N.length cN) rfl
    have fp3 := kP.cell 3 (u := .int .i64 q.L) rfl
    have fp4 := kP.cell 4 (u := .int .i64 q.S) rfl
    have fp5 := kP.cell 5 (u := .int .i64 q.E) rfl
    go_wp2_with fail
    clear fp0 fp1 fp2 fp3 fp4 fp5
    generalize hg2 : w1.alloc (.cells #[.slice A0 q.T.length c0, .slice AF q.F.length cF, .slice AN q.N.length cN, .int .i64 q.L, .int .i64 q.S, .int .i64 q.E] 26) = w2 at *
    clear hg2
    refine (CSi.out w2 sT sF sN hT).mono ?_
    rintro e w3 ⟨⟨uS, rfl, oS⟩, b3⟩
    replace hT := hT.on b3
    replace sT := (sT.below b3 (Nat.le_refl _)).more b3.size
    replace sF := (sF.below b3 (Nat.le_refl _)).more b3.size
    replace sN := (sN.below b3 (Nat.le_refl _)).more b3.size
    replace kP := kP.below b3 kP.lt
    replace HBW := below_on HBW b3 (Nat.le_refl _)
    clear b3
    obtain ⟨ASS, cS', rfl⟩ := oS.form
    have sSS := oS.sees
    clear oS
    have b4 := (Below.refl w3.heap.size w3).alloc (Nat.le_refl _) (.cells #[.int .i64 f, .slice ASS sv.length cS'] 39)
    have kS := Blk.new w3 39 #[.int .i64 f, .slice ASS sv.length cS']
    replace hT := hT.on b4
    replace sT := (sT.below b4 (Nat.le_refl _)).more b4.size
    replace sF := (sF.below b4 (Nat.le_refl _)).more b4.size
    replace sN := (sN.below b4 (Nat.le_refl _)).more b4.size
    replace kP := kP.below b4 kP.lt
    replace sSS := (sSS.below b4 (Nat.le_refl _)).more b4.size
    replace HBW := below_on HBW b4 (Nat.le_refl _)
    clear b4
    have fp0 := kP.cell 0 (u := .slice A0 q.T.length c0) rfl
    have fp1 := kP.cell 1 (u := .slice AF q.F.length cF) rfl
    have fp2 := kP.cell 2 (u := .slice AN q.N.length cN) rfl
    have fp3 := kP.cell 3 (u := .int .i64 q.L) rfl
    have fp4 := kP.cell 4 (u := .int .i64 q.S) rfl
    have fp5 := kP.cell 5 (u := .int .i64 q.E) rfl
    go_wp2_with fail
    clear fp0 fp1 fp2 fp3 fp4 fp5
    generalize hg4 : w3.alloc (.cells #[.int .i64 f, .slice ASS sv.length cS'] 39) = w4 at *
    clear hg4
    refine (CBi.out w4 sT sF sN hT).mono ?_
    rintro e w5 ⟨⟨uB, rfl, oB⟩, b5⟩
    replace hT := hT.on b5
    replace sT := (sT.below b5 (Nat.le_refl _)).more b5.size
    replace sF := (sF.below b5 (Nat.le_refl _)).more b5.size
    replace sN := (sN.below b5 (Nat.le_refl _)).more b5.size
    replace kP := kP.below b5 kP.lt
    replace sSS := (sSS.below b5 (Nat.le_refl _)).more b5.size
    replace kS := kS.below b5 kS.lt
    replace HBW := below_on HBW b5 (Nat.le_refl _)
    clear b5
    obtain ⟨ABB, cB', rfl⟩ := oB.form
    have sBB := oB.sees
    clear oB
    have b6 := (Below.refl w5.heap.size w5).alloc (Nat.le_refl _) (.cells #[.int .i64 f, .slice ABB bv.length cB'] 39)
    have kB := Blk.new w5 39 #[.int .i64 f, .slice ABB bv.length cB']
    replace hT := hT.on b6
    replace sT := (sT.below b6 (Nat.le_refl _)).more b6.size
    replace sF := (sF.below b6 (Nat.le_refl _)).more b6.size
    replace sN := (sN.below b6 (Nat.le_refl _)).more b6.size
    replace kP := kP.below b6 kP.lt
    replace sSS := (sSS.below b6 (Nat.le_refl _)).more b6.size
    replace kS := kS.below b6 kS.lt
    replace sBB := (sBB.below b6 (Nat.le_refl _)).more b6.size
    replace HBW := below_on HBW b6 (Nat.le_refl _)
    clear b6
    have fp0 := kP.cell 0 (u := .slice A0 q.T.length c0) rfl
    have fp1 := kP.cell 1 (u := .slice AF q.F.length cF) rfl
    have fp2 := kP.cell 2 (u := .slice AN q.N.length cN) rfl
    have fp3 := kP.cell 3 (u := .int .i64 q.L) rfl
    have fp4 := kP.cell 4 (u := .int .i64 q.S) rfl
    have fp5 := kP.cell 5 (u := .int .i64 q.E) rfl
    go_wp2_with fail
    clear fp0 fp1 fp2 fp3 fp4 fp5
    generalize hg6 : w5.alloc (.cells #[.int .i64 f, .slice ABB bv.length cB'] 39) = w6 at *
    clear hg6
    refine (CNi.out w6 sT sF sN hT).mono ?_
    rintro e w7 ⟨⟨uN, rfl, oN⟩, b7⟩
    replace hT := hT.on b7
    replace sT := (sT.below b7 (Nat.le_refl _)).more b7.size
    replace sF := (sF.below b7 (Nat.le_refl _)).more b7.size
    replace sN := (sN.below b7 (Nat.le_refl _)).more b7.size
    replace kP := kP.below b7 kP.lt
    replace sSS := (sSS.below b7 (Nat.le_refl _)).more b7.size
    replace kS := kS.below b7 kS.lt
    replace sBB := (sBB.below b7 (Nat.le_refl _)).more b7.size
    replace kB := kB.below b7 kB.lt
    replace HBW := below_on HBW b7 (Nat.le_refl _)
    clear b7
    obtain ⟨ANN, cN', rfl⟩ := oN.form
    have sNN := oN.sees
    clear oN
    have b8 := (Below.refl w7.heap.size w7).alloc (Nat.le_refl _) (.cells #[.int .i64 f, .slice ANN nv.length cN'] 39)
    have kN := Blk.new w7 39 #[.int .i64 f, .slice ANN nv.length cN']
    replace hT := hT.on b8
    replace sT := (sT.below b8 (Nat.le_refl _)).more b8.size
    replace sF := (sF.below b8 (Nat.le_refl _)).more b8.size
    replace sN := (sN.below b8 (Nat.le_refl _)).more b8.size
    replace kP := kP.below b8 kP.lt
    replace sSS := (sSS.below b8 (Nat.le_refl _)).more b8.size
    replace kS := kS.below b8 kS.lt
    replace sBB := (sBB.below b8 (Nat.le_refl _)).more b8.size
    replace kB := kB.below b8 kB.lt
    replace sNN := (sNN.below b8 (Nat.le_refl _)).more b8.size
    replace HBW := below_on HBW b8 (Nat.le_refl _)
    clear b8
    go_wp2_with fail
    generalize hg8 : w7.alloc (.cells #[.int .i64 f, .slice ANN nv.length cN'] 39) = w8 at *
    clear hg8
    have bz : Below w8.heap.size w8 w8.drew := ⟨rfl, rfl, rfl, Nat.le_refl _, fun _ _ => rfl⟩
    replace hT := hT.on bz
    replace sT := (sT.below bz (Nat.le_refl _)).more bz.size
    replace sF := (sF.below bz (Nat.le_refl _)).more bz.size
    replace sN := (sN.below bz (Nat.le_refl _)).more bz.size
    replace kP := kP.below bz kP.lt
    replace sSS := (sSS.below bz (Nat.le_refl _)).more bz.size
    replace kS := kS.below bz kS.lt
    replace sBB := (sBB.below bz (Nat.le_refl _)).more bz.size
    replace kB := kB.below bz kB.lt
    replace sNN := (sNN.below bz (Nat.le_refl _)).more bz.size
    replace kN := kN.below bz kN.lt
    replace HBW := below_on HBW bz (Nat.le_refl _)
    clear bz
    go_region_held3 (fun w' => w'.cell? ⟨w1.heap.size, 0, none⟩ = some (.slice A0 q.T.length c0) ∧ w'.cell? ⟨w1.heap.size, 1, none⟩ = some (.slice AF q.F.length cF) ∧ w'.cell? ⟨w1.heap.size, 2, none⟩ = some (.slice AN q.N.length cN) ∧ w'.cell? ⟨w1.heap.size, 3, none⟩ = some (.int .i64 q.L) ∧ w'.cell? ⟨w1.heap.size, 4, none⟩ = some (.int .i64 q.S) ∧ w'.cell? ⟨w1.heap.size, 5, none⟩ = some (.int .i64 q.E) ∧ w'.cell? ⟨w3.heap.size, 0, none⟩ = some (.int .i64 f) ∧ w'.cell? ⟨w3.heap.size, 1, none⟩ = some (.slice ASS sv.length cS') ∧ w'.cell? ⟨w5.heap.size, 0, none⟩ = some (.int .i64 f) ∧ w'.cell? ⟨w5.heap.size, 1, none⟩ = some (.slice ABB bv.length cB') ∧ w'.cell? ⟨w7.heap.size, 0, none⟩ = some (.int .i64 f) ∧ w'.cell? ⟨w7.heap.size, 1, none⟩ = some (.slice ANN nv.length cN')) (exact ⟨kP.cell 0 rfl, kP.cell 1 rfl, kP.cell 2 rfl, kP.cell 3 rfl, kP.cell 4 rfl, kP.cell 5 rfl, kS.cell 0 rfl, kS.cell 1 rfl, kB.cell 0 rfl, kB.cell 1 rfl, kN.cell 0 rfl, kN.cell 1 rfl⟩) (first
      | (go_at_call 19; refine (CSs.out _ sT sF sN).mono ?_; rintro e w101 ⟨⟨y1, rfl, z1⟩, b101⟩; have qb101 : Below w8.drew.heap.size w8.drew w101 := ⟨b101.os, b101.tape, b101.output, b101.size, b101.block⟩; replace hT := hT.on qb101; replace sT := (sT.below qb101 (Nat.le_refl _)).more qb101.size; replace sF := (sF.below qb101 (Nat.le_refl _)).more qb101.size; replace sN := (sN.below qb101 (Nat.le_refl _)).more qb101.size; replace kP := kP.below qb101 kP.lt; replace sSS := (sSS.below qb101 (Nat.le_refl _)).more qb101.size; replace kS := kS.below qb101 kS.lt; replace sBB := (sBB.below qb101 (Nat.le_refl _)).more qb101.size; replace kB := kB.below qb101 kB.lt; replace sNN := (sNN.below qb101 (Nat.le_refl _)).more qb101.size; replace kN := kN.below qb101 kN.lt; replace HBW := below_on HBW qb101 (Nat.le_refl _); clear b101 qb101; obtain ⟨B0, e0, rfl⟩ := z1.form; clear z1)
      | (go_at_call 19; refine (CSs.out _ sT sF sN).mono ?_; rintro e w102 ⟨⟨y1, rfl, z1⟩, b102⟩; have qb102 : Below w101.heap.size w101 w102 := ⟨b102.os, b102.tape, b102.output, b102.size, b102.block⟩; replace hT := hT.on qb102; replace sT := (sT.below qb102 (Nat.le_refl _)).more qb102.size; replace sF := (sF.below qb102 (Nat.le_refl _)).more qb102.size; replace sN := (sN.below qb102 (Nat.le_refl _)).more qb102.size; replace kP := kP.below qb102 kP.lt; replace sSS := (sSS.below qb102 (Nat.le_refl _)).more qb102.size; replace kS := kS.below qb102 kS.lt; replace sBB := (sBB.below qb102 (Nat.le_refl _)).more qb102.size; replace kB := kB.below qb102 kB.lt; replace sNN := (sNN.below qb102 (Nat.le_refl _)).more qb102.size; replace kN := kN.below qb102 kN.lt; replace HBW := below_on HBW qb102 (Nat.le_refl _); clear b102 qb102; obtain ⟨B1, e1, rfl⟩ := z1.form; have tS := z1.sees; clear z1)
      | (go_at_call 20; refine (lwNums_see7 _ _ _ _ _ _ sSS tS (by have := lS.out; omega)).mono ?_; rintro e w103 ⟨rfl, n103, hn103⟩; have b103 := below_drawn hn103; clear hn103; have qb103 : Below w102.heap.size w102 w103 := ⟨b103.os, b103.tape, b103.output, b103.size, b103.block⟩; replace hT := hT.on qb103; replace sT := (sT.below qb103 (Nat.le_refl _)).more qb103.size; replace sF := (sF.below qb103 (Nat.le_refl _)).more qb103.size; replace sN := (sN.below qb103 (Nat.le_refl _)).more qb103.size; replace kP := kP.below qb103 kP.lt; replace sSS := (sSS.below qb103 (Nat.le_refl _)).more qb103.size; replace kS := kS.below qb103 kS.lt; replace sBB := (sBB.below qb103 (Nat.le_refl _)).more qb103.size; replace kB := kB.below qb103 kB.lt; replace sNN := (sNN.below qb103 (Nat.le_refl _)).more qb103.size; replace kN := kN.below qb103 kN.lt; replace tS := (tS.below qb103 (Nat.le_refl _)).more qb103.size; replace HBW := below_on HBW qb103 (Nat.le_refl _); clear b103 qb103; clear tS)
      | (go_at_call 21; refine (CBs.out _ sT sF sN).mono ?_; rintro e w104 ⟨⟨y1, rfl, z1⟩, b104⟩; have qb104 : Below w103.heap.size w103 w104 := ⟨b104.os, b104.tape, b104.output, b104.size, b104.block⟩; replace hT := hT.on qb104; replace sT := (sT.below qb104 (Nat.le_refl _)).more qb104.size; replace sF := (sF.below qb104 (Nat.le_refl _)).more qb104.size; replace sN := (sN.below qb104 (Nat.le_refl _)).more qb104.size; replace kP := kP.below qb104 kP.lt; replace sSS := (sSS.below qb104 (Nat.le_refl _)).more qb104.size; replace kS := kS.below qb104 kS.lt; replace sBB := (sBB.below qb104 (Nat.le_refl _)).more qb104.size; replace kB := kB.below qb104 kB.lt; replace sNN := (sNN.below qb104 (Nat.le_refl _)).more qb104.size; replace kN := kN.below qb104 kN.lt; replace HBW := below_on HBW qb104 (Nat.le_refl _); clear b104 qb104; obtain ⟨B2, e2, rfl⟩ := z1.form; have tB := z1.sees; clear z1)
      | (go_at_call 20; refine (lwNums_see7 _ _ _ _ _ _ sBB tB (by have := lB.out; omega)).mono ?_; rintro e w105 ⟨rfl, n105, hn105⟩; have b105 := below_drawn hn105; clear hn105; have qb105 : Below w104.heap.size w104 w105 := ⟨b105.os, b105.tape, b105.output, b105.size, b105.block⟩; replace hT := hT.on qb105; replace sT := (sT.below qb105 (Nat.le_refl _)).more qb105.size; replace sF := (sF.below qb105 (Nat.le_refl _)).more qb105.size; replace sN := (sN.below qb105 (Nat.le_refl _)).more qb105.size; replace kP := kP.below qb105 kP.lt; replace sSS := (sSS.below qb105 (Nat.le_refl _)).more qb105.size; replace kS := kS.below qb105 kS.lt; replace sBB := (sBB.below qb105 (Nat.le_refl _)).more qb105.size; replace kB := kB.below qb105 kB.lt; replace sNN := (sNN.below qb105 (Nat.le_refl _)).more qb105.size; replace kN := kN.below qb105 kN.lt; replace tB := (tB.below qb105 (Nat.le_refl _)).more qb105.size; replace HBW := below_on HBW qb105 (Nat.le_refl _); clear b105 qb105; clear tB)
      | (go_at_call 22; refine (CNs.out _ sT sF sN).mono ?_; rintro e w106 ⟨⟨y1, rfl, z1⟩, b106⟩; have qb106 : Below w105.heap.size w105 w106 := ⟨b106.os, b106.tape, b106.output, b106.size, b106.block⟩; replace hT := hT.on qb106; replace sT := (sT.below qb106 (Nat.le_refl _)).more qb106.size; replace sF := (sF.below qb106 (Nat.le_refl _)).more qb106.size; replace sN := (sN.below qb106 (Nat.le_refl _)).more qb106.size; replace kP := kP.below qb106 kP.lt; replace sSS := (sSS.below qb106 (Nat.le_refl _)).more qb106.size; replace kS := kS.below qb106 kS.lt; replace sBB := (sBB.below qb106 (Nat.le_refl _)).more qb106.size; replace kB := kB.below qb106 kB.lt; replace sNN := (sNN.below qb106 (Nat.le_refl _)).more qb106.size; replace kN := kN.below qb106 kN.lt; replace HBW := below_on HBW qb106 (Nat.le_refl _); clear b106 qb106; obtain ⟨B3, e3, rfl⟩ := z1.form; have tN := z1.sees; clear z1)
      | (go_at_call 20; refine (lwNums_see7 _ _ _ _ _ _ sNN tN (by have := lN.out; omega)).mono ?_; rintro e w107 ⟨rfl, n107, hn107⟩; have b107 := below_drawn hn107; clear hn107; have qb107 : Below w106.heap.size w106 w107 := ⟨b107.os, b107.tape, b107.output, b107.size, b107.block⟩; replace hT := hT.on qb107; replace sT := (sT.below qb107 (Nat.le_refl _)).more qb107.size; replace sF := (sF.below qb107 (Nat.le_refl _)).more qb107.size; replace sN := (sN.below qb107 (Nat.le_refl _)).more qb107.size; replace kP := kP.below qb107 kP.lt; replace sSS := (sSS.below qb107 (Nat.le_refl _)).more qb107.size; replace kS := kS.below qb107 kS.lt; replace sBB := (sBB.below qb107 (Nat.le_refl _)).more qb107.size; replace kB := kB.below qb107 kB.lt; replace sNN := (sNN.below qb107 (Nat.le_refl _)).more qb107.size; replace kN := kN.below qb107 kN.lt; replace tN := (tN.below qb107 (Nat.le_refl _)).more qb107.size; replace HBW := below_on HBW qb107 (Nat.le_refl _); clear b107 qb107; clear tN)
      )
    have ce0 := kP.cell 0 (u := .slice A0 q.T.length c0) rfl
    have ce1 := kP.cell 1 (u := .slice AF q.F.length cF) rfl
    have ce2 := kP.cell 2 (u := .slice AN q.N.length cN) rfl
    have ce3 := kP.cell 3 (u := .int .i64 q.L) rfl
    have ce4 := kP.cell 4 (u := .int .i64 q.S) rfl
    have ce5 := kP.cell 5 (u := .int .i64 q.E) rfl
    have ce6 := kS.cell 0 (u := .int .i64 f) rfl
    have ce7 := kS.cell 1 (u := .slice ASS sv.length cS') rfl
    have ce8 := kB.cell 0 (u := .int .i64 f) rfl
    have ce9 := kB.cell 1 (u := .slice ABB bv.length cB') rfl
    by_cases hz : f = 0
    · have hz' : partF q = 0 := by rw [hf.out]; exact hz
      have F := Lib.hid (side_facts hz')
      have EV := Lib.hid (show sv = sidesN q by rw [← hsv.out]; unfold sidesV; rw [if_pos hz'])
      have EB := Lib.hid (show bv = bracketsN q by rw [← hbv.out]; unfold bracketsV; rw [if_pos hz'])
      have LS := Lib.hid (show sv.length = q.T.length by rw [EV.out]; exact F.out.lenS)
      have LB := Lib.hid (show bv.length = q.T.length by rw [EB.out]; exact F.out.lenB)
      have g0 : (f != 0) = false := by simp [hz]
      have g1 : ((sv.length : Int) != (q.T.length : Int)) = false := by rw [LS.out]; simp
      have g2 : ((bv.length : Int) != (q.T.length : Int)) = false := by rw [LB.out]; simp
      have g3 : (sv.length != q.T.length) = false := by rw [LS.out]; simp
      have g4 : (bv.length != q.T.length) = false := by rw [LB.out]; simp
      have CS2 := Lib.hid (cS2 (.slice A0 q.T.length c0) (.slice AF q.F.length cF) (.slice ASS sv.length cS') q sv F.out EV.out lt lf WF.out)
      clear hz hz'
      go_wp2
      go_loop [7] (fun i => ∃ k : Nat, k ≤ q.T.length ∧ i = .int .i64 k) (fun i => q.T.length - (intOf i).toNat)
      case atStart => exact ⟨0, by omega, rfl⟩
      case round =>
        obtain ⟨k, hk, rfl⟩ := hrel
        by_cases hlt : k < q.T.length
        · obtain ⟨AL, cL, eL, rL⟩ := sSS
          have eL1 : ASS = AL := by injection eL
          subst eL1
          clear eL
          obtain ⟨bL, offL, rfl, hbL, hcL⟩ := rL.int (by rw [LS.out]; omega)
          have hcw := hcL k (by rw [LS.out]; exact hlt)
          have lf' := F.out.left k hlt
          rw [← EV.out] at lf'
          obtain ⟨x, hx⟩ : ∃ x, Hid (nth sv k = x) := ⟨_, Lib.hid rfl⟩
          rw [hx.out] at hcw lf'
          obtain ⟨hn0, hi0⟩ := lf'
          have hn1 := of_decide_eq_false (show decide ((10 ≤ x ∧ x ≤ 13) ∨ (19 ≤ x ∧ x ≤ 22)) = false from hn0)
          unfold In at hi0
          have x10 : (x == 10) = false := by simp; omega
          have x11 : (x == 11) = false := by simp; omega
          have x12 : (x == 12) = false := by simp; omega
          have x13 : (x == 13) = false := by simp; omega
          have x19 : decide (19 ≤ x) = false := decide_eq_false (by omega)
          have x19b : decide (x ≥ 19) = false := decide_eq_false (by omega)
          have ilw : (k : Int) < (sv.length : Int) := by rw [LS.out]; omega
          have ilt : (k : Int) < (q.T.length : Int) := by omega
          clear hcL rL hn0 hn1 hi0
          go_wp2
          go_round
          case rel => exact ⟨k + 1, by omega, by go_num⟩
          case measure => first | omega | (simp [intOf]; omega)
        · obtain rfl : k = q.T.length := by omega
          clear hk hlt
          go_wp2_with fail
          have bz : Below w107.heap.size w107 w107.drew := ⟨rfl, rfl, rfl, Nat.le_refl _, fun _ _ => rfl⟩
          replace hT := hT.on bz
          replace sT := (sT.below bz (Nat.le_refl _)).more bz.size
          replace sF := (sF.below bz (Nat.le_refl _)).more bz.size
          replace sN := (sN.below bz (Nat.le_refl _)).more bz.size
          replace kP := kP.below bz kP.lt
          replace sSS := (sSS.below bz (Nat.le_refl _)).more bz.size
          replace kS := kS.below bz kS.lt
          replace HBW := below_on HBW bz (Nat.le_refl _)
          clear bz
          go_region_held3 (fun w' => w'.cell? ⟨w1.heap.size, 0, none⟩ = some (.slice A0 q.T.length c0) ∧ w'.cell? ⟨w1.heap.size, 1, none⟩ = some (.slice AF q.F.length cF) ∧ w'.cell? ⟨w1.heap.size, 3, none⟩ = some (.int .i64 q.L) ∧ w'.cell? ⟨w1.heap.size, 4, none⟩ = some (.int .i64 q.S) ∧ w'.cell? ⟨w1.heap.size, 5, none⟩ = some (.int .i64 q.E) ∧ w'.cell? ⟨w3.heap.size, 1, none⟩ = some (.slice ASS sv.length cS')) (exact ⟨kP.cell 0 rfl, kP.cell 1 rfl, kP.cell 3 rfl, kP.cell 4 rfl, kP.cell 5 rfl, kS.cell 1 rfl⟩) (first
            | (go_at_call 16; refine (CS2.out _ sT sF sSS hT).mono ?_; rintro e w201 ⟨⟨y1, rfl, z1⟩, b201⟩; have qb201 : Below w107.drew.heap.size w107.drew w201 := ⟨b201.os, b201.tape, b201.output, b201.size, b201.block⟩; replace hT := hT.on qb201; replace sT := (sT.below qb201 (Nat.le_refl _)).more qb201.size; replace sF := (sF.below qb201 (Nat.le_refl _)).more qb201.size; replace sN := (sN.below qb201 (Nat.le_refl _)).more qb201.size; replace kP := kP.below qb201 kP.lt; replace sSS := (sSS.below qb201 (Nat.le_refl _)).more qb201.size; replace kS := kS.below qb201 kS.lt; replace HBW := below_on HBW qb201 (Nat.le_refl _); clear b201 qb201; obtain ⟨B9, e9, rfl⟩ := z1.form; have tS := z1.sees; clear z1)
            | (go_at_call 20; refine (lwNums_see7 _ _ _ _ _ _ tS sSS (by have := lS.out; omega)).mono ?_; rintro e w202 ⟨rfl, n202, hn202⟩; have b202 := below_drawn hn202; clear hn202; have qb202 : Below w201.heap.size w201 w202 := ⟨b202.os, b202.tape, b202.output, b202.size, b202.block⟩; replace hT := hT.on qb202; replace sT := (sT.below qb202 (Nat.le_refl _)).more qb202.size; replace sF := (sF.below qb202 (Nat.le_refl _)).more qb202.size; replace sN := (sN.below qb202 (Nat.le_refl _)).more qb202.size; replace kP := kP.below qb202 kP.lt; replace sSS := (sSS.below qb202 (Nat.le_refl _)).more qb202.size; replace kS := kS.below qb202 kS.lt; replace tS := (tS.below qb202 (Nat.le_refl _)).more qb202.size; replace HBW := below_on HBW qb202 (Nat.le_refl _); clear b202 qb202; clear tS)
            )
          go_wp2
          go_ret
          exact ⟨rfl, HBW⟩
    · have hz' : ¬ partF q = 0 := by rw [hf.out]; exact hz
      have EV := Lib.hid (show sv.length = 0 by rw [← hsv.out]; unfold sidesV; rw [if_neg hz']; rfl)
      have g0 : (f != 0) = true := by simpa using hz
      have g1 : ((sv.length : Int) == 0) = true := by rw [EV.out]; rfl
      have g2 : (sv.length == 0) = true := by rw [EV.out]; rfl
      have g3 : sv = [] := List.eq_nil_of_length_eq_zero EV.out
      clear hz hz'
      go_wp2
      go_ret
      exact ⟨rbool (by first | rfl | (simp [g3]; done) | (simp; exact g3)), HBW⟩
end Go.Proofs.YtkkojemnbcddfaaDoor.fnSides

namespace Go.Proofs.YtkkojemnbcddfaaDoor.fnSides
open Go.ChangeShapes Go.WideShapes Go.ChangeAt Go.RowKit


theorem own : ownKnob Tryd.prog.godebug = none := by kernel_rfl
theorem laidOut : laidOutB Tryd.prog = true := by kernel_rfl

set_option maxRecDepth 100000 in
theorem contract (H : Type) (enc : TypeId × Value → H) (W : World) (base : Nat) (args : Array Value) (ds gs : List (DataW H)) (before : List MemPlace)
    (hval0 : ∀ (j : Nat) t v, Tryd.f4.params[j]? = some t → args[j]? = some v → Value.okWide Tryd.prog W .any base t v)
    (hW : DataW.Whole enc Tryd.prog Tryd.f4.params.toList Rows.fnSidesSpec.vars false W args.toList ds gs before) (hL : laidMetH Tryd.prog Rows.fnSidesRow.laid W) :
    Calls Tryd.prog 4 args W fun e W' => ∃ v, e = .returned v ∧ Rows.fnSidesSpec.post enc Tryd.prog Tryd.f4 false true false false W args v W' := by
  have hval : ∀ (j : Nat) t v, Tryd.f4.params[j]? = some t → args[j]? = some v → Value.okWide Tryd.prog W .any base t v := hval0
  have hW' := hW
  obtain ⟨p, q, hA0, hV, rfl, _, _⟩ := hW
  have hA : DataW.TrodAll enc Tryd.prog W 0 (fun _ => true) true Tryd.f4.params.toList args.toList ds p := hA0
  rw [Tryd.params4] at hA hval
  obtain ⟨v0, vs0, d0, ds0, p0, q0, hargs, rfl, rfl, h0, r0⟩ := trodAll_cons hA
  obtain ⟨rfl, rfl, rfl⟩ := trodAll_nil r0
  obtain rfl : args = #[v0] := by cases args; simp_all
  obtain ⟨gv, tv, csv, fuelv, dg, pg, rfl, -⟩ := trodVars_one hV
  clear hA0 hval0
  simp only [List.append_nil] at hW'
  obtain ⟨A0, zs0, c0, rfl, hr0, hw0⟩ := open_nums Tryd.underlying22 Tryd.underlying5 (by kernel_rfl) (hval 0 22 v0 rfl rfl) h0 (fun x hx => by simpa using hW'.lt x (by simp [hx]))
  refine (walk (pairs_of (l := Rows.fnSidesRow.laid) hL (by simp [Rows.fnSidesRow])) A0 zs0 c0 hr0 hw0).mono fun e W' ⟨he, hb⟩ => ?_
  subst he
  exact ⟨_, rfl, law_postV (gs := [dg]) laidOut (by decide +kernel) (by kernel_rfl) rfl Tryd.underlying4 rfl rfl rfl hW' hb⟩

set_option maxRecDepth 100000 in
theorem laid_met (os : Os) : laidMet Tryd.prog Rows.fnSidesRow.laid ((pairsWorld os).forCall (fun _ _ => 0) ⟨#[], #[.slice none 0 0], []⟩).memory :=
  laidMet_of_run' 8 (by kernel_rfl) (by kernel_rfl)
set_option maxRecDepth 100000 in
theorem reads (os : Os) {H : Type} (enc : TypeId × Value → H) : ∃ places, DataW.whole enc Tryd.prog ((pairsWorld os).forCall (fun _ _ => 0) ⟨#[], #[.slice none 0 0], []⟩).memory Tryd.f4.params.toList Rows.fnSidesSpec.vars false (#[.slice none 0 0] : Array Value).toList 8 = some ([.nil], [Rows.laid_loop_example_g00739_impl_pairs], places) :=
  ⟨MemPlace.row ⟨0, 0, none⟩ 18, by kernel_rfl⟩

set_option maxRecDepth 100000 in
theorem lifted (os : Os) (started : os.Started) (H : Type) (enc : TypeId × Value → H) (F : Stop.Interp) :
    ReturnsInHanded {} Tryd.checked os 4 .any ((OpenSpec.ofChange Rows.fnSidesSpec).preRow enc Tryd.prog Tryd.f4 Rows.fnSidesRow.domain false Rows.fnSidesRow.laid) (((OpenSpec.ofChange Rows.fnSidesSpec).at F).post enc Tryd.prog Tryd.f4 false true false false) := by
  obtain ⟨places, hx⟩ := reads os enc
  refine returnsInHanded_of_row (C := Tryd.checked) (s := OpenSpec.ofChange Rows.fnSidesSpec) own started (by kernel_rfl) Tryd.func4
    (witness_row_at (enc := enc) (C := Tryd.checked) false (pairsWorld os) #[.slice none 0 0] rfl (by kernel_rfl) (by kernel_rfl) (by kernel_rfl)
      (OpenSpec.preRow_of_cond 8 hx (by kernel_rfl) (fun k hk => by cases hk) (by kernel_rfl) (laid_met os))) ?_
  intro W base args ds gs before hval hW _ _ _ hL _ _
  exact contract H enc W base args ds gs before hval hW hL

theorem said : Rows.FnSidesSaid :=
  OpenClaim.holds_of_cond 4 Tryd.f4 rfl rfl rfl rfl rfl rfl rfl ⟨rfl, rfl, rfl, rfl, rfl⟩ rfl rfl rfl rfl rfl (by kernel_rfl) Tryd.func4 (by kernel_rfl)
    (of_decide_eq_true (by kernel_rfl)) (by unfold Func.isWrapper; first | (rw [if_pos (by decide +kernel)]; kernel_rfl) | (rw [if_neg (by decide +kernel)]; exact ⟨rfl, rfl⟩))
    (fun os started H enc _ F => by rw [OpenClaim.pre_eq_preRow]; exact lifted os started H enc F)

theorem plain (f : FuncId) (fn : Func) (hf : Tryd.pinned.checked.prog.funcNamed "loop.example/g00739/laws.FnSides" = some f) (hfn : Tryd.pinned.checked.prog.funcs[f]? = some fn) :
    false = Tryd.pinned.checked.prog.looks [] ∧ ∀ (j : Nat) t, fn.params[j]? = some t → Tryd.pinned.checked.prog.wantsStandIn t = false := by
  obtain rfl : f = 4 := Option.some.inj ((show Tryd.prog.funcNamed "loop.example/g00739/laws.FnSides" = some 4 by kernel_rfl).symm.trans hf) |>.symm
  obtain rfl : fn = Tryd.f4 := (Option.some.inj (Tryd.func4.symm.trans hfn)).symm
  refine ⟨by kernel_rfl, fun j t ht => ?_⟩
  rw [Tryd.params4] at ht
  have hm := Array.mem_of_getElem? ht
  have all : ∀ t ∈ Tryd.f4.params, Tryd.prog.wantsStandIn t = false := by decide +kernel
  exact all t (by rw [Tryd.params4]; exact hm)

theorem card : Rows.FnSidesCardSaid :=
  Claim7.holds_tied_plain_at .later [] _ _ _ _ said (fun _ h => by cases h) (by kernel_rfl) (fun _ h => by cases h) fnSides_row_tie rfl ⟨rfl, rfl⟩ (by kernel_rfl) rfl plain (by kernel_rfl)
#print axioms card
end Go.Proofs.YtkkojemnbcddfaaDoor.fnSides
