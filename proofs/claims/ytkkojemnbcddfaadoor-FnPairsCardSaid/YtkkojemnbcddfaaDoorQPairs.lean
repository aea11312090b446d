/- FnPairs: the law returns true at every slice of bytes and leaves all memory that was there as it was. Condition: the table that the row lists holds what it is laid with (the card ties it). -/
import Derived.Test.YtkkojemnbcddfaaDoorQDraws
import Derived.Test.YtkkojemnbcddfaaDoorV1
namespace Go.Proofs.YtkkojemnbcddfaaDoor.fnPairs
open Go.RowKit

attribute [local go_sem] Oper.semAt_some field7_p0 field7_p1

theorem sees_cells {w : World} {B b off n c : Nat} {l : List Pr} (h : SeesPr w B (.slice (some ⟨b, off, none⟩) n c) l) (k : Nat) (hk : k < l.length) : w.cell? ⟨b, off + k * 2, none⟩ = some (.int .i64 (nthP l k).1) ∧ w.cell? ⟨b, off + k * 2 + 1, none⟩ = some (.int .i64 (nthP l k).2) := by
  obtain ⟨b', off', c', e, _, h1, h2⟩ := h.at_ k hk
  cases e
  exact ⟨h1, h2⟩
theorem sees_form {w : World} {B : Nat} {A : Option Addr} {n c : Nat} {zs : List Int} (h : Sees w B .i64 (.slice A n c) zs) (hz : 0 < zs.length) : ∃ b off, A = some ⟨b, off, none⟩ := by
  obtain ⟨A', c', e, r⟩ := h
  cases e
  obtain ⟨b, off, e, _⟩ := r.int hz
  exact ⟨b, off, e⟩
theorem sees_num {w : World} {B b off n c : Nat} {zs : List Int} (h : Sees w B .i64 (.slice (some ⟨b, off, none⟩) n c) zs) (k : Nat) (hk : k < zs.length) : w.cell? ⟨b, off + k, none⟩ = some (.int .i64 (nth zs k)) := by
  obtain ⟨A', c', e, r⟩ := h
  cases e
  obtain ⟨b, off, e, _, hc⟩ := r.int (by omega)
  cases e
  exact hc k hk
/-- a region under way may ask for more of the worlds to come -/
theorem wpAnyH_more {P : Program} {md : Region.Mode} {ops : Array Oper} {Q : Exit → Act → World → Prop} {S S' : World → Prop} (hS : ∀ w, S' w → S w) : ∀ (fuel : Nat) (listed : Array Bool) (a : Act) (w : World), wpAnyH P md ops Q S' fuel listed a w → wpAnyH P md ops Q S fuel listed a w
  | 0, _, _, _, h => h
  | fuel + 1, _, _, _, h => ⟨h.1, fun i hi => wpOp_mono (fun a' w' h' => ⟨hS _ h'.1, wpAnyH_more hS fuel _ a' w' h'.2⟩) (h.2 i hi)⟩
section
variable (v0 v1 v2 : Value) (q : Prt) (f : Int)
theorem cFi (hf : partF q = f) (lt : q.T.length ≤ 200) (lf : q.F.length ≤ 200) (ln : q.N.length ≤ 200) (WF : PartWf q) (W : World) (h0 : Sees W W.heap.size .i64 v0 q.T) (h1 : Sees W W.heap.size .i64 v1 q.F) (h2 : Sees W W.heap.size .i64 v2 q.N) :
    Calls Tryd.prog 12 #[.agg #[v0, v1, v2, .int .i64 q.L, .int .i64 q.S, .int .i64 q.E]] W fun e w' => e = .returned (.int .i64 f) ∧ Below W.heap.size W w' := by
  rw [← hf]
  exact partFault_val v0 v1 v2 q W W.heap.size h0 h1 h2 (Nat.le_refl _) (by omega) (by omega) (by omega) WF
theorem cFs (hf : partF q = f) (lt : q.T.length ≤ 200) (lf : q.F.length ≤ 200) (ln : q.N.length ≤ 200) (W : World) (h0 : Sees W W.heap.size .i64 v0 q.T) (h1 : Sees W W.heap.size .i64 v1 q.F) (h2 : Sees W W.heap.size .i64 v2 q.N) :
    Calls Tryd.prog 13 #[.agg #[v0, v1, v2, .int .i64 q.L, .int .i64 q.S, .int .i64 q.E]] W fun e w' => e = .returned (.int .i64 f) ∧ Below W.heap.size W w' := by
  rw [← hf]
  exact specPartFault_any v0 v1 v2 q W W.heap.size h0 h1 h2 (Nat.le_refl _) (by omega) (by omega) (by omega)
end

set_option maxRecDepth 100000 in
set_option maxHeartbeats 8000000 in
theorem walk {w : World} (hT : Pairs w) (A : Option Addr) (zs : List Int) (c : Nat) (r : Rd w w.heap.size A (nums .u8 zs)) (hw : ∀ n ∈ zs, (Lit.int .u8 n).wf = true) :
    Calls Tryd.prog 3 #[.slice A zs.length c] w fun e w' => e = .returned (.bool true) ∧ Below w.heap.size w w' := by
  by_cases hl : 1048576 < zs.length
  · have d0 : decide (1048576 < zs.length) = true := by simp [hl]
    go_enter Tryd.func3, Tryd.ntmps3
    go_wp2_with fail
    refine (lwBig_any7 A zs.length c w).mono ?_
    rintro e w1 ⟨rfl, rfl⟩
    rw [d0]
    go_wp2
    go_ret
    exact ⟨rfl, Below.refl _ _⟩
  · have d0 : decide (1048576 < zs.length) = false := by simp [hl]
    have HB := Lib.hid (bytes_of hw)
    have zl : zs.length < 2000000 := by omega
    have R := r
    clear hl r hw
    go_enter Tryd.func3, Tryd.ntmps3
    go_wp2_with fail
    refine (lwBig_any7 A zs.length c w).mono ?_
    rintro e w1 ⟨rfl, rfl⟩
    rw [d0]
    have HBW := Below.refl w.heap.size w
    go_wp2_with fail
    refine (drawPairsOf_any A c zs w R HB.out zl).mono ?_
    rintro e w1 ⟨⟨v0, v1, v2, q, rfl, ow, few⟩, b1⟩
    replace R := R.on b1
    replace hT := hT.on b1
    replace HBW := below_on HBW b1 (Nat.le_refl _)
    clear b1
    obtain ⟨A0, c0, rfl⟩ := ow.o0.form
    obtain ⟨AF, cF, rfl⟩ := ow.o1.form
    obtain ⟨AN, cN, rfl⟩ := ow.o2.form
    have sT := ow.o0.sees
    have sF := ow.o1.sees
    have sN := ow.o2.sees
    have lt := few.lt
    have lf := few.lf
    have ln := few.ln
    have WT := Lib.hid few.t.wf
    have WF := Lib.hid (few_wf few)
    clear ow few
    clear R
    obtain ⟨f, hf⟩ : ∃ f, Hid (partF q = f) := ⟨_, Lib.hid rfl⟩
    obtain ⟨pv, hpv⟩ : ∃ l, Hid (pairsV q = l) := ⟨_, Lib.hid rfl⟩
    have CPi := Lib.hid (cPi (.slice A0 q.T.length c0) (.slice AF q.F.length cF) (.slice AN q.N.length cN) q f pv hf.out hpv.out lt lf ln WF.out)
    have CPs := Lib.hid (cPs (.slice A0 q.T.length c0) (.slice AF q.F.length cF) (.slice AN q.N.length cN) q f pv hf.out hpv.out lt lf ln)
    have CFi := Lib.hid (cFi (.slice A0 q.T.length c0) (.slice AF q.F.length cF) (.slice AN q.N.length cN) q f hf.out lt lf ln WF.out)
    have CFs := Lib.hid (cFs (.slice A0 q.T.length c0) (.slice AF q.F.length cF) (.slice AN q.N.length cN) q f hf.out lt lf ln)
    have b2 := (Below.refl w1.heap.size w1).alloc (Nat.le_refl _) (.cells #[.slice A0 q.T.length c0, .slice AF q.F.length cF, .slice AN q.N.length cN, .int .i64 q.L, .int .i64 q.S, .int .i64 q.E] 26)
    have kP := Blk.new w1 26 #[.slice A0 q.T.length c0, .slice AF q.F.length cF, .slice AN q.N.length cN, .int .i64 q.L, .int .i64 q.S, .int .i64 q.E]
    replace hT := hT.on b2
    replace sT := (sT.below b2 (Nat.le_refl _)).more b2.size
    replace sF := (sF.below b2 (Nat.le_refl _)).more b2.size
    replace sN := (sN.below b2 (Nat.le_refl _)).more b2.size
    replace HBW := below_on HBW b2 (Nat.le_refl _)
    clear b2
    have fp0 := kP.cell 0 (u := .slice A0 q.T.length c0) rfl
    have fp1 := kP.cell 1 (u := .slice AF q.F.length cF) rfl
    have fp2 := kP.cell 2 (u := .slice AN q.N.length cN) rfl
    have fp3 := kP.cell 3 (u := .int .i64 q.L) rfl
    have fp4 := kP.cell 4 (u := .int .i64 q.S) rfl
    have fp5 := kP.cell 5 (u := .int .i64 q.E) rfl
    go_wp2_with fail
    clear fp0 fp1 fp2 fp3 fp4 fp5
    generalize hg2 : w1.alloc (.cells #[.slice A0 q.T.length c0, .slice AF q.F.length cF, .slice AN q.N.length cN, .int .i64 q.L, .int .i64 q.S, .int .i64 q.E] 26) = w2 at *
    clear hg2
    refine (CPi.out w2 sT sF sN hT).mono ?_
    rintro e w3 ⟨⟨uR, rfl, oR⟩, b3⟩
    replace hT := hT.on b3
    replace sT := (sT.below b3 (Nat.le_refl _)).more b3.size
    replace sF := (sF.below b3 (Nat.le_refl _)).more b3.size
    replace sN := (sN.below b3 (Nat.le_refl _)).more b3.size
    replace kP := kP.below b3 kP.lt
    replace HBW := below_on HBW b3 (Nat.le_refl _)
    clear b3
    obtain ⟨AR, cR, rfl⟩ := oR.form
    have sR := oR.sees
    clear oR
    have b4 := (Below.refl w3.heap.size w3).alloc (Nat.le_refl _) (.cells #[.int .i64 f, .slice AR pv.length cR] 30)
    have kR := Blk.new w3 30 #[.int .i64 f, .slice AR pv.length cR]
    replace hT := hT.on b4
    replace sT := (sT.below b4 (Nat.le_refl _)).more b4.size
    replace sF := (sF.below b4 (Nat.le_refl _)).more b4.size
    replace sN := (sN.below b4 (Nat.le_refl _)).more b4.size
    replace kP := kP.below b4 kP.lt
    replace sR := (sR.below b4 (Nat.le_refl _)).more b4.size
    replace HBW := below_on HBW b4 (Nat.le_refl _)
    clear b4
    go_wp2_with fail
    generalize hg4 : w3.alloc (.cells #[.int .i64 f, .slice AR pv.length cR] 30) = w4 at *
    clear hg4
    have bz : Below w4.heap.size w4 w4.drew := ⟨rfl, rfl, rfl, Nat.le_refl _, fun _ _ => rfl⟩
    replace hT := hT.on bz
    replace sT := (sT.below bz (Nat.le_refl _)).more bz.size
    replace sF := (sF.below bz (Nat.le_refl _)).more bz.size
    replace sN := (sN.below bz (Nat.le_refl _)).more bz.size
    replace kP := kP.below bz kP.lt
    replace sR := (sR.below bz (Nat.le_refl _)).more bz.size
    replace kR := kR.below bz kR.lt
    replace HBW := below_on HBW bz (Nat.le_refl _)
    clear bz
    go_region_held3 (fun w' => w'.cell? ⟨w1.heap.size, 0, none⟩ = some (.slice A0 q.T.length c0) ∧ w'.cell? ⟨w1.heap.size, 1, none⟩ = some (.slice AF q.F.length cF) ∧ w'.cell? ⟨w1.heap.size, 2, none⟩ = some (.slice AN q.N.length cN) ∧ w'.cell? ⟨w1.heap.size, 3, none⟩ = some (.int .i64 q.L) ∧ w'.cell? ⟨w1.heap.size, 4, none⟩ = some (.int .i64 q.S) ∧ w'.cell? ⟨w1.heap.size, 5, none⟩ = some (.int .i64 q.E) ∧ w'.cell? ⟨w3.heap.size, 0, none⟩ = some (.int .i64 f) ∧ w'.cell? ⟨w3.heap.size, 1, none⟩ = some (.slice AR pv.length cR)) (exact ⟨kP.cell 0 rfl, kP.cell 1 rfl, kP.cell 2 rfl, kP.cell 3 rfl, kP.cell 4 rfl, kP.cell 5 rfl, kR.cell 0 rfl, kR.cell 1 rfl⟩) (first
      | (go_at_call 11; refine (CPs.out _ sT sF sN).mono ?_; rintro e w101 ⟨⟨y1, rfl, z1⟩, b101⟩; have qb101 : Below w4.drew.heap.size w4.drew w101 := ⟨b101.os, b101.tape, b101.output, b101.size, b101.block⟩; replace hT := hT.on qb101; replace sT := (sT.below qb101 (Nat.le_refl _)).more qb101.size; replace sF := (sF.below qb101 (Nat.le_refl _)).more qb101.size; replace sN := (sN.below qb101 (Nat.le_refl _)).more qb101.size; replace kP := kP.below qb101 kP.lt; replace sR := (sR.below qb101 (Nat.le_refl _)).more qb101.size; replace kR := kR.below qb101 kR.lt; replace HBW := below_on HBW qb101 (Nat.le_refl _); clear b101 qb101; obtain ⟨B0, e0, rfl⟩ := z1.form; clear z1)
      | (go_at_call 11; refine (CPs.out _ sT sF sN).mono ?_; rintro e w102 ⟨⟨y1, rfl, z1⟩, b102⟩; have qb102 : Below w101.heap.size w101 w102 := ⟨b102.os, b102.tape, b102.output, b102.size, b102.block⟩; replace hT := hT.on qb102; replace sT := (sT.below qb102 (Nat.le_refl _)).more qb102.size; replace sF := (sF.below qb102 (Nat.le_refl _)).more qb102.size; replace sN := (sN.below qb102 (Nat.le_refl _)).more qb102.size; replace kP := kP.below qb102 kP.lt; replace sR := (sR.below qb102 (Nat.le_refl _)).more qb102.size; replace kR := kR.below qb102 kR.lt; replace HBW := below_on HBW qb102 (Nat.le_refl _); clear b102 qb102; obtain ⟨B1, e1, rfl⟩ := z1.form; clear z1)
      | (go_at_call 12; refine (CFi.out _ sT sF sN).mono ?_; rintro e w103 ⟨rfl, b103⟩; have qb103 : Below w102.heap.size w102 w103 := ⟨b103.os, b103.tape, b103.output, b103.size, b103.block⟩; replace hT := hT.on qb103; replace sT := (sT.below qb103 (Nat.le_refl _)).more qb103.size; replace sF := (sF.below qb103 (Nat.le_refl _)).more qb103.size; replace sN := (sN.below qb103 (Nat.le_refl _)).more qb103.size; replace kP := kP.below qb103 kP.lt; replace sR := (sR.below qb103 (Nat.le_refl _)).more qb103.size; replace kR := kR.below qb103 kR.lt; replace HBW := below_on HBW qb103 (Nat.le_refl _); clear b103 qb103)
      | (go_at_call 13; refine (CFs.out _ sT sF sN).mono ?_; rintro e w104 ⟨rfl, b104⟩; have qb104 : Below w103.heap.size w103 w104 := ⟨b104.os, b104.tape, b104.output, b104.size, b104.block⟩; replace hT := hT.on qb104; replace sT := (sT.below qb104 (Nat.le_refl _)).more qb104.size; replace sF := (sF.below qb104 (Nat.le_refl _)).more qb104.size; replace sN := (sN.below qb104 (Nat.le_refl _)).more qb104.size; replace kP := kP.below qb104 kP.lt; replace sR := (sR.below qb104 (Nat.le_refl _)).more qb104.size; replace kR := kR.below qb104 kR.lt; replace HBW := below_on HBW qb104 (Nat.le_refl _); clear b104 qb104)
      )
    have ce0 := kR.cell 0 (u := .int .i64 f) rfl
    have ce1 := kR.cell 1 (u := .slice AR pv.length cR) rfl
    by_cases hz : f = 0
    · have hz' : partF q = 0 := by rw [hf.out]; exact hz
      have PF := Lib.hid (show PairFacts q.T pv by rw [← hpv.out]; unfold pairsV; rw [if_pos hz']; exact pair_facts q.T q.N)
      have g0 : (f != 0) = false := by simp [hz]
      have pl := PF.out.few
      clear hz hz'
      have b00 := Lib.hid (Below.refl w104.heap.size w104)
      go_wp2
      go_loopw [5] (fun i wr => ∃ k : Nat, k ≤ pv.length ∧ i = .int .i64 k ∧ Hid (Below w104.heap.size w104 wr)) (fun i _ => pv.length - (intOf i).toNat)
      case atStart => exact ⟨0, by omega, rfl, b00⟩
      case round =>
        clear b00 ce0 ce1
        obtain ⟨k, hk, rfl, BZ⟩ := hrel
        have bR0 := BZ.out
        replace hT := hT.on bR0
        replace sT := (sT.below bR0 (Nat.le_refl _)).more bR0.size
        replace sF := (sF.below bR0 (Nat.le_refl _)).more bR0.size
        replace sN := (sN.below bR0 (Nat.le_refl _)).more bR0.size
        replace kP := kP.below bR0 kP.lt
        replace sR := (sR.below bR0 (Nat.le_refl _)).more bR0.size
        replace kR := kR.below bR0 kR.lt
        replace HBW := below_on HBW bR0 (Nat.le_refl _)
        clear bR0
        by_cases hlt : k < pv.length
        · obtain ⟨ox, cx, ho, hc, hoc, hcT, ha0, ha1, hb0, hb1, hnm⟩ := PF.out.each k hlt
          obtain ⟨bR, offR, cR', eR, hbR, hp0, hp1⟩ := sR.at_ k hlt
          injection eR with eR1 eR2 eR3
          clear eR2
          subst eR1; subst eR3
          obtain ⟨bT, offT, eT⟩ : ∃ b off, A0 = some ⟨b, off, none⟩ := sees_form sT (by omega)
          subst eT
          rw [ho] at hp0
          rw [hc] at hp1
          have HA0 := Lib.hid ha0
          have HA1 := Lib.hid ha1
          have HB0 := Lib.hid hb0
          have HB1 := Lib.hid hb1
          obtain ⟨nm, hnm2⟩ : ∃ m, Hid (brN (nth q.T cx) = m) := ⟨_, Lib.hid rfl⟩
          have HNM := Lib.hid (show brN (nth q.T ox) = nm by rw [hnm]; exact hnm2.out)
          clear ha0 ha1 hb0 hb1 hnm hbR
          have kl : (k : Int) < (pv.length : Int) := by omega
          have ol : (ox : Int) < (q.T.length : Int) := by omega
          have cl : (cx : Int) < (q.T.length : Int) := by omega
          have d1 : decide ((cx : Int) ≤ (ox : Int)) = false := decide_eq_false (by omega)
          have ce1 := kR.cell 1 (u := .slice (some ⟨bR, offR, none⟩) pv.length cR) rfl
          go_wp2_with fail
          have b5 := (Below.refl wr.heap.size wr).alloc (Nat.le_refl _) (.cells #[.int .i64 (ox : Int), .int .i64 (cx : Int)] 34)
          have kx := Blk.new wr 34 #[.int .i64 (ox : Int), .int .i64 (cx : Int)]
          replace hT := hT.on b5
          replace sT := (sT.below b5 (Nat.le_refl _)).more b5.size
          replace sF := (sF.below b5 (Nat.le_refl _)).more b5.size
          replace sN := (sN.below b5 (Nat.le_refl _)).more b5.size
          replace kP := kP.below b5 kP.lt
          replace sR := (sR.below b5 (Nat.le_refl _)).more b5.size
          replace kR := kR.below b5 kR.lt
          replace HBW := below_on HBW b5 (Nat.le_refl _)
          replace BZ := Lib.hid (below_on BZ.out b5 (Nat.le_refl _))
          clear b5
          generalize hg5 : wr.alloc (.cells #[.int .i64 (ox : Int), .int .i64 (cx : Int)] 34) = w5 at *
          clear hg5
          clear hp0 hp1 ce1
          by_cases h0 : k = 0
          · have HK0 := Lib.hid h0
            have gk : decide ((0 : Int) < (k : Int)) = false := decide_eq_false (by omega)
            clear h0
            have bz : Below w5.heap.size w5 w5.drew := ⟨rfl, rfl, rfl, Nat.le_refl _, fun _ _ => rfl⟩
            replace hT := hT.on bz
            replace sT := (sT.below bz (Nat.le_refl _)).more bz.size
            replace sF := (sF.below bz (Nat.le_refl _)).more bz.size
            replace sN := (sN.below bz (Nat.le_refl _)).more bz.size
            replace kP := kP.below bz kP.lt
            replace sR := (sR.below bz (Nat.le_refl _)).more bz.size
            replace kR := kR.below bz kR.lt
            replace kx := kx.below bz kx.lt
            replace HBW := below_on HBW bz (Nat.le_refl _)
            replace BZ := Lib.hid (below_on BZ.out bz (Nat.le_refl _))
            clear bz
            refine wp_region_held_drew (S := fun w' => w'.cell? ⟨wr.heap.size, 0, none⟩ = some (.int .i64 (ox : Int)) ∧ w'.cell? ⟨wr.heap.size, 1, none⟩ = some (.int .i64 (cx : Int)) ∧ w'.cell? ⟨w3.heap.size, 1, none⟩ = some (.slice (some ⟨bR, offR, none⟩) pv.length cR) ∧ w'.cell? ⟨w1.heap.size, 0, none⟩ = some (.slice (some ⟨bT, offT, none⟩) q.T.length c0) ∧ w'.cell? ⟨w1.heap.size, 1, none⟩ = some (.slice AF q.F.length cF) ∧ w'.cell? ⟨w1.heap.size, 2, none⟩ = some (.slice AN q.N.length cN) ∧ w'.cell? ⟨w1.heap.size, 3, none⟩ = some (.int .i64 q.L) ∧ w'.cell? ⟨w1.heap.size, 4, none⟩ = some (.int .i64 q.S) ∧ w'.cell? ⟨w1.heap.size, 5, none⟩ = some (.int .i64 q.E)) (by kernel_rfl) ⟨kx.cell 0 rfl, kx.cell 1 rfl, kR.cell 1 rfl, kP.cell 0 rfl, kP.cell 1 rfl, kP.cell 2 rfl, kP.cell 3 rfl, kP.cell 4 rfl, kP.cell 5 rfl⟩ (fun hHeld => ?_)
            refine wpAnyH_take (i := 0) (oi := { dst := some 55, op := Op.load 34 (Operand.tmp 6), type := 34, pos := "laws.go:306", after := #[], guard := none }) (v := ?_) rfl (by kernel_rfl) (by kernel_rfl) (by kernel_rfl) (fun _ _ _ h => h) (Or.inl ⟨by rfl, ?_⟩) (by assumption) ?_
            rotate_left
            · (intro w hSw; (try dsimp only at hSw); go_simp; try with_reducible rfl)
            try simp only [Act.put, List.setIfInBounds_toArray, List.set_cons_zero, List.set_cons_succ]
            refine wpAnyH_take (i := 1) (oi := { dst := some 56, op := Op.load 26 (Operand.tmp 3), type := 26, pos := "laws.go:306", after := #[], guard := none }) (v := ?_) rfl (by kernel_rfl) (by kernel_rfl) (by kernel_rfl) (fun _ _ _ h => h) (Or.inl ⟨by rfl, ?_⟩) (by assumption) ?_
            rotate_left
            · (intro w hSw; (try dsimp only at hSw); go_simp; try with_reducible rfl)
            try simp only [Act.put, List.setIfInBounds_toArray, List.set_cons_zero, List.set_cons_succ]
            refine wpAnyH_take (i := 4) (oi := { dst := some 59, op := Op.move (Operand.tmp 5), type := 3, pos := "laws.go:306", after := #[], guard := none }) (v := ?_) rfl (by kernel_rfl) (by kernel_rfl) (by kernel_rfl) (fun _ _ _ h => h) (Or.inl ⟨by rfl, ?_⟩) (by assumption) ?_
            rotate_left
            · (intro w hSw; (try dsimp only at hSw); go_simp; try with_reducible rfl)
            try simp only [Act.put, List.setIfInBounds_toArray, List.set_cons_zero, List.set_cons_succ]
            refine wpAnyH_ready (rs := [2]) (by kernel_rfl) (by simp) ?_
            refine AllReadyH.cons (o := { dst := some 57, op := Op.call { callee := Callee.value (Operand.func 11), args := #[Operand.tmp 56], argTypes := #[26] }, type := 30, pos := "laws.go:306", after := #[{ on := 1, ground := Ground.data }], guard := none }) rfl (fun K hK => ?_) AllReadyH.nil
            go_simp
            go_at_call 11
            refine (CPs.out _ sT sF sN).mono ?_
            rintro e w7 ⟨⟨y1, rfl, z1⟩, b7⟩
            have qb7 : Below w5.drew.heap.size w5.drew w7 := ⟨b7.os, b7.tape, b7.output, b7.size, b7.block⟩
            replace hT := hT.on qb7
            replace sT := (sT.below qb7 (Nat.le_refl _)).more qb7.size
            replace sF := (sF.below qb7 (Nat.le_refl _)).more qb7.size
            replace sN := (sN.below qb7 (Nat.le_refl _)).more qb7.size
            replace kP := kP.below qb7 kP.lt
            replace sR := (sR.below qb7 (Nat.le_refl _)).more qb7.size
            replace kR := kR.below qb7 kR.lt
            replace kx := kx.below qb7 kx.lt
            replace HBW := below_on HBW qb7 (Nat.le_refl _)
            replace BZ := Lib.hid (below_on BZ.out qb7 (Nat.le_refl _))
            clear b7 qb7
            obtain ⟨bS, offS, cS, eS, _, hs0, hs1⟩ := z1.sees.at_ k hlt
            subst eS
            rw [ho] at hs0
            rw [hc] at hs1
            clear z1
            try dsimp only
            refine hK.out _ _ ⟨kx.cell 0 rfl, kx.cell 1 rfl, kR.cell 1 rfl, kP.cell 0 rfl, kP.cell 1 rfl, kP.cell 2 rfl, kP.cell 3 rfl, kP.cell 4 rfl, kP.cell 5 rfl⟩ (fun hHeld2 => ?_)
            clear hK K hHeld
            refine wpAnyH_more (S' := fun w' => (w'.cell? ⟨wr.heap.size, 0, none⟩ = some (.int .i64 (ox : Int)) ∧ w'.cell? ⟨wr.heap.size, 1, none⟩ = some (.int .i64 (cx : Int)) ∧ w'.cell? ⟨w3.heap.size, 1, none⟩ = some (.slice (some ⟨bR, offR, none⟩) pv.length cR) ∧ w'.cell? ⟨w1.heap.size, 0, none⟩ = some (.slice (some ⟨bT, offT, none⟩) q.T.length c0) ∧ w'.cell? ⟨w1.heap.size, 1, none⟩ = some (.slice AF q.F.length cF) ∧ w'.cell? ⟨w1.heap.size, 2, none⟩ = some (.slice AN q.N.length cN) ∧ w'.cell? ⟨w1.heap.size, 3, none⟩ = some (.int .i64 q.L) ∧ w'.cell? ⟨w1.heap.size, 4, none⟩ = some (.int .i64 q.S) ∧ w'.cell? ⟨w1.heap.size, 5, none⟩ = some (.int .i64 q.E)) ∧ w'.cell? ⟨bS, offS + k * 2, none⟩ = some (.int .i64 (ox : Int)) ∧ w'.cell? ⟨bS, offS + k * 2 + 1, none⟩ = some (.int .i64 (cx : Int))) (fun _ h => h.1) _ _ _ _ ?_
            have hHeld := And.intro hHeld2 (And.intro hs0 hs1)
            clear hHeld2 hs0 hs1
            try simp only [Act.put, List.setIfInBounds_toArray, List.set_cons_zero, List.set_cons_succ]
            refine wpAnyH_take (i := 3) (oi := { dst := some 58, op := Op.field 30 (Operand.tmp 57) 1, type := 28, pos := "laws.go:306", after := #[{ on := 2, ground := Ground.data }], guard := none }) (v := ?_) rfl (by kernel_rfl) (by kernel_rfl) (by kernel_rfl) (fun _ _ _ h => h) (Or.inl ⟨by rfl, ?_⟩) (by assumption) ?_
            rotate_left
            · (intro w hSw; (try dsimp only at hSw); go_simp; try with_reducible rfl)
            try simp only [Act.put, List.setIfInBounds_toArray, List.set_cons_zero, List.set_cons_succ]
            refine wpAnyH_take (i := 5) (oi := { dst := some 60, op := Op.indexAddr 28 (Operand.tmp 58) (Operand.tmp 59), type := 0, pos := "laws.go:306", after := #[{ on := 3, ground := Ground.data }, { on := 4, ground := Ground.data }], guard := none }) (v := ?_) rfl (by kernel_rfl) (by kernel_rfl) (by kernel_rfl) (fun _ _ _ h => h) (Or.inl ⟨by rfl, ?_⟩) (by assumption) ?_
            rotate_left
            · (intro w hSw; (try dsimp only at hSw); go_simp; try with_reducible rfl)
            try simp only [Act.put, List.setIfInBounds_toArray, List.set_cons_zero, List.set_cons_succ]
            refine wpAnyH_take (i := 6) (oi := { dst := some 61, op := Op.load 34 (Operand.tmp 60), type := 34, pos := "laws.go:306", after := #[{ on := 5, ground := Ground.data }], guard := none }) (v := ?_) rfl (by kernel_rfl) (by kernel_rfl) (by kernel_rfl) (fun _ _ _ h => h) (Or.inl ⟨by rfl, ?_⟩) (by assumption) ?_
            rotate_left
            · (intro w hSw; (try dsimp only at hSw); go_simp; try with_reducible rfl)
            try simp only [Act.put, List.setIfInBounds_toArray, List.set_cons_zero, List.set_cons_succ]
            refine wpAnyH_take (i := 7) (oi := { dst := some 62, op := Op.binOp BinOp.neq 34 (Operand.tmp 55) (Operand.tmp 61) 34, type := 4, pos := "laws.go:306", after := #[{ on := 0, ground := Ground.data }, { on := 6, ground := Ground.data }], guard := none }) (v := ?_) rfl (by kernel_rfl) (by kernel_rfl) (by kernel_rfl) (fun _ _ _ h => h) (Or.inl ⟨by rfl, ?_⟩) (by assumption) ?_
            rotate_left
            · (intro w hSw; (try dsimp only at hSw); go_simp; try with_reducible rfl)
            try simp only [Act.put, List.setIfInBounds_toArray, List.set_cons_zero, List.set_cons_succ]
            refine wpAnyH_take (i := 8) (oi := { dst := some 63, op := Op.move (Operand.tmp 62), type := 4, pos := "laws.go:306", after := #[{ on := 7, ground := Ground.data }, { on := 2, ground := Ground.chain }], guard := none }) (v := ?_) rfl (by kernel_rfl) (by kernel_rfl) (by kernel_rfl) (fun _ _ _ h => h) (Or.inl ⟨by rfl, ?_⟩) (by assumption) ?_
            rotate_left
            · (intro w hSw; (try dsimp only at hSw); go_simp; try with_reducible rfl)
            try simp only [Act.put, List.setIfInBounds_toArray, List.set_cons_zero, List.set_cons_succ]
            refine wpAnyH_take (i := 9) (oi := { dst := some 64, op := Op.fieldAddr 34 (Operand.tmp 6) 0, type := 0, pos := "laws.go:306", after := #[{ on := 8, ground := Ground.guard }], guard := some (8, false) }) (v := ?_) rfl (by kernel_rfl) (by kernel_rfl) (by kernel_rfl) (fun _ _ _ h => h) (Or.inl ⟨by rfl, ?_⟩) (by assumption) ?_
            rotate_left
            · (intro w hSw; (try dsimp only at hSw); go_simp; try with_reducible rfl)
            try simp only [Act.put, List.setIfInBounds_toArray, List.set_cons_zero, List.set_cons_succ]
            refine wpAnyH_take (i := 10) (oi := { dst := some 65, op := Op.load 2 (Operand.tmp 64), type := 2, pos := "laws.go:306", after := #[{ on := 9, ground := Ground.data }, { on := 8, ground := Ground.guard }], guard := some (8, false) }) (v := ?_) rfl (by kernel_rfl) (by kernel_rfl) (by kernel_rfl) (fun _ _ _ h => h) (Or.inl ⟨by rfl, ?_⟩) (by assumption) ?_
            rotate_left
            · (intro w hSw; (try dsimp only at hSw); go_simp; try with_reducible rfl)
            try simp only [Act.put, List.setIfInBounds_toArray, List.set_cons_zero, List.set_cons_succ]
            refine wpAnyH_take (i := 11) (oi := { dst := some 66, op := Op.fieldAddr 34 (Operand.tmp 6) 1, type := 0, pos := "laws.go:306", after := #[{ on := 8, ground := Ground.guard }], guard := some (8, false) }) (v := ?_) rfl (by kernel_rfl) (by kernel_rfl) (by kernel_rfl) (fun _ _ _ h => h) (Or.inl ⟨by rfl, ?_⟩) (by assumption) ?_
            rotate_left
            · (intro w hSw; (try dsimp only at hSw); go_simp; try with_reducible rfl)
            try simp only [Act.put, List.setIfInBounds_toArray, List.set_cons_zero, List.set_cons_succ]
            refine wpAnyH_take (i := 12) (oi := { dst := some 67, op := Op.load 2 (Operand.tmp 66), type := 2, pos := "laws.go:306", after := #[{ on := 11, ground := Ground.data }, { on := 8, ground := Ground.guard }], guard := some (8, false) }) (v := ?_) rfl (by kernel_rfl) (by kernel_rfl) (by kernel_rfl) (fun _ _ _ h => h) (Or.inl ⟨by rfl, ?_⟩) (by assumption) ?_
            rotate_left
            · (intro w hSw; (try dsimp only at hSw); go_simp; try with_reducible rfl)
            try simp only [Act.put, List.setIfInBounds_toArray, List.set_cons_zero, List.set_cons_succ]
            refine wpAnyH_take (i := 13) (oi := { dst := some 68, op := Op.binOp BinOp.geq 2 (Operand.tmp 65) (Operand.tmp 67) 2, type := 4, pos := "laws.go:306", after := #[{ on := 10, ground := Ground.data }, { on := 12, ground := Ground.data }, { on := 8, ground := Ground.guard }], guard := some (8, false) }) (v := .bool false) rfl (by kernel_rfl) (by kernel_rfl) (by kernel_rfl) (fun _ _ _ h => h) (Or.inl ⟨by rfl, ?_⟩) (by assumption) ?_
            · (intro w hSw; (try dsimp only at hSw); go_simp; try (first | rfl | exact HK0.out | omega | (simp; omega)))
            try simp only [Act.put, List.setIfInBounds_toArray, List.set_cons_zero, List.set_cons_succ]
            refine wpAnyH_take (i := 14) (oi := { dst := some 69, op := Op.pick (Operand.tmp 63) (Operand.const (Value.bool true)) (Operand.tmp 68), type := 4, pos := "laws.go:306", after := #[{ on := 8, ground := Ground.data }, { on := 13, ground := Ground.data }], guard := none }) (v := ?_) rfl (by kernel_rfl) (by kernel_rfl) (by kernel_rfl) (fun _ _ _ h => h) (Or.inl ⟨by rfl, ?_⟩) (by assumption) ?_
            rotate_left
            · (intro w hSw; (try dsimp only at hSw); go_simp; try with_reducible rfl)
            try simp only [Act.put, List.setIfInBounds_toArray, List.set_cons_zero, List.set_cons_succ]
            refine wpAnyH_take (i := 15) (oi := { dst := some 70, op := Op.move (Operand.tmp 69), type := 4, pos := "laws.go:306", after := #[{ on := 14, ground := Ground.data }, { on := 8, ground := Ground.chain }], guard := none }) (v := ?_) rfl (by kernel_rfl) (by kernel_rfl) (by kernel_rfl) (fun _ _ _ h => h) (Or.inl ⟨by rfl, ?_⟩) (by assumption) ?_
            rotate_left
            · (intro w hSw; (try dsimp only at hSw); go_simp; try with_reducible rfl)
            try simp only [Act.put, List.setIfInBounds_toArray, List.set_cons_zero, List.set_cons_succ]
            refine wpAnyH_take (i := 16) (oi := { dst := some 71, op := Op.move (Operand.tmp 5), type := 3, pos := "laws.go:306", after := #[{ on := 15, ground := Ground.guard }], guard := some (15, false) }) (v := ?_) rfl (by kernel_rfl) (by kernel_rfl) (by kernel_rfl) (fun _ _ _ h => h) (Or.inl ⟨by rfl, ?_⟩) (by assumption) ?_
            rotate_left
            · (intro w hSw; (try dsimp only at hSw); go_simp; try with_reducible rfl)
            try simp only [Act.put, List.setIfInBounds_toArray, List.set_cons_zero, List.set_cons_succ]
            refine wpAnyH_take (i := 17) (oi := { dst := some 72, op := Op.binOp BinOp.gtr 3 (Operand.tmp 71) (Operand.const (Value.int IntKind.i64 0)) 3, type := 4, pos := "laws.go:306", after := #[{ on := 16, ground := Ground.data }, { on := 15, ground := Ground.guard }], guard := some (15, false) }) (v := .bool false) rfl (by kernel_rfl) (by kernel_rfl) (by kernel_rfl) (fun _ _ _ h => h) (Or.inl ⟨by rfl, ?_⟩) (by assumption) ?_
            · (intro w hSw; (try dsimp only at hSw); go_simp; try (first | rfl | exact HK0.out | omega | (simp; omega)))
            try simp only [Act.put, List.setIfInBounds_toArray, List.set_cons_zero, List.set_cons_succ]
            refine wpAnyH_take (i := 18) (oi := { dst := some 73, op := Op.move (Operand.tmp 72), type := 4, pos := "laws.go:306", after := #[{ on := 17, ground := Ground.data }, { on := 15, ground := Ground.chain }, { on := 15, ground := Ground.guard }], guard := some (15, false) }) (v := ?_) rfl (by kernel_rfl) (by kernel_rfl) (by kernel_rfl) (fun _ _ _ h => h) (Or.inl ⟨by rfl, ?_⟩) (by assumption) ?_
            rotate_left
            · (intro w hSw; (try dsimp only at hSw); go_simp; try with_reducible rfl)
            try simp only [Act.put, List.setIfInBounds_toArray, List.set_cons_zero, List.set_cons_succ]
            refine wpAnyH_take (i := 19) (oi := { dst := some 74, op := Op.fieldAddr 34 (Operand.tmp 6) 0, type := 0, pos := "laws.go:306", after := #[{ on := 18, ground := Ground.guard }], guard := some (18, true) }) (v := undef) rfl (by kernel_rfl) (by kernel_rfl) (by kernel_rfl) (fun _ _ _ h => h) (Or.inr ⟨by rfl, rfl⟩) (by assumption) ?_
            try simp only [Act.put, List.setIfInBounds_toArray, List.set_cons_zero, List.set_cons_succ]
            refine wpAnyH_take (i := 20) (oi := { dst := some 75, op := Op.load 2 (Operand.tmp 74), type := 2, pos := "laws.go:306", after := #[{ on := 19, ground := Ground.data }, { on := 18, ground := Ground.guard }], guard := some (18, true) }) (v := undef) rfl (by kernel_rfl) (by kernel_rfl) (by kernel_rfl) (fun _ _ _ h => h) (Or.inr ⟨by rfl, rfl⟩) (by assumption) ?_
            try simp only [Act.put, List.setIfInBounds_toArray, List.set_cons_zero, List.set_cons_succ]
            refine wpAnyH_take (i := 21) (oi := { dst := some 76, op := Op.fieldAddr 30 (Operand.tmp 4) 1, type := 0, pos := "laws.go:306", after := #[{ on := 18, ground := Ground.guard }], guard := some (18, true) }) (v := undef) rfl (by kernel_rfl) (by kernel_rfl) (by kernel_rfl) (fun _ _ _ h => h) (Or.inr ⟨by rfl, rfl⟩) (by assumption) ?_
            try simp only [Act.put, List.setIfInBounds_toArray, List.set_cons_zero, List.set_cons_succ]
            refine wpAnyH_take (i := 22) (oi := { dst := some 77, op := Op.load 28 (Operand.tmp 76), type := 28, pos := "laws.go:306", after := #[{ on := 21, ground := Ground.data }, { on := 18, ground := Ground.guard }], guard := some (18, true) }) (v := undef) rfl (by kernel_rfl) (by kernel_rfl) (by kernel_rfl) (fun _ _ _ h => h) (Or.inr ⟨by rfl, rfl⟩) (by assumption) ?_
            try simp only [Act.put, List.setIfInBounds_toArray, List.set_cons_zero, List.set_cons_succ]
            refine wpAnyH_take (i := 23) (oi := { dst := some 78, op := Op.move (Operand.tmp 5), type := 3, pos := "laws.go:306", after := #[{ on := 18, ground := Ground.guard }], guard := some (18, true) }) (v := undef) rfl (by kernel_rfl) (by kernel_rfl) (by kernel_rfl) (fun _ _ _ h => h) (Or.inr ⟨by rfl, rfl⟩) (by assumption) ?_
            try simp only [Act.put, List.setIfInBounds_toArray, List.set_cons_zero, List.set_cons_succ]
            refine wpAnyH_take (i := 24) (oi := { dst := some 79, op := Op.binOp BinOp.sub 3 (Operand.tmp 78) (Operand.const (Value.int IntKind.i64 1)) 3, type := 3, pos := "laws.go:306", after := #[{ on := 23, ground := Ground.data }, { on := 18, ground := Ground.guard }], guard := some (18, true) }) (v := undef) rfl (by kernel_rfl) (by kernel_rfl) (by kernel_rfl) (fun _ _ _ h => h) (Or.inr ⟨by rfl, rfl⟩) (by assumption) ?_
            try simp only [Act.put, List.setIfInBounds_toArray, List.set_cons_zero, List.set_cons_succ]
            refine wpAnyH_take (i := 25) (oi := { dst := some 80, op := Op.indexAddr 28 (Operand.tmp 77) (Operand.tmp 79), type := 0, pos := "laws.go:306", after := #[{ on := 22, ground := Ground.data }, { on := 24, ground := Ground.data }, { on := 18, ground := Ground.guard }], guard := some (18, true) }) (v := undef) rfl (by kernel_rfl) (by kernel_rfl) (by kernel_rfl) (fun _ _ _ h => h) (Or.inr ⟨by rfl, rfl⟩) (by assumption) ?_
            try simp only [Act.put, List.setIfInBounds_toArray, List.set_cons_zero, List.set_cons_succ]
            refine wpAnyH_take (i := 26) (oi := { dst := some 81, op := Op.fieldAddr 34 (Operand.tmp 80) 0, type := 0, pos := "laws.go:306", after := #[{ on := 25, ground := Ground.data }, { on := 18, ground := Ground.guard }], guard := some (18, true) }) (v := undef) rfl (by kernel_rfl) (by kernel_rfl) (by kernel_rfl) (fun _ _ _ h => h) (Or.inr ⟨by rfl, rfl⟩) (by assumption) ?_
            try simp only [Act.put, List.setIfInBounds_toArray, List.set_cons_zero, List.set_cons_succ]
            refine wpAnyH_take (i := 27) (oi := { dst := some 82, op := Op.load 2 (Operand.tmp 81), type := 2, pos := "laws.go:306", after := #[{ on := 26, ground := Ground.data }, { on := 18, ground := Ground.guard }], guard := some (18, true) }) (v := undef) rfl (by kernel_rfl) (by kernel_rfl) (by kernel_rfl) (fun _ _ _ h => h) (Or.inr ⟨by rfl, rfl⟩) (by assumption) ?_
            try simp only [Act.put, List.setIfInBounds_toArray, List.set_cons_zero, List.set_cons_succ]
            refine wpAnyH_take (i := 28) (oi := { dst := some 83, op := Op.binOp BinOp.leq 2 (Operand.tmp 75) (Operand.tmp 82) 2, type := 4, pos := "laws.go:306", after := #[{ on := 20, ground := Ground.data }, { on := 27, ground := Ground.data }, { on := 18, ground := Ground.guard }], guard := some (18, true) }) (v := undef) rfl (by kernel_rfl) (by kernel_rfl) (by kernel_rfl) (fun _ _ _ h => h) (Or.inr ⟨by rfl, rfl⟩) (by assumption) ?_
            try simp only [Act.put, List.setIfInBounds_toArray, List.set_cons_zero, List.set_cons_succ]
            refine wpAnyH_take (i := 29) (oi := { dst := some 84, op := Op.pick (Operand.tmp 73) (Operand.tmp 83) (Operand.const (Value.bool false)), type := 4, pos := "laws.go:306", after := #[{ on := 18, ground := Ground.data }, { on := 28, ground := Ground.data }, { on := 15, ground := Ground.guard }], guard := some (15, false) }) (v := ?_) rfl (by kernel_rfl) (by kernel_rfl) (by kernel_rfl) (fun _ _ _ h => h) (Or.inl ⟨by rfl, ?_⟩) (by assumption) ?_
            rotate_left
            · (intro w hSw; (try dsimp only at hSw); go_simp; try with_reducible rfl)
            try simp only [Act.put, List.setIfInBounds_toArray, List.set_cons_zero, List.set_cons_succ]
            refine wpAnyH_take (i := 30) (oi := { dst := some 85, op := Op.pick (Operand.tmp 70) (Operand.const (Value.bool true)) (Operand.tmp 84), type := 4, pos := "laws.go:306", after := #[{ on := 15, ground := Ground.data }, { on := 29, ground := Ground.data }], guard := none }) (v := ?_) rfl (by kernel_rfl) (by kernel_rfl) (by kernel_rfl) (fun _ _ _ h => h) (Or.inl ⟨by rfl, ?_⟩) (by assumption) ?_
            rotate_left
            · (intro w hSw; (try dsimp only at hSw); go_simp; try with_reducible rfl)
            try simp only [Act.put, List.setIfInBounds_toArray, List.set_cons_zero, List.set_cons_succ]
            refine wpAnyH_done (by kernel_rfl) ?_ _
            have cx0 := kx.cell 0 (u := .int .i64 (ox : Int)) rfl
            have cp0 := kP.cell 0 (u := .slice (some ⟨bT, offT, none⟩) q.T.length c0) rfl
            have ht0 := sees_num sT ox (by omega)
            go_wp2_with fail
            refine (specBracketOf_val (nth q.T ox) w7 (nth_all WT.out ox (by omega))).mono ?_
            rintro e w6 ⟨rfl, b6⟩
            rw [HA0.out, HA1.out, HNM.out]
            clear cx0 cp0 ht0
            replace hT := hT.on b6
            replace sT := (sT.below b6 (Nat.le_refl _)).more b6.size
            replace sF := (sF.below b6 (Nat.le_refl _)).more b6.size
            replace sN := (sN.below b6 (Nat.le_refl _)).more b6.size
            replace kP := kP.below b6 kP.lt
            replace sR := (sR.below b6 (Nat.le_refl _)).more b6.size
            replace kR := kR.below b6 kR.lt
            replace kx := kx.below b6 kx.lt
            replace HBW := below_on HBW b6 (Nat.le_refl _)
            replace BZ := Lib.hid (below_on BZ.out b6 (Nat.le_refl _))
            clear b6
            have b7 := (Below.refl w6.heap.size w6).alloc (Nat.le_refl _) (.cells #[.int .i64 0, .bool true, .int .i64 nm] 36)
            have kA := Blk.new w6 36 #[.int .i64 0, .bool true, .int .i64 nm]
            replace hT := hT.on b7
            replace sT := (sT.below b7 (Nat.le_refl _)).more b7.size
            replace sF := (sF.below b7 (Nat.le_refl _)).more b7.size
            replace sN := (sN.below b7 (Nat.le_refl _)).more b7.size
            replace kP := kP.below b7 kP.lt
            replace sR := (sR.below b7 (Nat.le_refl _)).more b7.size
            replace kR := kR.below b7 kR.lt
            replace kx := kx.below b7 kx.lt
            replace HBW := below_on HBW b7 (Nat.le_refl _)
            replace BZ := Lib.hid (below_on BZ.out b7 (Nat.le_refl _))
            clear b7
            have cx0 := kx.cell 1 (u := .int .i64 (cx : Int)) rfl
            have cp0 := kP.cell 0 (u := .slice (some ⟨bT, offT, none⟩) q.T.length c0) rfl
            have ht0 := sees_num sT cx (by omega)
            go_wp2_with fail
            refine (specBracketOf_val (nth q.T cx) (w6.alloc (.cells #[.int .i64 0, .bool true, .int .i64 nm] 36)) (nth_all WT.out cx (by omega))).mono ?_
            rintro e w8 ⟨rfl, b8⟩
            rw [HB0.out, HB1.out, hnm2.out]
            clear cx0 cp0 ht0
            replace hT := hT.on b8
            replace sT := (sT.below b8 (Nat.le_refl _)).more b8.size
            replace sF := (sF.below b8 (Nat.le_refl _)).more b8.size
            replace sN := (sN.below b8 (Nat.le_refl _)).more b8.size
            replace kP := kP.below b8 kP.lt
            replace sR := (sR.below b8 (Nat.le_refl _)).more b8.size
            replace kR := kR.below b8 kR.lt
            replace kx := kx.below b8 kx.lt
            replace kA := kA.below b8 kA.lt
            replace HBW := below_on HBW b8 (Nat.le_refl _)
            replace BZ := Lib.hid (below_on BZ.out b8 (Nat.le_refl _))
            clear b8
            have b9 := (Below.refl w8.heap.size w8).alloc (Nat.le_refl _) (.cells #[.int .i64 0, .bool false, .int .i64 nm] 36)
            have kB := Blk.new w8 36 #[.int .i64 0, .bool false, .int .i64 nm]
            replace hT := hT.on b9
            replace sT := (sT.below b9 (Nat.le_refl _)).more b9.size
            replace sF := (sF.below b9 (Nat.le_refl _)).more b9.size
            replace sN := (sN.below b9 (Nat.le_refl _)).more b9.size
            replace kP := kP.below b9 kP.lt
            replace sR := (sR.below b9 (Nat.le_refl _)).more b9.size
            replace kR := kR.below b9 kR.lt
            replace kx := kx.below b9 kx.lt
            replace kA := kA.below b9 kA.lt
            replace HBW := below_on HBW b9 (Nat.le_refl _)
            replace BZ := Lib.hid (below_on BZ.out b9 (Nat.le_refl _))
            clear b9
            have fa0 := kA.cell 0 (u := .int .i64 0) rfl
            have fa1 := kA.cell 1 (u := .bool true) rfl
            have fa2 := kA.cell 2 (u := .int .i64 nm) rfl
            have fb0 := kB.cell 0 (u := .int .i64 0) rfl
            have fb1 := kB.cell 1 (u := .bool false) rfl
            have fb2 := kB.cell 2 (u := .int .i64 nm) rfl
            go_wp2
            clear fa0 fa1 fa2 fb0 fb1 fb2
            generalize w8.alloc (.cells #[.int .i64 0, .bool false, .int .i64 nm] 36) = w10 at *
            have bI0 := Lib.hid (Below.refl w10.heap.size w10)
            go_loopw [9] (fun i wr => ∃ j : Nat, j ≤ k ∧ i = .int .i64 j ∧ Hid (Below w10.heap.size w10 wr)) (fun i _ => k - (intOf i).toNat)
            case atStart => exact ⟨0, by omega, rfl, bI0⟩
            case round =>
              clear bI0
              obtain ⟨j, hj, rfl, BI⟩ := hrel
              have bJ := BI.out
              replace hT := hT.on bJ
              replace sT := (sT.below bJ (Nat.le_refl _)).more bJ.size
              replace sF := (sF.below bJ (Nat.le_refl _)).more bJ.size
              replace sN := (sN.below bJ (Nat.le_refl _)).more bJ.size
              replace kP := kP.below bJ kP.lt
              replace sR := (sR.below bJ (Nat.le_refl _)).more bJ.size
              replace kR := kR.below bJ kR.lt
              replace kx := kx.below bJ kx.lt
              replace kA := kA.below bJ kA.lt
              replace kB := kB.below bJ kB.lt
              replace HBW := below_on HBW bJ (Nat.le_refl _)
              replace BZ := Lib.hid (below_on BZ.out bJ (Nat.le_refl _))
              clear bJ
              by_cases hlj : j < k
              · obtain ⟨y0, hy0⟩ : ∃ z, Hid ((nthP pv j).1 = z) := ⟨_, Lib.hid rfl⟩
                obtain ⟨y1, hy1⟩ : ∃ z, Hid ((nthP pv j).2 = z) := ⟨_, Lib.hid rfl⟩
                have hp0 := (sees_cells sR j (by omega)).1
                have hp1 := (sees_cells sR j (by omega)).2
                rw [hy0.out] at hp0
                rw [hy1.out] at hp1
                have NE := PF.out.nest j k hlj hlt
                rw [ho, hc, hy1.out] at NE
                have jl : (j : Int) < (pv.length : Int) := by omega
                have jk : (j : Int) < (k : Int) := by omega
                have ce1 := kR.cell 1 (u := .slice (some ⟨bR, offR, none⟩) pv.length cR) rfl
                have b11 := (Below.refl wr.heap.size wr).alloc (Nat.le_refl _) (.cells #[.int .i64 y0, .int .i64 y1] 34)
                have ky := Blk.new wr 34 #[.int .i64 y0, .int .i64 y1]
                replace hT := hT.on b11
                replace sT := (sT.below b11 (Nat.le_refl _)).more b11.size
                replace sF := (sF.below b11 (Nat.le_refl _)).more b11.size
                replace sN := (sN.below b11 (Nat.le_refl _)).more b11.size
                replace kP := kP.below b11 kP.lt
                replace sR := (sR.below b11 (Nat.le_refl _)).more b11.size
                replace kR := kR.below b11 kR.lt
                replace kx := kx.below b11 kx.lt
                replace kA := kA.below b11 kA.lt
                replace kB := kB.below b11 kB.lt
                replace HBW := below_on HBW b11 (Nat.le_refl _)
                replace BZ := Lib.hid (below_on BZ.out b11 (Nat.le_refl _))
                replace BI := Lib.hid (below_on BI.out b11 (Nat.le_refl _))
                clear b11
                have fy1 := ky.cell 1 (u := .int .i64 y1) rfl
                have fx0 := kx.cell 0 (u := .int .i64 (ox : Int)) rfl
                have fx1 := kx.cell 1 (u := .int .i64 (cx : Int)) rfl
                by_cases h9 : (ox : Int) < y1
                · have d2 : decide ((ox : Int) < y1) = true := by simpa using h9
                  have d3 : decide (y1 < (cx : Int)) = false := decide_eq_false (fun h => NE ⟨h9, h⟩)
                  clear h9 NE
                  go_wp2
                  go_roundw
                  case rel => exact ⟨j + 1, by omega, by go_num, BI⟩
                  case measure => first | omega | (simp [intOf]; omega)
                · have d2 : decide ((ox : Int) < y1) = false := by simpa using h9
                  clear h9 NE
                  go_wp2
                  go_roundw
                  case rel => exact ⟨j + 1, by omega, by go_num, BI⟩
                  case measure => first | omega | (simp [intOf]; omega)
              · obtain rfl : j = k := by omega
                clear hlj
                go_wp2
                go_roundw
                case rel => exact ⟨j + 1, by omega, by go_num, BZ⟩
                case measure => first | omega | (simp [intOf]; omega)
          · have HK0 := Lib.hid (show 0 < k by omega)
            have gk : decide ((0 : Int) < (k : Int)) = true := decide_eq_true (by omega)
            obtain ⟨jj, hjk⟩ : ∃ jj : Nat, Hid (k = jj + 1) := ⟨k - 1, Lib.hid (by omega)⟩
            have hjj : jj < pv.length := by have := hjk.out; omega
            have jjl : (jj : Int) < (pv.length : Int) := by omega
            obtain ⟨z0, hz0⟩ : ∃ z, Hid ((nthP pv jj).1 = z) := ⟨_, Lib.hid rfl⟩
            have rz := PF.out.rises jj k (by have := hjk.out; omega) hlt
            rw [ho, hz0.out] at rz
            have d4 : decide ((ox : Int) ≤ z0) = false := decide_eq_false (by omega)
            have SUB := Lib.hid (show IntKind.i64.wrap ((k : Int) - 1) = (jj : Int) by have := hjk.out; rw [IntWalk.i64_in _ (by omega)]; omega)
            clear rz
            clear h0
            have bz : Below w5.heap.size w5 w5.drew := ⟨rfl, rfl, rfl, Nat.le_refl _, fun _ _ => rfl⟩
            replace hT := hT.on bz
            replace sT := (sT.below bz (Nat.le_refl _)).more bz.size
            replace sF := (sF.below bz (Nat.le_refl _)).more bz.size
            replace sN := (sN.below bz (Nat.le_refl _)).more bz.size
            replace kP := kP.below bz kP.lt
            replace sR := (sR.below bz (Nat.le_refl _)).more bz.size
            replace kR := kR.below bz kR.lt
            replace kx := kx.below bz kx.lt
            replace HBW := below_on HBW bz (Nat.le_refl _)
            replace BZ := Lib.hid (below_on BZ.out bz (Nat.le_refl _))
            clear bz
            refine wp_region_held_drew (S := fun w' => w'.cell? ⟨wr.heap.size, 0, none⟩ = some (.int .i64 (ox : Int)) ∧ w'.cell? ⟨wr.heap.size, 1, none⟩ = some (.int .i64 (cx : Int)) ∧ w'.cell? ⟨w3.heap.size, 1, none⟩ = some (.slice (some ⟨bR, offR, none⟩) pv.length cR) ∧ w'.cell? ⟨w1.heap.size, 0, none⟩ = some (.slice (some ⟨bT, offT, none⟩) q.T.length c0) ∧ w'.cell? ⟨w1.heap.size, 1, none⟩ = some (.slice AF q.F.length cF) ∧ w'.cell? ⟨w1.heap.size, 2, none⟩ = some (.slice AN q.N.length cN) ∧ w'.cell? ⟨w1.heap.size, 3, none⟩ = some (.int .i64 q.L) ∧ w'.cell? ⟨w1.heap.size, 4, none⟩ = some (.int .i64 q.S) ∧ w'.cell? ⟨w1.heap.size, 5, none⟩ = some (.int .i64 q.E) ∧ w'.cell? ⟨bR, offR + jj * 2, none⟩ = some (.int .i64 z0)) (by kernel_rfl) ⟨kx.cell 0 rfl, kx.cell 1 rfl, kR.cell 1 rfl, kP.cell 0 rfl, kP.cell 1 rfl, kP.cell 2 rfl, kP.cell 3 rfl, kP.cell 4 rfl, kP.cell 5 rfl, (sees_cells sR jj hjj).1.trans (by rw [hz0.out])⟩ (fun hHeld => ?_)
            refine wpAnyH_take (i := 0) (oi := { dst := some 55, op := Op.load 34 (Operand.tmp 6), type := 34, pos := "laws.go:306", after := #[], guard := none }) (v := ?_) rfl (by kernel_rfl) (by kernel_rfl) (by kernel_rfl) (fun _ _ _ h => h) (Or.inl ⟨by rfl, ?_⟩) (by assumption) ?_
            rotate_left
            · (intro w hSw; (try dsimp only at hSw); go_simp; try with_reducible rfl)
            try simp only [Act.put, List.setIfInBounds_toArray, List.set_cons_zero, List.set_cons_succ]
            refine wpAnyH_take (i := 1) (oi := { dst := some 56, op := Op.load 26 (Operand.tmp 3), type := 26, pos := "laws.go:306", after := #[], guard := none }) (v := ?_) rfl (by kernel_rfl) (by kernel_rfl) (by kernel_rfl) (fun _ _ _ h => h) (Or.inl ⟨by rfl, ?_⟩) (by assumption) ?_
            rotate_left
            · (intro w hSw; (try dsimp only at hSw); go_simp; try with_reducible rfl)
            try simp only [Act.put, List.setIfInBounds_toArray, List.set_cons_zero, List.set_cons_succ]
            refine wpAnyH_take (i := 4) (oi := { dst := some 59, op := Op.move (Operand.tmp 5), type := 3, pos := "laws.go:306", after := #[], guard := none }) (v := ?_) rfl (by kernel_rfl) (by kernel_rfl) (by kernel_rfl) (fun _ _ _ h => h) (Or.inl ⟨by rfl, ?_⟩) (by assumption) ?_
            rotate_left
            · (intro w hSw; (try dsimp only at hSw); go_simp; try with_reducible rfl)
            try simp only [Act.put, List.setIfInBounds_toArray, List.set_cons_zero, List.set_cons_succ]
            refine wpAnyH_ready (rs := [2]) (by kernel_rfl) (by simp) ?_
            refine AllReadyH.cons (o := { dst := some 57, op := Op.call { callee := Callee.value (Operand.func 11), args := #[Operand.tmp 56], argTypes := #[26] }, type := 30, pos := "laws.go:306", after := #[{ on := 1, ground := Ground.data }], guard := none }) rfl (fun K hK => ?_) AllReadyH.nil
            go_simp
            go_at_call 11
            refine (CPs.out _ sT sF sN).mono ?_
            rintro e w7 ⟨⟨y1, rfl, z1⟩, b7⟩
            have qb7 : Below w5.drew.heap.size w5.drew w7 := ⟨b7.os, b7.tape, b7.output, b7.size, b7.block⟩
            replace hT := hT.on qb7
            replace sT := (sT.below qb7 (Nat.le_refl _)).more qb7.size
            replace sF := (sF.below qb7 (Nat.le_refl _)).more qb7.size
            replace sN := (sN.below qb7 (Nat.le_refl _)).more qb7.size
            replace kP := kP.below qb7 kP.lt
            replace sR := (sR.below qb7 (Nat.le_refl _)).more qb7.size
            replace kR := kR.below qb7 kR.lt
            replace kx := kx.below qb7 kx.lt
            replace HBW := below_on HBW qb7 (Nat.le_refl _)
            replace BZ := Lib.hid (below_on BZ.out qb7 (Nat.le_refl _))
            clear b7 qb7
            obtain ⟨bS, offS, cS, eS, _, hs0, hs1⟩ := z1.sees.at_ k hlt
            subst eS
            rw [ho] at hs0
            rw [hc] at hs1
            clear z1
            try dsimp only
            refine hK.out _ _ ⟨kx.cell 0 rfl, kx.cell 1 rfl, kR.cell 1 rfl, kP.cell 0 rfl, kP.cell 1 rfl, kP.cell 2 rfl, kP.cell 3 rfl, kP.cell 4 rfl, kP.cell 5 rfl, (sees_cells sR jj hjj).1.trans (by rw [hz0.out])⟩ (fun hHeld2 => ?_)
            clear hK K hHeld
            refine wpAnyH_more (S' := fun w' => (w'.cell? ⟨wr.heap.size, 0, none⟩ = some (.int .i64 (ox : Int)) ∧ w'.cell? ⟨wr.heap.size, 1, none⟩ = some (.int .i64 (cx : Int)) ∧ w'.cell? ⟨w3.heap.size, 1, none⟩ = some (.slice (some ⟨bR, offR, none⟩) pv.length cR) ∧ w'.cell? ⟨w1.heap.size, 0, none⟩ = some (.slice (some ⟨bT, offT, none⟩) q.T.length c0) ∧ w'.cell? ⟨w1.heap.size, 1, none⟩ = some (.slice AF q.F.length cF) ∧ w'.cell? ⟨w1.heap.size, 2, none⟩ = some (.slice AN q.N.length cN) ∧ w'.cell? ⟨w1.heap.size, 3, none⟩ = some (.int .i64 q.L) ∧ w'.cell? ⟨w1.heap.size, 4, none⟩ = some (.int .i64 q.S) ∧ w'.cell? ⟨w1.heap.size, 5, none⟩ = some (.int .i64 q.E) ∧ w'.cell? ⟨bR, offR + jj * 2, none⟩ = some (.int .i64 z0)) ∧ w'.cell? ⟨bS, offS + k * 2, none⟩ = some (.int .i64 (ox : Int)) ∧ w'.cell? ⟨bS, offS + k * 2 + 1, none⟩ = some (.int .i64 (cx : Int))) (fun _ h => h.1) _ _ _ _ ?_
            have hHeld := And.intro hHeld2 (And.intro hs0 hs1)
            clear hHeld2 hs0 hs1
            try simp only [Act.put, List.setIfInBounds_toArray, List.set_cons_zero, List.set_cons_succ]
            refine wpAnyH_take (i := 3) (oi := { dst := some 58, op := Op.field 30 (Operand.tmp 57) 1, type := 28, pos := "laws.go:306", after := #[{ on := 2, ground := Ground.data }], guard := none }) (v := ?_) rfl (by kernel_rfl) (by kernel_rfl) (by kernel_rfl) (fun _ _ _ h => h) (Or.inl ⟨by rfl, ?_⟩) (by assumption) ?_
            rotate_left
            · (intro w hSw; (try dsimp only at hSw); go_simp; try with_reducible rfl)
            try simp only [Act.put, List.setIfInBounds_toArray, List.set_cons_zero, List.set_cons_succ]
            refine wpAnyH_take (i := 5) (oi := { dst := some 60, op := Op.indexAddr 28 (Operand.tmp 58) (Operand.tmp 59), type := 0, pos := "laws.go:306", after := #[{ on := 3, ground := Ground.data }, { on := 4, ground := Ground.data }], guard := none }) (v := ?_) rfl (by kernel_rfl) (by kernel_rfl) (by kernel_rfl) (fun _ _ _ h => h) (Or.inl ⟨by rfl, ?_⟩) (by assumption) ?_
            rotate_left
            · (intro w hSw; (try dsimp only at hSw); go_simp; try with_reducible rfl)
            try simp only [Act.put, List.setIfInBounds_toArray, List.set_cons_zero, List.set_cons_succ]
            refine wpAnyH_take (i := 6) (oi := { dst := some 61, op := Op.load 34 (Operand.tmp 60), type := 34, pos := "laws.go:306", after := #[{ on := 5, ground := Ground.data }], guard := none }) (v := ?_) rfl (by kernel_rfl) (by kernel_rfl) (by kernel_rfl) (fun _ _ _ h => h) (Or.inl ⟨by rfl, ?_⟩) (by assumption) ?_
            rotate_left
            · (intro w hSw; (try dsimp only at hSw); go_simp; try with_reducible rfl)
            try simp only [Act.put, List.setIfInBounds_toArray, List.set_cons_zero, List.set_cons_succ]
            refine wpAnyH_take (i := 7) (oi := { dst := some 62, op := Op.binOp BinOp.neq 34 (Operand.tmp 55) (Operand.tmp 61) 34, type := 4, pos := "laws.go:306", after := #[{ on := 0, ground := Ground.data }, { on := 6, ground := Ground.data }], guard := none }) (v := ?_) rfl (by kernel_rfl) (by kernel_rfl) (by kernel_rfl) (fun _ _ _ h => h) (Or.inl ⟨by rfl, ?_⟩) (by assumption) ?_
            rotate_left
            · (intro w hSw; (try dsimp only at hSw); go_simp; try with_reducible rfl)
            try simp only [Act.put, List.setIfInBounds_toArray, List.set_cons_zero, List.set_cons_succ]
            refine wpAnyH_take (i := 8) (oi := { dst := some 63, op := Op.move (Operand.tmp 62), type := 4, pos := "laws.go:306", after := #[{ on := 7, ground := Ground.data }, { on := 2, ground := Ground.chain }], guard := none }) (v := ?_) rfl (by kernel_rfl) (by kernel_rfl) (by kernel_rfl) (fun _ _ _ h => h) (Or.inl ⟨by rfl, ?_⟩) (by assumption) ?_
            rotate_left
            · (intro w hSw; (try dsimp only at hSw); go_simp; try with_reducible rfl)
            try simp only [Act.put, List.setIfInBounds_toArray, List.set_cons_zero, List.set_cons_succ]
            refine wpAnyH_take (i := 9) (oi := { dst := some 64, op := Op.fieldAddr 34 (Operand.tmp 6) 0, type := 0, pos := "laws.go:306", after := #[{ on := 8, ground := Ground.guard }], guard := some (8, false) }) (v := ?_) rfl (by kernel_rfl) (by kernel_rfl) (by kernel_rfl) (fun _ _ _ h => h) (Or.inl ⟨by rfl, ?_⟩) (by assumption) ?_
            rotate_left
            · (intro w hSw; (try dsimp only at hSw); go_simp; try with_reducible rfl)
            try simp only [Act.put, List.setIfInBounds_toArray, List.set_cons_zero, List.set_cons_succ]
            refine wpAnyH_take (i := 10) (oi := { dst := some 65, op := Op.load 2 (Operand.tmp 64), type := 2, pos := "laws.go:306", after := #[{ on := 9, ground := Ground.data }, { on := 8, ground := Ground.guard }], guard := some (8, false) }) (v := ?_) rfl (by kernel_rfl) (by kernel_rfl) (by kernel_rfl) (fun _ _ _ h => h) (Or.inl ⟨by rfl, ?_⟩) (by assumption) ?_
            rotate_left
            · (intro w hSw; (try dsimp only at hSw); go_simp; try with_reducible rfl)
            try simp only [Act.put, List.setIfInBounds_toArray, List.set_cons_zero, List.set_cons_succ]
            refine wpAnyH_take (i := 11) (oi := { dst := some 66, op := Op.fieldAddr 34 (Operand.tmp 6) 1, type := 0, pos := "laws.go:306", after := #[{ on := 8, ground := Ground.guard }], guard := some (8, false) }) (v := ?_) rfl (by kernel_rfl) (by kernel_rfl) (by kernel_rfl) (fun _ _ _ h => h) (Or.inl ⟨by rfl, ?_⟩) (by assumption) ?_
            rotate_left
            · (intro w hSw; (try dsimp only at hSw); go_simp; try with_reducible rfl)
            try simp only [Act.put, List.setIfInBounds_toArray, List.set_cons_zero, List.set_cons_succ]
            refine wpAnyH_take (i := 12) (oi := { dst := some 67, op := Op.load 2 (Operand.tmp 66), type := 2, pos := "laws.go:306", after := #[{ on := 11, ground := Ground.data }, { on := 8, ground := Ground.guard }], guard := some (8, false) }) (v := ?_) rfl (by kernel_rfl) (by kernel_rfl) (by kernel_rfl) (fun _ _ _ h => h) (Or.inl ⟨by rfl, ?_⟩) (by assumption) ?_
            rotate_left
            · (intro w hSw; (try dsimp only at hSw); go_simp; try with_reducible rfl)
            try simp only [Act.put, List.setIfInBounds_toArray, List.set_cons_zero, List.set_cons_succ]
            refine wpAnyH_take (i := 13) (oi := { dst := some 68, op := Op.binOp BinOp.geq 2 (Operand.tmp 65) (Operand.tmp 67) 2, type := 4, pos := "laws.go:306", after := #[{ on := 10, ground := Ground.data }, { on := 12, ground := Ground.data }, { on := 8, ground := Ground.guard }], guard := some (8, false) }) (v := .bool false) rfl (by kernel_rfl) (by kernel_rfl) (by kernel_rfl) (fun _ _ _ h => h) (Or.inl ⟨by rfl, ?_⟩) (by assumption) ?_
            · (intro w hSw; (try dsimp only at hSw); go_simp; try (first | rfl | exact HK0.out | omega | (simp; omega)))
            try simp only [Act.put, List.setIfInBounds_toArray, List.set_cons_zero, List.set_cons_succ]
            refine wpAnyH_take (i := 14) (oi := { dst := some 69, op := Op.pick (Operand.tmp 63) (Operand.const (Value.bool true)) (Operand.tmp 68), type := 4, pos := "laws.go:306", after := #[{ on := 8, ground := Ground.data }, { on := 13, ground := Ground.data }], guard := none }) (v := ?_) rfl (by kernel_rfl) (by kernel_rfl) (by kernel_rfl) (fun _ _ _ h => h) (Or.inl ⟨by rfl, ?_⟩) (by assumption) ?_
            rotate_left
            · (intro w hSw; (try dsimp only at hSw); go_simp; try with_reducible rfl)
            try simp only [Act.put, List.setIfInBounds_toArray, List.set_cons_zero, List.set_cons_succ]
            refine wpAnyH_take (i := 15) (oi := { dst := some 70, op := Op.move (Operand.tmp 69), type := 4, pos := "laws.go:306", after := #[{ on := 14, ground := Ground.data }, { on := 8, ground := Ground.chain }], guard := none }) (v := ?_) rfl (by kernel_rfl) (by kernel_rfl) (by kernel_rfl) (fun _ _ _ h => h) (Or.inl ⟨by rfl, ?_⟩) (by assumption) ?_
            rotate_left
            · (intro w hSw; (try dsimp only at hSw); go_simp; try with_reducible rfl)
            try simp only [Act.put, List.setIfInBounds_toArray, List.set_cons_zero, List.set_cons_succ]
            refine wpAnyH_take (i := 16) (oi := { dst := some 71, op := Op.move (Operand.tmp 5), type := 3, pos := "laws.go:306", after := #[{ on := 15, ground := Ground.guard }], guard := some (15, false) }) (v := ?_) rfl (by kernel_rfl) (by kernel_rfl) (by kernel_rfl) (fun _ _ _ h => h) (Or.inl ⟨by rfl, ?_⟩) (by assumption) ?_
            rotate_left
            · (intro w hSw; (try dsimp only at hSw); go_simp; try with_reducible rfl)
            try simp only [Act.put, List.setIfInBounds_toArray, List.set_cons_zero, List.set_cons_succ]
            refine wpAnyH_take (i := 17) (oi := { dst := some 72, op := Op.binOp BinOp.gtr 3 (Operand.tmp 71) (Operand.const (Value.int IntKind.i64 0)) 3, type := 4, pos := "laws.go:306", after := #[{ on := 16, ground := Ground.data }, { on := 15, ground := Ground.guard }], guard := some (15, false) }) (v := .bool true) rfl (by kernel_rfl) (by kernel_rfl) (by kernel_rfl) (fun _ _ _ h => h) (Or.inl ⟨by rfl, ?_⟩) (by assumption) ?_
            · (intro w hSw; (try dsimp only at hSw); go_simp; try (first | rfl | exact HK0.out | omega | (simp; omega)))
            try simp only [Act.put, List.setIfInBounds_toArray, List.set_cons_zero, List.set_cons_succ]
            refine wpAnyH_take (i := 18) (oi := { dst := some 73, op := Op.move (Operand.tmp 72), type := 4, pos := "laws.go:306", after := #[{ on := 17, ground := Ground.data }, { on := 15, ground := Ground.chain }, { on := 15, ground := Ground.guard }], guard := some (15, false) }) (v := ?_) rfl (by kernel_rfl) (by kernel_rfl) (by kernel_rfl) (fun _ _ _ h => h) (Or.inl ⟨by rfl, ?_⟩) (by assumption) ?_
            rotate_left
            · (intro w hSw; (try dsimp only at hSw); go_simp; try with_reducible rfl)
            try simp only [Act.put, List.setIfInBounds_toArray, List.set_cons_zero, List.set_cons_succ]
            refine wpAnyH_take (i := 19) (oi := { dst := some 74, op := Op.fieldAddr 34 (Operand.tmp 6) 0, type := 0, pos := "laws.go:306", after := #[{ on := 18, ground := Ground.guard }], guard := some (18, true) }) (v := ?_) rfl (by kernel_rfl) (by kernel_rfl) (by kernel_rfl) (fun _ _ _ h => h) (Or.inl ⟨by rfl, ?_⟩) (by assumption) ?_
            rotate_left
            · (intro w hSw; (try dsimp only at hSw); go_simp; try with_reducible rfl)
            try simp only [Act.put, List.setIfInBounds_toArray, List.set_cons_zero, List.set_cons_succ]
            refine wpAnyH_take (i := 20) (oi := { dst := some 75, op := Op.load 2 (Operand.tmp 74), type := 2, pos := "laws.go:306", after := #[{ on := 19, ground := Ground.data }, { on := 18, ground := Ground.guard }], guard := some (18, true) }) (v := ?_) rfl (by kernel_rfl) (by kernel_rfl) (by kernel_rfl) (fun _ _ _ h => h) (Or.inl ⟨by rfl, ?_⟩) (by assumption) ?_
            rotate_left
            · (intro w hSw; (try dsimp only at hSw); go_simp; try with_reducible rfl)
            try simp only [Act.put, List.setIfInBounds_toArray, List.set_cons_zero, List.set_cons_succ]
            refine wpAnyH_take (i := 21) (oi := { dst := some 76, op := Op.fieldAddr 30 (Operand.tmp 4) 1, type := 0, pos := "laws.go:306", after := #[{ on := 18, ground := Ground.guard }], guard := some (18, true) }) (v := ?_) rfl (by kernel_rfl) (by kernel_rfl) (by kernel_rfl) (fun _ _ _ h => h) (Or.inl ⟨by rfl, ?_⟩) (by assumption) ?_
            rotate_left
            · (intro w hSw; (try dsimp only at hSw); go_simp; try with_reducible rfl)
            try simp only [Act.put, List.setIfInBounds_toArray, List.set_cons_zero, List.set_cons_succ]
            refine wpAnyH_take (i := 22) (oi := { dst := some 77, op := Op.load 28 (Operand.tmp 76), type := 28, pos := "laws.go:306", after := #[{ on := 21, ground := Ground.data }, { on := 18, ground := Ground.guard }], guard := some (18, true) }) (v := ?_) rfl (by kernel_rfl) (by kernel_rfl) (by kernel_rfl) (fun _ _ _ h => h) (Or.inl ⟨by rfl, ?_⟩) (by assumption) ?_
            rotate_left
            · (intro w hSw; (try dsimp only at hSw); go_simp; try with_reducible rfl)
            try simp only [Act.put, List.setIfInBounds_toArray, List.set_cons_zero, List.set_cons_succ]
            refine wpAnyH_take (i := 23) (oi := { dst := some 78, op := Op.move (Operand.tmp 5), type := 3, pos := "laws.go:306", after := #[{ on := 18, ground := Ground.guard }], guard := some (18, true) }) (v := ?_) rfl (by kernel_rfl) (by kernel_rfl) (by kernel_rfl) (fun _ _ _ h => h) (Or.inl ⟨by rfl, ?_⟩) (by assumption) ?_
            rotate_left
            · (intro w hSw; (try dsimp only at hSw); go_simp; try with_reducible rfl)
            try simp only [Act.put, List.setIfInBounds_toArray, List.set_cons_zero, List.set_cons_succ]
            refine wpAnyH_take (i := 24) (oi := { dst := some 79, op := Op.binOp BinOp.sub 3 (Operand.tmp 78) (Operand.const (Value.int IntKind.i64 1)) 3, type := 3, pos := "laws.go:306", after := #[{ on := 23, ground := Ground.data }, { on := 18, ground := Ground.guard }], guard := some (18, true) }) (v := .int .i64 (jj : Int)) rfl (by kernel_rfl) (by kernel_rfl) (by kernel_rfl) (fun _ _ _ h => h) (Or.inl ⟨by rfl, ?_⟩) (by assumption) ?_
            · (intro w hSw; (try dsimp only at hSw); go_simp; try (first | exact SUB.out | (rw [SUB.out]; done) | simp [SUB.out]))
            try simp only [Act.put, List.setIfInBounds_toArray, List.set_cons_zero, List.set_cons_succ]
            refine wpAnyH_take (i := 25) (oi := { dst := some 80, op := Op.indexAddr 28 (Operand.tmp 77) (Operand.tmp 79), type := 0, pos := "laws.go:306", after := #[{ on := 22, ground := Ground.data }, { on := 24, ground := Ground.data }, { on := 18, ground := Ground.guard }], guard := some (18, true) }) (v := ?_) rfl (by kernel_rfl) (by kernel_rfl) (by kernel_rfl) (fun _ _ _ h => h) (Or.inl ⟨by rfl, ?_⟩) (by assumption) ?_
            rotate_left
            · (intro w hSw; (try dsimp only at hSw); go_simp; try with_reducible rfl)
            try simp only [Act.put, List.setIfInBounds_toArray, List.set_cons_zero, List.set_cons_succ]
            refine wpAnyH_take (i := 26) (oi := { dst := some 81, op := Op.fieldAddr 34 (Operand.tmp 80) 0, type := 0, pos := "laws.go:306", after := #[{ on := 25, ground := Ground.data }, { on := 18, ground := Ground.guard }], guard := some (18, true) }) (v := ?_) rfl (by kernel_rfl) (by kernel_rfl) (by kernel_rfl) (fun _ _ _ h => h) (Or.inl ⟨by rfl, ?_⟩) (by assumption) ?_
            rotate_left
            · (intro w hSw; (try dsimp only at hSw); go_simp; try with_reducible rfl)
            try simp only [Act.put, List.setIfInBounds_toArray, List.set_cons_zero, List.set_cons_succ]
            refine wpAnyH_take (i := 27) (oi := { dst := some 82, op := Op.load 2 (Operand.tmp 81), type := 2, pos := "laws.go:306", after := #[{ on := 26, ground := Ground.data }, { on := 18, ground := Ground.guard }], guard := some (18, true) }) (v := ?_) rfl (by kernel_rfl) (by kernel_rfl) (by kernel_rfl) (fun _ _ _ h => h) (Or.inl ⟨by rfl, ?_⟩) (by assumption) ?_
            rotate_left
            · (intro w hSw; (try dsimp only at hSw); go_simp; try with_reducible rfl)
            try simp only [Act.put, List.setIfInBounds_toArray, List.set_cons_zero, List.set_cons_succ]
            refine wpAnyH_take (i := 28) (oi := { dst := some 83, op := Op.binOp BinOp.leq 2 (Operand.tmp 75) (Operand.tmp 82) 2, type := 4, pos := "laws.go:306", after := #[{ on := 20, ground := Ground.data }, { on := 27, ground := Ground.data }, { on := 18, ground := Ground.guard }], guard := some (18, true) }) (v := .bool false) rfl (by kernel_rfl) (by kernel_rfl) (by kernel_rfl) (fun _ _ _ h => h) (Or.inl ⟨by rfl, ?_⟩) (by assumption) ?_
            · (intro w hSw; (try dsimp only at hSw); go_simp; try (first | rfl | exact HK0.out | omega | (simp; omega)))
            try simp only [Act.put, List.setIfInBounds_toArray, List.set_cons_zero, List.set_cons_succ]
            refine wpAnyH_take (i := 29) (oi := { dst := some 84, op := Op.pick (Operand.tmp 73) (Operand.tmp 83) (Operand.const (Value.bool false)), type := 4, pos := "laws.go:306", after := #[{ on := 18, ground := Ground.data }, { on := 28, ground := Ground.data }, { on := 15, ground := Ground.guard }], guard := some (15, false) }) (v := ?_) rfl (by kernel_rfl) (by kernel_rfl) (by kernel_rfl) (fun _ _ _ h => h) (Or.inl ⟨by rfl, ?_⟩) (by assumption) ?_
            rotate_left
            · (intro w hSw; (try dsimp only at hSw); go_simp; try with_reducible rfl)
            try simp only [Act.put, List.setIfInBounds_toArray, List.set_cons_zero, List.set_cons_succ]
            refine wpAnyH_take (i := 30) (oi := { dst := some 85, op := Op.pick (Operand.tmp 70) (Operand.const (Value.bool true)) (Operand.tmp 84), type := 4, pos := "laws.go:306", after := #[{ on := 15, ground := Ground.data }, { on := 29, ground := Ground.data }], guard := none }) (v := ?_) rfl (by kernel_rfl) (by kernel_rfl) (by kernel_rfl) (fun _ _ _ h => h) (Or.inl ⟨by rfl, ?_⟩) (by assumption) ?_
            rotate_left
            · (intro w hSw; (try dsimp only at hSw); go_simp; try with_reducible rfl)
            try simp only [Act.put, List.setIfInBounds_toArray, List.set_cons_zero, List.set_cons_succ]
            refine wpAnyH_done (by kernel_rfl) ?_ _
            have cx0 := kx.cell 0 (u := .int .i64 (ox : Int)) rfl
            have cp0 := kP.cell 0 (u := .slice (some ⟨bT, offT, none⟩) q.T.length c0) rfl
            have ht0 := sees_num sT ox (by omega)
            go_wp2_with fail
            refine (specBracketOf_val (nth q.T ox) w7 (nth_all WT.out ox (by omega))).mono ?_
            rintro e w6 ⟨rfl, b6⟩
            rw [HA0.out, HA1.out, HNM.out]
            clear cx0 cp0 ht0
            replace hT := hT.on b6
            replace sT := (sT.below b6 (Nat.le_refl _)).more b6.size
            replace sF := (sF.below b6 (Nat.le_refl _)).more b6.size
            replace sN := (sN.below b6 (Nat.le_refl _)).more b6.size
            replace kP := kP.below b6 kP.lt
            replace sR := (sR.below b6 (Nat.le_refl _)).more b6.size
            replace kR := kR.below b6 kR.lt
            replace kx := kx.below b6 kx.lt
            replace HBW := below_on HBW b6 (Nat.le_refl _)
            replace BZ := Lib.hid (below_on BZ.out b6 (Nat.le_refl _))
            clear b6
            have b7 := (Below.refl w6.heap.size w6).alloc (Nat.le_refl _) (.cells #[.int .i64 0, .bool true, .int .i64 nm] 36)
            have kA := Blk.new w6 36 #[.int .i64 0, .bool true, .int .i64 nm]
            replace hT := hT.on b7
            replace sT := (sT.below b7 (Nat.le_refl _)).more b7.size
            replace sF := (sF.below b7 (Nat.le_refl _)).more b7.size
            replace sN := (sN.below b7 (Nat.le_refl _)).more b7.size
            replace kP := kP.below b7 kP.lt
            replace sR := (sR.below b7 (Nat.le_refl _)).more b7.size
            replace kR := kR.below b7 kR.lt
            replace kx := kx.below b7 kx.lt
            replace HBW := below_on HBW b7 (Nat.le_refl _)
            replace BZ := Lib.hid (below_on BZ.out b7 (Nat.le_refl _))
            clear b7
            have cx0 := kx.cell 1 (u := .int .i64 (cx : Int)) rfl
            have cp0 := kP.cell 0 (u := .slice (some ⟨bT, offT, none⟩) q.T.length c0) rfl
            have ht0 := sees_num sT cx (by omega)
            go_wp2_with fail
            refine (specBracketOf_val (nth q.T cx) (w6.alloc (.cells #[.int .i64 0, .bool true, .int .i64 nm] 36)) (nth_all WT.out cx (by omega))).mono ?_
            rintro e w8 ⟨rfl, b8⟩
            rw [HB0.out, HB1.out, hnm2.out]
            clear cx0 cp0 ht0
            replace hT := hT.on b8
            replace sT := (sT.below b8 (Nat.le_refl _)).more b8.size
            replace sF := (sF.below b8 (Nat.le_refl _)).more b8.size
            replace sN := (sN.below b8 (Nat.le_refl _)).more b8.size
            replace kP := kP.below b8 kP.lt
            replace sR := (sR.below b8 (Nat.le_refl _)).more b8.size
            replace kR := kR.below b8 kR.lt
            replace kx := kx.below b8 kx.lt
            replace kA := kA.below b8 kA.lt
            replace HBW := below_on HBW b8 (Nat.le_refl _)
            replace BZ := Lib.hid (below_on BZ.out b8 (Nat.le_refl _))
            clear b8
            have b9 := (Below.refl w8.heap.size w8).alloc (Nat.le_refl _) (.cells #[.int .i64 0, .bool false, .int .i64 nm] 36)
            have kB := Blk.new w8 36 #[.int .i64 0, .bool false, .int .i64 nm]
            replace hT := hT.on b9
            replace sT := (sT.below b9 (Nat.le_refl _)).more b9.size
            replace sF := (sF.below b9 (Nat.le_refl _)).more b9.size
            replace sN := (sN.below b9 (Nat.le_refl _)).more b9.size
            replace kP := kP.below b9 kP.lt
            replace sR := (sR.below b9 (Nat.le_refl _)).more b9.size
            replace kR := kR.below b9 kR.lt
            replace kx := kx.below b9 kx.lt
            replace kA := kA.below b9 kA.lt
            replace HBW := below_on HBW b9 (Nat.le_refl _)
            replace BZ := Lib.hid (below_on BZ.out b9 (Nat.le_refl _))
            clear b9
            have fa0 := kA.cell 0 (u := .int .i64 0) rfl
            have fa1 := kA.cell 1 (u := .bool true) rfl
            have fa2 := kA.cell 2 (u := .int .i64 nm) rfl
            have fb0 := kB.cell 0 (u := .int .i64 0) rfl
            have fb1 := kB.cell 1 (u := .bool false) rfl
            have fb2 := kB.cell 2 (u := .int .i64 nm) rfl
            go_wp2
            clear fa0 fa1 fa2 fb0 fb1 fb2
            generalize w8.alloc (.cells #[.int .i64 0, .bool false, .int .i64 nm] 36) = w10 at *
            have bI0 := Lib.hid (Below.refl w10.heap.size w10)
            go_loopw [9] (fun i wr => ∃ j : Nat, j ≤ k ∧ i = .int .i64 j ∧ Hid (Below w10.heap.size w10 wr)) (fun i _ => k - (intOf i).toNat)
            case atStart => exact ⟨0, by omega, rfl, bI0⟩
            case round =>
              clear bI0
              obtain ⟨j, hj, rfl, BI⟩ := hrel
              have bJ := BI.out
              replace hT := hT.on bJ
              replace sT := (sT.below bJ (Nat.le_refl _)).more bJ.size
              replace sF := (sF.below bJ (Nat.le_refl _)).more bJ.size
              replace sN := (sN.below bJ (Nat.le_refl _)).more bJ.size
              replace kP := kP.below bJ kP.lt
              replace sR := (sR.below bJ (Nat.le_refl _)).more bJ.size
              replace kR := kR.below bJ kR.lt
              replace kx := kx.below bJ kx.lt
              replace kA := kA.below bJ kA.lt
              replace kB := kB.below bJ kB.lt
              replace HBW := below_on HBW bJ (Nat.le_refl _)
              replace BZ := Lib.hid (below_on BZ.out bJ (Nat.le_refl _))
              clear bJ
              by_cases hlj : j < k
              · obtain ⟨y0, hy0⟩ : ∃ z, Hid ((nthP pv j).1 = z) := ⟨_, Lib.hid rfl⟩
                obtain ⟨y1, hy1⟩ : ∃ z, Hid ((nthP pv j).2 = z) := ⟨_, Lib.hid rfl⟩
                have hp0 := (sees_cells sR j (by omega)).1
                have hp1 := (sees_cells sR j (by omega)).2
                rw [hy0.out] at hp0
                rw [hy1.out] at hp1
                have NE := PF.out.nest j k hlj hlt
                rw [ho, hc, hy1.out] at NE
                have jl : (j : Int) < (pv.length : Int) := by omega
                have jk : (j : Int) < (k : Int) := by omega
                have ce1 := kR.cell 1 (u := .slice (some ⟨bR, offR, none⟩) pv.length cR) rfl
                have b11 := (Below.refl wr.heap.size wr).alloc (Nat.le_refl _) (.cells #[.int .i64 y0, .int .i64 y1] 34)
                have ky := Blk.new wr 34 #[.int .i64 y0, .int .i64 y1]
                replace hT := hT.on b11
                replace sT := (sT.below b11 (Nat.le_refl _)).more b11.size
                replace sF := (sF.below b11 (Nat.le_refl _)).more b11.size
                replace sN := (sN.below b11 (Nat.le_refl _)).more b11.size
                replace kP := kP.below b11 kP.lt
                replace sR := (sR.below b11 (Nat.le_refl _)).more b11.size
                replace kR := kR.below b11 kR.lt
                replace kx := kx.below b11 kx.lt
                replace kA := kA.below b11 kA.lt
                replace kB := kB.below b11 kB.lt
                replace HBW := below_on HBW b11 (Nat.le_refl _)
                replace BZ := Lib.hid (below_on BZ.out b11 (Nat.le_refl _))
                replace BI := Lib.hid (below_on BI.out b11 (Nat.le_refl _))
                clear b11
                have fy1 := ky.cell 1 (u := .int .i64 y1) rfl
                have fx0 := kx.cell 0 (u := .int .i64 (ox : Int)) rfl
                have fx1 := kx.cell 1 (u := .int .i64 (cx : Int)) rfl
                by_cases h9 : (ox : Int) < y1
                · have d2 : decide ((ox : Int) < y1) = true := by simpa using h9
                  have d3 : decide (y1 < (cx : Int)) = false := decide_eq_false (fun h => NE ⟨h9, h⟩)
                  clear h9 NE
                  go_wp2
                  go_roundw
                  case rel => exact ⟨j + 1, by omega, by go_num, BI⟩
                  case measure => first | omega | (simp [intOf]; omega)
                · have d2 : decide ((ox : Int) < y1) = false := by simpa using h9
                  clear h9 NE
                  go_wp2
                  go_roundw
                  case rel => exact ⟨j + 1, by omega, by go_num, BI⟩
                  case measure => first | omega | (simp [intOf]; omega)
              · obtain rfl : j = k := by omega
                clear hlj
                go_wp2
                go_roundw
                case rel => exact ⟨j + 1, by omega, by go_num, BZ⟩
                case measure => first | omega | (simp [intOf]; omega)
        · obtain rfl : k = pv.length := by omega
          clear hlt
          have ce1 := kR.cell 1 (u := .slice AR pv.length cR) rfl
          go_wp2
          go_ret
          exact ⟨rfl, HBW⟩
    · have g0 : (f != 0) = true := by simpa using hz
      clear hz
      go_wp2
      go_ret
      exact ⟨rfl, HBW⟩
end Go.Proofs.YtkkojemnbcddfaaDoor.fnPairs

namespace Go.Proofs.YtkkojemnbcddfaaDoor.fnPairs
open Go.ChangeShapes Go.WideShapes Go.ChangeAt Go.RowKit


theorem own : ownKnob Tryd.prog.godebug = none := by kernel_rfl
theorem laidOut : laidOutB Tryd.prog = true := by kernel_rfl

set_option maxRecDepth 100000 in
theorem contract (H : Type) (enc : TypeId × Value → H) (W : World) (base : Nat) (args : Array Value) (ds gs : List (DataW H)) (before : List MemPlace)
    (hval0 : ∀ (j : Nat) t v, Tryd.f3.params[j]? = some t → args[j]? = some v → Value.okWide Tryd.prog W .any base t v)
    (hW : DataW.Whole enc Tryd.prog Tryd.f3.params.toList Rows.fnPairsSpec.vars false W args.toList ds gs before) (hL : laidMetH Tryd.prog Rows.fnPairsRow.laid W) :
    Calls Tryd.prog 3 args W fun e W' => ∃ v, e = .returned v ∧ Rows.fnPairsSpec.post enc Tryd.prog Tryd.f3 false true false false W args v W' := by
  have hval : ∀ (j : Nat) t v, Tryd.f3.params[j]? = some t → args[j]? = some v → Value.okWide Tryd.prog W .any base t v := hval0
  have hW' := hW
  obtain ⟨p, q, hA0, hV, rfl, _, _⟩ := hW
  have hA : DataW.TrodAll enc Tryd.prog W 0 (fun _ => true) true Tryd.f3.params.toList args.toList ds p := hA0
  rw [Tryd.params3] at hA hval
  obtain ⟨v0, vs0, d0, ds0, p0, q0, hargs, rfl, rfl, h0, r0⟩ := trodAll_cons hA
  obtain ⟨rfl, rfl, rfl⟩ := trodAll_nil r0
  obtain rfl : args = #[v0] := by cases args; simp_all
  obtain ⟨gv, tv, csv, fuelv, dg, pg, rfl, -⟩ := trodVars_one hV
  clear hA0 hval0
  simp only [List.append_nil] at hW'
  obtain ⟨A0, zs0, c0, rfl, hr0, hw0⟩ := open_nums Tryd.underlying22 Tryd.underlying5 (by kernel_rfl) (hval 0 22 v0 rfl rfl) h0 (fun x hx => by simpa using hW'.lt x (by simp [hx]))
  refine (walk (pairs_of (l := Rows.fnPairsRow.laid) hL (by simp [Rows.fnPairsRow])) A0 zs0 c0 hr0 hw0).mono fun e W' ⟨he, hb⟩ => ?_
  subst he
  exact ⟨_, rfl, law_postV (gs := [dg]) laidOut (by decide +kernel) (by kernel_rfl) rfl Tryd.underlying4 rfl rfl rfl hW' hb⟩

set_option maxRecDepth 100000 in
theorem laid_met (os : Os) : laidMet Tryd.prog Rows.fnPairsRow.laid ((pairsWorld os).forCall (fun _ _ => 0) ⟨#[], #[.slice none 0 0], []⟩).memory :=
  laidMet_of_run' 8 (by kernel_rfl) (by kernel_rfl)
set_option maxRecDepth 100000 in
theorem reads (os : Os) {H : Type} (enc : TypeId × Value → H) : ∃ places, DataW.whole enc Tryd.prog ((pairsWorld os).forCall (fun _ _ => 0) ⟨#[], #[.slice none 0 0], []⟩).memory Tryd.f3.params.toList Rows.fnPairsSpec.vars false (#[.slice none 0 0] : Array Value).toList 8 = some ([.nil], [Rows.laid_loop_example_g00739_impl_pairs], places) :=
  ⟨MemPlace.row ⟨0, 0, none⟩ 18, by kernel_rfl⟩

set_option maxRecDepth 100000 in
theorem lifted (os : Os) (started : os.Started) (H : Type) (enc : TypeId × Value → H) (F : Stop.Interp) :
    ReturnsInHanded {} Tryd.checked os 3 .any ((OpenSpec.ofChange Rows.fnPairsSpec).preRow enc Tryd.prog Tryd.f3 Rows.fnPairsRow.domain false Rows.fnPairsRow.laid) (((OpenSpec.ofChange Rows.fnPairsSpec).at F).post enc Tryd.prog Tryd.f3 false true false false) := by
  obtain ⟨places, hx⟩ := reads os enc
  refine returnsInHanded_of_row (C := Tryd.checked) (s := OpenSpec.ofChange Rows.fnPairsSpec) own started (by kernel_rfl) Tryd.func3
    (witness_row_at (enc := enc) (C := Tryd.checked) false (pairsWorld os) #[.slice none 0 0] rfl (by kernel_rfl) (by kernel_rfl) (by kernel_rfl)
      (OpenSpec.preRow_of_cond 8 hx (by kernel_rfl) (fun k hk => by cases hk) (by kernel_rfl) (laid_met os))) ?_
  intro W base args ds gs before hval hW _ _ _ hL _ _
  exact contract H enc W base args ds gs before hval hW hL

theorem said : Rows.FnPairsSaid :=
  OpenClaim.holds_of_cond 3 Tryd.f3 rfl rfl rfl rfl rfl rfl rfl ⟨rfl, rfl, rfl, rfl, rfl⟩ rfl rfl rfl rfl rfl (by kernel_rfl) Tryd.func3 (by kernel_rfl)
    (of_decide_eq_true (by kernel_rfl)) (by unfold Func.isWrapper; first | (rw [if_pos (by decide +kernel)]; kernel_rfl) | (rw [if_neg (by decide +kernel)]; exact ⟨rfl, rfl⟩))
    (fun os started H enc _ F => by rw [OpenClaim.pre_eq_preRow]; exact lifted os started H enc F)

theorem plain (f : FuncId) (fn : Func) (hf : Tryd.pinned.checked.prog.funcNamed "loop.example/g00739/laws.FnPairs" = some f) (hfn : Tryd.pinned.checked.prog.funcs[f]? = some fn) :
    false = Tryd.pinned.checked.prog.looks [] ∧ ∀ (j : Nat) t, fn.params[j]? = some t → Tryd.pinned.checked.prog.wantsStandIn t = false := by
  obtain rfl : f = 3 := Option.some.inj ((show Tryd.prog.funcNamed "loop.example/g00739/laws.FnPairs" = some 3 by kernel_rfl).symm.trans hf) |>.symm
  obtain rfl : fn = Tryd.f3 := (Option.some.inj (Tryd.func3.symm.trans hfn)).symm
  refine ⟨by kernel_rfl, fun j t ht => ?_⟩
  rw [Tryd.params3] at ht
  have hm := Array.mem_of_getElem? ht
  have all : ∀ t ∈ Tryd.f3.params, Tryd.prog.wantsStandIn t = false := by decide +kernel
  exact all t (by rw [Tryd.params3]; exact hm)

theorem card : Rows.FnPairsCardSaid :=
  Claim7.holds_tied_plain_at .later [] _ _ _ _ said (fun _ h => by cases h) (by kernel_rfl) (fun _ h => by cases h) fnPairs_row_tie rfl ⟨rfl, rfl⟩ (by kernel_rfl) rfl plain (by kernel_rfl)
#print axioms card
end Go.Proofs.YtkkojemnbcddfaaDoor.fnPairs
