/- Chapter 7: the program's brackets, whole. -/
import Derived.Test.YtkkojemnbcddfaaDoorZ8
namespace Go.Proofs.YtkkojemnbcddfaaDoor
open Go.RowKit Go.Maps

theorem SoP.out {w w' : World} {A : Option Addr} {n c : Nat} {way sos : Int} {B g1 g2 g3 g4 lo hi : Nat} (h : SoP w A n c way sos B g1 g2 g3 g4) (ho : Out lo hi w w') (hB : B ≤ w.heap.size) (hg : hi ≤ g1 ∧ hi ≤ g2 ∧ hi ≤ g3 ∧ hi ≤ g4) : SoP w' A n c way sos B g1 g2 g3 g4 := by
  have k : ∀ g i, hi ≤ g → g < B → w'.cell? ⟨g, i, none⟩ = w.cell? ⟨g, i, none⟩ := fun g i h1 h2 => by unfold World.cell?; simp only [ho.block g (by omega) (by omega)]
  exact ⟨(k g1 0 hg.1 h.l1).trans h.c1, (k g2 0 hg.2.1 h.l2).trans h.c2, (k g3 0 hg.2.2.1 h.l3).trans h.c3, (k g4 4 hg.2.2.2 h.l4).trans h.c4, h.l1, h.l2, h.l3, h.l4⟩
theorem endsF (F cur : List Int) (o e : Nat) (s : Int) (j : Nat) (h : j < 2) (hF : F.length = cur.length) : endsW F cur o e s (j + 1) = fillN s (lastM F (if j = 0 then o else e) + 1 - (if j = 0 then o else e)) (if j = 0 then o else e) (endsW F cur o e s j) := by
  rw [endsW_step F cur o e s j h, spreadW_fill _ _ _ _ (by rw [endsW_len]; exact hF)]
set_option maxRecDepth 100000 in
set_option maxHeartbeats 8000000 in
theorem bracketsIn_any (v0 v1 v2 : Value) (p : Prt) (w : World) (B : Nat) (h0 : Sees w B .i64 v0 p.T) (h1 : Sees w B .i64 v1 p.F) (h2 : Sees w B .i64 v2 p.N) (hB : B ≤ w.heap.size) (hT : p.T.length ≤ 600) (hN : p.N.length = p.T.length) (hF : p.F.length = p.T.length) (hc : ∀ z ∈ p.T, chrB z = true) (hL : 0 ≤ p.L ∧ p.L ≤ 126) (hS : p.S = 0 ∨ p.S = 1) (hP : Pairs w) :
    Calls Tryd.prog 46 #[.agg #[v0, v1, v2, .int .i64 p.L, .int .i64 p.S, .int .i64 p.E]] w fun e w' => (∃ u, e = .returned u ∧ Own w' w.heap.size w'.heap.size 2 .i64 u (bracketsN p)) ∧ Below w.heap.size w w' := by
  have PT := PtR.new w 26 B v0 v1 v2 p hB h0 h1 h2
  have b0 := (Below.refl w.heap.size w).alloc (Nat.le_refl _) (.cells #[v0, v1, v2, .int .i64 p.L, .int .i64 p.S, .int .i64 p.E] 26)
  obtain ⟨A0, c0, rfl, _⟩ := h0
  obtain ⟨A1, c1, rfl, _⟩ := h1
  obtain ⟨A2, c2, rfl, _⟩ := h2
  have HPW := Lib.hid hP
  have CH := Lib.hid hc
  have z0 := Lib.hid (show (w.alloc (.cells #[.slice A0 p.T.length c0, .slice A1 p.F.length c1, .slice A2 p.N.length c2, .int .i64 p.L, .int .i64 p.S, .int .i64 p.E] 26)).heap.size = w.heap.size + 1 from by simp)
  have P0 := Lib.hid PT
  have B0 := Lib.hid b0
  have WY := Lib.hid (sideL_cases p.L)
  have HSS := Lib.hid hS
  have PF := Lib.hid (pair_facts p.T p.N)
  have HL := Lib.hid hL
  obtain ⟨n, hn⟩ : ∃ n, Hid (n = p.T.length) := ⟨_, Lib.hid rfl⟩
  have NL := Lib.hid (show p.N.length = n by rw [hn.out]; exact hN)
  have FL := Lib.hid (show p.F.length = n by rw [hn.out]; exact hF)
  have HT := Lib.hid hT
  have HN := Lib.hid hN
  rw [← hn.out] at hT
  clear hc hN hF PT b0 hP hL hS
  go_enter Tryd.func46, Tryd.ntmps46
  go_wp2_with fail
  generalize w.alloc (.cells #[.slice A0 p.T.length c0, .slice A1 p.F.length c1, .slice A2 p.N.length c2, .int .i64 p.L, .int .i64 p.S, .int .i64 p.E] 26) = wa at *
  refine (cloneInt_own _ p.N wa (w.heap.size + 1) P0.out.s2 (by have := z0.out; omega) (by rw [NL.out]; omega)).mono ?_
  rintro e w1 ⟨⟨u, rfl, o1⟩, b1⟩
  obtain ⟨A, c, rfl⟩ := o1.form
  have s1 := b1.size
  have hcap := (own_cap o1.1).1
  have O1 := Lib.hid o1
  have P1 := Lib.hid (P0.out.below b1 (by have := z0.out; omega))
  have B1 := Lib.hid (below_on B0.out b1 (by have := z0.out; omega))
  have f10 := P1.out.blk.cell 0 (u := .slice A0 p.T.length c0) rfl
  have f11 := P1.out.blk.cell 1 (u := .slice A1 p.F.length c1) rfl
  have f12 := P1.out.blk.cell 2 (u := .slice A2 p.N.length c2) rfl
  have f13 := P1.out.blk.cell 3 (u := .int .i64 p.L) rfl
  have f14 := P1.out.blk.cell 4 (u := .int .i64 p.S) rfl
  have f15 := P1.out.blk.cell 5 (u := .int .i64 p.E) rfl
  clear o1 b1
  go_wp2_with fail
  refine (sidesOfPairs_any _ _ _ p A p.N.length c w1 HL.out).mono ?_
  rintro e w2 ⟨⟨g1, g2, g3, g4, rfl, hso, hg⟩, b2⟩
  have s2 := b2.size
  have O2 := Lib.hid (O1.out.below b2 (Nat.le_refl _))
  have P2 := Lib.hid (P1.out.below b2 (by have := z0.out; omega))
  have B2 := Lib.hid (below_on B1.out b2 (by have := B1.out.size; omega))
  have SO := Lib.hid hso
  have HG := Lib.hid hg
  have f20 := P2.out.blk.cell 0 (u := .slice A0 p.T.length c0) rfl
  have f21 := P2.out.blk.cell 1 (u := .slice A1 p.F.length c1) rfl
  have f22 := P2.out.blk.cell 2 (u := .slice A2 p.N.length c2) rfl
  have f23 := P2.out.blk.cell 3 (u := .int .i64 p.L) rfl
  have f24 := P2.out.blk.cell 4 (u := .int .i64 p.S) rfl
  have f25 := P2.out.blk.cell 5 (u := .int .i64 p.E) rfl
  clear b2 f10 f11 f12 f13 f14 f15 hso hg O1 P1
  go_wp2_with fail
  refine (pairsIn_any _ _ _ p w2 (w.heap.size + 1) P2.out.s0 P2.out.s1 P2.out.s2 (by have := z0.out; omega) HT.out HN.out CH.out (HPW.out.on B2.out)).mono ?_
  rintro e w3 ⟨⟨u3, rfl, o3⟩, b3⟩
  obtain ⟨Ap, cp, rfl⟩ := o3.form
  have s3 := b3.size
  have P3 := Lib.hid (P2.out.below b3 (by have := z0.out; omega))
  have B3 := Lib.hid (below_on B2.out b3 (by have := B2.out.size; omega))
  have SO3 := Lib.hid (SO.out.below b3)
  have O3 := Lib.hid o3
  have N3 := O2.out.below b3 (by omega)
  obtain ⟨way, hway⟩ : ∃ way, Hid (way = sideL p.L) := ⟨_, Lib.hid rfl⟩
  rw [← hway.out] at WY SO3
  have BN := Lib.hid (show bracketsN p = brun p.F way p.S p.N (pairsN p.T p.N) (pairsN p.T p.N).length by rw [hway.out]; rfl)
  obtain ⟨ps, hps⟩ : ∃ ps, Hid (ps = pairsN p.T p.N) := ⟨_, Lib.hid rfl⟩
  rw [← hps.out] at O3 PF BN ⊢
  have R3 : Hid (Row7 w3 wa.heap.size A n c (brun p.F way p.S p.N ps 0)) := Lib.hid (by have := N3.1; rw [NL.out] at this; exact this)
  have HI := Lib.hid (show ∀ b, (Value.slice A n c).ownBlock = some b → wa.heap.size ≤ b ∧ b < w1.heap.size from fun b hb => N3.lt b (by rw [NL.out]; exact hb))
  have pl := PF.out.few
  rw [← hn.out] at pl
  rw [NL.out] at hcap SO3 ⊢
  clear o3 b3 f20 f21 f22 f23 f24 f25 N3 O2 P2 B2 SO
  go_wp2_with fail
  go_loopw [20] (fun i wr => ∃ k : Nat, k ≤ ps.length ∧ i = .int .i64 k ∧ Hid (Row7 wr wa.heap.size A n c (brun p.F way p.S p.N ps k)) ∧ Hid (Out wa.heap.size w1.heap.size w3 wr)) (fun i _ => ps.length - (intOf i).toNat)
  case atStart => exact ⟨0, by omega, rfl, R3, Lib.hid (Out.refl _ _ _)⟩
  case round =>
    clear R3
    obtain ⟨k, hk, rfl, hw, ho⟩ := hrel
    generalize wr = wo at *
    clear wr
    have wsz : w3.heap.size ≤ wo.heap.size := ho.out.size
    by_cases hlt : k < ps.length
    · obtain ⟨o, e, ho1, he1, hoe, hen, _⟩ := PF.out.each k hlt
      rw [← hn.out] at hen
      have PO := Lib.hid (P3.out.out ho.out (by have := z0.out; omega) (by have := z0.out; omega))
      have OO := Lib.hid (O3.out.out ho.out (.inr (by omega)))
      obtain ⟨bp, op, cp', ep, hbp, hp0, hp1⟩ := OO.out.sees.at_ k hlt
      have eAp := (sl_eq ep).1
      subst eAp
      clear ep
      rw [ho1] at hp0
      rw [he1] at hp1
      have NP := Lib.hid (show nthP ps k = ((o : Int), (e : Int)) by rw [← ho1, ← he1])
      have CL := Lib.hid ((brun_len p.F way p.S p.N ps k).trans NL.out)
      have BS := Lib.hid (show brun p.F way p.S p.N ps (k + 1) = bstep p.F way p.S (brun p.F way p.S p.N ps k) ((o : Int), (e : Int)) by rw [← NP.out]; rfl)
      obtain ⟨cur, hcur⟩ : ∃ cur, Hid (cur = brun p.F way p.S p.N ps k) := ⟨_, Lib.hid rfl⟩
      rw [← hcur.out] at CL BS hw
      have SOO := Lib.hid (SO3.out.out ho.out s3 (by have := HG.out; omega))
      have b4 := (Below.refl wo.heap.size wo).alloc (Nat.le_refl _) (.cells #[.int .i64 o, .int .i64 e] 34)
      have KP := Lib.hid (Blk.new wo 34 #[.int .i64 o, .int .i64 e])
      have R4 := Lib.hid (own_below hw.out b4)
      have ho4 := Lib.hid (ho.out.trans (Out.of_below (lo := wa.heap.size) (hi := w1.heap.size) b4))
      have SO4 := Lib.hid ((SOO.out.below (b4.mono (by omega))).more (B' := (wo.alloc (.cells #[.int .i64 o, .int .i64 e] 34)).heap.size) (by simp; omega))
      have z4 := Lib.hid (show (wo.alloc (.cells #[.int .i64 o, .int .i64 e] 34)).heap.size = wo.heap.size + 1 from by simp)
      have BC := Lib.hid (becomesN_cases cur ((o : Int), (e : Int)) (sos := p.S) WY.out)
      have kl : (k : Int) < (ps.length : Int) := by omega
      clear ho1 he1 b4 SOO OO hw ho
      go_wp2_with fail
      generalize wo.alloc (.cells #[.int .i64 o, .int .i64 e] 34) = w4 at *
      have CB := Lib.hid (sidesOfPairs1_any SO4.out (Rd.of (show Row7 w4 wa.heap.size A n c cur from R4.out)) CL.out hcap hT WY.out HSS.out o e hoe hen)
      obtain ⟨d, hd⟩ : ∃ d, Hid (d = becomesN cur ((o : Int), (e : Int)) way p.S) := ⟨_, Lib.hid rfl⟩
      rw [← hd.out] at CB BC
      clear hp0 hp1
      refine CB.out.mono ?_
      rintro x w5 ⟨rfl, b5⟩
      have R5 := Lib.hid (own_below R4.out b5)
      have ho5 := Lib.hid (ho4.out.trans (Out.of_below (lo := wa.heap.size) (hi := w1.heap.size) b5))
      have KP5 := Lib.hid (KP.out.below b5 KP.out.lt)
      have s5 := b5.size
      have p50 := KP5.out.cell 0 (u := .int .i64 o) rfl
      have p51 := KP5.out.cell 1 (u := .int .i64 e) rfl
      clear b5 CB R4 ho4 KP SO4
      by_cases hds : d = -1
      · have E := Lib.hid (show brun p.F way p.S p.N ps (k + 1) = cur by rw [BS.out]; unfold bstep; rw [if_pos (by rw [← hd.out]; omega)])
        have R6 := Lib.hid (show Row7 w5 wa.heap.size A n c (brun p.F way p.S p.N ps (k + 1)) by rw [E.out]; exact R5.out)
        have d1 : (d == -1) = true := by simp [hds]
        clear hds R5
        go_wp2
        go_roundw
        case rel => exact ⟨k + 1, by omega, by go_num, R6, ho5⟩
        case measure => first | omega | (simp [intOf]; omega)
      · have E := Lib.hid (show brun p.F way p.S p.N ps (k + 1) = endsW p.F cur o e d 2 by rw [BS.out]; unfold bstep; rw [if_neg (by rw [← hd.out]; have := BC.out; omega), ← hd.out]; rfl)
        have d1 : (d == -1) = false := by simpa using hds
        have b6 := (Below.refl w5.heap.size w5).alloc (Nat.le_refl _) (.cells #[.int .i64 o, .int .i64 e] 2)
        have K6 := Lib.hid (Blk.new w5 2 #[.int .i64 o, .int .i64 e])
        have R6 : Hid (Row7 (w5.alloc (.cells #[.int .i64 o, .int .i64 e] 2)) wa.heap.size A n c (endsW p.F cur o e d 0)) := Lib.hid (own_below R5.out b6)
        have ho6 := Lib.hid (ho5.out.trans (Out.of_below (lo := wa.heap.size) (hi := w1.heap.size) b6))
        have z6 := Lib.hid (show (w5.alloc (.cells #[.int .i64 o, .int .i64 e] 2)).heap.size = w5.heap.size + 1 from by simp)
        clear hds R5 ho5 b6
        go_wp2_with fail
        generalize w5.alloc (.cells #[.int .i64 o, .int .i64 e] 2) = w6 at *
        go_loopw [35] (fun i wr => ∃ j : Nat, j ≤ 2 ∧ i = .int .i64 j ∧ Hid (Row7 wr wa.heap.size A n c (endsW p.F cur o e d j)) ∧ Hid (Out wa.heap.size w1.heap.size w6 wr)) (fun i _ => 2 - (intOf i).toNat)
        case atStart => exact ⟨0, by omega, rfl, R6, Lib.hid (Out.refl _ _ _)⟩
        case round =>
          clear R6 p50 p51
          obtain ⟨j, hj, rfl, hw, hb⟩ := hrel
          generalize wr = wp at *
          clear wr
          by_cases hj2 : j < 2
          · have HOP := Lib.hid (ho6.out.trans hb.out)
            have PJ := Lib.hid (P3.out.out HOP.out (by have := z0.out; omega) (by have := z0.out; omega))
            have KJ := K6.out.out hb.out (.inr (by have := z4.out; omega))
            obtain ⟨q, hq⟩ : ∃ q, Hid (q = if j = 0 then o else e) := ⟨_, Lib.hid rfl⟩
            have hqn : q < n := by rw [hq.out]; split <;> omega
            have hx : wp.cell? ⟨w5.heap.size, j, none⟩ = some (.int .i64 q) := by
              rw [hq.out]
              obtain rfl | rfl : j = 0 ∨ j = 1 := by omega
              · exact KJ.cell 0 rfl
              · exact KJ.cell 1 rfl
            have EL := Lib.hid (endsW_len p.F cur o e d j |>.trans CL.out)
            have ES := Lib.hid (endsF p.F cur o e d j hj2 (by rw [FL.out, CL.out]))
            rw [← hq.out] at ES
            obtain ⟨L, hL⟩ : ∃ L, Hid (L = endsW p.F cur o e d j) := ⟨_, Lib.hid rfl⟩
            rw [← hL.out] at hw ES EL
            have LM := lastM_le p.F q (by rw [FL.out]; exact hqn)
            rw [FL.out] at LM
            obtain ⟨ga, ca, eA, hga⟩ := own_addr hw.out (by omega)
            have eA1 := (sl_eq eA).1
            subst eA1
            have gah := HI.out ga rfl
            have f1 := PJ.out.blk.cell 1 (u := .slice A1 p.F.length c1) rfl
            have rF : Hid (Rd wp (w.heap.size + 1) A1 (nums .i64 p.F)) := Lib.hid (by obtain ⟨A', c', e', r⟩ := PJ.out.s1; have := (sl_eq e').1; subst this; exact r)
            have CM := Lib.hid (lastMark_any A1 p.F c1 q wp _ rF.out (by rw [FL.out]; exact hqn) (by rw [FL.out]; exact hT))
            obtain ⟨lm, hlm⟩ : ∃ lm, Hid (lm = lastM p.F q) := ⟨_, Lib.hid rfl⟩
            rw [← hlm.out] at CM ES LM
            have jl : (j : Int) < 2 := by omega
            have q1 : q ≤ lm + 1 := by omega
            have q2 : lm + 1 ≤ c := by omega
            have q3 : q < c := by omega
            have q4 : (q : Int) ≤ (lm : Int) + 1 := by omega
            have q5 : (lm : Int) + 1 ≤ (c : Int) := by omega
            clear eA KJ
            go_wp2_with fail
            refine CM.out.mono ?_
            rintro x w' ⟨rfl, rfl⟩
            clear CM hx
            go_wp2_with fail
            refine (fill_any (hi := w1.heap.size) hw.out gah q (lm + 1 - q) _ (by omega) hT EL.out d).mono ?_
            rintro x w7 ⟨⟨rfl, r7⟩, o7⟩
            have R7 := Lib.hid (show Row7 w7 wa.heap.size (some ⟨ga, 0, none⟩) n c (endsW p.F cur o e d (j + 1)) by rw [ES.out]; exact r7)
            have HO7 := Lib.hid (hb.out.trans o7)
            clear r7 o7
            go_wp2
            go_roundw
            case rel => exact ⟨j + 1, by omega, by go_num, R7, HO7⟩
            case measure => first | omega | (simp [intOf]; omega)
          · obtain rfl : j = 2 := by omega
            have R8 := Lib.hid (show Row7 wp wa.heap.size A n c (brun p.F way p.S p.N ps (k + 1)) by rw [E.out]; exact hw.out)
            have HO8 := Lib.hid (ho6.out.trans hb.out)
            go_wp2
            go_roundw
            case rel => exact ⟨k + 1, by omega, by go_num, R8, HO8⟩
            case measure => first | omega | (simp [intOf]; omega)
    · have hkn : k = ps.length := by omega
      have E := Lib.hid (show bracketsN p = brun p.F way p.S p.N ps k by rw [BN.out, hkn])
      have len : n = (bracketsN p).length := by rw [bracketsN_len, NL.out]
      have OW := Lib.hid (show Own wo w.heap.size wo.heap.size 2 .i64 (.slice A n c) (bracketsN p) from (Own.mk_ (by rw [E.out]; exact hw.out) len).more (by have := z0.out; omega) (Nat.le_refl _))
      have BX := Lib.hid (B3.out.trans (ho.out.to_below (B := w.heap.size) (by have := z0.out; omega) (by have := z0.out; omega)))
      clear hkn len hw ho
      go_wp2
      go_ret
      exact ⟨⟨_, rfl, OW.out⟩, BX.out⟩
end Go.Proofs.YtkkojemnbcddfaaDoor
