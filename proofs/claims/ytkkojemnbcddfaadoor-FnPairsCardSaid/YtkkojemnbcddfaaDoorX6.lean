/- Chapter 7: the model's brackets, whole. -/
import Derived.Test.YtkkojemnbcddfaaDoorX5
import Derived.Test.YtkkojemnbcddfaaDoorI16
namespace Go.Proofs.YtkkojemnbcddfaaDoor
open Go.RowKit

theorem odd_tmod7 (n : Int) : (n.tmod 2 != 0) = !decide (n % 2 = 0) := by
  have h : n.tmod 2 = 0 ↔ n % 2 = 0 := by
    rw [Int.tmod_eq_emod]
    split
    · simp
    · rename_i hn
      simp at hn
      omega
  by_cases h0 : n % 2 = 0
  · simp [h.2 h0, h0]
  · have : n.tmod 2 ≠ 0 := fun e => h0 (h.1 e)
    simp [this, h0]
theorem sideOf7_any (n : Int) (w : World) : Calls Tryd.prog 76 #[.int .i64 n] w fun e w' => e = .returned (.int .i64 (sideL n)) ∧ w = w' := by
  have hm := odd_tmod7 n
  by_cases h : n % 2 = 0
  · have E : sideL n = 0 := by unfold sideL; rw [if_pos h]
    rw [decide_eq_true h] at hm
    clear h
    go_enter Tryd.func76, Tryd.ntmps76
    go_wp2
    go_ret
    exact ⟨rint E.symm, rfl⟩
  · have E : sideL n = 1 := by unfold sideL; rw [if_neg h]
    rw [decide_eq_false h] at hm
    clear h
    go_enter Tryd.func76, Tryd.ntmps76
    go_wp2
    go_ret
    exact ⟨rint E.symm, rfl⟩
theorem l5Odd7_any (n : Int) (w : World) : Calls Tryd.prog 95 #[.int .i64 n] w fun e w' => e = .returned (.bool (!decide (n % 2 = 0))) ∧ w = w' := by
  have hm := odd_tmod7 n
  by_cases h : n % 2 = 0
  · rw [decide_eq_true h] at hm ⊢
    clear h
    go_enter Tryd.func95, Tryd.ntmps95
    go_wp2
    go_ret
    exact ⟨rbool (by simp), rfl⟩
  · rw [decide_eq_false h] at hm ⊢
    clear h
    go_enter Tryd.func95, Tryd.ntmps95
    go_wp2
    go_ret
    exact ⟨rbool (by simp), rfl⟩
theorem specSideOf7_any (n : Int) (w : World) : Calls Tryd.prog 78 #[.int .i64 n] w fun e w' => e = .returned (.int .i64 (sideL n)) ∧ w = w' := by
  by_cases h : n % 2 = 0
  · have E := Lib.hid (show sideL n = 0 by unfold sideL; rw [if_pos h])
    have D := Lib.hid (decide_eq_true h)
    clear h
    go_enter Tryd.func78, Tryd.ntmps78
    go_wp2_with (go_at_call 95; refine (l5Odd7_any _ _).mono ?_; rintro e w' ⟨rfl, rfl⟩; rw [D.out])
    go_ret
    exact ⟨rint E.out.symm, rfl⟩
  · have E := Lib.hid (show sideL n = 1 by unfold sideL; rw [if_neg h])
    have D := Lib.hid (decide_eq_false h)
    clear h
    go_enter Tryd.func78, Tryd.ntmps78
    go_wp2_with (go_at_call 95; refine (l5Odd7_any _ _).mono ?_; rintro e w' ⟨rfl, rfl⟩; rw [D.out])
    go_ret
    exact ⟨rint E.out.symm, rfl⟩
abbrev Row7 (w : World) (lo : Nat) (A : Option Addr) (n c : Nat) (cs : List Int) : Prop := w.ownsRow lo 2 1 (.slice A n c) n (nums .i64 cs)
/-- behind the first j of a pair's two ends -/
def endsW (F cur : List Int) (o e : Nat) (s : Int) (j : Nat) : List Int := if j = 0 then cur else if j = 1 then spreadW F cur o s else spreadW F (spreadW F cur o s) e s
theorem endsW_len (F cur : List Int) (o e : Nat) (s : Int) (j : Nat) : (endsW F cur o e s j).length = cur.length := by unfold endsW; split; rfl; split <;> simp [spreadW_len]
theorem endsW_step (F cur : List Int) (o e : Nat) (s : Int) (j : Nat) (h : j < 2) : endsW F cur o e s (j + 1) = spreadW F (endsW F cur o e s j) (if j = 0 then o else e) s := by
  obtain rfl | rfl : j = 0 ∨ j = 1 := by omega
  · rfl
  · rfl
theorem sl_eq {A A' : Option Addr} {n n' c c' : Nat} (h : Value.slice A n c = .slice A' n' c') : A = A' ∧ n = n' ∧ c = c' := by injection h with a b c; exact ⟨a, b, c⟩
theorem cell_alloc {w : World} {a : Addr} {v : Value} (h : w.cell? a = some v) (o : Obj) : (w.alloc o).cell? a = some v := by
  have hl : a.block < w.heap.size := by
    by_cases hl : a.block < w.heap.size
    · exact hl
    · have e : w.heap[a.block]? = none := Array.getElem?_eq_none (by omega)
      unfold World.cell? at h
      rw [e] at h
      cases h
  unfold World.cell?
  rw [Below.heap_alloc w o a.block hl]
  exact h
theorem PtR.out {w w' : World} {T : TypeId} {B g lo hi : Nat} {v0 v1 v2 : Value} {p : Prt} (h : PtR w T B g v0 v1 v2 p) (ho : Out lo hi w w') (hB : B ≤ lo) (hw : B ≤ w.heap.size) : PtR w' T B g v0 v1 v2 p :=
  ⟨(ho.block g (by have := h.lt; omega) (by have := h.lt; omega)).trans h.blk, h.lt, h.s0.out ho hB hw, h.s1.out ho hB hw, h.s2.out ho hB hw⟩
set_option maxRecDepth 100000 in
set_option maxHeartbeats 8000000 in
theorem l7Brackets_any {w : World} {B g : Nat} {v0 v1 v2 : Value} {p : Prt} (h : PtR w 26 B g v0 v1 v2 p) (hB : B ≤ w.heap.size) (hT : p.T.length ≤ 600) (hN : p.N.length = p.T.length) (hF : p.F.length = p.T.length) (hc : ∀ z ∈ p.T, chrB z = true) :
    Calls Tryd.prog 49 #[.pointer (some ⟨g, 0, none⟩)] w fun e w' => (∃ u, e = .returned u ∧ Own w' w.heap.size w'.heap.size 2 .i64 u (bracketsN p)) ∧ Below w.heap.size w w' := by
  obtain ⟨i0, hi, hz0, hz1, hz2⟩ := info_parts info_int64
  obtain ⟨A1, c1, e1, _⟩ := h.s1
  obtain ⟨A2, c2, e2, _⟩ := h.s2
  subst e1; subst e2
  have HP := Lib.hid h
  have CH := Lib.hid hc
  obtain ⟨n, hn⟩ : ∃ n, Hid (n = p.T.length) := ⟨_, Lib.hid rfl⟩
  have NL := Lib.hid (show p.N.length = n by rw [hn.out]; exact hN)
  have FL := Lib.hid (show p.F.length = n by rw [hn.out]; exact hF)
  have HT := Lib.hid hT
  have HN := Lib.hid hN
  have PF := Lib.hid (pair_facts p.T p.N)
  have WY := Lib.hid (sideL_cases p.L)
  rw [← hn.out] at hT
  have ec2 := h.blk.cell 2 (u := .slice A2 p.N.length c2) rfl
  clear h hc hN hF
  go_enter Tryd.func49, Tryd.ntmps49
  go_wp2_with fail
  refine (l1Ints_own _ p.N w B HP.out.s2 hB (by rw [NL.out]; omega)).mono ?_
  rintro e w1 ⟨⟨u, rfl, o1⟩, b1⟩
  obtain ⟨A, c, rfl⟩ := o1.form
  have s1 := b1.size
  have O1 := Lib.hid o1
  have P1 := Lib.hid (HP.out.below b1 hB)
  have B1 := Lib.hid b1
  clear o1 b1 ec2
  go_wp2_with fail
  refine (l7Pairs_any P1.out (by omega) HT.out HN.out CH.out).mono ?_
  rintro e w2 ⟨⟨u2, rfl, o2⟩, b2⟩
  obtain ⟨Ap, cp, rfl⟩ := o2.form
  have s2 := b2.size
  have O2 := Lib.hid o2
  have P2 := Lib.hid (P1.out.below b2 (by omega))
  have N2 := Lib.hid (O1.out.below b2 (Nat.le_refl _))
  have B2 := Lib.hid (below_on B1.out b2 (Nat.le_refl _))
  have e3 := P2.out.blk.cell 3 (u := .int .i64 p.L) rfl
  obtain ⟨way, hway⟩ : ∃ way, Hid (way = sideL p.L) := ⟨_, Lib.hid rfl⟩
  rw [← hway.out] at WY
  obtain ⟨ps, hps⟩ : ∃ ps, Hid (ps = pairsN p.T p.N) := ⟨_, Lib.hid rfl⟩
  rw [← hps.out] at O2 PF ⊢
  rw [NL.out] at N2 ⊢
  have R2 : Hid (Row7 w2 w.heap.size A n c (brun p.F way p.S p.N ps 0)) := Lib.hid (by have := N2.out.1; rw [NL.out] at this; exact this)
  have HI := Lib.hid (fun b hb => (N2.out.lt b hb).2)
  have pl := PF.out.few
  rw [← hn.out] at pl
  clear o2 b2 O1 P1 B1 N2
  go_wp2_with (go_at_call 78; refine (specSideOf7_any _ _).mono ?_; rintro e w' ⟨rfl, rfl⟩; rw [← hway.out])
  clear e3
  go_loopw [6] (fun i wr => ∃ k : Nat, k ≤ ps.length ∧ i = .int .i64 k ∧ Hid (Row7 wr w.heap.size A n c (brun p.F way p.S p.N ps k)) ∧ Hid (Out w.heap.size w1.heap.size w2 wr)) (fun i _ => ps.length - (intOf i).toNat)
  case atStart => exact ⟨0, by omega, rfl, R2, Lib.hid (Out.refl _ _ _)⟩
  case round =>
    clear R2
    obtain ⟨k, hk, rfl, hw, ho⟩ := hrel
    generalize wr = wo at *
    clear wr
    have wsz : w2.heap.size ≤ wo.heap.size := ho.out.size
    by_cases hlt : k < ps.length
    · obtain ⟨o, e, ho1, he1, hoe, hen, _⟩ := PF.out.each k hlt
      rw [← hn.out] at hen
      have PO := Lib.hid (P2.out.out ho.out hB (by omega))
      have OO := Lib.hid (O2.out.out ho.out (.inr (Nat.le_refl _)))
      obtain ⟨bp, op, cp', ep, hbp, hp0, hp1⟩ := OO.out.sees.at_ k hlt
      have eAp := (sl_eq ep).1
      subst eAp
      clear ep
      rw [ho1] at hp0
      rw [he1] at hp1
      have NP := Lib.hid (show nthP ps k = ((o : Int), (e : Int)) by rw [← ho1, ← he1])
      have CL := Lib.hid ((brun_len p.F way p.S p.N ps k).trans NL.out)
      have BS := Lib.hid (show brun p.F way p.S p.N ps (k + 1) = bstep p.F way p.S (brun p.F way p.S p.N ps k) ((o : Int), (e : Int)) by rw [← NP.out]; rfl)
      obtain ⟨cur, hcur⟩ : ∃ cur, Hid (cur = brun p.F way p.S p.N ps k) := ⟨_, Lib.hid rfl⟩
      rw [← hcur.out] at CL BS hw
      have CB := l7Becomes_any A cur c o e way p.S wo.drew wo.heap.size (Rd.of (show Row7 wo.drew w.heap.size A n c cur from hw.out)) (Nat.le_refl _) hoe (by rw [CL.out]; exact hen) (by rw [CL.out]; exact hT) WY
      rw [CL.out] at CB
      have BC := Lib.hid (becomesN_cases cur ((o : Int), (e : Int)) (sos := p.S) WY)
      obtain ⟨d, hd⟩ : ∃ d, Hid (d = becomesN cur ((o : Int), (e : Int)) way p.S) := ⟨_, Lib.hid rfl⟩
      rw [← hd.out] at CB BC
      have CC := Lib.hid CB
      have f4 := PO.out.blk.cell 4 (u := .int .i64 p.S) rfl
      have kl : (k : Int) < (ps.length : Int) := by omega
      clear CB ho1 he1
      go_wp2_with fail
      go_region_held3 (fun w' => w'.cell? ⟨g, 4, none⟩ = some (.int .i64 p.S) ∧ w'.cell? ⟨bp, op + k * 2, none⟩ = some (.int .i64 o) ∧ w'.cell? ⟨bp, op + k * 2 + 1, none⟩ = some (.int .i64 e)) (first | exact ⟨f4, hp0, hp1⟩ | exact ⟨f43, hp03, hp13⟩) (first
        | (go_at_call 79; refine CC.out.mono ?_; rintro x w3 ⟨rfl, b3⟩
           have qb3 : Below wo.heap.size wo w3 := ⟨b3.os, b3.tape, b3.output, b3.size, b3.block⟩
           have P3 := Lib.hid (PO.out.below qb3 (by omega))
           have OO3 := Lib.hid (OO.out.below qb3 wsz)
           have R3 : Hid (Row7 w3 w.heap.size (A) n c cur) := Lib.hid (own_below hw.out qb3)
           have ho3 := Lib.hid (ho.out.trans (Out.of_below qb3))
           have sz3 := qb3.size
           have f43 := P3.out.blk.cell 4 (u := .int .i64 p.S) rfl
           obtain ⟨bp3, op3, cp3, ep3, _, hp03, hp13⟩ := OO3.out.sees.at_ k hlt
           have e3 := (sl_eq ep3).1
           injection e3 with e3
           injection e3 with e31 e32 e33
           subst e31; subst e32
           clear ep3 e33
           rw [NP.out] at hp03 hp13
           clear b3 qb3))
      clear f4 hp0 hp1 hw ho PO OO CC
      by_cases hds : d < 0
      · have E := Lib.hid (show brun p.F way p.S p.N ps (k + 1) = cur by rw [BS.out]; unfold bstep; rw [if_pos (by rw [← hd.out]; exact hds)])
        have R4 := Lib.hid (show Row7 w3 w.heap.size A n c (brun p.F way p.S p.N ps (k + 1)) by rw [E.out]; exact R3.out)
        have d1 : decide (d < 0) = true := decide_eq_true hds
        clear hds BC R3
        go_wp2
        go_roundw
        case rel => exact ⟨k + 1, by omega, by go_num, R4, ho3⟩
        case measure => first | omega | (simp [intOf]; omega)
      · have E := Lib.hid (show brun p.F way p.S p.N ps (k + 1) = endsW p.F cur o e d 2 by rw [BS.out]; unfold bstep; rw [if_neg (by rw [← hd.out]; exact hds), ← hd.out]; rfl)
        have d1 : decide (d < 0) = false := decide_eq_false hds
        clear hds BC
        go_wp2_with fail
        have hp04 := cell_alloc hp03 (.cells #[.int .i64 o, .int .i64 e] 2)
        have hp14 := cell_alloc hp13 (.cells #[.int .i64 o, .int .i64 e] 2)
        have b4 := (Below.refl w3.heap.size w3).alloc (Nat.le_refl _) (.cells #[.int .i64 o, .int .i64 e] 2)
        have qb4 : Below w3.heap.size w3 ((w3.alloc (.cells #[.int .i64 o, .int .i64 e] 2)).drew) := ⟨b4.os, b4.tape, b4.output, b4.size, b4.block⟩
        have K4 : Hid (Blk ((w3.alloc (.cells #[.int .i64 o, .int .i64 e] 2)).drew) w3.heap.size 2 #[.int .i64 o, .int .i64 e]) := Lib.hid (Blk.new w3 2 #[.int .i64 o, .int .i64 e])
        have P4 := Lib.hid (P3.out.below qb4 (by omega))
        have R4 : Hid (Row7 ((w3.alloc (.cells #[.int .i64 o, .int .i64 e] 2)).drew) w.heap.size A n c (endsW p.F cur o e d 0)) := Lib.hid (own_below R3.out qb4)
        have ho4 := Lib.hid (ho3.out.trans (Out.of_below qb4))
        have sz4 := qb4.size
        go_region_held3 (fun w' => w'.cell? ⟨bp, op + k * 2, none⟩ = some (.int .i64 o) ∧ w'.cell? ⟨bp, op + k * 2 + 1, none⟩ = some (.int .i64 e)) (first | exact ⟨hp03, hp13⟩ | exact ⟨hp04, hp14⟩) (fail)
        clear b4 qb4 hp03 hp13 hp04 hp14 R3 P3 OO3 ho3
        generalize (w3.alloc (.cells #[.int .i64 o, .int .i64 e] 2)).drew = w4 at *
        have sg3 : w2.heap.size ≤ w3.heap.size := by omega
        clear sz3
        generalize w3.heap.size = gl at *
        go_wp2_with fail
        go_loopw [54] (fun i wr => ∃ j : Nat, j ≤ 2 ∧ i = .int .i64 j ∧ Hid (Row7 wr w.heap.size A n c (endsW p.F cur o e d j)) ∧ Hid (Out w.heap.size w1.heap.size w4 wr)) (fun i _ => 2 - (intOf i).toNat)
        case atStart => exact ⟨0, by omega, rfl, R4, Lib.hid (Out.refl _ _ _)⟩
        case round =>
          clear R4
          obtain ⟨j, hj, rfl, hw, hb⟩ := hrel
          generalize wr = wp at *
          clear wr
          by_cases hj2 : j < 2
          · have PJ := Lib.hid (P4.out.out hb.out hB (by omega))
            have KJ := K4.out.out hb.out (.inr (by omega))
            obtain ⟨q, hq⟩ : ∃ q, Hid (q = if j = 0 then o else e) := ⟨_, Lib.hid rfl⟩
            have hqn : q < n := by rw [hq.out]; split <;> omega
            have hx : wp.cell? ⟨gl, j, none⟩ = some (.int .i64 q) := by
              rw [hq.out]
              obtain rfl | rfl : j = 0 ∨ j = 1 := by omega
              · exact KJ.cell 0 rfl
              · exact KJ.cell 1 rfl
            have EL := Lib.hid (endsW_len p.F cur o e d j |>.trans CL.out)
            have ES := Lib.hid (endsW_step p.F cur o e d j hj2)
            rw [← hq.out] at ES
            obtain ⟨L, hL⟩ : ∃ L, Hid (L = endsW p.F cur o e d j) := ⟨_, Lib.hid rfl⟩
            rw [← hL.out] at hw ES EL
            obtain ⟨ga, ca, eA, hga⟩ := own_addr hw.out (by omega)
            have eA1 := (sl_eq eA).1
            subst eA1
            clear eA KJ
            have jl : (j : Int) < 2 := by omega
            go_wp2_with (refine wpList_put rfl _ _ _ rfl i0 hi hz1 q (.int .i64 d) rfl rfl rfl hw.out hqn ?_; intro w5 o5 g5)
            have R5 : Hid (Row7 w5 w.heap.size (some ⟨ga, 0, none⟩) n c (L.set q d)) := Lib.hid (own_set o5)
            have B5 := Lib.hid (hb.out.trans (Out.of_grown (v := .slice (some ⟨ga, 0, none⟩) n c) g5 (fun b hb' => ⟨(hw.out.lt b hb').1, HI.out b hb'⟩)))
            have E5 := Lib.hid (show endsW p.F cur o e d (j + 1) = spreadN p.F d (n - (q + 1)) (q + 1) (L.set q d) by rw [ES.out]; unfold spreadW; rw [EL.out])
            clear o5 g5 hw hb PJ hx
            go_loopw [10] (fun i wr => ∃ (m : Nat) (M : List Int), q + 1 ≤ m ∧ m ≤ n ∧ i = .int .i64 m ∧ Hid (endsW p.F cur o e d (j + 1) = spreadN p.F d (n - m) m M) ∧ Hid (Row7 wr w.heap.size (some ⟨ga, 0, none⟩) n c M) ∧ Hid (Out w.heap.size w1.heap.size w4 wr)) (fun i _ => n - (intOf i).toNat)
            case atStart => exact ⟨q + 1, _, Nat.le_refl _, by omega, by go_num, E5, R5, B5⟩
            case round =>
              clear E5 R5 B5
              obtain ⟨m, M, hqm, hmn, rfl, he, hw, hb7⟩ := hrel
              generalize wr = wz at *
              clear wr
              have PM := Lib.hid (P4.out.out hb7.out hB (by omega))
              by_cases hlm : m < n
              · have fe1 := PM.out.blk.cell 1 (u := .slice A1 p.F.length c1) rfl
                rw [FL.out] at fe1
                obtain ⟨A', c', eF, rF⟩ := PM.out.s1
                have eF1 := (sl_eq eF).1
                subst eF1
                obtain ⟨bF, oF, rfl, _, hcF⟩ := rF.int (by rw [FL.out]; omega)
                have fm := hcF m (by rw [FL.out]; exact hlm)
                have HIT := Lib.hid (fun h => spreadN_hit (F := p.F) (side := d) (n := n - (m + 1)) (k := m) (l := M) h)
                have MISS := Lib.hid (fun h => spreadN_miss (F := p.F) (side := d) (n := n - (m + 1)) (k := m) (l := M) h)
                rw [show n - (m + 1) + 1 = n - m by omega] at HIT MISS
                rw [← he.out] at HIT MISS
                obtain ⟨x, hx⟩ : ∃ x, Hid (x = nth p.F m) := ⟨_, Lib.hid rfl⟩
                rw [← hx.out] at fm HIT MISS
                have ml : (m : Int) < (n : Int) := by omega
                clear hcF rF eF
                by_cases hx8 : x = 8
                · have E6 := Lib.hid (HIT.out hx8)
                  rw [hx8] at fm
                  clear HIT MISS
                  go_wp2_with (refine wpList_put rfl _ _ _ rfl i0 hi hz1 m (.int .i64 d) rfl rfl rfl hw.out hlm ?_; intro w6 o6 g6)
                  have R6 : Hid (Row7 w6 w.heap.size (some ⟨ga, 0, none⟩) n c (M.set m d)) := Lib.hid (own_set o6)
                  have B6 := Lib.hid (hb7.out.trans (Out.of_grown (v := .slice (some ⟨ga, 0, none⟩) n c) g6 (fun b hb' => ⟨(hw.out.lt b hb').1, HI.out b hb'⟩)))
                  clear o6 g6
                  go_roundw
                  case rel => exact ⟨m + 1, _, by omega, by omega, by go_num, E6, R6, B6⟩
                  case measure => first | omega | (simp [intOf]; omega)
                · have R7 := Lib.hid (show Row7 wz w.heap.size (some ⟨ga, 0, none⟩) n c (endsW p.F cur o e d (j + 1)) by rw [MISS.out hx8]; exact hw.out)
                  have x8 : (x == 8) = false := by simpa using hx8
                  clear HIT MISS hx8 hw
                  go_wp2
                  go_roundw
                  case rel => exact ⟨j + 1, by omega, by go_num, R7, hb7⟩
                  case measure => first | omega | (simp [intOf]; omega)
              · obtain rfl : n = m := by omega
                have R7 := Lib.hid (show Row7 wz w.heap.size (some ⟨ga, 0, none⟩) n c (endsW p.F cur o e d (j + 1)) by rw [he.out, Nat.sub_self]; exact hw.out)
                clear hw he
                go_wp2
                go_roundw
                case rel => exact ⟨j + 1, by omega, by go_num, R7, hb7⟩
                case measure => first | omega | (simp [intOf]; omega)
          · obtain rfl : j = 2 := by omega
            have R8 := Lib.hid (show Row7 wp w.heap.size A n c (brun p.F way p.S p.N ps (k + 1)) by rw [E.out]; exact hw.out)
            have ho8 := Lib.hid (ho4.out.trans hb.out)
            clear hw hb
            go_wp2
            go_roundw
            case rel => exact ⟨k + 1, by omega, by go_num, R8, ho8⟩
            case measure => first | omega | (simp [intOf]; omega)
    · obtain rfl : k = ps.length := by omega
      have E := Lib.hid (show brun p.F way p.S p.N ps ps.length = bracketsN p by unfold bracketsN; rw [← hway.out, ← hps.out])
      have OW : Hid (Own wo w.heap.size wo.heap.size 2 .i64 (.slice A n c) (bracketsN p)) := Lib.hid ⟨by rw [bracketsN_len, NL.out, ← E.out]; exact hw.out, fun b hb => (hw.out.lt b hb).2⟩
      have BB := Lib.hid (B2.out.trans (ho.out.to_below (Nat.le_refl _) (by omega)))
      clear hw ho
      go_wp2
      go_ret
      exact ⟨⟨_, rfl, OW.out⟩, BB.out⟩
end Go.Proofs.YtkkojemnbcddfaaDoor
