/- Chapter 7: the model's pairs, whole. -/
import Derived.Test.YtkkojemnbcddfaaDoorX3
namespace Go.Proofs.YtkkojemnbcddfaaDoor
open Go.RowKit

theorem chr_wf {z : Int} (h : chrB z = true) : (Lit.int .i64 z).wf = true := by
  have h1 : IntKind.i64.min = -9223372036854775808 := rfl
  have h2 : IntKind.i64.max = 9223372036854775807 := rfl
  simp only [chrB, decide_eq_true_eq] at h
  simp only [Lit.wf, Bool.and_eq_true, decide_eq_true_eq, h1, h2]
  omega
theorem Sees.rdN {w : World} {B b off n c : Nat} {zs : List Int} (h : Sees w B .i64 (.slice (some ⟨b, off, none⟩) n c) zs) (h0 : 0 < zs.length) : ∀ k, k < zs.length → w.cell? ⟨b, off + k, none⟩ = some (.int .i64 (nth zs k)) := by
  obtain ⟨A', c', e, r⟩ := h
  injection e with e1 e2 e3
  subst e1
  obtain ⟨b', off', e', _, hc⟩ := r.int h0
  cases e'
  exact hc
set_option maxRecDepth 100000 in
set_option maxHeartbeats 8000000 in
theorem l7Pairs_any {w : World} {B g : Nat} {v0 v1 v2 : Value} {p : Prt} (h : PtR w 26 B g v0 v1 v2 p) (hB : B ≤ w.heap.size) (hT : p.T.length ≤ 600) (hN : p.N.length = p.T.length) (hc : ∀ z ∈ p.T, chrB z = true) :
    Calls Tryd.prog 36 #[.pointer (some ⟨g, 0, none⟩)] w fun e w' => (∃ u, e = .returned u ∧ OwnPr w' w.heap.size w'.heap.size 34 u (pairsN p.T p.N)) ∧ Below w.heap.size w w' := by
  obtain ⟨i0, hi, hz0, hz1, hz2⟩ := info_parts info_prs
  obtain ⟨A0, c0, e0, _⟩ := h.s0
  obtain ⟨A2, c2, e2, _⟩ := h.s2
  subst e0; subst e2
  have glt := h.lt
  have b1 := ((Below.refl w.heap.size w).alloc (Nat.le_refl _) (.cells #[] 34)).alloc (by simp) (.cells #[] 34)
  have H0 := Lib.hid (h.below b1 hB)
  have HP := Lib.hid h
  have B0 := Lib.hid b1
  have CH := Lib.hid hc
  have NT := Lib.hid hN
  have OA := Lib.hid (show ((w.alloc (.cells #[] 34)).alloc (.cells #[] 34)).ownsRow w.heap.size 34 2 (.slice (some ⟨w.heap.size, 0, none⟩) 0 0) (qrun p.T p.N 0).out.length (prs (qrun p.T p.N 0).out) from by
    have := (World.ownsRow_lit (base := w.heap.size) (e := 34) (size := 2) w #[] 0 (Nat.le_refl _) (by unfold maxLen; omega) rfl).alloc (.cells #[] 34)
    exact this)
  have OB := Lib.hid (show ((w.alloc (.cells #[] 34)).alloc (.cells #[] 34)).ownsRow w.heap.size 34 2 (.slice (some ⟨w.heap.size + 1, 0, none⟩) 0 0) (qrun p.T p.N 0).stk.length (prs (qrun p.T p.N 0).stk) from by
    have := World.ownsRow_lit (base := w.heap.size) (e := 34) (size := 2) (w.alloc (.cells #[] 34)) #[] 0 (by simp) (by unfold maxLen; omega) rfl
    rw [World.size_alloc] at this
    exact this)
  have D0 : Hid ((Value.slice (some ⟨w.heap.size, 0, none⟩) 0 0).ownBlock = none ∨ (Value.slice (some ⟨w.heap.size, 0, none⟩) 0 0).ownBlock ≠ (Value.slice (some ⟨w.heap.size + 1, 0, none⟩) 0 0).ownBlock) := Lib.hid (.inr (by simp [Value.ownBlock]))
  have Z0 : Hid ((qrun p.T p.N 0).dead = false) := Lib.hid rfl
  obtain ⟨n, hn⟩ : ∃ n, Hid (n = p.T.length) := ⟨_, Lib.hid rfl⟩
  have NL := Lib.hid (show p.N.length = n by rw [hn.out]; exact hN)
  rw [← hn.out] at hT
  have ec := H0.out.blk.cell 0 rfl
  rw [← hn.out] at ec
  clear h hc hN b1
  go_enter Tryd.func36, Tryd.ntmps36
  go_wp2
  generalize (w.alloc (.cells #[] 34)).alloc (.cells #[] 34) = w0 at *
  go_loopw [3, 4, 5] (fun vo vs i wr => ∃ k : Nat, k ≤ n ∧ i = .int .i64 k ∧ Hid ((qrun p.T p.N k).dead = false) ∧ Hid (wr.ownsRow w.heap.size 34 2 vo (qrun p.T p.N k).out.length (prs (qrun p.T p.N k).out)) ∧ Hid (wr.ownsRow w.heap.size 34 2 vs (qrun p.T p.N k).stk.length (prs (qrun p.T p.N k).stk)) ∧ Hid (vo.ownBlock = none ∨ vo.ownBlock ≠ vs.ownBlock) ∧ Hid (Below w.heap.size w wr)) (fun _ _ i _ => n - (intOf i).toNat)
  case atStart => exact ⟨0, by omega, rfl, Z0, OA, OB, D0, B0⟩
  case round =>
    clear Z0 OA OB D0 B0 ec
    obtain ⟨k, hk, rfl, hd, hoa, hob, hdis, hbr⟩ := hrel
    have INV := qinv_run p.T p.N k
    have few := INV.few
    have tot := INV.total
    have TN := Lib.hid INV
    clear INV
    have HR := Lib.hid (HP.out.below hbr.out hB)
    have wsz : w.heap.size ≤ wr.heap.size := hbr.out.size
    have ec0 := HR.out.blk.cell 0 (u := .slice A0 p.T.length c0) rfl
    have ec2 := HR.out.blk.cell 2 (u := .slice A2 p.N.length c2) rfl
    rw [← hn.out] at ec0
    rw [NL.out] at ec2
    by_cases hlt : k < n
    · obtain ⟨A, c, e, rT⟩ := HR.out.s0
      injection e with e1 e2 e3
      clear e2
      subst e1; subst e3
      obtain ⟨bT, oT, rfl, _, hcT⟩ := rT.int (by rw [← hn.out]; omega)
      have t0 := hcT k (by rw [← hn.out]; exact hlt)
      obtain ⟨A, c, e, rN⟩ := HR.out.s2
      injection e with e1 e2 e3
      clear e2
      subst e1; subst e3
      obtain ⟨bN, oN, rfl, hbN, hcN⟩ := rN.int (by rw [NL.out]; omega)
      have n0 := hcN k (by rw [NL.out]; exact hlt)
      have kn : (k : Int) < (n : Int) := by omega
      obtain ⟨z, hz⟩ : ∃ z, Hid (nth p.T k = z) := ⟨_, Lib.hid rfl⟩
      obtain ⟨y, hy⟩ : ∃ y, Hid (nth p.N k = y) := ⟨_, Lib.hid rfl⟩
      have WZ := Lib.hid (chr_wf (CH.out z (by rw [← hz.out]; unfold nth; rw [List.getElem?_eq_getElem (by rw [← hn.out]; exact hlt)]; exact List.getElem_mem _)))
      rw [hz.out] at t0
      rw [hy.out] at n0
      obtain ⟨S, hS⟩ : ∃ S, Hid (S = qrun p.T p.N k) := ⟨_, Lib.hid rfl⟩
      rw [← hS.out] at hd hoa hob few tot
      obtain ⟨Aa, ca, rfl⟩ := own_form hoa.out
      obtain ⟨Ab, cb, rfl⟩ := own_form hob.out
      clear hcT hcN rT rN n0
      obtain ⟨q, hq⟩ : ∃ q, Hid (brC z = q) := ⟨_, Lib.hid rfl⟩
      obtain ⟨o, ho⟩ : ∃ o, Hid (brO z = o) := ⟨_, Lib.hid rfl⟩
      obtain ⟨m, hm⟩ : ∃ m, Hid (brN z = m) := ⟨_, Lib.hid rfl⟩
      go_wp2_with fail
      refine (specBracketOf_val z wr WZ.out).mono ?_
      rintro e w1 ⟨rfl, b1⟩
      rw [hq.out, ho.out, hm.out]
      have K1 := Lib.hid (Blk.new w1 36 #[.int .i64 q, .bool o, .int .i64 m])
      have B1 := Lib.hid ((below_on hbr.out b1 (Nat.le_refl _)).alloc (by have := b1.size; omega) (.cells #[.int .i64 q, .bool o, .int .i64 m] 36))
      have OA1 := Lib.hid ((own_below hoa.out b1).alloc (.cells #[.int .i64 q, .bool o, .int .i64 m] 36))
      have OB1 := Lib.hid ((own_below hob.out b1).alloc (.cells #[.int .i64 q, .bool o, .int .i64 m] 36))
      have HR1 := Lib.hid (HP.out.below B1.out hB)
      have f2 := HR1.out.blk.cell 2 (u := .slice (some ⟨bN, oN, none⟩) p.N.length c2) rfl
      rw [NL.out] at f2
      have n1 := ((HR1.out.s2.rdN (by rw [NL.out]; omega)) k (by rw [NL.out]; exact hlt))
      rw [hy.out] at n1
      have w1s : w.heap.size ≤ w1.heap.size := by have := b1.size; omega
      clear b1 hbr hoa hob HR ec0 ec2 wsz t0
      have x0 := K1.out.cell 0 (u := .int .i64 q) rfl
      have x1 := K1.out.cell 1 (u := .bool o) rfl
      have x2 := K1.out.cell 2 (u := .int .i64 m) rfl
      by_cases hb : q = 0 ∧ y = 13
      · obtain ⟨rfl, rfl⟩ := hb
        have HB := Lib.hid (show brC (nth p.T k) = 0 ∧ nth p.N k = 13 by rw [hz.out]; exact ⟨hq.out, hy.out⟩)
        cases o with
        | true =>
          have HO := Lib.hid (show brO (nth p.T k) = true by rw [hz.out]; exact ho.out)
          by_cases hmn : 63 ≤ S.stk.length
          · have E := Lib.hid (show pairsN p.T p.N = [] by
              have e := qrun_many (T := p.T) (N := p.N) (k := k) (by rw [← hS.out]; exact hd.out) HB.out HO.out (by rw [← hS.out]; exact hmn)
              have e2 := qrun_dead_on (T := p.T) (N := p.N) (k := k + 1) (by rw [e]) (p.T.length - (k + 1))
              unfold pairsN
              rw [show p.T.length = (k + 1) + (p.T.length - (k + 1)) by have := hn.out; omega, e2, e])
            go_wp2
            go_ret
            rw [E.out]
            exact ⟨⟨_, rfl, OwnPr.nil _ _ _ _⟩, B1.out⟩
          · have E := Lib.hid (show qrun p.T p.N (k + 1) = ⟨S.out, S.stk ++ [((k : Int), m)], false⟩ by
              have e := qrun_open (T := p.T) (N := p.N) (k := k) (by rw [← hS.out]; exact hd.out) HB.out HO.out (by rw [← hS.out]; exact hmn)
              rw [e, ← hS.out, hz.out, hm.out])
            have RL := Lib.hid (show Rd ((w1.alloc (.cells #[.int .i64 0, .bool true, .int .i64 m] 36)).alloc (.cells #[.int .i64 k, .int .i64 m] 34)) (w1.heap.size + 1 + 1) (some ⟨w1.heap.size + 1, 0, none⟩) (prs [((k : Int), m)]) by
              have := Rd.lit (w1.alloc (.cells #[.int .i64 0, .bool true, .int .i64 m] 36)) #[.int .i64 k, .int .i64 m] 34
              rw [World.size_alloc] at this
              exact this)
            have m1 : decide ((63 : Int) ≤ (S.stk.length : Int)) = false := decide_eq_false (by omega)
            have m2 : decide (63 ≤ S.stk.length) = false := decide_eq_false hmn
            go_wp2_with (at_builtin; go_loud (refine wpList_app rfl _ _ _ rfl w.heap.size Tryd.underlying28 hi hz0 hz1 hz2 rfl (by omega) rfl (OB1.out.alloc _) rfl RL.out (m := 1) rfl (prs_one [((k : Int), m)]) (by omega) (by omega) (by simp; omega) ?_); intro v' w5 o5 g5 a5; obtain ⟨A5, c5, rfl⟩ := own_form o5)
            have gg := (World.grownBy_alloc (w1.alloc (.cells #[.int .i64 0, .bool true, .int .i64 m] 36)) (.cells #[.int .i64 k, .int .i64 m] 34) _).trans g5
            have OA5 := Lib.hid (show w5.ownsRow w.heap.size 34 2 (.slice Aa S.out.length ca) (qrun p.T p.N (k + 1)).out.length (prs (qrun p.T p.N (k + 1)).out) by rw [E.out]; exact OA1.out.kept gg hdis.out)
            have OB5 := Lib.hid (show w5.ownsRow w.heap.size 34 2 (.slice A5 (S.stk.length + 1) c5) (qrun p.T p.N (k + 1)).stk.length (prs (qrun p.T p.N (k + 1)).stk) by rw [E.out]; show w5.ownsRow _ _ _ _ (S.stk ++ [((k : Int), m)]).length (prs (S.stk ++ [((k : Int), m)])); rw [prs_app, List.length_append]; exact o5)
            have D5 := Lib.hid (show (Value.slice Aa S.out.length ca).ownBlock = none ∨ (Value.slice Aa S.out.length ca).ownBlock ≠ (Value.slice A5 (S.stk.length + 1) c5).ownBlock by
              rcases a5 with a5 | a5
              · rw [a5]; exact hdis.out
              · rcases hdis.out with h0 | _
                · exact .inl h0
                · by_cases h0 : (Value.slice Aa S.out.length ca).ownBlock = none
                  · exact .inl h0
                  · obtain ⟨gx, hgx⟩ := Option.ne_none_iff_exists'.1 h0
                    refine .inr fun e => ?_
                    rw [a5, hgx] at e
                    injection e with e
                    have := (OA1.out.lt gx hgx).2
                    simp at this e
                    omega)
            have B5 := Lib.hid (B1.out.grown gg (by simp; omega) (fun b hb => (OB1.out.lt b hb).1))
            have Z5 := Lib.hid (show (qrun p.T p.N (k + 1)).dead = false by rw [E.out])
            clear o5 g5 a5 gg
            go_roundw
            case rel => exact ⟨k + 1, by omega, by go_num, Z5, OA5, OB5, D5, B5⟩
            case measure => first | omega | (simp [intOf]; done) | (simp [intOf]; omega)
        | false =>
          have HO := Lib.hid (show brO (nth p.T k) = false by rw [hz.out]; exact ho.out)
          have MM := Lib.hid (show brN (nth p.T k) = m by rw [hz.out]; exact hm.out)
          go_wp2
          generalize hw2 : w1.alloc (.cells #[.int .i64 0, .bool false, .int .i64 m] 36) = w2 at *
          go_loopw [3, 4, 7] (fun va vb i wq => ∃ (j d : Nat), j ≤ S.stk.length ∧ i = .int .i64 ((j : Int) - 1) ∧ va = .slice Aa S.out.length ca ∧ vb = .slice Ab S.stk.length cb ∧ Hid (lastN m S.stk S.stk.length = lastN m S.stk j) ∧ wq = w2.drewN d) (fun _ _ i _ => (intOf i + 1).toNat)
          case atStart => exact ⟨S.stk.length, 0, Nat.le_refl _, rfl, rfl, rfl, Lib.hid rfl, rfl⟩
          case round =>
            obtain ⟨j, d, hj, rfl, rfl, rfl, hL, rfl⟩ := hrel
            have dg0 : (w2.drewN d).cell? ⟨w1.heap.size, 2, none⟩ = some (.int .i64 m) := x2
            cases j with
            | zero =>
              have E := Lib.hid (show qrun p.T p.N (k + 1) = S by
                rw [qrun_lone (T := p.T) (N := p.N) (k := k) (by rw [← hS.out]; exact hd.out) HB.out HO.out (by rw [← hS.out, MM.out]; exact hL.out), hS.out])
              have z0 : ((0 : Nat) : Int) - 1 = -1 := rfl
              rw [z0]
              have OA5 := Lib.hid (show (w2.drewN d).ownsRow w.heap.size 34 2 (.slice Aa S.out.length ca) (qrun p.T p.N (k + 1)).out.length (prs (qrun p.T p.N (k + 1)).out) by rw [E.out]; exact OA1.out)
              have OB5 := Lib.hid (show (w2.drewN d).ownsRow w.heap.size 34 2 (.slice Ab S.stk.length cb) (qrun p.T p.N (k + 1)).stk.length (prs (qrun p.T p.N (k + 1)).stk) by rw [E.out]; exact OB1.out)
              have Z5 := Lib.hid (show (qrun p.T p.N (k + 1)).dead = false by rw [E.out]; exact hd.out)
              have B5 := Lib.hid (below_drewN B1.out d)
              go_wp2
              go_roundw
              case rel => exact ⟨k + 1, by omega, by go_num, Z5, OA5, OB5, hdis, B5⟩
              case measure => first | omega | (simp [intOf]; done) | (simp [intOf]; omega)
            | succ j =>
              have e1 : ((j + 1 : Nat) : Int) - 1 = (j : Int) := by omega
              rw [e1]
              obtain ⟨gs, cs, eS, hgs, s0, s1⟩ := ownPr_at OB1.out rfl j (by omega)
              injection eS with eS1 eS2 eS3
              subst eS1; subst eS3
              clear eS2
              have cap := (own_cap OB1.out).1
              have d0 : (w2.drewN d).cell? ⟨gs, j * 2, none⟩ = some (.int .i64 (nthP S.stk j).1) := s0
              have d1 : (w2.drewN d).cell? ⟨gs, j * 2 + 1, none⟩ = some (.int .i64 (nthP S.stk j).2) := s1
              have ij : (j : Int) < (S.stk.length : Int) := by omega
              have jb : j < 64 := by omega
              obtain ⟨a0, ha0⟩ : ∃ a, Hid ((nthP S.stk j).1 = a) := ⟨_, Lib.hid rfl⟩
              obtain ⟨a1, ha1⟩ : ∃ a, Hid ((nthP S.stk j).2 = a) := ⟨_, Lib.hid rfl⟩
              rw [ha0.out] at d0 s0
              rw [ha1.out] at d1 s1
              by_cases ham : a1 = m
              · have LJ := Lib.hid (show lastN m S.stk S.stk.length = some j by rw [hL.out, lastN_hit (by rw [ha1.out]; exact ham)])
                have f1 : (a1 == m) = true := by simp [ham]
                have E := Lib.hid (show qrun p.T p.N (k + 1) = ⟨putP (a0, (k : Int)) S.out, S.stk.take j, false⟩ by
                  rw [qrun_close (T := p.T) (N := p.N) (k := k) (j := j) (by rw [← hS.out]; exact hd.out) HB.out HO.out (by rw [← hS.out, MM.out]; exact LJ.out), ← hS.out, ha0.out])
                clear ham
                go_wp2_with fail
                go_quiet (fail)
                go_wp2_with fail
                have RA := (OwnPr.mk_ (w := w2.drewN (d + nq)) (lo := w.heap.size) OA1.out rfl).sees
                obtain ⟨Ax, cx, ex, rx⟩ := RA
                injection ex with ex1 ex2 ex3
                subst ex1
                clear ex2 ex3
                refine (l7Put_any Aa S.out ca a0 k (w2.drewN (d + nq)) _ rx (Nat.le_refl _) (by omega)).mono ?_
                rintro e w5 ⟨⟨u5, rfl, o5⟩, b5⟩
                obtain ⟨A5, c5, rfl⟩ := o5.form
                have w2s : w.heap.size ≤ w2.heap.size := by have := B1.out.size; omega
                have B5 := Lib.hid (below_on (below_drewN B1.out (d + nq)) b5 (Nat.le_refl _))
                have OA5 := Lib.hid (show w5.ownsRow w.heap.size 34 2 (.slice A5 (putP (a0, (k : Int)) S.out).length c5) (qrun p.T p.N (k + 1)).out.length (prs (qrun p.T p.N (k + 1)).out) by rw [E.out]; exact own_more o5.1 w2s)
                have OB5 := Lib.hid (show w5.ownsRow w.heap.size 34 2 (.slice (some ⟨gs, 0, none⟩) j cb) (qrun p.T p.N (k + 1)).stk.length (prs (qrun p.T p.N (k + 1)).stk) by
                  rw [E.out]
                  have q := own_take (own_below (w := w2.drewN (d + nq)) OB1.out b5) (m := j) (by omega)
                  rw [prs_take] at q
                  show w5.ownsRow _ _ _ _ (S.stk.take j).length (prs (S.stk.take j))
                  rw [List.length_take, Nat.min_eq_left (by omega)]
                  exact q)
                have D5 := Lib.hid (show (Value.slice A5 (putP (a0, (k : Int)) S.out).length c5).ownBlock = none ∨ (Value.slice A5 (putP (a0, (k : Int)) S.out).length c5).ownBlock ≠ (Value.slice (some ⟨gs, 0, none⟩) j cb).ownBlock by
                  by_cases h0 : (Value.slice A5 (putP (a0, (k : Int)) S.out).length c5).ownBlock = none
                  · exact .inl h0
                  · obtain ⟨gx, hgx⟩ := Option.ne_none_iff_exists'.1 h0
                    refine .inr fun e => ?_
                    rw [hgx] at e
                    have e : some gx = some gs := e
                    injection e with e
                    have h1 := (o5.1.lt gx hgx).1
                    have h2 := (OB1.out.lt gs rfl).2
                    have h1 : w2.heap.size ≤ gx := h1
                    omega)
                have Z5 := Lib.hid (show (qrun p.T p.N (k + 1)).dead = false by rw [E.out])
                have jc : (j : Int) ≤ (cb : Int) := by omega
                clear o5 b5 rx
                go_wp2
                go_roundw
                case rel => exact ⟨k + 1, by omega, by go_num, Z5, OA5, OB5, D5, B5⟩
                case measure => first | omega | (simp [intOf]; done) | (simp [intOf]; omega)
              · have L2 := Lib.hid (show lastN m S.stk S.stk.length = lastN m S.stk j by rw [hL.out, lastN_miss (by rw [ha1.out]; exact ham)])
                have f1 : (a1 == m) = false := by simpa using ham
                clear ham
                go_wp2_with fail
                go_quiet (fail)
                go_wp2
                go_roundw
                case rel => exact ⟨j, d + nq, by omega, by first | rfl | go_num, rfl, rfl, L2, by first | rfl | rw [World.drewN_drewN]⟩
                case measure => first | omega | (simp [intOf]; done) | (simp [intOf]; omega)
      · have E := Lib.hid (show qrun p.T p.N (k + 1) = S by rw [qrun_none (T := p.T) (N := p.N) (k := k) (by rw [hz.out, hy.out, hq.out]; exact hb), hS.out])
        have OA5 := Lib.hid (show (w1.alloc (.cells #[.int .i64 q, .bool o, .int .i64 m] 36)).ownsRow w.heap.size 34 2 (.slice Aa S.out.length ca) (qrun p.T p.N (k + 1)).out.length (prs (qrun p.T p.N (k + 1)).out) by rw [E.out]; exact OA1.out)
        have OB5 := Lib.hid (show (w1.alloc (.cells #[.int .i64 q, .bool o, .int .i64 m] 36)).ownsRow w.heap.size 34 2 (.slice Ab S.stk.length cb) (qrun p.T p.N (k + 1)).stk.length (prs (qrun p.T p.N (k + 1)).stk) by rw [E.out]; exact OB1.out)
        have Z5 := Lib.hid (show (qrun p.T p.N (k + 1)).dead = false by rw [E.out]; exact hd.out)
        by_cases hq0 : q = 0
        · have y13 : (y != 13) = true := by simpa using (fun h => hb ⟨hq0, h⟩)
          subst hq0
          go_wp2
          go_roundw
          case rel => exact ⟨k + 1, by omega, by go_num, Z5, OA5, OB5, hdis, B1⟩
          case measure => first | omega | (simp [intOf]; done) | (simp [intOf]; omega)
        · have q0 : (q != 0) = true := by simpa using hq0
          clear hq0 hb
          go_wp2
          go_roundw
          case rel => exact ⟨k + 1, by omega, by go_num, Z5, OA5, OB5, hdis, B1⟩
          case measure => first | omega | (simp [intOf]; done) | (simp [intOf]; omega)
    · have hkn : k = n := by omega
      have E := Lib.hid (show pairsN p.T p.N = (qrun p.T p.N k).out by unfold pairsN; rw [hkn, hn.out])
      have OW := Lib.hid (show OwnPr wr w.heap.size wr.heap.size 34 _ (pairsN p.T p.N) from by rw [E.out]; exact OwnPr.mk_ hoa.out rfl)
      obtain ⟨Aa, ca, rfl⟩ := own_form hoa.out
      clear hkn hoa hob ec2
      go_wp2
      go_ret
      exact ⟨⟨_, rfl, OW.out⟩, hbr.out⟩
end Go.Proofs.YtkkojemnbcddfaaDoor
