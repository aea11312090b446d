/- Chapter 7: the program's pairs of brackets. -/
import Derived.Test.YtkkojemnbcddfaaDoorZ2
import Derived.Test.YtkkojemnbcddfaaDoorZ5
import Derived.Test.YtkkojemnbcddfaaDoorC7
namespace Go.Proofs.YtkkojemnbcddfaaDoor
open Go.RowKit Go.Maps

theorem brN_bound (c : Int) : 0 ≤ brN c ∧ brN c ≤ 9001 := by
  have h : ∀ p ∈ pairL, 0 ≤ p.2.2 ∧ p.2.2 ≤ 9001 := by decide
  have hp : 0 ≤ pName c ∧ pName c ≤ 9001 := by
    unfold pName
    cases hf : pairAt c with
    | none => exact ⟨by decide, by decide⟩
    | some p => exact h p (List.mem_of_find?_eq_some hf)
  unfold brN
  split
  · split
    · exact hp
    · omega
  · omega
theorem wf_small {z : Int} (h : 0 ≤ z ∧ z ≤ 9001) : (Lit.int .i64 z).wf = true := by
  have h1 : IntKind.i64.min = -9223372036854775808 := rfl
  have h2 : IntKind.i64.max = 9223372036854775807 := rfl
  simp only [Lit.wf, Bool.and_eq_true, decide_eq_true_eq, h1, h2]
  omega
theorem OwnMap.size {w : World} {b n : Nat} {D : DataW Unit} {st : List Pr} (h : OwnMap w b n D) (hO : Opn D st) (hup : st.Pairwise fun x y => x.1 < y.1) : Maps.size D = st.length := by
  obtain ⟨es, e, h1, h2⟩ := World.ownsMap.entries h opLaw
  exact kt_size ⟨es, e, h1, h2⟩ hO.has hup
theorem OwnMap.keep {w w' : World} {b n : Nat} {D : DataW Unit} (h : OwnMap w b n D) (e : w'.heap[b]? = w.heap[b]?) : OwnMap w' b n D := by
  obtain ⟨es, clock, hb, rest⟩ := h
  exact ⟨es, clock, e.trans hb, rest⟩
theorem OwnPr.on {w w' : World} {lo : Nat} {t : TypeId} {v : Value} {l : List Pr} (h : OwnPr w lo w.heap.size t v l) (hb : Below w.heap.size w w') : OwnPr w' lo w'.heap.size t v l := (h.below hb (Nat.le_refl _)).more (Nat.le_refl _) hb.size
theorem below_out {g lo hi : Nat} {a w w' : World} (h : Below g a w) (ho : Out lo hi w w') (hg : g ≤ lo) (hw : g ≤ w.heap.size) : Below g a w' := h.trans (ho.to_below hg hw)
set_option maxRecDepth 100000 in
set_option maxHeartbeats 8000000 in
theorem pairsIn_any (v0 v1 v2 : Value) (p : Prt) (w : World) (B : Nat) (h0 : Sees w B .i64 v0 p.T) (h1 : Sees w B .i64 v1 p.F) (h2 : Sees w B .i64 v2 p.N) (hB : B ≤ w.heap.size) (hT : p.T.length ≤ 600) (hN : p.N.length = p.T.length) (hc : ∀ z ∈ p.T, chrB z = true) (hP : Pairs w) :
    Calls Tryd.prog 35 #[.agg #[v0, v1, v2, .int .i64 p.L, .int .i64 p.S, .int .i64 p.E]] w fun e w' => (∃ u, e = .returned u ∧ OwnPr w' w.heap.size w'.heap.size 34 u (pairsN p.T p.N)) ∧ Below w.heap.size w w' := by
  obtain ⟨i0, hi, hz0, hz1, hz2⟩ := info_parts info_prs
  have PT := PtR.new w 26 B v0 v1 v2 p hB h0 h1 h2
  obtain ⟨A0, c0, rfl, _⟩ := h0
  obtain ⟨A1, c1, rfl, _⟩ := h1
  obtain ⟨A2, c2, rfl, _⟩ := h2
  have HPW := Lib.hid hP
  have b0 := (Below.refl w.heap.size w).alloc (Nat.le_refl _) (.cells #[.slice A0 p.T.length c0, .slice A1 p.F.length c1, .slice A2 p.N.length c2, .int .i64 p.L, .int .i64 p.S, .int .i64 p.E] 26)
  have M0 : Hid (OwnMap ((w.alloc (.cells #[.slice A0 p.T.length c0, .slice A1 p.F.length c1, .slice A2 p.N.length c2, .int .i64 p.L, .int .i64 p.S, .int .i64 p.E] 26)).alloc (.map #[] 0)) (w.heap.size + 1) 0 (.map [])) := Lib.hid (by
    have := World.ownsMap_made (H := Unit) (w.alloc (.cells #[.slice A0 p.T.length c0, .slice A1 p.F.length c1, .slice A2 p.N.length c2, .int .i64 p.L, .int .i64 p.S, .int .i64 p.E] 26)) Tryd.prog 2 (plainElem Tryd.prog 2)
    rw [World.size_alloc] at this
    exact this)
  have P0 := Lib.hid (PT.below ((Below.refl (w.heap.size + 1) _).alloc (by simp) (.map #[] 0)) (Nat.le_refl _))
  have B0 := Lib.hid (b0.alloc (by simp) (.map #[] 0))
  have SZ : ((w.alloc (.cells #[.slice A0 p.T.length c0, .slice A1 p.F.length c1, .slice A2 p.N.length c2, .int .i64 p.L, .int .i64 p.S, .int .i64 p.E] 26)).alloc (.map #[] 0)).heap.size = w.heap.size + 1 + 1 := by simp
  have CH := Lib.hid hc
  have NT := Lib.hid hN
  have ONE : Hid ((qrun p.T p.N 0).dead = false) := Lib.hid rfl
  obtain ⟨n, hn⟩ : ∃ n, Hid (n = p.T.length) := ⟨_, Lib.hid rfl⟩
  have NL := Lib.hid (show p.N.length = n by rw [hn.out]; exact hN)
  rw [← hn.out] at hT M0 P0 B0 SZ ⊢
  have ec := P0.out.blk.cell 0 (u := .slice A0 n c0) rfl
  clear hc hN PT b0 hP
  have hmm := @run_makeMap Tryd.prog
  go_enter Tryd.func35, Tryd.ntmps35
  go_wp2
  clear hmm
  generalize (w.alloc (.cells #[.slice A0 n c0, .slice A1 p.F.length c1, .slice A2 p.N.length c2, .int .i64 p.L, .int .i64 p.S, .int .i64 p.E] 26)).alloc (.map #[] 0) = w0 at *
  go_loopw [3, 14] (fun vo i wr => ∃ k : Nat, k ≤ n ∧ i = .int .i64 k ∧ Hid ((qrun p.T p.N k).dead = false) ∧ Hid (∃ qs : List Pr, qs.Perm (qrun p.T p.N k).out ∧ OwnPr wr (w.heap.size + 2) wr.heap.size 34 vo qs) ∧ Hid (∃ D, OwnMap wr (w.heap.size + 1) k D ∧ Opn D (qrun p.T p.N k).stk) ∧ Hid (Below (w.heap.size + 1) w0 wr)) (fun _ i _ => n - (intOf i).toNat)
  case atStart => exact ⟨0, by omega, rfl, ONE, Lib.hid ⟨[], List.Perm.refl _, OwnPr.nil _ _ _ _⟩, Lib.hid ⟨_, M0.out, Opn.nil⟩, Lib.hid (Below.refl _ _)⟩
  case round =>
    clear ONE ec
    obtain ⟨k, hk, rfl, hd, ⟨qs, hpm, hoa⟩, ⟨D, hmap, hop⟩, hbr⟩ := hrel
    have HPM := Lib.hid hpm
    have HOA := Lib.hid hoa
    have HMP := Lib.hid hmap
    have HOP := Lib.hid hop
    clear hpm hmap hop
    have INV := qinv_run p.T p.N k
    have few := INV.few
    have tot := INV.total
    have UP := Lib.hid INV.up
    have ST := Lib.hid INV.stk
    have RI := Lib.hid INV.rises
    clear INV
    have HR := Lib.hid (P0.out.below hbr.out (Nat.le_refl _))
    have wsz : w.heap.size + 1 + 1 ≤ wr.heap.size := by rw [← SZ]; exact hbr.out.size
    have BW := Lib.hid (B0.out.trans (hbr.out.mono (Nat.le_succ _)))
    have ec0 := HR.out.blk.cell 0 (u := .slice A0 n c0) rfl
    have ec2 := HR.out.blk.cell 2 (u := .slice A2 p.N.length c2) rfl
    rw [NL.out] at ec2
    have ql := Lib.hid (show qs.length = (qrun p.T p.N k).out.length from HPM.out.length_eq)
    obtain ⟨Aa, ca, rfl⟩ := hoa.form
    clear hoa
    by_cases hlt : k < n
    · obtain ⟨A, c, e, rT⟩ := HR.out.s0
      have eT := (sl_eq e).1
      subst eT
      obtain ⟨bT, oT, rfl, _, hcT⟩ := rT.int (by rw [← hn.out]; omega)
      have t0 := hcT k (by rw [← hn.out]; exact hlt)
      obtain ⟨A', c', e', rN⟩ := HR.out.s2
      have eN := (sl_eq e').1
      subst eN
      obtain ⟨bN, oN, rfl, hbN, hcN⟩ := rN.int (by rw [NL.out]; omega)
      have n0 := hcN k (by rw [NL.out]; exact hlt)
      have kn : (k : Int) < (n : Int) := by omega
      obtain ⟨z, hz⟩ : ∃ z, Hid (nth p.T k = z) := ⟨_, Lib.hid rfl⟩
      obtain ⟨y, hy⟩ : ∃ y, Hid (nth p.N k = y) := ⟨_, Lib.hid rfl⟩
      have WZ := Lib.hid (chr_wf (CH.out z (by rw [← hz.out]; unfold nth; rw [List.getElem?_eq_getElem (by rw [← hn.out]; exact hlt)]; exact List.getElem_mem _)))
      rw [hz.out] at t0
      rw [hy.out] at n0
      obtain ⟨S, hS⟩ : ∃ S, Hid (S = qrun p.T p.N k) := ⟨_, Lib.hid rfl⟩
      rw [← hS.out] at hd HPM HOP few tot UP ST RI ql
      have qt : qs.length ≤ 601 := by have := ql.out; omega
      clear hcT hcN rT rN n0 e e'
      obtain ⟨q, hq⟩ : ∃ q, Hid (brC z = q) := ⟨_, Lib.hid rfl⟩
      obtain ⟨o, ho⟩ : ∃ o, Hid (brO z = o) := ⟨_, Lib.hid rfl⟩
      have MB := brN_bound z
      obtain ⟨m, hm⟩ : ∃ m, Hid (brN z = m) := ⟨_, Lib.hid rfl⟩
      rw [hm.out] at MB
      go_wp2_with fail
      refine (bracketOf_val z wr (HPW.out.on BW.out) WZ.out).mono ?_
      rintro e w1 ⟨rfl, b1⟩
      rw [hq.out, ho.out, hm.out]
      have K1 := Lib.hid (Blk.new w1 36 #[.int .i64 q, .bool o, .int .i64 m])
      have qb1 : Below wr.heap.size wr (w1.alloc (.cells #[.int .i64 q, .bool o, .int .i64 m] 36)) := b1.alloc b1.size (.cells #[.int .i64 q, .bool o, .int .i64 m] 36)
      have B1 := Lib.hid (hbr.out.trans (qb1.mono (show w.heap.size + 1 ≤ wr.heap.size by omega)))
      have OA1 := Lib.hid (HOA.out.on qb1)
      have M1 := Lib.hid (HMP.out.below qb1)
      have HR1 := Lib.hid (P0.out.below B1.out (Nat.le_refl _))
      have f2 := HR1.out.blk.cell 2 (u := .slice (some ⟨bN, oN, none⟩) p.N.length c2) rfl
      rw [NL.out] at f2
      have n1 := ((HR1.out.s2.rdN (by rw [NL.out]; omega)) k (by rw [NL.out]; exact hlt))
      rw [hy.out] at n1
      have w1s : w.heap.size + 1 + 1 ≤ (w1.alloc (.cells #[.int .i64 q, .bool o, .int .i64 m] 36)).heap.size := by have := qb1.size; omega
      clear b1 hbr HOA HMP HR ec0 ec2 wsz t0 qb1 BW
      have x0 := K1.out.cell 0 (u := .int .i64 q) rfl
      have x1 := K1.out.cell 1 (u := .bool o) rfl
      have x2 := K1.out.cell 2 (u := .int .i64 m) rfl
      by_cases hb : q = 0 ∧ y = 13
      · obtain ⟨rfl, rfl⟩ := hb
        have HB := Lib.hid (show brC (nth p.T k) = 0 ∧ nth p.N k = 13 by rw [hz.out]; exact ⟨hq.out, hy.out⟩)
        cases o with
        | true =>
          have HO := Lib.hid (show brO (nth p.T k) = true by rw [hz.out]; exact ho.out)
          have LEN := Lib.hid (M1.out.size HOP.out UP.out)
          by_cases hmn : S.stk.length = 63
          · have E := Lib.hid (show pairsN p.T p.N = [] by
              have e := qrun_many (T := p.T) (N := p.N) (k := k) (by rw [← hS.out]; exact hd.out) HB.out HO.out (by rw [← hS.out]; omega)
              have e2 := qrun_dead_on (T := p.T) (N := p.N) (k := k + 1) (by rw [e]) (p.T.length - (k + 1))
              unfold pairsN
              rw [show p.T.length = (k + 1) + (p.T.length - (k + 1)) by have := hn.out; omega, e2, e])
            have BE := Lib.hid (B0.out.trans (B1.out.mono (Nat.le_succ _)))
            have LE := Lib.hid (show ((Maps.size D : Nat) : Int) = 63 by rw [LEN.out, hmn]; rfl)
            generalize hw1 : w1.alloc (.cells #[.int .i64 0, .bool true, .int .i64 m] 36) = wa at *
            clear hmn
            go_wp2_with (at_len; refine wpList_len_own _ rfl _ 76 rfl 2 2 Tryd.underlying76 _ (w.heap.size + 1) k D rfl M1.out ?_; rw [LE.out])
            go_ret
            rw [E.out]
            exact ⟨⟨_, rfl, OwnPr.nil _ _ _ _⟩, BE.out⟩
          · have E := Lib.hid (show qrun p.T p.N (k + 1) = ⟨S.out, S.stk ++ [((k : Int), m)], false⟩ by
              have e := qrun_open (T := p.T) (N := p.N) (k := k) (by rw [← hS.out]; exact hd.out) HB.out HO.out (by rw [← hS.out]; omega)
              rw [e, ← hS.out, hz.out, hm.out])
            have NE := Lib.hid (show ∀ x ∈ S.stk, x.1 ≠ (k : Int) from fun x hx => by obtain ⟨o, h1, h2, _⟩ := ST.out x hx; omega)
            have LE := Lib.hid (show ((Maps.size D : Nat) : Int) = (S.stk.length : Int) by rw [LEN.out])
            have l63 : ((S.stk.length : Int) == 63) = false := by simp; omega
            have wfk : (Lit.int .i64 (k : Int)).wf = true := wf_small (by omega)
            have wfm : (Lit.int .i64 m).wf = true := wf_small MB
            have Z5 := Lib.hid (show (qrun p.T p.N (k + 1)).dead = false by rw [E.out])
            have PM5 := Lib.hid (show qs.Perm (qrun p.T p.N (k + 1)).out by rw [E.out]; exact HPM.out)
            generalize hw1 : w1.alloc (.cells #[.int .i64 0, .bool true, .int .i64 m] 36) = wa at *
            go_wp2_with (first
              | (at_len; refine wpList_len_own _ rfl _ 76 rfl 2 2 Tryd.underlying76 _ (w.heap.size + 1) k D rfl M1.out ?_; rw [LE.out])
              | (at_mapUpdate; refine wpList_mapUpdate_in _ rfl _ _ _ 76 rfl 2 2 opLaw Tryd.underlying76 _ (w.heap.size + 1) k D rfl M1.out (by unfold maxLen; omega) _ _ _ rfl rfl (keyOf_int_mk Tryd.underlying2 wfk) _ [] (plainElem_int Tryd.underlying2 wfm) ?_; intro w5 hown5 hturn5))
            have o5 := grown_out hturn5.grown
            have M5 := Lib.hid (show ∃ D, OwnMap w5 (w.heap.size + 1) (k + 1) D ∧ Opn D (qrun p.T p.N (k + 1)).stk by rw [E.out]; exact ⟨_, hown5, HOP.out.put ((World.ownsMap.entries M1.out opLaw).elim fun es h => ⟨es, h.1⟩) k m NE.out⟩)
            have OA5 := Lib.hid (show ∃ ys : List Pr, ys.Perm (qrun p.T p.N (k + 1)).out ∧ OwnPr w5 (w.heap.size + 2) w5.heap.size 34 (.slice Aa qs.length ca) ys from ⟨qs, PM5.out, (OA1.out.out o5 (.inr (by omega))).more (Nat.le_refl _) o5.size⟩)
            have B5 := Lib.hid (below_out B1.out o5 (Nat.le_refl _) (by omega))
            clear o5 hown5 hturn5
            go_wp2
            go_roundw
            case rel => exact ⟨k + 1, by omega, by go_num, Z5, OA5, M5, B5⟩
            case measure => first | omega | (simp [intOf]; done) | (simp [intOf]; omega)
        | false =>
          have HO := Lib.hid (show brO (nth p.T k) = false by rw [hz.out]; exact ho.out)
          have MM := Lib.hid (show brN (nth p.T k) = m by rw [hz.out]; exact hm.out)
          have NN := Lib.hid (show ∀ x ∈ S.stk, 0 ≤ x.1 from fun x hx => by obtain ⟨o, h1, h2, _⟩ := ST.out x hx; omega)
          generalize hw1 : w1.alloc (.cells #[.int .i64 0, .bool false, .int .i64 m] 36) = wa at *
          go_wp2_with fail
          refine (lastOpen_any M1.out HOP.out UP.out NN.out m).mono ?_
          rintro e w2 ⟨rfl, b2⟩
          have s2 := b2.size
          have B2 := Lib.hid (B1.out.trans (b2.mono (show w.heap.size + 1 ≤ wa.heap.size by omega)))
          have OA2 := Lib.hid (OA1.out.on b2)
          have M2 := Lib.hid (M1.out.below b2)
          clear b2 OA1 M1 HR1 f2 n1 x0 x1 x2 K1
          cases hj : lastN m S.stk S.stk.length with
          | none =>
            have E := Lib.hid (show qrun p.T p.N (k + 1) = S by rw [qrun_lone (T := p.T) (N := p.N) (k := k) (by rw [← hS.out]; exact hd.out) HB.out HO.out (by rw [← hS.out, MM.out]; exact hj), hS.out])
            have LP : lastP m S.stk = -1 := by unfold lastP; rw [hj]
            rw [LP]
            have Z5 := Lib.hid (show (qrun p.T p.N (k + 1)).dead = false by rw [E.out]; exact hd.out)
            have M5 := Lib.hid (show ∃ D, OwnMap w2 (w.heap.size + 1) (k + 1) D ∧ Opn D (qrun p.T p.N (k + 1)).stk by rw [E.out]; exact ⟨_, World.ownsMap.mono M2.out (Nat.le_succ _), HOP.out⟩)
            have OA5 := Lib.hid (show ∃ ys : List Pr, ys.Perm (qrun p.T p.N (k + 1)).out ∧ OwnPr w2 (w.heap.size + 2) w2.heap.size 34 (.slice Aa qs.length ca) ys by rw [E.out]; exact ⟨qs, HPM.out, OA2.out⟩)
            clear LP hj
            go_wp2
            go_roundw
            case rel => exact ⟨k + 1, by omega, by go_num, Z5, OA5, M5, B2⟩
            case measure => first | omega | (simp [intOf]; done) | (simp [intOf]; omega)
          | some j =>
            have jl := (lastN_some hj).1
            have LP : lastP m S.stk = (nthP S.stk j).1 := by unfold lastP; rw [hj]
            have a0n := NN.out _ (nthP_mem jl)
            have FT := Lib.hid (filter_take UP.out jl)
            obtain ⟨a0, ha0⟩ : ∃ a, Hid ((nthP S.stk j).1 = a) := ⟨_, Lib.hid rfl⟩
            rw [LP, ha0.out]
            rw [ha0.out] at a0n FT
            have E := Lib.hid (show qrun p.T p.N (k + 1) = ⟨putP (a0, (k : Int)) S.out, S.stk.take j, false⟩ by
              rw [qrun_close (T := p.T) (N := p.N) (k := k) (j := j) (by rw [← hS.out]; exact hd.out) HB.out HO.out (by rw [← hS.out, MM.out]; exact hj), ← hS.out, ha0.out])
            have a0d : decide (0 ≤ a0) = true := decide_eq_true a0n
            have a0e : decide (a0 ≥ 0) = true := decide_eq_true a0n
            have RL := Lib.hid (show Rd (w2.alloc (.cells #[.int .i64 a0, .int .i64 k] 34)) (w2.heap.size + 1) (some ⟨w2.heap.size, 0, none⟩) (prs [(a0, (k : Int))]) from Rd.lit w2 #[.int .i64 a0, .int .i64 k] 34)
            have OA3 := Lib.hid (OA2.out.alloc (.cells #[.int .i64 a0, .int .i64 k] 34))
            clear LP hj a0n
            go_wp2_with (at_builtin; go_loud (refine wpList_app rfl _ _ _ rfl (w.heap.size + 2) Tryd.underlying28 hi hz0 hz1 hz2 rfl (by omega) rfl OA3.out.1 rfl RL.out (m := 1) rfl (prs_one [(a0, (k : Int))]) (by omega) (by omega) (by simp; omega) ?_); intro v' w5 o5 g5 a5; obtain ⟨A5, c5, rfl⟩ := own_form o5)
            have gg := (World.grownBy_alloc w2 (.cells #[.int .i64 a0, .int .i64 k] 34) _).trans g5
            have lob : ∀ b, (Value.slice Aa qs.length ca).ownBlock = some b → w.heap.size + 2 ≤ b := fun b hb => (OA2.out.lt b hb).1
            have B5 := Lib.hid (B2.out.grown gg (by omega) (fun b hb => by have := lob b hb; omega))
            have OA5 := Lib.hid (show OwnPr w5 (w.heap.size + 2) w5.heap.size 34 (.slice A5 (qs.length + 1) c5) (qs ++ [(a0, (k : Int))]) from OwnPr.mk_ (by rw [prs_app]; exact o5) (by simp))
            have M5 := Lib.hid (show OwnMap w5 (w.heap.size + 1) k D from World.ownsMap.kept M2.out gg (by intro e; have := lob _ e.symm; omega))
            have s5 := gg.size
            clear o5 g5 a5 gg lob RL OA3
            refine (closeFrom_any M5.out HOP.out a0).mono ?_
            rintro e w6 ⟨⟨rfl, D', hM6, hD6⟩, o6⟩
            have Z6 := Lib.hid (show (qrun p.T p.N (k + 1)).dead = false by rw [E.out])
            have M6 := Lib.hid (show ∃ D, OwnMap w6 (w.heap.size + 1) (k + 1) D ∧ Opn D (qrun p.T p.N (k + 1)).stk by rw [E.out]; exact ⟨_, World.ownsMap.mono hM6 (Nat.le_succ _), by rw [FT.out] at hD6; exact hD6⟩)
            have OA6 := Lib.hid (show ∃ qs' : List Pr, qs'.Perm (qrun p.T p.N (k + 1)).out ∧ OwnPr w6 (w.heap.size + 2) w6.heap.size 34 (.slice A5 (qs.length + 1) c5) qs' by rw [E.out]; exact ⟨qs ++ [(a0, (k : Int))], snoc_perm _ HPM.out, (OA5.out.out o6 (.inr (by omega))).more (Nat.le_refl _) o6.size⟩)
            have B6 := Lib.hid (below_out B5.out o6 (Nat.le_refl _) (by omega))
            clear o6 hM6 hD6
            go_wp2
            go_roundw
            case rel => exact ⟨k + 1, by omega, by go_num, Z6, OA6, M6, B6⟩
            case measure => first | omega | (simp [intOf]; done) | (simp [intOf]; omega)
      · have E := Lib.hid (show qrun p.T p.N (k + 1) = S by rw [qrun_none (T := p.T) (N := p.N) (k := k) (by rw [hz.out, hy.out, hq.out]; exact hb), hS.out])
        generalize hw1 : w1.alloc (.cells #[.int .i64 q, .bool o, .int .i64 m] 36) = wa at *
        have Z5 := Lib.hid (show (qrun p.T p.N (k + 1)).dead = false by rw [E.out]; exact hd.out)
        have M5 := Lib.hid (show ∃ D, OwnMap wa (w.heap.size + 1) (k + 1) D ∧ Opn D (qrun p.T p.N (k + 1)).stk by rw [E.out]; exact ⟨_, World.ownsMap.mono M1.out (Nat.le_succ _), HOP.out⟩)
        have OA5 := Lib.hid (show ∃ ys : List Pr, ys.Perm (qrun p.T p.N (k + 1)).out ∧ OwnPr wa (w.heap.size + 2) wa.heap.size 34 (.slice Aa qs.length ca) ys by rw [E.out]; exact ⟨qs, HPM.out, OA1.out⟩)
        by_cases hq0 : q = 0
        · have y13 : (y != 13) = true := by simpa using (fun h => hb ⟨hq0, h⟩)
          subst hq0
          clear hb
          go_wp2
          go_roundw
          case rel => exact ⟨k + 1, by omega, by go_num, Z5, OA5, M5, B1⟩
          case measure => first | omega | (simp [intOf]; done) | (simp [intOf]; omega)
        · have q0 : (q != 0) = true := by simpa using hq0
          clear hq0 hb
          go_wp2
          go_roundw
          case rel => exact ⟨k + 1, by omega, by go_num, Z5, OA5, M5, B1⟩
          case measure => first | omega | (simp [intOf]; done) | (simp [intOf]; omega)
    · have hkn : k = n := by omega
      have E := Lib.hid (show pairsN p.T p.N = (qrun p.T p.N k).out by unfold pairsN; rw [hkn, hn.out])
      have q6 : qs.length ≤ 600 := by have := ql.out; omega
      clear hkn ec2
      go_wp2_with fail
      refine (sortPairs_any HOA.out.1 rfl q6).mono ?_
      rintro e w2 ⟨⟨rfl, qs', hp', hs', o2⟩, b2⟩
      have EQ := Lib.hid (perm_rises (hp'.trans HPM.out) RI.out hs')
      have ql' : qs.length = qs'.length := hp'.length_eq.symm
      rw [EQ.out] at o2 ql'
      have OW := Lib.hid (show OwnPr w2 w.heap.size w2.heap.size 34 (.slice Aa qs.length ca) (pairsN p.T p.N) by rw [E.out]; exact (OwnPr.mk_ o2 ql').more (by omega) (Nat.le_refl _))
      have BE := Lib.hid (BW.out.trans (b2.mono (by omega)))
      clear o2 b2 hp' hs' ql'
      go_wp2
      go_ret
      exact ⟨⟨_, rfl, OW.out⟩, BE.out⟩
end Go.Proofs.YtkkojemnbcddfaaDoor
