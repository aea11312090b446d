/- Chapter 7: the model's pairs. -/
import Derived.Test.YtkkojemnbcddfaaDoorX2
import Derived.BigQuiet
import Derived.Deep.QuietTactic
namespace Go.Proofs.YtkkojemnbcddfaaDoor
open Go.RowKit

theorem info_prs : (Tryd.prog.info? 34).map (fun i => (i.zero, i.size, i.bytes)) = some (some (.agg #[.int .i64 0, .int .i64 0]), 2, 16) := by kernel_rfl
theorem drop_nthP (l : List Pr) (k : Nat) (h : k < l.length) : l.drop k = nthP l k :: l.drop (k + 1) := by
  rw [List.drop_eq_getElem_cons h]; simp [nthP, List.getElem?_eq_getElem h]
/-- what is still to be laid behind the first k -/
def restP (x : Pr) (l : List Pr) (D : Bool) (k : Nat) : List Pr := if D = true then l.drop k else putP x (l.drop k)
theorem restP_done (x : Pr) (l : List Pr) (k : Nat) (h : k < l.length) : restP x l true k = nthP l k :: restP x l true (k + 1) := by
  unfold restP; rw [if_pos rfl, if_pos rfl]; exact drop_nthP l k h
theorem restP_here (x : Pr) (l : List Pr) (k : Nat) (h : k < l.length) (hl : x.1 < (nthP l k).1) : restP x l false k = x :: nthP l k :: restP x l true (k + 1) := by
  unfold restP; rw [if_neg (by simp), if_pos rfl, drop_nthP l k h]
  show (if _ then _ else _) = _
  rw [if_pos hl]
theorem restP_on (x : Pr) (l : List Pr) (k : Nat) (h : k < l.length) (hl : ¬ x.1 < (nthP l k).1) : restP x l false k = nthP l k :: restP x l false (k + 1) := by
  unfold restP; rw [if_neg (by simp), if_neg (by simp), drop_nthP l k h]
  show (if _ then _ else _) = _
  rw [if_neg hl]
theorem app_one (m : List Pr) (y : Pr) (r : List Pr) : m ++ y :: r = (m ++ [y]) ++ r := by simp
set_option maxRecDepth 100000 in
set_option maxHeartbeats 4000000 in
theorem l7Put_any (A : Option Addr) (l : List Pr) (c : Nat) (a b : Int) (w : World) (B : Nat) (h : Rd w B A (prs l)) (hB : B ≤ w.heap.size) (hl : l.length ≤ 1000) :
    Calls Tryd.prog 68 #[.slice A l.length c, .agg #[.int .i64 a, .int .i64 b]] w fun e w' => (∃ u, e = .returned u ∧ OwnPr w' w.heap.size w'.heap.size 34 u (putP (a, b) l)) ∧ Below w.heap.size w w' := by
  obtain ⟨i0, hi, hz0, hz1, hz2⟩ := info_parts info_prs
  have b0 := (Below.refl w.heap.size w).alloc (Nat.le_refl _) (.cells #[.int .i64 a, .int .i64 b] 34)
  have b1 := b0.alloc (by simp) (.cells #[] 34)
  have LS := Lib.hid (show SeesPr ((w.alloc (.cells #[.int .i64 a, .int .i64 b] 34)).alloc (.cells #[] 34)) B (.slice A l.length c) l from ⟨A, c, rfl, h.below b1 hB⟩)
  have KX := Lib.hid ((Blk.new w 34 #[.int .i64 a, .int .i64 b]).alloc (.cells #[] 34))
  have sz : ((w.alloc (.cells #[.int .i64 a, .int .i64 b] 34)).alloc (.cells #[] 34)).heap.size = w.heap.size + 1 + 1 := by simp
  have O0 := Lib.hid (show ((w.alloc (.cells #[.int .i64 a, .int .i64 b] 34)).alloc (.cells #[] 34)).ownsRow (w.heap.size + 1) 34 2 (.slice (some ⟨w.heap.size + 1, 0, none⟩) 0 0) ([] : List Pr).length (prs []) from by
    have := World.ownsRow_lit (base := w.heap.size + 1) (e := 34) (size := 2) (w.alloc (.cells #[.int .i64 a, .int .i64 b] 34)) #[] 0 (by simp) (by unfold maxLen; omega) rfl
    rw [World.size_alloc] at this
    exact this)
  have B1 := Lib.hid b1
  have R0 := Lib.hid (show putP (a, b) l = ([] : List Pr) ++ restP (a, b) l false 0 from rfl)
  clear h b0 b1
  go_enter Tryd.func68, Tryd.ntmps68
  go_wp2
  generalize (w.alloc (.cells #[.int .i64 a, .int .i64 b] 34)).alloc (.cells #[] 34) = w0 at *
  go_loopw [5, 6, 7] (fun v d i wr => ∃ (k : Nat) (m : List Pr) (D : Bool), k ≤ l.length ∧ i = .int .i64 k ∧ d = .bool D ∧ m.length ≤ k + D.toNat ∧ Hid (putP (a, b) l = m ++ restP (a, b) l D k) ∧ Hid (wr.ownsRow (w.heap.size + 1) 34 2 v m.length (prs m)) ∧ Hid (Below (w.heap.size + 1) w0 wr)) (fun _ _ i _ => l.length - (intOf i).toNat)
  case atStart => exact ⟨0, [], false, by omega, rfl, rfl, by simp, R0, O0, Lib.hid (Below.refl _ _)⟩
  case round =>
    clear R0 O0
    obtain ⟨k, m, D, hk, rfl, rfl, hml, hm, ho, hbr⟩ := hrel
    have wsz : w.heap.size + 1 + 1 ≤ wr.heap.size := by have := hbr.out.size; omega
    have kx := KX.out.below hbr.out (by omega)
    obtain ⟨A1, c1, rfl⟩ := own_form ho.out
    have hm1 : m.length ≤ k + 1 := by have : D.toNat ≤ 1 := by cases D <;> simp
                                      omega
    by_cases hlt : k < l.length
    · obtain ⟨bl, ol, cl, e1, hbl, hc0, hc1⟩ := (LS.out.below hbr.out (by omega)).at_ k hlt
      cases e1
      have il : (k : Int) < (l.length : Int) := by omega
      obtain ⟨y0, hy0⟩ : ∃ y, Hid ((nthP l k).1 = y) := ⟨_, Lib.hid rfl⟩
      obtain ⟨y1, hy1⟩ : ∃ y, Hid ((nthP l k).2 = y) := ⟨_, Lib.hid rfl⟩
      have NY := Lib.hid (show nthP l k = (y0, y1) by rw [← hy0.out, ← hy1.out])
      rw [hy0.out] at hc0
      rw [hy1.out] at hc1
      have hx0 := kx.cell 0 (u := .int .i64 a) rfl
      have hx1 := kx.cell 1 (u := .int .i64 b) rfl
      cases D with
      | true =>
        have M2 := Lib.hid (show putP (a, b) l = (m ++ [(y0, y1)]) ++ restP (a, b) l true (k + 1) by rw [hm.out, restP_done _ _ k hlt, NY.out, app_one])
        go_wp2_with fail
        go_quiet (fail)
        have Oq : Hid ((wr.drewN nq).ownsRow (w.heap.size + 1) 34 2 (.slice A1 m.length c1) m.length (prs m)) := Lib.hid ho.out
        have Bq := Lib.hid (below_drewN hbr.out nq)
        have q0 : (wr.drewN nq).cell? ⟨bl, ol + k * 2, none⟩ = some (.int .i64 y0) := hc0
        have q1 : (wr.drewN nq).cell? ⟨bl, ol + k * 2 + 1, none⟩ = some (.int .i64 y1) := hc1
        have qsz : w.heap.size + 1 + 1 ≤ (wr.drewN nq).heap.size := wsz
        clear hc0 hc1 hx0 hx1 ho hbr kx wsz
        generalize wr.drewN nq = wq at *
        go_wp2_with (at_builtin; refine wpList_app rfl _ _ _ rfl (w.heap.size + 1) Tryd.underlying28 hi hz0 hz1 hz2 rfl (by omega) rfl (Oq.out.alloc _) rfl (Rd.lit wq #[.int .i64 y0, .int .i64 y1] _) (m := 1) rfl (prs_one [(y0, y1)]) (by omega) (by omega) (by simp; omega) ?_; intro v' w5 o5 g5 a5; obtain ⟨A5, c5, rfl⟩ := own_form o5)
        have gg : wq.grownBy w5 _ := (World.grownBy_alloc wq _ _).trans g5
        have P5 := Lib.hid (show w5.ownsRow (w.heap.size + 1) 34 2 (.slice A5 (m.length + 1) c5) (m ++ [(y0, y1)]).length (prs (m ++ [(y0, y1)])) by rw [prs_app, List.length_append]; exact o5)
        have B5 := Lib.hid (Bq.out.grown gg (by omega) (fun g hg => (Oq.out.lt g hg).1))
        clear o5 g5 a5 gg
        go_roundw
        case rel => exact ⟨k + 1, m ++ [(y0, y1)], true, by omega, by go_num, rfl, by simp at hml ⊢; omega, M2, P5, B5⟩
        case measure => first | omega | (simp [intOf]; done) | (simp [intOf]; omega)
      | false =>
        by_cases hlt2 : a < y0
        · have M2 := Lib.hid (show putP (a, b) l = ((m ++ [(a, b)]) ++ [(y0, y1)]) ++ restP (a, b) l true (k + 1) by rw [hm.out, restP_here _ _ k hlt (by rw [NY.out]; exact hlt2), NY.out, app_one, app_one])
          have d1 : decide (a < y0) = true := decide_eq_true hlt2
          clear hlt2
          go_wp2_with fail
          go_quiet (fail)
          have Oq : Hid ((wr.drewN nq).ownsRow (w.heap.size + 1) 34 2 (.slice A1 m.length c1) m.length (prs m)) := Lib.hid ho.out
          have Bq := Lib.hid (below_drewN hbr.out nq)
          have Kq := Lib.hid (show Blk (wr.drewN nq) w.heap.size 34 #[.int .i64 a, .int .i64 b] from kx)
          have Lq := Lib.hid ((LS.out.below hbr.out (by omega)).keep (w' := wr.drewN nq) fun _ _ => rfl)
          have q0 : (wr.drewN nq).cell? ⟨w.heap.size, 0, none⟩ = some (.int .i64 a) := hx0
          have q1 : (wr.drewN nq).cell? ⟨w.heap.size, 1, none⟩ = some (.int .i64 b) := hx1
          have qsz : w.heap.size + 1 + 1 ≤ (wr.drewN nq).heap.size := wsz
          clear hc0 hc1 hx0 hx1 ho hbr kx wsz
          generalize wr.drewN nq = wq at *
          have tok1 : True := trivial
          go_wp2_with (first
            | (have _t := tok1; at_builtin; refine wpList_app rfl _ _ _ rfl (w.heap.size + 1) Tryd.underlying28 hi hz0 hz1 hz2 rfl (by omega) rfl (Oq.out.alloc _) rfl (Rd.lit wq #[.int .i64 a, .int .i64 b] _) (m := 1) rfl (prs_one [(a, b)]) (by omega) (by omega) (by simp; omega) ?_; intro v' w5 o5 g5 a5; obtain ⟨A5, c5, rfl⟩ := own_form o5
               have gg : wq.grownBy w5 _ := (World.grownBy_alloc wq _ _).trans g5
               have P5 := Lib.hid (show w5.ownsRow (w.heap.size + 1) 34 2 (.slice A5 (m.length + 1) c5) (m.length + 1) (prs (m ++ [(a, b)])) by rw [prs_app]; exact o5)
               have B5 := Lib.hid (Bq.out.grown gg (by omega) (fun g hg => (Oq.out.lt g hg).1))
               have sz5 : w.heap.size + 1 + 1 ≤ w5.heap.size := by have := B5.out.size; omega
               obtain ⟨bl', ol', cl', e1', hbl', hd0, hd1⟩ := (LS.out.below B5.out (by omega)).at_ k hlt
               cases e1'
               rw [hy0.out] at hd0
               rw [hy1.out] at hd1
               clear o5 a5 gg q0 q1 tok1)
            | (at_builtin; refine wpList_app rfl _ _ _ rfl (w.heap.size + 1) Tryd.underlying28 hi hz0 hz1 hz2 rfl (by omega) rfl (P5.out.alloc _) rfl (Rd.lit w5 #[.int .i64 y0, .int .i64 y1] _) (m := 1) rfl (prs_one [(y0, y1)]) (by omega) (by omega) (by simp; omega) ?_; intro v6 w6 o6 g6 a6; obtain ⟨A6, c6, rfl⟩ := own_form o6))
          have gg6 : w5.grownBy w6 _ := (World.grownBy_alloc w5 _ _).trans g6
          have P6 := Lib.hid (show w6.ownsRow (w.heap.size + 1) 34 2 (.slice A6 (m.length + 1 + 1) c6) ((m ++ [(a, b)]) ++ [(y0, y1)]).length (prs ((m ++ [(a, b)]) ++ [(y0, y1)])) by rw [prs_app, List.length_append, List.length_append]; exact o6)
          have B6 := Lib.hid (B5.out.grown gg6 (by omega) (fun g hg => (P5.out.lt g hg).1))
          clear o6 g6 a6 gg6
          go_roundw
          case rel => exact ⟨k + 1, (m ++ [(a, b)]) ++ [(y0, y1)], true, by omega, by go_num, rfl, by simp at hml ⊢; omega, M2, P6, B6⟩
          case measure => first | omega | (simp [intOf]; done) | (simp [intOf]; omega)
        · have M2 := Lib.hid (show putP (a, b) l = (m ++ [(y0, y1)]) ++ restP (a, b) l false (k + 1) by rw [hm.out, restP_on _ _ k hlt (by rw [NY.out]; exact hlt2), NY.out, app_one])
          have d1 : decide (a < y0) = false := decide_eq_false hlt2
          clear hlt2
          go_wp2_with fail
          go_quiet (fail)
          have Oq : Hid ((wr.drewN nq).ownsRow (w.heap.size + 1) 34 2 (.slice A1 m.length c1) m.length (prs m)) := Lib.hid ho.out
          have Bq := Lib.hid (below_drewN hbr.out nq)
          have q0 : (wr.drewN nq).cell? ⟨bl, ol + k * 2, none⟩ = some (.int .i64 y0) := hc0
          have q1 : (wr.drewN nq).cell? ⟨bl, ol + k * 2 + 1, none⟩ = some (.int .i64 y1) := hc1
          have qsz : w.heap.size + 1 + 1 ≤ (wr.drewN nq).heap.size := wsz
          clear hc0 hc1 hx0 hx1 ho hbr kx wsz
          generalize wr.drewN nq = wq at *
          go_wp2_with (at_builtin; refine wpList_app rfl _ _ _ rfl (w.heap.size + 1) Tryd.underlying28 hi hz0 hz1 hz2 rfl (by omega) rfl (Oq.out.alloc _) rfl (Rd.lit wq #[.int .i64 y0, .int .i64 y1] _) (m := 1) rfl (prs_one [(y0, y1)]) (by omega) (by omega) (by simp; omega) ?_; intro v' w5 o5 g5 a5; obtain ⟨A5, c5, rfl⟩ := own_form o5)
          have gg : wq.grownBy w5 _ := (World.grownBy_alloc wq _ _).trans g5
          have P5 := Lib.hid (show w5.ownsRow (w.heap.size + 1) 34 2 (.slice A5 (m.length + 1) c5) (m ++ [(y0, y1)]).length (prs (m ++ [(y0, y1)])) by rw [prs_app, List.length_append]; exact o5)
          have B5 := Lib.hid (Bq.out.grown gg (by omega) (fun g hg => (Oq.out.lt g hg).1))
          clear o5 g5 a5 gg
          go_roundw
          case rel => exact ⟨k + 1, m ++ [(y0, y1)], false, by omega, by go_num, rfl, by simp at hml ⊢; omega, M2, P5, B5⟩
          case measure => first | omega | (simp [intOf]; done) | (simp [intOf]; omega)
    · obtain rfl : k = l.length := by omega
      have hx0 := kx.cell 0 (u := .int .i64 a) rfl
      have hx1 := kx.cell 1 (u := .int .i64 b) rfl
      have BB := Lib.hid (B1.out.trans (hbr.out.mono (Nat.le_succ _)))
      cases D with
      | true =>
        have E := Lib.hid (show putP (a, b) l = m by rw [hm.out]; unfold restP; rw [if_pos rfl, List.drop_length, List.append_nil])
        have OW := Lib.hid (show OwnPr wr w.heap.size wr.heap.size 34 (.slice A1 m.length c1) (putP (a, b) l) from by rw [E.out]; exact OwnPr.more (OwnPr.mk_ ho.out rfl) (Nat.le_succ _) (Nat.le_refl _))
        clear ho hm hbr kx
        go_wp2
        go_ret
        exact ⟨⟨_, rfl, OW.out⟩, BB.out⟩
      | false =>
        have E := Lib.hid (show putP (a, b) l = m ++ [(a, b)] by rw [hm.out]; unfold restP; rw [if_neg (by simp), List.drop_length]; rfl)
        go_wp2_with (at_builtin; refine wpList_app rfl _ _ _ rfl (w.heap.size + 1) Tryd.underlying28 hi hz0 hz1 hz2 rfl (by omega) rfl (ho.out.alloc _) rfl (Rd.lit wr #[.int .i64 a, .int .i64 b] _) (m := 1) rfl (prs_one [(a, b)]) (by omega) (by omega) (by simp; omega) ?_; intro v' w5 o5 g5 a5; obtain ⟨A5, c5, rfl⟩ := own_form o5)
        have gg : wr.grownBy w5 _ := (World.grownBy_alloc wr _ _).trans g5
        have OW := Lib.hid (show OwnPr w5 w.heap.size w5.heap.size 34 (.slice A5 (m.length + 1) c5) (putP (a, b) l) from by rw [E.out]; exact OwnPr.more (OwnPr.mk_ (n := m.length + 1) (by rw [prs_app]; exact o5) (by simp)) (Nat.le_succ _) (Nat.le_refl _))
        have B5 := Lib.hid (BB.out.grown gg (by omega) (fun g hg => by have := (ho.out.lt g hg).1; omega))
        clear o5 g5 a5 gg
        go_ret
        exact ⟨⟨_, rfl, OW.out⟩, B5.out⟩
end Go.Proofs.YtkkojemnbcddfaaDoor
