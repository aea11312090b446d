/- Chapter 5's draw of two lists of sequences. -/
import Derived.Test.YtmcmfklkljehiaaGreatY44
import Derived.Test.YtmcmfklkljehiaaGreatY33
namespace Go.Proofs.YtmcmfklkljehiaaGreat
open Go.RowKit

theorem wf_side {n : Int} (h : -1000000 ≤ n) (h2 : n ≤ 1000000) : (Lit.int .i64 n).wf = true := by
  have h1 : IntKind.i64.min = -9223372036854775808 := rfl
  have h2 : IntKind.i64.max = 9223372036854775807 := rfl
  simp only [Lit.wf, Bool.and_eq_true, decide_eq_true_eq, h1, h2]
  omega
theorem field_sq1 (x : Value) (A : Option Addr) (n c : Nat) (w : World) : (Instr.field 29 (.agg #[x, .slice A n c]) 1).run Tryz.prog w = .ok (.slice A n c) w := by
  simp [Instr.field, go_sem, asAgg]
attribute [local go_sem] field_sq1
/-- what a list of sequences is that is drawn -/
def DrawnQ (w : World) (v : Value) : Prop := ∃ qs, SeesQS w w.heap.size v qs ∧ qs.length ≤ 700 ∧ ∀ j, j < qs.length → (nthQ qs j).places.length ≤ 300000001
set_option maxRecDepth 100000 in
set_option maxHeartbeats 4000000 in
theorem drawSameSequences_any (A : Option Addr) (c : Nat) (zs : List Int) (w : World) (hr : Rd w w.heap.size A (nums .u8 zs)) (hb : ∀ b ∈ zs, isByte b) (hl : zs.length < 2000000) :
    Calls Tryz.prog 9 #[.slice A zs.length c] w fun e w' => (∃ v u, e = .returned (.tuple #[v, u]) ∧ DrawnQ w' v ∧ DrawnQ w' u) ∧ Below w.heap.size w w' := by
  obtain ⟨i0, hi, hz0, hz1, hz2⟩ := info_parts info_int64
  have HB := Lib.hid hb
  have HR := Lib.hid hr
  clear hr hb
  go_enter Tryz.func9, Tryz.ntmps9
  go_wp2_with fail
  refine (l1Later_two A c zs w HR.out).mono ?_
  rintro e w1 ⟨rfl, hs1, b1⟩
  have z1 := b1.size
  have S1 := Lib.hid hs1
  have R1 := Lib.hid ((HR.out.below b1 (Nat.le_refl _)).more z1)
  have gl1 := hs1.lt
  clear hs1
  go_wp2_with fail
  refine (l1Source_any A c zs w1 R1.out).mono ?_
  rintro e w2 ⟨rfl, hs2, b2⟩
  have z2 := b2.size
  have S2 := Lib.hid (S1.out.below b2)
  have HS2 := Lib.hid hs2
  have gl2 := hs2.lt
  clear hs2
  go_wp2_with fail
  refine (l4Para_any w1.heap.size zs w2 HS2.out HB.out hl).mono ?_
  rintro e w3 ⟨⟨v, b, rfl, ts, ot, lt, dt, b0, b3⟩, o3⟩
  have z3 := o3.size
  have S3 := Lib.hid (S2.out.out o3 gl1)
  have BB3 := Lib.hid (below_on b1 (out_new b2 o3) (Nat.le_refl _))
  have gl3 : w1.heap.size < w3.heap.size := by omega
  obtain ⟨A3, c3, rfl⟩ := ot.form
  have ST3 := Lib.hid ot.sees
  have CP := Lib.hid ot.capv
  have WF := Lib.hid dt.wf
  have WB := Lib.hid (wf_side (n := b) (by omega) (by omega))
  clear o3 ot dt b1 b2
  go_wp2_with fail
  refine (specSequencesOf_vals _ ts b w3 _ ST3.out (Nat.le_refl _) (by omega) WF.out CP.out WB.out).mono ?_
  rintro e w4 ⟨⟨v4, rfl, o4⟩, b4⟩
  have z4 := b4.size
  have S4 := Lib.hid (S3.out.below b4)
  have ST4 := Lib.hid (ST3.out.below b4 (Nat.le_refl _))
  have BB4 := Lib.hid (below_on BB3.out b4 (by omega))
  obtain ⟨A4, c4, rfl⟩ := o4.form
  have Q4 := Lib.hid o4
  clear b4 o4
  go_wp2_with fail
  refine (specSequencesOf_vals _ ts b w4 _ ST4.out z4 (by omega) WF.out CP.out WB.out).mono ?_
  rintro e w5 ⟨⟨v5, rfl, o5⟩, b5⟩
  have z5 := b5.size
  have S5 := Lib.hid (S4.out.below b5)
  have Q45 := Lib.hid (Q4.out.below b5 (Nat.le_refl _))
  have BB5 := Lib.hid (below_on BB4.out b5 (by omega))
  obtain ⟨A5, c5, rfl⟩ := o5.form
  have Q5 := Lib.hid o5
  have SL := seqsV_len ts b
  have SP := Lib.hid (seqsV_places ts b)
  obtain ⟨qs, hqs⟩ : ∃ qs, Hid (seqsV ts b = qs) := ⟨_, Lib.hid rfl⟩
  rw [hqs.out] at Q45 Q5 SL SP ⊢
  have fin : ∀ (w' : World) (v : Value) (ps : List Sq) (B : Nat), SeesQS w' B v ps → B ≤ w'.heap.size → ps.length = qs.length → (∀ j, j < qs.length → (nthQ ps j).places.length ≤ (nthQ qs j).places.length + 1) → DrawnQ w' v := fun w' v ps B h1 h2 h3 h4 => ⟨ps, h1.more h2, by omega, fun j hj => by have := h4 j (by omega); have := SP.out j (by omega); omega⟩
  have FIN := Lib.hid fin
  clear b5 o5 fin S1 S2 S3 S4 ST3 ST4 HS2 BB3 BB4 Q4 WF WB CP
  by_cases hq : qs = []
  · subst hq
    have D1 := Lib.hid (FIN.out _ _ _ _ Q45.out.sees (by omega) rfl (fun _ _ => by omega))
    have D2 := Lib.hid (FIN.out _ _ _ _ Q5.out.sees (Nat.le_refl _) rfl (fun _ _ => by omega))
    go_wp2
    go_ret2
    exact ⟨⟨_, _, rfl, D1.out, D2.out⟩, BB5.out⟩
  · have hq : qs.length ≠ 0 := fun h => hq (List.eq_nil_of_length_eq_zero h)
    go_wp2_with fail
    refine (l1Chance_any w.heap.size zs 19 2 w5 S5.out HB.out hl (by omega) (by omega)).mono ?_
    rintro e w6 ⟨rfl, hs6, o6⟩
    have z6 := o6.size
    have S6 := Lib.hid hs6
    have Q46 := Lib.hid (Q45.out.out o6 (.inr (by omega)))
    have Q6 := Lib.hid (Q5.out.out o6 (.inr (by omega)))
    have BB6 := Lib.hid (out_new BB5.out o6)
    clear o6 hs6
    cases hC : (nxt zs 19 2 == 0)
    · go_wp2
      go_ret2
      exact ⟨⟨_, _, rfl, FIN.out _ _ _ _ Q46.out.sees (by omega) rfl (fun _ _ => by omega), FIN.out _ _ _ _ Q6.out.sees (by omega) rfl (fun _ _ => by omega)⟩, BB6.out⟩
    · have nr := nxt_range zs (19 + 1) qs.length (by omega)
      obtain ⟨j, hj⟩ : ∃ j : Nat, Hid (nxt zs (19 + 1) qs.length = j) := ⟨(nxt zs (19 + 1) qs.length).toNat, Lib.hid (by omega)⟩
      rw [hj.out] at nr
      have jl : j < qs.length := by omega
      obtain ⟨us6, q6⟩ := Q6.out
      obtain ⟨g, cc, u6, e1, hg1, hg2, r6⟩ := q6.at_ j jl
      injection e1 with e1 e1b e1c
      clear e1b e1c
      subst e1
      clear r6 u6 q6 us6 Q5 Q45
      go_wp2_with fail
      refine (next_src w.heap.size zs (19 + 1) qs.length w6 S6.out HB.out hl (by omega) (by omega)).mono ?_
      rintro e w7 ⟨rfl, hs7, o7⟩
      rw [hj.out]
      have z7 := o7.size
      have S7 := Lib.hid hs7
      have Q47 := Lib.hid (Q46.out.out o7 (.inr (by omega)))
      have Q7 := Lib.hid (Q6.out.out o7 (.inr (by omega)))
      have BB7 := Lib.hid (out_new BB6.out o7)
      clear o7 hs7 Q6 Q46 BB6 S6
      go_wp2_with fail
      refine (next_src w.heap.size zs (19 + 1 + 1) 4 w7 S7.out HB.out hl (by omega) (by omega)).mono ?_
      rintro e w8 ⟨rfl, hs8, o8⟩
      have z8 := o8.size
      have Q48 := Lib.hid (Q47.out.out o8 (.inr (by omega)))
      have Q8 := Lib.hid (Q7.out.out o8 (.inr (by omega)))
      have BB8 := Lib.hid (out_new BB7.out o8)
      have d4 := nxt_range zs (19 + 1 + 1) 4 (by omega)
      obtain ⟨D, hD⟩ : ∃ D : Int, Hid (nxt zs (19 + 1 + 1) 4 = D) := ⟨_, Lib.hid rfl⟩
      rw [hD.out] at d4 ⊢
      clear o8 hs8 Q7 Q47 BB7 S7
      obtain ⟨us, q8⟩ := Q8.out
      obtain ⟨g', cc', u, e1, _, _, hu, x0, hou, hug, x1, x2, x3, fz⟩ := q8.at_ j jl
      injection e1 with e1 e1b e1c
      injection e1 with e1
      injection e1 with e1
      subst e1
      clear e1b e1c
      have y0 := fz (j * 4)
      have y1 := fz (j * 4 + 1)
      have y2 := fz (j * 4 + 2)
      have y3 := fz (j * 4 + 3)
      have QQ := Lib.hid q8
      have HU := Lib.hid hu
      have HOU := Lib.hid hou
      have HUG := Lib.hid hug
      have X0 := Lib.hid x0
      obtain ⟨l0, s0, t0, he⟩ : ∃ l0 s0 t0, (nthQ qs j).level = l0 ∧ (nthQ qs j).sos = s0 ∧ (nthQ qs j).eos = t0 := ⟨_, _, _, rfl, rfl, rfl⟩
      rw [he.1] at x1
      rw [he.2.1] at x2
      rw [he.2.2] at x3
      clear fz q8 hu hou hug
      have fin8 : ∀ (f : Nat) (x : Int), 1 ≤ f ∧ f ≤ 3 → DrawnQ (w8.setCell ⟨g, j * 4 + f, none⟩ (.int .i64 x)) (.slice A4 qs.length c4) ∧ DrawnQ (w8.setCell ⟨g, j * 4 + f, none⟩ (.int .i64 x)) (.slice (some ⟨g, 0, none⟩) qs.length c5) ∧ Below w.heap.size w (w8.setCell ⟨g, j * 4 + f, none⟩ (.int .i64 x)) := by
        intro f x hf
        obtain ⟨ps, p1, p2, p3⟩ := QQ.out.put1 rfl jl f hf x
        have ou := outSet w8 hg1 hg2 (j * 4 + f) (.int .i64 x)
        have sz := ou.size
        exact ⟨FIN.out _ _ _ _ (Q48.out.sees.out ou (Nat.le_refl _) (by omega)) (by omega) rfl (fun _ _ => by omega), FIN.out _ _ _ _ p1.sees (by omega) p2 p3, BB8.out.trans (ou.to_below (by omega) (by omega))⟩
      have FIN8 := Lib.hid fin8
      clear fin8
      obtain rfl | rfl | rfl | rfl : D = 0 ∨ D = 1 ∨ D = 2 ∨ D = 3 := by omega
      · go_wp2
        go_ret2
        exact ⟨⟨_, _, rfl, (FIN8.out 1 _ (by omega)).1, (FIN8.out 1 _ (by omega)).2.1⟩, (FIN8.out 1 _ (by omega)).2.2⟩
      · go_wp2
        go_ret2
        exact ⟨⟨_, _, rfl, (FIN8.out 2 _ (by omega)).1, (FIN8.out 2 _ (by omega)).2.1⟩, (FIN8.out 2 _ (by omega)).2.2⟩
      · go_wp2
        go_ret2
        exact ⟨⟨_, _, rfl, (FIN8.out 3 _ (by omega)).1, (FIN8.out 3 _ (by omega)).2.1⟩, (FIN8.out 3 _ (by omega)).2.2⟩
      · obtain ⟨Au, cu, rfl⟩ := HOU.out.form
        obtain ⟨m, hm⟩ : ∃ m, Hid ((nthQ qs j).places.length = m) := ⟨_, Lib.hid rfl⟩
        have ml : m ≤ 300000000 := by have := SP.out j jl; have := hm.out; omega
        have RU := Lib.hid HOU.out.1
        have LEN := Lib.hid QQ.out.len
        have jl4 : j * 4 < qs.length * 4 := by omega
        rw [hm.out] at x0 RU HU HUG HOU
        clear X0
        go_wp2_with (first
          | (at_builtin; go_loud (refine wpList_app rfl _ _ _ rfl w4.heap.size Tryz.underlying24 hi hz0 hz1 hz2 rfl (by omega) rfl (RU.out.alloc _) rfl (Rd.lit w8 #[.int .i64 0] _) (m := 1) rfl (nums_one .i64 [0]) (by omega) (by omega) (by simp; omega) ?_); intro v9 w9 o9 g9 a9; obtain ⟨A9, c9, rfl⟩ := own_form o9; have R9 := Lib.hid ((QQ.out.rows.row.alloc (.cells #[.int .i64 0] 2)).kept g9 (own_ne_symm HUG.out)); have x9 := (R9.out.cellAt (j * 4) (by omega)).trans HU.out; have y9 := R9.out.frozenAt (j * 4)))
        have st := R9.out.stored (j * 4) (.slice A9 (m + 1) c9)
        have bx : Below w4.heap.size w8 (w9.setCell ⟨g, j * 4, none⟩ (.slice A9 (m + 1) c9)) := ((Below.refl w4.heap.size w8).alloc (by omega) (.cells #[.int .i64 0] 2)).grown g9 (by simp; omega) (fun b hb => (HOU.out.lt b hb).1) |>.grown st.2 (by have := g9.size; simp at this; omega) (fun b hb => by injection hb with hb; omega)
        obtain ⟨ps, p1, p2, p3⟩ := (QQ.out.alloc (.cells #[.int .i64 0] 2)).more1 rfl jl HU.out (by simp; omega) 0 (by rw [hm.out]; exact o9) g9 a9
        have D1 := Lib.hid (FIN.out _ _ _ _ (Q48.out.sees.below bx (Nat.le_refl _)) (by have := bx.size; omega) rfl (fun _ _ => by omega))
        have D2 := Lib.hid (FIN.out _ _ _ _ p1.sees (Nat.le_refl _) p2 p3)
        have B9 := Lib.hid (BB8.out.trans (bx.mono (by omega)))
        clear st bx p1 p2 p3 o9 g9 a9
        go_ret2
        exact ⟨⟨_, _, rfl, D1.out, D2.out⟩, B9.out⟩
end Go.Proofs.YtmcmfklkljehiaaGreat
